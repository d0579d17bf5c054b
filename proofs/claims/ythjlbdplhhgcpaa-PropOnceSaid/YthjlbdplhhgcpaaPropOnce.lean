/- PropOnce: of a property of each kind, at each place where one may stand: one may be, two may not (but pairs, and identifiers with a Publish); one beyond its kind may not. -/
import Derived.Test.YthjlbdplhhgcpaaPropWakes
import Derived.Test.YthjlbdplhhgcpaaPropAsks
import Derived.Test.YthjlbdplhhgcpaaPropFits
namespace Go.Proofs.Ythjlbdplhhgcpaa
open Go.RowKit Go.Lib Prp

def nOf (k : Int) : Int := if k ≤ 4 then 1 else 0
def farOf (k : Int) : Int := if k = 1 then 2 else if k = 2 then 65536 else if k = 3 then 4294967296 else if k = 4 then 268435456 else 1
theorem text_empty : textB ⟨#[]⟩ = true := by
  unfold textB
  refine decide_eq_true ?_
  show Txt.textErr [] = 0
  unfold Txt.textErr
  rfl
theorem once_val {k id : Int} (hk0 : 0 ≤ k) (hk7 : k ≤ 7) (hk : k ≠ 0) : valB k ⟨id, nOf k, ⟨#[]⟩, ⟨#[]⟩⟩ = true ∧ valB k ⟨id, farOf k, ⟨#[]⟩, ⟨#[]⟩⟩ = false := by
  have ht := text_empty
  have hb : binB ⟨#[]⟩ = true := rfl
  rcases kind_seven hk0 hk7 hk with rfl | rfl | rfl | rfl | rfl | rfl | rfl
  · exact ⟨by show decide (((1 : Int) = 0 ∨ (1 : Int) = 1) ∧ (⟨#[]⟩ : ByteArray) = ⟨#[]⟩ ∧ (⟨#[]⟩ : ByteArray) = ⟨#[]⟩) = true; simp , by show decide (((2 : Int) = 0 ∨ (2 : Int) = 1) ∧ (⟨#[]⟩ : ByteArray) = ⟨#[]⟩ ∧ (⟨#[]⟩ : ByteArray) = ⟨#[]⟩) = false; simp⟩
  · exact ⟨by show decide (((0 : Int) ≤ 1 ∧ (1 : Int) < 65536) ∧ (⟨#[]⟩ : ByteArray) = ⟨#[]⟩ ∧ (⟨#[]⟩ : ByteArray) = ⟨#[]⟩) = true; simp , by show decide (((0 : Int) ≤ 65536 ∧ (65536 : Int) < 65536) ∧ (⟨#[]⟩ : ByteArray) = ⟨#[]⟩ ∧ (⟨#[]⟩ : ByteArray) = ⟨#[]⟩) = false; simp⟩
  · exact ⟨by show decide (((0 : Int) ≤ 1 ∧ (1 : Int) < 4294967296) ∧ (⟨#[]⟩ : ByteArray) = ⟨#[]⟩ ∧ (⟨#[]⟩ : ByteArray) = ⟨#[]⟩) = true; simp , by show decide (((0 : Int) ≤ 4294967296 ∧ (4294967296 : Int) < 4294967296) ∧ (⟨#[]⟩ : ByteArray) = ⟨#[]⟩ ∧ (⟨#[]⟩ : ByteArray) = ⟨#[]⟩) = false; simp⟩
  · exact ⟨by show decide (((0 : Int) ≤ 1 ∧ (1 : Int) < 268435456) ∧ (⟨#[]⟩ : ByteArray) = ⟨#[]⟩ ∧ (⟨#[]⟩ : ByteArray) = ⟨#[]⟩) = true; simp , by show decide (((0 : Int) ≤ 268435456 ∧ (268435456 : Int) < 268435456) ∧ (⟨#[]⟩ : ByteArray) = ⟨#[]⟩ ∧ (⟨#[]⟩ : ByteArray) = ⟨#[]⟩) = false; simp⟩
  · exact ⟨by show decide ((0 : Int) = 0 ∧ textB ⟨#[]⟩ = true ∧ (⟨#[]⟩ : ByteArray) = ⟨#[]⟩) = true; simp [ht], by show decide ((1 : Int) = 0 ∧ textB ⟨#[]⟩ = true ∧ (⟨#[]⟩ : ByteArray) = ⟨#[]⟩) = false; simp⟩
  · exact ⟨by show decide ((0 : Int) = 0 ∧ binB ⟨#[]⟩ = true ∧ (⟨#[]⟩ : ByteArray) = ⟨#[]⟩) = true; simp [hb], by show decide ((1 : Int) = 0 ∧ binB ⟨#[]⟩ = true ∧ (⟨#[]⟩ : ByteArray) = ⟨#[]⟩) = false; simp⟩
  · exact ⟨by show decide ((0 : Int) = 0 ∧ textB ⟨#[]⟩ = true ∧ textB ⟨#[]⟩ = true) = true; simp [ht], by show decide ((1 : Int) = 0 ∧ textB ⟨#[]⟩ = true ∧ textB ⟨#[]⟩ = true) = false; simp⟩
theorem once_fits {id k : Int} (hk : kindZ id = k) (hk0 : k ≠ 0) : fitsB ⟨id, nOf k, ⟨#[]⟩, ⟨#[]⟩⟩ = true ∧ fitsB ⟨id, farOf k, ⟨#[]⟩, ⟨#[]⟩⟩ = false := by
  have hr := kind_range id
  rw [hk] at hr
  have hv := once_val (id := id) hr.1 hr.2 hk0
  constructor
  · rw [fits_val (p := ⟨id, nOf k, ⟨#[]⟩, ⟨#[]⟩⟩) hk hk0 ?_]
    · exact hv.1
    · rintro ⟨h1, h2⟩
      have h1 : noZ id := h1
      have h2 : nOf k = 0 := h2
      unfold noZ at h1
      rcases h1 with rfl | rfl | rfl | rfl <;> (have hk : _ = k := hk; subst hk; revert h2; decide)
  · by_cases hz : noZ id ∧ farOf k = 0
    · exact fits_zero (p := ⟨id, farOf k, ⟨#[]⟩, ⟨#[]⟩⟩) hz.1 hz.2
    · rw [fits_val (p := ⟨id, farOf k, ⟨#[]⟩, ⟨#[]⟩⟩) hk hk0 hz]
      exact hv.2
theorem once_one {place id k : Int} (hk : kindZ id = k) (hk0 : k ≠ 0) (hp : placeB place = true) : propsB place [⟨id, nOf k, ⟨#[]⟩, ⟨#[]⟩⟩] = standB place id := by
  unfold propsB goodL goodL goodB
  rw [hp, (once_fits hk hk0).1]
  have : twiceB place id [] = false := by unfold twiceB; simp
  show (true && (_ && ((standB place id && (true && !twiceB place id [])) && true))) = _
  rw [this]
  simp
theorem once_two {place id k : Int} (hk : kindZ id = k) (hk0 : k ≠ 0) (hp : placeB place = true) : propsB place [⟨id, nOf k, ⟨#[]⟩, ⟨#[]⟩⟩, ⟨id, nOf k, ⟨#[]⟩, ⟨#[]⟩⟩] = (standB place id && repB place id) := by
  unfold propsB goodL goodL goodL goodB
  rw [hp, (once_fits hk hk0).1]
  have h0 : twiceB place id [] = false := by unfold twiceB; simp
  have h1 : twiceB place id ([] ++ [⟨id, nOf k, ⟨#[]⟩, ⟨#[]⟩⟩]) = !repB place id := by unfold twiceB; simp
  show (true && (_ && ((standB place id && (true && !twiceB place id [])) && ((standB place id && (true && !twiceB place id ([] ++ [⟨id, nOf k, ⟨#[]⟩, ⟨#[]⟩⟩]))) && true)))) = _
  rw [h0, h1]
  cases standB place id <;> cases repB place id <;> rfl
theorem once_far {place id k : Int} (hk : kindZ id = k) (hk0 : k ≠ 0) : propsB place [⟨id, farOf k, ⟨#[]⟩, ⟨#[]⟩⟩] = false := by
  unfold propsB goodL goodL goodB
  rw [(once_fits hk hk0).2]
  simp
theorem once_some {id : Int} (h : kindZ id ≠ 0) : ∃ j : Int, 0 ≤ j ∧ j ≤ 15 ∧ standB j id = true := by
  rcases kind_cases id with c | c | c | c | c | c | c | c
  · rcases c with rfl | rfl | rfl | rfl | rfl | rfl | rfl | rfl
    · exact ⟨0, by decide, by decide, by decide⟩
    · exact ⟨1, by decide, by decide, by decide⟩
    · exact ⟨1, by decide, by decide, by decide⟩
    all_goals exact ⟨2, by decide, by decide, by decide⟩
  · rcases c with rfl | rfl | rfl | rfl
    · exact ⟨2, by decide, by decide, by decide⟩
    · exact ⟨1, by decide, by decide, by decide⟩
    · exact ⟨1, by decide, by decide, by decide⟩
    · exact ⟨3, by decide, by decide, by decide⟩
  · rcases c with rfl | rfl | rfl | rfl
    · exact ⟨0, by decide, by decide, by decide⟩
    · exact ⟨1, by decide, by decide, by decide⟩
    · exact ⟨0, by decide, by decide, by decide⟩
    · exact ⟨1, by decide, by decide, by decide⟩
  · subst c; exact ⟨3, by decide, by decide, by decide⟩
  · rcases c with rfl | rfl | rfl | rfl | rfl | rfl | rfl
    · exact ⟨0, by decide, by decide, by decide⟩
    · exact ⟨0, by decide, by decide, by decide⟩
    · exact ⟨2, by decide, by decide, by decide⟩
    · exact ⟨1, by decide, by decide, by decide⟩
    all_goals exact ⟨2, by decide, by decide, by decide⟩
  · rcases c with rfl | rfl
    · exact ⟨0, by decide, by decide, by decide⟩
    · exact ⟨1, by decide, by decide, by decide⟩
  · subst c; exact ⟨0, by decide, by decide, by decide⟩
  · exact absurd (kind_none c) h
theorem lit_one (W : World) (p : P) (T : TypeId) : PropsAt (W.alloc (.cells #[.int .i64 p.id, .int .i64 p.n, .string p.s, .string p.v] T)) (W.alloc (.cells #[.int .i64 p.id, .int .i64 p.n, .string p.s, .string p.v] T)).heap.size (some ⟨W.heap.size, 0, none⟩) [p] := by
  refine .inr ⟨W.heap.size, 0, rfl, by simp, fun j hj => ?_⟩
  obtain rfl : j = 0 := by simpa using hj
  have hb := Box.new W T #[.int .i64 p.id, .int .i64 p.n, .string p.s, .string p.v]
  exact ⟨hb.cell 0, hb.cell 1, hb.cell 2, hb.cell 3⟩
theorem lit_two (W : World) (p q : P) (T : TypeId) : PropsAt (W.alloc (.cells #[.int .i64 p.id, .int .i64 p.n, .string p.s, .string p.v, .int .i64 q.id, .int .i64 q.n, .string q.s, .string q.v] T)) (W.alloc (.cells #[.int .i64 p.id, .int .i64 p.n, .string p.s, .string p.v, .int .i64 q.id, .int .i64 q.n, .string q.s, .string q.v] T)).heap.size (some ⟨W.heap.size, 0, none⟩) [p, q] := by
  refine .inr ⟨W.heap.size, 0, rfl, by simp, fun j hj => ?_⟩
  have hb := Box.new W T #[.int .i64 p.id, .int .i64 p.n, .string p.s, .string p.v, .int .i64 q.id, .int .i64 q.n, .string q.s, .string q.v]
  rcases (by simp at hj; omega : j = 0 ∨ j = 1) with rfl | rfl
  · exact ⟨hb.cell 0, hb.cell 1, hb.cell 2, hb.cell 3⟩
  · exact ⟨hb.cell 4, hb.cell 5, hb.cell 6, hb.cell 7⟩
/-- Two boxes, and what was there ahead of the call. -/
@[irreducible] def Both (w : World) (g1 : Nat) (c1 : Array Value) (g2 : Nat) (c2 : Array Value) (W : World) : Prop := Box W g1 c1 ∧ Box W g2 c2 ∧ Below w.heap.size w W
section
variable {w W W' : World} {g1 g2 : Nat} {c1 c2 : Array Value}
theorem Both.mk (h1 : Box W g1 c1) (h2 : Box W g2 c2) (h3 : Below w.heap.size w W) : Both w g1 c1 g2 c2 W := by unfold Both; exact ⟨h1, h2, h3⟩
theorem Both.out (h : Both w g1 c1 g2 c2 W) : Box W g1 c1 ∧ Box W g2 c2 ∧ Below w.heap.size w W := by unfold Both at h; exact h
theorem Both.below (h : Both w g1 c1 g2 c2 W) (hb : Below W.heap.size W W') : Both w g1 c1 g2 c2 W' := .mk (h.out.1.below hb) (h.out.2.1.below hb) (h.out.2.2.trans (hb.mono h.out.2.2.size))
theorem Both.alloc (h : Both w g1 c1 g2 c2 W) (o : Obj) : Both w g1 c1 g2 c2 (W.alloc o) := h.below ((Below.refl _ _).alloc (Nat.le_refl _) o)
end

theorem fit_once {p : P} (h1 : 1 ≤ p.id) (h2 : p.id ≤ 42) (h3 : 0 ≤ p.n) (h4 : p.n ≤ 4294967296) (h5 : p.s = ⟨#[]⟩) (h6 : p.v = ⟨#[]⟩) : Fit p :=
  ⟨by omega, by omega, by omega, by omega, by rw [h5]; decide, by rw [h6]; decide⟩
theorem Check_one (place id n E : Int) (w : World) (h1 : 1 ≤ id) (h2 : id ≤ 42) (h3 : 0 ≤ n) (h4 : n ≤ 4294967296) (hE : bytesErr place [⟨id, n, ⟨#[]⟩, ⟨#[]⟩⟩] = E) :
    Calls Try.prog 20 #[.int .i64 place, .slice (some ⟨w.heap.size, 0, none⟩) 1 1] (w.alloc (.cells #[.int .i64 id, .int .i64 n, .string ⟨#[]⟩, .string ⟨#[]⟩] 48)) fun e w' => e = .returned (.int .i64 E) ∧ Below w.heap.size w w' :=
  (Check_is place [⟨id, n, ⟨#[]⟩, ⟨#[]⟩⟩] _ 1 E _ (by simp) (by simp) (fun p hp => by obtain rfl := List.mem_singleton.1 hp; exact fit_once h1 h2 h3 h4 rfl rfl) (lit_one w ⟨id, n, ⟨#[]⟩, ⟨#[]⟩⟩ _) hE).mono fun _ _ ⟨a, b⟩ => ⟨a, ((Below.refl _ _).alloc (Nat.le_refl _) _).trans (b.mono (by simp))⟩
theorem Check_two (place id n E : Int) (w : World) (h1 : 1 ≤ id) (h2 : id ≤ 42) (h3 : 0 ≤ n) (h4 : n ≤ 4294967296) (hE : bytesErr place [⟨id, n, ⟨#[]⟩, ⟨#[]⟩⟩, ⟨id, n, ⟨#[]⟩, ⟨#[]⟩⟩] = E) :
    Calls Try.prog 20 #[.int .i64 place, .slice (some ⟨w.heap.size, 0, none⟩) 2 2] (w.alloc (.cells #[.int .i64 id, .int .i64 n, .string ⟨#[]⟩, .string ⟨#[]⟩, .int .i64 id, .int .i64 n, .string ⟨#[]⟩, .string ⟨#[]⟩] 48)) fun e w' => e = .returned (.int .i64 E) ∧ Below w.heap.size w w' :=
  (Check_is place [⟨id, n, ⟨#[]⟩, ⟨#[]⟩⟩, ⟨id, n, ⟨#[]⟩, ⟨#[]⟩⟩] _ 2 E _ (by simp) (by simp) (fun p hp => by
    obtain rfl : p = ⟨id, n, ⟨#[]⟩, ⟨#[]⟩⟩ := by simpa using hp
    exact fit_once h1 h2 h3 h4 rfl rfl) (lit_two w ⟨id, n, ⟨#[]⟩, ⟨#[]⟩⟩ ⟨id, n, ⟨#[]⟩, ⟨#[]⟩⟩ _) hE).mono fun _ _ ⟨a, b⟩ => ⟨a, ((Below.refl _ _).alloc (Nat.le_refl _) _).trans (b.mono (by simp))⟩
theorem err_of (place : Int) (l : List P) : bytesErr place l = if propsB place l = true then 0 else 1 := rfl
theorem place_in {z : Int} (h0 : 0 ≤ z) (h1 : z ≤ 15) : placeB z = true := by unfold placeB; exact decide_eq_true ⟨h0, h1⟩
theorem rep_cases (z id : Int) : (id = 38 ∧ repB z id = true) ∨ (id = 11 ∧ z = 3 ∧ repB z id = true) ∨ (id ≠ 38 ∧ id ≠ 11 ∧ repB z id = false) ∨ (id = 11 ∧ z ≠ 3 ∧ repB z id = false) := by
  unfold repB
  by_cases h1 : id = 38
  · exact .inl ⟨h1, decide_eq_true (.inl h1)⟩
  · by_cases h2 : id = 11
    · by_cases h3 : z = 3
      · exact .inr (.inl ⟨h2, h3, decide_eq_true (.inr ⟨h2, h3⟩)⟩)
      · exact .inr (.inr (.inr ⟨h2, h3, decide_eq_false (by omega)⟩))
    · exact .inr (.inr (.inl ⟨h1, h2, decide_eq_false (by omega)⟩))

set_option maxRecDepth 100000 in
set_option maxHeartbeats 64000000 in
theorem PropOnce_any (A : Option Addr) (n c : Nat) (w : World) :
    Calls Try.prog 7 #[.slice A n c] w fun e w' => e = .returned (.bool true) ∧ Below w.heap.size w w' := by
  go_enter Try.func7, Try.ntmps7
  go_wp2_with fail
  go_loopw [3] (fun i wr => ∃ id : Int, 1 ≤ id ∧ id ≤ 43 ∧ i = .int .i64 id ∧ Below w.heap.size w wr) (fun i _ => (43 - RowKit.intOf i).toNat)
  case atStart => exact ⟨1, by omega, by omega, rfl, Below.refl _ _⟩
  case round =>
    obtain ⟨id, hi0, hi1, rfl, hnx⟩ := hrel
    obtain ⟨wo, rfl⟩ : ∃ wo : World, wo = wr := ⟨_, rfl⟩
    have HX := Lib.hid hnx
    clear hnx
    by_cases hgo : id ≤ 42
    · obtain ⟨K, hK⟩ : ∃ K, kindZ id = K := ⟨_, rfl⟩
      by_cases hK0 : K = 0
      · subst hK0
        have HK := Lib.hid (fun W => Kind_is id 0 3 W hK (by unfold kindErr; rw [if_pos hK]))
        clear hK
        go_wp2_with (first | (go_at_call 11; refine (HK.out _).mono ?_; rintro e w' ⟨rfl, rfl⟩) | (go_at_call 13; refine (num_same _ _).mono ?_; rintro e w' ⟨rfl, rfl⟩))
        go_roundw
        case rel => exact ⟨id + 1, by omega, by omega, rfl, HX.out⟩
        case measure => simp [RowKit.intOf]; omega
      · have hr := kind_range id
        rw [hK] at hr
        have HK := Lib.hid (fun W => Kind_is id K 0 W hK (by unfold kindErr; rw [if_neg (by rw [hK]; exact hK0)]))
        have HS := Lib.hid (once_some (id := id) (by rw [hK]; exact hK0))
        have HA1 := Lib.hid (fun place hp => once_one (place := place) hK hK0 hp)
        have HA2 := Lib.hid (fun place hp => once_two (place := place) hK hK0 hp)
        have HA3 := Lib.hid (fun place => once_far (place := place) hK hK0)
        have HKI := Lib.hid hK
        clear hK
        rcases kind_seven hr.1 hr.2 hK0 with rfl | rfl | rfl | rfl | rfl | rfl | rfl
        · go_wp2_with (first | (go_at_call 11; refine (HK.out _).mono ?_; rintro e w' ⟨rfl, rfl⟩) | (go_at_call 13; refine (num_same _ _).mono ?_; rintro e w' ⟨rfl, rfl⟩))
          have HB0 : Hid (Both w wo.heap.size #[.int .i64 id, .int .i64 1, .string ⟨#[]⟩, .string ⟨#[]⟩] (wo.heap.size + 1) #[.int .i64 id, .int .i64 2, .string ⟨#[]⟩, .string ⟨#[]⟩] (((wo.alloc (.cells #[.int .i64 id, .int .i64 1, .string ⟨#[]⟩, .string ⟨#[]⟩] 48)).alloc (.cells #[.int .i64 id, .int .i64 2, .string ⟨#[]⟩, .string ⟨#[]⟩] 48)).alloc (.cells #[.int .i64 0, .int .i64 2, .int .i64 65536, .int .i64 4294967296, .int .i64 268435456, .int .i64 1, .int .i64 1, .int .i64 1] 3))) :=
            (Both.mk (w := w) ((Box.new wo _ _).alloc _) (by have := Box.new (wo.alloc (.cells #[.int .i64 id, .int .i64 1, .string ⟨#[]⟩, .string ⟨#[]⟩] 48)) 48 #[.int .i64 id, .int .i64 2, .string ⟨#[]⟩, .string ⟨#[]⟩]; rwa [show (wo.alloc (.cells #[.int .i64 id, .int .i64 1, .string ⟨#[]⟩, .string ⟨#[]⟩] 48)).heap.size = wo.heap.size + 1 by simp] at this) ((HX.out.alloc HX.out.size _).alloc (Nat.le_trans HX.out.size (by simp)) _)).alloc _
          obtain ⟨g1, hg1⟩ : ∃ g, wo.heap.size = g := ⟨_, rfl⟩
          obtain ⟨g2, hg2⟩ : ∃ g, wo.heap.size + 1 = g := ⟨_, rfl⟩
          rw [hg2, hg1] at HB0
          rw [hg2, hg1]
          clear hg1 hg2 HX HK
          generalize ((wo.alloc (.cells #[.int .i64 id, .int .i64 1, .string ⟨#[]⟩, .string ⟨#[]⟩] 48)).alloc (.cells #[.int .i64 id, .int .i64 2, .string ⟨#[]⟩, .string ⟨#[]⟩] 48)).alloc (.cells #[.int .i64 0, .int .i64 2, .int .i64 65536, .int .i64 4294967296, .int .i64 268435456, .int .i64 1, .int .i64 1, .int .i64 1] 3) = w0 at HB0 ⊢
          go_loopw [8, 9] (fun mv pl wr => ∃ m z : Int, 0 ≤ z ∧ z ≤ 16 ∧ 0 ≤ m ∧ m ≤ z ∧ mv = .int .i64 m ∧ pl = .int .i64 z ∧ (∀ j, 0 ≤ j → j < z → standB j id = true → 1 ≤ m) ∧ Both w g1 #[.int .i64 id, .int .i64 1, .string ⟨#[]⟩, .string ⟨#[]⟩] g2 #[.int .i64 id, .int .i64 2, .string ⟨#[]⟩, .string ⟨#[]⟩] wr) (fun _ pl _ => (16 - RowKit.intOf pl).toNat)
          case atStart => exact ⟨0, 0, by omega, by omega, by omega, by omega, rfl, rfl, fun j _ _ => by omega, HB0.out⟩
          case round =>
            obtain ⟨m, z, hz0, hz1, hm0, hm1, rfl, rfl, hst, hbo⟩ := hrel
            have HM := Lib.hid hst
            have HB := Lib.hid hbo
            clear hst hbo HB0
            by_cases hzz : z ≤ 15
            · have hpl := place_in hz0 hzz
              have O1 := HA1.out z hpl
              have O2 := HA2.out z hpl
              have O3 := HA3.out z
              change propsB z [⟨id, 1, ⟨#[]⟩, ⟨#[]⟩⟩] = _ at O1
              change propsB z [⟨id, 1, ⟨#[]⟩, ⟨#[]⟩⟩, ⟨id, 1, ⟨#[]⟩, ⟨#[]⟩⟩] = _ at O2
              change propsB z [⟨id, 2, ⟨#[]⟩, ⟨#[]⟩⟩] = _ at O3
              obtain ⟨e0, e1, e2, e3⟩ : _ ∧ _ ∧ _ ∧ _ := ⟨HB.out.out.1.cell 0, HB.out.out.1.cell 1, HB.out.out.1.cell 2, HB.out.out.1.cell 3⟩
              simp only [List.getElem?_toArray, List.getElem?_cons_zero, List.getElem?_cons_succ] at e0 e1 e2 e3
              cases hb : standB z id with
              | false =>
                have HC1 := Lib.hid (fun W => Check_one z id 1 1 W hi0 hgo (by omega) (by omega) (by rw [err_of, O1, hb]; rfl))
                have HBF := Lib.hid hb
                clear hpl O1 O2 O3 hb
                go_wp2_with fail
                refine (HC1.out _).mono ?_
                rintro e w2 ⟨rfl, hb2⟩
                have HB2 := Lib.hid (HB.out.below hb2)
                clear hb2 HB e0 e1 e2 e3 HC1
                go_wp2_with (go_at_call 13; refine (num_same _ _).mono ?_; rintro e w' ⟨rfl, rfl⟩)
                go_roundw
                case rel => exact ⟨m, z + 1, by omega, by omega, by omega, by omega, rfl, rfl, (fun j hj0 hj1 hj => by
                  by_cases e : j = z
                  · subst e; rw [HBF.out] at hj; cases hj
                  · exact HM.out j hj0 (by omega) hj), HB2.out⟩
                case measure => simp [RowKit.intOf]; omega
              | true =>
                obtain ⟨r, hr⟩ : ∃ r, repB z id = r := ⟨_, rfl⟩
                obtain ⟨E2, hE2⟩ : ∃ E2 : Int, (if r = true then 0 else 1) = E2 := ⟨_, rfl⟩
                have HC1 := Lib.hid (fun W => Check_one z id 1 0 W hi0 hgo (by omega) (by omega) (by rw [err_of, O1, hb]; rfl))
                have HC2 := Lib.hid (fun W => Check_two z id 1 E2 W hi0 hgo (by omega) (by omega) (by rw [err_of, O2, hb, hr, Bool.true_and]; exact hE2))
                have HC3 := Lib.hid (fun W => Check_one z id 2 1 W hi0 hgo (by omega) (by omega) (by rw [err_of, O3]; rfl))
                clear hpl O1 O2 O3 hb
                have hrep := rep_cases z id
                rw [hr] at hrep
                clear hr
                go_wp2_with fail
                refine (HC1.out _).mono ?_
                rintro e w2 ⟨rfl, hb2⟩
                have HB2 := Lib.hid (HB.out.below hb2)
                clear hb2 HB e0 e1 e2 e3 HC1
                obtain ⟨e0, e1, e2, e3⟩ : _ ∧ _ ∧ _ ∧ _ := ⟨HB2.out.out.1.cell 0, HB2.out.out.1.cell 1, HB2.out.out.1.cell 2, HB2.out.out.1.cell 3⟩
                simp only [List.getElem?_toArray, List.getElem?_cons_zero, List.getElem?_cons_succ] at e0 e1 e2 e3
                go_wp2_with (go_at_call 13; refine (num_same _ _).mono ?_; rintro e w' ⟨rfl, rfl⟩)
                refine (HC2.out _).mono ?_
                rintro e w3 ⟨rfl, hb3⟩
                have HB3 := Lib.hid (HB2.out.below hb3)
                clear hb3 HB2 e0 e1 e2 e3 HC2
                obtain ⟨f0, f1, f2, f3⟩ : _ ∧ _ ∧ _ ∧ _ := ⟨HB3.out.out.2.1.cell 0, HB3.out.out.2.1.cell 1, HB3.out.out.2.1.cell 2, HB3.out.out.2.1.cell 3⟩
                simp only [List.getElem?_toArray, List.getElem?_cons_zero, List.getElem?_cons_succ] at f0 f1 f2 f3
                rcases hrep with ⟨rfl, rfl⟩ | ⟨rfl, rfl, rfl⟩ | ⟨n38, n11, rfl⟩ | ⟨rfl, n3, rfl⟩
                · obtain rfl : (0 : Int) = E2 := hE2
                  go_wp2_with (go_at_call 13; refine (num_same _ _).mono ?_; rintro e w' ⟨rfl, rfl⟩)
                  refine (HC3.out _).mono ?_
                  rintro e w4 ⟨rfl, hb4⟩
                  have HB4 := Lib.hid (HB3.out.below hb4)
                  clear hb4 HB3 f0 f1 f2 f3 HC3
                  go_wp2_with (go_at_call 13; refine (num_same _ _).mono ?_; rintro e w' ⟨rfl, rfl⟩)
                  go_roundw
                  case rel => exact ⟨m + 1, z + 1, by omega, by omega, by omega, by omega, rfl, rfl, (fun j _ _ _ => by omega), HB4.out⟩
                  case measure => simp [RowKit.intOf]; omega
                · obtain rfl : (0 : Int) = E2 := hE2
                  go_wp2_with (go_at_call 13; refine (num_same _ _).mono ?_; rintro e w' ⟨rfl, rfl⟩)
                  refine (HC3.out _).mono ?_
                  rintro e w4 ⟨rfl, hb4⟩
                  have HB4 := Lib.hid (HB3.out.below hb4)
                  clear hb4 HB3 f0 f1 f2 f3 HC3
                  go_wp2_with (go_at_call 13; refine (num_same _ _).mono ?_; rintro e w' ⟨rfl, rfl⟩)
                  go_roundw
                  case rel => exact ⟨m + 1, 3 + 1, by omega, by omega, by omega, by omega, rfl, rfl, (fun j _ _ _ => by omega), HB4.out⟩
                  case measure => simp [RowKit.intOf]
                · obtain rfl : (1 : Int) = E2 := hE2
                  replace n38 := ne_false n38
                  replace n11 := ne_false n11
                  go_wp2_with (go_at_call 13; refine (num_same _ _).mono ?_; rintro e w' ⟨rfl, rfl⟩)
                  refine (HC3.out _).mono ?_
                  rintro e w4 ⟨rfl, hb4⟩
                  have HB4 := Lib.hid (HB3.out.below hb4)
                  clear hb4 HB3 f0 f1 f2 f3 HC3
                  go_wp2_with (go_at_call 13; refine (num_same _ _).mono ?_; rintro e w' ⟨rfl, rfl⟩)
                  go_roundw
                  case rel => exact ⟨m + 1, z + 1, by omega, by omega, by omega, by omega, rfl, rfl, (fun j _ _ _ => by omega), HB4.out⟩
                  case measure => simp [RowKit.intOf]; omega
                · obtain rfl : (1 : Int) = E2 := hE2
                  replace n3 := ne_false n3
                  go_wp2_with (go_at_call 13; refine (num_same _ _).mono ?_; rintro e w' ⟨rfl, rfl⟩)
                  refine (HC3.out _).mono ?_
                  rintro e w4 ⟨rfl, hb4⟩
                  have HB4 := Lib.hid (HB3.out.below hb4)
                  clear hb4 HB3 f0 f1 f2 f3 HC3
                  go_wp2_with (go_at_call 13; refine (num_same _ _).mono ?_; rintro e w' ⟨rfl, rfl⟩)
                  go_roundw
                  case rel => exact ⟨m + 1, z + 1, by omega, by omega, by omega, by omega, rfl, rfl, (fun j _ _ _ => by omega), HB4.out⟩
                  case measure => simp [RowKit.intOf]; omega
            · obtain rfl : z = 16 := by omega
              have hm : m ≠ 0 := by
                obtain ⟨j, hj0, hj1, hj⟩ := HS.out
                have := HM.out j hj0 (by omega) hj
                omega
              have bm := ne_false hm
              go_wp2_with fail
              go_roundw
              case rel => exact ⟨id + 1, by omega, by omega, rfl, HB.out.out.2.2⟩
              case measure => simp [RowKit.intOf]; omega
        · go_wp2_with (first | (go_at_call 11; refine (HK.out _).mono ?_; rintro e w' ⟨rfl, rfl⟩) | (go_at_call 13; refine (num_same _ _).mono ?_; rintro e w' ⟨rfl, rfl⟩))
          have HB0 : Hid (Both w wo.heap.size #[.int .i64 id, .int .i64 1, .string ⟨#[]⟩, .string ⟨#[]⟩] (wo.heap.size + 1) #[.int .i64 id, .int .i64 65536, .string ⟨#[]⟩, .string ⟨#[]⟩] (((wo.alloc (.cells #[.int .i64 id, .int .i64 1, .string ⟨#[]⟩, .string ⟨#[]⟩] 48)).alloc (.cells #[.int .i64 id, .int .i64 65536, .string ⟨#[]⟩, .string ⟨#[]⟩] 48)).alloc (.cells #[.int .i64 0, .int .i64 2, .int .i64 65536, .int .i64 4294967296, .int .i64 268435456, .int .i64 1, .int .i64 1, .int .i64 1] 3))) :=
            (Both.mk (w := w) ((Box.new wo _ _).alloc _) (by have := Box.new (wo.alloc (.cells #[.int .i64 id, .int .i64 1, .string ⟨#[]⟩, .string ⟨#[]⟩] 48)) 48 #[.int .i64 id, .int .i64 65536, .string ⟨#[]⟩, .string ⟨#[]⟩]; rwa [show (wo.alloc (.cells #[.int .i64 id, .int .i64 1, .string ⟨#[]⟩, .string ⟨#[]⟩] 48)).heap.size = wo.heap.size + 1 by simp] at this) ((HX.out.alloc HX.out.size _).alloc (Nat.le_trans HX.out.size (by simp)) _)).alloc _
          obtain ⟨g1, hg1⟩ : ∃ g, wo.heap.size = g := ⟨_, rfl⟩
          obtain ⟨g2, hg2⟩ : ∃ g, wo.heap.size + 1 = g := ⟨_, rfl⟩
          rw [hg2, hg1] at HB0
          rw [hg2, hg1]
          clear hg1 hg2 HX HK
          generalize ((wo.alloc (.cells #[.int .i64 id, .int .i64 1, .string ⟨#[]⟩, .string ⟨#[]⟩] 48)).alloc (.cells #[.int .i64 id, .int .i64 65536, .string ⟨#[]⟩, .string ⟨#[]⟩] 48)).alloc (.cells #[.int .i64 0, .int .i64 2, .int .i64 65536, .int .i64 4294967296, .int .i64 268435456, .int .i64 1, .int .i64 1, .int .i64 1] 3) = w0 at HB0 ⊢
          go_loopw [8, 9] (fun mv pl wr => ∃ m z : Int, 0 ≤ z ∧ z ≤ 16 ∧ 0 ≤ m ∧ m ≤ z ∧ mv = .int .i64 m ∧ pl = .int .i64 z ∧ (∀ j, 0 ≤ j → j < z → standB j id = true → 1 ≤ m) ∧ Both w g1 #[.int .i64 id, .int .i64 1, .string ⟨#[]⟩, .string ⟨#[]⟩] g2 #[.int .i64 id, .int .i64 65536, .string ⟨#[]⟩, .string ⟨#[]⟩] wr) (fun _ pl _ => (16 - RowKit.intOf pl).toNat)
          case atStart => exact ⟨0, 0, by omega, by omega, by omega, by omega, rfl, rfl, fun j _ _ => by omega, HB0.out⟩
          case round =>
            obtain ⟨m, z, hz0, hz1, hm0, hm1, rfl, rfl, hst, hbo⟩ := hrel
            have HM := Lib.hid hst
            have HB := Lib.hid hbo
            clear hst hbo HB0
            by_cases hzz : z ≤ 15
            · have hpl := place_in hz0 hzz
              have O1 := HA1.out z hpl
              have O2 := HA2.out z hpl
              have O3 := HA3.out z
              change propsB z [⟨id, 1, ⟨#[]⟩, ⟨#[]⟩⟩] = _ at O1
              change propsB z [⟨id, 1, ⟨#[]⟩, ⟨#[]⟩⟩, ⟨id, 1, ⟨#[]⟩, ⟨#[]⟩⟩] = _ at O2
              change propsB z [⟨id, 65536, ⟨#[]⟩, ⟨#[]⟩⟩] = _ at O3
              obtain ⟨e0, e1, e2, e3⟩ : _ ∧ _ ∧ _ ∧ _ := ⟨HB.out.out.1.cell 0, HB.out.out.1.cell 1, HB.out.out.1.cell 2, HB.out.out.1.cell 3⟩
              simp only [List.getElem?_toArray, List.getElem?_cons_zero, List.getElem?_cons_succ] at e0 e1 e2 e3
              cases hb : standB z id with
              | false =>
                have HC1 := Lib.hid (fun W => Check_one z id 1 1 W hi0 hgo (by omega) (by omega) (by rw [err_of, O1, hb]; rfl))
                have HBF := Lib.hid hb
                clear hpl O1 O2 O3 hb
                go_wp2_with fail
                refine (HC1.out _).mono ?_
                rintro e w2 ⟨rfl, hb2⟩
                have HB2 := Lib.hid (HB.out.below hb2)
                clear hb2 HB e0 e1 e2 e3 HC1
                go_wp2_with (go_at_call 13; refine (num_same _ _).mono ?_; rintro e w' ⟨rfl, rfl⟩)
                go_roundw
                case rel => exact ⟨m, z + 1, by omega, by omega, by omega, by omega, rfl, rfl, (fun j hj0 hj1 hj => by
                  by_cases e : j = z
                  · subst e; rw [HBF.out] at hj; cases hj
                  · exact HM.out j hj0 (by omega) hj), HB2.out⟩
                case measure => simp [RowKit.intOf]; omega
              | true =>
                obtain ⟨r, hr⟩ : ∃ r, repB z id = r := ⟨_, rfl⟩
                obtain ⟨E2, hE2⟩ : ∃ E2 : Int, (if r = true then 0 else 1) = E2 := ⟨_, rfl⟩
                have HC1 := Lib.hid (fun W => Check_one z id 1 0 W hi0 hgo (by omega) (by omega) (by rw [err_of, O1, hb]; rfl))
                have HC2 := Lib.hid (fun W => Check_two z id 1 E2 W hi0 hgo (by omega) (by omega) (by rw [err_of, O2, hb, hr, Bool.true_and]; exact hE2))
                have HC3 := Lib.hid (fun W => Check_one z id 65536 1 W hi0 hgo (by omega) (by omega) (by rw [err_of, O3]; rfl))
                clear hpl O1 O2 O3 hb
                have hrep := rep_cases z id
                rw [hr] at hrep
                clear hr
                go_wp2_with fail
                refine (HC1.out _).mono ?_
                rintro e w2 ⟨rfl, hb2⟩
                have HB2 := Lib.hid (HB.out.below hb2)
                clear hb2 HB e0 e1 e2 e3 HC1
                obtain ⟨e0, e1, e2, e3⟩ : _ ∧ _ ∧ _ ∧ _ := ⟨HB2.out.out.1.cell 0, HB2.out.out.1.cell 1, HB2.out.out.1.cell 2, HB2.out.out.1.cell 3⟩
                simp only [List.getElem?_toArray, List.getElem?_cons_zero, List.getElem?_cons_succ] at e0 e1 e2 e3
                go_wp2_with (go_at_call 13; refine (num_same _ _).mono ?_; rintro e w' ⟨rfl, rfl⟩)
                refine (HC2.out _).mono ?_
                rintro e w3 ⟨rfl, hb3⟩
                have HB3 := Lib.hid (HB2.out.below hb3)
                clear hb3 HB2 e0 e1 e2 e3 HC2
                obtain ⟨f0, f1, f2, f3⟩ : _ ∧ _ ∧ _ ∧ _ := ⟨HB3.out.out.2.1.cell 0, HB3.out.out.2.1.cell 1, HB3.out.out.2.1.cell 2, HB3.out.out.2.1.cell 3⟩
                simp only [List.getElem?_toArray, List.getElem?_cons_zero, List.getElem?_cons_succ] at f0 f1 f2 f3
                rcases hrep with ⟨rfl, rfl⟩ | ⟨rfl, rfl, rfl⟩ | ⟨n38, n11, rfl⟩ | ⟨rfl, n3, rfl⟩
                · obtain rfl : (0 : Int) = E2 := hE2
                  go_wp2_with (go_at_call 13; refine (num_same _ _).mono ?_; rintro e w' ⟨rfl, rfl⟩)
                  refine (HC3.out _).mono ?_
                  rintro e w4 ⟨rfl, hb4⟩
                  have HB4 := Lib.hid (HB3.out.below hb4)
                  clear hb4 HB3 f0 f1 f2 f3 HC3
                  go_wp2_with (go_at_call 13; refine (num_same _ _).mono ?_; rintro e w' ⟨rfl, rfl⟩)
                  go_roundw
                  case rel => exact ⟨m + 1, z + 1, by omega, by omega, by omega, by omega, rfl, rfl, (fun j _ _ _ => by omega), HB4.out⟩
                  case measure => simp [RowKit.intOf]; omega
                · obtain rfl : (0 : Int) = E2 := hE2
                  go_wp2_with (go_at_call 13; refine (num_same _ _).mono ?_; rintro e w' ⟨rfl, rfl⟩)
                  refine (HC3.out _).mono ?_
                  rintro e w4 ⟨rfl, hb4⟩
                  have HB4 := Lib.hid (HB3.out.below hb4)
                  clear hb4 HB3 f0 f1 f2 f3 HC3
                  go_wp2_with (go_at_call 13; refine (num_same _ _).mono ?_; rintro e w' ⟨rfl, rfl⟩)
                  go_roundw
                  case rel => exact ⟨m + 1, 3 + 1, by omega, by omega, by omega, by omega, rfl, rfl, (fun j _ _ _ => by omega), HB4.out⟩
                  case measure => simp [RowKit.intOf]
                · obtain rfl : (1 : Int) = E2 := hE2
                  replace n38 := ne_false n38
                  replace n11 := ne_false n11
                  go_wp2_with (go_at_call 13; refine (num_same _ _).mono ?_; rintro e w' ⟨rfl, rfl⟩)
                  refine (HC3.out _).mono ?_
                  rintro e w4 ⟨rfl, hb4⟩
                  have HB4 := Lib.hid (HB3.out.below hb4)
                  clear hb4 HB3 f0 f1 f2 f3 HC3
                  go_wp2_with (go_at_call 13; refine (num_same _ _).mono ?_; rintro e w' ⟨rfl, rfl⟩)
                  go_roundw
                  case rel => exact ⟨m + 1, z + 1, by omega, by omega, by omega, by omega, rfl, rfl, (fun j _ _ _ => by omega), HB4.out⟩
                  case measure => simp [RowKit.intOf]; omega
                · obtain rfl : (1 : Int) = E2 := hE2
                  replace n3 := ne_false n3
                  go_wp2_with (go_at_call 13; refine (num_same _ _).mono ?_; rintro e w' ⟨rfl, rfl⟩)
                  refine (HC3.out _).mono ?_
                  rintro e w4 ⟨rfl, hb4⟩
                  have HB4 := Lib.hid (HB3.out.below hb4)
                  clear hb4 HB3 f0 f1 f2 f3 HC3
                  go_wp2_with (go_at_call 13; refine (num_same _ _).mono ?_; rintro e w' ⟨rfl, rfl⟩)
                  go_roundw
                  case rel => exact ⟨m + 1, z + 1, by omega, by omega, by omega, by omega, rfl, rfl, (fun j _ _ _ => by omega), HB4.out⟩
                  case measure => simp [RowKit.intOf]; omega
            · obtain rfl : z = 16 := by omega
              have hm : m ≠ 0 := by
                obtain ⟨j, hj0, hj1, hj⟩ := HS.out
                have := HM.out j hj0 (by omega) hj
                omega
              have bm := ne_false hm
              go_wp2_with fail
              go_roundw
              case rel => exact ⟨id + 1, by omega, by omega, rfl, HB.out.out.2.2⟩
              case measure => simp [RowKit.intOf]; omega
        · go_wp2_with (first | (go_at_call 11; refine (HK.out _).mono ?_; rintro e w' ⟨rfl, rfl⟩) | (go_at_call 13; refine (num_same _ _).mono ?_; rintro e w' ⟨rfl, rfl⟩))
          have HB0 : Hid (Both w wo.heap.size #[.int .i64 id, .int .i64 1, .string ⟨#[]⟩, .string ⟨#[]⟩] (wo.heap.size + 1) #[.int .i64 id, .int .i64 4294967296, .string ⟨#[]⟩, .string ⟨#[]⟩] (((wo.alloc (.cells #[.int .i64 id, .int .i64 1, .string ⟨#[]⟩, .string ⟨#[]⟩] 48)).alloc (.cells #[.int .i64 id, .int .i64 4294967296, .string ⟨#[]⟩, .string ⟨#[]⟩] 48)).alloc (.cells #[.int .i64 0, .int .i64 2, .int .i64 65536, .int .i64 4294967296, .int .i64 268435456, .int .i64 1, .int .i64 1, .int .i64 1] 3))) :=
            (Both.mk (w := w) ((Box.new wo _ _).alloc _) (by have := Box.new (wo.alloc (.cells #[.int .i64 id, .int .i64 1, .string ⟨#[]⟩, .string ⟨#[]⟩] 48)) 48 #[.int .i64 id, .int .i64 4294967296, .string ⟨#[]⟩, .string ⟨#[]⟩]; rwa [show (wo.alloc (.cells #[.int .i64 id, .int .i64 1, .string ⟨#[]⟩, .string ⟨#[]⟩] 48)).heap.size = wo.heap.size + 1 by simp] at this) ((HX.out.alloc HX.out.size _).alloc (Nat.le_trans HX.out.size (by simp)) _)).alloc _
          obtain ⟨g1, hg1⟩ : ∃ g, wo.heap.size = g := ⟨_, rfl⟩
          obtain ⟨g2, hg2⟩ : ∃ g, wo.heap.size + 1 = g := ⟨_, rfl⟩
          rw [hg2, hg1] at HB0
          rw [hg2, hg1]
          clear hg1 hg2 HX HK
          generalize ((wo.alloc (.cells #[.int .i64 id, .int .i64 1, .string ⟨#[]⟩, .string ⟨#[]⟩] 48)).alloc (.cells #[.int .i64 id, .int .i64 4294967296, .string ⟨#[]⟩, .string ⟨#[]⟩] 48)).alloc (.cells #[.int .i64 0, .int .i64 2, .int .i64 65536, .int .i64 4294967296, .int .i64 268435456, .int .i64 1, .int .i64 1, .int .i64 1] 3) = w0 at HB0 ⊢
          go_loopw [8, 9] (fun mv pl wr => ∃ m z : Int, 0 ≤ z ∧ z ≤ 16 ∧ 0 ≤ m ∧ m ≤ z ∧ mv = .int .i64 m ∧ pl = .int .i64 z ∧ (∀ j, 0 ≤ j → j < z → standB j id = true → 1 ≤ m) ∧ Both w g1 #[.int .i64 id, .int .i64 1, .string ⟨#[]⟩, .string ⟨#[]⟩] g2 #[.int .i64 id, .int .i64 4294967296, .string ⟨#[]⟩, .string ⟨#[]⟩] wr) (fun _ pl _ => (16 - RowKit.intOf pl).toNat)
          case atStart => exact ⟨0, 0, by omega, by omega, by omega, by omega, rfl, rfl, fun j _ _ => by omega, HB0.out⟩
          case round =>
            obtain ⟨m, z, hz0, hz1, hm0, hm1, rfl, rfl, hst, hbo⟩ := hrel
            have HM := Lib.hid hst
            have HB := Lib.hid hbo
            clear hst hbo HB0
            by_cases hzz : z ≤ 15
            · have hpl := place_in hz0 hzz
              have O1 := HA1.out z hpl
              have O2 := HA2.out z hpl
              have O3 := HA3.out z
              change propsB z [⟨id, 1, ⟨#[]⟩, ⟨#[]⟩⟩] = _ at O1
              change propsB z [⟨id, 1, ⟨#[]⟩, ⟨#[]⟩⟩, ⟨id, 1, ⟨#[]⟩, ⟨#[]⟩⟩] = _ at O2
              change propsB z [⟨id, 4294967296, ⟨#[]⟩, ⟨#[]⟩⟩] = _ at O3
              obtain ⟨e0, e1, e2, e3⟩ : _ ∧ _ ∧ _ ∧ _ := ⟨HB.out.out.1.cell 0, HB.out.out.1.cell 1, HB.out.out.1.cell 2, HB.out.out.1.cell 3⟩
              simp only [List.getElem?_toArray, List.getElem?_cons_zero, List.getElem?_cons_succ] at e0 e1 e2 e3
              cases hb : standB z id with
              | false =>
                have HC1 := Lib.hid (fun W => Check_one z id 1 1 W hi0 hgo (by omega) (by omega) (by rw [err_of, O1, hb]; rfl))
                have HBF := Lib.hid hb
                clear hpl O1 O2 O3 hb
                go_wp2_with fail
                refine (HC1.out _).mono ?_
                rintro e w2 ⟨rfl, hb2⟩
                have HB2 := Lib.hid (HB.out.below hb2)
                clear hb2 HB e0 e1 e2 e3 HC1
                go_wp2_with (go_at_call 13; refine (num_same _ _).mono ?_; rintro e w' ⟨rfl, rfl⟩)
                go_roundw
                case rel => exact ⟨m, z + 1, by omega, by omega, by omega, by omega, rfl, rfl, (fun j hj0 hj1 hj => by
                  by_cases e : j = z
                  · subst e; rw [HBF.out] at hj; cases hj
                  · exact HM.out j hj0 (by omega) hj), HB2.out⟩
                case measure => simp [RowKit.intOf]; omega
              | true =>
                obtain ⟨r, hr⟩ : ∃ r, repB z id = r := ⟨_, rfl⟩
                obtain ⟨E2, hE2⟩ : ∃ E2 : Int, (if r = true then 0 else 1) = E2 := ⟨_, rfl⟩
                have HC1 := Lib.hid (fun W => Check_one z id 1 0 W hi0 hgo (by omega) (by omega) (by rw [err_of, O1, hb]; rfl))
                have HC2 := Lib.hid (fun W => Check_two z id 1 E2 W hi0 hgo (by omega) (by omega) (by rw [err_of, O2, hb, hr, Bool.true_and]; exact hE2))
                have HC3 := Lib.hid (fun W => Check_one z id 4294967296 1 W hi0 hgo (by omega) (by omega) (by rw [err_of, O3]; rfl))
                clear hpl O1 O2 O3 hb
                have hrep := rep_cases z id
                rw [hr] at hrep
                clear hr
                go_wp2_with fail
                refine (HC1.out _).mono ?_
                rintro e w2 ⟨rfl, hb2⟩
                have HB2 := Lib.hid (HB.out.below hb2)
                clear hb2 HB e0 e1 e2 e3 HC1
                obtain ⟨e0, e1, e2, e3⟩ : _ ∧ _ ∧ _ ∧ _ := ⟨HB2.out.out.1.cell 0, HB2.out.out.1.cell 1, HB2.out.out.1.cell 2, HB2.out.out.1.cell 3⟩
                simp only [List.getElem?_toArray, List.getElem?_cons_zero, List.getElem?_cons_succ] at e0 e1 e2 e3
                go_wp2_with (go_at_call 13; refine (num_same _ _).mono ?_; rintro e w' ⟨rfl, rfl⟩)
                refine (HC2.out _).mono ?_
                rintro e w3 ⟨rfl, hb3⟩
                have HB3 := Lib.hid (HB2.out.below hb3)
                clear hb3 HB2 e0 e1 e2 e3 HC2
                obtain ⟨f0, f1, f2, f3⟩ : _ ∧ _ ∧ _ ∧ _ := ⟨HB3.out.out.2.1.cell 0, HB3.out.out.2.1.cell 1, HB3.out.out.2.1.cell 2, HB3.out.out.2.1.cell 3⟩
                simp only [List.getElem?_toArray, List.getElem?_cons_zero, List.getElem?_cons_succ] at f0 f1 f2 f3
                rcases hrep with ⟨rfl, rfl⟩ | ⟨rfl, rfl, rfl⟩ | ⟨n38, n11, rfl⟩ | ⟨rfl, n3, rfl⟩
                · obtain rfl : (0 : Int) = E2 := hE2
                  go_wp2_with (go_at_call 13; refine (num_same _ _).mono ?_; rintro e w' ⟨rfl, rfl⟩)
                  refine (HC3.out _).mono ?_
                  rintro e w4 ⟨rfl, hb4⟩
                  have HB4 := Lib.hid (HB3.out.below hb4)
                  clear hb4 HB3 f0 f1 f2 f3 HC3
                  go_wp2_with (go_at_call 13; refine (num_same _ _).mono ?_; rintro e w' ⟨rfl, rfl⟩)
                  go_roundw
                  case rel => exact ⟨m + 1, z + 1, by omega, by omega, by omega, by omega, rfl, rfl, (fun j _ _ _ => by omega), HB4.out⟩
                  case measure => simp [RowKit.intOf]; omega
                · obtain rfl : (0 : Int) = E2 := hE2
                  go_wp2_with (go_at_call 13; refine (num_same _ _).mono ?_; rintro e w' ⟨rfl, rfl⟩)
                  refine (HC3.out _).mono ?_
                  rintro e w4 ⟨rfl, hb4⟩
                  have HB4 := Lib.hid (HB3.out.below hb4)
                  clear hb4 HB3 f0 f1 f2 f3 HC3
                  go_wp2_with (go_at_call 13; refine (num_same _ _).mono ?_; rintro e w' ⟨rfl, rfl⟩)
                  go_roundw
                  case rel => exact ⟨m + 1, 3 + 1, by omega, by omega, by omega, by omega, rfl, rfl, (fun j _ _ _ => by omega), HB4.out⟩
                  case measure => simp [RowKit.intOf]
                · obtain rfl : (1 : Int) = E2 := hE2
                  replace n38 := ne_false n38
                  replace n11 := ne_false n11
                  go_wp2_with (go_at_call 13; refine (num_same _ _).mono ?_; rintro e w' ⟨rfl, rfl⟩)
                  refine (HC3.out _).mono ?_
                  rintro e w4 ⟨rfl, hb4⟩
                  have HB4 := Lib.hid (HB3.out.below hb4)
                  clear hb4 HB3 f0 f1 f2 f3 HC3
                  go_wp2_with (go_at_call 13; refine (num_same _ _).mono ?_; rintro e w' ⟨rfl, rfl⟩)
                  go_roundw
                  case rel => exact ⟨m + 1, z + 1, by omega, by omega, by omega, by omega, rfl, rfl, (fun j _ _ _ => by omega), HB4.out⟩
                  case measure => simp [RowKit.intOf]; omega
                · obtain rfl : (1 : Int) = E2 := hE2
                  replace n3 := ne_false n3
                  go_wp2_with (go_at_call 13; refine (num_same _ _).mono ?_; rintro e w' ⟨rfl, rfl⟩)
                  refine (HC3.out _).mono ?_
                  rintro e w4 ⟨rfl, hb4⟩
                  have HB4 := Lib.hid (HB3.out.below hb4)
                  clear hb4 HB3 f0 f1 f2 f3 HC3
                  go_wp2_with (go_at_call 13; refine (num_same _ _).mono ?_; rintro e w' ⟨rfl, rfl⟩)
                  go_roundw
                  case rel => exact ⟨m + 1, z + 1, by omega, by omega, by omega, by omega, rfl, rfl, (fun j _ _ _ => by omega), HB4.out⟩
                  case measure => simp [RowKit.intOf]; omega
            · obtain rfl : z = 16 := by omega
              have hm : m ≠ 0 := by
                obtain ⟨j, hj0, hj1, hj⟩ := HS.out
                have := HM.out j hj0 (by omega) hj
                omega
              have bm := ne_false hm
              go_wp2_with fail
              go_roundw
              case rel => exact ⟨id + 1, by omega, by omega, rfl, HB.out.out.2.2⟩
              case measure => simp [RowKit.intOf]; omega
        · go_wp2_with (first | (go_at_call 11; refine (HK.out _).mono ?_; rintro e w' ⟨rfl, rfl⟩) | (go_at_call 13; refine (num_same _ _).mono ?_; rintro e w' ⟨rfl, rfl⟩))
          have HB0 : Hid (Both w wo.heap.size #[.int .i64 id, .int .i64 1, .string ⟨#[]⟩, .string ⟨#[]⟩] (wo.heap.size + 1) #[.int .i64 id, .int .i64 268435456, .string ⟨#[]⟩, .string ⟨#[]⟩] (((wo.alloc (.cells #[.int .i64 id, .int .i64 1, .string ⟨#[]⟩, .string ⟨#[]⟩] 48)).alloc (.cells #[.int .i64 id, .int .i64 268435456, .string ⟨#[]⟩, .string ⟨#[]⟩] 48)).alloc (.cells #[.int .i64 0, .int .i64 2, .int .i64 65536, .int .i64 4294967296, .int .i64 268435456, .int .i64 1, .int .i64 1, .int .i64 1] 3))) :=
            (Both.mk (w := w) ((Box.new wo _ _).alloc _) (by have := Box.new (wo.alloc (.cells #[.int .i64 id, .int .i64 1, .string ⟨#[]⟩, .string ⟨#[]⟩] 48)) 48 #[.int .i64 id, .int .i64 268435456, .string ⟨#[]⟩, .string ⟨#[]⟩]; rwa [show (wo.alloc (.cells #[.int .i64 id, .int .i64 1, .string ⟨#[]⟩, .string ⟨#[]⟩] 48)).heap.size = wo.heap.size + 1 by simp] at this) ((HX.out.alloc HX.out.size _).alloc (Nat.le_trans HX.out.size (by simp)) _)).alloc _
          obtain ⟨g1, hg1⟩ : ∃ g, wo.heap.size = g := ⟨_, rfl⟩
          obtain ⟨g2, hg2⟩ : ∃ g, wo.heap.size + 1 = g := ⟨_, rfl⟩
          rw [hg2, hg1] at HB0
          rw [hg2, hg1]
          clear hg1 hg2 HX HK
          generalize ((wo.alloc (.cells #[.int .i64 id, .int .i64 1, .string ⟨#[]⟩, .string ⟨#[]⟩] 48)).alloc (.cells #[.int .i64 id, .int .i64 268435456, .string ⟨#[]⟩, .string ⟨#[]⟩] 48)).alloc (.cells #[.int .i64 0, .int .i64 2, .int .i64 65536, .int .i64 4294967296, .int .i64 268435456, .int .i64 1, .int .i64 1, .int .i64 1] 3) = w0 at HB0 ⊢
          go_loopw [8, 9] (fun mv pl wr => ∃ m z : Int, 0 ≤ z ∧ z ≤ 16 ∧ 0 ≤ m ∧ m ≤ z ∧ mv = .int .i64 m ∧ pl = .int .i64 z ∧ (∀ j, 0 ≤ j → j < z → standB j id = true → 1 ≤ m) ∧ Both w g1 #[.int .i64 id, .int .i64 1, .string ⟨#[]⟩, .string ⟨#[]⟩] g2 #[.int .i64 id, .int .i64 268435456, .string ⟨#[]⟩, .string ⟨#[]⟩] wr) (fun _ pl _ => (16 - RowKit.intOf pl).toNat)
          case atStart => exact ⟨0, 0, by omega, by omega, by omega, by omega, rfl, rfl, fun j _ _ => by omega, HB0.out⟩
          case round =>
            obtain ⟨m, z, hz0, hz1, hm0, hm1, rfl, rfl, hst, hbo⟩ := hrel
            have HM := Lib.hid hst
            have HB := Lib.hid hbo
            clear hst hbo HB0
            by_cases hzz : z ≤ 15
            · have hpl := place_in hz0 hzz
              have O1 := HA1.out z hpl
              have O2 := HA2.out z hpl
              have O3 := HA3.out z
              change propsB z [⟨id, 1, ⟨#[]⟩, ⟨#[]⟩⟩] = _ at O1
              change propsB z [⟨id, 1, ⟨#[]⟩, ⟨#[]⟩⟩, ⟨id, 1, ⟨#[]⟩, ⟨#[]⟩⟩] = _ at O2
              change propsB z [⟨id, 268435456, ⟨#[]⟩, ⟨#[]⟩⟩] = _ at O3
              obtain ⟨e0, e1, e2, e3⟩ : _ ∧ _ ∧ _ ∧ _ := ⟨HB.out.out.1.cell 0, HB.out.out.1.cell 1, HB.out.out.1.cell 2, HB.out.out.1.cell 3⟩
              simp only [List.getElem?_toArray, List.getElem?_cons_zero, List.getElem?_cons_succ] at e0 e1 e2 e3
              cases hb : standB z id with
              | false =>
                have HC1 := Lib.hid (fun W => Check_one z id 1 1 W hi0 hgo (by omega) (by omega) (by rw [err_of, O1, hb]; rfl))
                have HBF := Lib.hid hb
                clear hpl O1 O2 O3 hb
                go_wp2_with fail
                refine (HC1.out _).mono ?_
                rintro e w2 ⟨rfl, hb2⟩
                have HB2 := Lib.hid (HB.out.below hb2)
                clear hb2 HB e0 e1 e2 e3 HC1
                go_wp2_with (go_at_call 13; refine (num_same _ _).mono ?_; rintro e w' ⟨rfl, rfl⟩)
                go_roundw
                case rel => exact ⟨m, z + 1, by omega, by omega, by omega, by omega, rfl, rfl, (fun j hj0 hj1 hj => by
                  by_cases e : j = z
                  · subst e; rw [HBF.out] at hj; cases hj
                  · exact HM.out j hj0 (by omega) hj), HB2.out⟩
                case measure => simp [RowKit.intOf]; omega
              | true =>
                obtain ⟨r, hr⟩ : ∃ r, repB z id = r := ⟨_, rfl⟩
                obtain ⟨E2, hE2⟩ : ∃ E2 : Int, (if r = true then 0 else 1) = E2 := ⟨_, rfl⟩
                have HC1 := Lib.hid (fun W => Check_one z id 1 0 W hi0 hgo (by omega) (by omega) (by rw [err_of, O1, hb]; rfl))
                have HC2 := Lib.hid (fun W => Check_two z id 1 E2 W hi0 hgo (by omega) (by omega) (by rw [err_of, O2, hb, hr, Bool.true_and]; exact hE2))
                have HC3 := Lib.hid (fun W => Check_one z id 268435456 1 W hi0 hgo (by omega) (by omega) (by rw [err_of, O3]; rfl))
                clear hpl O1 O2 O3 hb
                have hrep := rep_cases z id
                rw [hr] at hrep
                clear hr
                go_wp2_with fail
                refine (HC1.out _).mono ?_
                rintro e w2 ⟨rfl, hb2⟩
                have HB2 := Lib.hid (HB.out.below hb2)
                clear hb2 HB e0 e1 e2 e3 HC1
                obtain ⟨e0, e1, e2, e3⟩ : _ ∧ _ ∧ _ ∧ _ := ⟨HB2.out.out.1.cell 0, HB2.out.out.1.cell 1, HB2.out.out.1.cell 2, HB2.out.out.1.cell 3⟩
                simp only [List.getElem?_toArray, List.getElem?_cons_zero, List.getElem?_cons_succ] at e0 e1 e2 e3
                go_wp2_with (go_at_call 13; refine (num_same _ _).mono ?_; rintro e w' ⟨rfl, rfl⟩)
                refine (HC2.out _).mono ?_
                rintro e w3 ⟨rfl, hb3⟩
                have HB3 := Lib.hid (HB2.out.below hb3)
                clear hb3 HB2 e0 e1 e2 e3 HC2
                obtain ⟨f0, f1, f2, f3⟩ : _ ∧ _ ∧ _ ∧ _ := ⟨HB3.out.out.2.1.cell 0, HB3.out.out.2.1.cell 1, HB3.out.out.2.1.cell 2, HB3.out.out.2.1.cell 3⟩
                simp only [List.getElem?_toArray, List.getElem?_cons_zero, List.getElem?_cons_succ] at f0 f1 f2 f3
                rcases hrep with ⟨rfl, rfl⟩ | ⟨rfl, rfl, rfl⟩ | ⟨n38, n11, rfl⟩ | ⟨rfl, n3, rfl⟩
                · obtain rfl : (0 : Int) = E2 := hE2
                  go_wp2_with (go_at_call 13; refine (num_same _ _).mono ?_; rintro e w' ⟨rfl, rfl⟩)
                  refine (HC3.out _).mono ?_
                  rintro e w4 ⟨rfl, hb4⟩
                  have HB4 := Lib.hid (HB3.out.below hb4)
                  clear hb4 HB3 f0 f1 f2 f3 HC3
                  go_wp2_with (go_at_call 13; refine (num_same _ _).mono ?_; rintro e w' ⟨rfl, rfl⟩)
                  go_roundw
                  case rel => exact ⟨m + 1, z + 1, by omega, by omega, by omega, by omega, rfl, rfl, (fun j _ _ _ => by omega), HB4.out⟩
                  case measure => simp [RowKit.intOf]; omega
                · obtain rfl : (0 : Int) = E2 := hE2
                  go_wp2_with (go_at_call 13; refine (num_same _ _).mono ?_; rintro e w' ⟨rfl, rfl⟩)
                  refine (HC3.out _).mono ?_
                  rintro e w4 ⟨rfl, hb4⟩
                  have HB4 := Lib.hid (HB3.out.below hb4)
                  clear hb4 HB3 f0 f1 f2 f3 HC3
                  go_wp2_with (go_at_call 13; refine (num_same _ _).mono ?_; rintro e w' ⟨rfl, rfl⟩)
                  go_roundw
                  case rel => exact ⟨m + 1, 3 + 1, by omega, by omega, by omega, by omega, rfl, rfl, (fun j _ _ _ => by omega), HB4.out⟩
                  case measure => simp [RowKit.intOf]
                · obtain rfl : (1 : Int) = E2 := hE2
                  replace n38 := ne_false n38
                  replace n11 := ne_false n11
                  go_wp2_with (go_at_call 13; refine (num_same _ _).mono ?_; rintro e w' ⟨rfl, rfl⟩)
                  refine (HC3.out _).mono ?_
                  rintro e w4 ⟨rfl, hb4⟩
                  have HB4 := Lib.hid (HB3.out.below hb4)
                  clear hb4 HB3 f0 f1 f2 f3 HC3
                  go_wp2_with (go_at_call 13; refine (num_same _ _).mono ?_; rintro e w' ⟨rfl, rfl⟩)
                  go_roundw
                  case rel => exact ⟨m + 1, z + 1, by omega, by omega, by omega, by omega, rfl, rfl, (fun j _ _ _ => by omega), HB4.out⟩
                  case measure => simp [RowKit.intOf]; omega
                · obtain rfl : (1 : Int) = E2 := hE2
                  replace n3 := ne_false n3
                  go_wp2_with (go_at_call 13; refine (num_same _ _).mono ?_; rintro e w' ⟨rfl, rfl⟩)
                  refine (HC3.out _).mono ?_
                  rintro e w4 ⟨rfl, hb4⟩
                  have HB4 := Lib.hid (HB3.out.below hb4)
                  clear hb4 HB3 f0 f1 f2 f3 HC3
                  go_wp2_with (go_at_call 13; refine (num_same _ _).mono ?_; rintro e w' ⟨rfl, rfl⟩)
                  go_roundw
                  case rel => exact ⟨m + 1, z + 1, by omega, by omega, by omega, by omega, rfl, rfl, (fun j _ _ _ => by omega), HB4.out⟩
                  case measure => simp [RowKit.intOf]; omega
            · obtain rfl : z = 16 := by omega
              have hm : m ≠ 0 := by
                obtain ⟨j, hj0, hj1, hj⟩ := HS.out
                have := HM.out j hj0 (by omega) hj
                omega
              have bm := ne_false hm
              go_wp2_with fail
              go_roundw
              case rel => exact ⟨id + 1, by omega, by omega, rfl, HB.out.out.2.2⟩
              case measure => simp [RowKit.intOf]; omega
        · go_wp2_with (first | (go_at_call 11; refine (HK.out _).mono ?_; rintro e w' ⟨rfl, rfl⟩) | (go_at_call 13; refine (num_same _ _).mono ?_; rintro e w' ⟨rfl, rfl⟩))
          have HB0 : Hid (Both w wo.heap.size #[.int .i64 id, .int .i64 0, .string ⟨#[]⟩, .string ⟨#[]⟩] (wo.heap.size + 1) #[.int .i64 id, .int .i64 1, .string ⟨#[]⟩, .string ⟨#[]⟩] (((wo.alloc (.cells #[.int .i64 id, .int .i64 0, .string ⟨#[]⟩, .string ⟨#[]⟩] 48)).alloc (.cells #[.int .i64 id, .int .i64 1, .string ⟨#[]⟩, .string ⟨#[]⟩] 48)).alloc (.cells #[.int .i64 0, .int .i64 2, .int .i64 65536, .int .i64 4294967296, .int .i64 268435456, .int .i64 1, .int .i64 1, .int .i64 1] 3))) :=
            (Both.mk (w := w) ((Box.new wo _ _).alloc _) (by have := Box.new (wo.alloc (.cells #[.int .i64 id, .int .i64 0, .string ⟨#[]⟩, .string ⟨#[]⟩] 48)) 48 #[.int .i64 id, .int .i64 1, .string ⟨#[]⟩, .string ⟨#[]⟩]; rwa [show (wo.alloc (.cells #[.int .i64 id, .int .i64 0, .string ⟨#[]⟩, .string ⟨#[]⟩] 48)).heap.size = wo.heap.size + 1 by simp] at this) ((HX.out.alloc HX.out.size _).alloc (Nat.le_trans HX.out.size (by simp)) _)).alloc _
          obtain ⟨g1, hg1⟩ : ∃ g, wo.heap.size = g := ⟨_, rfl⟩
          obtain ⟨g2, hg2⟩ : ∃ g, wo.heap.size + 1 = g := ⟨_, rfl⟩
          rw [hg2, hg1] at HB0
          rw [hg2, hg1]
          clear hg1 hg2 HX HK
          generalize ((wo.alloc (.cells #[.int .i64 id, .int .i64 0, .string ⟨#[]⟩, .string ⟨#[]⟩] 48)).alloc (.cells #[.int .i64 id, .int .i64 1, .string ⟨#[]⟩, .string ⟨#[]⟩] 48)).alloc (.cells #[.int .i64 0, .int .i64 2, .int .i64 65536, .int .i64 4294967296, .int .i64 268435456, .int .i64 1, .int .i64 1, .int .i64 1] 3) = w0 at HB0 ⊢
          go_loopw [8, 9] (fun mv pl wr => ∃ m z : Int, 0 ≤ z ∧ z ≤ 16 ∧ 0 ≤ m ∧ m ≤ z ∧ mv = .int .i64 m ∧ pl = .int .i64 z ∧ (∀ j, 0 ≤ j → j < z → standB j id = true → 1 ≤ m) ∧ Both w g1 #[.int .i64 id, .int .i64 0, .string ⟨#[]⟩, .string ⟨#[]⟩] g2 #[.int .i64 id, .int .i64 1, .string ⟨#[]⟩, .string ⟨#[]⟩] wr) (fun _ pl _ => (16 - RowKit.intOf pl).toNat)
          case atStart => exact ⟨0, 0, by omega, by omega, by omega, by omega, rfl, rfl, fun j _ _ => by omega, HB0.out⟩
          case round =>
            obtain ⟨m, z, hz0, hz1, hm0, hm1, rfl, rfl, hst, hbo⟩ := hrel
            have HM := Lib.hid hst
            have HB := Lib.hid hbo
            clear hst hbo HB0
            by_cases hzz : z ≤ 15
            · have hpl := place_in hz0 hzz
              have O1 := HA1.out z hpl
              have O2 := HA2.out z hpl
              have O3 := HA3.out z
              change propsB z [⟨id, 0, ⟨#[]⟩, ⟨#[]⟩⟩] = _ at O1
              change propsB z [⟨id, 0, ⟨#[]⟩, ⟨#[]⟩⟩, ⟨id, 0, ⟨#[]⟩, ⟨#[]⟩⟩] = _ at O2
              change propsB z [⟨id, 1, ⟨#[]⟩, ⟨#[]⟩⟩] = _ at O3
              obtain ⟨e0, e1, e2, e3⟩ : _ ∧ _ ∧ _ ∧ _ := ⟨HB.out.out.1.cell 0, HB.out.out.1.cell 1, HB.out.out.1.cell 2, HB.out.out.1.cell 3⟩
              simp only [List.getElem?_toArray, List.getElem?_cons_zero, List.getElem?_cons_succ] at e0 e1 e2 e3
              cases hb : standB z id with
              | false =>
                have HC1 := Lib.hid (fun W => Check_one z id 0 1 W hi0 hgo (by omega) (by omega) (by rw [err_of, O1, hb]; rfl))
                have HBF := Lib.hid hb
                clear hpl O1 O2 O3 hb
                go_wp2_with fail
                refine (HC1.out _).mono ?_
                rintro e w2 ⟨rfl, hb2⟩
                have HB2 := Lib.hid (HB.out.below hb2)
                clear hb2 HB e0 e1 e2 e3 HC1
                go_wp2_with (go_at_call 13; refine (num_same _ _).mono ?_; rintro e w' ⟨rfl, rfl⟩)
                go_roundw
                case rel => exact ⟨m, z + 1, by omega, by omega, by omega, by omega, rfl, rfl, (fun j hj0 hj1 hj => by
                  by_cases e : j = z
                  · subst e; rw [HBF.out] at hj; cases hj
                  · exact HM.out j hj0 (by omega) hj), HB2.out⟩
                case measure => simp [RowKit.intOf]; omega
              | true =>
                obtain ⟨r, hr⟩ : ∃ r, repB z id = r := ⟨_, rfl⟩
                obtain ⟨E2, hE2⟩ : ∃ E2 : Int, (if r = true then 0 else 1) = E2 := ⟨_, rfl⟩
                have HC1 := Lib.hid (fun W => Check_one z id 0 0 W hi0 hgo (by omega) (by omega) (by rw [err_of, O1, hb]; rfl))
                have HC2 := Lib.hid (fun W => Check_two z id 0 E2 W hi0 hgo (by omega) (by omega) (by rw [err_of, O2, hb, hr, Bool.true_and]; exact hE2))
                have HC3 := Lib.hid (fun W => Check_one z id 1 1 W hi0 hgo (by omega) (by omega) (by rw [err_of, O3]; rfl))
                clear hpl O1 O2 O3 hb
                have hrep := rep_cases z id
                rw [hr] at hrep
                clear hr
                go_wp2_with fail
                refine (HC1.out _).mono ?_
                rintro e w2 ⟨rfl, hb2⟩
                have HB2 := Lib.hid (HB.out.below hb2)
                clear hb2 HB e0 e1 e2 e3 HC1
                obtain ⟨e0, e1, e2, e3⟩ : _ ∧ _ ∧ _ ∧ _ := ⟨HB2.out.out.1.cell 0, HB2.out.out.1.cell 1, HB2.out.out.1.cell 2, HB2.out.out.1.cell 3⟩
                simp only [List.getElem?_toArray, List.getElem?_cons_zero, List.getElem?_cons_succ] at e0 e1 e2 e3
                go_wp2_with (go_at_call 13; refine (num_same _ _).mono ?_; rintro e w' ⟨rfl, rfl⟩)
                refine (HC2.out _).mono ?_
                rintro e w3 ⟨rfl, hb3⟩
                have HB3 := Lib.hid (HB2.out.below hb3)
                clear hb3 HB2 e0 e1 e2 e3 HC2
                obtain ⟨f0, f1, f2, f3⟩ : _ ∧ _ ∧ _ ∧ _ := ⟨HB3.out.out.2.1.cell 0, HB3.out.out.2.1.cell 1, HB3.out.out.2.1.cell 2, HB3.out.out.2.1.cell 3⟩
                simp only [List.getElem?_toArray, List.getElem?_cons_zero, List.getElem?_cons_succ] at f0 f1 f2 f3
                rcases hrep with ⟨rfl, rfl⟩ | ⟨rfl, rfl, rfl⟩ | ⟨n38, n11, rfl⟩ | ⟨rfl, n3, rfl⟩
                · obtain rfl : (0 : Int) = E2 := hE2
                  go_wp2_with (go_at_call 13; refine (num_same _ _).mono ?_; rintro e w' ⟨rfl, rfl⟩)
                  refine (HC3.out _).mono ?_
                  rintro e w4 ⟨rfl, hb4⟩
                  have HB4 := Lib.hid (HB3.out.below hb4)
                  clear hb4 HB3 f0 f1 f2 f3 HC3
                  go_wp2_with (go_at_call 13; refine (num_same _ _).mono ?_; rintro e w' ⟨rfl, rfl⟩)
                  go_roundw
                  case rel => exact ⟨m + 1, z + 1, by omega, by omega, by omega, by omega, rfl, rfl, (fun j _ _ _ => by omega), HB4.out⟩
                  case measure => simp [RowKit.intOf]; omega
                · obtain rfl : (0 : Int) = E2 := hE2
                  go_wp2_with (go_at_call 13; refine (num_same _ _).mono ?_; rintro e w' ⟨rfl, rfl⟩)
                  refine (HC3.out _).mono ?_
                  rintro e w4 ⟨rfl, hb4⟩
                  have HB4 := Lib.hid (HB3.out.below hb4)
                  clear hb4 HB3 f0 f1 f2 f3 HC3
                  go_wp2_with (go_at_call 13; refine (num_same _ _).mono ?_; rintro e w' ⟨rfl, rfl⟩)
                  go_roundw
                  case rel => exact ⟨m + 1, 3 + 1, by omega, by omega, by omega, by omega, rfl, rfl, (fun j _ _ _ => by omega), HB4.out⟩
                  case measure => simp [RowKit.intOf]
                · obtain rfl : (1 : Int) = E2 := hE2
                  replace n38 := ne_false n38
                  replace n11 := ne_false n11
                  go_wp2_with (go_at_call 13; refine (num_same _ _).mono ?_; rintro e w' ⟨rfl, rfl⟩)
                  refine (HC3.out _).mono ?_
                  rintro e w4 ⟨rfl, hb4⟩
                  have HB4 := Lib.hid (HB3.out.below hb4)
                  clear hb4 HB3 f0 f1 f2 f3 HC3
                  go_wp2_with (go_at_call 13; refine (num_same _ _).mono ?_; rintro e w' ⟨rfl, rfl⟩)
                  go_roundw
                  case rel => exact ⟨m + 1, z + 1, by omega, by omega, by omega, by omega, rfl, rfl, (fun j _ _ _ => by omega), HB4.out⟩
                  case measure => simp [RowKit.intOf]; omega
                · obtain rfl : (1 : Int) = E2 := hE2
                  replace n3 := ne_false n3
                  go_wp2_with (go_at_call 13; refine (num_same _ _).mono ?_; rintro e w' ⟨rfl, rfl⟩)
                  refine (HC3.out _).mono ?_
                  rintro e w4 ⟨rfl, hb4⟩
                  have HB4 := Lib.hid (HB3.out.below hb4)
                  clear hb4 HB3 f0 f1 f2 f3 HC3
                  go_wp2_with (go_at_call 13; refine (num_same _ _).mono ?_; rintro e w' ⟨rfl, rfl⟩)
                  go_roundw
                  case rel => exact ⟨m + 1, z + 1, by omega, by omega, by omega, by omega, rfl, rfl, (fun j _ _ _ => by omega), HB4.out⟩
                  case measure => simp [RowKit.intOf]; omega
            · obtain rfl : z = 16 := by omega
              have hm : m ≠ 0 := by
                obtain ⟨j, hj0, hj1, hj⟩ := HS.out
                have := HM.out j hj0 (by omega) hj
                omega
              have bm := ne_false hm
              go_wp2_with fail
              go_roundw
              case rel => exact ⟨id + 1, by omega, by omega, rfl, HB.out.out.2.2⟩
              case measure => simp [RowKit.intOf]; omega
        · go_wp2_with (first | (go_at_call 11; refine (HK.out _).mono ?_; rintro e w' ⟨rfl, rfl⟩) | (go_at_call 13; refine (num_same _ _).mono ?_; rintro e w' ⟨rfl, rfl⟩))
          have HB0 : Hid (Both w wo.heap.size #[.int .i64 id, .int .i64 0, .string ⟨#[]⟩, .string ⟨#[]⟩] (wo.heap.size + 1) #[.int .i64 id, .int .i64 1, .string ⟨#[]⟩, .string ⟨#[]⟩] (((wo.alloc (.cells #[.int .i64 id, .int .i64 0, .string ⟨#[]⟩, .string ⟨#[]⟩] 48)).alloc (.cells #[.int .i64 id, .int .i64 1, .string ⟨#[]⟩, .string ⟨#[]⟩] 48)).alloc (.cells #[.int .i64 0, .int .i64 2, .int .i64 65536, .int .i64 4294967296, .int .i64 268435456, .int .i64 1, .int .i64 1, .int .i64 1] 3))) :=
            (Both.mk (w := w) ((Box.new wo _ _).alloc _) (by have := Box.new (wo.alloc (.cells #[.int .i64 id, .int .i64 0, .string ⟨#[]⟩, .string ⟨#[]⟩] 48)) 48 #[.int .i64 id, .int .i64 1, .string ⟨#[]⟩, .string ⟨#[]⟩]; rwa [show (wo.alloc (.cells #[.int .i64 id, .int .i64 0, .string ⟨#[]⟩, .string ⟨#[]⟩] 48)).heap.size = wo.heap.size + 1 by simp] at this) ((HX.out.alloc HX.out.size _).alloc (Nat.le_trans HX.out.size (by simp)) _)).alloc _
          obtain ⟨g1, hg1⟩ : ∃ g, wo.heap.size = g := ⟨_, rfl⟩
          obtain ⟨g2, hg2⟩ : ∃ g, wo.heap.size + 1 = g := ⟨_, rfl⟩
          rw [hg2, hg1] at HB0
          rw [hg2, hg1]
          clear hg1 hg2 HX HK
          generalize ((wo.alloc (.cells #[.int .i64 id, .int .i64 0, .string ⟨#[]⟩, .string ⟨#[]⟩] 48)).alloc (.cells #[.int .i64 id, .int .i64 1, .string ⟨#[]⟩, .string ⟨#[]⟩] 48)).alloc (.cells #[.int .i64 0, .int .i64 2, .int .i64 65536, .int .i64 4294967296, .int .i64 268435456, .int .i64 1, .int .i64 1, .int .i64 1] 3) = w0 at HB0 ⊢
          go_loopw [8, 9] (fun mv pl wr => ∃ m z : Int, 0 ≤ z ∧ z ≤ 16 ∧ 0 ≤ m ∧ m ≤ z ∧ mv = .int .i64 m ∧ pl = .int .i64 z ∧ (∀ j, 0 ≤ j → j < z → standB j id = true → 1 ≤ m) ∧ Both w g1 #[.int .i64 id, .int .i64 0, .string ⟨#[]⟩, .string ⟨#[]⟩] g2 #[.int .i64 id, .int .i64 1, .string ⟨#[]⟩, .string ⟨#[]⟩] wr) (fun _ pl _ => (16 - RowKit.intOf pl).toNat)
          case atStart => exact ⟨0, 0, by omega, by omega, by omega, by omega, rfl, rfl, fun j _ _ => by omega, HB0.out⟩
          case round =>
            obtain ⟨m, z, hz0, hz1, hm0, hm1, rfl, rfl, hst, hbo⟩ := hrel
            have HM := Lib.hid hst
            have HB := Lib.hid hbo
            clear hst hbo HB0
            by_cases hzz : z ≤ 15
            · have hpl := place_in hz0 hzz
              have O1 := HA1.out z hpl
              have O2 := HA2.out z hpl
              have O3 := HA3.out z
              change propsB z [⟨id, 0, ⟨#[]⟩, ⟨#[]⟩⟩] = _ at O1
              change propsB z [⟨id, 0, ⟨#[]⟩, ⟨#[]⟩⟩, ⟨id, 0, ⟨#[]⟩, ⟨#[]⟩⟩] = _ at O2
              change propsB z [⟨id, 1, ⟨#[]⟩, ⟨#[]⟩⟩] = _ at O3
              obtain ⟨e0, e1, e2, e3⟩ : _ ∧ _ ∧ _ ∧ _ := ⟨HB.out.out.1.cell 0, HB.out.out.1.cell 1, HB.out.out.1.cell 2, HB.out.out.1.cell 3⟩
              simp only [List.getElem?_toArray, List.getElem?_cons_zero, List.getElem?_cons_succ] at e0 e1 e2 e3
              cases hb : standB z id with
              | false =>
                have HC1 := Lib.hid (fun W => Check_one z id 0 1 W hi0 hgo (by omega) (by omega) (by rw [err_of, O1, hb]; rfl))
                have HBF := Lib.hid hb
                clear hpl O1 O2 O3 hb
                go_wp2_with fail
                refine (HC1.out _).mono ?_
                rintro e w2 ⟨rfl, hb2⟩
                have HB2 := Lib.hid (HB.out.below hb2)
                clear hb2 HB e0 e1 e2 e3 HC1
                go_wp2_with (go_at_call 13; refine (num_same _ _).mono ?_; rintro e w' ⟨rfl, rfl⟩)
                go_roundw
                case rel => exact ⟨m, z + 1, by omega, by omega, by omega, by omega, rfl, rfl, (fun j hj0 hj1 hj => by
                  by_cases e : j = z
                  · subst e; rw [HBF.out] at hj; cases hj
                  · exact HM.out j hj0 (by omega) hj), HB2.out⟩
                case measure => simp [RowKit.intOf]; omega
              | true =>
                obtain ⟨r, hr⟩ : ∃ r, repB z id = r := ⟨_, rfl⟩
                obtain ⟨E2, hE2⟩ : ∃ E2 : Int, (if r = true then 0 else 1) = E2 := ⟨_, rfl⟩
                have HC1 := Lib.hid (fun W => Check_one z id 0 0 W hi0 hgo (by omega) (by omega) (by rw [err_of, O1, hb]; rfl))
                have HC2 := Lib.hid (fun W => Check_two z id 0 E2 W hi0 hgo (by omega) (by omega) (by rw [err_of, O2, hb, hr, Bool.true_and]; exact hE2))
                have HC3 := Lib.hid (fun W => Check_one z id 1 1 W hi0 hgo (by omega) (by omega) (by rw [err_of, O3]; rfl))
                clear hpl O1 O2 O3 hb
                have hrep := rep_cases z id
                rw [hr] at hrep
                clear hr
                go_wp2_with fail
                refine (HC1.out _).mono ?_
                rintro e w2 ⟨rfl, hb2⟩
                have HB2 := Lib.hid (HB.out.below hb2)
                clear hb2 HB e0 e1 e2 e3 HC1
                obtain ⟨e0, e1, e2, e3⟩ : _ ∧ _ ∧ _ ∧ _ := ⟨HB2.out.out.1.cell 0, HB2.out.out.1.cell 1, HB2.out.out.1.cell 2, HB2.out.out.1.cell 3⟩
                simp only [List.getElem?_toArray, List.getElem?_cons_zero, List.getElem?_cons_succ] at e0 e1 e2 e3
                go_wp2_with (go_at_call 13; refine (num_same _ _).mono ?_; rintro e w' ⟨rfl, rfl⟩)
                refine (HC2.out _).mono ?_
                rintro e w3 ⟨rfl, hb3⟩
                have HB3 := Lib.hid (HB2.out.below hb3)
                clear hb3 HB2 e0 e1 e2 e3 HC2
                obtain ⟨f0, f1, f2, f3⟩ : _ ∧ _ ∧ _ ∧ _ := ⟨HB3.out.out.2.1.cell 0, HB3.out.out.2.1.cell 1, HB3.out.out.2.1.cell 2, HB3.out.out.2.1.cell 3⟩
                simp only [List.getElem?_toArray, List.getElem?_cons_zero, List.getElem?_cons_succ] at f0 f1 f2 f3
                rcases hrep with ⟨rfl, rfl⟩ | ⟨rfl, rfl, rfl⟩ | ⟨n38, n11, rfl⟩ | ⟨rfl, n3, rfl⟩
                · obtain rfl : (0 : Int) = E2 := hE2
                  go_wp2_with (go_at_call 13; refine (num_same _ _).mono ?_; rintro e w' ⟨rfl, rfl⟩)
                  refine (HC3.out _).mono ?_
                  rintro e w4 ⟨rfl, hb4⟩
                  have HB4 := Lib.hid (HB3.out.below hb4)
                  clear hb4 HB3 f0 f1 f2 f3 HC3
                  go_wp2_with (go_at_call 13; refine (num_same _ _).mono ?_; rintro e w' ⟨rfl, rfl⟩)
                  go_roundw
                  case rel => exact ⟨m + 1, z + 1, by omega, by omega, by omega, by omega, rfl, rfl, (fun j _ _ _ => by omega), HB4.out⟩
                  case measure => simp [RowKit.intOf]; omega
                · obtain rfl : (0 : Int) = E2 := hE2
                  go_wp2_with (go_at_call 13; refine (num_same _ _).mono ?_; rintro e w' ⟨rfl, rfl⟩)
                  refine (HC3.out _).mono ?_
                  rintro e w4 ⟨rfl, hb4⟩
                  have HB4 := Lib.hid (HB3.out.below hb4)
                  clear hb4 HB3 f0 f1 f2 f3 HC3
                  go_wp2_with (go_at_call 13; refine (num_same _ _).mono ?_; rintro e w' ⟨rfl, rfl⟩)
                  go_roundw
                  case rel => exact ⟨m + 1, 3 + 1, by omega, by omega, by omega, by omega, rfl, rfl, (fun j _ _ _ => by omega), HB4.out⟩
                  case measure => simp [RowKit.intOf]
                · obtain rfl : (1 : Int) = E2 := hE2
                  replace n38 := ne_false n38
                  replace n11 := ne_false n11
                  go_wp2_with (go_at_call 13; refine (num_same _ _).mono ?_; rintro e w' ⟨rfl, rfl⟩)
                  refine (HC3.out _).mono ?_
                  rintro e w4 ⟨rfl, hb4⟩
                  have HB4 := Lib.hid (HB3.out.below hb4)
                  clear hb4 HB3 f0 f1 f2 f3 HC3
                  go_wp2_with (go_at_call 13; refine (num_same _ _).mono ?_; rintro e w' ⟨rfl, rfl⟩)
                  go_roundw
                  case rel => exact ⟨m + 1, z + 1, by omega, by omega, by omega, by omega, rfl, rfl, (fun j _ _ _ => by omega), HB4.out⟩
                  case measure => simp [RowKit.intOf]; omega
                · obtain rfl : (1 : Int) = E2 := hE2
                  replace n3 := ne_false n3
                  go_wp2_with (go_at_call 13; refine (num_same _ _).mono ?_; rintro e w' ⟨rfl, rfl⟩)
                  refine (HC3.out _).mono ?_
                  rintro e w4 ⟨rfl, hb4⟩
                  have HB4 := Lib.hid (HB3.out.below hb4)
                  clear hb4 HB3 f0 f1 f2 f3 HC3
                  go_wp2_with (go_at_call 13; refine (num_same _ _).mono ?_; rintro e w' ⟨rfl, rfl⟩)
                  go_roundw
                  case rel => exact ⟨m + 1, z + 1, by omega, by omega, by omega, by omega, rfl, rfl, (fun j _ _ _ => by omega), HB4.out⟩
                  case measure => simp [RowKit.intOf]; omega
            · obtain rfl : z = 16 := by omega
              have hm : m ≠ 0 := by
                obtain ⟨j, hj0, hj1, hj⟩ := HS.out
                have := HM.out j hj0 (by omega) hj
                omega
              have bm := ne_false hm
              go_wp2_with fail
              go_roundw
              case rel => exact ⟨id + 1, by omega, by omega, rfl, HB.out.out.2.2⟩
              case measure => simp [RowKit.intOf]; omega
        · go_wp2_with (first | (go_at_call 11; refine (HK.out _).mono ?_; rintro e w' ⟨rfl, rfl⟩) | (go_at_call 13; refine (num_same _ _).mono ?_; rintro e w' ⟨rfl, rfl⟩))
          have HB0 : Hid (Both w wo.heap.size #[.int .i64 id, .int .i64 0, .string ⟨#[]⟩, .string ⟨#[]⟩] (wo.heap.size + 1) #[.int .i64 id, .int .i64 1, .string ⟨#[]⟩, .string ⟨#[]⟩] (((wo.alloc (.cells #[.int .i64 id, .int .i64 0, .string ⟨#[]⟩, .string ⟨#[]⟩] 48)).alloc (.cells #[.int .i64 id, .int .i64 1, .string ⟨#[]⟩, .string ⟨#[]⟩] 48)).alloc (.cells #[.int .i64 0, .int .i64 2, .int .i64 65536, .int .i64 4294967296, .int .i64 268435456, .int .i64 1, .int .i64 1, .int .i64 1] 3))) :=
            (Both.mk (w := w) ((Box.new wo _ _).alloc _) (by have := Box.new (wo.alloc (.cells #[.int .i64 id, .int .i64 0, .string ⟨#[]⟩, .string ⟨#[]⟩] 48)) 48 #[.int .i64 id, .int .i64 1, .string ⟨#[]⟩, .string ⟨#[]⟩]; rwa [show (wo.alloc (.cells #[.int .i64 id, .int .i64 0, .string ⟨#[]⟩, .string ⟨#[]⟩] 48)).heap.size = wo.heap.size + 1 by simp] at this) ((HX.out.alloc HX.out.size _).alloc (Nat.le_trans HX.out.size (by simp)) _)).alloc _
          obtain ⟨g1, hg1⟩ : ∃ g, wo.heap.size = g := ⟨_, rfl⟩
          obtain ⟨g2, hg2⟩ : ∃ g, wo.heap.size + 1 = g := ⟨_, rfl⟩
          rw [hg2, hg1] at HB0
          rw [hg2, hg1]
          clear hg1 hg2 HX HK
          generalize ((wo.alloc (.cells #[.int .i64 id, .int .i64 0, .string ⟨#[]⟩, .string ⟨#[]⟩] 48)).alloc (.cells #[.int .i64 id, .int .i64 1, .string ⟨#[]⟩, .string ⟨#[]⟩] 48)).alloc (.cells #[.int .i64 0, .int .i64 2, .int .i64 65536, .int .i64 4294967296, .int .i64 268435456, .int .i64 1, .int .i64 1, .int .i64 1] 3) = w0 at HB0 ⊢
          go_loopw [8, 9] (fun mv pl wr => ∃ m z : Int, 0 ≤ z ∧ z ≤ 16 ∧ 0 ≤ m ∧ m ≤ z ∧ mv = .int .i64 m ∧ pl = .int .i64 z ∧ (∀ j, 0 ≤ j → j < z → standB j id = true → 1 ≤ m) ∧ Both w g1 #[.int .i64 id, .int .i64 0, .string ⟨#[]⟩, .string ⟨#[]⟩] g2 #[.int .i64 id, .int .i64 1, .string ⟨#[]⟩, .string ⟨#[]⟩] wr) (fun _ pl _ => (16 - RowKit.intOf pl).toNat)
          case atStart => exact ⟨0, 0, by omega, by omega, by omega, by omega, rfl, rfl, fun j _ _ => by omega, HB0.out⟩
          case round =>
            obtain ⟨m, z, hz0, hz1, hm0, hm1, rfl, rfl, hst, hbo⟩ := hrel
            have HM := Lib.hid hst
            have HB := Lib.hid hbo
            clear hst hbo HB0
            by_cases hzz : z ≤ 15
            · have hpl := place_in hz0 hzz
              have O1 := HA1.out z hpl
              have O2 := HA2.out z hpl
              have O3 := HA3.out z
              change propsB z [⟨id, 0, ⟨#[]⟩, ⟨#[]⟩⟩] = _ at O1
              change propsB z [⟨id, 0, ⟨#[]⟩, ⟨#[]⟩⟩, ⟨id, 0, ⟨#[]⟩, ⟨#[]⟩⟩] = _ at O2
              change propsB z [⟨id, 1, ⟨#[]⟩, ⟨#[]⟩⟩] = _ at O3
              obtain ⟨e0, e1, e2, e3⟩ : _ ∧ _ ∧ _ ∧ _ := ⟨HB.out.out.1.cell 0, HB.out.out.1.cell 1, HB.out.out.1.cell 2, HB.out.out.1.cell 3⟩
              simp only [List.getElem?_toArray, List.getElem?_cons_zero, List.getElem?_cons_succ] at e0 e1 e2 e3
              cases hb : standB z id with
              | false =>
                have HC1 := Lib.hid (fun W => Check_one z id 0 1 W hi0 hgo (by omega) (by omega) (by rw [err_of, O1, hb]; rfl))
                have HBF := Lib.hid hb
                clear hpl O1 O2 O3 hb
                go_wp2_with fail
                refine (HC1.out _).mono ?_
                rintro e w2 ⟨rfl, hb2⟩
                have HB2 := Lib.hid (HB.out.below hb2)
                clear hb2 HB e0 e1 e2 e3 HC1
                go_wp2_with (go_at_call 13; refine (num_same _ _).mono ?_; rintro e w' ⟨rfl, rfl⟩)
                go_roundw
                case rel => exact ⟨m, z + 1, by omega, by omega, by omega, by omega, rfl, rfl, (fun j hj0 hj1 hj => by
                  by_cases e : j = z
                  · subst e; rw [HBF.out] at hj; cases hj
                  · exact HM.out j hj0 (by omega) hj), HB2.out⟩
                case measure => simp [RowKit.intOf]; omega
              | true =>
                obtain ⟨r, hr⟩ : ∃ r, repB z id = r := ⟨_, rfl⟩
                obtain ⟨E2, hE2⟩ : ∃ E2 : Int, (if r = true then 0 else 1) = E2 := ⟨_, rfl⟩
                have HC1 := Lib.hid (fun W => Check_one z id 0 0 W hi0 hgo (by omega) (by omega) (by rw [err_of, O1, hb]; rfl))
                have HC2 := Lib.hid (fun W => Check_two z id 0 E2 W hi0 hgo (by omega) (by omega) (by rw [err_of, O2, hb, hr, Bool.true_and]; exact hE2))
                have HC3 := Lib.hid (fun W => Check_one z id 1 1 W hi0 hgo (by omega) (by omega) (by rw [err_of, O3]; rfl))
                clear hpl O1 O2 O3 hb
                have hrep := rep_cases z id
                rw [hr] at hrep
                clear hr
                go_wp2_with fail
                refine (HC1.out _).mono ?_
                rintro e w2 ⟨rfl, hb2⟩
                have HB2 := Lib.hid (HB.out.below hb2)
                clear hb2 HB e0 e1 e2 e3 HC1
                obtain ⟨e0, e1, e2, e3⟩ : _ ∧ _ ∧ _ ∧ _ := ⟨HB2.out.out.1.cell 0, HB2.out.out.1.cell 1, HB2.out.out.1.cell 2, HB2.out.out.1.cell 3⟩
                simp only [List.getElem?_toArray, List.getElem?_cons_zero, List.getElem?_cons_succ] at e0 e1 e2 e3
                go_wp2_with (go_at_call 13; refine (num_same _ _).mono ?_; rintro e w' ⟨rfl, rfl⟩)
                refine (HC2.out _).mono ?_
                rintro e w3 ⟨rfl, hb3⟩
                have HB3 := Lib.hid (HB2.out.below hb3)
                clear hb3 HB2 e0 e1 e2 e3 HC2
                obtain ⟨f0, f1, f2, f3⟩ : _ ∧ _ ∧ _ ∧ _ := ⟨HB3.out.out.2.1.cell 0, HB3.out.out.2.1.cell 1, HB3.out.out.2.1.cell 2, HB3.out.out.2.1.cell 3⟩
                simp only [List.getElem?_toArray, List.getElem?_cons_zero, List.getElem?_cons_succ] at f0 f1 f2 f3
                rcases hrep with ⟨rfl, rfl⟩ | ⟨rfl, rfl, rfl⟩ | ⟨n38, n11, rfl⟩ | ⟨rfl, n3, rfl⟩
                · obtain rfl : (0 : Int) = E2 := hE2
                  go_wp2_with (go_at_call 13; refine (num_same _ _).mono ?_; rintro e w' ⟨rfl, rfl⟩)
                  refine (HC3.out _).mono ?_
                  rintro e w4 ⟨rfl, hb4⟩
                  have HB4 := Lib.hid (HB3.out.below hb4)
                  clear hb4 HB3 f0 f1 f2 f3 HC3
                  go_wp2_with (go_at_call 13; refine (num_same _ _).mono ?_; rintro e w' ⟨rfl, rfl⟩)
                  go_roundw
                  case rel => exact ⟨m + 1, z + 1, by omega, by omega, by omega, by omega, rfl, rfl, (fun j _ _ _ => by omega), HB4.out⟩
                  case measure => simp [RowKit.intOf]; omega
                · obtain rfl : (0 : Int) = E2 := hE2
                  go_wp2_with (go_at_call 13; refine (num_same _ _).mono ?_; rintro e w' ⟨rfl, rfl⟩)
                  refine (HC3.out _).mono ?_
                  rintro e w4 ⟨rfl, hb4⟩
                  have HB4 := Lib.hid (HB3.out.below hb4)
                  clear hb4 HB3 f0 f1 f2 f3 HC3
                  go_wp2_with (go_at_call 13; refine (num_same _ _).mono ?_; rintro e w' ⟨rfl, rfl⟩)
                  go_roundw
                  case rel => exact ⟨m + 1, 3 + 1, by omega, by omega, by omega, by omega, rfl, rfl, (fun j _ _ _ => by omega), HB4.out⟩
                  case measure => simp [RowKit.intOf]
                · obtain rfl : (1 : Int) = E2 := hE2
                  replace n38 := ne_false n38
                  replace n11 := ne_false n11
                  go_wp2_with (go_at_call 13; refine (num_same _ _).mono ?_; rintro e w' ⟨rfl, rfl⟩)
                  refine (HC3.out _).mono ?_
                  rintro e w4 ⟨rfl, hb4⟩
                  have HB4 := Lib.hid (HB3.out.below hb4)
                  clear hb4 HB3 f0 f1 f2 f3 HC3
                  go_wp2_with (go_at_call 13; refine (num_same _ _).mono ?_; rintro e w' ⟨rfl, rfl⟩)
                  go_roundw
                  case rel => exact ⟨m + 1, z + 1, by omega, by omega, by omega, by omega, rfl, rfl, (fun j _ _ _ => by omega), HB4.out⟩
                  case measure => simp [RowKit.intOf]; omega
                · obtain rfl : (1 : Int) = E2 := hE2
                  replace n3 := ne_false n3
                  go_wp2_with (go_at_call 13; refine (num_same _ _).mono ?_; rintro e w' ⟨rfl, rfl⟩)
                  refine (HC3.out _).mono ?_
                  rintro e w4 ⟨rfl, hb4⟩
                  have HB4 := Lib.hid (HB3.out.below hb4)
                  clear hb4 HB3 f0 f1 f2 f3 HC3
                  go_wp2_with (go_at_call 13; refine (num_same _ _).mono ?_; rintro e w' ⟨rfl, rfl⟩)
                  go_roundw
                  case rel => exact ⟨m + 1, z + 1, by omega, by omega, by omega, by omega, rfl, rfl, (fun j _ _ _ => by omega), HB4.out⟩
                  case measure => simp [RowKit.intOf]; omega
            · obtain rfl : z = 16 := by omega
              have hm : m ≠ 0 := by
                obtain ⟨j, hj0, hj1, hj⟩ := HS.out
                have := HM.out j hj0 (by omega) hj
                omega
              have bm := ne_false hm
              go_wp2_with fail
              go_roundw
              case rel => exact ⟨id + 1, by omega, by omega, rfl, HB.out.out.2.2⟩
              case measure => simp [RowKit.intOf]; omega
    · have hd : decide (id ≤ 42) = false := by simp; omega
      go_wp2_with (go_at_call 14; refine (wakes_any _).mono ?_; rintro e w1 ⟨rfl, hb1⟩)
      all_goals (go_ret; exact ⟨rfl, HX.out.trans (hb1.mono HX.out.size)⟩)
end Go.Proofs.Ythjlbdplhhgcpaa
