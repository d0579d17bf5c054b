/- Package subs: one more subscription, or one in the place of another. -/
import Derived.Test.YtdogeljlcnlbkaaSubCheck
import Derived.Test.YtdogeljlcnlbkaaSubCopies
namespace Go.Proofs.Ytdogeljlcnlbkaa.Sbs
open Go.RowKit Go.Lib Txt Nam

/-- What Put tells: subscriptions in a row of the call's own, whether one was there, an error. -/
def GivesPut (l : List Sb) (was : Bool) (w : World) (e : Ending) (w' : World) : Prop :=
  ∃ A c, e = .returned (.tuple #[.slice A l.length c, .bool was, .int .i64 0]) ∧ w'.ownsRow w.heap.size 33 9 (.slice A l.length c) l.length (flat l) ∧ Below w.heap.size w w'
theorem own_low {w : World} {B B' e size n : Nat} {v : Value} {xs : List Value} (h : w.ownsRow B e size v n xs) (hB : B' ≤ B) : w.ownsRow B' e size v n xs := by
  refine ⟨h.1, ?_⟩
  rcases h.2 with h2 | ⟨g, cap, cur, h1, h2, h3⟩
  · exact .inl h2
  · exact .inr ⟨g, cap, cur, h1, Nat.le_trans hB h2, h3⟩
theorem round_new {w : World} {A : Option Addr} {l : List Sb} (s : Sb) (h : SubsAt w w.heap.size A l) : Round w A l w.heap.size s (w.alloc (.cells (sarr (str s.t) s.q) 33)) :=
  .mk ⟨Blk.new w 33 (scells s).toArray, h.alloc (Nat.le_refl _) _, (Below.refl _ _).alloc (Nat.le_refl _) _⟩
theorem Round.load {w W : World} {A : Option Addr} {l : List Sb} {g : Nat} {s : Sb} (r : Round w A l g s W) : (loadVar 33 ⟨g, 0, none⟩).run Try.prog W = .ok (sagg s) W := load_blk r.out.1 rfl
theorem Round.topic {w W : World} {A : Option Addr} {l : List Sb} {g : Nat} {s : Sb} (r : Round w A l g s W) : W.cell? ⟨g, 0, none⟩ = some (.string (str s.t)) := r.out.1.cell 0

set_option maxRecDepth 100000 in
set_option maxHeartbeats 4000000 in
/-- subs.Put, of one too many. -/
theorem Put_full (l : List Sb) (s : Sb) (A : Option Addr) (c : Nat) (a : Nat) (w : World) (h : SubsAt w w.heap.size A l) (hm : May l) (hs : Fine s) (hp : Place l s.t a false) (h8 : l.length = 8) :
    Calls Try.prog 4 #[.slice A l.length c, sagg s] w fun e w' => e = .returned (.tuple #[.slice none 0 0, .bool false, .int .i64 5]) ∧ Below w.heap.size w w' := by
  have hl := hm.few
  have h8I : ((l.length : Int) == 8) = true := by rw [beq_iff_eq]; omega
  clear h8
  have R0 := Lib.hid (round_new s h)
  have HCk := Lib.hid (fun g W (r : Round w A l g s W) => Check_is l A c W (r.out.2.1.mono r.out.2.2.size) hm)
  have HMB := Lib.hid (fun W => mayBe_is s W hs)
  have HSe := Lib.hid (fun g W (r : Round w A l g s W) => search_is l A c s.t a false W (by omega) (r.out.2.1.mono r.out.2.2.size) hp)
  have HCs := Lib.hid (fun g W (r : Round w A l g s W) => copies_is l A c W (by omega) (fun s hs => (hm.fine s hs).len) (r.out.2.1.mono r.out.2.2.size))
  have HK := Lib.hid (fun W => copyOf_is s W hs.len)
  have HP := Lib.hid hp
  clear h hm hs hp
  obtain ⟨W0, hW⟩ : ∃ W0, w.alloc (.cells (sarr (str s.t) s.q) 33) = W0 := ⟨_, rfl⟩
  rw [hW] at R0
  unfold sarr at hW
  have HW := Lib.hid hW
  clear hW
  have HSA : Hid (sagg s = .agg (sarr (str s.t) s.q)) := rfl
  rw [HSA.out]
  unfold sarr
  go_enter Try.func4, Try.ntmps4
  go_upto_region 1 with fail
  rw [HW.out]
  clear HW
  generalize Value.agg _ = v1
  obtain ⟨g, hg⟩ : ∃ g, w.heap.size = g := ⟨_, rfl⟩
  rw [hg] at R0 ⊢
  clear hg
  go_wp2_with fail
  refine (HCk.out g _ R0.out).mono ?_
  rintro e w1 ⟨rfl, hb1⟩
  have R1 := Lib.hid (R0.out.below hb1)
  have hld := R1.out.load
  clear R0 HCk hb1
  go_wp2_with (refine wpList_load_any (by rfl) 33 (.tmp 3) rfl g 0 rfl _ hld ?_; simp only [Act.put])
  refine (HMB.out _).mono ?_
  rintro e w2 ⟨rfl, hb2⟩
  have R2 := Lib.hid (R1.out.below hb2)
  have d0 := R2.out.topic
  clear R1 HMB hb2 hld
  go_wp2_with fail
  refine (HSe.out g _ R2.out).mono ?_
  rintro e w3 ⟨rfl, hb3⟩
  have R3 := Lib.hid (R2.out.below hb3)
  clear R2 HSe hb3 d0
  go_wp2_with fail
  refine bodyPost_ret (v := .tuple #[.slice none 0 0, .bool false, .int .i64 5]) (by simp [results, Try.results4, go_sem]) rfl ⟨rfl, R3.out.out.2.2⟩

set_option maxRecDepth 100000 in
set_option maxHeartbeats 4000000 in
/-- subs.Put, of one behind all others. -/
theorem Put_new (l : List Sb) (s : Sb) (A : Option Addr) (c : Nat) (w : World) (h : SubsAt w w.heap.size A l) (hm : May l) (hs : Fine s) (hp : Place l s.t l.length false) (h8 : l.length < 8) :
    Calls Try.prog 4 #[.slice A l.length c, sagg s] w (GivesPut (l ++ [s]) false w) := by
  have hl := hm.few
  have h8I : ((l.length : Int) == 8) = false := by rw [beq_eq_false_iff_ne]; omega
  clear h8
  have R0 := Lib.hid (round_new s h)
  have HCk := Lib.hid (fun g W (r : Round w A l g s W) => Check_is l A c W (r.out.2.1.mono r.out.2.2.size) hm)
  have HMB := Lib.hid (fun W => mayBe_is s W hs)
  have HSe := Lib.hid (fun g W (r : Round w A l g s W) => search_is l A c s.t l.length false W (by omega) (r.out.2.1.mono r.out.2.2.size) hp)
  have HCs := Lib.hid (fun g W (r : Round w A l g s W) => copies_is l A c W (by omega) (fun s hs => (hm.fine s hs).len) (r.out.2.1.mono r.out.2.2.size))
  have HK := Lib.hid (fun W => copyOf_is s W hs.len)
  have HP := Lib.hid hp
  clear h hm hs hp
  obtain ⟨W0, hW⟩ : ∃ W0, w.alloc (.cells (sarr (str s.t) s.q) 33) = W0 := ⟨_, rfl⟩
  rw [hW] at R0
  unfold sarr at hW
  have HW := Lib.hid hW
  clear hW
  have HSA : Hid (sagg s = .agg (sarr (str s.t) s.q)) := rfl
  rw [HSA.out]
  unfold sarr
  go_enter Try.func4, Try.ntmps4
  go_upto_region 1 with fail
  rw [HW.out]
  clear HW
  generalize Value.agg _ = v1
  obtain ⟨g, hg⟩ : ∃ g, w.heap.size = g := ⟨_, rfl⟩
  rw [hg] at R0 ⊢
  clear hg
  go_wp2_with fail
  refine (HCk.out g _ R0.out).mono ?_
  rintro e w1 ⟨rfl, hb1⟩
  have R1 := Lib.hid (R0.out.below hb1)
  have hld := R1.out.load
  clear R0 HCk hb1
  go_wp2_with (refine wpList_load_any (by rfl) 33 (.tmp 3) rfl g 0 rfl _ hld ?_; simp only [Act.put])
  refine (HMB.out _).mono ?_
  rintro e w2 ⟨rfl, hb2⟩
  have R2 := Lib.hid (R1.out.below hb2)
  have d0 := R2.out.topic
  clear R1 HMB hb2 hld
  go_wp2_with fail
  refine (HSe.out g _ R2.out).mono ?_
  rintro e w3 ⟨rfl, hb3⟩
  have R3 := Lib.hid (R2.out.below hb3)
  clear R2 HSe hb3 d0
  go_wp2_with fail
  refine (HCs.out g _ R3.out).mono ?_
  rintro e w4 ⟨A4, c4, rfl, hown, hb4⟩
  have R4 := Lib.hid (R3.out.below hb4)
  have HO := Lib.hid hown
  have hld := R4.out.load
  have hsz := hb4.size
  have R3s := Lib.hid R3.out.out.2.2.size
  clear R3 HCs hown hb4
  go_wp2_with (refine wpList_load_any (by rfl) 33 (.tmp 3) rfl g 0 rfl _ hld ?_; simp only [Act.put])
  refine (HK.out _).mono ?_
  rintro e w5 ⟨rfl, hb5⟩
  have R5 := Lib.hid (R4.out.below hb5)
  have HO5 := Lib.hid (own_below HO.out hb5)
  have hsz5 := hb5.size
  clear R4 HK HO hb5 hld
  rw [HSA.out]
  unfold sarr
  go_wp2_with fail
  have hb6 : Below w5.heap.size w5 (w5.alloc (.cells (sarr (str s.t) s.q) 33)) := (Below.refl _ _).alloc (Nat.le_refl _) _
  have HI := Lib.hid (Insert_end l s A4 c4 w5.heap.size w3.heap.size (w5.alloc (.cells (sarr (str s.t) s.q) 33)) (by simp; omega) (by omega) (own_below HO5.out hb6) (Blk.new w5 33 (scells s).toArray))
  have R6 := Lib.hid (R5.out.below hb6)
  refine HI.out.mono ?_
  rintro e w7 ⟨A7, c7, rfl, hown7, hb7⟩
  have HO7 := Lib.hid hown7
  have HX7 := Lib.hid (R6.out.out.2.2.trans (hb7.mono (by have := R3s.out; omega)))
  clear hown7 hb7 hb6 HI R6 R5 HO5
  go_wp2_with fail
  refine bodyPost_ret (v := .tuple #[.slice A7 (l ++ [s]).length c7, .bool false, .int .i64 0]) (by simp [results, Try.results4, go_sem]) rfl ⟨A7, c7, rfl, own_low HO7.out R3s.out, HX7.out⟩
end Go.Proofs.Ytdogeljlcnlbkaa.Sbs
