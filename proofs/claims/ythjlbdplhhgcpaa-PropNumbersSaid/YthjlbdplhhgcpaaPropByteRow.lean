/- The bytes of a string in a row of the call's own; one of them written; the row as a string again. One property in a literal slice. -/
import Derived.Test.YthjlbdplhhgcpaaPropTakes
import Derived.Test.YthjlbdplhhgcpaaPropRBytes
import Derived.Test.YthjlbdplhhgcpaaPropLawBytes
import Derived.Laws.IdiomStrings
import Derived.Laws.BitsAllLaws
import Derived.Lib.Strings
namespace Go.Proofs.Ythjlbdplhhgcpaa
open Go.RowKit Go.Lib Prp Vbi

/-- The bytes of a string, in a row of the call's own. -/
def RowOf (W : World) (g : Nat) (l : List UInt8) : Prop := g < W.heap.size ∧ ∀ j, j < l.length → W.cell? ⟨g, j, none⟩ = some (.int .u8 (((l.getD j 0).toNat : Nat) : Int)) ∧ W.frozen? ⟨g, j, none⟩ = false
theorem row_conv (b : ByteArray) (w : World) : ∃ c W1, (convert 9 53 (.string b)).run Try.prog w = .ok (.slice (some ⟨w.heap.size, 0, none⟩) b.size c) W1 ∧ RowOf W1 w.heap.size b.data.toList ∧ Below w.heap.size w W1 := by
  refine ⟨_, _, run_bytes_of_string (P := Try.prog) w 9 53 5 b Try.underlying9 Try.underlying53 Try.underlying5, ⟨by simp, fun j hj => ⟨?_, ?_⟩⟩, ?_⟩
  · have hj' : j < b.data.size := by simpa using hj
    have h1 := bytesRow_at b (grownCap w b.size 0 5) j hj'
    refine (World.cell?_alloc_mark w.drew _ _ _ j).trans ?_
    rw [h1, List.getD_eq_getElem?_getD, List.getElem?_eq_getElem hj]
    simp
  · refine (World.frozen?_alloc_mark w.drew _ _ _ _ j).trans ?_
    have h2 : j < (bytesRow b (grownCap w b.size 0 5)).size := by
      have hj' : j < b.data.size := by simpa using hj
      have h3 : (bytesRow b (grownCap w b.size 0 5)).size = b.data.size + (grownCap w b.size 0 5 - b.size) := by unfold bytesRow; simp
      omega
    rw [decide_eq_false (by omega)]
    rfl
  · exact ((Below.refl _ _).drew).alloc (Nat.le_refl _) _
theorem RowOf.below {W W' : World} {g : Nat} {l : List UInt8} (h : RowOf W g l) (hb : Below W.heap.size W W') : RowOf W' g l :=
  ⟨Nat.lt_of_lt_of_le h.1 hb.size, fun j hj => ⟨(hb.cell (p := ⟨g, j, none⟩) h.1).trans (h.2 j hj).1, (hb.frozen (p := ⟨g, j, none⟩) h.1).trans (h.2 j hj).2⟩⟩
theorem RowOf.put {W : World} {g : Nat} {l : List UInt8} (h : RowOf W g l) (a : Nat) (v : UInt8) : RowOf (W.setCell ⟨g, a, none⟩ (.int .u8 ((v.toNat : Nat) : Int))) g (l.set a v) := by
  refine ⟨by simpa [World.setCell] using h.1, fun j hj => ?_⟩
  have hj' : j < l.length := by simpa using hj
  have h2 := h.2 j hj'
  refine ⟨?_, ?_⟩
  · by_cases hja : j = a
    · subst hja
      rw [World.cell?_setCell_same W _ _ h2.1, List.getD_eq_getElem?_getD, List.getElem?_set_self hj']
      rfl
    · rw [World.cell?_setCell_other W _ _ _ (by intro e; injection e with _ e _; exact hja e.symm), h2.1, List.getD_eq_getElem?_getD, List.getD_eq_getElem?_getD, List.getElem?_set_ne (Ne.symm hja)]
  · rw [World.frozen?_setCell]
    exact h2.2
theorem RowOf.conv {W : World} {g n c : Nat} {l : List UInt8} (h : RowOf W g l) (hn : l.length = n) :
    (convert 53 9 (.slice (some ⟨g, 0, none⟩) n c)).run Try.prog W = .ok (.string ⟨l.toArray⟩) W := by
  subst hn
  refine run_convert_bytes_back W 53 9 5 ⟨g, 0, none⟩ c l Try.underlying53 Try.underlying5 Try.underlying9 fun j hj => ?_
  rw [add_new, (h.2 j hj).1, List.getD_eq_getElem?_getD, List.getElem?_eq_getElem hj]
  rfl
theorem row_size (l : List UInt8) : (ByteArray.mk l.toArray).size = l.length := List.size_toArray
theorem xor_any (u : UInt8) (y : Int) : ∃ u' : UInt8, bits .xor .u8 ((u.toNat : Nat) : Int) (y % 256) = ((u'.toNat : Nat) : Int) := by
  obtain ⟨m, hm⟩ := Int.eq_ofNat_of_zero_le (show 0 ≤ y % 256 by omega)
  have hm2 : m < 256 := by omega
  refine ⟨UInt8.ofNat (u.toNat ^^^ m), ?_⟩
  have hx : u.toNat ^^^ m < 2 ^ 8 := Nat.xor_lt_two_pow (by have := u.toNat_lt; omega) (by omega)
  rw [hm, UInt8.toNat_ofNat_of_lt' hx]
  exact u8_xor_nat u.toNat m (by have := u.toNat_lt; omega) hm2

/-! ### one property in a literal slice -/
theorem one_lit (W : World) (p : P) (T : TypeId) : PropsAt (W.alloc (.cells #[.int .i64 p.id, .int .i64 p.n, .string p.s, .string p.v] T)) (W.alloc (.cells #[.int .i64 p.id, .int .i64 p.n, .string p.s, .string p.v] T)).heap.size (some ⟨W.heap.size, 0, none⟩) [p] := by
  refine .inr ⟨W.heap.size, 0, rfl, by simp, fun j hj => ?_⟩
  obtain rfl : j = 0 := by simpa using hj
  have hb := Box.new W T #[.int .i64 p.id, .int .i64 p.n, .string p.s, .string p.v]
  exact ⟨hb.cell 0, hb.cell 1, hb.cell 2, hb.cell 3⟩
theorem Bytes_one (place id n : Int) (s v S : ByteArray) (E : Int) (w : World) (hf : Fit ⟨id, n, s, v⟩) (hS : bytesStr place [⟨id, n, s, v⟩] = S) (hE : bytesErr place [⟨id, n, s, v⟩] = E) :
    Calls Try.prog 17 #[.int .i64 place, .slice (some ⟨w.heap.size, 0, none⟩) 1 1] (w.alloc (.cells #[.int .i64 id, .int .i64 n, .string s, .string v] 48)) fun e w' => e = .returned (.tuple #[.string S, .int .i64 E]) ∧ Below w.heap.size w w' :=
  (Bytes_is place [⟨id, n, s, v⟩] _ 1 S E _ (by simp) (by simp) (fun p hp => by obtain rfl := List.mem_singleton.1 hp; exact hf) (one_lit w ⟨id, n, s, v⟩ _) hS hE).mono fun _ _ ⟨a, b⟩ => ⟨a, ((Below.refl _ _).alloc (Nat.le_refl _) _).trans (b.mono (by simp))⟩
theorem RProps_one (place id n : Int) (s v : ByteArray) (z : Bool) (w : World) (hf : Fit ⟨id, n, s, v⟩) (hz : propsB place [⟨id, n, s, v⟩] = z) :
    Calls Try.prog 18 #[.int .i64 place, .slice (some ⟨w.heap.size, 0, none⟩) 1 1] (w.alloc (.cells #[.int .i64 id, .int .i64 n, .string s, .string v] 48)) fun e w' => e = .returned (.bool z) ∧ Below w.heap.size w w' :=
  (RProps_is place [⟨id, n, s, v⟩] _ 1 z _ (by simp) (by simp) (fun p hp => by obtain rfl := List.mem_singleton.1 hp; exact hf) (one_lit w ⟨id, n, s, v⟩ _) hz).mono fun _ _ ⟨a, b⟩ => ⟨a, ((Below.refl _ _).alloc (Nat.le_refl _) _).trans (b.mono (by simp))⟩
theorem RBytes_one (place id n : Int) (s v S : ByteArray) (w : World) (hz : propsB place [⟨id, n, s, v⟩] = true) (hS : bytesStr place [⟨id, n, s, v⟩] = S) :
    Calls Try.prog 19 #[.slice (some ⟨w.heap.size, 0, none⟩) 1 1] (w.alloc (.cells #[.int .i64 id, .int .i64 n, .string s, .string v] 48)) fun e w' => e = .returned (.string S) ∧ Below w.heap.size w w' :=
  (RPropBytes_is [⟨id, n, s, v⟩] _ 1 S _ (props_ok hz).1 (props_ok hz).2 (one_lit w ⟨id, n, s, v⟩ _) ((bytes_yes hz).1.symm.trans hS)).mono fun _ _ ⟨a, b⟩ => ⟨a, ((Below.refl _ _).alloc (Nat.le_refl _) _).trans (b.mono (by simp))⟩
theorem one_str_size (place id n : Int) (s v S : ByteArray) (hS : bytesStr place [⟨id, n, s, v⟩] = S) : S.size ≤ 10000 := by
  cases hz : propsB place [⟨id, n, s, v⟩] with
  | false => rw [← hS, (bytes_no hz).1]; exact Nat.zero_le _
  | true =>
    have ho := (props_ok hz).2 ⟨id, n, s, v⟩ (List.mem_singleton.2 rfl)
    have h1 := one_size id n s v ho.1 ho.2
    have hr : (restStr [⟨id, n, s, v⟩]).size = (oneStr ⟨id, n, s, v⟩).size := by
      have e : restStr ([] ++ [⟨id, n, s, v⟩]) = restStr [] ++ oneStr ⟨id, n, s, v⟩ := rest_snoc _ _
      have e0 : restStr [] = ⟨#[]⟩ := rfl
      rw [show [(⟨id, n, s, v⟩ : P)] = [] ++ [⟨id, n, s, v⟩] from rfl, e, e0, ByteArray.size_append]
      show 0 + _ = _
      omega
    rw [← hS, (bytes_yes hz).1]
    unfold propStr
    rw [ByteArray.size_append, strOfNums_size, hr, numZ_len (by omega)]
    have := (numLen_le (oneStr ⟨id, n, s, v⟩).size).2
    omega
end Go.Proofs.Ythjlbdplhhgcpaa
