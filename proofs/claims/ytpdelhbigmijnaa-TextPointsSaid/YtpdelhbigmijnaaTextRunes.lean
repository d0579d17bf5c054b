/- text.Runes: the code points of a text; two code points; what weighs much. -/
import Derived.Test.YtpdelhbigmijnaaTextCheck
import Derived.Test.YtpdelhbigmijnaaTextRef
import Derived.Laws.IdiomStrings
namespace Go.Proofs.Ytpdelhbigmijnaa
open Go.RowKit Go.Lib Txt

/-! ### '[]rune(s)' -/
theorem runesFrom_chk (s : ByteArray) : ∀ (bound pos : Nat) (acc : Array Value), pos ≤ s.size → s.size ≤ pos + bound → chk (s.data.toList.drop pos) = true →
    Conv.runesFrom s bound pos acc = acc ++ ((runes (s.data.toList.drop pos)).map (Value.int .i32)).toArray
  | 0, pos, acc, h1, h2, _ => by
    have e : s.data.toList.drop pos = [] := List.drop_of_length_le (by rw [← Lib.size_eq]; omega)
    rw [e]; simp [Conv.runesFrom, runes_nil]
  | bound + 1, pos, acc, h1, h2, hc => by
    unfold Conv.runesFrom
    by_cases hp : pos < s.size
    · have hne : s.data.toList.drop pos ≠ [] := by
        intro e; have := congrArg List.length e; rw [List.length_drop, ← Lib.size_eq] at this; simp at this; omega
      have hz := chk_pt hne hc
      obtain ⟨hpt, _, _⟩ := pt_ok hz
      have hle := pt_le hne
      have hd := chk_drop hne hc
      have hr := runes_step _ hne hc
      rw [hpt, decodeL_drop] at hz hle hd hr
      rw [List.length_drop, ← Lib.size_eq] at hle
      rw [List.drop_drop] at hd hr
      rw [if_pos hp, hr]
      show Conv.runesFrom s bound (pos + (Utf8.decode s pos).2) (acc.push (.int .i32 (Int.ofNat (Utf8.decode s pos).1))) = _
      rw [runesFrom_chk s bound _ _ (by omega) (by omega) hd]
      simp
    · have e : s.data.toList.drop pos = [] := List.drop_of_length_le (by rw [← Lib.size_eq]; omega)
      rw [if_neg hp, e]; simp [runes_nil]
theorem runesFrom_all (s : ByteArray) (hc : chk s.data.toList = true) : Conv.runesFrom s s.size 0 #[] = ((runes s.data.toList).map (Value.int .i32)).toArray := by
  rw [runesFrom_chk s s.size 0 #[] (by omega) (by omega) hc]; simp
theorem runes_len : ∀ l, chk l = true → (runes l).length ≤ l.length := by
  apply text_rec
  · simp [runes_nil]
  · intro l hne hc ih
    have hz := chk_pt hne hc
    have hle := pt_le hne
    rw [runes_step l hne hc, List.length_cons]
    rw [List.length_drop] at ih
    omega

theorem add_new (g j : Nat) : (⟨g, 0, none⟩ : Addr).add j = ⟨g, j, none⟩ := by
  unfold Addr.add; split <;> simp_all
/-- A new block that begins with the numbers rs. -/
theorem new_cell (W : World) (cs : Array Value) (rs : List Int) {k : IntKind} {e : TypeId} (h : ∀ j, j < rs.length → cs[j]? = some (.int k (rs.getD j 0))) (j : Nat) (hj : j < rs.length) :
    (W.alloc (.cells cs e)).drew.cell? ((⟨W.heap.size, 0, none⟩ : Addr).add j) = some (.int k (rs.getD j 0)) := by
  rw [add_new]
  show (W.alloc (.cells cs e)).cell? ⟨W.heap.size, j, none⟩ = _
  rw [cell_of_row (W.alloc (.cells cs e)) W.heap.size j cs e (0, 0) (heap_alloc_new W _)]
  exact h j hj

/-- What text.Runes tells: the code points, or none beside an error. -/
def rlist (l : List UInt8) : List Int := if textErr l = 0 then runes l else []
def GivesRunes (l : List UInt8) (w : World) (e : Ending) (w' : World) : Prop :=
  ∃ A c, e = .returned (.tuple #[.slice A (rlist l).length c, .int .i64 (textErr l)]) ∧ Nums w' w'.heap.size .i32 A (rlist l) ∧ Below w.heap.size w w'
theorem textErr_cases (l : List UInt8) : (textErr l = 0 ∧ chk l = true ∧ l.length ≤ 1024) ∨ (textErr l ≠ 0 ∧ (textErr l = 2 ∨ textErr l = 8)) := by
  unfold textErr
  by_cases h : 1024 < l.length
  · rw [if_pos h]; right; omega
  · rw [if_neg h]
    cases hc : chk l with
    | true => left; exact ⟨rfl, rfl, by omega⟩
    | false => right; exact ⟨by decide, .inr rfl⟩

set_option maxRecDepth 100000 in
set_option maxHeartbeats 1000000 in
theorem Runes_any (s : ByteArray) (w : World) (hm : s.size ≤ 9223372036854775807) :
    Calls Try.prog 11 #[.string s] w (GivesRunes s.data.toList w) := by
  have HC := Lib.hid (Check_any s w hm)
  rcases textErr_cases s.data.toList with ⟨h0, hc, hl⟩ | ⟨h0, _⟩
  · have hr : rlist s.data.toList = runes s.data.toList := by unfold rlist; rw [if_pos h0]
    have hall := runesFrom_all s hc
    have hlen := runes_len _ hc
    have HR := Lib.hid hr
    have H0 := Lib.hid h0
    clear hr hc
    generalize hrs : runes s.data.toList = rs at hall hlen HR
    clear hrs
    have hconv : ∀ W : World, ∃ c o, (convert 9 24 (.string s)).run Try.prog W = .ok (.slice (some ⟨W.heap.size, 0, none⟩) rs.length c) ((W.alloc o).drew) ∧ Nums (W.alloc o).drew (W.heap.size + 1) .i32 (some ⟨W.heap.size, 0, none⟩) rs := by
      intro W
      have h := run_runes_of_string (P := Try.prog) W 9 24 21 s Try.underlying9 Try.underlying24 Try.underlying21 (by rw [hall]; simp; omega)
      rw [hall] at h
      have hsz : ((rs.map (Value.int .i32)).toArray).size = rs.length := by simp
      rw [hsz] at h
      refine ⟨_, _, h, .inr ⟨_, rfl, by simp, fun j hj => ?_⟩⟩
      refine new_cell W _ rs (fun j hj => ?_) j hj
      rw [Array.getElem?_append_left (by simpa using hj)]
      simp [List.getElem?_eq_getElem hj]
    have HV := Lib.hid hconv
    have H0' := Lib.hid H0.out
    clear hconv hall hlen H0
    have hb : (textErr s.data.toList != 0) = false := by rw [H0'.out]; rfl
    obtain ⟨E, hE⟩ : ∃ E, E = textErr s.data.toList := ⟨_, rfl⟩
    rw [← hE] at HC hb H0'
    have HE := Lib.hid hE
    clear hE
    go_enter Try.func11, Try.ntmps11
    go_wp2_with fail
    refine HC.out.mono ?_
    rintro e w1 ⟨rfl, hb1⟩
    obtain ⟨c, o, hcv, hN⟩ := HV.out w1
    have HN := Lib.hid hN
    have HB := Lib.hid hb1
    clear hN HV hb1
    go_wp2
    go_ret2
    have h1 := HB.out.size
    refine ⟨some ⟨w1.heap.size, 0, none⟩, c, ?_, ?_, ?_⟩
    · rw [HR.out, ← HE.out, H0'.out]; rfl
    · rw [HR.out]; exact HN.out.mono (by simp)
    · exact HB.out.trans ((((Below.refl w.heap.size w1).alloc h1 o)).drew)
  · have hr : rlist s.data.toList = [] := by unfold rlist; rw [if_neg h0]
    have HR := Lib.hid hr
    clear hr
    have hb : (textErr s.data.toList != 0) = true := by rw [bne_iff_ne]; exact h0
    obtain ⟨E, hE⟩ : ∃ E, E = textErr s.data.toList := ⟨_, rfl⟩
    rw [← hE] at HC hb
    have HE := Lib.hid hE
    clear hE
    go_enter Try.func11, Try.ntmps11
    go_wp2_with (go_at_call 13; refine HC.out.mono ?_; rintro e w1 ⟨rfl, hb1⟩)
    go_ret2
    refine ⟨none, 0, ?_, ?_, hb1⟩
    · rw [HR.out, ← HE.out]; rfl
    · rw [HR.out]; exact Nums.none_

theorem num_same (n : Int) (w : World) :
    Calls Try.prog 12 #[.int .i64 n] w fun e w' => e = .returned (.int .i64 n) ∧ w = w' := (num_any n w).mono fun _ _ h => ⟨h.1, h.2.symm⟩
theorem EqRunes_len (xs : List Int) (n : Nat) (A A' : Option Addr) (c c' B B' : Nat) (w : World) (hn : n = xs.length) (hm : xs.length ≤ 9223372036854775807) (h : Nums w B .i32 A xs) (h' : Nums w B' .i32 A' xs) :
    Calls Try.prog 14 #[.slice A n c, .slice A' n c'] w fun e w' => e = .returned (.bool true) ∧ ∃ n, w' = w.drewN n := by
  subst hn; exact EqRunes_same xs A A' c c' B B' w hm h h'
/-- A literal slice of numbers. -/
theorem lit_nums (W : World) (cs : Array Value) (rs : List Int) (k : IntKind) (e : TypeId) (h : cs = (rs.map (Value.int k)).toArray) : Nums (W.alloc (.cells cs e)) (W.heap.size + 1) k (some ⟨W.heap.size, 0, none⟩) rs := by
  refine .inr ⟨_, rfl, by simp, fun j hj => ?_⟩
  refine new_cell W cs rs (fun j hj => ?_) j hj
  rw [h]
  simp [List.getElem?_eq_getElem hj]

def heavyB (n m : Nat) : Bool := decide (3000 < n ∨ 3000 < m)
set_option maxRecDepth 100000 in
set_option maxHeartbeats 1000000 in
theorem heavy_any (s : ByteArray) (A : Option Addr) (n c : Nat) (x : Int) (w : World) :
    Calls Try.prog 8 #[.agg #[.string s, .slice A n c, .int .i64 x]] w fun e w' => e = .returned (.bool (heavyB s.size n)) ∧ Below w.heap.size w w' := by
  by_cases h1 : 3000 < s.size
  · go_enter Try.func8, Try.ntmps8
    go_wp2
    go_ret
    exact ⟨ret_bool (dec_true (.inl h1)), (Below.refl _ _).alloc (Nat.le_refl _) _⟩
  · go_enter Try.func8, Try.ntmps8
    go_wp2
    go_ret
    refine ⟨ret_bool ?_, (Below.refl _ _).alloc (Nat.le_refl _) _⟩
    unfold heavyB
    first | exact dec_dec (by omega) | (refine bool_dec ?_; simp; omega)

set_option maxRecDepth 100000 in
set_option maxHeartbeats 1000000 in
theorem wakes_any (w : World) : Calls Try.prog 15 #[] w fun e w' => e = .returned (.bool true) ∧ Below w.heap.size w w' := by
  have h1 : rlist [97, 195, 169] = [97, 233] := by decide +kernel
  have h2 : textErr [97, 195, 169] = 0 := by decide +kernel
  have HC : ∀ W, Calls Try.prog 11 #[.string ⟨#[97, 195, 169]⟩] W fun e w' => ∃ A c, e = .returned (.tuple #[.slice A 2 c, .int .i64 0]) ∧ Nums w' w'.heap.size .i32 A [97, 233] ∧ Below W.heap.size W w' := by
    intro W
    refine (Runes_any ⟨#[97, 195, 169]⟩ W (by decide)).mono ?_
    rintro e w' ⟨A, c, he, hn, hb⟩
    change Nums w' w'.heap.size .i32 A (rlist [97, 195, 169]) at hn
    rw [h1] at hn
    refine ⟨A, c, ?_, hn, hb⟩
    rw [he]
    show Ending.returned (.tuple #[.slice A (rlist [97, 195, 169]).length c, .int .i64 (textErr [97, 195, 169])]) = _
    rw [h1, h2]; rfl
  have HC' := Lib.hid HC
  clear h1 h2 HC
  go_enter Try.func15, Try.ntmps15
  go_wp2_with fail
  refine (HC'.out _).mono ?_
  rintro e w1 ⟨A, c, rfl, hn, hb⟩
  have HN := Lib.hid (EqRunes_len [97, 233] 2 A (some ⟨w1.heap.size, 0, none⟩) c 2 _ _ (w1.alloc (.cells #[.int .i32 97, .int .i32 233] 21)) rfl (by decide) (hn.alloc (Nat.le_refl _) _) (lit_nums w1 #[.int .i32 97, .int .i32 233] [97, 233] .i32 21 rfl))
  have HB := Lib.hid hb
  clear hn hb HC'
  go_wp2_with (first | (go_at_call 12; refine (num_same _ _).mono ?_; rintro e w' ⟨rfl, rfl⟩) | (go_at_call 14; refine HN.out.mono ?_; rintro e w' ⟨rfl, n, rfl⟩))
  go_ret
  exact ⟨rfl, below_drewN (HB.out.trans ((Below.refl w.heap.size w1).alloc HB.out.size _)) _⟩
end Go.Proofs.Ytpdelhbigmijnaa
