/- Package disk: what a call counts for, what a name stands for, whether there is room. -/
import Derived.Test.YtgimecgdfcckbaaDskName
import Derived.Maps.Ext
import Derived.Sort.KeysCollected
namespace Go.Proofs.Ytgimecgdfcckbaa.Dsk
open Go.RowKit Go.Lib Go.Maps

theorem own_any {w : World} {B e n : Nat} {v : Value} {xs : List Value} (h : w.ownsRow B e 1 v n xs) : ∃ A c, v = .slice A n c := by
  rcases h.2 with ⟨hv, hn⟩ | ⟨g, cap, cur, hv, _⟩
  · exact ⟨none, 0, by rw [hv, hn]⟩
  · exact ⟨_, _, hv⟩
/-- The power, behind one more call that counts: how many are left, is it off? -/
def tickL (l : Nat) : Nat := l - 1
def tickO (l : Nat) (off : Bool) : Bool := off || decide (l = 1)

section
variable {w : World} {X : Nat → Prop} {d : Nat} {F : List Fl} {off : Bool} {mv : Value} {bx : List UInt8 → Nat} {vl : List UInt8 → Value}
set_option maxHeartbeats 1000000 in
theorem count_is (l : Nat) (hl : l ≤ 1000000) (h : DkAt w X d F (l : Int) off mv bx vl) :
    Calls Try.prog 25 #[.pointer (some ⟨d, 0, none⟩)] w fun e w' => e = .returned (.tuple #[]) ∧ DkAt w' X d F (tickL l : Nat) (tickO l off) mv bx vl ∧ Chg X w w' := by
  have c1 := h.disk.cell 1
  simp at c1
  have f1 := h.disk.frozen 1
  have c2 := h.disk.cell 2
  simp at c2
  have f2 := h.disk.frozen 2
  by_cases h0 : l = 0
  · have q0 : ((l : Int) == 0) = true := by simp; omega
    have HD := Lib.hid h
    have H0 := Lib.hid h0
    clear h h0
    go_enter Try.func25, Try.ntmps25
    go_wp2
    try simp only [Exit.inBlock, Exit.then]
    refine bodyPost_ret (v := .tuple #[]) (by simp [results, Try.results25]) rfl ⟨rfl, ?_, Chg.refl _ _⟩
    have e1 : tickO l off = off := by unfold tickO; rw [H0.out]; simp
    have e2 : ((tickL l : Nat) : Int) = (l : Int) := by unfold tickL; have := H0.out; omega
    rw [e1, e2]
    exact HD.out
  · have q0 : ((l : Int) == 0) = false := by simp; omega
    have hd := h.setLeft ((l : Int) - 1)
    have HC := Lib.hid (Chg.of_grown (X := X) (grown_setCell w d 1 (.int .i64 ((l : Int) - 1))) (fun k hk => by cases hk; exact h.inX))
    have HX := Lib.hid h.inX
    by_cases h1 : l = 1
    · have q1 : ((l : Int) - 1 == 0) = true := by simp; omega
      have HD := Lib.hid hd
      have H1 := Lib.hid h1
      clear h hd h1
      go_enter Try.func25, Try.ntmps25
      go_wp2
      refine bodyPost_end (v := .tuple #[]) (by simp [results, Try.results25]) rfl ⟨rfl, ?_, ?_⟩
      · have e1 : tickO l off = true := by unfold tickO; rw [H1.out]; simp
        have e2 : ((tickL l : Nat) : Int) = (l : Int) - 1 := by unfold tickL; have := H1.out; omega
        rw [e1, e2]
        exact HD.out.setOff true
      · exact HC.out.trans (Chg.of_grown (X := X) (grown_setCell _ d 2 _) (fun k hk => by cases hk; exact HX.out)) (fun k hk => .inl hk)
    · have q1 : ((l : Int) - 1 == 0) = false := by simp; omega
      have HD := Lib.hid hd
      have H1 := Lib.hid h1
      clear h hd h1
      go_enter Try.func25, Try.ntmps25
      go_wp2
      refine bodyPost_end (v := .tuple #[]) (by simp [results, Try.results25]) rfl ⟨rfl, ?_, HC.out⟩
      have e1 : tickO l off = off := by unfold tickO; simp [H1.out]
      have e2 : ((tickL l : Nat) : Int) = (l : Int) - 1 := by unfold tickL; omega
      rw [e1, e2]
      exact HD.out

/-! ### what a name stands for -/
def lookV (off : Bool) (F : List Fl) (bx : List UInt8 → Nat) (n : List UInt8) : Value :=
  if off = true then .iface 27 (.int .i64 10) else match look F n with | some f => .iface 49 (.pointer (some ⟨bx f.n, 0, none⟩)) | none => .iface 27 (.int .i64 3)
theorem look_run (n : List UInt8) (hn : n.length ≤ 140737488351232) {l : Int} (h : DkAt w X d F l off mv bx vl) :
    (Instr.lookup 46 mv (.string (str n)) true).run Try.prog w = .ok (.tuple #[match look F n with | some f => .pointer (some ⟨bx f.n, 0, none⟩) | none => .pointer none, .bool (look F n).isSome]) w := by
  have hk := key_str (x := n) (by unfold maxLen; omega)
  rcases h.map with ⟨rfl, rfl⟩ | ⟨m, D, rfl, _, hi⟩
  · rw [Maps.look_nil true keyed Try.underlying46 (zero_ptr w) hk]
    rfl
  · obtain ⟨v, ps, hrun, hv⟩ := hi.own.look_ok keyed Try.underlying46 (zero_ptr w) ptrR_nil hk
    rw [hrun]
    cases hl : look F n with
    | none =>
      have hh : Maps.has D (.string n) = false := by
        rw [Bool.eq_false_iff]
        intro e
        obtain ⟨f, hf, hfn⟩ := (hi.has n).1 e
        exact look_none hl f hf hfn
      rw [atKey_of_not_has hh] at hv
      rw [ptr_nil hv, hh]; rfl
    | some f =>
      obtain ⟨hf, rfl⟩ := look_some hl
      rw [hi.at_ f hf] at hv
      rw [ptr_is hv, (hi.has f.n).2 ⟨f, hf, rfl⟩]; rfl
set_option maxHeartbeats 1000000 in
theorem look_is (n : List UInt8) (V : Value) (hn : n.length ≤ 140737488351232) {l : Int} (h : DkAt w X d F l off mv bx vl) (hV : lookV off F bx n = V) :
    Calls Try.prog 24 #[.pointer (some ⟨d, 0, none⟩), .string (str n)] w fun e w' => e = .returned V ∧ w' = w := by
  have c0 := h.disk.cell 0
  have c2 := h.disk.cell 2
  simp at c0 c2
  have hrun := look_run n hn h
  clear h
  unfold lookV at hV
  cases off with
  | true =>
    simp only [if_true] at hV
    have HV := Lib.hid hV
    clear hV hrun
    go_enter Try.func24, Try.ntmps24
    go_wp2
    go_ret
    exact ⟨by rw [HV.out]; rfl, rfl⟩
  | false =>
    cases hl : look F n with
    | none =>
      rw [hl] at hV hrun
      have HV := Lib.hid hV
      clear hV hl
      have hrun : (Instr.lookup 46 mv (.string (str n)) true).run Try.prog w = .ok (.tuple #[.pointer none, .bool false]) w := hrun
      generalize str n = s at hrun
      go_enter Try.func24, Try.ntmps24
      go_wp2
      go_ret
      exact ⟨by rw [← HV.out]; rfl, rfl⟩
    | some f =>
      rw [hl] at hV hrun
      have HV := Lib.hid (show Value.iface 49 (.pointer (some ⟨bx f.n, 0, none⟩)) = V from hV)
      clear hV hl
      have hrun : (Instr.lookup 46 mv (.string (str n)) true).run Try.prog w = .ok (.tuple #[.pointer (some ⟨bx f.n, 0, none⟩), .bool true]) w := hrun
      generalize str n = s at hrun
      generalize bx f.n = b at hrun HV
      go_enter Try.func24, Try.ntmps24
      go_wp2
      go_ret
      exact ⟨by rw [← HV.out]; rfl, rfl⟩
end
end Go.Proofs.Ytgimecgdfcckbaa.Dsk
