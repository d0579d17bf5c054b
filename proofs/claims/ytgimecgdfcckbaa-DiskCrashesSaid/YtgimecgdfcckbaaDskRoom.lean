/- Package disk: whether there is room: a range over the files, in whatever order. -/
import Derived.Test.YtgimecgdfcckbaaDskSmall
namespace Go.Proofs.Ytgimecgdfcckbaa.Dsk
open Go.RowKit Go.Lib Go.Maps

theorem DkAt.slice {w : World} {X : Nat → Prop} {d : Nat} {F : List Fl} {l : Int} {off : Bool} {mv : Value} {bx : List UInt8 → Nat} {vl : List UInt8 → Value} (h : DkAt w X d F l off mv bx vl) {f : Fl} (hf : f ∈ F) :
    ∃ A c, w.cell? ⟨bx f.n, 0, none⟩ = some (.slice A f.t.length c) := by
  have hb := (h.file f hf).box.cell 0
  obtain ⟨A, c, e⟩ := own_any (h.file f hf).row
  refine ⟨A, c, ?_⟩
  rw [hb, ← e]; rfl

/-- A range over the map under way: left: which are still to come; r: the iterator. -/
structure Rng (w : World) (F : List Fl) (bx : List UInt8 → Nat) (m r : Nat) (D : DW) (left : Lit → Bool) (cnt : Nat) : Prop where
  rng : w.ranges Try.prog 9 ptrR m r 64 D left cnt
  sub : ∀ x, left (.string x) = true → ∃ f ∈ F, f.n = x
  at_ : ∀ f ∈ F, ∀ z, D.atKey (.string f.n) z = ptrD (bx f.n)
theorem invK : ∀ key kl, keyOf Try.prog 9 key = some kl → ∃ x, key = Go.Proofs.encStr x := fun key kl h => by
  obtain ⟨x, hx, _⟩ := Maps.keyOf_str Try.underlying9 h
  exact ⟨x, hx⟩
def mkP (o : Option Nat) : Value := .pointer (o.map fun b => ⟨b, 0, none⟩)
theorem invP : ∀ v y, ptrR v = some y → ∃ o, v = mkP o := fun v y h => by
  rcases ptrR_inv h with ⟨rfl, _⟩ | ⟨b, rfl, _⟩
  · exact ⟨none, rfl⟩
  · exact ⟨some b, rfl⟩
section
variable {w : World} {ops : Array Oper} {rest : List Oper} {o : Oper} {a : Act} {Q : Exit → Act → World → Prop}
theorem wpList_next_files (hg : o.guard = none) (it : Operand) (hop : o.op = Op.next it false) (F : List Fl) (bx : List UInt8 → Nat) (m r : Nat) (D : DW) (left : Lit → Bool) (cnt : Nat)
    (hit : a.eval it = .pointer (some ⟨r, 0, none⟩)) (h : Rng w F bx m r D left cnt)
    (hDone : (∀ x, left (.string x) = false) → wpList Try.prog ops Q rest (a.put o.dst (.tuple #[.bool false])) w)
    (hMore : ∀ f ∈ F, ∀ w' cnt', left (.string f.n) = true → Rng w' F bx m r D (fun z => left z && !z.sameKey (.string f.n)) cnt' → cnt' < cnt → w.grownBy w' (some r) → w'.heap.size = w.heap.size →
      (Instr.entry (.pointer (some ⟨r, 0, none⟩))).run Try.prog w' = .ok (.tuple #[.string (str f.n), .pointer (some ⟨bx f.n, 0, none⟩)]) w' →
      wpList Try.prog ops Q rest (a.put o.dst (.tuple #[.bool true, .string (str f.n), .pointer (some ⟨bx f.n, 0, none⟩)])) w') :
    wpList Try.prog ops Q (o :: rest) a w := by
  refine wpList_next_ranges w hg it hop 9 keyed ptrR Go.Proofs.encStr mkP invK invP m r 64 D left cnt hit h.rng (fun _ hl => hDone fun x => hl _) ?_
  intro x c kl y w' cnt' hkey hlk hv hat hrg hlt hgr hsz hen
  obtain ⟨x', ex, rfl, _⟩ := Maps.keyOf_str Try.underlying9 hkey
  obtain rfl : x = x' := encStr_inj ex
  obtain ⟨f, hf, rfl⟩ := h.sub x hlk
  have e := (hat .nil).symm.trans (h.at_ f hf .nil)
  have hp : mkP c = .pointer (some ⟨bx f.n, 0, none⟩) := by
    refine ptr_is (ps := y.2) ?_
    rw [hv, ← e]
  rw [hp] at hen ⊢
  exact hMore f hf w' cnt' hlk ⟨hrg, fun z hz => h.sub z (by simp only [Bool.and_eq_true] at hz; exact hz.1), h.at_⟩ hlt hgr hsz hen
end
theorem same_str (a b : List UInt8) : (Lit.string a).sameKey (.string b) = (a == b) := by
  rw [Bool.eq_iff_iff]
  simp [Lit.sameKey]

section
variable {w : World} {X : Nat → Prop} {d : Nat} {F : List Fl} {off : Bool} {mv : Value} {bx : List UInt8 → Nat} {vl : List UInt8 → Value}
theorem roomB_eq (F : List Fl) (old len : Nat) : roomB F old len = (decide ((old : Int) + (len : Int) ≤ 65536) && decide ((len : Int) + (total F : Int) ≤ 1048576)) := by
  unfold roomB
  congr 1
  · exact decide_eq_decide.2 (by omega)
  · exact decide_eq_decide.2 (by omega)
set_option maxRecDepth 100000 in
set_option maxHeartbeats 2000000 in
theorem hasRoom_is (b old len : Nat) (A : Option Addr) (c : Nat) (hlen : len ≤ 140737488351232) (hold : old ≤ 1000000) {l : Int} (h : DkAt w X d F l off mv bx vl) (hb : w.cell? ⟨b, 0, none⟩ = some (.slice A old c)) :
    Calls Try.prog 27 #[.pointer (some ⟨d, 0, none⟩), .pointer (some ⟨b, 0, none⟩), .int .i64 (len : Int)] w fun e w' => e = .returned (.bool (roomB F old len)) ∧ Below w.heap.size w w' := by
  have c0 := h.disk.cell 0
  simp at c0
  have hdl : d < w.heap.size := h.disk.lt
  have hbl : b < w.heap.size := World.block_lt_of_cell? w _ hb
  have htot := h.good.room
  rw [roomB_eq]
  obtain ⟨B, hB⟩ : ∃ B, (decide ((old : Int) + (len : Int) ≤ 65536) && decide ((len : Int) + (total F : Int) ≤ 1048576)) = B := ⟨_, rfl⟩
  rw [hB]
  have HB := Lib.hid hB
  clear hB
  have HC : Hid (∀ f ∈ F, ∃ A c, w.cell? ⟨bx f.n, 0, none⟩ = some (.slice A f.t.length c) ∧ bx f.n < w.heap.size ∧ f.t.length ≤ 65536) := Lib.hid fun f hf => by
    obtain ⟨A, c, e⟩ := h.slice hf
    exact ⟨A, c, e, (h.file f hf).box.lt, h.good.small f hf⟩
  have HS := Lib.hid h.good.sorted
  rcases h.map with ⟨rfl, rfl⟩ | ⟨m, D, rfl, _, hi⟩
  · clear h
    have hrg := run_range_nilMap (P := Try.prog) w 46 9 49 Try.underlying46
    have hnx : ∀ ty, (Instr.next (.pointer (some ⟨w.heap.size, 0, none⟩)) false ty).run Try.prog (w.alloc (.mapIter none 0 #[] 0)) = _ := fun ty => run_next_nilMap w ty 0 0 #[]
    have HT : Hid (total [] = 0) := Lib.hid rfl
    clear HC HS htot
    by_cases h1 : (old : Int) + (len : Int) ≤ 65536
    · go_enter Try.func27, Try.ntmps27
      go_wp2
      refine wp_loop_rounds 1 ?_
      rw [rounds_succ]
      go_wp2
      go_ret
      refine ⟨ret_bool ?_, (Below.refl _ w).alloc (Nat.le_refl _) _⟩
      rw [← HB.out, HT.out]
      simp [h1]
    · have q1 : decide ((old : Int) + (len : Int) ≤ 65536) = false := by simp; omega
      go_enter Try.func27, Try.ntmps27
      go_wp2
      refine wp_loop_rounds 1 ?_
      rw [rounds_succ]
      go_wp2
      go_ret
      refine ⟨ret_bool ?_, (Below.refl _ w).alloc (Nat.le_refl _) _⟩
      rw [← HB.out, HT.out, q1]; rfl
  · have hml := hi.lt
    have hown := hi.own
    have HH := Lib.hid hi.has
    have HA := Lib.hid hi.at_
    clear h hi
    go_enter Try.func27, Try.ntmps27
    go_wp2_with (at_range; refine wpList_range_own _ rfl _ 46 rfl 9 49 keyed Try.underlying46 _ m _ _ rfl hown ?_; intro w0 hrg0 hg0 hs0)
    go_frame
    clear hs0
    go_loopw [7, 9] (fun s _ wr => ∃ (left : Lit → Bool) (cnt : Nat), s = .int .i64 ((len : Int) + (seen (fun z => left (.string z)) F : Int)) ∧ Rng wr F bx m w.heap.size D left cnt ∧ Below w.heap.size w wr)
      (fun _ _ wr => wr.rangeLeft m w.heap.size)
    case atStart =>
      refine ⟨_, _, ?_, ⟨hrg0, fun x hx => (HH.out x).1 hx, HA.out⟩, (Below.refl _ w).grown hg0 (Nat.le_refl _) (fun j hj => by cases hj)⟩
      rw [seen_start F _ fun f hf => (HH.out f.n).2 ⟨f, hf, rfl⟩]
      simp
    case round =>
      obtain ⟨left, cnt, rfl, hrg, hbe⟩ := hrel
      have HBe := Lib.hid hbe
      have d0 := (hbe.cell (p := ⟨b, 0, none⟩) hbl).trans hb
      have HL := Lib.hid hrg.rng.left_eq
      have hsl := seen_le (fun z => left (.string z)) F
      clear hbe hrg0 hg0 hown hb c0
      by_cases h1 : (old : Int) + (len : Int) ≤ 65536
      · go_wp2_with (at_next; refine wpList_next_files rfl _ rfl F bx m w.heap.size D left cnt rfl hrg ?_ ?_)
        · intro hl0
          have HE := Lib.hid (seen_end F (fun z => left (.string z)) hl0)
          clear hl0 hrg
          go_wp2
          go_ret
          refine ⟨ret_bool ?_, HBe.out⟩
          rw [← HB.out, HE.out]
          simp [h1]
        · intro f hf w1 cnt1 hlk hrg1 hlt hg1 hs1 hen
          have HST := Lib.hid (seen_step (L := fun z => left (.string z)) HS.out hf hlk)
          obtain ⟨A1, k1, e1, hl1, hsm⟩ := HC.out f hf
          have HB1 := Lib.hid (HBe.out.grown hg1 HBe.out.size (fun j hj => by cases hj; exact Nat.le_refl _))
          have e1' := (HB1.out.cell (p := ⟨bx f.n, 0, none⟩) hl1).trans e1
          have HR1 := Lib.hid hrg1
          have HLT := Lib.hid hlt
          clear hrg hrg1 hlt hg1 hs1 hf hlk e1 d0 h1
          generalize bx f.n = bf at hen e1' hl1
          generalize str f.n = sf at hen
          go_wp2
          go_roundw
          case rel =>
            refine ⟨_, cnt1, ?_, HR1.out, HB1.out⟩
            have e2 : (fun z => (left (.string z) && !(Lit.string z).sameKey (.string f.n))) = fun z => (left (.string z) && !(z == f.n)) := by funext z; rw [same_str]
            rw [e2, HST.out]
            go_num
          case measure => rw [HR1.out.rng.left_eq, HL.out]; exact HLT.out
      · have q1 : decide ((old : Int) + (len : Int) ≤ 65536) = false := by simp; omega
        go_wp2_with (at_next; refine wpList_next_files rfl _ rfl F bx m w.heap.size D left cnt rfl hrg ?_ ?_)
        · intro hl0
          clear hl0 hrg
          go_wp2
          go_ret
          refine ⟨ret_bool ?_, HBe.out⟩
          rw [← HB.out, q1]; rfl
        · intro f hf w1 cnt1 hlk hrg1 hlt hg1 hs1 hen
          have HST := Lib.hid (seen_step (L := fun z => left (.string z)) HS.out hf hlk)
          obtain ⟨A1, k1, e1, hl1, hsm⟩ := HC.out f hf
          have HB1 := Lib.hid (HBe.out.grown hg1 HBe.out.size (fun j hj => by cases hj; exact Nat.le_refl _))
          have e1' := (HB1.out.cell (p := ⟨bx f.n, 0, none⟩) hl1).trans e1
          have HR1 := Lib.hid hrg1
          have HLT := Lib.hid hlt
          clear hrg hrg1 hlt hg1 hs1 hf hlk e1 d0 h1 q1
          generalize bx f.n = bf at hen e1' hl1
          generalize str f.n = sf at hen
          go_wp2
          go_roundw
          case rel =>
            refine ⟨_, cnt1, ?_, HR1.out, HB1.out⟩
            have e2 : (fun z => (left (.string z) && !(Lit.string z).sameKey (.string f.n))) = fun z => (left (.string z) && !(z == f.n)) := by funext z; rw [same_str]
            rw [e2, HST.out]
            go_num
          case measure => rw [HR1.out.rng.left_eq, HL.out]; exact HLT.out
end
end Go.Proofs.Ytgimecgdfcckbaa.Dsk
