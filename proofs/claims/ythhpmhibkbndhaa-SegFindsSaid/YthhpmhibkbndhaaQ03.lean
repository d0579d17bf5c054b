/- Texts of the proof, part 3: SgSinceBy, SgRFind, SgRSeg, SgSlice, Near, RcArg, SgScript. -/
import Derived.Test.YthhpmhibkbndhaaRows
import Derived.Test.YthhpmhibkbndhaaChecked
import Derived.ProofKit
import Derived.Deep.Slices
import Derived.SizedLaws
import Derived.ChangeOld
import Derived.Below
import Derived.ChangeArms
import Derived.Test.YthhpmhibkbndhaaQ02
/- Package seg: the first record of a segment whose time is far enough. -/
namespace Go.Proofs.Ythhpmhibkbndhaa
open Go.RowKit Go.Lib Rcd

/-- Is a record's time far enough? -/
def bySince (n : Int) (r : Rc) : Bool := decide (n ≤ r.t)
set_option maxRecDepth 100000 in
set_option maxHeartbeats 1000000 in
theorem farSince_is (n : Int) (r : Rc) (g : Nat) (X : Bool) (w : World) (hg : w.cell? ⟨g, 0, none⟩ = some (.int .i64 n)) (hX : bySince n r = X) :
    Calls Try.prog 18 #[ragg r, .pointer (some ⟨g, 0, none⟩)] w fun e w' => e = .returned (.bool X) ∧ Below w.heap.size w w' := by
  have hb := (Below.refl w.heap.size w).alloc (Nat.le_refl _) (.cells (rarr r.o r.t (str r.k) (str r.b) r.q r.g) 31)
  have hG := Lib.hid ((hb.cell (p := ⟨g, 0, none⟩) (cell_lt hg)).trans hg)
  have HX := Lib.hid hX
  unfold bySince at HX
  unfold ragg
  clear hb hg hX
  obtain ⟨o, t, key, bod, q, gn⟩ := r
  dsimp only at hG HX ⊢
  generalize str key = ks at hG ⊢
  generalize str bod = bs at hG ⊢
  have R0 := Lib.hid (RBox.new w 31 (rarr o t ks bs q gn))
  obtain ⟨p, hp⟩ : ∃ p, w.heap.size = p := ⟨_, rfl⟩
  obtain ⟨W0, hW⟩ : ∃ W0, w.alloc (.cells (rarr o t ks bs q gn) 31) = W0 := ⟨_, rfl⟩
  rw [hW, hp] at R0
  rw [hW] at hG
  unfold rarr at R0 hW ⊢
  have HW := Lib.hid hW
  have HP := Lib.hid hp
  clear hW hp
  go_enter Try.func18, Try.ntmps18
  go_upto_region 1 with fail
  rw [HW.out, HP.out]
  clear HW HP
  have d0 : W0.cell? ⟨p, 1, none⟩ = some (.int .i64 t) := R0.out.cell 1
  have d1 := hG.out
  go_wp2_with fail
  go_ret
  exact ⟨ret_bool HX.out, R0.out.out.2⟩

set_option maxRecDepth 100000 in
set_option maxHeartbeats 4000000 in
/-- slices.IndexFunc, by this. -/
theorem indexSince_is (n : Int) (rs : List Rc) (N : Nat) (A : Option Addr) (c B g a : Nat) (w : World) (hN : rs.length = N) (hm : N ≤ 9223372036854775807) (hB : B ≤ w.heap.size) (h : RecsAt w B A rs) (hg : w.cell? ⟨g, 0, none⟩ = some (.int .i64 n)) (hF : First (bySince n) rs a) :
    Calls Try.prog 22 #[.slice A N c, .func (.func 18) #[] #[.pointer (some ⟨g, 0, none⟩)]] w fun e w' => e = .returned (.int .i64 (atOf a N)) ∧ Below w.heap.size w w' := by
  have H := Lib.hid (h.mono hB)
  have HG := Lib.hid (fun W (hb : Below w.heap.size w W) => (hb.cell (p := ⟨g, 0, none⟩) (cell_lt hg)).trans hg)
  have HF := Lib.hid hF
  have HNN := Lib.hid hN
  have haN : a ≤ N := by rw [← hN]; exact hF.le
  have hcf : ∀ (args : Array Value) (W : World), (callFunc 18 args).run Try.prog W = .ok (.enter 18 args) W := fun args W => by go_simp
  obtain ⟨z, hz⟩ : ∃ z, atOf a N = z := ⟨_, rfl⟩
  rw [hz]
  have HZ := Lib.hid hz
  clear h hg hF hN hz
  go_enter Try.func22, Try.ntmps22
  go_wp2_with fail
  go_loopw [8] (fun i wr => ∃ k : Nat, k ≤ a ∧ i = .int .i64 (k : Int) ∧ Below w.heap.size w wr) (fun i _ => N - (RowKit.intOf i).toNat)
  case atStart => exact ⟨0, Nat.zero_le _, rfl, Below.refl _ _⟩
  case round =>
    obtain ⟨k, hk, rfl, hbel⟩ := hrel
    have HB := Lib.hid hbel
    clear hbel
    by_cases hlt : k < N
    · have hlr : k < rs.length := by rw [HNN.out]; exact hlt
      obtain ⟨b0, o0, rfl, hb0, hc⟩ := (H.out.below HB.out).some_ (by omega)
      obtain ⟨c0, c1, c2, c3, c4, c5⟩ := hc k hlr
      obtain ⟨X, hX⟩ : ∃ X, bySince n rs[k] = X := ⟨_, rfl⟩
      have HFA := Lib.hid (fun W (hb : Below w.heap.size w W) => farSince_is n rs[k] g X W (HG.out W hb) hX)
      have hwhich : (X = true ∧ k = a) ∨ (X = false ∧ k < a) := by
        rcases Nat.lt_or_ge k a with h1 | h1
        · exact .inr ⟨hX.symm.trans (HF.out.lo k hlr h1), h1⟩
        · obtain rfl : k = a := by omega
          exact .inl ⟨hX.symm.trans (HF.out.hi hlr), rfl⟩
      clear hc hX
      unfold ragg at HFA
      generalize rs[k] = r at c0 c1 c2 c3 c4 c5 HFA
      obtain ⟨o, t, key, bod, q, gn⟩ := r
      dsimp only at c0 c1 c2 c3 c4 c5 HFA
      generalize str key = ks at c2 HFA
      generalize str bod = bs at c3 HFA
      unfold rarr at HFA
      have e1 : (k : Int) < (N : Int) := by omega
      clear hlr
      rcases hwhich with ⟨rfl, rfl⟩ | ⟨rfl, hka⟩
      · have HZ1 := Lib.hid ((show atOf k N = (k : Int) from if_pos hlt).symm.trans HZ.out)
        go_wp2_with fail
        refine (HFA.out _ HB.out).mono ?_
        rintro e w1 ⟨rfl, hb1⟩
        have HB1 := Lib.hid (HB.out.trans (hb1.mono HB.out.size))
        clear hb1 HB HFA c0 c1 c2 c3 c4 c5
        go_wp2_with fail
        go_ret
        exact ⟨ret_int HZ1.out, HB1.out⟩
      · go_wp2_with fail
        refine (HFA.out _ HB.out).mono ?_
        rintro e w1 ⟨rfl, hb1⟩
        have HB1 := Lib.hid (HB.out.trans (hb1.mono HB.out.size))
        clear hb1 HB HFA c0 c1 c2 c3 c4 c5
        go_wp2_with fail
        go_roundw
        case rel => exact ⟨k + 1, hka, by go_num, HB1.out⟩
        case measure => simp [RowKit.intOf]; omega
    · obtain rfl : a = N := by omega
      have HZ1 := Lib.hid ((show atOf a a = -1 from if_neg (Nat.lt_irrefl _)).symm.trans HZ.out)
      obtain rfl : k = a := by omega
      go_wp2_with fail
      go_ret
      exact ⟨ret_int HZ1.out, HB.out⟩

set_option maxRecDepth 100000 in
set_option maxHeartbeats 8000000 in
/-- seg.first, by this. -/
theorem firstSince_is (n b : Int) (rs : List Rc) (N : Nat) (A : Option Addr) (c B g a : Nat) (V : Value) (w : World) (hN : rs.length = N) (hm : N ≤ 9223372036854775807) (hcap : N ≤ c) (hB : B ≤ w.heap.size) (h : RecsAt w B A rs) (hg : w.cell? ⟨g, 0, none⟩ = some (.int .i64 n)) (hF : First (bySince n) rs a) (hV : FoundV b rs a V) :
    Calls Try.prog 16 #[.agg #[.int .i64 b, .slice A N c], .func (.func 18) #[] #[.pointer (some ⟨g, 0, none⟩)]] w fun e w' => e = .returned V ∧ Below w.heap.size w w' := by
  have R0 := Lib.hid (RBox.new w 24 (sarr b A N c))
  have HC := Lib.hid (fun E W (hb : Below w.heap.size w W) (hE : segE b rs = E) => SegCheck_is b rs N A c B E W hN hm hcap (Nat.le_trans hB hb.size) (h.below (hb.mono hB)) hE)
  have HI := Lib.hid (fun W (hb : Below w.heap.size w W) => indexSince_is n rs N A c B g a W hN hm (Nat.le_trans hB hb.size) (h.below (hb.mono hB)) ((hb.cell (p := ⟨g, 0, none⟩) (cell_lt hg)).trans hg) hF)
  obtain ⟨p, hp⟩ : ∃ p, w.heap.size = p := ⟨_, rfl⟩
  obtain ⟨W0, hW⟩ : ∃ W0, w.alloc (.cells (sarr b A N c) 24) = W0 := ⟨_, rfl⟩
  rw [hW, hp] at R0
  unfold sarr at R0 hW
  have HW := Lib.hid hW
  have HP := Lib.hid hp
  have H := Lib.hid (h.mono hB)
  have HNN := Lib.hid hN
  have haN : a ≤ N := by rw [← hN]; exact hF.le
  clear hW hp h hg hF hN
  rcases hV with ⟨E, h0, hE, rfl⟩ | ⟨hE, ha, rfl⟩ | ⟨hE, ha, hmay, rfl⟩
  · have h0b : (E == 0) = false := by rw [beq_eq_false_iff_ne]; exact h0
    have h0c : (E != 0) = true := by rw [bne_iff_ne]; exact h0
    have HC1 := Lib.hid (fun W hb => HC.out E W hb hE)
    clear hE HC
    go_enter Try.func16, Try.ntmps16
    go_upto_region 1 with fail
    rw [HW.out, HP.out]
    clear HW HP
    have hld := R0.out.loadS rfl
    go_wp2_with (refine wpList_load_any (by rfl) 24 (.tmp 2) rfl p 0 rfl _ hld ?_; simp only [Act.put])
    refine (HC1.out _ R0.out.out.2).mono ?_
    rintro e w1 ⟨rfl, hb1⟩
    have R1 := Lib.hid (R0.out.below hb1)
    clear R0 hb1 hld HC1
    go_wp2_with fail
    go_ret
    exact ⟨rfl, R1.out.out.2⟩
  · have HC1 := Lib.hid (fun W hb => HC.out 0 W hb hE)
    obtain rfl : a = N := by rw [← HNN.out]; exact ha
    have hat : atOf a a = -1 := if_neg (Nat.lt_irrefl _)
    rw [hat] at HI
    clear hE HC hat ha
    go_enter Try.func16, Try.ntmps16
    go_upto_region 1 with fail
    rw [HW.out, HP.out]
    clear HW HP
    have hld := R0.out.loadS rfl
    go_wp2_with (refine wpList_load_any (by rfl) 24 (.tmp 2) rfl p 0 rfl _ hld ?_; simp only [Act.put])
    refine (HC1.out _ R0.out.out.2).mono ?_
    rintro e w1 ⟨rfl, hb1⟩
    have R1 := Lib.hid (R0.out.below hb1)
    clear R0 hb1 hld HC1
    have d1 : w1.cell? ⟨p, 1, none⟩ = some (.slice A a c) := R1.out.cell 1
    go_wp2_with fail
    refine (HI.out _ R1.out.out.2).mono ?_
    rintro e w2 ⟨rfl, hb2⟩
    have R2 := Lib.hid (R1.out.below hb2)
    clear R1 hb2 HI d1
    go_wp2_with fail
    go_ret
    exact ⟨rfl, R2.out.out.2⟩
  · have HC1 := Lib.hid (fun W hb => HC.out 0 W hb hE)
    have haN : a < N := by rw [← HNN.out]; exact ha
    have hat : atOf a N = (a : Int) := if_pos haN
    rw [hat] at HI
    have HCO := Lib.hid (fun W => copyOf_is rs[a] W (short_of hmay))
    obtain ⟨b0, o0, rfl, hb0, hc⟩ := H.out.some_ (by omega)
    have hr := hc a ha
    clear hE HC hat hc hmay H
    unfold ragg at HCO ⊢
    generalize rs[a] = r at hr HCO ⊢
    obtain ⟨o, t, key, bod, q, gn⟩ := r
    obtain ⟨x0, x1, x2, x3, x4, x5⟩ := hr
    dsimp only at x0 x1 x2 x3 x4 x5 HCO ⊢
    generalize str key = ks at x2 HCO ⊢
    generalize str bod = bs at x3 HCO ⊢
    unfold rarr at HCO ⊢
    have HR := Lib.hid (And.intro x0 (And.intro x1 (And.intro x2 (And.intro x3 (And.intro x4 x5)))))
    clear x0 x1 x2 x3 x4 x5
    have e1 : (a : Int) < (N : Int) := by omega
    have hbp : b0 < p := by rw [← HP.out]; exact hb0
    clear ha
    go_enter Try.func16, Try.ntmps16
    go_upto_region 1 with fail
    rw [HW.out, HP.out]
    clear HW
    have hld := R0.out.loadS rfl
    go_wp2_with (refine wpList_load_any (by rfl) 24 (.tmp 2) rfl p 0 rfl _ hld ?_; simp only [Act.put])
    refine (HC1.out _ R0.out.out.2).mono ?_
    rintro e w1 ⟨rfl, hb1⟩
    have R1 := Lib.hid (R0.out.below hb1)
    clear R0 hb1 hld HC1
    have d1 : w1.cell? ⟨p, 1, none⟩ = some (.slice (some ⟨b0, o0, none⟩) N c) := R1.out.cell 1
    go_wp2_with fail
    refine (HI.out _ R1.out.out.2).mono ?_
    rintro e w2 ⟨rfl, hb2⟩
    have R2 := Lib.hid (R1.out.below hb2)
    clear R1 hb2 HI d1
    have d1 : w2.cell? ⟨p, 1, none⟩ = some (.slice (some ⟨b0, o0, none⟩) N c) := R2.out.cell 1
    have hcl := fun i => R2.out.out.2.cell (p := ⟨b0, i, none⟩) (by rw [HP.out]; exact hbp)
    have c0 := (hcl _).trans HR.out.1
    have c1 := (hcl _).trans HR.out.2.1
    have c2 := (hcl _).trans HR.out.2.2.1
    have c3 := (hcl _).trans HR.out.2.2.2.1
    have c4 := (hcl _).trans HR.out.2.2.2.2.1
    have c5 := (hcl _).trans HR.out.2.2.2.2.2
    clear HP HR hcl
    go_wp2_with fail
    refine (HCO.out _).mono ?_
    rintro e w3 ⟨rfl, hb3⟩
    have R3 := Lib.hid (R2.out.below hb3)
    clear R2 hb3 HCO d1 c0 c1 c2 c3 c4 c5
    go_wp2_with fail
    go_ret
    exact ⟨rfl, R3.out.out.2⟩

set_option maxRecDepth 100000 in
set_option maxHeartbeats 8000000 in
/-- seg.Since. -/
theorem SegSince_is (n b : Int) (rs : List Rc) (N : Nat) (A : Option Addr) (c B a : Nat) (R : Rc) (E : Int) (w : World) (hN : rs.length = N) (hm : N ≤ 9223372036854775807) (hcap : N ≤ c) (hB : B ≤ w.heap.size) (h : RecsAt w B A rs) (hF : First (bySince n) rs a) (hO : Out b rs a R E) :
    Calls Try.prog 7 #[.agg #[.int .i64 b, .slice A N c], .int .i64 n] w fun e w' => e = .returned (.tuple #[ragg R, .int .i64 E]) ∧ Below w.heap.size w w' := by
  have hT := Tri.new w 24 3 31 (sarr b A N c) #[.int .i64 n] zcells
  obtain ⟨V, hV, htold⟩ := out_found hO
  have HFI := Lib.hid (fun g W (hb : Below w.heap.size w W) (hg : W.cell? ⟨g, 0, none⟩ = some (.int .i64 n)) => firstSince_is n b rs N A c B g a V W hN hm hcap (Nat.le_trans hB hb.size) (h.below (hb.mono hB)) hg hF hV)
  have HTO := Lib.hid htold
  clear hN hm hcap hB h hF hO hV htold
  unfold ragg at HTO ⊢
  obtain ⟨o, t, key, bod, q, gn⟩ := R
  dsimp only at HTO ⊢
  generalize str key = ks at HTO ⊢
  generalize str bod = bs at HTO ⊢
  obtain ⟨p, hp⟩ : ∃ p, w.heap.size = p := ⟨_, rfl⟩
  obtain ⟨W0, hW⟩ : ∃ W0, ((w.alloc (.cells (sarr b A N c) 24)).alloc (.cells #[.int .i64 n] 3)).alloc (.cells zcells 31) = W0 := ⟨_, rfl⟩
  rw [hW, hp] at hT
  unfold sarr at hT hW
  unfold zcells at hW
  unfold rarr at HTO ⊢
  have T0 := Lib.hid hT
  have HW := Lib.hid hW
  have HP := Lib.hid hp
  clear hT hW hp
  have hmf : ∀ (fn : Fn) (first cap : Array Value) (w : World), (Instr.makeFunc fn first cap).run Try.prog w = .ok (.func fn first cap) w := fun _ _ _ _ => rfl
  go_enter Try.func7, Try.ntmps7
  go_upto_region 1 with fail
  rw [HW.out, HP.out]
  clear HW HP
  have hld := load_seg T0.out.out.1 rfl
  have HG := Lib.hid (show W0.cell? ⟨p + 1, 0, none⟩ = some (.int .i64 n) from T0.out.cell2 0)
  go_wp2_with (refine wpList_load_any (by rfl) 24 (.tmp 2) rfl p 0 rfl _ hld ?_; simp only [Act.put])
  refine (HFI.out (p + 1) _ T0.out.bel HG.out).mono ?_
  rintro e w1 ⟨rfl, hb1⟩
  have T1 := Lib.hid (T0.out.below hb1)
  clear T0 hb1 hld HFI HG
  go_wp2_with fail
  refine (HTO.out _).mono ?_
  rintro e w2 ⟨rfl, hb2⟩
  have T2 := Lib.hid (T1.out.below hb2)
  clear T1 hb2 HTO
  have HB := Lib.hid T2.out.out.2.2.1
  have T3 := Lib.hid (T2.out.row3 #[.int .i64 o, .int .i64 t, .string ks, .string bs, .int .i64 q, .bool gn])
  clear T2
  go_wp2_with (refine wpList_store_whole rfl 31 (.tmp 4) (.tmp 10) rfl (p + 2) _ rfl rfl _ HB.out info_rec rfl (by simp [Value.oneCell']) ?_; simp only [Act.put])
  refine bodyPost_ret (results_cell2 Try.results7 rfl (load_blk T3.out.out.2.2.1 rfl) rfl) rfl ⟨rfl, T3.out.bel⟩
end Go.Proofs.Ythhpmhibkbndhaa
/- The document's own answer: where the first record is that is far enough. -/
namespace Go.Proofs.Ythhpmhibkbndhaa
open Go.RowKit Go.Lib Rcd

set_option maxRecDepth 100000 in
set_option maxHeartbeats 4000000 in
/-- fairwayref10.Find. -/
theorem RFind_is (n : Int) (rs : List Rc) (N : Nat) (A : Option Addr) (c B a : Nat) (z : Int) (w : World) (hN : rs.length = N) (hm : N ≤ 9223372036854775807) (h : RecsAt w B A rs) (hF : First (byFind n) rs a) (hz : atOf a N = z) :
    Calls Try.prog 8 #[.slice A N c, .int .i64 n] w fun e w' => e = .returned (.int .i64 z) ∧ w = w' := by
  have H := Lib.hid h
  have HF := Lib.hid hF
  have HNN := Lib.hid hN
  have haN : a ≤ N := by rw [← hN]; exact hF.le
  have HZ := Lib.hid hz
  clear h hF hN hz
  go_enter Try.func8, Try.ntmps8
  go_wp2_with fail
  go_loopw [5] (fun i wr => ∃ k : Nat, k ≤ a ∧ i = .int .i64 (k : Int) ∧ wr = w) (fun i _ => N - (RowKit.intOf i).toNat)
  case atStart => exact ⟨0, Nat.zero_le _, rfl, rfl⟩
  case round =>
    obtain ⟨k, hk, rfl, rfl⟩ := hrel
    by_cases hlt : k < N
    · have hlr : k < rs.length := by rw [HNN.out]; exact hlt
      obtain ⟨b0, o0, rfl, hb0, hc⟩ := H.out.some_ (by omega)
      obtain ⟨c0, c1, c2, c3, c4, c5⟩ := hc k hlr
      have hwhich : (n ≤ rs[k].o ∧ k = a) ∨ (¬ n ≤ rs[k].o ∧ k < a) := by
        rcases Nat.lt_or_ge k a with h1 | h1
        · exact .inr ⟨of_decide_eq_false (HF.out.lo k hlr h1), h1⟩
        · obtain rfl : k = a := by omega
          exact .inl ⟨of_decide_eq_true (HF.out.hi hlr), rfl⟩
      generalize rs[k].o = o at c0 hwhich
      clear hc c1 c2 c3 c4 c5
      have e1 : (k : Int) < (N : Int) := by omega
      clear hlr
      rcases hwhich with ⟨h1, rfl⟩ | ⟨h1, hka⟩
      · have HZ1 := Lib.hid ((show atOf k N = (k : Int) from if_pos hlt).symm.trans HZ.out)
        go_wp2_with fail
        go_ret
        exact ⟨ret_int HZ1.out, rfl⟩
      · go_wp2_with fail
        go_roundw
        case rel => exact ⟨k + 1, hka, by go_num, by trivial⟩
        case measure => simp [RowKit.intOf]; omega
    · obtain rfl : a = N := by omega
      have HZ1 := Lib.hid ((show atOf a a = -1 from if_neg (Nat.lt_irrefl _)).symm.trans HZ.out)
      obtain rfl : k = a := by omega
      go_wp2_with fail
      go_ret
      exact ⟨ret_int HZ1.out, rfl⟩

set_option maxRecDepth 100000 in
set_option maxHeartbeats 4000000 in
/-- fairwayref10.Since. -/
theorem RSince_is (n : Int) (rs : List Rc) (N : Nat) (A : Option Addr) (c B a : Nat) (z : Int) (w : World) (hN : rs.length = N) (hm : N ≤ 9223372036854775807) (h : RecsAt w B A rs) (hF : First (bySince n) rs a) (hz : atOf a N = z) :
    Calls Try.prog 9 #[.slice A N c, .int .i64 n] w fun e w' => e = .returned (.int .i64 z) ∧ w = w' := by
  have H := Lib.hid h
  have HF := Lib.hid hF
  have HNN := Lib.hid hN
  have haN : a ≤ N := by rw [← hN]; exact hF.le
  have HZ := Lib.hid hz
  clear h hF hN hz
  go_enter Try.func9, Try.ntmps9
  go_wp2_with fail
  go_loopw [5] (fun i wr => ∃ k : Nat, k ≤ a ∧ i = .int .i64 (k : Int) ∧ wr = w) (fun i _ => N - (RowKit.intOf i).toNat)
  case atStart => exact ⟨0, Nat.zero_le _, rfl, rfl⟩
  case round =>
    obtain ⟨k, hk, rfl, rfl⟩ := hrel
    by_cases hlt : k < N
    · have hlr : k < rs.length := by rw [HNN.out]; exact hlt
      obtain ⟨b0, o0, rfl, hb0, hc⟩ := H.out.some_ (by omega)
      obtain ⟨c0, c1, c2, c3, c4, c5⟩ := hc k hlr
      have hwhich : (n ≤ rs[k].t ∧ k = a) ∨ (¬ n ≤ rs[k].t ∧ k < a) := by
        rcases Nat.lt_or_ge k a with h1 | h1
        · exact .inr ⟨of_decide_eq_false (HF.out.lo k hlr h1), h1⟩
        · obtain rfl : k = a := by omega
          exact .inl ⟨of_decide_eq_true (HF.out.hi hlr), rfl⟩
      generalize rs[k].t = o at c1 hwhich
      clear hc c0 c2 c3 c4 c5
      have e1 : (k : Int) < (N : Int) := by omega
      clear hlr
      rcases hwhich with ⟨h1, rfl⟩ | ⟨h1, hka⟩
      · have HZ1 := Lib.hid ((show atOf k N = (k : Int) from if_pos hlt).symm.trans HZ.out)
        go_wp2_with fail
        go_ret
        exact ⟨ret_int HZ1.out, rfl⟩
      · go_wp2_with fail
        go_roundw
        case rel => exact ⟨k + 1, hka, by go_num, by trivial⟩
        case measure => simp [RowKit.intOf]; omega
    · obtain rfl : a = N := by omega
      have HZ1 := Lib.hid ((show atOf a a = -1 from if_neg (Nat.lt_irrefl _)).symm.trans HZ.out)
      obtain rfl : k = a := by omega
      go_wp2_with fail
      go_ret
      exact ⟨ret_int HZ1.out, rfl⟩
end Go.Proofs.Ythhpmhibkbndhaa
/- The document's own answer: whether a segment may be. -/
namespace Go.Proofs.Ythhpmhibkbndhaa
open Go.RowKit Go.Lib Rcd

theorem load_parts {W : World} {g o : Nat} {x t : Int} {k b : ByteArray} {q : Int} {h : Bool} (c0 : W.cell? ⟨g, o, none⟩ = some (.int .i64 x)) (c1 : W.cell? ⟨g, o + 1, none⟩ = some (.int .i64 t)) (c2 : W.cell? ⟨g, o + 2, none⟩ = some (.string k)) (c3 : W.cell? ⟨g, o + 3, none⟩ = some (.string b)) (c4 : W.cell? ⟨g, o + 4, none⟩ = some (.int .i64 q)) (c5 : W.cell? ⟨g, o + 5, none⟩ = some (.bool h)) :
    (loadVar 31 ⟨g, o, none⟩).run Try.prog W = .ok (.agg #[.int .i64 x, .int .i64 t, .string k, .string b, .int .i64 q, .bool h]) W :=
  run_loadVar_mid W g o 31 [.int .i64 x, .int .i64 t, .string k, .string b, .int .i64 q, .bool h] _ (fun j v hv => by
    match j, hv with
    | 0, hv => rw [← hv]; exact c0
    | 1, hv => rw [← hv]; exact c1
    | 2, hv => rw [← hv]; exact c2
    | 3, hv => rw [← hv]; exact c3
    | 4, hv => rw [← hv]; exact c4
    | 5, hv => rw [← hv]; exact c5) Try.underlying31 rfl info_rec

/-- So many of the first ones are as the document asks. -/
def DocTo (b : Int) (rs : List Rc) (k : Nat) : Prop := ∀ j, j < rs.length → j < k → docAt b rs j

set_option maxRecDepth 100000 in
set_option maxHeartbeats 16000000 in
/-- fairwayref10.Seg. -/
theorem RSeg_is (b : Int) (rs : List Rc) (N : Nat) (A : Option Addr) (c B : Nat) (X0 : Bool) (w : World) (hN : rs.length = N) (hm : N ≤ 9223372036854775807) (hB : B ≤ w.heap.size) (h : RecsAt w B A rs) (hX : segB b rs = X0) :
    Calls Try.prog 5 #[.agg #[.int .i64 b, .slice A N c]] w fun e w' => e = .returned (.bool X0) ∧ Below w.heap.size w w' := by
  have R0 := Lib.hid (RBox.new w 24 (sarr b A N c))
  obtain ⟨p, hp⟩ : ∃ p, w.heap.size = p := ⟨_, rfl⟩
  obtain ⟨W0, hW⟩ : ∃ W0, w.alloc (.cells (sarr b A N c) 24) = W0 := ⟨_, rfl⟩
  rw [hW, hp] at R0
  unfold sarr at R0 hW
  have HW := Lib.hid hW
  have HP := Lib.hid hp
  have H := Lib.hid (h.mono hB)
  have HX := Lib.hid hX
  have HNN := Lib.hid hN
  clear hW hp h hX hN hB
  have n2 : (N : Int) < 9223372036854775808 := by omega
  go_enter Try.func5, Try.ntmps5
  go_upto_region 1 with fail
  rw [HW.out, HP.out]
  clear HW
  go_wp2_with fail
  go_loopw [3] (fun i wr => ∃ k : Nat, k ≤ N ∧ i = .int .i64 (k : Int) ∧ RBox w p #[.int .i64 b, .slice A N c] wr ∧ DocTo b rs k) (fun i _ => N - (RowKit.intOf i).toNat)
  case atStart => exact ⟨0, Nat.zero_le _, rfl, R0.out, fun j _ h => absurd h (Nat.not_lt_zero _)⟩
  case round =>
    obtain ⟨k, hk, rfl, hbx, hdoc⟩ := hrel
    have HD := Lib.hid hdoc
    have R := Lib.hid hbx
    clear hbx hdoc R0
    have d1 : wr.cell? ⟨p, 1, none⟩ = some (.slice A N c) := R.out.cell 1
    by_cases hlt : k < N
    · have hlr : k < rs.length := by rw [HNN.out]; exact hlt
      obtain ⟨b0, o0, rfl, hb0, hc⟩ := H.out.some_ (by omega)
      have hr := hc k hlr
      have HYES : Hid ((mayB rs[k] = true ∧ b ≤ rs[k].o ∧ (∀ h0 : 0 < k, pairB (rs[k - 1]'(by omega)) rs[k] = true)) → DocTo b rs (k + 1)) := by
        show _ → _
        intro hall j hj hjk
        by_cases hjk2 : j < k
        · exact HD.out j hj hjk2
        · obtain rfl : j = k := by omega
          exact fun _ => hall
      have HNO : Hid (¬ (mayB rs[k] = true ∧ b ≤ rs[k].o ∧ (∀ h0 : 0 < k, pairB (rs[k - 1]'(by omega)) rs[k] = true)) → X0 = false) := by
        show _ → _
        intro hno
        rw [← HX.out, ← Bool.not_eq_true]
        intro hs
        exact hno ((seg_doc.1 hs).2 k hlr hlr)
      obtain ⟨M, hM⟩ : ∃ M, mayB rs[k] = M := ⟨_, rfl⟩
      have HRR := Lib.hid (fun W => RRec_is rs[k] M W hM)
      rw [hM] at HYES HNO
      clear HD hM
      have e1 : (k : Int) < (N : Int) := by omega
      rcases Nat.eq_zero_or_pos k with hk0 | hkp
      · have g1 : decide (0 < k) = false := decide_eq_false (by omega)
        have g2 : decide ((0 : Int) < (k : Int)) = false := decide_eq_false (by omega)
        replace HYES : Hid (M = true ∧ b ≤ rs[k].o → DocTo b rs (k + 1)) := fun h => HYES.out ⟨h.1, h.2, fun h0 => absurd h0 (by omega)⟩
        replace HNO : Hid (¬ (M = true ∧ b ≤ rs[k].o) → X0 = false) := fun h => HNO.out fun h2 => h ⟨h2.1, h2.2.1⟩
        clear hc
        unfold ragg at HRR
        generalize rs[k] = r at hr HRR HYES HNO
        obtain ⟨o, t, key, bod, q, g⟩ := r
        obtain ⟨c0, c1, c2, c3, c4, c5⟩ := hr
        dsimp only at c0 c1 c2 c3 c4 c5 HRR HYES HNO
        generalize str key = ks at c2 HRR
        generalize str bod = bs at c3 HRR
        unfold rarr at HRR
        clear hk0 hlr
        cases M with
        | false =>
          haveI : Nonempty (In (RBox w p #[.int .i64 b, .slice (some ⟨b0, o0, none⟩) N c])) := ⟨⟨_, R.out⟩⟩
          have k0 := fun u : In (RBox w p #[.int .i64 b, .slice (some ⟨b0, o0, none⟩) N c]) => (show u.w.cell? ⟨p, 0, none⟩ = some (.int .i64 b) from u.h.cell 0)
          have k1 := fun u : In (RBox w p #[.int .i64 b, .slice (some ⟨b0, o0, none⟩) N c]) => (show u.w.cell? ⟨p, 1, none⟩ = some (.slice (some ⟨b0, o0, none⟩) N c) from u.h.cell 1)
          have kr := fun u : In (RBox w p #[.int .i64 b, .slice (some ⟨b0, o0, none⟩) N c]) => (u.h.out.2.cell (p := ⟨b0, o0 + k * 6, none⟩) hb0).trans c0
          have kt := fun u : In (RBox w p #[.int .i64 b, .slice (some ⟨b0, o0, none⟩) N c]) => (u.h.out.2.cell (p := ⟨b0, o0 + k * 6 + 1, none⟩) hb0).trans c1
          have kl := fun u : In (RBox w p #[.int .i64 b, .slice (some ⟨b0, o0, none⟩) N c]) => load_parts ((u.h.out.2.cell (p := ⟨b0, o0 + k * 6, none⟩) hb0).trans c0) ((u.h.out.2.cell (p := ⟨b0, o0 + k * 6 + 1, none⟩) hb0).trans c1) ((u.h.out.2.cell (p := ⟨b0, o0 + k * 6 + 2, none⟩) hb0).trans c2) ((u.h.out.2.cell (p := ⟨b0, o0 + k * 6 + 3, none⟩) hb0).trans c3) ((u.h.out.2.cell (p := ⟨b0, o0 + k * 6 + 4, none⟩) hb0).trans c4) ((u.h.out.2.cell (p := ⟨b0, o0 + k * 6 + 5, none⟩) hb0).trans c5)
          have st0 := R.out
          clear R c0 c1 c2 c3 c4 c5
          go_upto_region 4 with fail
          refine region_in (S := RBox w p #[.int .i64 b, .slice (some ⟨b0, o0, none⟩) N c]) (by kernel_rfl) (by kernel_rfl) (st0.drewN 1) ?_
          iterate 4 (go_big_quiet_step (fail))
          go_big_quiet_want
          refine quiet_load_in 31 (.tmp 14) rfl b0 (o0 + k * 6) rfl _ kl ?_
          go_simp
          go_big_quiet_on
          repeat (go_big_quiet_step (first | (go_at_call 13; exact in_call ((HRR.out _).mono fun _ _ h => ⟨h.1, RBox.below (In.h _) h.2⟩))))
          refine wpQuiet_nil ?_
          rintro _ ⟨⟨w7, st7⟩, rfl⟩
          have S7 := Lib.hid st7
          clear this st0 st7 k0 k1 kr kt kl HRR
          (try simp only [Bool.not_true, Bool.not_false])
          obtain rfl : X0 = false := HNO.out (fun h => by cases h.1)
          go_wp2_with fail
          go_ret
          exact ⟨rfl, S7.out.out.2⟩
        | true =>
        by_cases h2 : o < b
        · have g3 : decide (o < b) = true := decide_eq_true h2
          haveI : Nonempty (In (RBox w p #[.int .i64 b, .slice (some ⟨b0, o0, none⟩) N c])) := ⟨⟨_, R.out⟩⟩
          have k0 := fun u : In (RBox w p #[.int .i64 b, .slice (some ⟨b0, o0, none⟩) N c]) => (show u.w.cell? ⟨p, 0, none⟩ = some (.int .i64 b) from u.h.cell 0)
          have k1 := fun u : In (RBox w p #[.int .i64 b, .slice (some ⟨b0, o0, none⟩) N c]) => (show u.w.cell? ⟨p, 1, none⟩ = some (.slice (some ⟨b0, o0, none⟩) N c) from u.h.cell 1)
          have kr := fun u : In (RBox w p #[.int .i64 b, .slice (some ⟨b0, o0, none⟩) N c]) => (u.h.out.2.cell (p := ⟨b0, o0 + k * 6, none⟩) hb0).trans c0
          have kt := fun u : In (RBox w p #[.int .i64 b, .slice (some ⟨b0, o0, none⟩) N c]) => (u.h.out.2.cell (p := ⟨b0, o0 + k * 6 + 1, none⟩) hb0).trans c1
          have kl := fun u : In (RBox w p #[.int .i64 b, .slice (some ⟨b0, o0, none⟩) N c]) => load_parts ((u.h.out.2.cell (p := ⟨b0, o0 + k * 6, none⟩) hb0).trans c0) ((u.h.out.2.cell (p := ⟨b0, o0 + k * 6 + 1, none⟩) hb0).trans c1) ((u.h.out.2.cell (p := ⟨b0, o0 + k * 6 + 2, none⟩) hb0).trans c2) ((u.h.out.2.cell (p := ⟨b0, o0 + k * 6 + 3, none⟩) hb0).trans c3) ((u.h.out.2.cell (p := ⟨b0, o0 + k * 6 + 4, none⟩) hb0).trans c4) ((u.h.out.2.cell (p := ⟨b0, o0 + k * 6 + 5, none⟩) hb0).trans c5)
          have st0 := R.out
          clear R c0 c1 c2 c3 c4 c5
          go_upto_region 4 with fail
          refine region_in (S := RBox w p #[.int .i64 b, .slice (some ⟨b0, o0, none⟩) N c]) (by kernel_rfl) (by kernel_rfl) (st0.drewN 1) ?_
          iterate 4 (go_big_quiet_step (fail))
          go_big_quiet_want
          refine quiet_load_in 31 (.tmp 14) rfl b0 (o0 + k * 6) rfl _ kl ?_
          go_simp
          go_big_quiet_on
          repeat (go_big_quiet_step (first | (go_at_call 13; exact in_call ((HRR.out _).mono fun _ _ h => ⟨h.1, RBox.below (In.h _) h.2⟩))))
          refine wpQuiet_nil ?_
          rintro _ ⟨⟨w7, st7⟩, rfl⟩
          have S7 := Lib.hid st7
          clear this st0 st7 k0 k1 kr kt kl HRR
          (try simp only [Bool.not_true, Bool.not_false])
          obtain rfl : X0 = false := HNO.out (fun h => by have := h.2; omega)
          go_wp2_with fail
          go_ret
          exact ⟨rfl, S7.out.out.2⟩
        · have g3 : decide (o < b) = false := decide_eq_false h2
          haveI : Nonempty (In (RBox w p #[.int .i64 b, .slice (some ⟨b0, o0, none⟩) N c])) := ⟨⟨_, R.out⟩⟩
          have k0 := fun u : In (RBox w p #[.int .i64 b, .slice (some ⟨b0, o0, none⟩) N c]) => (show u.w.cell? ⟨p, 0, none⟩ = some (.int .i64 b) from u.h.cell 0)
          have k1 := fun u : In (RBox w p #[.int .i64 b, .slice (some ⟨b0, o0, none⟩) N c]) => (show u.w.cell? ⟨p, 1, none⟩ = some (.slice (some ⟨b0, o0, none⟩) N c) from u.h.cell 1)
          have kr := fun u : In (RBox w p #[.int .i64 b, .slice (some ⟨b0, o0, none⟩) N c]) => (u.h.out.2.cell (p := ⟨b0, o0 + k * 6, none⟩) hb0).trans c0
          have kt := fun u : In (RBox w p #[.int .i64 b, .slice (some ⟨b0, o0, none⟩) N c]) => (u.h.out.2.cell (p := ⟨b0, o0 + k * 6 + 1, none⟩) hb0).trans c1
          have kl := fun u : In (RBox w p #[.int .i64 b, .slice (some ⟨b0, o0, none⟩) N c]) => load_parts ((u.h.out.2.cell (p := ⟨b0, o0 + k * 6, none⟩) hb0).trans c0) ((u.h.out.2.cell (p := ⟨b0, o0 + k * 6 + 1, none⟩) hb0).trans c1) ((u.h.out.2.cell (p := ⟨b0, o0 + k * 6 + 2, none⟩) hb0).trans c2) ((u.h.out.2.cell (p := ⟨b0, o0 + k * 6 + 3, none⟩) hb0).trans c3) ((u.h.out.2.cell (p := ⟨b0, o0 + k * 6 + 4, none⟩) hb0).trans c4) ((u.h.out.2.cell (p := ⟨b0, o0 + k * 6 + 5, none⟩) hb0).trans c5)
          have st0 := R.out
          clear R c0 c1 c2 c3 c4 c5
          go_upto_region 4 with fail
          refine region_in (S := RBox w p #[.int .i64 b, .slice (some ⟨b0, o0, none⟩) N c]) (by kernel_rfl) (by kernel_rfl) (st0.drewN 1) ?_
          iterate 4 (go_big_quiet_step (fail))
          go_big_quiet_want
          refine quiet_load_in 31 (.tmp 14) rfl b0 (o0 + k * 6) rfl _ kl ?_
          go_simp
          go_big_quiet_on
          repeat (go_big_quiet_step (first | (go_at_call 13; exact in_call ((HRR.out _).mono fun _ _ h => ⟨h.1, RBox.below (In.h _) h.2⟩))))
          refine wpQuiet_nil ?_
          rintro _ ⟨⟨w7, st7⟩, rfl⟩
          have S7 := Lib.hid st7
          clear this st0 st7 k0 k1 kr kt kl HRR
          (try simp only [Bool.not_true, Bool.not_false])
          go_wp2_with fail
          go_roundw
          case rel => exact ⟨k + 1, hlt, by go_num, S7.out, HYES.out (⟨rfl, by omega⟩)⟩
          case measure => simp [RowKit.intOf]; omega
      · obtain ⟨j, hj⟩ : ∃ j, j + 1 = k := ⟨k - 1, by omega⟩
        have g1 : decide (0 < k) = true := decide_eq_true hkp
        have g2 : decide ((0 : Int) < (k : Int)) = true := decide_eq_true (by omega)
        have e5 : (k : Int) - 1 = (j : Int) := by omega
        have e6 : (j : Int) < (N : Int) := by omega
        have hjl : j < rs.length := by omega
        have hrj := hc j hjl
        have hjk : rs[k - 1]'(by omega) = rs[j] := by congr 1; omega
        replace HYES : Hid (M = true ∧ b ≤ rs[k].o ∧ rs[j].o < rs[k].o ∧ rs[j].t ≤ rs[k].t → DocTo b rs (k + 1)) := fun h => HYES.out ⟨h.1, h.2.1, fun h0 => by rw [hjk]; exact pair_iff.2 h.2.2⟩
        replace HNO : Hid (¬ (M = true ∧ b ≤ rs[k].o ∧ rs[j].o < rs[k].o ∧ rs[j].t ≤ rs[k].t) → X0 = false) := fun h => HNO.out fun h2 => h ⟨h2.1, h2.2.1, by have := h2.2.2 hkp; rw [hjk] at this; exact pair_iff.1 this⟩
        unfold ragg at HRR
        generalize rs[k] = r at hr HRR HYES HNO
        generalize rs[j] = r' at hrj HYES HNO
        obtain ⟨o, t, key, bod, q, g⟩ := r
        obtain ⟨o', t', key', bod', q', g'⟩ := r'
        obtain ⟨c0, c1, c2, c3, c4, c5⟩ := hr
        obtain ⟨x0, x1, _, _, _, _⟩ := hrj
        dsimp only at c0 c1 c2 c3 c4 c5 x0 x1 HRR HYES HNO
        generalize str key = ks at c2 HRR
        generalize str bod = bs at c3 HRR
        unfold rarr at HRR
        clear hc hlr hj hkp hjl hjk
        cases M with
        | false =>
          haveI : Nonempty (In (RBox w p #[.int .i64 b, .slice (some ⟨b0, o0, none⟩) N c])) := ⟨⟨_, R.out⟩⟩
          have k0 := fun u : In (RBox w p #[.int .i64 b, .slice (some ⟨b0, o0, none⟩) N c]) => (show u.w.cell? ⟨p, 0, none⟩ = some (.int .i64 b) from u.h.cell 0)
          have k1 := fun u : In (RBox w p #[.int .i64 b, .slice (some ⟨b0, o0, none⟩) N c]) => (show u.w.cell? ⟨p, 1, none⟩ = some (.slice (some ⟨b0, o0, none⟩) N c) from u.h.cell 1)
          have kr := fun u : In (RBox w p #[.int .i64 b, .slice (some ⟨b0, o0, none⟩) N c]) => (u.h.out.2.cell (p := ⟨b0, o0 + k * 6, none⟩) hb0).trans c0
          have kt := fun u : In (RBox w p #[.int .i64 b, .slice (some ⟨b0, o0, none⟩) N c]) => (u.h.out.2.cell (p := ⟨b0, o0 + k * 6 + 1, none⟩) hb0).trans c1
          have kl := fun u : In (RBox w p #[.int .i64 b, .slice (some ⟨b0, o0, none⟩) N c]) => load_parts ((u.h.out.2.cell (p := ⟨b0, o0 + k * 6, none⟩) hb0).trans c0) ((u.h.out.2.cell (p := ⟨b0, o0 + k * 6 + 1, none⟩) hb0).trans c1) ((u.h.out.2.cell (p := ⟨b0, o0 + k * 6 + 2, none⟩) hb0).trans c2) ((u.h.out.2.cell (p := ⟨b0, o0 + k * 6 + 3, none⟩) hb0).trans c3) ((u.h.out.2.cell (p := ⟨b0, o0 + k * 6 + 4, none⟩) hb0).trans c4) ((u.h.out.2.cell (p := ⟨b0, o0 + k * 6 + 5, none⟩) hb0).trans c5)
          have kx := fun u : In (RBox w p #[.int .i64 b, .slice (some ⟨b0, o0, none⟩) N c]) => (u.h.out.2.cell (p := ⟨b0, o0 + j * 6, none⟩) hb0).trans x0
          have ky := fun u : In (RBox w p #[.int .i64 b, .slice (some ⟨b0, o0, none⟩) N c]) => (u.h.out.2.cell (p := ⟨b0, o0 + j * 6 + 1, none⟩) hb0).trans x1
          have st0 := R.out
          clear R c0 c1 c2 c3 c4 c5 x0 x1
          go_upto_region 4 with fail
          refine region_in (S := RBox w p #[.int .i64 b, .slice (some ⟨b0, o0, none⟩) N c]) (by kernel_rfl) (by kernel_rfl) (st0.drewN 1) ?_
          iterate 4 (go_big_quiet_step (fail))
          go_big_quiet_want
          refine quiet_load_in 31 (.tmp 14) rfl b0 (o0 + k * 6) rfl _ kl ?_
          go_simp
          go_big_quiet_on
          repeat (go_big_quiet_step (first | (go_at_call 13; exact in_call ((HRR.out _).mono fun _ _ h => ⟨h.1, RBox.below (In.h _) h.2⟩))))
          refine wpQuiet_nil ?_
          rintro _ ⟨⟨w7, st7⟩, rfl⟩
          have S7 := Lib.hid st7
          clear this st0 st7 k0 k1 kr kt kl HRR kx ky
          (try simp only [Bool.not_true, Bool.not_false])
          obtain rfl : X0 = false := HNO.out (fun h => by cases h.1)
          go_wp2_with fail
          go_ret
          exact ⟨rfl, S7.out.out.2⟩
        | true =>
        by_cases h2 : o < b
        · have g3 : decide (o < b) = true := decide_eq_true h2
          haveI : Nonempty (In (RBox w p #[.int .i64 b, .slice (some ⟨b0, o0, none⟩) N c])) := ⟨⟨_, R.out⟩⟩
          have k0 := fun u : In (RBox w p #[.int .i64 b, .slice (some ⟨b0, o0, none⟩) N c]) => (show u.w.cell? ⟨p, 0, none⟩ = some (.int .i64 b) from u.h.cell 0)
          have k1 := fun u : In (RBox w p #[.int .i64 b, .slice (some ⟨b0, o0, none⟩) N c]) => (show u.w.cell? ⟨p, 1, none⟩ = some (.slice (some ⟨b0, o0, none⟩) N c) from u.h.cell 1)
          have kr := fun u : In (RBox w p #[.int .i64 b, .slice (some ⟨b0, o0, none⟩) N c]) => (u.h.out.2.cell (p := ⟨b0, o0 + k * 6, none⟩) hb0).trans c0
          have kt := fun u : In (RBox w p #[.int .i64 b, .slice (some ⟨b0, o0, none⟩) N c]) => (u.h.out.2.cell (p := ⟨b0, o0 + k * 6 + 1, none⟩) hb0).trans c1
          have kl := fun u : In (RBox w p #[.int .i64 b, .slice (some ⟨b0, o0, none⟩) N c]) => load_parts ((u.h.out.2.cell (p := ⟨b0, o0 + k * 6, none⟩) hb0).trans c0) ((u.h.out.2.cell (p := ⟨b0, o0 + k * 6 + 1, none⟩) hb0).trans c1) ((u.h.out.2.cell (p := ⟨b0, o0 + k * 6 + 2, none⟩) hb0).trans c2) ((u.h.out.2.cell (p := ⟨b0, o0 + k * 6 + 3, none⟩) hb0).trans c3) ((u.h.out.2.cell (p := ⟨b0, o0 + k * 6 + 4, none⟩) hb0).trans c4) ((u.h.out.2.cell (p := ⟨b0, o0 + k * 6 + 5, none⟩) hb0).trans c5)
          have kx := fun u : In (RBox w p #[.int .i64 b, .slice (some ⟨b0, o0, none⟩) N c]) => (u.h.out.2.cell (p := ⟨b0, o0 + j * 6, none⟩) hb0).trans x0
          have ky := fun u : In (RBox w p #[.int .i64 b, .slice (some ⟨b0, o0, none⟩) N c]) => (u.h.out.2.cell (p := ⟨b0, o0 + j * 6 + 1, none⟩) hb0).trans x1
          have st0 := R.out
          clear R c0 c1 c2 c3 c4 c5 x0 x1
          go_upto_region 4 with fail
          refine region_in (S := RBox w p #[.int .i64 b, .slice (some ⟨b0, o0, none⟩) N c]) (by kernel_rfl) (by kernel_rfl) (st0.drewN 1) ?_
          iterate 4 (go_big_quiet_step (fail))
          go_big_quiet_want
          refine quiet_load_in 31 (.tmp 14) rfl b0 (o0 + k * 6) rfl _ kl ?_
          go_simp
          go_big_quiet_on
          repeat (go_big_quiet_step (first | (go_at_call 13; exact in_call ((HRR.out _).mono fun _ _ h => ⟨h.1, RBox.below (In.h _) h.2⟩))))
          refine wpQuiet_nil ?_
          rintro _ ⟨⟨w7, st7⟩, rfl⟩
          have S7 := Lib.hid st7
          clear this st0 st7 k0 k1 kr kt kl HRR kx ky
          (try simp only [Bool.not_true, Bool.not_false])
          obtain rfl : X0 = false := HNO.out (fun h => by have := h.2.1; omega)
          go_wp2_with fail
          go_ret
          exact ⟨rfl, S7.out.out.2⟩
        · have g3 : decide (o < b) = false := decide_eq_false h2
          by_cases h3 : o ≤ o'
          · have g4 : decide (o ≤ o') = true := decide_eq_true h3
            haveI : Nonempty (In (RBox w p #[.int .i64 b, .slice (some ⟨b0, o0, none⟩) N c])) := ⟨⟨_, R.out⟩⟩
            have k0 := fun u : In (RBox w p #[.int .i64 b, .slice (some ⟨b0, o0, none⟩) N c]) => (show u.w.cell? ⟨p, 0, none⟩ = some (.int .i64 b) from u.h.cell 0)
            have k1 := fun u : In (RBox w p #[.int .i64 b, .slice (some ⟨b0, o0, none⟩) N c]) => (show u.w.cell? ⟨p, 1, none⟩ = some (.slice (some ⟨b0, o0, none⟩) N c) from u.h.cell 1)
            have kr := fun u : In (RBox w p #[.int .i64 b, .slice (some ⟨b0, o0, none⟩) N c]) => (u.h.out.2.cell (p := ⟨b0, o0 + k * 6, none⟩) hb0).trans c0
            have kt := fun u : In (RBox w p #[.int .i64 b, .slice (some ⟨b0, o0, none⟩) N c]) => (u.h.out.2.cell (p := ⟨b0, o0 + k * 6 + 1, none⟩) hb0).trans c1
            have kl := fun u : In (RBox w p #[.int .i64 b, .slice (some ⟨b0, o0, none⟩) N c]) => load_parts ((u.h.out.2.cell (p := ⟨b0, o0 + k * 6, none⟩) hb0).trans c0) ((u.h.out.2.cell (p := ⟨b0, o0 + k * 6 + 1, none⟩) hb0).trans c1) ((u.h.out.2.cell (p := ⟨b0, o0 + k * 6 + 2, none⟩) hb0).trans c2) ((u.h.out.2.cell (p := ⟨b0, o0 + k * 6 + 3, none⟩) hb0).trans c3) ((u.h.out.2.cell (p := ⟨b0, o0 + k * 6 + 4, none⟩) hb0).trans c4) ((u.h.out.2.cell (p := ⟨b0, o0 + k * 6 + 5, none⟩) hb0).trans c5)
            have kx := fun u : In (RBox w p #[.int .i64 b, .slice (some ⟨b0, o0, none⟩) N c]) => (u.h.out.2.cell (p := ⟨b0, o0 + j * 6, none⟩) hb0).trans x0
            have ky := fun u : In (RBox w p #[.int .i64 b, .slice (some ⟨b0, o0, none⟩) N c]) => (u.h.out.2.cell (p := ⟨b0, o0 + j * 6 + 1, none⟩) hb0).trans x1
            have st0 := R.out
            clear R c0 c1 c2 c3 c4 c5 x0 x1
            go_upto_region 4 with fail
            refine region_in (S := RBox w p #[.int .i64 b, .slice (some ⟨b0, o0, none⟩) N c]) (by kernel_rfl) (by kernel_rfl) (st0.drewN 1) ?_
            iterate 4 (go_big_quiet_step (fail))
            go_big_quiet_want
            refine quiet_load_in 31 (.tmp 14) rfl b0 (o0 + k * 6) rfl _ kl ?_
            go_simp
            go_big_quiet_on
            repeat (go_big_quiet_step (first | (go_at_call 13; exact in_call ((HRR.out _).mono fun _ _ h => ⟨h.1, RBox.below (In.h _) h.2⟩))))
            refine wpQuiet_nil ?_
            rintro _ ⟨⟨w7, st7⟩, rfl⟩
            have S7 := Lib.hid st7
            clear this st0 st7 k0 k1 kr kt kl HRR kx ky
            (try simp only [Bool.not_true, Bool.not_false])
            obtain rfl : X0 = false := HNO.out (fun h => by have := h.2.2.1; omega)
            go_wp2_with fail
            go_ret
            exact ⟨rfl, S7.out.out.2⟩
          · have g4 : decide (o ≤ o') = false := decide_eq_false h3
            by_cases h4 : t < t'
            · have g5 : decide (t < t') = true := decide_eq_true h4
              haveI : Nonempty (In (RBox w p #[.int .i64 b, .slice (some ⟨b0, o0, none⟩) N c])) := ⟨⟨_, R.out⟩⟩
              have k0 := fun u : In (RBox w p #[.int .i64 b, .slice (some ⟨b0, o0, none⟩) N c]) => (show u.w.cell? ⟨p, 0, none⟩ = some (.int .i64 b) from u.h.cell 0)
              have k1 := fun u : In (RBox w p #[.int .i64 b, .slice (some ⟨b0, o0, none⟩) N c]) => (show u.w.cell? ⟨p, 1, none⟩ = some (.slice (some ⟨b0, o0, none⟩) N c) from u.h.cell 1)
              have kr := fun u : In (RBox w p #[.int .i64 b, .slice (some ⟨b0, o0, none⟩) N c]) => (u.h.out.2.cell (p := ⟨b0, o0 + k * 6, none⟩) hb0).trans c0
              have kt := fun u : In (RBox w p #[.int .i64 b, .slice (some ⟨b0, o0, none⟩) N c]) => (u.h.out.2.cell (p := ⟨b0, o0 + k * 6 + 1, none⟩) hb0).trans c1
              have kl := fun u : In (RBox w p #[.int .i64 b, .slice (some ⟨b0, o0, none⟩) N c]) => load_parts ((u.h.out.2.cell (p := ⟨b0, o0 + k * 6, none⟩) hb0).trans c0) ((u.h.out.2.cell (p := ⟨b0, o0 + k * 6 + 1, none⟩) hb0).trans c1) ((u.h.out.2.cell (p := ⟨b0, o0 + k * 6 + 2, none⟩) hb0).trans c2) ((u.h.out.2.cell (p := ⟨b0, o0 + k * 6 + 3, none⟩) hb0).trans c3) ((u.h.out.2.cell (p := ⟨b0, o0 + k * 6 + 4, none⟩) hb0).trans c4) ((u.h.out.2.cell (p := ⟨b0, o0 + k * 6 + 5, none⟩) hb0).trans c5)
              have kx := fun u : In (RBox w p #[.int .i64 b, .slice (some ⟨b0, o0, none⟩) N c]) => (u.h.out.2.cell (p := ⟨b0, o0 + j * 6, none⟩) hb0).trans x0
              have ky := fun u : In (RBox w p #[.int .i64 b, .slice (some ⟨b0, o0, none⟩) N c]) => (u.h.out.2.cell (p := ⟨b0, o0 + j * 6 + 1, none⟩) hb0).trans x1
              have st0 := R.out
              clear R c0 c1 c2 c3 c4 c5 x0 x1
              go_upto_region 4 with fail
              refine region_in (S := RBox w p #[.int .i64 b, .slice (some ⟨b0, o0, none⟩) N c]) (by kernel_rfl) (by kernel_rfl) (st0.drewN 1) ?_
              iterate 4 (go_big_quiet_step (fail))
              go_big_quiet_want
              refine quiet_load_in 31 (.tmp 14) rfl b0 (o0 + k * 6) rfl _ kl ?_
              go_simp
              go_big_quiet_on
              repeat (go_big_quiet_step (first | (go_at_call 13; exact in_call ((HRR.out _).mono fun _ _ h => ⟨h.1, RBox.below (In.h _) h.2⟩))))
              refine wpQuiet_nil ?_
              rintro _ ⟨⟨w7, st7⟩, rfl⟩
              have S7 := Lib.hid st7
              clear this st0 st7 k0 k1 kr kt kl HRR kx ky
              (try simp only [Bool.not_true, Bool.not_false])
              obtain rfl : X0 = false := HNO.out (fun h => by have := h.2.2.2; omega)
              go_wp2_with fail
              go_ret
              exact ⟨rfl, S7.out.out.2⟩
            · have g5 : decide (t < t') = false := decide_eq_false h4
              haveI : Nonempty (In (RBox w p #[.int .i64 b, .slice (some ⟨b0, o0, none⟩) N c])) := ⟨⟨_, R.out⟩⟩
              have k0 := fun u : In (RBox w p #[.int .i64 b, .slice (some ⟨b0, o0, none⟩) N c]) => (show u.w.cell? ⟨p, 0, none⟩ = some (.int .i64 b) from u.h.cell 0)
              have k1 := fun u : In (RBox w p #[.int .i64 b, .slice (some ⟨b0, o0, none⟩) N c]) => (show u.w.cell? ⟨p, 1, none⟩ = some (.slice (some ⟨b0, o0, none⟩) N c) from u.h.cell 1)
              have kr := fun u : In (RBox w p #[.int .i64 b, .slice (some ⟨b0, o0, none⟩) N c]) => (u.h.out.2.cell (p := ⟨b0, o0 + k * 6, none⟩) hb0).trans c0
              have kt := fun u : In (RBox w p #[.int .i64 b, .slice (some ⟨b0, o0, none⟩) N c]) => (u.h.out.2.cell (p := ⟨b0, o0 + k * 6 + 1, none⟩) hb0).trans c1
              have kl := fun u : In (RBox w p #[.int .i64 b, .slice (some ⟨b0, o0, none⟩) N c]) => load_parts ((u.h.out.2.cell (p := ⟨b0, o0 + k * 6, none⟩) hb0).trans c0) ((u.h.out.2.cell (p := ⟨b0, o0 + k * 6 + 1, none⟩) hb0).trans c1) ((u.h.out.2.cell (p := ⟨b0, o0 + k * 6 + 2, none⟩) hb0).trans c2) ((u.h.out.2.cell (p := ⟨b0, o0 + k * 6 + 3, none⟩) hb0).trans c3) ((u.h.out.2.cell (p := ⟨b0, o0 + k * 6 + 4, none⟩) hb0).trans c4) ((u.h.out.2.cell (p := ⟨b0, o0 + k * 6 + 5, none⟩) hb0).trans c5)
              have kx := fun u : In (RBox w p #[.int .i64 b, .slice (some ⟨b0, o0, none⟩) N c]) => (u.h.out.2.cell (p := ⟨b0, o0 + j * 6, none⟩) hb0).trans x0
              have ky := fun u : In (RBox w p #[.int .i64 b, .slice (some ⟨b0, o0, none⟩) N c]) => (u.h.out.2.cell (p := ⟨b0, o0 + j * 6 + 1, none⟩) hb0).trans x1
              have st0 := R.out
              clear R c0 c1 c2 c3 c4 c5 x0 x1
              go_upto_region 4 with fail
              refine region_in (S := RBox w p #[.int .i64 b, .slice (some ⟨b0, o0, none⟩) N c]) (by kernel_rfl) (by kernel_rfl) (st0.drewN 1) ?_
              iterate 4 (go_big_quiet_step (fail))
              go_big_quiet_want
              refine quiet_load_in 31 (.tmp 14) rfl b0 (o0 + k * 6) rfl _ kl ?_
              go_simp
              go_big_quiet_on
              repeat (go_big_quiet_step (first | (go_at_call 13; exact in_call ((HRR.out _).mono fun _ _ h => ⟨h.1, RBox.below (In.h _) h.2⟩))))
              refine wpQuiet_nil ?_
              rintro _ ⟨⟨w7, st7⟩, rfl⟩
              have S7 := Lib.hid st7
              clear this st0 st7 k0 k1 kr kt kl HRR kx ky
              (try simp only [Bool.not_true, Bool.not_false])
              go_wp2_with fail
              go_roundw
              case rel => exact ⟨k + 1, hlt, by go_num, S7.out, HYES.out (⟨rfl, by omega, by omega, by omega⟩)⟩
              case measure => simp [RowKit.intOf]; omega
    · obtain rfl : k = N := by omega
      have HALL := Lib.hid (show X0 = (baseB b && decide (k ≤ 200)) by
        rw [← HX.out, Bool.eq_iff_iff, Bool.and_eq_true, decide_eq_true_iff]
        refine ⟨fun h => (by rw [← HNN.out]; exact (seg_doc.1 h).1), fun h => seg_doc.2 ⟨by rw [HNN.out]; exact h, fun i hi => HD.out i hi (by rw [← HNN.out]; exact hi)⟩⟩)
      have HNU := Lib.hid (fun X W (h : decide (0 ≤ b ∧ b ≤ 1099511627776) = X) => RNum_is b 1099511627776 X W h)
      have d0 : wr.cell? ⟨p, 0, none⟩ = some (.int .i64 b) := R.out.cell 0
      unfold baseB at HALL
      clear HD
      obtain ⟨Y, hY⟩ : ∃ Y, decide (0 ≤ b ∧ b ≤ 1099511627776) = Y := ⟨_, rfl⟩
      rw [hY] at HALL
      have HNU1 := Lib.hid (fun W => HNU.out Y W hY)
      clear HNU hY
      cases Y with
      | true =>
        go_wp2_with (go_at_call 14; refine (HNU1.out _).mono ?_; rintro e w' ⟨rfl, rfl⟩)
        go_ret
        exact ⟨ret_bool (by rw [HALL.out, Bool.true_and]; exact decide_eq_decide.2 (by omega)), R.out.out.2⟩
      | false =>
        go_wp2_with (go_at_call 14; refine (HNU1.out _).mono ?_; rintro e w' ⟨rfl, rfl⟩)
        go_ret
        exact ⟨ret_bool (by rw [HALL.out]; rfl), R.out.out.2⟩
end Go.Proofs.Ythhpmhibkbndhaa
/- The first few of a slice of records; a segment within a greater variable, read whole. -/
namespace Go.Proofs.Ythhpmhibkbndhaa
open Go.RowKit Go.Lib Rcd

theorem load_seg_at {W : World} {g o : Nat} {b : Int} {v : Value} (c0 : W.cell? ⟨g, o, none⟩ = some (.int .i64 b)) (c1 : W.cell? ⟨g, o + 1, none⟩ = some v) (h1 : v.oneCell' = true := by rfl) :
    (loadVar 24 ⟨g, o, none⟩).run Try.prog W = .ok (.agg #[.int .i64 b, v]) W :=
  run_loadVar_mid W g o 24 [.int .i64 b, v] _ (fun j v hv => by
    match j, hv with
    | 0, hv => rw [← hv]; exact c0
    | 1, hv => rw [← hv]; exact c1) Try.underlying24 rfl info_seg
theorem slice_front (A : Option Addr) (n c m : Nat) (w : World) (h : m ≤ c) :
    (Instr.sliceAt 22 (.slice A n c) none (some (.int .i64 (m : Int))) none).run Try.prog w = .ok (.slice A m c) w := by
  have h1 : (m : Int) ≤ (c : Int) := by omega
  have hm : ∀ a : Addr, a.add 0 = a := fun a => by obtain ⟨b, o, s⟩ := a; unfold Addr.add; split <;> simp_all
  cases A with
  | none =>
    go_simp
  | some a =>
    go_simp
    try simp [hm]
end Go.Proofs.Ythhpmhibkbndhaa
/- What the form's reach says of an argument's parts: how long its slices and texts are; a slice's value; a list of numbers. -/
namespace Go.Proofs.Ythhpmhibkbndhaa
open Go.ChangeShapes Go.WideShapes Go.ChangeAt Go.RowKit

theorem cell_in {w : World} {a : Addr} {v : Value} (h : w.cell? a = some v) : a.block < w.heap.size := by
  rcases Nat.lt_or_ge a.block w.heap.size with hlt | hge
  · exact hlt
  · unfold World.cell? at h
    rw [Array.getElem?_eq_none hge] at h
    cases h
section
variable {H : Type} {enc : TypeId × Value → H} {W : World} {base : Nat} {spare : Nat → Bool} {held : Bool}
/-- All that is read is within the form's reach. -/
def Near (t : TypeId) (d : DataW H) : Prop := ∀ n ∈ d.weights Try.prog t, n ≤ reachBytes
theorem near_field {t e : TypeId} {fs : Array Field} {ys : List (DataW H × List MemPlace)} {j : Nat} {f : Field} {y : DataW H × List MemPlace} (hu : Try.prog.underlying t = some (.struct fs)) (h : Near t (.agg (ys.map (·.1)))) (hf : fs[j]? = some f) (he : f.type = e) (hy : ys[j]? = some y) : Near e y.1 := by
  subst he
  intro n hn
  refine h n ?_
  rw [DataW.weights, hu]
  refine DataW.weights_mem_each (j := j) ?_ ?_ n hn
  · rw [List.getElem?_map, Array.getElem?_toList, hf]; rfl
  · rw [List.getElem?_map, hy]; rfl
theorem near_string {t : TypeId} {s : ByteArray} (h : Near t (DataW.lit (H := H) (.string s.data.toList))) : s.data.toList.length ≤ 140737488351232 :=
  h s.data.toList.length (by rw [DataW.weights]; exact List.mem_singleton.2 rfl)
theorem near_len {t e : TypeId} {fuel : Nat} {A : Option Addr} {n c k : Nat} {y : DataW H × List MemPlace} (hu : Try.prog.underlying t = some (.slice e)) (hk : Try.prog.bytesOf e = k) (hw : Near t y.1) (h : DataW.trod enc Try.prog W base spare held fuel t [.slice A n c] = some y) : n * k ≤ 140737488351232 ∧ n ≤ c := by
  rcases Go.Deep.open_slice hu h with ⟨hcs, _⟩ | ⟨a, len, cap, m, k', D, Pl, hcs, _, hlc, _, _, hx, _⟩
  · simp at hcs
    rw [hcs.2.1]
    omega
  · simp at hcs
    obtain ⟨_, rfl, rfl⟩ := hcs
    rw [hx] at hw
    have h1 := hw _ (by rw [DataW.weights, hu]; exact List.mem_cons_self)
    rw [List.length_map, List.length_range, hk] at h1
    exact ⟨Nat.le_trans (Nat.mul_le_mul_right k (Nat.le_add_right _ _)) h1, hlc⟩
theorem slice_form {t e : TypeId} {fuel : Nat} {v : Value} {y : DataW H × List MemPlace} (hu : Try.prog.underlying t = some (.slice e)) (h : DataW.trod enc Try.prog W base spare held fuel t [v] = some y) : ∃ A n c, v = .slice A n c := by
  rcases Go.Deep.open_slice hu h with ⟨hcs, _⟩ | ⟨a, len, cap, m, k, D, Pl, hcs, _⟩
  · simp at hcs
    exact ⟨none, 0, 0, hcs⟩
  · simp at hcs
    exact ⟨_, len, cap, hcs⟩
theorem bytes_int : Try.prog.bytesOf 3 = 8 := by kernel_rfl
theorem cells_int1 : Try.prog.cellsOf 3 = 1 := by kernel_rfl
/-- A list of numbers. -/
theorem nums_of {fuel : Nat} {A : Option Addr} {n c : Nat} {y : DataW H × List MemPlace} (hw : Near 25 y.1) (h : DataW.trod enc Try.prog W base spare held fuel 25 [.slice A n c] = some y) :
    ∃ ps : List Int, ps.length = n ∧ Nums W W.heap.size .i64 A ps ∧ n ≤ 140737488351232 := by
  have hl8 := (near_len Try.underlying25 bytes_int hw h).1
  rcases open_ints Try.underlying25 Try.underlying3 cells_int1 h with ⟨e1, _⟩ | ⟨p, len, cap, zs, e1, _, hl, hm, hz, _, hzc, hwz⟩
  · simp at e1
    obtain ⟨rfl, rfl, rfl⟩ := e1
    exact ⟨[], rfl, Nums.none_, by omega⟩
  · simp at e1
    obtain ⟨rfl, rfl, rfl⟩ := e1
    have hzl : n ≤ zs.length := by rw [hz]; split <;> omega
    have htl : (zs.take n).length = n := by rw [List.length_take]; omega
    refine ⟨zs.take n, htl, ?_, by omega⟩
    by_cases h0 : n = 0
    · subst h0; exact .inl (by simp)
    · refine .inr ⟨p, rfl, ?_, fun j hj => ?_⟩
      · have := cell_in (hzc 0 (by omega))
        rwa [add_block] at this
      · rw [htl] at hj
        rw [hzc j (by omega)]
        simp [hj]
end
end Go.Proofs.Ythhpmhibkbndhaa
/- What a list of records is in memory, out of the reading of an argument. -/
namespace Go.Proofs.Ythhpmhibkbndhaa
open Go.ChangeShapes Go.WideShapes Go.ChangeAt Go.RowKit Rcd

theorem ownKnob_none : ownKnob Try.prog.godebug = none := by kernel_rfl
theorem laidOut_true : laidOutB Try.prog = true := by kernel_rfl
theorem cells_string : Try.prog.cellsOf 9 = 1 := by kernel_rfl
theorem cells_int : Try.prog.cellsOf 3 = 1 := by kernel_rfl
theorem cells_bool : Try.prog.cellsOf 4 = 1 := by kernel_rfl
theorem cells_recs : Try.prog.cellsOf 22 = 1 := by kernel_rfl
theorem cells_rec : Try.prog.cellsOf 31 = 6 := by kernel_rfl
theorem add_off {b off : Nat} (k : Nat) : ((⟨b, off, none⟩ : Addr).add k) = ⟨b, off + k, none⟩ := by
  unfold Addr.add; split
  · next h => subst h; rfl
  · rfl

section
variable {H : Type} {enc : TypeId × Value → H} {W : World} {base : Nat} {spare : Nat → Bool} {held : Bool}
theorem one_rec {fuel : Nat} {a : Addr} {cs : List Value} {y : DataW H × List MemPlace} (hc : W.cells? base a 6 = some cs) (h : DataW.trod enc Try.prog W base spare held fuel 31 cs = some y) :
    ∃ r, RAt W a.block a.off r ∧ a.spot = none := by
  obtain ⟨_, hlen, hcell⟩ := World.cells?_some hc
  match cs, hlen with
  | [v0, v1, v2, v3, v4, v5], _ =>
    have g0 := hcell 0 (by omega)
    have g1 := hcell 1 (by omega)
    have g2 := hcell 2 (by omega)
    have g3 := hcell 3 (by omega)
    have g4 := hcell 4 (by omega)
    have g5 := hcell 5 (by omega)
    change W.cell? (a.add 0) = some v0 at g0
    change W.cell? (a.add 1) = some v1 at g1
    change W.cell? (a.add 2) = some v2 at g2
    change W.cell? (a.add 3) = some v3 at g3
    change W.cell? (a.add 4) = some v4 at g4
    change W.cell? (a.add 5) = some v5 at g5
    obtain ⟨ys, n, _, _, _, hyl, hf⟩ := DataW.trod_struct Try.underlying31 h
    have hyl' : ys.length = 6 := by simpa using hyl
    have f0 := hf 0 _ rfl
    have f1 := hf 1 _ rfl
    have f2 := hf 2 _ rfl
    have f3 := hf 3 _ rfl
    have f4 := hf 4 _ rfl
    have f5 := hf 5 _ rfl
    rw [List.getElem?_eq_getElem (by omega)] at f0 f1 f2 f3 f4 f5
    change DataW.trod enc Try.prog W base spare held n 3 (List.take (Try.prog.cellsOf 3) [v0, v1, v2, v3, v4, v5]) = _ at f0
    change DataW.trod enc Try.prog W base spare held n 3 (List.take (Try.prog.cellsOf 3) [v1, v2, v3, v4, v5]) = _ at f1
    change DataW.trod enc Try.prog W base spare held n 9 (List.take (Try.prog.cellsOf 9) [v2, v3, v4, v5]) = _ at f2
    change DataW.trod enc Try.prog W base spare held n 9 (List.take (Try.prog.cellsOf 9) [v3, v4, v5]) = _ at f3
    change DataW.trod enc Try.prog W base spare held n 3 (List.take (Try.prog.cellsOf 3) [v4, v5]) = _ at f4
    change DataW.trod enc Try.prog W base spare held n 4 (List.take (Try.prog.cellsOf 4) [v5]) = _ at f5
    rw [cells_int] at f0 f1 f4
    rw [cells_string] at f2 f3
    rw [cells_bool] at f5
    obtain ⟨o, e0, _, _⟩ := DataW.trod_int Try.underlying3 f0
    obtain ⟨t, e1, _, _⟩ := DataW.trod_int Try.underlying3 f1
    obtain ⟨k, e2, _, _⟩ := DataW.trod_string Try.underlying9 f2
    obtain ⟨b, e3, _, _⟩ := DataW.trod_string Try.underlying9 f3
    obtain ⟨q, e4, _, _⟩ := DataW.trod_int Try.underlying3 f4
    obtain ⟨g, e5, _⟩ := DataW.trod_bool Try.underlying4 f5
    have hsp : a.spot = none := by
      have := World.cell?_spot g0
      simpa [Addr.add] using this
    obtain ⟨bl, off, spot⟩ := a
    obtain rfl : spot = none := hsp
    rw [add_off] at g0 g1 g2 g3 g4 g5
    simp at e0 e1 e2 e3 e4 e5
    subst e0 e1 e2 e3 e4 e5
    refine ⟨⟨o, t, k.data.toList, b.data.toList, q, g⟩, ⟨g0, g1, ?_, ?_, g4, g5⟩, rfl⟩
    · show _ = some (Value.string (str k.data.toList))
      rw [data_str]; exact g2
    · show _ = some (Value.string (str b.data.toList))
      rw [data_str]; exact g3

/-- A slice of records. -/
theorem recs_of_trod {fuel : Nat} {v : Value} {y : DataW H × List MemPlace} (h : DataW.trod enc Try.prog W base spare held fuel 22 [v] = some y) :
    ∃ A l c, v = .slice A (List.length l) c ∧ RecsAt W W.heap.size A l ∧ l.length ≤ 9223372036854775807 := by
  rcases Go.Deep.open_slice Try.underlying22 h with ⟨hcs, _⟩ | ⟨a, len, cap, m, k, D, Pl, hcs, _, hl, hcm, hm, hx, hi⟩
  · simp at hcs
    subst hcs
    exact ⟨none, [], 0, rfl, .inl rfl, by simp⟩
  · simp at hcs
    subst hcs
    have hml : len ≤ m := by rw [hm]; split <;> omega
    rw [cells_rec] at hi
    have key : ∀ i, i < len → ∃ r, RAt W (a.add (i * 6)).block (a.add (i * 6)).off r ∧ (a.add (i * 6)).spot = none := fun i hin => by
      obtain ⟨cs, hc, ht⟩ := hi i (by omega)
      exact one_rec hc ht
    have hcm' : cap ≤ 9223372036854775807 := by unfold maxLen at hcm; omega
    by_cases h0 : len = 0
    · subst h0
      exact ⟨some a, [], cap, rfl, .inl rfl, by simp⟩
    · have hsp : a.spot = none := by
        obtain ⟨_, _, h⟩ := key 0 (by omega)
        simpa [Addr.add] using h
      obtain ⟨b, off, spot⟩ := a
      obtain rfl : spot = none := hsp
      have key2 : ∀ i, ∃ r : Rc, i < len → RAt W b (off + i * 6) r := fun i => by
        by_cases hin : i < len
        · obtain ⟨r, hr, _⟩ := key i hin
          rw [add_off] at hr
          exact ⟨r, fun _ => hr⟩
        · exact ⟨zero, fun h => absurd h hin⟩
      obtain ⟨f, hf⟩ := Classical.axiomOfChoice key2
      refine ⟨some ⟨b, off, none⟩, (List.range len).map f, cap, by simp, .inr ⟨b, off, rfl, ?_, fun j hj => ?_⟩, by simp; omega⟩
      · exact cell_lt (hf 0 (by omega)).c0
      · have hj' : j < len := by simpa using hj
        rw [List.getElem_map, List.getElem_range]
        exact hf j hj'

end
end Go.Proofs.Ythhpmhibkbndhaa
/- What a script (a segment, records, numbers, bytes) is in memory, out of the reading of an argument. -/
namespace Go.Proofs.Ythhpmhibkbndhaa
open Go.ChangeShapes Go.WideShapes Go.ChangeAt Go.RowKit Rcd

theorem cells_script : Try.prog.cellsOf 27 = 5 := by kernel_rfl
theorem cells_seg : Try.prog.cellsOf 24 = 2 := by kernel_rfl
theorem cells_ints : Try.prog.cellsOf 25 = 1 := by kernel_rfl
theorem bytes_rec : Try.prog.bytesOf 31 = 64 := by kernel_rfl
/-- A script in memory. -/
structure ScAt (W : World) (rs L : List Rc) (ns : List Int) (A B D : Option Addr) (c : Nat) : Prop where
  hA : RecsAt W W.heap.size A rs
  cap : rs.length ≤ c
  lA : rs.length * 64 ≤ 140737488351232
  hB : RecsAt W W.heap.size B L
  lB : L.length * 64 ≤ 140737488351232
  hD : Nums W W.heap.size .i64 D ns
  lD : ns.length ≤ 140737488351232
section
variable {H : Type} {enc : TypeId × Value → H} {W : World} {base : Nat} {held : Bool}
set_option maxRecDepth 100000 in
theorem script_all {b0 : Nat} {v : Value} {d : DataW H} {p : List MemPlace} (hv : Value.okWide Try.prog W .any b0 27 v) (hw : Near 27 d) (h : DataW.Trod enc Try.prog W base (fun _ => true) held 27 v d p) :
    ∃ b rs L ns A B D c cl cn s, v = .agg #[.int .i64 b, .slice A rs.length c, .slice B (List.length L) cl, .slice D (List.length ns) cn, .string s] ∧ ScAt W rs L ns A B D c := by
  obtain ⟨fuel, hf⟩ := h
  obtain ⟨⟨cs⟩, rfl, hsz⟩ := okWide_struct Try.underlying27 hv
  rw [cells_script] at hsz
  match cs, hsz with
  | [v0, v1, v2, v3, v4], _ =>
    change DataW.trod enc Try.prog W base (fun _ => true) held fuel 27 [v0, v1, v2, v3, v4] = _ at hf
    obtain ⟨ys, n, _, hy, _, hyl, hff⟩ := DataW.trod_struct Try.underlying27 hf
    have hd := congrArg Prod.fst hy
    simp only [] at hd
    rw [hd] at hw
    have hyl' : ys.length = 4 := by simpa using hyl
    have f0 := hff 0 _ rfl
    have f1 := hff 1 _ rfl
    have f2 := hff 2 _ rfl
    have f3 := hff 3 _ rfl
    rw [List.getElem?_eq_getElem (by omega)] at f0 f1 f2 f3
    change DataW.trod enc Try.prog W base (fun _ => true) held n 24 (List.take (Try.prog.cellsOf 24) [v0, v1, v2, v3, v4]) = _ at f0
    change DataW.trod enc Try.prog W base (fun _ => true) held n 22 (List.take (Try.prog.cellsOf 22) [v2, v3, v4]) = _ at f1
    change DataW.trod enc Try.prog W base (fun _ => true) held n 25 (List.take (Try.prog.cellsOf 25) [v3, v4]) = _ at f2
    change DataW.trod enc Try.prog W base (fun _ => true) held n 9 (List.take (Try.prog.cellsOf 9) [v4]) = _ at f3
    rw [cells_seg] at f0
    rw [cells_recs] at f1
    rw [cells_ints] at f2
    rw [cells_string] at f3
    have w0 := near_field Try.underlying27 hw (j := 0) rfl rfl (List.getElem?_eq_getElem (by omega))
    have w1 := near_field Try.underlying27 hw (j := 1) rfl rfl (List.getElem?_eq_getElem (by omega))
    have w2 := near_field Try.underlying27 hw (j := 2) rfl rfl (List.getElem?_eq_getElem (by omega))
    change DataW.trod enc Try.prog W base (fun _ => true) held n 24 [v0, v1] = _ at f0
    obtain ⟨zs, m, _, hz, _, hzl, hzz⟩ := DataW.trod_struct Try.underlying24 f0
    have hzd := congrArg Prod.fst hz
    simp only [] at hzd
    rw [hzd] at w0
    have hzl' : zs.length = 2 := by simpa using hzl
    have g0 := hzz 0 _ rfl
    have g1 := hzz 1 _ rfl
    rw [List.getElem?_eq_getElem (by omega)] at g0 g1
    change DataW.trod enc Try.prog W base (fun _ => true) held m 3 (List.take (Try.prog.cellsOf 3) [v0, v1]) = _ at g0
    change DataW.trod enc Try.prog W base (fun _ => true) held m 22 (List.take (Try.prog.cellsOf 22) [v1]) = _ at g1
    rw [cells_int] at g0
    rw [cells_recs] at g1
    have w01 := near_field Try.underlying24 w0 (j := 1) rfl rfl (List.getElem?_eq_getElem (by omega))
    obtain ⟨b, e0, _, _⟩ := DataW.trod_int Try.underlying3 g0
    simp at e0
    subst e0
    obtain ⟨A, rs, c, rfl, hA, _⟩ := recs_of_trod (v := v1) g1
    obtain ⟨lA, cap⟩ := near_len Try.underlying22 bytes_rec w01 g1
    obtain ⟨B, L, cl, rfl, hB, _⟩ := recs_of_trod (v := v2) f1
    obtain ⟨lB, _⟩ := near_len Try.underlying22 bytes_rec w1 f1
    obtain ⟨D, k, cn, rfl⟩ := slice_form (v := v3) Try.underlying25 f2
    obtain ⟨ns, rfl, hD, lD⟩ := nums_of w2 f2
    obtain ⟨s, e4, _, _⟩ := DataW.trod_string Try.underlying9 f3
    simp at e4
    subst e4
    exact ⟨b, rs, L, ns, A, B, D, c, cl, cn, s, rfl, ⟨hA, cap, lA, hB, lB, hD, lD⟩⟩
end
end Go.Proofs.Ythhpmhibkbndhaa
