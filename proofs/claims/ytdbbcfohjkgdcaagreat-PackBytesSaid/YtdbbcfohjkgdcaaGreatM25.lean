/- Plain facts on packets: which may be but for their length, in the document's own order of asking. -/
import Derived.Test.YtdbbcfohjkgdcaaGreatM00
import Derived.Test.YtdbbcfohjkgdcaaGreatM15
set_option maxRecDepth 100000
set_option maxHeartbeats 64000000
namespace Go.Proofs.YtdbbcfohjkgdcaaGreat
open Go.RowKit Go.Lib Prp Pkt
def eqP (x y : Pk) : Bool := ((((((((((((((((((decide (x.kind = y.kind) && decide (x.dup = y.dup)) && decide (x.q = y.q)) && decide (x.ret = y.ret)) && decide (x.id = y.id)) && decide (x.t = y.t)) && decide (x.b = y.b)) && decide (x.re = y.re)) && decide (x.pre = y.pre)) && decide (x.cs.length = y.cs.length)) && decide (x.fs.length = y.fs.length)) && decide (x.cl = y.cl)) && decide (x.clean = y.clean)) && decide (x.keep = y.keep)) && eqW x.w y.w) && decide (x.hu = y.hu)) && decide (x.u = y.u)) && decide (x.hp = y.hp)) && decide (x.pw = y.pw)) && decide (x.ps.length = y.ps.length)
def HalfOf (x y : Pk) : Prop := (y.cs = x.cs ∨ y.cs = []) ∧ (y.fs = x.fs ∨ y.fs = []) ∧ (y.w.ps = x.w.ps ∨ y.w.ps = []) ∧ (y.ps = x.ps ∨ y.ps = [])
structure PkLen (p : Pk) : Prop where
 cs : p.cs.length ≤ 9223372036854775807
 fs : p.fs.length ≤ 9223372036854775807
 ws : p.w.ps.length ≤ 9223372036854775807
 ps : p.ps.length ≤ 9223372036854775807
theorem eql_int (x y : Int) (w : World) : (binOp .eql 3 (.int .i64 x) (.int .i64 y)).run Tryz.prog w = .ok (.bool (decide (x = y))) w := by
 go_simp
 by_cases h : x = y <;> simp [h]
theorem eql_bool (x y : Bool) (w : World) : (binOp .eql 4 (.bool x) (.bool y)).run Tryz.prog w = .ok (.bool (decide (x = y))) w := by
 go_simp
 cases x <;> cases y <;> rfl
theorem eql_str (x y : ByteArray) (w : World) : (binOp .eql 9 (.string x) (.string y)).run Tryz.prog w = .ok (.bool (decide (x = y))) w := by
 go_simp
 by_cases h : x = y
 ·simp [h]
 ·have : ¬ x.toList = y.toList := fun e => h ((toList_eq_iff x y).1 e)
  simp [h, this]
theorem info_wl : (Tryz.prog.info? 28).map (·.size) = some 6 := by kernel_rfl
theorem load_wl {W : World} {g : Nat} {p : Pk} {a : Ad} (h : Box W g (pkArr p a)) : (loadVar 28 ⟨g, 14, none⟩).run Tryz.prog W = .ok (.agg (wlArr p.w a.wa a.wc)) W := by
 refine run_loadVar_mid W g 14 28 (wlArr p.w a.wa a.wc).toList _ (fun j v hv => ?_) Tryz.underlying28 rfl info_wl
 rw [h.cell]
 match j, hv with
 | 0, hv => exact hv
 | 1, hv => exact hv
 | 2, hv => exact hv
 | 3, hv => exact hv
 | 4, hv => exact hv
 | 5, hv => exact hv
theorem exec_load {P : Program} {ρ : Operand → Value} {o : Oper} {ty : TypeId} {x : Operand} {b off : Nat} {V : Value} {w : World} (ho : o.op = .load ty x) (hx : ρ x = .pointer (some ⟨b, off, none⟩)) (hv : (loadVar ty ⟨b, off, none⟩).run P w = .ok V w) :
  (execOp ρ o).run P w = .ok (.value V) w := by
 unfold execOp
 simp only [ho, hx, Instr.loadAt, Instr.sureAddr, Sem.run_bind, Sem.run_pure, Result.andThen_ok, hv]
theorem EqPacket_is (x y : Pk) (a a' : Ad) (w : World) (hf : PkLen x) (hl : HalfOf x y) (h : PkAt w w.heap.size x a) (h' : PkAt w w.heap.size y a') :
  Calls Tryz.prog 13 #[.agg (pkArr x a), .agg (pkArr y a')] w fun e w' => e = .returned (.bool (eqP x y)) ∧ Below w.heap.size w w' := by
 have HN := fun (W : World) (hb : Below w.heap.size w W) => (EqNumbers_any x.cs y.cs a.ca a'.ca a.cc a'.cc _ _ W hf.cs hl.1 (h.cs.below hb) (h'.cs.below hb)).mono fun e w' (hh : _ ∧ ∃ n, w' = W.drewN n) => (show e = .returned (.bool (decide (x.cs.length = y.cs.length))) ∧ Below W.heap.size W w' from ⟨hh.1, by obtain ⟨n, rfl⟩ := hh.2; exact below_drewN (Below.refl _ _) n⟩)
 have HF := fun (W : World) (hb : Below w.heap.size w W) => (EqFilters_any x.fs y.fs a.fa a'.fa a.fc a'.fc _ _ W hf.fs hl.2.1 (h.fs.below hb) (h'.fs.below hb)).mono fun e w' (hh : _ ∧ ∃ n, w' = W.drewN n) => (show e = .returned (.bool (decide (x.fs.length = y.fs.length))) ∧ Below W.heap.size W w' from ⟨hh.1, by obtain ⟨n, rfl⟩ := hh.2; exact below_drewN (Below.refl _ _) n⟩)
 have HW := fun (W : World) (hb : Below w.heap.size w W) => EqWill_is x.w y.w a.wa a'.wa a.wc a'.wc _ _ W hf.ws hl.2.2.1 hb.size hb.size (h.ws.below hb) (h'.ws.below hb)
 have HP := fun (W : World) (hb : Below w.heap.size w W) => (EqProps_any x.ps y.ps a.pa a'.pa a.pc a'.pc _ _ W hf.ps hl.2.2.2 (h.ps.below hb) (h'.ps.below hb)).mono fun e w' (hh : _ ∧ ∃ n, w' = W.drewN n) => (show e = .returned (.bool (decide (x.ps.length = y.ps.length))) ∧ Below W.heap.size W w' from ⟨hh.1, by obtain ⟨n, rfl⟩ := hh.2; exact below_drewN (Below.refl _ _) n⟩)
 have hb1 := Box.new w 30 (pkArr x a)
 have hw := (Below.refl w.heap.size w).alloc (Nat.le_refl _) (.cells (pkArr x a) 30)
 obtain ⟨W1, hW⟩ : ∃ W1, w.alloc (.cells (pkArr x a) 30) = W1 := ⟨_, rfl⟩
 rw [hW] at hb1 hw
 have hb2 := Box.new W1 30 (pkArr y a')
 have ha2 := (Below.refl W1.heap.size W1).alloc (Nat.le_refl _) (.cells (pkArr y a') 30)
 obtain ⟨W, hW2⟩ : ∃ W2, W1.alloc (.cells (pkArr y a') 30) = W2 := ⟨_, rfl⟩
 rw [hW2] at hb2 ha2
 have hz : w.heap.size + 1 = W1.heap.size := by rw [← hW]; simp
 rw [← hz] at hb2
 replace hb1 := hb1.below ha2
 replace hw := hw.trans (ha2.mono hw.size)
 clear hz ha2 h h' hl hf
 unfold pkArr at hW hW2 ⊢
 have HW0 := Lib.hid hW
 have HW2 := Lib.hid hW2
 have HI := Lib.hid (And.intro hb1 (And.intro hb2 (And.intro hw (And.intro HN (And.intro HF (And.intro HW HP))))))
 clear hW hW2 hb1 hb2 hw HN HF HW HP
 obtain ⟨r, hr⟩ : ∃ r, eqP x y = r := ⟨_, rfl⟩
 rw [hr]
 have HR := Lib.hid hr
 clear hr
 go_enter Tryz.func13, Tryz.ntmps13
 go_upto_region 1 with fail
 rw [HW0.out, HW2.out]
 rename_i Q' K hK
 obtain ⟨hb1, hb2, hw, HN, HF, HW, HP⟩ := HI.out
 clear HI HW0 HW2
 obtain ⟨g1, hg1⟩ : ∃ g, w.heap.size = g := ⟨_, rfl⟩
 obtain ⟨g2, hg2⟩ : ∃ g, w.heap.size + 1 = g := ⟨_, rfl⟩
 rw [hg2] at hb2 ⊢
 rw [hg1] at hb1 ⊢
 clear hg1 hg2
 have c0 : W.cell? ⟨g1, 0, none⟩ = some (.int .i64 x.kind) := hb1.cell 0
 have c1 : W.cell? ⟨g2, 0, none⟩ = some (.int .i64 y.kind) := hb2.cell 0
 refine wp_region_list ?_
 refine ch_first (n := 143) (x := .pointer (some ⟨g1, 0, none⟩)) (y := .pointer (some ⟨g2, 0, none⟩)) (e := decide (x.kind = y.kind)) rfl rfl rfl rfl ⟨rfl, rfl⟩ ⟨rfl, rfl⟩ ⟨rfl, rfl⟩ ⟨rfl, rfl⟩ ⟨rfl, rfl⟩ ⟨rfl, rfl, rfl⟩ (by decide)
  (v1 := .pointer (some ⟨g1, 0, none⟩)) (v3 := .pointer (some ⟨g2, 0, none⟩)) (u1 := .int .i64 x.kind) (u3 := .int .i64 y.kind)
  (fun A H => by generalize A.eval = ρ at H ⊢; unfold execOp; go_simp) (fun A H => by generalize A.eval = ρ at H ⊢; unfold execOp; go_simp) (fun A H => by generalize A.eval = ρ at H ⊢; unfold execOp; go_simp) (fun A H => by generalize A.eval = ρ at H ⊢; unfold execOp; go_simp) (fun A H1 H2 => by unfold execOp; simp only [H1, H2, Sem.run_bind, eql_int, Sem.run_pure]; try rfl) ?_
 intro A1 hc
 refine ch_block (n := 143) (gi := 5) (k := 10) (d1 := 11) (d2 := 12) (d3 := 13) (d4 := 14) (d5 := 15) (d6 := 16) (d7 := 17) (e := decide (x.dup = y.dup)) hc ⟨rfl, rfl⟩ ⟨rfl, rfl⟩ ⟨rfl, rfl⟩ ⟨rfl, rfl⟩ ⟨rfl, rfl⟩ ⟨rfl, rfl, rfl⟩ ⟨rfl, rfl, .inl rfl⟩ rfl (by decide)
  (v1 := .pointer (some ⟨g1, 1, none⟩)) (v3 := .pointer (some ⟨g2, 1, none⟩)) (u1 := .bool x.dup) (u3 := .bool y.dup)
  (fun A H => by generalize A.eval = ρ at H ⊢; unfold execOp; go_simp) (fun A H => by have c : W.cell? ⟨g1, 1, none⟩ = some (.bool x.dup) := hb1.cell 1; generalize A.eval = ρ at H ⊢; unfold execOp; go_simp) (fun A H => by generalize A.eval = ρ at H ⊢; unfold execOp; go_simp) (fun A H => by have c : W.cell? ⟨g2, 1, none⟩ = some (.bool y.dup) := hb2.cell 1; generalize A.eval = ρ at H ⊢; unfold execOp; go_simp)
  (fun A K H1 H2 hk => wp_val (by unfold execOp; simp only [H1, H2, Sem.run_bind, eql_bool, Sem.run_pure]; try rfl) (hk _ (Below.refl _ _))) ?_
 clear hc
 intro A1 V1 hbw hc
 replace hb1 := hb1.below hbw
 replace hb2 := hb2.below hbw
 replace hw := hw.trans (hbw.mono hw.size)
 clear hbw
 refine ch_block (n := 143) (gi := 12) (k := 17) (d1 := 18) (d2 := 19) (d3 := 20) (d4 := 21) (d5 := 22) (d6 := 23) (d7 := 24) (e := decide (x.q = y.q)) hc ⟨rfl, rfl⟩ ⟨rfl, rfl⟩ ⟨rfl, rfl⟩ ⟨rfl, rfl⟩ ⟨rfl, rfl⟩ ⟨rfl, rfl, rfl⟩ ⟨rfl, rfl, .inl rfl⟩ rfl (by decide)
  (v1 := .pointer (some ⟨g1, 2, none⟩)) (v3 := .pointer (some ⟨g2, 2, none⟩)) (u1 := .int .i64 x.q) (u3 := .int .i64 y.q)
  (fun A H => by generalize A.eval = ρ at H ⊢; unfold execOp; go_simp) (fun A H => by have c : V1.cell? ⟨g1, 2, none⟩ = some (.int .i64 x.q) := hb1.cell 2; generalize A.eval = ρ at H ⊢; unfold execOp; go_simp) (fun A H => by generalize A.eval = ρ at H ⊢; unfold execOp; go_simp) (fun A H => by have c : V1.cell? ⟨g2, 2, none⟩ = some (.int .i64 y.q) := hb2.cell 2; generalize A.eval = ρ at H ⊢; unfold execOp; go_simp)
  (fun A K H1 H2 hk => wp_val (by unfold execOp; simp only [H1, H2, Sem.run_bind, eql_int, Sem.run_pure]; try rfl) (hk _ (Below.refl _ _))) ?_
 clear hc
 intro A1 V2 hbw hc
 replace hb1 := hb1.below hbw
 replace hb2 := hb2.below hbw
 replace hw := hw.trans (hbw.mono hw.size)
 clear hbw
 refine ch_block (n := 143) (gi := 19) (k := 24) (d1 := 25) (d2 := 26) (d3 := 27) (d4 := 28) (d5 := 29) (d6 := 30) (d7 := 31) (e := decide (x.ret = y.ret)) hc ⟨rfl, rfl⟩ ⟨rfl, rfl⟩ ⟨rfl, rfl⟩ ⟨rfl, rfl⟩ ⟨rfl, rfl⟩ ⟨rfl, rfl, rfl⟩ ⟨rfl, rfl, .inl rfl⟩ rfl (by decide)
  (v1 := .pointer (some ⟨g1, 3, none⟩)) (v3 := .pointer (some ⟨g2, 3, none⟩)) (u1 := .bool x.ret) (u3 := .bool y.ret)
  (fun A H => by generalize A.eval = ρ at H ⊢; unfold execOp; go_simp) (fun A H => by have c : V2.cell? ⟨g1, 3, none⟩ = some (.bool x.ret) := hb1.cell 3; generalize A.eval = ρ at H ⊢; unfold execOp; go_simp) (fun A H => by generalize A.eval = ρ at H ⊢; unfold execOp; go_simp) (fun A H => by have c : V2.cell? ⟨g2, 3, none⟩ = some (.bool y.ret) := hb2.cell 3; generalize A.eval = ρ at H ⊢; unfold execOp; go_simp)
  (fun A K H1 H2 hk => wp_val (by unfold execOp; simp only [H1, H2, Sem.run_bind, eql_bool, Sem.run_pure]; try rfl) (hk _ (Below.refl _ _))) ?_
 clear hc
 intro A1 V3 hbw hc
 replace hb1 := hb1.below hbw
 replace hb2 := hb2.below hbw
 replace hw := hw.trans (hbw.mono hw.size)
 clear hbw
 refine ch_block (n := 143) (gi := 26) (k := 31) (d1 := 32) (d2 := 33) (d3 := 34) (d4 := 35) (d5 := 36) (d6 := 37) (d7 := 38) (e := decide (x.id = y.id)) hc ⟨rfl, rfl⟩ ⟨rfl, rfl⟩ ⟨rfl, rfl⟩ ⟨rfl, rfl⟩ ⟨rfl, rfl⟩ ⟨rfl, rfl, rfl⟩ ⟨rfl, rfl, .inl rfl⟩ rfl (by decide)
  (v1 := .pointer (some ⟨g1, 4, none⟩)) (v3 := .pointer (some ⟨g2, 4, none⟩)) (u1 := .int .i64 x.id) (u3 := .int .i64 y.id)
  (fun A H => by generalize A.eval = ρ at H ⊢; unfold execOp; go_simp) (fun A H => by have c : V3.cell? ⟨g1, 4, none⟩ = some (.int .i64 x.id) := hb1.cell 4; generalize A.eval = ρ at H ⊢; unfold execOp; go_simp) (fun A H => by generalize A.eval = ρ at H ⊢; unfold execOp; go_simp) (fun A H => by have c : V3.cell? ⟨g2, 4, none⟩ = some (.int .i64 y.id) := hb2.cell 4; generalize A.eval = ρ at H ⊢; unfold execOp; go_simp)
  (fun A K H1 H2 hk => wp_val (by unfold execOp; simp only [H1, H2, Sem.run_bind, eql_int, Sem.run_pure]; try rfl) (hk _ (Below.refl _ _))) ?_
 clear hc
 intro A1 V4 hbw hc
 replace hb1 := hb1.below hbw
 replace hb2 := hb2.below hbw
 replace hw := hw.trans (hbw.mono hw.size)
 clear hbw
 refine ch_block (n := 143) (gi := 33) (k := 38) (d1 := 39) (d2 := 40) (d3 := 41) (d4 := 42) (d5 := 43) (d6 := 44) (d7 := 45) (e := decide (x.t = y.t)) hc ⟨rfl, rfl⟩ ⟨rfl, rfl⟩ ⟨rfl, rfl⟩ ⟨rfl, rfl⟩ ⟨rfl, rfl⟩ ⟨rfl, rfl, rfl⟩ ⟨rfl, rfl, .inl rfl⟩ rfl (by decide)
  (v1 := .pointer (some ⟨g1, 5, none⟩)) (v3 := .pointer (some ⟨g2, 5, none⟩)) (u1 := .string x.t) (u3 := .string y.t)
  (fun A H => by generalize A.eval = ρ at H ⊢; unfold execOp; go_simp) (fun A H => by have c : V4.cell? ⟨g1, 5, none⟩ = some (.string x.t) := hb1.cell 5; generalize A.eval = ρ at H ⊢; unfold execOp; go_simp) (fun A H => by generalize A.eval = ρ at H ⊢; unfold execOp; go_simp) (fun A H => by have c : V4.cell? ⟨g2, 5, none⟩ = some (.string y.t) := hb2.cell 5; generalize A.eval = ρ at H ⊢; unfold execOp; go_simp)
  (fun A K H1 H2 hk => wp_val (by unfold execOp; simp only [H1, H2, Sem.run_bind, eql_str, Sem.run_pure]; try rfl) (hk _ (Below.refl _ _))) ?_
 clear hc
 intro A1 V5 hbw hc
 replace hb1 := hb1.below hbw
 replace hb2 := hb2.below hbw
 replace hw := hw.trans (hbw.mono hw.size)
 clear hbw
 refine ch_block (n := 143) (gi := 40) (k := 45) (d1 := 46) (d2 := 47) (d3 := 48) (d4 := 49) (d5 := 50) (d6 := 51) (d7 := 52) (e := decide (x.b = y.b)) hc ⟨rfl, rfl⟩ ⟨rfl, rfl⟩ ⟨rfl, rfl⟩ ⟨rfl, rfl⟩ ⟨rfl, rfl⟩ ⟨rfl, rfl, rfl⟩ ⟨rfl, rfl, .inl rfl⟩ rfl (by decide)
  (v1 := .pointer (some ⟨g1, 6, none⟩)) (v3 := .pointer (some ⟨g2, 6, none⟩)) (u1 := .string x.b) (u3 := .string y.b)
  (fun A H => by generalize A.eval = ρ at H ⊢; unfold execOp; go_simp) (fun A H => by have c : V5.cell? ⟨g1, 6, none⟩ = some (.string x.b) := hb1.cell 6; generalize A.eval = ρ at H ⊢; unfold execOp; go_simp) (fun A H => by generalize A.eval = ρ at H ⊢; unfold execOp; go_simp) (fun A H => by have c : V5.cell? ⟨g2, 6, none⟩ = some (.string y.b) := hb2.cell 6; generalize A.eval = ρ at H ⊢; unfold execOp; go_simp)
  (fun A K H1 H2 hk => wp_val (by unfold execOp; simp only [H1, H2, Sem.run_bind, eql_str, Sem.run_pure]; try rfl) (hk _ (Below.refl _ _))) ?_
 clear hc
 intro A1 V6 hbw hc
 replace hb1 := hb1.below hbw
 replace hb2 := hb2.below hbw
 replace hw := hw.trans (hbw.mono hw.size)
 clear hbw
 refine ch_block (n := 143) (gi := 47) (k := 52) (d1 := 53) (d2 := 54) (d3 := 55) (d4 := 56) (d5 := 57) (d6 := 58) (d7 := 59) (e := decide (x.re = y.re)) hc ⟨rfl, rfl⟩ ⟨rfl, rfl⟩ ⟨rfl, rfl⟩ ⟨rfl, rfl⟩ ⟨rfl, rfl⟩ ⟨rfl, rfl, rfl⟩ ⟨rfl, rfl, .inl rfl⟩ rfl (by decide)
  (v1 := .pointer (some ⟨g1, 7, none⟩)) (v3 := .pointer (some ⟨g2, 7, none⟩)) (u1 := .int .i64 x.re) (u3 := .int .i64 y.re)
  (fun A H => by generalize A.eval = ρ at H ⊢; unfold execOp; go_simp) (fun A H => by have c : V6.cell? ⟨g1, 7, none⟩ = some (.int .i64 x.re) := hb1.cell 7; generalize A.eval = ρ at H ⊢; unfold execOp; go_simp) (fun A H => by generalize A.eval = ρ at H ⊢; unfold execOp; go_simp) (fun A H => by have c : V6.cell? ⟨g2, 7, none⟩ = some (.int .i64 y.re) := hb2.cell 7; generalize A.eval = ρ at H ⊢; unfold execOp; go_simp)
  (fun A K H1 H2 hk => wp_val (by unfold execOp; simp only [H1, H2, Sem.run_bind, eql_int, Sem.run_pure]; try rfl) (hk _ (Below.refl _ _))) ?_
 clear hc
 intro A1 V7 hbw hc
 replace hb1 := hb1.below hbw
 replace hb2 := hb2.below hbw
 replace hw := hw.trans (hbw.mono hw.size)
 clear hbw
 refine ch_block (n := 143) (gi := 54) (k := 59) (d1 := 60) (d2 := 61) (d3 := 62) (d4 := 63) (d5 := 64) (d6 := 65) (d7 := 66) (e := decide (x.pre = y.pre)) hc ⟨rfl, rfl⟩ ⟨rfl, rfl⟩ ⟨rfl, rfl⟩ ⟨rfl, rfl⟩ ⟨rfl, rfl⟩ ⟨rfl, rfl, rfl⟩ ⟨rfl, rfl, .inl rfl⟩ rfl (by decide)
  (v1 := .pointer (some ⟨g1, 8, none⟩)) (v3 := .pointer (some ⟨g2, 8, none⟩)) (u1 := .bool x.pre) (u3 := .bool y.pre)
  (fun A H => by generalize A.eval = ρ at H ⊢; unfold execOp; go_simp) (fun A H => by have c : V7.cell? ⟨g1, 8, none⟩ = some (.bool x.pre) := hb1.cell 8; generalize A.eval = ρ at H ⊢; unfold execOp; go_simp) (fun A H => by generalize A.eval = ρ at H ⊢; unfold execOp; go_simp) (fun A H => by have c : V7.cell? ⟨g2, 8, none⟩ = some (.bool y.pre) := hb2.cell 8; generalize A.eval = ρ at H ⊢; unfold execOp; go_simp)
  (fun A K H1 H2 hk => wp_val (by unfold execOp; simp only [H1, H2, Sem.run_bind, eql_bool, Sem.run_pure]; try rfl) (hk _ (Below.refl _ _))) ?_
 clear hc
 intro A1 V8 hbw hc
 replace hb1 := hb1.below hbw
 replace hb2 := hb2.below hbw
 replace hw := hw.trans (hbw.mono hw.size)
 clear hbw
 refine ch_block (n := 143) (gi := 61) (k := 66) (d1 := 67) (d2 := 68) (d3 := 69) (d4 := 70) (d5 := 71) (d6 := 72) (d7 := 73) (e := decide (x.cs.length = y.cs.length)) hc ⟨rfl, rfl⟩ ⟨rfl, rfl⟩ ⟨rfl, rfl⟩ ⟨rfl, rfl⟩ ⟨rfl, rfl⟩ ⟨rfl, rfl, rfl⟩ ⟨rfl, rfl, .inl rfl⟩ rfl (by decide)
  (v1 := .pointer (some ⟨g1, 9, none⟩)) (v3 := .pointer (some ⟨g2, 9, none⟩)) (u1 := .slice a.ca x.cs.length a.cc) (u3 := .slice a'.ca y.cs.length a'.cc)
  (fun A H => by generalize A.eval = ρ at H ⊢; unfold execOp; go_simp) (fun A H => by have c : V8.cell? ⟨g1, 9, none⟩ = some (.slice a.ca x.cs.length a.cc) := hb1.cell 9; generalize A.eval = ρ at H ⊢; unfold execOp; go_simp) (fun A H => by generalize A.eval = ρ at H ⊢; unfold execOp; go_simp) (fun A H => by have c : V8.cell? ⟨g2, 9, none⟩ = some (.slice a'.ca y.cs.length a'.cc) := hb2.cell 9; generalize A.eval = ρ at H ⊢; unfold execOp; go_simp)
  (fun A K H1 H2 hk => wp_call 71 43 #[.slice a.ca x.cs.length a.cc, .slice a'.ca y.cs.length a'.cc] _ (fun w' => Below V8.heap.size V8 w') rfl (by have hf : A.eval (.func 43) = .func (.func 43) #[] #[] := rfl; generalize A.eval = ρ at H1 H2 hf ⊢; unfold execOp; go_simp) (HN V8 hw) hk) ?_
 clear hc
 intro A1 V9 hbw hc
 replace hb1 := hb1.below hbw
 replace hb2 := hb2.below hbw
 replace hw := hw.trans (hbw.mono hw.size)
 clear hbw
 refine ch_block (n := 143) (gi := 68) (k := 73) (d1 := 74) (d2 := 75) (d3 := 76) (d4 := 77) (d5 := 78) (d6 := 79) (d7 := 80) (e := decide (x.fs.length = y.fs.length)) hc ⟨rfl, rfl⟩ ⟨rfl, rfl⟩ ⟨rfl, rfl⟩ ⟨rfl, rfl⟩ ⟨rfl, rfl⟩ ⟨rfl, rfl, rfl⟩ ⟨rfl, rfl, .inl rfl⟩ rfl (by decide)
  (v1 := .pointer (some ⟨g1, 10, none⟩)) (v3 := .pointer (some ⟨g2, 10, none⟩)) (u1 := .slice a.fa x.fs.length a.fc) (u3 := .slice a'.fa y.fs.length a'.fc)
  (fun A H => by generalize A.eval = ρ at H ⊢; unfold execOp; go_simp) (fun A H => by have c : V9.cell? ⟨g1, 10, none⟩ = some (.slice a.fa x.fs.length a.fc) := hb1.cell 10; generalize A.eval = ρ at H ⊢; unfold execOp; go_simp) (fun A H => by generalize A.eval = ρ at H ⊢; unfold execOp; go_simp) (fun A H => by have c : V9.cell? ⟨g2, 10, none⟩ = some (.slice a'.fa y.fs.length a'.fc) := hb2.cell 10; generalize A.eval = ρ at H ⊢; unfold execOp; go_simp)
  (fun A K H1 H2 hk => wp_call 78 44 #[.slice a.fa x.fs.length a.fc, .slice a'.fa y.fs.length a'.fc] _ (fun w' => Below V9.heap.size V9 w') rfl (by have hf : A.eval (.func 44) = .func (.func 44) #[] #[] := rfl; generalize A.eval = ρ at H1 H2 hf ⊢; unfold execOp; go_simp) (HF V9 hw) hk) ?_
 clear hc
 intro A1 V10 hbw hc
 replace hb1 := hb1.below hbw
 replace hb2 := hb2.below hbw
 replace hw := hw.trans (hbw.mono hw.size)
 clear hbw
 refine ch_block (n := 143) (gi := 75) (k := 80) (d1 := 81) (d2 := 82) (d3 := 83) (d4 := 84) (d5 := 85) (d6 := 86) (d7 := 87) (e := decide (x.cl = y.cl)) hc ⟨rfl, rfl⟩ ⟨rfl, rfl⟩ ⟨rfl, rfl⟩ ⟨rfl, rfl⟩ ⟨rfl, rfl⟩ ⟨rfl, rfl, rfl⟩ ⟨rfl, rfl, .inl rfl⟩ rfl (by decide)
  (v1 := .pointer (some ⟨g1, 11, none⟩)) (v3 := .pointer (some ⟨g2, 11, none⟩)) (u1 := .string x.cl) (u3 := .string y.cl)
  (fun A H => by generalize A.eval = ρ at H ⊢; unfold execOp; go_simp) (fun A H => by have c : V10.cell? ⟨g1, 11, none⟩ = some (.string x.cl) := hb1.cell 11; generalize A.eval = ρ at H ⊢; unfold execOp; go_simp) (fun A H => by generalize A.eval = ρ at H ⊢; unfold execOp; go_simp) (fun A H => by have c : V10.cell? ⟨g2, 11, none⟩ = some (.string y.cl) := hb2.cell 11; generalize A.eval = ρ at H ⊢; unfold execOp; go_simp)
  (fun A K H1 H2 hk => wp_val (by unfold execOp; simp only [H1, H2, Sem.run_bind, eql_str, Sem.run_pure]; try rfl) (hk _ (Below.refl _ _))) ?_
 clear hc
 intro A1 V11 hbw hc
 replace hb1 := hb1.below hbw
 replace hb2 := hb2.below hbw
 replace hw := hw.trans (hbw.mono hw.size)
 clear hbw
 refine ch_block (n := 143) (gi := 82) (k := 87) (d1 := 88) (d2 := 89) (d3 := 90) (d4 := 91) (d5 := 92) (d6 := 93) (d7 := 94) (e := decide (x.clean = y.clean)) hc ⟨rfl, rfl⟩ ⟨rfl, rfl⟩ ⟨rfl, rfl⟩ ⟨rfl, rfl⟩ ⟨rfl, rfl⟩ ⟨rfl, rfl, rfl⟩ ⟨rfl, rfl, .inl rfl⟩ rfl (by decide)
  (v1 := .pointer (some ⟨g1, 12, none⟩)) (v3 := .pointer (some ⟨g2, 12, none⟩)) (u1 := .bool x.clean) (u3 := .bool y.clean)
  (fun A H => by generalize A.eval = ρ at H ⊢; unfold execOp; go_simp) (fun A H => by have c : V11.cell? ⟨g1, 12, none⟩ = some (.bool x.clean) := hb1.cell 12; generalize A.eval = ρ at H ⊢; unfold execOp; go_simp) (fun A H => by generalize A.eval = ρ at H ⊢; unfold execOp; go_simp) (fun A H => by have c : V11.cell? ⟨g2, 12, none⟩ = some (.bool y.clean) := hb2.cell 12; generalize A.eval = ρ at H ⊢; unfold execOp; go_simp)
  (fun A K H1 H2 hk => wp_val (by unfold execOp; simp only [H1, H2, Sem.run_bind, eql_bool, Sem.run_pure]; try rfl) (hk _ (Below.refl _ _))) ?_
 clear hc
 intro A1 V12 hbw hc
 replace hb1 := hb1.below hbw
 replace hb2 := hb2.below hbw
 replace hw := hw.trans (hbw.mono hw.size)
 clear hbw
 refine ch_block (n := 143) (gi := 89) (k := 94) (d1 := 95) (d2 := 96) (d3 := 97) (d4 := 98) (d5 := 99) (d6 := 100) (d7 := 101) (e := decide (x.keep = y.keep)) hc ⟨rfl, rfl⟩ ⟨rfl, rfl⟩ ⟨rfl, rfl⟩ ⟨rfl, rfl⟩ ⟨rfl, rfl⟩ ⟨rfl, rfl, rfl⟩ ⟨rfl, rfl, .inl rfl⟩ rfl (by decide)
  (v1 := .pointer (some ⟨g1, 13, none⟩)) (v3 := .pointer (some ⟨g2, 13, none⟩)) (u1 := .int .i64 x.keep) (u3 := .int .i64 y.keep)
  (fun A H => by generalize A.eval = ρ at H ⊢; unfold execOp; go_simp) (fun A H => by have c : V12.cell? ⟨g1, 13, none⟩ = some (.int .i64 x.keep) := hb1.cell 13; generalize A.eval = ρ at H ⊢; unfold execOp; go_simp) (fun A H => by generalize A.eval = ρ at H ⊢; unfold execOp; go_simp) (fun A H => by have c : V12.cell? ⟨g2, 13, none⟩ = some (.int .i64 y.keep) := hb2.cell 13; generalize A.eval = ρ at H ⊢; unfold execOp; go_simp)
  (fun A K H1 H2 hk => wp_val (by unfold execOp; simp only [H1, H2, Sem.run_bind, eql_int, Sem.run_pure]; try rfl) (hk _ (Below.refl _ _))) ?_
 clear hc
 intro A1 V13 hbw hc
 replace hb1 := hb1.below hbw
 replace hb2 := hb2.below hbw
 replace hw := hw.trans (hbw.mono hw.size)
 clear hbw
 refine ch_block (n := 143) (gi := 96) (k := 101) (d1 := 102) (d2 := 103) (d3 := 104) (d4 := 105) (d5 := 106) (d6 := 107) (d7 := 108) (e := eqW x.w y.w) hc ⟨rfl, rfl⟩ ⟨rfl, rfl⟩ ⟨rfl, rfl⟩ ⟨rfl, rfl⟩ ⟨rfl, rfl⟩ ⟨rfl, rfl, rfl⟩ ⟨rfl, rfl, .inl rfl⟩ rfl (by decide)
  (v1 := .pointer (some ⟨g1, 14, none⟩)) (v3 := .pointer (some ⟨g2, 14, none⟩)) (u1 := .agg (wlArr x.w a.wa a.wc)) (u3 := .agg (wlArr y.w a'.wa a'.wc))
  (fun A H => by generalize A.eval = ρ at H ⊢; unfold execOp; go_simp) (fun A H => exec_load rfl H (load_wl hb1)) (fun A H => by generalize A.eval = ρ at H ⊢; unfold execOp; go_simp) (fun A H => exec_load rfl H (load_wl hb2))
  (fun A K H1 H2 hk => wp_call 106 37 #[.agg (wlArr x.w a.wa a.wc), .agg (wlArr y.w a'.wa a'.wc)] _ (fun w' => Below V13.heap.size V13 w') rfl (by have hf : A.eval (.func 37) = .func (.func 37) #[] #[] := rfl; generalize A.eval = ρ at H1 H2 hf ⊢; unfold execOp; go_simp) (HW V13 hw) hk) ?_
 clear hc
 intro A1 V14 hbw hc
 replace hb1 := hb1.below hbw
 replace hb2 := hb2.below hbw
 replace hw := hw.trans (hbw.mono hw.size)
 clear hbw
 refine ch_block (n := 143) (gi := 103) (k := 108) (d1 := 109) (d2 := 110) (d3 := 111) (d4 := 112) (d5 := 113) (d6 := 114) (d7 := 115) (e := decide (x.hu = y.hu)) hc ⟨rfl, rfl⟩ ⟨rfl, rfl⟩ ⟨rfl, rfl⟩ ⟨rfl, rfl⟩ ⟨rfl, rfl⟩ ⟨rfl, rfl, rfl⟩ ⟨rfl, rfl, .inl rfl⟩ rfl (by decide)
  (v1 := .pointer (some ⟨g1, 20, none⟩)) (v3 := .pointer (some ⟨g2, 20, none⟩)) (u1 := .bool x.hu) (u3 := .bool y.hu)
  (fun A H => by generalize A.eval = ρ at H ⊢; unfold execOp; go_simp) (fun A H => by have c : V14.cell? ⟨g1, 20, none⟩ = some (.bool x.hu) := hb1.cell 20; generalize A.eval = ρ at H ⊢; unfold execOp; go_simp) (fun A H => by generalize A.eval = ρ at H ⊢; unfold execOp; go_simp) (fun A H => by have c : V14.cell? ⟨g2, 20, none⟩ = some (.bool y.hu) := hb2.cell 20; generalize A.eval = ρ at H ⊢; unfold execOp; go_simp)
  (fun A K H1 H2 hk => wp_val (by unfold execOp; simp only [H1, H2, Sem.run_bind, eql_bool, Sem.run_pure]; try rfl) (hk _ (Below.refl _ _))) ?_
 clear hc
 intro A1 V15 hbw hc
 replace hb1 := hb1.below hbw
 replace hb2 := hb2.below hbw
 replace hw := hw.trans (hbw.mono hw.size)
 clear hbw
 refine ch_block (n := 143) (gi := 110) (k := 115) (d1 := 116) (d2 := 117) (d3 := 118) (d4 := 119) (d5 := 120) (d6 := 121) (d7 := 122) (e := decide (x.u = y.u)) hc ⟨rfl, rfl⟩ ⟨rfl, rfl⟩ ⟨rfl, rfl⟩ ⟨rfl, rfl⟩ ⟨rfl, rfl⟩ ⟨rfl, rfl, rfl⟩ ⟨rfl, rfl, .inl rfl⟩ rfl (by decide)
  (v1 := .pointer (some ⟨g1, 21, none⟩)) (v3 := .pointer (some ⟨g2, 21, none⟩)) (u1 := .string x.u) (u3 := .string y.u)
  (fun A H => by generalize A.eval = ρ at H ⊢; unfold execOp; go_simp) (fun A H => by have c : V15.cell? ⟨g1, 21, none⟩ = some (.string x.u) := hb1.cell 21; generalize A.eval = ρ at H ⊢; unfold execOp; go_simp) (fun A H => by generalize A.eval = ρ at H ⊢; unfold execOp; go_simp) (fun A H => by have c : V15.cell? ⟨g2, 21, none⟩ = some (.string y.u) := hb2.cell 21; generalize A.eval = ρ at H ⊢; unfold execOp; go_simp)
  (fun A K H1 H2 hk => wp_val (by unfold execOp; simp only [H1, H2, Sem.run_bind, eql_str, Sem.run_pure]; try rfl) (hk _ (Below.refl _ _))) ?_
 clear hc
 intro A1 V16 hbw hc
 replace hb1 := hb1.below hbw
 replace hb2 := hb2.below hbw
 replace hw := hw.trans (hbw.mono hw.size)
 clear hbw
 refine ch_block (n := 143) (gi := 117) (k := 122) (d1 := 123) (d2 := 124) (d3 := 125) (d4 := 126) (d5 := 127) (d6 := 128) (d7 := 129) (e := decide (x.hp = y.hp)) hc ⟨rfl, rfl⟩ ⟨rfl, rfl⟩ ⟨rfl, rfl⟩ ⟨rfl, rfl⟩ ⟨rfl, rfl⟩ ⟨rfl, rfl, rfl⟩ ⟨rfl, rfl, .inl rfl⟩ rfl (by decide)
  (v1 := .pointer (some ⟨g1, 22, none⟩)) (v3 := .pointer (some ⟨g2, 22, none⟩)) (u1 := .bool x.hp) (u3 := .bool y.hp)
  (fun A H => by generalize A.eval = ρ at H ⊢; unfold execOp; go_simp) (fun A H => by have c : V16.cell? ⟨g1, 22, none⟩ = some (.bool x.hp) := hb1.cell 22; generalize A.eval = ρ at H ⊢; unfold execOp; go_simp) (fun A H => by generalize A.eval = ρ at H ⊢; unfold execOp; go_simp) (fun A H => by have c : V16.cell? ⟨g2, 22, none⟩ = some (.bool y.hp) := hb2.cell 22; generalize A.eval = ρ at H ⊢; unfold execOp; go_simp)
  (fun A K H1 H2 hk => wp_val (by unfold execOp; simp only [H1, H2, Sem.run_bind, eql_bool, Sem.run_pure]; try rfl) (hk _ (Below.refl _ _))) ?_
 clear hc
 intro A1 V17 hbw hc
 replace hb1 := hb1.below hbw
 replace hb2 := hb2.below hbw
 replace hw := hw.trans (hbw.mono hw.size)
 clear hbw
 refine ch_block (n := 143) (gi := 124) (k := 129) (d1 := 130) (d2 := 131) (d3 := 132) (d4 := 133) (d5 := 134) (d6 := 135) (d7 := 136) (e := decide (x.pw = y.pw)) hc ⟨rfl, rfl⟩ ⟨rfl, rfl⟩ ⟨rfl, rfl⟩ ⟨rfl, rfl⟩ ⟨rfl, rfl⟩ ⟨rfl, rfl, rfl⟩ ⟨rfl, rfl, .inl rfl⟩ rfl (by decide)
  (v1 := .pointer (some ⟨g1, 23, none⟩)) (v3 := .pointer (some ⟨g2, 23, none⟩)) (u1 := .string x.pw) (u3 := .string y.pw)
  (fun A H => by generalize A.eval = ρ at H ⊢; unfold execOp; go_simp) (fun A H => by have c : V17.cell? ⟨g1, 23, none⟩ = some (.string x.pw) := hb1.cell 23; generalize A.eval = ρ at H ⊢; unfold execOp; go_simp) (fun A H => by generalize A.eval = ρ at H ⊢; unfold execOp; go_simp) (fun A H => by have c : V17.cell? ⟨g2, 23, none⟩ = some (.string y.pw) := hb2.cell 23; generalize A.eval = ρ at H ⊢; unfold execOp; go_simp)
  (fun A K H1 H2 hk => wp_val (by unfold execOp; simp only [H1, H2, Sem.run_bind, eql_str, Sem.run_pure]; try rfl) (hk _ (Below.refl _ _))) ?_
 clear hc
 intro A1 V18 hbw hc
 replace hb1 := hb1.below hbw
 replace hb2 := hb2.below hbw
 replace hw := hw.trans (hbw.mono hw.size)
 clear hbw
 refine ch_block (n := 143) (gi := 131) (k := 136) (d1 := 137) (d2 := 138) (d3 := 139) (d4 := 140) (d5 := 141) (d6 := 142) (d7 := 4) (e := decide (x.ps.length = y.ps.length)) hc ⟨rfl, rfl⟩ ⟨rfl, rfl⟩ ⟨rfl, rfl⟩ ⟨rfl, rfl⟩ ⟨rfl, rfl⟩ ⟨rfl, rfl, rfl⟩ ⟨rfl, rfl, .inr rfl⟩ rfl (by decide)
  (v1 := .pointer (some ⟨g1, 24, none⟩)) (v3 := .pointer (some ⟨g2, 24, none⟩)) (u1 := .slice a.pa x.ps.length a.pc) (u3 := .slice a'.pa y.ps.length a'.pc)
  (fun A H => by generalize A.eval = ρ at H ⊢; unfold execOp; go_simp) (fun A H => by have c : V18.cell? ⟨g1, 24, none⟩ = some (.slice a.pa x.ps.length a.pc) := hb1.cell 24; generalize A.eval = ρ at H ⊢; unfold execOp; go_simp) (fun A H => by generalize A.eval = ρ at H ⊢; unfold execOp; go_simp) (fun A H => by have c : V18.cell? ⟨g2, 24, none⟩ = some (.slice a'.pa y.ps.length a'.pc) := hb2.cell 24; generalize A.eval = ρ at H ⊢; unfold execOp; go_simp)
  (fun A K H1 H2 hk => wp_call 141 45 #[.slice a.pa x.ps.length a.pc, .slice a'.pa y.ps.length a'.pc] _ (fun w' => Below V18.heap.size V18 w') rfl (by have hf : A.eval (.func 45) = .func (.func 45) #[] #[] := rfl; generalize A.eval = ρ at H1 H2 hf ⊢; unfold execOp; go_simp) (HP V18 hw) hk) ?_
 clear hc
 intro A1 V19 hbw hc
 replace hb1 := hb1.below hbw
 replace hb2 := hb2.below hbw
 replace hw := hw.trans (hbw.mono hw.size)
 clear hbw
 refine wpList_nil ?_
 refine hK _ _ ?_
 have h4 := hc.pk
 have hr4 := HR.out
 unfold eqP at hr4
 rw [hr4] at h4
 have hd4 := hc.df
 clear hc
 go_wp2_with fail
 exact bodyPost_ret (v := .bool r) (by simp [results, Tryz.results13, h4]) hd4 ⟨rfl, hw⟩
theorem fit_len {p : Pk} {a : Ad} (h : PkFit p a) : PkLen p := ⟨h.cl1.1, h.fl1.1, h.wl1.1, h.pl1.1⟩
open Go.RowKit Go.Lib Prp Pkt Vbi
theorem eq_2 {p : Pk} (hk : p.kind = 2) : eqP p { zp 2 with pre := p.pre, re := p.re, ps := p.ps } = fieldB p := by
 rw [Bool.eq_iff_iff]
 simp [eqP, eqW, fieldB, fieldOf, b1, b3, wFilled, E, zp, zw, hk]
 grind
theorem eq_3 {p : Pk} (hk : p.kind = 3) : eqP p { zp 3 with dup := p.dup, q := p.q, ret := p.ret, id := p.id, t := p.t, b := p.b, ps := p.ps } = fieldB p := by
 rw [Bool.eq_iff_iff]
 simp [eqP, eqW, fieldB, fieldOf, b1, b3, wFilled, E, zp, zw, hk]
 grind
theorem eq_1 {p : Pk} (hk : p.kind = 1) : eqP p { zp 1 with cl := p.cl, clean := p.clean, keep := p.keep, w := p.w, hu := p.hu, u := p.u, hp := p.hp, pw := p.pw, ps := p.ps } = fieldB p := by
 rw [Bool.eq_iff_iff]
 simp [eqP, eqW, fieldB, fieldOf, b1, b3, wFilled, E, zp, zw, hk]
 grind
theorem eq_id {p : Pk} {k : Int} (hk : p.kind = k) (h : k = 4 ∨ k = 5 ∨ k = 6 ∨ k = 7) : eqP p { zp k with id := p.id, re := p.re, ps := p.ps } = fieldB p := by
 rw [Bool.eq_iff_iff]
 rcases h with rfl | rfl | rfl | rfl <;>
 ·simp [eqP, eqW, fieldB, fieldOf, b1, b3, wFilled, E, zp, zw, hk]
  grind
theorem eq_cs {p : Pk} {k : Int} (hk : p.kind = k) (h : k = 9 ∨ k = 11) : eqP p { zp k with id := p.id, cs := p.cs, ps := p.ps } = fieldB p := by
 rw [Bool.eq_iff_iff]
 rcases h with rfl | rfl <;>
 ·simp [eqP, eqW, fieldB, fieldOf, b1, b3, wFilled, E, zp, zw, hk]
  grind
theorem eq_fs {p : Pk} {k : Int} (hk : p.kind = k) (h : k = 8 ∨ k = 10) : eqP p { zp k with id := p.id, fs := p.fs, ps := p.ps } = fieldB p := by
 rw [Bool.eq_iff_iff]
 rcases h with rfl | rfl <;>
 ·simp [eqP, eqW, fieldB, fieldOf, b1, b3, wFilled, E, zp, zw, hk]
  grind
theorem eq_re {p : Pk} {k : Int} (hk : p.kind = k) (h : k = 14 ∨ k = 15) : eqP p { zp k with re := p.re, ps := p.ps } = fieldB p := by
 rw [Bool.eq_iff_iff]
 rcases h with rfl | rfl <;>
 ·simp [eqP, eqW, fieldB, fieldOf, b1, b3, wFilled, E, zp, zw, hk]
  grind
theorem eq_no {p : Pk} {k : Int} (hk : p.kind = k) (h : k = 12 ∨ k = 13) (hp : p.ps = []) : eqP p { zp k with ps := p.ps } = fieldB p := by
 rw [Bool.eq_iff_iff]
 rcases h with rfl | rfl <;>
 ·simp [eqP, eqW, fieldB, fieldOf, b1, b3, wFilled, E, zp, zw, hk, hp]
  grind
open Go.RowKit Go.Lib Prp Pkt Vbi
theorem none_12 {k : Int} {l : List P} (hk : k = 12 ∨ k = 13) : propsB k l = decide (l = []) := by
 cases l with
 | nil => rcases hk with rfl | rfl <;> rfl
 | cons x t =>
  rw [decide_eq_false (by simp)]
  have h : goodL k [] (x :: t) = false := by
   unfold goodL goodB
   have hs : standB k x.id = false := by
    rcases hk with rfl | rfl <;> simp [standB, standL]
   simp [hs]
  unfold propsB
  rw [h]
  simp
theorem goodP_eq (p : Pk) : goodP p = (mayP p && allOk (partsL p)) := rfl
theorem doc_12 {p : Pk} (hk : p.kind = 12) : goodP p = (inB p.re 255 && (propsB 12 p.ps && eqP p { zp 12 with ps := p.ps })) := by
 rw [none_12 (.inl rfl), Bool.eq_iff_iff, goodP_eq]
 by_cases hp : p.ps = []
 ·rw [eq_no hk (.inl rfl) hp]
  simp [mayP, partsL, allOk, inB, hk, hp]
  simp [fieldB, fieldOf, hk]
  grind
 ·simp [mayP, hk, hp, fieldB, fieldOf]
theorem doc_13 {p : Pk} (hk : p.kind = 13) : goodP p = (inB p.re 255 && (propsB 13 p.ps && eqP p { zp 13 with ps := p.ps })) := by
 rw [none_12 (.inr rfl), Bool.eq_iff_iff, goodP_eq]
 by_cases hp : p.ps = []
 ·rw [eq_no hk (.inr rfl) hp]
  simp [mayP, partsL, allOk, inB, hk, hp]
  simp [fieldB, fieldOf, hk]
  grind
 ·simp [mayP, hk, hp, fieldB, fieldOf]
theorem bit_ok (b : Bool) : 0 ≤ bitZ b 1 ∧ bitZ b 1 ≤ 255 := by cases b <;> decide
theorem doc_2 {p : Pk} (hk : p.kind = 2) : goodP p = (inB p.re 255 && (propsB 2 p.ps && eqP p { zp 2 with ps := p.ps, pre := p.pre, re := p.re })) := by
 have e := eq_2 hk
 rw [e, Bool.eq_iff_iff, goodP_eq, parts_2 hk]
 have := bit_ok p.pre
 simp [mayP, allOk, Part.okB, inB, hk]
 grind
theorem reason_doc {p : Pk} {k : Int} (hk : p.kind = k) (h0 : propsB k [] = true) : allOk (reasonL p) = (inB p.re 255 && propsB k p.ps) := by
 unfold reasonL
 by_cases hp : p.ps = []
 ·rw [if_neg (fun h => h hp), hp, h0]
  by_cases hr : p.re = 0
  ·rw [if_neg (fun h => h hr), hr]; rfl
  ·rw [if_pos hr]; simp [allOk, Part.okB, inB]
 ·rw [if_pos hp]; simp [allOk, Part.okB, inB, hk]
theorem doc_14 {p : Pk} (hk : p.kind = 14) : goodP p = (inB p.re 255 && (propsB 14 p.ps && eqP p { zp 14 with ps := p.ps, re := p.re })) := by
 have e := eq_re hk (.inl rfl)
 have hp : partsL p = reasonL p := by simp [partsL, hk]
 rw [e, goodP_eq, hp, reason_doc hk rfl]
 simp [mayP, hk]
 cases fieldB p <;> simp
theorem doc_15 {p : Pk} (hk : p.kind = 15) : goodP p = (inB p.re 255 && (propsB 15 p.ps && eqP p { zp 15 with ps := p.ps, re := p.re })) := by
 have e := eq_re hk (.inr rfl)
 have hp : partsL p = reasonL p := by simp [partsL, hk]
 rw [e, goodP_eq, hp, reason_doc hk rfl]
 simp [mayP, hk]
 cases fieldB p <;> simp
theorem num_doc (n : Int) : (Part.number n).okB = idB n := by
 unfold Part.okB idB
 exact decide_eq_decide.2 (by omega)
theorem doc_id {p : Pk} {k : Int} (hk : p.kind = k) (h : k = 4 ∨ k = 5 ∨ k = 6 ∨ k = 7) : goodP p = (inB p.re 255 && (propsB k p.ps && (idB p.id && eqP p { zp k with ps := p.ps, id := p.id, re := p.re }))) := by
 have e := eq_id hk h
 have hp : partsL p = [.number p.id] ++ reasonL p := by rcases h with rfl | rfl | rfl | rfl <;> simp [partsL, hk]
 have h0 : propsB k [] = true := by rcases h with rfl | rfl | rfl | rfl <;> rfl
 have hm : mayP p = fieldB p := by rcases h with rfl | rfl | rfl | rfl <;> simp [mayP, hk]
 rw [e, goodP_eq, hp, hm, allOk_app, reason_doc hk h0]
 simp only [allOk, List.all_cons, List.all_nil, num_doc, Bool.and_true]
 cases fieldB p <;> cases idB p.id <;> simp
theorem doc_4 {p : Pk} (hk : p.kind = 4) : goodP p = (inB p.re 255 && (propsB 4 p.ps && (idB p.id && eqP p { zp 4 with ps := p.ps, id := p.id, re := p.re }))) := doc_id hk (.inl rfl)
theorem doc_5 {p : Pk} (hk : p.kind = 5) : goodP p = (inB p.re 255 && (propsB 5 p.ps && (idB p.id && eqP p { zp 5 with ps := p.ps, id := p.id, re := p.re }))) := doc_id hk (.inr (.inl rfl))
theorem doc_6 {p : Pk} (hk : p.kind = 6) : goodP p = (inB p.re 255 && (propsB 6 p.ps && (idB p.id && eqP p { zp 6 with ps := p.ps, id := p.id, re := p.re }))) := doc_id hk (.inr (.inr (.inl rfl)))
theorem doc_7 {p : Pk} (hk : p.kind = 7) : goodP p = (inB p.re 255 && (propsB 7 p.ps && (idB p.id && eqP p { zp 7 with ps := p.ps, id := p.id, re := p.re }))) := doc_id hk (.inr (.inr (.inr rfl)))
theorem re_zero {p : Pk} (hF : fieldB p = true) (h : p.kind = 1 ∨ p.kind = 3 ∨ p.kind = 8 ∨ p.kind = 9 ∨ p.kind = 10 ∨ p.kind = 11) : p.re = 0 := by
 unfold fieldB fieldOf at hF
 simp only [Bool.and_eq_true, Bool.or_eq_true, Bool.not_eq_true', decide_eq_true_eq, bne_eq_false_iff_eq] at hF
 rcases hF.2.2.2.2.1 with h1 | h1
 ·exact h1
 ·omega
theorem codes_all (l : List Int) : allOk (codeL l) = l.all fun x => inB x 255 := by
 unfold allOk codeL
 rw [List.all_map]
 rfl
theorem doc_cs {p : Pk} {k : Int} (hk : p.kind = k) (h : k = 9 ∨ k = 11) : goodP p = (inB p.re 255 && (propsB k p.ps && (idB p.id && (countB p.cs.length && ((p.cs.all fun x => inB x 255) && eqP p { zp k with ps := p.ps, id := p.id, cs := p.cs }))))) := by
 have e := eq_cs hk h
 have hp : partsL p = [.number p.id, .props p.kind p.ps] ++ codeL p.cs := by rcases h with rfl | rfl <;> simp [partsL, hk]
 have hm : mayP p = (fieldB p && countB p.cs.length) := by rcases h with rfl | rfl <;> simp [mayP, hk]
 have ho : Part.okB (.props p.kind p.ps) = propsB k p.ps := by rw [hk]; rfl
 rw [e, goodP_eq, hp, hm, allOk_app, codes_all]
 simp only [allOk, List.all_cons, List.all_nil, num_doc, Bool.and_true, ho]
 cases hF : fieldB p with
 | false => simp
 | true =>
  have hr := re_zero hF (by omega)
  rw [hr, show inB 0 255 = true from rfl]
  cases idB p.id <;> cases propsB k p.ps <;> cases countB p.cs.length <;> simp
theorem doc_9 {p : Pk} (hk : p.kind = 9) : goodP p = (inB p.re 255 && (propsB 9 p.ps && (idB p.id && (countB p.cs.length && ((p.cs.all fun x => inB x 255) && eqP p { zp 9 with ps := p.ps, id := p.id, cs := p.cs }))))) := doc_cs hk (.inl rfl)
theorem doc_11 {p : Pk} (hk : p.kind = 11) : goodP p = (inB p.re 255 && (propsB 11 p.ps && (idB p.id && (countB p.cs.length && ((p.cs.all fun x => inB x 255) && eqP p { zp 11 with ps := p.ps, id := p.id, cs := p.cs }))))) := doc_cs hk (.inr rfl)
def dq3 (p : Pk) : Bool := inB p.q 2 && ((!decide (0 < p.q) || idB p.id) && ((!decide (p.q = 0) || (decide (p.id = 0) && !p.dup)) && (textB p.t && decide (p.b.size ≤ 1024))))
theorem doc_3 {p : Pk} (hk : p.kind = 3) : goodP p = (inB p.re 255 && (propsB 3 p.ps && (dq3 p && eqP p { zp 3 with ps := p.ps, dup := p.dup, q := p.q, ret := p.ret, id := p.id, t := p.t, b := p.b }))) := by
 have e := eq_3 hk
 have ho : Part.okB (.props p.kind p.ps) = propsB 3 p.ps := by rw [hk]; rfl
 have hw : Part.okB (.words p.t) = textB p.t := rfl
 have hr : Part.okB (.raw p.b) = true := rfl
 rw [e, goodP_eq]
 cases hF : fieldB p with
 | false => simp [mayP, hF]
 | true =>
  rw [re_zero hF (by omega), show inB 0 255 = true from rfl]
  unfold mayP partsL dq3
  simp only [hk, hF]
  by_cases hq : p.q = 0
  ·simp [hq, sendB, qosB, allOk, hw, hr, inB]
   have : Part.okB (.props 3 p.ps) = propsB 3 p.ps := rfl
   rw [this]
   cases p.dup <;> cases textB p.t <;> cases propsB 3 p.ps <;> simp
  ·have : Part.okB (.props 3 p.ps) = propsB 3 p.ps := rfl
   simp [hq, sendB, qosB, allOk, hw, hr, inB, num_doc, this]
   rw [Bool.eq_iff_iff]
   simp
   grind
def dq1 (p : Pk) : Bool := textB p.cl && (inB p.keep 65535 && (inB p.w.q 2 && (textB p.u && (decide (p.pw.size ≤ 1024) && ((p.hu || E p.u) && (p.hp || E p.pw))))))
def dw1 (p : Pk) : Bool := if p.w.has = true then propsB 0 p.w.ps && (!E p.w.t && (textB p.w.t && decide (p.w.b.size ≤ 1024))) else eqW p.w zw
theorem eq_will (w : Wl) (h : w.has = false) : eqW w zw = !wFilled w := by
 rw [Bool.eq_iff_iff]
 simp [eqW, wFilled, E, zw, h]
 try exact ⟨fun ⟨a, b, c, d, e⟩ => ⟨of_decide_eq_true a, of_decide_eq_true b, of_decide_eq_true c, of_decide_eq_true d, e⟩, fun ⟨a, b, c, d, e⟩ => ⟨decide_eq_true a, decide_eq_true b, decide_eq_true c, decide_eq_true d, e⟩⟩
theorem bitZ_two (b : Bool) (n : Int) : bitZ b n = 0 ∨ bitZ b n = n := by cases b <;> simp [bitZ]
theorem login_in {p : Pk} (h : inB p.w.q 2 = true) : 0 ≤ loginZ p ∧ loginZ p ≤ 255 := by
 unfold inB at h
 have h' := of_decide_eq_true h
 unfold loginZ
 have a := bitZ_two p.clean 2
 have b := bitZ_two p.w.has 4
 have c := bitZ_two p.w.ret 32
 have d := bitZ_two p.hp 64
 have e := bitZ_two p.hu 128
 omega
theorem text_none : textB ⟨#[]⟩ = true := by kernel_rfl
theorem short_in (n : Int) : (Part.short n).okB = inB n 65535 := by
 unfold Part.okB inB
 exact decide_eq_decide.2 (by omega)
theorem doc_1 {p : Pk} (hk : p.kind = 1) : goodP p = (inB p.re 255 && (propsB 1 p.ps && ((dq1 p && dw1 p) && eqP p { zp 1 with ps := p.ps, cl := p.cl, clean := p.clean, keep := p.keep, w := p.w, hu := p.hu, u := p.u, hp := p.hp, pw := p.pw }))) := by
 have e := eq_1 hk
 rw [e, goodP_eq]
 cases hF : fieldB p with
 | false => simp [mayP, hF]
 | true =>
  rw [re_zero hF (.inl hk), show inB 0 255 = true from rfl]
  have hm : mayP p = logInB p := by simp [mayP, hk, hF]
  have hp : partsL p = connectL p := by simp [partsL, hk]
  have ho : Part.okB (.props p.kind p.ps) = propsB 1 p.ps := by rw [hk]; rfl
  have h1 : Part.okB (.words mqtt) = true := by show textB mqtt = true; kernel_rfl
  have h5 : Part.okB (.octet 5) = true := rfl
  rw [hm, hp]
  unfold connectL
  rw [allOk_app, allOk_app, allOk_app]
  have hc : allOk [.words mqtt, .octet 5, .octet (loginZ p), .short p.keep, .props p.kind p.ps, .words p.cl] = ((Part.octet (loginZ p)).okB && (inB p.keep 65535 && (propsB 1 p.ps && textB p.cl))) := by
   simp only [allOk, List.all_cons, List.all_nil, h1, h5, ho, short_in, Bool.true_and, Bool.and_true]
   rfl
  have hw : allOk (willL p) = (!p.w.has || (propsB 0 p.w.ps && (textB p.w.t && decide (p.w.b.size ≤ 1024)))) := by
   unfold willL
   cases p.w.has
   ·rfl
   ·show allOk [_, _, _] = _
    simp only [allOk, List.all_cons, List.all_nil, Bool.and_true]
    rfl
  have hu : allOk (userL p) = (!p.hu || textB p.u) := by
   unfold userL
   cases p.hu
   ·rfl
   ·show allOk [_] = _
    simp only [allOk, List.all_cons, List.all_nil, Bool.and_true]
    rfl
  have hpw : allOk (passL p) = (!p.hp || decide (p.pw.size ≤ 1024)) := by
   unfold passL
   cases p.hp
   ·rfl
   ·show allOk [_] = _
    simp only [allOk, List.all_cons, List.all_nil, Bool.and_true]
    rfl
  rw [hc, hw, hu, hpw]
  unfold logInB dq1 dw1
  have hq : qosB p.w.q = inB p.w.q 2 := rfl
  rw [hq]
  have hu0 : E p.u = true → textB p.u = true := fun h => by rw [show p.u = ⟨#[]⟩ from of_decide_eq_true h]; exact text_none
  have hp0 : E p.pw = true → decide (p.pw.size ≤ 1024) = true := fun h => by rw [show p.pw = ⟨#[]⟩ from of_decide_eq_true h]; rfl
  by_cases hh : p.w.has = true
  ·rw [if_pos hh, if_pos hh, hh]
   cases hq2 : inB p.w.q 2 with
   | false => simp
   | true =>
    have hl : (Part.octet (loginZ p)).okB = true := decide_eq_true (login_in hq2)
    rw [hl]
    revert hu0 hp0
    generalize textB p.u = x1
    generalize E p.u = x2
    generalize decide (p.pw.size ≤ 1024) = x3
    generalize E p.pw = x4
    generalize p.hu = x5
    generalize p.hp = x6
    generalize propsB 0 p.w.ps = x7
    generalize E p.w.t = x8
    generalize textB p.w.t = x9
    generalize decide (p.w.b.size ≤ 1024) = y1
    generalize inB p.keep 65535 = y2
    generalize propsB 1 p.ps = y3
    generalize textB p.cl = y4
    intro hu0 hp0
    cases x1 <;> cases x2 <;> cases x3 <;> cases x4 <;> cases x5 <;> cases x6 <;> simp_all <;> (cases x7 <;> cases x8 <;> cases x9 <;> cases y1 <;> cases y2 <;> cases y3 <;> cases y4 <;> rfl)
  ·have hh' : p.w.has = false := by simpa using hh
   rw [if_neg hh, if_neg hh, hh', eq_will p.w hh']
   cases hwf : wFilled p.w with
   | true => simp
   | false =>
    have hz : p.w.q = 0 := by
     unfold wFilled at hwf
     simp only [Bool.or_eq_false_iff, decide_eq_false_iff_not, Decidable.not_not] at hwf
     exact hwf.2.1
    have hq2 : inB p.w.q 2 = true := by rw [hz]; rfl
    have hl : (Part.octet (loginZ p)).okB = true := decide_eq_true (login_in hq2)
    rw [hl, hq2]
    revert hu0 hp0
    generalize textB p.u = x1
    generalize E p.u = x2
    generalize decide (p.pw.size ≤ 1024) = x3
    generalize E p.pw = x4
    generalize p.hu = x5
    generalize p.hp = x6
    generalize inB p.keep 65535 = y2
    generalize propsB 1 p.ps = y3
    generalize textB p.cl = y4
    intro hu0 hp0
    cases x1 <;> cases x2 <;> cases x3 <;> cases x4 <;> cases x5 <;> cases x6 <;> simp_all <;> (cases y2 <;> cases y3 <;> cases y4 <;> rfl)
end Go.Proofs.YtdbbcfohjkgdcaaGreat
