/- The document's own answer on packets: the bytes of one that may be but for its length. -/
import Derived.Test.YtiancngpknnkaaaGreatK00
import Derived.Test.YtiancngpknnkaaaGreatK20
import Derived.Test.YtiancngpknnkaaaGreatK23
import Derived.Test.YtiancngpknnkaaaGreatK26
set_option maxRecDepth 100000
set_option maxHeartbeats 64000000
namespace Go.Proofs.YtiancngpknnkaaaGreat
open Go.RowKit Go.Lib Prp Pkt
def eqP (x y : Pk) : Bool := ((((((((((((((((((decide (x.kind = y.kind) && decide (x.dup = y.dup)) && decide (x.q = y.q)) && decide (x.ret = y.ret)) && decide (x.id = y.id)) && decide (x.t = y.t)) && decide (x.b = y.b)) && decide (x.re = y.re)) && decide (x.pre = y.pre)) && decide (x.cs.length = y.cs.length)) && decide (x.fs.length = y.fs.length)) && decide (x.cl = y.cl)) && decide (x.clean = y.clean)) && decide (x.keep = y.keep)) && eqW x.w y.w) && decide (x.hu = y.hu)) && decide (x.u = y.u)) && decide (x.hp = y.hp)) && decide (x.pw = y.pw)) && decide (x.ps.length = y.ps.length)
def HalfOf (x y : Pk) : Prop := (y.cs = x.cs ∨ y.cs = []) ∧ (y.fs = x.fs ∨ y.fs = []) ∧ (y.w.ps = x.w.ps ∨ y.w.ps = []) ∧ (y.ps = x.ps ∨ y.ps = [])
structure PkLen (p : Pk) : Prop where
 cs : p.cs.length ≤ 9223372036854775807
 fs : p.fs.length ≤ 9223372036854775807
 ws : p.w.ps.length ≤ 9223372036854775807
 ps : p.ps.length ≤ 9223372036854775807
theorem eql_int (x y : Int) (w : World) : (binOp .eql 3 (.int .i64 x) (.int .i64 y)).run Tryz.prog w = .ok (.bool (decide (x = y))) w := by
 go_simp
 by_cases h : x = y <;> simp [h]
theorem eql_bool (x y : Bool) (w : World) : (binOp .eql 4 (.bool x) (.bool y)).run Tryz.prog w = .ok (.bool (decide (x = y))) w := by
 go_simp
 cases x <;> cases y <;> rfl
theorem eql_str (x y : ByteArray) (w : World) : (binOp .eql 9 (.string x) (.string y)).run Tryz.prog w = .ok (.bool (decide (x = y))) w := by
 go_simp
 by_cases h : x = y
 ·simp [h]
 ·have : ¬ x.toList = y.toList := fun e => h ((toList_eq_iff x y).1 e)
  simp [h, this]
theorem info_wl : (Tryz.prog.info? 28).map (·.size) = some 6 := by kernel_rfl
theorem load_wl {W : World} {g : Nat} {p : Pk} {a : Ad} (h : Box W g (pkArr p a)) : (loadVar 28 ⟨g, 14, none⟩).run Tryz.prog W = .ok (.agg (wlArr p.w a.wa a.wc)) W := by
 refine run_loadVar_mid W g 14 28 (wlArr p.w a.wa a.wc).toList _ (fun j v hv => ?_) Tryz.underlying28 rfl info_wl
 rw [h.cell]
 match j, hv with
 | 0, hv => exact hv
 | 1, hv => exact hv
 | 2, hv => exact hv
 | 3, hv => exact hv
 | 4, hv => exact hv
 | 5, hv => exact hv
theorem exec_load {P : Program} {ρ : Operand → Value} {o : Oper} {ty : TypeId} {x : Operand} {b off : Nat} {V : Value} {w : World} (ho : o.op = .load ty x) (hx : ρ x = .pointer (some ⟨b, off, none⟩)) (hv : (loadVar ty ⟨b, off, none⟩).run P w = .ok V w) :
  (execOp ρ o).run P w = .ok (.value V) w := by
 unfold execOp
 simp only [ho, hx, Instr.loadAt, Instr.sureAddr, Sem.run_bind, Sem.run_pure, Result.andThen_ok, hv]
theorem EqPacket_is (x y : Pk) (a a' : Ad) (w : World) (hf : PkLen x) (hl : HalfOf x y) (h : PkAt w w.heap.size x a) (h' : PkAt w w.heap.size y a') :
  Calls Tryz.prog 26 #[.agg (pkArr x a), .agg (pkArr y a')] w fun e w' => e = .returned (.bool (eqP x y)) ∧ Below w.heap.size w w' := by
 have HN := fun (W : World) (hb : Below w.heap.size w W) => (EqNumbers_any x.cs y.cs a.ca a'.ca a.cc a'.cc _ _ W hf.cs hl.1 (h.cs.below hb) (h'.cs.below hb)).mono fun e w' (hh : _ ∧ ∃ n, w' = W.drewN n) => (show e = .returned (.bool (decide (x.cs.length = y.cs.length))) ∧ Below W.heap.size W w' from ⟨hh.1, by obtain ⟨n, rfl⟩ := hh.2; exact below_drewN (Below.refl _ _) n⟩)
 have HF := fun (W : World) (hb : Below w.heap.size w W) => (EqFilters_any x.fs y.fs a.fa a'.fa a.fc a'.fc _ _ W hf.fs hl.2.1 (h.fs.below hb) (h'.fs.below hb)).mono fun e w' (hh : _ ∧ ∃ n, w' = W.drewN n) => (show e = .returned (.bool (decide (x.fs.length = y.fs.length))) ∧ Below W.heap.size W w' from ⟨hh.1, by obtain ⟨n, rfl⟩ := hh.2; exact below_drewN (Below.refl _ _) n⟩)
 have HW := fun (W : World) (hb : Below w.heap.size w W) => EqWill_is x.w y.w a.wa a'.wa a.wc a'.wc _ _ W hf.ws hl.2.2.1 hb.size hb.size (h.ws.below hb) (h'.ws.below hb)
 have HP := fun (W : World) (hb : Below w.heap.size w W) => (EqProps_any x.ps y.ps a.pa a'.pa a.pc a'.pc _ _ W hf.ps hl.2.2.2 (h.ps.below hb) (h'.ps.below hb)).mono fun e w' (hh : _ ∧ ∃ n, w' = W.drewN n) => (show e = .returned (.bool (decide (x.ps.length = y.ps.length))) ∧ Below W.heap.size W w' from ⟨hh.1, by obtain ⟨n, rfl⟩ := hh.2; exact below_drewN (Below.refl _ _) n⟩)
 have hb1 := Box.new w 30 (pkArr x a)
 have hw := (Below.refl w.heap.size w).alloc (Nat.le_refl _) (.cells (pkArr x a) 30)
 obtain ⟨W1, hW⟩ : ∃ W1, w.alloc (.cells (pkArr x a) 30) = W1 := ⟨_, rfl⟩
 rw [hW] at hb1 hw
 have hb2 := Box.new W1 30 (pkArr y a')
 have ha2 := (Below.refl W1.heap.size W1).alloc (Nat.le_refl _) (.cells (pkArr y a') 30)
 obtain ⟨W, hW2⟩ : ∃ W2, W1.alloc (.cells (pkArr y a') 30) = W2 := ⟨_, rfl⟩
 rw [hW2] at hb2 ha2
 have hz : w.heap.size + 1 = W1.heap.size := by rw [← hW]; simp
 rw [← hz] at hb2
 replace hb1 := hb1.below ha2
 replace hw := hw.trans (ha2.mono hw.size)
 clear hz ha2 h h' hl hf
 unfold pkArr at hW hW2 ⊢
 have HW0 := Lib.hid hW
 have HW2 := Lib.hid hW2
 have HI := Lib.hid (And.intro hb1 (And.intro hb2 (And.intro hw (And.intro HN (And.intro HF (And.intro HW HP))))))
 clear hW hW2 hb1 hb2 hw HN HF HW HP
 obtain ⟨r, hr⟩ : ∃ r, eqP x y = r := ⟨_, rfl⟩
 rw [hr]
 have HR := Lib.hid hr
 clear hr
 go_enter Tryz.func26, Tryz.ntmps26
 go_upto_region 1 with fail
 rw [HW0.out, HW2.out]
 rename_i Q' K hK
 obtain ⟨hb1, hb2, hw, HN, HF, HW, HP⟩ := HI.out
 clear HI HW0 HW2
 obtain ⟨g1, hg1⟩ : ∃ g, w.heap.size = g := ⟨_, rfl⟩
 obtain ⟨g2, hg2⟩ : ∃ g, w.heap.size + 1 = g := ⟨_, rfl⟩
 rw [hg2] at hb2 ⊢
 rw [hg1] at hb1 ⊢
 clear hg1 hg2
 have c0 : W.cell? ⟨g1, 0, none⟩ = some (.int .i64 x.kind) := hb1.cell 0
 have c1 : W.cell? ⟨g2, 0, none⟩ = some (.int .i64 y.kind) := hb2.cell 0
 refine wp_region_list ?_
 refine ch_first (n := 143) (x := .pointer (some ⟨g1, 0, none⟩)) (y := .pointer (some ⟨g2, 0, none⟩)) (e := decide (x.kind = y.kind)) rfl rfl rfl rfl ⟨rfl, rfl⟩ ⟨rfl, rfl⟩ ⟨rfl, rfl⟩ ⟨rfl, rfl⟩ ⟨rfl, rfl⟩ ⟨rfl, rfl, rfl⟩ (by decide)
  (v1 := .pointer (some ⟨g1, 0, none⟩)) (v3 := .pointer (some ⟨g2, 0, none⟩)) (u1 := .int .i64 x.kind) (u3 := .int .i64 y.kind)
  (fun A H => by generalize A.eval = ρ at H ⊢; unfold execOp; go_simp) (fun A H => by generalize A.eval = ρ at H ⊢; unfold execOp; go_simp) (fun A H => by generalize A.eval = ρ at H ⊢; unfold execOp; go_simp) (fun A H => by generalize A.eval = ρ at H ⊢; unfold execOp; go_simp) (fun A H1 H2 => by unfold execOp; simp only [H1, H2, Sem.run_bind, eql_int, Sem.run_pure]; try rfl) ?_
 intro A1 hc
 refine ch_block (n := 143) (gi := 5) (k := 10) (d1 := 11) (d2 := 12) (d3 := 13) (d4 := 14) (d5 := 15) (d6 := 16) (d7 := 17) (e := decide (x.dup = y.dup)) hc ⟨rfl, rfl⟩ ⟨rfl, rfl⟩ ⟨rfl, rfl⟩ ⟨rfl, rfl⟩ ⟨rfl, rfl⟩ ⟨rfl, rfl, rfl⟩ ⟨rfl, rfl, .inl rfl⟩ rfl (by decide)
  (v1 := .pointer (some ⟨g1, 1, none⟩)) (v3 := .pointer (some ⟨g2, 1, none⟩)) (u1 := .bool x.dup) (u3 := .bool y.dup)
  (fun A H => by generalize A.eval = ρ at H ⊢; unfold execOp; go_simp) (fun A H => by have c : W.cell? ⟨g1, 1, none⟩ = some (.bool x.dup) := hb1.cell 1; generalize A.eval = ρ at H ⊢; unfold execOp; go_simp) (fun A H => by generalize A.eval = ρ at H ⊢; unfold execOp; go_simp) (fun A H => by have c : W.cell? ⟨g2, 1, none⟩ = some (.bool y.dup) := hb2.cell 1; generalize A.eval = ρ at H ⊢; unfold execOp; go_simp)
  (fun A K H1 H2 hk => wp_val (by unfold execOp; simp only [H1, H2, Sem.run_bind, eql_bool, Sem.run_pure]; try rfl) (hk _ (Below.refl _ _))) ?_
 clear hc
 intro A1 V1 hbw hc
 replace hb1 := hb1.below hbw
 replace hb2 := hb2.below hbw
 replace hw := hw.trans (hbw.mono hw.size)
 clear hbw
 refine ch_block (n := 143) (gi := 12) (k := 17) (d1 := 18) (d2 := 19) (d3 := 20) (d4 := 21) (d5 := 22) (d6 := 23) (d7 := 24) (e := decide (x.q = y.q)) hc ⟨rfl, rfl⟩ ⟨rfl, rfl⟩ ⟨rfl, rfl⟩ ⟨rfl, rfl⟩ ⟨rfl, rfl⟩ ⟨rfl, rfl, rfl⟩ ⟨rfl, rfl, .inl rfl⟩ rfl (by decide)
  (v1 := .pointer (some ⟨g1, 2, none⟩)) (v3 := .pointer (some ⟨g2, 2, none⟩)) (u1 := .int .i64 x.q) (u3 := .int .i64 y.q)
  (fun A H => by generalize A.eval = ρ at H ⊢; unfold execOp; go_simp) (fun A H => by have c : V1.cell? ⟨g1, 2, none⟩ = some (.int .i64 x.q) := hb1.cell 2; generalize A.eval = ρ at H ⊢; unfold execOp; go_simp) (fun A H => by generalize A.eval = ρ at H ⊢; unfold execOp; go_simp) (fun A H => by have c : V1.cell? ⟨g2, 2, none⟩ = some (.int .i64 y.q) := hb2.cell 2; generalize A.eval = ρ at H ⊢; unfold execOp; go_simp)
  (fun A K H1 H2 hk => wp_val (by unfold execOp; simp only [H1, H2, Sem.run_bind, eql_int, Sem.run_pure]; try rfl) (hk _ (Below.refl _ _))) ?_
 clear hc
 intro A1 V2 hbw hc
 replace hb1 := hb1.below hbw
 replace hb2 := hb2.below hbw
 replace hw := hw.trans (hbw.mono hw.size)
 clear hbw
 refine ch_block (n := 143) (gi := 19) (k := 24) (d1 := 25) (d2 := 26) (d3 := 27) (d4 := 28) (d5 := 29) (d6 := 30) (d7 := 31) (e := decide (x.ret = y.ret)) hc ⟨rfl, rfl⟩ ⟨rfl, rfl⟩ ⟨rfl, rfl⟩ ⟨rfl, rfl⟩ ⟨rfl, rfl⟩ ⟨rfl, rfl, rfl⟩ ⟨rfl, rfl, .inl rfl⟩ rfl (by decide)
  (v1 := .pointer (some ⟨g1, 3, none⟩)) (v3 := .pointer (some ⟨g2, 3, none⟩)) (u1 := .bool x.ret) (u3 := .bool y.ret)
  (fun A H => by generalize A.eval = ρ at H ⊢; unfold execOp; go_simp) (fun A H => by have c : V2.cell? ⟨g1, 3, none⟩ = some (.bool x.ret) := hb1.cell 3; generalize A.eval = ρ at H ⊢; unfold execOp; go_simp) (fun A H => by generalize A.eval = ρ at H ⊢; unfold execOp; go_simp) (fun A H => by have c : V2.cell? ⟨g2, 3, none⟩ = some (.bool y.ret) := hb2.cell 3; generalize A.eval = ρ at H ⊢; unfold execOp; go_simp)
  (fun A K H1 H2 hk => wp_val (by unfold execOp; simp only [H1, H2, Sem.run_bind, eql_bool, Sem.run_pure]; try rfl) (hk _ (Below.refl _ _))) ?_
 clear hc
 intro A1 V3 hbw hc
 replace hb1 := hb1.below hbw
 replace hb2 := hb2.below hbw
 replace hw := hw.trans (hbw.mono hw.size)
 clear hbw
 refine ch_block (n := 143) (gi := 26) (k := 31) (d1 := 32) (d2 := 33) (d3 := 34) (d4 := 35) (d5 := 36) (d6 := 37) (d7 := 38) (e := decide (x.id = y.id)) hc ⟨rfl, rfl⟩ ⟨rfl, rfl⟩ ⟨rfl, rfl⟩ ⟨rfl, rfl⟩ ⟨rfl, rfl⟩ ⟨rfl, rfl, rfl⟩ ⟨rfl, rfl, .inl rfl⟩ rfl (by decide)
  (v1 := .pointer (some ⟨g1, 4, none⟩)) (v3 := .pointer (some ⟨g2, 4, none⟩)) (u1 := .int .i64 x.id) (u3 := .int .i64 y.id)
  (fun A H => by generalize A.eval = ρ at H ⊢; unfold execOp; go_simp) (fun A H => by have c : V3.cell? ⟨g1, 4, none⟩ = some (.int .i64 x.id) := hb1.cell 4; generalize A.eval = ρ at H ⊢; unfold execOp; go_simp) (fun A H => by generalize A.eval = ρ at H ⊢; unfold execOp; go_simp) (fun A H => by have c : V3.cell? ⟨g2, 4, none⟩ = some (.int .i64 y.id) := hb2.cell 4; generalize A.eval = ρ at H ⊢; unfold execOp; go_simp)
  (fun A K H1 H2 hk => wp_val (by unfold execOp; simp only [H1, H2, Sem.run_bind, eql_int, Sem.run_pure]; try rfl) (hk _ (Below.refl _ _))) ?_
 clear hc
 intro A1 V4 hbw hc
 replace hb1 := hb1.below hbw
 replace hb2 := hb2.below hbw
 replace hw := hw.trans (hbw.mono hw.size)
 clear hbw
 refine ch_block (n := 143) (gi := 33) (k := 38) (d1 := 39) (d2 := 40) (d3 := 41) (d4 := 42) (d5 := 43) (d6 := 44) (d7 := 45) (e := decide (x.t = y.t)) hc ⟨rfl, rfl⟩ ⟨rfl, rfl⟩ ⟨rfl, rfl⟩ ⟨rfl, rfl⟩ ⟨rfl, rfl⟩ ⟨rfl, rfl, rfl⟩ ⟨rfl, rfl, .inl rfl⟩ rfl (by decide)
  (v1 := .pointer (some ⟨g1, 5, none⟩)) (v3 := .pointer (some ⟨g2, 5, none⟩)) (u1 := .string x.t) (u3 := .string y.t)
  (fun A H => by generalize A.eval = ρ at H ⊢; unfold execOp; go_simp) (fun A H => by have c : V4.cell? ⟨g1, 5, none⟩ = some (.string x.t) := hb1.cell 5; generalize A.eval = ρ at H ⊢; unfold execOp; go_simp) (fun A H => by generalize A.eval = ρ at H ⊢; unfold execOp; go_simp) (fun A H => by have c : V4.cell? ⟨g2, 5, none⟩ = some (.string y.t) := hb2.cell 5; generalize A.eval = ρ at H ⊢; unfold execOp; go_simp)
  (fun A K H1 H2 hk => wp_val (by unfold execOp; simp only [H1, H2, Sem.run_bind, eql_str, Sem.run_pure]; try rfl) (hk _ (Below.refl _ _))) ?_
 clear hc
 intro A1 V5 hbw hc
 replace hb1 := hb1.below hbw
 replace hb2 := hb2.below hbw
 replace hw := hw.trans (hbw.mono hw.size)
 clear hbw
 refine ch_block (n := 143) (gi := 40) (k := 45) (d1 := 46) (d2 := 47) (d3 := 48) (d4 := 49) (d5 := 50) (d6 := 51) (d7 := 52) (e := decide (x.b = y.b)) hc ⟨rfl, rfl⟩ ⟨rfl, rfl⟩ ⟨rfl, rfl⟩ ⟨rfl, rfl⟩ ⟨rfl, rfl⟩ ⟨rfl, rfl, rfl⟩ ⟨rfl, rfl, .inl rfl⟩ rfl (by decide)
  (v1 := .pointer (some ⟨g1, 6, none⟩)) (v3 := .pointer (some ⟨g2, 6, none⟩)) (u1 := .string x.b) (u3 := .string y.b)
  (fun A H => by generalize A.eval = ρ at H ⊢; unfold execOp; go_simp) (fun A H => by have c : V5.cell? ⟨g1, 6, none⟩ = some (.string x.b) := hb1.cell 6; generalize A.eval = ρ at H ⊢; unfold execOp; go_simp) (fun A H => by generalize A.eval = ρ at H ⊢; unfold execOp; go_simp) (fun A H => by have c : V5.cell? ⟨g2, 6, none⟩ = some (.string y.b) := hb2.cell 6; generalize A.eval = ρ at H ⊢; unfold execOp; go_simp)
  (fun A K H1 H2 hk => wp_val (by unfold execOp; simp only [H1, H2, Sem.run_bind, eql_str, Sem.run_pure]; try rfl) (hk _ (Below.refl _ _))) ?_
 clear hc
 intro A1 V6 hbw hc
 replace hb1 := hb1.below hbw
 replace hb2 := hb2.below hbw
 replace hw := hw.trans (hbw.mono hw.size)
 clear hbw
 refine ch_block (n := 143) (gi := 47) (k := 52) (d1 := 53) (d2 := 54) (d3 := 55) (d4 := 56) (d5 := 57) (d6 := 58) (d7 := 59) (e := decide (x.re = y.re)) hc ⟨rfl, rfl⟩ ⟨rfl, rfl⟩ ⟨rfl, rfl⟩ ⟨rfl, rfl⟩ ⟨rfl, rfl⟩ ⟨rfl, rfl, rfl⟩ ⟨rfl, rfl, .inl rfl⟩ rfl (by decide)
  (v1 := .pointer (some ⟨g1, 7, none⟩)) (v3 := .pointer (some ⟨g2, 7, none⟩)) (u1 := .int .i64 x.re) (u3 := .int .i64 y.re)
  (fun A H => by generalize A.eval = ρ at H ⊢; unfold execOp; go_simp) (fun A H => by have c : V6.cell? ⟨g1, 7, none⟩ = some (.int .i64 x.re) := hb1.cell 7; generalize A.eval = ρ at H ⊢; unfold execOp; go_simp) (fun A H => by generalize A.eval = ρ at H ⊢; unfold execOp; go_simp) (fun A H => by have c : V6.cell? ⟨g2, 7, none⟩ = some (.int .i64 y.re) := hb2.cell 7; generalize A.eval = ρ at H ⊢; unfold execOp; go_simp)
  (fun A K H1 H2 hk => wp_val (by unfold execOp; simp only [H1, H2, Sem.run_bind, eql_int, Sem.run_pure]; try rfl) (hk _ (Below.refl _ _))) ?_
 clear hc
 intro A1 V7 hbw hc
 replace hb1 := hb1.below hbw
 replace hb2 := hb2.below hbw
 replace hw := hw.trans (hbw.mono hw.size)
 clear hbw
 refine ch_block (n := 143) (gi := 54) (k := 59) (d1 := 60) (d2 := 61) (d3 := 62) (d4 := 63) (d5 := 64) (d6 := 65) (d7 := 66) (e := decide (x.pre = y.pre)) hc ⟨rfl, rfl⟩ ⟨rfl, rfl⟩ ⟨rfl, rfl⟩ ⟨rfl, rfl⟩ ⟨rfl, rfl⟩ ⟨rfl, rfl, rfl⟩ ⟨rfl, rfl, .inl rfl⟩ rfl (by decide)
  (v1 := .pointer (some ⟨g1, 8, none⟩)) (v3 := .pointer (some ⟨g2, 8, none⟩)) (u1 := .bool x.pre) (u3 := .bool y.pre)
  (fun A H => by generalize A.eval = ρ at H ⊢; unfold execOp; go_simp) (fun A H => by have c : V7.cell? ⟨g1, 8, none⟩ = some (.bool x.pre) := hb1.cell 8; generalize A.eval = ρ at H ⊢; unfold execOp; go_simp) (fun A H => by generalize A.eval = ρ at H ⊢; unfold execOp; go_simp) (fun A H => by have c : V7.cell? ⟨g2, 8, none⟩ = some (.bool y.pre) := hb2.cell 8; generalize A.eval = ρ at H ⊢; unfold execOp; go_simp)
  (fun A K H1 H2 hk => wp_val (by unfold execOp; simp only [H1, H2, Sem.run_bind, eql_bool, Sem.run_pure]; try rfl) (hk _ (Below.refl _ _))) ?_
 clear hc
 intro A1 V8 hbw hc
 replace hb1 := hb1.below hbw
 replace hb2 := hb2.below hbw
 replace hw := hw.trans (hbw.mono hw.size)
 clear hbw
 refine ch_block (n := 143) (gi := 61) (k := 66) (d1 := 67) (d2 := 68) (d3 := 69) (d4 := 70) (d5 := 71) (d6 := 72) (d7 := 73) (e := decide (x.cs.length = y.cs.length)) hc ⟨rfl, rfl⟩ ⟨rfl, rfl⟩ ⟨rfl, rfl⟩ ⟨rfl, rfl⟩ ⟨rfl, rfl⟩ ⟨rfl, rfl, rfl⟩ ⟨rfl, rfl, .inl rfl⟩ rfl (by decide)
  (v1 := .pointer (some ⟨g1, 9, none⟩)) (v3 := .pointer (some ⟨g2, 9, none⟩)) (u1 := .slice a.ca x.cs.length a.cc) (u3 := .slice a'.ca y.cs.length a'.cc)
  (fun A H => by generalize A.eval = ρ at H ⊢; unfold execOp; go_simp) (fun A H => by have c : V8.cell? ⟨g1, 9, none⟩ = some (.slice a.ca x.cs.length a.cc) := hb1.cell 9; generalize A.eval = ρ at H ⊢; unfold execOp; go_simp) (fun A H => by generalize A.eval = ρ at H ⊢; unfold execOp; go_simp) (fun A H => by have c : V8.cell? ⟨g2, 9, none⟩ = some (.slice a'.ca y.cs.length a'.cc) := hb2.cell 9; generalize A.eval = ρ at H ⊢; unfold execOp; go_simp)
  (fun A K H1 H2 hk => wp_call 71 57 #[.slice a.ca x.cs.length a.cc, .slice a'.ca y.cs.length a'.cc] _ (fun w' => Below V8.heap.size V8 w') rfl (by have hf : A.eval (.func 57) = .func (.func 57) #[] #[] := rfl; generalize A.eval = ρ at H1 H2 hf ⊢; unfold execOp; go_simp) (HN V8 hw) hk) ?_
 clear hc
 intro A1 V9 hbw hc
 replace hb1 := hb1.below hbw
 replace hb2 := hb2.below hbw
 replace hw := hw.trans (hbw.mono hw.size)
 clear hbw
 refine ch_block (n := 143) (gi := 68) (k := 73) (d1 := 74) (d2 := 75) (d3 := 76) (d4 := 77) (d5 := 78) (d6 := 79) (d7 := 80) (e := decide (x.fs.length = y.fs.length)) hc ⟨rfl, rfl⟩ ⟨rfl, rfl⟩ ⟨rfl, rfl⟩ ⟨rfl, rfl⟩ ⟨rfl, rfl⟩ ⟨rfl, rfl, rfl⟩ ⟨rfl, rfl, .inl rfl⟩ rfl (by decide)
  (v1 := .pointer (some ⟨g1, 10, none⟩)) (v3 := .pointer (some ⟨g2, 10, none⟩)) (u1 := .slice a.fa x.fs.length a.fc) (u3 := .slice a'.fa y.fs.length a'.fc)
  (fun A H => by generalize A.eval = ρ at H ⊢; unfold execOp; go_simp) (fun A H => by have c : V9.cell? ⟨g1, 10, none⟩ = some (.slice a.fa x.fs.length a.fc) := hb1.cell 10; generalize A.eval = ρ at H ⊢; unfold execOp; go_simp) (fun A H => by generalize A.eval = ρ at H ⊢; unfold execOp; go_simp) (fun A H => by have c : V9.cell? ⟨g2, 10, none⟩ = some (.slice a'.fa y.fs.length a'.fc) := hb2.cell 10; generalize A.eval = ρ at H ⊢; unfold execOp; go_simp)
  (fun A K H1 H2 hk => wp_call 78 58 #[.slice a.fa x.fs.length a.fc, .slice a'.fa y.fs.length a'.fc] _ (fun w' => Below V9.heap.size V9 w') rfl (by have hf : A.eval (.func 58) = .func (.func 58) #[] #[] := rfl; generalize A.eval = ρ at H1 H2 hf ⊢; unfold execOp; go_simp) (HF V9 hw) hk) ?_
 clear hc
 intro A1 V10 hbw hc
 replace hb1 := hb1.below hbw
 replace hb2 := hb2.below hbw
 replace hw := hw.trans (hbw.mono hw.size)
 clear hbw
 refine ch_block (n := 143) (gi := 75) (k := 80) (d1 := 81) (d2 := 82) (d3 := 83) (d4 := 84) (d5 := 85) (d6 := 86) (d7 := 87) (e := decide (x.cl = y.cl)) hc ⟨rfl, rfl⟩ ⟨rfl, rfl⟩ ⟨rfl, rfl⟩ ⟨rfl, rfl⟩ ⟨rfl, rfl⟩ ⟨rfl, rfl, rfl⟩ ⟨rfl, rfl, .inl rfl⟩ rfl (by decide)
  (v1 := .pointer (some ⟨g1, 11, none⟩)) (v3 := .pointer (some ⟨g2, 11, none⟩)) (u1 := .string x.cl) (u3 := .string y.cl)
  (fun A H => by generalize A.eval = ρ at H ⊢; unfold execOp; go_simp) (fun A H => by have c : V10.cell? ⟨g1, 11, none⟩ = some (.string x.cl) := hb1.cell 11; generalize A.eval = ρ at H ⊢; unfold execOp; go_simp) (fun A H => by generalize A.eval = ρ at H ⊢; unfold execOp; go_simp) (fun A H => by have c : V10.cell? ⟨g2, 11, none⟩ = some (.string y.cl) := hb2.cell 11; generalize A.eval = ρ at H ⊢; unfold execOp; go_simp)
  (fun A K H1 H2 hk => wp_val (by unfold execOp; simp only [H1, H2, Sem.run_bind, eql_str, Sem.run_pure]; try rfl) (hk _ (Below.refl _ _))) ?_
 clear hc
 intro A1 V11 hbw hc
 replace hb1 := hb1.below hbw
 replace hb2 := hb2.below hbw
 replace hw := hw.trans (hbw.mono hw.size)
 clear hbw
 refine ch_block (n := 143) (gi := 82) (k := 87) (d1 := 88) (d2 := 89) (d3 := 90) (d4 := 91) (d5 := 92) (d6 := 93) (d7 := 94) (e := decide (x.clean = y.clean)) hc ⟨rfl, rfl⟩ ⟨rfl, rfl⟩ ⟨rfl, rfl⟩ ⟨rfl, rfl⟩ ⟨rfl, rfl⟩ ⟨rfl, rfl, rfl⟩ ⟨rfl, rfl, .inl rfl⟩ rfl (by decide)
  (v1 := .pointer (some ⟨g1, 12, none⟩)) (v3 := .pointer (some ⟨g2, 12, none⟩)) (u1 := .bool x.clean) (u3 := .bool y.clean)
  (fun A H => by generalize A.eval = ρ at H ⊢; unfold execOp; go_simp) (fun A H => by have c : V11.cell? ⟨g1, 12, none⟩ = some (.bool x.clean) := hb1.cell 12; generalize A.eval = ρ at H ⊢; unfold execOp; go_simp) (fun A H => by generalize A.eval = ρ at H ⊢; unfold execOp; go_simp) (fun A H => by have c : V11.cell? ⟨g2, 12, none⟩ = some (.bool y.clean) := hb2.cell 12; generalize A.eval = ρ at H ⊢; unfold execOp; go_simp)
  (fun A K H1 H2 hk => wp_val (by unfold execOp; simp only [H1, H2, Sem.run_bind, eql_bool, Sem.run_pure]; try rfl) (hk _ (Below.refl _ _))) ?_
 clear hc
 intro A1 V12 hbw hc
 replace hb1 := hb1.below hbw
 replace hb2 := hb2.below hbw
 replace hw := hw.trans (hbw.mono hw.size)
 clear hbw
 refine ch_block (n := 143) (gi := 89) (k := 94) (d1 := 95) (d2 := 96) (d3 := 97) (d4 := 98) (d5 := 99) (d6 := 100) (d7 := 101) (e := decide (x.keep = y.keep)) hc ⟨rfl, rfl⟩ ⟨rfl, rfl⟩ ⟨rfl, rfl⟩ ⟨rfl, rfl⟩ ⟨rfl, rfl⟩ ⟨rfl, rfl, rfl⟩ ⟨rfl, rfl, .inl rfl⟩ rfl (by decide)
  (v1 := .pointer (some ⟨g1, 13, none⟩)) (v3 := .pointer (some ⟨g2, 13, none⟩)) (u1 := .int .i64 x.keep) (u3 := .int .i64 y.keep)
  (fun A H => by generalize A.eval = ρ at H ⊢; unfold execOp; go_simp) (fun A H => by have c : V12.cell? ⟨g1, 13, none⟩ = some (.int .i64 x.keep) := hb1.cell 13; generalize A.eval = ρ at H ⊢; unfold execOp; go_simp) (fun A H => by generalize A.eval = ρ at H ⊢; unfold execOp; go_simp) (fun A H => by have c : V12.cell? ⟨g2, 13, none⟩ = some (.int .i64 y.keep) := hb2.cell 13; generalize A.eval = ρ at H ⊢; unfold execOp; go_simp)
  (fun A K H1 H2 hk => wp_val (by unfold execOp; simp only [H1, H2, Sem.run_bind, eql_int, Sem.run_pure]; try rfl) (hk _ (Below.refl _ _))) ?_
 clear hc
 intro A1 V13 hbw hc
 replace hb1 := hb1.below hbw
 replace hb2 := hb2.below hbw
 replace hw := hw.trans (hbw.mono hw.size)
 clear hbw
 refine ch_block (n := 143) (gi := 96) (k := 101) (d1 := 102) (d2 := 103) (d3 := 104) (d4 := 105) (d5 := 106) (d6 := 107) (d7 := 108) (e := eqW x.w y.w) hc ⟨rfl, rfl⟩ ⟨rfl, rfl⟩ ⟨rfl, rfl⟩ ⟨rfl, rfl⟩ ⟨rfl, rfl⟩ ⟨rfl, rfl, rfl⟩ ⟨rfl, rfl, .inl rfl⟩ rfl (by decide)
  (v1 := .pointer (some ⟨g1, 14, none⟩)) (v3 := .pointer (some ⟨g2, 14, none⟩)) (u1 := .agg (wlArr x.w a.wa a.wc)) (u3 := .agg (wlArr y.w a'.wa a'.wc))
  (fun A H => by generalize A.eval = ρ at H ⊢; unfold execOp; go_simp) (fun A H => exec_load rfl H (load_wl hb1)) (fun A H => by generalize A.eval = ρ at H ⊢; unfold execOp; go_simp) (fun A H => exec_load rfl H (load_wl hb2))
  (fun A K H1 H2 hk => wp_call 106 51 #[.agg (wlArr x.w a.wa a.wc), .agg (wlArr y.w a'.wa a'.wc)] _ (fun w' => Below V13.heap.size V13 w') rfl (by have hf : A.eval (.func 51) = .func (.func 51) #[] #[] := rfl; generalize A.eval = ρ at H1 H2 hf ⊢; unfold execOp; go_simp) (HW V13 hw) hk) ?_
 clear hc
 intro A1 V14 hbw hc
 replace hb1 := hb1.below hbw
 replace hb2 := hb2.below hbw
 replace hw := hw.trans (hbw.mono hw.size)
 clear hbw
 refine ch_block (n := 143) (gi := 103) (k := 108) (d1 := 109) (d2 := 110) (d3 := 111) (d4 := 112) (d5 := 113) (d6 := 114) (d7 := 115) (e := decide (x.hu = y.hu)) hc ⟨rfl, rfl⟩ ⟨rfl, rfl⟩ ⟨rfl, rfl⟩ ⟨rfl, rfl⟩ ⟨rfl, rfl⟩ ⟨rfl, rfl, rfl⟩ ⟨rfl, rfl, .inl rfl⟩ rfl (by decide)
  (v1 := .pointer (some ⟨g1, 20, none⟩)) (v3 := .pointer (some ⟨g2, 20, none⟩)) (u1 := .bool x.hu) (u3 := .bool y.hu)
  (fun A H => by generalize A.eval = ρ at H ⊢; unfold execOp; go_simp) (fun A H => by have c : V14.cell? ⟨g1, 20, none⟩ = some (.bool x.hu) := hb1.cell 20; generalize A.eval = ρ at H ⊢; unfold execOp; go_simp) (fun A H => by generalize A.eval = ρ at H ⊢; unfold execOp; go_simp) (fun A H => by have c : V14.cell? ⟨g2, 20, none⟩ = some (.bool y.hu) := hb2.cell 20; generalize A.eval = ρ at H ⊢; unfold execOp; go_simp)
  (fun A K H1 H2 hk => wp_val (by unfold execOp; simp only [H1, H2, Sem.run_bind, eql_bool, Sem.run_pure]; try rfl) (hk _ (Below.refl _ _))) ?_
 clear hc
 intro A1 V15 hbw hc
 replace hb1 := hb1.below hbw
 replace hb2 := hb2.below hbw
 replace hw := hw.trans (hbw.mono hw.size)
 clear hbw
 refine ch_block (n := 143) (gi := 110) (k := 115) (d1 := 116) (d2 := 117) (d3 := 118) (d4 := 119) (d5 := 120) (d6 := 121) (d7 := 122) (e := decide (x.u = y.u)) hc ⟨rfl, rfl⟩ ⟨rfl, rfl⟩ ⟨rfl, rfl⟩ ⟨rfl, rfl⟩ ⟨rfl, rfl⟩ ⟨rfl, rfl, rfl⟩ ⟨rfl, rfl, .inl rfl⟩ rfl (by decide)
  (v1 := .pointer (some ⟨g1, 21, none⟩)) (v3 := .pointer (some ⟨g2, 21, none⟩)) (u1 := .string x.u) (u3 := .string y.u)
  (fun A H => by generalize A.eval = ρ at H ⊢; unfold execOp; go_simp) (fun A H => by have c : V15.cell? ⟨g1, 21, none⟩ = some (.string x.u) := hb1.cell 21; generalize A.eval = ρ at H ⊢; unfold execOp; go_simp) (fun A H => by generalize A.eval = ρ at H ⊢; unfold execOp; go_simp) (fun A H => by have c : V15.cell? ⟨g2, 21, none⟩ = some (.string y.u) := hb2.cell 21; generalize A.eval = ρ at H ⊢; unfold execOp; go_simp)
  (fun A K H1 H2 hk => wp_val (by unfold execOp; simp only [H1, H2, Sem.run_bind, eql_str, Sem.run_pure]; try rfl) (hk _ (Below.refl _ _))) ?_
 clear hc
 intro A1 V16 hbw hc
 replace hb1 := hb1.below hbw
 replace hb2 := hb2.below hbw
 replace hw := hw.trans (hbw.mono hw.size)
 clear hbw
 refine ch_block (n := 143) (gi := 117) (k := 122) (d1 := 123) (d2 := 124) (d3 := 125) (d4 := 126) (d5 := 127) (d6 := 128) (d7 := 129) (e := decide (x.hp = y.hp)) hc ⟨rfl, rfl⟩ ⟨rfl, rfl⟩ ⟨rfl, rfl⟩ ⟨rfl, rfl⟩ ⟨rfl, rfl⟩ ⟨rfl, rfl, rfl⟩ ⟨rfl, rfl, .inl rfl⟩ rfl (by decide)
  (v1 := .pointer (some ⟨g1, 22, none⟩)) (v3 := .pointer (some ⟨g2, 22, none⟩)) (u1 := .bool x.hp) (u3 := .bool y.hp)
  (fun A H => by generalize A.eval = ρ at H ⊢; unfold execOp; go_simp) (fun A H => by have c : V16.cell? ⟨g1, 22, none⟩ = some (.bool x.hp) := hb1.cell 22; generalize A.eval = ρ at H ⊢; unfold execOp; go_simp) (fun A H => by generalize A.eval = ρ at H ⊢; unfold execOp; go_simp) (fun A H => by have c : V16.cell? ⟨g2, 22, none⟩ = some (.bool y.hp) := hb2.cell 22; generalize A.eval = ρ at H ⊢; unfold execOp; go_simp)
  (fun A K H1 H2 hk => wp_val (by unfold execOp; simp only [H1, H2, Sem.run_bind, eql_bool, Sem.run_pure]; try rfl) (hk _ (Below.refl _ _))) ?_
 clear hc
 intro A1 V17 hbw hc
 replace hb1 := hb1.below hbw
 replace hb2 := hb2.below hbw
 replace hw := hw.trans (hbw.mono hw.size)
 clear hbw
 refine ch_block (n := 143) (gi := 124) (k := 129) (d1 := 130) (d2 := 131) (d3 := 132) (d4 := 133) (d5 := 134) (d6 := 135) (d7 := 136) (e := decide (x.pw = y.pw)) hc ⟨rfl, rfl⟩ ⟨rfl, rfl⟩ ⟨rfl, rfl⟩ ⟨rfl, rfl⟩ ⟨rfl, rfl⟩ ⟨rfl, rfl, rfl⟩ ⟨rfl, rfl, .inl rfl⟩ rfl (by decide)
  (v1 := .pointer (some ⟨g1, 23, none⟩)) (v3 := .pointer (some ⟨g2, 23, none⟩)) (u1 := .string x.pw) (u3 := .string y.pw)
  (fun A H => by generalize A.eval = ρ at H ⊢; unfold execOp; go_simp) (fun A H => by have c : V17.cell? ⟨g1, 23, none⟩ = some (.string x.pw) := hb1.cell 23; generalize A.eval = ρ at H ⊢; unfold execOp; go_simp) (fun A H => by generalize A.eval = ρ at H ⊢; unfold execOp; go_simp) (fun A H => by have c : V17.cell? ⟨g2, 23, none⟩ = some (.string y.pw) := hb2.cell 23; generalize A.eval = ρ at H ⊢; unfold execOp; go_simp)
  (fun A K H1 H2 hk => wp_val (by unfold execOp; simp only [H1, H2, Sem.run_bind, eql_str, Sem.run_pure]; try rfl) (hk _ (Below.refl _ _))) ?_
 clear hc
 intro A1 V18 hbw hc
 replace hb1 := hb1.below hbw
 replace hb2 := hb2.below hbw
 replace hw := hw.trans (hbw.mono hw.size)
 clear hbw
 refine ch_block (n := 143) (gi := 131) (k := 136) (d1 := 137) (d2 := 138) (d3 := 139) (d4 := 140) (d5 := 141) (d6 := 142) (d7 := 4) (e := decide (x.ps.length = y.ps.length)) hc ⟨rfl, rfl⟩ ⟨rfl, rfl⟩ ⟨rfl, rfl⟩ ⟨rfl, rfl⟩ ⟨rfl, rfl⟩ ⟨rfl, rfl, rfl⟩ ⟨rfl, rfl, .inr rfl⟩ rfl (by decide)
  (v1 := .pointer (some ⟨g1, 24, none⟩)) (v3 := .pointer (some ⟨g2, 24, none⟩)) (u1 := .slice a.pa x.ps.length a.pc) (u3 := .slice a'.pa y.ps.length a'.pc)
  (fun A H => by generalize A.eval = ρ at H ⊢; unfold execOp; go_simp) (fun A H => by have c : V18.cell? ⟨g1, 24, none⟩ = some (.slice a.pa x.ps.length a.pc) := hb1.cell 24; generalize A.eval = ρ at H ⊢; unfold execOp; go_simp) (fun A H => by generalize A.eval = ρ at H ⊢; unfold execOp; go_simp) (fun A H => by have c : V18.cell? ⟨g2, 24, none⟩ = some (.slice a'.pa y.ps.length a'.pc) := hb2.cell 24; generalize A.eval = ρ at H ⊢; unfold execOp; go_simp)
  (fun A K H1 H2 hk => wp_call 141 59 #[.slice a.pa x.ps.length a.pc, .slice a'.pa y.ps.length a'.pc] _ (fun w' => Below V18.heap.size V18 w') rfl (by have hf : A.eval (.func 59) = .func (.func 59) #[] #[] := rfl; generalize A.eval = ρ at H1 H2 hf ⊢; unfold execOp; go_simp) (HP V18 hw) hk) ?_
 clear hc
 intro A1 V19 hbw hc
 replace hb1 := hb1.below hbw
 replace hb2 := hb2.below hbw
 replace hw := hw.trans (hbw.mono hw.size)
 clear hbw
 refine wpList_nil ?_
 refine hK _ _ ?_
 have h4 := hc.pk
 have hr4 := HR.out
 unfold eqP at hr4
 rw [hr4] at h4
 have hd4 := hc.df
 clear hc
 go_wp2_with fail
 exact bodyPost_ret (v := .bool r) (by simp [results, Tryz.results26, h4]) hd4 ⟨rfl, hw⟩
theorem fit_len {p : Pk} {a : Ad} (h : PkFit p a) : PkLen p := ⟨h.cl1.1, h.fl1.1, h.wl1.1, h.pl1.1⟩
open Go.RowKit Go.Lib Prp Pkt Vbi
def lgR (t : Bool) (s : ByteArray) (e : Int) : ByteArray × ByteArray × Int := if ¬ e = 0 then (⟨#[]⟩, s, e) else if (tl t s).2.2 = 0 then ((tl t s).1, s.extract (tl t s).2.1.toNat s.size, 0) else (⟨#[]⟩, s, inn (tl t s).2.2)
theorem rdlong_is (g : Nat) (t : Bool) (s T s' : ByteArray) (e e' : Int) (w : World) (hs : s.size ≤ 281474976710656) (h : Rd w g s e) (hr : lgR t s e = (T, s', e')) :
  Calls Tryz.prog 133 #[.pointer (some ⟨g, 0, none⟩), .bool t] w fun r w' => r = .returned (.string T) ∧ Rd w' g s' e' ∧ Bar g w w' := by
 have hg := h.lt
 have c0 := h.cell 0
 have c1 := h.cell 1
 have H := Lib.hid h
 clear h
 unfold lgR at hr
 by_cases he : e = 0
 ·rw [if_neg (not_not_intro he)] at hr
  subst he
  by_cases hl : (tl t s).2.2 = 0
  ·rw [if_pos hl] at hr
   obtain ⟨m, k1, k2, -⟩ := tl_took hl
   obtain ⟨S, K, E, hT⟩ : ∃ S K E, tl t s = (S, K, E) := ⟨_, _, _, rfl⟩
   rw [hT] at hl hr k1
   obtain rfl : E = 0 := hl
   obtain rfl : K = ((2 + m : Nat) : Int) := k1
   injection hr with r1 r2
   injection r2 with r2 r3
   subst r1 r3
   obtain ⟨k, hk⟩ : ∃ k, 2 + m = k := ⟨_, rfl⟩
   rw [hk] at hT k2 r2
   have HT := Lib.hid (fun W => RTakeLong_is t s S (k : Int) 0 W hs hT)
   have HE := Lib.hid r2
   clear hT r2 hk
   have hI : (k : Int) ≤ (s.size : Int) := by omega
   go_enter Tryz.func133, Tryz.ntmps133
   go_wp2_with (go_at_call 156; refine (HT.out _).mono ?_; rintro r w1 ⟨rfl, hb⟩; have H1 : Hid (Rd w1 g s 0) := Lib.hid (Box.below H.out hb); have HB := Lib.hid hb; clear hb c0 c1; have c0 := H1.out.cell 0; have f0 := H1.out.frozen 0)
   go_ret
   exact ⟨rfl, by rw [← HE.out]; exact H1.out.put0 _, (Bar.of g HB.out).trans (Bar.set g _ 0 _)⟩
  ·rw [if_neg hl] at hr
   obtain ⟨S, K, E, hT⟩ : ∃ S K E, tl t s = (S, K, E) := ⟨_, _, _, rfl⟩
   rw [hT] at hl hr
   have hE : ¬ E = 0 := hl
   injection hr with r1 r2
   injection r2 with r2 r3
   subst r1 r2
   have HT := Lib.hid (fun W => RTakeLong_is t s S K E W hs hT)
   have HI := Lib.hid (fun W => inner_is E e' W r3)
   clear hT r3 hl
   have hEb := ne_false hE
   go_enter Tryz.func133, Tryz.ntmps133
   go_wp2_with (go_at_call 156; refine (HT.out _).mono ?_; rintro r w1 ⟨rfl, hb⟩; have H1 : Hid (Rd w1 g s 0) := Lib.hid (Box.below H.out hb); have HB := Lib.hid hb; clear hb c0 c1; have c1 := H1.out.cell 1; have f1 := H1.out.frozen 1)
   refine (HI.out _).mono ?_
   rintro r w2 ⟨rfl, rfl⟩
   go_wp2_with fail
   go_ret
   exact ⟨rfl, H1.out.put1 _, (Bar.of g HB.out).trans (Bar.set g _ 1 _)⟩
 ·rw [if_pos he] at hr
  injection hr with r1 r2
  injection r2 with r2 r3
  subst r1 r2 r3
  go_enter Tryz.func133, Tryz.ntmps133
  go_wp2_with fail
  go_ret
  exact ⟨rfl, H.out, Bar.refl _ _⟩
open Go.RowKit Go.Lib Prp Pkt Vbi
def psR (place : Int) (s : ByteArray) (e : Int) : List P × ByteArray × Int := if ¬ e = 0 then ([], s, e) else if (takeP place s).2.2 = 0 then ((takeP place s).1, s.extract (takeP place s).2.1.toNat s.size, 0) else ([], s, inn (takeP place s).2.2)
theorem props_is (g : Nat) (place : Int) (s s' : ByteArray) (e e' : Int) (L : List P) (w : World) (hx : placeB place = true) (hs : s.size ≤ 281474976710656) (h : Rd w g s e) (hr : psR place s e = (L, s', e')) :
  Calls Tryz.prog 132 #[.pointer (some ⟨g, 0, none⟩), .int .i64 place] w (GivesNew L g s' e' w) := by
 have hg := h.lt
 have c0 := h.cell 0
 have c1 := h.cell 1
 have H := Lib.hid h
 clear h
 unfold psR at hr
 by_cases he : e = 0
 ·rw [if_neg (not_not_intro he)] at hr
  subst he
  by_cases hl : (takeP place s).2.2 = 0
  ·rw [if_pos hl] at hr
   obtain ⟨k, hk, hks⟩ : ∃ k : Nat, (takeP place s).2.1 = (k : Int) ∧ k ≤ s.size := by
    rcases takeP_cases s hx with ⟨E, _, hE, e⟩ | ⟨m, q, _, _, _, _, e⟩ | ⟨m, q, E, _, _, _, _, _, hE, e⟩ | ⟨m, q, L', _, _, _, h7, _, e⟩
    ·rw [e] at hl; exact absurd hl hE
    ·rw [e] at hl; cases hl
    ·rw [e] at hl; exact absurd hl hE
    ·rw [e]; exact ⟨q + m, rfl, h7⟩
   obtain ⟨S, K, E, hT⟩ : ∃ S K E, takeP place s = (S, K, E) := ⟨_, _, _, rfl⟩
   rw [hT] at hl hr hk
   obtain rfl : E = 0 := hl
   obtain rfl : K = (k : Int) := hk
   injection hr with r1 r2
   injection r2 with r2 r3
   subst r1 r3
   have HT := Lib.hid (fun W => RTakeProps_is place s S (k : Int) 0 W hs hx hT)
   have HE := Lib.hid r2
   clear hT r2 hx
   have hI : (k : Int) ≤ (s.size : Int) := by omega
   go_enter Tryz.func132, Tryz.ntmps132
   go_wp2_with (go_at_call 154; refine (HT.out _).mono ?_; rintro r w1 ⟨A, c, rfl, hta⟩; have hown := hta.out.1; have hb := hta.out.2; have H1 : Hid (Rd w1 g s 0) := Lib.hid (Box.below H.out hb); have HB := Lib.hid hb; have HO := Lib.hid hown; clear hta hown hb c0 c1; have c0 := H1.out.cell 0; have f0 := H1.out.frozen 0)
   go_ret
   refine ⟨A, c, rfl, own_room HO.out, own_new HO.out, ?_, by rw [← HE.out]; exact H1.out.put0 _, (Bar.of g HB.out).trans (Bar.set g _ 0 _)⟩
   exact (props_bar (PropsAt.of_own HO.out) (Nat.le_refl _) ((own_new HO.out).off hg) (Bar.set g _ 0 _)).mono (Bar.set g _ 0 _).size
  ·rw [if_neg hl] at hr
   obtain ⟨S, K, E, hT⟩ : ∃ S K E, takeP place s = (S, K, E) := ⟨_, _, _, rfl⟩
   rw [hT] at hl hr
   have hE : ¬ E = 0 := hl
   injection hr with r1 r2
   injection r2 with r2 r3
   subst r1 r2
   have HT := Lib.hid (fun W => RTakeProps_is place s S K E W hs hx hT)
   have HI := Lib.hid (fun W => inner_is E e' W r3)
   clear hT r3 hl hx
   have hEb := ne_false hE
   go_enter Tryz.func132, Tryz.ntmps132
   go_wp2_with (go_at_call 154; refine (HT.out _).mono ?_; rintro r w1 ⟨A, c, rfl, hta⟩; have hb := hta.out.2; have H1 : Hid (Rd w1 g s 0) := Lib.hid (Box.below H.out hb); have HB := Lib.hid hb; clear hta hb c0 c1; have c1 := H1.out.cell 1; have f1 := H1.out.frozen 1)
   refine (HI.out _).mono ?_
   rintro r w2 ⟨rfl, rfl⟩
   go_wp2_with fail
   go_ret
   exact ⟨none, 0, rfl, Nat.le_refl _, .none_ _, .inl rfl, H1.out.put1 _, (Bar.of g HB.out).trans (Bar.set g _ 1 _)⟩
 ·rw [if_pos he] at hr
  injection hr with r1 r2
  injection r2 with r2 r3
  subst r1 r2 r3
  go_enter Tryz.func132, Tryz.ntmps132
  go_wp2_with fail
  go_ret
  exact ⟨none, 0, rfl, Nat.le_refl _, .none_ _, .inl rfl, H.out, Bar.refl _ _⟩
theorem want_st (g : Nat) (st : St) (b : Bool) (x : Int) (w : World) (hx : x ≠ 0) (h : RdOf false w g st) :
  Calls Tryz.prog 131 #[.pointer (some ⟨g, 0, none⟩), .bool b, .int .i64 x] w fun r w' => r = .returned (.tuple #[]) ∧ RdOf false w' g (st.want b x) ∧ Bar g w w' := by
 cases st with
 | ok s =>
  refine (want_is g s 0 x b w h.1).mono ?_
  rintro r w' ⟨rfl, h1, h2⟩
  refine ⟨rfl, ?_, h2⟩
  cases b with
  | true => exact ⟨h1, h.2⟩
  | false => exact ⟨hx, s, h1, h.2, fun e => by cases e⟩
 | bad e =>
  obtain ⟨h0, s, h1, h2, h3⟩ := h
  refine (want_is g s e x b w h1).mono ?_
  rintro r w' ⟨rfl, k1, k2⟩
  refine ⟨rfl, ⟨h0, s, ?_, h2, h3⟩, k2⟩
  have : wantE e b x = e := by unfold wantE firstE; rw [if_neg h0]; split <;> rfl
  rw [this] at k1
  exact k1
theorem fixed_st (g wd : Nat) (st : St) (w : World) (hw : wd ≤ 4) (h : RdOf false w g st) :
  Calls Tryz.prog 130 #[.pointer (some ⟨g, 0, none⟩), .int .i64 (wd : Int)] w fun r w' => r = .returned (.int .i64 ((st.run (fixR wd)).val 0)) ∧ RdOf false w' g (st.run (fixR wd)).st ∧ Bar g w w' := by
 cases st with
 | ok s =>
  have hs := h.2
  rw [run_ok]
  have e0 : fxR wd s 0 = if s.size < wd then (0, s, 8) else (tfVal wd s.data.toList, s.extract wd s.size, 0) := by unfold fxR; rw [if_neg (by omega)]
  by_cases hl : s.size < wd
  ·rw [if_pos hl] at e0
   have e1 : fixR wd s = .bad 8 := by unfold fixR; rw [if_pos hl]
   rw [e1]
   refine (fixed_is g wd s _ 0 _ _ w (by omega) hw h.1 e0).mono ?_
   rintro r w' ⟨rfl, k1, k2⟩
   exact ⟨rfl, ⟨by decide, s, k1, hs, fun e => by cases e⟩, k2⟩
  ·rw [if_neg hl] at e0
   have e1 : fixR wd s = .ok (fixVal (s.data.toList.take wd) : Nat) (s.extract wd s.size) := by unfold fixR; rw [if_neg hl]
   have e2 : tfVal wd s.data.toList = (fixVal (s.data.toList.take wd) : Nat) := by unfold tfVal; rw [if_neg (by rw [← Lib.size_eq]; exact hl)]
   rw [e1]
   rw [e2] at e0
   refine (fixed_is g wd s _ 0 _ _ w (by omega) hw h.1 e0).mono ?_
   rintro r w' ⟨rfl, k1, k2⟩
   exact ⟨rfl, ⟨k1, by rw [ByteArray.size_extract]; omega⟩, k2⟩
 | bad e =>
  obtain ⟨h0, s, h1, h2, h3⟩ := h
  refine (fixed_is g wd s s e 0 e w (by omega) hw h1 (by unfold fxR; rw [if_pos h0])).mono ?_
  rintro r w' ⟨rfl, k1, k2⟩
  exact ⟨rfl, ⟨h0, s, k1, h2, h3⟩, k2⟩
theorem long_st (g : Nat) (t : Bool) (st : St) (w : World) (h : RdOf false w g st) :
  Calls Tryz.prog 133 #[.pointer (some ⟨g, 0, none⟩), .bool t] w fun r w' => r = .returned (.string ((st.run (longR t)).val ⟨#[]⟩)) ∧ RdOf false w' g (st.run (longR t)).st ∧ Bar g w w' := by
 cases st with
 | ok s =>
  have hs := h.2
  rw [run_ok]
  by_cases hl : (tl t s).2.2 = 0
  ·have e0 : lgR t s 0 = ((tl t s).1, s.extract (tl t s).2.1.toNat s.size, 0) := by unfold lgR; rw [if_neg (by omega), if_pos hl]
   have e1 : longR t s = .ok (tl t s).1 (s.extract (tl t s).2.1.toNat s.size) := by unfold longR; rw [if_pos hl]
   rw [e1]
   refine (rdlong_is g t s _ _ 0 _ w (by omega) h.1 e0).mono ?_
   rintro r w' ⟨rfl, k1, k2⟩
   exact ⟨rfl, ⟨k1, by rw [ByteArray.size_extract]; omega⟩, k2⟩
  ·have e0 : lgR t s 0 = (⟨#[]⟩, s, inn (tl t s).2.2) := by unfold lgR; rw [if_neg (by omega), if_neg hl]
   have e1 : longR t s = .bad (inn (tl t s).2.2) := by unfold longR; rw [if_neg hl]
   rw [e1]
   refine (rdlong_is g t s _ _ 0 _ w (by omega) h.1 e0).mono ?_
   rintro r w' ⟨rfl, k1, k2⟩
   exact ⟨rfl, ⟨inn_ne hl, s, k1, hs, fun e => by cases e⟩, k2⟩
 | bad e =>
  obtain ⟨h0, s, h1, h2, h3⟩ := h
  refine (rdlong_is g t s ⟨#[]⟩ s e e w (by omega) h1 (by unfold lgR; rw [if_pos h0])).mono ?_
  rintro r w' ⟨rfl, k1, k2⟩
  exact ⟨rfl, ⟨h0, s, k1, h2, h3⟩, k2⟩
theorem props_st (g : Nat) (place : Int) (st : St) (w : World) (hx : placeB place = true) (h : RdOf false w g st) :
  Calls Tryz.prog 132 #[.pointer (some ⟨g, 0, none⟩), .int .i64 place] w (GivesSt false ((st.run (propsR place)).val []) g (st.run (propsR place)).st w) := by
 cases st with
 | ok s =>
  have hs := h.2
  rw [run_ok]
  by_cases hl : (takeP place s).2.2 = 0
  ·have e0 : psR place s 0 = ((takeP place s).1, s.extract (takeP place s).2.1.toNat s.size, 0) := by unfold psR; rw [if_neg (by omega), if_pos hl]
   have e1 : propsR place s = .ok (takeP place s).1 (s.extract (takeP place s).2.1.toNat s.size) := by unfold propsR; rw [if_pos hl]
   rw [e1]
   refine (props_is g place s _ 0 _ _ w hx (by omega) h.1 e0).mono ?_
   rintro r w' ⟨A, c, rfl, k1, k2, k3, k4, k5⟩
   exact ⟨A, c, rfl, k1, k2, k3, ⟨k4, by rw [ByteArray.size_extract]; omega⟩, k5⟩
  ·have e0 : psR place s 0 = ([], s, inn (takeP place s).2.2) := by unfold psR; rw [if_neg (by omega), if_neg hl]
   have e1 : propsR place s = .bad (inn (takeP place s).2.2) := by unfold propsR; rw [if_neg hl]
   rw [e1]
   refine (props_is g place s _ 0 _ _ w hx (by omega) h.1 e0).mono ?_
   rintro r w' ⟨A, c, rfl, k1, k2, k3, k4, k5⟩
   exact ⟨A, c, rfl, k1, k2, k3, ⟨inn_ne hl, s, k4, hs, fun e => by cases e⟩, k5⟩
 | bad e =>
  obtain ⟨h0, s, h1, h2, h3⟩ := h
  refine (props_is g place s s e e [] w hx (by omega) h1 (by unfold psR; rw [if_pos h0])).mono ?_
  rintro r w' ⟨A, c, rfl, k1, k2, k3, k4, k5⟩
  exact ⟨A, c, rfl, k1, k2, k3, ⟨h0, s, k4, h2, h3⟩, k5⟩
open Go.RowKit Go.Lib Prp Pkt Vbi
theorem goodP_eq (p : Pk) : goodP p = (mayP p && allOk (partsL p)) := rfl
open Go.RowKit Go.Lib Prp Pkt Vbi
@[irreducible] def KQ (w : World) (g : Nat) (p : Pk) (a : Ad) (h : Nat) (cs : Array Value) (W : World) : Prop := KP w g p a W ∧ Box W h cs
section
variable {w W W' : World} {g h : Nat} {p : Pk} {a : Ad} {cs : Array Value}
theorem KQ.mk (h1 : KP w g p a W) (h2 : Box W h cs) : KQ w g p a h cs W := by unfold KQ; exact ⟨h1, h2⟩
theorem KQ.out (h1 : KQ w g p a h cs W) : KP w g p a W ∧ Box W h cs := by unfold KQ at h1; exact h1
theorem KQ.below (h1 : KQ w g p a h cs W) (hb : Below W.heap.size W W') : KQ w g p a h cs W' := .mk (h1.out.1.below hb) (h1.out.2.below hb)
theorem KQ.drewN (h1 : KQ w g p a h cs W) (n : Nat) : KQ w g p a h cs (W.drewN n) := h1.below (below_drewN (Below.refl _ _) n)
theorem KQ.k (h1 : KQ w g p a h cs W) : Keep w g (pkArr p a) W := h1.out.1.k
end
section
variable {w W : World} {g h : Nat} {p : Pk} {a : Ad}
theorem KQ.w0 (x : KQ w g p a h (wlArr p.w a.wa a.wc) W) : W.cell? ⟨h, 0, none⟩ = some (.bool p.w.has) := x.out.2.cell 0
theorem KQ.w1 (x : KQ w g p a h (wlArr p.w a.wa a.wc) W) : W.cell? ⟨h, 1, none⟩ = some (.int .i64 p.w.q) := x.out.2.cell 1
theorem KQ.w2 (x : KQ w g p a h (wlArr p.w a.wa a.wc) W) : W.cell? ⟨h, 2, none⟩ = some (.bool p.w.ret) := x.out.2.cell 2
theorem KQ.w3 (x : KQ w g p a h (wlArr p.w a.wa a.wc) W) : W.cell? ⟨h, 3, none⟩ = some (.string p.w.t) := x.out.2.cell 3
theorem KQ.w4 (x : KQ w g p a h (wlArr p.w a.wa a.wc) W) : W.cell? ⟨h, 4, none⟩ = some (.string p.w.b) := x.out.2.cell 4
theorem KQ.w5 (x : KQ w g p a h (wlArr p.w a.wa a.wc) W) : W.cell? ⟨h, 5, none⟩ = some (.slice a.wa p.w.ps.length a.wc) := x.out.2.cell 5
end
open Go.RowKit Go.Lib Prp Pkt Vbi
theorem rflags_eq {p : Pk} (h : mayP p = true) : rflagsZ p = flagsZ p := by
 obtain ⟨⟨hk1, hk15⟩, _⟩ := may_parts h
 by_cases k : p.kind = 3
 ·unfold rflagsZ flagsZ bitZ
  rw [if_pos k, if_neg (show ¬ (p.kind = 6 ∨ p.kind = 8 ∨ p.kind = 10) by omega)]
  cases p.dup <;> cases p.ret <;> simp
 ·have hF : fieldB p = true := by
   cases hF : fieldB p with
   | true => rfl
   | false => rw [may_field hF] at h; cases h
  unfold fieldB fieldOf at hF
  simp only [Bool.and_eq_true, Bool.or_eq_true, Bool.not_eq_true', decide_eq_true_eq] at hF
  have hb3 : b3 p = false := by
   rcases hF.2.2.1 with h | h
   ·exact h
   ·exact absurd h k
  unfold b3 at hb3
  simp only [Bool.or_eq_false_iff, decide_eq_false_iff_not, ne_eq, Decidable.not_not] at hb3
  unfold rflagsZ flagsZ bitZ
  rw [if_neg k]
  split
  ·rfl
  ·rw [hb3.1, hb3.2.1, hb3.2.2.1]; rfl
theorem RBytes_of (p : Pk) (a : Ad) (S : ByteArray) (w : World) (h : PkAt w w.heap.size p a) (hg : goodP p = true) (hS : strP p = S)
  (hrest : ∀ (R : ByteArray) (W : World), PkAt W W.heap.size p a → restP p = R → Calls Tryz.prog 53 #[.agg (pkArr p a)] W fun e w' => e = .returned (.string R) ∧ Below W.heap.size W w') :
  Calls Tryz.prog 23 #[.agg (pkArr p a)] w fun e w' => e = .returned (.string S) ∧ Below w.heap.size w w' := by
 have H := Lib.hid h
 have hm := (good_parts hg).1
 have hk := (may_parts hm).1
 have hfl := flags_in hm
 have hq := may_q hm
 have hfw := parts_few hm
 have hrz := allStr_size (good_parts hg).2 hfw.2
 have hre := rflags_eq hm
 obtain ⟨R, hR⟩ : ∃ R, restP p = R := ⟨_, rfl⟩
 have hRz : R.size ≤ 1051392 := by rw [← hR]; unfold restP; have := hfw.1; omega
 have HR := Lib.hid (fun (W : World) (h : PkAt W W.heap.size p a) => hrest R W h hR)
 obtain ⟨N, hN⟩ : ∃ N, strOfNums (numZ R.size) = N := ⟨_, rfl⟩
 have hNz : N.size ≤ 4 := by rw [← hN, strOfNums_size, numZ_len (by omega)]; exact (numLen_le _).2
 have HN := Lib.hid (fun W => RNum_z (R.size : Int) N W (by omega) (by omega) (by rw [Int.toNat_natCast]; exact hN))
 obtain ⟨z, hz⟩ : ∃ z, flagsZ p = z := ⟨_, rfl⟩
 have HF := Lib.hid (fun W => rflags_is p a z W hq.1 (by omega) (hre.trans hz))
 rw [hz] at hfl
 obtain ⟨b, hb⟩ : ∃ b, 16 * p.kind + z = b := ⟨_, rfl⟩
 obtain ⟨O, hO⟩ : ∃ O, strOfNums [b] = O := ⟨_, rfl⟩
 have hOz : O.size ≤ 1 := by rw [← hO, strOfNums_size]; simp
 have HO := Lib.hid (fun W => one_is b O W (by omega) (by omega) hO)
 have HS : Hid (S = (O ++ N) ++ R) := by
  show _ = _
  rw [← hS]
  unfold strP
  rw [hR, hN, hz, ← hO, ← hb]
 have z1 : IntKind.i64.wrap (16 * p.kind) = 16 * p.kind := IntWalk.i64_in _ (by omega)
 have z2 : IntKind.i64.wrap (16 * p.kind + z) = b := by rw [← hb]; exact IntWalk.i64_in _ (by omega)
 clear h hg hS hm hk hfl hq hfw hrz hre hR hN hz hb hO
 have HK0 := Keep.new w 30 (pkArr p a)
 obtain ⟨W1, hW⟩ : ∃ W1, w.alloc (.cells (pkArr p a) 30) = W1 := ⟨_, rfl⟩
 rw [hW] at HK0
 unfold pkArr at hW ⊢
 have HW := Lib.hid hW
 clear hW
 go_enter Tryz.func23, Tryz.ntmps23
 go_upto_region 1 with fail
 rw [HW.out]
 generalize Value.agg _ = v0
 obtain ⟨g, hg⟩ : ∃ g, w.heap.size = g := ⟨_, rfl⟩
 rw [hg] at HK0 ⊢
 have HK := Lib.hid (KP.new HK0 H.out)
 clear HW HK0 H
 have HG := Lib.hid hg
 clear hg
 have hld := load_pk HK.out.k
 go_upto_region 2 with (first | (refine wpList_load_one rfl 30 (.tmp 1) rfl g 0 rfl _ hld ?_) | (go_at_call 53; refine (HR.out _ HK.out.at).mono ?_; rintro e w1 ⟨rfl, hb1⟩; have HK1 := Lib.hid (HK.out.below hb1); clear hb1 hld))
 have st0 := HK1.out
 clear HK HK1
 haveI : Nonempty (In (KP w g p a)) := ⟨⟨_, st0⟩⟩
 have k0 := fun u : In (KP w g p a) => u.h.k.f0
 have hld := fun u : In (KP w g p a) => load_pk u.h.k
 refine region_in (S := KP w g p a) (by kernel_rfl) (by kernel_rfl) (st0.drewN 1) ?_
 iterate 3 (go_big_quiet_step (fail))
 go_big_quiet_want
 refine quiet_load_in 30 (.tmp 1) rfl g 0 rfl _ hld ?_
 go_simp
 go_big_quiet_on
 repeat (go_big_quiet_step (first | (go_at_call 55; exact in_call ((HF.out _).mono fun _ _ h => ⟨h.1, KP.below (In.h _) h.2⟩)) | (go_at_call 54; exact in_call ((HO.out _).mono fun _ _ h => ⟨h.1, KP.below (In.h _) h.2⟩)) | (go_at_call 56; exact in_call ((HN.out _).mono fun _ _ h => ⟨h.1, KP.below (In.h _) h.2⟩))))
 refine wpQuiet_nil ?_
 rintro _ ⟨⟨w2, st2⟩, rfl⟩
 have HK := Lib.hid st2
 clear this st0 st2 k0 hld HF HO HN
 go_wp2_with fail
 go_ret
 exact ⟨by rw [HS.out]; rfl, HK.out.b⟩
end Go.Proofs.YtiancngpknnkaaaGreat
