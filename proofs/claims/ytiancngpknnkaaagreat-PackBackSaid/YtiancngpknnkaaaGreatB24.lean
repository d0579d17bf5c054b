/- Plain facts on packets: one that may be is within what an argument may be. -/
import Derived.Test.YtiancngpknnkaaaGreatB22
import Derived.Test.YtiancngpknnkaaaGreatB07
import Derived.Test.YtiancngpknnkaaaGreatB12
import Derived.Test.YtiancngpknnkaaaGreatB23
import Derived.Test.YtiancngpknnkaaaGreatB04
import Derived.Test.YtiancngpknnkaaaGreatB08
import Derived.Test.YtiancngpknnkaaaGreatB14
import Derived.Test.YtiancngpknnkaaaGreatB21
import Derived.Test.YtiancngpknnkaaaGreatB11
import Derived.Test.YtiancngpknnkaaaGreatB17
set_option maxRecDepth 100000
set_option maxHeartbeats 64000000
namespace Go.Proofs.YtiancngpknnkaaaGreat
open Go.RowKit Go.Lib Prp Pkt
def eqP (x y : Pk) : Bool := ((((((((((((((((((decide (x.kind = y.kind) && decide (x.dup = y.dup)) && decide (x.q = y.q)) && decide (x.ret = y.ret)) && decide (x.id = y.id)) && decide (x.t = y.t)) && decide (x.b = y.b)) && decide (x.re = y.re)) && decide (x.pre = y.pre)) && decide (x.cs.length = y.cs.length)) && decide (x.fs.length = y.fs.length)) && decide (x.cl = y.cl)) && decide (x.clean = y.clean)) && decide (x.keep = y.keep)) && eqW x.w y.w) && decide (x.hu = y.hu)) && decide (x.u = y.u)) && decide (x.hp = y.hp)) && decide (x.pw = y.pw)) && decide (x.ps.length = y.ps.length)
def HalfOf (x y : Pk) : Prop := (y.cs = x.cs ∨ y.cs = []) ∧ (y.fs = x.fs ∨ y.fs = []) ∧ (y.w.ps = x.w.ps ∨ y.w.ps = []) ∧ (y.ps = x.ps ∨ y.ps = [])
structure PkLen (p : Pk) : Prop where
  cs : p.cs.length ≤ 9223372036854775807
  fs : p.fs.length ≤ 9223372036854775807
  ws : p.w.ps.length ≤ 9223372036854775807
  ps : p.ps.length ≤ 9223372036854775807
theorem eql_int (x y : Int) (w : World) : (binOp .eql 3 (.int .i64 x) (.int .i64 y)).run Tryz.prog w = .ok (.bool (decide (x = y))) w := by
  go_simp
  by_cases h : x = y <;> simp [h]
theorem eql_bool (x y : Bool) (w : World) : (binOp .eql 4 (.bool x) (.bool y)).run Tryz.prog w = .ok (.bool (decide (x = y))) w := by
  go_simp
  cases x <;> cases y <;> rfl
theorem eql_str (x y : ByteArray) (w : World) : (binOp .eql 9 (.string x) (.string y)).run Tryz.prog w = .ok (.bool (decide (x = y))) w := by
  go_simp
  by_cases h : x = y
  · simp [h]
  · have : ¬ x.toList = y.toList := fun e => h ((toList_eq_iff x y).1 e)
    simp [h, this]
theorem info_wl : (Tryz.prog.info? 28).map (·.size) = some 6 := by kernel_rfl
theorem load_wl {W : World} {g : Nat} {p : Pk} {a : Ad} (h : Box W g (pkArr p a)) : (loadVar 28 ⟨g, 14, none⟩).run Tryz.prog W = .ok (.agg (wlArr p.w a.wa a.wc)) W := by
  refine run_loadVar_mid W g 14 28 (wlArr p.w a.wa a.wc).toList _ (fun j v hv => ?_) Tryz.underlying28 rfl info_wl
  rw [h.cell]
  match j, hv with
  | 0, hv => exact hv
  | 1, hv => exact hv
  | 2, hv => exact hv
  | 3, hv => exact hv
  | 4, hv => exact hv
  | 5, hv => exact hv
theorem exec_load {P : Program} {ρ : Operand → Value} {o : Oper} {ty : TypeId} {x : Operand} {b off : Nat} {V : Value} {w : World} (ho : o.op = .load ty x) (hx : ρ x = .pointer (some ⟨b, off, none⟩)) (hv : (loadVar ty ⟨b, off, none⟩).run P w = .ok V w) :
    (execOp ρ o).run P w = .ok (.value V) w := by
  unfold execOp
  simp only [ho, hx, Instr.loadAt, Instr.sureAddr, Sem.run_bind, Sem.run_pure, Result.andThen_ok, hv]
theorem EqPacket_is (x y : Pk) (a a' : Ad) (w : World) (hf : PkLen x) (hl : HalfOf x y) (h : PkAt w w.heap.size x a) (h' : PkAt w w.heap.size y a') :
    Calls Tryz.prog 26 #[.agg (pkArr x a), .agg (pkArr y a')] w fun e w' => e = .returned (.bool (eqP x y)) ∧ Below w.heap.size w w' := by
  have HN := fun (W : World) (hb : Below w.heap.size w W) => (EqNumbers_any x.cs y.cs a.ca a'.ca a.cc a'.cc _ _ W hf.cs hl.1 (h.cs.below hb) (h'.cs.below hb)).mono fun e w' (hh : _ ∧ ∃ n, w' = W.drewN n) => (show e = .returned (.bool (decide (x.cs.length = y.cs.length))) ∧ Below W.heap.size W w' from ⟨hh.1, by obtain ⟨n, rfl⟩ := hh.2; exact below_drewN (Below.refl _ _) n⟩)
  have HF := fun (W : World) (hb : Below w.heap.size w W) => (EqFilters_any x.fs y.fs a.fa a'.fa a.fc a'.fc _ _ W hf.fs hl.2.1 (h.fs.below hb) (h'.fs.below hb)).mono fun e w' (hh : _ ∧ ∃ n, w' = W.drewN n) => (show e = .returned (.bool (decide (x.fs.length = y.fs.length))) ∧ Below W.heap.size W w' from ⟨hh.1, by obtain ⟨n, rfl⟩ := hh.2; exact below_drewN (Below.refl _ _) n⟩)
  have HW := fun (W : World) (hb : Below w.heap.size w W) => EqWill_is x.w y.w a.wa a'.wa a.wc a'.wc _ _ W hf.ws hl.2.2.1 hb.size hb.size (h.ws.below hb) (h'.ws.below hb)
  have HP := fun (W : World) (hb : Below w.heap.size w W) => (EqProps_any x.ps y.ps a.pa a'.pa a.pc a'.pc _ _ W hf.ps hl.2.2.2 (h.ps.below hb) (h'.ps.below hb)).mono fun e w' (hh : _ ∧ ∃ n, w' = W.drewN n) => (show e = .returned (.bool (decide (x.ps.length = y.ps.length))) ∧ Below W.heap.size W w' from ⟨hh.1, by obtain ⟨n, rfl⟩ := hh.2; exact below_drewN (Below.refl _ _) n⟩)
  have hb1 := Box.new w 30 (pkArr x a)
  have hw := (Below.refl w.heap.size w).alloc (Nat.le_refl _) (.cells (pkArr x a) 30)
  obtain ⟨W1, hW⟩ : ∃ W1, w.alloc (.cells (pkArr x a) 30) = W1 := ⟨_, rfl⟩
  rw [hW] at hb1 hw
  have hb2 := Box.new W1 30 (pkArr y a')
  have ha2 := (Below.refl W1.heap.size W1).alloc (Nat.le_refl _) (.cells (pkArr y a') 30)
  obtain ⟨W, hW2⟩ : ∃ W2, W1.alloc (.cells (pkArr y a') 30) = W2 := ⟨_, rfl⟩
  rw [hW2] at hb2 ha2
  have hz : w.heap.size + 1 = W1.heap.size := by rw [← hW]; simp
  rw [← hz] at hb2
  replace hb1 := hb1.below ha2
  replace hw := hw.trans (ha2.mono hw.size)
  clear hz ha2 h h' hl hf
  unfold pkArr at hW hW2 ⊢
  have HW0 := Lib.hid hW
  have HW2 := Lib.hid hW2
  have HI := Lib.hid (And.intro hb1 (And.intro hb2 (And.intro hw (And.intro HN (And.intro HF (And.intro HW HP))))))
  clear hW hW2 hb1 hb2 hw HN HF HW HP
  obtain ⟨r, hr⟩ : ∃ r, eqP x y = r := ⟨_, rfl⟩
  rw [hr]
  have HR := Lib.hid hr
  clear hr
  go_enter Tryz.func26, Tryz.ntmps26
  go_upto_region 1 with fail
  rw [HW0.out, HW2.out]
  rename_i Q' K hK
  obtain ⟨hb1, hb2, hw, HN, HF, HW, HP⟩ := HI.out
  clear HI HW0 HW2
  obtain ⟨g1, hg1⟩ : ∃ g, w.heap.size = g := ⟨_, rfl⟩
  obtain ⟨g2, hg2⟩ : ∃ g, w.heap.size + 1 = g := ⟨_, rfl⟩
  rw [hg2] at hb2 ⊢
  rw [hg1] at hb1 ⊢
  clear hg1 hg2
  have c0 : W.cell? ⟨g1, 0, none⟩ = some (.int .i64 x.kind) := hb1.cell 0
  have c1 : W.cell? ⟨g2, 0, none⟩ = some (.int .i64 y.kind) := hb2.cell 0
  refine wp_region_list ?_
  refine ch_first (n := 143) (x := .pointer (some ⟨g1, 0, none⟩)) (y := .pointer (some ⟨g2, 0, none⟩)) (e := decide (x.kind = y.kind)) rfl rfl rfl rfl ⟨rfl, rfl⟩ ⟨rfl, rfl⟩ ⟨rfl, rfl⟩ ⟨rfl, rfl⟩ ⟨rfl, rfl⟩ ⟨rfl, rfl, rfl⟩ (by decide)
    (v1 := .pointer (some ⟨g1, 0, none⟩)) (v3 := .pointer (some ⟨g2, 0, none⟩)) (u1 := .int .i64 x.kind) (u3 := .int .i64 y.kind)
    (fun A H => by generalize A.eval = ρ at H ⊢; unfold execOp; go_simp) (fun A H => by generalize A.eval = ρ at H ⊢; unfold execOp; go_simp) (fun A H => by generalize A.eval = ρ at H ⊢; unfold execOp; go_simp) (fun A H => by generalize A.eval = ρ at H ⊢; unfold execOp; go_simp) (fun A H1 H2 => by unfold execOp; simp only [H1, H2, Sem.run_bind, eql_int, Sem.run_pure]; try rfl) ?_
  intro A1 hc
  refine ch_block (n := 143) (gi := 5) (k := 10) (d1 := 11) (d2 := 12) (d3 := 13) (d4 := 14) (d5 := 15) (d6 := 16) (d7 := 17) (e := decide (x.dup = y.dup)) hc ⟨rfl, rfl⟩ ⟨rfl, rfl⟩ ⟨rfl, rfl⟩ ⟨rfl, rfl⟩ ⟨rfl, rfl⟩ ⟨rfl, rfl, rfl⟩ ⟨rfl, rfl, .inl rfl⟩ rfl (by decide)
    (v1 := .pointer (some ⟨g1, 1, none⟩)) (v3 := .pointer (some ⟨g2, 1, none⟩)) (u1 := .bool x.dup) (u3 := .bool y.dup)
    (fun A H => by generalize A.eval = ρ at H ⊢; unfold execOp; go_simp) (fun A H => by have c : W.cell? ⟨g1, 1, none⟩ = some (.bool x.dup) := hb1.cell 1; generalize A.eval = ρ at H ⊢; unfold execOp; go_simp) (fun A H => by generalize A.eval = ρ at H ⊢; unfold execOp; go_simp) (fun A H => by have c : W.cell? ⟨g2, 1, none⟩ = some (.bool y.dup) := hb2.cell 1; generalize A.eval = ρ at H ⊢; unfold execOp; go_simp)
    (fun A K H1 H2 hk => wp_val (by unfold execOp; simp only [H1, H2, Sem.run_bind, eql_bool, Sem.run_pure]; try rfl) (hk _ (Below.refl _ _))) ?_
  clear hc
  intro A1 V1 hbw hc
  replace hb1 := hb1.below hbw
  replace hb2 := hb2.below hbw
  replace hw := hw.trans (hbw.mono hw.size)
  clear hbw
  refine ch_block (n := 143) (gi := 12) (k := 17) (d1 := 18) (d2 := 19) (d3 := 20) (d4 := 21) (d5 := 22) (d6 := 23) (d7 := 24) (e := decide (x.q = y.q)) hc ⟨rfl, rfl⟩ ⟨rfl, rfl⟩ ⟨rfl, rfl⟩ ⟨rfl, rfl⟩ ⟨rfl, rfl⟩ ⟨rfl, rfl, rfl⟩ ⟨rfl, rfl, .inl rfl⟩ rfl (by decide)
    (v1 := .pointer (some ⟨g1, 2, none⟩)) (v3 := .pointer (some ⟨g2, 2, none⟩)) (u1 := .int .i64 x.q) (u3 := .int .i64 y.q)
    (fun A H => by generalize A.eval = ρ at H ⊢; unfold execOp; go_simp) (fun A H => by have c : V1.cell? ⟨g1, 2, none⟩ = some (.int .i64 x.q) := hb1.cell 2; generalize A.eval = ρ at H ⊢; unfold execOp; go_simp) (fun A H => by generalize A.eval = ρ at H ⊢; unfold execOp; go_simp) (fun A H => by have c : V1.cell? ⟨g2, 2, none⟩ = some (.int .i64 y.q) := hb2.cell 2; generalize A.eval = ρ at H ⊢; unfold execOp; go_simp)
    (fun A K H1 H2 hk => wp_val (by unfold execOp; simp only [H1, H2, Sem.run_bind, eql_int, Sem.run_pure]; try rfl) (hk _ (Below.refl _ _))) ?_
  clear hc
  intro A1 V2 hbw hc
  replace hb1 := hb1.below hbw
  replace hb2 := hb2.below hbw
  replace hw := hw.trans (hbw.mono hw.size)
  clear hbw
  refine ch_block (n := 143) (gi := 19) (k := 24) (d1 := 25) (d2 := 26) (d3 := 27) (d4 := 28) (d5 := 29) (d6 := 30) (d7 := 31) (e := decide (x.ret = y.ret)) hc ⟨rfl, rfl⟩ ⟨rfl, rfl⟩ ⟨rfl, rfl⟩ ⟨rfl, rfl⟩ ⟨rfl, rfl⟩ ⟨rfl, rfl, rfl⟩ ⟨rfl, rfl, .inl rfl⟩ rfl (by decide)
    (v1 := .pointer (some ⟨g1, 3, none⟩)) (v3 := .pointer (some ⟨g2, 3, none⟩)) (u1 := .bool x.ret) (u3 := .bool y.ret)
    (fun A H => by generalize A.eval = ρ at H ⊢; unfold execOp; go_simp) (fun A H => by have c : V2.cell? ⟨g1, 3, none⟩ = some (.bool x.ret) := hb1.cell 3; generalize A.eval = ρ at H ⊢; unfold execOp; go_simp) (fun A H => by generalize A.eval = ρ at H ⊢; unfold execOp; go_simp) (fun A H => by have c : V2.cell? ⟨g2, 3, none⟩ = some (.bool y.ret) := hb2.cell 3; generalize A.eval = ρ at H ⊢; unfold execOp; go_simp)
    (fun A K H1 H2 hk => wp_val (by unfold execOp; simp only [H1, H2, Sem.run_bind, eql_bool, Sem.run_pure]; try rfl) (hk _ (Below.refl _ _))) ?_
  clear hc
  intro A1 V3 hbw hc
  replace hb1 := hb1.below hbw
  replace hb2 := hb2.below hbw
  replace hw := hw.trans (hbw.mono hw.size)
  clear hbw
  refine ch_block (n := 143) (gi := 26) (k := 31) (d1 := 32) (d2 := 33) (d3 := 34) (d4 := 35) (d5 := 36) (d6 := 37) (d7 := 38) (e := decide (x.id = y.id)) hc ⟨rfl, rfl⟩ ⟨rfl, rfl⟩ ⟨rfl, rfl⟩ ⟨rfl, rfl⟩ ⟨rfl, rfl⟩ ⟨rfl, rfl, rfl⟩ ⟨rfl, rfl, .inl rfl⟩ rfl (by decide)
    (v1 := .pointer (some ⟨g1, 4, none⟩)) (v3 := .pointer (some ⟨g2, 4, none⟩)) (u1 := .int .i64 x.id) (u3 := .int .i64 y.id)
    (fun A H => by generalize A.eval = ρ at H ⊢; unfold execOp; go_simp) (fun A H => by have c : V3.cell? ⟨g1, 4, none⟩ = some (.int .i64 x.id) := hb1.cell 4; generalize A.eval = ρ at H ⊢; unfold execOp; go_simp) (fun A H => by generalize A.eval = ρ at H ⊢; unfold execOp; go_simp) (fun A H => by have c : V3.cell? ⟨g2, 4, none⟩ = some (.int .i64 y.id) := hb2.cell 4; generalize A.eval = ρ at H ⊢; unfold execOp; go_simp)
    (fun A K H1 H2 hk => wp_val (by unfold execOp; simp only [H1, H2, Sem.run_bind, eql_int, Sem.run_pure]; try rfl) (hk _ (Below.refl _ _))) ?_
  clear hc
  intro A1 V4 hbw hc
  replace hb1 := hb1.below hbw
  replace hb2 := hb2.below hbw
  replace hw := hw.trans (hbw.mono hw.size)
  clear hbw
  refine ch_block (n := 143) (gi := 33) (k := 38) (d1 := 39) (d2 := 40) (d3 := 41) (d4 := 42) (d5 := 43) (d6 := 44) (d7 := 45) (e := decide (x.t = y.t)) hc ⟨rfl, rfl⟩ ⟨rfl, rfl⟩ ⟨rfl, rfl⟩ ⟨rfl, rfl⟩ ⟨rfl, rfl⟩ ⟨rfl, rfl, rfl⟩ ⟨rfl, rfl, .inl rfl⟩ rfl (by decide)
    (v1 := .pointer (some ⟨g1, 5, none⟩)) (v3 := .pointer (some ⟨g2, 5, none⟩)) (u1 := .string x.t) (u3 := .string y.t)
    (fun A H => by generalize A.eval = ρ at H ⊢; unfold execOp; go_simp) (fun A H => by have c : V4.cell? ⟨g1, 5, none⟩ = some (.string x.t) := hb1.cell 5; generalize A.eval = ρ at H ⊢; unfold execOp; go_simp) (fun A H => by generalize A.eval = ρ at H ⊢; unfold execOp; go_simp) (fun A H => by have c : V4.cell? ⟨g2, 5, none⟩ = some (.string y.t) := hb2.cell 5; generalize A.eval = ρ at H ⊢; unfold execOp; go_simp)
    (fun A K H1 H2 hk => wp_val (by unfold execOp; simp only [H1, H2, Sem.run_bind, eql_str, Sem.run_pure]; try rfl) (hk _ (Below.refl _ _))) ?_
  clear hc
  intro A1 V5 hbw hc
  replace hb1 := hb1.below hbw
  replace hb2 := hb2.below hbw
  replace hw := hw.trans (hbw.mono hw.size)
  clear hbw
  refine ch_block (n := 143) (gi := 40) (k := 45) (d1 := 46) (d2 := 47) (d3 := 48) (d4 := 49) (d5 := 50) (d6 := 51) (d7 := 52) (e := decide (x.b = y.b)) hc ⟨rfl, rfl⟩ ⟨rfl, rfl⟩ ⟨rfl, rfl⟩ ⟨rfl, rfl⟩ ⟨rfl, rfl⟩ ⟨rfl, rfl, rfl⟩ ⟨rfl, rfl, .inl rfl⟩ rfl (by decide)
    (v1 := .pointer (some ⟨g1, 6, none⟩)) (v3 := .pointer (some ⟨g2, 6, none⟩)) (u1 := .string x.b) (u3 := .string y.b)
    (fun A H => by generalize A.eval = ρ at H ⊢; unfold execOp; go_simp) (fun A H => by have c : V5.cell? ⟨g1, 6, none⟩ = some (.string x.b) := hb1.cell 6; generalize A.eval = ρ at H ⊢; unfold execOp; go_simp) (fun A H => by generalize A.eval = ρ at H ⊢; unfold execOp; go_simp) (fun A H => by have c : V5.cell? ⟨g2, 6, none⟩ = some (.string y.b) := hb2.cell 6; generalize A.eval = ρ at H ⊢; unfold execOp; go_simp)
    (fun A K H1 H2 hk => wp_val (by unfold execOp; simp only [H1, H2, Sem.run_bind, eql_str, Sem.run_pure]; try rfl) (hk _ (Below.refl _ _))) ?_
  clear hc
  intro A1 V6 hbw hc
  replace hb1 := hb1.below hbw
  replace hb2 := hb2.below hbw
  replace hw := hw.trans (hbw.mono hw.size)
  clear hbw
  refine ch_block (n := 143) (gi := 47) (k := 52) (d1 := 53) (d2 := 54) (d3 := 55) (d4 := 56) (d5 := 57) (d6 := 58) (d7 := 59) (e := decide (x.re = y.re)) hc ⟨rfl, rfl⟩ ⟨rfl, rfl⟩ ⟨rfl, rfl⟩ ⟨rfl, rfl⟩ ⟨rfl, rfl⟩ ⟨rfl, rfl, rfl⟩ ⟨rfl, rfl, .inl rfl⟩ rfl (by decide)
    (v1 := .pointer (some ⟨g1, 7, none⟩)) (v3 := .pointer (some ⟨g2, 7, none⟩)) (u1 := .int .i64 x.re) (u3 := .int .i64 y.re)
    (fun A H => by generalize A.eval = ρ at H ⊢; unfold execOp; go_simp) (fun A H => by have c : V6.cell? ⟨g1, 7, none⟩ = some (.int .i64 x.re) := hb1.cell 7; generalize A.eval = ρ at H ⊢; unfold execOp; go_simp) (fun A H => by generalize A.eval = ρ at H ⊢; unfold execOp; go_simp) (fun A H => by have c : V6.cell? ⟨g2, 7, none⟩ = some (.int .i64 y.re) := hb2.cell 7; generalize A.eval = ρ at H ⊢; unfold execOp; go_simp)
    (fun A K H1 H2 hk => wp_val (by unfold execOp; simp only [H1, H2, Sem.run_bind, eql_int, Sem.run_pure]; try rfl) (hk _ (Below.refl _ _))) ?_
  clear hc
  intro A1 V7 hbw hc
  replace hb1 := hb1.below hbw
  replace hb2 := hb2.below hbw
  replace hw := hw.trans (hbw.mono hw.size)
  clear hbw
  refine ch_block (n := 143) (gi := 54) (k := 59) (d1 := 60) (d2 := 61) (d3 := 62) (d4 := 63) (d5 := 64) (d6 := 65) (d7 := 66) (e := decide (x.pre = y.pre)) hc ⟨rfl, rfl⟩ ⟨rfl, rfl⟩ ⟨rfl, rfl⟩ ⟨rfl, rfl⟩ ⟨rfl, rfl⟩ ⟨rfl, rfl, rfl⟩ ⟨rfl, rfl, .inl rfl⟩ rfl (by decide)
    (v1 := .pointer (some ⟨g1, 8, none⟩)) (v3 := .pointer (some ⟨g2, 8, none⟩)) (u1 := .bool x.pre) (u3 := .bool y.pre)
    (fun A H => by generalize A.eval = ρ at H ⊢; unfold execOp; go_simp) (fun A H => by have c : V7.cell? ⟨g1, 8, none⟩ = some (.bool x.pre) := hb1.cell 8; generalize A.eval = ρ at H ⊢; unfold execOp; go_simp) (fun A H => by generalize A.eval = ρ at H ⊢; unfold execOp; go_simp) (fun A H => by have c : V7.cell? ⟨g2, 8, none⟩ = some (.bool y.pre) := hb2.cell 8; generalize A.eval = ρ at H ⊢; unfold execOp; go_simp)
    (fun A K H1 H2 hk => wp_val (by unfold execOp; simp only [H1, H2, Sem.run_bind, eql_bool, Sem.run_pure]; try rfl) (hk _ (Below.refl _ _))) ?_
  clear hc
  intro A1 V8 hbw hc
  replace hb1 := hb1.below hbw
  replace hb2 := hb2.below hbw
  replace hw := hw.trans (hbw.mono hw.size)
  clear hbw
  refine ch_block (n := 143) (gi := 61) (k := 66) (d1 := 67) (d2 := 68) (d3 := 69) (d4 := 70) (d5 := 71) (d6 := 72) (d7 := 73) (e := decide (x.cs.length = y.cs.length)) hc ⟨rfl, rfl⟩ ⟨rfl, rfl⟩ ⟨rfl, rfl⟩ ⟨rfl, rfl⟩ ⟨rfl, rfl⟩ ⟨rfl, rfl, rfl⟩ ⟨rfl, rfl, .inl rfl⟩ rfl (by decide)
    (v1 := .pointer (some ⟨g1, 9, none⟩)) (v3 := .pointer (some ⟨g2, 9, none⟩)) (u1 := .slice a.ca x.cs.length a.cc) (u3 := .slice a'.ca y.cs.length a'.cc)
    (fun A H => by generalize A.eval = ρ at H ⊢; unfold execOp; go_simp) (fun A H => by have c : V8.cell? ⟨g1, 9, none⟩ = some (.slice a.ca x.cs.length a.cc) := hb1.cell 9; generalize A.eval = ρ at H ⊢; unfold execOp; go_simp) (fun A H => by generalize A.eval = ρ at H ⊢; unfold execOp; go_simp) (fun A H => by have c : V8.cell? ⟨g2, 9, none⟩ = some (.slice a'.ca y.cs.length a'.cc) := hb2.cell 9; generalize A.eval = ρ at H ⊢; unfold execOp; go_simp)
    (fun A K H1 H2 hk => wp_call 71 57 #[.slice a.ca x.cs.length a.cc, .slice a'.ca y.cs.length a'.cc] _ (fun w' => Below V8.heap.size V8 w') rfl (by have hf : A.eval (.func 57) = .func (.func 57) #[] #[] := rfl; generalize A.eval = ρ at H1 H2 hf ⊢; unfold execOp; go_simp) (HN V8 hw) hk) ?_
  clear hc
  intro A1 V9 hbw hc
  replace hb1 := hb1.below hbw
  replace hb2 := hb2.below hbw
  replace hw := hw.trans (hbw.mono hw.size)
  clear hbw
  refine ch_block (n := 143) (gi := 68) (k := 73) (d1 := 74) (d2 := 75) (d3 := 76) (d4 := 77) (d5 := 78) (d6 := 79) (d7 := 80) (e := decide (x.fs.length = y.fs.length)) hc ⟨rfl, rfl⟩ ⟨rfl, rfl⟩ ⟨rfl, rfl⟩ ⟨rfl, rfl⟩ ⟨rfl, rfl⟩ ⟨rfl, rfl, rfl⟩ ⟨rfl, rfl, .inl rfl⟩ rfl (by decide)
    (v1 := .pointer (some ⟨g1, 10, none⟩)) (v3 := .pointer (some ⟨g2, 10, none⟩)) (u1 := .slice a.fa x.fs.length a.fc) (u3 := .slice a'.fa y.fs.length a'.fc)
    (fun A H => by generalize A.eval = ρ at H ⊢; unfold execOp; go_simp) (fun A H => by have c : V9.cell? ⟨g1, 10, none⟩ = some (.slice a.fa x.fs.length a.fc) := hb1.cell 10; generalize A.eval = ρ at H ⊢; unfold execOp; go_simp) (fun A H => by generalize A.eval = ρ at H ⊢; unfold execOp; go_simp) (fun A H => by have c : V9.cell? ⟨g2, 10, none⟩ = some (.slice a'.fa y.fs.length a'.fc) := hb2.cell 10; generalize A.eval = ρ at H ⊢; unfold execOp; go_simp)
    (fun A K H1 H2 hk => wp_call 78 58 #[.slice a.fa x.fs.length a.fc, .slice a'.fa y.fs.length a'.fc] _ (fun w' => Below V9.heap.size V9 w') rfl (by have hf : A.eval (.func 58) = .func (.func 58) #[] #[] := rfl; generalize A.eval = ρ at H1 H2 hf ⊢; unfold execOp; go_simp) (HF V9 hw) hk) ?_
  clear hc
  intro A1 V10 hbw hc
  replace hb1 := hb1.below hbw
  replace hb2 := hb2.below hbw
  replace hw := hw.trans (hbw.mono hw.size)
  clear hbw
  refine ch_block (n := 143) (gi := 75) (k := 80) (d1 := 81) (d2 := 82) (d3 := 83) (d4 := 84) (d5 := 85) (d6 := 86) (d7 := 87) (e := decide (x.cl = y.cl)) hc ⟨rfl, rfl⟩ ⟨rfl, rfl⟩ ⟨rfl, rfl⟩ ⟨rfl, rfl⟩ ⟨rfl, rfl⟩ ⟨rfl, rfl, rfl⟩ ⟨rfl, rfl, .inl rfl⟩ rfl (by decide)
    (v1 := .pointer (some ⟨g1, 11, none⟩)) (v3 := .pointer (some ⟨g2, 11, none⟩)) (u1 := .string x.cl) (u3 := .string y.cl)
    (fun A H => by generalize A.eval = ρ at H ⊢; unfold execOp; go_simp) (fun A H => by have c : V10.cell? ⟨g1, 11, none⟩ = some (.string x.cl) := hb1.cell 11; generalize A.eval = ρ at H ⊢; unfold execOp; go_simp) (fun A H => by generalize A.eval = ρ at H ⊢; unfold execOp; go_simp) (fun A H => by have c : V10.cell? ⟨g2, 11, none⟩ = some (.string y.cl) := hb2.cell 11; generalize A.eval = ρ at H ⊢; unfold execOp; go_simp)
    (fun A K H1 H2 hk => wp_val (by unfold execOp; simp only [H1, H2, Sem.run_bind, eql_str, Sem.run_pure]; try rfl) (hk _ (Below.refl _ _))) ?_
  clear hc
  intro A1 V11 hbw hc
  replace hb1 := hb1.below hbw
  replace hb2 := hb2.below hbw
  replace hw := hw.trans (hbw.mono hw.size)
  clear hbw
  refine ch_block (n := 143) (gi := 82) (k := 87) (d1 := 88) (d2 := 89) (d3 := 90) (d4 := 91) (d5 := 92) (d6 := 93) (d7 := 94) (e := decide (x.clean = y.clean)) hc ⟨rfl, rfl⟩ ⟨rfl, rfl⟩ ⟨rfl, rfl⟩ ⟨rfl, rfl⟩ ⟨rfl, rfl⟩ ⟨rfl, rfl, rfl⟩ ⟨rfl, rfl, .inl rfl⟩ rfl (by decide)
    (v1 := .pointer (some ⟨g1, 12, none⟩)) (v3 := .pointer (some ⟨g2, 12, none⟩)) (u1 := .bool x.clean) (u3 := .bool y.clean)
    (fun A H => by generalize A.eval = ρ at H ⊢; unfold execOp; go_simp) (fun A H => by have c : V11.cell? ⟨g1, 12, none⟩ = some (.bool x.clean) := hb1.cell 12; generalize A.eval = ρ at H ⊢; unfold execOp; go_simp) (fun A H => by generalize A.eval = ρ at H ⊢; unfold execOp; go_simp) (fun A H => by have c : V11.cell? ⟨g2, 12, none⟩ = some (.bool y.clean) := hb2.cell 12; generalize A.eval = ρ at H ⊢; unfold execOp; go_simp)
    (fun A K H1 H2 hk => wp_val (by unfold execOp; simp only [H1, H2, Sem.run_bind, eql_bool, Sem.run_pure]; try rfl) (hk _ (Below.refl _ _))) ?_
  clear hc
  intro A1 V12 hbw hc
  replace hb1 := hb1.below hbw
  replace hb2 := hb2.below hbw
  replace hw := hw.trans (hbw.mono hw.size)
  clear hbw
  refine ch_block (n := 143) (gi := 89) (k := 94) (d1 := 95) (d2 := 96) (d3 := 97) (d4 := 98) (d5 := 99) (d6 := 100) (d7 := 101) (e := decide (x.keep = y.keep)) hc ⟨rfl, rfl⟩ ⟨rfl, rfl⟩ ⟨rfl, rfl⟩ ⟨rfl, rfl⟩ ⟨rfl, rfl⟩ ⟨rfl, rfl, rfl⟩ ⟨rfl, rfl, .inl rfl⟩ rfl (by decide)
    (v1 := .pointer (some ⟨g1, 13, none⟩)) (v3 := .pointer (some ⟨g2, 13, none⟩)) (u1 := .int .i64 x.keep) (u3 := .int .i64 y.keep)
    (fun A H => by generalize A.eval = ρ at H ⊢; unfold execOp; go_simp) (fun A H => by have c : V12.cell? ⟨g1, 13, none⟩ = some (.int .i64 x.keep) := hb1.cell 13; generalize A.eval = ρ at H ⊢; unfold execOp; go_simp) (fun A H => by generalize A.eval = ρ at H ⊢; unfold execOp; go_simp) (fun A H => by have c : V12.cell? ⟨g2, 13, none⟩ = some (.int .i64 y.keep) := hb2.cell 13; generalize A.eval = ρ at H ⊢; unfold execOp; go_simp)
    (fun A K H1 H2 hk => wp_val (by unfold execOp; simp only [H1, H2, Sem.run_bind, eql_int, Sem.run_pure]; try rfl) (hk _ (Below.refl _ _))) ?_
  clear hc
  intro A1 V13 hbw hc
  replace hb1 := hb1.below hbw
  replace hb2 := hb2.below hbw
  replace hw := hw.trans (hbw.mono hw.size)
  clear hbw
  refine ch_block (n := 143) (gi := 96) (k := 101) (d1 := 102) (d2 := 103) (d3 := 104) (d4 := 105) (d5 := 106) (d6 := 107) (d7 := 108) (e := eqW x.w y.w) hc ⟨rfl, rfl⟩ ⟨rfl, rfl⟩ ⟨rfl, rfl⟩ ⟨rfl, rfl⟩ ⟨rfl, rfl⟩ ⟨rfl, rfl, rfl⟩ ⟨rfl, rfl, .inl rfl⟩ rfl (by decide)
    (v1 := .pointer (some ⟨g1, 14, none⟩)) (v3 := .pointer (some ⟨g2, 14, none⟩)) (u1 := .agg (wlArr x.w a.wa a.wc)) (u3 := .agg (wlArr y.w a'.wa a'.wc))
    (fun A H => by generalize A.eval = ρ at H ⊢; unfold execOp; go_simp) (fun A H => exec_load rfl H (load_wl hb1)) (fun A H => by generalize A.eval = ρ at H ⊢; unfold execOp; go_simp) (fun A H => exec_load rfl H (load_wl hb2))
    (fun A K H1 H2 hk => wp_call 106 51 #[.agg (wlArr x.w a.wa a.wc), .agg (wlArr y.w a'.wa a'.wc)] _ (fun w' => Below V13.heap.size V13 w') rfl (by have hf : A.eval (.func 51) = .func (.func 51) #[] #[] := rfl; generalize A.eval = ρ at H1 H2 hf ⊢; unfold execOp; go_simp) (HW V13 hw) hk) ?_
  clear hc
  intro A1 V14 hbw hc
  replace hb1 := hb1.below hbw
  replace hb2 := hb2.below hbw
  replace hw := hw.trans (hbw.mono hw.size)
  clear hbw
  refine ch_block (n := 143) (gi := 103) (k := 108) (d1 := 109) (d2 := 110) (d3 := 111) (d4 := 112) (d5 := 113) (d6 := 114) (d7 := 115) (e := decide (x.hu = y.hu)) hc ⟨rfl, rfl⟩ ⟨rfl, rfl⟩ ⟨rfl, rfl⟩ ⟨rfl, rfl⟩ ⟨rfl, rfl⟩ ⟨rfl, rfl, rfl⟩ ⟨rfl, rfl, .inl rfl⟩ rfl (by decide)
    (v1 := .pointer (some ⟨g1, 20, none⟩)) (v3 := .pointer (some ⟨g2, 20, none⟩)) (u1 := .bool x.hu) (u3 := .bool y.hu)
    (fun A H => by generalize A.eval = ρ at H ⊢; unfold execOp; go_simp) (fun A H => by have c : V14.cell? ⟨g1, 20, none⟩ = some (.bool x.hu) := hb1.cell 20; generalize A.eval = ρ at H ⊢; unfold execOp; go_simp) (fun A H => by generalize A.eval = ρ at H ⊢; unfold execOp; go_simp) (fun A H => by have c : V14.cell? ⟨g2, 20, none⟩ = some (.bool y.hu) := hb2.cell 20; generalize A.eval = ρ at H ⊢; unfold execOp; go_simp)
    (fun A K H1 H2 hk => wp_val (by unfold execOp; simp only [H1, H2, Sem.run_bind, eql_bool, Sem.run_pure]; try rfl) (hk _ (Below.refl _ _))) ?_
  clear hc
  intro A1 V15 hbw hc
  replace hb1 := hb1.below hbw
  replace hb2 := hb2.below hbw
  replace hw := hw.trans (hbw.mono hw.size)
  clear hbw
  refine ch_block (n := 143) (gi := 110) (k := 115) (d1 := 116) (d2 := 117) (d3 := 118) (d4 := 119) (d5 := 120) (d6 := 121) (d7 := 122) (e := decide (x.u = y.u)) hc ⟨rfl, rfl⟩ ⟨rfl, rfl⟩ ⟨rfl, rfl⟩ ⟨rfl, rfl⟩ ⟨rfl, rfl⟩ ⟨rfl, rfl, rfl⟩ ⟨rfl, rfl, .inl rfl⟩ rfl (by decide)
    (v1 := .pointer (some ⟨g1, 21, none⟩)) (v3 := .pointer (some ⟨g2, 21, none⟩)) (u1 := .string x.u) (u3 := .string y.u)
    (fun A H => by generalize A.eval = ρ at H ⊢; unfold execOp; go_simp) (fun A H => by have c : V15.cell? ⟨g1, 21, none⟩ = some (.string x.u) := hb1.cell 21; generalize A.eval = ρ at H ⊢; unfold execOp; go_simp) (fun A H => by generalize A.eval = ρ at H ⊢; unfold execOp; go_simp) (fun A H => by have c : V15.cell? ⟨g2, 21, none⟩ = some (.string y.u) := hb2.cell 21; generalize A.eval = ρ at H ⊢; unfold execOp; go_simp)
    (fun A K H1 H2 hk => wp_val (by unfold execOp; simp only [H1, H2, Sem.run_bind, eql_str, Sem.run_pure]; try rfl) (hk _ (Below.refl _ _))) ?_
  clear hc
  intro A1 V16 hbw hc
  replace hb1 := hb1.below hbw
  replace hb2 := hb2.below hbw
  replace hw := hw.trans (hbw.mono hw.size)
  clear hbw
  refine ch_block (n := 143) (gi := 117) (k := 122) (d1 := 123) (d2 := 124) (d3 := 125) (d4 := 126) (d5 := 127) (d6 := 128) (d7 := 129) (e := decide (x.hp = y.hp)) hc ⟨rfl, rfl⟩ ⟨rfl, rfl⟩ ⟨rfl, rfl⟩ ⟨rfl, rfl⟩ ⟨rfl, rfl⟩ ⟨rfl, rfl, rfl⟩ ⟨rfl, rfl, .inl rfl⟩ rfl (by decide)
    (v1 := .pointer (some ⟨g1, 22, none⟩)) (v3 := .pointer (some ⟨g2, 22, none⟩)) (u1 := .bool x.hp) (u3 := .bool y.hp)
    (fun A H => by generalize A.eval = ρ at H ⊢; unfold execOp; go_simp) (fun A H => by have c : V16.cell? ⟨g1, 22, none⟩ = some (.bool x.hp) := hb1.cell 22; generalize A.eval = ρ at H ⊢; unfold execOp; go_simp) (fun A H => by generalize A.eval = ρ at H ⊢; unfold execOp; go_simp) (fun A H => by have c : V16.cell? ⟨g2, 22, none⟩ = some (.bool y.hp) := hb2.cell 22; generalize A.eval = ρ at H ⊢; unfold execOp; go_simp)
    (fun A K H1 H2 hk => wp_val (by unfold execOp; simp only [H1, H2, Sem.run_bind, eql_bool, Sem.run_pure]; try rfl) (hk _ (Below.refl _ _))) ?_
  clear hc
  intro A1 V17 hbw hc
  replace hb1 := hb1.below hbw
  replace hb2 := hb2.below hbw
  replace hw := hw.trans (hbw.mono hw.size)
  clear hbw
  refine ch_block (n := 143) (gi := 124) (k := 129) (d1 := 130) (d2 := 131) (d3 := 132) (d4 := 133) (d5 := 134) (d6 := 135) (d7 := 136) (e := decide (x.pw = y.pw)) hc ⟨rfl, rfl⟩ ⟨rfl, rfl⟩ ⟨rfl, rfl⟩ ⟨rfl, rfl⟩ ⟨rfl, rfl⟩ ⟨rfl, rfl, rfl⟩ ⟨rfl, rfl, .inl rfl⟩ rfl (by decide)
    (v1 := .pointer (some ⟨g1, 23, none⟩)) (v3 := .pointer (some ⟨g2, 23, none⟩)) (u1 := .string x.pw) (u3 := .string y.pw)
    (fun A H => by generalize A.eval = ρ at H ⊢; unfold execOp; go_simp) (fun A H => by have c : V17.cell? ⟨g1, 23, none⟩ = some (.string x.pw) := hb1.cell 23; generalize A.eval = ρ at H ⊢; unfold execOp; go_simp) (fun A H => by generalize A.eval = ρ at H ⊢; unfold execOp; go_simp) (fun A H => by have c : V17.cell? ⟨g2, 23, none⟩ = some (.string y.pw) := hb2.cell 23; generalize A.eval = ρ at H ⊢; unfold execOp; go_simp)
    (fun A K H1 H2 hk => wp_val (by unfold execOp; simp only [H1, H2, Sem.run_bind, eql_str, Sem.run_pure]; try rfl) (hk _ (Below.refl _ _))) ?_
  clear hc
  intro A1 V18 hbw hc
  replace hb1 := hb1.below hbw
  replace hb2 := hb2.below hbw
  replace hw := hw.trans (hbw.mono hw.size)
  clear hbw
  refine ch_block (n := 143) (gi := 131) (k := 136) (d1 := 137) (d2 := 138) (d3 := 139) (d4 := 140) (d5 := 141) (d6 := 142) (d7 := 4) (e := decide (x.ps.length = y.ps.length)) hc ⟨rfl, rfl⟩ ⟨rfl, rfl⟩ ⟨rfl, rfl⟩ ⟨rfl, rfl⟩ ⟨rfl, rfl⟩ ⟨rfl, rfl, rfl⟩ ⟨rfl, rfl, .inr rfl⟩ rfl (by decide)
    (v1 := .pointer (some ⟨g1, 24, none⟩)) (v3 := .pointer (some ⟨g2, 24, none⟩)) (u1 := .slice a.pa x.ps.length a.pc) (u3 := .slice a'.pa y.ps.length a'.pc)
    (fun A H => by generalize A.eval = ρ at H ⊢; unfold execOp; go_simp) (fun A H => by have c : V18.cell? ⟨g1, 24, none⟩ = some (.slice a.pa x.ps.length a.pc) := hb1.cell 24; generalize A.eval = ρ at H ⊢; unfold execOp; go_simp) (fun A H => by generalize A.eval = ρ at H ⊢; unfold execOp; go_simp) (fun A H => by have c : V18.cell? ⟨g2, 24, none⟩ = some (.slice a'.pa y.ps.length a'.pc) := hb2.cell 24; generalize A.eval = ρ at H ⊢; unfold execOp; go_simp)
    (fun A K H1 H2 hk => wp_call 141 59 #[.slice a.pa x.ps.length a.pc, .slice a'.pa y.ps.length a'.pc] _ (fun w' => Below V18.heap.size V18 w') rfl (by have hf : A.eval (.func 59) = .func (.func 59) #[] #[] := rfl; generalize A.eval = ρ at H1 H2 hf ⊢; unfold execOp; go_simp) (HP V18 hw) hk) ?_
  clear hc
  intro A1 V19 hbw hc
  replace hb1 := hb1.below hbw
  replace hb2 := hb2.below hbw
  replace hw := hw.trans (hbw.mono hw.size)
  clear hbw
  refine wpList_nil ?_
  refine hK _ _ ?_
  have h4 := hc.pk
  have hr4 := HR.out
  unfold eqP at hr4
  rw [hr4] at h4
  have hd4 := hc.df
  clear hc
  go_wp2_with fail
  exact bodyPost_ret (v := .bool r) (by simp [results, Tryz.results26, h4]) hd4 ⟨rfl, hw⟩
theorem fit_len {p : Pk} {a : Ad} (h : PkFit p a) : PkLen p := ⟨h.cl1.1, h.fl1.1, h.wl1.1, h.pl1.1⟩
open Go.RowKit Go.Lib Prp Pkt Vbi
def askArr (p : Pk) (a : Ad) (s : ByteArray) : Array Value := #[.int .i64 p.kind, .bool p.dup, .int .i64 p.q, .bool p.ret, .int .i64 p.id, .string p.t, .string p.b, .int .i64 p.re, .bool p.pre, .slice a.ca p.cs.length a.cc, .slice a.fa p.fs.length a.fc, .string p.cl, .bool p.clean, .int .i64 p.keep, .bool p.w.has, .int .i64 p.w.q, .bool p.w.ret, .string p.w.t, .string p.w.b, .slice a.wa p.w.ps.length a.wc, .bool p.hu, .string p.u, .bool p.hp, .string p.pw, .slice a.pa p.ps.length a.pc, .string s]
theorem info_ask : (Tryz.prog.info? 32).map (·.size) = some 26 := by kernel_rfl
theorem load_ask {W : World} {B b o : Nat} {p : Pk} {a : Ad} {s : ByteArray} (h : AskAt W B b o p a s) : (loadVar 32 ⟨b, o, none⟩).run Tryz.prog W = .ok (.agg (askArr p a s)) W := by
  refine run_loadVar_mid W b o 32 (askArr p a s).toList _ (fun j v hv => ?_) Tryz.underlying32 rfl info_ask
  match j, hv with
  | 0, hv => exact h.cells 0 v hv
  | 1, hv => exact h.cells 1 v hv
  | 2, hv => exact h.cells 2 v hv
  | 3, hv => exact h.cells 3 v hv
  | 4, hv => exact h.cells 4 v hv
  | 5, hv => exact h.cells 5 v hv
  | 6, hv => exact h.cells 6 v hv
  | 7, hv => exact h.cells 7 v hv
  | 8, hv => exact h.cells 8 v hv
  | 9, hv => exact h.cells 9 v hv
  | 10, hv => exact h.cells 10 v hv
  | 11, hv => exact h.cells 11 v hv
  | 12, hv => exact h.cells 12 v hv
  | 13, hv => exact h.cells 13 v hv
  | 14, hv => exact h.cells 14 v hv
  | 15, hv => exact h.cells 15 v hv
  | 16, hv => exact h.cells 16 v hv
  | 17, hv => exact h.cells 17 v hv
  | 18, hv => exact h.cells 18 v hv
  | 19, hv => exact h.cells 19 v hv
  | 20, hv => exact h.cells 20 v hv
  | 21, hv => exact h.cells 21 v hv
  | 22, hv => exact h.cells 22 v hv
  | 23, hv => exact h.cells 23 v hv
  | 24, hv => exact h.cells 24 v hv
  | 25, hv => exact h.cx.trans hv
theorem load_mid {W : World} {B b o : Nat} {p : Pk} {a : Ad} {s : ByteArray} (h : AskAt W B b o p a s) : (loadVar 30 ⟨b, o, none⟩).run Tryz.prog W = .ok (.agg (pkArr p a)) W :=
  run_loadVar_mid W b o 30 (pkArr p a).toList _ (fun j v hv => h.cells j v (by rw [← hv]; simp)) Tryz.underlying30 rfl info_pk
theorem load_box_ask {W : World} {g : Nat} {p : Pk} {a : Ad} {s : ByteArray} (h : Box W g (askArr p a s)) : (loadVar 30 ⟨g, 0, none⟩).run Tryz.prog W = .ok (.agg (pkArr p a)) W := by
  refine run_loadVar_mid W g 0 30 (pkArr p a).toList _ (fun j v hv => ?_) Tryz.underlying30 rfl info_pk
  rw [Nat.zero_add, h.cell]
  match j, hv with
  | 0, hv => exact hv
  | 1, hv => exact hv
  | 2, hv => exact hv
  | 3, hv => exact hv
  | 4, hv => exact hv
  | 5, hv => exact hv
  | 6, hv => exact hv
  | 7, hv => exact hv
  | 8, hv => exact hv
  | 9, hv => exact hv
  | 10, hv => exact hv
  | 11, hv => exact hv
  | 12, hv => exact hv
  | 13, hv => exact hv
  | 14, hv => exact hv
  | 15, hv => exact hv
  | 16, hv => exact hv
  | 17, hv => exact hv
  | 18, hv => exact hv
  | 19, hv => exact hv
  | 20, hv => exact hv
  | 21, hv => exact hv
  | 22, hv => exact hv
  | 23, hv => exact hv
  | 24, hv => exact hv
def Heavy (s : ByteArray) (w : World) (e : Ending) (w' : World) : Prop := ∃ b : Bool, e = .returned (.bool b) ∧ (b = false → s.size ≤ 20000) ∧ Below w.heap.size w w'
theorem heavy_is (p : Pk) (a : Ad) (s : ByteArray) (w : World) (hf : PkFit p a) (h : PkAt w w.heap.size p a) :
    Calls Tryz.prog 19 #[.agg (askArr p a s)] w (Heavy s w) := by
  have hb0 := Box.new w 32 (askArr p a s)
  have ha := (Below.refl w.heap.size w).alloc (Nat.le_refl _) (.cells (askArr p a s) 32)
  obtain ⟨W1, hW⟩ : ∃ W1, w.alloc (.cells (askArr p a s) 32) = W1 := ⟨_, rfl⟩
  rw [hW] at hb0 ha
  have HC := Lib.hid (PacketWeight_is p a W1 hf ((h.below ha).mono ha.size))
  have HB := Lib.hid hb0
  have HA := Lib.hid ha
  unfold askArr at hW ⊢
  have HW := Lib.hid hW
  clear hW hb0 ha h hf
  go_enter Tryz.func19, Tryz.ntmps19
  go_upto_region 1 with fail
  rw [HW.out]
  generalize Value.agg _ = v0
  obtain ⟨g, hg⟩ : ∃ g, w.heap.size = g := ⟨_, rfl⟩
  have HG := Lib.hid hg
  rw [hg] at HB ⊢
  clear hg HW
  have hld := load_box_ask HB.out
  go_wp2_with (refine wpList_load_any (by rfl) 30 (.tmp 3) rfl g 0 rfl _ hld ?_)
  refine HC.out.mono ?_
  rintro e w2 ⟨⟨m, rfl⟩, hb2⟩
  have HX : Hid (Below w.heap.size w w2) := Lib.hid (HA.out.trans (hb2.mono HA.out.size))
  have c25 : w2.cell? ⟨g, 25, none⟩ = some (.string s) := (HB.out.below hb2).cell 25
  clear hb2 hld HC
  by_cases hm : (20000 : Int) < m
  · have hd : decide ((20000 : Int) < m) = true := decide_eq_true hm
    go_wp2_with fail
    go_ret
    exact ⟨true, rfl, (fun e => by cases e), HX.out⟩
  · have hd : decide ((20000 : Int) < m) = false := decide_eq_false hm
    by_cases hs : 20000 < s.size
    · have hd2 : decide ((20000 : Int) < (s.size : Int)) = true := decide_eq_true (by omega)
      go_wp2_with fail
      go_ret
      exact ⟨true, rfl, (fun e => by cases e), HX.out⟩
    · have hd2 : decide ((20000 : Int) < (s.size : Int)) = false := decide_eq_false (by omega)
      go_wp2_with fail
      go_ret
      exact ⟨false, rfl, fun _ => by omega, HX.out⟩
theorem num5 (n : Int) (w : World) :
    Calls Tryz.prog 24 #[.int .i64 n] w fun e w' => e = .returned (.int .i64 n) ∧ w = w' := by
  go_enter Tryz.func24, Tryz.ntmps24
  go_wp2
  go_ret
  exact ⟨rfl, rfl⟩
theorem PTake_eq {s : ByteArray} {p : Pk} {n e : Int} (ht : takeS s = (p, n, e)) (w : World) (hs : s.size ≤ 268435456) :
    Calls Tryz.prog 28 #[.string s] w fun r w' => ∃ a, r = .returned (.tuple #[.agg (pkArr p a), .int .i64 n, .int .i64 e]) ∧ PkAt w' w'.heap.size p a ∧ PkCap p a ∧ Below w.heap.size w w' := by
  have := PTake_is s w hs
  rw [ht] at this
  exact this
theorem made_below (w : World) (c0 cs : Array Value) (T : TypeId) : Below w.heap.size w ((w.alloc (.cells c0 T)).setRow w.heap.size cs) :=
  (Bar.row w.heap.size _ cs).below ((Below.refl w.heap.size w).alloc (Nat.le_refl _) _) (Nat.le_refl _) (by rw [World.size_alloc]; omega)
theorem made_box (w : World) (c0 cs : Array Value) (T : TypeId) : Box ((w.alloc (.cells c0 T)).setRow w.heap.size cs) w.heap.size cs := (Box.new w T c0).row cs
theorem eqP_self (p : Pk) : eqP p p = true := by simp [eqP, eqW]
theorem half_self (p : Pk) : HalfOf p p := ⟨.inl rfl, .inl rfl, .inl rfl, .inl rfl⟩
theorem EqPacket_self (p : Pk) (a a' : Ad) (w : World) (hf : PkLen p) (h : PkAt w w.heap.size p a) (h' : PkAt w w.heap.size p a') :
    Calls Tryz.prog 26 #[.agg (pkArr p a), .agg (pkArr p a')] w fun e w' => e = .returned (.bool true) ∧ Below w.heap.size w w' := by
  have := EqPacket_is p p a a' w hf (half_self p) h h'
  rw [eqP_self] at this
  exact this
theorem pack_12 : packB (zp 12) = true ∧ strP (zp 12) = ⟨#[192, 0]⟩ := by
  have e : strP (zp 12) = ⟨#[192, 0]⟩ := by
    show (strOfNums [16 * 12 + 0] ++ strOfNums (numZ 0)) ++ ⟨#[]⟩ = _
    rw [numZ_last (by omega)]
    rfl
  refine ⟨?_, e⟩
  unfold packB
  rw [e]
  rfl
theorem pack_13 : packB (zp 13) = true ∧ strP (zp 13) = ⟨#[208, 0]⟩ := by
  have e : strP (zp 13) = ⟨#[208, 0]⟩ := by
    show (strOfNums [16 * 13 + 0] ++ strOfNums (numZ 0)) ++ ⟨#[]⟩ = _
    rw [numZ_last (by omega)]
    rfl
  refine ⟨?_, e⟩
  unfold packB
  rw [e]
  rfl
theorem take_13 : takeS ⟨#[208, 0]⟩ = (zp 13, 2, 0) := by
  have := take_back ⟨#[]⟩ pack_13.1
  rw [add_empty, pack_13.2] at this
  exact this
theorem zfit (k : Int) (h : 0 ≤ k ∧ k ≤ 15) : PkFit (zp k) za := by
  have z : (-9223372036854775808 : Int) ≤ 0 ∧ (0 : Int) ≤ 9223372036854775807 := by decide
  exact ⟨⟨by show -9223372036854775808 ≤ k; omega, by show k ≤ 9223372036854775807; omega⟩, z, z, z, z, z, Nat.zero_le _, Nat.zero_le _, Nat.zero_le _, Nat.zero_le _, Nat.zero_le _, Nat.zero_le _, Nat.zero_le _, (by intro x hx; cases hx), (by intro x hx; cases hx), (by intro x hx; cases hx), (by intro x hx; cases hx), ⟨Nat.zero_le _, Nat.le_refl _⟩, ⟨Nat.zero_le _, Nat.le_refl _⟩, ⟨Nat.zero_le _, Nat.le_refl _⟩, ⟨Nat.zero_le _, Nat.le_refl _⟩⟩
theorem wakes_any (w : World) : Calls Tryz.prog 27 #[] w fun e w' => e = .returned (.bool true) ∧ Below w.heap.size w w' := by
  have HB := Lib.hid (PBytes_is (zp 12) za ⟨#[192, 0]⟩ 0 w (zfit 12 (by decide)) (PkAt.zero _ _ _) ((pack_yes pack_12.1).1.trans pack_12.2) (pack_yes pack_12.1).2)
  have HT := Lib.hid (fun W => PTake_eq take_13 W (by decide))
  go_enter Tryz.func27, Tryz.ntmps27
  go_wp2_with (refine wpList_build_kind rfl _ rfl 12 rfl ?_)
  refine HB.out.mono ?_
  rintro e w1 ⟨rfl, hb1⟩
  have HX1 := Lib.hid hb1
  clear hb1 HB
  go_wp2_with fail
  refine (HT.out w1).mono ?_
  rintro e w2 ⟨a2, rfl, q1, q2, q3⟩
  have hmb := made_below w2 (pkArr (zp 0) za) (pkArr (zp 13) a2) 30
  have hmx := made_box w2 (pkArr (zp 0) za) (pkArr (zp 13) a2) 30
  have hb3 := Box.new w2 30 (pkArr (zp 0) za)
  obtain ⟨W3, hW3⟩ : ∃ W3, w2.alloc (.cells (pkArr (zp 0) za) 30) = W3 := ⟨_, rfl⟩
  rw [hW3] at hmb hmx hb3
  simp only [pkArr, zp, za, zw, List.length_nil] at hW3
  have HW3 := Lib.hid hW3
  have HX2 := Lib.hid ((HX1.out.trans (q3.mono HX1.out.size)).trans (hmb.mono (Nat.le_trans HX1.out.size q3.size)))
  obtain ⟨k3, hk3⟩ : ∃ k, w2.heap.size = k := ⟨_, rfl⟩
  rw [hk3] at hmx hb3
  rw [hk3] at HX2
  have HMX := Lib.hid hmx
  have HB3 := Lib.hid hb3
  clear hmb hmx hb3 hW3 q1 q2 q3 HX1 HT
  go_upto_region 3 with (rw [HW3.out]; refine wpList_store_whole rfl 30 (.tmp 3) (.tmp 13) rfl k3 (pkArr (zp 13) a2) rfl rfl (pkArr (zp 0) za) HB3.out info_pk rfl (one_pk _ _) ?_; simp only [Act.put])
  clear hk3 HW3 HB3
  generalize World.setRow _ _ _ = w4 at HX2 HMX ⊢
  have c0 : w4.cell? ⟨k3, 0, none⟩ = some (.int .i64 13) := HMX.out.cell 0
  go_wp2_with (go_at_call 24; refine (num5 _ _).mono ?_; rintro e w' ⟨rfl, rfl⟩)
  go_ret
  exact ⟨rfl, HX2.out⟩
open Go.RowKit Go.Lib Prp Pkt
@[irreducible] def KS (w : World) (b o g8 : Nat) (p : Pk) (a : Ad) (s : ByteArray) (a4 : Ad) (W : World) : Prop :=
  Box W g8 (pkArr p a4) ∧ PkAt W W.heap.size p a4 ∧ AskAt W w.heap.size b o p a s ∧ Below w.heap.size w W
section
variable {w W W' : World} {b o g8 : Nat} {p : Pk} {a a4 : Ad} {s : ByteArray}
theorem KS.mk (h : Box W g8 (pkArr p a4) ∧ PkAt W W.heap.size p a4 ∧ AskAt W w.heap.size b o p a s ∧ Below w.heap.size w W) : KS w b o g8 p a s a4 W := by unfold KS; exact h
theorem KS.out (h : KS w b o g8 p a s a4 W) : Box W g8 (pkArr p a4) ∧ PkAt W W.heap.size p a4 ∧ AskAt W w.heap.size b o p a s ∧ Below w.heap.size w W := by unfold KS at h; exact h
theorem KS.below (h : KS w b o g8 p a s a4 W) (hb : Below W.heap.size W W') : KS w b o g8 p a s a4 W' := by
  obtain ⟨h1, h2, h3, h4⟩ := h.out
  exact .mk ⟨h1.below hb, (h2.below hb).mono hb.size, h3.below (hb.mono h4.size), h4.trans (hb.mono h4.size)⟩
theorem KS.drewN (h : KS w b o g8 p a s a4 W) (n : Nat) : KS w b o g8 p a s a4 (W.drewN n) := h.below (below_drewN (Below.refl _ _) n)
end
theorem andI {a b : Bool} (h1 : a = true) (h2 : b = true) : (a && b) = true := by rw [h1, h2]; rfl
end Go.Proofs.YtiancngpknnkaaaGreat
namespace Go.Proofs.YtiancngpknnkaaaGreat.Prp
open Go.Lib Vbi
theorem u8_same (b : UInt8) {x : Nat} (h : x = b.toNat) : UInt8.ofNat x = b := by
  subst h
  exact UInt8.toNat_inj.1 (u8_ofNat b.toNat_lt)
theorem fix1_wrote (l : List UInt8) (h : 1 ≤ l.length) : bytesOf [((fixVal (l.take 1) : Nat) : Int)] = l.take 1 := by
  match l with
  | a :: t =>
    show [UInt8.ofNat (((fixVal [a] : Nat) : Int)).toNat] = [a]
    rw [Int.toNat_natCast, u8_same a (x := fixVal [a]) (by show 0 * 256 + a.toNat = a.toNat; omega)]
theorem fix2_wrote (l : List UInt8) (h : 2 ≤ l.length) : bytesOf (fixZ 2 (fixVal (l.take 2))) = l.take 2 := by
  match l with
  | [] => simp at h
  | [_] => simp at h
  | a :: b :: t =>
    have h1 := a.toNat_lt
    have h2 := b.toNat_lt
    rw [fix2_data (fixVal_two _)]
    have hv : fixVal ((a :: b :: t).take 2) = a.toNat * 256 + b.toNat := by show (0 * 256 + a.toNat) * 256 + b.toNat = _; omega
    rw [hv, u8_same a (by omega), u8_same b (by omega)]
    rfl
theorem fix4_wrote (l : List UInt8) (h : 4 ≤ l.length) : bytesOf (fixZ 4 (fixVal (l.take 4))) = l.take 4 := by
  match l with
  | [] => simp at h
  | [_] => simp at h
  | [_, _] => simp at h
  | [_, _, _] => simp at h
  | a :: b :: c :: d :: t =>
    have h1 := a.toNat_lt
    have h2 := b.toNat_lt
    have h3 := c.toNat_lt
    have h4 := d.toNat_lt
    rw [fix4_data (fixVal_four _)]
    have hv : fixVal ((a :: b :: c :: d :: t).take 4) = ((a.toNat * 256 + b.toNat) * 256 + c.toNat) * 256 + d.toNat := by show (((0 * 256 + a.toNat) * 256 + b.toNat) * 256 + c.toNat) * 256 + d.toNat = _; omega
    rw [hv, u8_same a (by omega), u8_same b (by omega), u8_same c (by omega), u8_same d (by omega)]
    rfl
theorem ext_glue (s : ByteArray) (i j : Nat) : s.extract 0 i ++ (s.extract i s.size).extract 0 j = s.extract 0 (i + j) := by
  apply bytes_ext
  rw [data_add, data_take, data_take, data_take, Lib.extract_data, List.take_add]
  congr 1
  rw [List.take_of_length_le (l := s.data.toList.drop i) (by rw [List.length_drop, ← Lib.size_eq]; exact Nat.le_refl _)]
theorem ext_glue2 (s : ByteArray) (i j : Nat) : s.extract 0 i ++ s.extract i (i + j) = s.extract 0 (i + j) := by
  apply bytes_ext
  rw [data_add, data_take, data_take, Lib.extract_data, List.take_add, Nat.add_sub_cancel_left]
theorem ext_all (s : ByteArray) (i : Nat) : s.extract 0 i ++ s.extract i s.size = s := by
  apply bytes_ext
  rw [data_add, data_take, Lib.extract_data]
  rw [List.take_of_length_le (l := s.data.toList.drop i) (by rw [List.length_drop, ← Lib.size_eq]; exact Nat.le_refl _), List.take_append_drop]
theorem tl_wrote {t : Bool} {s : ByteArray} (h : (tl t s).2.2 = 0) : strOfNums (fixZ 2 (tl t s).1.size) ++ (tl t s).1 = s.extract 0 (tl t s).2.1.toNat := by
  obtain ⟨m, h1, h2, h3, h4, h5, _⟩ := tl_took h
  have hz : (s.extract 2 (2 + m)).size = m := by rw [ByteArray.size_extract]; omega
  rw [h5, hz, h1, Int.toNat_natCast, ← ext_glue2 s 2 m]
  congr 1
  apply bytes_ext
  rw [strOf_data, data_take, ← h4]
  unfold tbN
  exact fix2_wrote _ (by rw [← Lib.size_eq]; omega)
theorem str_1 (p : P) : valStr 1 p = strOfNums [p.n] := rfl
theorem str_2 (p : P) : valStr 2 p = strOfNums (fixZ 2 p.n.toNat) := rfl
theorem str_3 (p : P) : valStr 3 p = strOfNums (fixZ 4 p.n.toNat) := rfl
theorem str_4 (p : P) : valStr 4 p = strOfNums (numZ p.n.toNat) := rfl
theorem str_5 (p : P) : valStr 5 p = strOfNums (fixZ 2 p.s.size) ++ p.s := rfl
theorem str_6 (p : P) : valStr 6 p = strOfNums (fixZ 2 p.s.size) ++ p.s := rfl
theorem tk_1 (s : ByteArray) : tk 1 s = tkFix 1 s := rfl
theorem tk_2 (s : ByteArray) : tk 2 s = tkFix 2 s := rfl
theorem tk_3 (s : ByteArray) : tk 3 s = tkFix 4 s := rfl
theorem tk_4 (s : ByteArray) : tk 4 s = tkNum s := rfl
theorem tk_5 (s : ByteArray) : tk 5 s = tkLong true s := rfl
theorem tk_6 (s : ByteArray) : tk 6 s = tkLong false s := rfl
theorem tk_wrote {k : Int} (id : Int) {s : ByteArray} (h0 : 0 ≤ k) (h7 : k ≤ 7) (hk : k ≠ 0) (h : (tk k s).e = 0) : valStr k ⟨id, (tk k s).n, (tk k s).a, (tk k s).b⟩ = s.extract 0 (tk k s).k.toNat := by
  rcases kind_seven h0 h7 hk with rfl | rfl | rfl | rfl | rfl | rfl | rfl
  · rw [tk_1] at h ⊢
    rw [str_1]
    rcases fx_cases 1 s with ⟨_, e, _, _⟩ | ⟨hs, e, _, _⟩
    · rw [e] at h; cases h
    · rw [e]
      apply bytes_ext
      rw [strOf_data, data_take]
      exact fix1_wrote _ (by rw [← Lib.size_eq]; exact hs)
  · rw [tk_2] at h ⊢
    rw [str_2]
    rcases fx_cases 2 s with ⟨_, e, _, _⟩ | ⟨hs, e, _, _⟩
    · rw [e] at h; cases h
    · rw [e]
      apply bytes_ext
      rw [strOf_data, data_take]
      exact fix2_wrote _ (by rw [← Lib.size_eq]; exact hs)
  · rw [tk_3] at h ⊢
    rw [str_3]
    rcases fx_cases 4 s with ⟨_, e, _, _⟩ | ⟨hs, e, _, _⟩
    · rw [e] at h; cases h
    · rw [e]
      apply bytes_ext
      rw [strOf_data, data_take]
      exact fix4_wrote _ (by rw [← Lib.size_eq]; exact hs)
  · rw [tk_4] at h ⊢
    rw [str_4]
    have h : (tn s.data.toList).2.2 = 0 := h
    show strOfNums (numZ (tn s.data.toList).1.toNat) = s.extract 0 (tn s.data.toList).2.1.toNat
    rcases num_wrote s with ⟨E, e, hE⟩ | ⟨m, q, e, _, _, hw⟩
    · rw [e] at h; exact absurd h hE
    · rw [e]; exact hw
  · rw [tk_5] at h ⊢
    rw [str_5]
    exact tl_wrote (t := true) h
  · rw [tk_6] at h ⊢
    rw [str_6]
    exact tl_wrote (t := false) h
  · rw [tk_7] at h ⊢
    rw [str_7]
    by_cases c : (tl true s).2.2 = 0
    · by_cases d : (tl true (s.extract (tl true s).2.1.toNat s.size)).2.2 = 0
      · rw [two_good c d]
        obtain ⟨m, e1, _⟩ := tl_took c
        obtain ⟨m2, e2, _⟩ := tl_took d
        have w1 := tl_wrote c
        have w2 := tl_wrote d
        rw [e2] at w2 ⊢
        rw [e1] at w1 w2 ⊢
        rw [Int.toNat_natCast] at w1 w2 ⊢
        rw [Int.toNat_natCast] at w2
        show (strOfNums (fixZ 2 (tl true s).1.size) ++ (tl true s).1) ++ (strOfNums (fixZ 2 (tl true (s.extract (2 + m) s.size)).1.size) ++ (tl true (s.extract (2 + m) s.size)).1) = s.extract 0 (((2 + m : Nat) : Int) + ((2 + m2 : Nat) : Int)).toNat
        rw [w1, w2, ext_glue]
        congr 1
      · rw [two_bad2 c d] at h; exact absurd h d
    · rw [two_bad1 c] at h; exact absurd h c
theorem id_wrote {s : ByteArray} (h : 0 < s.size) : strOfNums [idOf s] = s.extract 0 1 := by
  apply bytes_ext
  rw [strOf_data, data_take]
  unfold idOf
  obtain ⟨l, hl⟩ : ∃ l, s.data.toList = l := ⟨_, rfl⟩
  rw [Lib.size_eq, hl] at h
  rw [hl]
  match l with
  | a :: t =>
    show [UInt8.ofNat (((a.toNat : Nat) : Int)).toNat] = [a]
    rw [Int.toNat_natCast, u8_same a rfl]
theorem tone_wrote {s : ByteArray} (hs : 0 < s.size) (h : (tone s).2.2 = 0) : oneStr (tone s).1 = s.extract 0 (tone s).2.1.toNat := by
  rcases tone_cases s with ⟨_, e⟩ | ⟨_, he, e⟩ | ⟨hk, he, e⟩
  · rw [e] at h; cases h
  · rw [e] at h; exact absurd (inn_zero.1 h) he
  · rw [e]
    have hr := kind_range (idOf s)
    have w := tk_wrote (idOf s) hr.1 hr.2 hk he
    have hb := tk_bound he
    show strOfNums [idOf s] ++ valStr (kindZ (idOf s)) ⟨idOf s, (tk (kindZ (idOf s)) (s.extract 1 s.size)).n, (tk (kindZ (idOf s)) (s.extract 1 s.size)).a, (tk (kindZ (idOf s)) (s.extract 1 s.size)).b⟩ = s.extract 0 (1 + (tk (kindZ (idOf s)) (s.extract 1 s.size)).k).toNat
    rw [w, id_wrote hs, ext_glue]
    congr 1
    omega
theorem size_zero {s : ByteArray} (h : s.size = 0) : s = ⟨#[]⟩ := ByteArray.size_eq_zero_iff.1 h
theorem ta_wrote (place : Int) : ∀ (f : Nat) (a : List P) (s : ByteArray) (L : List P), s.size < f → ta place f a s = (L, 0) → ∃ t, L = a ++ t ∧ catStr t = s ∧ goodL place a t = true := by
  intro f
  induction f with
  | zero => intro a s L hf _; omega
  | succ f ih =>
    intro a s L hf h
    by_cases h0 : s.size = 0
    · rw [ta_end h0] at h
      injection h with h1 _
      exact ⟨[], by rw [List.append_nil]; exact h1.symm, (size_zero h0).symm, rfl⟩
    by_cases he : (tone s).2.2 = 0
    · cases hm : mayB place a (tone s).1 with
      | false =>
        rw [ta_no h0 he hm] at h
        injection h with _ h2
        exact absurd h2 (by decide)
      | true =>
        by_cases h8 : a.length = 8
        · rw [ta_full h0 he hm h8] at h
          injection h with _ h2
          exact absurd h2 (by decide)
        · rw [ta_step h0 he hm h8] at h
          have hb := tone_bound (by omega) he
          obtain ⟨t, e1, e2, e3⟩ := ih _ _ _ (by rw [ByteArray.size_extract]; omega) h
          refine ⟨(tone s).1 :: t, by rw [e1, List.append_assoc]; rfl, ?_, ?_⟩
          · show oneStr (tone s).1 ++ catStr t = s
            rw [e2, tone_wrote (by omega) he, ext_all]
          · unfold goodL
            rw [tone_may he, hm, e3]
            rfl
    · rw [ta_bad h0 he] at h
      injection h with _ h2
      exact absurd h2 he
theorem takeP_wrote {place : Int} {s : ByteArray} {L : List P} {K : Int} (h : takeP place s = (L, K, 0)) : propsB place L = true ∧ 0 ≤ K ∧ K ≤ (s.size : Int) ∧ propStr L = s.extract 0 K.toNat := by
  have h8 := takeP_len h
  cases hp : placeB place with
  | false =>
    rw [takeP_place s hp] at h
    injection h with _ h2
    injection h2 with _ h3
    exact absurd h3 (by decide)
  | true =>
    rcases takeP_cases s hp with ⟨E, _, hE, e⟩ | ⟨_, _, _, _, _, _, e⟩ | ⟨_, _, E, _, _, _, _, _, hE, e⟩ | ⟨m, q, L', ht, hq, hm, h7, hta, e⟩
    · rw [e] at h
      injection h with _ h2
      injection h2 with _ h3
      exact absurd h3 hE
    · rw [e] at h
      injection h with _ h2
      injection h2 with _ h3
      exact absurd h3 (by decide)
    · rw [e] at h
      injection h with _ h2
      injection h2 with _ h3
      exact absurd h3 hE
    · rw [e] at h
      injection h with h1 h2
      injection h2 with h2 _
      subst h1 h2
      have hz : (s.extract q (q + m)).size = m := by rw [ByteArray.size_extract]; omega
      obtain ⟨t, e1, e2, e3⟩ := ta_wrote place _ [] _ _ (by omega) hta
      rw [List.nil_append] at e1
      subst e1
      refine ⟨?_, by omega, by omega, ?_⟩
      · unfold propsB
        rw [hp, e3, decide_eq_true h8]
        rfl
      · unfold propStr
        rw [rest_cat, e2, hz]
        rcases num_wrote s with ⟨E, e, hE⟩ | ⟨m', q', e, _, _, hw⟩
        · rw [ht] at e
          injection e with _ e2
          injection e2 with _ e3
          exact absurd e3.symm hE
        · rw [ht] at e
          injection e with e1 e2
          injection e2 with e2 _
          obtain ⟨rfl, rfl⟩ : m = m' ∧ q = q' := by omega
          rw [hw, ext_glue2]
          congr 1
end Go.Proofs.YtiancngpknnkaaaGreat.Prp
namespace Go.Proofs.YtiancngpknnkaaaGreat.Pkt
open Go.Lib Vbi Prp
theorem fix_inv {wd : Nat} {s y : ByteArray} {v : Int} (h : fixR wd s = .ok v y) : y.size + wd = s.size ∧ v = ((fixVal (s.data.toList.take wd) : Nat) : Int) := by
  unfold fixR at h
  by_cases c : s.size < wd
  · rw [if_pos c] at h; cases h
  · rw [if_neg c] at h
    injection h with h1 h2
    subst h1 h2
    refine ⟨?_, rfl⟩
    rw [ByteArray.size_extract]
    omega
theorem octet_inv {s y : ByteArray} {v : Int} (h : octetR s = .ok v y) : y.size + 1 = s.size ∧ 0 ≤ v ∧ v ≤ 255 := by
  obtain ⟨h1, h2⟩ := fix_inv h
  have := fixVal_one s.data.toList
  omega
theorem short_inv {s y : ByteArray} {v : Int} (h : shortR s = .ok v y) : y.size + 2 = s.size ∧ 0 ≤ v ∧ v < 65536 := by
  obtain ⟨h1, h2⟩ := fix_inv h
  have := fixVal_two s.data.toList
  omega
theorem number_inv {s y : ByteArray} {v : Int} (h : numberR s = .ok v y) : y.size + 2 = s.size ∧ 1 ≤ v ∧ v < 65536 := by
  unfold numberR at h
  by_cases c : s.size < 2
  · rw [if_pos c] at h; cases h
  · rw [if_neg c] at h
    by_cases d : fixVal (s.data.toList.take 2) = 0
    · rw [if_pos d] at h; cases h
    · rw [if_neg d] at h
      injection h with h1 h2
      subst h1 h2
      have := fixVal_two s.data.toList
      refine ⟨?_, by omega, by omega⟩
      rw [ByteArray.size_extract]
      omega
theorem long_inv {t : Bool} {s v y : ByteArray} (h : longR t s = .ok v y) : (lgStr v).size + y.size = s.size ∧ binB v = true ∧ (t = true → textB v = true) := by
  unfold longR at h
  by_cases c : (tl t s).2.2 = 0
  · rw [if_pos c] at h
    injection h with h1 h2
    obtain ⟨m, a1, a2, a3, a4, a5, a6⟩ := tl_took c
    rw [← h1]
    have hz : (tl t s).1.size = m := by rw [a5, ByteArray.size_extract]; omega
    have hy : y.size = s.size - (2 + m) := by rw [← h2, a1, Int.toNat_natCast, ByteArray.size_extract]; omega
    refine ⟨?_, ?_, a6⟩
    · unfold lgStr
      rw [ByteArray.size_append, fix2_size, hz, hy]
      omega
    · unfold binB
      rw [hz]
      exact decide_eq_true a3
  · rw [if_neg c] at h; cases h
theorem props_inv {k : Int} {s y : ByteArray} {l : List P} (h : propsR k s = .ok l y) : propsB k l = true ∧ (propStr l).size + y.size = s.size := by
  unfold propsR at h
  by_cases c : (takeP k s).2.2 = 0
  · rw [if_pos c] at h
    injection h with h1 h2
    subst h1 h2
    obtain ⟨L, K, hL⟩ : ∃ L K, takeP k s = (L, K, 0) := ⟨_, _, by rw [← c]⟩
    obtain ⟨a1, a2, a3, a4⟩ := takeP_wrote hL
    rw [hL]
    refine ⟨a1, ?_⟩
    show (propStr L).size + (s.extract K.toNat s.size).size = s.size
    rw [a4, ByteArray.size_extract, ByteArray.size_extract]
    omega
  · rw [if_neg c] at h; cases h
theorem run_inv {α : Type} {st : St} {f : ByteArray → Res α} {y : ByteArray} (h : (st.run f).st = .ok y) : ∃ s v, st = .ok s ∧ f s = .ok v y ∧ ∀ z, (st.run f).val z = v := by
  cases st with
  | bad e => cases h
  | ok s =>
    have h : (f s).st = .ok y := h
    cases hf : f s with
    | bad e => rw [hf] at h; cases h
    | ok v y' =>
      rw [hf] at h
      have h : St.ok y' = .ok y := h
      injection h with h
      subst h
      refine ⟨s, v, rfl, hf, fun z => ?_⟩
      show (f s).val z = v
      rw [hf]
      rfl
theorem want_inv {st : St} {b : Bool} {e : Int} {y : ByteArray} (h : st.want b e = .ok y) : st = .ok y ∧ b = true := by
  cases st with
  | bad x => cases h
  | ok s =>
    cases b with
    | false => cases h
    | true => exact ⟨h, rfl⟩
theorem ok_inj {s y : ByteArray} (h : St.ok s = .ok y) : s = y := by injection h
theorem allStr_size1 (x : Part) : (allStr [x]).size = x.str.size := by rw [allStr_cons, allStr_nil, add_empty]
theorem size_cons (x : Part) (l : List Part) : (allStr (x :: l)).size = x.str.size + (allStr l).size := by rw [allStr_cons, ByteArray.size_append]
theorem oc_size (n : Int) : (strOfNums [n]).size = 1 := by rw [strOfNums_size]; rfl
theorem fx_size (n : Int) : (fxStr n).size = 2 := fix2_size _
def WroteP (p : Pk) (s : ByteArray) : Prop := mayP p = true ∧ allOk (partsL p) = true ∧ (restP p).size ≤ s.size
theorem reason_wrote {q : Pk} {s y : ByteArray} (h1 : q.re = 0) (h2 : q.ps = []) (h : (reasonS q (.ok s)).2 = .ok y) :
    ∃ re ps, (reasonS q (.ok s)).1 = { q with re := re, ps := ps } ∧ allOk (reasonL { q with re := re, ps := ps }) = true ∧ (allStr (reasonL { q with re := re, ps := ps })).size + y.size ≤ s.size := by
  have hh : reasonS q (.ok s) = ({ q with re := ((St.ok s).optR octetR q.re).1, ps := (((St.ok s).optR octetR q.re).2.optR (propsR q.kind) q.ps).1 }, (((St.ok s).optR octetR q.re).2.optR (propsR q.kind) q.ps).2) := rfl
  rw [hh] at h ⊢
  have h : (((St.ok s).optR octetR q.re).2.optR (propsR q.kind) q.ps).2 = .ok y := h
  refine ⟨_, _, rfl, ?_⟩
  by_cases c : (St.ok s).more = true
  · have e1 : (St.ok s).optR octetR q.re = (((St.ok s).run octetR).val q.re, ((St.ok s).run octetR).st) := by unfold St.optR; rw [if_pos c]
    rw [e1] at h ⊢
    by_cases d : (((St.ok s).run octetR).st).more = true
    · have e2 : (((St.ok s).run octetR).st).optR (propsR q.kind) q.ps = (((((St.ok s).run octetR).st).run (propsR q.kind)).val q.ps, ((((St.ok s).run octetR).st).run (propsR q.kind)).st) := by
        conv => lhs; unfold St.optR
        rw [if_pos d]
      simp only [e2] at h ⊢
      obtain ⟨s1, l, a1, a2, a3⟩ := run_inv h
      obtain ⟨s0, v, b1, b2, b3⟩ := run_inv a1
      have := ok_inj b1
      subst this
      obtain ⟨c1, c2, c3⟩ := octet_inv b2
      obtain ⟨d1, d2⟩ := props_inv a2
      rw [a3, b3]
      unfold reasonL
      by_cases hl : l = []
      · subst hl
        have hp : (propStr []).size = 1 := by kernel_rfl
        by_cases hv : v = 0
        · subst hv
          refine ⟨rfl, ?_⟩
          show 0 + y.size ≤ _
          omega
        · have e3 : (if ({ q with re := v, ps := [] } : Pk).ps ≠ [] then [Part.octet v, .props q.kind []] else if v ≠ 0 then [Part.octet v] else []) = [.octet v] := by
            rw [if_neg (fun h => h rfl), if_pos hv]
          refine ⟨?_, ?_⟩
          · show allOk (if ({ q with re := v, ps := [] } : Pk).ps ≠ [] then [Part.octet v, .props q.kind []] else if v ≠ 0 then [Part.octet v] else []) = true
            rw [e3]
            simp [allOk, Part.okB, c2, c3]
          · show (allStr (if ({ q with re := v, ps := [] } : Pk).ps ≠ [] then [Part.octet v, .props q.kind []] else if v ≠ 0 then [Part.octet v] else [])).size + _ ≤ _
            rw [e3, allStr_size1]
            show (strOfNums [v]).size + _ ≤ _
            rw [oc_size]
            omega
      · have e3 : (if ({ q with re := v, ps := l } : Pk).ps ≠ [] then [Part.octet v, .props q.kind l] else if v ≠ 0 then [Part.octet v] else []) = [.octet v, .props q.kind l] := if_pos hl
        refine ⟨?_, ?_⟩
        · show allOk (if ({ q with re := v, ps := l } : Pk).ps ≠ [] then [Part.octet v, .props q.kind l] else if v ≠ 0 then [Part.octet v] else []) = true
          rw [e3]
          simp [allOk, Part.okB, c2, c3, d1]
        · show (allStr (if ({ q with re := v, ps := l } : Pk).ps ≠ [] then [Part.octet v, .props q.kind l] else if v ≠ 0 then [Part.octet v] else [])).size + _ ≤ _
          rw [e3, size_cons, allStr_size1]
          show (strOfNums [v]).size + (propStr l).size + _ ≤ _
          rw [oc_size]
          omega
    · have e2 : (((St.ok s).run octetR).st).optR (propsR q.kind) q.ps = (q.ps, ((St.ok s).run octetR).st) := by
        conv => lhs; unfold St.optR
        rw [if_neg d]
      simp only [e2] at h ⊢
      obtain ⟨s0, v, b1, b2, b3⟩ := run_inv h
      have := ok_inj b1
      subst this
      obtain ⟨c1, c2, c3⟩ := octet_inv b2
      rw [b3, h2]
      unfold reasonL
      by_cases hv : v = 0
      · subst hv
        refine ⟨rfl, ?_⟩
        show 0 + y.size ≤ _
        omega
      · have e3 : (if ({ q with re := v, ps := [] } : Pk).ps ≠ [] then [Part.octet v, .props q.kind []] else if v ≠ 0 then [Part.octet v] else []) = [.octet v] := by
          rw [if_neg (fun h => h rfl), if_pos hv]
        refine ⟨?_, ?_⟩
        · show allOk (if ({ q with re := v, ps := [] } : Pk).ps ≠ [] then [Part.octet v, .props q.kind []] else if v ≠ 0 then [Part.octet v] else []) = true
          rw [e3]
          simp [allOk, Part.okB, c2, c3]
        · show (allStr (if ({ q with re := v, ps := [] } : Pk).ps ≠ [] then [Part.octet v, .props q.kind []] else if v ≠ 0 then [Part.octet v] else [])).size + _ ≤ _
          rw [e3, allStr_size1]
          show (strOfNums [v]).size + _ ≤ _
          rw [oc_size]
          omega
  · have e1 : (St.ok s).optR octetR q.re = (q.re, .ok s) := by unfold St.optR; rw [if_neg c]
    rw [e1] at h ⊢
    have e2 : (St.ok s).optR (propsR q.kind) q.ps = (q.ps, .ok s) := by unfold St.optR; rw [if_neg c]
    simp only [e2] at h ⊢
    have := ok_inj h
    subst this
    rw [h1, h2]
    refine ⟨rfl, ?_⟩
    show 0 + s.size ≤ _
    omega
theorem codes_wrote : ∀ (f : Nat) (l : List Int) (s y : ByteArray) (L : List Int), manyR octetR f l s = .ok L y → l.length + f = 5 → f ≠ 0 →
    ∃ m, L = l ++ m ∧ allOk (codeL m) = true ∧ (allStr (codeL m)).size ≤ s.size ∧ 1 ≤ L.length ∧ L.length ≤ 4 := by
  intro f
  induction f with
  | zero => intro l s y L _ _ h0; exact absurd rfl h0
  | succ f ih =>
    intro l s y L h hl _
    unfold manyR at h
    by_cases c : s.size = 0
    · rw [if_pos c] at h
      by_cases d : l.length = 0
      · rw [if_pos d] at h; cases h
      · rw [if_neg d] at h
        injection h with h1 h2
        subst h1
        refine ⟨[], by simp, rfl, ?_, by omega, ?_⟩
        · show 0 ≤ _; omega
        · omega
    · rw [if_neg c] at h
      by_cases d : l.length = 4
      · rw [if_pos d] at h; cases h
      · rw [if_neg d] at h
        cases ho : octetR s with
        | bad e => rw [ho] at h; cases h
        | ok v s' =>
          rw [ho] at h
          have h : manyR octetR f (l ++ [v]) s' = .ok L y := h
          obtain ⟨c1, c2, c3⟩ := octet_inv ho
          have hf : f ≠ 0 := fun e => by omega
          obtain ⟨m, hm, h2, h3, h4, h5⟩ := ih (l ++ [v]) s' y L h (by rw [List.length_append]; show l.length + 1 + f = 5; omega) hf
          refine ⟨v :: m, by rw [hm]; simp, ?_, ?_, h4, h5⟩
          · show allOk (.octet v :: codeL m) = true
            rw [allOk_cons, h2]
            simp [Part.okB, c2, c3]
          · show (allStr (.octet v :: codeL m)).size ≤ _
            rw [size_cons]
            show (strOfNums [v]).size + _ ≤ _
            rw [oc_size]
            omega
theorem filter_inv {sub : Bool} {s y : ByteArray} {v : Fl} (h : filterR sub s = .ok v y) :
    allOk (filterL sub [v]) = true ∧ (allStr (filterL sub [v])).size + y.size = s.size ∧ mayFilB v = true ∧ (sub = false → onlyB v = true) := by
  unfold filterR at h
  cases hS : (filterS sub (.ok s)).2 with
  | bad e =>
    have : filterS sub (.ok s) = ((filterS sub (.ok s)).1, .bad e) := by rw [← hS]
    rw [this] at h
    cases h
  | ok y' =>
    have e0 : filterS sub (.ok s) = ((filterS sub (.ok s)).1, .ok y') := by rw [← hS]
    rw [e0] at h
    injection h with h1 h2
    subst h2
    cases sub with
    | true =>
      have hh : filterS true (.ok s) = (filOf (((St.ok s).run (longR true)).val ⟨#[]⟩) ((((St.ok s).run (longR true)).st.run octetR).val 0), (((St.ok s).run (longR true)).st.run octetR).st.want (decide ((((St.ok s).run (longR true)).st.run octetR).val 0 % 4 < 3 ∧ (((St.ok s).run (longR true)).st.run octetR).val 0 / 16 < 3)) 9) := rfl
      rw [hh] at hS h1
      obtain ⟨a1, a2⟩ := want_inv hS
      obtain ⟨s1, n, b1, b2, b3⟩ := run_inv a1
      obtain ⟨s0, t, c1, c2, c3⟩ := run_inv b1
      have := ok_inj c1
      subst this
      rw [b3] at a2 h1
      rw [c3] at h1
      have h1 : filOf t n = v := h1
      obtain ⟨d1, d2, d3⟩ := octet_inv b2
      obtain ⟨e1, e2, e3⟩ := long_inv c2
      have a2 := of_decide_eq_true a2
      have hz : filterZ v = n := by
        rw [← h1]
        unfold filterZ filOf bitZ
        simp only [decide_eq_true_eq]
        split <;> split <;> omega
      refine ⟨?_, ?_, ?_, fun h => by cases h⟩
      · show allOk [.words v.t, .octet (filterZ v)] = true
        rw [hz, ← h1]
        simp [allOk, Part.okB, d2, d3]
        exact e3 rfl
      · show (allStr [.words v.t, .octet (filterZ v)]).size + _ = _
        rw [size_cons, allStr_size1, hz, ← h1]
        show (lgStr t).size + (strOfNums [n]).size + _ = _
        rw [oc_size]
        omega
      · rw [← h1]
        unfold mayFilB qosB filOf
        simp only [Bool.and_eq_true, decide_eq_true_eq]
        omega
    | false =>
      have hh : filterS false (.ok s) = (⟨((St.ok s).run (longR true)).val ⟨#[]⟩, 0, false, false, 0⟩, ((St.ok s).run (longR true)).st) := rfl
      rw [hh] at hS h1
      obtain ⟨s0, t, c1, c2, c3⟩ := run_inv hS
      have := ok_inj c1
      subst this
      rw [c3] at h1
      have h1 : (⟨t, 0, false, false, 0⟩ : Fl) = v := h1
      obtain ⟨e1, e2, e3⟩ := long_inv c2
      refine ⟨?_, ?_, ?_, fun _ => ?_⟩
      · rw [← h1]
        show allOk [.words t] = true
        simp [allOk, Part.okB]
        exact e3 rfl
      · rw [← h1]
        show (allStr [.words t]).size + _ = _
        rw [allStr_size1]
        exact e1
      · rw [← h1]; rfl
      · rw [← h1]; rfl
theorem filterL_cons (sub : Bool) (v : Fl) (m : List Fl) : filterL sub (v :: m) = filterL sub [v] ++ filterL sub m := by
  unfold filterL
  rw [List.flatMap_cons, List.flatMap_cons, List.flatMap_nil, List.append_nil]
theorem filters_wrote (sub : Bool) : ∀ (f : Nat) (l : List Fl) (s y : ByteArray) (L : List Fl), manyR (filterR sub) f l s = .ok L y → l.length + f = 5 → f ≠ 0 →
    ∃ m, L = l ++ m ∧ allOk (filterL sub m) = true ∧ (allStr (filterL sub m)).size ≤ s.size ∧ (∀ x ∈ m, mayFilB x = true ∧ (sub = false → onlyB x = true)) ∧ 1 ≤ L.length ∧ L.length ≤ 4 := by
  intro f
  induction f with
  | zero => intro l s y L _ _ h0; exact absurd rfl h0
  | succ f ih =>
    intro l s y L h hl _
    unfold manyR at h
    by_cases c : s.size = 0
    · rw [if_pos c] at h
      by_cases d : l.length = 0
      · rw [if_pos d] at h; cases h
      · rw [if_neg d] at h
        injection h with h1 h2
        subst h1
        refine ⟨[], by simp, rfl, ?_, by simp, by omega, by omega⟩
        show 0 ≤ _
        omega
    · rw [if_neg c] at h
      by_cases d : l.length = 4
      · rw [if_pos d] at h; cases h
      · rw [if_neg d] at h
        cases ho : filterR sub s with
        | bad e => rw [ho] at h; cases h
        | ok v s' =>
          rw [ho] at h
          have h : manyR (filterR sub) f (l ++ [v]) s' = .ok L y := h
          obtain ⟨c1, c2, c3, c4⟩ := filter_inv ho
          have hf : f ≠ 0 := fun e => by omega
          obtain ⟨m, hm, h2, h3, h4, h5, h6⟩ := ih (l ++ [v]) s' y L h (by rw [List.length_append]; show l.length + 1 + f = 5; omega) hf
          refine ⟨v :: m, by rw [hm]; simp, ?_, ?_, ?_, h5, h6⟩
          · rw [filterL_cons, allOk_app, c1, h2]; rfl
          · rw [filterL_cons, allStr_app, ByteArray.size_append]
            omega
          · intro x hx
            rcases List.mem_cons.1 hx with rfl | hx
            · exact ⟨c3, c4⟩
            · exact h4 x hx
theorem wrote_none {k : Int} (hk : k = 12 ∨ k = 13) (s : ByteArray) : WroteP (zp k) s := by
  rcases hk with rfl | rfl
  · exact ⟨rfl, rfl, Nat.zero_le _⟩
  · exact ⟨rfl, rfl, Nat.zero_le _⟩
theorem wrote_2 {s y : ByteArray} (h : (ackS (zp 2) (.ok s)).2 = .ok y) : WroteP (ackS (zp 2) (.ok s)).1 s := by
  have hh : ackS (zp 2) (.ok s) = ({ zp 2 with pre := decide (((St.ok s).run octetR).val 0 = 1), re := ((((St.ok s).run octetR).st.want (decide (((St.ok s).run octetR).val 0 ≤ 1)) 8).run octetR).val 0, ps := ((((((St.ok s).run octetR).st.want (decide (((St.ok s).run octetR).val 0 ≤ 1)) 8).run octetR).st).run (propsR 2)).val [] }, ((((((St.ok s).run octetR).st.want (decide (((St.ok s).run octetR).val 0 ≤ 1)) 8).run octetR).st).run (propsR 2)).st) := rfl
  rw [hh] at h ⊢
  obtain ⟨s2, l, a1, a2, a3⟩ := run_inv h
  obtain ⟨s1, n, t1, t2, t3⟩ := run_inv a1
  obtain ⟨c1, c2⟩ := want_inv t1
  obtain ⟨s0, m, d1, d2, d3⟩ := run_inv c1
  have := ok_inj d1
  subst this
  rw [a3, t3, d3]
  obtain ⟨e1, e2⟩ := props_inv a2
  obtain ⟨f1, f2, f3⟩ := octet_inv t2
  obtain ⟨g1, g2, g3⟩ := octet_inv d2
  refine ⟨by show mayP { zp 2 with pre := decide (m = 1), re := n, ps := l } = true; simp [mayP, fieldB, fieldOf, b1, b3, wFilled, E, zp, zw], ?_, ?_⟩
  · show allOk [.octet (bitZ (decide (m = 1)) 1), .octet n, .props 2 l] = true
    have hb := bit_le (decide (m = 1))
    simp [allOk, Part.okB, f2, f3, e1]
    omega
  · show (allStr [.octet (bitZ (decide (m = 1)) 1), .octet n, .props 2 l]).size ≤ _
    rw [size_cons, size_cons, allStr_size1]
    show (strOfNums [_]).size + ((strOfNums [_]).size + (propStr l).size) ≤ _
    rw [oc_size, oc_size]
    omega
theorem wrote_re {k : Int} (hk : k = 14 ∨ k = 15) {s y : ByteArray} (h : (reasonS (zp k) (.ok s)).2 = .ok y) : WroteP (reasonS (zp k) (.ok s)).1 s := by
  obtain ⟨re, ps, e, h1, h2⟩ := reason_wrote rfl rfl h
  rw [e]
  have hp : partsL { zp k with re := re, ps := ps } = reasonL { zp k with re := re, ps := ps } := by rcases hk with rfl | rfl <;> rfl
  refine ⟨?_, by rw [hp]; exact h1, ?_⟩
  · rcases hk with rfl | rfl <;> simp [mayP, fieldB, fieldOf, b1, b3, wFilled, E, zp, zw]
  · unfold restP
    rw [hp]
    exact Nat.le_trans (Nat.le_add_right _ y.size) h2
theorem wrote_id {k : Int} (hk : k = 4 ∨ k = 5 ∨ k = 6 ∨ k = 7) {s y : ByteArray} (h : (idReasonS (zp k) (.ok s)).2 = .ok y) : WroteP (idReasonS (zp k) (.ok s)).1 s := by
  have hh : idReasonS (zp k) (.ok s) = reasonS { zp k with id := ((St.ok s).run numberR).val 0 } ((St.ok s).run numberR).st := rfl
  rw [hh] at h ⊢
  cases hst : ((St.ok s).run numberR).st with
  | bad e => rw [hst] at h; cases h
  | ok s1 =>
    obtain ⟨s0, n, a1, a2, a3⟩ := run_inv hst
    have := ok_inj a1
    subst this
    obtain ⟨n1, n2, n3⟩ := number_inv a2
    rw [hst, a3] at h
    rw [a3]
    obtain ⟨re, ps, e, h1, h2⟩ := reason_wrote (q := { zp k with id := n }) rfl rfl h
    rw [e]
    have hp : partsL { { zp k with id := n } with re := re, ps := ps } = [.number n] ++ reasonL { { zp k with id := n } with re := re, ps := ps } := by rcases hk with rfl | rfl | rfl | rfl <;> rfl
    have hn : Part.okB (.number n) = true := decide_eq_true ⟨n2, n3⟩
    refine ⟨?_, ?_, ?_⟩
    · rcases hk with rfl | rfl | rfl | rfl <;> simp [mayP, fieldB, fieldOf, b1, b3, wFilled, E, zp, zw]
    · rw [hp, allOk_app, h1]
      show (Part.okB (.number n) && true) && true = true
      rw [hn]
      rfl
    · unfold restP
      rw [hp, allStr_app, ByteArray.size_append, allStr_size1]
      show (fxStr n).size + _ ≤ _
      rw [fx_size]
      exact Nat.le_trans (Nat.add_le_add_left (Nat.le_trans (Nat.le_add_right _ y.size) h2) 2) (by omega)
theorem wrote_cs {k : Int} (hk : k = 9 ∨ k = 11) {s y : ByteArray} (h : (codesS (zp k) (.ok s)).2 = .ok y) : WroteP (codesS (zp k) (.ok s)).1 s := by
  have hh : codesS (zp k) (.ok s) = ({ zp k with id := ((St.ok s).run numberR).val 0, ps := (((St.ok s).run numberR).st.run (propsR k)).val [], cs := ((((St.ok s).run numberR).st.run (propsR k)).st.run (manyR octetR 5 [])).val [] }, ((((St.ok s).run numberR).st.run (propsR k)).st.run (manyR octetR 5 [])).st) := rfl
  rw [hh] at h ⊢
  obtain ⟨s2, L, a1, a2, a3⟩ := run_inv h
  obtain ⟨s1, l, c1, c2, c3⟩ := run_inv a1
  obtain ⟨s0, n, d1, d2, d3⟩ := run_inv c1
  have := ok_inj d1
  subst this
  rw [a3, c3, d3]
  obtain ⟨e1, e2⟩ := props_inv c2
  obtain ⟨n1, n2, n3⟩ := number_inv d2
  obtain ⟨m, f1, f2, f3, f4, f5⟩ := codes_wrote 5 [] s2 y L a2 rfl (by decide)
  obtain rfl : L = m := by rw [f1]; rfl
  have hn : Part.okB (.number n) = true := decide_eq_true ⟨n2, n3⟩
  have hp : partsL { zp k with id := n, ps := l, cs := L } = [.number n, .props k l] ++ codeL L := by rcases hk with rfl | rfl <;> rfl
  have hc : countB L.length = true := decide_eq_true ⟨f4, f5⟩
  refine ⟨?_, ?_, ?_⟩
  · rcases hk with rfl | rfl <;> simp [mayP, fieldB, fieldOf, b1, b3, wFilled, E, zp, zw, hc]
  · rw [hp, allOk_app, f2]
    show (Part.okB (.number n) && (propsB k l && true)) && true = true
    rw [hn, e1]
    rfl
  · unfold restP
    rw [hp, allStr_app, ByteArray.size_append, size_cons, allStr_size1]
    show (fxStr n).size + (propStr l).size + _ ≤ _
    rw [fx_size]
    omega
theorem wrote_fs {k : Int} {sub : Bool} (hk : k = 8 ∧ sub = true ∨ k = 10 ∧ sub = false) {s y : ByteArray} (h : (askS sub (zp k) (.ok s)).2 = .ok y) : WroteP (askS sub (zp k) (.ok s)).1 s := by
  have hh : askS sub (zp k) (.ok s) = ({ zp k with id := ((St.ok s).run numberR).val 0, ps := (((St.ok s).run numberR).st.run (propsR k)).val [], fs := ((((St.ok s).run numberR).st.run (propsR k)).st.run (manyR (filterR sub) 5 [])).val [] }, ((((St.ok s).run numberR).st.run (propsR k)).st.run (manyR (filterR sub) 5 [])).st) := rfl
  rw [hh] at h ⊢
  obtain ⟨s2, L, a1, a2, a3⟩ := run_inv h
  obtain ⟨s1, l, c1, c2, c3⟩ := run_inv a1
  obtain ⟨s0, n, d1, d2, d3⟩ := run_inv c1
  have := ok_inj d1
  subst this
  rw [a3, c3, d3]
  obtain ⟨e1, e2⟩ := props_inv c2
  obtain ⟨n1, n2, n3⟩ := number_inv d2
  obtain ⟨m, f1, f2, f3, f6, f4, f5⟩ := filters_wrote sub 5 [] s2 y L a2 rfl (by decide)
  obtain rfl : L = m := by rw [f1]; rfl
  have hn : Part.okB (.number n) = true := decide_eq_true ⟨n2, n3⟩
  have hp : partsL { zp k with id := n, ps := l, fs := L } = [.number n, .props k l] ++ filterL sub L := by rcases hk with ⟨rfl, rfl⟩ | ⟨rfl, rfl⟩ <;> rfl
  have hc : askB { zp k with id := n, ps := l, fs := L } = true := by
    unfold askB
    rw [Bool.and_eq_true, List.all_eq_true]
    refine ⟨fun x hx => ?_, decide_eq_true ⟨f4, f5⟩⟩
    obtain ⟨g1, g2⟩ := f6 x hx
    rw [g1, Bool.true_and]
    rcases hk with ⟨rfl, rfl⟩ | ⟨rfl, rfl⟩
    · rfl
    · rw [g2 rfl]; rfl
  refine ⟨?_, ?_, ?_⟩
  · rcases hk with ⟨rfl, rfl⟩ | ⟨rfl, rfl⟩
    · have hm : mayP { zp 8 with id := n, ps := l, fs := L } = askB { zp 8 with id := n, ps := l, fs := L } := by simp [mayP, fieldB, fieldOf, b1, b3, wFilled, E, zp, zw]
      rw [hm]; exact hc
    · have hm : mayP { zp 10 with id := n, ps := l, fs := L } = askB { zp 10 with id := n, ps := l, fs := L } := by simp [mayP, fieldB, fieldOf, b1, b3, wFilled, E, zp, zw]
      rw [hm]; exact hc
  · rw [hp, allOk_app, f2]
    show (Part.okB (.number n) && (propsB k l && true)) && true = true
    rw [hn, e1]
    rfl
  · unfold restP
    rw [hp, allStr_app, ByteArray.size_append, size_cons, allStr_size1]
    show (fxStr n).size + (propStr l).size + _ ≤ _
    rw [fx_size]
    omega
theorem body_inv {st : St} {y : ByteArray} (h : (bodyR st).2 = .ok y) : ∃ s, st = .ok s ∧ s.size ≤ 1024 ∧ (bodyR st).1 = s := by
  cases st with
  | bad e => cases h
  | ok s =>
    refine ⟨s, rfl, ?_⟩
    by_cases c : s.size ≤ 1024
    · exact ⟨c, by rw [bodyR_ok c]⟩
    · exfalso
      unfold bodyR at h
      have e : (St.ok s).want (decide ((St.ok s).rest.size ≤ 1024)) 2 = .bad 2 := by
        rw [show decide ((St.ok s).rest.size ≤ 1024) = false from decide_eq_false c]
        rfl
      rw [e] at h
      cases h
theorem wrote_3 {dup ret : Bool} {q : Int} (hq : sendB dup q = true) {s y : ByteArray} (h : (publishS { zp 3 with dup := dup, q := q, ret := ret } (.ok s)).2 = .ok y) :
    WroteP (publishS { zp 3 with dup := dup, q := q, ret := ret } (.ok s)).1 s := by
  have ho : ∀ (t b : ByteArray) (l : List P), textB t = true → propsB 3 l = true → allOk [.words t, .props 3 l, .raw b] = true := fun t b l h1 h2 => by
    simp [allOk, Part.okB, h1, h2]
  unfold publishS at h ⊢
  by_cases c : 0 < q
  · simp only [if_pos c] at h ⊢
    obtain ⟨s3, z1, z2, z3⟩ := body_inv h
    obtain ⟨s2, l, a1, a2, a3⟩ := run_inv z1
    obtain ⟨s1, n, c1, c2, c3⟩ := run_inv a1
    obtain ⟨s0, t, d1, d2, d3⟩ := run_inv c1
    have := ok_inj d1
    subst this
    rw [z3, a3, c3, d3]
    obtain ⟨e1, e2⟩ := props_inv a2
    obtain ⟨n1, n2, n3⟩ := number_inv c2
    obtain ⟨g1, g2, g3⟩ := long_inv d2
    have hn : Part.okB (.number n) = true := decide_eq_true ⟨n2, n3⟩
    have hp : partsL { zp 3 with dup := dup, q := q, ret := ret, t := t, id := n, ps := l, b := s3 } = [.words t, .number n, .props 3 l, .raw s3] := by
      show (if q = 0 then _ else _) = _
      rw [if_neg (by omega)]
      rfl
    refine ⟨?_, ?_, ?_⟩
    · have hm : mayP { zp 3 with dup := dup, q := q, ret := ret, t := t, id := n, ps := l, b := s3 } = (sendB dup q && ((decide (0 < q) || decide (n = 0)) && decide (s3.size ≤ 1024))) := by simp [mayP, fieldB, fieldOf, b1, b3, wFilled, E, zp, zw]
      rw [hm, hq, decide_eq_true c, decide_eq_true z2]
      rfl
    · rw [hp]
      show (textB t && (Part.okB (.number n) && (propsB 3 l && (true && true)))) = true
      rw [g3 rfl, hn, show propsB 3 l = true from e1]
      rfl
    · unfold restP
      rw [hp, size_cons, size_cons, size_cons, allStr_size1]
      show (lgStr t).size + ((fxStr n).size + ((propStr l).size + s3.size)) ≤ _
      rw [fx_size]
      omega
  · simp only [if_neg c] at h ⊢
    obtain ⟨s3, z1, z2, z3⟩ := body_inv h
    obtain ⟨s2, l, a1, a2, a3⟩ := run_inv z1
    have hq0 : q = 0 := by
      unfold sendB qosB at hq
      simp only [Bool.and_eq_true, decide_eq_true_eq] at hq
      omega
    cases hst : ((St.ok s).run (longR true)).st with
    | bad e => rw [hst] at a1; cases a1
    | ok s1 =>
      rw [hst] at a1 a3 z1 z3
      have a1 : St.ok s1 = .ok s2 := a1
      have := ok_inj a1
      subst this
      obtain ⟨s0, t, d1, d2, d3⟩ := run_inv hst
      have := ok_inj d1
      subst this
      rw [z3, a3, d3]
      obtain ⟨e1, e2⟩ := props_inv a2
      obtain ⟨g1, g2, g3⟩ := long_inv d2
      have hp : partsL { zp 3 with dup := dup, q := q, ret := ret, t := t, ps := l, b := s3 } = [.words t, .props 3 l, .raw s3] := by
        show (if q = 0 then _ else _) = _
        rw [if_pos hq0]
        rfl
      refine ⟨?_, ?_, ?_⟩
      · have hm : mayP { zp 3 with dup := dup, q := q, ret := ret, t := t, ps := l, b := s3 } = (sendB dup q && decide (s3.size ≤ 1024)) := by simp [mayP, fieldB, fieldOf, b1, b3, wFilled, E, zp, zw]
        rw [hm, hq, decide_eq_true z2]
        rfl
      · rw [hp]
        exact ho t s3 l (g3 rfl) e1
      · unfold restP
        rw [hp, size_cons, size_cons, allStr_size1]
        show (lgStr t).size + ((propStr l).size + s3.size) ≤ _
        omega
theorem if_inv {b t : Bool} {st : St} {v y : ByteArray} (h : ifR b t st = (v, .ok y)) :
    ∃ s, st = .ok s ∧ (b = true → (lgStr v).size + y.size = s.size ∧ binB v = true ∧ (t = true → textB v = true)) ∧ (b = false → v = ⟨#[]⟩ ∧ y = s) := by
  unfold ifR at h
  cases b with
  | true =>
    rw [if_pos rfl] at h
    injection h with h1 h2
    obtain ⟨s, w, a1, a2, a3⟩ := run_inv h2
    rw [a3] at h1
    subst h1
    exact ⟨s, a1, fun _ => long_inv a2, fun h => by cases h⟩
  | false =>
    rw [if_neg (by decide)] at h
    injection h with h1 h2
    exact ⟨y, h2, (fun h => by cases h), fun _ => ⟨h1.symm, rfl⟩⟩
theorem will_inv {w w' : Wl} {st : St} {y : ByteArray} (h : willS w st = (w', .ok y)) :
    ∃ s, st = .ok s ∧ (w.has = true → w'.has = true ∧ w'.q = w.q ∧ w'.ret = w.ret ∧ propsB 0 w'.ps = true ∧ textB w'.t = true ∧ E w'.t = false ∧ binB w'.b = true ∧ (propStr w'.ps).size + ((lgStr w'.t).size + (lgStr w'.b).size) + y.size = s.size) ∧ (w.has = false → w' = w ∧ y = s) := by
  unfold willS at h
  by_cases hh : w.has = true
  · simp only [if_pos hh] at h
    injection h with h1 h2
    obtain ⟨s2, v2, a1, a2, a3⟩ := run_inv h2
    obtain ⟨c1, c2⟩ := want_inv a1
    obtain ⟨s1, v1, d1, d2, d3⟩ := run_inv c1
    obtain ⟨s0, v0, e1, e2, e3⟩ := run_inv d1
    rw [d3] at c2
    have c2 := of_decide_eq_true c2
    rw [a3, d3, e3] at h1
    subst h1
    obtain ⟨f1, f2⟩ := props_inv e2
    obtain ⟨g1, g2, g3⟩ := long_inv d2
    obtain ⟨k1, k2, k3⟩ := long_inv a2
    refine ⟨s0, e1, fun _ => ⟨hh, rfl, rfl, f1, g3 rfl, decide_eq_false c2, k2, ?_⟩, fun h => absurd h (by rw [hh]; decide)⟩
    show (propStr v0).size + ((lgStr v1).size + (lgStr v2).size) + y.size = s0.size
    omega
  · simp only [if_neg hh] at h
    injection h with h1 h2
    exact ⟨y, h2, fun h => absurd h hh, fun _ => ⟨h1.symm, rfl⟩⟩
theorem login_back {n : Int} (h : cfB n = true) (h0 : 0 ≤ n) (h1 : n ≤ 255) (w : Wl) (hw1 : w.has = (willOf n).has) (hw2 : w.q = (willOf n).q) (hw3 : w.ret = (willOf n).ret) :
    bitZ (decide (n / 2 % 2 = 1)) 2 + bitZ w.has 4 + 8 * w.q + bitZ w.ret 32 + bitZ (decide (n / 64 % 2 = 1)) 64 + bitZ (decide (n / 128 = 1)) 128 = n := by
  unfold cfB at h
  have h' := of_decide_eq_true h
  rw [hw1, hw2, hw3]
  unfold willOf
  by_cases c : n / 4 % 2 = 1
  · rw [if_pos c]
    unfold bitZ
    simp only [decide_eq_true_eq, if_true]
    split <;> split <;> split <;> split <;> omega
  · rw [if_neg c]
    unfold bitZ zw
    simp only [decide_eq_true_eq, if_false, Bool.false_eq_true]
    split <;> split <;> split <;> omega
theorem wrote_1 {s y : ByteArray} (h : (connectS (zp 1) (.ok s)).2 = .ok y) : WroteP (connectS (zp 1) (.ok s)).1 s := by
  obtain ⟨n, hn⟩ : ∃ n, connFlags (.ok s) = n := ⟨_, rfl⟩
  have hc : connectS (zp 1) (.ok s) = connRest (withFlags (zp 1) n (willOf n)) (connSt (.ok s)) := by unfold connectS; rw [hn]
  rw [hc] at h ⊢
  obtain ⟨q, hq⟩ : ∃ q, withFlags (zp 1) n (willOf n) = q := ⟨_, rfl⟩
  rw [hq] at h ⊢
  obtain ⟨st, hst⟩ : ∃ st, connSt (.ok s) = st := ⟨_, rfl⟩
  rw [hst] at h ⊢
  have hh : connRest q st = ({ q with keep := (st.run shortR).val 0, ps := ((st.run shortR).st.run (propsR q.kind)).val [], cl := (((st.run shortR).st.run (propsR q.kind)).st.run (longR true)).val ⟨#[]⟩, w := (willS q.w (((st.run shortR).st.run (propsR q.kind)).st.run (longR true)).st).1, u := (ifR q.hu true (willS q.w (((st.run shortR).st.run (propsR q.kind)).st.run (longR true)).st).2).1, pw := (ifR q.hp false (ifR q.hu true (willS q.w (((st.run shortR).st.run (propsR q.kind)).st.run (longR true)).st).2).2).1 }, (ifR q.hp false (ifR q.hu true (willS q.w (((st.run shortR).st.run (propsR q.kind)).st.run (longR true)).st).2).2).2) := rfl
  rw [hh] at h ⊢
  obtain ⟨V, hV⟩ : ∃ V, willS q.w (((st.run shortR).st.run (propsR q.kind)).st.run (longR true)).st = V := ⟨_, rfl⟩
  rw [hV] at h ⊢
  obtain ⟨U, hU⟩ : ∃ U, ifR q.hu true V.2 = U := ⟨_, rfl⟩
  rw [hU] at h ⊢
  obtain ⟨B, hB⟩ : ∃ B, ifR q.hp false U.2 = B := ⟨_, rfl⟩
  rw [hB] at h ⊢
  have h : B.2 = .ok y := h
  obtain ⟨sa, p1, p2, p3⟩ := if_inv (v := B.1) (y := y) (hB.trans (by rw [← h]))
  obtain ⟨sb, u1, u2, u3⟩ := if_inv (v := U.1) (y := sa) (hU.trans (by rw [← p1]))
  obtain ⟨sc, w1, w2, w3⟩ := will_inv (w' := V.1) (y := sb) (hV.trans (by rw [← u1]))
  obtain ⟨s5, cl, c1, c2, c3⟩ := run_inv w1
  obtain ⟨s4, l, l1, l2, l3⟩ := run_inv c1
  obtain ⟨s3, k, k1, k2, k3⟩ := run_inv l1
  rw [c3, l3, k3]
  -- the beginning
  have e0 : connSt (.ok s) = .ok s3 := hst.trans k1
  have e1 : connSt (.ok s) = ((connHead (.ok s)).run octetR).st.want (cfB (connFlags (.ok s))) 8 := rfl
  rw [e1] at e0
  obtain ⟨f1, f2⟩ := want_inv e0
  obtain ⟨s2, m, g1, g2, g3⟩ := run_inv f1
  have hm : m = n := by rw [← hn]; exact (g3 0).symm
  subst hm
  rw [hn] at f2
  have e2 : connHead (.ok s) = ((((St.ok s).run (longR true)).st.want (decide (((St.ok s).run (longR true)).val ⟨#[]⟩ = mqtt)) 9).run octetR).st.want (decide (((((St.ok s).run (longR true)).st.want (decide (((St.ok s).run (longR true)).val ⟨#[]⟩ = mqtt)) 9).run octetR).val 0 = 5)) 9 := rfl
  rw [e2] at g1
  obtain ⟨i1, i2⟩ := want_inv g1
  obtain ⟨s1, five, j1, j2, j3⟩ := run_inv i1
  obtain ⟨o1, o2⟩ := want_inv j1
  obtain ⟨s0, name, q1, q2, q3⟩ := run_inv o1
  have := ok_inj q1
  subst this
  rw [q3] at o2
  have o2 := of_decide_eq_true o2
  subst o2
  obtain ⟨z1, _, _⟩ := long_inv q2
  obtain ⟨z2, _, _⟩ := octet_inv j2
  obtain ⟨z3, m0, m1⟩ := octet_inv g2
  obtain ⟨z4, k0, k9⟩ := short_inv k2
  obtain ⟨z5, z6⟩ := props_inv l2
  obtain ⟨z7, z8, z9⟩ := long_inv c2
  have hqk : q.kind = 1 := by rw [← hq]; rfl
  have hqw : q.w = willOf m := by rw [← hq]; rfl
  have hqc : q.clean = decide (m / 2 % 2 = 1) := by rw [← hq]; rfl
  have hqp : q.hp = decide (m / 64 % 2 = 1) := by rw [← hq]; rfl
  have hqu : q.hu = decide (m / 128 = 1) := by rw [← hq]; rfl
  have hV3 : V.1.has = (willOf m).has ∧ V.1.q = (willOf m).q ∧ V.1.ret = (willOf m).ret := by
    rw [← hqw]
    by_cases hh : q.w.has = true
    · obtain ⟨x1, x2, x3, _⟩ := w2 hh
      exact ⟨x1.trans hh.symm, x2, x3⟩
    · obtain ⟨x1, _⟩ := w3 (by simpa using hh)
      rw [x1]
      exact ⟨rfl, rfl, rfl⟩
  obtain ⟨P, hP⟩ : ∃ P : Pk, { q with keep := k, ps := l, cl := cl, w := V.1, u := U.1, pw := B.1 } = P := ⟨_, rfl⟩
  rw [hP]
  have hPk : P.kind = 1 := by rw [← hP]; exact hqk
  have hlz : loginZ P = m := by
    have := login_back f2 m0 m1 V.1 hV3.1 hV3.2.1 hV3.2.2
    rw [← hP]
    unfold loginZ
    show bitZ q.clean 2 + bitZ V.1.has 4 + 8 * V.1.q + bitZ V.1.ret 32 + bitZ q.hp 64 + bitZ q.hu 128 = m
    rw [hqc, hqp, hqu]
    exact this
  have hPF : P.ps = l ∧ P.cl = cl ∧ P.keep = k ∧ P.w = V.1 ∧ P.u = U.1 ∧ P.pw = B.1 ∧ P.hu = q.hu ∧ P.hp = q.hp := by rw [← hP]; exact ⟨rfl, rfl, rfl, rfl, rfl, rfl, rfl, rfl⟩
  obtain ⟨t1, t2, t3, t4, t5, t6, t7, t8⟩ := hPF
  have hF : fieldB P = true := by rw [← hP, ← hq]; simp [fieldB, fieldOf, b3, E, zp, withFlags]
  have hz : P.dup = false := by rw [← hP, ← hq]; rfl
  have hmq : Part.okB (.words mqtt) = true := by show textB mqtt = true; kernel_rfl
  have hlm : (lgStr mqtt).size = 6 := by kernel_rfl
  have hwl : allOk (willL P) = true ∧ (allStr (willL P)).size + sb.size = s5.size - (lgStr cl).size := by
    unfold willL
    rw [t4]
    by_cases hh : q.w.has = true
    · obtain ⟨x1, x2, x3, x4, x5, x6, x7, x8⟩ := w2 hh
      rw [if_pos x1]
      refine ⟨?_, ?_⟩
      · show (propsB 0 V.1.ps && (textB V.1.t && (binB V.1.b && true))) = true
        rw [x4, x5, x7]
        rfl
      · rw [size_cons, size_cons, allStr_size1]
        show (propStr V.1.ps).size + ((lgStr V.1.t).size + (lgStr V.1.b).size) + _ = _
        omega
    · obtain ⟨x1, x2⟩ := w3 (by simpa using hh)
      rw [x1, if_neg hh]
      refine ⟨rfl, ?_⟩
      show 0 + _ = _
      rw [x2]
      omega
  have hul : allOk (userL P) = true ∧ (allStr (userL P)).size + sa.size = sb.size := by
    unfold userL
    rw [t5, t7]
    by_cases hh : q.hu = true
    · obtain ⟨x1, x2, x3⟩ := u2 hh
      rw [if_pos hh]
      refine ⟨?_, ?_⟩
      · show (textB U.1 && true) = true
        rw [x3 rfl]
        rfl
      · rw [allStr_size1]; exact x1
    · obtain ⟨x1, x2⟩ := u3 (by simpa using hh)
      rw [if_neg hh]
      refine ⟨rfl, ?_⟩
      show 0 + _ = _
      rw [x2]
      omega
  have hpl : allOk (passL P) = true ∧ (allStr (passL P)).size + y.size = sa.size := by
    unfold passL
    rw [t6, t8]
    by_cases hh : q.hp = true
    · obtain ⟨x1, x2, x3⟩ := p2 hh
      rw [if_pos hh]
      refine ⟨?_, ?_⟩
      · show (binB B.1 && true) = true
        rw [x2]
        rfl
      · rw [allStr_size1]; exact x1
    · obtain ⟨x1, x2⟩ := p3 (by simpa using hh)
      rw [if_neg hh]
      refine ⟨rfl, ?_⟩
      show 0 + _ = _
      rw [x2]
      omega
  have hp : partsL P = connectL P := by unfold partsL; rw [if_pos hPk]
  refine ⟨?_, ?_, ?_⟩
  · have hmay : mayP P = logInB P := by unfold mayP; rw [hF, hPk]; simp
    rw [hmay]
    unfold logInB
    rw [t4, t5, t6, t7, t8]
    have hu' : (E U.1 || q.hu) = true := by
      by_cases hh : q.hu = true
      · rw [hh]; simp
      · obtain ⟨x1, _⟩ := u3 (by simpa using hh)
        rw [x1]; rfl
    have hp' : (E B.1 || q.hp) = true := by
      by_cases hh : q.hp = true
      · rw [hh]; simp
      · obtain ⟨x1, _⟩ := p3 (by simpa using hh)
        rw [x1]; rfl
    rw [hu', hp', Bool.true_and, Bool.true_and]
    by_cases hh : q.w.has = true
    · obtain ⟨x1, x2, x3, x4, x5, x6, x7, x8⟩ := w2 hh
      rw [if_pos x1, x6, x2, hqw]
      have hq3 : (willOf m).has = true := by rw [← hqw]; exact hh
      unfold cfB at f2
      have f2 := of_decide_eq_true f2
      unfold willOf at hq3 ⊢
      by_cases c : m / 4 % 2 = 1
      · rw [if_pos c]
        show (qosB (m / 8 % 4) && !false) = true
        unfold qosB
        rw [decide_eq_true (by omega)]
        rfl
      · rw [if_neg c] at hq3
        cases hq3
    · obtain ⟨x1, x2⟩ := w3 (by simpa using hh)
      rw [x1, if_neg hh, hqw]
      have hq3 : ¬ (willOf m).has = true := by rw [← hqw]; exact hh
      unfold willOf at hq3 ⊢
      by_cases c : m / 4 % 2 = 1
      · rw [if_pos c] at hq3; exact absurd rfl hq3
      · rw [if_neg c]; rfl
  · rw [hp]
    unfold connectL
    rw [allOk_app, allOk_app, allOk_app, hwl.1, hul.1, hpl.1]
    have hc : allOk [.words mqtt, .octet 5, .octet (loginZ P), .short P.keep, .props P.kind P.ps, .words P.cl] = true := by
      show (Part.okB (.words mqtt) && (Part.okB (.octet 5) && (Part.okB (.octet (loginZ P)) && (Part.okB (.short P.keep) && (propsB P.kind P.ps && (textB P.cl && true)))))) = true
      rw [hmq, hlz, t3, t1, t2, hPk, ← hqk, z5, z9 rfl]
      have a1 : Part.okB (.octet 5) = true := rfl
      have a2 : Part.okB (.octet m) = true := decide_eq_true ⟨m0, m1⟩
      have a3 : Part.okB (.short k) = true := decide_eq_true ⟨k0, k9⟩
      rw [a1, a2, a3]
      rfl
    rw [hc]
    rfl
  · unfold restP
    rw [hp]
    unfold connectL
    rw [allStr_app, allStr_app, allStr_app, ByteArray.size_append, ByteArray.size_append, ByteArray.size_append, size_cons, size_cons, size_cons, size_cons, size_cons, allStr_size1]
    show ((lgStr mqtt).size + ((strOfNums [5]).size + ((strOfNums [loginZ P]).size + ((fxStr P.keep).size + ((propStr P.ps).size + (lgStr P.cl).size)))) + (allStr (willL P)).size + (allStr (userL P)).size) + (allStr (passL P)).size ≤ _
    rw [oc_size, oc_size, fx_size, t1, t2]
    have := hwl.2
    have := hul.2
    have := hpl.2
    omega
theorem parts_wrote {c : Int} {s y : ByteArray} (h0 : 0 ≤ c) (h1 : c ≤ 255) (hb : headB c = true) (h : (partsS (headP c) (.ok s)).2 = .ok y) : WroteP (partsS (headP c) (.ok s)).1 s := by
  by_cases k3 : c / 16 = 3
  · have e : headP c = { zp 3 with dup := decide (8 ≤ c % 16), q := c % 16 / 2 % 4, ret := decide (c % 2 = 1) } := by unfold headP; rw [if_pos k3]
    have hs : sendB (decide (8 ≤ c % 16)) (c % 16 / 2 % 4) = true := by
      unfold headB at hb
      rw [if_pos k3, e] at hb
      exact (Bool.and_eq_true _ _ ▸ hb).2
    rw [e] at h ⊢
    exact wrote_3 hs h
  have e : headP c = zp (c / 16) := by unfold headP; rw [if_neg k3]
  rw [e] at h ⊢
  have hn : c / 16 ≠ 0 := by
    unfold headB at hb
    have := (Bool.and_eq_true _ _ ▸ hb).1
    exact of_decide_eq_true this
  rcases (by omega : c / 16 = 1 ∨ c / 16 = 2 ∨ c / 16 = 4 ∨ c / 16 = 5 ∨ c / 16 = 6 ∨ c / 16 = 7 ∨ c / 16 = 8 ∨ c / 16 = 9 ∨ c / 16 = 10 ∨ c / 16 = 11 ∨ c / 16 = 12 ∨ c / 16 = 13 ∨ c / 16 = 14 ∨ c / 16 = 15) with k | k | k | k | k | k | k | k | k | k | k | k | k | k <;> rw [k] at h ⊢
  · exact wrote_1 h
  · exact wrote_2 h
  · exact wrote_id (.inl rfl) h
  · exact wrote_id (.inr (.inl rfl)) h
  · exact wrote_id (.inr (.inr (.inl rfl))) h
  · exact wrote_id (.inr (.inr (.inr rfl))) h
  · exact wrote_fs (.inl ⟨rfl, rfl⟩) h
  · exact wrote_cs (.inl rfl) h
  · exact wrote_fs (.inr ⟨rfl, rfl⟩) h
  · exact wrote_cs (.inr rfl) h
  · exact wrote_none (.inl rfl) s
  · exact wrote_none (.inr rfl) s
  · exact wrote_re (.inl rfl) h
  · exact wrote_re (.inr rfl) h
theorem numLen_mono {a b : Nat} (h : a ≤ b) : numLen a ≤ numLen b := by
  unfold numLen
  repeat' split
  all_goals omega
theorem opt_wf {α : Type} {st : St} {f : ByteArray → Res α} {z : α} (h : st.Wf) (hf : ∀ s : ByteArray, s.size ≤ 268435456 → (f s).Wf) : (st.optR f z).2.Wf := by
  unfold St.optR
  split
  · exact (run_wf h hf).st
  · exact h
theorem many_wf {α : Type} {one : ByteArray → Res α} (ho : ∀ s : ByteArray, s.size ≤ 268435456 → (one s).Wf) : ∀ (f : Nat) (l : List α) (s : ByteArray), s.size ≤ 268435456 → (manyR one f l s).Wf := by
  intro f
  induction f with
  | zero => intro l s h; exact h
  | succ f ih =>
    intro l s h
    unfold manyR
    split
    · split
      · show (9 : Int) ≠ 0; decide
      · exact h
    · split
      · show (2 : Int) ≠ 0; decide
      · have hh := ho s h
        cases hx : one s with
        | ok v s' => rw [hx] at hh; exact ih _ _ hh
        | bad e => rw [hx] at hh; exact hh
theorem filter_wf (sub : Bool) {s : ByteArray} (h : s.size ≤ 268435456) : (filterR sub s).Wf := by
  have hk : (filterS sub (.ok s)).2.Wf := by
    have h0 : ((St.ok s).run (longR true)).st.Wf := (run_wf (st := .ok s) h fun _ => longR_wf).st
    unfold filterS
    cases sub with
    | true => exact ((run_wf h0 fun _ => fixR_wf).st).want _ (by decide)
    | false => exact h0
  unfold filterR
  cases hx : filterS sub (.ok s) with
  | mk f st =>
    rw [hx] at hk
    cases st with
    | ok s' => exact hk
    | bad e => exact hk
theorem bodyR_wf {st : St} (h : st.Wf) : (bodyR st).2.Wf := by
  have hw := h.want (decide (st.rest.size ≤ 1024)) (e := 2) (by decide)
  show St.Wf (match st.want (decide (st.rest.size ≤ 1024)) 2 with | .ok _ => .ok ⟨#[]⟩ | .bad e => .bad e)
  cases hx : st.want (decide (st.rest.size ≤ 1024)) 2 with
  | ok s => exact Nat.zero_le _
  | bad e => rw [hx] at hw; exact hw
theorem willS_wf {w : Wl} {st : St} (h : st.Wf) : (willS w st).2.Wf := by
  unfold willS
  split
  · exact (run_wf (((run_wf ((run_wf h fun _ => propsR_wf).st) fun _ => longR_wf).st).want _ (by decide)) fun _ => longR_wf).st
  · exact h
theorem ifR_wf {b t : Bool} {st : St} (h : st.Wf) : (ifR b t st).2.Wf := by
  unfold ifR
  split
  · exact (run_wf h fun _ => longR_wf).st
  · exact h
theorem parts_wf (p : Pk) {st : St} (h : st.Wf) : (partsS p st).2.Wf := by
  unfold partsS
  by_cases h1 : p.kind = 1
  · rw [if_pos h1]
    have hd : (connHead st).Wf := ((run_wf (((run_wf h fun _ => longR_wf).st).want _ (by decide)) fun _ => fixR_wf).st).want _ (by decide)
    have hs : (connSt st).Wf := ((run_wf hd fun _ => fixR_wf).st).want _ (by decide)
    exact ifR_wf (ifR_wf (willS_wf ((run_wf ((run_wf ((run_wf hs fun _ => fixR_wf).st) fun _ => propsR_wf).st) fun _ => longR_wf).st)))
  rw [if_neg h1]
  by_cases h2 : p.kind = 2
  · rw [if_pos h2]
    exact (run_wf ((run_wf (((run_wf h fun _ => fixR_wf).st).want _ (by decide)) fun _ => fixR_wf).st) fun _ => propsR_wf).st
  rw [if_neg h2]
  by_cases h3 : p.kind = 3
  · rw [if_pos h3]
    unfold publishS
    have h0 := (run_wf h fun _ => longR_wf (t := true)).st
    refine bodyR_wf ((run_wf (Res.Wf.st ?_) fun _ => propsR_wf).st)
    by_cases hq : 0 < p.q
    · simp only [if_pos hq]; exact run_wf h0 fun _ => numberR_wf
    · simp only [if_neg hq]
      cases hx : (st.run (longR true)).st with
      | ok s => rw [hx] at h0; exact h0
      | bad e => rw [hx] at h0; exact h0
  rw [if_neg h3]
  by_cases h4 : p.kind = 4 ∨ p.kind = 5 ∨ p.kind = 6 ∨ p.kind = 7
  · rw [if_pos h4]
    exact opt_wf (opt_wf ((run_wf h fun _ => numberR_wf).st) fun _ => fixR_wf) fun _ => propsR_wf
  rw [if_neg h4]
  by_cases h8 : p.kind = 8
  · rw [if_pos h8]
    exact (run_wf ((run_wf ((run_wf h fun _ => numberR_wf).st) fun _ => propsR_wf).st) (many_wf (fun _ => filter_wf true) 5 [])).st
  rw [if_neg h8]
  by_cases h10 : p.kind = 10
  · rw [if_pos h10]
    exact (run_wf ((run_wf ((run_wf h fun _ => numberR_wf).st) fun _ => propsR_wf).st) (many_wf (fun _ => filter_wf false) 5 [])).st
  rw [if_neg h10]
  by_cases h9 : p.kind = 9 ∨ p.kind = 11
  · rw [if_pos h9]
    exact (run_wf ((run_wf ((run_wf h fun _ => numberR_wf).st) fun _ => propsR_wf).st) (many_wf (fun _ => fixR_wf) 5 [])).st
  rw [if_neg h9]
  by_cases h14 : p.kind = 14 ∨ p.kind = 15
  · rw [if_pos h14]
    exact opt_wf (opt_wf h fun _ => fixR_wf) fun _ => propsR_wf
  rw [if_neg h14]
  exact h
theorem body_wf (c : Int) {s : ByteArray} (h : s.size ≤ 268435456) : (bodyS c s).2.Wf := by
  refine St.Wf.want (parts_wf _ ?_) _ (by decide)
  split
  · exact h
  · show (8 : Int) ≠ 0; decide
theorem take_wrote {s : ByteArray} {p : Pk} {n : Int} (hs : s.size ≤ 268435456) (h : takeS s = (p, n, 0)) : packB p = true ∧ ((strP p).size : Int) ≤ n := by
  rcases takeS_cases s with ⟨_, e⟩ | ⟨_, E, _, hE, e⟩ | ⟨hz, m, q, ht, hq, hm, hw, hb⟩
  · rw [e] at h; injection h with _ h; injection h with _ h; cases h
  · rw [e] at h; injection h with _ h; injection h with _ h; exact absurd h hE
  rcases hb with ⟨_, e⟩ | ⟨_, _, e⟩ | ⟨h8, hl, P, st, hbd, e⟩
  · rw [e] at h; injection h with _ h; injection h with _ h; cases h
  · rw [e] at h; injection h with _ h; injection h with _ h; cases h
  rw [e, endS_eq] at h
  have hid := id_at (s := s) (by omega)
  have hlt := s[0].toNat_lt
  have hs0 : (0 : Int) ≤ idOf s := by rw [hid]; omega
  have hs1 : idOf s ≤ 255 := by rw [hid]; omega
  by_cases hbad : st.isBad = false
  · rw [if_pos hbad] at h
    injection h with h1 h2
    injection h2 with h2 _
    subst h1
    obtain ⟨x, hx⟩ : ∃ x, st = .ok x := by
      cases st with
      | ok x => exact ⟨x, rfl⟩
      | bad e => cases hbad
    subst hx
    have hbs : bodyS (idOf s) (s.extract (1 + q) (1 + q + m)) = ((partsS (headP (idOf s)) (if headB (idOf s) = true then .ok (s.extract (1 + q) (1 + q + m)) else .bad 8)).1, (partsS (headP (idOf s)) (if headB (idOf s) = true then .ok (s.extract (1 + q) (1 + q + m)) else .bad 8)).2.want (decide ((partsS (headP (idOf s)) (if headB (idOf s) = true then .ok (s.extract (1 + q) (1 + q + m)) else .bad 8)).2.rest.size = 0)) 8) := rfl
    rw [hbs] at hbd
    injection hbd with g1 g2
    obtain ⟨w1, _⟩ := want_inv g2
    have hhd : headB (idOf s) = true := by
      cases hh : headB (idOf s) with
      | true => rfl
      | false => rw [hh, if_neg (by decide), parts_bad] at w1; cases w1
    rw [hhd, if_pos rfl] at w1 g1
    obtain ⟨a1, a2, a3⟩ := parts_wrote hs0 hs1 hhd w1
    rw [g1] at a1 a2 a3
    have hes : (s.extract (1 + q) (1 + q + m)).size = m := by rw [ByteArray.size_extract]; omega
    rw [hes] at a3
    have hql : numLen m = q := by
      have := congrArg ByteArray.size hw
      rw [strOfNums_size, numZ_len hm, ByteArray.size_extract, ByteArray.size_extract] at this
      omega
    have hsz : (strP P).size ≤ 1 + q + m := by
      unfold strP
      rw [ByteArray.size_append, ByteArray.size_append, oc_size, strOfNums_size, numZ_len (by omega)]
      have := numLen_mono a3
      omega
    refine ⟨?_, by omega⟩
    unfold packB
    rw [a1, a2, decide_eq_true (by omega)]
    rfl
  · rw [if_neg hbad] at h
    injection h with _ h
    injection h with _ h
    have hbt : st.isBad = true := by simpa using hbad
    cases st with
    | ok x => cases hbt
    | bad e' =>
      have h : e' = 0 := h
      subst h
      exfalso
      have hbs := body_wf (idOf s) (s := s.extract (1 + q) (1 + q + m)) (by rw [ByteArray.size_extract]; omega)
      rw [hbd] at hbs
      exact hbs rfl
end Go.Proofs.YtiancngpknnkaaaGreat.Pkt
namespace Go.Proofs.YtiancngpknnkaaaGreat
open Go.RowKit Go.Lib Prp Pkt Vbi
theorem kind_in42 {id : Int} (h : kindZ id ≠ 0) : 0 ≤ id ∧ id ≤ 42 := by
  by_cases c : 0 ≤ id ∧ id ≤ 42
  · exact c
  · exfalso
    apply h
    unfold kindZ
    repeat rw [if_neg (by omega)]
theorem empty_sz {s : ByteArray} (h : s = ⟨#[]⟩) : s.size ≤ 1024 := by rw [h]; exact Nat.zero_le _
theorem bin_sz {s : ByteArray} (h : binB s = true) : s.size ≤ 1024 := by unfold binB at h; exact of_decide_eq_true h
theorem val_in {k : Int} {p : P} (h : valB k p = true) : 0 ≤ p.n ∧ p.n < 4294967296 ∧ p.s.size ≤ 1024 ∧ p.v.size ≤ 1024 := by
  unfold valB at h
  split at h
  · obtain ⟨h1, h2, h3⟩ := of_decide_eq_true h
    exact ⟨by omega, by omega, empty_sz h2, empty_sz h3⟩
  split at h
  · obtain ⟨h1, h2, h3⟩ := of_decide_eq_true h
    exact ⟨by omega, by omega, empty_sz h2, empty_sz h3⟩
  split at h
  · obtain ⟨h1, h2, h3⟩ := of_decide_eq_true h
    exact ⟨by omega, by omega, empty_sz h2, empty_sz h3⟩
  split at h
  · obtain ⟨h1, h2, h3⟩ := of_decide_eq_true h
    exact ⟨by omega, by omega, empty_sz h2, empty_sz h3⟩
  split at h
  · obtain ⟨h1, h2, h3⟩ := of_decide_eq_true h
    exact ⟨by omega, by omega, text_sz h2, empty_sz h3⟩
  split at h
  · obtain ⟨h1, h2, h3⟩ := of_decide_eq_true h
    exact ⟨by omega, by omega, bin_sz h2, empty_sz h3⟩
  · obtain ⟨h1, h2, h3⟩ := of_decide_eq_true h
    exact ⟨by omega, by omega, text_sz h2, text_sz h3⟩
theorem props_fit {place : Int} {l : List P} (h : l = [] ∨ propsB place l = true) : l.length ≤ 8 ∧ ∀ p ∈ l, Fit p := by
  rcases h with rfl | h
  · exact ⟨Nat.zero_le _, fun p hp => by cases hp⟩
  · obtain ⟨h1, h2⟩ := props_all h
    refine ⟨h1, fun p hp => ?_⟩
    obtain ⟨a, b⟩ := h2 p hp
    obtain ⟨c, d⟩ := kind_in42 a
    obtain ⟨e, f, g, i⟩ := val_in b
    exact ⟨by omega, by omega, by omega, by omega, by omega, by omega⟩
theorem reason_in {p : Pk} (h : allOk (reasonL p) = true) : (0 ≤ p.re ∧ p.re ≤ 255) ∧ (p.ps = [] ∨ propsB p.kind p.ps = true) := by
  unfold reasonL at h
  by_cases hp : p.ps = []
  · rw [if_neg (fun c => c hp)] at h
    refine ⟨?_, .inl hp⟩
    by_cases hr : p.re = 0
    · rw [hr]; decide
    · rw [if_pos hr] at h
      exact ok_octet (ok1 h).1
  · rw [if_pos hp] at h
    obtain ⟨h1, h2, _⟩ := ok2 h
    exact ⟨ok_octet h1, .inr h2⟩
theorem fil_in {sub : Bool} {l : List Fl} (h : allOk (filterL sub l) = true) : ∀ f ∈ l, f.t.size ≤ 1024 := by
  induction l with
  | nil => intro f hf; cases hf
  | cons x t ih =>
    intro f hf
    have e : filterL sub (x :: t) = filterL sub [x] ++ filterL sub t := by
      unfold filterL
      rw [List.flatMap_cons, List.flatMap_cons, List.flatMap_nil, List.append_nil]
    rw [e, allOk_app, Bool.and_eq_true] at h
    rcases List.mem_cons.1 hf with rfl | hf
    · have h1 := h.1
      cases sub with
      | true => exact text_sz (ok2 (l := []) h1).1
      | false => exact text_sz (ok1 (l := []) h1).1
    · exact ih h.2 f hf
theorem code_in {l : List Int} (h : allOk (codeL l) = true) : ∀ x ∈ l, 0 ≤ x ∧ x ≤ 255 := by
  induction l with
  | nil => intro f hf; cases hf
  | cons x t ih =>
    intro f hf
    have h : allOk (.octet x :: codeL t) = true := h
    obtain ⟨h1, h2⟩ := ok1 h
    rcases List.mem_cons.1 hf with rfl | hf
    · exact ok_octet h1
    · exact ih h2 f hf
structure Within (p : Pk) : Prop where
  re : 0 ≤ p.re ∧ p.re ≤ 255
  id : 0 ≤ p.id ∧ p.id ≤ 65535
  q : 0 ≤ p.q ∧ p.q ≤ 2
  keep : 0 ≤ p.keep ∧ p.keep ≤ 65535
  wq : 0 ≤ p.w.q ∧ p.w.q ≤ 2
  ps : p.ps = [] ∨ propsB p.kind p.ps = true
  ws : p.w.ps = [] ∨ propsB 0 p.w.ps = true
  t : p.t.size ≤ 1024
  b : p.b.size ≤ 1024
  cl : p.cl.size ≤ 1024
  u : p.u.size ≤ 1024
  pw : p.pw.size ≤ 1024
  wt : p.w.t.size ≤ 1024
  wb : p.w.b.size ≤ 1024
  cs : (∀ x ∈ p.cs, 0 ≤ x ∧ x ≤ 255) ∧ p.cs.length ≤ 4
  fs : (∀ f ∈ p.fs, (0 ≤ f.q ∧ f.q ≤ 2) ∧ (0 ≤ f.h ∧ f.h ≤ 2) ∧ f.t.size ≤ 1024) ∧ p.fs.length ≤ 4
theorem z0 (n : Int) (h : 0 ≤ n) : (0 : Int) ≤ 0 ∧ (0 : Int) ≤ n := ⟨Int.le_refl _, h⟩
theorem not_conn {p : Pk} (h : Fields p) (k : p.kind ≠ 1) : (0 ≤ p.keep ∧ p.keep ≤ 65535) ∧ (0 ≤ p.w.q ∧ p.w.q ≤ 2) ∧ (p.w.ps = [] ∨ propsB 0 p.w.ps = true) ∧ p.cl.size ≤ 1024 ∧ p.u.size ≤ 1024 ∧ p.pw.size ≤ 1024 ∧ p.w.t.size ≤ 1024 ∧ p.w.b.size ≤ 1024 := by
  obtain ⟨a, b, c, d, e, f, g, i⟩ := h.n1 k
  rw [c, d]
  exact ⟨by decide, by decide, .inl rfl, empty_sz a, empty_sz f, empty_sz i, Nat.zero_le _, Nat.zero_le _⟩
theorem not_pub {p : Pk} (h : Fields p) (k : p.kind ≠ 3) : (0 ≤ p.q ∧ p.q ≤ 2) ∧ p.t.size ≤ 1024 ∧ p.b.size ≤ 1024 := by
  obtain ⟨a, b, c, d, e⟩ := h.n3 k
  rw [b]
  exact ⟨by decide, empty_sz d, empty_sz e⟩
theorem not_cs {p : Pk} (h : Fields p) (k : ¬ (p.kind = 9 ∨ p.kind = 11)) : (∀ x ∈ p.cs, 0 ≤ x ∧ x ≤ 255) ∧ p.cs.length ≤ 4 := by
  rw [h.n6 k]
  exact ⟨(fun x hx => by cases hx), Nat.zero_le _⟩
theorem not_fs {p : Pk} (h : Fields p) (k : ¬ (p.kind = 8 ∨ p.kind = 10)) : (∀ f ∈ p.fs, (0 ≤ f.q ∧ f.q ≤ 2) ∧ (0 ≤ f.h ∧ f.h ≤ 2) ∧ f.t.size ≤ 1024) ∧ p.fs.length ≤ 4 := by
  rw [h.n7 k]
  exact ⟨(fun x hx => by cases hx), Nat.zero_le _⟩
theorem not_id {p : Pk} (h : Fields p) (k : ¬ (p.kind = 3 ∨ p.kind = 4 ∨ p.kind = 5 ∨ p.kind = 6 ∨ p.kind = 7 ∨ p.kind = 8 ∨ p.kind = 10 ∨ p.kind = 9 ∨ p.kind = 11)) : 0 ≤ p.id ∧ p.id ≤ 65535 := by
  rw [h.n4 k]
  decide
theorem not_re {p : Pk} (h : Fields p) (k : ¬ (p.kind = 2 ∨ p.kind = 4 ∨ p.kind = 5 ∨ p.kind = 6 ∨ p.kind = 7 ∨ p.kind = 14 ∨ p.kind = 15)) : 0 ≤ p.re ∧ p.re ≤ 255 := by
  rw [h.n5 k]
  decide
theorem id_in {n : Int} (h : (Part.number n).okB = true) : 0 ≤ n ∧ n ≤ 65535 := by have := ok_number h; omega
theorem within {p : Pk} (hm : mayP p = true) (ho : allOk (partsL p) = true) : Within p := by
  have hk := kind_of hm
  have hF : fieldB p = true := by
    unfold mayP at hm
    simp only [Bool.and_eq_true] at hm
    exact hm.2.1
  have F := fields hF
  have hmm : (if p.kind = 1 then logInB p else if p.kind = 3 then sendB p.dup p.q && ((decide (0 < p.q) || decide (p.id = 0)) && decide (p.b.size ≤ 1024)) else if p.kind = 8 ∨ p.kind = 10 then askB p else if p.kind = 9 ∨ p.kind = 11 then countB p.cs.length else true) = true := by
    unfold mayP at hm
    simp only [Bool.and_eq_true] at hm
    exact hm.2.2
  by_cases k1 : p.kind = 1
  · have hp : partsL p = connectL p := by unfold partsL; rw [if_pos k1]
    rw [if_pos k1] at hmm
    rw [hp] at ho
    unfold connectL at ho
    rw [allOk_app, allOk_app, allOk_app] at ho
    simp only [Bool.and_eq_true] at ho
    obtain ⟨⟨⟨h1, h2⟩, h3⟩, h4⟩ := ho
    obtain ⟨_, _, h1⟩ := ok2 h1
    obtain ⟨_, hkeep, h1⟩ := ok2 h1
    obtain ⟨hps, hcl, _⟩ := ok2 h1
    have hkp := ok_short hkeep
    unfold logInB at hmm
    simp only [Bool.and_eq_true, Bool.or_eq_true] at hmm
    obtain ⟨m1, m2, m3⟩ := hmm
    obtain ⟨p1, p2, p3⟩ := not_pub F (by omega)
    have hu : p.u.size ≤ 1024 := by
      rcases m1 with m1 | m1
      · exact empty_sz (of_decide_eq_true m1)
      · unfold userL at h3
        rw [if_pos m1] at h3
        exact text_sz (ok1 h3).1
    have hpw : p.pw.size ≤ 1024 := by
      rcases m2 with m2 | m2
      · exact empty_sz (of_decide_eq_true m2)
      · unfold passL at h4
        rw [if_pos m2] at h4
        exact bin_sz (ok1 h4).1
    have hw : (0 ≤ p.w.q ∧ p.w.q ≤ 2) ∧ (p.w.ps = [] ∨ propsB 0 p.w.ps = true) ∧ p.w.t.size ≤ 1024 ∧ p.w.b.size ≤ 1024 := by
      by_cases hh : p.w.has = true
      · rw [if_pos hh] at m3
        unfold willL at h2
        rw [if_pos hh] at h2
        obtain ⟨a1, a2, a3⟩ := ok2 h2
        simp only [Bool.and_eq_true] at m3
        exact ⟨of_decide_eq_true m3.1, .inr a1, text_sz a2, bin_sz (ok1 a3).1⟩
      · rw [if_neg hh] at m3
        have hz := not_w (w := p.w) (by simpa using m3)
        rw [hz]
        exact ⟨by decide, .inl rfl, Nat.zero_le _, Nat.zero_le _⟩
    exact ⟨not_re F (by omega), not_id F (by omega), p1, ⟨hkp.1, by omega⟩, hw.1, .inr hps, hw.2.1, p2, p3, text_sz hcl, hu, hpw, hw.2.2.1, hw.2.2.2, not_cs F (by omega), not_fs F (by omega)⟩
  obtain ⟨c1, c2, c3, c4, c5, c6, c7, c8⟩ := not_conn F k1
  rw [if_neg k1] at hmm
  unfold partsL at ho
  rw [if_neg k1] at ho
  by_cases k2 : p.kind = 2
  · rw [if_pos k2] at ho
    obtain ⟨_, h2, h3⟩ := ok2 ho
    obtain ⟨p1, p2, p3⟩ := not_pub F (by omega)
    exact ⟨ok_octet h2, not_id F (by omega), p1, c1, c2, .inr (ok1 h3).1, c3, p2, p3, c4, c5, c6, c7, c8, not_cs F (by omega), not_fs F (by omega)⟩
  rw [if_neg k2] at ho
  by_cases k3 : p.kind = 3
  · rw [if_pos k3] at ho hmm
    simp only [Bool.and_eq_true, Bool.or_eq_true, decide_eq_true_eq] at hmm
    obtain ⟨m1, m2, m3⟩ := hmm
    have hq : 0 ≤ p.q ∧ p.q ≤ 2 := by
      unfold sendB at m1
      simp only [Bool.and_eq_true] at m1
      exact of_decide_eq_true m1.1
    by_cases hq0 : p.q = 0
    · rw [if_pos hq0] at ho
      obtain ⟨h1, h2, _⟩ := ok2 ho
      have hi : p.id = 0 := by omega
      exact ⟨not_re F (by omega), by rw [hi]; decide, hq, c1, c2, .inr h2, c3, text_sz h1, m3, c4, c5, c6, c7, c8, not_cs F (by omega), not_fs F (by omega)⟩
    · rw [if_neg hq0] at ho
      obtain ⟨h1, h2, h3⟩ := ok2 ho
      obtain ⟨h3, _⟩ := ok1 h3
      exact ⟨not_re F (by omega), id_in h2, hq, c1, c2, .inr h3, c3, text_sz h1, m3, c4, c5, c6, c7, c8, not_cs F (by omega), not_fs F (by omega)⟩
  rw [if_neg k3] at ho hmm
  obtain ⟨p1, p2, p3⟩ := not_pub F k3
  by_cases k4 : p.kind = 4 ∨ p.kind = 5 ∨ p.kind = 6 ∨ p.kind = 7
  · rw [if_pos k4, allOk_app] at ho
    simp only [Bool.and_eq_true] at ho
    obtain ⟨r1, r2⟩ := reason_in ho.2
    exact ⟨r1, id_in (ok1 ho.1).1, p1, c1, c2, r2, c3, p2, p3, c4, c5, c6, c7, c8, not_cs F (by omega), not_fs F (by omega)⟩
  rw [if_neg k4] at ho
  by_cases k8 : p.kind = 8 ∨ p.kind = 10
  · rw [if_pos k8, allOk_app] at ho
    rw [if_pos k8] at hmm
    simp only [Bool.and_eq_true] at ho
    obtain ⟨h1, h2, _⟩ := ok2 ho.1
    unfold askB at hmm
    rw [Bool.and_eq_true, List.all_eq_true] at hmm
    have hn := of_decide_eq_true hmm.2
    refine ⟨not_re F (by omega), id_in h1, p1, c1, c2, .inr h2, c3, p2, p3, c4, c5, c6, c7, c8, not_cs F (by omega), fun f hf => ?_, hn.2⟩
    have hh := hmm.1 f hf
    unfold mayFilB at hh
    simp only [Bool.and_eq_true] at hh
    exact ⟨of_decide_eq_true hh.1.1, of_decide_eq_true hh.1.2, fil_in ho.2 f hf⟩
  rw [if_neg k8] at ho hmm
  by_cases k9 : p.kind = 9 ∨ p.kind = 11
  · rw [if_pos k9, allOk_app] at ho
    rw [if_pos k9] at hmm
    simp only [Bool.and_eq_true] at ho
    obtain ⟨h1, h2, _⟩ := ok2 ho.1
    exact ⟨not_re F (by omega), id_in h1, p1, c1, c2, .inr h2, c3, p2, p3, c4, c5, c6, c7, c8, ⟨code_in ho.2, (of_decide_eq_true hmm).2⟩, not_fs F (by omega)⟩
  rw [if_neg k9] at ho
  by_cases k14 : p.kind = 14 ∨ p.kind = 15
  · rw [if_pos k14] at ho
    obtain ⟨r1, r2⟩ := reason_in ho
    exact ⟨r1, not_id F (by omega), p1, c1, c2, r2, c3, p2, p3, c4, c5, c6, c7, c8, not_cs F (by omega), not_fs F (by omega)⟩
  exact ⟨not_re F (by omega), not_id F (by omega), p1, c1, c2, .inl (F.n8 (by omega)), c3, p2, p3, c4, c5, c6, c7, c8, not_cs F (by omega), not_fs F (by omega)⟩
theorem fit_of {p : Pk} {a : Ad} (h : packB p = true) (hc : PkCap p a) : PkFit p a := by
  obtain ⟨hm, ho, _⟩ := pack_parts h
  have W := within hm ho
  have hk := kind_of hm
  obtain ⟨x1, x2⟩ := props_fit W.ps
  obtain ⟨y1, y2⟩ := props_fit W.ws
  have := W.re
  have := W.id
  have := W.q
  have := W.keep
  have := W.wq
  have := W.t
  have := W.b
  have := W.cl
  have := W.u
  have := W.pw
  have := W.wt
  have := W.wb
  have hcs := W.cs
  have hfs := W.fs
  refine ⟨by omega, by omega, by omega, by omega, by omega, by omega, by omega, by omega, by omega, by omega, by omega, by omega, by omega, fun x hx => ?_, fun f hf => ?_, y2, x2, ⟨by omega, hc.cs⟩, ⟨by omega, hc.fs⟩, ⟨by omega, hc.ws⟩, ⟨by omega, hc.ps⟩⟩
  · have := hcs.1 x hx
    omega
  · have := hfs.1 f hf
    exact ⟨by omega, by omega, by omega, by omega, by omega⟩
end Go.Proofs.YtiancngpknnkaaaGreat
