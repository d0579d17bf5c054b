/- Package pack: the parts of a packet that are its codes, its filters. -/
import Derived.Test.YtdbbcfohjkgdcaaGreatM00
import Derived.Test.YtdbbcfohjkgdcaaGreatM14
set_option maxRecDepth 100000
set_option maxHeartbeats 64000000
namespace Go.Proofs.YtdbbcfohjkgdcaaGreat
open Go.RowKit Go.Lib Prp Pkt
theorem info_pk : (Tryz.prog.info? 30).map (·.size) = some 25 := by kernel_rfl
theorem load_pk {w W : World} {g : Nat} {p : Pk} {a : Ad} (h : Keep w g (pkArr p a) W) : (loadVar 30 ⟨g, 0, none⟩).run Tryz.prog W = .ok (.agg (pkArr p a)) W :=
 run_loadVar_mid W g 0 30 (pkArr p a).toList _ (fun j v hv => by rw [Nat.zero_add, h.cell j]; rw [← hv]; simp) Tryz.underlying30 rfl info_pk
def eqF (x y : Fl) : Bool := decide (x.t = y.t ∧ x.q = y.q ∧ x.nl = y.nl ∧ x.ar = y.ar ∧ x.h = y.h)
theorem eql_fils (t t' : ByteArray) (q q' h h' : Int) (n n' r r' : Bool) (w : World) :
  (binOp .eql 75 (.agg #[.string t, .int .i64 q, .bool n, .bool r, .int .i64 h]) (.agg #[.string t', .int .i64 q', .bool n', .bool r', .int .i64 h'])).run Tryz.prog w = .ok (.bool (eqF ⟨t, q, n, r, h⟩ ⟨t', q', n', r', h'⟩)) w := by
 rw [run_eql_struct]
 unfold eqF
 by_cases h1 : t = t' <;> by_cases h2 : q = q' <;> by_cases h3 : n = n' <;> by_cases h4 : r = r' <;> by_cases h5 : h = h' <;> (try go_simp)
 all_goals simp [h1, toList_eq_iff]
theorem eqF_only (f : Fl) : eqF f ⟨f.t, 0, false, false, 0⟩ = onlyB f := by
 unfold eqF onlyB
 obtain ⟨t, q, n, r, h⟩ := f
 cases n <;> cases r <;> simp
theorem mayAsk_is (p : Pk) (a : Ad) (b : Bool) (w : World) (hm : p.fs.length ≤ 9223372036854775807) (h : PkAt w w.heap.size p a) (hb : askB p = b) :
  Calls Tryz.prog 61 #[.agg (pkArr p a)] w fun e w' => e = .returned (.bool b) ∧ Below w.heap.size w w' := by
 have H := Lib.hid h
 obtain ⟨y, hy⟩ : ∃ y, countB p.fs.length = y := ⟨_, rfl⟩
 have HC := Lib.hid (fun W => isCount_is p.fs.length y W hy)
 have HB : Hid (b = (p.fs.all (fun f => mayFilB f && (decide (p.kind ≠ 10) || onlyB f)) && y)) := by show _ = _; rw [← hb, ← hy]; rfl
 clear h hb hy
 have HK0 := Keep.new w 30 (pkArr p a)
 obtain ⟨W1, hW⟩ : ∃ W1, w.alloc (.cells (pkArr p a) 30) = W1 := ⟨_, rfl⟩
 rw [hW] at HK0
 unfold pkArr at hW ⊢
 have HW := Lib.hid hW
 clear hW
 go_enter Tryz.func61, Tryz.ntmps61
 go_upto_region 1 with fail
 rw [HW.out]
 generalize Value.agg _ = v0
 obtain ⟨g, hg⟩ : ∃ g, w.heap.size = g := ⟨_, rfl⟩
 rw [hg] at HK0 ⊢
 have HK := Lib.hid (KP.new HK0 H.out)
 clear HW HK0 H
 have c10 := HK.out.k.f10
 go_wp2_with fail
 clear c10
 go_loopw [9] (fun i wr => ∃ k : Nat, k ≤ p.fs.length ∧ i = .int .i64 (k : Int) ∧ KP w g p a wr ∧ p.fs.all (fun f => mayFilB f && (decide (p.kind ≠ 10) || onlyB f)) = (p.fs.drop k).all (fun f => mayFilB f && (decide (p.kind ≠ 10) || onlyB f))) (fun i _ => p.fs.length - (RowKit.intOf i).toNat)
 case atStart => exact ⟨0, Nat.zero_le _, rfl, HK.out, by rw [List.drop_zero]⟩
 case round =>
  obtain ⟨k, hk, rfl, hst, hall⟩ := hrel
  have HT := Lib.hid hst
  have HA := Lib.hid hall
  clear hst hall HK
  by_cases hlt : k < p.fs.length
  ·have HN : Hid (p.fs.all (fun f => mayFilB f && (decide (p.kind ≠ 10) || onlyB f)) = ((mayFilB p.fs[k] && (decide (p.kind ≠ 10) || onlyB p.fs[k])) && (p.fs.drop (k + 1)).all (fun f => mayFilB f && (decide (p.kind ≠ 10) || onlyB f)))) := by
    show _ = _
    rw [HA.out, List.drop_eq_getElem_cons hlt, List.all_cons]
   obtain ⟨b0, o, hAd, hb0, hc⟩ := HT.out.out.2.fs.some_ (by omega)
   obtain ⟨d0, d1, d2, d3, d4⟩ := hc k hlt
   clear hc
   obtain ⟨f, hf⟩ : ∃ f, p.fs[k] = f := ⟨_, rfl⟩
   rw [hf] at d0 d1 d2 d3 d4 HN
   have HAd := Lib.hid hAd
   clear hf HA hAd
   have heq := eql_fils f.t f.t f.q 0 f.h 0 f.nl false f.ar false
   rw [show eqF ⟨f.t, f.q, f.nl, f.ar, f.h⟩ ⟨f.t, 0, false, false, 0⟩ = onlyB f from eqF_only f] at heq
   obtain ⟨x, hx⟩ : ∃ x, mayFilB f = x := ⟨_, rfl⟩
   have HM := Lib.hid (fun W => mayFilter_is f x W hx)
   obtain ⟨z, hz⟩ : ∃ z, onlyB f = z := ⟨_, rfl⟩
   rw [hz] at heq
   rw [hx, hz] at HN
   have hkI : (k : Int) < (p.fs.length : Int) := by omega
   have HT1 := HT.out.alloc (.cells #[.string f.t, .int .i64 f.q, .bool f.nl, .bool f.ar, .int .i64 f.h] 75)
   clear hx hz
   rw [HAd.out]
   cases z
   all_goals go_wp2_with (go_at_call 88; refine (HM.out _).mono ?_; rintro e w1 ⟨rfl, hb1⟩; have ht := HT1.below hb1; have k0 := ht.k.f0)
   all_goals first
    | (go_ret; exact ⟨by rw [HB.out, HN.out]; simp [*], ht.b⟩)
    | (go_roundw; (case rel => exact ⟨k + 1, hlt, by go_num, ht, by rw [HN.out]; simp [*]⟩); (case measure => simp [RowKit.intOf]; omega))
  ·obtain rfl : k = p.fs.length := by omega
   have HN : Hid (b = y) := by
    show _ = _
    rw [HB.out, HA.out, List.drop_length]; rfl
   have c10 := HT.out.k.f10
   clear HA HB
   go_wp2_with (go_at_call 62; refine (HC.out _).mono ?_; rintro e w' ⟨rfl, rfl⟩)
   go_ret
   exact ⟨by rw [HN.out]; rfl, HT.out.b⟩
theorem fill_at {p : Pk} {R G : Int} {F : Bool} (h0 : 1 ≤ p.kind) (h1 : p.kind ≤ 15) (hR : fillZ p = R) (hG : fieldsZ p.kind = G) (hF : fieldB p = F) : (bits .andNot .i64 R G != 0) = !F := by
 have e := fill_field h0 h1 (b1 p) p.pre (b3 p) (p.id != 0) (p.re != 0) (decide (0 < p.cs.length)) (decide (0 < p.fs.length)) (decide (0 < p.ps.length))
 subst hR hG hF
 exact e
theorem may_out {p : Pk} (h : p.kind < 1 ∨ 15 < p.kind) : mayP p = false := by unfold mayP; rw [decide_eq_false (by omega)]; rfl
theorem may_field {p : Pk} (h : fieldB p = false) : mayP p = false := by unfold mayP; rw [h]; simp
theorem may_1 {p : Pk} (h : p.kind = 1) (hf : fieldB p = true) : mayP p = logInB p := by unfold mayP; rw [if_pos h, hf, decide_eq_true (by omega)]; rfl
theorem may_3 {p : Pk} (h : p.kind = 3) (hf : fieldB p = true) : mayP p = (sendB p.dup p.q && ((decide (0 < p.q) || p.id == 0) && decide ((p.b.size : Int) ≤ 1024))) := by
 have e : decide ((p.b.size : Int) ≤ 1024) = decide (p.b.size ≤ 1024) := decide_eq_decide.2 (by omega)
 rw [e]
 unfold mayP; rw [if_neg (by omega), if_pos h, hf, decide_eq_true (by omega)]; rfl
theorem may_8 {p : Pk} (h : p.kind = 8 ∨ p.kind = 10) (hf : fieldB p = true) : mayP p = askB p := by unfold mayP; rw [if_neg (by omega), if_neg (by omega), if_pos h, hf, decide_eq_true (by omega)]; rfl
theorem may_9 {p : Pk} (h : p.kind = 9 ∨ p.kind = 11) (hf : fieldB p = true) : mayP p = countB p.cs.length := by unfold mayP; rw [if_neg (by omega), if_neg (by omega), if_neg (by omega), if_pos h, hf, decide_eq_true (by omega)]; rfl
theorem may_else {p : Pk} (h0 : 1 ≤ p.kind) (h15 : p.kind ≤ 15) (h : p.kind ≠ 1 ∧ p.kind ≠ 3 ∧ p.kind ≠ 8 ∧ p.kind ≠ 10 ∧ p.kind ≠ 9 ∧ p.kind ≠ 11) (hf : fieldB p = true) : mayP p = true := by
 unfold mayP; rw [if_neg (by omega), if_neg (by omega), if_neg (by omega), if_neg (by omega), hf, decide_eq_true (by omega)]; rfl
open Go.RowKit
section
variable {P : Program} {ops : Array Oper} {Q : Exit → Act → World → Prop} {S : World → Prop}
def takeB (ops : Array Oper) (listed : Array Bool) (i : Nat) : Bool := Region.noSelect ops && (Region.free .any ops listed i && (Region.ready .any ops listed).contains i)
theorem take_op {fuel : Nat} {listed : Array Bool} {a : Act} {w : World} (i d : Nat) {oi : Oper} (v : Value) (hd : oi.dst = some d) (hi : ops[i]? = some oi) (hc : takeB ops listed i = true) (hQ : ∀ c a w, Q (.panic c) (a.put oi.dst v) w → Q (.panic c) a w)
  (hw : Region.wanted oi (yielded ops a.tmps) = true) (hS : S w) (hv : ∀ w, S w → (execOp a.eval oi).run P w = .ok (.value v) w)
  (h : wpAnyH P .any ops Q S fuel (listed.setIfInBounds i true) (a.put (some d) v) w) : wpAnyH P .any ops Q S (fuel + 1) listed a w := by
 rw [← hd] at h
 unfold takeB at hc
 simp only [Bool.and_eq_true] at hc
 exact wpAnyH_take hi hc.1 hc.2.1 hc.2.2 hQ (.inl ⟨hw, hv⟩) hS h
theorem take_load {fuel : Nat} {listed : Array Bool} {a : Act} {w : World} (i d : Nat) {oi : Oper} (ty : TypeId) (x : Operand) (b off : Nat) (V : Value) (hd : oi.dst = some d) (hi : ops[i]? = some oi) (hc : takeB ops listed i = true) (hQ : ∀ c a w, Q (.panic c) (a.put oi.dst V) w → Q (.panic c) a w)
  (hw : Region.wanted oi (yielded ops a.tmps) = true) (hS : S w) (ho : oi.op = .load ty x) (hx : a.eval x = .pointer (some ⟨b, off, none⟩)) (hv : ∀ w, S w → (loadVar ty ⟨b, off, none⟩).run P w = .ok V w)
  (h : wpAnyH P .any ops Q S fuel (listed.setIfInBounds i true) (a.put (some d) V) w) : wpAnyH P .any ops Q S (fuel + 1) listed a w :=
 take_op i d V hd hi hc hQ hw hS (fun w' hS' => by
  unfold execOp
  simp only [ho, hx, Instr.loadAt, Instr.sureAddr, Sem.run_bind, Sem.run_pure, Result.andThen_ok, hv w' hS']) h
theorem only_op {fuel : Nat} {listed : Array Bool} {a : Act} {w : World} (i : Nat) {oi : Oper} (hi : ops[i]? = some oi) (hr : Region.ready .any ops listed = [i]) (hw : Region.wanted oi (yielded ops a.tmps) = true)
  (h : Oper.wp P oi a w (fun a' w' => S w' ∧ wpAnyH P .any ops Q S fuel (listed.setIfInBounds i true) a' w') Q) : wpAnyH P .any ops Q S (fuel + 1) listed a w := by
 refine wpAnyH_all (rs := [i]) hr (by simp) fun j hj => ?_
 rw [List.mem_singleton] at hj
 subst hj
 exact wpOp_step hi (fun K' hK => by
  rw [if_pos hw]
  exact Oper.wp_mono (fun a' w' h' => hK a' w' h') h)
theorem two_ops {fuel : Nat} {listed : Array Bool} {a : Act} {w : World} (i j : Nat) {oi oj : Oper} (hi : ops[i]? = some oi) (hj : ops[j]? = some oj) (hr : Region.ready .any ops listed = [i, j]) (hw : Region.wanted oi (yielded ops a.tmps) = true) (hw2 : Region.wanted oj (yielded ops a.tmps) = true)
  (h : Oper.wp P oi a w (fun a' w' => S w' ∧ wpAnyH P .any ops Q S fuel (listed.setIfInBounds i true) a' w') Q) (h2 : Oper.wp P oj a w (fun a' w' => S w' ∧ wpAnyH P .any ops Q S fuel (listed.setIfInBounds j true) a' w') Q) : wpAnyH P .any ops Q S (fuel + 1) listed a w := by
 refine wpAnyH_all (rs := [i, j]) hr (by simp) fun k hk => ?_
 rcases List.mem_cons.1 hk with rfl | hk
 ·exact wpOp_step hi (fun K' hK => by
   rw [if_pos hw]
   exact Oper.wp_mono (fun a' w' h' => hK a' w' h') h)
 ·rw [List.mem_singleton] at hk
  subst hk
  exact wpOp_step hj (fun K' hK => by
   rw [if_pos hw2]
   exact Oper.wp_mono (fun a' w' h' => hK a' w' h') h2)
theorem wp_call_ex {o : Oper} {a : Act} {w : World} {K : Act → World → Prop} (d : Nat) (f : FuncId) (vs : Array Value) (R : Ending → World → Prop) (hd : o.dst = some d) (hx : (execOp a.eval o).run P w = .ok (.enter f vs) w)
  (hc : Calls P f vs w R) (h : ∀ e w', R e w' → ∃ v, e = .returned v ∧ K (a.put (some d) v) w') : Oper.wp P o a w K Q := by
 unfold Oper.wp
 rw [← hd] at h
 rw [hx]
 exact hc.mono fun e w' hR => by
  obtain ⟨v, rfl, hk⟩ := h e w' hR
  exact hk
theorem wp_call {o : Oper} {a : Act} {w : World} {K : Act → World → Prop} (d : Nat) (f : FuncId) (vs : Array Value) (v : Value) (R : World → Prop) (hd : o.dst = some d) (hx : (execOp a.eval o).run P w = .ok (.enter f vs) w)
  (hc : Calls P f vs w fun e w' => e = .returned v ∧ R w') (h : ∀ w', R w' → K (a.put (some d) v) w') : Oper.wp P o a w K Q := by
 unfold Oper.wp
 rw [← hd] at h
 rw [hx]
 exact hc.mono fun e w' ⟨he, hR⟩ => by subst he; exact h w' hR
theorem wp_made {o : Oper} {a : Act} {w w' : World} {K : Act → World → Prop} (d : Nat) (v : Value) (hd : o.dst = some d) (hx : (execOp a.eval o).run P w = .ok (.value v) w') (h : K (a.put (some d) v) w') : Oper.wp P o a w K Q := by
 unfold Oper.wp
 rw [← hd] at h
 rw [hx]
 exact h
end
open Go.RowKit Go.Lib Prp Pkt
theorem info_fil : (Tryz.prog.info? 75).map (fun i => (i.zero, i.size, i.bytes)) = some (some (.agg #[.string ⟨#[]⟩, .int .i64 0, .bool false, .bool false, .int .i64 0]), 5, 40) := by kernel_rfl
theorem info_int : (Tryz.prog.info? 3).map (fun i => (i.zero, i.size, i.bytes)) = some (some (.int .i64 0), 1, 8) := by kernel_rfl
def GivesFils (l : List Fl) (w : World) (e : Ending) (w' : World) : Prop := ∃ A c, e = .returned (.slice A l.length c) ∧ w'.ownsRow w.heap.size 75 5 (.slice A l.length c) l.length (flatF l) ∧ Below w.heap.size w w' ∧ l.length ≤ c
theorem ownF_cap {w : World} {B e c : Nat} {A : Option Addr} {l : List Fl} (h : w.ownsRow B e 5 (.slice A l.length c) l.length (flatF l)) : l.length ≤ c := by
 rcases h.2 with ⟨hv, hn⟩ | ⟨g, cap, cur, hv, _, _, hle, _⟩
 ·omega
 ·injection hv with _ _ hc
  omega
theorem one_fcells (p : Fl) : ∀ u ∈ fcells p, u.oneCell' = true := by
 intro u hu
 unfold fcells at hu
 simp at hu
 rcases hu with rfl | rfl | rfl | rfl | rfl <;> rfl
theorem CopyFilters_is (l : List Fl) (A : Option Addr) (c : Nat) (w : World) (hm : l.length * 40 ≤ 140737488351232) (h : FilsAt w w.heap.size A l) :
  Calls Tryz.prog 26 #[.slice A l.length c] w (GivesFils l w) := by
 obtain ⟨i0, hi, hz0, hz1, hz2⟩ := info_parts info_fil
 have H := Lib.hid h
 clear h
 go_enter Tryz.func26, Tryz.ntmps26
 go_wp2_with fail
 go_loopw [3, 4] (fun m i wr => ∃ k : Nat, k ≤ l.length ∧ i = .int .i64 (k : Int) ∧ wr.ownsRow w.heap.size 75 5 m k (flatF (l.take k)) ∧ Below w.heap.size w wr) (fun _ i _ => l.length - (RowKit.intOf i).toNat)
 case atStart => exact ⟨0, Nat.zero_le _, rfl, World.ownsRow_nil _ _ _ _, Below.refl _ _⟩
 case round =>
  obtain ⟨k, hk, rfl, hown, hnx⟩ := hrel
  have h2 := hnx.size
  by_cases hlt : k < l.length
  ·obtain ⟨b0, o, rfl, _, hc⟩ := (H.out.below hnx).some_ (by omega)
   obtain ⟨d0, d1, d2, d3, d4⟩ := hc k hlt
   clear hc
   have HS : Hid (flatF (l.take (k + 1)) = flatF (l.take k) ++ fcells l[k]) := by show _ = _; rw [List.take_succ_eq_append_getElem hlt, flatF_snoc]
   obtain ⟨q, hq⟩ : ∃ q, l[k] = q := ⟨_, rfl⟩
   rw [hq] at d0 d1 d2 d3 d4 HS
   clear hq
   have hkI : (k : Int) < (l.length : Int) := by omega
   have HO := Lib.hid hown
   have HN := Lib.hid hnx
   clear hown hnx
   go_wp2_with (at_builtin; refine wpList_append_own _ rfl _ _ 25 rfl w.heap.size 75 i0 (.agg #[.string ⟨#[]⟩, .int .i64 0, .bool false, .bool false, .int .i64 0]) 5 40 Tryz.underlying25 hi hz0 hz1 hz2 rfl (by decide) _ _ _ rfl (HO.out.alloc _) ⟨wr.heap.size, 0, none⟩ 1 1 (fcells q) rfl rfl ?c1 ?c2 ?c3 ?c4 ?c5 ?_)
   case c1 => exact fun j u hu => cells_new _ _ _ j u hu
   case c2 => exact one_fcells _
   case c3 => unfold maxLen; omega
   case c4 => omega
   case c5 => simp; omega
   intro v' w1 hown' hgrow _
   have HN' := Lib.hid (HN.out.trans (below_alloc_grown h2 HO.out hgrow))
   have HO' : Hid (w1.ownsRow w.heap.size 75 5 v' (k + 1) (flatF (l.take (k + 1)))) := by show World.ownsRow _ _ _ _ _ _ _; rw [HS.out]; exact hown'
   clear hown' hgrow HO HN
   go_wp2
   go_roundw
   case rel => exact ⟨k + 1, hlt, by go_num, HO'.out, HN'.out⟩
   case measure => simp [RowKit.intOf]; omega
  ·obtain rfl : k = l.length := by omega
   rw [List.take_length] at hown
   obtain ⟨A', c', hv⟩ := ownF_slice hown
   have HO := Lib.hid hown
   have HN := Lib.hid hnx
   clear hown hnx
   subst hv
   go_wp2
   go_ret
   exact ⟨A', c', rfl, HO.out, HN.out, ownF_cap HO.out⟩
def GivesInts (l : List Int) (w : World) (e : Ending) (w' : World) : Prop := ∃ A c, e = .returned (.slice A l.length c) ∧ w'.ownsRow w.heap.size 3 1 (.slice A l.length c) l.length (l.map (Value.int .i64)) ∧ Below w.heap.size w w' ∧ l.length ≤ c
theorem ownI_cap {w : World} {B e c : Nat} {A : Option Addr} {l : List Int} (h : w.ownsRow B e 1 (.slice A l.length c) l.length (l.map (Value.int .i64))) : l.length ≤ c := by
 rcases h.2 with ⟨hv, hn⟩ | ⟨g, cap, cur, hv, _, _, hle, _⟩
 ·omega
 ·injection hv with _ _ hc
  omega
theorem CopyNumbers_is (l : List Int) (A : Option Addr) (c : Nat) (w : World) (hm : l.length * 8 ≤ 140737488351232) (h : Nums w w.heap.size .i64 A l) :
  Calls Tryz.prog 25 #[.slice A l.length c] w (GivesInts l w) := by
 obtain ⟨i0, hi, hz0, hz1, hz2⟩ := info_parts info_int
 have H := Lib.hid h
 clear h
 go_enter Tryz.func25, Tryz.ntmps25
 go_wp2_with fail
 go_loopw [3, 4] (fun m i wr => ∃ k : Nat, k ≤ l.length ∧ i = .int .i64 (k : Int) ∧ wr.ownsRow w.heap.size 3 1 m k ((l.take k).map (Value.int .i64)) ∧ Below w.heap.size w wr) (fun _ i _ => l.length - (RowKit.intOf i).toNat)
 case atStart => exact ⟨0, Nat.zero_le _, rfl, World.ownsRow_nil _ _ _ _, Below.refl _ _⟩
 case round =>
  obtain ⟨k, hk, rfl, hown, hnx⟩ := hrel
  have h2 := hnx.size
  by_cases hlt : k < l.length
  ·obtain ⟨a, rfl, _, hc⟩ := (H.out.below hnx).some_ (by omega)
   have d0 := hc k hlt
   clear hc
   have HS : Hid ((l.take (k + 1)).map (Value.int .i64) = (l.take k).map (Value.int .i64) ++ [.int .i64 (l.getD k 0)]) := by
    show _ = _
    rw [List.take_succ_eq_append_getElem hlt, List.map_append, List.getD_eq_getElem?_getD, List.getElem?_eq_getElem hlt]; rfl
   obtain ⟨q, hq⟩ : ∃ q, l.getD k 0 = q := ⟨_, rfl⟩
   rw [hq] at d0 HS
   clear hq
   have hkI : (k : Int) < (l.length : Int) := by omega
   have HO := Lib.hid hown
   have HN := Lib.hid hnx
   clear hown hnx
   go_wp2_with (at_builtin; refine wpList_append_own _ rfl _ _ 24 rfl w.heap.size 3 i0 (.int .i64 0) 1 8 Tryz.underlying24 hi hz0 hz1 hz2 rfl (by decide) _ _ _ rfl (HO.out.alloc _) ⟨wr.heap.size, 0, none⟩ 1 1 [.int .i64 q] rfl rfl ?c1 ?c2 ?c3 ?c4 ?c5 ?_)
   case c1 => exact fun j u hu => cells_new _ _ _ j u hu
   case c2 => intro u hu; simp at hu; subst hu; rfl
   case c3 => unfold maxLen; omega
   case c4 => omega
   case c5 => simp; omega
   intro v' w1 hown' hgrow _
   have HN' := Lib.hid (HN.out.trans (below_alloc_grown h2 HO.out hgrow))
   have HO' : Hid (w1.ownsRow w.heap.size 3 1 v' (k + 1) ((l.take (k + 1)).map (Value.int .i64))) := by show World.ownsRow _ _ _ _ _ _ _; rw [HS.out, List.map_take]; exact hown'
   clear hown' hgrow HO HN
   go_wp2
   go_roundw
   case rel => exact ⟨k + 1, hlt, by go_num, HO'.out, HN'.out⟩
   case measure => simp [RowKit.intOf]; omega
  ·obtain rfl : k = l.length := by omega
   rw [List.take_length] at hown
   obtain ⟨A', c', hv⟩ := own_form hown
   have HO := Lib.hid hown
   have HN := Lib.hid hnx
   clear hown hnx
   subst hv
   go_wp2
   go_ret
   exact ⟨A', c', rfl, HO.out, HN.out, ownI_cap HO.out⟩
open Go.RowKit Go.Lib Prp Pkt Vbi Txt
theorem KP.grown {w W W' : World} {g : Nat} {p : Pk} {a : Ad} (h : KP w g p a W) (hg : w.heap.size = g) (hb : Below (w.heap.size + 1) W W') : KP w g p a W' := by
 refine .mk (.mk ?_ (h.b.trans (hb.mono (by omega)))) (h.out.2.below (hb.mono (by omega)))
 obtain ⟨T, hT⟩ := h.k.out.1
 exact ⟨T, (hb.block g (by omega)).trans hT⟩
theorem KP.room {w W : World} {g : Nat} {p : Pk} {a : Ad} (h : KP w g p a W) (hg : w.heap.size = g) : w.heap.size + 1 ≤ W.heap.size := by
 have := h.k.out.1.lt
 omega
theorem one_new (w : World) (T : TypeId) (v : Value) : ∀ j u, [v][j]? = some u → (w.alloc (.cells #[v] T)).cell? ((⟨w.heap.size, 0, none⟩ : Addr).add j) = some u := fun j u h => by
 rw [add_new, cell_of_row (w.alloc _) w.heap.size j _ _ (0, 0) (heap_alloc_new w _)]
 simpa using h
theorem codeL_snoc (l : List Int) (x : Int) : codeL (l ++ [x]) = codeL l ++ [.octet x] := by unfold codeL; rw [List.map_append]; rfl
theorem codeL_len (l : List Int) : (codeL l).length = l.length := by unfold codeL; rw [List.length_map]
theorem codeParts_is (p : Pk) (a : Ad) (C : Nat) (w : World) (hC : C ≤ w.heap.size) (hm : p.cs.length ≤ 64) (h : PkAt w w.heap.size p a) :
  Calls Tryz.prog 70 #[.agg (pkArr p a)] w (GivesParts (codeL p.cs) C w) := by
 obtain ⟨i0, hi, hz0, hz1, hz2⟩ := info_parts info_any
 have H := Lib.hid h
 clear h
 have HK0 := Keep.new w 30 (pkArr p a)
 obtain ⟨W1, hW⟩ : ∃ W1, w.alloc (.cells (pkArr p a) 30) = W1 := ⟨_, rfl⟩
 rw [hW] at HK0
 unfold pkArr at hW ⊢
 have HW := Lib.hid hW
 clear hW
 go_enter Tryz.func70, Tryz.ntmps70
 go_upto_region 2 with fail
 rw [HW.out]
 generalize Value.agg _ = v0
 obtain ⟨g, hg⟩ : ∃ g, w.heap.size = g := ⟨_, rfl⟩
 rw [hg] at HK0 ⊢
 have HK := Lib.hid (KP.new HK0 H.out)
 clear HW HK0 H
 have HG := Lib.hid hg
 clear hg
 have c9 := HK.out.k.f9
 go_wp2_with fail
 clear c9
 go_loopw [3, 9] (fun v i wr => ∃ k : Nat, k ≤ p.cs.length ∧ i = .int .i64 (k : Int) ∧ OwnParts wr (w.heap.size + 1) C v (codeL (p.cs.take k)) ∧ KP w g p a wr) (fun _ i _ => p.cs.length - (RowKit.intOf i).toNat)
 case atStart => exact ⟨0, Nat.zero_le _, rfl, .nil _ _ _, HK.out⟩
 case round =>
  obtain ⟨k, hk, rfl, hown, hst⟩ := hrel
  have HT := Lib.hid hst
  clear hst HK
  by_cases hlt : k < p.cs.length
  ·have HS : Hid (codeL (p.cs.take (k + 1)) = codeL (p.cs.take k) ++ [.octet p.cs[k]]) := by show _ = _; rw [List.take_succ_eq_append_getElem hlt, codeL_snoc]
   obtain ⟨ad, hAd, hb0, hc⟩ := HT.out.out.2.cs.some_ (by omega)
   have d0 := hc k hlt
   rw [List.getD_eq_getElem?_getD, List.getElem?_eq_getElem hlt] at d0
   change _ = some (Value.int .i64 p.cs[k]) at d0
   clear hc
   have hlen : (codeL (p.cs.take k)).length = k := by rw [codeL_len, List.length_take]; omega
   obtain ⟨x, hx⟩ : ∃ x, p.cs[k] = x := ⟨_, rfl⟩
   rw [hx] at d0 HS
   obtain ⟨L, hL⟩ : ∃ L, codeL (p.cs.take k) = L := ⟨_, rfl⟩
   rw [hL] at hown HS hlen
   obtain ⟨vs, h1, h2, h3⟩ := hown
   have H1 := Lib.hid h1
   have HO := Lib.hid h2
   have HV := Lib.hid h3
   have HAd := Lib.hid hAd
   have HLn := Lib.hid hlen
   have hl64 : L.length ≤ 64 := by omega
   have hsz := HT.out.room HG.out
   have hkI : (k : Int) < (p.cs.length : Int) := by omega
   clear hx hL h1 h2 h3 hAd hlen
   rw [HAd.out]
   go_wp2_with (at_builtin; refine wpList_append_own _ rfl _ _ 65 rfl (w.heap.size + 1) 20 i0 .nilIface 1 16 Tryz.underlying65 hi hz0 hz1 hz2 rfl (by decide) _ _ _ rfl (HO.out.alloc _) ⟨wr.heap.size, 0, none⟩ 1 1 [.iface 110 (.int .i64 x)] rfl rfl ?c1 ?c2 ?c3 ?c4 ?c5 ?_)
   case c1 => exact one_new wr _ _
   case c2 => intro u hu; rw [List.mem_singleton] at hu; subst hu; rfl
   case c3 => unfold maxLen; omega
   case c4 => omega
   case c5 => rw [World.size_alloc]; omega
   intro v' w1 hown' hgrow _
   have hb1 := below_alloc_grown hsz HO.out hgrow
   have HT1 := Lib.hid (HT.out.grown HG.out hb1)
   have HP1 := Lib.hid (own_add H1.out (ws := [.iface 110 (.int .i64 x)]) (m := [.octet x]) rfl hown' (fun j y z => (HV.out j y z).below (hb1.mono (by omega))) (fun j y z => by
    match j, y, z with
    | 0, _, _ => rfl))
   clear hown' hgrow hb1 H1 HO HV HT
   go_wp2_with fail
   go_roundw
   case rel => exact ⟨k + 1, hlt, by go_num, by rw [HS.out]; exact HP1.out, HT1.out⟩
   case measure => simp [RowKit.intOf]; omega
  ·obtain rfl : k = p.cs.length := by omega
   rw [List.take_length] at hown
   have HO := Lib.hid (hown.gives HT.out.b)
   clear hown
   go_wp2_with fail
   go_ret
   exact HO.out
theorem filterL_snoc (b : Bool) (l : List Fl) (f : Fl) : filterL b (l ++ [f]) = filterL b l ++ (if b = true then [.words f.t, .octet (filterZ f)] else [.words f.t]) := by
 unfold filterL
 rw [List.flatMap_append]
 simp
theorem filterL_len (b : Bool) (l : List Fl) : (filterL b l).length ≤ 2 * l.length := by
 induction l with
 | nil => exact Nat.le_refl _
 | cons x t ih =>
  have e : filterL b (x :: t) = (if b = true then [.words x.t, .octet (filterZ x)] else [.words x.t]) ++ filterL b t := by unfold filterL; rw [List.flatMap_cons]
  rw [e, List.length_append, List.length_cons]
  cases b <;> simp <;> omega
theorem filterParts_is (p : Pk) (a : Ad) (C : Nat) (w : World) (hC : C ≤ w.heap.size) (hm : p.fs.length ≤ 32) (hq : ∀ f ∈ p.fs, (0 ≤ f.q ∧ f.q ≤ 2) ∧ (0 ≤ f.h ∧ f.h ≤ 2) ∧ f.t.size ≤ 140737488351232) (h : PkAt w w.heap.size p a) :
  Calls Tryz.prog 69 #[.agg (pkArr p a)] w (GivesParts (filterL (decide (p.kind = 8)) p.fs) C w) := by
 obtain ⟨i0, hi, hz0, hz1, hz2⟩ := info_parts info_any
 have H := Lib.hid h
 have HQ := Lib.hid hq
 clear h hq
 obtain ⟨s8, hs8⟩ : ∃ s, decide (p.kind = 8) = s := ⟨_, rfl⟩
 rw [hs8]
 have e8 : (p.kind == 8) = s8 := hs8
 clear hs8
 have HK0 := Keep.new w 30 (pkArr p a)
 obtain ⟨W1, hW⟩ : ∃ W1, w.alloc (.cells (pkArr p a) 30) = W1 := ⟨_, rfl⟩
 rw [hW] at HK0
 unfold pkArr at hW ⊢
 have HW := Lib.hid hW
 clear hW
 go_enter Tryz.func69, Tryz.ntmps69
 go_upto_region 2 with fail
 rw [HW.out]
 generalize Value.agg _ = v0
 obtain ⟨g, hg⟩ : ∃ g, w.heap.size = g := ⟨_, rfl⟩
 rw [hg] at HK0 ⊢
 have HK := Lib.hid (KP.new HK0 H.out)
 clear HW HK0 H
 have HG := Lib.hid hg
 clear hg
 have c10 := HK.out.k.f10
 go_wp2_with fail
 clear c10
 go_loopw [3, 9] (fun v i wr => ∃ k : Nat, k ≤ p.fs.length ∧ i = .int .i64 (k : Int) ∧ OwnParts wr (w.heap.size + 1) C v (filterL s8 (p.fs.take k)) ∧ KP w g p a wr) (fun _ i _ => p.fs.length - (RowKit.intOf i).toNat)
 case atStart => exact ⟨0, Nat.zero_le _, rfl, .nil _ _ _, HK.out⟩
 case round =>
  obtain ⟨k, hk, rfl, hown, hst⟩ := hrel
  have HT := Lib.hid hst
  clear hst HK
  by_cases hlt : k < p.fs.length
  ·have HS : Hid (filterL s8 (p.fs.take (k + 1)) = filterL s8 (p.fs.take k) ++ (if s8 = true then [.words p.fs[k].t, .octet (filterZ p.fs[k])] else [.words p.fs[k].t])) := by show _ = _; rw [List.take_succ_eq_append_getElem hlt, filterL_snoc]
   obtain ⟨b0, o, hAd, hb0, hc⟩ := HT.out.out.2.fs.some_ (by omega)
   obtain ⟨d0, d1, d2, d3, d4⟩ := hc k hlt
   clear hc
   have hlen : (filterL s8 (p.fs.take k)).length ≤ 64 := by have := filterL_len s8 (p.fs.take k); rw [List.length_take] at this; omega
   obtain ⟨⟨q0, q1⟩, ⟨q2, q3⟩, q4⟩ := HQ.out _ (List.getElem_mem hlt)
   obtain ⟨f, hf⟩ : ∃ f, p.fs[k] = f := ⟨_, rfl⟩
   rw [hf] at d0 d1 d2 d3 d4 HS q0 q1 q2 q3 q4
   obtain ⟨L, hL⟩ : ∃ L, filterL s8 (p.fs.take k) = L := ⟨_, rfl⟩
   rw [hL] at hown HS hlen
   obtain ⟨vs, h1, h2, h3⟩ := hown
   have H1 := Lib.hid h1
   have ho0 := h2.alloc (.cells #[.string f.t, .int .i64 f.q, .bool f.nl, .bool f.ar, .int .i64 f.h] 75)
   have hne : ∀ e, u3.ownBlock = some e → e < wr.heap.size := fun e he => (h2.lt e he).2
   have hv0 : ∀ j (_ : j < vs.length) (_ : j < L.length), PV (wr.alloc (.cells #[.string f.t, .int .i64 f.q, .bool f.nl, .bool f.ar, .int .i64 f.h] 75)) C vs[j] L[j] := fun j x y => (h3 j x y).below ((Below.refl _ _).alloc (Nat.le_trans hC HT.out.b.size) _)
   have HAd := Lib.hid hAd
   have ht0 := HT.out.alloc (.cells #[.string f.t, .int .i64 f.q, .bool f.nl, .bool f.ar, .int .i64 f.h] 75)
   have hb0 := Box.new wr 75 #[.string f.t, .int .i64 f.q, .bool f.nl, .bool f.ar, .int .i64 f.h]
   have hkI : (k : Int) < (p.fs.length : Int) := by omega
   obtain ⟨wf, hwf⟩ : ∃ wf, wr.alloc (.cells #[.string f.t, .int .i64 f.q, .bool f.nl, .bool f.ar, .int .i64 f.h] 75) = wf := ⟨_, rfl⟩
   have hwz : wf.heap.size = wr.heap.size + 1 := by rw [← hwf, World.size_alloc]
   rw [hwf] at ho0 hv0 ht0 hb0
   have HWF := Lib.hid hwf
   have HO := Lib.hid ho0
   have HV := Lib.hid hv0
   have HT0 := Lib.hid ht0
   have HB0 := Lib.hid hb0
   have HNE := Lib.hid hne
   have HWZ := Lib.hid hwz
   clear hf hL h1 h2 h3 hAd ho0 hv0 ht0 hb0 hne hwz hwf
   rw [HAd.out]
   go_upto_region 5 with fail
   rw [HWF.out]
   obtain ⟨gf, hgf⟩ : ∃ gf, wr.heap.size = gf := ⟨_, rfl⟩
   rw [hgf] at HB0 HNE HWZ ⊢
   clear d0 d1 d2 d3 d4 HWF HT hgf
   have e0 : wf.cell? ⟨gf, 0, none⟩ = some (.string f.t) := HB0.out.cell 0
   have hsz := HT0.out.room HG.out
   go_wp2_with (at_builtin; refine wpList_append_own _ rfl _ _ 65 rfl (w.heap.size + 1) 20 i0 .nilIface 1 16 Tryz.underlying65 hi hz0 hz1 hz2 rfl (by decide) _ _ _ rfl (HO.out.alloc _) ⟨wf.heap.size, 0, none⟩ 1 1 [.iface 114 (.string f.t)] rfl rfl ?c1 ?c2 ?c3 ?c4 ?c5 ?_)
   case c1 => exact one_new wf _ _
   case c2 => intro u hu; rw [List.mem_singleton] at hu; subst hu; rfl
   case c3 => unfold maxLen; omega
   case c4 => omega
   case c5 => rw [World.size_alloc]; omega
   intro v' w1 hown' hgrow _
   have hb1 := below_alloc_grown hsz HO.out hgrow
   have HT1 := Lib.hid (HT0.out.grown HG.out hb1)
   have hbox : Box w1 gf #[.string f.t, .int .i64 f.q, .bool f.nl, .bool f.ar, .int .i64 f.h] := by
    obtain ⟨T, hT⟩ := HB0.out
    refine ⟨T, ?_⟩
    have hz := HWZ.out
    rw [hgrow.block gf (by rw [World.size_alloc]; omega) (fun h => by have := HNE.out gf h.symm; omega), Below.heap_alloc wf _ gf (by omega)]
    exact hT
   have HB1 := Lib.hid hbox
   obtain ⟨vs1, k1, k2, k3⟩ := own_add H1.out (ws := [.iface 114 (.string f.t)]) (m := [.words f.t]) rfl hown' (fun j y z => (HV.out j y z).below (hb1.mono (by omega))) (fun j y z => by
    match j, y, z with
    | 0, _, _ => exact ⟨rfl, q4⟩)
   have K1 := Lib.hid k1
   have K2 := Lib.hid k2
   have K3 := Lib.hid k3
   clear hown' hgrow hb1 H1 HO HV HT0 HB0 HNE HWZ e0 hbox k1 k2 k3
   have f0 := HT1.out.k.f0
   cases s8 with
   | false =>
    go_wp2_with fail
    go_roundw
    case rel => exact ⟨k + 1, hlt, by go_num, by rw [HS.out]; exact ⟨vs1, K1.out, K2.out, K3.out⟩, HT1.out⟩
    case measure => simp [RowKit.intOf]; omega
   | true =>
    have HFF := Lib.hid (fun W => filterFlags_is f _ W q0 (by omega) q2 (by omega) rfl)
    have e0 : w1.cell? ⟨gf, 0, none⟩ = some (.string f.t) := HB1.out.cell 0
    have e1 : w1.cell? ⟨gf, 1, none⟩ = some (.int .i64 f.q) := HB1.out.cell 1
    have e2 : w1.cell? ⟨gf, 2, none⟩ = some (.bool f.nl) := HB1.out.cell 2
    have e3 : w1.cell? ⟨gf, 3, none⟩ = some (.bool f.ar) := HB1.out.cell 3
    have e4 : w1.cell? ⟨gf, 4, none⟩ = some (.int .i64 f.h) := HB1.out.cell 4
    have hl66 : (L ++ [Part.words f.t]).length ≤ 65 := by simp; omega
    obtain ⟨M, hM⟩ : ∃ M, L ++ [Part.words f.t] = M := ⟨_, rfl⟩
    have HM : Hid (filterL true (p.fs.take (k + 1)) = M ++ [.octet (filterZ f)]) := by show _ = _; rw [HS.out, ← hM]; simp
    rw [hM] at K1 K2 K3 hl66
    obtain ⟨z, hz⟩ : ∃ z, filterZ f = z := ⟨_, rfl⟩
    rw [hz] at HFF HM
    clear hM hz HS
    go_upto_region 7 with fail
    go_wp2_with (first
     | (go_at_call 97; refine (HFF.out _).mono ?_; rintro e w2 ⟨rfl, hb2⟩; have HT2 := Lib.hid (HT1.out.below hb2); have K4 := Lib.hid (own_below K2.out hb2); have hsz2 := HT2.out.room HG.out; have HB2 := Lib.hid hb2; have hsz1 := HT1.out.b.size; clear hb2)
     | (at_builtin; refine wpList_append_own _ rfl _ _ 65 rfl (w.heap.size + 1) 20 i0 .nilIface 1 16 Tryz.underlying65 hi hz0 hz1 hz2 rfl (by decide) _ _ _ rfl (K4.out.alloc _) ⟨w2.heap.size, 0, none⟩ 1 1 [.iface 110 (.int .i64 z)] rfl rfl ?c6 ?c7 ?c8 ?c9 ?c10 ?_))
    case c6 => exact one_new w2 _ _
    case c7 => intro u hu; rw [List.mem_singleton] at hu; subst hu; rfl
    case c8 => unfold maxLen; omega
    case c9 => omega
    case c10 => rw [World.size_alloc]; omega
    intro v2 w3 hown2 hgrow2 _
    have hb3 := below_alloc_grown hsz2 K4.out hgrow2
    have HT3 := Lib.hid (HT2.out.grown HG.out hb3)
    have HP3 := Lib.hid (own_add K1.out (ws := [.iface 110 (.int .i64 z)]) (m := [.octet z]) rfl hown2 (fun j y z => ((K3.out j y z).below (HB2.out.mono (Nat.le_trans hC hsz1))).below (hb3.mono (by omega))) (fun j y z => by
     match j, y, z with
     | 0, _, _ => rfl))
    clear hown2 hgrow2 hb3 HB2 K1 K2 K3 K4 HB1 HT1 HT2 e0 e1 e2 e3 e4 f0
    go_wp2_with fail
    go_roundw
    case rel => exact ⟨k + 1, hlt, by go_num, by rw [HM.out]; exact HP3.out, HT3.out⟩
    case measure => simp [RowKit.intOf]; omega
  ·obtain rfl : k = p.fs.length := by omega
   rw [List.take_length] at hown
   have HO := Lib.hid (hown.gives HT.out.b)
   clear hown
   go_wp2_with fail
   go_ret
   exact HO.out
end Go.Proofs.YtdbbcfohjkgdcaaGreat
