/- Package pack: filters, one by one. -/
import Derived.Test.YtdbbcfohjkgdcaaGreatM00
import Derived.Test.YtdbbcfohjkgdcaaGreatM15
set_option maxRecDepth 100000
set_option maxHeartbeats 64000000
namespace Go.Proofs.YtdbbcfohjkgdcaaGreat
open Go.RowKit Go.Lib Prp Pkt Vbi
theorem own_bar {w1 w2 : World} {B e sz n g : Nat} {v : Value} {xs : List Value} (h : w1.ownsRow B e sz v n xs) (hb : Bar g w1 w2) (hg : g < B) : w2.ownsRow B e sz v n xs := by
 refine ⟨h.1, ?_⟩
 rcases h.2 with h2 | ⟨k, cap, cur, hv, hk, hh, r⟩
 ·exact .inl h2
 ·exact .inr ⟨k, cap, cur, hv, hk, by rw [hb.block k (Array.getElem?_eq_some_iff.1 hh).1 (by omega)]; exact hh, r⟩
theorem Bar.then_ {g : Nat} {w w1 w2 : World} (h : Bar g w w1) (hb : Below w.heap.size w1 w2) : Bar g w w2 :=
 ⟨hb.os.trans h.os, hb.tape.trans h.tape, hb.output.trans h.output, Nat.le_trans h.size hb.size, fun k hk hn => (hb.block k hk).trans (h.block k hk hn)⟩
theorem RdOf.then_ {x : Bool} {g B : Nat} {st : St} {w1 w2 : World} (h : RdOf x w1 g st) (hb : Below B w1 w2) (hg : g < B) : RdOf x w2 g st :=
 h.map fun _ _ r => by
  obtain ⟨T, r⟩ := r
  exact ⟨T, (hb.block g hg).trans r⟩
def sliceLen : Value → Nat
 | .slice _ n _ => n
 | _ => 0
def GivesCodes (R : Res (List Int)) (g : Nat) (w : World) (r : Ending) (w' : World) : Prop :=
 ∃ L A c, r = .returned (.slice A (List.length L) c) ∧ L.length ≤ c ∧ New w.heap.size A ∧ Nums w' w'.heap.size .i64 A L ∧ RdOf true w' g R.st ∧ Bar g w w' ∧ (R.st.isBad = false → L = R.val [])
theorem many_stop {α : Type} {one : ByteArray → Res α} {f : Nat} {l : List α} {s : ByteArray} (h : s.size = 0) : manyR one (f + 1) l s = if l.length = 0 then .bad 9 else .ok l s := by unfold manyR; rw [if_pos h]
theorem many_full {α : Type} {one : ByteArray → Res α} {f : Nat} {l : List α} {s : ByteArray} (h : s.size ≠ 0) (h4 : l.length = 4) : manyR one (f + 1) l s = .bad 2 := by unfold manyR; rw [if_neg h, if_pos h4]
theorem many_step {α : Type} {one : ByteArray → Res α} {f : Nat} {l : List α} {s s' : ByteArray} {v : α} (h : s.size ≠ 0) (h4 : l.length ≠ 4) (ho : one s = .ok v s') : manyR one (f + 1) l s = manyR one f (l ++ [v]) s' := by
 conv => lhs; unfold manyR
 rw [if_neg h, if_neg h4, ho]
theorem many_err {α : Type} {one : ByteArray → Res α} {f : Nat} {l : List α} {s : ByteArray} {e : Int} (h : s.size ≠ 0) (h4 : l.length ≠ 4) (ho : one s = .bad e) : manyR one (f + 1) l s = .bad e := by
 conv => lhs; unfold manyR
 rw [if_neg h, if_neg h4, ho]
def Goes {α : Type} (one : ByteArray → Res α) (F : Res (List α)) (l : List α) : St → Prop
 | .ok s => F = manyR one (5 - l.length) l s
 | .bad e => F = .bad e
theorem goes_start {α : Type} (one : ByteArray → Res α) (st : St) : Goes one (st.run (manyR one 5 [])) [] st := by
 cases st <;> rfl
theorem many_int (g : Nat) (st : St) (w : World) (hr : RdOf true w g st) :
  Calls Tryz.prog 128 #[.pointer (some ⟨g, 0, none⟩), .func (.func 119) #[.pointer (some ⟨g, 0, none⟩)] #[]] w (GivesCodes (st.run (manyR octetR 5 [])) g w) := by
 obtain ⟨i0, hi, hz0, hz1, hz2⟩ := info_parts info_int
 have HS := Lib.hid (goes_start octetR st)
 obtain ⟨F, hF⟩ : ∃ F, st.run (manyR octetR 5 []) = F := ⟨_, rfl⟩
 rw [hF] at HS ⊢
 clear hF
 have hgl := hr.lt
 have HR := Lib.hid hr
 clear hr
 go_enter Tryz.func128, Tryz.ntmps128
 go_wp2_with fail
 go_loopw [5] (fun m wr => ∃ (l : List Int) (A : Option Addr) (c : Nat) (sc : St), l.length ≤ 4 ∧ m = .slice A l.length c ∧ wr.ownsRow w.heap.size 3 1 (.slice A l.length c) l.length (l.map (Value.int .i64)) ∧ RdOf true wr g sc ∧ Bar g w wr ∧ Goes octetR F l sc) (fun m _ => 5 - sliceLen m)
 case atStart => exact ⟨[], none, 0, st, Nat.zero_le _, rfl, World.ownsRow_nil _ _ _ _, HR.out, Bar.refl _ _, HS.out⟩
 case round =>
  obtain ⟨l, A, c, sc, hl4, rfl, hown, hrd, hbar, hgo⟩ := hrel
  have c0 := hrd.at0
  have hsz := hbar.size
  obtain ⟨s, hs⟩ : ∃ s, sc.rest = s := ⟨_, rfl⟩
  rw [hs] at c0
  have HO := Lib.hid hown
  have HD := Lib.hid hrd
  have HB := Lib.hid hbar
  have HG := Lib.hid hgo
  clear hown hrd hbar hgo HS HR
  by_cases h0 : s.size = 0
  ·obtain rfl : s = ByteArray.empty := ByteArray.size_eq_zero_iff.1 h0
   by_cases hl0 : l.length = 0
   ·obtain rfl : l = [] := List.eq_nil_of_length_eq_zero hl0
    have HF : Hid (F.st = sc.want false 9) := by
     show _ = _
     cases sc with
     | ok s' =>
      have hg : F = manyR octetR (4 + 1) [] s' := HG.out
      have hs' : s' = ByteArray.empty := hs
      rw [hg, many_stop (by rw [hs']; rfl)]
      rfl
     | bad e => have hg : F = .bad e := HG.out; rw [hg]; rfl
    have HX := Lib.hid (fun (W : World) (h : RdOf true W g sc) => fail_st g sc 9 W (by decide) h)
    clear hs h0 hl0
    go_wp2_with fail
    refine (HX.out _ HD.out).mono ?_
    rintro r w1 ⟨rfl, k1, k2⟩
    have K1 := Lib.hid k1
    have K2 := Lib.hid k2
    clear k1 k2 c0
    go_wp2_with fail
    go_ret
    refine ⟨[], A, c, rfl, Nat.zero_le _, own_new HO.out, .inl rfl, by rw [HF.out]; exact K1.out, HB.out.trans K2.out, fun hb => ?_⟩
    rw [HF.out] at hb
    cases sc <;> cases hb
   ·have HF : Hid (F.st = sc ∧ (F.st.isBad = false → l = F.val [])) := by
     show _ ∧ _
     cases sc with
     | ok s' =>
      have hg : F = manyR octetR (5 - l.length) l s' := HG.out
      have hs' : s' = ByteArray.empty := hs
      obtain ⟨f, hf⟩ : ∃ f, 5 - l.length = f + 1 := ⟨4 - l.length, by omega⟩
      rw [hf, many_stop (by rw [hs']; rfl), if_neg hl0] at hg
      rw [hg]
      exact ⟨rfl, fun _ => rfl⟩
     | bad e =>
      have hg : F = .bad e := HG.out
      rw [hg]
      exact ⟨rfl, fun hb => by cases hb⟩
    have hlI : ((l.length : Int) == 0) = false := ne_false (by omega)
    clear hs h0
    go_wp2_with fail
    go_ret
    exact ⟨l, A, c, rfl, own_room HO.out, own_new HO.out, Nums.of_own HO.out, by rw [HF.out.1]; exact HD.out, HB.out, HF.out.2⟩
  ·obtain ⟨hne, hne2⟩ := size_facts h0
   obtain ⟨s', rfl⟩ : ∃ s', sc = .ok s' := by
    cases sc with
    | ok s' => exact ⟨s', rfl⟩
    | bad e => exact absurd (by rw [← hs]; rfl) h0
   obtain rfl : s' = s := hs
   have HG2 : Hid (F = manyR octetR (5 - l.length) l s') := HG.out
   clear HG
   obtain ⟨f, hf⟩ : ∃ f, 5 - l.length = f + 1 := ⟨4 - l.length, by omega⟩
   by_cases hl : l.length = 4
   ·have HF : Hid (F = .bad 2) := by show _ = _; rw [HG2.out, hf, many_full h0 hl]
    have HX := Lib.hid (fun (W : World) (h : RdOf true W g (.ok s')) => fail_st g (.ok s') 2 W (by decide) h)
    have hlI : ((l.length : Int) == 4) = true := beq_iff_eq.2 (by omega)
    have hlI0 : ((l.length : Int) == 0) = false := ne_false (by omega)
    go_wp2_with fail
    refine (HX.out _ HD.out).mono ?_
    rintro r w1 ⟨rfl, k1, k2⟩
    have K1 := Lib.hid k1
    have K2 := Lib.hid k2
    clear k1 k2 c0
    go_wp2_with fail
    go_ret
    refine ⟨l, A, c, by rw [hl]; rfl, own_room HO.out, own_new HO.out, (nums_bar (Nums.of_own HO.out) (Nat.le_refl _) ((own_new HO.out).off hgl) K2.out).mono K2.out.size, by rw [HF.out]; exact K1.out, HB.out.trans K2.out, fun hb => ?_⟩
    rw [HF.out] at hb
    cases hb
   ·obtain ⟨v, s1, hrun⟩ := more_run (st := .ok s') (decide_eq_true h0)
    have HO1 := octet_st g (.ok s') wr HD.out
    rw [hrun] at HO1
    have HC : Hid (Calls Tryz.prog 119 #[.pointer (some ⟨g, 0, none⟩)] wr fun r w' => r = .returned (.int .i64 v) ∧ RdOf true w' g (.ok s1) ∧ Bar g wr w') := HO1
    have HG3 : Hid (Goes octetR F (l ++ [v]) (.ok s1)) := by
     show F = manyR octetR (5 - (l ++ [v]).length) (l ++ [v]) s1
     rw [HG2.out, hf, many_step h0 hl hrun, List.length_append]
     congr 1
     simp
     omega
    have hlI : ((l.length : Int) == 4) = false := ne_false (by omega)
    clear HO1 hrun
    have hcf : ∀ W : World, (callFunc 119 #[.pointer (some ⟨g, 0, none⟩)]).run Tryz.prog W = .ok (.enter 119 #[.pointer (some ⟨g, 0, none⟩)]) W := fun W => by go_simp
    go_wp2_with fail
    refine HC.out.mono ?_
    rintro r w1 ⟨rfl, k1, k2⟩
    have K1 := Lib.hid k1
    have K2 := Lib.hid k2
    clear k1 k2 c0 hcf
    have HO2 := Lib.hid (own_bar HO.out K2.out hgl)
    have hz1' := K2.out.size
    have hlen : Hid ((l ++ [v]).length = l.length + 1) := by show _ = _; simp
    go_wp2_with (at_builtin; refine wpList_append_own _ rfl _ _ 24 rfl w.heap.size 3 i0 (.int .i64 0) 1 8 Tryz.underlying24 hi hz0 hz1 hz2 rfl (by decide) _ _ _ rfl (HO2.out.alloc _) ⟨w1.heap.size, 0, none⟩ 1 1 [.int .i64 v] rfl rfl ?c1 ?c2 ?c3 ?c4 ?c5 ?_)
    case c1 => exact fun j u hu => cells_new _ _ _ j u hu
    case c2 => intro u hu; simp at hu; subst hu; rfl
    case c3 => unfold maxLen; omega
    case c4 => omega
    case c5 => simp; omega
    intro v' w2 hown' hgrow _
    have hbl := below_alloc_grown (by omega : w.heap.size ≤ w1.heap.size) HO2.out hgrow
    have HOW : Hid (w2.ownsRow w.heap.size 3 1 v' (l ++ [v]).length ((l ++ [v]).map (Value.int .i64))) := by
     show World.ownsRow _ _ _ _ _ _ _
     rw [hlen.out, List.map_append]
     exact hown'
    have HBW : Hid (Below w.heap.size w1 w2) := hbl
    clear hown' hgrow hbl HO HO2
    obtain ⟨A', c', hv⟩ := own_form HOW.out
    subst hv
    go_wp2
    go_roundw
    case rel => exact ⟨l ++ [v], A', c', .ok s1, by rw [hlen.out]; omega, rfl, HOW.out, K1.out.then_ HBW.out hgl, (HB.out.trans K2.out).then_ HBW.out, HG3.out⟩
    case measure => rw [hlen.out]; simp [sliceLen]; omega
open Go.RowKit Go.Lib Prp Pkt
section
variable {W : World} {g : Nat} {p : Pk} {a : Ad}
theorem load_bx (h : Box W g (pkArr p a)) : (loadVar 30 ⟨g, 0, none⟩).run Tryz.prog W = .ok (.agg (pkArr p a)) W :=
 run_loadVar_mid W g 0 30 (pkArr p a).toList _ (fun j v hv => by rw [Nat.zero_add, h.cell j]; rw [← hv]; simp) Tryz.underlying30 rfl info_pk
theorem one_pk (p : Pk) (a : Ad) : (pkArr p a).all (·.oneCell') = true := by simp [pkArr, Value.oneCell']
end
section
variable {P : Program} {ops : Array Oper} {rest : List Oper} {op : Oper} {a : Act} {w : World} {K : Act → World → Prop} {Q : Exit → Act → World → Prop}
theorem wpList_load_any (hw : Region.wanted op (yielded ops a.tmps) = true) (ty : TypeId) (x : Operand) (ho : op.op = .load ty x) (b off : Nat)
  (hx : a.eval x = .pointer (some ⟨b, off, none⟩)) (V : Value) (hv : (loadVar ty ⟨b, off, none⟩).run P w = .ok V w) (h : wpList P ops Q rest (a.put op.dst V) w) : wpList P ops Q (op :: rest) a w := by
 simp only [wpList]
 rw [if_pos hw]
 exact .inl (wp_load_one ty x ho b off hx V hv h)
theorem wpList_store_whole (hgd : op.guard = none) (ty : TypeId) (x y : Operand) (ho : op.op = .store ty x y) (g : Nat) (cells : Array Value) (hx : a.eval x = .pointer (some ⟨g, 0, none⟩)) (hy : a.eval y = .agg cells)
  (old : Array Value) (hg : Box w g old) (hi : (P.info? ty).map (·.size) = some cells.size) (hold : old.size = cells.size) (h1 : cells.all (·.oneCell') = true)
  (h : wpList P ops Q rest (a.put op.dst undef) (w.setRow g cells)) : wpList P ops Q (op :: rest) a w := by
 obtain ⟨T, hg⟩ := hg
 exact wpList_plain hgd fun _ hK => wp_store_row ty x y ho g cells hx hy T old hg hi hold h1 (hK _ _ h)
end
theorem built_zero : Tryz.prog.built 30 [] = some (pkArr (zp 0) za) := by kernel_rfl
theorem built_kind (c : Int) : Tryz.prog.built 30 [(0, .int .i64 c)] = some (pkArr (zp c) za) := by kernel_rfl
section
variable {ops : Array Oper} {rest : List Oper} {o : Oper} {a : Act} {w : World} {Q : Exit → Act → World → Prop}
theorem wpList_build_kind (hg : o.guard = none) (x : Operand) (ho : o.op = .build 30 #[(0, x)]) (c : Int) (hx : a.eval x = .int .i64 c) (h : wpList Tryz.prog ops Q rest (a.put o.dst (.agg (pkArr (zp c) za))) w) : wpList Tryz.prog ops Q (o :: rest) a w := by
 have hb : Tryz.prog.built 30 ((#[(0, x)] : Array (Nat × Operand)).map fun (i, x) => (i, a.eval x)).toList = some (pkArr (zp c) za) := by
  rw [← built_kind c, ← hx]
  simp
 refine wpList_build hg 30 #[(0, x)] ho (by rw [hb]; rfl) ?_
 rw [hb]
 exact h
theorem wpList_build_none (hg : o.guard = none) (ho : o.op = .build 30 #[]) (h : wpList Tryz.prog ops Q rest (a.put o.dst (.agg (pkArr (zp 0) za))) w) : wpList Tryz.prog ops Q (o :: rest) a w := by
 have hb : Tryz.prog.built 30 ((#[] : Array (Nat × Operand)).map fun (i, x) => (i, a.eval x)).toList = some (pkArr (zp 0) za) := by
  rw [← built_zero]
  simp
 refine wpList_build hg 30 #[] ho (by rw [hb]; rfl) ?_
 rw [hb]
 exact h
end
theorem Box.row {w : World} {g : Nat} {cs : Array Value} (h : Box w g cs) (ds : Array Value) : Box (w.setRow g ds) g ds := by
 obtain ⟨T, h⟩ := h
 exact ⟨T, setRow_heap w g cs ds T _ h⟩
theorem Bar.row (g : Nat) (w : World) (ds : Array Value) : Bar g w (w.setRow g ds) :=
 ⟨rfl, rfl, rfl, by simp, fun k _ hn => setRow_other w g k ds hn⟩
theorem results_pk3 {fn : Func} {tmps : Array Value} {w : World} {c i j g : Nat} {p : Pk} {a : Ad} {u v : Value} (hr : fn.results = #[.cell c 30, .tmp i, .tmp j]) (h0 : tmps.getD c undef = .pointer (some ⟨g, 0, none⟩)) (hb : Box w g (pkArr p a)) (h1 : tmps.getD i undef = u) (h2 : tmps.getD j undef = v) :
  (results fn tmps).run Tryz.prog w = .ok (.tuple #[.agg (pkArr p a), u, v]) w := by
 unfold results
 rw [hr]
 simp only [List.mapM_toArray, List.mapM_cons, List.mapM_nil, h0, h1, h2, asAddr, Sem.run_bind, Sem.run_pure, Result.andThen_ok, bind_assoc, pure_bind, map_bind, map_pure, load_bx hb]
 rfl
theorem results_pk2 {fn : Func} {tmps : Array Value} {w : World} {c i g : Nat} {p : Pk} {a : Ad} {u : Value} (hr : fn.results = #[.cell c 30, .tmp i]) (h0 : tmps.getD c undef = .pointer (some ⟨g, 0, none⟩)) (hb : Box w g (pkArr p a)) (h1 : tmps.getD i undef = u) :
  (results fn tmps).run Tryz.prog w = .ok (.tuple #[.agg (pkArr p a), u]) w := by
 unfold results
 rw [hr]
 simp only [List.mapM_toArray, List.mapM_cons, List.mapM_nil, h0, h1, asAddr, Sem.run_bind, Sem.run_pure, Result.andThen_ok, bind_assoc, pure_bind, map_bind, map_pure, load_bx hb]
 rfl
theorem results_pk1 {fn : Func} {tmps : Array Value} {w : World} {c g : Nat} {p : Pk} {a : Ad} (hr : fn.results = #[.cell c 30]) (h0 : tmps.getD c undef = .pointer (some ⟨g, 0, none⟩)) (hb : Box w g (pkArr p a)) :
  (results fn tmps).run Tryz.prog w = .ok (.agg (pkArr p a)) w := by
 unfold results
 rw [hr]
 simp only [List.mapM_toArray, List.mapM_cons, List.mapM_nil, h0, asAddr, Sem.run_bind, Sem.run_pure, Result.andThen_ok, bind_assoc, pure_bind, map_bind, map_pure, load_bx hb]
 rfl
open Go.RowKit Go.Lib Prp Pkt Vbi
theorem mqtt_facts {T : ByteArray} (h : ¬ T = mqtt) : (T.toList == [77, 81, 84, 84]) = false := by
 refine beq_eq_false_iff_ne.2 fun e => h ?_
 refine (toList_eq_iff T mqtt).1 ?_
 rw [e, ByteArray.toList_eq]
 rfl
theorem protocol_is (g : Nat) (st : St) (w : World) (hr : RdOf true w g st) :
  Calls Tryz.prog 143 #[.pointer (some ⟨g, 0, none⟩)] w fun r w' => r = .returned (.tuple #[]) ∧ RdOf true w' g (connHead st) ∧ Bar g w w' := by
 have HO0 := words_st g st w hr
 obtain ⟨T, hT⟩ : ∃ T, (st.run (longR true)).val ⟨#[]⟩ = T := ⟨_, rfl⟩
 obtain ⟨s1, hs1⟩ : ∃ s, (st.run (longR true)).st = s := ⟨_, rfl⟩
 rw [hs1, hT] at HO0
 have HX := Lib.hid (fun (s : St) (W : World) (h : RdOf true W g s) => fail_st g s 9 W (by decide) h)
 have key : ∀ s2, s1.want (decide (T = mqtt)) 9 = s2 → ∀ n s3, (s2.run octetR).val 0 = n → (s2.run octetR).st = s3 → connHead st = s3.want (decide (n = 5)) 9 := by
  rintro s2 rfl n s3 rfl rfl
  subst hs1 hT
  rfl
 have HO := Lib.hid HO0
 clear HO0 hs1 hT hr
 by_cases hm : T = mqtt
 ·have key1 := key s1 (by rw [decide_eq_true hm, want_true])
  clear key
  subst hm
  obtain ⟨n, hn⟩ : ∃ n, (s1.run octetR).val 0 = n := ⟨_, rfl⟩
  obtain ⟨s3, hs3⟩ : ∃ s, (s1.run octetR).st = s := ⟨_, rfl⟩
  have H10 := fun (W : World) (hr : RdOf true W g s1) => octet_st g s1 W hr
  rw [hn, hs3] at H10
  have HK := Lib.hid (key1 n s3 hn hs3)
  have H1 := Lib.hid H10
  clear H10 hn hs3 key1
  unfold mqtt at HO
  by_cases h5 : n = 5
  ·have HK2 : Hid (connHead st = s3) := by show _ = _; rw [HK.out, decide_eq_true h5, want_true]
   subst h5
   go_enter Tryz.func143, Tryz.ntmps143
   go_wp2_with fail
   refine HO.out.mono ?_
   rintro r w1 ⟨rfl, k1, k2⟩
   have K1 := Lib.hid k1
   have K2 := Lib.hid k2
   clear k1 k2
   go_wp2_with fail
   refine (H1.out _ K1.out).mono ?_
   rintro r w2 ⟨rfl, k1, k2⟩
   have K3 := Lib.hid k1
   have K4 := Lib.hid k2
   clear k1 k2
   go_wp2_with fail
   exact bodyPost_end (v := .tuple #[]) (by simp [results, Tryz.results143]) rfl ⟨rfl, by rw [HK2.out]; exact K3.out, K2.out.trans K4.out⟩
  ·have HK2 : Hid (connHead st = s3.want false 9) := by show _ = _; rw [HK.out, decide_eq_false h5]
   go_enter Tryz.func143, Tryz.ntmps143
   go_wp2_with fail
   refine HO.out.mono ?_
   rintro r w1 ⟨rfl, k1, k2⟩
   have K1 := Lib.hid k1
   have K2 := Lib.hid k2
   clear k1 k2
   go_wp2_with fail
   refine (H1.out _ K1.out).mono ?_
   rintro r w2 ⟨rfl, k1, k2⟩
   have K3 := Lib.hid k1
   have K4 := Lib.hid k2
   clear k1 k2
   go_wp2_with fail
   refine (HX.out _ _ K3.out).mono ?_
   rintro r w3 ⟨rfl, k1, k2⟩
   have K5 := Lib.hid k1
   have K6 := Lib.hid k2
   clear k1 k2
   go_wp2_with fail
   exact bodyPost_end (v := .tuple #[]) (by simp [results, Tryz.results143]) rfl ⟨rfl, by rw [HK2.out]; exact K5.out, (K2.out.trans K4.out).trans K6.out⟩
 ·have key1 := key (s1.want false 9) (by rw [decide_eq_false hm])
  clear key
  have hm2 := mqtt_facts hm
  obtain ⟨s2, hs2⟩ : ∃ s, s1.want false 9 = s := ⟨_, rfl⟩
  rw [hs2] at key1
  have HX1 : Hid (∀ W, RdOf true W g s1 → Calls Tryz.prog 103 #[.pointer (some ⟨g, 0, none⟩), .int .i64 9] W fun r w' => r = .returned (.tuple #[]) ∧ RdOf true w' g s2 ∧ Bar g W w') := by
   rw [← hs2]
   exact fun W h => fail_st g s1 9 W (by decide) h
  obtain ⟨n, hn⟩ : ∃ n, (s2.run octetR).val 0 = n := ⟨_, rfl⟩
  obtain ⟨s3, hs3⟩ : ∃ s, (s2.run octetR).st = s := ⟨_, rfl⟩
  have H10 := fun (W : World) (hr : RdOf true W g s2) => octet_st g s2 W hr
  rw [hn, hs3] at H10
  have HK := Lib.hid (key1 n s3 hn hs3)
  have H1 := Lib.hid H10
  clear H10 hn hs3 key1 hs2
  by_cases h5 : n = 5
  ·have HK2 : Hid (connHead st = s3) := by show _ = _; rw [HK.out, decide_eq_true h5, want_true]
   subst h5
   go_enter Tryz.func143, Tryz.ntmps143
   go_wp2_with fail
   refine HO.out.mono ?_
   rintro r w1 ⟨rfl, k1, k2⟩
   have K1 := Lib.hid k1
   have K2 := Lib.hid k2
   clear k1 k2
   go_wp2_with fail
   refine (HX1.out _ K1.out).mono ?_
   rintro r w2 ⟨rfl, k1, k2⟩
   have K3 := Lib.hid k1
   have K4 := Lib.hid k2
   clear k1 k2
   go_wp2_with fail
   refine (H1.out _ K3.out).mono ?_
   rintro r w3 ⟨rfl, k1, k2⟩
   have K5 := Lib.hid k1
   have K6 := Lib.hid k2
   clear k1 k2
   go_wp2_with fail
   exact bodyPost_end (v := .tuple #[]) (by simp [results, Tryz.results143]) rfl ⟨rfl, by rw [HK2.out]; exact K5.out, (K2.out.trans K4.out).trans K6.out⟩
  ·have HK2 : Hid (connHead st = s3.want false 9) := by show _ = _; rw [HK.out, decide_eq_false h5]
   go_enter Tryz.func143, Tryz.ntmps143
   go_wp2_with fail
   refine HO.out.mono ?_
   rintro r w1 ⟨rfl, k1, k2⟩
   have K1 := Lib.hid k1
   have K2 := Lib.hid k2
   clear k1 k2
   go_wp2_with fail
   refine (HX1.out _ K1.out).mono ?_
   rintro r w2 ⟨rfl, k1, k2⟩
   have K3 := Lib.hid k1
   have K4 := Lib.hid k2
   clear k1 k2
   go_wp2_with fail
   refine (H1.out _ K3.out).mono ?_
   rintro r w3 ⟨rfl, k1, k2⟩
   have K5 := Lib.hid k1
   have K6 := Lib.hid k2
   clear k1 k2
   go_wp2_with fail
   refine (HX.out _ _ K5.out).mono ?_
   rintro r w4 ⟨rfl, k1, k2⟩
   have K7 := Lib.hid k1
   have K8 := Lib.hid k2
   clear k1 k2
   go_wp2_with fail
   exact bodyPost_end (v := .tuple #[]) (by simp [results, Tryz.results143]) rfl ⟨rfl, by rw [HK2.out]; exact K7.out, ((K2.out.trans K4.out).trans K6.out).trans K8.out⟩
def andAll : Bool := (List.range 256).all fun m => ((bits BinOp.and IntKind.i64 (m : Int) 1 != 0) == decide ((m : Int) % 2 = 1)) && (((bits BinOp.and IntKind.i64 (m : Int) 2 != 0) == decide ((m : Int) / 2 % 2 = 1)) && (((bits BinOp.and IntKind.i64 (m : Int) 4 != 0) == decide ((m : Int) / 4 % 2 = 1)) &&
 (((bits BinOp.and IntKind.i64 (m : Int) 8 != 0) == decide ((m : Int) / 8 % 2 = 1)) && (((bits BinOp.and IntKind.i64 (m : Int) 32 != 0) == decide ((m : Int) / 32 % 2 = 1)) && (((bits BinOp.and IntKind.i64 (m : Int) 64 != 0) == decide ((m : Int) / 64 % 2 = 1)) && ((bits BinOp.and IntKind.i64 (m : Int) 128 != 0) == decide ((m : Int) / 128 = 1)))))))
theorem and_all : andAll = true := by kernel_rfl
theorem and_bits {n : Int} (h0 : 0 ≤ n) (h1 : n ≤ 255) : (bits BinOp.and IntKind.i64 n 1 != 0) = decide (n % 2 = 1) ∧ (bits BinOp.and IntKind.i64 n 2 != 0) = decide (n / 2 % 2 = 1) ∧ (bits BinOp.and IntKind.i64 n 4 != 0) = decide (n / 4 % 2 = 1) ∧
  (bits BinOp.and IntKind.i64 n 8 != 0) = decide (n / 8 % 2 = 1) ∧ (bits BinOp.and IntKind.i64 n 32 != 0) = decide (n / 32 % 2 = 1) ∧ (bits BinOp.and IntKind.i64 n 64 != 0) = decide (n / 64 % 2 = 1) ∧ (bits BinOp.and IntKind.i64 n 128 != 0) = decide (n / 128 = 1) := by
 obtain ⟨m, rfl⟩ : ∃ m : Nat, n = (m : Int) := ⟨n.toNat, by omega⟩
 have h := and_all
 unfold andAll at h
 have := List.all_eq_true.1 h m (List.mem_range.2 (by omega))
 simp only [Bool.and_eq_true, beq_iff_eq] at this
 exact this
def loginAll : Bool := (List.range 256).all fun m => (!(decide ((m : Int) / 8 % 4 < 3)) || !(decide ((m : Int) / 4 % 2 = 1)) || (decide (bitZ (decide ((m : Int) / 2 % 2 = 1)) 2 + 4 + 8 * ((m : Int) / 8 % 4) + bitZ (decide ((m : Int) / 32 % 2 = 1)) 32 + bitZ (decide ((m : Int) / 64 % 2 = 1)) 64 + bitZ (decide ((m : Int) / 128 = 1)) 128 = (m : Int)) == cfB (m : Int))) &&
 (decide ((m : Int) / 4 % 2 = 1) || (decide (bitZ (decide ((m : Int) / 2 % 2 = 1)) 2 + bitZ (decide ((m : Int) / 64 % 2 = 1)) 64 + bitZ (decide ((m : Int) / 128 = 1)) 128 = (m : Int)) == cfB (m : Int)))
theorem login_all : loginAll = true := by kernel_rfl
theorem login_cf (p : Pk) {n : Int} (h0 : 0 ≤ n) (h1 : n ≤ 255) : (qosB (willOf n).q && decide (loginZ (withFlags p n (willOf n)) = n)) = cfB n := by
 obtain ⟨m, rfl⟩ : ∃ m : Nat, n = (m : Int) := ⟨n.toNat, by omega⟩
 have h := login_all
 unfold loginAll at h
 have := List.all_eq_true.1 h m (List.mem_range.2 (by omega))
 rw [Bool.and_eq_true] at this
 obtain ⟨t1, t2⟩ := this
 by_cases c : (m : Int) / 4 % 2 = 1
 ·have e : willOf (m : Int) = ⟨true, (m : Int) / 8 % 4, decide ((m : Int) / 32 % 2 = 1), ⟨#[]⟩, ⟨#[]⟩, []⟩ := by unfold willOf; rw [if_pos c]
  rw [e]
  show (qosB ((m : Int) / 8 % 4) && decide (bitZ (decide ((m : Int) / 2 % 2 = 1)) 2 + bitZ true 4 + 8 * ((m : Int) / 8 % 4) + bitZ (decide ((m : Int) / 32 % 2 = 1)) 32 + bitZ (decide ((m : Int) / 64 % 2 = 1)) 64 + bitZ (decide ((m : Int) / 128 = 1)) 128 = (m : Int))) = _
  by_cases d : (m : Int) / 8 % 4 < 3
  ·have q : qosB ((m : Int) / 8 % 4) = true := by unfold qosB; exact decide_eq_true (by omega)
   rw [q, Bool.true_and]
   rw [decide_eq_true c, decide_eq_true d] at t1
   exact eq_of_beq t1
  ·have q : qosB ((m : Int) / 8 % 4) = false := by unfold qosB; exact decide_eq_false (by omega)
   rw [q, Bool.false_and]
   unfold cfB
   exact (decide_eq_false (fun x => d x.2.1)).symm
 ·have e : willOf (m : Int) = zw := by unfold willOf; rw [if_neg c]
  rw [e]
  show (true && decide (bitZ (decide ((m : Int) / 2 % 2 = 1)) 2 + 0 + 0 + 0 + bitZ (decide ((m : Int) / 64 % 2 = 1)) 64 + bitZ (decide ((m : Int) / 128 = 1)) 128 = (m : Int))) = _
  rw [Bool.true_and, Int.add_zero, Int.add_zero, Int.add_zero]
  rw [decide_eq_false c] at t2
  exact eq_of_beq t2
theorem flags_is (B g h : Nat) (w0 : World) (st : St) (p : Pk) (a : Ad) (w : World) (hz : p.w = zw) (hl : Live true B w0 g h st p a w) :
  Calls Tryz.prog 144 #[.pointer (some ⟨g, 0, none⟩), .pointer (some ⟨h, 0, none⟩)] w fun r w' => r = .returned (.tuple #[]) ∧ ∃ a', Live true B w0 g h ((st.run octetR).st.want (cfB ((st.run octetR).val 0)) 8) (withFlags p ((st.run octetR).val 0) (willOf ((st.run octetR).val 0))) a' w' := by
 have hn0 := octet_range st
 have HO0 := octet_st g st w hl.rd
 obtain ⟨n, hn⟩ : ∃ n, (st.run octetR).val 0 = n := ⟨_, rfl⟩
 obtain ⟨s1, hs1⟩ : ∃ s, (st.run octetR).st = s := ⟨_, rfl⟩
 rw [hs1, hn] at HO0
 rw [hs1, hn]
 rw [hn] at hn0
 obtain ⟨hn0, hn1⟩ := hn0
 have HO := Lib.hid HO0
 have HL := Lib.hid hl
 clear hl HO0 hn hs1
 obtain ⟨_, a2, a4, _, a32, a64, a128⟩ := and_bits hn0 hn1
 have HCF := Lib.hid (login_cf p hn0 hn1)
 have HQ := Lib.hid (fun (x : Int) (b : Bool) (W : World) (hb : qosB x = b) => isQoS_is x b W hb)
 have HF := Lib.hid (fun (p : Pk) (a : Ad) (R : Int) (W : World) (h0 : 0 ≤ p.w.q) (h3 : p.w.q ≤ 3) (hR : loginZ p = R) => connectFlags_is p a R W h0 h3 hR)
 have HX := Lib.hid (fun (W : World) (h : RdOf true W g s1) => fail_st g s1 8 W (by decide) h)
 have HZ := Lib.hid hz
 clear hz
 obtain ⟨b2, hb2⟩ : ∃ b, decide (n / 2 % 2 = 1) = b := ⟨_, rfl⟩
 obtain ⟨b32, hb32⟩ : ∃ b, decide (n / 32 % 2 = 1) = b := ⟨_, rfl⟩
 obtain ⟨b64, hb64⟩ : ∃ b, decide (n / 64 % 2 = 1) = b := ⟨_, rfl⟩
 obtain ⟨b128, hb128⟩ : ∃ b, decide (n / 128 = 1) = b := ⟨_, rfl⟩
 have HB : Hid (∀ w, withFlags p n w = { p with clean := b2, hp := b64, hu := b128, w := w }) := fun w => by subst hb2 hb64 hb128; rfl
 rw [hb2] at a2
 rw [hb32] at a32
 rw [hb64] at a64
 rw [hb128] at a128
 by_cases c : n / 4 % 2 = 1
 ·rw [decide_eq_true c] at a4
  have HW : Hid (willOf n = ⟨true, n / 8 % 4, b32, ⟨#[]⟩, ⟨#[]⟩, []⟩) := by show _ = _; unfold willOf; rw [if_pos c, hb32]
  clear c hb2 hb32 hb64 hb128
  go_enter Tryz.func144, Tryz.ntmps144
  go_wp2_with fail
  refine HO.out.mono ?_
  rintro r w1 ⟨rfl, k1, k2⟩
  have HL1 := Lib.hid (HL.out.bar k2 k1)
  clear k1 k2 HO HL
  have d12 := HL1.out.f12
  have f12 := HL1.out.frozen 12
  have d22 := HL1.out.f22
  have f22 := HL1.out.frozen 22
  have d20 := HL1.out.f20
  have f20 := HL1.out.frozen 20
  have d14 := HL1.out.f14
  have d15 := HL1.out.f15
  have d16 := HL1.out.f16
  have d17 := HL1.out.f17
  have d18 := HL1.out.f18
  have d19 := HL1.out.f19
  have f14 := HL1.out.frozen 14
  have f15 := HL1.out.frozen 15
  have f16 := HL1.out.frozen 16
  have f17 := HL1.out.frozen 17
  have f18 := HL1.out.frozen 18
  have f19 := HL1.out.frozen 19
  go_upto_region 6 with fail
  have l1 := HL1.out.put1 12 (.bool b2) { p with clean := b2 } rfl rfl rfl rfl rfl
  have l2 := l1.put1 22 (.bool b64) { p with clean := b2, hp := b64 } rfl rfl rfl rfl rfl
  have l3 := l2.put1 20 (.bool b128) { p with clean := b2, hp := b64, hu := b128 } rfl rfl rfl rfl rfl
  have l4 := l3.put1 14 (.bool true) { p with clean := b2, hp := b64, hu := b128, w := { p.w with has := true } } rfl rfl rfl rfl rfl
  have l5 := l4.put1 15 (.int .i64 (n / 8 % 4)) { p with clean := b2, hp := b64, hu := b128, w := { p.w with has := true, q := n / 8 % 4 } } rfl rfl rfl rfl rfl
  have l6 := l5.put1 16 (.bool b32) { p with clean := b2, hp := b64, hu := b128, w := { p.w with has := true, q := n / 8 % 4, ret := b32 } } rfl rfl rfl rfl rfl
  have l7 := l6.put1 17 (.string ⟨#[]⟩) { p with clean := b2, hp := b64, hu := b128, w := { p.w with has := true, q := n / 8 % 4, ret := b32, t := ⟨#[]⟩ } } rfl rfl rfl rfl rfl
  have l8 := l7.put1 18 (.string ⟨#[]⟩) { p with clean := b2, hp := b64, hu := b128, w := { p.w with has := true, q := n / 8 % 4, ret := b32, t := ⟨#[]⟩, b := ⟨#[]⟩ } } rfl rfl rfl rfl rfl
  have l9 : Live true B w0 g h s1 { p with clean := b2, hp := b64, hu := b128, w := ⟨true, n / 8 % 4, b32, ⟨#[]⟩, ⟨#[]⟩, []⟩ } { a with wa := none, wc := 0 } _ := l8.wprops (l := []) (A := none) (c := 0) (.inl rfl) ⟨.none_ _, .none_ _, .none_ _⟩ (Nat.le_refl _)
  have HL2 := Lib.hid l9
  clear l1 l2 l3 l4 l5 l6 l7 l8 l9 d12 f12 d22 f22 d20 f20 d14 d15 d16 d17 d18 d19 f14 f15 f16 f17 f18 f19 HL1
  generalize World.setCell _ _ _ = W2 at HL2 ⊢
  have d15 := HL2.out.f15
  obtain ⟨y, hy⟩ : ∃ y, qosB (n / 8 % 4) = y := ⟨_, rfl⟩
  have HQ1 := Lib.hid (fun W => HQ.out (n / 8 % 4) y W hy)
  cases y with
  | false =>
   have HR : Hid (cfB n = false) := by show _ = _; rw [← HCF.out, HW.out]; show (qosB (n / 8 % 4) && _) = false; rw [hy, Bool.false_and]
   clear hy
   go_wp2_with (go_at_call 87; refine (HQ1.out _).mono ?_; rintro r w2 ⟨rfl, rfl⟩)
   refine (HX.out _ HL2.out.rd).mono ?_
   rintro r w3 ⟨rfl, k1, k2⟩
   have HL3 := Lib.hid (HL2.out.bar k2 k1)
   clear k1 k2 d15 HL2
   go_wp2_with fail
   exact bodyPost_end (v := .tuple #[]) (by simp [results, Tryz.results144]) rfl ⟨rfl, _, by rw [HR.out, HB.out, HW.out]; exact HL3.out⟩
  | true =>
   have hq := of_decide_eq_true (show decide (0 ≤ (n / 8 % 4) ∧ (n / 8 % 4) ≤ 2) = true from hy)
   obtain ⟨R, hR⟩ : ∃ R, loginZ { p with clean := b2, hp := b64, hu := b128, w := ⟨true, n / 8 % 4, b32, ⟨#[]⟩, ⟨#[]⟩, []⟩ } = R := ⟨_, rfl⟩
   have HR : Hid (cfB n = decide (R = n)) := by show _ = _; rw [← HCF.out, HB.out, HW.out, hR]; show (qosB (n / 8 % 4) && _) = _; rw [hy, Bool.true_and]
   have HF1 := Lib.hid (fun (W : World) => HF.out { p with clean := b2, hp := b64, hu := b128, w := ⟨true, n / 8 % 4, b32, ⟨#[]⟩, ⟨#[]⟩, []⟩ } { a with wa := none, wc := 0 } R W hq.1 (by have := hq.2; show (n / 8 % 4) ≤ 3; omega) hR)
   have hld := load_bx HL2.out.bx
   clear hy hq hR
   by_cases hRn : R = n
   ·have HR1 : Hid (cfB n = true) := by show _ = _; rw [HR.out]; exact decide_eq_true hRn
    subst hRn
    go_wp2_with (first | (refine wpList_load_any (by rfl) 30 (.tmp 47) rfl h 0 rfl _ hld ?_) | (go_at_call 87; refine (HQ1.out _).mono ?_; rintro r w2 ⟨rfl, rfl⟩) | (go_at_call 96; refine (HF1.out _).mono ?_; rintro r w3 ⟨rfl, hb⟩; have HL3 := Lib.hid (HL2.out.below hb); clear hb hld))
    exact bodyPost_end (v := .tuple #[]) (by simp [results, Tryz.results144]) rfl ⟨rfl, _, by rw [HR1.out, HB.out, HW.out, want_true]; exact HL3.out⟩
   ·have hRb := ne_true hRn
    go_wp2_with (first | (refine wpList_load_any (by rfl) 30 (.tmp 47) rfl h 0 rfl _ hld ?_) | (go_at_call 87; refine (HQ1.out _).mono ?_; rintro r w2 ⟨rfl, rfl⟩) | (go_at_call 96; refine (HF1.out _).mono ?_; rintro r w3 ⟨rfl, hb⟩; have HL3 := Lib.hid (HL2.out.below hb); clear hb hld))
    refine (HX.out _ HL3.out.rd).mono ?_
    rintro r w4 ⟨rfl, k1, k2⟩
    have HL4 := Lib.hid (HL3.out.bar k2 k1)
    clear k1 k2 HL2 HL3
    go_wp2_with fail
    exact bodyPost_end (v := .tuple #[]) (by simp [results, Tryz.results144]) rfl ⟨rfl, _, by rw [HR.out, HB.out, HW.out, decide_eq_false hRn]; exact HL4.out⟩
 ·rw [decide_eq_false c] at a4
  have HW : Hid (willOf n = zw) := by show _ = _; unfold willOf; rw [if_neg c]
  clear c hb2 hb32 hb64 hb128
  go_enter Tryz.func144, Tryz.ntmps144
  go_wp2_with fail
  refine HO.out.mono ?_
  rintro r w1 ⟨rfl, k1, k2⟩
  have HL1 := Lib.hid (HL.out.bar k2 k1)
  clear k1 k2 HO HL
  have d12 := HL1.out.f12
  have f12 := HL1.out.frozen 12
  have d22 := HL1.out.f22
  have f22 := HL1.out.frozen 22
  have d20 := HL1.out.f20
  have f20 := HL1.out.frozen 20
  go_upto_region 6 with fail
  have l1 := HL1.out.put1 12 (.bool b2) { p with clean := b2 } rfl rfl rfl rfl rfl
  have l2 := l1.put1 22 (.bool b64) { p with clean := b2, hp := b64 } rfl rfl rfl rfl rfl
  have l3 := l2.put1 20 (.bool b128) { p with clean := b2, hp := b64, hu := b128 } rfl rfl rfl rfl rfl
  have hzz : ({ p with clean := b2, hp := b64, hu := b128 } : Pk) = { p with clean := b2, hp := b64, hu := b128, w := zw } := by rw [← HZ.out]
  rw [hzz] at l3
  have HL2 := Lib.hid l3
  clear hzz
  clear l1 l2 l3 d12 f12 d22 f22 d20 f20 HL1
  generalize World.setCell _ _ _ = W2 at HL2 ⊢
  have d15 := HL2.out.f15
  obtain ⟨y, hy⟩ : ∃ y, qosB (0 : Int) = y := ⟨_, rfl⟩
  have HQ1 := Lib.hid (fun W => HQ.out (0 : Int) y W hy)
  cases y with
  | false =>
   have HR : Hid (cfB n = false) := by show _ = _; rw [← HCF.out, HW.out]; show (qosB (0 : Int) && _) = false; rw [hy, Bool.false_and]
   clear hy
   go_wp2_with (go_at_call 87; refine (HQ1.out _).mono ?_; rintro r w2 ⟨rfl, rfl⟩)
   refine (HX.out _ HL2.out.rd).mono ?_
   rintro r w3 ⟨rfl, k1, k2⟩
   have HL3 := Lib.hid (HL2.out.bar k2 k1)
   clear k1 k2 d15 HL2
   go_wp2_with fail
   exact bodyPost_end (v := .tuple #[]) (by simp [results, Tryz.results144]) rfl ⟨rfl, _, by rw [HR.out, HB.out, HW.out]; exact HL3.out⟩
  | true =>
   have hq := of_decide_eq_true (show decide (0 ≤ (0 : Int) ∧ (0 : Int) ≤ 2) = true from hy)
   obtain ⟨R, hR⟩ : ∃ R, loginZ { p with clean := b2, hp := b64, hu := b128, w := zw } = R := ⟨_, rfl⟩
   have HR : Hid (cfB n = decide (R = n)) := by show _ = _; rw [← HCF.out, HB.out, HW.out, hR]; show (qosB (0 : Int) && _) = _; rw [hy, Bool.true_and]
   have HF1 := Lib.hid (fun (W : World) => HF.out { p with clean := b2, hp := b64, hu := b128, w := zw } a R W hq.1 (by have := hq.2; show (0 : Int) ≤ 3; omega) hR)
   have hld := load_bx HL2.out.bx
   clear hy hq hR
   by_cases hRn : R = n
   ·have HR1 : Hid (cfB n = true) := by show _ = _; rw [HR.out]; exact decide_eq_true hRn
    subst hRn
    go_wp2_with (first | (refine wpList_load_any (by rfl) 30 (.tmp 47) rfl h 0 rfl _ hld ?_) | (go_at_call 87; refine (HQ1.out _).mono ?_; rintro r w2 ⟨rfl, rfl⟩) | (go_at_call 96; refine (HF1.out _).mono ?_; rintro r w3 ⟨rfl, hb⟩; have HL3 := Lib.hid (HL2.out.below hb); clear hb hld))
    exact bodyPost_end (v := .tuple #[]) (by simp [results, Tryz.results144]) rfl ⟨rfl, _, by rw [HR1.out, HB.out, HW.out, want_true]; exact HL3.out⟩
   ·have hRb := ne_true hRn
    go_wp2_with (first | (refine wpList_load_any (by rfl) 30 (.tmp 47) rfl h 0 rfl _ hld ?_) | (go_at_call 87; refine (HQ1.out _).mono ?_; rintro r w2 ⟨rfl, rfl⟩) | (go_at_call 96; refine (HF1.out _).mono ?_; rintro r w3 ⟨rfl, hb⟩; have HL3 := Lib.hid (HL2.out.below hb); clear hb hld))
    refine (HX.out _ HL3.out.rd).mono ?_
    rintro r w4 ⟨rfl, k1, k2⟩
    have HL4 := Lib.hid (HL3.out.bar k2 k1)
    clear k1 k2 HL2 HL3
    go_wp2_with fail
    exact bodyPost_end (v := .tuple #[]) (by simp [results, Tryz.results144]) rfl ⟨rfl, _, by rw [HR.out, HB.out, HW.out, decide_eq_false hRn]; exact HL4.out⟩
open Go.RowKit Go.Lib Prp Pkt Vbi
def fagg (f : Fl) : Value := .agg #[.string f.t, .int .i64 f.q, .bool f.nl, .bool f.ar, .int .i64 f.h]
theorem RdOf.far {x : Bool} {w : World} {g : Nat} {st : St} (h : RdOf x w g st) {p : Addr} (hp : g ≠ p.block) (v : Value) : RdOf x (w.setCell p v) g st := h.map fun _ _ r => Box.far r hp v
theorem Bar.far {g : Nat} {w w1 : World} (h : Bar g w w1) {p : Addr} (hp : w.heap.size ≤ p.block) (v : Value) : Bar g w (w1.setCell p v) := h.then_ ((Below.refl _ _).setCell hp v)
def NextFil (G g : Nat) (sub : Bool) : Prop := ∀ (st : St) (w : World), RdOf true w g st →
 Calls Tryz.prog G #[.pointer (some ⟨g, 0, none⟩)] w fun r w' => r = .returned (fagg (filterS sub st).1) ∧ RdOf true w' g (filterS sub st).2 ∧ Bar g w w'
theorem topic_is (g : Nat) : NextFil 127 g false := by
 intro st w hr
 obtain ⟨T, hT⟩ : ∃ T, (st.run (longR true)).val ⟨#[]⟩ = T := ⟨_, rfl⟩
 obtain ⟨s1, hs1⟩ : ∃ s, (st.run (longR true)).st = s := ⟨_, rfl⟩
 have H10 := fun (W : World) (hr : RdOf true W g st) => words_st g st W hr
 rw [hT, hs1] at H10
 have HE : Hid (filterS false st = (⟨T, 0, false, false, 0⟩, s1)) := by
  subst hs1 hT
  rfl
 have H1 := Lib.hid H10
 have HR := Lib.hid hr
 clear hT hs1 H10 hr
 rw [HE.out]
 unfold fagg
 go_enter Tryz.func127, Tryz.ntmps127
 go_upto_region 1 with fail
 have hb0 := Box.new w 75 #[.string ⟨#[]⟩, .int .i64 0, .bool false, .bool false, .int .i64 0]
 have ha := (Below.refl w.heap.size w).alloc (Nat.le_refl _) (.cells #[.string ⟨#[]⟩, .int .i64 0, .bool false, .bool false, .int .i64 0] 75)
 have hg := HR.out.lt
 have HR0 := Lib.hid (HR.out.below ha)
 obtain ⟨k, hk⟩ : ∃ k, w.heap.size = k := ⟨_, rfl⟩
 have HB0 := Lib.hid hb0
 have HA := Lib.hid ha
 clear hb0 ha HR
 have hgk : ¬ g = k := by omega
 have hkg : ¬ k = g := by omega
 have hkl := HB0.out.lt
 rw [hk] at HB0 ⊢
 generalize w.alloc _ = W0 at HB0 HA HR0 hkl ⊢
 go_wp2_with fail
 refine (H1.out _ HR0.out).mono ?_
 rintro r w1 ⟨rfl, k1, k2⟩
 have HR1 := Lib.hid k1
 have HB := Lib.hid ((Bar.of g HA.out).trans k2)
 have hbx := k2.box HB0.out hkg
 clear k1 k2 HB0 HR0 H1
 have d0 := hbx.cell 0
 have d1 := hbx.cell 1
 have d2 := hbx.cell 2
 have d3 := hbx.cell 3
 have d4 := hbx.cell 4
 have f0 := hbx.frozen 0
 have f1 := hbx.frozen 1
 have f2 := hbx.frozen 2
 have f3 := hbx.frozen 3
 have f4 := hbx.frozen 4
 clear hbx
 go_wp2_with fail
 refine bodyPost_ret (v := .agg #[.string T, .int .i64 0, .bool false, .bool false, .int .i64 0]) (by simp [results, Tryz.results127, go_sem, d0, d1, d2, d3, d4]) rfl ⟨rfl, ?_, ?_⟩
 ·exact ((((HR1.out.far (p := ⟨k, 0, none⟩) hgk _).far (p := ⟨k, 1, none⟩) hgk _).far (p := ⟨k, 2, none⟩) hgk _).far (p := ⟨k, 3, none⟩) hgk _).far (p := ⟨k, 4, none⟩) hgk _
 ·have hle : w.heap.size ≤ k := by omega
  exact ((((HB.out.far (p := ⟨k, 0, none⟩) hle _).far (p := ⟨k, 1, none⟩) hle _).far (p := ⟨k, 2, none⟩) hle _).far (p := ⟨k, 3, none⟩) hle _).far (p := ⟨k, 4, none⟩) hle _
@[irreducible] def FilAt (w : World) (g : Nat) (st : St) (k : Nat) (cs : Array Value) (k2 : Nat) (ds : Array Value) (W : World) : Prop :=
 RdOf true W g st ∧ Bar g w W ∧ Box W k cs ∧ Box W k2 ds ∧ w.heap.size ≤ k ∧ w.heap.size ≤ k2 ∧ k ≠ k2 ∧ g < w.heap.size
section
variable {w W W' : World} {g k k2 : Nat} {st st' : St} {cs ds : Array Value}
theorem FilAt.mk (h : RdOf true W g st ∧ Bar g w W ∧ Box W k cs ∧ Box W k2 ds ∧ w.heap.size ≤ k ∧ w.heap.size ≤ k2 ∧ k ≠ k2 ∧ g < w.heap.size) : FilAt w g st k cs k2 ds W := by unfold FilAt; exact h
theorem FilAt.out (h : FilAt w g st k cs k2 ds W) : RdOf true W g st ∧ Bar g w W ∧ Box W k cs ∧ Box W k2 ds ∧ w.heap.size ≤ k ∧ w.heap.size ≤ k2 ∧ k ≠ k2 ∧ g < w.heap.size := by unfold FilAt at h; exact h
theorem FilAt.bar (h : FilAt w g st k cs k2 ds W) (hb : Bar g W W') (hr : RdOf true W' g st') : FilAt w g st' k cs k2 ds W' := by
 obtain ⟨h1, h2, h3, h4, h5, h6, h7, h8⟩ := h.out
 exact .mk ⟨hr, h2.trans hb, hb.box h3 (by omega), hb.box h4 (by omega), h5, h6, h7, h8⟩
theorem FilAt.below (h : FilAt w g st k cs k2 ds W) (hb : Below W.heap.size W W') : FilAt w g st k cs k2 ds W' := h.bar (.of g hb) (h.out.1.below hb)
theorem FilAt.put (h : FilAt w g st k cs k2 ds W) (i : Nat) (v : Value) : FilAt w g st k cs k2 (ds.setIfInBounds i v) (W.setCell ⟨k2, i, none⟩ v) := by
 obtain ⟨h1, h2, h3, h4, h5, h6, h7, h8⟩ := h.out
 exact .mk ⟨h1.far (p := ⟨k2, i, none⟩) (by show g ≠ k2; omega) v, h2.far (p := ⟨k2, i, none⟩) h6 v, h3.far (p := ⟨k2, i, none⟩) h7 v, h4.put i v, h5, h6, h7, h8⟩
theorem FilAt.fin (h : FilAt w g st k cs k2 ds W) (a b c d e : Value) : RdOf true (((((W.setCell ⟨k, 0, none⟩ a).setCell ⟨k, 1, none⟩ b).setCell ⟨k, 2, none⟩ c).setCell ⟨k, 3, none⟩ d).setCell ⟨k, 4, none⟩ e) g st ∧ Bar g w (((((W.setCell ⟨k, 0, none⟩ a).setCell ⟨k, 1, none⟩ b).setCell ⟨k, 2, none⟩ c).setCell ⟨k, 3, none⟩ d).setCell ⟨k, 4, none⟩ e) := by
 obtain ⟨h1, h2, h3, h4, h5, h6, h7, h8⟩ := h.out
 have hgk : g ≠ k := by omega
 exact ⟨((((h1.far (p := ⟨k, 0, none⟩) hgk _).far (p := ⟨k, 1, none⟩) hgk _).far (p := ⟨k, 2, none⟩) hgk _).far (p := ⟨k, 3, none⟩) hgk _).far (p := ⟨k, 4, none⟩) hgk _,
  ((((h2.far (p := ⟨k, 0, none⟩) h5 _).far (p := ⟨k, 1, none⟩) h5 _).far (p := ⟨k, 2, none⟩) h5 _).far (p := ⟨k, 3, none⟩) h5 _).far (p := ⟨k, 4, none⟩) h5 _⟩
theorem FilAt.c1 (h : FilAt w g st k cs k2 ds W) (i : Nat) : W.cell? ⟨k, i, none⟩ = cs[i]? := h.out.2.2.1.cell i
theorem FilAt.c2 (h : FilAt w g st k cs k2 ds W) (i : Nat) : W.cell? ⟨k2, i, none⟩ = ds[i]? := h.out.2.2.2.1.cell i
theorem FilAt.g1 (h : FilAt w g st k cs k2 ds W) (i : Nat) : W.frozen? ⟨k, i, none⟩ = false := h.out.2.2.1.frozen i
theorem FilAt.g2 (h : FilAt w g st k cs k2 ds W) (i : Nat) : W.frozen? ⟨k2, i, none⟩ = false := h.out.2.2.2.1.frozen i
end
theorem filter_is (g : Nat) : NextFil 126 g true := by
 intro st w hr
 obtain ⟨T, hT⟩ : ∃ T, (st.run (longR true)).val ⟨#[]⟩ = T := ⟨_, rfl⟩
 obtain ⟨s1, hs1⟩ : ∃ s, (st.run (longR true)).st = s := ⟨_, rfl⟩
 have hn0 := octet_range s1
 obtain ⟨n, hn⟩ : ∃ n, (s1.run octetR).val 0 = n := ⟨_, rfl⟩
 obtain ⟨s2, hs2⟩ : ∃ s, (s1.run octetR).st = s := ⟨_, rfl⟩
 have H10 := topic_is g st
 have e10 : filterS false st = (⟨T, 0, false, false, 0⟩, s1) := by
  subst hs1 hT
  rfl
 rw [e10] at H10
 unfold fagg at H10
 have H20 := fun (W : World) (hr : RdOf true W g s1) => octet_st g s1 W hr
 rw [hn, hs2] at H20
 rw [hn] at hn0
 obtain ⟨hn0, hn1⟩ := hn0
 obtain ⟨_, _, a4, a8, _, _, _⟩ := and_bits hn0 hn1
 obtain ⟨b4, hb4⟩ : ∃ b, decide (n / 4 % 2 = 1) = b := ⟨_, rfl⟩
 obtain ⟨b8, hb8⟩ : ∃ b, decide (n / 8 % 2 = 1) = b := ⟨_, rfl⟩
 obtain ⟨y, hy⟩ : ∃ y, mayFilB ⟨T, n % 4, b4, b8, n / 16⟩ = y := ⟨_, rfl⟩
 have hyy : decide (n % 4 < 3 ∧ n / 16 < 3) = y := by
  rw [← hy]
  unfold mayFilB qosB
  show _ = (decide (0 ≤ n % 4 ∧ n % 4 ≤ 2) && decide (0 ≤ n / 16 ∧ n / 16 ≤ 2))
  by_cases c : n % 4 < 3
  ·by_cases d : n / 16 < 3
   ·rw [decide_eq_true ⟨c, d⟩, decide_eq_true (by omega), decide_eq_true (by omega)]; rfl
   ·rw [decide_eq_false (fun x => d x.2), decide_eq_false (p := 0 ≤ n / 16 ∧ n / 16 ≤ 2) (by omega), Bool.and_false]
  ·rw [decide_eq_false (fun x => c x.1), decide_eq_false (p := 0 ≤ n % 4 ∧ n % 4 ≤ 2) (by omega), Bool.false_and]
 have HE : Hid (filterS true st = (⟨T, n % 4, b4, b8, n / 16⟩, s2.want y 9)) := by
  show _ = _
  rw [← hyy, ← hb4, ← hb8]
  subst hs2 hn hs1 hT
  rfl
 have HM := Lib.hid (fun W => mayFilter_is ⟨T, n % 4, b4, b8, n / 16⟩ y W hy)
 have HX := Lib.hid (fun (W : World) (h : RdOf true W g s2) => fail_st g s2 9 W (by decide) h)
 have H1 := Lib.hid H10
 have H2 := Lib.hid H20
 have HR := Lib.hid hr
 rw [hb4] at a4
 rw [hb8] at a8
 clear hT hs1 H10 H20 hr e10 hn hs2 hyy hy hb4 hb8
 rw [HE.out]
 unfold fagg
 go_enter Tryz.func126, Tryz.ntmps126
 go_upto_region 1 with fail
 have hb0 := Box.new w 75 #[.string ⟨#[]⟩, .int .i64 0, .bool false, .bool false, .int .i64 0]
 have ha := (Below.refl w.heap.size w).alloc (Nat.le_refl _) (.cells #[.string ⟨#[]⟩, .int .i64 0, .bool false, .bool false, .int .i64 0] 75)
 have hg := HR.out.lt
 have HR0 := Lib.hid (HR.out.below ha)
 obtain ⟨k, hk⟩ : ∃ k, w.heap.size = k := ⟨_, rfl⟩
 have HB0 := Lib.hid hb0
 have HA := Lib.hid ha
 clear hb0 ha HR
 have hkl := HB0.out.lt
 have HK := Lib.hid hk
 rw [hk] at HB0 hg hkl ⊢
 clear hk
 have hkg : ¬ k = g := by omega
 generalize w.alloc _ = W0 at HB0 HA HR0 hkl ⊢
 go_wp2_with fail
 refine (H1.out _ HR0.out).mono ?_
 rintro r w1 ⟨rfl, k1, k2⟩
 have hk1 := k2.size
 have HB := Lib.hid ((Bar.of g HA.out).trans k2)
 have HR1 := Lib.hid k1
 have HBX := Lib.hid (k2.box HB0.out hkg)
 clear k1 k2 HB0 HR0 H1
 have hbn := Box.new w1 75 #[.string T, .int .i64 0, .bool false, .bool false, .int .i64 0]
 have han := (Below.refl w1.heap.size w1).alloc (Nat.le_refl _) (.cells #[.string T, .int .i64 0, .bool false, .bool false, .int .i64 0] 75)
 have HF0 := Lib.hid (FilAt.mk (w := w) ⟨HR1.out.below han, HB.out.trans (Bar.of g han), HBX.out.below han, hbn, (by have := HK.out; omega), (by have := HK.out; omega), (by omega), (by have := HK.out; omega)⟩)
 clear hbn han HR1 HB HBX
 go_upto_region 2 with fail
 obtain ⟨k2, hk2⟩ : ∃ k2, w1.heap.size = k2 := ⟨_, rfl⟩
 rw [hk2] at HF0 ⊢
 clear hk2
 generalize w1.alloc _ = W1 at HF0 ⊢
 go_wp2_with fail
 refine (H2.out _ HF0.out.out.1).mono ?_
 rintro r w2 ⟨rfl, q1, q2⟩
 have HF1 := Lib.hid (HF0.out.bar q2 q1)
 clear q1 q2 HF0 H2
 have d0 := HF1.out.c2 0
 have d1 := HF1.out.c2 1
 have d2 := HF1.out.c2 2
 have d3 := HF1.out.c2 3
 have d4 := HF1.out.c2 4
 have f0 := HF1.out.g2 0
 have f1 := HF1.out.g2 1
 have f2 := HF1.out.g2 2
 have f3 := HF1.out.g2 3
 have f4 := HF1.out.g2 4
 have HF2 : Hid (FilAt w g s2 k _ k2 #[.string T, .int .i64 (n % 4), .bool b4, .bool b8, .int .i64 (n / 16)] _) := (((HF1.out.put 1 (.int .i64 (n % 4))).put 2 (.bool b4)).put 3 (.bool b8)).put 4 (.int .i64 (n / 16))
 go_upto_region 7 with fail
 clear d0 d1 d2 d3 d4 f0 f1 f2 f3 f4 HF1
 generalize World.setCell _ _ _ = W2 at HF2 ⊢
 have d0 := HF2.out.c2 0
 have d1 := HF2.out.c2 1
 have d2 := HF2.out.c2 2
 have d3 := HF2.out.c2 3
 have d4 := HF2.out.c2 4
 go_wp2_with fail
 refine (HM.out _).mono ?_
 rintro r w3 ⟨rfl, hb⟩
 have HF3 := Lib.hid (HF2.out.below hb)
 clear hb d0 d1 d2 d3 d4 HF2
 cases y with
 | true =>
  have HY : Hid (s2.want true 9 = s2) := want_true s2 9
  have d0 := HF3.out.c2 0
  have d1 := HF3.out.c2 1
  have d2 := HF3.out.c2 2
  have d3 := HF3.out.c2 3
  have d4 := HF3.out.c2 4
  have c0 := HF3.out.c1 0
  have c1 := HF3.out.c1 1
  have c2 := HF3.out.c1 2
  have c3 := HF3.out.c1 3
  have c4 := HF3.out.c1 4
  have f0 := HF3.out.g1 0
  have f1 := HF3.out.g1 1
  have f2 := HF3.out.g1 2
  have f3 := HF3.out.g1 3
  have f4 := HF3.out.g1 4
  go_wp2_with fail
  refine bodyPost_ret (v := .agg #[.string T, .int .i64 (n % 4), .bool b4, .bool b8, .int .i64 (n / 16)]) (by simp [results, Tryz.results126, go_sem, c0, c1, c2, c3, c4]) rfl ⟨rfl, ?_⟩
  rw [HY.out]
  exact HF3.out.fin _ _ _ _ _
 | false =>
  go_wp2_with fail
  refine (HX.out _ HF3.out.out.1).mono ?_
  rintro r w4 ⟨rfl, q1, q2⟩
  have HF4 := Lib.hid (HF3.out.bar q2 q1)
  clear q1 q2 HF3
  have d0 := HF4.out.c2 0
  have d1 := HF4.out.c2 1
  have d2 := HF4.out.c2 2
  have d3 := HF4.out.c2 3
  have d4 := HF4.out.c2 4
  have c0 := HF4.out.c1 0
  have c1 := HF4.out.c1 1
  have c2 := HF4.out.c1 2
  have c3 := HF4.out.c1 3
  have c4 := HF4.out.c1 4
  have f0 := HF4.out.g1 0
  have f1 := HF4.out.g1 1
  have f2 := HF4.out.g1 2
  have f3 := HF4.out.g1 3
  have f4 := HF4.out.g1 4
  go_wp2_with fail
  refine bodyPost_ret (v := .agg #[.string T, .int .i64 (n % 4), .bool b4, .bool b8, .int .i64 (n / 16)]) (by simp [results, Tryz.results126, go_sem, c0, c1, c2, c3, c4]) rfl ⟨rfl, ?_⟩
  exact HF4.out.fin _ _ _ _ _
end Go.Proofs.YtdbbcfohjkgdcaaGreat
