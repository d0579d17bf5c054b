/- Package frame: the packets of what comes to a framer that lives. -/
import Derived.Test.YtdbbcfohjkgdcaaGreatL00
import Derived.Test.YtdbbcfohjkgdcaaGreatL28
import Derived.Test.YtdbbcfohjkgdcaaGreatL29
set_option maxRecDepth 100000
set_option maxHeartbeats 64000000
namespace Go.Proofs.YtdbbcfohjkgdcaaGreat
open Go.RowKit Go.Lib Prp Pkt Vbi
theorem isMax_is (n : Int) (b : Bool) (w : World) (hb : decide (2 ≤ n ∧ n ≤ 8192) = b) :
  Calls Tryz.prog 50 #[.int .i64 n] w fun e w' => e = .returned (.bool b) ∧ w = w' := by
 by_cases h1 : 2 ≤ n
 ·by_cases h2 : n ≤ 8192
  ·rw [decide_eq_true ⟨h1, h2⟩] at hb
   subst hb
   go_enter Tryz.func50, Tryz.ntmps50
   go_wp2
   go_ret
   exact ⟨rfl, rfl⟩
  ·rw [decide_eq_false (fun h => h2 h.2)] at hb
   subst hb
   go_enter Tryz.func50, Tryz.ntmps50
   go_wp2
   go_ret
   exact ⟨rfl, rfl⟩
 ·rw [decide_eq_false (fun h => h1 h.1)] at hb
  subst hb
  go_enter Tryz.func50, Tryz.ntmps50
  go_wp2
  go_ret
  exact ⟨rfl, rfl⟩
theorem formUnless_is (b : Bool) (w : World) :
  Calls Tryz.prog 51 #[.bool b] w fun e w' => e = .returned (.int .i64 (if b = true then 0 else 1)) ∧ w = w' := by
 cases b with
 | true =>
  go_enter Tryz.func51, Tryz.ntmps51
  go_wp2
  go_ret
  exact ⟨rfl, rfl⟩
 | false =>
  go_enter Tryz.func51, Tryz.ntmps51
  go_wp2
  go_ret
  exact ⟨rfl, rfl⟩
theorem wholeSize_is (s : ByteArray) (max N E : Int) (w : World) (hs : s.size ≤ 281474976710656) (h : sizeS max s = (N, E)) :
  Calls Tryz.prog 52 #[.string s, .int .i64 max] w fun r w' => r = .returned (.tuple #[.int .i64 N, .int .i64 E]) ∧ w = w' := by
 rcases takeS_cases s with ⟨hz, _⟩ | ⟨hz, X, ht, hE, _⟩ | ⟨hz, m, q, ht, hq, hm, _, _⟩
 ·have e : sizeS max s = (0, 7) := by unfold sizeS lenS; rw [if_pos hz]; rfl
  rw [e] at h
  injection h with h1 h2
  subst h1 h2
  obtain rfl : s = ByteArray.empty := ByteArray.size_eq_zero_iff.1 hz
  clear hz e
  go_enter Tryz.func52, Tryz.ntmps52
  go_wp2_with fail
  go_ret2
  exact ⟨rfl, rfl⟩
 ·have e : sizeS max s = (0, X) := by unfold sizeS lenS; rw [if_neg hz, ht, if_pos hE, if_pos hE]
  rw [e] at h
  injection h with h1 h2
  subst h1 h2
  have HT := Lib.hid (fun W => TakeNum_z (s.extract 1 s.size) 0 0 X W (by rw [ByteArray.size_extract]; omega) ht)
  obtain ⟨hne, hne2⟩ := size_facts hz
  have hEb := ne_true hE
  have hl1 : (1 : Int) ≤ (s.size : Int) := by omega
  clear e ht
  go_enter Tryz.func52, Tryz.ntmps52
  go_wp2_with (go_at_call 81; refine (HT.out _).mono ?_; rintro r wt ⟨rfl, rfl⟩)
  go_ret2
  exact ⟨rfl, rfl⟩
 ·have e : lenS s = (1 + (q : Int) + (m : Int), 0) := by unfold lenS; rw [if_neg hz, ht]; exact if_neg (fun hh => hh rfl)
  have HT := Lib.hid (fun W => TakeNum_z (s.extract 1 s.size) (m : Int) (q : Int) 0 W (by rw [ByteArray.size_extract]; omega) ht)
  obtain ⟨hne, hne2⟩ := size_facts hz
  have hl1 : (1 : Int) ≤ (s.size : Int) := by omega
  have hw1 : IntKind.i64.wrap (1 + (q : Int) + (m : Int)) = 1 + (q : Int) + (m : Int) := IntWalk.i64_in _ (by omega)
  unfold sizeS at h
  rw [e, if_neg (not_not_intro rfl)] at h
  clear e ht
  by_cases hx : max < 1 + (q : Int) + (m : Int)
  ·rw [if_pos hx] at h
   injection h with h1 h2
   subst h1 h2
   go_enter Tryz.func52, Tryz.ntmps52
   go_wp2_with (go_at_call 81; refine (HT.out _).mono ?_; rintro r wt ⟨rfl, rfl⟩)
   go_ret2
   exact ⟨rfl, rfl⟩
  ·rw [if_neg hx] at h
   by_cases hy : (s.size : Int) < 1 + (q : Int) + (m : Int)
   ·rw [if_pos hy] at h
    injection h with h1 h2
    subst h1 h2
    go_enter Tryz.func52, Tryz.ntmps52
    go_wp2_with (go_at_call 81; refine (HT.out _).mono ?_; rintro r wt ⟨rfl, rfl⟩)
    go_ret2
    exact ⟨rfl, rfl⟩
   ·rw [if_neg hy] at h
    injection h with h1 h2
    have HN : Hid (N = 1 + (q : Int) + (m : Int)) := h1.symm
    subst h2
    clear h1
    go_enter Tryz.func52, Tryz.ntmps52
    go_wp2_with (go_at_call 81; refine (HT.out _).mono ?_; rintro r wt ⟨rfl, rfl⟩)
    go_ret2
    refine ⟨?_, rfl⟩
    rw [HN.out]
    rfl
def frArr (rest : ByteArray) (max : Int) (dead : Bool) : Array Value := #[.string rest, .int .i64 max, .bool dead]
theorem mayF_no {rest : ByteArray} {max : Int} {dead : Bool} (h : ¬ (2 ≤ max ∧ max ≤ 8192)) : mayF rest max dead = false := by unfold mayF; rw [decide_eq_false h]; rfl
theorem FrCheck_is (rest : ByteArray) (max : Int) (dead b : Bool) (w : World) (hs : rest.size ≤ 281474976710656) (hb : mayF rest max dead = b) :
  Calls Tryz.prog 19 #[.agg (frArr rest max dead)] w fun e w' => e = .returned (.int .i64 (if b = true then 0 else 1)) ∧ Below w.heap.size w w' := by
 have hb0 := Box.new w 46 (frArr rest max dead)
 have ha := (Below.refl w.heap.size w).alloc (Nat.le_refl _) (.cells (frArr rest max dead) 46)
 obtain ⟨W1, hW⟩ : ∃ W1, w.alloc (.cells (frArr rest max dead) 46) = W1 := ⟨_, rfl⟩
 rw [hW] at hb0 ha
 have HA := Lib.hid ha
 obtain ⟨g, hg⟩ : ∃ g, w.heap.size = g := ⟨_, rfl⟩
 rw [hg] at hb0
 have HG := Lib.hid hg
 unfold frArr at hW ⊢
 have HW := Lib.hid hW
 have c0 : W1.cell? ⟨g, 0, none⟩ = some (.string rest) := hb0.cell 0
 have c1 : W1.cell? ⟨g, 1, none⟩ = some (.int .i64 max) := hb0.cell 1
 have c2 : W1.cell? ⟨g, 2, none⟩ = some (.bool dead) := hb0.cell 2
 clear hW hb0 ha hg
 obtain ⟨bm, hbm⟩ : ∃ bm, decide (2 ≤ max ∧ max ≤ 8192) = bm := ⟨_, rfl⟩
 have HM := Lib.hid (fun W => isMax_is max bm W hbm)
 obtain ⟨N, E, hNE⟩ : ∃ N E, sizeS max rest = (N, E) := ⟨_, _, rfl⟩
 have HZ := Lib.hid (fun W => wholeSize_is rest max N E W hs hNE)
 have HB : Hid (b = (bm && (if dead = true then decide (rest.size = 0) else decide (E = 7)))) := by
  show _ = _
  rw [← hb]
  unfold mayF
  rw [hbm, hNE]
 clear hb hbm hNE hs
 cases bm with
 | false =>
  obtain rfl : b = false := HB.out
  go_enter Tryz.func19, Tryz.ntmps19
  go_upto_region 1 with fail
  rw [HW.out, HG.out]
  generalize Value.agg _ = v0
  go_wp2_with (go_at_call 50; refine (HM.out _).mono ?_; rintro e w' ⟨rfl, rfl⟩)
  go_ret
  exact ⟨rfl, HA.out⟩
 | true =>
  cases dead with
  | true =>
   have HB2 : Hid (b = decide (rest.size = 0)) := HB.out
   have hbe : (rest.toList.isEmpty) = b := by
    rw [HB2.out]
    by_cases hz : rest.size = 0
    ·rw [decide_eq_true hz, ByteArray.size_eq_zero_iff.1 hz, ByteArray.toList_eq]; rfl
    ·rw [decide_eq_false hz]; exact (size_facts hz).2
   clear HB HB2
   go_enter Tryz.func19, Tryz.ntmps19
   go_upto_region 1 with fail
   rw [HW.out, HG.out]
   generalize Value.agg _ = v0
   go_wp2_with (first | (go_at_call 50; refine (HM.out _).mono ?_; rintro e w' ⟨rfl, rfl⟩) | (go_at_call 51; refine (formUnless_is _ _).mono ?_; rintro e w' ⟨rfl, rfl⟩))
   all_goals go_ret
   all_goals exact ⟨by simp [*], HA.out⟩
  | false =>
   have HB2 : Hid (b = decide (E = 7)) := HB.out
   have hbe : (E == 7) = b := by rw [HB2.out]; rfl
   clear HB HB2
   go_enter Tryz.func19, Tryz.ntmps19
   go_upto_region 1 with fail
   rw [HW.out, HG.out]
   generalize Value.agg _ = v0
   go_wp2_with (first | (go_at_call 50; refine (HM.out _).mono ?_; rintro e w' ⟨rfl, rfl⟩) | (go_at_call 52; refine (HZ.out _).mono ?_; rintro e w' ⟨rfl, rfl⟩) | (go_at_call 51; refine (formUnless_is _ _).mono ?_; rintro e w' ⟨rfl, rfl⟩))
   all_goals go_ret
   all_goals exact ⟨by simp [*], HA.out⟩
open Go.RowKit Go.Lib Prp Pkt Vbi
def whArr (p : Pk) (a : Ad) (n : Int) : Array Value :=
 #[.int .i64 p.kind, .bool p.dup, .int .i64 p.q, .bool p.ret, .int .i64 p.id, .string p.t, .string p.b, .int .i64 p.re, .bool p.pre, .slice a.ca p.cs.length a.cc, .slice a.fa p.fs.length a.fc, .string p.cl, .bool p.clean, .int .i64 p.keep,
  .bool p.w.has, .int .i64 p.w.q, .bool p.w.ret, .string p.w.t, .string p.w.b, .slice a.wa p.w.ps.length a.wc, .bool p.hu, .string p.u, .bool p.hp, .string p.pw, .slice a.pa p.ps.length a.pc, .int .i64 n]
theorem info_wh : (Tryz.prog.info? 92).map (·.size) = some 26 := by kernel_rfl
theorem one_wh (p : Pk) (a : Ad) (n : Int) : (whArr p a n).all (·.oneCell') = true := by simp [whArr, Value.oneCell']
theorem built_wh (p : Pk) (a : Ad) (n : Int) : Tryz.prog.built 92 [(0, .agg (pkArr p a)), (1, .int .i64 n)] = some (whArr p a n) := by kernel_rfl
section
variable {ops : Array Oper} {rest : List Oper} {o : Oper} {f : Act} {w : World} {Q : Exit → Act → World → Prop}
theorem wpList_build_wh (hg : o.guard = none) (x y : Operand) (ho : o.op = .build 92 #[(0, x), (1, y)]) (p : Pk) (a : Ad) (n : Int) (hx : f.eval x = .agg (pkArr p a)) (hy : f.eval y = .int .i64 n) (h : wpList Tryz.prog ops Q rest (f.put o.dst (.agg (whArr p a n))) w) : wpList Tryz.prog ops Q (o :: rest) f w := by
 have hb : Tryz.prog.built 92 ((#[(0, x), (1, y)] : Array (Nat × Operand)).map fun (i, x) => (i, f.eval x)).toList = some (whArr p a n) := by
  rw [← built_wh p a n, ← hx, ← hy]
  simp
 refine wpList_build hg 92 #[(0, x), (1, y)] ho (by rw [hb]; rfl) ?_
 rw [hb]
 exact h
end
theorem new_below (w : World) (c0 cs : Array Value) (T : TypeId) : Below w.heap.size w ((w.alloc (.cells c0 T)).setRow w.heap.size cs) :=
 (Bar.row w.heap.size _ cs).below ((Below.refl w.heap.size w).alloc (Nat.le_refl _) _) (Nat.le_refl _) (by rw [World.size_alloc]; omega)
theorem new_box (w : World) (c0 cs : Array Value) (T : TypeId) : Box ((w.alloc (.cells c0 T)).setRow w.heap.size cs) w.heap.size cs := (Box.new w T c0).row cs
def GivesFirst (st : Step) (w : World) (r : Ending) (w' : World) : Prop :=
 match st with
 | .wait => r = .returned (.iface 34 (.int .i64 7)) ∧ Below w.heap.size w w'
 | .dead e => r = .returned (.iface 34 (.int .i64 e)) ∧ Below w.heap.size w w'
 | .one p n => ∃ a, r = .returned (.iface 92 (.agg (whArr p a (n : Int)))) ∧ PkAt w' w'.heap.size p a ∧ PkCap p a ∧ PkNew w.heap.size a ∧ Below w.heap.size w w'
theorem first_none (s : ByteArray) (max E : Int) (w : World) (hs : s.size ≤ 281474976710656) (h : sizeS max s = (0, E)) (hE : E ≠ 0) :
  Calls Tryz.prog 53 #[.string s, .int .i64 max] w fun r w' => r = .returned (.iface 34 (.int .i64 E)) ∧ Below w.heap.size w w' := by
 have HZ := Lib.hid (fun W => wholeSize_is s max 0 E W hs h)
 have hEb := ne_true hE
 clear h
 go_enter Tryz.func53, Tryz.ntmps53
 go_wp2_with (go_at_call 52; refine (HZ.out _).mono ?_; rintro e w' ⟨rfl, rfl⟩)
 go_ret
 exact ⟨rfl, Below.refl _ _⟩
theorem first_some (s : ByteArray) (max : Int) (n : Nat) (p : Pk) (m E : Int) (w : World) (hs : s.size ≤ 268435456) (hn : n ≤ s.size) (h : sizeS max s = ((n : Int), 0)) (ht : takeS (s.extract 0 n) = (p, m, E)) :
  Calls Tryz.prog 53 #[.string s, .int .i64 max] w fun r w' => (E ≠ 0 → r = .returned (.iface 34 (.int .i64 E)) ∧ Below w.heap.size w w') ∧
   (E = 0 → ∃ a, r = .returned (.iface 92 (.agg (whArr p a (n : Int)))) ∧ PkAt w' w'.heap.size p a ∧ PkCap p a ∧ PkNew w.heap.size a ∧ Below w.heap.size w w') := by
 have HZ := Lib.hid (fun W => wholeSize_is s max n 0 W (by omega) h)
 have HT0 := fun W => PTakeN_is (s.extract 0 n) W (by rw [ByteArray.size_extract]; omega)
 rw [ht] at HT0
 have HT := Lib.hid HT0
 have hn0 : (0 : Int) ≤ (n : Int) := by omega
 have hn1 : (n : Int) ≤ (s.size : Int) := by omega
 clear h ht HT0 hs
 go_enter Tryz.func53, Tryz.ntmps53
 go_wp2_with (go_at_call 52; refine (HZ.out _).mono ?_; rintro e w' ⟨rfl, rfl⟩)
 refine (HT.out _).mono ?_
 rintro r w2 ⟨a, rfl, q1, q2, q3, q4⟩
 have hmb := new_below w2 (pkArr (zp 0) za) (pkArr p a) 30
 have hmx := new_box w2 (pkArr (zp 0) za) (pkArr p a) 30
 have hb3 := Box.new w2 30 (pkArr (zp 0) za)
 obtain ⟨W3, hW3⟩ : ∃ W3, w2.alloc (.cells (pkArr (zp 0) za) 30) = W3 := ⟨_, rfl⟩
 rw [hW3] at hmb hmx hb3
 simp only [pkArr, zp, za, zw, List.length_nil] at hW3
 have HW3 := Lib.hid hW3
 have HP := Lib.hid ((q1.below hmb).mono hmb.size)
 have HX := Lib.hid (q4.trans (hmb.mono q4.size))
 obtain ⟨k3, hk3⟩ : ∃ k, w2.heap.size = k := ⟨_, rfl⟩
 rw [hk3] at hmx hb3 HX HP
 have HMX := Lib.hid hmx
 have HB3 := Lib.hid hb3
 have HC := Lib.hid q2
 have HN := Lib.hid q3
 clear hmb hmx hb3 hW3 q1 q2 q3 q4 HT HZ
 go_upto_region 5 with (rw [HW3.out]; refine wpList_store_whole rfl 30 (.tmp 7) (.tmp 24) rfl k3 (pkArr p a) rfl rfl (pkArr (zp 0) za) HB3.out info_pk rfl (one_pk _ _) ?_; simp only [Act.put])
 clear hk3 HW3 HB3
 generalize World.setRow _ _ _ = w4 at HX HP HMX ⊢
 by_cases h0 : E = 0
 ·subst h0
  have hld := load_bx HMX.out
  go_wp2_with (first | (refine wpList_load_any (by rfl) 30 (.tmp 7) rfl k3 0 rfl _ hld ?_) | (refine wpList_build_wh rfl (.tmp 31) (.tmp 32) rfl p a (n : Int) rfl rfl ?_))
  go_ret
  exact ⟨a, rfl, HP.out, HC.out, HN.out, HX.out⟩
 ·have hEb := ne_true h0
  go_wp2_with fail
  go_ret
  exact ⟨fun _ => ⟨rfl, HX.out⟩, fun h => absurd h h0⟩
theorem first_is (s : ByteArray) (max : Int) (w : World) (hs : s.size ≤ 268435456) :
  Calls Tryz.prog 53 #[.string s, .int .i64 max] w (GivesFirst (stepS max s) w) := by
 have hz : ∀ (n : Nat), lenS s = ((n : Int), 0) → (n : Int) ≤ max → n ≤ s.size → sizeS max s = ((n : Int), 0) := fun n h h1 h2 => by
  unfold sizeS
  rw [h, if_neg (not_not_intro rfl), if_neg (by show ¬ max < (n : Int); omega), if_neg (by show ¬ (s.size : Int) < (n : Int); omega)]
 rcases stepOf max s with ⟨h, e⟩ | ⟨_, h, e⟩ | ⟨n, h, _, hm, _, e⟩ | ⟨n, h, _, hm, _, hs2, e⟩ | ⟨n, p, m, h, _, hm, hs2, ht, e⟩ | ⟨n, p, m, E, h, _, hm, hs2, ht, h0, h7, e⟩ <;> rw [e]
 ·exact first_none s max 7 w (by omega) (by unfold sizeS; rw [h]; rfl) (by decide)
 ·exact first_none s max 8 w (by omega) (by unfold sizeS; rw [h]; rfl) (by decide)
 ·exact first_none s max 2 w (by omega) (by unfold sizeS; rw [h, if_neg (not_not_intro rfl), if_pos hm]) (by decide)
 ·exact first_none s max 7 w (by omega) (by unfold sizeS; rw [h, if_neg (not_not_intro rfl), if_neg (by show ¬ max < (n : Int); omega), if_pos (show (s.size : Int) < (n : Int) by omega)]) (by decide)
 ·exact (first_some s max n p m 0 w hs hs2 (hz n h hm hs2) ht).mono fun _ _ h => h.2 rfl
 ·exact (first_some s max n p m E w hs hs2 (hz n h hm hs2) ht).mono fun _ _ h => h.1 h0
open Go.RowKit Go.Lib Prp Pkt
def flatK : List Pk → List Ad → List Value
 | p :: l, a :: ads => (pkArr p a).toList ++ flatK l ads
 | _, _ => []
theorem pk_len (p : Pk) (a : Ad) : (pkArr p a).toList.length = 25 := rfl
theorem flatK_len : ∀ (l : List Pk) (ads : List Ad), ads.length = l.length → (flatK l ads).length = l.length * 25
 | [], [], _ => rfl
 | p :: l, a :: ads, h => by
  show ((pkArr p a).toList ++ flatK l ads).length = (l.length + 1) * 25
  rw [List.length_append, pk_len, flatK_len l ads (by simpa using h)]
  omega
 | [], _ :: _, h => by simp at h
 | _ :: _, [], h => by simp at h
theorem flatK_app : ∀ (l : List Pk) (ads : List Ad) (m : List Pk) (bs : List Ad), ads.length = l.length → flatK (l ++ m) (ads ++ bs) = flatK l ads ++ flatK m bs
 | [], [], _, _, _ => rfl
 | p :: l, a :: ads, m, bs, h => by
  show (pkArr p a).toList ++ flatK (l ++ m) (ads ++ bs) = ((pkArr p a).toList ++ flatK l ads) ++ flatK m bs
  rw [flatK_app l ads m bs (by simpa using h), List.append_assoc]
 | [], _ :: _, _, _, h => by simp at h
 | _ :: _, [], _, _, h => by simp at h
theorem flatK_at : ∀ (l : List Pk) (ads : List Ad) (j i : Nat) (h1 : j < l.length) (h2 : j < ads.length), i < 25 → (flatK l ads)[j * 25 + i]? = (pkArr l[j] ads[j])[i]?
 | [], _, j, _, h, _, _ => by simp at h
 | _ :: _, [], j, _, _, h, _ => by simp at h
 | p :: l, a :: ads, 0, i, _, _, hi => by
  show ((pkArr p a).toList ++ flatK l ads)[0 * 25 + i]? = (pkArr p a)[i]?
  rw [Nat.zero_mul, Nat.zero_add, List.getElem?_append_left (by rw [pk_len]; exact hi), Array.getElem?_toList]
 | p :: l, a :: ads, j + 1, i, h1, h2, hi => by
  have k1 : j < l.length := by simpa using h1
  have k2 : j < ads.length := by simpa using h2
  show ((pkArr p a).toList ++ flatK l ads)[(j + 1) * 25 + i]? = (pkArr (l[j]'k1) (ads[j]'k2))[i]?
  rw [List.getElem?_append_right (by rw [pk_len]; omega), pk_len, show (j + 1) * 25 + i - 25 = j * 25 + i by omega]
  exact flatK_at l ads j i k1 k2 hi
theorem flatK_one : ∀ (l : List Pk) (ads : List Ad), ∀ u ∈ flatK l ads, u.oneCell' = true
 | [], _, u, h => by simp [flatK] at h
 | _ :: _, [], u, h => by simp [flatK] at h
 | p :: l, a :: ads, u, h => by
  rcases List.mem_append.1 (show u ∈ (pkArr p a).toList ++ flatK l ads from h) with h | h
  ·have := one_pk p a
   rw [Array.all_eq_true'] at this
   exact this u (by simpa using h)
  ·exact flatK_one l ads u h
theorem run_append_where {P : Program} (w : World) (base : Nat) (t ty e : TypeId) (i : TypeInfo) (z : Value) (size bytes : Nat) (ht : P.underlying t = some (.slice e)) (hi : P.info? e = some i) (hz : i.zero = some z)
  (hsize : i.size = size) (hby : i.bytes = bytes) (hzs : z.cells.size = size) (hsz : 0 < size)
  (v : Value) (n : Nat) (xs : List Value) (hown : w.ownsRow base e size v n xs)
  (a : Addr) (m c : Nat) (news : List Value) (hl : news.length = m * size) (hnews : ∀ j u, news[j]? = some u → w.cell? (a.add j) = some u) (h1 : ∀ u ∈ news, u.oneCell' = true)
  (h63 : n + m ≤ maxLen) (hbytes : (n + m) * bytes ≤ 140737488355328) (hbase : base ≤ w.heap.size) :
  ∃ v' w', (Builtin.append_ #[t, t] ty #[v, .slice (some a) m c]).run P w = .ok v' w' ∧ w'.ownsRow base e size v' (n + m) (xs ++ news) ∧ w.grownBy w' v.ownBlock ∧ (v'.ownBlock = v.ownBlock ∨ ∀ k, v'.ownBlock = some k → w.heap.size ≤ k) := by
 obtain ⟨v', w', hr, h2, h3, _⟩ := run_append_own (P := P) w base t ty e i z size bytes ht hi hz hsize hby hzs hsz v n xs hown a m c news hl hnews h1 h63 hbytes hbase
 refine ⟨v', w', hr, h2, h3, ?_⟩
 rcases hown.2 with ⟨rfl, rfl⟩ | ⟨g, cap, cur, rfl, hbg, hg, hnc, hcm, hcs, htake⟩
 ·right
  obtain ⟨v2, w2, hr2, k2, _, _⟩ := run_append_own (P := P) w w.heap.size t ty e i z size bytes ht hi hz hsize hby hzs hsz (.slice none 0 0) 0 xs ⟨hown.1, .inl ⟨rfl, rfl⟩⟩ a m c news hl hnews h1 h63 hbytes (Nat.le_refl _)
  rw [hr] at hr2
  injection hr2 with e1 e2
  subst e1
  exact fun k hk => (k2.lt k hk).1
 ·subst hsize
  subst hby
  by_cases hroom : n + m ≤ cap
  ·left
   have hfit : n * i.size + news.length ≤ cur.size := by rw [hl, hcs, ← Nat.add_mul]; exact Nat.mul_le_mul_right _ hroom
   have hr2 := run_append_room (P := P) w t ty e i ht hi g n cap cur hg a m c news hl hnews h1 hroom hfit
   rw [hr] at hr2
   injection hr2 with e1 e2
   rw [e1]
   rfl
  ·right
   have hsmall : n + m ≤ 9223372036854775807 := by simp only [maxLen] at h63; omega
   have holds : ∀ j u, xs[j]? = some u → w.cell? ((⟨g, 0, none⟩ : Addr).add j) = some u := hown.cells (g := g) rfl
   have hr2 := run_append_grow (P := P) w t ty e i z ht hi hz ⟨g, 0, none⟩ n cap xs hown.1 holds a m c news hl hnews (by omega) (by omega) (growslice_fits (by omega) hbytes)
   rw [hr] at hr2
   injection hr2 with e1 e2
   rw [e1]
   intro k hk
   injection hk with hk
   rw [← hk]
   exact Nat.le_refl _
structure POff (g : Nat) (p : Pk) (a : Ad) : Prop where
 cs : p.cs = [] ∨ Off g a.ca
 fs : p.fs = [] ∨ Off g a.fa
 ws : p.w.ps = [] ∨ Off g a.wa
 ps : p.ps = [] ∨ Off g a.pa
section
variable {w w' : World} {g B : Nat} {p : Pk} {a : Ad}
theorem POff.of_new (h : PkNew B a) (hg : g < B) : POff g p a := ⟨.inr (h.ca.off hg), .inr (h.fa.off hg), .inr (h.wa.off hg), .inr (h.pa.off hg)⟩
theorem POff.of_at (h : PkAt w B p a) (hg : B ≤ g) : POff g p a := by
 refine ⟨?_, ?_, ?_, ?_⟩
 ·rcases h.cs with h | ⟨x, h1, h2, _⟩
  ·exact .inl h
  ·exact .inr fun y hy => by rw [h1] at hy; injection hy with hy; rw [← hy]; omega
 ·rcases h.fs with h | ⟨b, o, h1, h2, _⟩
  ·exact .inl h
  ·exact .inr fun y hy => by rw [h1] at hy; injection hy with hy; rw [← hy]; show b ≠ g; omega
 ·rcases h.ws with h | ⟨b, o, h1, h2, _⟩
  ·exact .inl h
  ·exact .inr fun y hy => by rw [h1] at hy; injection hy with hy; rw [← hy]; show b ≠ g; omega
 ·rcases h.ps with h | ⟨b, o, h1, h2, _⟩
  ·exact .inl h
  ·exact .inr fun y hy => by rw [h1] at hy; injection hy with hy; rw [← hy]; show b ≠ g; omega
theorem pk_bar2 (h : PkAt w w.heap.size p a) (ho : POff g p a) (hb : Bar g w w') : PkAt w' w'.heap.size p a := by
 refine PkAt.mono (B := w.heap.size) ⟨?_, ?_, ?_, ?_⟩ hb.size
 ·rcases ho.cs with e | e
  ·exact .inl e
  ·exact nums_bar h.cs (Nat.le_refl _) e hb
 ·rcases ho.fs with e | e
  ·exact .inl e
  ·exact fils_bar h.fs (Nat.le_refl _) e hb
 ·rcases ho.ws with e | e
  ·exact .inl e
  ·exact props_bar h.ws (Nat.le_refl _) e hb
 ·rcases ho.ps with e | e
  ·exact .inl e
  ·exact props_bar h.ps (Nat.le_refl _) e hb
end
structure RowsAt (w : World) (base : Nat) (v : Value) (l : List Pk) (ads : List Ad) : Prop where
 len : ads.length = l.length
 rows : ∀ j (h1 : j < l.length) (h2 : j < ads.length), PkAt w w.heap.size l[j] ads[j] ∧ PkCap l[j] ads[j] ∧ PkNew base ads[j] ∧ ∀ g, v.ownBlock = some g → POff g l[j] ads[j]
@[irreducible] def OwnPks (w : World) (base : Nat) (v : Value) (l : List Pk) : Prop :=
 ∃ ads : List Ad, w.ownsRow base 30 25 v l.length (flatK l ads) ∧ RowsAt w base v l ads
section
variable {w w' : World} {base B : Nat} {v : Value} {l m : List Pk}
theorem OwnPks.mk (h : ∃ ads : List Ad, w.ownsRow base 30 25 v l.length (flatK l ads) ∧ RowsAt w base v l ads) : OwnPks w base v l := by unfold OwnPks; exact h
theorem OwnPks.out (h : OwnPks w base v l) : ∃ ads : List Ad, w.ownsRow base 30 25 v l.length (flatK l ads) ∧ RowsAt w base v l ads := by unfold OwnPks at h; exact h
theorem OwnPks.nil (w : World) (base : Nat) : OwnPks w base (.slice none 0 0) [] := .mk ⟨[], World.ownsRow_nil _ _ _ _, rfl, fun j h => by simp at h⟩
theorem OwnPks.below (h : OwnPks w base v l) (hb : Below w.heap.size w w') : OwnPks w' base v l := by
 obtain ⟨ads, h1, h2⟩ := h.out
 exact .mk ⟨ads, own_below h1 hb, h2.len, fun j k1 k2 => ⟨((h2.rows j k1 k2).1.below hb).mono hb.size, (h2.rows j k1 k2).2⟩⟩
theorem OwnPks.alloc (h : OwnPks w base v l) (o : Obj) : OwnPks (w.alloc o) base v l := h.below ((Below.refl _ _).alloc (Nat.le_refl _) o)
theorem OwnPks.drewN (h : OwnPks w base v l) (n : Nat) : OwnPks (w.drewN n) base v l := h.below (below_drewN (Below.refl _ _) n)
theorem OwnPks.slice (h : OwnPks w base v l) : ∃ A c, v = .slice A l.length c ∧ l.length ≤ c := by
 obtain ⟨ads, h1, _⟩ := h.out
 rcases h1.2 with ⟨hv, hn⟩ | ⟨g, cap, cur, hv, _, _, hle, _⟩
 ·exact ⟨none, 0, by rw [hv, hn], by omega⟩
 ·exact ⟨_, cap, hv, hle⟩
theorem OwnPks.bar {g : Nat} (h : OwnPks w base v l) (hb : Bar g w w') (hg : g < base) : OwnPks w' base v l := by
 obtain ⟨ads, h1, h2⟩ := h.out
 exact .mk ⟨ads, own_bar h1 hb hg, h2.len, fun j k1 k2 => ⟨pk_bar2 (h2.rows j k1 k2).1 (.of_new (h2.rows j k1 k2).2.2.1 hg) hb, (h2.rows j k1 k2).2⟩⟩
theorem OwnPks.grown {ads bs : List Ad} {v' : Value} (h1 : RowsAt w base v l ads) (h2 : RowsAt w base v m bs) (ho : w'.ownsRow base 30 25 v' (l.length + m.length) (flatK l ads ++ flatK m bs)) (hg : w.grownBy w' v.ownBlock)
  (hw : v'.ownBlock = v.ownBlock ∨ ∀ k, v'.ownBlock = some k → w.heap.size ≤ k) : OwnPks w' base v' (l ++ m) := by
 have key : ∀ (p : Pk) (a : Ad), (PkAt w w.heap.size p a ∧ PkCap p a ∧ PkNew base a ∧ ∀ g, v.ownBlock = some g → POff g p a) → PkAt w' w'.heap.size p a ∧ PkCap p a ∧ PkNew base a ∧ ∀ g, v'.ownBlock = some g → POff g p a := fun p a hh => by
  obtain ⟨hp, hc, hn, hf⟩ := hh
  refine ⟨?_, hc, hn, fun g hgg => ?_⟩
  ·cases hv : v.ownBlock with
   | none =>
    rw [hv] at hg
    have hb : Below w.heap.size w w' := ⟨hg.os, hg.tape, hg.output, hg.size, fun k hk => hg.block k hk (fun e => by cases e)⟩
    exact (hp.below hb).mono hb.size
   | some g =>
    rw [hv] at hg
    exact pk_bar2 hp (hf g hv) ⟨hg.os, hg.tape, hg.output, hg.size, fun k hk hn => hg.block k hk (fun e => hn (by injection e))⟩
  ·rcases hw with hw | hw
   ·exact hf g (by rw [← hw]; exact hgg)
   ·exact .of_at hp (hw g hgg)
 refine .mk ⟨ads ++ bs, by rw [flatK_app l ads m bs h1.len, List.length_append]; exact ho, by rw [List.length_append, List.length_append, h1.len, h2.len], fun j k1 k2 => key _ _ ?_⟩
 by_cases hj : j < l.length
 ·have hj2 : j < ads.length := by rw [h1.len]; exact hj
  rw [List.getElem_append_left hj, List.getElem_append_left hj2]
  exact h1.rows j hj hj2
 ·rw [List.length_append] at k1 k2
  have hl := h1.len
  have e1 : (l ++ m)[j] = m[j - l.length] := List.getElem_append_right (by omega)
  have e2 : (ads ++ bs)[j] = bs[j - ads.length] := List.getElem_append_right (by omega)
  rw [e1, e2]
  have := h2.rows (j - l.length) (by omega) (by omega)
  simp only [hl]
  exact this
end
open Go.RowKit Go.Lib Prp Pkt
theorem info_prow : (Tryz.prog.info? 30).map (fun i => (i.zero, i.size, i.bytes)) = some (some (.agg (pkArr (zp 0) za)), 25, 320) := by kernel_rfl
theorem OwnPks.mono {w : World} {base B : Nat} {v : Value} {l : List Pk} (h : OwnPks w base v l) (hB : B ≤ base) : OwnPks w B v l := by
 obtain ⟨ads, h1, h2⟩ := h.out
 refine .mk ⟨ads, ⟨h1.1, ?_⟩, h2.len, fun j k1 k2 => ⟨(h2.rows j k1 k2).1, (h2.rows j k1 k2).2.1, (h2.rows j k1 k2).2.2.1.mono hB, (h2.rows j k1 k2).2.2.2⟩⟩
 rcases h1.2 with hn | ⟨g, cap, cur, hv, hb, rest⟩
 ·exact .inl hn
 ·exact .inr ⟨g, cap, cur, hv, by omega, rest⟩
theorem fill_pk (p : Pk) (a : Ad) : Instr.fill (fun i => some (i * 25, 25)) ((Array.range (1 * 25)).map ((Value.agg (pkArr (zp 0) za)).cells[· % (Value.agg (pkArr (zp 0) za)).cells.size]!)) [(0, .agg (pkArr p a))] = some (pkArr p a) := by kernel_rfl
theorem OwnPks.lt {w : World} {base : Nat} {v : Value} {l : List Pk} (h : OwnPks w base v l) : ∀ k, v.ownBlock = some k → base ≤ k ∧ k < w.heap.size := by
 obtain ⟨ads, h1, _⟩ := h.out
 exact h1.lt
theorem run_append_pks (w : World) (ty : TypeId) {base c : Nat} {v : Value} {l m : List Pk} {A : Option Addr} {bs : List Ad} (h : OwnPks w base v l) (h2 : RowsAt w base v m bs)
  (hA : (A = none ∧ c = 0 ∧ m = []) ∨ ∃ ad, A = some ad ∧ ∀ j u, (flatK m bs)[j]? = some u → w.cell? (ad.add j) = some u) (hb : base ≤ w.heap.size) (hl : l.length + m.length ≤ 1000000000) :
  ∃ v' w', (Builtin.append_ #[53, 53] ty #[v, .slice A m.length c]).run Tryz.prog w = .ok v' w' ∧ OwnPks w' base v' (l ++ m) ∧ Below base w w' ∧ w.grownBy w' v.ownBlock := by
 obtain ⟨i0, hi, hz0, hz1, hz2⟩ := info_parts info_prow
 obtain ⟨ads, h1, h3⟩ := h.out
 rcases hA with ⟨rfl, rfl, rfl⟩ | ⟨ad, rfl, hn⟩
 ·refine ⟨v, w, run_append_owned_none w base _ _ _ i0 25 Tryz.underlying53 hi v l.length _ h1, by rw [List.append_nil]; exact h, Below.refl _ _, ⟨rfl, rfl, rfl, Nat.le_refl _, fun _ _ _ => rfl⟩⟩
 ·obtain ⟨v', w', hr, k1, k2, k3⟩ := run_append_where (P := Tryz.prog) w base 53 ty 30 i0 (.agg (pkArr (zp 0) za)) 25 320 Tryz.underlying53 hi hz0 hz1 hz2 rfl (by decide) v l.length _ h1 ad m.length c (flatK m bs) (flatK_len m bs h2.len) hn (flatK_one m bs) (by unfold maxLen; omega) (by omega) hb
  exact ⟨v', w', hr, OwnPks.grown h3 h2 k1 k2 k3, below_grown hb h1 k2, k2⟩
section
variable {ops : Array Oper} {rest : List Oper} {o : Oper} {f : Act} {w : World} {Q : Exit → Act → World → Prop}
theorem wpList_one_pk (hg : o.guard = none) (x : Operand) (ho : o.op = .buildSlice 53 1 #[(0, x)]) (p : Pk) (a : Ad) (hx : f.eval x = .agg (pkArr p a)) (h : wpList Tryz.prog ops Q rest (f.put o.dst (.slice (some ⟨w.heap.size, 0, none⟩) 1 1)) (w.alloc (.cells (pkArr p a) 30))) : wpList Tryz.prog ops Q (o :: rest) f w := by
 obtain ⟨i0, hi, hz0, hz1, hz2⟩ := info_parts info_prow
 refine wpList_buildSlice hg 53 30 1 #[(0, x)] ho (pkArr p a) i0 (.agg (pkArr (zp 0) za)) Tryz.underlying53 hi hz0 (by rw [hz1]; decide) (by rw [hz1]; decide) ?_ h
 have e : ((#[(0, x)] : Array (Nat × Operand)).map fun (i, x) => (i, f.eval x)).toList = [(0, .agg (pkArr p a))] := by
  rw [← hx]
  simp
 rw [e, hz1]
 exact fill_pk p a
theorem wpList_append_pks (hgd : o.guard = none) (s x : Operand) (ho : o.op = .call { callee := .builtin .append, args := #[s, x], argTypes := #[53, 53] }) {base c : Nat} {v : Value} {l m : List Pk} {A : Option Addr} {bs : List Ad}
  (hs : f.eval s = v) (hx : f.eval x = .slice A m.length c) (h : OwnPks w base v l) (h2 : RowsAt w base v m bs) (hA : (A = none ∧ c = 0 ∧ m = []) ∨ ∃ ad, A = some ad ∧ ∀ j u, (flatK m bs)[j]? = some u → w.cell? (ad.add j) = some u) (hb : base ≤ w.heap.size) (hl : l.length + m.length ≤ 1000000000)
  (k : ∀ v' w', OwnPks w' base v' (l ++ m) → Below base w w' → w.grownBy w' v.ownBlock → wpList Tryz.prog ops Q rest (f.put o.dst v') w') : wpList Tryz.prog ops Q (o :: rest) f w := by
 obtain ⟨v', w', hr, k1, k2, k3⟩ := run_append_pks w o.type h h2 hA hb hl
 refine wpList_plain hgd fun K hK => ?_
 unfold Oper.wp execOp
 simp only [ho, resolve, invoke, builtin, Sem.run_bind, Sem.run_pure, Result.andThen_ok, List.map_toArray, List.map_cons, List.map_nil, hs, hx, hr]
 exact hK _ _ (k v' w' k1 k2 k3)
end
theorem box_grown {w w' : World} {k : Nat} {cs : Array Value} {row : Option Nat} (h : Box w k cs) (hg : w.grownBy w' row) (hne : some k ≠ row) : Box w' k cs := by
 have hl := h.lt
 obtain ⟨T, hT⟩ := h
 exact ⟨T, (hg.block k hl hne).trans hT⟩
theorem rows_one {w : World} {base k : Nat} {v : Value} {p : Pk} {a : Ad} (hp : PkAt w w.heap.size p a) (hc : PkCap p a) (hn : PkNew base a) (hf : ∀ g, v.ownBlock = some g → POff g p a) (hb : Box w k (pkArr p a)) :
  RowsAt w base v [p] [a] ∧ ∀ j u, (flatK [p] [a])[j]? = some u → w.cell? ((⟨k, 0, none⟩ : Addr).add j) = some u := by
 refine ⟨⟨rfl, fun j h1 h2 => ?_⟩, fun j u hu => ?_⟩
 ·obtain rfl : j = 0 := by simpa using h1
  exact ⟨hp, hc, hn, hf⟩
 ·rw [add_new, hb.cell]
  have e : flatK [p] [a] = (pkArr p a).toList := by show (pkArr p a).toList ++ flatK [] [] = _; exact List.append_nil _
  rw [e] at hu
  rw [← hu]
  simp
open Go.RowKit Go.Lib Prp Pkt Vbi
theorem info_fr : (Tryz.prog.info? 46).map (·.size) = some 3 := by kernel_rfl
theorem one_fr (r : ByteArray) (m : Int) (d : Bool) : (frArr r m d).all (·.oneCell') = true := by simp [frArr, Value.oneCell']
section
variable {W : World} {g : Nat} {r : ByteArray} {m : Int} {d : Bool}
theorem load_fr (h : Box W g (frArr r m d)) : (loadVar 46 ⟨g, 0, none⟩).run Tryz.prog W = .ok (.agg (frArr r m d)) W :=
 run_loadVar_mid W g 0 46 (frArr r m d).toList _ (fun j v hv => by rw [Nat.zero_add, h.cell j]; rw [← hv]; simp) Tryz.underlying46 rfl info_fr
theorem results_fr3 {fn : Func} {tmps : Array Value} {c i j : Nat} {u v : Value} (hr : fn.results = #[.cell c 46, .tmp i, .tmp j]) (h0 : tmps.getD c undef = .pointer (some ⟨g, 0, none⟩)) (hb : Box W g (frArr r m d)) (h1 : tmps.getD i undef = u) (h2 : tmps.getD j undef = v) :
  (results fn tmps).run Tryz.prog W = .ok (.tuple #[.agg (frArr r m d), u, v]) W := by
 unfold results
 rw [hr]
 simp only [List.mapM_toArray, List.mapM_cons, List.mapM_nil, h0, h1, h2, asAddr, Sem.run_bind, Sem.run_pure, Result.andThen_ok, bind_assoc, pure_bind, map_bind, map_pure, load_fr hb]
 rfl
end
theorem results_fr2 {W : World} {g : Nat} {r : ByteArray} {m : Int} {d : Bool} {fn : Func} {tmps : Array Value} {c i : Nat} {u : Value} (hr : fn.results = #[.cell c 46, .tmp i]) (h0 : tmps.getD c undef = .pointer (some ⟨g, 0, none⟩)) (hb : Box W g (frArr r m d)) (h1 : tmps.getD i undef = u) :
  (results fn tmps).run Tryz.prog W = .ok (.tuple #[.agg (frArr r m d), u]) W := by
 unfold results
 rw [hr]
 simp only [List.mapM_toArray, List.mapM_cons, List.mapM_nil, h0, h1, asAddr, Sem.run_bind, Sem.run_pure, Result.andThen_ok, bind_assoc, pure_bind, map_bind, map_pure, load_fr hb]
 rfl
theorem load_wh {W : World} {g : Nat} {p : Pk} {a : Ad} {n : Int} (h : Box W g (whArr p a n)) : (loadVar 30 ⟨g, 0, none⟩).run Tryz.prog W = .ok (.agg (pkArr p a)) W := by
 refine run_loadVar_mid W g 0 30 (pkArr p a).toList _ (fun j v hv => ?_) Tryz.underlying30 rfl info_pk
 rw [Nat.zero_add, h.cell]
 match j, hv with
 | 0, hv => exact hv
 | 1, hv => exact hv
 | 2, hv => exact hv
 | 3, hv => exact hv
 | 4, hv => exact hv
 | 5, hv => exact hv
 | 6, hv => exact hv
 | 7, hv => exact hv
 | 8, hv => exact hv
 | 9, hv => exact hv
 | 10, hv => exact hv
 | 11, hv => exact hv
 | 12, hv => exact hv
 | 13, hv => exact hv
 | 14, hv => exact hv
 | 15, hv => exact hv
 | 16, hv => exact hv
 | 17, hv => exact hv
 | 18, hv => exact hv
 | 19, hv => exact hv
 | 20, hv => exact hv
 | 21, hv => exact hv
 | 22, hv => exact hv
 | 23, hv => exact hv
 | 24, hv => exact hv
theorem as_wh (v : Value) (w : World) : (Instr.typeAssert (.iface 92 v) 20 92 true).run Tryz.prog w = .ok (.tuple #[v, .bool true]) w := by kernel_rfl
theorem as_no_wh (v : Value) (w : World) : (Instr.typeAssert (.iface 34 v) 20 92 true).run Tryz.prog w = .ok (.tuple #[.agg (whArr (zp 0) za 0), .bool false]) w := by kernel_rfl
theorem as_errno (v : Value) (w : World) : (Instr.typeAssert (.iface 34 v) 20 34 false).run Tryz.prog w = .ok v w := by kernel_rfl
@[irreducible] def FeedIn (w : World) (g : Nat) (rest : ByteArray) (max : Int) (v : Value) (L : List Pk) (W : World) : Prop :=
 Box W g (frArr rest max false) ∧ Box W (g + 1) (frArr ⟨#[]⟩ 0 false) ∧ OwnPks W (g + 2) v L ∧ Below w.heap.size w W ∧ w.heap.size = g ∧ g + 2 ≤ W.heap.size
section
variable {w W W' : World} {g : Nat} {rest : ByteArray} {max : Int} {v : Value} {L : List Pk}
theorem FeedIn.mk (h : Box W g (frArr rest max false) ∧ Box W (g + 1) (frArr ⟨#[]⟩ 0 false) ∧ OwnPks W (g + 2) v L ∧ Below w.heap.size w W ∧ w.heap.size = g ∧ g + 2 ≤ W.heap.size) : FeedIn w g rest max v L W := by unfold FeedIn; exact h
theorem FeedIn.out (h : FeedIn w g rest max v L W) : Box W g (frArr rest max false) ∧ Box W (g + 1) (frArr ⟨#[]⟩ 0 false) ∧ OwnPks W (g + 2) v L ∧ Below w.heap.size w W ∧ w.heap.size = g ∧ g + 2 ≤ W.heap.size := by unfold FeedIn at h; exact h
theorem FeedIn.below (h : FeedIn w g rest max v L W) (hb : Below W.heap.size W W') : FeedIn w g rest max v L W' := by
 obtain ⟨h1, h2, h3, h4, h5, h6⟩ := h.out
 exact .mk ⟨h1.below hb, h2.below hb, h3.below hb, h4.trans (hb.mono h4.size), h5, Nat.le_trans h6 hb.size⟩
theorem FeedIn.drewN (h : FeedIn w g rest max v L W) (n : Nat) : FeedIn w g rest max v L (W.drewN n) := h.below (below_drewN (Below.refl _ _) n)
theorem FeedIn.alloc (h : FeedIn w g rest max v L W) (o : Obj) : FeedIn w g rest max v L (W.alloc o) := h.below ((Below.refl _ _).alloc (Nat.le_refl _) o)
theorem FeedIn.grown {v' : Value} {L' : List Pk} (h : FeedIn w g rest max v L W) (hb : Below (g + 2) W W') (ho : OwnPks W' (g + 2) v' L') : FeedIn w g rest max v' L' W' := by
 obtain ⟨h1, h2, h3, h4, h5, h6⟩ := h.out
 refine .mk ⟨?_, ?_, ho, h4.trans (hb.mono (by omega)), h5, Nat.le_trans h6 hb.size⟩
 ·obtain ⟨T, hT⟩ := h1; exact ⟨T, (hb.block g (by omega)).trans hT⟩
 ·obtain ⟨T, hT⟩ := h2; exact ⟨T, (hb.block (g + 1) (by omega)).trans hT⟩
end
def GivesFeed (r : ByteArray) (max : Int) (dead : Bool) (L : List Pk) (e : Int) (w : World) (x : Ending) (w' : World) : Prop :=
 ∃ A c, x = .returned (.tuple #[.agg (frArr r max dead), .slice A L.length c, .int .i64 e]) ∧ OwnPks w' w.heap.size (.slice A L.length c) L ∧ Below w.heap.size w w'
theorem Feed_no (rest : ByteArray) (max : Int) (dead : Bool) (s : ByteArray) (w : World) (hs : rest.size ≤ 281474976710656) (hb : mayF rest max dead = false) :
  Calls Tryz.prog 20 #[.agg (frArr rest max dead), .string s] w (GivesFeed ⟨#[]⟩ 0 false [] 1 w) := by
 have hb1 := Box.new w 46 (frArr rest max dead)
 have ha1 := (Below.refl w.heap.size w).alloc (Nat.le_refl _) (.cells (frArr rest max dead) 46)
 obtain ⟨W1, hW1⟩ : ∃ W1, w.alloc (.cells (frArr rest max dead) 46) = W1 := ⟨_, rfl⟩
 have hs1 : W1.heap.size = w.heap.size + 1 := by rw [← hW1, World.size_alloc]
 rw [hW1] at hb1 ha1
 have hb2 := Box.new W1 46 (frArr ⟨#[]⟩ 0 false)
 have ha2 := (Below.refl W1.heap.size W1).alloc (Nat.le_refl _) (.cells (frArr ⟨#[]⟩ 0 false) 46)
 obtain ⟨W2, hW2⟩ : ∃ W2, W1.alloc (.cells (frArr ⟨#[]⟩ 0 false) 46) = W2 := ⟨_, rfl⟩
 have hs2 : W2.heap.size = w.heap.size + 2 := by rw [← hW2, World.size_alloc, hs1]
 rw [hW2] at hb2 ha2
 rw [hs1] at hb2
 obtain ⟨g, hg⟩ : ∃ g, w.heap.size = g := ⟨_, rfl⟩
 rw [hg] at hb1 hb2
 have hld := load_fr (hb1.below (ha2.mono (by omega)))
 have HB2 := Lib.hid hb2
 have HBW := Lib.hid (ha1.trans (ha2.mono (by omega)))
 have HCK := Lib.hid (FrCheck_is rest max dead false W2 hs hb)
 have HG := Lib.hid hg
 have HS2 := Lib.hid hs2
 unfold frArr at hW1 hW2 ⊢
 have HW1 := Lib.hid hW1
 have HW2 := Lib.hid hW2
 clear hb1 ha1 hb2 ha2 hs1 hs2 hg hW1 hW2 hs hb
 go_enter Tryz.func20, Tryz.ntmps20
 go_upto_region 1 with fail
 rw [HW1.out, HW2.out, HG.out]
 generalize Value.agg _ = v0
 clear HW1 HW2
 go_wp2_with (refine wpList_load_any (by rfl) 46 (.tmp 2) rfl g 0 rfl _ hld ?_)
 refine HCK.out.mono ?_
 rintro e w3 ⟨rfl, hb3⟩
 have HB3 := Lib.hid (HB2.out.below hb3)
 have HBX := Lib.hid (HBW.out.trans (hb3.mono HBW.out.size))
 clear hb3 hld HB2 HCK
 go_wp2_with (refine wpList_store_whole rfl 46 (.tmp 4) (.tmp 15) rfl (g + 1) (frArr ⟨#[]⟩ 0 false) rfl rfl (frArr ⟨#[]⟩ 0 false) HB3.out info_fr rfl (one_fr _ _ _) ?_; simp only [Act.put])
 have hrow := Bar.row (g + 1) w3 (frArr ⟨#[]⟩ 0 false)
 refine bodyPost_ret (results_fr3 Tryz.results20 rfl (HB3.out.row (frArr ⟨#[]⟩ 0 false)) rfl rfl) rfl ⟨none, 0, rfl, OwnPks.nil _ _, hrow.below HBX.out (by have := HG.out; omega) HBX.out.size⟩
theorem Feed_dead (rest : ByteArray) (max : Int) (s : ByteArray) (w : World) (hs : rest.size ≤ 281474976710656) (hb : mayF rest max true = true) :
  Calls Tryz.prog 20 #[.agg (frArr rest max true), .string s] w (GivesFeed rest max true [] 0 w) := by
 have hb1 := Box.new w 46 (frArr rest max true)
 have ha1 := (Below.refl w.heap.size w).alloc (Nat.le_refl _) (.cells (frArr rest max true) 46)
 obtain ⟨W1, hW1⟩ : ∃ W1, w.alloc (.cells (frArr rest max true) 46) = W1 := ⟨_, rfl⟩
 have hs1 : W1.heap.size = w.heap.size + 1 := by rw [← hW1, World.size_alloc]
 rw [hW1] at hb1 ha1
 have hb2 := Box.new W1 46 (frArr ⟨#[]⟩ 0 false)
 have ha2 := (Below.refl W1.heap.size W1).alloc (Nat.le_refl _) (.cells (frArr ⟨#[]⟩ 0 false) 46)
 obtain ⟨W2, hW2⟩ : ∃ W2, W1.alloc (.cells (frArr ⟨#[]⟩ 0 false) 46) = W2 := ⟨_, rfl⟩
 have hs2 : W2.heap.size = w.heap.size + 2 := by rw [← hW2, World.size_alloc, hs1]
 rw [hW2] at hb2 ha2
 rw [hs1] at hb2
 obtain ⟨g, hg⟩ : ∃ g, w.heap.size = g := ⟨_, rfl⟩
 rw [hg] at hb1 hb2
 have hbx := hb1.below (ha2.mono (by omega))
 have hld := load_fr hbx
 have HB1 := Lib.hid hbx
 have HB2 := Lib.hid hb2
 have HBW := Lib.hid (ha1.trans (ha2.mono (by omega)))
 have HCK := Lib.hid (FrCheck_is rest max true true W2 hs hb)
 have HG := Lib.hid hg
 unfold frArr at hW1 hW2 ⊢
 have HW1 := Lib.hid hW1
 have HW2 := Lib.hid hW2
 clear hb1 ha1 hb2 ha2 hs1 hs2 hg hW1 hW2 hs hb hbx
 go_enter Tryz.func20, Tryz.ntmps20
 go_upto_region 1 with fail
 rw [HW1.out, HW2.out, HG.out]
 generalize Value.agg _ = v0
 clear HW1 HW2
 go_wp2_with (refine wpList_load_any (by rfl) 46 (.tmp 2) rfl g 0 rfl _ hld ?_)
 refine HCK.out.mono ?_
 rintro e w3 ⟨rfl, hb3⟩
 have HB3 := Lib.hid (HB2.out.below hb3)
 have HB4 := Lib.hid (HB1.out.below hb3)
 have HBX := Lib.hid (HBW.out.trans (hb3.mono HBW.out.size))
 clear hb3 hld HB2 HB1 HCK
 have hld := load_fr HB4.out
 have c2 : w3.cell? ⟨g, 2, none⟩ = some (.bool true) := HB4.out.cell 2
 go_wp2_with (first | (refine wpList_load_any (by rfl) 46 (.tmp 2) rfl g 0 rfl _ hld ?_) | (refine wpList_store_whole rfl 46 (.tmp 4) (.tmp 19) rfl (g + 1) (frArr rest max true) rfl rfl (frArr ⟨#[]⟩ 0 false) HB3.out info_fr rfl (one_fr _ _ _) ?_; simp only [Act.put]))
 have hrow := Bar.row (g + 1) w3 (frArr rest max true)
 refine bodyPost_ret (results_fr3 Tryz.results20 rfl (HB3.out.row (frArr rest max true)) rfl rfl) rfl ⟨none, 0, rfl, OwnPks.nil _ _, hrow.below HBX.out (by have := HG.out; omega) HBX.out.size⟩
open Go.RowKit Go.Lib Prp Pkt Vbi
def stLen : Value → Nat
 | .string s => s.size
 | _ => 0
theorem Feed_live (rest : ByteArray) (max : Int) (s : ByteArray) (L : List Pk) (x : ByteArray) (e : Int) (dd : Bool) (w : World) (hs : rest.size + s.size ≤ 268435456) (hb : mayF rest max false = true) (hR : feedS max (rest ++ s) = (L, x, e)) (hdd : dd = decide (e ≠ 0)) :
  Calls Tryz.prog 20 #[.agg (frArr rest max false), .string s] w (GivesFeed x max dd L e w) := by
 have hb1 := Box.new w 46 (frArr rest max false)
 have ha1 := (Below.refl w.heap.size w).alloc (Nat.le_refl _) (.cells (frArr rest max false) 46)
 obtain ⟨W1, hW1⟩ : ∃ W1, w.alloc (.cells (frArr rest max false) 46) = W1 := ⟨_, rfl⟩
 have hs1 : W1.heap.size = w.heap.size + 1 := by rw [← hW1, World.size_alloc]
 rw [hW1] at hb1 ha1
 have hb2 := Box.new W1 46 (frArr ⟨#[]⟩ 0 false)
 have ha2 := (Below.refl W1.heap.size W1).alloc (Nat.le_refl _) (.cells (frArr ⟨#[]⟩ 0 false) 46)
 obtain ⟨W2, hW2⟩ : ∃ W2, W1.alloc (.cells (frArr ⟨#[]⟩ 0 false) 46) = W2 := ⟨_, rfl⟩
 have hs2 : W2.heap.size = w.heap.size + 2 := by rw [← hW2, World.size_alloc, hs1]
 rw [hW2] at hb2 ha2
 rw [hs1] at hb2
 obtain ⟨g, hg⟩ : ∃ g, w.heap.size = g := ⟨_, rfl⟩
 rw [hg] at hb1 hb2 hs2
 have hbx := hb1.below (ha2.mono (by omega))
 have hld := load_fr hbx
 have HF2 := Lib.hid (FeedIn.mk (w := w) (g := g) (rest := rest) (max := max) (v := .slice none 0 0) (L := []) (W := W2) ⟨hbx, hb2, OwnPks.nil _ _, ha1.trans (ha2.mono (by omega)), hg, by omega⟩)
 have HCK := Lib.hid (FrCheck_is rest max false true W2 (by omega) hb)
 have HG := Lib.hid hg
 have HDD := Lib.hid hdd
 clear hdd
 have HLN : Hid (L.length ≤ 134217728 ∧ (rest ++ s).size ≤ 268435456) := by
  have h1 := feed_len max (rest ++ s)
  rw [hR] at h1
  have h2 : (rest ++ s).size = rest.size + s.size := ByteArray.size_append
  have h1' : 2 * L.length + x.size ≤ (rest ++ s).size := h1
  exact ⟨by omega, by omega⟩
 have hadd : ¬ 9223372036854775807 < rest.size + s.size := by omega
 unfold frArr at hW1 hW2 ⊢
 have HW1 := Lib.hid hW1
 have HW2 := Lib.hid hW2
 have HR := Lib.hid hR
 clear hb1 ha1 hb2 ha2 hs1 hs2 hg hW1 hW2 hs hb hbx hR
 go_enter Tryz.func20, Tryz.ntmps20
 go_upto_region 1 with fail
 rw [HW1.out, HW2.out, HG.out]
 generalize Value.agg _ = v0
 clear HW1 HW2
 go_wp2_with (refine wpList_load_any (by rfl) 46 (.tmp 2) rfl g 0 rfl _ hld ?_)
 refine HCK.out.mono ?_
 rintro e0 w3 ⟨rfl, hb3⟩
 have HF3 := Lib.hid (HF2.out.below hb3)
 clear hb3 hld HF2 HCK
 have c2 : w3.cell? ⟨g, 2, none⟩ = some (.bool false) := HF3.out.out.1.cell 2
 have c0 : w3.cell? ⟨g, 0, none⟩ = some (.string rest) := HF3.out.out.1.cell 0
 go_wp2_with fail
 clear c0 c2
 go_loopw [5, 7] (fun v r wr => ∃ (l : List Pk) (y : ByteArray) (A : Option Addr) (c : Nat), v = .slice A l.length c ∧ r = .string y ∧ FeedIn w g rest max (.slice A l.length c) l wr ∧ L = l ++ (feedS max y).1 ∧ (x, e) = (feedS max y).2 ∧ y.size ≤ 268435456) (fun _ r _ => stLen r)
 case atStart => exact ⟨[], rest ++ s, none, 0, rfl, rfl, HF3.out, by rw [HR.out]; rfl, by rw [HR.out], HLN.out.2⟩
 case round =>
  obtain ⟨l, y, A, c, rfl, rfl, hfi, hL, hxe, hy⟩ := hrel
  have HF := Lib.hid hfi
  have HC0 := first_is y max wr hy
  have c1 : wr.cell? ⟨g, 1, none⟩ = some (.int .i64 max) := hfi.out.1.cell 1
  have HLL := Lib.hid hL
  have HXE := Lib.hid hxe
  have HY := Lib.hid hy
  have a1 := as_wh
  have a2 := as_no_wh
  have a3 := as_errno
  clear HF3 HR hfi hL hxe hy
  cases hst : stepS max y with
  | one p n =>
   have hn := step_one hst
   rw [hst] at HC0
   have HC := Lib.hid HC0
   have HL2 : Hid (L = (l ++ [p]) ++ (feedS max (y.extract n y.size)).1) := by show _ = _; rw [HLL.out, feedS_one hst, List.append_assoc]; rfl
   have HX2 : Hid ((x, e) = (feedS max (y.extract n y.size)).2) := by show _ = _; rw [HXE.out, feedS_one hst]
   have HN := Lib.hid hn
   clear HC0 hst hn HLL HXE
   go_wp2_with fail
   refine HC.out.mono ?_
   rintro r w1 ⟨a, rfl, q1, q2, q3, q4⟩
   have HF1 := Lib.hid (HF.out.below q4)
   have hvl := HF.out.out.2.2.1.lt
   have hbz := HF.out.out.2.2.2.2.2
   have hmb := new_below w1 (whArr (zp 0) za 0) (whArr p a (n : Int)) 92
   have hmx := new_box w1 (whArr (zp 0) za 0) (whArr p a (n : Int)) 92
   have hbn := Box.new w1 92 (whArr (zp 0) za 0)
   obtain ⟨W4, hW4⟩ : ∃ W, w1.alloc (.cells (whArr (zp 0) za 0) 92) = W := ⟨_, rfl⟩
   rw [hW4] at hmb hmx hbn
   obtain ⟨k9, hk9⟩ : ∃ k, w1.heap.size = k := ⟨_, rfl⟩
   have HF2 := Lib.hid (HF1.out.below hmb)
   have HP2 := Lib.hid ((q1.below hmb).mono hmb.size)
   have hq4 := q4.size
   have HO := Lib.hid (show ∀ gg, (Value.slice A l.length c).ownBlock = some gg → POff gg p a from fun gg hh => POff.of_new q3 (hvl gg hh).2)
   have HNW := Lib.hid (q3.mono (B' := g + 2) hbz)
   have HV := Lib.hid (show some k9 ≠ (Value.slice A l.length c).ownBlock from fun hh => by have := (hvl k9 hh.symm).2; omega)
   have HCP := Lib.hid q2
   rw [hk9] at hmx hbn HF2 HP2
   have HMX := Lib.hid hmx
   have HBN := Lib.hid hbn
   simp only [whArr, zp, za, zw, List.length_nil] at hW4
   have HW4 := Lib.hid hW4
   clear q1 q2 q3 q4 hmb hmx hbn hW4 hvl hbz hq4 HF HF1 HC c1
   go_upto_region 9 with (rw [HW4.out]; refine wpList_store_whole rfl 92 (.tmp 9) (.tmp 31) rfl k9 (whArr p a (n : Int)) rfl rfl (whArr (zp 0) za 0) HBN.out info_wh rfl (one_wh _ _ _) ?_; simp only [Act.put])
   clear hk9 HW4 HBN a1 a2 a3
   generalize World.setRow _ _ _ = w5 at HF2 HP2 HMX ⊢
   have hld := load_wh HMX.out
   have c25 : w5.cell? ⟨k9, 25, none⟩ = some (.int .i64 (n : Int)) := HMX.out.cell 25
   have halc := (Below.refl w5.heap.size w5).alloc (Nat.le_refl _) (.cells (pkArr p a) 30)
   have HRW := Lib.hid (rows_one (w := w5.alloc (.cells (pkArr p a) 30)) (base := g + 2) (k := w5.heap.size) (v := .slice A l.length c) ((HP2.out.below halc).mono halc.size) HCP.out HNW.out HO.out (Box.new w5 30 (pkArr p a)))
   have HB5 := Lib.hid (HMX.out.below halc)
   have HZ := Lib.hid halc.size
   clear halc HMX HP2 HCP HNW HO
   go_wp2_with (first | (refine wpList_load_any (by rfl) 30 (.tmp 35) rfl k9 0 rfl _ hld ?_) | (refine wpList_one_pk rfl (.tmp 36) rfl p a rfl ?_) | (at_builtin; refine wpList_append_pks rfl (.tmp 34) (.tmp 37) rfl (base := g + 2) (c := 1) (v := .slice A l.length c) (l := l) (m := [p]) (A := some ⟨w5.heap.size, 0, none⟩) (bs := [a]) rfl rfl ?c1 HRW.out.1 ?c3 ?c4 ?c5 ?_))
   case c1 => exact HF2.out.out.2.2.1.alloc _
   case c3 => exact .inr ⟨_, rfl, HRW.out.2⟩
   case c4 => exact Nat.le_trans HF2.out.out.2.2.2.2.2 HZ.out
   case c5 =>
    have h1 := congrArg List.length HL2.out
    have h2 := HLN.out.1
    simp only [List.length_append, List.length_cons, List.length_nil] at h1 ⊢
    omega
   intro v' w6 ho hbl hgr
   obtain ⟨A', c', rfl, _⟩ := ho.slice
   have HF6 := Lib.hid ((HF2.out.alloc _).grown hbl ho)
   have c25 : w6.cell? ⟨k9, 25, none⟩ = some (.int .i64 (n : Int)) := (box_grown HB5.out hgr HV.out).cell 25
   have hn0 : (0 : Int) ≤ (n : Int) := by omega
   have hn1 : (n : Int) ≤ (y.size : Int) := by have := HN.out.2.1; omega
   clear ho hbl hgr hld HF2 HRW HB5 HZ HV
   go_wp2_with fail
   go_roundw
   case rel => exact ⟨l ++ [p], y.extract n y.size, A', c', rfl, rfl, HF6.out, HL2.out, HX2.out, by have := HY.out; rw [ByteArray.size_extract]; omega⟩
   case measure => show (y.extract n y.size).size < y.size; have := HN.out; rw [ByteArray.size_extract]; omega
  | wait =>
   rw [hst] at HC0
   have HC := Lib.hid HC0
   have HRES : Hid (L = l ∧ x = y ∧ e = 0) := by
    have h1 := HLL.out
    have h2 := HXE.out
    rw [feedS_wait hst] at h1 h2
    injection h2 with h2 h3
    exact ⟨by rw [h1]; exact List.append_nil _, h2, h3⟩
   clear HC0 hst HLL HXE
   go_wp2_with fail
   refine HC.out.mono ?_
   rintro r w1 ⟨rfl, q4⟩
   have HF1 := Lib.hid (HF.out.below q4)
   have hmb := new_below w1 (whArr (zp 0) za 0) (whArr (zp 0) za 0) 92
   have hbn := Box.new w1 92 (whArr (zp 0) za 0)
   obtain ⟨W4, hW4⟩ : ∃ W, w1.alloc (.cells (whArr (zp 0) za 0) 92) = W := ⟨_, rfl⟩
   rw [hW4] at hmb hbn
   have HF2 := Lib.hid (HF1.out.below hmb)
   obtain ⟨k9, hk9⟩ : ∃ k, w1.heap.size = k := ⟨_, rfl⟩
   rw [hk9] at hbn HF2
   have HBN := Lib.hid hbn
   simp only [whArr, zp, za, zw, List.length_nil] at hW4
   have HW4 := Lib.hid hW4
   clear q4 hmb hbn hW4 HF HF1 HC c1
   go_upto_region 9 with (rw [HW4.out]; refine wpList_store_whole rfl 92 (.tmp 9) (.tmp 31) rfl k9 (whArr (zp 0) za 0) rfl rfl (whArr (zp 0) za 0) HBN.out info_wh rfl (one_wh _ _ _) ?_; simp only [Act.put])
   clear hk9 HW4 HBN
   generalize World.setRow _ _ _ = w5 at HF2 ⊢
   have HXY : Hid (dd = false ∧ x = y ∧ L = l ∧ e = 0) := by
    obtain ⟨h1, h2, h3⟩ := HRES.out
    exact ⟨by rw [HDD.out, h3]; rfl, h2, h1, h3⟩
   have HCL := Lib.hid (fun W => Clone_same y W (by have := HY.out; omega))
   clear HRES
   go_upto_region 14 with fail
   have hHeld : FeedIn w g rest max (.slice A l.length c) l (World.drew w5) := HF2.out.below (below_drewN (Below.refl _ _) 1)
   clear HF2
   refine wp_region_held_drew (S := fun W => ∃ cs : Array Value, cs.size = 3 ∧ Box W g (frArr rest max false) ∧ Box W (g + 1) cs) (by kernel_rfl) ⟨_, rfl, hHeld.out.1, hHeld.out.2.1⟩ (fun hBox => ?_)
   generalize World.drew w5 = Wd at hHeld hBox ⊢
   refine take_op 0 47 ?v0 rfl rfl (by kernel_rfl) (fun _ _ _ h => h) (by rfl) hBox (fun w' hS' => ?hv0) ?hh0
   case hv0 => (go_simp; try with_reducible rfl)
   simp only [Act.put, List.setIfInBounds_toArray, List.set_cons_zero, List.set_cons_succ]
   refine take_op 2 49 ?v2 rfl rfl (by kernel_rfl) (fun _ _ _ h => h) (by rfl) hBox (fun w' hS' => ?hv2) ?hh2
   case hv2 => (go_simp; try with_reducible rfl)
   simp only [Act.put, List.setIfInBounds_toArray, List.set_cons_zero, List.set_cons_succ]
   refine take_op 3 50 ?v3 rfl rfl (by kernel_rfl) (fun _ _ _ h => h) (by rfl) hBox (fun w' hS' => ?hv3) ?hh3
   case hv3 => (have k : w'.cell? ⟨g, 1, none⟩ = some (.int .i64 max) := hS'.choose_spec.2.1.cell 1; go_simp; try with_reducible rfl)
   simp only [Act.put, List.setIfInBounds_toArray, List.set_cons_zero, List.set_cons_succ]
   refine take_op 5 52 ?v5 rfl rfl (by kernel_rfl) (fun _ _ _ h => h) (by rfl) hBox (fun w' hS' => ?hv5) ?hh5
   case hv5 => (go_simp; try with_reducible rfl)
   simp only [Act.put, List.setIfInBounds_toArray, List.set_cons_zero, List.set_cons_succ]
   refine only_op 1 rfl (by kernel_rfl) (by rfl) (wp_call_ex 48 54 #[.string y] _ rfl (by go_simp) (HCL.out Wd) ?_)
   rintro r w7 ⟨rfl, q3⟩
   obtain ⟨cs, hcs, hb1, hb2⟩ := hBox
   have hBox : ∃ cs : Array Value, cs.size = 3 ∧ Box w7 g (frArr rest max false) ∧ Box w7 (g + 1) cs := ⟨cs, hcs, hb1.below q3, hb2.below q3⟩
   have hb7 := hb2.below q3
   have hHeld := hHeld.below q3
   refine ⟨_, rfl, hBox, ?_⟩
   simp only [Act.put, List.setIfInBounds_toArray, List.set_cons_zero, List.set_cons_succ]
   refine take_op 4 51 (.agg (frArr y max false)) rfl rfl (by kernel_rfl) (fun _ _ _ h => h) (by rfl) hBox (fun w' hS' => ?hv4) ?hh4
   case hv4 => (go_simp; try rfl)
   simp only [Act.put, List.setIfInBounds_toArray, List.set_cons_zero, List.set_cons_succ]
   obtain ⟨T, hT⟩ := hb7
   have hrow := Bar.row (g + 1) w7 (frArr y max false)
   have hbx4 : Box (w7.setRow (g + 1) (frArr y max false)) (g + 1) (frArr y max false) := hHeld.out.2.1.row _
   have hBox2 : ∃ cs : Array Value, cs.size = 3 ∧ Box (w7.setRow (g + 1) (frArr y max false)) g (frArr rest max false) ∧ Box (w7.setRow (g + 1) (frArr y max false)) (g + 1) cs := ⟨_, rfl, hrow.box hHeld.out.1 (by omega), hbx4⟩
   refine only_op 6 rfl (by kernel_rfl) (by rfl) (wp_store_row 46 (.tmp 4) (.tmp 51) rfl (g + 1) (frArr y max false) rfl rfl T cs hT info_fr hcs (one_fr _ _ _) ⟨hBox2, ?_⟩)
   simp only [Act.put]
   refine take_op 7 5 ?v7 rfl rfl (by kernel_rfl) (fun _ _ _ h => h) (by rfl) hBox2 (fun w' hS' => ?hv7) ?hh7
   case hv7 => (go_simp; try with_reducible rfl)
   simp only [Act.put, List.setIfInBounds_toArray, List.set_cons_zero, List.set_cons_succ]
   refine take_op 8 6 ?v8 rfl rfl (by kernel_rfl) (fun _ _ _ h => h) (by rfl) hBox2 (fun w' hS' => ?hv8) ?hh8
   case hv8 => (go_simp; try with_reducible rfl)
   simp only [Act.put, List.setIfInBounds_toArray]
   refine wpAnyH_done (by kernel_rfl) ?_ _
   have HB4 := Lib.hid hbx4
   have HFN := Lib.hid (show OwnPks (w7.setRow (g + 1) (frArr y max false)) w.heap.size (.slice A l.length c) l ∧ Below w.heap.size w (w7.setRow (g + 1) (frArr y max false)) from ⟨(hHeld.out.2.2.1.bar hrow (by omega)).mono (by have := HG.out; omega), hrow.below hHeld.out.2.2.2.1 (by have := HG.out; omega) hHeld.out.2.2.2.1.size⟩)
   clear hBox hBox2 hbx4 hrow hT hcs hb1 hb2 hHeld q3 HCL
   go_wp2_with fail
   obtain ⟨h1, h2, h3, h4⟩ := HXY.out
   rw [h1, h2, h3, h4]
   refine bodyPost_ret (results_fr3 Tryz.results20 rfl HB4.out rfl rfl) rfl ⟨A, c, rfl, HFN.out.1, HFN.out.2⟩
  | dead E =>
   rw [hst] at HC0
   have HC := Lib.hid HC0
   have hd := step_dead hst
   have HRES : Hid (L = l ∧ x = ⟨#[]⟩ ∧ e = E) := by
    have h1 := HLL.out
    have h2 := HXE.out
    rw [feedS_dead hst] at h1 h2
    injection h2 with h2 h3
    exact ⟨by rw [h1]; exact List.append_nil _, h2, h3⟩
   have hE7 : (E == 7) = false := ne_false hd.2.2
   have HE0 := Lib.hid hd.2.1
   clear HC0 hst HLL HXE hd
   go_wp2_with fail
   refine HC.out.mono ?_
   rintro r w1 ⟨rfl, q4⟩
   have HF1 := Lib.hid (HF.out.below q4)
   have hmb := new_below w1 (whArr (zp 0) za 0) (whArr (zp 0) za 0) 92
   have hbn := Box.new w1 92 (whArr (zp 0) za 0)
   obtain ⟨W4, hW4⟩ : ∃ W, w1.alloc (.cells (whArr (zp 0) za 0) 92) = W := ⟨_, rfl⟩
   rw [hW4] at hmb hbn
   have HF2 := Lib.hid (HF1.out.below hmb)
   obtain ⟨k9, hk9⟩ : ∃ k, w1.heap.size = k := ⟨_, rfl⟩
   rw [hk9] at hbn HF2
   have HBN := Lib.hid hbn
   simp only [whArr, zp, za, zw, List.length_nil] at hW4
   have HW4 := Lib.hid hW4
   clear q4 hmb hbn hW4 HF HF1 HC c1
   go_upto_region 9 with (rw [HW4.out]; refine wpList_store_whole rfl 92 (.tmp 9) (.tmp 31) rfl k9 (whArr (zp 0) za 0) rfl rfl (whArr (zp 0) za 0) HBN.out info_wh rfl (one_wh _ _ _) ?_; simp only [Act.put])
   clear hk9 HW4 HBN
   generalize World.setRow _ _ _ = w5 at HF2 ⊢
   have c1 : w5.cell? ⟨g, 1, none⟩ = some (.int .i64 max) := HF2.out.out.1.cell 1
   have HB4 := Lib.hid HF2.out.out.2.1
   have HRR : Hid (dd = true ∧ x = ⟨#[]⟩ ∧ L = l ∧ e = E) := by
    obtain ⟨h1, h2, h3⟩ := HRES.out
    exact ⟨by rw [HDD.out, h3]; exact decide_eq_true HE0.out, h2, h1, h3⟩
   go_wp2_with (refine wpList_store_whole rfl 46 (.tmp 4) (.tmp 55) rfl (g + 1) (frArr ⟨#[]⟩ max true) rfl rfl (frArr ⟨#[]⟩ 0 false) HB4.out info_fr rfl (one_fr _ _ _) ?_; simp only [Act.put])
   have hrow := Bar.row (g + 1) w5 (frArr ⟨#[]⟩ max true)
   obtain ⟨h1, h2, h3, h4⟩ := HRR.out
   rw [h1, h2, h3, h4]
   refine bodyPost_ret (results_fr3 Tryz.results20 rfl (HB4.out.row (frArr ⟨#[]⟩ max true)) rfl rfl) rfl ⟨A, c, rfl, ((HF2.out.out.2.2.1.bar hrow (by omega)).mono (by have := HG.out; omega)), hrow.below HF2.out.out.2.2.2.1 (by have := HG.out; omega) HF2.out.out.2.2.2.1.size⟩
end Go.Proofs.YtdbbcfohjkgdcaaGreat
