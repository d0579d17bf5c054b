/- The sixth layer's statements: a script's cells; framers compared; packets that are told have few of each. -/
import Derived.Test.YtdbbcfohjkgdcaaGreatL00
import Derived.Test.YtdbbcfohjkgdcaaGreatL33
set_option maxRecDepth 100000
set_option maxHeartbeats 64000000
namespace Go.Proofs.YtdbbcfohjkgdcaaGreat
open Go.RowKit Go.Lib Prp Pkt Vbi
theorem frEq_self (p : Pk) (a a' : Ad) (w : World) (hf : PkLen p) (h : PkAt w w.heap.size p a) (h' : PkAt w w.heap.size p a') :
  Calls Tryz.prog 13 #[.agg (pkArr p a), .agg (pkArr p a')] w fun e w' => e = .returned (.bool true) ∧ Below w.heap.size w w' := by
 have := EqPacket_is p p a a' w hf ⟨.inl rfl, .inl rfl, .inl rfl, .inl rfl⟩ h h'
 rw [show eqP p p = true by simp [eqP, eqW]] at this
 exact this
structure PksAt (w : World) (A : Option Addr) (l : List Pk) (ads : List Ad) : Prop where
 len : ads.length = l.length
 rows : l = [] ∨ ∃ g o, A = some ⟨g, o, none⟩ ∧ g < w.heap.size ∧ ∀ j (h1 : j < l.length) (h2 : j < ads.length), (∀ i v, (pkArr l[j] ads[j])[i]? = some v → w.cell? ⟨g, o + j * 25 + i, none⟩ = some v) ∧ PkAt w w.heap.size l[j] ads[j]
theorem PksAt.below {w w' : World} {A : Option Addr} {l : List Pk} {ads : List Ad} (h : PksAt w A l ads) (hb : Below w.heap.size w w') : PksAt w' A l ads := by
 refine ⟨h.len, ?_⟩
 rcases h.rows with h | ⟨g, o, h1, h2, h3⟩
 ·exact .inl h
 ·exact .inr ⟨g, o, h1, Nat.lt_of_lt_of_le h2 hb.size, fun j k1 k2 => ⟨fun i v hv => (hb.cell (p := ⟨g, o + j * 25 + i, none⟩) h2).trans ((h3 j k1 k2).1 i v hv), ((h3 j k1 k2).2.below hb).mono hb.size⟩⟩
theorem PksAt.some_ {w : World} {A : Option Addr} {l : List Pk} {ads : List Ad} (h : PksAt w A l ads) (hl : 0 < l.length) : ∃ g o, A = some ⟨g, o, none⟩ ∧ g < w.heap.size ∧ ∀ j (h1 : j < l.length) (h2 : j < ads.length), (∀ i v, (pkArr l[j] ads[j])[i]? = some v → w.cell? ⟨g, o + j * 25 + i, none⟩ = some v) ∧ PkAt w w.heap.size l[j] ads[j] := by
 rcases h.rows with h | h
 ·subst h; simp at hl
 ·exact h
theorem OwnPks.at {w : World} {base c : Nat} {A : Option Addr} {l : List Pk} (h : OwnPks w base (.slice A l.length c) l) : ∃ ads, PksAt w A l ads := by
 obtain ⟨ads, h1, h2⟩ := h.out
 refine ⟨ads, h2.len, ?_⟩
 rcases h1.2 with ⟨hv, hn⟩ | ⟨g, cap, cur, hv, _, hg, _⟩
 ·exact .inl (List.eq_nil_of_length_eq_zero hn)
 ·injection hv with hA _ _
  subst hA
  have key := h1.cells (g := g) rfl
  refine .inr ⟨g, 0, rfl, (Array.getElem?_eq_some_iff.1 hg).1, fun j k1 k2 => ⟨fun i v hv => ?_, (h2.rows j k1 k2).1⟩⟩
  have hi : i < 25 := by
   have := (Array.getElem?_eq_some_iff.1 hv).1
   exact this
  have := key (j * 25 + i) v (by rw [flatK_at l ads j i k1 k2 hi]; exact hv)
  rw [add_new] at this
  rw [Nat.zero_add]
  exact this
theorem load_at {W : World} {g o j : Nat} {p : Pk} {a : Ad} (h : ∀ i v, (pkArr p a)[i]? = some v → W.cell? ⟨g, o + j * 25 + i, none⟩ = some v) : (loadVar 30 ⟨g, o + j * 25, none⟩).run Tryz.prog W = .ok (.agg (pkArr p a)) W :=
 run_loadVar_mid W g (o + j * 25) 30 (pkArr p a).toList _ (fun i v hv => h i v (by rw [← hv]; simp)) Tryz.underlying30 rfl info_pk
theorem EqPackets_is (l : List Pk) (A A' : Option Addr) (c c' : Nat) (ads bds : List Ad) (w : World) (hf : ∀ p ∈ l, PkLen p) (hn : l.length ≤ 1000000000) (h : PksAt w A l ads) (h' : PksAt w A' l bds) :
  Calls Tryz.prog 22 #[.slice A l.length c, .slice A' l.length c'] w fun e w' => e = .returned (.bool true) ∧ Below w.heap.size w w' := by
 have H := Lib.hid h
 have H2 := Lib.hid h'
 have HF := Lib.hid hf
 clear h h' hf
 go_enter Tryz.func22, Tryz.ntmps22
 go_wp2_with fail
 go_loopw [5] (fun i wr => ∃ k : Nat, k ≤ l.length ∧ i = .int .i64 (k : Int) ∧ Below w.heap.size w wr) (fun i _ => l.length - (RowKit.intOf i).toNat)
 case atStart => exact ⟨0, Nat.zero_le _, rfl, Below.refl _ _⟩
 case round =>
  obtain ⟨k, hk, rfl, hbl⟩ := hrel
  by_cases hlt : k < l.length
  ·have hR1 := H.out.below hbl
   have hR2 := H2.out.below hbl
   have l1 : k < ads.length := by rw [hR1.len]; exact hlt
   have l2 : k < bds.length := by rw [hR2.len]; exact hlt
   obtain ⟨g, o, rfl, hg, hr1⟩ := hR1.some_ (by omega)
   obtain ⟨g', o', rfl, hg', hr2⟩ := hR2.some_ (by omega)
   have hp := HF.out l[k] (List.getElem_mem hlt)
   obtain ⟨p, hpp⟩ : ∃ p, l[k] = p := ⟨_, rfl⟩
   obtain ⟨a, ha⟩ : ∃ a, ads[k] = a := ⟨_, rfl⟩
   obtain ⟨a', ha'⟩ : ∃ a', bds[k] = a' := ⟨_, rfl⟩
   have hq1 := hr1 k hlt l1
   have hq2 := hr2 k hlt l2
   rw [hpp, ha] at hq1
   rw [hpp, ha'] at hq2
   rw [hpp] at hp
   have HB := Lib.hid hbl
   have HP := Lib.hid hp
   have HQ1 := Lib.hid hq1
   have HQ2 := Lib.hid hq2
   have HG := Lib.hid (And.intro hg hg')
   have hkI : (k : Int) < (l.length : Int) := by omega
   have hk0 : (0 : Int) ≤ (k : Int) := by omega
   have htn : (k : Int).toNat = k := by omega
   clear hR1 hR2 hr1 hr2 hq1 hq2 hp hbl hg hg' hpp ha ha' l1 l2
   go_upto_region 6 with fail
   have HE := Lib.hid (fun (W : World) (hS : Below wr.heap.size wr W) => frEq_self p a a' W HP.out ((HQ1.out.2.below hS).mono hS.size) ((HQ2.out.2.below hS).mono hS.size))
   refine wp_region_held_drew (S := fun W => Below wr.heap.size wr W) (by kernel_rfl) (below_drewN (Below.refl _ _) 1) (fun hS => ?_)
   generalize World.drew wr = Wd at hS ⊢
   refine take_op 0 17 ?v0 rfl rfl (by kernel_rfl) (fun _ _ _ h => h) (by rfl) hS (fun w' hS' => ?hv0) ?hh0
   case hv0 => (go_simp; try with_reducible rfl)
   simp only [Act.put, List.setIfInBounds_toArray, List.set_cons_zero, List.set_cons_succ]
   refine take_op 1 18 ?v1 rfl rfl (by kernel_rfl) (fun _ _ _ h => h) (by rfl) hS (fun w' hS' => ?hv1) ?hh1
   case hv1 => (go_simp; try with_reducible rfl)
   simp only [Act.put, List.setIfInBounds_toArray, List.set_cons_zero, List.set_cons_succ]
   refine take_op 2 19 ?v2 rfl rfl (by kernel_rfl) (fun _ _ _ h => h) (by rfl) hS (fun w' hS' => ?hv2) ?hh2
   case hv2 => (go_simp; try with_reducible rfl)
   simp only [Act.put, List.setIfInBounds_toArray, List.set_cons_zero, List.set_cons_succ]
   refine take_load 3 20 30 (.tmp 19) g (o + k * 25) (.agg (pkArr p a)) rfl rfl (by kernel_rfl) (fun _ _ _ h => h) (by rfl) hS rfl rfl (fun w' hS' => load_at (fun i v hv => (hS'.cell (p := ⟨g, o + k * 25 + i, none⟩) HG.out.1).trans (HQ1.out.1 i v hv))) ?_
   simp only [Act.put, List.setIfInBounds_toArray, List.set_cons_zero, List.set_cons_succ]
   refine take_op 4 21 ?v4 rfl rfl (by kernel_rfl) (fun _ _ _ h => h) (by rfl) hS (fun w' hS' => ?hv4) ?hh4
   case hv4 => (go_simp; try with_reducible rfl)
   simp only [Act.put, List.setIfInBounds_toArray, List.set_cons_zero, List.set_cons_succ]
   refine take_op 5 22 ?v5 rfl rfl (by kernel_rfl) (fun _ _ _ h => h) (by rfl) hS (fun w' hS' => ?hv5) ?hh5
   case hv5 => (go_simp; try with_reducible rfl)
   simp only [Act.put, List.setIfInBounds_toArray, List.set_cons_zero, List.set_cons_succ]
   refine take_op 6 23 ?v6 rfl rfl (by kernel_rfl) (fun _ _ _ h => h) (by rfl) hS (fun w' hS' => ?hv6) ?hh6
   case hv6 => (go_simp; try with_reducible rfl)
   simp only [Act.put, List.setIfInBounds_toArray, List.set_cons_zero, List.set_cons_succ]
   refine take_load 7 24 30 (.tmp 23) g' (o' + k * 25) (.agg (pkArr p a')) rfl rfl (by kernel_rfl) (fun _ _ _ h => h) (by rfl) hS rfl rfl (fun w' hS' => load_at (fun i v hv => (hS'.cell (p := ⟨g', o' + k * 25 + i, none⟩) HG.out.2).trans (HQ2.out.1 i v hv))) ?_
   simp only [Act.put, List.setIfInBounds_toArray, List.set_cons_zero, List.set_cons_succ]
   refine only_op 8 rfl (by kernel_rfl) (by rfl) (wp_call_ex 25 13 #[.agg (pkArr p a), .agg (pkArr p a')] _ rfl (by go_simp) (HE.out Wd hS) ?_)
   rintro r w3 ⟨rfl, q3⟩
   have hS := hS.trans (q3.mono hS.size)
   refine ⟨_, rfl, hS, ?_⟩
   simp only [Act.put, List.setIfInBounds_toArray, List.set_cons_zero, List.set_cons_succ]
   refine take_op 9 26 ?v9 rfl rfl (by kernel_rfl) (fun _ _ _ h => h) (by rfl) hS (fun w' hS' => ?hv9) ?hh9
   case hv9 => (go_simp; try with_reducible rfl)
   simp only [Act.put, List.setIfInBounds_toArray, List.set_cons_zero, List.set_cons_succ]
   refine wpAnyH_done (by kernel_rfl) ?_ _
   have HX := Lib.hid (HB.out.trans (hS.mono HB.out.size))
   clear hS q3 HE HQ1 HQ2 HP HG HB
   go_wp2_with fail
   go_roundw
   case rel => exact ⟨k + 1, hlt, by go_num, HX.out⟩
   case measure => simp [RowKit.intOf]; omega
  ·obtain rfl : k = l.length := by omega
   go_wp2_with fail
   go_ret
   exact ⟨rfl, hbl⟩
theorem num6 (n : Int) (w : World) :
  Calls Tryz.prog 18 #[.int .i64 n] w fun e w' => e = .returned (.int .i64 n) ∧ w = w' := by
 go_enter Tryz.func18, Tryz.ntmps18
 go_wp2
 go_ret
 exact ⟨rfl, rfl⟩
theorem New_is (n : Int) (b : Bool) (w : World) (hb : decide (2 ≤ n ∧ n ≤ 8192) = b) :
  Calls Tryz.prog 55 #[.int .i64 n] w fun e w' => e = .returned (.tuple #[.agg (frArr ⟨#[]⟩ (if b = true then n else 0) false), .int .i64 (if b = true then 0 else 1)]) ∧ Below w.heap.size w w' := by
 have hb0 := Box.new w 46 (frArr ⟨#[]⟩ 0 false)
 have ha := (Below.refl w.heap.size w).alloc (Nat.le_refl _) (.cells (frArr ⟨#[]⟩ 0 false) 46)
 obtain ⟨W1, hW⟩ : ∃ W1, w.alloc (.cells (frArr ⟨#[]⟩ 0 false) 46) = W1 := ⟨_, rfl⟩
 rw [hW] at hb0 ha
 have HA := Lib.hid ha
 obtain ⟨g, hg⟩ : ∃ g, w.heap.size = g := ⟨_, rfl⟩
 rw [hg] at hb0
 have HG := Lib.hid hg
 have HB0 := Lib.hid hb0
 have HM := Lib.hid (fun W => isMax_is n b W hb)
 unfold frArr at hW
 have HW := Lib.hid hW
 clear hW ha hb0 hg hb
 cases b with
 | true =>
  go_enter Tryz.func55, Tryz.ntmps55
  go_upto_region 1 with fail
  rw [HW.out, HG.out]
  go_wp2_with (first | (go_at_call 50; refine (HM.out _).mono ?_; rintro e w' ⟨rfl, rfl⟩) | (refine wpList_store_whole rfl 46 (.tmp 2) (.tmp 9) rfl g (frArr ⟨#[]⟩ n false) rfl rfl (frArr ⟨#[]⟩ 0 false) HB0.out info_fr rfl (one_fr _ _ _) ?_; simp only [Act.put]))
  have hrow := Bar.row g W1 (frArr ⟨#[]⟩ n false)
  refine bodyPost_ret (results_fr2 Tryz.results55 rfl (HB0.out.row (frArr ⟨#[]⟩ n false)) rfl) rfl ⟨rfl, hrow.below HA.out (by have := HG.out; omega) HA.out.size⟩
 | false =>
  go_enter Tryz.func55, Tryz.ntmps55
  go_upto_region 1 with fail
  rw [HW.out, HG.out]
  go_wp2_with (first | (go_at_call 50; refine (HM.out _).mono ?_; rintro e w' ⟨rfl, rfl⟩) | (refine wpList_store_whole rfl 46 (.tmp 2) (.tmp 7) rfl g (frArr ⟨#[]⟩ 0 false) rfl rfl (frArr ⟨#[]⟩ 0 false) HB0.out info_fr rfl (one_fr _ _ _) ?_; simp only [Act.put]))
  have hrow := Bar.row g W1 (frArr ⟨#[]⟩ 0 false)
  refine bodyPost_ret (results_fr2 Tryz.results55 rfl (HB0.out.row (frArr ⟨#[]⟩ 0 false)) rfl) rfl ⟨rfl, hrow.below HA.out (by have := HG.out; omega) HA.out.size⟩
open Go.RowKit Go.Lib Prp Pkt Vbi
theorem fpack_12 : packB (zp 12) = true ∧ strP (zp 12) = ⟨#[192, 0]⟩ := by
 have e : strP (zp 12) = ⟨#[192, 0]⟩ := by
  show (strOfNums [16 * 12 + 0] ++ strOfNums (numZ 0)) ++ ⟨#[]⟩ = _
  rw [numZ_last (by omega)]
  rfl
 refine ⟨?_, e⟩
 unfold packB
 rw [e]
 rfl
theorem ftake_12 : takeS ⟨#[192, 0]⟩ = (zp 12, 2, 0) := by
 have := take_back ⟨#[]⟩ fpack_12.1
 rw [add_empty, fpack_12.2] at this
 exact this
theorem feed_192 : feedS 100 ⟨#[192]⟩ = ([], ⟨#[192]⟩, 0) := by
 refine feedS_wait ?_
 have h : lenS ⟨#[192]⟩ = (0, 7) := by
  unfold lenS
  rw [if_neg (by decide)]
  rfl
 unfold stepS
 rw [h]
 rfl
theorem feed_1920 : feedS 100 ⟨#[192, 0]⟩ = ([zp 12], ⟨#[]⟩, 0) := by
 have h : lenS ⟨#[192, 0]⟩ = (2, 0) := by
  unfold lenS
  rw [if_neg (by decide)]
  rfl
 have hs : stepS 100 ⟨#[192, 0]⟩ = .one (zp 12) 2 := by
  unfold stepS
  rw [h]
  show (if (takeS (ByteArray.extract ⟨#[192, 0]⟩ 0 2)).2.2 = 0 then Step.one (takeS (ByteArray.extract ⟨#[192, 0]⟩ 0 2)).1 2 else Step.dead (takeS (ByteArray.extract ⟨#[192, 0]⟩ 0 2)).2.2) = _
  have e : ByteArray.extract ⟨#[192, 0]⟩ 0 2 = ⟨#[192, 0]⟩ := by rfl
  rw [e, ftake_12]
  rfl
 rw [feedS_one hs]
 have e : ByteArray.extract ⟨#[192, 0]⟩ 2 (ByteArray.size ⟨#[192, 0]⟩) = ⟨#[]⟩ := by rfl
 rw [e, feedS_wait (step_nil rfl)]
theorem may_wait {max : Int} {r : ByteArray} (h : 2 ≤ max ∧ max ≤ 8192) (hw : stepS max r = .wait) : mayF r max false = true := by
 unfold mayF
 rw [decide_eq_true h]
 exact decide_eq_true (size_wait.2 hw)
theorem may_dead {max : Int} (h : 2 ≤ max ∧ max ≤ 8192) : mayF ⟨#[]⟩ max true = true := by
 unfold mayF
 rw [decide_eq_true h]
 rfl
theorem Feed_tells {rest : ByteArray} {max : Int} {s : ByteArray} {L : List Pk} {x : ByteArray} {e : Int} (h : 2 ≤ max ∧ max ≤ 8192) (hw : stepS max rest = .wait) (hR : feedS max (rest ++ s) = (L, x, e)) (hs : rest.size + s.size ≤ 268435456) (w : World) :
  Calls Tryz.prog 20 #[.agg (frArr rest max false), .string s] w fun r w' => ∃ A c, r = .returned (.tuple #[.agg (frArr x max (decide (e ≠ 0))), .slice A L.length c, .int .i64 e]) ∧ OwnPks w' w.heap.size (.slice A L.length c) L ∧ Below w.heap.size w w' :=
 Feed_live rest max s L x e _ w hs (may_wait h hw) hR rfl
theorem New_yes {n : Int} (h : 2 ≤ n ∧ n ≤ 8192) (w : World) : Calls Tryz.prog 55 #[.int .i64 n] w fun e w' => e = .returned (.tuple #[.agg (frArr ⟨#[]⟩ n false), .int .i64 0]) ∧ Below w.heap.size w w' :=
 New_is n true w (decide_eq_true h)
theorem wakes6 (w : World) : Calls Tryz.prog 23 #[] w fun e w' => e = .returned (.bool true) ∧ Below w.heap.size w w' := by
 have hm : (2 : Int) ≤ 100 ∧ (100 : Int) ≤ 8192 := by decide
 have hw0 : stepS 100 ⟨#[]⟩ = .wait := step_nil rfl
 have hw1 : stepS 100 ⟨#[192]⟩ = .wait := by
  have := (feed_rest 100 ⟨#[192]⟩).1
  rw [feed_192] at this
  exact this rfl
 have HN := Lib.hid (fun W => New_yes hm W)
 have HF1 := Lib.hid (fun W => Feed_tells (rest := ⟨#[]⟩) (max := 100) (s := ⟨#[192]⟩) (L := []) (x := ⟨#[192]⟩) (e := 0) hm hw0 (by rw [Pkt.empty_add]; exact feed_192) (by decide) W)
 have HF2 := Lib.hid (fun W => Feed_tells (rest := ⟨#[192]⟩) (max := 100) (s := ⟨#[0]⟩) (L := [zp 12]) (x := ⟨#[]⟩) (e := 0) hm hw1 (show feedS 100 ⟨#[192, 0]⟩ = _ from feed_1920) (by decide) W)
 clear hm hw0 hw1
 go_enter Tryz.func23, Tryz.ntmps23
 go_wp2_with fail
 refine (HN.out _).mono ?_
 rintro r w1 ⟨rfl, q1⟩
 have HX1 := Lib.hid q1
 have hmb := new_below w1 (frArr ⟨#[]⟩ 0 false) (frArr ⟨#[]⟩ 100 false) 46
 have hmx := new_box w1 (frArr ⟨#[]⟩ 0 false) (frArr ⟨#[]⟩ 100 false) 46
 have hbn := Box.new w1 46 (frArr ⟨#[]⟩ 0 false)
 obtain ⟨W3, hW3⟩ : ∃ W3, w1.alloc (.cells (frArr ⟨#[]⟩ 0 false) 46) = W3 := ⟨_, rfl⟩
 rw [hW3] at hmb hmx hbn
 obtain ⟨g, hg⟩ : ∃ k, w1.heap.size = k := ⟨_, rfl⟩
 have HX3 := Lib.hid (q1.trans (hmb.mono q1.size))
 rw [hg] at HX3
 have HG := Lib.hid hg
 rw [hg] at hmx hbn
 have HMX := Lib.hid hmx
 have HBN := Lib.hid hbn
 unfold frArr at hW3
 have HW3 := Lib.hid hW3
 clear q1 hmb hmx hbn hW3 HN
 go_upto_region 2 with (rw [HW3.out]; refine wpList_store_whole rfl 46 (.tmp 1) (.tmp 9) rfl g (frArr ⟨#[]⟩ 100 false) rfl rfl (frArr ⟨#[]⟩ 0 false) HBN.out info_fr rfl (one_fr _ _ _) ?_; simp only [Act.put])
 clear hg HW3 HBN
 generalize World.setRow _ _ _ = w4 at HX3 HMX ⊢
 have hld := load_fr HMX.out
 go_wp2_with (refine wpList_load_any (by rfl) 46 (.tmp 1) rfl g 0 rfl _ hld ?_)
 refine (HF1.out _).mono ?_
 rintro r w5 ⟨A1, c1, rfl, q1, q2⟩
 have HB5 := Lib.hid (HMX.out.below q2)
 have HX5 := Lib.hid (HX3.out.trans (q2.mono HX3.out.size))
 have hbx5 := HB5.out.row (frArr ⟨#[192]⟩ 100 false)
 have hld5 := load_fr hbx5
 have hrow5 := Bar.row g w5 (frArr ⟨#[192]⟩ 100 false)
 clear q1 q2 hld HMX HX3 HF1
 go_upto_region 3 with (refine wpList_store_whole rfl 46 (.tmp 1) (.tmp 14) rfl g (frArr ⟨#[192]⟩ 100 false) rfl rfl (frArr ⟨#[]⟩ 100 false) HB5.out info_fr rfl (one_fr _ _ _) ?_; simp only [Act.put])
 have HX6 := Lib.hid (show Below w.heap.size w (w5.setRow g (frArr ⟨#[192]⟩ 100 false)) from hrow5.below HX5.out (by have := HG.out; have := HX1.out.size; omega) HX5.out.size)
 have HB6 := Lib.hid hbx5
 clear hbx5 hrow5 HB5 HX5
 generalize World.setRow _ _ _ = w6 at hld5 HX6 HB6 ⊢
 go_wp2_with (refine wpList_load_any (by rfl) 46 (.tmp 1) rfl g 0 rfl _ hld5 ?_)
 refine (HF2.out _).mono ?_
 rintro r w7 ⟨A2, c2, rfl, q1, q2⟩
 have HB7 := Lib.hid (HB6.out.below q2)
 have HX7 := Lib.hid (HX6.out.trans (q2.mono HX6.out.size))
 clear q1 q2 hld5 HB6 HX6 HF2
 go_upto_region 4 with (refine wpList_store_whole rfl 46 (.tmp 1) (.tmp 20) rfl g (frArr ⟨#[]⟩ 100 false) rfl rfl (frArr ⟨#[192]⟩ 100 false) HB7.out info_fr rfl (one_fr _ _ _) ?_; simp only [Act.put])
 have HX8 := Lib.hid (show Below w.heap.size w (w7.setRow g (frArr ⟨#[]⟩ 100 false)) from (Bar.row g w7 _).below HX7.out (by have := HG.out; have := HX1.out.size; omega) HX7.out.size)
 have hbx8 := HB7.out.row (frArr ⟨#[]⟩ 100 false)
 generalize World.setRow _ _ _ = w8 at hbx8 HX8 ⊢
 have c0 : w8.cell? ⟨g, 0, none⟩ = some (.string ⟨#[]⟩) := hbx8.cell 0
 clear hbx8 HB7 HX7
 go_wp2_with (go_at_call 18; refine (num6 _ _).mono ?_; rintro e w' ⟨rfl, rfl⟩)
 go_ret
 exact ⟨rfl, HX8.out⟩
open Go.RowKit Go.Lib Prp Pkt Vbi
theorem info_sc : (Tryz.prog.info? 49).map (·.size) = some 4 := by kernel_rfl
theorem load_sc {W : World} {g : Nat} {rest : ByteArray} {max : Int} {dead : Bool} {A : Option Addr} {l : List ByteArray} {c : Nat} (h : Box W g (scArr rest max dead A l c)) : (loadVar 49 ⟨g, 0, none⟩).run Tryz.prog W = .ok (.agg (scArr rest max dead A l c)) W :=
 run_loadVar_mid W g 0 49 (scArr rest max dead A l c).toList _ (fun j v hv => by rw [Nat.zero_add, h.cell j]; rw [← hv]; simp) Tryz.underlying49 rfl info_sc
theorem fr_few {p : Pk} (h : Few p) : PkLen p := ⟨Nat.le_trans h.cs (by decide), Nat.le_trans h.fs (by decide), Nat.le_trans h.ws (by decide), Nat.le_trans h.ps (by decide)⟩
theorem step_few {max : Int} {s : ByteArray} {p : Pk} {n : Nat} (h : stepS max s = .one p n) : Few p := by
 rcases stepOf max s with ⟨_, e⟩ | ⟨_, _, e⟩ | ⟨_, _, _, _, _, e⟩ | ⟨_, _, _, _, _, _, e⟩ | ⟨n', p', m', _, _, _, _, ht, e⟩ | ⟨_, _, _, _, _, _, _, _, _, _, _, e⟩ <;> rw [h] at e <;> cases e
 have := take_few (s.extract 0 n)
 rw [ht] at this
 exact this
theorem feed_few (max : Int) (s : ByteArray) : ∀ p ∈ (feedS max s).1, PkLen p := by
 induction s using bytes_induct with
 | h s ih =>
  cases hst : stepS max s with
  | wait => rw [feedS_wait hst]; intro p hp; cases hp
  | dead e => rw [feedS_dead hst]; intro p hp; cases hp
  | one p n =>
   have hn := step_one hst
   rw [feedS_one hst]
   intro q hq
   rcases List.mem_cons.1 hq with rfl | hq
   ·exact fr_few (step_few hst)
   ·exact ih (s.extract n s.size) (by rw [left_size]; omega) q hq
theorem neq_fr (x : ByteArray) (m : Int) (d : Bool) (w : World) : (binOp .neq 46 (.agg (frArr x m d)) (.agg (frArr x m d))).run Tryz.prog w = .ok (.bool false) w := by
 unfold frArr
 rw [run_neq_struct]
 go_simp
end Go.Proofs.YtdbbcfohjkgdcaaGreat
