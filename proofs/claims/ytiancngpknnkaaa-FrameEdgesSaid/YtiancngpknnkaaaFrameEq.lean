/- The sixth layer's statements: lists of packets compared; a bound; a framer made. -/
import Derived.Test.YtiancngpknnkaaaFrameHelp
import Derived.Test.YtiancngpknnkaaaF18
namespace Go.Proofs.Ytiancngpknnkaaa
open Go.RowKit Go.Lib Prp Pkt Vbi

theorem frEq_self (p : Pk) (a a' : Ad) (w : World) (hf : PkLen p) (h : PkAt w w.heap.size p a) (h' : PkAt w w.heap.size p a') :
    Calls Try.prog 17 #[.agg (pkArr p a), .agg (pkArr p a')] w fun e w' => e = .returned (.bool true) ∧ Below w.heap.size w w' := by
  have := EqPacket_is p p a a' w hf ⟨.inl rfl, .inl rfl, .inl rfl, .inl rfl⟩ h h'
  rw [show eqP p p = true by simp [eqP, eqW]] at this
  exact this
/-- Packets that may be read. -/
structure PksAt (w : World) (A : Option Addr) (l : List Pk) (ads : List Ad) : Prop where
  len : ads.length = l.length
  rows : l = [] ∨ ∃ g o, A = some ⟨g, o, none⟩ ∧ g < w.heap.size ∧ ∀ j (h1 : j < l.length) (h2 : j < ads.length), (∀ i v, (pkArr l[j] ads[j])[i]? = some v → w.cell? ⟨g, o + j * 25 + i, none⟩ = some v) ∧ PkAt w w.heap.size l[j] ads[j]
theorem PksAt.below {w w' : World} {A : Option Addr} {l : List Pk} {ads : List Ad} (h : PksAt w A l ads) (hb : Below w.heap.size w w') : PksAt w' A l ads := by
  refine ⟨h.len, ?_⟩
  rcases h.rows with h | ⟨g, o, h1, h2, h3⟩
  · exact .inl h
  · exact .inr ⟨g, o, h1, Nat.lt_of_lt_of_le h2 hb.size, fun j k1 k2 => ⟨fun i v hv => (hb.cell (p := ⟨g, o + j * 25 + i, none⟩) h2).trans ((h3 j k1 k2).1 i v hv), ((h3 j k1 k2).2.below hb).mono hb.size⟩⟩
theorem PksAt.some_ {w : World} {A : Option Addr} {l : List Pk} {ads : List Ad} (h : PksAt w A l ads) (hl : 0 < l.length) : ∃ g o, A = some ⟨g, o, none⟩ ∧ g < w.heap.size ∧ ∀ j (h1 : j < l.length) (h2 : j < ads.length), (∀ i v, (pkArr l[j] ads[j])[i]? = some v → w.cell? ⟨g, o + j * 25 + i, none⟩ = some v) ∧ PkAt w w.heap.size l[j] ads[j] := by
  rcases h.rows with h | h
  · subst h; simp at hl
  · exact h
theorem OwnPks.at {w : World} {base c : Nat} {A : Option Addr} {l : List Pk} (h : OwnPks w base (.slice A l.length c) l) : ∃ ads, PksAt w A l ads := by
  obtain ⟨ads, h1, h2⟩ := h.out
  refine ⟨ads, h2.len, ?_⟩
  rcases h1.2 with ⟨hv, hn⟩ | ⟨g, cap, cur, hv, _, hg, _⟩
  · exact .inl (List.eq_nil_of_length_eq_zero hn)
  · injection hv with hA _ _
    subst hA
    have key := h1.cells (g := g) rfl
    refine .inr ⟨g, 0, rfl, (Array.getElem?_eq_some_iff.1 hg).1, fun j k1 k2 => ⟨fun i v hv => ?_, (h2.rows j k1 k2).1⟩⟩
    have hi : i < 25 := by
      have := (Array.getElem?_eq_some_iff.1 hv).1
      exact this
    have := key (j * 25 + i) v (by rw [flatK_at l ads j i k1 k2 hi]; exact hv)
    rw [add_new] at this
    rw [Nat.zero_add]
    exact this
theorem load_at {W : World} {g o j : Nat} {p : Pk} {a : Ad} (h : ∀ i v, (pkArr p a)[i]? = some v → W.cell? ⟨g, o + j * 25 + i, none⟩ = some v) : (loadVar 45 ⟨g, o + j * 25, none⟩).run Try.prog W = .ok (.agg (pkArr p a)) W :=
  run_loadVar_mid W g (o + j * 25) 45 (pkArr p a).toList _ (fun i v hv => h i v (by rw [← hv]; simp)) Try.underlying45 rfl info_pk
set_option maxRecDepth 100000 in
set_option maxHeartbeats 16000000 in
theorem EqPackets_is (l : List Pk) (A A' : Option Addr) (c c' : Nat) (ads bds : List Ad) (w : World) (hf : ∀ p ∈ l, PkLen p) (hn : l.length ≤ 1000000000) (h : PksAt w A l ads) (h' : PksAt w A' l bds) :
    Calls Try.prog 10 #[.slice A l.length c, .slice A' l.length c'] w fun e w' => e = .returned (.bool true) ∧ Below w.heap.size w w' := by
  have H := Lib.hid h
  have H2 := Lib.hid h'
  have HF := Lib.hid hf
  clear h h' hf
  go_enter Try.func10, Try.ntmps10
  go_wp2_with fail
  go_loopw [5] (fun i wr => ∃ k : Nat, k ≤ l.length ∧ i = .int .i64 (k : Int) ∧ Below w.heap.size w wr) (fun i _ => l.length - (RowKit.intOf i).toNat)
  case atStart => exact ⟨0, Nat.zero_le _, rfl, Below.refl _ _⟩
  case round =>
    obtain ⟨k, hk, rfl, hbl⟩ := hrel
    by_cases hlt : k < l.length
    · have hR1 := H.out.below hbl
      have hR2 := H2.out.below hbl
      have l1 : k < ads.length := by rw [hR1.len]; exact hlt
      have l2 : k < bds.length := by rw [hR2.len]; exact hlt
      obtain ⟨g, o, rfl, hg, hr1⟩ := hR1.some_ (by omega)
      obtain ⟨g', o', rfl, hg', hr2⟩ := hR2.some_ (by omega)
      have hp := HF.out l[k] (List.getElem_mem hlt)
      obtain ⟨p, hpp⟩ : ∃ p, l[k] = p := ⟨_, rfl⟩
      obtain ⟨a, ha⟩ : ∃ a, ads[k] = a := ⟨_, rfl⟩
      obtain ⟨a', ha'⟩ : ∃ a', bds[k] = a' := ⟨_, rfl⟩
      have hq1 := hr1 k hlt l1
      have hq2 := hr2 k hlt l2
      rw [hpp, ha] at hq1
      rw [hpp, ha'] at hq2
      rw [hpp] at hp
      have HB := Lib.hid hbl
      have HP := Lib.hid hp
      have HQ1 := Lib.hid hq1
      have HQ2 := Lib.hid hq2
      have HG := Lib.hid (And.intro hg hg')
      have hkI : (k : Int) < (l.length : Int) := by omega
      have hk0 : (0 : Int) ≤ (k : Int) := by omega
      have htn : (k : Int).toNat = k := by omega
      clear hR1 hR2 hr1 hr2 hq1 hq2 hp hbl hg hg' hpp ha ha' l1 l2
      go_upto_region 6 with fail
      have HE := Lib.hid (fun (W : World) (hS : Below wr.heap.size wr W) => frEq_self p a a' W HP.out ((HQ1.out.2.below hS).mono hS.size) ((HQ2.out.2.below hS).mono hS.size))
      refine wp_region_held_drew (S := fun W => Below wr.heap.size wr W) (by kernel_rfl) (below_drewN (Below.refl _ _) 1) (fun hS => ?_)
      generalize World.drew wr = Wd at hS ⊢
      refine take_op 0 17 ?v0 rfl rfl (by kernel_rfl) (fun _ _ _ h => h) (by rfl) hS (fun w' hS' => ?hv0) ?hh0
      case hv0 => (go_simp; try with_reducible rfl)
      simp only [Act.put, List.setIfInBounds_toArray, List.set_cons_zero, List.set_cons_succ]
      refine take_op 1 18 ?v1 rfl rfl (by kernel_rfl) (fun _ _ _ h => h) (by rfl) hS (fun w' hS' => ?hv1) ?hh1
      case hv1 => (go_simp; try with_reducible rfl)
      simp only [Act.put, List.setIfInBounds_toArray, List.set_cons_zero, List.set_cons_succ]
      refine take_op 2 19 ?v2 rfl rfl (by kernel_rfl) (fun _ _ _ h => h) (by rfl) hS (fun w' hS' => ?hv2) ?hh2
      case hv2 => (go_simp; try with_reducible rfl)
      simp only [Act.put, List.setIfInBounds_toArray, List.set_cons_zero, List.set_cons_succ]
      refine take_load 3 20 45 (.tmp 19) g (o + k * 25) (.agg (pkArr p a)) rfl rfl (by kernel_rfl) (fun _ _ _ h => h) (by rfl) hS rfl rfl (fun w' hS' => load_at (fun i v hv => (hS'.cell (p := ⟨g, o + k * 25 + i, none⟩) HG.out.1).trans (HQ1.out.1 i v hv))) ?_
      simp only [Act.put, List.setIfInBounds_toArray, List.set_cons_zero, List.set_cons_succ]
      refine take_op 4 21 ?v4 rfl rfl (by kernel_rfl) (fun _ _ _ h => h) (by rfl) hS (fun w' hS' => ?hv4) ?hh4
      case hv4 => (go_simp; try with_reducible rfl)
      simp only [Act.put, List.setIfInBounds_toArray, List.set_cons_zero, List.set_cons_succ]
      refine take_op 5 22 ?v5 rfl rfl (by kernel_rfl) (fun _ _ _ h => h) (by rfl) hS (fun w' hS' => ?hv5) ?hh5
      case hv5 => (go_simp; try with_reducible rfl)
      simp only [Act.put, List.setIfInBounds_toArray, List.set_cons_zero, List.set_cons_succ]
      refine take_op 6 23 ?v6 rfl rfl (by kernel_rfl) (fun _ _ _ h => h) (by rfl) hS (fun w' hS' => ?hv6) ?hh6
      case hv6 => (go_simp; try with_reducible rfl)
      simp only [Act.put, List.setIfInBounds_toArray, List.set_cons_zero, List.set_cons_succ]
      refine take_load 7 24 45 (.tmp 23) g' (o' + k * 25) (.agg (pkArr p a')) rfl rfl (by kernel_rfl) (fun _ _ _ h => h) (by rfl) hS rfl rfl (fun w' hS' => load_at (fun i v hv => (hS'.cell (p := ⟨g', o' + k * 25 + i, none⟩) HG.out.2).trans (HQ2.out.1 i v hv))) ?_
      simp only [Act.put, List.setIfInBounds_toArray, List.set_cons_zero, List.set_cons_succ]
      refine only_op 8 rfl (by kernel_rfl) (by rfl) (wp_call_ex 25 17 #[.agg (pkArr p a), .agg (pkArr p a')] _ rfl (by go_simp) (HE.out Wd hS) ?_)
      rintro r w3 ⟨rfl, q3⟩
      have hS := hS.trans (q3.mono hS.size)
      refine ⟨_, rfl, hS, ?_⟩
      simp only [Act.put, List.setIfInBounds_toArray, List.set_cons_zero, List.set_cons_succ]
      refine take_op 9 26 ?v9 rfl rfl (by kernel_rfl) (fun _ _ _ h => h) (by rfl) hS (fun w' hS' => ?hv9) ?hh9
      case hv9 => (go_simp; try with_reducible rfl)
      simp only [Act.put, List.setIfInBounds_toArray, List.set_cons_zero, List.set_cons_succ]
      refine wpAnyH_done (by kernel_rfl) ?_ _
      have HX := Lib.hid (HB.out.trans (hS.mono HB.out.size))
      clear hS q3 HE HQ1 HQ2 HP HG HB
      go_wp2_with fail
      go_roundw
      case rel => exact ⟨k + 1, hlt, by go_num, HX.out⟩
      case measure => simp [RowKit.intOf]; omega
    · obtain rfl : k = l.length := by omega
      go_wp2_with fail
      go_ret
      exact ⟨rfl, hbl⟩

/-! ### a bound, a framer made, an error's number -/
set_option maxHeartbeats 1000000 in
theorem num6 (n : Int) (w : World) :
    Calls Try.prog 8 #[.int .i64 n] w fun e w' => e = .returned (.int .i64 n) ∧ w = w' := by
  go_enter Try.func8, Try.ntmps8
  go_wp2
  go_ret
  exact ⟨rfl, rfl⟩
set_option maxRecDepth 100000 in
set_option maxHeartbeats 4000000 in
theorem New_is (n : Int) (b : Bool) (w : World) (hb : decide (2 ≤ n ∧ n ≤ 8192) = b) :
    Calls Try.prog 7 #[.int .i64 n] w fun e w' => e = .returned (.tuple #[.agg (frArr ⟨#[]⟩ (if b = true then n else 0) false), .int .i64 (if b = true then 0 else 1)]) ∧ Below w.heap.size w w' := by
  have hb0 := Box.new w 23 (frArr ⟨#[]⟩ 0 false)
  have ha := (Below.refl w.heap.size w).alloc (Nat.le_refl _) (.cells (frArr ⟨#[]⟩ 0 false) 23)
  obtain ⟨W1, hW⟩ : ∃ W1, w.alloc (.cells (frArr ⟨#[]⟩ 0 false) 23) = W1 := ⟨_, rfl⟩
  rw [hW] at hb0 ha
  have HA := Lib.hid ha
  obtain ⟨g, hg⟩ : ∃ g, w.heap.size = g := ⟨_, rfl⟩
  rw [hg] at hb0
  have HG := Lib.hid hg
  have HB0 := Lib.hid hb0
  have HM := Lib.hid (fun W => isMax_is n b W hb)
  unfold frArr at hW
  have HW := Lib.hid hW
  clear hW ha hb0 hg hb
  cases b with
  | true =>
    go_enter Try.func7, Try.ntmps7
    go_upto_region 1 with fail
    rw [HW.out, HG.out]
    go_wp2_with (first | (go_at_call 13; refine (HM.out _).mono ?_; rintro e w' ⟨rfl, rfl⟩) | (refine wpList_store_whole rfl 23 (.tmp 2) (.tmp 9) rfl g (frArr ⟨#[]⟩ n false) rfl rfl (frArr ⟨#[]⟩ 0 false) HB0.out info_fr rfl (one_fr _ _ _) ?_; simp only [Act.put]))
    have hrow := Bar.row g W1 (frArr ⟨#[]⟩ n false)
    refine bodyPost_ret (results_fr2 Try.results7 rfl (HB0.out.row (frArr ⟨#[]⟩ n false)) rfl) rfl ⟨rfl, hrow.below HA.out (by have := HG.out; omega) HA.out.size⟩
  | false =>
    go_enter Try.func7, Try.ntmps7
    go_upto_region 1 with fail
    rw [HW.out, HG.out]
    go_wp2_with (first | (go_at_call 13; refine (HM.out _).mono ?_; rintro e w' ⟨rfl, rfl⟩) | (refine wpList_store_whole rfl 23 (.tmp 2) (.tmp 7) rfl g (frArr ⟨#[]⟩ 0 false) rfl rfl (frArr ⟨#[]⟩ 0 false) HB0.out info_fr rfl (one_fr _ _ _) ?_; simp only [Act.put]))
    have hrow := Bar.row g W1 (frArr ⟨#[]⟩ 0 false)
    refine bodyPost_ret (results_fr2 Try.results7 rfl (HB0.out.row (frArr ⟨#[]⟩ 0 false)) rfl) rfl ⟨rfl, hrow.below HA.out (by have := HG.out; omega) HA.out.size⟩
set_option maxRecDepth 100000 in
set_option maxHeartbeats 4000000 in
theorem Within_is (x : Int) (w : World) :
    Calls Try.prog 6 #[.int .i64 x, .int .i64 8191] w fun e w' => (∃ r : Int, e = .returned (.int .i64 r) ∧ 0 ≤ r ∧ r ≤ 8190) ∧ w = w' := by
  go_enter Try.func6, Try.ntmps6
  go_wp2_with fail
  have hu : 0 ≤ IntKind.u64.wrap x := by
    have e : IntKind.u64.wrap x = x % (18446744073709551616 : Int) := rfl
    rw [e]
    exact Int.emod_nonneg _ (by decide)
  go_ret
  have hr0 : 0 ≤ (IntKind.u64.wrap x).tmod 8191 := Int.tmod_nonneg _ hu
  have hr1 : (IntKind.u64.wrap x).tmod 8191 < 8191 := Int.tmod_lt_of_pos _ (by decide)
  refine ⟨⟨_, rfl, ?_, ?_⟩, rfl⟩
  · unfold wrap64; omega
  · unfold wrap64; omega
end Go.Proofs.Ytiancngpknnkaaa
