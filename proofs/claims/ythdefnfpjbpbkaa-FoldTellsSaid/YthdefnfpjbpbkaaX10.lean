/- Texts of the proof, part 10: FdFoldP, SgWeight, KpWeight, SgREq, KpEqSegs. -/
import Derived.Test.YthdefnfpjbpbkaaX09
/- Package fold: what is left of segments. -/
namespace Go.Proofs.Ythdefnfpjbpbkaa.Kpd
open Go.RowKit Go.Lib Go.Maps Rcd

/-- What fold answers. -/
def FoldV (L : Nat) (K : List Sp) (E : Int) (w : World) (e : Ending) (w' : World) : Prop :=
  ((E = 1 ∧ L = 0 ∧ K = [] ∧ e = .returned (.iface 30 (.int .i64 1))) ∨ (E = 0 ∧ ∃ A' c' xs, e = .returned (.iface 23 (.slice A' L c')) ∧ OwnS w' w.heap.size (.slice A' L c') K xs)) ∧ Below w.heap.size w w'
/-- The rules and the time in boxes of the call's own. -/
@[irreducible] def Two (w : World) (p : Nat) (r : Ru) (now : Int) (W : World) : Prop := Blk W p (ruarr r.sb r.by_ r.ag r.co r.gr) ∧ Blk W (p + 1) #[.int .i64 now] ∧ Below w.heap.size w W
section
variable {w W W' : World} {p : Nat} {r : Ru} {now : Int}
theorem Two.out (h : Two w p r now W) : Blk W p (ruarr r.sb r.by_ r.ag r.co r.gr) ∧ Blk W (p + 1) #[.int .i64 now] ∧ Below w.heap.size w W := by unfold Two at h; exact h
theorem Two.mk (h : Blk W p (ruarr r.sb r.by_ r.ag r.co r.gr) ∧ Blk W (p + 1) #[.int .i64 now] ∧ Below w.heap.size w W) : Two w p r now W := by unfold Two; exact h
theorem Two.below (h : Two w p r now W) (hb : Below W.heap.size W W') : Two w p r now W' := by
  obtain ⟨h1, h2, h3⟩ := h.out
  exact .mk ⟨h1.below hb, h2.below hb, bel_step h3 hb⟩
end

set_option maxRecDepth 100000 in
set_option maxHeartbeats 16000000 in
/-- fold.fold. -/
theorem fold_call (l K : List Sp) (r : Ru) (now : Int) (N L : Nat) (A : Option Addr) (c B : Nat) (E : Int) (w : World) (hN : l.length = N) (hm : N ≤ 9223372036854775807) (hcap : N ≤ c) (hB : B ≤ w.heap.size) (h : SegsAt w B A l) (hL : K.length = L) (hK : FoldIs l r now K E) :
    Calls Try.prog 25 #[.slice A N c, ruagg r, .int .i64 now] w (FoldV L K E w) := by
  have HR := Lib.hid (fun W => Rules_is r (ruE r) W rfl)
  have HCP := Lib.hid (fun K2 L2 E2 W (hL2 : K2.length = L2) (hc2 : CpIs l now K2 E2) (hb : Below w.heap.size w W) => Copies_is l K2 now N L2 A c B E2 W hN hm hcap (Nat.le_trans hB hb.size) (h.below (hb.mono hB)) hL2 hc2)
  obtain ⟨p, hp⟩ : ∃ p, w.heap.size = p := ⟨_, rfl⟩
  have D0 := Duo.new w 25 3 (ruarr r.sb r.by_ r.ag r.co r.gr) #[.int .i64 now]
  rw [hp] at D0
  have T0 : Hid (Two w p r now ((w.alloc (.cells (ruarr r.sb r.by_ r.ag r.co r.gr) 25)).alloc (.cells #[.int .i64 now] 3))) := Lib.hid (.mk ⟨D0.out.1, D0.out.2.1, D0.bel⟩)
  have hp1 : (w.alloc (.cells (ruarr r.sb r.by_ r.ag r.co r.gr) 25)).heap.size = p + 1 := by rw [← hp]; simp
  clear D0
  obtain ⟨W0, hW⟩ : ∃ W0, (w.alloc (.cells (ruarr r.sb r.by_ r.ag r.co r.gr) 25)).alloc (.cells #[.int .i64 now] 3) = W0 := ⟨_, rfl⟩
  rw [hW] at T0
  have HP := Lib.hid hp
  have HLL := Lib.hid hL
  have HNN := Lib.hid hN
  unfold ruagg at HR ⊢
  unfold ruarr at HR hW hp1 ⊢
  have HW := Lib.hid hW
  have HP1 := Lib.hid hp1
  clear hW hp hp1 hL hN h hB hcap
  rcases hK with ⟨rfl, rfl, hno⟩ | ⟨rfl, hyes, l0, u, hl, hKe⟩
  · obtain rfl : L = 0 := HLL.out.symm
    cases hr : ruB r with
    | false =>
      have hE : ruE r = 1 := by unfold ruE; rw [hr]; rfl
      rw [hE] at HR
      clear hno hr hE HCP hm
      go_enter Try.func25, Try.ntmps25
      go_upto_region 1 with fail
      (try rw [HP1.out]); rw [HW.out, HP.out]
      clear HW HP HP1
      have hld := load_ru T0.out.out.1 rfl
      unfold ruarr at hld
      go_wp2_with (refine wpList_load_any (by rfl) 25 (.tmp 4) rfl p 0 rfl _ hld ?_; simp only [Act.put])
      refine (HR.out _).mono ?_
      rintro e w1 ⟨rfl, hb1⟩
      have T1 := Lib.hid (T0.out.out.2.2.trans (hb1.mono T0.out.out.2.2.size))
      clear hb1 T0 hld HR
      go_wp2_with fail
      go_ret
      exact ⟨.inl ⟨rfl, rfl, rfl, rfl⟩, T1.out⟩
    | true =>
      have hE : ruE r = 0 := by unfold ruE; rw [hr]; rfl
      rw [hE] at HR
      have hcp : cpB l now = false := by
        unfold askB at hno
        rw [hr, Bool.true_and] at hno
        exact hno
      have HCC := Lib.hid (fun W hb => HCP.out [] 0 1 W rfl (.inl ⟨rfl, rfl, hcp⟩) hb)
      clear hno hr hE hcp HCP hm
      go_enter Try.func25, Try.ntmps25
      go_upto_region 1 with fail
      (try rw [HP1.out]); rw [HW.out, HP.out]
      clear HW HP HP1
      have hld := load_ru T0.out.out.1 rfl
      unfold ruarr at hld
      go_wp2_with (refine wpList_load_any (by rfl) 25 (.tmp 4) rfl p 0 rfl _ hld ?_; simp only [Act.put])
      refine (HR.out _).mono ?_
      rintro e w1 ⟨rfl, hb1⟩
      have T1 := Lib.hid (T0.out.below hb1)
      clear hb1 T0 hld HR
      have d1 : w1.cell? ⟨p + 1, 0, none⟩ = some (.int .i64 now) := T1.out.out.2.1.cell 0
      go_wp2_with fail
      refine (HCC.out _ T1.out.out.2.2).mono ?_
      rintro e w2 ⟨A', c', xs, rfl, _, hb2⟩
      have T2 := Lib.hid (T1.out.below hb2)
      clear hb2 T1 d1 HCC
      go_wp2_with fail
      go_ret
      exact ⟨.inl ⟨rfl, rfl, rfl, rfl⟩, T2.out.out.2.2⟩
  · obtain ⟨h1, h2, h3⟩ := ask_parts hyes
    have hE : ruE r = 0 := by unfold ruE; rw [h2]; rfl
    rw [hE] at HR
    have hcp : cpB l now = true := by unfold cpB; rw [h1, h3]; rfl
    have HCC := Lib.hid (fun W hb => HCP.out l N 0 W HNN.out (.inr ⟨rfl, hcp, rfl⟩) hb)
    have hrow := row_pairs.1 h1
    have hru := ru_yes h2
    have hN201 : N ≤ 201 := by rw [← HNN.out]; exact hrow.1.2.1
    clear hE hcp HCP hm hyes h3
    cases hco : r.co with
    | false =>
      have hKl : K = l := by rw [hKe, hl]; unfold foldR; rw [hco]; rfl
      have hLN : L = N := by rw [← HLL.out, hKl, HNN.out]
      subst hKl
      subst hLN
      clear hrow hru h1 h2 hKe
      rw [hco] at HR HW HP1
      go_enter Try.func25, Try.ntmps25
      go_upto_region 1 with fail
      (try rw [HP1.out]); rw [HW.out, HP.out]
      clear HW HP HP1
      have hld := load_ru T0.out.out.1 rfl
      unfold ruarr at hld
      rw [hco] at hld
      go_wp2_with (refine wpList_load_any (by rfl) 25 (.tmp 4) rfl p 0 rfl _ hld ?_; simp only [Act.put])
      refine (HR.out _).mono ?_
      rintro e w1 ⟨rfl, hb1⟩
      have T1 := Lib.hid (T0.out.below hb1)
      clear hb1 T0 hld HR
      have d1 : w1.cell? ⟨p + 1, 0, none⟩ = some (.int .i64 now) := T1.out.out.2.1.cell 0
      go_wp2_with fail
      refine (HCC.out _ T1.out.out.2.2).mono ?_
      rintro e w2 ⟨A', c', xs, rfl, ho, hb2⟩
      have T2 := Lib.hid (T1.out.below hb2)
      have HO := Lib.hid (ho.mono T1.out.out.2.2.size)
      clear hb2 ho T1 d1 HCC
      have d3 : w2.cell? ⟨p, 3, none⟩ = some (.bool false) := by rw [← hco]; exact T2.out.out.1.cell 3
      go_wp2_with fail
      go_ret
      exact ⟨.inr ⟨rfl, A', c', xs, rfl, HO.out⟩, T2.out.out.2.2⟩
    | true =>
      obtain ⟨i1, hi1, hy0, hy1, hy2⟩ := info_parts info_smore
      obtain ⟨all, hall⟩ : ∃ all, recsOf l = all := ⟨_, rfl⟩
      obtain ⟨M, hM⟩ : ∃ M, all.length = M := ⟨_, rfl⟩
      have hM200 : M ≤ 200 := by rw [← hM, ← hall]; exact hrow.1.2.2
      have hpw := row_recs h1
      rw [hall] at hpw
      have hmay : ∀ x ∈ all, mayB x = true := by
        intro x hx
        rw [← hall] at hx
        obtain ⟨s, hs, hxs⟩ := List.mem_flatMap.1 hx
        exact seg_may (hrow.2.1 s hs) x hxs
      have HLO := Lib.hid (fun A1 c1 W B1 xs (ho : OwnS W B1 (.slice A1 N c1) l xs) => LastOf_is l N M A1 c1 W.heap.size W HNN.out (by omega) (by rw [hall]; exact hM) (by omega) (Nat.le_refl _) (.of_own ho) (fun x hx => by have := (may_iff x).1 (hmay x (by rw [← hall]; exact hx)); omega))
      rw [hall] at HLO
      obtain ⟨n, hn⟩ : ∃ n, l0.length = n := ⟨_, rfl⟩
      have hnN : n + 1 = N := by rw [← HNN.out, hl, List.length_append, hn]; rfl
      have hKc : K = shutF r.gr now all l0 ++ [u] := by
        rw [hKe]
        unfold foldR foldC
        rw [hco, if_pos rfl, ← hl, hall]
      have hsl : ∀ s ∈ l, s.rs.length ≤ 200 := fun s hs => seg_len (hrow.2.1 s hs)
      have hgo : ∀ s ∈ l, ∀ x ∈ s.rs, outF all r now x = goesF r.gr now all x ∧ x.k.length ≤ 1000000 ∧ (0 ≤ x.t ∧ x.t ≤ 1099511627776) := by
        intro s hs x hx
        have hxa : x ∈ all := by rw [← hall]; exact List.mem_flatMap.2 ⟨s, hs, hx⟩
        have := (may_iff x).1 (hmay x hxa)
        exact ⟨out_goes hpw hxa (by omega), by omega, by omega⟩
      have HGO := Lib.hid hgo
      have HSL := Lib.hid hsl
      have HKC := Lib.hid hKc
      have HN0 := Lib.hid hn
      have HL0 := Lib.hid hl
      have HGR := Lib.hid hru.2.2.2
      have e5 : (N : Int) - 1 = (n : Int) := by omega
      have hn200 : n ≤ 200 := by omega
      clear hall hM hrow hru h1 h2 hKe hl hmay hpw hsl hgo hn hKc
      rw [hco] at HR HW HP1
      go_enter Try.func25, Try.ntmps25
      go_upto_region 1 with fail
      (try rw [HP1.out]); rw [HW.out, HP.out]
      clear HW HP1
      have hld := load_ru T0.out.out.1 rfl
      unfold ruarr at hld
      rw [hco] at hld
      go_wp2_with (refine wpList_load_any (by rfl) 25 (.tmp 4) rfl p 0 rfl _ hld ?_; simp only [Act.put])
      refine (HR.out _).mono ?_
      rintro e w1 ⟨rfl, hb1⟩
      have T1 := Lib.hid (T0.out.below hb1)
      clear hb1 T0 hld HR
      have d1 : w1.cell? ⟨p + 1, 0, none⟩ = some (.int .i64 now) := T1.out.out.2.1.cell 0
      go_wp2_with fail
      refine (HCC.out _ T1.out.out.2.2).mono ?_
      rintro e w2 ⟨A1, c1, xs, rfl, ho, hb2⟩
      have T2 := Lib.hid (T1.out.below hb2)
      have HO := Lib.hid ho
      have B2 := Lib.hid hb2
      have PB := Lib.hid (show p + 1 < w1.heap.size from T1.out.out.2.1.lt)
      have WB := Lib.hid T1.out.out.2.2.size
      have HL2 := Lib.hid (HLO.out A1 c1 w2 _ xs ho)
      have hcN : N ≤ c1 := by
        have := ho.row
        rw [HNN.out] at this
        exact row_cap this
      clear hb2 ho T1 d1 HCC HLO
      have d3 : w2.cell? ⟨p, 3, none⟩ = some (.bool true) := by rw [← hco]; exact T2.out.out.1.cell 3
      go_wp2_with fail
      refine HL2.out.mono ?_
      rintro e w3 ⟨m, D, rfl, hm1, hmap, hb3⟩
      have T3 := Lib.hid (T2.out.below hb3)
      have MP := Lib.hid hmap
      have B3 := Lib.hid hb3
      have OW := Lib.hid HO.out
      have hrw := HO.out.row
      rw [HNN.out] at hrw
      obtain ⟨g, hA1⟩ : ∃ g, A1 = some ⟨g, 0, none⟩ := by
        rcases hrw.2 with ⟨_, h0⟩ | ⟨g, cap, cur, hv, _⟩
        · omega
        · injection hv with h1
          exact ⟨g, h1⟩
      subst hA1
      have LOW2 := Lib.hid (Low.of_own HNN.out HO.out)
      have hxl : xs.length = N := LOW2.out.len
      have hxs : ∀ j (hj : j < xs.length) (hj2 : j < l.length), xs[j].s = l[j] := by
        intro j hj hj2
        have := HO.out.map
        subst this
        rw [List.getElem_map]
      have HXS := Lib.hid hxs
      have hnx : n < xs.length := by omega
      have hus : xs[n].s = u := by
        rw [hxs n hnx (by rw [HNN.out]; omega)]
        have : l = l0 ++ [u] := HL0.out
        subst this
        rw [List.getElem_append_right (by rw [HN0.out]; exact Nat.le_refl _)]
        simp [HN0.out]
      have hcu := row_cells hrw n hnx
      -- the open segment
      have HUN := Lib.hid (fun T v K ys W (h : Fst w1.heap.size T (some ⟨g, 0, none⟩) N c1 xs n v K ys W) => And.intro (h.rest n hnx (Nat.le_refl _)) (h.off n hnx (Nat.le_refl _)))
      have HUL := Lib.hid (And.intro (LOW2.out.low _ (List.getElem_mem hnx)) (LOW2.out.lim _ (List.getElem_mem hnx)))
      generalize xs[n] = xu at hus hcu HUN HUL
      obtain ⟨⟨ub, urs⟩, AU, cU⟩ := xu
      dsimp only at hus hcu HUN HUL
      have HUS := Lib.hid hus
      obtain ⟨MU, hMU⟩ : ∃ MU, urs.length = MU := ⟨_, rfl⟩
      rw [hMU] at hcu
      have HMU := Lib.hid hMU
      obtain ⟨q10, hq10⟩ : ∃ q10, w3.heap.size = q10 := ⟨_, rfl⟩
      have hb10 := Blk.new w3 65 #[.map (some m)]
      have hbl10 : Below w3.heap.size w3 (w3.alloc (.cells #[.map (some m)] 65)) := (Below.refl _ _).alloc (Nat.le_refl _) _
      have F3 := Lib.hid (fun T => (Fst.start (B := w1.heap.size) (T := T) HNN.out HO.out).below B3.out)
      have hle1 := B2.out.size
      have hle2 := B3.out.size
      clear hmap hb3 HL2 d3 hus hMU hrw hxs HO hnx
      go_upto_region 10 with fail
      rw [hq10] at hb10
      (try rw [hq10])
      obtain ⟨w4, hw4⟩ : ∃ w4, (w3.alloc (.cells #[.map (some m)] 65)).drew = w4 := ⟨_, rfl⟩
      have hbl4 : Below w3.heap.size w3 w4 := by rw [← hw4]; exact below_drewN hbl10 1
      have HB10 : Hid (Blk w4 q10 #[.map (some m)]) := by rw [← hw4]; exact Lib.hid (hb10.drewN 1)
      have T4 := Lib.hid (T3.out.below hbl4)
      have M4 := Lib.hid (MP.out.below hbl4)
      have F4 := Lib.hid (fun T => (F3.out T).below hbl4)
      have d0 := ((hbl4.mono hle2).cell (p := ⟨g, n * 2, none⟩) (LOW2.out.rlow g rfl)).trans ((B3.out.cell (p := ⟨g, n * 2, none⟩) (LOW2.out.rlow g rfl)).trans hcu.1)
      have d1 := ((hbl4.mono hle2).cell (p := ⟨g, n * 2 + 1, none⟩) (LOW2.out.rlow g rfl)).trans ((B3.out.cell (p := ⟨g, n * 2 + 1, none⟩) (LOW2.out.rlow g rfl)).trans hcu.2)
      obtain ⟨q12, W4, hq12, hW4, hbn, hbx, hbw⟩ := any_box T4.out.out.2.2 49 szero (sarr ub AU MU cU)
      have hq4 : q10 < w4.heap.size := HB10.out.lt
      have hfr := fun W => segs_front (some ⟨g, 0, none⟩) N c1 n W (by omega)
      have e6 : (n : Int) < (N : Int) := by omega
      have e9 : IntKind.i64.wrap (n : Int) = (n : Int) := IntWalk.i64_in _ ⟨by omega, by omega⟩
      clear hbl4 hb10 hbl10 T3 MP F3 hcu
      have HD := Lib.hid (And.intro d0 d1)
      refine wp_region_held_drew (S := fun W => W.cell? ⟨g, n * 2, none⟩ = some (.int .i64 ub) ∧ W.cell? ⟨g, n * 2 + 1, none⟩ = some (.slice AU MU cU)) (by kernel_rfl) (by rw [hw4]; exact HD.out) (fun hS => ?_)
      rw [hw4] at hS ⊢
      clear HD hw4 d0 d1
      refine take_op 0 39 (.slice (some ⟨g, 0, none⟩) N c1) rfl rfl (by kernel_rfl) (fun _ _ _ h => h) (by rfl) hS (fun w' hS' => ?hv0) ?hh0
      case hv0 => (go_simp; (try with_reducible rfl))
      simp only [Act.put, List.setIfInBounds_toArray, List.set_cons_zero, List.set_cons_succ]
      refine take_op 1 40 (.slice (some ⟨g, 0, none⟩) N c1) rfl rfl (by kernel_rfl) (fun _ _ _ h => h) (by rfl) hS (fun w' hS' => ?hv1) ?hh1
      case hv1 => (go_simp; (try with_reducible rfl))
      simp only [Act.put, List.setIfInBounds_toArray, List.set_cons_zero, List.set_cons_succ]
      refine take_op 2 41 (.int .i64 (N : Int)) rfl rfl (by kernel_rfl) (fun _ _ _ h => h) (by rfl) hS (fun w' hS' => ?hv2) ?hh2
      case hv2 => (go_simp; (try with_reducible rfl))
      simp only [Act.put, List.setIfInBounds_toArray, List.set_cons_zero, List.set_cons_succ]
      refine take_op 3 42 (.int .i64 (n : Int)) rfl rfl (by kernel_rfl) (fun _ _ _ h => h) (by rfl) hS (fun w' hS' => ?hv3) ?hh3
      case hv3 => (go_simp; (try with_reducible rfl))
      simp only [Act.put, List.setIfInBounds_toArray, List.set_cons_zero, List.set_cons_succ]
      refine take_op 4 43 (.slice (some ⟨g, 0, none⟩) n c1) rfl rfl (by kernel_rfl) (fun _ _ _ h => h) (by rfl) hS (fun w' hS' => ?hv4) ?hh4
      case hv4 => (go_simp; (try with_reducible rfl))
      simp only [Act.put, List.setIfInBounds_toArray, List.set_cons_zero, List.set_cons_succ]
      refine take_op 5 44 (.slice (some ⟨g, 0, none⟩) N c1) rfl rfl (by kernel_rfl) (fun _ _ _ h => h) (by rfl) hS (fun w' hS' => ?hv5) ?hh5
      case hv5 => (go_simp; (try with_reducible rfl))
      simp only [Act.put, List.setIfInBounds_toArray, List.set_cons_zero, List.set_cons_succ]
      refine take_op 6 45 (.slice (some ⟨g, 0, none⟩) N c1) rfl rfl (by kernel_rfl) (fun _ _ _ h => h) (by rfl) hS (fun w' hS' => ?hv6) ?hh6
      case hv6 => (go_simp; (try with_reducible rfl))
      simp only [Act.put, List.setIfInBounds_toArray, List.set_cons_zero, List.set_cons_succ]
      refine take_op 7 46 (.int .i64 (N : Int)) rfl rfl (by kernel_rfl) (fun _ _ _ h => h) (by rfl) hS (fun w' hS' => ?hv7) ?hh7
      case hv7 => (go_simp; (try with_reducible rfl))
      simp only [Act.put, List.setIfInBounds_toArray, List.set_cons_zero, List.set_cons_succ]
      refine take_op 8 47 (.int .i64 (n : Int)) rfl rfl (by kernel_rfl) (fun _ _ _ h => h) (by rfl) hS (fun w' hS' => ?hv8) ?hh8
      case hv8 => (go_simp; (try with_reducible rfl))
      simp only [Act.put, List.setIfInBounds_toArray, List.set_cons_zero, List.set_cons_succ]
      refine take_op 9 48 (.pointer (some ⟨g, n * 2, none⟩)) rfl rfl (by kernel_rfl) (fun _ _ _ h => h) (by rfl) hS (fun w' hS' => ?hv9) ?hh9
      case hv9 => (go_simp; (try with_reducible rfl))
      simp only [Act.put, List.setIfInBounds_toArray, List.set_cons_zero, List.set_cons_succ]
      refine take_load 10 49 49 (.tmp 48) g (n * 2) (.agg #[.int .i64 ub, .slice AU MU cU]) rfl rfl (by kernel_rfl) (fun _ _ _ h => h) (by rfl) hS rfl rfl (fun w' hS' => load_seg_at hS'.1 hS'.2) ?_
      simp only [Act.put, List.setIfInBounds_toArray, List.set_cons_zero, List.set_cons_succ]
      have hS4 : W4.cell? ⟨g, n * 2, none⟩ = some (.int .i64 ub) ∧ W4.cell? ⟨g, n * 2 + 1, none⟩ = some (.slice AU MU cU) := by
        have hgl : g < w4.heap.size := by have := LOW2.out.rlow g rfl; omega
        have e : ∀ i, W4.cell? ⟨g, i, none⟩ = w4.cell? ⟨g, i, none⟩ := fun i => by rw [← hW4]; exact World.cell?_alloc_lt _ _ _ hgl
        exact ⟨(e _).trans hS.1, (e _).trans hS.2⟩
      have hS5 : (W4.setRow q12 (sarr ub AU MU cU)).cell? ⟨g, n * 2, none⟩ = some (.int .i64 ub) ∧ (W4.setRow q12 (sarr ub AU MU cU)).cell? ⟨g, n * 2 + 1, none⟩ = some (.slice AU MU cU) := by
        have hgl : g ≠ q12 := by have := LOW2.out.rlow g rfl; omega
        have e : ∀ i, (W4.setRow q12 (sarr ub AU MU cU)).cell? ⟨g, i, none⟩ = W4.cell? ⟨g, i, none⟩ := fun i => World.cell?_of_block (setRow_other W4 q12 g _ hgl)
        exact ⟨(e _).trans hS4.1, (e _).trans hS4.2⟩
      refine only_op 11 rfl (by kernel_rfl) (by rfl) (wp_made 12 (.pointer (some ⟨q12, 0, none⟩)) rfl (w' := W4) (by rw [← hq12]; go_simp; exact hW4) ⟨hS4, ?_⟩)
      simp only [Act.put, List.setIfInBounds_toArray, List.set_cons_zero, List.set_cons_succ]
      refine take_op 12 11 (.slice (some ⟨g, 0, none⟩) n c1) rfl rfl (by kernel_rfl) (fun _ _ _ h => h) (by rfl) hS4 (fun w' hS' => ?hv12) ?hh12
      case hv12 => (go_simp; (try with_reducible rfl))
      simp only [Act.put, List.setIfInBounds_toArray, List.set_cons_zero, List.set_cons_succ]
      obtain ⟨Tz, hz⟩ := hbn
      unfold sarr at hbx hbw hS5
      refine only_op 13 rfl (by kernel_rfl) (by rfl) (wp_store_row 49 (.tmp 12) (.tmp 49) rfl q12 #[.int .i64 ub, .slice AU MU cU] rfl rfl Tz _ hz info_seg rfl (by simp [Value.oneCell']) ⟨hS5, ?_⟩)
      (try simp only [put_none])
      refine wpAnyH_done (by kernel_rfl) ?_ _
      have HBX := Lib.hid hbx
      have F5 := Lib.hid (fun T => (F4.out T).below hbw)
      have C5 : Hid (Ctx w m M all D r now q10 p (p + 1) q12 #[.int .i64 ub, .slice AU MU cU] (W4.setRow q12 #[.int .i64 ub, .slice AU MU cU])) := Lib.hid ⟨⟨M4.out.below hbw, HB10.out.below hbw, T4.out.out.1.below hbw, T4.out.out.2.1.below hbw⟩, hbx.out.1, hbx.out.2⟩
      have hT2 : w2.heap.size ≤ (W4.setRow q12 #[.int .i64 ub, .slice AU MU cU]).heap.size := by have := hbw.size; omega
      have HLT := Lib.hid (show m < (W4.setRow q12 #[.int .i64 ub, .slice AU MU cU]).heap.size ∧ q10 < (W4.setRow q12 #[.int .i64 ub, .slice AU MU cU]).heap.size ∧ p + 1 < (W4.setRow q12 #[.int .i64 ub, .slice AU MU cU]).heap.size ∧ q12 < (W4.setRow q12 #[.int .i64 ub, .slice AU MU cU]).heap.size from ⟨C5.out.lt.1, C5.out.lt.2.1, C5.out.lt.2.2.2.1, C5.out.lt.2.2.2.2⟩)
      have HGE := Lib.hid (show w2.heap.size ≤ m ∧ w2.heap.size ≤ q10 ∧ w2.heap.size ≤ q12 ∧ p + 1 < w1.heap.size ∧ w1.heap.size ≤ w2.heap.size from ⟨hm1, by omega, by omega, PB.out, hle1⟩)
      clear hS hS4 hS5 hbx hbw hz hW4 e9 F4 T4 M4 HB10 HBX
      generalize World.setRow _ _ _ = w5 at F5 C5 hT2 HLT ⊢
      clear hle2 hm1 hq4 hq10 hq12
      obtain ⟨T, hT⟩ : ∃ T, w5.heap.size = T := ⟨_, rfl⟩
      have F6 := Lib.hid (F5.out T)
      have LOW := Lib.hid (LOW2.out.mono hT2)
      rw [hT] at HLT LOW hT2
      have HT := Lib.hid hT
      clear F5 hT hfr
      go_wp2_with fail
      go_loopw [13, 52] (fun v i wr => ∃ (k : Nat) (ys : List Sx), k ≤ n ∧ i = .int .i64 (k : Int) ∧ Fst w1.heap.size T (some ⟨g, 0, none⟩) N c1 xs k v (shutF r.gr now all (l0.take k)) ys wr ∧ Ctx w m M all D r now q10 p (p + 1) q12 #[.int .i64 ub, .slice AU MU cU] wr ∧ T ≤ wr.heap.size) (fun _ i _ => n - (RowKit.intOf i).toNat)
      case atStart => exact ⟨0, [], Nat.zero_le _, rfl, F6.out, C5.out, Nat.le_of_eq HT.out.symm⟩
      case round =>
        obtain ⟨k, ys, hk, rfl, hfst, hctx, hTw⟩ := hrel
        obtain ⟨V, hV⟩ : ∃ V, V = wr := ⟨_, rfl⟩
        rw [← hV] at hfst hctx hTw ⊢
        clear hV
        have FS := Lib.hid hfst
        have CX := Lib.hid hctx
        clear hfst hctx F6 C5
        obtain ⟨sc, hsc⟩ : ∃ sc, (shutF r.gr now all (l0.take k)).length = sc := ⟨_, rfl⟩
        have hsc2 : sc ≤ 200 := by
          rw [← hsc]
          unfold shutF
          refine Nat.le_trans (List.length_filter_le _ _) ?_
          rw [List.length_map, List.length_take]; omega
        have HSC := Lib.hid hsc
        clear hsc
        by_cases hlt : k < n
        · have hkx : k < xs.length := by rw [hxl]; omega
          have hk0 : k < l0.length := by rw [HN0.out]; exact hlt
          have hkl : k < l.length := by rw [HNN.out]; omega
          have hle : l[k] = l0[k] := by
            have : l = l0 ++ [u] := HL0.out
            subst this
            exact List.getElem_append_left hk0
          have hs := (HXS.out k hkx hkl).trans hle
          have hsn := shut_next (gr := r.gr) (now := now) (all := all) hk0
          have hgo := HGO.out _ (List.getElem_mem hkl)
          have hs200 := HSL.out _ (List.getElem_mem hkl)
          rw [hle] at hgo hs200
          rw [← hs] at hgo hs200 hsn
          have hcell := row_cells FS.out.row k hkx
          have hown := FS.out.rest k hkx (Nat.le_refl _)
          have HST := Lib.hid (fun v K ys W5 W6 (h : Fst w1.heap.size T (some ⟨g, 0, none⟩) N c1 xs k v K ys W5) (hg : W5.grownBy W6 xs[k].v.ownBlock) => h.step LOW.out hkx hg)
          have HO1 := Lib.hid (fun j hj (hkj : k + 1 ≤ j) => LOW.out.off k j hkx hj (by omega))
          have HO2 := Lib.hid (FS.out.off k hkx (Nat.le_refl _))
          have HLW := Lib.hid (LOW2.out.low _ (List.getElem_mem hkx))
          have HLM := Lib.hid (LOW2.out.lim _ (List.getElem_mem hkx))
          clear hs hle hkl hk0
          generalize xs[k] = x at hsn hgo hs200 hcell hown HST HO1 HO2 HLW HLM
          obtain ⟨⟨sb, srs⟩, A2, c2⟩ := x
          dsimp only at hsn hgo hs200 hcell hown HST HO1 HO2 HLW HLM
          obtain ⟨M1, hM1⟩ : ∃ M1, srs.length = M1 := ⟨_, rfl⟩
          unfold Sx.v at hown HST HLW
          dsimp only at hown HST HLW
          rw [hM1] at hcell hown HST hs200 HLW
          obtain ⟨fs, hfs⟩ : ∃ fs, srs.filter (ngF r.gr now all) = fs := ⟨_, rfl⟩
          obtain ⟨L2, hL2⟩ : ∃ L2, fs.length = L2 := ⟨_, rfl⟩
          rw [hfs] at hsn
          have hL2M : L2 ≤ M1 := by rw [← hL2, ← hfs, ← hM1]; exact List.length_filter_le _ _
          have HSN := Lib.hid hsn
          have HL2' := Lib.hid hL2
          have HOW := Lib.hid hown
          have hld := load_seg_at hcell.1 hcell.2
          have hdl := fun (W5 : World) (hr : W5.ownsRow w1.heap.size 46 6 (.slice A2 M1 c2) M1 (flat srs)) (hc : Ctx w m M all D r now q10 p (p + 1) q12 #[.int .i64 ub, .slice AU MU cU] W5) =>
            Delete_is (goesF r.gr now all) srs M1 L2 A2 c2 w1.heap.size q10 p (p + 1) W5 hM1 (by omega) hr (fun W hg x hx X hX => by
              have hgx := hgo x hx
              refine out_call x r now m M all D q10 p (p + 1) X W (hc.sees.kept hg ?_ ?_ ?_ ?_) hgx.2.1 hgx.2.2 ⟨HGR.out.1, by have := HGR.out.2; omega⟩ (hgx.1.trans hX)
              · intro e; have := HLW.out m e.symm; have := HGE.out.1; omega
              · intro e; have := HLW.out q10 e.symm; have := HGE.out.2.1; omega
              · intro e; have := (hr.lt p e.symm).1; have := HGE.out.2.2.2.1; omega
              · intro e; have := (hr.lt (p + 1) e.symm).1; have := HGE.out.2.2.2.1; omega) (by rw [np_ng, hfs]; exact hL2)
          rw [np_ng, hfs] at hdl
          have HDL := Lib.hid hdl
          have e1 : (k : Int) < (n : Int) := by omega
          obtain ⟨q15, W4, hq15, hW4, hbn, hbx, hbw⟩ := any_box CX.out.bel 49 szero (sarr sb A2 M1 c2)
          have HBN := Lib.hid hbn
          have X5 := Lib.hid hbx
          have FS5 := Lib.hid (FS.out.below hbw)
          have CX5 := Lib.hid (CX.out.below hbw)
          have OW5 := Lib.hid (own_below HOW.out hbw)
          have HLV := Lib.hid CX.out.lt
          have HVL := Lib.hid (fun q h => (FS.out.lrow.lt q h).2)
          have h15 : T ≤ q15 := by omega
          rw [hq15] at HLV HVL
          unfold szero at hW4
          unfold sarr at X5 FS5 CX5 OW5
          have HW4 := Lib.hid hW4
          clear hbn hbx hbw hW4 hM1 hfs hL2 hgo hsn hown hdl FS CX HOW hcell hTw
          go_upto_region 15 with (first | (refine wpList_load_any (by rfl) 49 (.tmp 54) rfl g (k * 2) rfl _ hld ?_; simp only [Act.put]) | (rw [HW4.out]; refine wpList_store_whole rfl 49 (.tmp 15) (.tmp 55) rfl q15 _ rfl rfl szero HBN.out info_seg rfl (by simp [Value.oneCell']) ?_; simp only [Act.put]))
          clear HW4 HBN hq15 hld
          generalize World.setRow _ _ _ = w6 at X5 FS5 CX5 OW5 ⊢
          have d1 : w6.cell? ⟨q15, 1, none⟩ = some (.slice A2 M1 c2) := X5.out.cell 1
          have HD6 := Lib.hid (HDL.out w6 OW5.out CX5.out)
          have hx15 : q15 < w6.heap.size := X5.out.out.1.lt
          have hL200 : L2 ≤ 200 := by omega
          have hL2i := hL2M
          clear HDL
          go_wp2_with fail
          refine HD6.out.mono ?_
          rintro e w7 ⟨rfl, hr7, hg7⟩
          have hrl : ∀ q, (Value.slice A2 M1 c2).ownBlock = some q → q < w2.heap.size ∧ w1.heap.size ≤ q := fun q h => ⟨HLW.out q h, (OW5.out.lt q h).1⟩
          have hwb := WB.out
          have FS7 := Lib.hid (HST.out _ _ _ w6 w7 FS5.out hg7)
          have CX7 := Lib.hid (CX5.out.kept hg7 (fun q h => by
            have h1 := hrl q h
            obtain ⟨e1, e2, e3, e4, e5⟩ := HGE.out
            exact ⟨by omega, by omega, by omega, by omega, by omega, by omega⟩))
          have X7 : Hid (RBox w q15 #[.int .i64 sb, .slice A2 M1 c2] w7) := .mk (blk_kept X5.out.out.1 hg7 (fun e => by have := hrl q15 e.symm; omega)) CX7.out.bel
          have OW7 := Lib.hid hr7
          have hrl2 : ∀ q, (Value.slice A2 L2 c2).ownBlock = some q → q < w2.heap.size := fun q h => (hrl q ((ob_len A2 M1 L2 c2 c2).trans h)).1
          have HRL := Lib.hid hrl2
          have hq15 : w.heap.size ≤ q15 := by omega
          clear hr7 hg7 HD6 FS5 CX5 X5 OW5 hrl hrl2 d1 hx15 HST HLW hwb
          have d1 : w7.cell? ⟨q15, 1, none⟩ = some (.slice A2 M1 c2) := X7.out.cell 1
          have f1 := X7.out.out.1.frozen 1
          have hgs := cell_grown w7 q15 1 (.slice A2 L2 c2)
          have FS8 := Lib.hid (FS7.out.far LOW.out hgs h15 (fun e => by have := HVL.out q15 e; omega))
          have CX8 := Lib.hid (CX7.out.kept hgs (fun q h => by
            injection h with h
            obtain ⟨e1, e2, e3, e4, e5⟩ := HLV.out
            exact ⟨by omega, by omega, by omega, by omega, by omega, by omega⟩))
          have X8 : Hid (RBox w q15 #[.int .i64 sb, .slice A2 L2 c2] (w7.setCell ⟨q15, 1, none⟩ (.slice A2 L2 c2))) := .mk (X7.out.out.1.put 1 _) CX8.out.bel
          have OW8 := Lib.hid (own_off OW7.out hgs (fun q h e => by have := HRL.out q h; injection e with e; omega))
          have hT8 : T ≤ (w7.setCell ⟨q15, 1, none⟩ (.slice A2 L2 c2)).heap.size := Nat.le_trans h15 (Nat.le_of_lt X8.out.out.1.lt)
          clear hgs FS7 CX7 X7 OW7
          obtain ⟨w8, hw8⟩ : ∃ w8, w7.setCell ⟨q15, 1, none⟩ (.slice A2 L2 c2) = w8 := ⟨_, rfl⟩
          rw [hw8] at FS8 CX8 X8 OW8 hT8
          have HW8 := Lib.hid hw8
          clear hw8
          go_upto_region 16 with fail
          rw [HW8.out]
          clear HW8 d1 f1
          have d1 : w8.cell? ⟨q15, 1, none⟩ = some (.slice A2 L2 c2) := X8.out.cell 1
          by_cases hc0 : L2 = 0
          · have hnil : fs = [] := List.eq_nil_of_length_eq_zero (HL2'.out.trans hc0)
            have hs2 := HSN.out
            rw [hnil] at hs2
            have HS2 := Lib.hid (show shutF r.gr now all (l0.take (k + 1)) = shutF r.gr now all (l0.take k) from hs2)
            have g1 : decide ((0 : Int) < (L2 : Int)) = false := decide_eq_false (by omega)
            have g2 : decide (0 < L2) = false := decide_eq_false (by omega)
            clear hs2 hnil hc0
            go_wp2_with fail
            go_roundw
            case rel => exact ⟨k + 1, ys, hlt, by go_num, by rw [HS2.out]; exact FS8.out, CX8.out, hT8⟩
            case measure => simp [RowKit.intOf]; omega
          · have hs2 := HSN.out
            have hne : fs.isEmpty = false := by
              cases fs with
              | nil => exact absurd HL2'.out.symm hc0
              | cons _ _ => rfl
            rw [hne] at hs2
            have HS2 := Lib.hid (show shutF r.gr now all (l0.take (k + 1)) = shutF r.gr now all (l0.take k) ++ [⟨sb, fs⟩] from hs2)
            have g1 : decide ((0 : Int) < (L2 : Int)) = true := decide_eq_true (by omega)
            have g2 : decide (0 < L2) = true := decide_eq_true (by omega)
            have hrw := FS8.out.lrow
            rw [HSC.out] at hrw
            have HRW := Lib.hid hrw
            have hld := X8.out.loadS rfl
            clear hs2 hne hc0 hrw HSN
            go_wp2_with (first | (refine wpList_load_any (by rfl) 49 (.tmp 15) rfl q15 0 rfl _ hld ?_; simp only [Act.put]) | (at_builtin; refine wpList_append_own _ rfl _ _ 23 rfl T 49 i1 (.agg #[.int .i64 0, .slice none 0 0]) 2 32 Try.underlying23 hi1 hy0 hy1 hy2 rfl (by decide) _ _ _ rfl (HRW.out.alloc _) ⟨w8.heap.size, 0, none⟩ 1 1 [.int .i64 sb, .slice A2 L2 c2] rfl rfl ?a1 ?a2 ?a3 ?a4 ?a5 ?_))
            try (case a1 => exact fun j u h => cells_new w8 _ [.int .i64 sb, .slice A2 L2 c2] j u h)
            case a2 => first | exact ⟨rfl, rfl⟩ | exact fun u hu => by simp at hu; rcases hu with rfl | rfl <;> rfl
            case a3 => unfold maxLen; omega
            case a4 => first | omega | (simp; omega)
            case a5 => first | omega | (simp; omega)
            intro v' w9 hown' hgrow _
            have hal : Below w8.heap.size w8 (w8.alloc (.cells #[.int .i64 sb, .slice A2 L2 c2] 49)) := (Below.refl _ _).alloc (Nat.le_refl _) _
            have CX9 := Lib.hid ((CX8.out.below hal).kept hgrow (fun q h => by
              have h1 := (HRW.out.lt q h).1
              have h2 := HLT.out
              have hwb := WB.out
              exact ⟨by omega, by omega, by omega, by omega, by omega, by omega⟩))
            have hF9 : Fst w1.heap.size T (some ⟨g, 0, none⟩) N c1 xs (k + 1) v' (shutF r.gr now all (l0.take (k + 1))) (ys ++ [⟨⟨sb, fs⟩, A2, c2⟩]) w9 := by
              rw [HS2.out]
              refine FS8.out.add LOW.out (by rw [HL2'.out]; exact OW8.out) (by rw [HL2'.out]; omega) (fun q h => by rw [HL2'.out] at h; exact Nat.lt_of_lt_of_le (HRL.out q h) hT2) (fun y hy => apart_to (HO2.out y hy)) (fun j hj hkj => apart_from (HO1.out j hj hkj)) hgrow ?_
              rw [HSC.out, HL2'.out]
              exact hown'
            have F9 := Lib.hid hF9
            have hT9 : T ≤ w9.heap.size := Nat.le_trans hT8 (by have := hgrow.size; simp at this; omega)
            clear hF9 hown' hgrow HRW FS8 CX8 X8 OW8 hld d1 hal
            go_wp2_with fail
            go_roundw
            case rel => exact ⟨k + 1, _, hlt, by go_num, F9.out, CX9.out, hT9⟩
            case measure => simp [RowKit.intOf]; omega
        · have hkn : k = n := by omega
          subst hkn
          have e7 : ¬ (k : Int) < (k : Int) := by omega
          have htl : l0.take k = l0 := List.take_of_length_le (by rw [HN0.out]; exact Nat.le_refl _)
          rw [htl] at FS HSC
          obtain ⟨hru, hapu⟩ := HUN.out T _ _ ys V FS.out
          have HRU := Lib.hid hru
          have HAP := Lib.hid hapu
          have hld := load_seg CX.out.box rfl
          have hrw := FS.out.lrow
          rw [HSC.out] at hrw
          have HRW := Lib.hid hrw
          have hmu : MU * 64 ≤ 140737488351232 := by have := HUL.out.2; rw [HMU.out] at this; exact this
          clear hru hapu hrw htl
          go_wp2_with (first | (refine wpList_load_any (by rfl) 49 (.tmp 12) rfl q12 0 rfl _ hld ?_; simp only [Act.put]) | (at_builtin; refine wpList_append_own _ rfl _ _ 23 rfl T 49 i1 (.agg #[.int .i64 0, .slice none 0 0]) 2 32 Try.underlying23 hi1 hy0 hy1 hy2 rfl (by decide) _ _ _ rfl (HRW.out.alloc _) ⟨V.heap.size, 0, none⟩ 1 1 [.int .i64 ub, .slice AU MU cU] rfl rfl ?b1 ?b2 ?b3 ?b4 ?b5 ?_))
          try (case b1 => exact fun j u h => cells_new V _ [.int .i64 ub, .slice AU MU cU] j u h)
          case b2 => first | exact ⟨rfl, rfl⟩ | exact fun u hu => by simp at hu; rcases hu with rfl | rfl <;> rfl
          case b3 => unfold maxLen; omega
          case b4 => first | omega | (simp; omega)
          case b5 => first | omega | (simp; omega)
          intro v' w9 hown' hgrow _
          have hF9 : Fst w1.heap.size T (some ⟨g, 0, none⟩) N c1 xs (k + 1) v' (shutF r.gr now all l0 ++ [⟨ub, urs⟩]) (ys ++ [⟨⟨ub, urs⟩, AU, cU⟩]) w9 := by
            refine (FS.out.later (Nat.le_succ _)).add LOW.out HRU.out (by rw [HMU.out]; exact hmu) (fun q h => Nat.lt_of_lt_of_le (HUL.out.1 q h) hT2) HAP.out (fun j hj hkj => by omega) hgrow ?_
            rw [HSC.out, HMU.out]
            exact hown'
          have hOW := (hF9.own (by have := HGE.out; omega)).mono WB.out
          rw [HUS.out, ← HKC.out] at hOW
          have hLs : L = sc + 1 := by rw [← HLL.out, HKC.out, List.length_append, HSC.out]; rfl
          obtain ⟨A9, c9, hv9⟩ := row_slice hown'
          rw [← hLs] at hv9
          subst hv9
          have OW9 := Lib.hid hOW
          have B9 := Lib.hid (CX.out.bel.trans ((below_alloc_grown hTw HRW.out hgrow).mono (by have h1 := WB.out; have h2 := HGE.out; omega)))
          clear hF9 hOW hown' hgrow HRW FS CX hld HRU HAP hLs
          go_wp2_with fail
          go_ret
          exact ⟨.inr ⟨rfl, A9, c9, _, rfl, OW9.out⟩, B9.out⟩
end Go.Proofs.Ythdefnfpjbpbkaa.Kpd
/- Records weighed, to the number. -/
namespace Go.Proofs.Ythdefnfpjbpbkaa
open Go.RowKit Go.Lib Rcd

/-- The weight of records, from z on. -/
def wgo : List Rc → Int → Int
  | [], z => z
  | r :: t, z => if z < 1048576 then wgo t (wrap64 (wrap64 (z + (r.k.length : Int)) + (r.b.length : Int))) else z
def weightZ (l : List Rc) : Int := wgo l (l.length : Int)
theorem wgo_yes {r : Rc} {t : List Rc} {z : Int} (h : z < 1048576) : wgo (r :: t) z = wgo t (wrap64 (wrap64 (z + (r.k.length : Int)) + (r.b.length : Int))) := by rw [wgo, if_pos h]
theorem wgo_no {r : Rc} {t : List Rc} {z : Int} (h : ¬ z < 1048576) : wgo (r :: t) z = z := by rw [wgo, if_neg h]

set_option maxRecDepth 100000 in
set_option maxHeartbeats 4000000 in
/-- fairwaylaw0.RecsWeight. -/
theorem WeightZ_is (l : List Rc) (A : Option Addr) (c B : Nat) (Z : Int) (w : World) (hm : l.length ≤ 9223372036854775807) (h : RecsAt w B A l) (hZ : weightZ l = Z) :
    Calls Try.prog 32 #[.slice A l.length c] w fun e w' => e = .returned (.int .i64 Z) ∧ Below w.heap.size w w' := by
  have H := Lib.hid h
  have HZ := Lib.hid hZ
  clear h hZ
  go_enter Try.func32, Try.ntmps32
  go_wp2_with fail
  go_loopw [3, 4] (fun v i wr => ∃ (k n : Nat) (z : Int), k ≤ l.length ∧ v = .int .i64 z ∧ i = .int .i64 (k : Int) ∧ wr = w.drewN n ∧ wgo (l.drop k) z = Z) (fun _ i _ => l.length - (RowKit.intOf i).toNat)
  case atStart => exact ⟨0, 0, _, Nat.zero_le _, rfl, rfl, rfl, HZ.out⟩
  case round =>
    obtain ⟨k, n, z, hk, rfl, rfl, rfl, hz⟩ := hrel
    have HG := Lib.hid hz
    clear hz
    by_cases hlt : k < l.length
    · have hdr := List.drop_eq_getElem_cons hlt
      by_cases hz : z < 1048576
      · have HS := Lib.hid (show wgo (l.drop (k + 1)) (wrap64 (wrap64 (z + ((str l[k].k).size : Int)) + ((str l[k].b).size : Int))) = Z by
          rw [str_size, str_size, ← HG.out, hdr, wgo_yes hz])
        obtain ⟨b, o, rfl, _, hc⟩ := H.out.some_ (by omega)
        have h1 := hc k hlt
        clear hc H HG hdr
        generalize l[k] = r at h1 HS
        obtain ⟨x, t, ks, bs, q, g⟩ := r
        obtain ⟨c0, c1, c2, c3, c4, c5⟩ := h1
        dsimp only at HS c2 c3
        generalize str ks = kz at c2 HS
        generalize str bs = bz at c3 HS
        have hkI : (k : Int) < (l.length : Int) := by omega
        have hd1 : decide ((k : Int) < (l.length : Int)) = true := decide_eq_true hkI
        have hd2 : decide (k < l.length) = true := decide_eq_true hlt
        have hd3 : decide (z < 1048576) = true := decide_eq_true hz
        go_wp2
        go_quiet (fail)
        go_wp2
        go_roundw
        case rel => exact ⟨k + 1, _, _, hlt, rfl, by go_num, rfl, HS.out⟩
        case measure => simp [RowKit.intOf]; omega
      · have HF := Lib.hid (show z = Z by rw [← HG.out, hdr, wgo_no hz])
        go_wp2
        all_goals (go_ret; exact ⟨ret_int HF.out, below_drewN (Below.refl _ _) n⟩)
    · have HF := Lib.hid (show z = Z by
        have := HG.out
        rw [List.drop_of_length_le (by omega)] at this
        exact this)
      go_wp2
      all_goals (go_ret; exact ⟨ret_int HF.out, below_drewN (Below.refl _ _) n⟩)
end Go.Proofs.Ythdefnfpjbpbkaa
/- Segments weighed; whether an ask is heavy. -/
namespace Go.Proofs.Ythdefnfpjbpbkaa.Kpd
open Go.RowKit Go.Lib Rcd

/-- The weight of segments, from z on. -/
def sgo : List Sp → Int → Int
  | [], z => z
  | s :: t, z => if z < 1048576 then sgo t (wrap64 (z + weightZ s.rs)) else z
def weightS (l : List Sp) : Int := sgo l (l.length : Int)
theorem sgo_yes {s : Sp} {t : List Sp} {z : Int} (h : z < 1048576) : sgo (s :: t) z = sgo t (wrap64 (z + weightZ s.rs)) := by rw [sgo, if_pos h]
theorem sgo_no {s : Sp} {t : List Sp} {z : Int} (h : ¬ z < 1048576) : sgo (s :: t) z = z := by rw [sgo, if_neg h]
theorem sgo_end {t : List Sp} {z : Int} (h : ¬ z < 1048576) : sgo t z = z := by
  cases t with
  | nil => rfl
  | cons s t => exact sgo_no h
/-- No longer than memory reaches. -/
def Lim (s : Sp) : Prop := s.rs.length * 64 ≤ 140737488351232 ∧ ∀ r ∈ s.rs, r.k.length ≤ 140737488351232 ∧ r.b.length ≤ 140737488351232
theorem w64_in (n : Int) (h1 : -9223372036854775808 ≤ n) (h2 : n ≤ 9223372036854775807) : wrap64 n = n := by unfold wrap64; omega
theorem wgo_le (rs : List Rc) : ∀ z : Int, 0 ≤ z → z ≤ 1000000000000000 → (∀ r ∈ rs, r.k.length ≤ 140737488351232 ∧ r.b.length ≤ 140737488351232) → z ≤ wgo rs z ∧ wgo rs z ≤ 1000000000000000 := by
  induction rs with
  | nil => intro z h1 h2 _; exact ⟨Int.le_refl _, h2⟩
  | cons r t ih =>
    intro z h1 h2 h3
    have hr := h3 r List.mem_cons_self
    have ht : ∀ r ∈ t, r.k.length ≤ 140737488351232 ∧ r.b.length ≤ 140737488351232 := fun x hx => h3 x (List.mem_cons_of_mem _ hx)
    by_cases c : z < 1048576
    · rw [wgo_yes c, w64_in (z + (r.k.length : Int)) (by omega) (by omega), w64_in _ (by omega) (by omega)]
      have := ih (z + (r.k.length : Int) + (r.b.length : Int)) (by omega) (by omega) ht
      exact ⟨by omega, this.2⟩
    · rw [wgo_no c]; exact ⟨Int.le_refl _, h2⟩
theorem weightZ_le {s : Sp} (h : Lim s) : (s.rs.length : Int) ≤ weightZ s.rs ∧ weightZ s.rs ≤ 1000000000000000 := by
  have h1 := h.1
  exact wgo_le s.rs _ (by omega) (by omega) h.2
theorem sgo_recs (l : List Sp) : ∀ z : Int, 0 ≤ z → (∀ s ∈ l, Lim s) → sgo l z ≤ 8000 → z + ((recsOf l).length : Int) ≤ 8000 := by
  induction l with
  | nil => intro z h1 _ h2; simp [recsOf]; exact h2
  | cons s t ih =>
    intro z h1 h2 h3
    have hs := weightZ_le (h2 s List.mem_cons_self)
    by_cases c : z < 1048576
    · rw [sgo_yes c, w64_in _ (by omega) (by omega)] at h3
      have := ih (z + weightZ s.rs) (by omega) (fun x hx => h2 x (List.mem_cons_of_mem _ hx)) h3
      have e : recsOf (s :: t) = s.rs ++ recsOf t := by unfold recsOf; rw [List.flatMap_cons]
      rw [e, List.length_append, Int.natCast_add]
      omega
    · rw [sgo_no c] at h3; omega

set_option maxRecDepth 100000 in
set_option maxHeartbeats 4000000 in
/-- fairwaylaw0.SegsWeight. -/
theorem WeightS_is (l : List Sp) (N : Nat) (A : Option Addr) (c B : Nat) (Z : Int) (w : World) (hN : l.length = N) (hm : N ≤ 9223372036854775807) (hB : B ≤ w.heap.size) (h : SegsAt w B A l) (hZ : weightS l = Z) :
    Calls Try.prog 23 #[.slice A N c] w fun e w' => e = .returned (.int .i64 Z) ∧ Below w.heap.size w w' := by
  have H := Lib.hid (h.mono hB)
  have HN := Lib.hid hN
  have HZ := Lib.hid (show sgo l (N : Int) = Z by rw [← hZ, ← hN]; rfl)
  clear h hN hZ hB
  go_enter Try.func23, Try.ntmps23
  go_wp2_with fail
  go_loopw [3, 4] (fun v i wr => ∃ (k : Nat) (z : Int), k ≤ N ∧ v = .int .i64 z ∧ i = .int .i64 (k : Int) ∧ sgo (l.drop k) z = Z ∧ Below w.heap.size w wr) (fun _ i _ => N - (RowKit.intOf i).toNat)
  case atStart => exact ⟨0, (N : Int), Nat.zero_le _, rfl, rfl, HZ.out, Below.refl _ _⟩
  case round =>
    obtain ⟨k, z, hk, rfl, rfl, hz, hbl⟩ := hrel
    have HG := Lib.hid hz
    have HB := Lib.hid hbl
    clear hz hbl HZ
    by_cases hlt : k < N
    · have hlr : k < l.length := by rw [HN.out]; exact hlt
      have e1 : (k : Int) < (N : Int) := by omega
      by_cases hzb : z < 1048576
      · obtain ⟨b0, o0, rfl, hb0, hc⟩ := (H.out.below HB.out).some_ (by omega)
        obtain ⟨A1, c1, hsg⟩ := hc k hlr
        have hnx : sgo (l.drop (k + 1)) (wrap64 (z + weightZ l[k].rs)) = Z := by
          have := HG.out
          rw [List.drop_eq_getElem_cons hlr, sgo_yes hzb] at this
          exact this
        clear hc HG
        generalize l[k] = s at hsg hnx
        obtain ⟨sb, srs⟩ := s
        obtain ⟨s0, s1, hA, _, hlim⟩ := hsg
        dsimp only at s1 hA hlim hnx
        obtain ⟨wz, hwz⟩ : ∃ wz, weightZ srs = wz := ⟨_, rfl⟩
        have hcw := WeightZ_is srs A1 c1 w.heap.size wz wr (by omega) hA hwz
        rw [hwz] at hnx
        obtain ⟨M, hM⟩ : ∃ M, srs.length = M := ⟨_, rfl⟩
        rw [hM] at s1 hcw
        have HC := Lib.hid hcw
        have HG2 := Lib.hid hnx
        clear hcw hM hwz hnx hA hlim s0 hlr
        go_wp2_with fail
        refine HC.out.mono ?_
        rintro e w1 ⟨rfl, hb1⟩
        have HB1 := Lib.hid (bel_step HB.out hb1)
        clear hb1 HB HC s1
        go_wp2_with fail
        go_roundw
        case rel => exact ⟨k + 1, wrap64 (z + wz), hlt, rfl, by go_num, HG2.out, HB1.out⟩
        case measure => simp [RowKit.intOf]; omega
      · obtain rfl : z = Z := by rw [← HG.out]; exact (sgo_end hzb).symm
        go_wp2_with fail
        go_ret
        exact ⟨rfl, HB.out⟩
    · obtain rfl : k = N := by omega
      obtain rfl : z = Z := by
        rw [← HG.out, List.drop_of_length_le (by rw [HN.out]; exact Nat.le_refl _)]; rfl
      go_wp2_with fail
      go_ret
      exact ⟨rfl, HB.out⟩

/-- An ask's cells. -/
def aarr (A : Option Addr) (N c : Nat) (r : Ru) (now : Int) : Array Value := #[.slice A N c, .int .i64 r.sb, .int .i64 r.by_, .int .i64 r.ag, .bool r.co, .int .i64 r.gr, .int .i64 now]
def heavyB (l : List Sp) : Bool := decide (8000 < weightS l) || decide (250 < l.length)
theorem heavy_no {l : List Sp} (h : heavyB l = false) (hl : ∀ s ∈ l, Lim s) : l.length ≤ 250 ∧ (recsOf l).length ≤ 8000 := by
  unfold heavyB at h
  rw [Bool.or_eq_false_iff, decide_eq_false_iff_not, decide_eq_false_iff_not] at h
  have := sgo_recs l (l.length : Int) (by omega) hl (by have := h.1; unfold weightS at this; omega)
  exact ⟨by omega, by omega⟩

set_option maxRecDepth 100000 in
set_option maxHeartbeats 4000000 in
/-- fairwaylaw13.Heavy. -/
theorem Heavy_is (l : List Sp) (r : Ru) (now : Int) (N : Nat) (A : Option Addr) (c B : Nat) (X : Bool) (w : World) (hN : l.length = N) (hm : N ≤ 9223372036854775807) (hB : B ≤ w.heap.size) (h : SegsAt w B A l) (hX : heavyB l = X) :
    Calls Try.prog 7 #[.agg (aarr A N c r now)] w fun e w' => e = .returned (.bool X) ∧ Below w.heap.size w w' := by
  obtain ⟨Z, hZ⟩ : ∃ Z, weightS l = Z := ⟨_, rfl⟩
  unfold heavyB at hX
  rw [hZ, hN] at hX
  have HC := Lib.hid (fun W (hb : Below w.heap.size w W) => WeightS_is l N A c B Z W hN hm (Nat.le_trans hB hb.size) (h.below (hb.mono hB)) hZ)
  have HX := Lib.hid hX
  unfold aarr
  obtain ⟨sb, by_, ag, co, gr⟩ := r
  dsimp only
  have R0 := Lib.hid (RBox.new w 27 #[.slice A N c, .int .i64 sb, .int .i64 by_, .int .i64 ag, .bool co, .int .i64 gr, .int .i64 now])
  obtain ⟨p, hp⟩ : ∃ p, w.heap.size = p := ⟨_, rfl⟩
  obtain ⟨W0, hW⟩ : ∃ W0, w.alloc (.cells #[.slice A N c, .int .i64 sb, .int .i64 by_, .int .i64 ag, .bool co, .int .i64 gr, .int .i64 now] 27) = W0 := ⟨_, rfl⟩
  rw [hW, hp] at R0
  have HW := Lib.hid hW
  have HP := Lib.hid hp
  clear hW hp h hN hX hZ hB
  go_enter Try.func7, Try.ntmps7
  go_upto_region 1 with fail
  rw [HW.out, HP.out]
  clear HW HP
  have d0 : W0.cell? ⟨p, 0, none⟩ = some (.slice A N c) := R0.out.cell 0
  go_wp2_with fail
  refine (HC.out _ R0.out.out.2).mono ?_
  rintro e w1 ⟨rfl, hb1⟩
  have R1 := Lib.hid (R0.out.below hb1)
  clear R0 hb1 HC d0
  have d0 : w1.cell? ⟨p, 0, none⟩ = some (.slice A N c) := R1.out.cell 0
  by_cases h1 : 8000 < Z
  · have f1 : decide (8000 < Z) = true := decide_eq_true h1
    obtain rfl : X = true := by rw [← HX.out, f1]; rfl
    go_wp2_with fail
    go_ret
    exact ⟨rfl, R1.out.out.2⟩
  · have f1 : decide (8000 < Z) = false := decide_eq_false h1
    by_cases h2 : 250 < N
    · have f2 : decide ((250 : Int) < (N : Int)) = true := decide_eq_true (by omega)
      have f3 : decide (250 < N) = true := decide_eq_true h2
      obtain rfl : X = true := by rw [← HX.out, f1, f3]; rfl
      go_wp2_with fail
      go_ret
      exact ⟨rfl, R1.out.out.2⟩
    · have f2 : decide ((250 : Int) < (N : Int)) = false := decide_eq_false (by omega)
      have f3 : decide (250 < N) = false := decide_eq_false h2
      obtain rfl : X = false := by rw [← HX.out, f1, f3]; rfl
      go_wp2_with fail
      go_ret
      exact ⟨rfl, R1.out.out.2⟩
end Go.Proofs.Ythdefnfpjbpbkaa.Kpd
/- The document's own answer: a segment held against itself. -/
namespace Go.Proofs.Ythdefnfpjbpbkaa
open Go.RowKit Go.Lib Rcd

set_option maxRecDepth 100000 in
set_option maxHeartbeats 4000000 in
/-- fairwayref0.EqSeg, of the same segment. -/
theorem EqSeg_same (b : Int) (l : List Rc) (A A' : Option Addr) (c c' B B' : Nat) (w : World) (hm : l.length ≤ 9223372036854775807) (hB : B ≤ w.heap.size) (hB' : B' ≤ w.heap.size) (h : RecsAt w B A l) (h' : RecsAt w B' A' l) :
    Calls Try.prog 22 #[.agg #[.int .i64 b, .slice A l.length c], .agg #[.int .i64 b, .slice A' l.length c']] w fun e w' => e = .returned (.bool true) ∧ Below w.heap.size w w' := by
  have hD := Duo.new w 49 49 (sarr b A l.length c) (sarr b A' l.length c')
  have HC := Lib.hid (fun W (hb : Below w.heap.size w W) => EqRecs_same l A A' c c' B B' W hm (h.below (hb.mono hB)) (h'.below (hb.mono hB')))
  obtain ⟨p, hp⟩ : ∃ p, w.heap.size = p := ⟨_, rfl⟩
  obtain ⟨W0, hW⟩ : ∃ W0, (w.alloc (.cells (sarr b A l.length c) 49)).alloc (.cells (sarr b A' l.length c') 49) = W0 := ⟨_, rfl⟩
  rw [hW, hp] at hD
  unfold sarr at hD hW
  have D0 := Lib.hid hD
  have HW := Lib.hid hW
  have HP := Lib.hid hp
  clear hD hW hp h h'
  go_enter Try.func22, Try.ntmps22
  go_upto_region 1 with fail
  rw [HW.out, HP.out]
  clear HW HP
  have d0 : W0.cell? ⟨p, 0, none⟩ = some (.int .i64 b) := D0.out.cell1 0
  have d1 : W0.cell? ⟨p, 1, none⟩ = some (.slice A l.length c) := D0.out.cell1 1
  have e0 : W0.cell? ⟨p + 1, 0, none⟩ = some (.int .i64 b) := D0.out.cell2 0
  have e1 : W0.cell? ⟨p + 1, 1, none⟩ = some (.slice A' l.length c') := D0.out.cell2 1
  go_wp2_with fail
  refine (HC.out _ D0.out.bel).mono ?_
  rintro e w1 ⟨rfl, hb1⟩
  have D1 := Lib.hid (D0.out.below hb1)
  clear D0 hb1 HC d0 d1 e0 e1
  go_wp2_with fail
  go_ret
  exact ⟨rfl, D1.out.bel⟩
end Go.Proofs.Ythdefnfpjbpbkaa
/- The document's own answer: segments held against the same segments. -/
namespace Go.Proofs.Ythdefnfpjbpbkaa.Kpd
open Go.RowKit Go.Lib Rcd

/-- All that was there ahead of the call. -/
@[irreducible] def Bel (w W : World) : Prop := Below w.heap.size w W
section
variable {w W W' : World}
theorem Bel.mk (h : Below w.heap.size w W) : Bel w W := by unfold Bel; exact h
theorem Bel.out (h : Bel w W) : Below w.heap.size w W := by unfold Bel at h; exact h
theorem Bel.below (h : Bel w W) (hb : Below W.heap.size W W') : Bel w W' := .mk (bel_step h.out hb)
theorem Bel.drewN (h : Bel w W) (n : Nat) : Bel w (W.drewN n) := .mk (below_drewN h.out n)
end

set_option maxRecDepth 100000 in
set_option maxHeartbeats 8000000 in
/-- fairwayref0.EqSegs, of the same segments. -/
theorem EqSegs_same (l : List Sp) (N : Nat) (A A' : Option Addr) (c c' B B' : Nat) (w : World) (hN : l.length = N) (hm : N ≤ 9223372036854775807) (hB : B ≤ w.heap.size) (hB' : B' ≤ w.heap.size) (h : SegsAt w B A l) (h' : SegsAt w B' A' l) :
    Calls Try.prog 13 #[.slice A N c, .slice A' N c'] w fun e w' => e = .returned (.bool true) ∧ Below w.heap.size w w' := by
  have H := Lib.hid (h.mono hB)
  have H' := Lib.hid (h'.mono hB')
  have HN := Lib.hid hN
  clear h h' hB hB' hN
  go_enter Try.func13, Try.ntmps13
  go_wp2_with fail
  go_loopw [5] (fun i wr => ∃ k : Nat, k ≤ N ∧ i = .int .i64 (k : Int) ∧ Bel w wr) (fun i _ => N - (RowKit.intOf i).toNat)
  case atStart => exact ⟨0, Nat.zero_le _, rfl, .mk (Below.refl _ _)⟩
  case round =>
    obtain ⟨k, hk, rfl, hbl⟩ := hrel
    have HB := Lib.hid hbl
    clear hbl
    by_cases hlt : k < N
    · have hlr : k < l.length := by rw [HN.out]; exact hlt
      obtain ⟨b0, o0, rfl, hb0, hc⟩ := H.out.some_ (by omega)
      obtain ⟨b1, o1, rfl, hb1, hc'⟩ := H'.out.some_ (by omega)
      obtain ⟨A1, c1, hsg⟩ := hc k hlr
      obtain ⟨A2, c2, hsg'⟩ := hc' k hlr
      clear hc hc' H H'
      generalize l[k] = s at hsg hsg'
      obtain ⟨sb, srs⟩ := s
      obtain ⟨s0, s1, hA, _, hlim⟩ := hsg
      obtain ⟨t0, t1, hA', _, _⟩ := hsg'
      dsimp only at s0 s1 hA hlim t0 t1 hA'
      have HEQ := Lib.hid (fun W (hb : Bel w W) => EqSeg_same sb srs A1 A2 c1 c2 w.heap.size w.heap.size W (by omega) hb.out.size hb.out.size (hA.below hb.out) (hA'.below hb.out))
      have hkI : (k : Int) < (N : Int) := by omega
      obtain ⟨M, hM⟩ : ∃ M, srs.length = M := ⟨_, rfl⟩
      rw [hM] at s1 t1 HEQ
      have st0 := HB.out
      haveI : Nonempty (In (Bel w)) := ⟨⟨_, st0⟩⟩
      have kl := fun u : In (Bel w) => load_seg_at ((u.h.out.cell (p := ⟨b0, o0 + k * 2, none⟩) hb0).trans s0) ((u.h.out.cell (p := ⟨b0, o0 + k * 2 + 1, none⟩) hb0).trans s1)
      have kt := fun u : In (Bel w) => load_seg_at ((u.h.out.cell (p := ⟨b1, o1 + k * 2, none⟩) hb1).trans t0) ((u.h.out.cell (p := ⟨b1, o1 + k * 2 + 1, none⟩) hb1).trans t1)
      clear s0 s1 t0 t1 hA hA' hlim hM hlr HB
      go_upto_region 6 with fail
      refine region_in (S := Bel w) (by kernel_rfl) (by kernel_rfl) (st0.drewN 1) ?_
      iterate 3 (go_big_quiet_step (fail))
      go_big_quiet_want
      refine quiet_load_in 49 (.tmp 19) rfl b0 (o0 + k * 2) rfl _ kl ?_
      go_simp
      go_big_quiet_on
      iterate 3 (go_big_quiet_step (fail))
      go_big_quiet_want
      refine quiet_load_in 49 (.tmp 23) rfl b1 (o1 + k * 2) rfl _ kt ?_
      go_simp
      go_big_quiet_on
      repeat (go_big_quiet_step (first | (go_at_call 22; exact in_call ((HEQ.out _ (In.h _)).mono fun _ _ h => ⟨h.1, Bel.below (In.h _) h.2⟩))))
      refine wpQuiet_nil ?_
      rintro _ ⟨⟨w7, st7⟩, rfl⟩
      have S7 := Lib.hid st7
      clear this st0 st7 kl kt HEQ
      (try simp only [Bool.not_true, Bool.not_false])
      go_wp2_with fail
      go_roundw
      case rel => exact ⟨k + 1, hlt, by go_num, S7.out⟩
      case measure => simp [RowKit.intOf]; omega
    · obtain rfl : k = N := by omega
      go_wp2_with fail
      go_ret
      exact ⟨rfl, HB.out.out⟩
end Go.Proofs.Ythdefnfpjbpbkaa.Kpd
