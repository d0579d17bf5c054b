/- Texts of the proof, part 9: KpOld, KpOldOf, KpKeep, FdCopies, FdSaid, FdSt. -/
import Derived.Test.YthdefnfpjbpbkaaX08
/- Package keep: how many of the first segments go. -/
namespace Go.Proofs.Ythdefnfpjbpbkaa.Kpd
open Go.RowKit Go.Lib Rcd

/-- What keep.old tells. -/
inductive OldV (l : List Sp) (r : Ru) (now : Int) : Value → Prop
  | row (h : rowB l = false) : OldV l r now (.iface 30 (.int .i64 1))
  | rules (h : rowB l = true) (h2 : ruB r = false) : OldV l r now (.iface 30 (.int .i64 1))
  | time (h : rowB l = true) (h2 : ruB r = true) (h3 : decide (0 ≤ now ∧ now ≤ 1099511627776) = false) : OldV l r now (.iface 30 (.int .i64 1))
  | good (m : Nat) (h : rowB l = true) (h2 : ruB r = true) (h3 : decide (0 ≤ now ∧ now ≤ 1099511627776) = true) (h4 : OldIs r now l m) : OldV l r now (.iface 3 (.int .i64 (m : Int)))

theorem closed_at {l : List Sp} {k : Nat} (h : k < (closed l).length) (h2 : k < l.length) : (closed l)[k] = l[k] := by
  unfold closed at h ⊢
  exact List.getElem_take
/-- So many go. -/
def GoTo (r : Ru) (now : Int) (l : List Sp) (k : Nat) : Prop := ∀ j, j < k → goesB r now l j = true

set_option maxRecDepth 100000 in
set_option maxHeartbeats 8000000 in
/-- keep.old. -/
theorem old_is (l : List Sp) (r : Ru) (now : Int) (N : Nat) (A : Option Addr) (c B : Nat) (V : Value) (w : World) (hN : l.length = N) (hm : N ≤ 9223372036854775807) (hcap : N ≤ c) (hB : B ≤ w.heap.size) (h : SegsAt w B A l) (hV : OldV l r now V) :
    Calls Try.prog 54 #[.slice A N c, ruagg r, .int .i64 now] w fun e w' => e = .returned V ∧ Below w.heap.size w w' := by
  have R0 := Lib.hid (RBox.new w 25 (ruarr r.sb r.by_ r.ag r.co r.gr))
  have HRW := Lib.hid (fun E W (hb : Below w.heap.size w W) (hE : rowE l = E) => Row_is l N A c B E W hN hm (Nat.le_trans hB hb.size) (h.below (hb.mono hB)) hE)
  have HRU := Lib.hid (fun E W (hE : ruE r = E) => Rules_is r E W hE)
  unfold ruagg at HRU ⊢
  obtain ⟨p, hp⟩ : ∃ p, w.heap.size = p := ⟨_, rfl⟩
  obtain ⟨W0, hW⟩ : ∃ W0, w.alloc (.cells (ruarr r.sb r.by_ r.ag r.co r.gr) 25) = W0 := ⟨_, rfl⟩
  rw [hW, hp] at R0
  have HH := Lib.hid (h.mono hB)
  have HN := Lib.hid hN
  have HW := Lib.hid hW
  have HP := Lib.hid hp
  clear hW hp h hB hN
  cases hV with
  | row h1 =>
    have HC := Lib.hid (fun W hb => HRW.out 1 W hb (rowE_no h1))
    clear HRW HRU h1 HH HN
    generalize ruarr r.sb r.by_ r.ag r.co r.gr = ra at R0 HW
    go_enter Try.func54, Try.ntmps54
    go_upto_region 1 with fail
    rw [HW.out, HP.out]
    clear HW HP
    go_wp2_with fail
    refine (HC.out _ R0.out.out.2).mono ?_
    rintro e w1 ⟨rfl, hb1⟩
    have R1 := Lib.hid (R0.out.below hb1)
    clear R0 hb1 HC
    go_wp2_with fail
    go_ret
    exact ⟨rfl, R1.out.out.2⟩
  | rules h1 h2 =>
    have HC := Lib.hid (fun W hb => HRW.out 0 W hb (rowE_yes h1))
    have HC2 := Lib.hid (fun W => HRU.out 1 W (by unfold ruE; rw [h2]; rfl))
    clear HRW HRU h1 h2 HH HN
    unfold ruarr at R0 HW HC2 ⊢
    go_enter Try.func54, Try.ntmps54
    go_upto_region 1 with fail
    rw [HW.out, HP.out]
    clear HW HP
    go_wp2_with fail
    refine (HC.out _ R0.out.out.2).mono ?_
    rintro e w1 ⟨rfl, hb1⟩
    have R1 := Lib.hid (R0.out.below hb1)
    clear R0 hb1 HC
    have hld := load_ru R1.out.out.1 rfl
    go_wp2_with (refine wpList_load_any (by rfl) 25 (.tmp 4) rfl p 0 rfl _ hld ?_; simp only [Act.put])
    refine (HC2.out _).mono ?_
    rintro e w2 ⟨rfl, hb2⟩
    have R2 := Lib.hid (R1.out.below hb2)
    clear R1 hb2 hld HC2
    go_wp2_with fail
    go_ret
    exact ⟨rfl, R2.out.out.2⟩
  | time h1 h2 h3 =>
    have HC := Lib.hid (fun W hb => HRW.out 0 W hb (rowE_yes h1))
    have HC2 := Lib.hid (fun W => HRU.out 0 W (by unfold ruE; rw [h2]; rfl))
    have HC3 := Lib.hid (fun W => kWithin_is now 0 1099511627776 false W h3)
    clear HRW HRU h1 h2 h3 HH HN
    unfold ruarr at R0 HW HC2 ⊢
    go_enter Try.func54, Try.ntmps54
    go_upto_region 1 with fail
    rw [HW.out, HP.out]
    clear HW HP
    go_wp2_with fail
    refine (HC.out _ R0.out.out.2).mono ?_
    rintro e w1 ⟨rfl, hb1⟩
    have R1 := Lib.hid (R0.out.below hb1)
    clear R0 hb1 HC
    have hld := load_ru R1.out.out.1 rfl
    go_wp2_with (refine wpList_load_any (by rfl) 25 (.tmp 4) rfl p 0 rfl _ hld ?_; simp only [Act.put])
    refine (HC2.out _).mono ?_
    rintro e w2 ⟨rfl, hb2⟩
    have R2 := Lib.hid (R1.out.below hb2)
    clear R1 hb2 hld HC2
    go_wp2_with (go_at_call 43; refine (HC3.out _).mono ?_; rintro e w' ⟨rfl, rfl⟩)
    go_ret
    exact ⟨rfl, R2.out.out.2⟩
  | good m h1 h2 h3 h4 =>
    have HC := Lib.hid (fun W hb => HRW.out 0 W hb (rowE_yes h1))
    have HC2 := Lib.hid (fun W => HRU.out 0 W (by unfold ruE; rw [h2]; rfl))
    have HC3 := Lib.hid (fun W => kWithin_is now 0 1099511627776 true W h3)
    have hrl := (row_iff.1 h1).1
    rw [HN.out] at hrl
    obtain ⟨hrl1, hrl2⟩ := hrl
    obtain ⟨n, hn⟩ : ∃ n, N = n + 1 := ⟨N - 1, by omega⟩
    have hru := ru_yes h2
    have HSG := Lib.hid (row_segs h1)
    have HO := Lib.hid h4
    have hcl : closed l = l.take n := by unfold closed; rw [HN.out, hn]; rfl
    have hnl : l.length - 1 = n := by rw [HN.out]; omega
    obtain ⟨z0, hz0⟩ : ∃ z0, sizeL (closed l) = z0 := ⟨_, rfl⟩
    have HZ0 := Lib.hid hz0
    have HSZ := Lib.hid (fun W (hb : Below w.heap.size w W) => sizeOf_is (l.take n) n A c w.heap.size z0 W (by rw [List.length_take, HN.out]; omega) (by omega) hb.size ((HH.out.below hb).take n) (fun s hs => HSG.out s (List.take_subset _ _ hs)) (by rw [← hcl]; exact hz0))
    have HMX := Lib.hid (show sizeL (closed l) ≤ 84420000 from by
      have := size_take_le l (l.length - 1)
      have h5 := size_le HSG.out
      rw [HN.out] at h5
      unfold closed
      omega)
    have HNL := Lib.hid hnl
    have HCL := Lib.hid hcl
    have HRB := Lib.hid (And.intro hru.2.1.1 hru.2.2.1)
    have hsl := fun W => segs_front A N c n W (by omega)
    have e5 : (N : Int) - 1 = (n : Int) := by omega
    have HNN := Lib.hid hn
    have HRL := Lib.hid hrl2
    have hnb : n ≤ 200 := by omega
    clear HRW HRU h1 h2 h3 h4 hru hz0 hcl hnl hrl1 hn hrl2 hm hcap
    have HTM := Lib.hid (fun z X W hX => isTooMuch_is r z X W HRB.out.1 hX)
    have HTO := Lib.hid (fun b rs M A c B X W hM hm ht hB h hX => isTooOld_is r now b rs M A c B X W hM hm HRB.out.2 ht hB h hX)
    unfold ruagg at HTM HTO
    unfold ruarr at R0 HW HC2 HTM HTO ⊢
    go_enter Try.func54, Try.ntmps54
    go_upto_region 1 with fail
    rw [HW.out, HP.out]
    clear HW
    go_wp2_with fail
    refine (HC.out _ R0.out.out.2).mono ?_
    rintro e w1 ⟨rfl, hb1⟩
    have R1 := Lib.hid (R0.out.below hb1)
    clear R0 hb1 HC
    have hld := load_ru R1.out.out.1 rfl
    go_wp2_with (refine wpList_load_any (by rfl) 25 (.tmp 4) rfl p 0 rfl _ hld ?_; simp only [Act.put])
    refine (HC2.out _).mono ?_
    rintro e w2 ⟨rfl, hb2⟩
    have R2 := Lib.hid (R1.out.below hb2)
    clear R1 hb2 hld HC2
    go_wp2_with (first | (go_at_call 43; refine (HC3.out _).mono ?_; rintro e w' ⟨rfl, rfl⟩) | (go_at_call 68; refine (HSZ.out _ R2.out.out.2).mono ?_; rintro e w3 ⟨rfl, hb3⟩))
    have R3 := Lib.hid (R2.out.below hb3)
    clear R2 hb3 HSZ HC3 hsl
    go_loopw [8, 34] (fun v i wr => ∃ k z : Nat, k ≤ n ∧ sizeL ((closed l).drop k) = z ∧ v = .int .i64 (z : Int) ∧ i = .int .i64 (k : Int) ∧ RBox w p #[.int .i64 r.sb, .int .i64 r.by_, .int .i64 r.ag, .bool r.co, .int .i64 r.gr] wr ∧ GoTo r now l k) (fun _ i _ => n - (RowKit.intOf i).toNat)
    case atStart => exact ⟨0, z0, Nat.zero_le _, HZ0.out, rfl, rfl, R3.out, fun j hj => absurd hj (Nat.not_lt_zero _)⟩
    case round =>
      obtain ⟨k, z, hk, hz, rfl, rfl, hbx, hgo⟩ := hrel
      have HG := Lib.hid hgo
      have HZ := Lib.hid hz
      have R := Lib.hid hbx
      clear hbx hz hgo R3
      by_cases hlt : k < n
      · have hlr : k < l.length := by rw [HN.out]; omega
        have hlc : k < (closed l).length := by rw [closed_len, HNL.out]; exact hlt
        have hce := closed_at hlc hlr
        obtain ⟨b0, o0, rfl, hb0, hc⟩ := (HH.out.below R.out.out.2).some_ (by omega)
        obtain ⟨A1, c1, hsg⟩ := hc k hlr
        have hseg := HSG.out _ (List.getElem_mem hlr)
        obtain ⟨z1, hz1⟩ : ∃ z1, (allL l[k].rs).length = z1 := ⟨_, rfl⟩
        obtain ⟨z', hz'⟩ : ∃ z', sizeL ((closed l).drop (k + 1)) = z' := ⟨_, rfl⟩
        have hsum : z = z1 + z' := by rw [← HZ.out, size_drop hlc, hce, hz1, hz']
        have hzm : z ≤ 84420000 := by rw [← HZ.out]; exact Nat.le_trans (size_drop_le _ _) HMX.out
        obtain ⟨Mu, hMu⟩ : ∃ Mu, muchB r z = Mu := ⟨_, rfl⟩
        obtain ⟨Ol, hOl⟩ : ∃ Ol, oldB r now l[k].rs = Ol := ⟨_, rfl⟩
        have HGK0 : Hid (goesB r now l k = (Mu || Ol)) := by
          show _ = _
          unfold goesB
          rw [HZ.out, hMu, List.getD_eq_getElem?_getD, List.getElem?_eq_getElem hlr, Option.getD_some, hOl]
        have HGO : Hid (goesB r now l k = true → GoTo r now l (k + 1)) := by
          show _ → _
          intro hg j hj
          by_cases c : j < k
          · exact HG.out j c
          · obtain rfl : j = k := by omega
            exact hg
        have HST : Hid (goesB r now l k = false → m = k) := by
          show _ → _
          intro hg
          exact old_one HO.out ⟨by rw [HNL.out]; omega, HG.out, fun _ => hg⟩
        have HZN := Lib.hid hz'
        have HMM := Lib.hid (fun W => HTM.out z Mu W hMu)
        clear hc hMu hz' hce hlc HG HZ
        generalize l[k] = s at hsg hseg hz1 hOl
        obtain ⟨sb, srs⟩ := s
        obtain ⟨s0, s1, hA, hcp, hlim⟩ := hsg
        dsimp only at s0 s1 hA hcp hlim hseg hz1 hOl
        obtain ⟨M, hM⟩ : ∃ M, srs.length = M := ⟨_, rfl⟩
        have HOO := Lib.hid (fun W (hb : Below wr.heap.size wr W) => HTO.out sb srs M A1 c1 w.heap.size Ol W hM (by omega) (fun a ha => by have := (may_iff _).1 (seg_may hseg a ha); exact ⟨this.2.2.1, this.2.2.2.1⟩) (Nat.le_trans R.out.out.2.size hb.size) (hA.below (hb.mono R.out.out.2.size)) hOl)
        have HS1 := Lib.hid (fun W (hb0 : Below w.heap.size w W) (hb : Below wr.heap.size wr W) => show Calls Try.prog 68 #[.slice (some ⟨W.heap.size, 0, none⟩) 1 1] (W.alloc (.cells #[.int .i64 sb, .slice A1 M c1] 49)) (fun e w' => e = .returned (.int .i64 (z1 : Int)) ∧ Below W.heap.size W w') from by
          have hba := (Below.refl W.heap.size W).alloc (Nat.le_refl _) (.cells #[.int .i64 sb, .slice A1 M c1] 49)
          have hk := Blk.new W 49 #[.int .i64 sb, .slice A1 M c1]
          refine (sizeOf_is [⟨sb, srs⟩] 1 (some ⟨W.heap.size, 0, none⟩) 1 (W.heap.size + 1) z1 _ rfl (by omega) (by simp) (.inr ⟨W.heap.size, 0, rfl, Nat.lt_succ_self _, fun j hj => ?_⟩) (fun s hs => by rw [List.mem_singleton.1 hs]; exact hseg) (by simp [sizeL, hz1])).mono fun e w' hh => ⟨hh.1, bel_step hba hh.2⟩
          have hj0 : j = 0 := by simpa using hj
          subst hj0
          have hA2 : RecsAt (W.alloc (.cells #[.int .i64 sb, .slice A1 M c1] 49)) (W.heap.size + 1) A1 srs := ((hA.below (hb.mono R.out.out.2.size)).mono (show w.heap.size ≤ W.heap.size from hb0.size)).alloc (Nat.le_refl _) _ |>.mono (Nat.le_succ _)
          exact ⟨A1, c1, ⟨hk.cell 0, by subst hM; exact hk.cell 1, hA2, hcp, hlim⟩⟩)
        rw [hM] at s1 hcp hlim
        have hld := load_seg_at s0 s1
        obtain ⟨g9, W4, hg9, hW4, hbn, hbx, hbw⟩ := any_box R.out.out.2 49 szero (sarr sb A1 M c1)
        have HBN := Lib.hid hbn
        have HBX := Lib.hid hbx
        have HBW := Lib.hid hbw
        have R4 := Lib.hid (R.out.below hbw)
        unfold szero at hW4
        unfold sarr at HBX HBW R4
        have HW4 := Lib.hid hW4
        clear hbn hbx hbw hW4 hM hA hcp hlim R hlr hseg hz1 hOl HTM HTO
        have e1 : (k : Int) < (n : Int) := by omega
        have e6 : (z : Int) - (z1 : Int) = (z' : Int) := by omega
        have hzm2 : (z' : Int) ≤ 84420000 := by omega
        clear e5 hsum hzm
        go_upto_region 8 with (first | (refine wpList_load_any (by rfl) 49 (.tmp 37) rfl b0 (o0 + k * 2) rfl _ hld ?_; simp only [Act.put]) | (rw [HW4.out]; refine wpList_store_whole rfl 49 (.tmp 10) (.tmp 38) rfl g9 _ rfl rfl szero HBN.out info_seg rfl (by simp [Value.oneCell']) ?_; simp only [Act.put]))
        clear HW4 HBN s0 s1 hg9 hld
        generalize World.setRow _ _ _ = w5 at HBX HBW R4 ⊢
        have hlr := load_ru R4.out.out.1 rfl
        go_wp2_with (refine wpList_load_any (by rfl) 25 (.tmp 4) rfl p 0 rfl _ hlr ?_; simp only [Act.put])
        refine (HMM.out _).mono ?_
        rintro e w7 ⟨rfl, hb7⟩
        have R7 := Lib.hid (R4.out.below hb7)
        have HBX7 := Lib.hid (HBX.out.below hb7)
        have HBW7 := Lib.hid (bel_step HBW.out hb7)
        clear R4 HBX HBW hb7 hlr HMM
        cases Mu with
        | true =>
          have HGK : Hid (goesB r now l k = true) := by show _ = _; rw [HGK0.out]; rfl
          clear HGK0 HST HOO
          (try dsimp only)
          have hld := HBX7.out.loadS rfl
          go_wp2_with (refine wpList_load_any (by rfl) 49 (.tmp 10) rfl g9 0 rfl _ hld ?_; simp only [Act.put])
          refine (HS1.out _ R7.out.out.2 HBW7.out).mono ?_
          rintro e w6 ⟨rfl, hb6⟩
          have R6 := Lib.hid (R7.out.below hb6)
          clear R7 hb6 hld HS1 HBX7 HBW7
          go_wp2_with fail
          go_roundw
          case rel => exact ⟨k + 1, z', hlt, HZN.out, by go_num, by go_num, R6.out, HGO.out HGK.out⟩
          case measure => simp [RowKit.intOf]; omega
        | false =>
          have hlr := load_ru R7.out.out.1 rfl
          have hld := HBX7.out.loadS rfl
          (try dsimp only)
          go_wp2_with (first | (refine wpList_load_any (by rfl) 49 (.tmp 10) rfl g9 0 rfl _ hld ?_; simp only [Act.put]) | (refine wpList_load_any (by rfl) 25 (.tmp 4) rfl p 0 rfl _ hlr ?_; simp only [Act.put]))
          refine (HOO.out _ HBW7.out).mono ?_
          rintro e w8 ⟨rfl, hb8⟩
          have R8 := Lib.hid (R7.out.below hb8)
          have HBX8 := Lib.hid (HBX7.out.below hb8)
          have HBW8 := Lib.hid (bel_step HBW7.out hb8)
          clear R7 HBX7 HBW7 hb8 hlr hld HOO
          cases Ol with
          | true =>
            have HGK : Hid (goesB r now l k = true) := by show _ = _; rw [HGK0.out]; rfl
            clear HGK0 HST
            (try dsimp only)
            have hld := HBX8.out.loadS rfl
            go_wp2_with (refine wpList_load_any (by rfl) 49 (.tmp 10) rfl g9 0 rfl _ hld ?_; simp only [Act.put])
            refine (HS1.out _ R8.out.out.2 HBW8.out).mono ?_
            rintro e w6 ⟨rfl, hb6⟩
            have R6 := Lib.hid (R8.out.below hb6)
            clear R8 hb6 hld HS1 HBX8 HBW8
            go_wp2_with fail
            go_roundw
            case rel => exact ⟨k + 1, z', hlt, HZN.out, by go_num, by go_num, R6.out, HGO.out HGK.out⟩
            case measure => simp [RowKit.intOf]; omega
          | false =>
            obtain rfl : m = k := HST.out (by rw [HGK0.out]; rfl)
            (try dsimp only)
            go_wp2_with fail
            go_ret
            exact ⟨rfl, R8.out.out.2⟩
      · obtain rfl : k = n := by omega
        obtain rfl : m = k := old_one HO.out ⟨by rw [HNL.out]; exact Nat.le_refl _, HG.out, fun h => absurd h (by rw [HNL.out]; omega)⟩
        go_wp2_with fail
        go_ret
        exact ⟨rfl, R.out.out.2⟩
end Go.Proofs.Ythdefnfpjbpbkaa.Kpd
/- Package keep: Old, as its caller has it. -/
namespace Go.Proofs.Ythdefnfpjbpbkaa.Kpd
open Go.RowKit Go.Lib Rcd

theorem as_int (v : Value) (w : World) : (Instr.typeAssert (.iface 3 v) 20 3 true).run Try.prog w = .ok (.tuple #[v, .bool true]) w := by kernel_rfl
theorem not_int (v : Value) (w : World) : (Instr.typeAssert (.iface 30 v) 20 3 true).run Try.prog w = .ok (.tuple #[.int .i64 0, .bool false]) w := by kernel_rfl
theorem as_err (v : Value) (w : World) : (Instr.typeAssert (.iface 30 v) 20 30 false).run Try.prog w = .ok v w := by kernel_rfl
/-- What Old tells: how many, and an error's kind. -/
inductive OldT (l : List Sp) (r : Ru) (now : Int) : Nat → Int → Prop
  | no (h : askB l r now = false) : OldT l r now 0 1
  | yes (m : Nat) (h : askB l r now = true) (h4 : OldIs r now l m) : OldT l r now m 0
theorem oldT_ex (l : List Sp) (r : Ru) (now : Int) : ∃ m E, OldT l r now m E := by
  cases h : askB l r now with
  | false => exact ⟨_, _, .no h⟩
  | true =>
    obtain ⟨m, hm⟩ := old_ex r now l
    exact ⟨_, _, .yes m h hm⟩
theorem oldV_no {l : List Sp} {r : Ru} {now : Int} (h : askB l r now = false) : OldV l r now (.iface 30 (.int .i64 1)) := by
  unfold askB at h
  cases h1 : rowB l with
  | false => exact .row h1
  | true =>
    rw [h1, Bool.true_and] at h
    cases h2 : ruB r with
    | false => exact .rules h1 h2
    | true =>
      rw [h2, Bool.true_and] at h
      exact .time h1 h2 h

set_option maxRecDepth 100000 in
set_option maxHeartbeats 4000000 in
/-- keep.Old. -/
theorem Old_is (l : List Sp) (r : Ru) (now : Int) (N : Nat) (A : Option Addr) (c B m : Nat) (E : Int) (w : World) (hN : l.length = N) (hm : N ≤ 9223372036854775807) (hcap : N ≤ c) (hB : B ≤ w.heap.size) (h : SegsAt w B A l) (hT : OldT l r now m E) :
    Calls Try.prog 49 #[.slice A N c, ruagg r, .int .i64 now] w fun e w' => e = .returned (.tuple #[.int .i64 (m : Int), .int .i64 E]) ∧ Below w.heap.size w w' := by
  have R0 := Lib.hid (RBox.new w 25 (ruarr r.sb r.by_ r.ag r.co r.gr))
  have HO := Lib.hid (fun V W (hb : Below w.heap.size w W) (hV : OldV l r now V) => old_is l r now N A c B V W hN hm hcap (Nat.le_trans hB hb.size) (h.below (hb.mono hB)) hV)
  unfold ruagg at HO ⊢
  obtain ⟨p, hp⟩ : ∃ p, w.heap.size = p := ⟨_, rfl⟩
  obtain ⟨W0, hW⟩ : ∃ W0, w.alloc (.cells (ruarr r.sb r.by_ r.ag r.co r.gr) 25) = W0 := ⟨_, rfl⟩
  rw [hW, hp] at R0
  have HW := Lib.hid hW
  have HP := Lib.hid hp
  clear hW hp h hB hN hm hcap
  cases hT with
  | no h1 =>
    have HC := Lib.hid (fun W hb => HO.out _ W hb (oldV_no h1))
    have hni := not_int (.int .i64 1)
    have hae := as_err (.int .i64 1)
    clear HO h1
    unfold ruarr at R0 HW HC ⊢
    go_enter Try.func49, Try.ntmps49
    go_upto_region 1 with fail
    rw [HW.out, HP.out]
    clear HW HP
    have hld := load_ru R0.out.out.1 rfl
    go_wp2_with (refine wpList_load_any (by rfl) 25 (.tmp 4) rfl p 0 rfl _ hld ?_; simp only [Act.put])
    refine (HC.out _ R0.out.out.2).mono ?_
    rintro e w1 ⟨rfl, hb1⟩
    have R1 := Lib.hid (R0.out.below hb1)
    clear R0 hb1 HC hld
    go_wp2_with fail
    go_quiet (fail)
    go_wp2_with fail
    go_ret2
    exact ⟨rfl, below_drewN R1.out.out.2 _⟩
  | yes m h1 h4 =>
    obtain ⟨a1, a2, a3⟩ := ask_parts h1
    have HC := Lib.hid (fun W hb => HO.out _ W hb (.good m a1 a2 a3 h4))
    have hai := as_int (.int .i64 (m : Int))
    clear HO h1 h4 a1 a2 a3
    unfold ruarr at R0 HW HC ⊢
    go_enter Try.func49, Try.ntmps49
    go_upto_region 1 with fail
    rw [HW.out, HP.out]
    clear HW HP
    have hld := load_ru R0.out.out.1 rfl
    go_wp2_with (refine wpList_load_any (by rfl) 25 (.tmp 4) rfl p 0 rfl _ hld ?_; simp only [Act.put])
    refine (HC.out _ R0.out.out.2).mono ?_
    rintro e w1 ⟨rfl, hb1⟩
    have R1 := Lib.hid (R0.out.below hb1)
    clear R0 hb1 HC hld
    go_wp2_with fail
    go_ret2
    exact ⟨rfl, R1.out.out.2⟩
end Go.Proofs.Ythdefnfpjbpbkaa.Kpd
/- Package keep: the segments that are left. -/
namespace Go.Proofs.Ythdefnfpjbpbkaa.Kpd
open Go.RowKit Go.Lib Rcd

theorem row_short {l : List Sp} (h : rowB l = true) : ∀ s ∈ l, s.rs.length ≤ 200 ∧ ∀ r ∈ s.rs, Short r := by
  intro s hs
  have h1 := row_segs h s hs
  exact ⟨seg_len h1, fun r hr => short_of (seg_may h1 r hr)⟩
/-- What is left, and the error. -/
def LeftIs (l : List Sp) (r : Ru) (now : Int) (K : List Sp) (E : Int) : Prop := (E = 1 ∧ K = [] ∧ askB l r now = false) ∨ (E = 0 ∧ askB l r now = true ∧ ∃ m, OldIs r now l m ∧ K = l.drop m)
theorem left_ex (l : List Sp) (r : Ru) (now : Int) : ∃ K E, LeftIs l r now K E := by
  cases h : askB l r now with
  | false => exact ⟨_, _, .inl ⟨rfl, rfl, h⟩⟩
  | true =>
    obtain ⟨m, hm⟩ := old_ex r now l
    exact ⟨_, _, .inr ⟨rfl, h, m, hm, rfl⟩⟩

set_option maxRecDepth 100000 in
set_option maxHeartbeats 8000000 in
/-- keep.Keep. -/
theorem Keep_is (l K : List Sp) (r : Ru) (now : Int) (N L : Nat) (A : Option Addr) (c B : Nat) (E : Int) (w : World) (hN : l.length = N) (hm : N ≤ 9223372036854775807) (hcap : N ≤ c) (hB : B ≤ w.heap.size) (h : SegsAt w B A l) (hL : K.length = L) (hK : LeftIs l r now K E) :
    Calls Try.prog 44 #[.slice A N c, ruagg r, .int .i64 now] w fun e w' => ∃ A' c' xs, e = .returned (.tuple #[.slice A' L c', .int .i64 E]) ∧ OwnS w' w.heap.size (.slice A' L c') K xs ∧ Below w.heap.size w w' := by
  have R0 := Lib.hid (RBox.new w 25 (ruarr r.sb r.by_ r.ag r.co r.gr))
  have HO := Lib.hid (fun m E W (hb : Below w.heap.size w W) (hT : OldT l r now m E) => Old_is l r now N A c B m E W hN hm hcap (Nat.le_trans hB hb.size) (h.below (hb.mono hB)) hT)
  unfold ruagg at HO ⊢
  obtain ⟨p, hp⟩ : ∃ p, w.heap.size = p := ⟨_, rfl⟩
  obtain ⟨W0, hW⟩ : ∃ W0, w.alloc (.cells (ruarr r.sb r.by_ r.ag r.co r.gr) 25) = W0 := ⟨_, rfl⟩
  rw [hW, hp] at R0
  have H := Lib.hid (h.mono hB)
  have HW := Lib.hid hW
  have HP := Lib.hid hp
  have HLL := Lib.hid hL
  clear hW hp h hB
  rcases hK with ⟨rfl, rfl, h1⟩ | ⟨rfl, h1, m, h4, hKm⟩
  · obtain rfl : L = 0 := hL.symm
    have HC := Lib.hid (fun W hb => HO.out 0 1 W hb (.no h1))
    clear HO h1 H hm hcap
    rw [show ((0 : Nat) : Int) = 0 from rfl] at HC
    unfold ruarr at R0 HW HC ⊢
    go_enter Try.func44, Try.ntmps44
    go_upto_region 1 with fail
    rw [HW.out, HP.out]
    clear HW
    have hld := load_ru R0.out.out.1 rfl
    go_wp2_with (refine wpList_load_any (by rfl) 25 (.tmp 4) rfl p 0 rfl _ hld ?_; simp only [Act.put])
    refine (HC.out _ R0.out.out.2).mono ?_
    rintro e w1 ⟨rfl, hb1⟩
    have R1 := Lib.hid (R0.out.below hb1)
    clear R0 hb1 HC hld
    go_wp2_with fail
    go_ret2
    exact ⟨none, 0, [], rfl, .nil _ _, R1.out.out.2⟩
  · obtain ⟨i0, hi, hz0, hz1, hz2⟩ := info_parts info_smore
    have HC := Lib.hid (fun W hb => HO.out m 0 W hb (.yes m h1 h4))
    have hrow := (ask_parts h1).1
    have hlen := (row_iff.1 hrow).1
    rw [hN] at hlen
    have hml := h4.le
    rw [hN] at hml
    have HSH := Lib.hid (row_short hrow)
    obtain ⟨b1, o1, rfl, _, _⟩ := H.out.some_ (by omega)
    obtain ⟨A2, hrest, hdrop⟩ := segs_rest (some ⟨b1, o1, none⟩) N c m (.inr ⟨_, _, rfl⟩) (by omega) hcap
    have HKAT := Lib.hid (fun W (hb : Below w.heap.size w W) => (show SegsAt W w.heap.size A2 K by rw [hKm]; exact hdrop W _ l hN (H.out.below hb)))
    have HSK : Hid (∀ s ∈ K, s.rs.length ≤ 200 ∧ ∀ r ∈ s.rs, Short r) := by
      show ∀ s ∈ K, _
      intro s hs
      rw [hKm] at hs
      exact HSH.out s (List.drop_subset _ _ hs)
    have hLm : N - m = L := by rw [← hL, hKm, List.length_drop, hN]
    rw [hLm] at hrest
    have hLb : L ≤ 201 := by omega
    have hmN : (m : Int) ≤ (N : Int) := by omega
    have hrest2 := hrest
    clear hrest hdrop HO h1 hrow h4 hKm H HSH hL hlen hml hN hm hLm
    unfold ruarr at R0 HW HC ⊢
    go_enter Try.func44, Try.ntmps44
    go_upto_region 1 with fail
    rw [HW.out, HP.out]
    clear HW
    have hld := load_ru R0.out.out.1 rfl
    go_wp2_with (refine wpList_load_any (by rfl) 25 (.tmp 4) rfl p 0 rfl _ hld ?_; simp only [Act.put])
    refine (HC.out _ R0.out.out.2).mono ?_
    rintro e w1 ⟨rfl, hb1⟩
    have R1 := Lib.hid (R0.out.below hb1)
    clear R0 hb1 HC hld
    go_wp2_with fail
    go_loopw [10, 27] (fun v i wr => ∃ (k : Nat) (xs : List Sx), k ≤ L ∧ i = .int .i64 (k : Int) ∧ OwnS wr w.heap.size v (K.take k) xs ∧ Below w.heap.size w wr) (fun _ i _ => L - (RowKit.intOf i).toNat)
    case atStart => exact ⟨0, [], Nat.zero_le _, rfl, .nil _ _, R1.out.out.2⟩
    case round =>
      obtain ⟨k, xs, hk, rfl, hown, hbl⟩ := hrel
      have HOW := Lib.hid hown
      have HB := Lib.hid hbl
      clear hown hbl R1 hrest2 hmN
      by_cases hlt : k < L
      · have hlr : k < K.length := by rw [HLL.out]; exact hlt
        obtain ⟨b0, o0, rfl, hb0, hc⟩ := (HKAT.out _ HB.out).some_ (by omega)
        obtain ⟨A1, c1, hsg⟩ := hc k hlr
        have hsh := HSK.out _ (List.getElem_mem hlr)
        have hsn := takeS_snoc hlr
        have hkl : (K.take k).length = k := by rw [List.length_take]; omega
        clear hc
        generalize K[k] = s at hsg hsh hsn
        obtain ⟨sb, srs⟩ := s
        obtain ⟨s0, s1, hA, hcp, hlim⟩ := hsg
        dsimp only at s0 s1 hA hcp hlim hsh hsn
        obtain ⟨M, hM⟩ : ∃ M, srs.length = M := ⟨_, rfl⟩
        have hM200 : M ≤ 200 := by rw [← hM]; exact hsh.1
        have HCP := Lib.hid (fun W (hb : Below wr.heap.size wr W) => kCopy_is sb srs M A1 c1 w.heap.size W hM (by omega) hsh.2 (Nat.le_trans HB.out.size hb.size) (hA.below (hb.mono HB.out.size)))
        have HSN := Lib.hid hsn
        have HLIM := Lib.hid hlim
        have HM := Lib.hid hM
        have HKL := Lib.hid hkl
        rw [hM] at s1
        have hld := load_seg_at s0 s1
        obtain ⟨g9, W4, hg9, hW4, hbn, hbx, hbw⟩ := any_box HB.out 49 szero (sarr sb A1 M c1)
        have HBN := Lib.hid hbn
        have HBX := Lib.hid hbx
        have HBW := Lib.hid hbw
        unfold szero at hW4
        unfold sarr at HBX HBW
        have HW4 := Lib.hid hW4
        clear hbn hbx hbw hW4 hM hA hcp hlim hlr hsh hsn hkl hM200
        have e1 : (k : Int) < (L : Int) := by omega
        go_upto_region 8 with (first | (refine wpList_load_any (by rfl) 49 (.tmp 29) rfl b0 (o0 + k * 2) rfl _ hld ?_; simp only [Act.put]) | (rw [HW4.out]; refine wpList_store_whole rfl 49 (.tmp 12) (.tmp 30) rfl g9 _ rfl rfl szero HBN.out info_seg rfl (by simp [Value.oneCell']) ?_; simp only [Act.put]))
        clear HW4 HBN s0 s1 hg9 hld
        generalize World.setRow _ _ _ = w5 at HBX HBW ⊢
        have hld := HBX.out.loadS rfl
        go_wp2_with (refine wpList_load_any (by rfl) 49 (.tmp 12) rfl g9 0 rfl _ hld ?_; simp only [Act.put])
        refine (HCP.out _ HBW.out).mono ?_
        rintro e w6 ⟨A3, c3, rfl, hr6, hb6⟩
        have O5 := Lib.hid (HOW.out.below HBW.out)
        have hB5 : w.heap.size ≤ w5.heap.size := HBX.out.out.2.size
        have B6 := Lib.hid (bel_step HBX.out.out.2 hb6)
        have HR6 := Lib.hid hr6
        have HB6 := Lib.hid hb6
        have HRW := Lib.hid (own_below O5.out.row hb6)
        rw [HKL.out] at HRW
        have hs6 := B6.out.size
        clear HBX HBW hb6 hr6 hld HCP HOW HB
        go_wp2_with (at_builtin; refine wpList_append_own _ rfl _ _ 23 rfl w.heap.size 49 i0 (.agg #[.int .i64 0, .slice none 0 0]) 2 32 Try.underlying23 hi hz0 hz1 hz2 rfl (by decide) _ _ _ rfl (HRW.out.alloc _) ⟨w6.heap.size, 0, none⟩ 1 1 [.int .i64 sb, .slice A3 M c3] rfl rfl ?c1 ?c2 ?c3 ?c4 ?c5 ?_)
        case c1 => exact fun j u h => cells_new w6 _ [.int .i64 sb, .slice A3 M c3] j u h
        case c2 => exact fun u hu => by simp at hu; rcases hu with rfl | rfl <;> rfl
        case c3 => unfold maxLen; omega
        case c4 => first | omega | (simp; omega)
        case c5 => first | omega | (simp; omega)
        intro v' w7 hown' hgrow _
        have hB7 := Lib.hid (B6.out.trans (below_alloc_grown hs6 HRW.out hgrow))
        have hO7 : OwnS w7 w.heap.size v' (K.take (k + 1)) (xs ++ [⟨⟨sb, srs⟩, A3, c3⟩]) := by
          rw [HSN.out]
          refine OwnS.snoc O5.out hB5 HB6.out (by rw [HM.out]; exact HR6.out) HLIM.out hgrow ?_
          rw [HKL.out, HM.out]
          exact hown'
        have O7 := Lib.hid hO7
        clear hO7 hown' hgrow O5 B6 HR6 HB6 HRW
        go_wp2_with fail
        go_roundw
        case rel => exact ⟨k + 1, _, hlt, by go_num, O7.out, hB7.out⟩
        case measure => simp [RowKit.intOf]; omega
      · obtain rfl : k = L := by omega
        rw [List.take_of_length_le (by rw [HLL.out]; exact Nat.le_refl _)] at HOW
        obtain ⟨A', c', hv⟩ := row_slice HOW.out.row
        rw [HLL.out] at hv
        subst hv
        go_wp2_with fail
        go_ret2
        exact ⟨A', c', xs, rfl, HOW.out, HB.out⟩
end Go.Proofs.Ythdefnfpjbpbkaa.Kpd
/- Package fold: copies of segments. -/
namespace Go.Proofs.Ythdefnfpjbpbkaa.Kpd
open Go.RowKit Go.Lib Rcd

/-- May the segments and the time be? -/
def cpB (l : List Sp) (now : Int) : Bool := rowB l && decide (0 ≤ now ∧ now ≤ 1099511627776)
/-- What copies are, and the error. -/
def CpIs (l : List Sp) (now : Int) (K : List Sp) (E : Int) : Prop := (E = 1 ∧ K = [] ∧ cpB l now = false) ∨ (E = 0 ∧ cpB l now = true ∧ K = l)
theorem cp_ex (l : List Sp) (now : Int) : ∃ K E, CpIs l now K E := by
  cases h : cpB l now with
  | false => exact ⟨_, _, .inl ⟨rfl, rfl, h⟩⟩
  | true => exact ⟨_, _, .inr ⟨rfl, h, rfl⟩⟩
def r0 : Ru := ⟨1, -1, -1, false, 0⟩
theorem cp_left {l : List Sp} {now : Int} {K : List Sp} {E : Int} (h : CpIs l now K E) : LeftIs l r0 now K E := by
  have e : askB l r0 now = cpB l now := by unfold askB cpB; rw [show ruB r0 = true from by decide, Bool.true_and]
  rcases h with ⟨h1, h2, h3⟩ | ⟨h1, h2, h3⟩
  · exact .inl ⟨h1, h2, e.trans h3⟩
  · exact .inr ⟨h1, e.trans h2, 0, old_free rfl rfl, by rw [List.drop_zero]; exact h3⟩

set_option maxRecDepth 100000 in
set_option maxHeartbeats 4000000 in
/-- fold.copies. -/
theorem Copies_is (l K : List Sp) (now : Int) (N L : Nat) (A : Option Addr) (c B : Nat) (E : Int) (w : World) (hN : l.length = N) (hm : N ≤ 9223372036854775807) (hcap : N ≤ c) (hB : B ≤ w.heap.size) (h : SegsAt w B A l) (hL : K.length = L) (hK : CpIs l now K E) :
    Calls Try.prog 34 #[.slice A N c, .int .i64 now] w fun e w' => ∃ A' c' xs, e = .returned (.tuple #[.slice A' L c', .int .i64 E]) ∧ OwnS w' w.heap.size (.slice A' L c') K xs ∧ Below w.heap.size w w' := by
  have HC := Lib.hid (Keep_is l K r0 now N L A c B E w hN hm hcap hB h hL (cp_left hK))
  unfold ruagg ruarr r0 at HC
  dsimp only at HC
  clear hK h hB hL hN hm hcap
  go_enter Try.func34, Try.ntmps34
  go_wp2_with fail
  refine HC.out.mono ?_
  rintro e w1 ⟨A', c', xs, rfl, ho, hb1⟩
  have HO := Lib.hid ho
  have HB := Lib.hid hb1
  clear ho hb1 HC
  go_wp2_with fail
  go_ret2
  exact ⟨A', c', xs, rfl, HO.out, HB.out⟩
end Go.Proofs.Ythdefnfpjbpbkaa.Kpd
/- What package fold answers: what is left, and the error. -/
namespace Go.Proofs.Ythdefnfpjbpbkaa.Kpd
open Go.RowKit Go.Lib Rcd

/-- What folded segments are, and the error. -/
def FoldIs (l : List Sp) (r : Ru) (now : Int) (K : List Sp) (E : Int) : Prop := (E = 1 ∧ K = [] ∧ askB l r now = false) ∨ (E = 0 ∧ askB l r now = true ∧ ∃ l0 u, l = l0 ++ [u] ∧ K = foldR r now l0 u)
theorem fold_ex (l : List Sp) (r : Ru) (now : Int) : ∃ K E, FoldIs l r now K E := by
  cases h : askB l r now with
  | false => exact ⟨_, _, .inl ⟨rfl, rfl, h⟩⟩
  | true =>
    have h1 := (row_iff.1 (ask_parts h).1).1
    rcases List.eq_nil_or_concat l with rfl | ⟨l0, u, rfl⟩
    · exact absurd h1.1 (by simp)
    · exact ⟨_, _, .inr ⟨rfl, by rw [← h], l0, u, by simp, rfl⟩⟩
/-- What the last ones are, and the error. -/
def LastIs (l : List Sp) (K : List Rc) (E : Int) : Prop := (E = 1 ∧ K = [] ∧ rowB l = false) ∨ (E = 0 ∧ rowB l = true ∧ K = lastsL (recsOf l))
theorem last_ex (l : List Sp) : ∃ K E, LastIs l K E := by
  cases h : rowB l with
  | false => exact ⟨_, _, .inl ⟨rfl, rfl, h⟩⟩
  | true => exact ⟨_, _, .inr ⟨rfl, h, rfl⟩⟩
theorem lastsL_len (all : List Rc) : (lastsL all).length ≤ all.length := by
  have h1 := foldl_len (lastsOf all) []
  have h2 := lasts_short all
  unfold lastsL
  rw [h1]
  simpa using h2
theorem foldR_row {r : Ru} {now : Int} {l : List Sp} {u : Sp} (h : rowB (l ++ [u]) = true) : rowB (foldR r now l u) = true := by
  unfold foldR
  cases r.co with
  | false => exact h
  | true => exact row_fold h
end Go.Proofs.Ythdefnfpjbpbkaa.Kpd
/- Package fold: what is left, and what is still to come, while segments are folded in place. -/
namespace Go.Proofs.Ythdefnfpjbpbkaa.Kpd
open Go.RowKit Go.Lib Go.Maps Rcd

theorem Apart.symm {x y : Sx} (h : Apart x y) : Apart y x := fun g h1 h2 => h g h2 h1
theorem ob_len (A : Option Addr) (n n' c c' : Nat) : (Value.slice A n c).ownBlock = (Value.slice A n' c').ownBlock := by cases A <;> rfl
theorem apart_to {y : Sx} {b : Int} {rs rs' : List Rc} {A : Option Addr} {c : Nat} (h : Apart y ⟨⟨b, rs⟩, A, c⟩) : Apart y ⟨⟨b, rs'⟩, A, c⟩ := fun g h1 h2 => h g h1 ((ob_len A rs.length rs'.length c c).trans h2)
theorem apart_from {y : Sx} {b : Int} {rs rs' : List Rc} {A : Option Addr} {c : Nat} (h : Apart ⟨⟨b, rs⟩, A, c⟩ y) : Apart ⟨⟨b, rs'⟩, A, c⟩ y := fun g h1 h2 => h g ((ob_len A rs.length rs'.length c c).trans h1) h2
theorem cell_grown (w : World) (g i : Nat) (v : Value) : w.grownBy (w.setCell ⟨g, i, none⟩ v) (some g) :=
  ⟨rfl, rfl, rfl, by simp [World.setCell], fun k _ hne => Below.heap_setCell w ⟨g, i, none⟩ v k (fun e => hne (by rw [e]))⟩
/-- What is left so far: segments in a row at block T or above, their records below it; what is to come of the row xs. -/
structure Fst (B T : Nat) (A1 : Option Addr) (N c1 : Nat) (xs : List Sx) (k : Nat) (v : Value) (K : List Sp) (ys : List Sx) (w : World) : Prop where
  lmap : ys.map (·.s) = K
  lrow : w.ownsRow T 49 2 v K.length (xflat ys)
  lown : ∀ y ∈ ys, w.ownsRow B 46 6 y.v y.s.rs.length (flat y.s.rs) ∧ y.s.rs.length * 64 ≤ 140737488351232 ∧ ∀ g, y.v.ownBlock = some g → g < T
  loff : ∀ i j (hi : i < ys.length) (hj : j < ys.length), i ≠ j → Apart ys[i] ys[j]
  row : w.ownsRow B 49 2 (.slice A1 N c1) N (xflat xs)
  rest : ∀ j (hj : j < xs.length), k ≤ j → w.ownsRow B 46 6 xs[j].v xs[j].s.rs.length (flat xs[j].s.rs)
  off : ∀ j (hj : j < xs.length), k ≤ j → ∀ y ∈ ys, Apart y xs[j]
/-- What is known of the row from the first on. -/
structure Low (T : Nat) (A1 : Option Addr) (N c1 : Nat) (xs : List Sx) : Prop where
  len : xs.length = N
  low : ∀ x ∈ xs, ∀ g, x.v.ownBlock = some g → g < T
  rlow : ∀ g, (Value.slice A1 N c1).ownBlock = some g → g < T
  off : ∀ i j (hi : i < xs.length) (hj : j < xs.length), i ≠ j → Apart xs[i] xs[j]
  lim : ∀ x ∈ xs, x.s.rs.length * 64 ≤ 140737488351232
section
variable {w w' : World} {B T N c1 k : Nat} {A1 : Option Addr} {xs ys : List Sx} {v : Value} {K : List Sp}
theorem Low.of_own {l : List Sp} (hN : l.length = N) (h : OwnS w B (.slice A1 N c1) l xs) : Low w.heap.size A1 N c1 xs := by
  refine ⟨h.len.trans hN, fun x hx g hg => ((h.own x hx).1.lt g hg).2, fun g hg => ?_, h.off, fun x hx => (h.own x hx).2⟩
  have := h.row
  rw [hN] at this
  exact (this.lt g hg).2
theorem Fst.start {l : List Sp} (hN : l.length = N) (h : OwnS w B (.slice A1 N c1) l xs) : Fst B T A1 N c1 xs 0 (.slice none 0 0) [] [] w :=
  ⟨rfl, World.ownsRow_nil _ _ _ _, (fun y hy => by cases hy), (fun i j hi => by simp at hi), (by have := h.row; rwa [hN] at this), (fun j hj _ => (h.own _ (List.getElem_mem hj)).1), (fun j _ _ y hy => by cases hy)⟩
theorem Fst.below (h : Fst B T A1 N c1 xs k v K ys w) (hb : Below w.heap.size w w') : Fst B T A1 N c1 xs k v K ys w' :=
  ⟨h.lmap, own_below h.lrow hb, (fun y hy => ⟨own_below (h.lown y hy).1 hb, (h.lown y hy).2⟩), h.loff, own_below h.row hb, (fun j hj hk => own_below (h.rest j hj hk) hb), h.off⟩
theorem own_off {e size n : Nat} {u : Value} {vs : List Value} {row : Option Nat} (h : w.ownsRow B e size u n vs) (hg : w.grownBy w' row) (hr : ∀ g, u.ownBlock = some g → row ≠ some g) : w'.ownsRow B e size u n vs := by
  refine h.kept hg ?_
  cases hv : u.ownBlock with
  | none => exact .inl rfl
  | some g => exact .inr fun e => hr g hv e.symm
/-- The records of one segment of the row are turned in place. -/
theorem Fst.step (h : Fst B T A1 N c1 xs k v K ys w) (L : Low T A1 N c1 xs) (hk : k < xs.length) (hg : w.grownBy w' xs[k].v.ownBlock) : Fst B T A1 N c1 xs (k + 1) v K ys w' := by
  have hlow := L.low _ (List.getElem_mem hk)
  refine ⟨h.lmap, own_off h.lrow hg fun g h1 h2 => ?_, fun y hy => ⟨own_off (h.lown y hy).1 hg fun g h1 h2 => h.off k hk (Nat.le_refl _) y hy g h1 h2, (h.lown y hy).2⟩, h.loff, ?_, fun j hj hkj => own_off (h.rest j hj (by omega)) hg fun g h1 h2 => L.off k j hk hj (by omega) g h2 h1, fun j hj hkj => h.off j hj (by omega)⟩
  · have a1 := (h.lrow.lt g h1).1
    have a2 := hlow g h2
    omega
  · exact rows_apart h.row (h.rest k hk (Nat.le_refl _)) (Ne.symm seg_not_rec) hg
/-- One segment more is left. -/
theorem Fst.add {b : Int} {rs : List Rc} {A : Option Addr} {c : Nat} {v' : Value} {o : Obj} (h : Fst B T A1 N c1 xs k v K ys w) (L : Low T A1 N c1 xs) (hr : w.ownsRow B 46 6 (.slice A rs.length c) rs.length (flat rs)) (hl : rs.length * 64 ≤ 140737488351232)
    (hb : ∀ g, (Value.slice A rs.length c).ownBlock = some g → g < T) (ha : ∀ y ∈ ys, Apart y ⟨⟨b, rs⟩, A, c⟩) (ha2 : ∀ j (hj : j < xs.length), k ≤ j → Apart ⟨⟨b, rs⟩, A, c⟩ xs[j])
    (hgrow : (w.alloc o).grownBy w' v.ownBlock) (hrow : w'.ownsRow T 49 2 v' (K.length + 1) (xflat ys ++ [.int .i64 b, .slice A rs.length c])) :
    Fst B T A1 N c1 xs k v' (K ++ [⟨b, rs⟩]) (ys ++ [⟨⟨b, rs⟩, A, c⟩]) w' := by
  have hne : 46 ≠ 49 := seg_not_rec
  have hal : Below w.heap.size w (w.alloc o) := (Below.refl _ _).alloc (Nat.le_refl _) _
  have hlr := own_below h.lrow hal
  refine ⟨by rw [List.map_append, h.lmap]; rfl, ?_, ?_, ?_, ?_, fun j hj hkj => rows_apart (own_below (h.rest j hj hkj) hal) hlr hne hgrow, ?_⟩
  · rw [List.length_append, xflat_snoc]
    exact hrow
  · intro y hy
    rcases List.mem_append.1 hy with hy | hy
    · exact ⟨rows_apart (own_below (h.lown y hy).1 hal) hlr hne hgrow, (h.lown y hy).2⟩
    · obtain rfl : y = ⟨⟨b, rs⟩, A, c⟩ := by simpa using hy
      exact ⟨rows_apart (own_below hr hal) hlr hne hgrow, hl, hb⟩
  · intro i j hi hj hij
    rw [List.length_append, List.length_cons, List.length_nil] at hi hj
    by_cases ci : i < ys.length
    · rw [List.getElem_append_left ci]
      by_cases cj : j < ys.length
      · rw [List.getElem_append_left cj]
        exact h.loff i j ci cj hij
      · rw [List.getElem_append_right (by omega)]
        simpa using ha _ (List.getElem_mem ci)
    · rw [List.getElem_append_right (by omega)]
      by_cases cj : j < ys.length
      · rw [List.getElem_append_left cj]
        simpa using (ha _ (List.getElem_mem cj)).symm
      · omega
  · refine own_off (own_below h.row hal) hgrow fun g h1 h2 => ?_
    have a1 := L.rlow g h1
    have a2 := (h.lrow.lt g h2).1
    omega
  · intro j hj hkj y hy
    rcases List.mem_append.1 hy with hy | hy
    · exact h.off j hj hkj y hy
    · obtain rfl : y = ⟨⟨b, rs⟩, A, c⟩ := by simpa using hy
      exact ha2 j hj hkj
/-- All of it is the call's own. -/
theorem Fst.own (h : Fst B T A1 N c1 xs k v K ys w) (hB : B ≤ T) : OwnS w B v K ys :=
  ⟨h.lmap, own_mono h.lrow hB, fun y hy => ⟨(h.lown y hy).1, (h.lown y hy).2.1⟩, h.loff⟩
theorem Fst.len (h : Fst B T A1 N c1 xs k v K ys w) : ys.length = K.length := by rw [← h.lmap, List.length_map]
theorem Low.mono {T2 : Nat} (h : Low T A1 N c1 xs) (hT : T ≤ T2) : Low T2 A1 N c1 xs :=
  ⟨h.len, fun x hx g hg => Nat.lt_of_lt_of_le (h.low x hx g hg) hT, fun g hg => Nat.lt_of_lt_of_le (h.rlow g hg) hT, h.off, h.lim⟩
theorem Fst.later (h : Fst B T A1 N c1 xs k v K ys w) {k2 : Nat} (hk : k ≤ k2) : Fst B T A1 N c1 xs k2 v K ys w :=
  ⟨h.lmap, h.lrow, h.lown, h.loff, h.row, fun j hj hkj => h.rest j hj (Nat.le_trans hk hkj), fun j hj hkj => h.off j hj (Nat.le_trans hk hkj)⟩
/-- A block that is none of them is written. -/
theorem Fst.far {q : Nat} (h : Fst B T A1 N c1 xs k v K ys w) (L : Low T A1 N c1 xs) (hg : w.grownBy w' (some q)) (hq : T ≤ q) (hv : v.ownBlock ≠ some q) : Fst B T A1 N c1 xs k v K ys w' :=
  ⟨h.lmap, own_off h.lrow hg (fun g h1 h2 => hv (by rw [h1]; exact h2.symm)), (fun y hy => ⟨own_off (h.lown y hy).1 hg (fun g h1 h2 => by have := (h.lown y hy).2.2 g h1; injection h2 with h2; omega), (h.lown y hy).2⟩), h.loff,
    own_off h.row hg (fun g h1 h2 => by have := L.rlow g h1; injection h2 with h2; omega), (fun j hj hkj => own_off (h.rest j hj hkj) hg (fun g h1 h2 => by have := L.low _ (List.getElem_mem hj) g h1; injection h2 with h2; omega)), h.off⟩
theorem row_cells {g : Nat} (h : w.ownsRow B 49 2 (.slice (some ⟨g, 0, none⟩) N c1) N (xflat xs)) (j : Nat) (hj : j < xs.length) :
    w.cell? ⟨g, j * 2, none⟩ = some (.int .i64 xs[j].s.b) ∧ w.cell? ⟨g, j * 2 + 1, none⟩ = some (.slice xs[j].A xs[j].s.rs.length xs[j].c) := by
  have key := h.cells (g := g) rfl
  have hz : ∀ i u, i < 2 → (xcells xs[j])[i]? = some u → w.cell? ⟨g, j * 2 + i, none⟩ = some u := fun i u hi hu => by
    have := key (j * 2 + i) u (by rw [xflat_at xs j i hj hi]; exact hu)
    rwa [add_new] at this
  exact ⟨hz 0 _ (by omega) rfl, hz 1 _ (by omega) rfl⟩
end
/-- What the closure sees, and a box of the call's own. -/
structure Ctx (w0 : World) (m nn : Nat) (all : List Rc) (D : DV) (r : Ru) (now : Int) (p q s b : Nat) (cs : Array Value) (w : World) : Prop where
  sees : Sees w m nn all D r now p q s
  box : Blk w b cs
  bel : Below w0.heap.size w0 w
theorem bel_row {a w w' : World} {row : Option Nat} (hb : Below a.heap.size a w) (hg : w.grownBy w' row) (hr : ∀ g, row = some g → a.heap.size ≤ g) : Below a.heap.size a w' :=
  ⟨hg.os.trans hb.os, hg.tape.trans hb.tape, hg.output.trans hb.output, Nat.le_trans hb.size hg.size, fun k hk => (hg.block k (Nat.lt_of_lt_of_le hk hb.size) (fun e => by have := hr k e.symm; omega)).trans (hb.block k hk)⟩
section
variable {w0 w w' : World} {m nn : Nat} {all : List Rc} {D : DV} {r : Ru} {now : Int} {p q s b : Nat} {cs : Array Value} {row : Option Nat}
theorem Ctx.kept (h : Ctx w0 m nn all D r now p q s b cs w) (hg : w.grownBy w' row) (hr : ∀ g, row = some g → g ≠ m ∧ g ≠ p ∧ g ≠ q ∧ g ≠ s ∧ g ≠ b ∧ w0.heap.size ≤ g) : Ctx w0 m nn all D r now p q s b cs w' :=
  ⟨h.sees.kept hg (fun e => (hr m e.symm).1 rfl) (fun e => (hr p e.symm).2.1 rfl) (fun e => (hr q e.symm).2.2.1 rfl) (fun e => (hr s e.symm).2.2.2.1 rfl), blk_kept h.box hg (fun e => (hr b e.symm).2.2.2.2.1 rfl), bel_row h.bel hg (fun g e => (hr g e).2.2.2.2.2)⟩
theorem Ctx.below (h : Ctx w0 m nn all D r now p q s b cs w) (hb : Below w.heap.size w w') : Ctx w0 m nn all D r now p q s b cs w' := h.kept (grown_bel hb) (fun g e => by cases e)
theorem Ctx.lt (h : Ctx w0 m nn all D r now p q s b cs w) : m < w.heap.size ∧ p < w.heap.size ∧ q < w.heap.size ∧ s < w.heap.size ∧ b < w.heap.size := ⟨h.sees.map.lt, h.sees.c0.lt, h.sees.c1.lt, h.sees.c2.lt, h.box.lt⟩
end
theorem np_ng (gr now : Int) (all : List Rc) : npF (goesF gr now all) = ngF gr now all := rfl
/-- What the closure tells, in the page's words. -/
theorem out_goes {all : List Rc} {r : Ru} {now : Int} {x : Rc} (hp : all.Pairwise Ahd) (hx : x ∈ all) (h0 : 0 ≤ x.o) : outF all r now x = goesF r.gr now all x := by
  unfold outF goesF
  rw [passed_is hp hx h0, Bool.or_comm]
end Go.Proofs.Ythdefnfpjbpbkaa.Kpd
