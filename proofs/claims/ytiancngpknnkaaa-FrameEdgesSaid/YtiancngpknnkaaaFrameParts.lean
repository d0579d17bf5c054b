/- The sixth layer's statements: it does not matter how bytes are parted. -/
import Derived.Test.YtiancngpknnkaaaFrameWakes
import Derived.Deep.CutBlock
import Derived.Test.YtiancngpknnkaaaF16
namespace Go.Proofs.Ytiancngpknnkaaa
open Go.RowKit Go.Lib Prp Pkt Vbi

theorem info_sc : (Try.prog.info? 26).map (·.size) = some 4 := by kernel_rfl
theorem load_sc {W : World} {g : Nat} {rest : ByteArray} {max : Int} {dead : Bool} {A : Option Addr} {l : List ByteArray} {c : Nat} (h : Box W g (scArr rest max dead A l c)) : (loadVar 26 ⟨g, 0, none⟩).run Try.prog W = .ok (.agg (scArr rest max dead A l c)) W :=
  run_loadVar_mid W g 0 26 (scArr rest max dead A l c).toList _ (fun j v hv => by rw [Nat.zero_add, h.cell j]; rw [← hv]; simp) Try.underlying26 rfl info_sc
theorem fr_few {p : Pk} (h : Few p) : PkLen p := ⟨Nat.le_trans h.cs (by decide), Nat.le_trans h.fs (by decide), Nat.le_trans h.ws (by decide), Nat.le_trans h.ps (by decide)⟩
theorem step_few {max : Int} {s : ByteArray} {p : Pk} {n : Nat} (h : stepS max s = .one p n) : Few p := by
  rcases stepOf max s with ⟨_, e⟩ | ⟨_, _, e⟩ | ⟨_, _, _, _, _, e⟩ | ⟨_, _, _, _, _, _, e⟩ | ⟨n', p', m', _, _, _, _, ht, e⟩ | ⟨_, _, _, _, _, _, _, _, _, _, _, e⟩ <;> rw [h] at e <;> cases e
  have := take_few (s.extract 0 n)
  rw [ht] at this
  exact this
theorem feed_few (max : Int) (s : ByteArray) : ∀ p ∈ (feedS max s).1, PkLen p := by
  induction s using bytes_induct with
  | h s ih =>
    cases hst : stepS max s with
    | wait => rw [feedS_wait hst]; intro p hp; cases hp
    | dead e => rw [feedS_dead hst]; intro p hp; cases hp
    | one p n =>
      have hn := step_one hst
      rw [feedS_one hst]
      intro q hq
      rcases List.mem_cons.1 hq with rfl | hq
      · exact fr_few (step_few hst)
      · exact ih (s.extract n s.size) (by rw [left_size]; omega) q hq
theorem pre_snoc (T : ByteArray) (k : Nat) (h : k < T.size) : T.extract 0 (k + 1) = T.extract 0 k ++ T.extract k (k + 1) := by
  apply bytes_ext
  rw [data_add, data_take, data_take, Lib.extract_data]
  rw [show k + 1 - k = 1 by omega, List.take_add]
/-- A row that may be put behind another one. -/
theorem OwnPks.rows_for {w : World} {B base c : Nat} {A : Option Addr} {l : List Pk} {v : Value} (h : OwnPks w B (.slice A l.length c) l) (hB : base ≤ B) (hv : ∀ k, v.ownBlock = some k → k < B) :
    ∃ ads, RowsAt w base v l ads ∧ ((A = none ∧ c = 0 ∧ l = []) ∨ ∃ ad, A = some ad ∧ ∀ j u, (flatK l ads)[j]? = some u → w.cell? (ad.add j) = some u) := by
  obtain ⟨ads, h1, h2⟩ := h.out
  refine ⟨ads, ⟨h2.len, fun j k1 k2 => ?_⟩, ?_⟩
  · obtain ⟨a1, a2, a3, _⟩ := h2.rows j k1 k2
    exact ⟨a1, a2, a3.mono hB, fun g hg => .of_new a3 (hv g hg)⟩
  · rcases h1.2 with ⟨hv, hn⟩ | ⟨g, cap, cur, hv, _⟩
    · injection hv with e1 _ e3
      exact .inl ⟨e1, e3, List.eq_nil_of_length_eq_zero hn⟩
    · injection hv with e1 _ _
      subst e1
      exact .inr ⟨_, rfl, h1.cells (g := g) rfl⟩
/-- What one more part comes to. -/
def PartAt (mx : Int) (P s : ByteArray) (M : List Pk) (r : ByteArray) (le : Int) (N : List Pk) (x' : ByteArray) (d' : Bool) (e' le' : Int) : Prop :=
  (∀ W : World, Calls Try.prog 9 #[.agg (frArr r mx (decide (le ≠ 0))), .string s] W fun q w' => ∃ A c, q = .returned (.tuple #[.agg (frArr x' mx d'), .slice A N.length c, .int .i64 e']) ∧ OwnPks w' W.heap.size (.slice A N.length c) N ∧ Below W.heap.size W w') ∧
  feedS mx (P ++ s) = (M ++ N, x', le') ∧ le' = (if e' = 0 then le else e') ∧ d' = decide (le' ≠ 0)
theorem part_at {mx : Int} {P s : ByteArray} {M : List Pk} {r : ByteArray} {le : Int} (h : 2 ≤ mx ∧ mx ≤ 8192) (hP : P.size + s.size ≤ 1000) (hf : feedS mx P = (M, r, le)) : ∃ N x' d' e' le', PartAt mx P s M r le N x' d' e' le' := by
  have hr := feed_rest mx P
  have hm := feed_more mx P s
  rw [hf] at hr hm
  by_cases h0 : le = 0
  · subst h0
    obtain ⟨N, x', e', hE⟩ : ∃ N x' e', feedS mx (r ++ s) = (N, x', e') := ⟨_, _, _, rfl⟩
    have hz : r.size ≤ P.size := hr.2.2.2
    refine ⟨N, x', decide (e' ≠ 0), e', e', fun W => Feed_tells h (hr.1 rfl) hE (by omega) W, ?_, ?_, rfl⟩
    · rw [hm.2 rfl]
      show (M ++ (feedS mx (r ++ s)).1, (feedS mx (r ++ s)).2) = _
      rw [hE]
    · by_cases he : e' = 0
      · rw [if_pos he, he]
      · rw [if_neg he]
  · have hr0 : r = ⟨#[]⟩ := hr.2.1 h0
    subst hr0
    refine ⟨[], ⟨#[]⟩, true, 0, le, fun W => ?_, ?_, (if_pos rfl).symm, (decide_eq_true h0).symm⟩
    · rw [decide_eq_true h0]
      exact Feed_dead ⟨#[]⟩ mx s W (Nat.zero_le _) (may_dead h)
    · rw [hm.1 h0, List.append_nil]
theorem eql_fr (x : ByteArray) (m : Int) (d : Bool) (w : World) : (binOp .eql 23 (.agg (frArr x m d)) (.agg (frArr x m d))).run Try.prog w = .ok (.bool true) w := by
  unfold frArr
  rw [run_eql_struct]
  go_simp
set_option maxRecDepth 100000 in
set_option maxHeartbeats 32000000 in
theorem FrameParts_any (rest : ByteArray) (max : Int) (dead : Bool) (A : Option Addr) (l : List ByteArray) (c : Nat) (w : World) (h : StrsAt w w.heap.size A l) (hf : ScFit rest max l c) :
    Calls Try.prog 3 #[.agg (scArr rest max dead A l c)] w fun e w' => e = .returned (.bool true) ∧ Below w.heap.size w w' := by
  have hb0 := Box.new w 26 (scArr rest max dead A l c)
  have ha := (Below.refl w.heap.size w).alloc (Nat.le_refl _) (.cells (scArr rest max dead A l c) 26)
  obtain ⟨W1, hW⟩ : ∃ W1, w.alloc (.cells (scArr rest max dead A l c) 26) = W1 := ⟨_, rfl⟩
  rw [hW] at hb0 ha
  have HV := Lib.hid (Heavy6_is rest max dead A l c W1 ((h.below ha).mono ha.size) hf)
  have HSA := Lib.hid ((h.below ha).mono ha.size)
  have HA := Lib.hid ha
  obtain ⟨g, hg⟩ : ∃ g, w.heap.size = g := ⟨_, rfl⟩
  rw [hg] at hb0
  have HG := Lib.hid hg
  have HB0 := Lib.hid hb0
  have HF := Lib.hid hf
  have hld := load_sc hb0
  unfold scArr at hW ⊢
  have HW := Lib.hid hW
  clear hW hb0 ha hg h hf
  go_enter Try.func3, Try.ntmps3
  go_upto_region 1 with fail
  rw [HW.out, HG.out]
  generalize Value.agg _ = v0
  clear HW
  go_wp2_with (refine wpList_load_any (by rfl) 26 (.tmp 1) rfl g 0 rfl _ hld ?_)
  refine HV.out.mono ?_
  rintro e w2 ⟨b, rfl, _, hb2⟩
  have HX2 := Lib.hid (HA.out.trans (hb2.mono HA.out.size))
  have HB2 := Lib.hid (HB0.out.below hb2)
  have HS2 := Lib.hid ((HSA.out.below hb2).mono hb2.size)
  clear hb2 hld HV HB0 HSA
  cases b with
  | true =>
    go_wp2_with fail
    go_ret
    exact ⟨rfl, HX2.out⟩
  | false =>
    have c1 : w2.cell? ⟨g, 1, none⟩ = some (.int .i64 max) := HB2.out.cell 1
    have c3 : w2.cell? ⟨g, 3, none⟩ = some (.slice A l.length c) := HB2.out.cell 3
    go_wp2_with fail
    refine (Within_is max w2).mono ?_
    rintro e w' ⟨⟨r, rfl, hr0, hr1⟩, rfl⟩
    have hwr : IntKind.i64.wrap (2 + r) = 2 + r := IntWalk.i64_in _ (by omega)
    go_upto_block 0 with fail
    go_cut [4, 5] from 25 to 42 (fun s i wx => ∃ t : ByteArray, s = .string t ∧ t.size ≤ 1407374883512320 ∧ wx = w2)
    case first =>
      go_wp2_with fail
      go_loopw [4, 5] (fun s i wr => ∃ (t : ByteArray) (k : Nat), s = .string t ∧ i = .int .i64 (k : Int) ∧ k ≤ l.length ∧ k ≤ 10 ∧ t.size ≤ k * 140737488351232 ∧ wr = w2) (fun _ i _ => 10 - (RowKit.intOf i).toNat)
      case atStart => exact ⟨⟨#[]⟩, 0, rfl, rfl, Nat.zero_le _, Nat.zero_le _, Nat.zero_le _, rfl⟩
      case round =>
        obtain ⟨t, k, rfl, rfl, hk1, hk2, htz, rfl⟩ := hrel
        by_cases hgo : k < l.length ∧ k < 10
        · obtain ⟨h1, h2⟩ := hgo
          obtain ⟨b, o, rfl, hbb, hcell⟩ := HS2.out.some_ (by omega)
          have hx := HF.out.strs l[k] (List.getElem_mem h1)
          have hc := hcell k h1
          obtain ⟨x, hxx⟩ : ∃ x, l[k] = x := ⟨_, rfl⟩
          rw [hxx] at hc hx
          have hkI : (k : Int) < (l.length : Int) := by omega
          have hk10 : (k : Int) < 10 := by omega
          have hadd : ¬ 9223372036854775807 < t.size + x.size := by omega
          clear hcell hxx
          go_wp2_with fail
          go_roundw
          case rel => exact ⟨t ++ x, k + 1, rfl, by go_num, h1, h2, by rw [ByteArray.size_append]; omega, (by first | rfl | trivial)⟩
          case measure => simp [RowKit.intOf]; omega
        · by_cases hx : k < l.length
          · have hkI : (k : Int) < (l.length : Int) := by omega
            have hd : decide ((k : Int) < 10) = false := decide_eq_false (by omega)
            go_wp2_with fail
            go_meet
            exact ⟨t, rfl, by omega, rfl⟩
          · have hd : decide ((k : Int) < (l.length : Int)) = false := decide_eq_false (by omega)
            go_wp2_with fail
            go_meet
            exact ⟨t, rfl, by omega, rfl⟩
    case rest =>
      obtain ⟨t, rfl, htz, rfl⟩ := hcut
      obtain ⟨mx, hmx⟩ : ∃ m, 2 + r = m := ⟨_, rfl⟩
      have HM : Hid (2 ≤ mx ∧ mx ≤ 8192) := Lib.hid ⟨by omega, by omega⟩
      rw [hmx]
      clear hmx hr0 hr1 hwr c1 c3 HS2 HF HB2
      go_upto_if 45 with fail
      go_cut [4] from 46 to 47 (fun s wx => ∃ T : ByteArray, s = .string T ∧ T.size ≤ 600 ∧ wx = wc)
      case first =>
        by_cases hz : 600 < t.size
        · have hzI : (600 : Int) < (t.size : Int) := by omega
          have hzJ : (600 : Int) ≤ (t.size : Int) := by omega
          go_wp2_with fail
          go_meet
          exact ⟨t.extract 0 600, rfl, by rw [ByteArray.size_extract]; omega, rfl⟩
        · have hzI : decide ((600 : Int) < (t.size : Int)) = false := decide_eq_false (by omega)
          go_wp2_with fail
          go_meet
          exact ⟨t, rfl, by omega, rfl⟩
      case rest =>
        obtain ⟨T, rfl, hT, rfl⟩ := hcut
        clear htz
        have HN := Lib.hid (fun W => New_yes HM.out W)
        obtain ⟨L, x, e, hE⟩ : ∃ L x e, feedS mx T = (L, x, e) := ⟨_, _, _, rfl⟩
        obtain ⟨dd, hdd⟩ : ∃ dd, decide (e ≠ 0) = dd := ⟨_, rfl⟩
        have HF1 : Hid (∀ W : World, Calls Try.prog 9 #[.agg (frArr ⟨#[]⟩ mx false), .string T] W fun q w' => ∃ A c, q = .returned (.tuple #[.agg (frArr x mx dd), .slice A L.length c, .int .i64 e]) ∧ OwnPks w' W.heap.size (.slice A L.length c) L ∧ Below W.heap.size W w') := by
          show ∀ W : World, _
          rw [← hdd]
          exact fun W => Feed_tells HM.out (step_nil rfl) (by rw [Pkt.empty_add]; exact hE) (by show 0 + T.size ≤ _; omega) W
        have HE := Lib.hid hE
        have HDD := Lib.hid hdd
        clear hE hdd
        go_wp2_with fail
        refine (HN.out _).mono ?_
        rintro r1 w3 ⟨rfl, q1⟩
        have hmb := new_below w3 (frArr ⟨#[]⟩ 0 false) (frArr ⟨#[]⟩ mx false) 23
        have hmx := new_box w3 (frArr ⟨#[]⟩ 0 false) (frArr ⟨#[]⟩ mx false) 23
        have hbn := Box.new w3 23 (frArr ⟨#[]⟩ 0 false)
        obtain ⟨W4, hW⟩ : ∃ W, w3.alloc (.cells (frArr ⟨#[]⟩ 0 false) 23) = W := ⟨_, rfl⟩
        rw [hW] at hmb hmx hbn
        obtain ⟨ga, hga⟩ : ∃ k, w3.heap.size = k := ⟨_, rfl⟩
        have HX3 := Lib.hid ((HX2.out.trans (q1.mono HX2.out.size)).trans (hmb.mono (Nat.le_trans HX2.out.size q1.size)))
        have HGA : Hid (w.heap.size ≤ ga) := by show w.heap.size ≤ ga; have := HX2.out.size; have := q1.size; omega
        rw [hga] at hmx hbn HX3
        have HMX := Lib.hid hmx
        have HBN := Lib.hid hbn
        unfold frArr at hW
        have HW := Lib.hid hW
        clear q1 hmb hmx hbn hW HX2
        go_upto_region 12 with (rw [HW.out]; refine wpList_store_whole rfl 23 (.tmp 6) (.tmp 51) rfl ga (frArr ⟨#[]⟩ mx false) rfl rfl (frArr ⟨#[]⟩ 0 false) HBN.out info_fr rfl (one_fr _ _ _) ?_; simp only [Act.put])
        clear hga HW HBN
        generalize World.setRow _ _ _ = w5 at HX3 HMX ⊢
        go_wp2_with fail
        refine (HN.out _).mono ?_
        rintro r2 w6 ⟨rfl, q1⟩
        have hmb := new_below w6 (frArr ⟨#[]⟩ 0 false) (frArr ⟨#[]⟩ mx false) 23
        have hmx := new_box w6 (frArr ⟨#[]⟩ 0 false) (frArr ⟨#[]⟩ mx false) 23
        have hbn := Box.new w6 23 (frArr ⟨#[]⟩ 0 false)
        obtain ⟨W7, hW⟩ : ∃ W, w6.alloc (.cells (frArr ⟨#[]⟩ 0 false) 23) = W := ⟨_, rfl⟩
        rw [hW] at hmb hmx hbn
        obtain ⟨gb, hgb⟩ : ∃ k, w6.heap.size = k := ⟨_, rfl⟩
        have hax := (HMX.out.below q1)
        have HX5 := Lib.hid ((HX3.out.trans (q1.mono HX3.out.size)).trans (hmb.mono (Nat.le_trans HX3.out.size q1.size)))
        have HAX := Lib.hid (hax.below hmb)
        have HGB : Hid (ga < gb) := by show ga < gb; have := hax.lt; omega
        rw [hgb] at hmx hbn HX5 HAX
        have HBX := Lib.hid hmx
        have HBN := Lib.hid hbn
        unfold frArr at hW
        have HW := Lib.hid hW
        clear q1 hmb hmx hbn hW HX3 hax HMX HN
        go_upto_region 13 with (rw [HW.out]; refine wpList_store_whole rfl 23 (.tmp 8) (.tmp 56) rfl gb (frArr ⟨#[]⟩ mx false) rfl rfl (frArr ⟨#[]⟩ 0 false) HBN.out info_fr rfl (one_fr _ _ _) ?_; simp only [Act.put])
        clear hgb HW HBN
        generalize World.setRow _ _ _ = w8 at HX5 HAX HBX ⊢
        have hld := load_fr HAX.out
        go_wp2_with (first | (go_at_call 8; refine (num6 _ _).mono ?_; rintro e' w' ⟨rfl, rfl⟩) | (refine wpList_load_any (by rfl) 23 (.tmp 6) rfl ga 0 rfl _ hld ?_))
        refine (HF1.out _).mono ?_
        rintro r3 w9 ⟨A1, c1, rfl, o1, q1⟩
        have hgl := HBX.out.lt
        have hrow := Bar.row ga w9 (frArr x mx dd)
        have hbx9 := HAX.out.below q1
        have HB9 := Lib.hid hbx9
        have HAW := Lib.hid (hbx9.row (frArr x mx dd))
        have HBW := Lib.hid (hrow.box (HBX.out.below q1) (by have := HGB.out; omega))
        have HOW := Lib.hid (o1.bar hrow (by have := HGB.out; omega))
        have HXW := Lib.hid (hrow.below (HX5.out.trans (q1.mono HX5.out.size)) HGA.out (Nat.le_trans HX5.out.size q1.size))
        have HSW : Hid (gb < w8.heap.size ∧ w8.heap.size ≤ (w9.setRow ga (frArr x mx dd)).heap.size) := Lib.hid ⟨hgl, Nat.le_trans q1.size hrow.size⟩
        clear o1 q1 hgl hrow hbx9 hld HF1 HX5 HAX HBX
        go_upto_region 16 with (refine wpList_store_whole rfl 23 (.tmp 6) (.tmp 70) rfl ga (frArr x mx dd) rfl rfl (frArr ⟨#[]⟩ mx false) HB9.out info_fr rfl (one_fr _ _ _) ?_; simp only [Act.put])
        clear HB9
        generalize World.setRow _ _ _ = WB at HAW HBW HOW HXW HSW ⊢
        go_wp2_with fail
        go_loopw [12, 13, 14] (fun m la i wr => ∃ (k : Nat) (M : List Pk) (r : ByteArray) (le : Int) (A2 : Option Addr) (c2 : Nat) (db : Bool), k ≤ T.size ∧ m = .slice A2 M.length c2 ∧ la = .int .i64 le ∧ i = .int .i64 (k : Int) ∧ feedS mx (T.extract 0 k) = (M, r, le) ∧ db = decide (le ≠ 0) ∧ Box wr gb (frArr r mx db) ∧ OwnPks wr WB.heap.size (.slice A2 M.length c2) M ∧ Bar gb WB wr) (fun _ _ i _ => T.size - (RowKit.intOf i).toNat)
        case atStart => exact ⟨0, [], ⟨#[]⟩, 0, none, 0, false, Nat.zero_le _, rfl, rfl, rfl, by rw [show T.extract 0 0 = ⟨#[]⟩ by apply bytes_ext; rw [data_take]; rfl]; exact feedS_wait (step_nil rfl), rfl, HBW.out, OwnPks.nil _ _, Bar.refl _ _⟩
        case round =>
          obtain ⟨k, M, r, le, A2, c2, db, hk, rfl, rfl, rfl, hfd, hdb, hbx, hown, hbar⟩ := hrel
          by_cases hlt : k < T.size
          · have hsz1 : (T.extract 0 k).size + (T.extract k (k + 1)).size ≤ 1000 := by rw [ByteArray.size_extract, ByteArray.size_extract]; omega
            obtain ⟨N, x', d', e', le', hcall, hfd2, hle, hd2⟩ := part_at (P := T.extract 0 k) (s := T.extract k (k + 1)) HM.out hsz1 hfd
            rw [← pre_snoc T k hlt] at hfd2
            rw [← hdb] at hcall
            have HC := Lib.hid hcall
            have HFD := Lib.hid hfd2
            have HLE := Lib.hid hle
            have HD2 := Lib.hid hd2
            have HBX := Lib.hid hbx
            have HO := Lib.hid hown
            have HBR := Lib.hid hbar
            have HLEN : Hid (M.length ≤ 300 ∧ N.length ≤ 600) := by
              have h1 := feed_len mx (T.extract 0 (k + 1))
              rw [hfd2] at h1
              have h1' : 2 * (M ++ N).length + x'.size ≤ (T.extract 0 (k + 1)).size := h1
              rw [List.length_append, ByteArray.size_extract] at h1'
              exact Lib.hid ⟨by omega, by omega⟩
            have hkI : (k : Int) < (T.size : Int) := by omega
            have hk0 : (0 : Int) ≤ (k : Int) := by omega
            have hk1 : (k : Int) ≤ (k : Int) + 1 := by omega
            have hk2 : (k : Int) + 1 ≤ (T.size : Int) := by omega
            have htn : ((k : Int) + 1).toNat = k + 1 := by omega
            have hwk : IntKind.i64.wrap ((k : Int) + 1) = (k : Int) + 1 := IntWalk.i64_in _ (by omega)
            clear hcall hfd2 hle hd2 hbx hown hbar hfd hdb hsz1
            go_upto_region 21 with fail
            go_cut [15, 16, 17] from 79 to 89 (fun a b cc wx => ∃ (k15 : Nat) (A' : Option Addr) (c' : Nat), a = .pointer (some ⟨k15, 0, none⟩) ∧ b = .slice A' N.length c' ∧ cc = .int .i64 e' ∧ Box wx k15 (frArr x' mx d') ∧ Box wx gb (frArr r mx db) ∧ OwnPks wx wr.heap.size (.slice A' N.length c') N ∧ Below wr.heap.size wr wx ∧ k15 ≠ gb)
            case first =>
              clear HFD HLE HD2 HO HBR HLEN HE HDD HAW HBW HOW HXW HSW HGA HGB
              refine wp_region_held_drew (S := fun W => Box W gb (frArr r mx db)) (by kernel_rfl) (HBX.out.below (below_drewN (Below.refl _ _) 1)) (fun hS => ?_)
              have HDR : Hid (Below wr.heap.size wr (World.drew wr)) := Lib.hid (below_drewN (Below.refl _ _) 1)
              generalize World.drew wr = Wd at hS HDR ⊢
              refine take_load 0 80 23 (.tmp 8) gb 0 (.agg (frArr r mx db)) rfl rfl (by kernel_rfl) (fun _ _ _ h => h) (by rfl) hS rfl rfl (fun w' hS' => load_fr hS') ?_
              simp only [Act.put, List.setIfInBounds_toArray, List.set_cons_zero, List.set_cons_succ]
              refine take_op 1 81 ?vs1 rfl rfl (by kernel_rfl) (fun _ _ _ h => h) (by rfl) hS (fun w' hS' => ?hvs1) ?hhs1
              case hvs1 => (go_simp; try with_reducible rfl)
              simp only [Act.put, List.setIfInBounds_toArray, List.set_cons_zero, List.set_cons_succ]
              refine take_op 2 82 ?vs2 rfl rfl (by kernel_rfl) (fun _ _ _ h => h) (by rfl) hS (fun w' hS' => ?hvs2) ?hhs2
              case hvs2 => (go_simp; try with_reducible rfl)
              simp only [Act.put, List.setIfInBounds_toArray, List.set_cons_zero, List.set_cons_succ]
              refine take_op 3 83 ?vs3 rfl rfl (by kernel_rfl) (fun _ _ _ h => h) (by rfl) hS (fun w' hS' => ?hvs3) ?hhs3
              case hvs3 => (go_simp; try with_reducible rfl)
              simp only [Act.put, List.setIfInBounds_toArray, List.set_cons_zero, List.set_cons_succ]
              refine take_op 4 84 (.int .i64 ((k : Int) + 1)) rfl rfl (by kernel_rfl) (fun _ _ _ h => h) (by rfl) hS (fun w' hS' => ?hvs4) ?hhs4
              case hvs4 => (go_simp; try rfl)
              simp only [Act.put, List.setIfInBounds_toArray, List.set_cons_zero, List.set_cons_succ]
              refine take_op 5 85 (.string (T.extract k (k + 1))) rfl rfl (by kernel_rfl) (fun _ _ _ h => h) (by rfl) hS (fun w' hS' => ?hvs5) ?hhs5
              case hvs5 => (go_simp; try rfl)
              simp only [Act.put, List.setIfInBounds_toArray, List.set_cons_zero, List.set_cons_succ]
              refine two_ops 6 11 rfl rfl (by kernel_rfl) (by rfl) (by rfl) (wp_call_ex 86 9 #[.agg (frArr r mx db), .string (T.extract k (k + 1))] _ rfl (by go_simp) (HC.out Wd) ?_) (wp_made 15 (.pointer (some ⟨Wd.heap.size, 0, none⟩)) rfl (w' := Wd.alloc (.cells (frArr ⟨#[]⟩ 0 false) 23)) (by go_simp; try rfl) ⟨?_, ?_⟩)
              · rintro q w3 ⟨A', c', rfl, o1, q1⟩
                have hS3 := hS.below q1
                refine ⟨_, rfl, hS3, ?_⟩
                simp only [Act.put, List.setIfInBounds_toArray, List.set_cons_zero, List.set_cons_succ]
                refine take_op 7 79 ?va7 rfl rfl (by kernel_rfl) (fun _ _ _ h => h) (by rfl) hS3 (fun w' hS' => ?hva7) ?hha7
                case hva7 => (go_simp; try with_reducible rfl)
                simp only [Act.put, List.setIfInBounds_toArray, List.set_cons_zero, List.set_cons_succ]
                refine take_op 8 87 ?va8 rfl rfl (by kernel_rfl) (fun _ _ _ h => h) (by rfl) hS3 (fun w' hS' => ?hva8) ?hha8
                case hva8 => (go_simp; try with_reducible rfl)
                simp only [Act.put, List.setIfInBounds_toArray, List.set_cons_zero, List.set_cons_succ]
                refine take_op 9 88 ?va9 rfl rfl (by kernel_rfl) (fun _ _ _ h => h) (by rfl) hS3 (fun w' hS' => ?hva9) ?hha9
                case hva9 => (go_simp; try with_reducible rfl)
                simp only [Act.put, List.setIfInBounds_toArray, List.set_cons_zero, List.set_cons_succ]
                refine take_op 10 89 ?va10 rfl rfl (by kernel_rfl) (fun _ _ _ h => h) (by rfl) hS3 (fun w' hS' => ?hva10) ?hha10
                case hva10 => (go_simp; try with_reducible rfl)
                simp only [Act.put, List.setIfInBounds_toArray, List.set_cons_zero, List.set_cons_succ]
                have hal := (Below.refl w3.heap.size w3).alloc (Nat.le_refl _) (.cells (frArr ⟨#[]⟩ 0 false) 23)
                have hbn := Box.new w3 23 (frArr ⟨#[]⟩ 0 false)
                refine only_op 11 rfl (by kernel_rfl) (by rfl) (wp_made 15 (.pointer (some ⟨w3.heap.size, 0, none⟩)) rfl (w' := w3.alloc (.cells (frArr ⟨#[]⟩ 0 false) 23)) (by go_simp; try rfl) ⟨?_, ?_⟩)
                · exact hS3.below hal
                simp only [Act.put, List.setIfInBounds_toArray, List.set_cons_zero, List.set_cons_succ]
                have hW4 : Below wr.heap.size wr ((w3.alloc (.cells (frArr ⟨#[]⟩ 0 false) 23)).setRow w3.heap.size (frArr x' mx d')) := (HDR.out.trans (q1.mono HDR.out.size)).trans ((new_below w3 (frArr ⟨#[]⟩ 0 false) (frArr x' mx d') 23).mono (Nat.le_trans HDR.out.size q1.size))
                have hO4 : OwnPks ((w3.alloc (.cells (frArr ⟨#[]⟩ 0 false) 23)).setRow w3.heap.size (frArr x' mx d')) wr.heap.size (.slice A' N.length c') N := (o1.below (new_below w3 _ _ _)).mono HDR.out.size
                have hB4 := new_box w3 (frArr ⟨#[]⟩ 0 false) (frArr x' mx d') 23
                have hG4 : Box ((w3.alloc (.cells (frArr ⟨#[]⟩ 0 false) 23)).setRow w3.heap.size (frArr x' mx d')) gb (frArr r mx db) := hS3.below (new_below w3 _ _ _)
                have hne : w3.heap.size ≠ gb := by have := hS3.lt; omega
                obtain ⟨TT, hTT⟩ := hbn
                refine only_op 12 rfl (by kernel_rfl) (by rfl) (wp_store_row 23 (.tmp 15) (.tmp 87) rfl w3.heap.size (frArr x' mx d') rfl rfl TT _ hTT info_fr rfl (one_fr _ _ _) ⟨hG4, ?_⟩)
                simp only [Act.put]
                refine take_op 13 16 ?va13 rfl rfl (by kernel_rfl) (fun _ _ _ h => h) (by rfl) hG4 (fun w' hS' => ?hva13) ?hha13
                case hva13 => (go_simp; try with_reducible rfl)
                simp only [Act.put, List.setIfInBounds_toArray, List.set_cons_zero, List.set_cons_succ]
                refine take_op 14 17 ?va14 rfl rfl (by kernel_rfl) (fun _ _ _ h => h) (by rfl) hG4 (fun w' hS' => ?hva14) ?hha14
                case hva14 => (go_simp; try with_reducible rfl)
                simp only [Act.put, List.setIfInBounds_toArray, List.set_cons_zero, List.set_cons_succ]
                refine wpAnyH_done (by kernel_rfl) ?_ _
                go_wp2_with fail
                go_meet
                exact ⟨w3.heap.size, A', c', rfl, rfl, rfl, hB4, hG4, hO4, hW4, hne⟩
              · exact hS.below ((Below.refl _ _).alloc (Nat.le_refl _) _)
              · simp only [Act.put, List.setIfInBounds_toArray, List.set_cons_zero, List.set_cons_succ]
                have hal := (Below.refl Wd.heap.size Wd).alloc (Nat.le_refl _) (.cells (frArr ⟨#[]⟩ 0 false) 23)
                have hbn := Box.new Wd 23 (frArr ⟨#[]⟩ 0 false)
                obtain ⟨Wa, hWa⟩ : ∃ Wa, Wd.alloc (.cells (frArr ⟨#[]⟩ 0 false) 23) = Wa := ⟨_, rfl⟩
                have hsz : Wa.heap.size = Wd.heap.size + 1 := by rw [← hWa, World.size_alloc]
                rw [hWa] at hal hbn ⊢
                have hSa := hS.below hal
                refine only_op 6 rfl (by kernel_rfl) (by rfl) (wp_call_ex 86 9 #[.agg (frArr r mx db), .string (T.extract k (k + 1))] _ rfl (by go_simp) (HC.out Wa) ?_)
                rintro q w3 ⟨A', c', rfl, o1, q1⟩
                have hS3 := hSa.below q1
                refine ⟨_, rfl, hS3, ?_⟩
                simp only [Act.put, List.setIfInBounds_toArray, List.set_cons_zero, List.set_cons_succ]
                refine take_op 7 79 ?vb7 rfl rfl (by kernel_rfl) (fun _ _ _ h => h) (by rfl) hS3 (fun w' hS' => ?hvb7) ?hhb7
                case hvb7 => (go_simp; try with_reducible rfl)
                simp only [Act.put, List.setIfInBounds_toArray, List.set_cons_zero, List.set_cons_succ]
                refine take_op 8 87 ?vb8 rfl rfl (by kernel_rfl) (fun _ _ _ h => h) (by rfl) hS3 (fun w' hS' => ?hvb8) ?hhb8
                case hvb8 => (go_simp; try with_reducible rfl)
                simp only [Act.put, List.setIfInBounds_toArray, List.set_cons_zero, List.set_cons_succ]
                refine take_op 9 88 ?vb9 rfl rfl (by kernel_rfl) (fun _ _ _ h => h) (by rfl) hS3 (fun w' hS' => ?hvb9) ?hhb9
                case hvb9 => (go_simp; try with_reducible rfl)
                simp only [Act.put, List.setIfInBounds_toArray, List.set_cons_zero, List.set_cons_succ]
                refine take_op 10 89 ?vb10 rfl rfl (by kernel_rfl) (fun _ _ _ h => h) (by rfl) hS3 (fun w' hS' => ?hvb10) ?hhb10
                case hvb10 => (go_simp; try with_reducible rfl)
                simp only [Act.put, List.setIfInBounds_toArray, List.set_cons_zero, List.set_cons_succ]
                have hb3 := hbn.below q1
                have hrow := Bar.row Wd.heap.size w3 (frArr x' mx d')
                have hglt := hS.lt
                have hW4 : Below wr.heap.size wr (w3.setRow Wd.heap.size (frArr x' mx d')) := hrow.below ((HDR.out.trans (hal.mono HDR.out.size)).trans (q1.mono (by have := HDR.out.size; omega))) HDR.out.size (by have := HDR.out.size; have := q1.size; omega)
                have hO4 : OwnPks (w3.setRow Wd.heap.size (frArr x' mx d')) wr.heap.size (.slice A' N.length c') N := (o1.bar hrow (by omega)).mono (by have := HDR.out.size; omega)
                have hB4 := hb3.row (frArr x' mx d')
                have hG4 : Box (w3.setRow Wd.heap.size (frArr x' mx d')) gb (frArr r mx db) := hrow.box hS3 (by omega)
                have hne : Wd.heap.size ≠ gb := by omega
                obtain ⟨TT, hTT⟩ := hb3
                refine only_op 12 rfl (by kernel_rfl) (by rfl) (wp_store_row 23 (.tmp 15) (.tmp 87) rfl Wd.heap.size (frArr x' mx d') rfl rfl TT _ hTT info_fr rfl (one_fr _ _ _) ⟨hG4, ?_⟩)
                simp only [Act.put]
                refine take_op 13 16 ?vb13 rfl rfl (by kernel_rfl) (fun _ _ _ h => h) (by rfl) hG4 (fun w' hS' => ?hvb13) ?hhb13
                case hvb13 => (go_simp; try with_reducible rfl)
                simp only [Act.put, List.setIfInBounds_toArray, List.set_cons_zero, List.set_cons_succ]
                refine take_op 14 17 ?vb14 rfl rfl (by kernel_rfl) (fun _ _ _ h => h) (by rfl) hG4 (fun w' hS' => ?hvb14) ?hhb14
                case hvb14 => (go_simp; try with_reducible rfl)
                simp only [Act.put, List.setIfInBounds_toArray, List.set_cons_zero, List.set_cons_succ]
                refine wpAnyH_done (by kernel_rfl) ?_ _
                go_wp2_with fail
                go_meet
                exact ⟨Wd.heap.size, A', c', rfl, rfl, rfl, hB4, hG4, hO4, hW4, hne⟩
            case rest =>
              obtain ⟨k15, A', c', rfl, rfl, rfl, hb15, hb8, ho15, hbl, hne⟩ := hcut
              have hld15 := load_fr hb15
              have hrow := Bar.row gb wc (frArr x' mx d')
              have HB8 := Lib.hid hb8
              have HB10 := Lib.hid (hb8.row (frArr x' mx d'))
              have hgl := HBX.out.lt
              have hg2 := HSW.out
              have HO10 := Lib.hid (ho15.bar hrow hgl)
              have HM10 := Lib.hid ((HO.out.below hbl).bar hrow (by omega))
              have HBR10 := Lib.hid ((HBR.out.trans (Bar.of gb hbl)).trans hrow)
              have HWS := Lib.hid HBR.out.size
              have HVL := Lib.hid (show ∀ kk, (Value.slice A2 M.length c2).ownBlock = some kk → kk < wr.heap.size from fun kk hh => (HO.out.lt kk hh).2)
              clear hb15 hb8 ho15 hbl hne hrow hgl hg2 HO HBR HBX HC
              go_upto_region 23 with (first | (refine wpList_load_any (by rfl) 23 (.tmp 15) rfl k15 0 rfl _ hld15 ?_) | (refine wpList_store_whole rfl 23 (.tmp 8) (.tmp 90) rfl gb (frArr x' mx d') rfl rfl (frArr r mx db) HB8.out info_fr rfl (one_fr _ _ _) ?_; simp only [Act.put]))
              clear hld15 HB8
              generalize World.setRow _ _ _ = w10 at HB10 HO10 HM10 HBR10 ⊢
              obtain ⟨nads, hrw1, hrw2⟩ := HO10.out.rows_for (base := WB.heap.size) HWS.out HVL.out
              have HR1 := Lib.hid hrw1
              have HR2 := Lib.hid hrw2
              clear hrw1 hrw2 HO10 HVL
              go_upto_region 24 with (at_builtin; refine wpList_append_pks rfl (.tmp 91) (.tmp 92) rfl (base := WB.heap.size) (c := c') (v := .slice A2 M.length c2) (l := M) (m := N) (A := A') (bs := nads) rfl rfl HM10.out HR1.out HR2.out HBR10.out.size ?cl ?_)
              case cl => have := HLEN.out; omega
              intro v' w11 ho11 hb11 _
              obtain ⟨A3, c3', rfl, _⟩ := ho11.slice
              have HO11 := Lib.hid ho11
              have HBX11 : Hid (Box w11 gb (frArr x' mx d')) := by
                have hg2 := HSW.out
                obtain ⟨TT, hTT⟩ := HB10.out
                exact Lib.hid ⟨TT, (hb11.block gb (by omega)).trans hTT⟩
              have HBR11 := Lib.hid (HBR10.out.then_ hb11)
              clear ho11 hb11 HM10 HR1 HR2 HB10 HBR10 HWS
              by_cases he : e' = 0
              · have HL2 : Hid (le' = le) := by show le' = le; rw [HLE.out, if_pos he]
                have heb : (e' != 0) = false := by rw [he]; rfl
                clear he HLE
                go_wp2_with (go_at_call 8; refine (num6 _ _).mono ?_; rintro e'' w' ⟨rfl, rfl⟩)
                go_roundw
                case rel => exact ⟨k + 1, M ++ N, x', le', A3, c3', d', hlt, by rw [List.length_append], by rw [HL2.out], by go_num, HFD.out, HD2.out, HBX11.out, HO11.out, HBR11.out⟩
                case measure => simp [RowKit.intOf]; omega
              · have HL2 : Hid (le' = e') := by show le' = e'; rw [HLE.out, if_neg he]
                have heb : (e' != 0) = true := ne_true he
                clear he HLE
                go_wp2_with (go_at_call 8; refine (num6 _ _).mono ?_; rintro e'' w' ⟨rfl, rfl⟩)
                go_roundw
                case rel => exact ⟨k + 1, M ++ N, x', le', A3, c3', d', hlt, by rw [List.length_append], by rw [HL2.out], by go_num, HFD.out, HD2.out, HBX11.out, HO11.out, HBR11.out⟩
                case measure => simp [RowKit.intOf]; omega
          · obtain rfl : k = T.size := by omega
            have hT2 : T.extract 0 T.size = T := by apply bytes_ext; rw [data_take]; exact List.take_of_length_le (by rw [← Lib.size_eq]; exact Nat.le_refl _)
            rw [hT2, HE.out] at hfd
            injection hfd with e1 e2
            injection e2 with e2 e3
            subst e1 e2 e3
            obtain rfl : db = dd := by rw [hdb]; exact HDD.out
            have HAR := Lib.hid (hbar.box HAW.out (by have := HGB.out; omega))
            have hldA := load_fr (hbar.box HAW.out (by have := HGB.out; omega))
            have hldB := load_fr hbx
            obtain ⟨ads, ha1⟩ := (HOW.out.bar hbar HSW.out.1).at
            obtain ⟨bds, ha2⟩ := hown.at
            have HQ := Lib.hid (EqPackets_is L A1 A2 c1 c2 ads bds wr (by have := feed_few mx T; rw [HE.out] at this; exact this) (by have := feed_len mx T; rw [HE.out] at this; have h1 : 2 * L.length + x.size ≤ T.size := this; omega) ha1 ha2)
            have HXR := Lib.hid (hbar.below HXW.out (by have := HGA.out; have := HGB.out; omega) HXW.out.size)
            have heq := eql_fr x mx db
            clear ha1 ha2 hbx hown hbar hdb hT2 HAR HAW HBW HOW HXW HSW HGA HGB HE HDD
            go_wp2_with (first | (refine wpList_load_any (by rfl) 23 (.tmp 6) rfl ga 0 rfl _ hldA ?_) | (refine wpList_load_any (by rfl) 23 (.tmp 8) rfl gb 0 rfl _ hldB ?_) | (go_at_call 8; refine (num6 _ _).mono ?_; rintro e'' w' ⟨rfl, rfl⟩))
            refine HQ.out.mono ?_
            rintro q w' ⟨rfl, qb⟩
            have HXQ := Lib.hid (HXR.out.trans (qb.mono HXR.out.size))
            clear qb HXR HQ heq hldA hldB
            go_wp2_with (go_at_call 11; refine (wakes6 _).mono ?_; rintro q2 w2' ⟨rfl, qb⟩)
            go_ret
            exact ⟨rfl, HXQ.out.trans (qb.mono HXQ.out.size)⟩
end Go.Proofs.Ytiancngpknnkaaa
