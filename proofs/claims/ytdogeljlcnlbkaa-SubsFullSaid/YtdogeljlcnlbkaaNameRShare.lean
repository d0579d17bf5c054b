/- The document's own answer: shared filters. -/
import Derived.Test.YtdogeljlcnlbkaaNameRTop
namespace Go.Proofs.Ytdogeljlcnlbkaa
open Go.RowKit Go.Lib Txt Nam

theorem prefix_take (l p : List UInt8) : hasPrefix l p = (l.take p.length == p) := by
  unfold hasPrefix
  rw [Bool.eq_iff_iff, List.isPrefixOf_iff_prefix, List.prefix_iff_eq_take, beq_iff_eq]
  exact ⟨fun h => h.symm, fun h => h.symm⟩

set_option maxRecDepth 100000 in
set_option maxHeartbeats 2000000 in
/-- fairwayref0.Begins, of the sign of shared filters. -/
theorem Begins_is (s : ByteArray) (b : Bool) (w : World) (hb : hasPrefix s.data.toList shareSign = b) :
    Calls Try.prog 31 #[.string s, .string ⟨#[36, 115, 104, 97, 114, 101, 47]⟩] w fun e w' => e = .returned (.bool b) ∧ w = w' := by
  rw [prefix_take] at hb
  by_cases h7 : 7 ≤ s.size
  · have h7I : (7 : Int) ≤ (s.size : Int) := by omega
    have q : ((s.extract 0 7).toList == [36, 115, 104, 97, 114, 101, 47]) = b := by
      rw [toList_data_eq, extract_cutL, str_data]
      unfold cutL
      rw [List.drop_zero]
      exact hb
    clear hb
    go_enter Try.func31, Try.ntmps31
    go_wp2
    go_ret
    exact ⟨rfl, rfl⟩
  · have HB := Lib.hid (show false = b by
      rw [← hb, eq_comm, beq_eq_false_iff_ne]
      intro e
      have := congrArg List.length e
      rw [List.length_take, ← Lib.size_eq] at this
      change min 7 _ = 7 at this
      omega)
    have h7I : ¬ (7 : Int) ≤ (s.size : Int) := by omega
    clear hb
    go_enter Try.func31, Try.ntmps31
    go_wp2
    go_ret
    exact ⟨ret_bool HB.out, rfl⟩

set_option maxRecDepth 100000 in
set_option maxHeartbeats 2000000 in
/-- fairwayref7.Group, of what has no /. -/
theorem Group_is (g : List UInt8) (b : Bool) (w : World) (hs : g.length ≤ 1000000) (hf : ∀ c ∈ g, c ≠ 47) (hb : groupB g = b) :
    Calls Try.prog 33 #[.string (str g)] w fun e w' => e = .returned (.bool b) ∧ Below w.heap.size w w' := by
  have HC := Lib.hid (fun W => (RText_any (str g) W).mono fun _ _ h => And.intro h.1 h.2.symm)
  by_cases he : g = []
  · have HB := Lib.hid (show false = b by rw [← hb, he]; rfl)
    have hs0 : str g = ⟨#[]⟩ := by rw [he]; rfl
    rw [hs0]
    clear hb he hs0 HC hf
    go_enter Try.func33, Try.ntmps33
    go_wp2
    go_ret
    exact ⟨ret_bool HB.out, Below.refl _ _⟩
  · have hd : (str g).data.toList = g := str_data g
    have hq := empty_no (s := str g) (by rw [hd]; exact he)
    have hq2 : ((str g).toList == []) = false := by rw [beq_eq_false_iff_ne]; exact hq
    have hse : ¬ str g = ByteArray.empty := by intro e; rw [e] at hd; exact he hd.symm
    obtain ⟨p, hp⟩ : ∃ p, plain g = p := ⟨_, rfl⟩
    have HH := Lib.hid (fun W => has_is (str g) ⟨#[47, 43, 35]⟩ (!p) W (by rw [str_size]; exact hs) (by decide) (by rw [hd, ← hp]; exact has_group g hf))
    have hie : g.isEmpty = false := by cases g <;> simp_all
    have hbb : (decide (textErr g = 0) && p) = b := by rw [← hb, ← hp]; unfold groupB; rw [hie]; simp
    rw [hd] at HC
    generalize textErr g = T at HC hbb
    clear hb he hp hie hd hf
    generalize str g = s at HC HH hq hq2 hse
    have HB := Lib.hid hbb
    clear hbb
    cases p with
    | false =>
      have HE := Lib.hid (show false = b by rw [← HB.out]; simp)
      go_enter Try.func33, Try.ntmps33
      go_wp2_with (go_at_call 43; refine (HH.out _).mono ?_; rintro e w1 ⟨rfl, hb1⟩)
      go_ret
      exact ⟨ret_bool HE.out, hb1⟩
    | true =>
      by_cases h0 : T = 0
      · have HE := Lib.hid (show true = b by rw [← HB.out, decide_eq_true h0]; rfl)
        subst h0
        go_enter Try.func33, Try.ntmps33
        go_wp2_with (first | (go_at_call 43; refine (HH.out _).mono ?_; rintro e w1 ⟨rfl, hb1⟩) | (go_at_call 41; refine (HC.out _).mono ?_; rintro e w' ⟨rfl, rfl⟩))
        go_ret
        exact ⟨ret_bool HE.out, hb1⟩
      · have HE := Lib.hid (show false = b by rw [← HB.out, decide_eq_false h0]; rfl)
        have q : (T == 0) = false := by rw [beq_eq_false_iff_ne]; exact h0
        clear h0
        go_enter Try.func33, Try.ntmps33
        go_wp2_with (first | (go_at_call 43; refine (HH.out _).mono ?_; rintro e w1 ⟨rfl, hb1⟩) | (go_at_call 41; refine (HC.out _).mono ?_; rintro e w' ⟨rfl, rfl⟩))
        go_ret
        exact ⟨ret_bool HE.out, hb1⟩

set_option maxRecDepth 100000 in
set_option maxHeartbeats 4000000 in
/-- fairwayref7.Share. -/
theorem RShare_is (s : ByteArray) (r : Sh) (w : World) (hs : s.size ≤ 1000000) (hr : shareOf s.data.toList = r) :
    Calls Try.prog 17 #[.string s] w fun e w' => e = .returned (shV r) ∧ Below w.heap.size w w' := by
  unfold shareOf at hr
  obtain ⟨p, hp⟩ : ∃ p, hasPrefix s.data.toList shareSign = p := ⟨_, rfl⟩
  have HP := Lib.hid (fun W => Begins_is s p W hp)
  cases p with
  | false =>
    rw [hp, if_neg (by decide)] at hr
    obtain ⟨E, hE⟩ : ∃ E, filterErr s.data.toList = E := ⟨_, rfl⟩
    have HF := Lib.hid (fun W => RFilter_is s E W hs hE)
    rw [hE] at hr
    by_cases h0 : E = 0
    · rw [if_pos h0] at hr
      have HR := Lib.hid (show shV r = .tuple #[.bool false, .string ⟨#[]⟩, .string s, .int .i64 0] by rw [← hr]; unfold shV; dsimp only; rw [data_str]; rfl)
      subst h0
      clear hr hE hp
      go_enter Try.func17, Try.ntmps17
      go_wp2_with (first | (go_at_call 31; refine (HP.out _).mono ?_; rintro e w' ⟨rfl, rfl⟩) | (go_at_call 32; refine (HF.out _).mono ?_; rintro e w1 ⟨rfl, hb1⟩))
      refine bodyPost_ret (v := .tuple #[.bool false, .string ⟨#[]⟩, .string s, .int .i64 0]) (by simp [results, Try.results17, go_sem]) rfl ⟨by rw [HR.out], hb1⟩
    · rw [if_neg h0] at hr
      have HR := Lib.hid (show shV r = .tuple #[.bool false, .string ⟨#[]⟩, .string ⟨#[]⟩, .int .i64 E] by rw [← hr]; rfl)
      have q : (E != 0) = true := by rw [bne_iff_ne]; exact h0
      clear hr hE h0 hp
      go_enter Try.func17, Try.ntmps17
      go_wp2_with (first | (go_at_call 31; refine (HP.out _).mono ?_; rintro e w' ⟨rfl, rfl⟩) | (go_at_call 32; refine (HF.out _).mono ?_; rintro e w1 ⟨rfl, hb1⟩))
      refine bodyPost_ret (v := .tuple #[.bool false, .string ⟨#[]⟩, .string ⟨#[]⟩, .int .i64 E]) (by simp [results, Try.results17, go_sem]) rfl ⟨by rw [HR.out], hb1⟩
  | true =>
    have h7 : 7 ≤ s.size := by
      rw [prefix_take, beq_iff_eq] at hp
      have := congrArg List.length hp
      rw [List.length_take, ← Lib.size_eq] at this
      change min 7 _ = 7 at this
      omega
    have h7I : (7 : Int) ≤ (s.size : Int) := by omega
    rw [hp, if_pos rfl] at hr
    have HX := Lib.hid (show s.extract 7 s.size = str (s.data.toList.drop 7) by rw [extract_cutL, cutL_all _ _ _ (Nat.le_refl _)])
    have hxl : (s.data.toList.drop 7).length ≤ 1000000 := by rw [List.length_drop, ← Lib.size_eq]; omega
    clear hp h7
    generalize s.data.toList.drop 7 = x at hr HX hxl
    have HRX := Lib.hid hr
    clear hr
    go_enter Try.func17, Try.ntmps17
    go_wp2_with (go_at_call 31; refine (HP.out _).mono ?_; rintro e w' ⟨rfl, rfl⟩)
    rw [HX.out]
    have hts : (str x).size = x.length := str_size x
    have htd : (str x).data.toList = x := str_data x
    obtain ⟨t, hte⟩ : ∃ t, t = str x := ⟨_, rfl⟩
    rw [← hte] at hts htd ⊢
    have HTD := Lib.hid htd
    have ht1 : x.length ≤ t.size := by omega
    have ht2 : t.size ≤ 1000000 := by omega
    clear htd hte HX h7I hts
    go_loop [7] (fun i => ∃ b : Nat, b ≤ t.size ∧ i = .int .i64 (b : Int) ∧ ∀ c ∈ x.take b, c ≠ 47) (fun i => t.size - (RowKit.intOf i).toNat)
    case atStart => exact ⟨0, Nat.zero_le _, rfl, by simp⟩
    case round =>
      obtain ⟨b, hbs, rfl, hfree⟩ := hrel
      have HFR := Lib.hid hfree
      clear hfree
      by_cases hlt : b < t.size
      · have hltI : (b : Int) < (t.size : Int) := by omega
        have hb256 : t[b].toNat < 256 := UInt8.toNat_lt _
        have hc := byte_eq t[b] 47
        have hdb := drop_byte hlt
        rw [HTD.out] at hdb
        by_cases h1 : t[b] = 47
        · have q1 : ((t[b].toNat : Int) == 47) = true := by rw [h1]; rfl
          rw [h1] at hdb
          have hx : x = x.take b ++ 47 :: x.drop (b + 1) := by rw [← hdb, List.take_append_drop]
          obtain ⟨p1, p2⟩ := head_part (x.take b) (x.drop (b + 1)) HFR.out
          rw [← hx] at p1 p2
          have e1 := Lib.hid (show t.extract 0 b = str (head x) by rw [extract_cutL, p1, ← HTD.out]; unfold cutL; simp)
          have e2 := Lib.hid (show t.extract (b + 1) t.size = str (tail x) by rw [extract_cutL, cutL_all _ _ _ (Nat.le_refl _), p2, HTD.out])
          have hg := head_len x
          have hf := tail_len x
          have hgf : ∀ c ∈ head x, c ≠ 47 := by rw [p1]; exact HFR.out
          have hr := HRX.out
          clear hc h1 hdb hx p1 p2 HFR HRX
          generalize head x = g at e1 hg hgf hr
          generalize tail x = f at e2 hf hr
          obtain ⟨G, hG⟩ : ∃ G, groupB g = G := ⟨_, rfl⟩
          obtain ⟨E, hE⟩ : ∃ E, filterErr f = E := ⟨_, rfl⟩
          rw [hG, hE] at hr
          have HG := Lib.hid (fun W => Group_is g G W (by omega) hgf hG)
          have HF := Lib.hid (fun W => RFilter_is (str f) E W (by rw [str_size]; omega) (by rw [str_data]; exact hE))
          have hbI : (b : Int) + 1 ≤ (t.size : Int) := by omega
          have hbI2 : (b : Int) ≤ (t.size : Int) := by omega
          have hbI3 : (0 : Int) ≤ (b : Int) + 1 := by omega
          clear hG hE hgf hg hf HTD
          cases G with
          | false =>
            have HR := Lib.hid (show shV r = .tuple #[.bool false, .string ⟨#[]⟩, .string ⟨#[]⟩, .int .i64 8] by rw [← hr]; rfl)
            clear hr
            go_wp2_with (go_at_call 33; rw [e1.out]; refine (HG.out _).mono ?_; rintro e w1 ⟨rfl, hb1⟩)
            refine bodyPost_ret (v := .tuple #[.bool false, .string ⟨#[]⟩, .string ⟨#[]⟩, .int .i64 8]) (by simp [results, Try.results17, go_sem]) rfl ⟨by rw [HR.out], hb1⟩
          | true =>
            by_cases h0 : E = 0
            · subst h0
              have HR := Lib.hid (show shV r = .tuple #[.bool true, .string (t.extract 0 b), .string (t.extract (b + 1) t.size), .int .i64 0] by rw [← hr, e1.out, e2.out]; rfl)
              clear hr
              go_wp2_with (first | (go_at_call 33; rw [e1.out]; refine (HG.out _).mono ?_; rintro e w1 ⟨rfl, hb1⟩) | (go_at_call 32; rw [e2.out]; refine (HF.out _).mono ?_; rintro e w2 ⟨rfl, hb2⟩))
              go_quiet (fail)
              go_wp2
              refine bodyPost_ret (v := .tuple #[.bool true, .string (t.extract 0 b), .string (t.extract (b + 1) t.size), .int .i64 0]) (by simp [results, Try.results17, go_sem]) rfl ⟨by rw [HR.out], below_drewN (hb1.trans (hb2.mono hb1.size)) _⟩
            · have HR := Lib.hid (show shV r = .tuple #[.bool false, .string ⟨#[]⟩, .string ⟨#[]⟩, .int .i64 8] by rw [← hr]; simp [h0]; rfl)
              have q : (E == 0) = false := by rw [beq_eq_false_iff_ne]; exact h0
              clear hr h0
              go_wp2_with (first | (go_at_call 33; rw [e1.out]; refine (HG.out _).mono ?_; rintro e w1 ⟨rfl, hb1⟩) | (go_at_call 32; rw [e2.out]; refine (HF.out _).mono ?_; rintro e w2 ⟨rfl, hb2⟩))
              refine bodyPost_ret (v := .tuple #[.bool false, .string ⟨#[]⟩, .string ⟨#[]⟩, .int .i64 8]) (by simp [results, Try.results17, go_sem]) rfl ⟨by rw [HR.out], hb1.trans (hb2.mono hb1.size)⟩
        · have q1 : ((t[b].toNat : Int) == 47) = false := by
            rw [show ((47 : Int)) = (((47 : UInt8).toNat : Nat) : Int) from rfl, hc, beq_eq_false_iff_ne]; exact h1
          have hfr : ∀ c ∈ x.take (b + 1), c ≠ 47 := by
            intro c hcm
            have e : x.take (b + 1) = x.take b ++ [t[b]] := by
              rw [List.take_add, hdb]; rfl
            rw [e] at hcm
            rcases List.mem_append.1 hcm with hcm | hcm
            · exact HFR.out c hcm
            · rw [List.mem_singleton] at hcm; rw [hcm]; exact h1
          have HFR2 := Lib.hid hfr
          clear hc h1 hdb hfr HFR
          go_wp2
          go_round
          case rel => exact ⟨b + 1, hlt, by go_num, HFR2.out⟩
          case measure => simp [RowKit.intOf]; omega
      · have HR := Lib.hid (show shV r = .tuple #[.bool false, .string ⟨#[]⟩, .string ⟨#[]⟩, .int .i64 8] by
          have hr := HRX.out
          have hf := HFR.out
          rw [List.take_of_length_le (by omega)] at hf
          rw [(head_free x hf).2, filterErr_nil] at hr
          rw [← hr]; simp; rfl)
        clear HFR HRX
        go_wp2
        refine bodyPost_ret (v := .tuple #[.bool false, .string ⟨#[]⟩, .string ⟨#[]⟩, .int .i64 8]) (by simp [results, Try.results17, go_sem]) rfl ⟨by rw [HR.out], Below.refl _ _⟩
end Go.Proofs.Ytdogeljlcnlbkaa
