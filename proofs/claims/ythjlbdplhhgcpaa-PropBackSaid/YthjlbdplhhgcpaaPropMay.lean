/- Package prop, and the document's own answer: may a property follow others at a place; does it stand there twice? -/
import Derived.Test.YthjlbdplhhgcpaaPropStands
import Derived.Test.YthjlbdplhhgcpaaPropPutOne
namespace Go.Proofs.Ythjlbdplhhgcpaa
open Go.RowKit Go.Lib Prp

theorem any_at {l : List P} {id : Int} {k : Nat} (hk : k < l.length) (h : l[k].id = id) : (l.any fun q => decide (q.id = id)) = true := by
  rw [List.any_eq_true]
  exact ⟨l[k], List.getElem_mem hk, decide_eq_true h⟩
theorem any_not {l : List P} {id : Int} (h : ∀ j (hj : j < l.length), l[j].id ≠ id) : (l.any fun q => decide (q.id = id)) = false := by
  rw [Bool.eq_false_iff]
  intro hc
  rw [List.any_eq_true] at hc
  obtain ⟨q, hq, he⟩ := hc
  obtain ⟨j, hj, rfl⟩ := List.getElem_of_mem hq
  exact h j hj (of_decide_eq_true he)
theorem twice_rep {place id : Int} {l : List P} (h : repB place id = true) : twiceB place id l = false := by unfold twiceB; rw [h]; rfl
theorem twice_at {place id : Int} {l : List P} {k : Nat} (h : repB place id = false) (hk : k < l.length) (he : l[k].id = id) : twiceB place id l = true := by unfold twiceB; rw [h, any_at hk he]; rfl
theorem twice_not {place id : Int} {l : List P} (h : repB place id = true ∨ ∀ j (hj : j < l.length), l[j].id ≠ id) : twiceB place id l = false := by
  rcases h with h | h
  · exact twice_rep h
  · unfold twiceB; rw [any_not h, Bool.and_false]

set_option maxRecDepth 100000 in
set_option maxHeartbeats 2000000 in
theorem twice_is (place id : Int) (l : List P) (A : Option Addr) (c B : Nat) (b : Bool) (w : World) (hm : l.length ≤ 9223372036854775807) (h : PropsAt w B A l) (hb : twiceB place id l = b) :
    Calls Try.prog 37 #[.int .i64 place, .int .i64 id, .slice A l.length c] w fun e w' => e = .returned (.bool b) ∧ w = w' := by
  have H := Lib.hid h
  have HB := Lib.hid hb
  clear h hb
  by_cases h38 : id = 38
  · subst h38
    have HT := Lib.hid (HB.out.symm.trans (twice_rep (by unfold repB; exact decide_eq_true (.inl rfl))))
    clear HB
    go_enter Try.func37, Try.ntmps37
    go_wp2
    go_ret
    exact ⟨ret_bool HT.out.symm, rfl⟩
  have b38 := ne_false h38
  by_cases h11 : id = 11 ∧ place = 3
  · obtain ⟨rfl, rfl⟩ := h11
    have HT := Lib.hid (HB.out.symm.trans (twice_rep (by unfold repB; exact decide_eq_true (.inr ⟨rfl, rfl⟩))))
    clear HB
    go_enter Try.func37, Try.ntmps37
    go_wp2
    go_ret
    exact ⟨ret_bool HT.out.symm, rfl⟩
  have HR : Hid (repB place id = false) := by show _ = _; unfold repB; exact decide_eq_false (by omega)
  have hg : ((id == 11) = false) ∨ ((id == 11) = true ∧ (place == 3) = false) := by
    by_cases e : id = 11
    · right; exact ⟨by rw [beq_iff_eq]; exact e, ne_false (fun e3 => h11 ⟨e, e3⟩)⟩
    · left; exact ne_false e
  rcases hg with hg | ⟨hg, hg3⟩
  all_goals
    go_enter Try.func37, Try.ntmps37
    go_wp2_with fail
    go_loop [7] (fun i => ∃ k : Nat, k ≤ l.length ∧ i = .int .i64 (k : Int) ∧ ∀ j (hj : j < l.length), j < k → l[j].id ≠ id) (fun i => l.length - (RowKit.intOf i).toNat)
    case atStart => exact ⟨0, Nat.zero_le _, rfl, fun j hj hk => by omega⟩
    case round =>
      obtain ⟨k, hk, rfl, hne⟩ := hrel
      have HN := Lib.hid hne
      clear hne
      by_cases hlt : k < l.length
      · obtain ⟨bb, o, rfl, _, hc⟩ := H.out.some_ (by omega)
        have h1 := (hc k hlt).c0
        clear hc H
        have hkI : (k : Int) < (l.length : Int) := by omega
        obtain ⟨y, hy⟩ : ∃ y, l[k].id = y := ⟨_, rfl⟩
        rw [hy] at h1
        by_cases hyx : y = id
        · have HT := Lib.hid (HB.out.symm.trans (twice_at HR.out hlt (hy.trans hyx)))
          have bb := show (y == id) = true by rw [beq_iff_eq]; exact hyx
          clear hy HN HB hyx
          go_wp2
          go_ret
          exact ⟨ret_bool HT.out.symm, rfl⟩
        · have bb := ne_false hyx
          have HY := Lib.hid hy
          have HYX := Lib.hid hyx
          clear hy hyx
          go_wp2
          go_round
          case rel => exact ⟨k + 1, hlt, by go_num, fun j hj hjk => by
            by_cases e : j = k
            · subst e; rw [HY.out]; exact HYX.out
            · exact HN.out j hj (by omega)⟩
          case measure => simp [RowKit.intOf]; omega
      · obtain rfl : k = l.length := by omega
        have HT := Lib.hid (HB.out.symm.trans (twice_not (.inr fun j hj => HN.out j hj hj)))
        clear HN HB H
        go_wp2
        go_ret
        exact ⟨ret_bool HT.out.symm, rfl⟩

set_option maxRecDepth 100000 in
set_option maxHeartbeats 4000000 in
theorem mayFollow_is (place id n : Int) (s v : ByteArray) (l : List P) (A : Option Addr) (c : Nat) (b : Bool) (w : World) (hm : l.length ≤ 9223372036854775807) (h : PropsAt w w.heap.size A l) (hb : mayB place l ⟨id, n, s, v⟩ = b) :
    Calls Try.prog 29 #[.int .i64 place, .slice A l.length c, .agg #[.int .i64 id, .int .i64 n, .string s, .string v]] w fun e w' => e = .returned (.bool b) ∧ Below w.heap.size w w' := by
  have H := Lib.hid h
  unfold mayB at hb
  have HB := Lib.hid hb
  clear h hb
  obtain ⟨x, hx⟩ : ∃ x, standB place id = x := ⟨_, rfl⟩
  have HS := Lib.hid (fun W => mayStand_is place id x W hx)
  obtain ⟨y, hy⟩ : ∃ y, haveB id n = y := ⟨_, rfl⟩
  have HV := Lib.hid (fun W => mayHave_is id n y W hy)
  obtain ⟨z, hz⟩ : ∃ z, repB place id = z := ⟨_, rfl⟩
  have HR := Lib.hid (fun W => mayRepeat_is place id z W hz)
  have HZ := Lib.hid hz
  have hbb := HB.out
  simp only [hx, hy] at hbb
  have HC := Lib.hid hbb
  clear hx hy hz hbb HB
  cases x with
  | false =>
    have HT := Lib.hid HC.out
    clear HC
    go_enter Try.func29, Try.ntmps29
    go_wp2_with fail
    have HK := Lib.hid (Keep.new w 48 #[.int .i64 id, .int .i64 n, .string s, .string v])
    refine (HS.out _).mono ?_
    rintro e w1 ⟨rfl, hb1⟩
    have HK1 := Lib.hid (HK.out.below hb1)
    clear hb1 HK HS
    go_wp2_with fail
    go_ret
    exact ⟨ret_bool HT.out, HK1.out.out.2⟩
  | true =>
    cases y with
    | false =>
      have HT := Lib.hid HC.out
      clear HC
      go_enter Try.func29, Try.ntmps29
      go_wp2_with fail
      have HK := Lib.hid (Keep.new w 48 #[.int .i64 id, .int .i64 n, .string s, .string v])
      refine (HS.out _).mono ?_
      rintro e w1 ⟨rfl, hb1⟩
      have HK1 := Lib.hid (HK.out.below hb1)
      clear hb1 HK HS
      obtain ⟨c0, c1, c2, c3⟩ := HK1.out.four
      go_wp2_with (go_at_call 45; refine (HV.out _).mono ?_; rintro e w' ⟨rfl, rfl⟩)
      go_ret
      exact ⟨ret_bool HT.out, HK1.out.out.2⟩
    | true =>
      go_enter Try.func29, Try.ntmps29
      go_wp2_with fail
      have HK := Lib.hid (Keep.new w 48 #[.int .i64 id, .int .i64 n, .string s, .string v])
      refine (HS.out _).mono ?_
      rintro e w1 ⟨rfl, hb1⟩
      have HK1 := Lib.hid (HK.out.below hb1)
      clear hb1 HK HS
      obtain ⟨c0, c1, c2, c3⟩ := HK1.out.four
      obtain ⟨g, hg⟩ : ∃ g, w.heap.size = g := ⟨_, rfl⟩
      rw [hg] at c0 c1 c2 c3 HK1
      go_wp2_with (go_at_call 45; refine (HV.out _).mono ?_; rintro e w' ⟨rfl, rfl⟩)
      have HH := Lib.hid (H.out.below HK1.out.out.2)
      have HSZ := Lib.hid HK1.out.out.2.size
      clear c0 c1 c2 c3 H
      go_loopw [24] (fun i wr => ∃ k : Nat, k ≤ l.length ∧ i = .int .i64 (k : Int) ∧ Keep w g #[.int .i64 id, .int .i64 n, .string s, .string v] wr ∧ (z = true ∨ ∀ j (hj : j < l.length), j < k → l[j].id ≠ id) ∧ PropsAt wr w.heap.size A l) (fun i _ => l.length - (RowKit.intOf i).toNat)
      case atStart => exact ⟨0, Nat.zero_le _, rfl, HK1.out, .inr fun j hj hk => by omega, HH.out⟩
      case round =>
        obtain ⟨k, hk, rfl, hkeep, hne, hat⟩ := hrel
        have HN := Lib.hid hne
        have HK := Lib.hid hkeep
        have HP := Lib.hid hat
        have HL := Lib.hid hkeep.out.2.size
        clear hne hkeep hat HK1 HH
        by_cases hlt : k < l.length
        · obtain ⟨b0, o, rfl, hb0, hc⟩ := HP.out.some_ (by omega)
          obtain ⟨d0, d1, d2, d3⟩ := hc k hlt
          clear hc
          obtain ⟨q, hq⟩ : ∃ q, l[k] = q := ⟨_, rfl⟩
          rw [hq] at d0 d1 d2 d3
          have HQ := Lib.hid hq
          clear hq
          obtain ⟨i', n', s', v'⟩ := q
          have c0 := HK.out.four.1
          have hgl : g < wr.heap.size := HK.out.out.1.lt
          have hkI : (k : Int) < (l.length : Int) := by omega
          by_cases hyx : i' = id
          · subst hyx
            cases z with
            | true =>
              go_wp2_with (go_at_call 46; refine (HR.out _).mono ?_; rintro e w' ⟨rfl, rfl⟩)
              go_roundw
              case rel => exact ⟨k + 1, hlt, by go_num, HK.out.below ((Below.refl _ _).alloc (Nat.le_refl _) _), .inl trivial, HP.out.alloc HL.out _⟩
              case measure => simp [RowKit.intOf]; omega
            | false =>
              have HT := Lib.hid (twice_at (place := place) HZ.out hlt (by rw [HQ.out]))
              go_wp2_with (go_at_call 46; refine (HR.out _).mono ?_; rintro e w' ⟨rfl, rfl⟩)
              go_ret
              exact ⟨ret_bool (by rw [← HC.out, HT.out]; rfl), HK.out.out.2.alloc HL.out _⟩
          · have bb := ne_false hyx
            have HYX := Lib.hid hyx
            clear hyx
            go_wp2_with fail
            go_roundw
            case rel => exact ⟨k + 1, hlt, by go_num, HK.out.below ((Below.refl _ _).alloc (Nat.le_refl _) _), HN.out.imp (fun e => e) (fun hn j hj hjk => by
              by_cases e : j = k
              · subst e; rw [HQ.out]; exact HYX.out
              · exact hn j hj (by omega)), HP.out.alloc HL.out _⟩
            case measure => simp [RowKit.intOf]; omega
        · obtain rfl : k = l.length := by omega
          have HT := Lib.hid (twice_not (place := place) (HN.out.imp (fun e => HZ.out.trans e) (fun hn j hj => hn j hj hj)))
          clear HN
          go_wp2_with fail
          go_ret
          exact ⟨ret_bool (by rw [← HC.out, HT.out]; rfl), HK.out.out.2⟩
end Go.Proofs.Ythjlbdplhhgcpaa
