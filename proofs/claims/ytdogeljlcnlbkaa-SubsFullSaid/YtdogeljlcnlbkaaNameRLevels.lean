/- The document's own answer: levels, signs, what a text begins with. -/
import Derived.Test.YtdogeljlcnlbkaaNameLevels
namespace Go.Proofs.Ytdogeljlcnlbkaa
open Go.RowKit Go.Lib Txt Nam

theorem drop_byte {s : ByteArray} {b : Nat} (hp : b < s.size) : s.data.toList.drop b = s[b] :: s.data.toList.drop (b + 1) := by
  have h : b < s.data.toList.length := by rw [← Lib.size_eq]; exact hp
  rw [List.drop_eq_getElem_cons h]
  simp [ByteArray.getElem_eq_getElem_data]
theorem byte_eq (c d : UInt8) : ((c.toNat : Int) == (d.toNat : Int)) = (c == d) := by
  rw [Bool.eq_iff_iff, beq_iff_eq, beq_iff_eq]
  exact ⟨fun e => UInt8.toNat_inj.1 (by omega), fun e => by rw [e]⟩
theorem split_here {s : ByteArray} {b : Nat} (hp : b < s.size) :
    (s[b] = 47 → split (s.data.toList.drop b) = [] :: split ((s.data.toList.drop b).drop 1)) ∧ (s[b] ≠ 47 → split (s.data.toList.drop b) = pre ((s.data.toList.drop b).take 1) (split ((s.data.toList.drop b).drop 1))) := by
  rw [drop_byte hp]
  generalize s[b] = c
  constructor
  · rintro rfl
    rw [split_slash]; rfl
  · intro h
    rw [split_cons, if_neg h]; rfl

set_option maxRecDepth 100000 in
set_option maxHeartbeats 4000000 in
/-- fairwayref7.Levels. -/
theorem RLevels_is (s : ByteArray) (w : World) (hs : s.size ≤ 1000000) : Calls Try.prog 42 #[.string s] w (GivesStrs (split s.data.toList) w) := by
  obtain ⟨i0, hi, hz0, hz1, hz2⟩ := info_parts info_string
  have HT0 := Lib.hid (Told.start s)
  go_enter Try.func42, Try.ntmps42
  go_wp2_with fail
  go_loopw [3, 4, 5] (fun v f i wr => ∃ (a b : Nat) (ys : List (List UInt8)), f = .int .i64 (a : Int) ∧ i = .int .i64 (b : Int) ∧ (Told s a b ys ∨ (b = s.size + 1 ∧ ys = split s.data.toList)) ∧ wr.ownsRow w.heap.size 9 1 v ys.length (strs ys) ∧ Below w.heap.size w wr) (fun _ _ i _ => s.size + 1 - (RowKit.intOf i).toNat)
  case atStart => exact ⟨0, 0, [], rfl, rfl, .inl HT0.out, World.ownsRow_nil _ _ _ _, Below.refl _ w⟩
  case round =>
    obtain ⟨a, b, ys, rfl, rfl, ht, hown, hbw⟩ := hrel
    have hsz := hbw.size
    by_cases hp : b ≤ s.size
    · have ht : Told s a b ys := by
        rcases ht with h | ⟨h, _⟩
        · exact h
        · omega
      have hab := ht.1
      have hyb := ht.2.2.1
      have habI : (a : Int) ≤ (b : Int) := by omega
      have hbsI : (b : Int) ≤ (s.size : Int) := by omega
      have hyl : ys.length ≤ 1000000 := by omega
      have hX := extract_cutL s a b
      obtain ⟨X, hXe⟩ : ∃ X, X = cutL s a b := ⟨_, rfl⟩
      rw [← hXe] at hX
      have HXe := Lib.hid hX
      by_cases he : b = s.size
      · have hdone := ht.end_ (by omega)
        rw [← he, ← hXe] at hdone
        have HD := Lib.hid hdone
        have q1 : ((b : Int) == (s.size : Int)) = true := by simp; omega
        have HE := Lib.hid he
        have HO1 := Lib.hid hown
        have HB1 := Lib.hid hbw
        clear hdone he hXe hX ht
        go_wp2_with (at_builtin; rw [HXe.out]; refine wpList_append_own _ rfl _ _ 78 rfl w.heap.size 9 i0 (.string ⟨#[]⟩) 1 16 Try.underlying78 hi hz0 hz1 hz2 rfl (by decide) _ _ _ rfl (HO1.out.alloc _) ⟨wr.heap.size, 0, none⟩ 1 1 [.string (str X)] rfl rfl ?c1 ?c2 ?c3 ?c4 ?c5 ?_)
        case c1 => exact cell_one_new _ _ _
        case c2 => intro u hu; simp at hu; subst hu; rfl
        case c3 => unfold maxLen; omega
        case c4 => omega
        case c5 => simp; omega
        intro v' w3 hown' hgrow _
        have hb3 := below_alloc_grown hsz HO1.out hgrow
        have HO := Lib.hid (own_str_snoc hown')
        have HB := Lib.hid (HB1.out.trans hb3)
        clear hown' hgrow hb3 HO1 HB1 hown hbw
        go_wp2
        go_roundw
        case rel => exact ⟨b + 1, b + 1, ys ++ [X], by go_num, by go_num, .inr ⟨by rw [HE.out], HD.out⟩, HO.out, HB.out⟩
        case measure => simp [RowKit.intOf]; omega
      · have hlt : b < s.size := by omega
        have hltI : (b : Int) < (s.size : Int) := by omega
        have q0 : ((b : Int) == (s.size : Int)) = false := by simp; omega
        obtain ⟨s1, s2⟩ := split_here hlt
        have hc := byte_eq s[b] 47
        have hb256 : s[b].toNat < 256 := UInt8.toNat_lt _
        by_cases h1 : s[b] = 47
        · have q1 : ((s[b].toNat : Int) == 47) = true := by rw [h1]; rfl
          have HT1 := Lib.hid (ht.slash hlt (s1 h1))
          rw [← hXe] at HT1
          have HO1 := Lib.hid hown
          have HB1 := Lib.hid hbw
          clear he hXe hX ht s1 s2 h1 hc
          go_wp2_with (at_builtin; rw [HXe.out]; refine wpList_append_own _ rfl _ _ 78 rfl w.heap.size 9 i0 (.string ⟨#[]⟩) 1 16 Try.underlying78 hi hz0 hz1 hz2 rfl (by decide) _ _ _ rfl (HO1.out.alloc _) ⟨wr.heap.size, 0, none⟩ 1 1 [.string (str X)] rfl rfl ?d1 ?d2 ?d3 ?d4 ?d5 ?_)
          case d1 => exact cell_one_new _ _ _
          case d2 => intro u hu; simp at hu; subst hu; rfl
          case d3 => unfold maxLen; omega
          case d4 => omega
          case d5 => simp; omega
          intro v' w3 hown' hgrow _
          have hb3 := below_alloc_grown hsz HO1.out hgrow
          have HO := Lib.hid (own_str_snoc hown')
          have HB := Lib.hid (HB1.out.trans hb3)
          clear hown' hgrow hb3 HO1 HB1 hown hbw
          go_wp2
          go_roundw
          case rel => exact ⟨b + 1, b + 1, ys ++ [X], by go_num, by go_num, .inl HT1.out, HO.out, HB.out⟩
          case measure => simp [RowKit.intOf]; omega
        · have q1 : ((s[b].toNat : Int) == 47) = false := by
            rw [show ((47 : Int)) = (((47 : UInt8).toNat : Nat) : Int) from rfl, hc, beq_eq_false_iff_ne]; exact h1
          have HT1 := Lib.hid (ht.go (v := 1) (by omega) (s2 h1))
          have HO1 := Lib.hid hown
          have HB1 := Lib.hid hbw
          clear he hXe hX ht s1 s2 h1 hc hown hbw
          go_wp2
          go_roundw
          case rel => exact ⟨a, b + 1, ys, rfl, by go_num, .inl HT1.out, HO1.out, HB1.out⟩
          case measure => simp [RowKit.intOf]; omega
    · have hy : ys = split s.data.toList := by
        rcases ht with h | ⟨_, h⟩
        · exact absurd h.2.1 hp
        · exact h
      subst hy
      have HO1 := Lib.hid hown
      have HB1 := Lib.hid hbw
      clear ht hown hbw
      go_wp2
      go_ret
      exact gives_strs HO1.out (Nat.le_refl _) HB1.out

/-! ### signs -/
def hasB (l g : List UInt8) : Bool := l.any fun c => g.contains c
theorem hasB_step {s : ByteArray} {b : Nat} (hp : b < s.size) (g : List UInt8) : hasB (s.data.toList.drop b) g = (g.contains s[b] || hasB (s.data.toList.drop (b + 1)) g) := by
  rw [drop_byte hp]; rfl
theorem has_step {s : ByteArray} {b : Nat} (hp : b < s.size) (c : UInt8) : (s.data.toList.drop b).contains c = (c == s[b] || (s.data.toList.drop (b + 1)).contains c) := by
  rw [drop_byte hp, List.contains_cons]
set_option maxRecDepth 100000 in
set_option maxHeartbeats 4000000 in
/-- fairwayref7.has. -/
theorem has_is (s g : ByteArray) (v : Bool) (w : World) (hs : s.size ≤ 1000000) (hg : g.size ≤ 1000) (hv : hasB s.data.toList g.data.toList = v) :
    Calls Try.prog 43 #[.string s, .string g] w fun e w' => e = .returned (.bool v) ∧ Below w.heap.size w w' := by
  have HV := Lib.hid hv
  clear hv
  go_enter Try.func43, Try.ntmps43
  go_wp2_with fail
  go_loopw [5, 6] (fun i _ wr => ∃ b n : Nat, b ≤ s.size ∧ i = .int .i64 (b : Int) ∧ wr = w.drewN n ∧ hasB (s.data.toList.drop b) g.data.toList = v) (fun i _ _ => s.size - (RowKit.intOf i).toNat)
  case atStart => exact ⟨0, 0, Nat.zero_le _, rfl, rfl, HV.out⟩
  case round =>
    obtain ⟨b, n, hbs, rfl, rfl, hc⟩ := hrel
    have HC := Lib.hid hc
    clear hc HV
    by_cases hlt : b < s.size
    · have hltI : (b : Int) < (s.size : Int) := by omega
      have HS := Lib.hid (hasB_step hlt g.data.toList)
      have hb256 : s[b].toNat < 256 := UInt8.toNat_lt _
      go_wp2_with fail
      go_loopw [6] (fun i wr => ∃ k m : Nat, k ≤ g.size ∧ i = .int .i64 (k : Int) ∧ wr = w.drewN m ∧ (g.data.toList.drop k).contains s[b] = g.data.toList.contains s[b]) (fun i _ => g.size - (RowKit.intOf i).toNat)
      case atStart => exact ⟨0, n, Nat.zero_le _, rfl, rfl, rfl⟩
      case round =>
        obtain ⟨k, m, hkg, rfl, rfl, hd⟩ := hrel
        have HD := Lib.hid hd
        clear hd
        by_cases hk : k < g.size
        · have hkI : (k : Int) < (g.size : Int) := by omega
          have HK := Lib.hid (has_step hk s[b])
          have hk256 : g[k].toNat < 256 := UInt8.toNat_lt _
          have hq := byte_eq s[b] g[k]
          cases he : (s[b] == g[k]) with
          | true =>
            rw [he] at hq HK
            clear he
            go_wp2
            go_quiet (fail)
            go_wp2
            go_ret
            refine ⟨ret_bool ?_, below_drewN (below_drewN (Below.refl _ _) _) _⟩
            rw [← HC.out, HS.out, ← HD.out, HK.out]; rfl
          | false =>
            rw [he] at hq HK
            clear he
            go_wp2
            go_quiet (fail)
            go_wp2
            go_roundw
            case rel => exact ⟨k + 1, _, hk, by go_num, rfl, by rw [← HD.out, HK.out, Bool.false_or]⟩
            case measure => simp [RowKit.intOf]; omega
        · have HN := Lib.hid (show g.data.toList.contains s[b] = false by rw [← HD.out, List.drop_of_length_le (by rw [← Lib.size_eq]; omega)]; rfl)
          clear HD
          go_wp2
          go_roundw
          case rel => exact ⟨b + 1, m, hlt, by go_num, rfl, by rw [← HC.out, HS.out, HN.out, Bool.false_or]⟩
          case measure => simp [RowKit.intOf]; omega
    · go_wp2
      go_ret
      refine ⟨ret_bool ?_, below_drewN (Below.refl _ _) _⟩
      rw [← HC.out, List.drop_of_length_le (by rw [← Lib.size_eq]; omega)]; rfl
theorem has_plain (l : List UInt8) : hasB l [43, 35] = !plain l := by
  unfold hasB plain
  rw [List.not_all_eq_any_not]
  congr 1
  funext c
  rw [Bool.eq_iff_iff]
  simp [List.contains_cons]
theorem has_group (l : List UInt8) (h : ∀ c ∈ l, c ≠ 47) : hasB l [47, 43, 35] = !plain l := by
  rw [← has_plain]
  unfold hasB
  rw [Bool.eq_iff_iff, List.any_eq_true, List.any_eq_true]
  constructor
  · rintro ⟨c, hc, h2⟩
    refine ⟨c, hc, ?_⟩
    have := h c hc
    simp [List.contains_cons] at h2 ⊢
    rcases h2 with h2 | h2 | h2
    · exact absurd h2 this
    · exact .inl h2
    · exact .inr h2
  · rintro ⟨c, hc, h2⟩
    refine ⟨c, hc, ?_⟩
    simp [List.contains_cons] at h2 ⊢
    exact .inr h2
end Go.Proofs.Ytdogeljlcnlbkaa
