/- Plain facts on properties: what is taken is written again as it was. No run of a program is in this file. -/
import Derived.Test.YthjlbdplhhgcpaaPropPlainBackAll
import Derived.Test.YthjlbdplhhgcpaaPropTakes
namespace Go.Proofs.Ythjlbdplhhgcpaa.Prp
open Go.Lib Vbi

theorem u8_same (b : UInt8) {x : Nat} (h : x = b.toNat) : UInt8.ofNat x = b := by
  subst h
  exact UInt8.toNat_inj.1 (u8_ofNat b.toNat_lt)
theorem fix1_wrote (l : List UInt8) (h : 1 ≤ l.length) : bytesOf [((fixVal (l.take 1) : Nat) : Int)] = l.take 1 := by
  match l with
  | a :: t =>
    show [UInt8.ofNat (((fixVal [a] : Nat) : Int)).toNat] = [a]
    rw [Int.toNat_natCast, u8_same a (x := fixVal [a]) (by show 0 * 256 + a.toNat = a.toNat; omega)]
theorem fix2_wrote (l : List UInt8) (h : 2 ≤ l.length) : bytesOf (fixZ 2 (fixVal (l.take 2))) = l.take 2 := by
  match l with
  | [] => simp at h
  | [_] => simp at h
  | a :: b :: t =>
    have h1 := a.toNat_lt
    have h2 := b.toNat_lt
    rw [fix2_data (fixVal_two _)]
    have hv : fixVal ((a :: b :: t).take 2) = a.toNat * 256 + b.toNat := by show (0 * 256 + a.toNat) * 256 + b.toNat = _; omega
    rw [hv, u8_same a (by omega), u8_same b (by omega)]
    rfl
theorem fix4_wrote (l : List UInt8) (h : 4 ≤ l.length) : bytesOf (fixZ 4 (fixVal (l.take 4))) = l.take 4 := by
  match l with
  | [] => simp at h
  | [_] => simp at h
  | [_, _] => simp at h
  | [_, _, _] => simp at h
  | a :: b :: c :: d :: t =>
    have h1 := a.toNat_lt
    have h2 := b.toNat_lt
    have h3 := c.toNat_lt
    have h4 := d.toNat_lt
    rw [fix4_data (fixVal_four _)]
    have hv : fixVal ((a :: b :: c :: d :: t).take 4) = ((a.toNat * 256 + b.toNat) * 256 + c.toNat) * 256 + d.toNat := by show (((0 * 256 + a.toNat) * 256 + b.toNat) * 256 + c.toNat) * 256 + d.toNat = _; omega
    rw [hv, u8_same a (by omega), u8_same b (by omega), u8_same c (by omega), u8_same d (by omega)]
    rfl
theorem ext_glue (s : ByteArray) (i j : Nat) : s.extract 0 i ++ (s.extract i s.size).extract 0 j = s.extract 0 (i + j) := by
  apply bytes_ext
  rw [data_add, data_take, data_take, data_take, Lib.extract_data, List.take_add]
  congr 1
  rw [List.take_of_length_le (l := s.data.toList.drop i) (by rw [List.length_drop, ← Lib.size_eq]; exact Nat.le_refl _)]
theorem ext_glue2 (s : ByteArray) (i j : Nat) : s.extract 0 i ++ s.extract i (i + j) = s.extract 0 (i + j) := by
  apply bytes_ext
  rw [data_add, data_take, data_take, Lib.extract_data, List.take_add, Nat.add_sub_cancel_left]
theorem ext_all (s : ByteArray) (i : Nat) : s.extract 0 i ++ s.extract i s.size = s := by
  apply bytes_ext
  rw [data_add, data_take, Lib.extract_data]
  rw [List.take_of_length_le (l := s.data.toList.drop i) (by rw [List.length_drop, ← Lib.size_eq]; exact Nat.le_refl _), List.take_append_drop]
theorem tl_wrote {t : Bool} {s : ByteArray} (h : (tl t s).2.2 = 0) : strOfNums (fixZ 2 (tl t s).1.size) ++ (tl t s).1 = s.extract 0 (tl t s).2.1.toNat := by
  obtain ⟨m, h1, h2, h3, h4, h5, _⟩ := tl_took h
  have hz : (s.extract 2 (2 + m)).size = m := by rw [ByteArray.size_extract]; omega
  rw [h5, hz, h1, Int.toNat_natCast, ← ext_glue2 s 2 m]
  congr 1
  apply bytes_ext
  rw [strOf_data, data_take, ← h4]
  unfold tbN
  exact fix2_wrote _ (by rw [← Lib.size_eq]; omega)
theorem str_1 (p : P) : valStr 1 p = strOfNums [p.n] := rfl
theorem str_2 (p : P) : valStr 2 p = strOfNums (fixZ 2 p.n.toNat) := rfl
theorem str_3 (p : P) : valStr 3 p = strOfNums (fixZ 4 p.n.toNat) := rfl
theorem str_4 (p : P) : valStr 4 p = strOfNums (numZ p.n.toNat) := rfl
theorem str_5 (p : P) : valStr 5 p = strOfNums (fixZ 2 p.s.size) ++ p.s := rfl
theorem str_6 (p : P) : valStr 6 p = strOfNums (fixZ 2 p.s.size) ++ p.s := rfl
theorem tk_1 (s : ByteArray) : tk 1 s = tkFix 1 s := rfl
theorem tk_2 (s : ByteArray) : tk 2 s = tkFix 2 s := rfl
theorem tk_3 (s : ByteArray) : tk 3 s = tkFix 4 s := rfl
theorem tk_4 (s : ByteArray) : tk 4 s = tkNum s := rfl
theorem tk_5 (s : ByteArray) : tk 5 s = tkLong true s := rfl
theorem tk_6 (s : ByteArray) : tk 6 s = tkLong false s := rfl
/-- What a value was taken of is what it is written as. -/
theorem tk_wrote {k : Int} (id : Int) {s : ByteArray} (h0 : 0 ≤ k) (h7 : k ≤ 7) (hk : k ≠ 0) (h : (tk k s).e = 0) : valStr k ⟨id, (tk k s).n, (tk k s).a, (tk k s).b⟩ = s.extract 0 (tk k s).k.toNat := by
  rcases kind_seven h0 h7 hk with rfl | rfl | rfl | rfl | rfl | rfl | rfl
  · rw [tk_1] at h ⊢
    rw [str_1]
    rcases fx_cases 1 s with ⟨_, e, _, _⟩ | ⟨hs, e, _, _⟩
    · rw [e] at h; cases h
    · rw [e]
      apply bytes_ext
      rw [strOf_data, data_take]
      exact fix1_wrote _ (by rw [← Lib.size_eq]; exact hs)
  · rw [tk_2] at h ⊢
    rw [str_2]
    rcases fx_cases 2 s with ⟨_, e, _, _⟩ | ⟨hs, e, _, _⟩
    · rw [e] at h; cases h
    · rw [e]
      apply bytes_ext
      rw [strOf_data, data_take]
      exact fix2_wrote _ (by rw [← Lib.size_eq]; exact hs)
  · rw [tk_3] at h ⊢
    rw [str_3]
    rcases fx_cases 4 s with ⟨_, e, _, _⟩ | ⟨hs, e, _, _⟩
    · rw [e] at h; cases h
    · rw [e]
      apply bytes_ext
      rw [strOf_data, data_take]
      exact fix4_wrote _ (by rw [← Lib.size_eq]; exact hs)
  · rw [tk_4] at h ⊢
    rw [str_4]
    have h : (tn s.data.toList).2.2 = 0 := h
    show strOfNums (numZ (tn s.data.toList).1.toNat) = s.extract 0 (tn s.data.toList).2.1.toNat
    rcases num_wrote s with ⟨E, e, hE⟩ | ⟨m, q, e, _, _, hw⟩
    · rw [e] at h; exact absurd h hE
    · rw [e]; exact hw
  · rw [tk_5] at h ⊢
    rw [str_5]
    exact tl_wrote (t := true) h
  · rw [tk_6] at h ⊢
    rw [str_6]
    exact tl_wrote (t := false) h
  · rw [tk_7] at h ⊢
    rw [str_7]
    by_cases c : (tl true s).2.2 = 0
    · by_cases d : (tl true (s.extract (tl true s).2.1.toNat s.size)).2.2 = 0
      · rw [two_good c d]
        obtain ⟨m, e1, _⟩ := tl_took c
        obtain ⟨m2, e2, _⟩ := tl_took d
        have w1 := tl_wrote c
        have w2 := tl_wrote d
        rw [e2] at w2 ⊢
        rw [e1] at w1 w2 ⊢
        rw [Int.toNat_natCast] at w1 w2 ⊢
        rw [Int.toNat_natCast] at w2
        show (strOfNums (fixZ 2 (tl true s).1.size) ++ (tl true s).1) ++ (strOfNums (fixZ 2 (tl true (s.extract (2 + m) s.size)).1.size) ++ (tl true (s.extract (2 + m) s.size)).1) = s.extract 0 (((2 + m : Nat) : Int) + ((2 + m2 : Nat) : Int)).toNat
        rw [w1, w2, ext_glue]
        congr 1
      · rw [two_bad2 c d] at h; exact absurd h d
    · rw [two_bad1 c] at h; exact absurd h c
theorem id_wrote {s : ByteArray} (h : 0 < s.size) : strOfNums [idOf s] = s.extract 0 1 := by
  apply bytes_ext
  rw [strOf_data, data_take]
  unfold idOf
  obtain ⟨l, hl⟩ : ∃ l, s.data.toList = l := ⟨_, rfl⟩
  rw [Lib.size_eq, hl] at h
  rw [hl]
  match l with
  | a :: t =>
    show [UInt8.ofNat (((a.toNat : Nat) : Int)).toNat] = [a]
    rw [Int.toNat_natCast, u8_same a rfl]
theorem tone_wrote {s : ByteArray} (hs : 0 < s.size) (h : (tone s).2.2 = 0) : oneStr (tone s).1 = s.extract 0 (tone s).2.1.toNat := by
  rcases tone_cases s with ⟨_, e⟩ | ⟨_, he, e⟩ | ⟨hk, he, e⟩
  · rw [e] at h; cases h
  · rw [e] at h; exact absurd (inn_zero.1 h) he
  · rw [e]
    have hr := kind_range (idOf s)
    have w := tk_wrote (idOf s) hr.1 hr.2 hk he
    have hb := tk_bound he
    show strOfNums [idOf s] ++ valStr (kindZ (idOf s)) ⟨idOf s, (tk (kindZ (idOf s)) (s.extract 1 s.size)).n, (tk (kindZ (idOf s)) (s.extract 1 s.size)).a, (tk (kindZ (idOf s)) (s.extract 1 s.size)).b⟩ = s.extract 0 (1 + (tk (kindZ (idOf s)) (s.extract 1 s.size)).k).toNat
    rw [w, id_wrote hs, ext_glue]
    congr 1
    omega
theorem size_zero {s : ByteArray} (h : s.size = 0) : s = ⟨#[]⟩ := ByteArray.size_eq_zero_iff.1 h
/-- What all were taken of is what they are written as. -/
theorem ta_wrote (place : Int) : ∀ (f : Nat) (a : List P) (s : ByteArray) (L : List P), s.size < f → ta place f a s = (L, 0) → ∃ t, L = a ++ t ∧ catStr t = s ∧ goodL place a t = true := by
  intro f
  induction f with
  | zero => intro a s L hf _; omega
  | succ f ih =>
    intro a s L hf h
    by_cases h0 : s.size = 0
    · rw [ta_end h0] at h
      injection h with h1 _
      exact ⟨[], by rw [List.append_nil]; exact h1.symm, (size_zero h0).symm, rfl⟩
    by_cases he : (tone s).2.2 = 0
    · cases hm : mayB place a (tone s).1 with
      | false =>
        rw [ta_no h0 he hm] at h
        injection h with _ h2
        exact absurd h2 (by decide)
      | true =>
        by_cases h8 : a.length = 8
        · rw [ta_full h0 he hm h8] at h
          injection h with _ h2
          exact absurd h2 (by decide)
        · rw [ta_step h0 he hm h8] at h
          have hb := tone_bound (by omega) he
          obtain ⟨t, e1, e2, e3⟩ := ih _ _ _ (by rw [ByteArray.size_extract]; omega) h
          refine ⟨(tone s).1 :: t, by rw [e1, List.append_assoc]; rfl, ?_, ?_⟩
          · show oneStr (tone s).1 ++ catStr t = s
            rw [e2, tone_wrote (by omega) he, ext_all]
          · unfold goodL
            rw [tone_may he, hm, e3]
            rfl
    · rw [ta_bad h0 he] at h
      injection h with _ h2
      exact absurd h2 he
theorem takeP_wrote {place : Int} {s : ByteArray} {L : List P} {K : Int} (h : takeP place s = (L, K, 0)) : propsB place L = true ∧ 0 ≤ K ∧ K ≤ (s.size : Int) ∧ propStr L = s.extract 0 K.toNat := by
  have h8 := takeP_len h
  cases hp : placeB place with
  | false =>
    rw [takeP_place s hp] at h
    injection h with _ h2
    injection h2 with _ h3
    exact absurd h3 (by decide)
  | true =>
    rcases takeP_cases s hp with ⟨E, _, hE, e⟩ | ⟨_, _, _, _, _, _, e⟩ | ⟨_, _, E, _, _, _, _, _, hE, e⟩ | ⟨m, q, L', ht, hq, hm, h7, hta, e⟩
    · rw [e] at h
      injection h with _ h2
      injection h2 with _ h3
      exact absurd h3 hE
    · rw [e] at h
      injection h with _ h2
      injection h2 with _ h3
      exact absurd h3 (by decide)
    · rw [e] at h
      injection h with _ h2
      injection h2 with _ h3
      exact absurd h3 hE
    · rw [e] at h
      injection h with h1 h2
      injection h2 with h2 _
      subst h1 h2
      have hz : (s.extract q (q + m)).size = m := by rw [ByteArray.size_extract]; omega
      obtain ⟨t, e1, e2, e3⟩ := ta_wrote place _ [] _ _ (by omega) hta
      rw [List.nil_append] at e1
      subst e1
      refine ⟨?_, by omega, by omega, ?_⟩
      · unfold propsB
        rw [hp, e3, decide_eq_true h8]
        rfl
      · unfold propStr
        rw [rest_cat, e2, hz]
        rcases num_wrote s with ⟨E, e, hE⟩ | ⟨m', q', e, _, _, hw⟩
        · rw [ht] at e
          injection e with _ e2
          injection e2 with _ e3
          exact absurd e3.symm hE
        · rw [ht] at e
          injection e with e1 e2
          injection e2 with e2 _
          obtain ⟨rfl, rfl⟩ : m = m' ∧ q = q' := by omega
          rw [hw, ext_glue2]
          congr 1
end Go.Proofs.Ythjlbdplhhgcpaa.Prp
