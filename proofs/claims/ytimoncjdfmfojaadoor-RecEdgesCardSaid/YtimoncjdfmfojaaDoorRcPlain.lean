/- Records as bytes, plainly: what each is, how one is read back; cut off, turned. No run of a program is in this file. -/
import Derived.Test.YtimoncjdfmfojaaDoorVbiPlain
import Derived.Test.YtimoncjdfmfojaaDoorSumPlain
namespace Go.Proofs.YtimoncjdfmfojaaDoor.Rcd
open Go.Lib Vbi Crc

/-- A record: offset, time, key, body, QoS, gone. -/
structure Rc where
  o : Int
  t : Int
  k : List UInt8
  b : List UInt8
  q : Int
  g : Bool
def zero : Rc := ⟨0, 0, [], [], 0, false⟩
/-- A record that may be. -/
def mayB (r : Rc) : Bool := decide (0 ≤ r.o ∧ r.o ≤ 1099511627775 ∧ 0 ≤ r.t ∧ r.t ≤ 1099511627776 ∧ r.k.length ≤ 1024 ∧ r.b.length ≤ 1024 ∧ 0 ≤ r.q ∧ r.q ≤ 2 ∧ (r.b = [] ∨ r.g = false))
theorem may_iff (r : Rc) : mayB r = true ↔ (0 ≤ r.o ∧ r.o ≤ 1099511627775 ∧ 0 ≤ r.t ∧ r.t ≤ 1099511627776 ∧ r.k.length ≤ 1024 ∧ r.b.length ≤ 1024 ∧ 0 ≤ r.q ∧ r.q ≤ 2 ∧ (r.b = [] ∨ r.g = false)) := decide_eq_true_iff

/-! ### numbers as so many bytes -/
def fx (w n : Nat) : List UInt8 := bytesOf (fixZ w n)
theorem fx_len (w n : Nat) : (fx w n).length = w := by unfold fx bytesOf; rw [List.length_map, fixZ_len]
theorem fx_succ (w n : Nat) : fx (w + 1) n = UInt8.ofNat (n / 256 ^ w % 256) :: fx w n := by
  unfold fx bytesOf
  show (((n / 256 ^ w % 256 : Nat) : Int) :: fixZ w n).map _ = _
  rw [List.map_cons, Int.toNat_natCast]
theorem fixGo_fx (w n m : Nat) : fixGo m (fx w n) = m * 256 ^ w + n % 256 ^ w := by
  induction w generalizing m with
  | zero => unfold fx bytesOf fixGo; simp [fixZ, Nat.mod_one]
  | succ w ih =>
    rw [fx_succ, fixGo_cons, ih, u8_ofNat (Nat.mod_lt _ (by decide)), Nat.mod_pow_succ, Nat.pow_succ, Nat.add_mul, Nat.mul_assoc, Nat.mul_comm 256 (256 ^ w), Nat.mul_comm (256 ^ w) (n / 256 ^ w % 256)]
    omega
theorem fixVal_fx {w n : Nat} (h : n < 256 ^ w) : fixVal (fx w n) = n := by
  unfold fixVal
  rw [fixGo_fx, Nat.mod_eq_of_lt h, Nat.zero_mul, Nat.zero_add]
theorem fixGo_lt (l : List UInt8) (m k : Nat) (h : m < 256 ^ k) : fixGo m l < 256 ^ (k + l.length) := by
  induction l generalizing m k with
  | nil => exact h
  | cons b t ih =>
    rw [fixGo_cons, List.length_cons, show k + (t.length + 1) = k + 1 + t.length by omega]
    refine ih _ _ ?_
    have := b.toNat_lt
    rw [Nat.pow_succ]
    omega
theorem fixVal_lt (l : List UInt8) (k : Nat) (h : l.length ≤ k) : fixVal l < 256 ^ k :=
  Nat.lt_of_lt_of_le (fixGo_lt l 0 0 (by decide)) (Nat.pow_le_pow_right (by decide) (by omega))
theorem take_fx (w n : Nat) (t : List UInt8) : (fx w n ++ t).take w = fx w n := by
  rw [List.take_append_of_le_length (by rw [fx_len]; exact Nat.le_refl _), List.take_of_length_le (by rw [fx_len]; exact Nat.le_refl _)]
theorem drop_fx (w n : Nat) (t : List UInt8) : (fx w n ++ t).drop w = t := by
  rw [List.drop_append_of_le_length (by rw [fx_len]; exact Nat.le_refl _), List.drop_of_length_le (by rw [fx_len]; exact Nat.le_refl _), List.nil_append]

/-! ### a record's bytes -/
def flagN (r : Rc) : Nat := r.q.toNat + if r.g then 4 else 0
def bodyL (r : Rc) : List UInt8 := fx 8 r.o.toNat ++ (fx 8 r.t.toNat ++ (UInt8.ofNat (flagN r) :: (fx 2 r.k.length ++ (r.k ++ r.b))))
/-- Length, sum, body. -/
def sealL (B : List UInt8) : List UInt8 := fx 2 B.length ++ (fx 4 (sumN 0 (fx 2 B.length ++ B)) ++ B)
def recL (r : Rc) : List UInt8 := sealL (bodyL r)
theorem body_len (r : Rc) : (bodyL r).length = 19 + r.k.length + r.b.length := by
  unfold bodyL
  simp only [List.length_append, fx_len, List.length_cons, List.length_nil]
  omega
theorem seal_len (B : List UInt8) : (sealL B).length = 6 + B.length := by
  unfold sealL
  simp only [List.length_append, fx_len]
  omega
theorem rec_len (r : Rc) : (recL r).length = 25 + r.k.length + r.b.length := by unfold recL; rw [seal_len, body_len]; omega
theorem flag_lt {r : Rc} (h : mayB r = true) : flagN r < 8 := by
  obtain ⟨_, _, _, _, _, _, h1, h2, _⟩ := (may_iff r).1 h
  unfold flagN
  split <;> omega

/-! ### a body read, part by part -/
/-- A number of eight bytes as an int. -/
def lng (l : List UInt8) : Int := IntKind.i64.wrap (fixVal (l.take 8) : Nat)
def p4 (r : Rc) (l : List UInt8) : Rc × Int := ({ r with b := l }, if mayB { r with b := l } then 0 else 1)
def p3 (r : Rc) (l : List UInt8) : Rc × Int :=
  if l.length < 2 then (zero, 7) else if 1024 < fixVal (l.take 2) then (zero, 2) else if l.length < 2 + fixVal (l.take 2) then (zero, 7)
  else p4 { r with k := (l.drop 2).take (fixVal (l.take 2)) } (l.drop (2 + fixVal (l.take 2)))
/-- QoS and gone, out of a byte. -/
def flagged (r : Rc) (f : Nat) : Rc := { r with g := decide (f / 4 % 2 = 1), q := ((f - 4 * (f / 4 % 2) : Nat) : Int) }
def p2 (r : Rc) : List UInt8 → Rc × Int
  | [] => (zero, 7)
  | f :: t => p3 (flagged r f.toNat) t
theorem p2_cons (r : Rc) (f : UInt8) (t : List UInt8) : p2 r (f :: t) = p3 (flagged r f.toNat) t := rfl
def p1 (r : Rc) (l : List UInt8) : Rc × Int := if l.length < 8 then (zero, 7) else p2 { r with t := lng l } (l.drop 8)
def p0 (r : Rc) (l : List UInt8) : Rc × Int := if l.length < 8 then (zero, 7) else p1 { r with o := lng l } (l.drop 8)
def parse (l : List UInt8) : Rc × Int := p0 zero l

theorem wrap_nat {n : Nat} (h : n < 9223372036854775808) : IntKind.i64.wrap (n : Int) = (n : Int) := by
  unfold IntKind.wrap
  simp [IntKind.bits, IntKind.signed]
  omega
theorem lng_fx {n : Nat} (t : List UInt8) (h : n < 9223372036854775808) : lng (fx 8 n ++ t) = (n : Int) := by
  unfold lng
  rw [take_fx, fixVal_fx (Nat.lt_trans h (by decide)), wrap_nat h]
theorem flags_back : ∀ q, q < 3 → ((decide ((q + 4) / 4 % 2 = 1) = true ∧ q + 4 - 4 * ((q + 4) / 4 % 2) = q) ∧ (decide (q / 4 % 2 = 1) = false ∧ q - 4 * (q / 4 % 2) = q)) := by decide
/-- What is written is read. -/
theorem parse_body {r : Rc} (h : mayB r = true) : parse (bodyL r) = (r, 0) := by
  obtain ⟨o, t, k, b, q, g⟩ := r
  obtain ⟨h1, h2, h3, h4, h5, h6, h7, h8, h9⟩ := (may_iff _).1 h
  simp only at h1 h2 h3 h4 h5 h6 h7 h8 h9
  have hf := flag_lt h
  obtain ⟨o, rfl⟩ := Int.eq_ofNat_of_zero_le h1
  obtain ⟨t, rfl⟩ := Int.eq_ofNat_of_zero_le h3
  obtain ⟨q, rfl⟩ := Int.eq_ofNat_of_zero_le h7
  unfold parse p0 bodyL
  rw [if_neg (by simp only [List.length_append, fx_len]; omega)]
  simp only [Int.toNat_natCast] at hf ⊢
  rw [lng_fx _ (by omega), drop_fx]
  unfold p1
  rw [if_neg (by simp only [List.length_append, fx_len]; omega), lng_fx _ (by omega), drop_fx, p2_cons]
  unfold p3
  rw [if_neg (by simp only [List.length_append, fx_len]; omega), take_fx, fixVal_fx (by omega), if_neg (by omega), if_neg (by simp only [List.length_append, fx_len]; omega), drop_fx, ← List.drop_drop, drop_fx,
    List.take_append_of_le_length (Nat.le_refl _), List.take_length, List.drop_append_of_le_length (Nat.le_refl _), List.drop_length, List.nil_append]
  rw [u8_ofNat (by omega)]
  have hq : q < 3 := by omega
  obtain ⟨⟨a1, a2⟩, a3, a4⟩ := flags_back q hq
  unfold p4 flagged flagN
  cases g with
  | true =>
    simp only [Int.toNat_natCast, if_true, a1, a2]
    rw [if_pos h]
  | false =>
    simp only [Int.toNat_natCast, if_false, Nat.add_zero, a3, a4, Bool.false_eq_true]
    rw [if_pos h]

theorem getD_right (a b : List UInt8) (n : Nat) (h : a.length ≤ n) : (a ++ b).getD n 0 = b.getD (n - a.length) 0 := by
  rw [List.getD_eq_getElem?_getD, List.getD_eq_getElem?_getD, List.getElem?_append_right h]
theorem getD_left (a b : List UInt8) (n : Nat) (h : n < a.length) : (a ++ b).getD n 0 = a.getD n 0 := by
  rw [List.getD_eq_getElem?_getD, List.getD_eq_getElem?_getD, List.getElem?_append_left h]
/-! ### a record taken -/
def takeR (l : List UInt8) : Rc × Nat × Int :=
  if l.length < 6 then (zero, 0, 7) else if l.length < 6 + fixVal (l.take 2) then (zero, 0, 7)
  else if fixVal ((l.drop 2).take 4) = sumN 0 (l.take 2 ++ (l.drop 6).take (fixVal (l.take 2))) then
    if (parse ((l.drop 6).take (fixVal (l.take 2)))).2 = 0 then ((parse ((l.drop 6).take (fixVal (l.take 2)))).1, 6 + fixVal (l.take 2), 0) else (zero, 0, 8)
  else (zero, 0, 8)
/-- Whatever is sealed, with something behind it. -/
theorem take_sealed (B t : List UInt8) (h : B.length < 65536) : takeR (sealL B ++ t) = if (parse B).2 = 0 then ((parse B).1, 6 + B.length, 0) else (zero, 0, 8) := by
  obtain ⟨n, hn⟩ : ∃ n, n = B.length := ⟨_, rfl⟩
  obtain ⟨s, hs⟩ : ∃ s, s = sumN 0 (fx 2 n ++ B) := ⟨_, rfl⟩
  have hs32 : s < 4294967296 := by rw [hs]; exact sum_lt _ _
  have e0 : sealL B ++ t = fx 2 n ++ (fx 4 s ++ (B ++ t)) := by rw [hs, hn]; unfold sealL; simp
  have e1 : (sealL B ++ t).take 2 = fx 2 n := by rw [e0, take_fx]
  have e2 : ((sealL B ++ t).drop 2).take 4 = fx 4 s := by rw [e0, drop_fx, take_fx]
  have e3 : (sealL B ++ t).drop 6 = B ++ t := by rw [show 6 = 2 + 4 from rfl, ← List.drop_drop, e0, drop_fx, drop_fx]
  have e4 : (B ++ t).take n = B := by rw [hn, List.take_append_of_le_length (Nat.le_refl _), List.take_length]
  have e5 : (sealL B ++ t).length = 6 + n + t.length := by rw [List.length_append, seal_len, hn]
  unfold takeR
  rw [e1, e2, e3, fixVal_fx (show n < 256 ^ 2 by omega), fixVal_fx (show s < 256 ^ 4 by omega), e4, e5, if_neg (by omega), if_neg (by omega), if_pos hs, ← hn]
theorem take_rec {r : Rc} (t : List UInt8) (h : mayB r = true) : takeR (recL r ++ t) = (r, (recL r).length, 0) := by
  obtain ⟨_, _, _, _, h5, h6, _⟩ := (may_iff _).1 h
  unfold recL
  rw [take_sealed _ _ (by rw [body_len]; omega), parse_body h, if_pos rfl, seal_len]
/-- Cut off anywhere it is cut off. -/
theorem take_cut {r : Rc} (h : mayB r = true) (j : Nat) (hj : j < (recL r).length) : takeR ((recL r).take j) = (zero, 0, 7) := by
  obtain ⟨_, _, _, _, h5, h6, _⟩ := (may_iff _).1 h
  have hl := rec_len r
  have hl2 : ((recL r).take j).length = j := by rw [List.length_take]; omega
  unfold takeR
  by_cases hs : j < 6
  · rw [if_pos (by omega)]
  · have e : ((recL r).take j).take 2 = fx 2 (bodyL r).length := by
      rw [List.take_take, Nat.min_eq_left (by omega)]
      unfold recL sealL
      rw [take_fx]
    have hb := body_len r
    rw [if_neg (by omega), e, fixVal_fx (by omega), if_pos (by omega)]
/-- A record that is not: its error. -/
theorem take_err (l : List UInt8) : (takeR l).2.2 = 0 ∨ (takeR l = (zero, 0, 7) ∨ takeR l = (zero, 0, 8)) := by
  unfold takeR
  split
  · exact .inr (.inl rfl)
  split
  · exact .inr (.inl rfl)
  split
  · split
    · exact .inl rfl
    · exact .inr (.inr rfl)
  · exact .inr (.inr rfl)
theorem take_size {l : List UInt8} (h : (takeR l).2.2 = 0) : 6 ≤ (takeR l).2.1 ∧ (takeR l).2.1 ≤ l.length := by
  unfold takeR at h ⊢
  by_cases c1 : l.length < 6
  · rw [if_pos c1] at h; cases h
  · rw [if_neg c1] at h ⊢
    by_cases c2 : l.length < 6 + fixVal (l.take 2)
    · rw [if_pos c2] at h; cases h
    · rw [if_neg c2] at h ⊢
      split at h
      · next c3 =>
        rw [if_pos c3]
        split at h
        · next c4 => rw [if_pos c4]; exact ⟨Nat.le_add_right _ _, by show 6 + _ ≤ _; omega⟩
        · cases h
      · cases h
/-- One bit turned behind the length: the record is not itself any more. -/
theorem take_turned {r : Rc} (h : mayB r = true) (l : List UInt8) (a k : Nat) (x x' : UInt8) (h2 : 2 ≤ a) (ha : a < (recL r).length) (hx : (recL r).getD a 0 = x) (hl : l = (recL r).set a x') (hk : k < 8) (hv : x'.toNat = x.toNat ^^^ 2 ^ k) : takeR l = (zero, 0, 8) := by
  obtain ⟨_, _, _, _, h5, h6, _⟩ := (may_iff _).1 h
  have hb := body_len r
  have hr := rec_len r
  obtain ⟨B, hB⟩ : ∃ B, B = bodyL r := ⟨_, rfl⟩
  obtain ⟨n, hn⟩ : ∃ n, n = B.length := ⟨_, rfl⟩
  obtain ⟨s, hs⟩ : ∃ s, s = sumN 0 (fx 2 n ++ B) := ⟨_, rfl⟩
  have hs32 : s < 4294967296 := by rw [hs]; exact sum_lt _ _
  have e0 : recL r = fx 2 n ++ (fx 4 s ++ B) := by rw [hs, hn, hB]; rfl
  rw [← hB] at hb
  have hne : x' ≠ x := by
    intro e
    rw [e] at hv
    have h6 : x.toNat ^^^ x.toNat = x.toNat ^^^ (x.toNat ^^^ 2 ^ k) := by rw [← hv]
    rw [Nat.xor_self, ← Nat.xor_assoc, Nat.xor_self, Nat.zero_xor] at h6
    exact two_pow_pos' k h6.symm
  have hset2 : l.take 2 = fx 2 n := by
    rw [hl, List.take_set_of_le h2, e0, take_fx]
  have hlen : l.length = 6 + n := by rw [hl, List.length_set, hr]; omega
  have hd : l.drop 2 = (fx 4 s ++ B).set (a - 2) x' := by
    rw [hl, e0, List.set_append_right _ _ (by rw [fx_len]; exact h2), fx_len, drop_fx]
  have hgd : (fx 4 s ++ B).getD (a - 2) 0 = x := by
    have := getD_right (fx 2 n) (fx 4 s ++ B) a (by rw [fx_len]; exact h2)
    rw [fx_len, ← e0, hx] at this
    exact this.symm
  have hd6 : l.drop 6 = ((fx 4 s ++ B).set (a - 2) x').drop 4 := by rw [← hd, List.drop_drop]
  have hall : (l.drop 6).take n = l.drop 6 := List.take_of_length_le (by rw [List.length_drop]; omega)
  unfold takeR
  rw [hset2, fixVal_fx (show n < 256 ^ 2 by omega), if_neg (by omega), if_neg (by omega), hall, hd, hd6, if_neg ?_]
  by_cases hin : a < 6
  · have e1 : (fx 4 s ++ B).set (a - 2) x' = (fx 4 s).set (a - 2) x' ++ B := by rw [List.set_append_left _ _ (by rw [fx_len]; omega)]
    have hl4 : ((fx 4 s).set (a - 2) x').length = 4 := by rw [List.length_set, fx_len]
    have e2 : ((fx 4 s).set (a - 2) x' ++ B).take 4 = (fx 4 s).set (a - 2) x' := by
      rw [List.take_append_of_le_length (by omega), List.take_of_length_le (by omega)]
    have e3 : ((fx 4 s).set (a - 2) x' ++ B).drop 4 = B := by
      rw [List.drop_append_of_le_length (by omega), List.drop_of_length_le (by omega), List.nil_append]
    rw [e1, e2, e3, ← hs]
    intro he
    have hgx : (fx 4 s).getD (a - 2) 0 = x := by rw [← hgd, getD_left _ _ _ (by rw [fx_len]; omega)]
    have key : fixVal ((fx 4 s).set (a - 2) x') = fixVal (fx 4 s) := by rw [he, fixVal_fx (show s < 256 ^ 4 by omega)]
    have hfour : ∃ c0 c1 c2 c3, fx 4 s = [c0, c1, c2, c3] := ⟨_, _, _, _, rfl⟩
    obtain ⟨c0, c1, c2, c3, hc⟩ := hfour
    rw [hc] at key hgx
    have b0 := c0.toNat_lt
    have b1 := c1.toNat_lt
    have b2 := c2.toNat_lt
    have b3 := c3.toNat_lt
    have bx := x'.toNat_lt
    rcases (by omega : a - 2 = 0 ∨ a - 2 = 1 ∨ a - 2 = 2 ∨ a - 2 = 3) with e | e | e | e <;> rw [e] at key hgx
    · have hz : c0 = x := hgx
      have : (((0 * 256 + x'.toNat) * 256 + c1.toNat) * 256 + c2.toNat) * 256 + c3.toNat = (((0 * 256 + c0.toNat) * 256 + c1.toNat) * 256 + c2.toNat) * 256 + c3.toNat := key
      exact hne (UInt8.toNat_inj.1 (by rw [← hz]; omega))
    · have hz : c1 = x := hgx
      have : (((0 * 256 + c0.toNat) * 256 + x'.toNat) * 256 + c2.toNat) * 256 + c3.toNat = (((0 * 256 + c0.toNat) * 256 + c1.toNat) * 256 + c2.toNat) * 256 + c3.toNat := key
      exact hne (UInt8.toNat_inj.1 (by rw [← hz]; omega))
    · have hz : c2 = x := hgx
      have : (((0 * 256 + c0.toNat) * 256 + c1.toNat) * 256 + x'.toNat) * 256 + c3.toNat = (((0 * 256 + c0.toNat) * 256 + c1.toNat) * 256 + c2.toNat) * 256 + c3.toNat := key
      exact hne (UInt8.toNat_inj.1 (by rw [← hz]; omega))
    · have hz : c3 = x := hgx
      have : (((0 * 256 + c0.toNat) * 256 + c1.toNat) * 256 + c2.toNat) * 256 + x'.toNat = (((0 * 256 + c0.toNat) * 256 + c1.toNat) * 256 + c2.toNat) * 256 + c3.toNat := key
      exact hne (UInt8.toNat_inj.1 (by rw [← hz]; omega))
  · have e1 : (fx 4 s ++ B).set (a - 2) x' = fx 4 s ++ B.set (a - 6) x' := by
      rw [List.set_append_right _ _ (by rw [fx_len]; omega), fx_len, show a - 2 - 4 = a - 6 by omega]
    rw [e1, take_fx, drop_fx, fixVal_fx (show s < 256 ^ 4 by omega), hs]
    have haB : a - 6 < B.length := by omega
    have hgB : B.getD (a - 6) 0 = x := by
      rw [← hgd, getD_right _ _ _ (by rw [fx_len]; omega), fx_len, show a - 2 - 4 = a - 6 by omega]
    have e2 : B[a - 6] = x := by rw [← hgB, List.getD_eq_getElem?_getD, List.getElem?_eq_getElem haB]; rfl
    have e3 : B = B.take (a - 6) ++ x :: B.drop (a - 6 + 1) := by rw [← e2]; simp
    have e4 : B.set (a - 6) x' = B.take (a - 6) ++ x' :: B.drop (a - 6 + 1) := List.set_eq_take_append_cons_drop.trans (by rw [if_pos haB])
    have := sum_turned 0 (fx 2 n ++ B.take (a - 6)) (B.drop (a - 6 + 1)) x x' hk hv
    rw [List.append_assoc, List.append_assoc, ← e4, ← e3] at this
    exact fun he => this he.symm

/-! ### records one behind the other -/
def scanF : Nat → List UInt8 → List Rc × Nat × Bool
  | 0, _ => ([], 0, true)
  | f + 1, l => if l.length = 0 then ([], 0, true) else if (takeR l).2.2 = 0 then
      ((takeR l).1 :: (scanF f (l.drop (takeR l).2.1)).1, (takeR l).2.1 + (scanF f (l.drop (takeR l).2.1)).2.1, (scanF f (l.drop (takeR l).2.1)).2.2)
    else ([], 0, false)
def scan (l : List UInt8) : List Rc × Nat × Bool := scanF l.length l
theorem scanF_same (a : Nat) : ∀ (b : Nat) (y : List UInt8), y.length ≤ a → y.length ≤ b → scanF a y = scanF b y := by
  induction a with
  | zero =>
    intro b y ha _
    obtain rfl : y = [] := List.eq_nil_of_length_eq_zero (by omega)
    cases b <;> rfl
  | succ a iha =>
    intro b y ha hb
    cases b with
    | zero =>
      obtain rfl : y = [] := List.eq_nil_of_length_eq_zero (by omega)
      rfl
    | succ b =>
      show (if y.length = 0 then _ else _) = (if y.length = 0 then _ else _)
      by_cases y0 : y.length = 0
      · rw [if_pos y0, if_pos y0]
      · rw [if_neg y0, if_neg y0]
        by_cases ye : (takeR y).2.2 = 0
        · have yz := take_size ye
          rw [if_pos ye, if_pos ye, iha b _ (by rw [List.length_drop]; omega) (by rw [List.length_drop]; omega)]
        · rw [if_neg ye, if_neg ye]
theorem scan_nil : scan [] = ([], 0, true) := rfl
theorem scan_stop {l : List UInt8} (h0 : 0 < l.length) (h : ¬ (takeR l).2.2 = 0) : scan l = ([], 0, false) := by
  unfold scan
  obtain ⟨m, hm⟩ : ∃ m, l.length = m + 1 := ⟨l.length - 1, by omega⟩
  rw [hm]
  show (if l.length = 0 then _ else if _ then _ else _) = _
  rw [if_neg (by omega), if_neg h]
theorem scan_next {l t : List UInt8} {r : Rc} {n : Nat} (h : takeR l = (r, n, 0)) (ht : l.drop n = t) : scan l = (r :: (scan t).1, n + (scan t).2.1, (scan t).2.2) := by
  have hz := take_size (l := l) (by rw [h])
  rw [h] at hz
  simp only at hz
  unfold scan
  obtain ⟨m, hm⟩ : ∃ m, l.length = m + 1 := ⟨l.length - 1, by omega⟩
  have hl : t.length = l.length - n := by rw [← ht, List.length_drop]
  rw [hm]
  show (if l.length = 0 then _ else if _ then _ else _) = _
  rw [if_neg (by omega), h, if_pos rfl]
  simp only
  rw [ht, scanF_same m t.length t (by omega) (Nat.le_refl _)]
/-- Of so many bytes of records, one behind the other: how many are whole. -/
def wholeN : List Rc → Nat → Nat
  | [], _ => 0
  | r :: rs, n => if (recL r).length ≤ n then wholeN rs (n - (recL r).length) + 1 else 0
theorem whole_yes {r : Rc} {rs : List Rc} {n : Nat} (h : (recL r).length ≤ n) : wholeN (r :: rs) n = wholeN rs (n - (recL r).length) + 1 := by rw [wholeN, if_pos h]
theorem whole_no {r : Rc} {rs : List Rc} {n : Nat} (h : ¬ (recL r).length ≤ n) : wholeN (r :: rs) n = 0 := by rw [wholeN, if_neg h]
def allL (rs : List Rc) : List UInt8 := rs.flatMap recL
theorem all_cons (r : Rc) (rs : List Rc) : allL (r :: rs) = recL r ++ allL rs := by unfold allL; rw [List.flatMap_cons]
theorem all_snoc (rs : List Rc) (r : Rc) : allL (rs ++ [r]) = allL rs ++ recL r := by unfold allL; rw [List.flatMap_append]; simp
theorem whole_le (rs : List Rc) (n : Nat) : wholeN rs n ≤ rs.length := by
  induction rs generalizing n with
  | nil => exact Nat.le_refl _
  | cons r rs ih =>
    by_cases c : (recL r).length ≤ n
    · rw [whole_yes c, List.length_cons]
      have := ih (n - (recL r).length); omega
    · rw [whole_no c]; omega
theorem whole_end (rs : List Rc) (n : Nat) : (allL (rs.take (wholeN rs n))).length ≤ n := by
  induction rs generalizing n with
  | nil => exact Nat.zero_le _
  | cons r rs ih =>
    by_cases c : (recL r).length ≤ n
    · rw [whole_yes c, List.take_succ_cons, all_cons, List.length_append]
      have := ih (n - (recL r).length); omega
    · rw [whole_no c]; exact Nat.zero_le _
/-- One more would not be whole. -/
theorem whole_next (rs : List Rc) (n : Nat) (h : wholeN rs n < rs.length) : n < (allL (rs.take (wholeN rs n + 1))).length := by
  induction rs generalizing n with
  | nil => cases h
  | cons r rs ih =>
    by_cases c : (recL r).length ≤ n
    · have e := whole_yes (rs := rs) c
      rw [e] at h ⊢
      rw [List.take_succ_cons, all_cons, List.length_append]
      have := ih (n - (recL r).length) (by simpa using h)
      omega
    · have e := whole_no (rs := rs) c
      rw [e, List.take_succ_cons, all_cons, List.length_append]
      omega
/-- Cut off anywhere those that are whole are told. -/
theorem scan_cut (rs : List Rc) (hm : ∀ r ∈ rs, mayB r = true) (n : Nat) (hn : n ≤ (allL rs).length) :
    scan ((allL rs).take n) = (rs.take (wholeN rs n), (allL (rs.take (wholeN rs n))).length, decide ((allL (rs.take (wholeN rs n))).length = n)) := by
  induction rs generalizing n with
  | nil =>
    obtain rfl : n = 0 := Nat.le_zero.1 hn
    rfl
  | cons r rs ih =>
    have hr := hm r (List.mem_cons_self ..)
    rw [all_cons, List.length_append] at hn
    have hpos : 25 ≤ (recL r).length := by rw [rec_len]; omega
    by_cases c : (recL r).length ≤ n
    · have e := whole_yes (rs := rs) c
      have e1 : (allL (r :: rs)).take n = recL r ++ (allL rs).take (n - (recL r).length) := by
        rw [all_cons, List.take_append, List.take_of_length_le c]
      rw [e, e1, scan_next (take_rec _ hr) (by rw [List.drop_append_of_le_length (Nat.le_refl _), List.drop_length, List.nil_append]), ih (fun x hx => hm x (List.mem_cons_of_mem _ hx)) _ (by omega), List.take_succ_cons, all_cons, List.length_append]
      simp only
      congr 2
      exact decide_eq_decide.2 (by omega)
    · have e := whole_no (rs := rs) c
      have e1 : (allL (r :: rs)).take n = (recL r).take n := by
        rw [all_cons, List.take_append_of_le_length (by omega)]
      rw [e, e1, List.take_zero]
      by_cases h0 : n = 0
      · subst h0; rfl
      · rw [scan_stop (by rw [List.length_take]; omega) (by rw [take_cut hr n (by omega)]; decide)]
        show ([], 0, false) = ([], 0, decide (0 = n))
        rw [decide_eq_false (by omega)]
end Go.Proofs.YtimoncjdfmfojaaDoor.Rcd
