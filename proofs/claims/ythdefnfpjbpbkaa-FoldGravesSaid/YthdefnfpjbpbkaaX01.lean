/- Texts of the proof, part 1: VbiPlain, SumPlain, RcPlain. -/
import Derived.Laws.BytesArg
import Derived.Lib.Hide
/- Plain facts on numbers as bytes: seven bits a byte, and bytes with the highest first. No run of a program is in this file. -/
namespace Go.Proofs.Ythdefnfpjbpbkaa.Vbi
open Go.Lib

/-! ### seven bits a byte -/
def numZ (n : Nat) : List Int := if n < 128 then [(n : Int)] else ((n % 128 + 128 : Nat) : Int) :: numZ (n / 128)
termination_by n
decreasing_by omega
theorem numZ_last {n : Nat} (h : n < 128) : numZ n = [(n : Int)] := by rw [numZ, if_pos h]
theorem numZ_more {n : Nat} (h : 128 ≤ n) : numZ n = ((n % 128 + 128 : Nat) : Int) :: numZ (n / 128) := by rw [numZ, if_neg (by omega)]
theorem numZ_two {n : Nat} (h : 128 ≤ n) (h2 : n < 16384) : numZ n = [((n % 128 + 128 : Nat) : Int), ((n / 128 : Nat) : Int)] := by
  rw [numZ_more h, numZ_last (by omega)]
theorem numZ_three {n : Nat} (h : 16384 ≤ n) (h2 : n < 2097152) : numZ n = [((n % 128 + 128 : Nat) : Int), ((n / 128 % 128 + 128 : Nat) : Int), ((n / 16384 : Nat) : Int)] := by
  rw [numZ_more (by omega), numZ_two (by omega) (by omega)]
  have : n / 128 / 128 = n / 16384 := by omega
  rw [this]
theorem numZ_four {n : Nat} (h : 2097152 ≤ n) (h2 : n < 268435456) : numZ n = [((n % 128 + 128 : Nat) : Int), ((n / 128 % 128 + 128 : Nat) : Int), ((n / 16384 % 128 + 128 : Nat) : Int), ((n / 2097152 : Nat) : Int)] := by
  rw [numZ_more (by omega), numZ_three (by omega) (by omega)]
  have e1 : n / 128 / 128 = n / 16384 := by omega
  have e2 : n / 128 / 16384 = n / 2097152 := by omega
  rw [e1, e2]
/-- The four ways that a number may be as bytes. -/
theorem numZ_cases {n : Nat} (h : n < 268435456) : (n < 128 ∧ numZ n = [(n : Int)]) ∨ (128 ≤ n ∧ n < 16384 ∧ numZ n = [((n % 128 + 128 : Nat) : Int), ((n / 128 : Nat) : Int)]) ∨
    (16384 ≤ n ∧ n < 2097152 ∧ numZ n = [((n % 128 + 128 : Nat) : Int), ((n / 128 % 128 + 128 : Nat) : Int), ((n / 16384 : Nat) : Int)]) ∨
    (2097152 ≤ n ∧ numZ n = [((n % 128 + 128 : Nat) : Int), ((n / 128 % 128 + 128 : Nat) : Int), ((n / 16384 % 128 + 128 : Nat) : Int), ((n / 2097152 : Nat) : Int)]) := by
  by_cases c1 : n < 128
  · exact .inl ⟨c1, numZ_last c1⟩
  · by_cases c2 : n < 16384
    · exact .inr (.inl ⟨by omega, c2, numZ_two (by omega) c2⟩)
    · by_cases c3 : n < 2097152
      · exact .inr (.inr (.inl ⟨by omega, c3, numZ_three (by omega) c3⟩))
      · exact .inr (.inr (.inr ⟨by omega, numZ_four (by omega) h⟩))
def numLen (n : Nat) : Nat := if n < 128 then 1 else if n < 16384 then 2 else if n < 2097152 then 3 else 4
theorem numZ_len {n : Nat} (h : n < 268435456) : (numZ n).length = numLen n := by
  unfold numLen
  rcases numZ_cases h with ⟨a, e⟩ | ⟨a, b, e⟩ | ⟨a, b, e⟩ | ⟨a, e⟩ <;> rw [e]
  · rw [if_pos a]; rfl
  · rw [if_neg (by omega), if_pos b]; rfl
  · rw [if_neg (by omega), if_neg (by omega), if_pos b]; rfl
  · rw [if_neg (by omega), if_neg (by omega), if_neg (by omega)]; rfl
theorem numLen_le (n : Nat) : 1 ≤ numLen n ∧ numLen n ≤ 4 := by
  unfold numLen
  repeat' split
  all_goals omega
def numErr (n : Int) : Int := if 0 ≤ n ∧ n ≤ 268435455 then 0 else 2
def numStr (n : Int) : ByteArray := if 0 ≤ n ∧ n ≤ 268435455 then strOfNums (numZ n.toNat) else ⟨#[]⟩
theorem numErr_cases (n : Int) : (0 ≤ n ∧ n ≤ 268435455 ∧ numErr n = 0 ∧ numStr n = strOfNums (numZ n.toNat)) ∨ ((n < 0 ∨ 268435455 < n) ∧ numErr n = 2 ∧ numStr n = ⟨#[]⟩) := by
  unfold numErr numStr
  by_cases h : 0 ≤ n ∧ n ≤ 268435455
  · rw [if_pos h, if_pos h]; exact .inl ⟨h.1, h.2, rfl, rfl⟩
  · rw [if_neg h, if_neg h]; exact .inr ⟨by omega, rfl, rfl⟩

/-! ### taken back -/
/-- The loop behind so many bytes: f are left, n is what there is. -/
def tnGo : Nat → Nat → List UInt8 → Int × Int × Int
  | 0, _, _ => (0, 0, 8)
  | _ + 1, _, [] => (0, 0, 7)
  | f + 1, n, b :: t => if b.toNat < 128 then (if b.toNat = 0 ∧ f < 3 then (0, 0, 8) else (((n + b.toNat * 128 ^ (3 - f) : Nat) : Int), ((4 - f : Nat) : Int), 0))
    else tnGo f (n + b.toNat % 128 * 128 ^ (3 - f)) t
def tn (l : List UInt8) : Int × Int × Int := tnGo 4 0 l
theorem tnGo_nil (f n : Nat) : tnGo (f + 1) n [] = (0, 0, 7) := rfl
theorem tnGo_more {f n : Nat} {b : UInt8} {t : List UInt8} (h : 128 ≤ b.toNat) : tnGo (f + 1) n (b :: t) = tnGo f (n + b.toNat % 128 * 128 ^ (3 - f)) t := by
  show (if b.toNat < 128 then _ else _) = _
  rw [if_neg (by omega)]
theorem tnGo_bad {f n : Nat} {b : UInt8} {t : List UInt8} (h : b.toNat = 0) (hf : f < 3) : tnGo (f + 1) n (b :: t) = (0, 0, 8) := by
  show (if b.toNat < 128 then _ else _) = _
  rw [if_pos (by omega), if_pos ⟨h, hf⟩]
theorem tnGo_last {f n : Nat} {b : UInt8} {t : List UInt8} (h : b.toNat < 128) (hf : b.toNat ≠ 0 ∨ f = 3) : tnGo (f + 1) n (b :: t) = (((n + b.toNat * 128 ^ (3 - f) : Nat) : Int), ((4 - f : Nat) : Int), 0) := by
  show (if b.toNat < 128 then _ else _) = _
  rw [if_pos h, if_neg (by omega)]

theorem u8_ofNat {x : Nat} (h : x < 256) : (UInt8.ofNat x).toNat = x := by simp; omega
theorem u8_eq {a : UInt8} {x : Nat} (h : a.toNat = x) : UInt8.ofNat x = a := by subst h; simp
def bytesOf (zs : List Int) : List UInt8 := zs.map fun n => UInt8.ofNat n.toNat
theorem strOf_data (zs : List Int) : (strOfNums zs).data.toList = bytesOf zs := strOfNums_data zs

/-- What is written is taken, whatever stands behind it. -/
theorem tn_back {n : Nat} (h : n < 268435456) (t : List UInt8) : tn (bytesOf (numZ n) ++ t) = ((n : Int), ((numZ n).length : Int), 0) := by
  unfold tn bytesOf
  rcases numZ_cases h with ⟨a, e⟩ | ⟨a, b, e⟩ | ⟨a, b, e⟩ | ⟨a, e⟩ <;> rw [e] <;> simp only [List.map_cons, List.map_nil, List.cons_append, List.nil_append, Int.toNat_natCast]
  · have u0 : (UInt8.ofNat n).toNat = n := u8_ofNat (by omega)
    rw [tnGo_last (by omega) (.inr rfl), u0]; simp
  · have u0 : (UInt8.ofNat (n % 128 + 128)).toNat = n % 128 + 128 := u8_ofNat (by omega)
    have u1 : (UInt8.ofNat (n / 128)).toNat = n / 128 := u8_ofNat (by omega)
    rw [tnGo_more (by omega), tnGo_last (by omega) (.inl (by omega)), u0, u1]; simp; omega
  · have u0 : (UInt8.ofNat (n % 128 + 128)).toNat = n % 128 + 128 := u8_ofNat (by omega)
    have u1 : (UInt8.ofNat (n / 128 % 128 + 128)).toNat = n / 128 % 128 + 128 := u8_ofNat (by omega)
    have u2 : (UInt8.ofNat (n / 16384)).toNat = n / 16384 := u8_ofNat (by omega)
    rw [tnGo_more (by omega), tnGo_more (by omega), tnGo_last (by omega) (.inl (by omega)), u0, u1, u2]; simp; omega
  · have u0 : (UInt8.ofNat (n % 128 + 128)).toNat = n % 128 + 128 := u8_ofNat (by omega)
    have u1 : (UInt8.ofNat (n / 128 % 128 + 128)).toNat = n / 128 % 128 + 128 := u8_ofNat (by omega)
    have u2 : (UInt8.ofNat (n / 16384 % 128 + 128)).toNat = n / 16384 % 128 + 128 := u8_ofNat (by omega)
    have u3 : (UInt8.ofNat (n / 2097152)).toNat = n / 2097152 := u8_ofNat (by omega)
    rw [tnGo_more (by omega), tnGo_more (by omega), tnGo_more (by omega), tnGo_last (by omega) (.inl (by omega)), u0, u1, u2, u3]; simp; omega
/-- Cut off anywhere it is cut off. -/
theorem tn_cut {n : Nat} (h : n < 268435456) (j : Nat) (hj : j < (numZ n).length) : tn ((bytesOf (numZ n)).take j) = (0, 0, 7) := by
  unfold tn bytesOf
  rcases numZ_cases h with ⟨a, e⟩ | ⟨a, b, e⟩ | ⟨a, b, e⟩ | ⟨a, e⟩ <;> rw [e] at hj ⊢ <;> simp only [List.map_cons, List.map_nil, List.length_cons, List.length_nil, Int.toNat_natCast] at hj ⊢
  · obtain rfl : j = 0 := by omega
    rfl
  · have u0 : (UInt8.ofNat (n % 128 + 128)).toNat = n % 128 + 128 := u8_ofNat (by omega)
    rcases (by omega : j = 0 ∨ j = 1) with rfl | rfl
    · rfl
    · rw [List.take_succ_cons, List.take_zero, tnGo_more (by omega)]; rfl
  · have u0 : (UInt8.ofNat (n % 128 + 128)).toNat = n % 128 + 128 := u8_ofNat (by omega)
    have u1 : (UInt8.ofNat (n / 128 % 128 + 128)).toNat = n / 128 % 128 + 128 := u8_ofNat (by omega)
    rcases (by omega : j = 0 ∨ j = 1 ∨ j = 2) with rfl | rfl | rfl
    · rfl
    · rw [List.take_succ_cons, List.take_zero, tnGo_more (by omega)]; rfl
    · rw [List.take_succ_cons, List.take_succ_cons, List.take_zero, tnGo_more (by omega), tnGo_more (by omega)]; rfl
  · have u0 : (UInt8.ofNat (n % 128 + 128)).toNat = n % 128 + 128 := u8_ofNat (by omega)
    have u1 : (UInt8.ofNat (n / 128 % 128 + 128)).toNat = n / 128 % 128 + 128 := u8_ofNat (by omega)
    have u2 : (UInt8.ofNat (n / 16384 % 128 + 128)).toNat = n / 16384 % 128 + 128 := u8_ofNat (by omega)
    rcases (by omega : j = 0 ∨ j = 1 ∨ j = 2 ∨ j = 3) with rfl | rfl | rfl | rfl
    · rfl
    · rw [List.take_succ_cons, List.take_zero, tnGo_more (by omega)]; rfl
    · rw [List.take_succ_cons, List.take_succ_cons, List.take_zero, tnGo_more (by omega), tnGo_more (by omega)]; rfl
    · rw [List.take_succ_cons, List.take_succ_cons, List.take_succ_cons, List.take_zero, tnGo_more (by omega), tnGo_more (by omega), tnGo_more (by omega)]; rfl
/-- What one more byte comes to. -/
theorem tnGo_cases (f n : Nat) (l : List UInt8) : (l = [] ∧ tnGo (f + 1) n l = (0, 0, 7)) ∨ (∃ b t, l = b :: t ∧ b.toNat = 0 ∧ f < 3 ∧ tnGo (f + 1) n l = (0, 0, 8)) ∨
    (∃ b t, l = b :: t ∧ b.toNat < 128 ∧ (b.toNat ≠ 0 ∨ 3 ≤ f) ∧ tnGo (f + 1) n l = (((n + b.toNat * 128 ^ (3 - f) : Nat) : Int), ((4 - f : Nat) : Int), 0)) ∨
    (∃ b t, l = b :: t ∧ 128 ≤ b.toNat ∧ tnGo (f + 1) n l = tnGo f (n + b.toNat % 128 * 128 ^ (3 - f)) t) := by
  match l with
  | [] => exact .inl ⟨rfl, rfl⟩
  | b :: t =>
    by_cases h : b.toNat < 128
    · by_cases h2 : b.toNat = 0 ∧ f < 3
      · exact .inr (.inl ⟨b, t, rfl, h2.1, h2.2, tnGo_bad h2.1 h2.2⟩)
      · refine .inr (.inr (.inl ⟨b, t, rfl, h, by omega, ?_⟩))
        show (if b.toNat < 128 then _ else _) = _
        rw [if_pos h, if_neg h2]
    · exact .inr (.inr (.inr ⟨b, t, rfl, by omega, tnGo_more (by omega)⟩))
theorem tn_case3 (n : Nat) (l : List UInt8) : tnGo 4 n l = (0, 0, 7) ∨ tnGo 4 n l = (0, 0, 8) ∨ (∃ b t, l = b :: t ∧ b.toNat < 128 ∧ tnGo 4 n l = (((n + b.toNat : Nat) : Int), 1, 0)) ∨
    (∃ b t, l = b :: t ∧ 128 ≤ b.toNat ∧ tnGo 4 n l = tnGo 3 (n + b.toNat % 128) t) := by
  rcases tnGo_cases 3 n l with ⟨_, e⟩ | ⟨b, t, _, _, _, e⟩ | ⟨b, t, hl, h1, _, e⟩ | ⟨b, t, hl, h1, e⟩
  · exact .inl e
  · exact .inr (.inl e)
  · exact .inr (.inr (.inl ⟨b, t, hl, h1, by rw [e]; simp⟩))
  · exact .inr (.inr (.inr ⟨b, t, hl, h1, by rw [e]; simp⟩))
theorem tn_case2 (n : Nat) (l : List UInt8) : tnGo 3 n l = (0, 0, 7) ∨ tnGo 3 n l = (0, 0, 8) ∨ (∃ b t, l = b :: t ∧ b.toNat < 128 ∧ b.toNat ≠ 0 ∧ tnGo 3 n l = (((n + b.toNat * 128 : Nat) : Int), 2, 0)) ∨
    (∃ b t, l = b :: t ∧ 128 ≤ b.toNat ∧ tnGo 3 n l = tnGo 2 (n + b.toNat % 128 * 128) t) := by
  rcases tnGo_cases 2 n l with ⟨_, e⟩ | ⟨b, t, _, _, _, e⟩ | ⟨b, t, hl, h1, h2, e⟩ | ⟨b, t, hl, h1, e⟩
  · exact .inl e
  · exact .inr (.inl e)
  · exact .inr (.inr (.inl ⟨b, t, hl, h1, by omega, e⟩))
  · exact .inr (.inr (.inr ⟨b, t, hl, h1, by rw [e]⟩))
theorem tn_case1 (n : Nat) (l : List UInt8) : tnGo 2 n l = (0, 0, 7) ∨ tnGo 2 n l = (0, 0, 8) ∨ (∃ b t, l = b :: t ∧ b.toNat < 128 ∧ b.toNat ≠ 0 ∧ tnGo 2 n l = (((n + b.toNat * 16384 : Nat) : Int), 3, 0)) ∨
    (∃ b t, l = b :: t ∧ 128 ≤ b.toNat ∧ tnGo 2 n l = tnGo 1 (n + b.toNat % 128 * 16384) t) := by
  rcases tnGo_cases 1 n l with ⟨_, e⟩ | ⟨b, t, _, _, _, e⟩ | ⟨b, t, hl, h1, h2, e⟩ | ⟨b, t, hl, h1, e⟩
  · exact .inl e
  · exact .inr (.inl e)
  · exact .inr (.inr (.inl ⟨b, t, hl, h1, by omega, e⟩))
  · exact .inr (.inr (.inr ⟨b, t, hl, h1, by rw [e]⟩))
theorem tn_case0 (n : Nat) (l : List UInt8) : tnGo 1 n l = (0, 0, 7) ∨ tnGo 1 n l = (0, 0, 8) ∨ (∃ b t, l = b :: t ∧ b.toNat < 128 ∧ b.toNat ≠ 0 ∧ tnGo 1 n l = (((n + b.toNat * 2097152 : Nat) : Int), 4, 0)) := by
  rcases tnGo_cases 0 n l with ⟨_, e⟩ | ⟨b, t, _, _, _, e⟩ | ⟨b, t, hl, h1, h2, e⟩ | ⟨b, t, hl, h1, e⟩
  · exact .inl e
  · exact .inr (.inl e)
  · exact .inr (.inr ⟨b, t, hl, h1, by omega, by rw [e]; simp⟩)
  · refine .inr (.inl ?_)
    rw [e]; rfl
theorem wrote_one (b : UInt8) (t : List UInt8) (h : b.toNat < 128) : (b :: t).take 1 = bytesOf (numZ b.toNat) := by
  unfold bytesOf
  rw [numZ_last h]; simp
theorem wrote_two (b c : UInt8) (t : List UInt8) (m : Nat) (hb : 128 ≤ b.toNat) (hc : c.toNat < 128) (h0 : c.toNat ≠ 0) (hm : m = b.toNat % 128 + c.toNat * 128) : (b :: c :: t).take 2 = bytesOf (numZ m) := by
  have := b.toNat_lt
  have h1 : b.toNat = m % 128 + 128 := by omega
  have h2 : c.toNat = m / 128 := by omega
  have h3 : 128 ≤ m ∧ m < 16384 := by omega
  clear hm
  unfold bytesOf
  rw [numZ_two h3.1 h3.2]
  simp only [List.take_succ_cons, List.take_zero, List.map_cons, List.map_nil, Int.toNat_natCast]
  rw [u8_eq h1, u8_eq h2]
theorem wrote_three (b c d : UInt8) (t : List UInt8) (m : Nat) (hb : 128 ≤ b.toNat) (hc : 128 ≤ c.toNat) (hd : d.toNat < 128) (h0 : d.toNat ≠ 0) (hm : m = b.toNat % 128 + c.toNat % 128 * 128 + d.toNat * 16384) :
    (b :: c :: d :: t).take 3 = bytesOf (numZ m) := by
  have := b.toNat_lt
  have := c.toNat_lt
  have h1 : b.toNat = m % 128 + 128 := by omega
  have h2 : c.toNat = m / 128 % 128 + 128 := by omega
  have h3 : d.toNat = m / 16384 := by omega
  have h4 : 16384 ≤ m ∧ m < 2097152 := by omega
  clear hm
  unfold bytesOf
  rw [numZ_three h4.1 h4.2]
  simp only [List.take_succ_cons, List.take_zero, List.map_cons, List.map_nil, Int.toNat_natCast]
  rw [u8_eq h1, u8_eq h2, u8_eq h3]
theorem wrote_four (b c d x : UInt8) (t : List UInt8) (m : Nat) (hb : 128 ≤ b.toNat) (hc : 128 ≤ c.toNat) (hd : 128 ≤ d.toNat) (hx : x.toNat < 128) (h0 : x.toNat ≠ 0)
    (hm : m = b.toNat % 128 + c.toNat % 128 * 128 + d.toNat % 128 * 16384 + x.toNat * 2097152) : (b :: c :: d :: x :: t).take 4 = bytesOf (numZ m) := by
  have := b.toNat_lt
  have := c.toNat_lt
  have := d.toNat_lt
  have h1 : b.toNat = m % 128 + 128 := by omega
  have h2 : c.toNat = m / 128 % 128 + 128 := by omega
  have h3 : d.toNat = m / 16384 % 128 + 128 := by omega
  have h4 : x.toNat = m / 2097152 := by omega
  have h5 : 2097152 ≤ m ∧ m < 268435456 := by omega
  clear hm
  unfold bytesOf
  rw [numZ_four h5.1 h5.2]
  simp only [List.take_succ_cons, List.take_zero, List.map_cons, List.map_nil, Int.toNat_natCast]
  rw [u8_eq h1, u8_eq h2, u8_eq h3, u8_eq h4]
/-- What is taken was written so; or there is none, and the error is one of two. -/
theorem tn_wrote (l : List UInt8) : (tn l = (0, 0, 7) ∨ tn l = (0, 0, 8)) ∨ ∃ m k : Nat, tn l = ((m : Int), (k : Int), 0) ∧ m < 268435456 ∧ k ≤ l.length ∧ l.take k = bytesOf (numZ m) := by
  unfold tn
  rcases tn_case3 0 l with e | e | ⟨b, t, rfl, h1, e⟩ | ⟨b, t, rfl, h1, e⟩
  · exact .inl (.inl e)
  · exact .inl (.inr e)
  · rw [Nat.zero_add] at e
    exact .inr ⟨b.toNat, 1, e, by omega, by simp, wrote_one b t h1⟩
  have hb := b.toNat_lt
  rw [Nat.zero_add] at e
  rcases tn_case2 (b.toNat % 128) t with e2 | e2 | ⟨c, t, rfl, h2, h0, e2⟩ | ⟨c, t, rfl, h2, e2⟩
  · exact .inl (.inl (e.trans e2))
  · exact .inl (.inr (e.trans e2))
  · obtain ⟨m, hm⟩ : ∃ m, m = b.toNat % 128 + c.toNat * 128 := ⟨_, rfl⟩
    rw [← hm] at e2
    exact .inr ⟨m, 2, e.trans e2, by omega, by simp, wrote_two b c t m h1 h2 h0 hm⟩
  have hc := c.toNat_lt
  rcases tn_case1 (b.toNat % 128 + c.toNat % 128 * 128) t with e3 | e3 | ⟨d, t, rfl, h3, h0, e3⟩ | ⟨d, t, rfl, h3, e3⟩
  · exact .inl (.inl (e.trans (e2.trans e3)))
  · exact .inl (.inr (e.trans (e2.trans e3)))
  · obtain ⟨m, hm⟩ : ∃ m, m = b.toNat % 128 + c.toNat % 128 * 128 + d.toNat * 16384 := ⟨_, rfl⟩
    rw [← hm] at e3
    exact .inr ⟨m, 3, e.trans (e2.trans e3), by omega, by simp, wrote_three b c d t m h1 h2 h3 h0 hm⟩
  have hd := d.toNat_lt
  rcases tn_case0 (b.toNat % 128 + c.toNat % 128 * 128 + d.toNat % 128 * 16384) t with e4 | e4 | ⟨x, t, rfl, h4, h0, e4⟩
  · exact .inl (.inl (e.trans (e2.trans (e3.trans e4))))
  · exact .inl (.inr (e.trans (e2.trans (e3.trans e4))))
  · obtain ⟨m, hm⟩ : ∃ m, m = b.toNat % 128 + c.toNat % 128 * 128 + d.toNat % 128 * 16384 + x.toNat * 2097152 := ⟨_, rfl⟩
    rw [← hm] at e4
    exact .inr ⟨m, 4, e.trans (e2.trans (e3.trans e4)), by omega, by simp, wrote_four b c d x t m h1 h2 h3 h4 h0 hm⟩

/-! ### the highest first -/
def fixZ : Nat → Nat → List Int
  | 0, _ => []
  | w + 1, n => ((n / 256 ^ w % 256 : Nat) : Int) :: fixZ w n
theorem fixZ_len (w n : Nat) : (fixZ w n).length = w := by
  induction w with
  | zero => rfl
  | succ w ih => show (fixZ w n).length + 1 = w + 1; rw [ih]
def fixErr (w : Nat) (n : Int) : Int := if 0 ≤ n ∧ n < 256 ^ w then 0 else 2
def fixStr (w : Nat) (n : Int) : ByteArray := if 0 ≤ n ∧ n < 256 ^ w then strOfNums (fixZ w n.toNat) else ⟨#[]⟩
theorem fix_cases (w : Nat) (n : Int) : (0 ≤ n ∧ n < 256 ^ w ∧ fixErr w n = 0 ∧ fixStr w n = strOfNums (fixZ w n.toNat)) ∨ ((n < 0 ∨ 256 ^ w ≤ n) ∧ fixErr w n = 2 ∧ fixStr w n = ⟨#[]⟩) := by
  unfold fixErr fixStr
  by_cases h : 0 ≤ n ∧ n < 256 ^ w
  · rw [if_pos h, if_pos h]; exact .inl ⟨h.1, h.2, rfl, rfl⟩
  · rw [if_neg h, if_neg h]; exact .inr ⟨by omega, rfl, rfl⟩
def fixGo (n : Nat) (l : List UInt8) : Nat := l.foldl (fun a b => a * 256 + b.toNat) n
def fixVal (l : List UInt8) : Nat := fixGo 0 l
theorem fixGo_cons (n : Nat) (b : UInt8) (t : List UInt8) : fixGo n (b :: t) = fixGo (n * 256 + b.toNat) t := rfl
def tfErr (w : Nat) (l : List UInt8) : Int := if l.length < w then 7 else 0
def tfVal (w : Nat) (l : List UInt8) : Int := if l.length < w then 0 else (fixVal (l.take w) : Nat)
theorem fix2_data {n : Nat} (h : n < 65536) : bytesOf (fixZ 2 n) = [UInt8.ofNat (n / 256), UInt8.ofNat (n % 256)] := by
  unfold bytesOf fixZ fixZ fixZ
  simp only [List.map_cons, List.map_nil, Int.toNat_natCast, Nat.pow_one, Nat.pow_zero, Nat.div_one]
  rw [Nat.mod_eq_of_lt (show n / 256 < 256 by omega)]
theorem fix2_back {n : Nat} (h : n < 65536) (t : List UInt8) : fixVal ((bytesOf (fixZ 2 n) ++ t).take 2) = n := by
  rw [fix2_data h]
  simp only [List.cons_append, List.nil_append, List.take_succ_cons, List.take_zero]
  unfold fixVal
  rw [fixGo_cons, fixGo_cons, u8_ofNat (by omega), u8_ofNat (by omega)]
  show (0 * 256 + n / 256) * 256 + n % 256 = n
  omega
theorem take_two {l : List UInt8} (h : 2 ≤ l.length) : ∃ a b t, l = a :: b :: t := by
  match l, h with
  | a :: b :: t, _ => exact ⟨a, b, t, rfl⟩
theorem fixVal_two (l : List UInt8) : fixVal (l.take 2) < 65536 := by
  match l with
  | [] => decide
  | [a] => have := a.toNat_lt; show (0 * 256 + a.toNat) < _; omega
  | a :: b :: t => have := a.toNat_lt; have := b.toNat_lt; show ((0 * 256 + a.toNat) * 256 + b.toNat) < _; omega
end Go.Proofs.Ythdefnfpjbpbkaa.Vbi
/- Sums of bytes as plain numbers: a bit, a half byte by a table, a byte; what follows of parts and of turned bits. -/
namespace Go.Proofs.Ythdefnfpjbpbkaa.Crc

/-- One bit of the polynomial. -/
def R (s : Nat) : Nat := (s / 2) ^^^ (if s % 2 = 1 then 2197175160 else 0)
/-- Four bits, eight bits. -/
def R4 (s : Nat) : Nat := R (R (R (R s)))
def R8 (s : Nat) : Nat := R4 (R4 s)
def tab : List Nat := [0, 274646895, 549293790, 820201905, 1098587580, 1361435347, 1640403810, 1905808397, 2197175160, 2460548119, 2722870694, 2987750089, 3280807620, 3553878443, 3811616794, 4084100981]
/-- A half byte by the table. -/
def stepN (s : Nat) : Nat := (s / 16) ^^^ tab.getD (s % 16) 0

theorem R_odd {s : Nat} (h : s % 2 = 1) : R s = (s / 2) ^^^ 2197175160 := by unfold R; rw [if_pos h]
theorem R_even {s : Nat} (h : ¬ s % 2 = 1) : R s = s / 2 := by unfold R; rw [if_neg h, Nat.xor_zero]
theorem R_lt {s : Nat} (h : s < 4294967296) : R s < 4294967296 := by
  unfold R
  refine Nat.xor_lt_two_pow (n := 32) (by omega) ?_
  split <;> decide
theorem R4_lt {s : Nat} (h : s < 4294967296) : R4 s < 4294967296 := R_lt (R_lt (R_lt (R_lt h)))
theorem R8_lt {s : Nat} (h : s < 4294967296) : R8 s < 4294967296 := R4_lt (R4_lt h)

theorem xor_div2 (a b : Nat) : (a ^^^ b) / 2 = (a / 2) ^^^ (b / 2) := by
  have h := Nat.shiftRight_xor_distrib (a := a) (b := b) (i := 1)
  simpa [Nat.shiftRight_eq_div_pow] using h
theorem xor_mod2 (a b : Nat) : (a ^^^ b) % 2 = (a % 2 + b % 2) % 2 := by
  have h := Nat.xor_mod_two_pow (a := a) (b := b) (n := 1)
  rw [Nat.pow_one] at h
  rw [h]
  rcases Nat.mod_two_eq_zero_or_one a with h1 | h1 <;> rcases Nat.mod_two_eq_zero_or_one b with h2 | h2 <;> rw [h1, h2] <;> decide
theorem xor_swap4 (a b c d : Nat) : (a ^^^ b) ^^^ (c ^^^ d) = (a ^^^ c) ^^^ (b ^^^ d) := by
  rw [Nat.xor_assoc, ← Nat.xor_assoc b c d, Nat.xor_comm b c, Nat.xor_assoc c b d, ← Nat.xor_assoc]
theorem R_xor (a b : Nat) : R (a ^^^ b) = R a ^^^ R b := by
  unfold R
  rw [xor_div2, xor_mod2, xor_swap4]
  congr 1
  rcases Nat.mod_two_eq_zero_or_one a with h1 | h1 <;> rcases Nat.mod_two_eq_zero_or_one b with h2 | h2 <;> rw [h1, h2] <;> decide
theorem R4_xor (a b : Nat) : R4 (a ^^^ b) = R4 a ^^^ R4 b := by unfold R4; simp only [R_xor]
theorem R8_xor (a b : Nat) : R8 (a ^^^ b) = R8 a ^^^ R8 b := by unfold R8; simp only [R4_xor]

theorem R_double (n : Nat) : R (2 * n) = n := by rw [R_even (by omega)]; omega
theorem R4_up (q : Nat) : R4 (16 * q) = q := by
  unfold R4
  rw [show 16 * q = 2 * (2 * (2 * (2 * q))) by omega, R_double, R_double, R_double, R_double]
theorem R4_low : ∀ r, r < 16 → R4 r = tab.getD r 0 := by decide
theorem split16 (s : Nat) : s = (16 * (s / 16)) ^^^ (s % 16) := by
  have h1 : 16 * (s / 16) + s % 16 = (16 * (s / 16)) ^^^ (s % 16) := by
    apply Nat.eq_of_testBit_eq
    intro i
    have := Nat.two_pow_add_eq_or_of_lt (i := 4) (b := s % 16) (Nat.mod_lt _ (by decide)) (s / 16)
    rw [show (16 : Nat) = 2 ^ 4 from rfl] at *
    rw [this]
    rw [Nat.testBit_or, Nat.testBit_xor]
    by_cases hi : i < 4
    · have : (2 ^ 4 * (s / 2 ^ 4)).testBit i = false := by
        rw [Nat.testBit_two_pow_mul]; simp; omega
      rw [this]; simp
    · have : (s % 2 ^ 4).testBit i = false := by rw [Nat.testBit_mod_two_pow]; simp [hi]
      rw [this]; simp
  omega
/-- The table answers four bits at once. -/
theorem step_eq (s : Nat) : stepN s = R4 s := by
  have h : R4 s = R4 ((16 * (s / 16)) ^^^ (s % 16)) := by rw [← split16]
  rw [h, R4_xor, R4_up, R4_low _ (Nat.mod_lt _ (by decide))]
  rfl
theorem step2_eq (s : Nat) : stepN (stepN s) = R8 s := by rw [step_eq, step_eq]; rfl

/-- The bytes' sum without its turned bits. -/
def crc (s : Nat) (l : List UInt8) : Nat := l.foldl (fun s b => R8 (s ^^^ b.toNat)) s
theorem crc_nil (s : Nat) : crc s [] = s := rfl
theorem crc_append (s : Nat) (a b : List UInt8) : crc s (a ++ b) = crc (crc s a) b := List.foldl_append ..
theorem crc_snoc (s : Nat) (a : List UInt8) (b : UInt8) : crc s (a ++ [b]) = R8 (crc s a ^^^ b.toNat) := by rw [crc_append]; rfl
theorem byte_lt {s : Nat} (h : s < 4294967296) (b : UInt8) : s ^^^ b.toNat < 4294967296 :=
  Nat.xor_lt_two_pow (n := 32) h (by have := b.toNat_lt; omega)
theorem crc_lt {s : Nat} (l : List UInt8) (h : s < 4294967296) : crc s l < 4294967296 := by
  induction l generalizing s with
  | nil => exact h
  | cons b t ih => exact ih (R8_lt (byte_lt h b))
/-- A sum, of what stands ahead and of bytes. -/
def sumN (s : Nat) (l : List UInt8) : Nat := 4294967295 - crc (4294967295 - s) l
theorem sum_lt (s : Nat) (l : List UInt8) : sumN s l < 4294967296 := by unfold sumN; omega
theorem sum_nil {s : Nat} (h : s < 4294967296) : sumN s [] = s := by unfold sumN; rw [crc_nil]; omega
theorem sum_append (s : Nat) (a b : List UInt8) : sumN (sumN s a) b = sumN s (a ++ b) := by
  unfold sumN
  have h := crc_lt (s := 4294967295 - s) a (by omega)
  rw [crc_append, show 4294967295 - (4294967295 - crc (4294967295 - s) a) = crc (4294967295 - s) a by omega]

/-! ### what is turned is seen -/
theorem R_zero {d : Nat} (hd : d < 4294967296) (h : R d = 0) : d = 0 := by
  by_cases ho : d % 2 = 1
  · rw [R_odd ho] at h
    have : d / 2 = 2197175160 := by
      have h2 : (d / 2) ^^^ 2197175160 ^^^ 2197175160 = 0 ^^^ 2197175160 := by rw [h]
      rw [Nat.xor_assoc, Nat.xor_self, Nat.xor_zero, Nat.zero_xor] at h2
      exact h2
    omega
  · rw [R_even ho] at h
    omega
theorem R4_zero {d : Nat} (hd : d < 4294967296) (h : R4 d = 0) : d = 0 :=
  R_zero hd (R_zero (R_lt hd) (R_zero (R_lt (R_lt hd)) (R_zero (R_lt (R_lt (R_lt hd))) h)))
theorem R8_zero {d : Nat} (hd : d < 4294967296) (h : R8 d = 0) : d = 0 := R4_zero hd (R4_zero (R4_lt hd) h)
theorem xor_zero_eq {a b : Nat} (h : a ^^^ b = 0) : a = b := by
  have h2 : a ^^^ b ^^^ b = 0 ^^^ b := by rw [h]
  rw [Nat.xor_assoc, Nat.xor_self, Nat.xor_zero, Nat.zero_xor] at h2
  exact h2
theorem R8_inj {a b : Nat} (ha : a < 4294967296) (hb : b < 4294967296) (h : R8 a = R8 b) : a = b := by
  refine xor_zero_eq (R8_zero (Nat.xor_lt_two_pow (n := 32) ha hb) ?_)
  rw [R8_xor, h, Nat.xor_self]
theorem xor_cancel {a b c : Nat} (h : a ^^^ c = b ^^^ c) : a = b := by
  have h2 : a ^^^ c ^^^ c = b ^^^ c ^^^ c := by rw [h]
  rw [Nat.xor_assoc, Nat.xor_assoc, Nat.xor_self, Nat.xor_zero, Nat.xor_zero] at h2
  exact h2
theorem crc_inj {a b : Nat} (l : List UInt8) (ha : a < 4294967296) (hb : b < 4294967296) (h : crc a l = crc b l) : a = b := by
  induction l generalizing a b with
  | nil => exact h
  | cons x t ih =>
    exact xor_cancel (R8_inj (byte_lt ha x) (byte_lt hb x) (ih (R8_lt (byte_lt ha x)) (R8_lt (byte_lt hb x)) h))

/-- One turned bit of a byte is seen far above what a byte behind it could hide. -/
theorem R8_bit : ∀ k, k < 8 → 256 ≤ R8 (2 ^ k) := by decide
theorem far_byte {c d : Nat} (x y : UInt8) {k : Nat} (hk : k < 8) (hd : d = c ^^^ 2 ^ k) : R8 c ^^^ x.toNat ≠ R8 d ^^^ y.toNat := by
  intro h
  have h1 : R8 d = R8 c ^^^ R8 (2 ^ k) := by rw [hd, R8_xor]
  rw [h1] at h
  have h2 : x.toNat = R8 (2 ^ k) ^^^ y.toNat := by
    have h3 : R8 c ^^^ (R8 c ^^^ x.toNat) = R8 c ^^^ (R8 c ^^^ R8 (2 ^ k) ^^^ y.toNat) := by rw [h]
    rw [Nat.xor_assoc (R8 c) (R8 (2 ^ k)) y.toNat, ← Nat.xor_assoc, Nat.xor_self, Nat.zero_xor, ← Nat.xor_assoc, Nat.xor_self, Nat.zero_xor] at h3
    exact h3
  have h4 : R8 (2 ^ k) = x.toNat ^^^ y.toNat := by
    rw [h2, Nat.xor_assoc, Nat.xor_self, Nat.xor_zero]
  have h5 : x.toNat ^^^ y.toNat < 2 ^ 8 := Nat.xor_lt_two_pow (by have := x.toNat_lt; omega) (by have := y.toNat_lt; omega)
  have := R8_bit k hk
  omega
theorem two_pow_pos' (k : Nat) : 2 ^ k ≠ 0 := by have := Nat.two_pow_pos k; omega

/-- One bit of one byte turned: the sum is another. -/
theorem sum_turned (s : Nat) (a t : List UInt8) (x x' : UInt8) {k : Nat} (_hk : k < 8) (hx : x'.toNat = x.toNat ^^^ 2 ^ k) : sumN s (a ++ x' :: t) ≠ sumN s (a ++ x :: t) := by
  intro h
  unfold sumN at h
  have hs : 4294967295 - s < 4294967296 := by omega
  have hA := crc_lt a hs
  have h1 := crc_lt (a ++ x' :: t) hs
  have h2 := crc_lt (a ++ x :: t) hs
  have h3 : crc (4294967295 - s) (a ++ x' :: t) = crc (4294967295 - s) (a ++ x :: t) := by omega
  rw [crc_append, crc_append] at h3
  have h4 := R8_inj (byte_lt hA x') (byte_lt hA x) (crc_inj t (R8_lt (byte_lt hA x')) (R8_lt (byte_lt hA x)) h3)
  rw [Nat.xor_comm, Nat.xor_comm (crc (4294967295 - s) a) x.toNat] at h4
  have h5 := xor_cancel h4
  rw [h5] at hx
  have h6 : x.toNat ^^^ x.toNat = x.toNat ^^^ (x.toNat ^^^ 2 ^ k) := by rw [← hx]
  rw [Nat.xor_self, ← Nat.xor_assoc, Nat.xor_self, Nat.zero_xor] at h6
  exact two_pow_pos' k h6.symm
/-- One bit of a byte, and whatever of the next: the sum is another. -/
theorem sum_turned2 (s : Nat) (a t : List UInt8) (x x' y y' : UInt8) {k : Nat} (hk : k < 8) (hx : x'.toNat = x.toNat ^^^ 2 ^ k) : sumN s (a ++ x' :: y' :: t) ≠ sumN s (a ++ x :: y :: t) := by
  intro h
  unfold sumN at h
  have hs : 4294967295 - s < 4294967296 := by omega
  have hA := crc_lt a hs
  have h1 := crc_lt (a ++ x' :: y' :: t) hs
  have h2 := crc_lt (a ++ x :: y :: t) hs
  have h3 : crc (4294967295 - s) (a ++ x' :: y' :: t) = crc (4294967295 - s) (a ++ x :: y :: t) := by omega
  rw [crc_append, crc_append] at h3
  have l1 := R8_lt (byte_lt hA x')
  have l2 := R8_lt (byte_lt hA x)
  have h4 := R8_inj (byte_lt l1 y') (byte_lt l2 y) (crc_inj t (R8_lt (byte_lt l1 y')) (R8_lt (byte_lt l2 y)) h3)
  exact far_byte y y' hk (by rw [hx, ← Nat.xor_assoc]) h4.symm

/-- The word that everybody asks. -/
theorem sum_word : sumN 0 [49, 50, 51, 52, 53, 54, 55, 56, 57] = 3808858755 := by decide +kernel
end Go.Proofs.Ythdefnfpjbpbkaa.Crc
/- Records as bytes, plainly: what each is, how one is read back; cut off, turned. No run of a program is in this file. -/
namespace Go.Proofs.Ythdefnfpjbpbkaa.Rcd
open Go.Lib Vbi Crc

/-- A record: offset, time, key, body, QoS, gone. -/
structure Rc where
  o : Int
  t : Int
  k : List UInt8
  b : List UInt8
  q : Int
  g : Bool
def zero : Rc := ⟨0, 0, [], [], 0, false⟩
/-- A record that may be. -/
def mayB (r : Rc) : Bool := decide (0 ≤ r.o ∧ r.o ≤ 1099511627775 ∧ 0 ≤ r.t ∧ r.t ≤ 1099511627776 ∧ r.k.length ≤ 1024 ∧ r.b.length ≤ 1024 ∧ 0 ≤ r.q ∧ r.q ≤ 2 ∧ (r.b = [] ∨ r.g = false))
theorem may_iff (r : Rc) : mayB r = true ↔ (0 ≤ r.o ∧ r.o ≤ 1099511627775 ∧ 0 ≤ r.t ∧ r.t ≤ 1099511627776 ∧ r.k.length ≤ 1024 ∧ r.b.length ≤ 1024 ∧ 0 ≤ r.q ∧ r.q ≤ 2 ∧ (r.b = [] ∨ r.g = false)) := decide_eq_true_iff

/-! ### numbers as so many bytes -/
def fx (w n : Nat) : List UInt8 := bytesOf (fixZ w n)
theorem fx_len (w n : Nat) : (fx w n).length = w := by unfold fx bytesOf; rw [List.length_map, fixZ_len]
theorem fx_succ (w n : Nat) : fx (w + 1) n = UInt8.ofNat (n / 256 ^ w % 256) :: fx w n := by
  unfold fx bytesOf
  show (((n / 256 ^ w % 256 : Nat) : Int) :: fixZ w n).map _ = _
  rw [List.map_cons, Int.toNat_natCast]
theorem fixGo_fx (w n m : Nat) : fixGo m (fx w n) = m * 256 ^ w + n % 256 ^ w := by
  induction w generalizing m with
  | zero => unfold fx bytesOf fixGo; simp [fixZ, Nat.mod_one]
  | succ w ih =>
    rw [fx_succ, fixGo_cons, ih, u8_ofNat (Nat.mod_lt _ (by decide)), Nat.mod_pow_succ, Nat.pow_succ, Nat.add_mul, Nat.mul_assoc, Nat.mul_comm 256 (256 ^ w), Nat.mul_comm (256 ^ w) (n / 256 ^ w % 256)]
    omega
theorem fixVal_fx {w n : Nat} (h : n < 256 ^ w) : fixVal (fx w n) = n := by
  unfold fixVal
  rw [fixGo_fx, Nat.mod_eq_of_lt h, Nat.zero_mul, Nat.zero_add]
theorem fixGo_lt (l : List UInt8) (m k : Nat) (h : m < 256 ^ k) : fixGo m l < 256 ^ (k + l.length) := by
  induction l generalizing m k with
  | nil => exact h
  | cons b t ih =>
    rw [fixGo_cons, List.length_cons, show k + (t.length + 1) = k + 1 + t.length by omega]
    refine ih _ _ ?_
    have := b.toNat_lt
    rw [Nat.pow_succ]
    omega
theorem fixVal_lt (l : List UInt8) (k : Nat) (h : l.length ≤ k) : fixVal l < 256 ^ k :=
  Nat.lt_of_lt_of_le (fixGo_lt l 0 0 (by decide)) (Nat.pow_le_pow_right (by decide) (by omega))
theorem take_fx (w n : Nat) (t : List UInt8) : (fx w n ++ t).take w = fx w n := by
  rw [List.take_append_of_le_length (by rw [fx_len]; exact Nat.le_refl _), List.take_of_length_le (by rw [fx_len]; exact Nat.le_refl _)]
theorem drop_fx (w n : Nat) (t : List UInt8) : (fx w n ++ t).drop w = t := by
  rw [List.drop_append_of_le_length (by rw [fx_len]; exact Nat.le_refl _), List.drop_of_length_le (by rw [fx_len]; exact Nat.le_refl _), List.nil_append]

/-! ### a record's bytes -/
def flagN (r : Rc) : Nat := r.q.toNat + if r.g then 4 else 0
def bodyL (r : Rc) : List UInt8 := fx 8 r.o.toNat ++ (fx 8 r.t.toNat ++ (UInt8.ofNat (flagN r) :: (fx 2 r.k.length ++ (r.k ++ r.b))))
/-- Length, sum, body. -/
def sealL (B : List UInt8) : List UInt8 := fx 2 B.length ++ (fx 4 (sumN 0 (fx 2 B.length ++ B)) ++ B)
def recL (r : Rc) : List UInt8 := sealL (bodyL r)
theorem body_len (r : Rc) : (bodyL r).length = 19 + r.k.length + r.b.length := by
  unfold bodyL
  simp only [List.length_append, fx_len, List.length_cons]
  omega
theorem seal_len (B : List UInt8) : (sealL B).length = 6 + B.length := by
  unfold sealL
  simp only [List.length_append, fx_len]
  omega
theorem rec_len (r : Rc) : (recL r).length = 25 + r.k.length + r.b.length := by unfold recL; rw [seal_len, body_len]; omega
theorem flag_lt {r : Rc} (h : mayB r = true) : flagN r < 8 := by
  obtain ⟨_, _, _, _, _, _, h1, h2, _⟩ := (may_iff r).1 h
  unfold flagN
  split <;> omega

/-! ### a body read, part by part -/
/-- A number of eight bytes as an int. -/
def lng (l : List UInt8) : Int := IntKind.i64.wrap (fixVal (l.take 8) : Nat)
def p4 (r : Rc) (l : List UInt8) : Rc × Int := ({ r with b := l }, if mayB { r with b := l } then 0 else 1)
def p3 (r : Rc) (l : List UInt8) : Rc × Int :=
  if l.length < 2 then (zero, 7) else if 1024 < fixVal (l.take 2) then (zero, 2) else if l.length < 2 + fixVal (l.take 2) then (zero, 7)
  else p4 { r with k := (l.drop 2).take (fixVal (l.take 2)) } (l.drop (2 + fixVal (l.take 2)))
/-- QoS and gone, out of a byte. -/
def flagged (r : Rc) (f : Nat) : Rc := { r with g := decide (f / 4 % 2 = 1), q := ((f - 4 * (f / 4 % 2) : Nat) : Int) }
def p2 (r : Rc) : List UInt8 → Rc × Int
  | [] => (zero, 7)
  | f :: t => p3 (flagged r f.toNat) t
theorem p2_cons (r : Rc) (f : UInt8) (t : List UInt8) : p2 r (f :: t) = p3 (flagged r f.toNat) t := rfl
def p1 (r : Rc) (l : List UInt8) : Rc × Int := if l.length < 8 then (zero, 7) else p2 { r with t := lng l } (l.drop 8)
def p0 (r : Rc) (l : List UInt8) : Rc × Int := if l.length < 8 then (zero, 7) else p1 { r with o := lng l } (l.drop 8)
def parse (l : List UInt8) : Rc × Int := p0 zero l

theorem wrap_nat {n : Nat} (h : n < 9223372036854775808) : IntKind.i64.wrap (n : Int) = (n : Int) := by
  unfold IntKind.wrap
  simp [IntKind.bits, IntKind.signed]
  omega
theorem lng_fx {n : Nat} (t : List UInt8) (h : n < 9223372036854775808) : lng (fx 8 n ++ t) = (n : Int) := by
  unfold lng
  rw [take_fx, fixVal_fx (Nat.lt_trans h (by decide)), wrap_nat h]
theorem flags_back : ∀ q, q < 3 → ((decide ((q + 4) / 4 % 2 = 1) = true ∧ q + 4 - 4 * ((q + 4) / 4 % 2) = q) ∧ (decide (q / 4 % 2 = 1) = false ∧ q - 4 * (q / 4 % 2) = q)) := by decide
/-- What is written is read. -/
theorem parse_body {r : Rc} (h : mayB r = true) : parse (bodyL r) = (r, 0) := by
  obtain ⟨o, t, k, b, q, g⟩ := r
  obtain ⟨h1, h2, h3, h4, h5, h6, h7, h8, h9⟩ := (may_iff _).1 h
  simp only at h1 h2 h3 h4 h5 h6 h7 h8 h9
  have hf := flag_lt h
  obtain ⟨o, rfl⟩ := Int.eq_ofNat_of_zero_le h1
  obtain ⟨t, rfl⟩ := Int.eq_ofNat_of_zero_le h3
  obtain ⟨q, rfl⟩ := Int.eq_ofNat_of_zero_le h7
  unfold parse p0 bodyL
  rw [if_neg (by simp only [List.length_append, fx_len]; omega)]
  simp only [Int.toNat_natCast] at hf ⊢
  rw [lng_fx _ (by omega), drop_fx]
  unfold p1
  rw [if_neg (by simp only [List.length_append, fx_len]; omega), lng_fx _ (by omega), drop_fx, p2_cons]
  unfold p3
  rw [if_neg (by simp only [List.length_append, fx_len]; omega), take_fx, fixVal_fx (by omega), if_neg (by omega), if_neg (by simp only [List.length_append, fx_len]; omega), drop_fx, ← List.drop_drop, drop_fx,
    List.take_append_of_le_length (Nat.le_refl _), List.take_length, List.drop_append_of_le_length (Nat.le_refl _), List.drop_length, List.nil_append]
  rw [u8_ofNat (by omega)]
  have hq : q < 3 := by omega
  obtain ⟨⟨a1, a2⟩, a3, a4⟩ := flags_back q hq
  unfold p4 flagged flagN
  cases g with
  | true =>
    simp only [Int.toNat_natCast, if_true, a1, a2]
    rw [if_pos h]
  | false =>
    simp only [Int.toNat_natCast, if_false, Nat.add_zero, a3, a4, Bool.false_eq_true]
    rw [if_pos h]

theorem getD_right (a b : List UInt8) (n : Nat) (h : a.length ≤ n) : (a ++ b).getD n 0 = b.getD (n - a.length) 0 := by
  rw [List.getD_eq_getElem?_getD, List.getD_eq_getElem?_getD, List.getElem?_append_right h]
theorem getD_left (a b : List UInt8) (n : Nat) (h : n < a.length) : (a ++ b).getD n 0 = a.getD n 0 := by
  rw [List.getD_eq_getElem?_getD, List.getD_eq_getElem?_getD, List.getElem?_append_left h]
/-! ### a record taken -/
def takeR (l : List UInt8) : Rc × Nat × Int :=
  if l.length < 6 then (zero, 0, 7) else if l.length < 6 + fixVal (l.take 2) then (zero, 0, 7)
  else if fixVal ((l.drop 2).take 4) = sumN 0 (l.take 2 ++ (l.drop 6).take (fixVal (l.take 2))) then
    if (parse ((l.drop 6).take (fixVal (l.take 2)))).2 = 0 then ((parse ((l.drop 6).take (fixVal (l.take 2)))).1, 6 + fixVal (l.take 2), 0) else (zero, 0, 8)
  else (zero, 0, 8)
/-- Whatever is sealed, with something behind it. -/
theorem take_sealed (B t : List UInt8) (h : B.length < 65536) : takeR (sealL B ++ t) = if (parse B).2 = 0 then ((parse B).1, 6 + B.length, 0) else (zero, 0, 8) := by
  obtain ⟨n, hn⟩ : ∃ n, n = B.length := ⟨_, rfl⟩
  obtain ⟨s, hs⟩ : ∃ s, s = sumN 0 (fx 2 n ++ B) := ⟨_, rfl⟩
  have hs32 : s < 4294967296 := by rw [hs]; exact sum_lt _ _
  have e0 : sealL B ++ t = fx 2 n ++ (fx 4 s ++ (B ++ t)) := by rw [hs, hn]; unfold sealL; simp
  have e1 : (sealL B ++ t).take 2 = fx 2 n := by rw [e0, take_fx]
  have e2 : ((sealL B ++ t).drop 2).take 4 = fx 4 s := by rw [e0, drop_fx, take_fx]
  have e3 : (sealL B ++ t).drop 6 = B ++ t := by rw [show 6 = 2 + 4 from rfl, ← List.drop_drop, e0, drop_fx, drop_fx]
  have e4 : (B ++ t).take n = B := by rw [hn, List.take_append_of_le_length (Nat.le_refl _), List.take_length]
  have e5 : (sealL B ++ t).length = 6 + n + t.length := by rw [List.length_append, seal_len, hn]
  unfold takeR
  rw [e1, e2, e3, fixVal_fx (show n < 256 ^ 2 by omega), fixVal_fx (show s < 256 ^ 4 by omega), e4, e5, if_neg (by omega), if_neg (by omega), if_pos hs, ← hn]
theorem take_rec {r : Rc} (t : List UInt8) (h : mayB r = true) : takeR (recL r ++ t) = (r, (recL r).length, 0) := by
  obtain ⟨_, _, _, _, h5, h6, _⟩ := (may_iff _).1 h
  unfold recL
  rw [take_sealed _ _ (by rw [body_len]; omega), parse_body h, if_pos rfl, seal_len]
/-- Cut off anywhere it is cut off. -/
theorem take_cut {r : Rc} (h : mayB r = true) (j : Nat) (hj : j < (recL r).length) : takeR ((recL r).take j) = (zero, 0, 7) := by
  obtain ⟨_, _, _, _, h5, h6, _⟩ := (may_iff _).1 h
  have hl := rec_len r
  have hl2 : ((recL r).take j).length = j := by rw [List.length_take]; omega
  unfold takeR
  by_cases hs : j < 6
  · rw [if_pos (by omega)]
  · have e : ((recL r).take j).take 2 = fx 2 (bodyL r).length := by
      rw [List.take_take, Nat.min_eq_left (by omega)]
      unfold recL sealL
      rw [take_fx]
    have hb := body_len r
    rw [if_neg (by omega), e, fixVal_fx (by omega), if_pos (by omega)]
/-- A record that is not: its error. -/
theorem take_err (l : List UInt8) : (takeR l).2.2 = 0 ∨ (takeR l = (zero, 0, 7) ∨ takeR l = (zero, 0, 8)) := by
  unfold takeR
  split
  · exact .inr (.inl rfl)
  split
  · exact .inr (.inl rfl)
  split
  · split
    · exact .inl rfl
    · exact .inr (.inr rfl)
  · exact .inr (.inr rfl)
theorem take_size {l : List UInt8} (h : (takeR l).2.2 = 0) : 6 ≤ (takeR l).2.1 ∧ (takeR l).2.1 ≤ l.length := by
  unfold takeR at h ⊢
  by_cases c1 : l.length < 6
  · rw [if_pos c1] at h; cases h
  · rw [if_neg c1] at h ⊢
    by_cases c2 : l.length < 6 + fixVal (l.take 2)
    · rw [if_pos c2] at h; cases h
    · rw [if_neg c2] at h ⊢
      split at h
      · next c3 =>
        rw [if_pos c3]
        split at h
        · next c4 => rw [if_pos c4]; exact ⟨Nat.le_add_right _ _, by show 6 + _ ≤ _; omega⟩
        · cases h
      · cases h
/-- One bit turned behind the length: the record is not itself any more. -/
theorem take_turned {r : Rc} (h : mayB r = true) (l : List UInt8) (a k : Nat) (x x' : UInt8) (h2 : 2 ≤ a) (ha : a < (recL r).length) (hx : (recL r).getD a 0 = x) (hl : l = (recL r).set a x') (hk : k < 8) (hv : x'.toNat = x.toNat ^^^ 2 ^ k) : takeR l = (zero, 0, 8) := by
  obtain ⟨_, _, _, _, h5, h6, _⟩ := (may_iff _).1 h
  have hb := body_len r
  have hr := rec_len r
  obtain ⟨B, hB⟩ : ∃ B, B = bodyL r := ⟨_, rfl⟩
  obtain ⟨n, hn⟩ : ∃ n, n = B.length := ⟨_, rfl⟩
  obtain ⟨s, hs⟩ : ∃ s, s = sumN 0 (fx 2 n ++ B) := ⟨_, rfl⟩
  have hs32 : s < 4294967296 := by rw [hs]; exact sum_lt _ _
  have e0 : recL r = fx 2 n ++ (fx 4 s ++ B) := by rw [hs, hn, hB]; rfl
  rw [← hB] at hb
  have hne : x' ≠ x := by
    intro e
    rw [e] at hv
    have h6 : x.toNat ^^^ x.toNat = x.toNat ^^^ (x.toNat ^^^ 2 ^ k) := by rw [← hv]
    rw [Nat.xor_self, ← Nat.xor_assoc, Nat.xor_self, Nat.zero_xor] at h6
    exact two_pow_pos' k h6.symm
  have hset2 : l.take 2 = fx 2 n := by
    rw [hl, List.take_set_of_le h2, e0, take_fx]
  have hlen : l.length = 6 + n := by rw [hl, List.length_set, hr]; omega
  have hd : l.drop 2 = (fx 4 s ++ B).set (a - 2) x' := by
    rw [hl, e0, List.set_append_right _ _ (by rw [fx_len]; exact h2), fx_len, drop_fx]
  have hgd : (fx 4 s ++ B).getD (a - 2) 0 = x := by
    have := getD_right (fx 2 n) (fx 4 s ++ B) a (by rw [fx_len]; exact h2)
    rw [fx_len, ← e0, hx] at this
    exact this.symm
  have hd6 : l.drop 6 = ((fx 4 s ++ B).set (a - 2) x').drop 4 := by rw [← hd, List.drop_drop]
  have hall : (l.drop 6).take n = l.drop 6 := List.take_of_length_le (by rw [List.length_drop]; omega)
  unfold takeR
  rw [hset2, fixVal_fx (show n < 256 ^ 2 by omega), if_neg (by omega), if_neg (by omega), hall, hd, hd6, if_neg ?_]
  by_cases hin : a < 6
  · have e1 : (fx 4 s ++ B).set (a - 2) x' = (fx 4 s).set (a - 2) x' ++ B := by rw [List.set_append_left _ _ (by rw [fx_len]; omega)]
    have hl4 : ((fx 4 s).set (a - 2) x').length = 4 := by rw [List.length_set, fx_len]
    have e2 : ((fx 4 s).set (a - 2) x' ++ B).take 4 = (fx 4 s).set (a - 2) x' := by
      rw [List.take_append_of_le_length (by omega), List.take_of_length_le (by omega)]
    have e3 : ((fx 4 s).set (a - 2) x' ++ B).drop 4 = B := by
      rw [List.drop_append_of_le_length (by omega), List.drop_of_length_le (by omega), List.nil_append]
    rw [e1, e2, e3, ← hs]
    intro he
    have hgx : (fx 4 s).getD (a - 2) 0 = x := by rw [← hgd, getD_left _ _ _ (by rw [fx_len]; omega)]
    have key : fixVal ((fx 4 s).set (a - 2) x') = fixVal (fx 4 s) := by rw [he, fixVal_fx (show s < 256 ^ 4 by omega)]
    have hfour : ∃ c0 c1 c2 c3, fx 4 s = [c0, c1, c2, c3] := ⟨_, _, _, _, rfl⟩
    obtain ⟨c0, c1, c2, c3, hc⟩ := hfour
    rw [hc] at key hgx
    have b0 := c0.toNat_lt
    have b1 := c1.toNat_lt
    have b2 := c2.toNat_lt
    have b3 := c3.toNat_lt
    have bx := x'.toNat_lt
    rcases (by omega : a - 2 = 0 ∨ a - 2 = 1 ∨ a - 2 = 2 ∨ a - 2 = 3) with e | e | e | e <;> rw [e] at key hgx
    · have hz : c0 = x := hgx
      have : (((0 * 256 + x'.toNat) * 256 + c1.toNat) * 256 + c2.toNat) * 256 + c3.toNat = (((0 * 256 + c0.toNat) * 256 + c1.toNat) * 256 + c2.toNat) * 256 + c3.toNat := key
      exact hne (UInt8.toNat_inj.1 (by rw [← hz]; omega))
    · have hz : c1 = x := hgx
      have : (((0 * 256 + c0.toNat) * 256 + x'.toNat) * 256 + c2.toNat) * 256 + c3.toNat = (((0 * 256 + c0.toNat) * 256 + c1.toNat) * 256 + c2.toNat) * 256 + c3.toNat := key
      exact hne (UInt8.toNat_inj.1 (by rw [← hz]; omega))
    · have hz : c2 = x := hgx
      have : (((0 * 256 + c0.toNat) * 256 + c1.toNat) * 256 + x'.toNat) * 256 + c3.toNat = (((0 * 256 + c0.toNat) * 256 + c1.toNat) * 256 + c2.toNat) * 256 + c3.toNat := key
      exact hne (UInt8.toNat_inj.1 (by rw [← hz]; omega))
    · have hz : c3 = x := hgx
      have : (((0 * 256 + c0.toNat) * 256 + c1.toNat) * 256 + c2.toNat) * 256 + x'.toNat = (((0 * 256 + c0.toNat) * 256 + c1.toNat) * 256 + c2.toNat) * 256 + c3.toNat := key
      exact hne (UInt8.toNat_inj.1 (by rw [← hz]; omega))
  · have e1 : (fx 4 s ++ B).set (a - 2) x' = fx 4 s ++ B.set (a - 6) x' := by
      rw [List.set_append_right _ _ (by rw [fx_len]; omega), fx_len, show a - 2 - 4 = a - 6 by omega]
    rw [e1, take_fx, drop_fx, fixVal_fx (show s < 256 ^ 4 by omega), hs]
    have haB : a - 6 < B.length := by omega
    have hgB : B.getD (a - 6) 0 = x := by
      rw [← hgd, getD_right _ _ _ (by rw [fx_len]; omega), fx_len, show a - 2 - 4 = a - 6 by omega]
    have e2 : B[a - 6] = x := by rw [← hgB, List.getD_eq_getElem?_getD, List.getElem?_eq_getElem haB]; rfl
    have e3 : B = B.take (a - 6) ++ x :: B.drop (a - 6 + 1) := by rw [← e2]; simp
    have e4 : B.set (a - 6) x' = B.take (a - 6) ++ x' :: B.drop (a - 6 + 1) := List.set_eq_take_append_cons_drop.trans (by rw [if_pos haB])
    have := sum_turned 0 (fx 2 n ++ B.take (a - 6)) (B.drop (a - 6 + 1)) x x' hk hv
    rw [List.append_assoc, List.append_assoc, ← e4, ← e3] at this
    exact fun he => this he.symm

/-! ### records one behind the other -/
def scanF : Nat → List UInt8 → List Rc × Nat × Bool
  | 0, _ => ([], 0, true)
  | f + 1, l => if l.length = 0 then ([], 0, true) else if (takeR l).2.2 = 0 then
      ((takeR l).1 :: (scanF f (l.drop (takeR l).2.1)).1, (takeR l).2.1 + (scanF f (l.drop (takeR l).2.1)).2.1, (scanF f (l.drop (takeR l).2.1)).2.2)
    else ([], 0, false)
def scan (l : List UInt8) : List Rc × Nat × Bool := scanF l.length l
theorem scanF_same (a : Nat) : ∀ (b : Nat) (y : List UInt8), y.length ≤ a → y.length ≤ b → scanF a y = scanF b y := by
  induction a with
  | zero =>
    intro b y ha _
    obtain rfl : y = [] := List.eq_nil_of_length_eq_zero (by omega)
    cases b <;> rfl
  | succ a iha =>
    intro b y ha hb
    cases b with
    | zero =>
      obtain rfl : y = [] := List.eq_nil_of_length_eq_zero (by omega)
      rfl
    | succ b =>
      show (if y.length = 0 then _ else _) = (if y.length = 0 then _ else _)
      by_cases y0 : y.length = 0
      · rw [if_pos y0, if_pos y0]
      · rw [if_neg y0, if_neg y0]
        by_cases ye : (takeR y).2.2 = 0
        · have yz := take_size ye
          rw [if_pos ye, if_pos ye, iha b _ (by rw [List.length_drop]; omega) (by rw [List.length_drop]; omega)]
        · rw [if_neg ye, if_neg ye]
theorem scan_nil : scan [] = ([], 0, true) := rfl
theorem scan_stop {l : List UInt8} (h0 : 0 < l.length) (h : ¬ (takeR l).2.2 = 0) : scan l = ([], 0, false) := by
  unfold scan
  obtain ⟨m, hm⟩ : ∃ m, l.length = m + 1 := ⟨l.length - 1, by omega⟩
  rw [hm]
  show (if l.length = 0 then _ else if _ then _ else _) = _
  rw [if_neg (by omega), if_neg h]
theorem scan_next {l t : List UInt8} {r : Rc} {n : Nat} (h : takeR l = (r, n, 0)) (ht : l.drop n = t) : scan l = (r :: (scan t).1, n + (scan t).2.1, (scan t).2.2) := by
  have hz := take_size (l := l) (by rw [h])
  rw [h] at hz
  simp only at hz
  unfold scan
  obtain ⟨m, hm⟩ : ∃ m, l.length = m + 1 := ⟨l.length - 1, by omega⟩
  have hl : t.length = l.length - n := by rw [← ht, List.length_drop]
  rw [hm]
  show (if l.length = 0 then _ else if _ then _ else _) = _
  rw [if_neg (by omega), h, if_pos rfl]
  simp only
  rw [ht, scanF_same m t.length t (by omega) (Nat.le_refl _)]
/-- Of so many bytes of records, one behind the other: how many are whole. -/
def wholeN : List Rc → Nat → Nat
  | [], _ => 0
  | r :: rs, n => if (recL r).length ≤ n then wholeN rs (n - (recL r).length) + 1 else 0
theorem whole_yes {r : Rc} {rs : List Rc} {n : Nat} (h : (recL r).length ≤ n) : wholeN (r :: rs) n = wholeN rs (n - (recL r).length) + 1 := by rw [wholeN, if_pos h]
theorem whole_no {r : Rc} {rs : List Rc} {n : Nat} (h : ¬ (recL r).length ≤ n) : wholeN (r :: rs) n = 0 := by rw [wholeN, if_neg h]
def allL (rs : List Rc) : List UInt8 := rs.flatMap recL
theorem all_cons (r : Rc) (rs : List Rc) : allL (r :: rs) = recL r ++ allL rs := by unfold allL; rw [List.flatMap_cons]
theorem all_snoc (rs : List Rc) (r : Rc) : allL (rs ++ [r]) = allL rs ++ recL r := by unfold allL; rw [List.flatMap_append]; simp
theorem whole_le (rs : List Rc) (n : Nat) : wholeN rs n ≤ rs.length := by
  induction rs generalizing n with
  | nil => exact Nat.le_refl _
  | cons r rs ih =>
    by_cases c : (recL r).length ≤ n
    · rw [whole_yes c, List.length_cons]
      have := ih (n - (recL r).length); omega
    · rw [whole_no c]; omega
theorem whole_end (rs : List Rc) (n : Nat) : (allL (rs.take (wholeN rs n))).length ≤ n := by
  induction rs generalizing n with
  | nil => exact Nat.zero_le _
  | cons r rs ih =>
    by_cases c : (recL r).length ≤ n
    · rw [whole_yes c, List.take_succ_cons, all_cons, List.length_append]
      have := ih (n - (recL r).length); omega
    · rw [whole_no c]; exact Nat.zero_le _
/-- One more would not be whole. -/
theorem whole_next (rs : List Rc) (n : Nat) (h : wholeN rs n < rs.length) : n < (allL (rs.take (wholeN rs n + 1))).length := by
  induction rs generalizing n with
  | nil => cases h
  | cons r rs ih =>
    by_cases c : (recL r).length ≤ n
    · have e := whole_yes (rs := rs) c
      rw [e] at h ⊢
      rw [List.take_succ_cons, all_cons, List.length_append]
      have := ih (n - (recL r).length) (by simpa using h)
      omega
    · have e := whole_no (rs := rs) c
      rw [e, List.take_succ_cons, all_cons, List.length_append]
      omega
/-- Cut off anywhere those that are whole are told. -/
theorem scan_cut (rs : List Rc) (hm : ∀ r ∈ rs, mayB r = true) (n : Nat) (hn : n ≤ (allL rs).length) :
    scan ((allL rs).take n) = (rs.take (wholeN rs n), (allL (rs.take (wholeN rs n))).length, decide ((allL (rs.take (wholeN rs n))).length = n)) := by
  induction rs generalizing n with
  | nil =>
    obtain rfl : n = 0 := Nat.le_zero.1 hn
    rfl
  | cons r rs ih =>
    have hr := hm r (List.mem_cons_self ..)
    rw [all_cons, List.length_append] at hn
    have hpos : 25 ≤ (recL r).length := by rw [rec_len]; omega
    by_cases c : (recL r).length ≤ n
    · have e := whole_yes (rs := rs) c
      have e1 : (allL (r :: rs)).take n = recL r ++ (allL rs).take (n - (recL r).length) := by
        rw [all_cons, List.take_append, List.take_of_length_le c]
      rw [e, e1, scan_next (take_rec _ hr) (by rw [List.drop_append_of_le_length (Nat.le_refl _), List.drop_length, List.nil_append]), ih (fun x hx => hm x (List.mem_cons_of_mem _ hx)) _ (by omega), List.take_succ_cons, all_cons, List.length_append]
      simp only
      congr 2
      exact decide_eq_decide.2 (by omega)
    · have e := whole_no (rs := rs) c
      have e1 : (allL (r :: rs)).take n = (recL r).take n := by
        rw [all_cons, List.take_append_of_le_length (by omega)]
      rw [e, e1, List.take_zero]
      by_cases h0 : n = 0
      · subst h0; rfl
      · rw [scan_stop (by rw [List.length_take]; omega) (by rw [take_cut hr n (by omega)]; decide)]
        show ([], 0, false) = ([], 0, decide (0 = n))
        rw [decide_eq_false (by omega)]
end Go.Proofs.Ythdefnfpjbpbkaa.Rcd
