/- Plain facts on numbers as bytes: seven bits a byte, and bytes with the highest first. No run of a program is in this file. -/
import Derived.Laws.BytesArg
import Derived.Lib.Hide
namespace Go.Proofs.YtimoncjdfmfojaaDoor.Vbi
open Go.Lib

/-! ### seven bits a byte -/
def numZ (n : Nat) : List Int := if n < 128 then [(n : Int)] else ((n % 128 + 128 : Nat) : Int) :: numZ (n / 128)
termination_by n
decreasing_by omega
theorem numZ_last {n : Nat} (h : n < 128) : numZ n = [(n : Int)] := by rw [numZ, if_pos h]
theorem numZ_more {n : Nat} (h : 128 ≤ n) : numZ n = ((n % 128 + 128 : Nat) : Int) :: numZ (n / 128) := by rw [numZ, if_neg (by omega)]
theorem numZ_two {n : Nat} (h : 128 ≤ n) (h2 : n < 16384) : numZ n = [((n % 128 + 128 : Nat) : Int), ((n / 128 : Nat) : Int)] := by
  rw [numZ_more h, numZ_last (by omega)]
theorem numZ_three {n : Nat} (h : 16384 ≤ n) (h2 : n < 2097152) : numZ n = [((n % 128 + 128 : Nat) : Int), ((n / 128 % 128 + 128 : Nat) : Int), ((n / 16384 : Nat) : Int)] := by
  rw [numZ_more (by omega), numZ_two (by omega) (by omega)]
  have : n / 128 / 128 = n / 16384 := by omega
  rw [this]
theorem numZ_four {n : Nat} (h : 2097152 ≤ n) (h2 : n < 268435456) : numZ n = [((n % 128 + 128 : Nat) : Int), ((n / 128 % 128 + 128 : Nat) : Int), ((n / 16384 % 128 + 128 : Nat) : Int), ((n / 2097152 : Nat) : Int)] := by
  rw [numZ_more (by omega), numZ_three (by omega) (by omega)]
  have e1 : n / 128 / 128 = n / 16384 := by omega
  have e2 : n / 128 / 16384 = n / 2097152 := by omega
  rw [e1, e2]
/-- The four ways that a number may be as bytes. -/
theorem numZ_cases {n : Nat} (h : n < 268435456) : (n < 128 ∧ numZ n = [(n : Int)]) ∨ (128 ≤ n ∧ n < 16384 ∧ numZ n = [((n % 128 + 128 : Nat) : Int), ((n / 128 : Nat) : Int)]) ∨
    (16384 ≤ n ∧ n < 2097152 ∧ numZ n = [((n % 128 + 128 : Nat) : Int), ((n / 128 % 128 + 128 : Nat) : Int), ((n / 16384 : Nat) : Int)]) ∨
    (2097152 ≤ n ∧ numZ n = [((n % 128 + 128 : Nat) : Int), ((n / 128 % 128 + 128 : Nat) : Int), ((n / 16384 % 128 + 128 : Nat) : Int), ((n / 2097152 : Nat) : Int)]) := by
  by_cases c1 : n < 128
  · exact .inl ⟨c1, numZ_last c1⟩
  · by_cases c2 : n < 16384
    · exact .inr (.inl ⟨by omega, c2, numZ_two (by omega) c2⟩)
    · by_cases c3 : n < 2097152
      · exact .inr (.inr (.inl ⟨by omega, c3, numZ_three (by omega) c3⟩))
      · exact .inr (.inr (.inr ⟨by omega, numZ_four (by omega) h⟩))
def numLen (n : Nat) : Nat := if n < 128 then 1 else if n < 16384 then 2 else if n < 2097152 then 3 else 4
theorem numZ_len {n : Nat} (h : n < 268435456) : (numZ n).length = numLen n := by
  unfold numLen
  rcases numZ_cases h with ⟨a, e⟩ | ⟨a, b, e⟩ | ⟨a, b, e⟩ | ⟨a, e⟩ <;> rw [e]
  · rw [if_pos a]; rfl
  · rw [if_neg (by omega), if_pos b]; rfl
  · rw [if_neg (by omega), if_neg (by omega), if_pos b]; rfl
  · rw [if_neg (by omega), if_neg (by omega), if_neg (by omega)]; rfl
theorem numLen_le (n : Nat) : 1 ≤ numLen n ∧ numLen n ≤ 4 := by
  unfold numLen
  repeat' split
  all_goals omega
def numErr (n : Int) : Int := if 0 ≤ n ∧ n ≤ 268435455 then 0 else 2
def numStr (n : Int) : ByteArray := if 0 ≤ n ∧ n ≤ 268435455 then strOfNums (numZ n.toNat) else ⟨#[]⟩
theorem numErr_cases (n : Int) : (0 ≤ n ∧ n ≤ 268435455 ∧ numErr n = 0 ∧ numStr n = strOfNums (numZ n.toNat)) ∨ ((n < 0 ∨ 268435455 < n) ∧ numErr n = 2 ∧ numStr n = ⟨#[]⟩) := by
  unfold numErr numStr
  by_cases h : 0 ≤ n ∧ n ≤ 268435455
  · rw [if_pos h, if_pos h]; exact .inl ⟨h.1, h.2, rfl, rfl⟩
  · rw [if_neg h, if_neg h]; exact .inr ⟨by omega, rfl, rfl⟩

/-! ### taken back -/
/-- The loop behind so many bytes: f are left, n is what there is. -/
def tnGo : Nat → Nat → List UInt8 → Int × Int × Int
  | 0, _, _ => (0, 0, 8)
  | _ + 1, _, [] => (0, 0, 7)
  | f + 1, n, b :: t => if b.toNat < 128 then (if b.toNat = 0 ∧ f < 3 then (0, 0, 8) else (((n + b.toNat * 128 ^ (3 - f) : Nat) : Int), ((4 - f : Nat) : Int), 0))
    else tnGo f (n + b.toNat % 128 * 128 ^ (3 - f)) t
def tn (l : List UInt8) : Int × Int × Int := tnGo 4 0 l
theorem tnGo_nil (f n : Nat) : tnGo (f + 1) n [] = (0, 0, 7) := rfl
theorem tnGo_more {f n : Nat} {b : UInt8} {t : List UInt8} (h : 128 ≤ b.toNat) : tnGo (f + 1) n (b :: t) = tnGo f (n + b.toNat % 128 * 128 ^ (3 - f)) t := by
  show (if b.toNat < 128 then _ else _) = _
  rw [if_neg (by omega)]
theorem tnGo_bad {f n : Nat} {b : UInt8} {t : List UInt8} (h : b.toNat = 0) (hf : f < 3) : tnGo (f + 1) n (b :: t) = (0, 0, 8) := by
  show (if b.toNat < 128 then _ else _) = _
  rw [if_pos (by omega), if_pos ⟨h, hf⟩]
theorem tnGo_last {f n : Nat} {b : UInt8} {t : List UInt8} (h : b.toNat < 128) (hf : b.toNat ≠ 0 ∨ f = 3) : tnGo (f + 1) n (b :: t) = (((n + b.toNat * 128 ^ (3 - f) : Nat) : Int), ((4 - f : Nat) : Int), 0) := by
  show (if b.toNat < 128 then _ else _) = _
  rw [if_pos h, if_neg (by omega)]

theorem u8_ofNat {x : Nat} (h : x < 256) : (UInt8.ofNat x).toNat = x := by simp; omega
theorem u8_eq {a : UInt8} {x : Nat} (h : a.toNat = x) : UInt8.ofNat x = a := by subst h; simp
def bytesOf (zs : List Int) : List UInt8 := zs.map fun n => UInt8.ofNat n.toNat
theorem strOf_data (zs : List Int) : (strOfNums zs).data.toList = bytesOf zs := strOfNums_data zs

/-- What is written is taken, whatever stands behind it. -/
theorem tn_back {n : Nat} (h : n < 268435456) (t : List UInt8) : tn (bytesOf (numZ n) ++ t) = ((n : Int), ((numZ n).length : Int), 0) := by
  unfold tn bytesOf
  rcases numZ_cases h with ⟨a, e⟩ | ⟨a, b, e⟩ | ⟨a, b, e⟩ | ⟨a, e⟩ <;> rw [e] <;> simp only [List.map_cons, List.map_nil, List.cons_append, List.nil_append, Int.toNat_natCast]
  · have u0 : (UInt8.ofNat n).toNat = n := u8_ofNat (by omega)
    rw [tnGo_last (by omega) (.inr rfl), u0]; simp
  · have u0 : (UInt8.ofNat (n % 128 + 128)).toNat = n % 128 + 128 := u8_ofNat (by omega)
    have u1 : (UInt8.ofNat (n / 128)).toNat = n / 128 := u8_ofNat (by omega)
    rw [tnGo_more (by omega), tnGo_last (by omega) (.inl (by omega)), u0, u1]; simp; omega
  · have u0 : (UInt8.ofNat (n % 128 + 128)).toNat = n % 128 + 128 := u8_ofNat (by omega)
    have u1 : (UInt8.ofNat (n / 128 % 128 + 128)).toNat = n / 128 % 128 + 128 := u8_ofNat (by omega)
    have u2 : (UInt8.ofNat (n / 16384)).toNat = n / 16384 := u8_ofNat (by omega)
    rw [tnGo_more (by omega), tnGo_more (by omega), tnGo_last (by omega) (.inl (by omega)), u0, u1, u2]; simp; omega
  · have u0 : (UInt8.ofNat (n % 128 + 128)).toNat = n % 128 + 128 := u8_ofNat (by omega)
    have u1 : (UInt8.ofNat (n / 128 % 128 + 128)).toNat = n / 128 % 128 + 128 := u8_ofNat (by omega)
    have u2 : (UInt8.ofNat (n / 16384 % 128 + 128)).toNat = n / 16384 % 128 + 128 := u8_ofNat (by omega)
    have u3 : (UInt8.ofNat (n / 2097152)).toNat = n / 2097152 := u8_ofNat (by omega)
    rw [tnGo_more (by omega), tnGo_more (by omega), tnGo_more (by omega), tnGo_last (by omega) (.inl (by omega)), u0, u1, u2, u3]; simp; omega
/-- Cut off anywhere it is cut off. -/
theorem tn_cut {n : Nat} (h : n < 268435456) (j : Nat) (hj : j < (numZ n).length) : tn ((bytesOf (numZ n)).take j) = (0, 0, 7) := by
  unfold tn bytesOf
  rcases numZ_cases h with ⟨a, e⟩ | ⟨a, b, e⟩ | ⟨a, b, e⟩ | ⟨a, e⟩ <;> rw [e] at hj ⊢ <;> simp only [List.map_cons, List.map_nil, List.length_cons, List.length_nil, Int.toNat_natCast] at hj ⊢
  · obtain rfl : j = 0 := by omega
    rfl
  · have u0 : (UInt8.ofNat (n % 128 + 128)).toNat = n % 128 + 128 := u8_ofNat (by omega)
    rcases (by omega : j = 0 ∨ j = 1) with rfl | rfl
    · rfl
    · rw [List.take_succ_cons, List.take_zero, tnGo_more (by omega)]; rfl
  · have u0 : (UInt8.ofNat (n % 128 + 128)).toNat = n % 128 + 128 := u8_ofNat (by omega)
    have u1 : (UInt8.ofNat (n / 128 % 128 + 128)).toNat = n / 128 % 128 + 128 := u8_ofNat (by omega)
    rcases (by omega : j = 0 ∨ j = 1 ∨ j = 2) with rfl | rfl | rfl
    · rfl
    · rw [List.take_succ_cons, List.take_zero, tnGo_more (by omega)]; rfl
    · rw [List.take_succ_cons, List.take_succ_cons, List.take_zero, tnGo_more (by omega), tnGo_more (by omega)]; rfl
  · have u0 : (UInt8.ofNat (n % 128 + 128)).toNat = n % 128 + 128 := u8_ofNat (by omega)
    have u1 : (UInt8.ofNat (n / 128 % 128 + 128)).toNat = n / 128 % 128 + 128 := u8_ofNat (by omega)
    have u2 : (UInt8.ofNat (n / 16384 % 128 + 128)).toNat = n / 16384 % 128 + 128 := u8_ofNat (by omega)
    rcases (by omega : j = 0 ∨ j = 1 ∨ j = 2 ∨ j = 3) with rfl | rfl | rfl | rfl
    · rfl
    · rw [List.take_succ_cons, List.take_zero, tnGo_more (by omega)]; rfl
    · rw [List.take_succ_cons, List.take_succ_cons, List.take_zero, tnGo_more (by omega), tnGo_more (by omega)]; rfl
    · rw [List.take_succ_cons, List.take_succ_cons, List.take_succ_cons, List.take_zero, tnGo_more (by omega), tnGo_more (by omega), tnGo_more (by omega)]; rfl
/-- What one more byte comes to. -/
theorem tnGo_cases (f n : Nat) (l : List UInt8) : (l = [] ∧ tnGo (f + 1) n l = (0, 0, 7)) ∨ (∃ b t, l = b :: t ∧ b.toNat = 0 ∧ f < 3 ∧ tnGo (f + 1) n l = (0, 0, 8)) ∨
    (∃ b t, l = b :: t ∧ b.toNat < 128 ∧ (b.toNat ≠ 0 ∨ 3 ≤ f) ∧ tnGo (f + 1) n l = (((n + b.toNat * 128 ^ (3 - f) : Nat) : Int), ((4 - f : Nat) : Int), 0)) ∨
    (∃ b t, l = b :: t ∧ 128 ≤ b.toNat ∧ tnGo (f + 1) n l = tnGo f (n + b.toNat % 128 * 128 ^ (3 - f)) t) := by
  match l with
  | [] => exact .inl ⟨rfl, rfl⟩
  | b :: t =>
    by_cases h : b.toNat < 128
    · by_cases h2 : b.toNat = 0 ∧ f < 3
      · exact .inr (.inl ⟨b, t, rfl, h2.1, h2.2, tnGo_bad h2.1 h2.2⟩)
      · refine .inr (.inr (.inl ⟨b, t, rfl, h, by omega, ?_⟩))
        show (if b.toNat < 128 then _ else _) = _
        rw [if_pos h, if_neg h2]
    · exact .inr (.inr (.inr ⟨b, t, rfl, by omega, tnGo_more (by omega)⟩))
theorem tn_case3 (n : Nat) (l : List UInt8) : tnGo 4 n l = (0, 0, 7) ∨ tnGo 4 n l = (0, 0, 8) ∨ (∃ b t, l = b :: t ∧ b.toNat < 128 ∧ tnGo 4 n l = (((n + b.toNat : Nat) : Int), 1, 0)) ∨
    (∃ b t, l = b :: t ∧ 128 ≤ b.toNat ∧ tnGo 4 n l = tnGo 3 (n + b.toNat % 128) t) := by
  rcases tnGo_cases 3 n l with ⟨_, e⟩ | ⟨b, t, _, _, _, e⟩ | ⟨b, t, hl, h1, _, e⟩ | ⟨b, t, hl, h1, e⟩
  · exact .inl e
  · exact .inr (.inl e)
  · exact .inr (.inr (.inl ⟨b, t, hl, h1, by rw [e]; simp⟩))
  · exact .inr (.inr (.inr ⟨b, t, hl, h1, by rw [e]; simp⟩))
theorem tn_case2 (n : Nat) (l : List UInt8) : tnGo 3 n l = (0, 0, 7) ∨ tnGo 3 n l = (0, 0, 8) ∨ (∃ b t, l = b :: t ∧ b.toNat < 128 ∧ b.toNat ≠ 0 ∧ tnGo 3 n l = (((n + b.toNat * 128 : Nat) : Int), 2, 0)) ∨
    (∃ b t, l = b :: t ∧ 128 ≤ b.toNat ∧ tnGo 3 n l = tnGo 2 (n + b.toNat % 128 * 128) t) := by
  rcases tnGo_cases 2 n l with ⟨_, e⟩ | ⟨b, t, _, _, _, e⟩ | ⟨b, t, hl, h1, h2, e⟩ | ⟨b, t, hl, h1, e⟩
  · exact .inl e
  · exact .inr (.inl e)
  · exact .inr (.inr (.inl ⟨b, t, hl, h1, by omega, e⟩))
  · exact .inr (.inr (.inr ⟨b, t, hl, h1, by rw [e]⟩))
theorem tn_case1 (n : Nat) (l : List UInt8) : tnGo 2 n l = (0, 0, 7) ∨ tnGo 2 n l = (0, 0, 8) ∨ (∃ b t, l = b :: t ∧ b.toNat < 128 ∧ b.toNat ≠ 0 ∧ tnGo 2 n l = (((n + b.toNat * 16384 : Nat) : Int), 3, 0)) ∨
    (∃ b t, l = b :: t ∧ 128 ≤ b.toNat ∧ tnGo 2 n l = tnGo 1 (n + b.toNat % 128 * 16384) t) := by
  rcases tnGo_cases 1 n l with ⟨_, e⟩ | ⟨b, t, _, _, _, e⟩ | ⟨b, t, hl, h1, h2, e⟩ | ⟨b, t, hl, h1, e⟩
  · exact .inl e
  · exact .inr (.inl e)
  · exact .inr (.inr (.inl ⟨b, t, hl, h1, by omega, e⟩))
  · exact .inr (.inr (.inr ⟨b, t, hl, h1, by rw [e]⟩))
theorem tn_case0 (n : Nat) (l : List UInt8) : tnGo 1 n l = (0, 0, 7) ∨ tnGo 1 n l = (0, 0, 8) ∨ (∃ b t, l = b :: t ∧ b.toNat < 128 ∧ b.toNat ≠ 0 ∧ tnGo 1 n l = (((n + b.toNat * 2097152 : Nat) : Int), 4, 0)) := by
  rcases tnGo_cases 0 n l with ⟨_, e⟩ | ⟨b, t, _, _, _, e⟩ | ⟨b, t, hl, h1, h2, e⟩ | ⟨b, t, hl, h1, e⟩
  · exact .inl e
  · exact .inr (.inl e)
  · exact .inr (.inr ⟨b, t, hl, h1, by omega, by rw [e]; simp⟩)
  · refine .inr (.inl ?_)
    rw [e]; rfl
theorem wrote_one (b : UInt8) (t : List UInt8) (h : b.toNat < 128) : (b :: t).take 1 = bytesOf (numZ b.toNat) := by
  unfold bytesOf
  rw [numZ_last h]; simp
theorem wrote_two (b c : UInt8) (t : List UInt8) (m : Nat) (hb : 128 ≤ b.toNat) (hc : c.toNat < 128) (h0 : c.toNat ≠ 0) (hm : m = b.toNat % 128 + c.toNat * 128) : (b :: c :: t).take 2 = bytesOf (numZ m) := by
  have := b.toNat_lt
  have h1 : b.toNat = m % 128 + 128 := by omega
  have h2 : c.toNat = m / 128 := by omega
  have h3 : 128 ≤ m ∧ m < 16384 := by omega
  clear hm
  unfold bytesOf
  rw [numZ_two h3.1 h3.2]
  simp only [List.take_succ_cons, List.take_zero, List.map_cons, List.map_nil, Int.toNat_natCast]
  rw [u8_eq h1, u8_eq h2]
theorem wrote_three (b c d : UInt8) (t : List UInt8) (m : Nat) (hb : 128 ≤ b.toNat) (hc : 128 ≤ c.toNat) (hd : d.toNat < 128) (h0 : d.toNat ≠ 0) (hm : m = b.toNat % 128 + c.toNat % 128 * 128 + d.toNat * 16384) :
    (b :: c :: d :: t).take 3 = bytesOf (numZ m) := by
  have := b.toNat_lt
  have := c.toNat_lt
  have h1 : b.toNat = m % 128 + 128 := by omega
  have h2 : c.toNat = m / 128 % 128 + 128 := by omega
  have h3 : d.toNat = m / 16384 := by omega
  have h4 : 16384 ≤ m ∧ m < 2097152 := by omega
  clear hm
  unfold bytesOf
  rw [numZ_three h4.1 h4.2]
  simp only [List.take_succ_cons, List.take_zero, List.map_cons, List.map_nil, Int.toNat_natCast]
  rw [u8_eq h1, u8_eq h2, u8_eq h3]
theorem wrote_four (b c d x : UInt8) (t : List UInt8) (m : Nat) (hb : 128 ≤ b.toNat) (hc : 128 ≤ c.toNat) (hd : 128 ≤ d.toNat) (hx : x.toNat < 128) (h0 : x.toNat ≠ 0)
    (hm : m = b.toNat % 128 + c.toNat % 128 * 128 + d.toNat % 128 * 16384 + x.toNat * 2097152) : (b :: c :: d :: x :: t).take 4 = bytesOf (numZ m) := by
  have := b.toNat_lt
  have := c.toNat_lt
  have := d.toNat_lt
  have h1 : b.toNat = m % 128 + 128 := by omega
  have h2 : c.toNat = m / 128 % 128 + 128 := by omega
  have h3 : d.toNat = m / 16384 % 128 + 128 := by omega
  have h4 : x.toNat = m / 2097152 := by omega
  have h5 : 2097152 ≤ m ∧ m < 268435456 := by omega
  clear hm
  unfold bytesOf
  rw [numZ_four h5.1 h5.2]
  simp only [List.take_succ_cons, List.take_zero, List.map_cons, List.map_nil, Int.toNat_natCast]
  rw [u8_eq h1, u8_eq h2, u8_eq h3, u8_eq h4]
/-- What is taken was written so; or there is none, and the error is one of two. -/
theorem tn_wrote (l : List UInt8) : (tn l = (0, 0, 7) ∨ tn l = (0, 0, 8)) ∨ ∃ m k : Nat, tn l = ((m : Int), (k : Int), 0) ∧ m < 268435456 ∧ k ≤ l.length ∧ l.take k = bytesOf (numZ m) := by
  unfold tn
  rcases tn_case3 0 l with e | e | ⟨b, t, rfl, h1, e⟩ | ⟨b, t, rfl, h1, e⟩
  · exact .inl (.inl e)
  · exact .inl (.inr e)
  · rw [Nat.zero_add] at e
    exact .inr ⟨b.toNat, 1, e, by omega, by simp, wrote_one b t h1⟩
  have hb := b.toNat_lt
  rw [Nat.zero_add] at e
  rcases tn_case2 (b.toNat % 128) t with e2 | e2 | ⟨c, t, rfl, h2, h0, e2⟩ | ⟨c, t, rfl, h2, e2⟩
  · exact .inl (.inl (e.trans e2))
  · exact .inl (.inr (e.trans e2))
  · obtain ⟨m, hm⟩ : ∃ m, m = b.toNat % 128 + c.toNat * 128 := ⟨_, rfl⟩
    rw [← hm] at e2
    exact .inr ⟨m, 2, e.trans e2, by omega, by simp, wrote_two b c t m h1 h2 h0 hm⟩
  have hc := c.toNat_lt
  rcases tn_case1 (b.toNat % 128 + c.toNat % 128 * 128) t with e3 | e3 | ⟨d, t, rfl, h3, h0, e3⟩ | ⟨d, t, rfl, h3, e3⟩
  · exact .inl (.inl (e.trans (e2.trans e3)))
  · exact .inl (.inr (e.trans (e2.trans e3)))
  · obtain ⟨m, hm⟩ : ∃ m, m = b.toNat % 128 + c.toNat % 128 * 128 + d.toNat * 16384 := ⟨_, rfl⟩
    rw [← hm] at e3
    exact .inr ⟨m, 3, e.trans (e2.trans e3), by omega, by simp, wrote_three b c d t m h1 h2 h3 h0 hm⟩
  have hd := d.toNat_lt
  rcases tn_case0 (b.toNat % 128 + c.toNat % 128 * 128 + d.toNat % 128 * 16384) t with e4 | e4 | ⟨x, t, rfl, h4, h0, e4⟩
  · exact .inl (.inl (e.trans (e2.trans (e3.trans e4))))
  · exact .inl (.inr (e.trans (e2.trans (e3.trans e4))))
  · obtain ⟨m, hm⟩ : ∃ m, m = b.toNat % 128 + c.toNat % 128 * 128 + d.toNat % 128 * 16384 + x.toNat * 2097152 := ⟨_, rfl⟩
    rw [← hm] at e4
    exact .inr ⟨m, 4, e.trans (e2.trans (e3.trans e4)), by omega, by simp, wrote_four b c d x t m h1 h2 h3 h4 h0 hm⟩

/-! ### the highest first -/
def fixZ : Nat → Nat → List Int
  | 0, _ => []
  | w + 1, n => ((n / 256 ^ w % 256 : Nat) : Int) :: fixZ w n
theorem fixZ_len (w n : Nat) : (fixZ w n).length = w := by
  induction w with
  | zero => rfl
  | succ w ih => show (fixZ w n).length + 1 = w + 1; rw [ih]
def fixErr (w : Nat) (n : Int) : Int := if 0 ≤ n ∧ n < 256 ^ w then 0 else 2
def fixStr (w : Nat) (n : Int) : ByteArray := if 0 ≤ n ∧ n < 256 ^ w then strOfNums (fixZ w n.toNat) else ⟨#[]⟩
theorem fix_cases (w : Nat) (n : Int) : (0 ≤ n ∧ n < 256 ^ w ∧ fixErr w n = 0 ∧ fixStr w n = strOfNums (fixZ w n.toNat)) ∨ ((n < 0 ∨ 256 ^ w ≤ n) ∧ fixErr w n = 2 ∧ fixStr w n = ⟨#[]⟩) := by
  unfold fixErr fixStr
  by_cases h : 0 ≤ n ∧ n < 256 ^ w
  · rw [if_pos h, if_pos h]; exact .inl ⟨h.1, h.2, rfl, rfl⟩
  · rw [if_neg h, if_neg h]; exact .inr ⟨by omega, rfl, rfl⟩
def fixGo (n : Nat) (l : List UInt8) : Nat := l.foldl (fun a b => a * 256 + b.toNat) n
def fixVal (l : List UInt8) : Nat := fixGo 0 l
theorem fixGo_cons (n : Nat) (b : UInt8) (t : List UInt8) : fixGo n (b :: t) = fixGo (n * 256 + b.toNat) t := rfl
def tfErr (w : Nat) (l : List UInt8) : Int := if l.length < w then 7 else 0
def tfVal (w : Nat) (l : List UInt8) : Int := if l.length < w then 0 else (fixVal (l.take w) : Nat)
theorem fix2_data {n : Nat} (h : n < 65536) : bytesOf (fixZ 2 n) = [UInt8.ofNat (n / 256), UInt8.ofNat (n % 256)] := by
  unfold bytesOf fixZ fixZ fixZ
  simp only [List.map_cons, List.map_nil, Int.toNat_natCast, Nat.pow_one, Nat.pow_zero, Nat.div_one]
  rw [Nat.mod_eq_of_lt (show n / 256 < 256 by omega)]
theorem fix2_back {n : Nat} (h : n < 65536) (t : List UInt8) : fixVal ((bytesOf (fixZ 2 n) ++ t).take 2) = n := by
  rw [fix2_data h]
  simp only [List.cons_append, List.nil_append, List.take_succ_cons, List.take_zero]
  unfold fixVal
  rw [fixGo_cons, fixGo_cons, u8_ofNat (by omega), u8_ofNat (by omega)]
  show (0 * 256 + n / 256) * 256 + n % 256 = n
  omega
theorem take_two {l : List UInt8} (h : 2 ≤ l.length) : ∃ a b t, l = a :: b :: t := by
  match l, h with
  | a :: b :: t, _ => exact ⟨a, b, t, rfl⟩
theorem fixVal_two (l : List UInt8) : fixVal (l.take 2) < 65536 := by
  match l with
  | [] => decide
  | [a] => have := a.toNat_lt; show (0 * 256 + a.toNat) < _; omega
  | a :: b :: t => have := a.toNat_lt; have := b.toNat_lt; show ((0 * 256 + a.toNat) * 256 + b.toNat) < _; omega
end Go.Proofs.YtimoncjdfmfojaaDoor.Vbi
