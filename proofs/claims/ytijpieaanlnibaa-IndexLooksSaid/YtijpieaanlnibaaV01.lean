/- Texts of the proof, part 1: VbiPlain, SumPlain, RcPlain, SgPlain, IxPlain, Mem, StrMem, InRegion, Say, RcMem, InLoad, RcWhole, RcOr. -/
import Derived.Laws.BytesArg
import Derived.Lib.Hide
import Derived.WalkKit
import Derived.WalkSpells
import Derived.Deep.QuietTactic
import Derived.BigQuiet
import Derived.Laws.OwnMore
import Derived.Deep.Draws
import Derived.OwnWalk
import Derived.WalkSmall
import Derived.Lib.Strings
import Derived.WalkLawsBesides
import Derived.Below
import Derived.Deep.MidRow
import Derived.Test.YtijpieaanlnibaaChecked
import Derived.Laws.Tables
import Derived.LoopN
/- Plain facts on numbers as bytes: seven bits a byte, and bytes with the highest first. No run of a program is in this file. -/
namespace Go.Proofs.Ytijpieaanlnibaa.Vbi
open Go.Lib

/-! ### seven bits a byte -/
def numZ (n : Nat) : List Int := if n < 128 then [(n : Int)] else ((n % 128 + 128 : Nat) : Int) :: numZ (n / 128)
termination_by n
decreasing_by omega
theorem numZ_last {n : Nat} (h : n < 128) : numZ n = [(n : Int)] := by rw [numZ, if_pos h]
theorem numZ_more {n : Nat} (h : 128 ≤ n) : numZ n = ((n % 128 + 128 : Nat) : Int) :: numZ (n / 128) := by rw [numZ, if_neg (by omega)]
theorem numZ_two {n : Nat} (h : 128 ≤ n) (h2 : n < 16384) : numZ n = [((n % 128 + 128 : Nat) : Int), ((n / 128 : Nat) : Int)] := by
  rw [numZ_more h, numZ_last (by omega)]
theorem numZ_three {n : Nat} (h : 16384 ≤ n) (h2 : n < 2097152) : numZ n = [((n % 128 + 128 : Nat) : Int), ((n / 128 % 128 + 128 : Nat) : Int), ((n / 16384 : Nat) : Int)] := by
  rw [numZ_more (by omega), numZ_two (by omega) (by omega)]
  have : n / 128 / 128 = n / 16384 := by omega
  rw [this]
theorem numZ_four {n : Nat} (h : 2097152 ≤ n) (h2 : n < 268435456) : numZ n = [((n % 128 + 128 : Nat) : Int), ((n / 128 % 128 + 128 : Nat) : Int), ((n / 16384 % 128 + 128 : Nat) : Int), ((n / 2097152 : Nat) : Int)] := by
  rw [numZ_more (by omega), numZ_three (by omega) (by omega)]
  have e1 : n / 128 / 128 = n / 16384 := by omega
  have e2 : n / 128 / 16384 = n / 2097152 := by omega
  rw [e1, e2]
/-- The four ways that a number may be as bytes. -/
theorem numZ_cases {n : Nat} (h : n < 268435456) : (n < 128 ∧ numZ n = [(n : Int)]) ∨ (128 ≤ n ∧ n < 16384 ∧ numZ n = [((n % 128 + 128 : Nat) : Int), ((n / 128 : Nat) : Int)]) ∨
    (16384 ≤ n ∧ n < 2097152 ∧ numZ n = [((n % 128 + 128 : Nat) : Int), ((n / 128 % 128 + 128 : Nat) : Int), ((n / 16384 : Nat) : Int)]) ∨
    (2097152 ≤ n ∧ numZ n = [((n % 128 + 128 : Nat) : Int), ((n / 128 % 128 + 128 : Nat) : Int), ((n / 16384 % 128 + 128 : Nat) : Int), ((n / 2097152 : Nat) : Int)]) := by
  by_cases c1 : n < 128
  · exact .inl ⟨c1, numZ_last c1⟩
  · by_cases c2 : n < 16384
    · exact .inr (.inl ⟨by omega, c2, numZ_two (by omega) c2⟩)
    · by_cases c3 : n < 2097152
      · exact .inr (.inr (.inl ⟨by omega, c3, numZ_three (by omega) c3⟩))
      · exact .inr (.inr (.inr ⟨by omega, numZ_four (by omega) h⟩))
def numLen (n : Nat) : Nat := if n < 128 then 1 else if n < 16384 then 2 else if n < 2097152 then 3 else 4
theorem numZ_len {n : Nat} (h : n < 268435456) : (numZ n).length = numLen n := by
  unfold numLen
  rcases numZ_cases h with ⟨a, e⟩ | ⟨a, b, e⟩ | ⟨a, b, e⟩ | ⟨a, e⟩ <;> rw [e]
  · rw [if_pos a]; rfl
  · rw [if_neg (by omega), if_pos b]; rfl
  · rw [if_neg (by omega), if_neg (by omega), if_pos b]; rfl
  · rw [if_neg (by omega), if_neg (by omega), if_neg (by omega)]; rfl
theorem numLen_le (n : Nat) : 1 ≤ numLen n ∧ numLen n ≤ 4 := by
  unfold numLen
  repeat' split
  all_goals omega
def numErr (n : Int) : Int := if 0 ≤ n ∧ n ≤ 268435455 then 0 else 2
def numStr (n : Int) : ByteArray := if 0 ≤ n ∧ n ≤ 268435455 then strOfNums (numZ n.toNat) else ⟨#[]⟩
theorem numErr_cases (n : Int) : (0 ≤ n ∧ n ≤ 268435455 ∧ numErr n = 0 ∧ numStr n = strOfNums (numZ n.toNat)) ∨ ((n < 0 ∨ 268435455 < n) ∧ numErr n = 2 ∧ numStr n = ⟨#[]⟩) := by
  unfold numErr numStr
  by_cases h : 0 ≤ n ∧ n ≤ 268435455
  · rw [if_pos h, if_pos h]; exact .inl ⟨h.1, h.2, rfl, rfl⟩
  · rw [if_neg h, if_neg h]; exact .inr ⟨by omega, rfl, rfl⟩

/-! ### taken back -/
/-- The loop behind so many bytes: f are left, n is what there is. -/
def tnGo : Nat → Nat → List UInt8 → Int × Int × Int
  | 0, _, _ => (0, 0, 8)
  | _ + 1, _, [] => (0, 0, 7)
  | f + 1, n, b :: t => if b.toNat < 128 then (if b.toNat = 0 ∧ f < 3 then (0, 0, 8) else (((n + b.toNat * 128 ^ (3 - f) : Nat) : Int), ((4 - f : Nat) : Int), 0))
    else tnGo f (n + b.toNat % 128 * 128 ^ (3 - f)) t
def tn (l : List UInt8) : Int × Int × Int := tnGo 4 0 l
theorem tnGo_nil (f n : Nat) : tnGo (f + 1) n [] = (0, 0, 7) := rfl
theorem tnGo_more {f n : Nat} {b : UInt8} {t : List UInt8} (h : 128 ≤ b.toNat) : tnGo (f + 1) n (b :: t) = tnGo f (n + b.toNat % 128 * 128 ^ (3 - f)) t := by
  show (if b.toNat < 128 then _ else _) = _
  rw [if_neg (by omega)]
theorem tnGo_bad {f n : Nat} {b : UInt8} {t : List UInt8} (h : b.toNat = 0) (hf : f < 3) : tnGo (f + 1) n (b :: t) = (0, 0, 8) := by
  show (if b.toNat < 128 then _ else _) = _
  rw [if_pos (by omega), if_pos ⟨h, hf⟩]
theorem tnGo_last {f n : Nat} {b : UInt8} {t : List UInt8} (h : b.toNat < 128) (hf : b.toNat ≠ 0 ∨ f = 3) : tnGo (f + 1) n (b :: t) = (((n + b.toNat * 128 ^ (3 - f) : Nat) : Int), ((4 - f : Nat) : Int), 0) := by
  show (if b.toNat < 128 then _ else _) = _
  rw [if_pos h, if_neg (by omega)]

theorem u8_ofNat {x : Nat} (h : x < 256) : (UInt8.ofNat x).toNat = x := by simp; omega
theorem u8_eq {a : UInt8} {x : Nat} (h : a.toNat = x) : UInt8.ofNat x = a := by subst h; simp
def bytesOf (zs : List Int) : List UInt8 := zs.map fun n => UInt8.ofNat n.toNat
theorem strOf_data (zs : List Int) : (strOfNums zs).data.toList = bytesOf zs := strOfNums_data zs

/-- What is written is taken, whatever stands behind it. -/
theorem tn_back {n : Nat} (h : n < 268435456) (t : List UInt8) : tn (bytesOf (numZ n) ++ t) = ((n : Int), ((numZ n).length : Int), 0) := by
  unfold tn bytesOf
  rcases numZ_cases h with ⟨a, e⟩ | ⟨a, b, e⟩ | ⟨a, b, e⟩ | ⟨a, e⟩ <;> rw [e] <;> simp only [List.map_cons, List.map_nil, List.cons_append, List.nil_append, Int.toNat_natCast]
  · have u0 : (UInt8.ofNat n).toNat = n := u8_ofNat (by omega)
    rw [tnGo_last (by omega) (.inr rfl), u0]; simp
  · have u0 : (UInt8.ofNat (n % 128 + 128)).toNat = n % 128 + 128 := u8_ofNat (by omega)
    have u1 : (UInt8.ofNat (n / 128)).toNat = n / 128 := u8_ofNat (by omega)
    rw [tnGo_more (by omega), tnGo_last (by omega) (.inl (by omega)), u0, u1]; simp; omega
  · have u0 : (UInt8.ofNat (n % 128 + 128)).toNat = n % 128 + 128 := u8_ofNat (by omega)
    have u1 : (UInt8.ofNat (n / 128 % 128 + 128)).toNat = n / 128 % 128 + 128 := u8_ofNat (by omega)
    have u2 : (UInt8.ofNat (n / 16384)).toNat = n / 16384 := u8_ofNat (by omega)
    rw [tnGo_more (by omega), tnGo_more (by omega), tnGo_last (by omega) (.inl (by omega)), u0, u1, u2]; simp; omega
  · have u0 : (UInt8.ofNat (n % 128 + 128)).toNat = n % 128 + 128 := u8_ofNat (by omega)
    have u1 : (UInt8.ofNat (n / 128 % 128 + 128)).toNat = n / 128 % 128 + 128 := u8_ofNat (by omega)
    have u2 : (UInt8.ofNat (n / 16384 % 128 + 128)).toNat = n / 16384 % 128 + 128 := u8_ofNat (by omega)
    have u3 : (UInt8.ofNat (n / 2097152)).toNat = n / 2097152 := u8_ofNat (by omega)
    rw [tnGo_more (by omega), tnGo_more (by omega), tnGo_more (by omega), tnGo_last (by omega) (.inl (by omega)), u0, u1, u2, u3]; simp; omega
/-- Cut off anywhere it is cut off. -/
theorem tn_cut {n : Nat} (h : n < 268435456) (j : Nat) (hj : j < (numZ n).length) : tn ((bytesOf (numZ n)).take j) = (0, 0, 7) := by
  unfold tn bytesOf
  rcases numZ_cases h with ⟨a, e⟩ | ⟨a, b, e⟩ | ⟨a, b, e⟩ | ⟨a, e⟩ <;> rw [e] at hj ⊢ <;> simp only [List.map_cons, List.map_nil, List.length_cons, List.length_nil, Int.toNat_natCast] at hj ⊢
  · obtain rfl : j = 0 := by omega
    rfl
  · have u0 : (UInt8.ofNat (n % 128 + 128)).toNat = n % 128 + 128 := u8_ofNat (by omega)
    rcases (by omega : j = 0 ∨ j = 1) with rfl | rfl
    · rfl
    · rw [List.take_succ_cons, List.take_zero, tnGo_more (by omega)]; rfl
  · have u0 : (UInt8.ofNat (n % 128 + 128)).toNat = n % 128 + 128 := u8_ofNat (by omega)
    have u1 : (UInt8.ofNat (n / 128 % 128 + 128)).toNat = n / 128 % 128 + 128 := u8_ofNat (by omega)
    rcases (by omega : j = 0 ∨ j = 1 ∨ j = 2) with rfl | rfl | rfl
    · rfl
    · rw [List.take_succ_cons, List.take_zero, tnGo_more (by omega)]; rfl
    · rw [List.take_succ_cons, List.take_succ_cons, List.take_zero, tnGo_more (by omega), tnGo_more (by omega)]; rfl
  · have u0 : (UInt8.ofNat (n % 128 + 128)).toNat = n % 128 + 128 := u8_ofNat (by omega)
    have u1 : (UInt8.ofNat (n / 128 % 128 + 128)).toNat = n / 128 % 128 + 128 := u8_ofNat (by omega)
    have u2 : (UInt8.ofNat (n / 16384 % 128 + 128)).toNat = n / 16384 % 128 + 128 := u8_ofNat (by omega)
    rcases (by omega : j = 0 ∨ j = 1 ∨ j = 2 ∨ j = 3) with rfl | rfl | rfl | rfl
    · rfl
    · rw [List.take_succ_cons, List.take_zero, tnGo_more (by omega)]; rfl
    · rw [List.take_succ_cons, List.take_succ_cons, List.take_zero, tnGo_more (by omega), tnGo_more (by omega)]; rfl
    · rw [List.take_succ_cons, List.take_succ_cons, List.take_succ_cons, List.take_zero, tnGo_more (by omega), tnGo_more (by omega), tnGo_more (by omega)]; rfl
/-- What one more byte comes to. -/
theorem tnGo_cases (f n : Nat) (l : List UInt8) : (l = [] ∧ tnGo (f + 1) n l = (0, 0, 7)) ∨ (∃ b t, l = b :: t ∧ b.toNat = 0 ∧ f < 3 ∧ tnGo (f + 1) n l = (0, 0, 8)) ∨
    (∃ b t, l = b :: t ∧ b.toNat < 128 ∧ (b.toNat ≠ 0 ∨ 3 ≤ f) ∧ tnGo (f + 1) n l = (((n + b.toNat * 128 ^ (3 - f) : Nat) : Int), ((4 - f : Nat) : Int), 0)) ∨
    (∃ b t, l = b :: t ∧ 128 ≤ b.toNat ∧ tnGo (f + 1) n l = tnGo f (n + b.toNat % 128 * 128 ^ (3 - f)) t) := by
  match l with
  | [] => exact .inl ⟨rfl, rfl⟩
  | b :: t =>
    by_cases h : b.toNat < 128
    · by_cases h2 : b.toNat = 0 ∧ f < 3
      · exact .inr (.inl ⟨b, t, rfl, h2.1, h2.2, tnGo_bad h2.1 h2.2⟩)
      · refine .inr (.inr (.inl ⟨b, t, rfl, h, by omega, ?_⟩))
        show (if b.toNat < 128 then _ else _) = _
        rw [if_pos h, if_neg h2]
    · exact .inr (.inr (.inr ⟨b, t, rfl, by omega, tnGo_more (by omega)⟩))
theorem tn_case3 (n : Nat) (l : List UInt8) : tnGo 4 n l = (0, 0, 7) ∨ tnGo 4 n l = (0, 0, 8) ∨ (∃ b t, l = b :: t ∧ b.toNat < 128 ∧ tnGo 4 n l = (((n + b.toNat : Nat) : Int), 1, 0)) ∨
    (∃ b t, l = b :: t ∧ 128 ≤ b.toNat ∧ tnGo 4 n l = tnGo 3 (n + b.toNat % 128) t) := by
  rcases tnGo_cases 3 n l with ⟨_, e⟩ | ⟨b, t, _, _, _, e⟩ | ⟨b, t, hl, h1, _, e⟩ | ⟨b, t, hl, h1, e⟩
  · exact .inl e
  · exact .inr (.inl e)
  · exact .inr (.inr (.inl ⟨b, t, hl, h1, by rw [e]; simp⟩))
  · exact .inr (.inr (.inr ⟨b, t, hl, h1, by rw [e]; simp⟩))
theorem tn_case2 (n : Nat) (l : List UInt8) : tnGo 3 n l = (0, 0, 7) ∨ tnGo 3 n l = (0, 0, 8) ∨ (∃ b t, l = b :: t ∧ b.toNat < 128 ∧ b.toNat ≠ 0 ∧ tnGo 3 n l = (((n + b.toNat * 128 : Nat) : Int), 2, 0)) ∨
    (∃ b t, l = b :: t ∧ 128 ≤ b.toNat ∧ tnGo 3 n l = tnGo 2 (n + b.toNat % 128 * 128) t) := by
  rcases tnGo_cases 2 n l with ⟨_, e⟩ | ⟨b, t, _, _, _, e⟩ | ⟨b, t, hl, h1, h2, e⟩ | ⟨b, t, hl, h1, e⟩
  · exact .inl e
  · exact .inr (.inl e)
  · exact .inr (.inr (.inl ⟨b, t, hl, h1, by omega, e⟩))
  · exact .inr (.inr (.inr ⟨b, t, hl, h1, by rw [e]⟩))
theorem tn_case1 (n : Nat) (l : List UInt8) : tnGo 2 n l = (0, 0, 7) ∨ tnGo 2 n l = (0, 0, 8) ∨ (∃ b t, l = b :: t ∧ b.toNat < 128 ∧ b.toNat ≠ 0 ∧ tnGo 2 n l = (((n + b.toNat * 16384 : Nat) : Int), 3, 0)) ∨
    (∃ b t, l = b :: t ∧ 128 ≤ b.toNat ∧ tnGo 2 n l = tnGo 1 (n + b.toNat % 128 * 16384) t) := by
  rcases tnGo_cases 1 n l with ⟨_, e⟩ | ⟨b, t, _, _, _, e⟩ | ⟨b, t, hl, h1, h2, e⟩ | ⟨b, t, hl, h1, e⟩
  · exact .inl e
  · exact .inr (.inl e)
  · exact .inr (.inr (.inl ⟨b, t, hl, h1, by omega, e⟩))
  · exact .inr (.inr (.inr ⟨b, t, hl, h1, by rw [e]⟩))
theorem tn_case0 (n : Nat) (l : List UInt8) : tnGo 1 n l = (0, 0, 7) ∨ tnGo 1 n l = (0, 0, 8) ∨ (∃ b t, l = b :: t ∧ b.toNat < 128 ∧ b.toNat ≠ 0 ∧ tnGo 1 n l = (((n + b.toNat * 2097152 : Nat) : Int), 4, 0)) := by
  rcases tnGo_cases 0 n l with ⟨_, e⟩ | ⟨b, t, _, _, _, e⟩ | ⟨b, t, hl, h1, h2, e⟩ | ⟨b, t, hl, h1, e⟩
  · exact .inl e
  · exact .inr (.inl e)
  · exact .inr (.inr ⟨b, t, hl, h1, by omega, by rw [e]; simp⟩)
  · refine .inr (.inl ?_)
    rw [e]; rfl
theorem wrote_one (b : UInt8) (t : List UInt8) (h : b.toNat < 128) : (b :: t).take 1 = bytesOf (numZ b.toNat) := by
  unfold bytesOf
  rw [numZ_last h]; simp
theorem wrote_two (b c : UInt8) (t : List UInt8) (m : Nat) (hb : 128 ≤ b.toNat) (hc : c.toNat < 128) (h0 : c.toNat ≠ 0) (hm : m = b.toNat % 128 + c.toNat * 128) : (b :: c :: t).take 2 = bytesOf (numZ m) := by
  have := b.toNat_lt
  have h1 : b.toNat = m % 128 + 128 := by omega
  have h2 : c.toNat = m / 128 := by omega
  have h3 : 128 ≤ m ∧ m < 16384 := by omega
  clear hm
  unfold bytesOf
  rw [numZ_two h3.1 h3.2]
  simp only [List.take_succ_cons, List.take_zero, List.map_cons, List.map_nil, Int.toNat_natCast]
  rw [u8_eq h1, u8_eq h2]
theorem wrote_three (b c d : UInt8) (t : List UInt8) (m : Nat) (hb : 128 ≤ b.toNat) (hc : 128 ≤ c.toNat) (hd : d.toNat < 128) (h0 : d.toNat ≠ 0) (hm : m = b.toNat % 128 + c.toNat % 128 * 128 + d.toNat * 16384) :
    (b :: c :: d :: t).take 3 = bytesOf (numZ m) := by
  have := b.toNat_lt
  have := c.toNat_lt
  have h1 : b.toNat = m % 128 + 128 := by omega
  have h2 : c.toNat = m / 128 % 128 + 128 := by omega
  have h3 : d.toNat = m / 16384 := by omega
  have h4 : 16384 ≤ m ∧ m < 2097152 := by omega
  clear hm
  unfold bytesOf
  rw [numZ_three h4.1 h4.2]
  simp only [List.take_succ_cons, List.take_zero, List.map_cons, List.map_nil, Int.toNat_natCast]
  rw [u8_eq h1, u8_eq h2, u8_eq h3]
theorem wrote_four (b c d x : UInt8) (t : List UInt8) (m : Nat) (hb : 128 ≤ b.toNat) (hc : 128 ≤ c.toNat) (hd : 128 ≤ d.toNat) (hx : x.toNat < 128) (h0 : x.toNat ≠ 0)
    (hm : m = b.toNat % 128 + c.toNat % 128 * 128 + d.toNat % 128 * 16384 + x.toNat * 2097152) : (b :: c :: d :: x :: t).take 4 = bytesOf (numZ m) := by
  have := b.toNat_lt
  have := c.toNat_lt
  have := d.toNat_lt
  have h1 : b.toNat = m % 128 + 128 := by omega
  have h2 : c.toNat = m / 128 % 128 + 128 := by omega
  have h3 : d.toNat = m / 16384 % 128 + 128 := by omega
  have h4 : x.toNat = m / 2097152 := by omega
  have h5 : 2097152 ≤ m ∧ m < 268435456 := by omega
  clear hm
  unfold bytesOf
  rw [numZ_four h5.1 h5.2]
  simp only [List.take_succ_cons, List.take_zero, List.map_cons, List.map_nil, Int.toNat_natCast]
  rw [u8_eq h1, u8_eq h2, u8_eq h3, u8_eq h4]
/-- What is taken was written so; or there is none, and the error is one of two. -/
theorem tn_wrote (l : List UInt8) : (tn l = (0, 0, 7) ∨ tn l = (0, 0, 8)) ∨ ∃ m k : Nat, tn l = ((m : Int), (k : Int), 0) ∧ m < 268435456 ∧ k ≤ l.length ∧ l.take k = bytesOf (numZ m) := by
  unfold tn
  rcases tn_case3 0 l with e | e | ⟨b, t, rfl, h1, e⟩ | ⟨b, t, rfl, h1, e⟩
  · exact .inl (.inl e)
  · exact .inl (.inr e)
  · rw [Nat.zero_add] at e
    exact .inr ⟨b.toNat, 1, e, by omega, by simp, wrote_one b t h1⟩
  have hb := b.toNat_lt
  rw [Nat.zero_add] at e
  rcases tn_case2 (b.toNat % 128) t with e2 | e2 | ⟨c, t, rfl, h2, h0, e2⟩ | ⟨c, t, rfl, h2, e2⟩
  · exact .inl (.inl (e.trans e2))
  · exact .inl (.inr (e.trans e2))
  · obtain ⟨m, hm⟩ : ∃ m, m = b.toNat % 128 + c.toNat * 128 := ⟨_, rfl⟩
    rw [← hm] at e2
    exact .inr ⟨m, 2, e.trans e2, by omega, by simp, wrote_two b c t m h1 h2 h0 hm⟩
  have hc := c.toNat_lt
  rcases tn_case1 (b.toNat % 128 + c.toNat % 128 * 128) t with e3 | e3 | ⟨d, t, rfl, h3, h0, e3⟩ | ⟨d, t, rfl, h3, e3⟩
  · exact .inl (.inl (e.trans (e2.trans e3)))
  · exact .inl (.inr (e.trans (e2.trans e3)))
  · obtain ⟨m, hm⟩ : ∃ m, m = b.toNat % 128 + c.toNat % 128 * 128 + d.toNat * 16384 := ⟨_, rfl⟩
    rw [← hm] at e3
    exact .inr ⟨m, 3, e.trans (e2.trans e3), by omega, by simp, wrote_three b c d t m h1 h2 h3 h0 hm⟩
  have hd := d.toNat_lt
  rcases tn_case0 (b.toNat % 128 + c.toNat % 128 * 128 + d.toNat % 128 * 16384) t with e4 | e4 | ⟨x, t, rfl, h4, h0, e4⟩
  · exact .inl (.inl (e.trans (e2.trans (e3.trans e4))))
  · exact .inl (.inr (e.trans (e2.trans (e3.trans e4))))
  · obtain ⟨m, hm⟩ : ∃ m, m = b.toNat % 128 + c.toNat % 128 * 128 + d.toNat % 128 * 16384 + x.toNat * 2097152 := ⟨_, rfl⟩
    rw [← hm] at e4
    exact .inr ⟨m, 4, e.trans (e2.trans (e3.trans e4)), by omega, by simp, wrote_four b c d x t m h1 h2 h3 h4 h0 hm⟩

/-! ### the highest first -/
def fixZ : Nat → Nat → List Int
  | 0, _ => []
  | w + 1, n => ((n / 256 ^ w % 256 : Nat) : Int) :: fixZ w n
theorem fixZ_len (w n : Nat) : (fixZ w n).length = w := by
  induction w with
  | zero => rfl
  | succ w ih => show (fixZ w n).length + 1 = w + 1; rw [ih]
def fixErr (w : Nat) (n : Int) : Int := if 0 ≤ n ∧ n < 256 ^ w then 0 else 2
def fixStr (w : Nat) (n : Int) : ByteArray := if 0 ≤ n ∧ n < 256 ^ w then strOfNums (fixZ w n.toNat) else ⟨#[]⟩
theorem fix_cases (w : Nat) (n : Int) : (0 ≤ n ∧ n < 256 ^ w ∧ fixErr w n = 0 ∧ fixStr w n = strOfNums (fixZ w n.toNat)) ∨ ((n < 0 ∨ 256 ^ w ≤ n) ∧ fixErr w n = 2 ∧ fixStr w n = ⟨#[]⟩) := by
  unfold fixErr fixStr
  by_cases h : 0 ≤ n ∧ n < 256 ^ w
  · rw [if_pos h, if_pos h]; exact .inl ⟨h.1, h.2, rfl, rfl⟩
  · rw [if_neg h, if_neg h]; exact .inr ⟨by omega, rfl, rfl⟩
def fixGo (n : Nat) (l : List UInt8) : Nat := l.foldl (fun a b => a * 256 + b.toNat) n
def fixVal (l : List UInt8) : Nat := fixGo 0 l
theorem fixGo_cons (n : Nat) (b : UInt8) (t : List UInt8) : fixGo n (b :: t) = fixGo (n * 256 + b.toNat) t := rfl
def tfErr (w : Nat) (l : List UInt8) : Int := if l.length < w then 7 else 0
def tfVal (w : Nat) (l : List UInt8) : Int := if l.length < w then 0 else (fixVal (l.take w) : Nat)
theorem fix2_data {n : Nat} (h : n < 65536) : bytesOf (fixZ 2 n) = [UInt8.ofNat (n / 256), UInt8.ofNat (n % 256)] := by
  unfold bytesOf fixZ fixZ fixZ
  simp only [List.map_cons, List.map_nil, Int.toNat_natCast, Nat.pow_one, Nat.pow_zero, Nat.div_one]
  rw [Nat.mod_eq_of_lt (show n / 256 < 256 by omega)]
theorem fix2_back {n : Nat} (h : n < 65536) (t : List UInt8) : fixVal ((bytesOf (fixZ 2 n) ++ t).take 2) = n := by
  rw [fix2_data h]
  simp only [List.cons_append, List.nil_append, List.take_succ_cons, List.take_zero]
  unfold fixVal
  rw [fixGo_cons, fixGo_cons, u8_ofNat (by omega), u8_ofNat (by omega)]
  show (0 * 256 + n / 256) * 256 + n % 256 = n
  omega
theorem take_two {l : List UInt8} (h : 2 ≤ l.length) : ∃ a b t, l = a :: b :: t := by
  match l, h with
  | a :: b :: t, _ => exact ⟨a, b, t, rfl⟩
theorem fixVal_two (l : List UInt8) : fixVal (l.take 2) < 65536 := by
  match l with
  | [] => decide
  | [a] => have := a.toNat_lt; show (0 * 256 + a.toNat) < _; omega
  | a :: b :: t => have := a.toNat_lt; have := b.toNat_lt; show ((0 * 256 + a.toNat) * 256 + b.toNat) < _; omega
end Go.Proofs.Ytijpieaanlnibaa.Vbi
/- Sums of bytes as plain numbers: a bit, a half byte by a table, a byte; what follows of parts and of turned bits. -/
namespace Go.Proofs.Ytijpieaanlnibaa.Crc

/-- One bit of the polynomial. -/
def R (s : Nat) : Nat := (s / 2) ^^^ (if s % 2 = 1 then 2197175160 else 0)
/-- Four bits, eight bits. -/
def R4 (s : Nat) : Nat := R (R (R (R s)))
def R8 (s : Nat) : Nat := R4 (R4 s)
def tab : List Nat := [0, 274646895, 549293790, 820201905, 1098587580, 1361435347, 1640403810, 1905808397, 2197175160, 2460548119, 2722870694, 2987750089, 3280807620, 3553878443, 3811616794, 4084100981]
/-- A half byte by the table. -/
def stepN (s : Nat) : Nat := (s / 16) ^^^ tab.getD (s % 16) 0

theorem R_odd {s : Nat} (h : s % 2 = 1) : R s = (s / 2) ^^^ 2197175160 := by unfold R; rw [if_pos h]
theorem R_even {s : Nat} (h : ¬ s % 2 = 1) : R s = s / 2 := by unfold R; rw [if_neg h, Nat.xor_zero]
theorem R_lt {s : Nat} (h : s < 4294967296) : R s < 4294967296 := by
  unfold R
  refine Nat.xor_lt_two_pow (n := 32) (by omega) ?_
  split <;> decide
theorem R4_lt {s : Nat} (h : s < 4294967296) : R4 s < 4294967296 := R_lt (R_lt (R_lt (R_lt h)))
theorem R8_lt {s : Nat} (h : s < 4294967296) : R8 s < 4294967296 := R4_lt (R4_lt h)

theorem xor_div2 (a b : Nat) : (a ^^^ b) / 2 = (a / 2) ^^^ (b / 2) := by
  have h := Nat.shiftRight_xor_distrib (a := a) (b := b) (i := 1)
  simpa [Nat.shiftRight_eq_div_pow] using h
theorem xor_mod2 (a b : Nat) : (a ^^^ b) % 2 = (a % 2 + b % 2) % 2 := by
  have h := Nat.xor_mod_two_pow (a := a) (b := b) (n := 1)
  rw [Nat.pow_one] at h
  rw [h]
  rcases Nat.mod_two_eq_zero_or_one a with h1 | h1 <;> rcases Nat.mod_two_eq_zero_or_one b with h2 | h2 <;> rw [h1, h2] <;> decide
theorem xor_swap4 (a b c d : Nat) : (a ^^^ b) ^^^ (c ^^^ d) = (a ^^^ c) ^^^ (b ^^^ d) := by
  rw [Nat.xor_assoc, ← Nat.xor_assoc b c d, Nat.xor_comm b c, Nat.xor_assoc c b d, ← Nat.xor_assoc]
theorem R_xor (a b : Nat) : R (a ^^^ b) = R a ^^^ R b := by
  unfold R
  rw [xor_div2, xor_mod2, xor_swap4]
  congr 1
  rcases Nat.mod_two_eq_zero_or_one a with h1 | h1 <;> rcases Nat.mod_two_eq_zero_or_one b with h2 | h2 <;> rw [h1, h2] <;> decide
theorem R4_xor (a b : Nat) : R4 (a ^^^ b) = R4 a ^^^ R4 b := by unfold R4; simp only [R_xor]
theorem R8_xor (a b : Nat) : R8 (a ^^^ b) = R8 a ^^^ R8 b := by unfold R8; simp only [R4_xor]

theorem R_double (n : Nat) : R (2 * n) = n := by rw [R_even (by omega)]; omega
theorem R4_up (q : Nat) : R4 (16 * q) = q := by
  unfold R4
  rw [show 16 * q = 2 * (2 * (2 * (2 * q))) by omega, R_double, R_double, R_double, R_double]
theorem R4_low : ∀ r, r < 16 → R4 r = tab.getD r 0 := by decide
theorem split16 (s : Nat) : s = (16 * (s / 16)) ^^^ (s % 16) := by
  have h1 : 16 * (s / 16) + s % 16 = (16 * (s / 16)) ^^^ (s % 16) := by
    apply Nat.eq_of_testBit_eq
    intro i
    have := Nat.two_pow_add_eq_or_of_lt (i := 4) (b := s % 16) (Nat.mod_lt _ (by decide)) (s / 16)
    rw [show (16 : Nat) = 2 ^ 4 from rfl] at *
    rw [this]
    rw [Nat.testBit_or, Nat.testBit_xor]
    by_cases hi : i < 4
    · have : (2 ^ 4 * (s / 2 ^ 4)).testBit i = false := by
        rw [Nat.testBit_two_pow_mul]; simp; omega
      rw [this]; simp
    · have : (s % 2 ^ 4).testBit i = false := by rw [Nat.testBit_mod_two_pow]; simp [hi]
      rw [this]; simp
  omega
/-- The table answers four bits at once. -/
theorem step_eq (s : Nat) : stepN s = R4 s := by
  have h : R4 s = R4 ((16 * (s / 16)) ^^^ (s % 16)) := by rw [← split16]
  rw [h, R4_xor, R4_up, R4_low _ (Nat.mod_lt _ (by decide))]
  rfl
theorem step2_eq (s : Nat) : stepN (stepN s) = R8 s := by rw [step_eq, step_eq]; rfl

/-- The bytes' sum without its turned bits. -/
def crc (s : Nat) (l : List UInt8) : Nat := l.foldl (fun s b => R8 (s ^^^ b.toNat)) s
theorem crc_nil (s : Nat) : crc s [] = s := rfl
theorem crc_append (s : Nat) (a b : List UInt8) : crc s (a ++ b) = crc (crc s a) b := List.foldl_append ..
theorem crc_snoc (s : Nat) (a : List UInt8) (b : UInt8) : crc s (a ++ [b]) = R8 (crc s a ^^^ b.toNat) := by rw [crc_append]; rfl
theorem byte_lt {s : Nat} (h : s < 4294967296) (b : UInt8) : s ^^^ b.toNat < 4294967296 :=
  Nat.xor_lt_two_pow (n := 32) h (by have := b.toNat_lt; omega)
theorem crc_lt {s : Nat} (l : List UInt8) (h : s < 4294967296) : crc s l < 4294967296 := by
  induction l generalizing s with
  | nil => exact h
  | cons b t ih => exact ih (R8_lt (byte_lt h b))
/-- A sum, of what stands ahead and of bytes. -/
def sumN (s : Nat) (l : List UInt8) : Nat := 4294967295 - crc (4294967295 - s) l
theorem sum_lt (s : Nat) (l : List UInt8) : sumN s l < 4294967296 := by unfold sumN; omega
theorem sum_nil {s : Nat} (h : s < 4294967296) : sumN s [] = s := by unfold sumN; rw [crc_nil]; omega
theorem sum_append (s : Nat) (a b : List UInt8) : sumN (sumN s a) b = sumN s (a ++ b) := by
  unfold sumN
  have h := crc_lt (s := 4294967295 - s) a (by omega)
  rw [crc_append, show 4294967295 - (4294967295 - crc (4294967295 - s) a) = crc (4294967295 - s) a by omega]

/-! ### what is turned is seen -/
theorem R_zero {d : Nat} (hd : d < 4294967296) (h : R d = 0) : d = 0 := by
  by_cases ho : d % 2 = 1
  · rw [R_odd ho] at h
    have : d / 2 = 2197175160 := by
      have h2 : (d / 2) ^^^ 2197175160 ^^^ 2197175160 = 0 ^^^ 2197175160 := by rw [h]
      rw [Nat.xor_assoc, Nat.xor_self, Nat.xor_zero, Nat.zero_xor] at h2
      exact h2
    omega
  · rw [R_even ho] at h
    omega
theorem R4_zero {d : Nat} (hd : d < 4294967296) (h : R4 d = 0) : d = 0 :=
  R_zero hd (R_zero (R_lt hd) (R_zero (R_lt (R_lt hd)) (R_zero (R_lt (R_lt (R_lt hd))) h)))
theorem R8_zero {d : Nat} (hd : d < 4294967296) (h : R8 d = 0) : d = 0 := R4_zero hd (R4_zero (R4_lt hd) h)
theorem xor_zero_eq {a b : Nat} (h : a ^^^ b = 0) : a = b := by
  have h2 : a ^^^ b ^^^ b = 0 ^^^ b := by rw [h]
  rw [Nat.xor_assoc, Nat.xor_self, Nat.xor_zero, Nat.zero_xor] at h2
  exact h2
theorem R8_inj {a b : Nat} (ha : a < 4294967296) (hb : b < 4294967296) (h : R8 a = R8 b) : a = b := by
  refine xor_zero_eq (R8_zero (Nat.xor_lt_two_pow (n := 32) ha hb) ?_)
  rw [R8_xor, h, Nat.xor_self]
theorem xor_cancel {a b c : Nat} (h : a ^^^ c = b ^^^ c) : a = b := by
  have h2 : a ^^^ c ^^^ c = b ^^^ c ^^^ c := by rw [h]
  rw [Nat.xor_assoc, Nat.xor_assoc, Nat.xor_self, Nat.xor_zero, Nat.xor_zero] at h2
  exact h2
theorem crc_inj {a b : Nat} (l : List UInt8) (ha : a < 4294967296) (hb : b < 4294967296) (h : crc a l = crc b l) : a = b := by
  induction l generalizing a b with
  | nil => exact h
  | cons x t ih =>
    exact xor_cancel (R8_inj (byte_lt ha x) (byte_lt hb x) (ih (R8_lt (byte_lt ha x)) (R8_lt (byte_lt hb x)) h))

/-- One turned bit of a byte is seen far above what a byte behind it could hide. -/
theorem R8_bit : ∀ k, k < 8 → 256 ≤ R8 (2 ^ k) := by decide
theorem far_byte {c d : Nat} (x y : UInt8) {k : Nat} (hk : k < 8) (hd : d = c ^^^ 2 ^ k) : R8 c ^^^ x.toNat ≠ R8 d ^^^ y.toNat := by
  intro h
  have h1 : R8 d = R8 c ^^^ R8 (2 ^ k) := by rw [hd, R8_xor]
  rw [h1] at h
  have h2 : x.toNat = R8 (2 ^ k) ^^^ y.toNat := by
    have h3 : R8 c ^^^ (R8 c ^^^ x.toNat) = R8 c ^^^ (R8 c ^^^ R8 (2 ^ k) ^^^ y.toNat) := by rw [h]
    rw [Nat.xor_assoc (R8 c) (R8 (2 ^ k)) y.toNat, ← Nat.xor_assoc, Nat.xor_self, Nat.zero_xor, ← Nat.xor_assoc, Nat.xor_self, Nat.zero_xor] at h3
    exact h3
  have h4 : R8 (2 ^ k) = x.toNat ^^^ y.toNat := by
    rw [h2, Nat.xor_assoc, Nat.xor_self, Nat.xor_zero]
  have h5 : x.toNat ^^^ y.toNat < 2 ^ 8 := Nat.xor_lt_two_pow (by have := x.toNat_lt; omega) (by have := y.toNat_lt; omega)
  have := R8_bit k hk
  omega
theorem two_pow_pos' (k : Nat) : 2 ^ k ≠ 0 := by have := Nat.two_pow_pos k; omega

/-- One bit of one byte turned: the sum is another. -/
theorem sum_turned (s : Nat) (a t : List UInt8) (x x' : UInt8) {k : Nat} (_hk : k < 8) (hx : x'.toNat = x.toNat ^^^ 2 ^ k) : sumN s (a ++ x' :: t) ≠ sumN s (a ++ x :: t) := by
  intro h
  unfold sumN at h
  have hs : 4294967295 - s < 4294967296 := by omega
  have hA := crc_lt a hs
  have h1 := crc_lt (a ++ x' :: t) hs
  have h2 := crc_lt (a ++ x :: t) hs
  have h3 : crc (4294967295 - s) (a ++ x' :: t) = crc (4294967295 - s) (a ++ x :: t) := by omega
  rw [crc_append, crc_append] at h3
  have h4 := R8_inj (byte_lt hA x') (byte_lt hA x) (crc_inj t (R8_lt (byte_lt hA x')) (R8_lt (byte_lt hA x)) h3)
  rw [Nat.xor_comm, Nat.xor_comm (crc (4294967295 - s) a) x.toNat] at h4
  have h5 := xor_cancel h4
  rw [h5] at hx
  have h6 : x.toNat ^^^ x.toNat = x.toNat ^^^ (x.toNat ^^^ 2 ^ k) := by rw [← hx]
  rw [Nat.xor_self, ← Nat.xor_assoc, Nat.xor_self, Nat.zero_xor] at h6
  exact two_pow_pos' k h6.symm
/-- One bit of a byte, and whatever of the next: the sum is another. -/
theorem sum_turned2 (s : Nat) (a t : List UInt8) (x x' y y' : UInt8) {k : Nat} (hk : k < 8) (hx : x'.toNat = x.toNat ^^^ 2 ^ k) : sumN s (a ++ x' :: y' :: t) ≠ sumN s (a ++ x :: y :: t) := by
  intro h
  unfold sumN at h
  have hs : 4294967295 - s < 4294967296 := by omega
  have hA := crc_lt a hs
  have h1 := crc_lt (a ++ x' :: y' :: t) hs
  have h2 := crc_lt (a ++ x :: y :: t) hs
  have h3 : crc (4294967295 - s) (a ++ x' :: y' :: t) = crc (4294967295 - s) (a ++ x :: y :: t) := by omega
  rw [crc_append, crc_append] at h3
  have l1 := R8_lt (byte_lt hA x')
  have l2 := R8_lt (byte_lt hA x)
  have h4 := R8_inj (byte_lt l1 y') (byte_lt l2 y) (crc_inj t (R8_lt (byte_lt l1 y')) (R8_lt (byte_lt l2 y)) h3)
  exact far_byte y y' hk (by rw [hx, ← Nat.xor_assoc]) h4.symm

/-- The word that everybody asks. -/
theorem sum_word : sumN 0 [49, 50, 51, 52, 53, 54, 55, 56, 57] = 3808858755 := by decide +kernel
end Go.Proofs.Ytijpieaanlnibaa.Crc
/- Records as bytes, plainly: what each is, how one is read back; cut off, turned. No run of a program is in this file. -/
namespace Go.Proofs.Ytijpieaanlnibaa.Rcd
open Go.Lib Vbi Crc

/-- A record: offset, time, key, body, QoS, gone. -/
structure Rc where
  o : Int
  t : Int
  k : List UInt8
  b : List UInt8
  q : Int
  g : Bool
def zero : Rc := ⟨0, 0, [], [], 0, false⟩
/-- A record that may be. -/
def mayB (r : Rc) : Bool := decide (0 ≤ r.o ∧ r.o ≤ 1099511627775 ∧ 0 ≤ r.t ∧ r.t ≤ 1099511627776 ∧ r.k.length ≤ 1024 ∧ r.b.length ≤ 1024 ∧ 0 ≤ r.q ∧ r.q ≤ 2 ∧ (r.b = [] ∨ r.g = false))
theorem may_iff (r : Rc) : mayB r = true ↔ (0 ≤ r.o ∧ r.o ≤ 1099511627775 ∧ 0 ≤ r.t ∧ r.t ≤ 1099511627776 ∧ r.k.length ≤ 1024 ∧ r.b.length ≤ 1024 ∧ 0 ≤ r.q ∧ r.q ≤ 2 ∧ (r.b = [] ∨ r.g = false)) := decide_eq_true_iff

/-! ### numbers as so many bytes -/
def fx (w n : Nat) : List UInt8 := bytesOf (fixZ w n)
theorem fx_len (w n : Nat) : (fx w n).length = w := by unfold fx bytesOf; rw [List.length_map, fixZ_len]
theorem fx_succ (w n : Nat) : fx (w + 1) n = UInt8.ofNat (n / 256 ^ w % 256) :: fx w n := by
  unfold fx bytesOf
  show (((n / 256 ^ w % 256 : Nat) : Int) :: fixZ w n).map _ = _
  rw [List.map_cons, Int.toNat_natCast]
theorem fixGo_fx (w n m : Nat) : fixGo m (fx w n) = m * 256 ^ w + n % 256 ^ w := by
  induction w generalizing m with
  | zero => unfold fx bytesOf fixGo; simp [fixZ, Nat.mod_one]
  | succ w ih =>
    rw [fx_succ, fixGo_cons, ih, u8_ofNat (Nat.mod_lt _ (by decide)), Nat.mod_pow_succ, Nat.pow_succ, Nat.add_mul, Nat.mul_assoc, Nat.mul_comm 256 (256 ^ w), Nat.mul_comm (256 ^ w) (n / 256 ^ w % 256)]
    omega
theorem fixVal_fx {w n : Nat} (h : n < 256 ^ w) : fixVal (fx w n) = n := by
  unfold fixVal
  rw [fixGo_fx, Nat.mod_eq_of_lt h, Nat.zero_mul, Nat.zero_add]
theorem fixGo_lt (l : List UInt8) (m k : Nat) (h : m < 256 ^ k) : fixGo m l < 256 ^ (k + l.length) := by
  induction l generalizing m k with
  | nil => exact h
  | cons b t ih =>
    rw [fixGo_cons, List.length_cons, show k + (t.length + 1) = k + 1 + t.length by omega]
    refine ih _ _ ?_
    have := b.toNat_lt
    rw [Nat.pow_succ]
    omega
theorem fixVal_lt (l : List UInt8) (k : Nat) (h : l.length ≤ k) : fixVal l < 256 ^ k :=
  Nat.lt_of_lt_of_le (fixGo_lt l 0 0 (by decide)) (Nat.pow_le_pow_right (by decide) (by omega))
theorem take_fx (w n : Nat) (t : List UInt8) : (fx w n ++ t).take w = fx w n := by
  rw [List.take_append_of_le_length (by rw [fx_len]; exact Nat.le_refl _), List.take_of_length_le (by rw [fx_len]; exact Nat.le_refl _)]
theorem drop_fx (w n : Nat) (t : List UInt8) : (fx w n ++ t).drop w = t := by
  rw [List.drop_append_of_le_length (by rw [fx_len]; exact Nat.le_refl _), List.drop_of_length_le (by rw [fx_len]; exact Nat.le_refl _), List.nil_append]

/-! ### a record's bytes -/
def flagN (r : Rc) : Nat := r.q.toNat + if r.g then 4 else 0
def bodyL (r : Rc) : List UInt8 := fx 8 r.o.toNat ++ (fx 8 r.t.toNat ++ (UInt8.ofNat (flagN r) :: (fx 2 r.k.length ++ (r.k ++ r.b))))
/-- Length, sum, body. -/
def sealL (B : List UInt8) : List UInt8 := fx 2 B.length ++ (fx 4 (sumN 0 (fx 2 B.length ++ B)) ++ B)
def recL (r : Rc) : List UInt8 := sealL (bodyL r)
theorem body_len (r : Rc) : (bodyL r).length = 19 + r.k.length + r.b.length := by
  unfold bodyL
  simp only [List.length_append, fx_len, List.length_cons, List.length_nil]
  omega
theorem seal_len (B : List UInt8) : (sealL B).length = 6 + B.length := by
  unfold sealL
  simp only [List.length_append, fx_len]
  omega
theorem rec_len (r : Rc) : (recL r).length = 25 + r.k.length + r.b.length := by unfold recL; rw [seal_len, body_len]; omega
theorem flag_lt {r : Rc} (h : mayB r = true) : flagN r < 8 := by
  obtain ⟨_, _, _, _, _, _, h1, h2, _⟩ := (may_iff r).1 h
  unfold flagN
  split <;> omega

/-! ### a body read, part by part -/
/-- A number of eight bytes as an int. -/
def lng (l : List UInt8) : Int := IntKind.i64.wrap (fixVal (l.take 8) : Nat)
def p4 (r : Rc) (l : List UInt8) : Rc × Int := ({ r with b := l }, if mayB { r with b := l } then 0 else 1)
def p3 (r : Rc) (l : List UInt8) : Rc × Int :=
  if l.length < 2 then (zero, 7) else if 1024 < fixVal (l.take 2) then (zero, 2) else if l.length < 2 + fixVal (l.take 2) then (zero, 7)
  else p4 { r with k := (l.drop 2).take (fixVal (l.take 2)) } (l.drop (2 + fixVal (l.take 2)))
/-- QoS and gone, out of a byte. -/
def flagged (r : Rc) (f : Nat) : Rc := { r with g := decide (f / 4 % 2 = 1), q := ((f - 4 * (f / 4 % 2) : Nat) : Int) }
def p2 (r : Rc) : List UInt8 → Rc × Int
  | [] => (zero, 7)
  | f :: t => p3 (flagged r f.toNat) t
theorem p2_cons (r : Rc) (f : UInt8) (t : List UInt8) : p2 r (f :: t) = p3 (flagged r f.toNat) t := rfl
def p1 (r : Rc) (l : List UInt8) : Rc × Int := if l.length < 8 then (zero, 7) else p2 { r with t := lng l } (l.drop 8)
def p0 (r : Rc) (l : List UInt8) : Rc × Int := if l.length < 8 then (zero, 7) else p1 { r with o := lng l } (l.drop 8)
def parse (l : List UInt8) : Rc × Int := p0 zero l

theorem wrap_nat {n : Nat} (h : n < 9223372036854775808) : IntKind.i64.wrap (n : Int) = (n : Int) := by
  unfold IntKind.wrap
  simp [IntKind.bits, IntKind.signed]
  omega
theorem lng_fx {n : Nat} (t : List UInt8) (h : n < 9223372036854775808) : lng (fx 8 n ++ t) = (n : Int) := by
  unfold lng
  rw [take_fx, fixVal_fx (Nat.lt_trans h (by decide)), wrap_nat h]
theorem flags_back : ∀ q, q < 3 → ((decide ((q + 4) / 4 % 2 = 1) = true ∧ q + 4 - 4 * ((q + 4) / 4 % 2) = q) ∧ (decide (q / 4 % 2 = 1) = false ∧ q - 4 * (q / 4 % 2) = q)) := by decide
/-- What is written is read. -/
theorem parse_body {r : Rc} (h : mayB r = true) : parse (bodyL r) = (r, 0) := by
  obtain ⟨o, t, k, b, q, g⟩ := r
  obtain ⟨h1, h2, h3, h4, h5, h6, h7, h8, h9⟩ := (may_iff _).1 h
  simp only at h1 h2 h3 h4 h5 h6 h7 h8 h9
  have hf := flag_lt h
  obtain ⟨o, rfl⟩ := Int.eq_ofNat_of_zero_le h1
  obtain ⟨t, rfl⟩ := Int.eq_ofNat_of_zero_le h3
  obtain ⟨q, rfl⟩ := Int.eq_ofNat_of_zero_le h7
  unfold parse p0 bodyL
  rw [if_neg (by simp only [List.length_append, fx_len]; omega)]
  simp only [Int.toNat_natCast] at hf ⊢
  rw [lng_fx _ (by omega), drop_fx]
  unfold p1
  rw [if_neg (by simp only [List.length_append, fx_len]; omega), lng_fx _ (by omega), drop_fx, p2_cons]
  unfold p3
  rw [if_neg (by simp only [List.length_append, fx_len]; omega), take_fx, fixVal_fx (by omega), if_neg (by omega), if_neg (by simp only [List.length_append, fx_len]; omega), drop_fx, ← List.drop_drop, drop_fx,
    List.take_append_of_le_length (Nat.le_refl _), List.take_length, List.drop_append_of_le_length (Nat.le_refl _), List.drop_length, List.nil_append]
  rw [u8_ofNat (by omega)]
  have hq : q < 3 := by omega
  obtain ⟨⟨a1, a2⟩, a3, a4⟩ := flags_back q hq
  unfold p4 flagged flagN
  cases g with
  | true =>
    simp only [Int.toNat_natCast, if_true, a1, a2]
    rw [if_pos h]
  | false =>
    simp only [Int.toNat_natCast, if_false, Nat.add_zero, a3, a4, Bool.false_eq_true]
    rw [if_pos h]

theorem getD_right (a b : List UInt8) (n : Nat) (h : a.length ≤ n) : (a ++ b).getD n 0 = b.getD (n - a.length) 0 := by
  rw [List.getD_eq_getElem?_getD, List.getD_eq_getElem?_getD, List.getElem?_append_right h]
theorem getD_left (a b : List UInt8) (n : Nat) (h : n < a.length) : (a ++ b).getD n 0 = a.getD n 0 := by
  rw [List.getD_eq_getElem?_getD, List.getD_eq_getElem?_getD, List.getElem?_append_left h]
/-! ### a record taken -/
def takeR (l : List UInt8) : Rc × Nat × Int :=
  if l.length < 6 then (zero, 0, 7) else if l.length < 6 + fixVal (l.take 2) then (zero, 0, 7)
  else if fixVal ((l.drop 2).take 4) = sumN 0 (l.take 2 ++ (l.drop 6).take (fixVal (l.take 2))) then
    if (parse ((l.drop 6).take (fixVal (l.take 2)))).2 = 0 then ((parse ((l.drop 6).take (fixVal (l.take 2)))).1, 6 + fixVal (l.take 2), 0) else (zero, 0, 8)
  else (zero, 0, 8)
/-- Whatever is sealed, with something behind it. -/
theorem take_sealed (B t : List UInt8) (h : B.length < 65536) : takeR (sealL B ++ t) = if (parse B).2 = 0 then ((parse B).1, 6 + B.length, 0) else (zero, 0, 8) := by
  obtain ⟨n, hn⟩ : ∃ n, n = B.length := ⟨_, rfl⟩
  obtain ⟨s, hs⟩ : ∃ s, s = sumN 0 (fx 2 n ++ B) := ⟨_, rfl⟩
  have hs32 : s < 4294967296 := by rw [hs]; exact sum_lt _ _
  have e0 : sealL B ++ t = fx 2 n ++ (fx 4 s ++ (B ++ t)) := by rw [hs, hn]; unfold sealL; simp
  have e1 : (sealL B ++ t).take 2 = fx 2 n := by rw [e0, take_fx]
  have e2 : ((sealL B ++ t).drop 2).take 4 = fx 4 s := by rw [e0, drop_fx, take_fx]
  have e3 : (sealL B ++ t).drop 6 = B ++ t := by rw [show 6 = 2 + 4 from rfl, ← List.drop_drop, e0, drop_fx, drop_fx]
  have e4 : (B ++ t).take n = B := by rw [hn, List.take_append_of_le_length (Nat.le_refl _), List.take_length]
  have e5 : (sealL B ++ t).length = 6 + n + t.length := by rw [List.length_append, seal_len, hn]
  unfold takeR
  rw [e1, e2, e3, fixVal_fx (show n < 256 ^ 2 by omega), fixVal_fx (show s < 256 ^ 4 by omega), e4, e5, if_neg (by omega), if_neg (by omega), if_pos hs, ← hn]
theorem take_rec {r : Rc} (t : List UInt8) (h : mayB r = true) : takeR (recL r ++ t) = (r, (recL r).length, 0) := by
  obtain ⟨_, _, _, _, h5, h6, _⟩ := (may_iff _).1 h
  unfold recL
  rw [take_sealed _ _ (by rw [body_len]; omega), parse_body h, if_pos rfl, seal_len]
/-- Cut off anywhere it is cut off. -/
theorem take_cut {r : Rc} (h : mayB r = true) (j : Nat) (hj : j < (recL r).length) : takeR ((recL r).take j) = (zero, 0, 7) := by
  obtain ⟨_, _, _, _, h5, h6, _⟩ := (may_iff _).1 h
  have hl := rec_len r
  have hl2 : ((recL r).take j).length = j := by rw [List.length_take]; omega
  unfold takeR
  by_cases hs : j < 6
  · rw [if_pos (by omega)]
  · have e : ((recL r).take j).take 2 = fx 2 (bodyL r).length := by
      rw [List.take_take, Nat.min_eq_left (by omega)]
      unfold recL sealL
      rw [take_fx]
    have hb := body_len r
    rw [if_neg (by omega), e, fixVal_fx (by omega), if_pos (by omega)]
/-- A record that is not: its error. -/
theorem take_err (l : List UInt8) : (takeR l).2.2 = 0 ∨ (takeR l = (zero, 0, 7) ∨ takeR l = (zero, 0, 8)) := by
  unfold takeR
  split
  · exact .inr (.inl rfl)
  split
  · exact .inr (.inl rfl)
  split
  · split
    · exact .inl rfl
    · exact .inr (.inr rfl)
  · exact .inr (.inr rfl)
theorem take_size {l : List UInt8} (h : (takeR l).2.2 = 0) : 6 ≤ (takeR l).2.1 ∧ (takeR l).2.1 ≤ l.length := by
  unfold takeR at h ⊢
  by_cases c1 : l.length < 6
  · rw [if_pos c1] at h; cases h
  · rw [if_neg c1] at h ⊢
    by_cases c2 : l.length < 6 + fixVal (l.take 2)
    · rw [if_pos c2] at h; cases h
    · rw [if_neg c2] at h ⊢
      split at h
      · next c3 =>
        rw [if_pos c3]
        split at h
        · next c4 => rw [if_pos c4]; exact ⟨Nat.le_add_right _ _, by show 6 + _ ≤ _; omega⟩
        · cases h
      · cases h
/-- One bit turned behind the length: the record is not itself any more. -/
theorem take_turned {r : Rc} (h : mayB r = true) (l : List UInt8) (a k : Nat) (x x' : UInt8) (h2 : 2 ≤ a) (ha : a < (recL r).length) (hx : (recL r).getD a 0 = x) (hl : l = (recL r).set a x') (hk : k < 8) (hv : x'.toNat = x.toNat ^^^ 2 ^ k) : takeR l = (zero, 0, 8) := by
  obtain ⟨_, _, _, _, h5, h6, _⟩ := (may_iff _).1 h
  have hb := body_len r
  have hr := rec_len r
  obtain ⟨B, hB⟩ : ∃ B, B = bodyL r := ⟨_, rfl⟩
  obtain ⟨n, hn⟩ : ∃ n, n = B.length := ⟨_, rfl⟩
  obtain ⟨s, hs⟩ : ∃ s, s = sumN 0 (fx 2 n ++ B) := ⟨_, rfl⟩
  have hs32 : s < 4294967296 := by rw [hs]; exact sum_lt _ _
  have e0 : recL r = fx 2 n ++ (fx 4 s ++ B) := by rw [hs, hn, hB]; rfl
  rw [← hB] at hb
  have hne : x' ≠ x := by
    intro e
    rw [e] at hv
    have h6 : x.toNat ^^^ x.toNat = x.toNat ^^^ (x.toNat ^^^ 2 ^ k) := by rw [← hv]
    rw [Nat.xor_self, ← Nat.xor_assoc, Nat.xor_self, Nat.zero_xor] at h6
    exact two_pow_pos' k h6.symm
  have hset2 : l.take 2 = fx 2 n := by
    rw [hl, List.take_set_of_le h2, e0, take_fx]
  have hlen : l.length = 6 + n := by rw [hl, List.length_set, hr]; omega
  have hd : l.drop 2 = (fx 4 s ++ B).set (a - 2) x' := by
    rw [hl, e0, List.set_append_right _ _ (by rw [fx_len]; exact h2), fx_len, drop_fx]
  have hgd : (fx 4 s ++ B).getD (a - 2) 0 = x := by
    have := getD_right (fx 2 n) (fx 4 s ++ B) a (by rw [fx_len]; exact h2)
    rw [fx_len, ← e0, hx] at this
    exact this.symm
  have hd6 : l.drop 6 = ((fx 4 s ++ B).set (a - 2) x').drop 4 := by rw [← hd, List.drop_drop]
  have hall : (l.drop 6).take n = l.drop 6 := List.take_of_length_le (by rw [List.length_drop]; omega)
  unfold takeR
  rw [hset2, fixVal_fx (show n < 256 ^ 2 by omega), if_neg (by omega), if_neg (by omega), hall, hd, hd6, if_neg ?_]
  by_cases hin : a < 6
  · have e1 : (fx 4 s ++ B).set (a - 2) x' = (fx 4 s).set (a - 2) x' ++ B := by rw [List.set_append_left _ _ (by rw [fx_len]; omega)]
    have hl4 : ((fx 4 s).set (a - 2) x').length = 4 := by rw [List.length_set, fx_len]
    have e2 : ((fx 4 s).set (a - 2) x' ++ B).take 4 = (fx 4 s).set (a - 2) x' := by
      rw [List.take_append_of_le_length (by omega), List.take_of_length_le (by omega)]
    have e3 : ((fx 4 s).set (a - 2) x' ++ B).drop 4 = B := by
      rw [List.drop_append_of_le_length (by omega), List.drop_of_length_le (by omega), List.nil_append]
    rw [e1, e2, e3, ← hs]
    intro he
    have hgx : (fx 4 s).getD (a - 2) 0 = x := by rw [← hgd, getD_left _ _ _ (by rw [fx_len]; omega)]
    have key : fixVal ((fx 4 s).set (a - 2) x') = fixVal (fx 4 s) := by rw [he, fixVal_fx (show s < 256 ^ 4 by omega)]
    have hfour : ∃ c0 c1 c2 c3, fx 4 s = [c0, c1, c2, c3] := ⟨_, _, _, _, rfl⟩
    obtain ⟨c0, c1, c2, c3, hc⟩ := hfour
    rw [hc] at key hgx
    have b0 := c0.toNat_lt
    have b1 := c1.toNat_lt
    have b2 := c2.toNat_lt
    have b3 := c3.toNat_lt
    have bx := x'.toNat_lt
    rcases (by omega : a - 2 = 0 ∨ a - 2 = 1 ∨ a - 2 = 2 ∨ a - 2 = 3) with e | e | e | e <;> rw [e] at key hgx
    · have hz : c0 = x := hgx
      have : (((0 * 256 + x'.toNat) * 256 + c1.toNat) * 256 + c2.toNat) * 256 + c3.toNat = (((0 * 256 + c0.toNat) * 256 + c1.toNat) * 256 + c2.toNat) * 256 + c3.toNat := key
      exact hne (UInt8.toNat_inj.1 (by rw [← hz]; omega))
    · have hz : c1 = x := hgx
      have : (((0 * 256 + c0.toNat) * 256 + x'.toNat) * 256 + c2.toNat) * 256 + c3.toNat = (((0 * 256 + c0.toNat) * 256 + c1.toNat) * 256 + c2.toNat) * 256 + c3.toNat := key
      exact hne (UInt8.toNat_inj.1 (by rw [← hz]; omega))
    · have hz : c2 = x := hgx
      have : (((0 * 256 + c0.toNat) * 256 + c1.toNat) * 256 + x'.toNat) * 256 + c3.toNat = (((0 * 256 + c0.toNat) * 256 + c1.toNat) * 256 + c2.toNat) * 256 + c3.toNat := key
      exact hne (UInt8.toNat_inj.1 (by rw [← hz]; omega))
    · have hz : c3 = x := hgx
      have : (((0 * 256 + c0.toNat) * 256 + c1.toNat) * 256 + c2.toNat) * 256 + x'.toNat = (((0 * 256 + c0.toNat) * 256 + c1.toNat) * 256 + c2.toNat) * 256 + c3.toNat := key
      exact hne (UInt8.toNat_inj.1 (by rw [← hz]; omega))
  · have e1 : (fx 4 s ++ B).set (a - 2) x' = fx 4 s ++ B.set (a - 6) x' := by
      rw [List.set_append_right _ _ (by rw [fx_len]; omega), fx_len, show a - 2 - 4 = a - 6 by omega]
    rw [e1, take_fx, drop_fx, fixVal_fx (show s < 256 ^ 4 by omega), hs]
    have haB : a - 6 < B.length := by omega
    have hgB : B.getD (a - 6) 0 = x := by
      rw [← hgd, getD_right _ _ _ (by rw [fx_len]; omega), fx_len, show a - 2 - 4 = a - 6 by omega]
    have e2 : B[a - 6] = x := by rw [← hgB, List.getD_eq_getElem?_getD, List.getElem?_eq_getElem haB]; rfl
    have e3 : B = B.take (a - 6) ++ x :: B.drop (a - 6 + 1) := by rw [← e2]; simp
    have e4 : B.set (a - 6) x' = B.take (a - 6) ++ x' :: B.drop (a - 6 + 1) := List.set_eq_take_append_cons_drop.trans (by rw [if_pos haB])
    have := sum_turned 0 (fx 2 n ++ B.take (a - 6)) (B.drop (a - 6 + 1)) x x' hk hv
    rw [List.append_assoc, List.append_assoc, ← e4, ← e3] at this
    exact fun he => this he.symm

/-! ### records one behind the other -/
def scanF : Nat → List UInt8 → List Rc × Nat × Bool
  | 0, _ => ([], 0, true)
  | f + 1, l => if l.length = 0 then ([], 0, true) else if (takeR l).2.2 = 0 then
      ((takeR l).1 :: (scanF f (l.drop (takeR l).2.1)).1, (takeR l).2.1 + (scanF f (l.drop (takeR l).2.1)).2.1, (scanF f (l.drop (takeR l).2.1)).2.2)
    else ([], 0, false)
def scan (l : List UInt8) : List Rc × Nat × Bool := scanF l.length l
theorem scanF_same (a : Nat) : ∀ (b : Nat) (y : List UInt8), y.length ≤ a → y.length ≤ b → scanF a y = scanF b y := by
  induction a with
  | zero =>
    intro b y ha _
    obtain rfl : y = [] := List.eq_nil_of_length_eq_zero (by omega)
    cases b <;> rfl
  | succ a iha =>
    intro b y ha hb
    cases b with
    | zero =>
      obtain rfl : y = [] := List.eq_nil_of_length_eq_zero (by omega)
      rfl
    | succ b =>
      show (if y.length = 0 then _ else _) = (if y.length = 0 then _ else _)
      by_cases y0 : y.length = 0
      · rw [if_pos y0, if_pos y0]
      · rw [if_neg y0, if_neg y0]
        by_cases ye : (takeR y).2.2 = 0
        · have yz := take_size ye
          rw [if_pos ye, if_pos ye, iha b _ (by rw [List.length_drop]; omega) (by rw [List.length_drop]; omega)]
        · rw [if_neg ye, if_neg ye]
theorem scan_nil : scan [] = ([], 0, true) := rfl
theorem scan_stop {l : List UInt8} (h0 : 0 < l.length) (h : ¬ (takeR l).2.2 = 0) : scan l = ([], 0, false) := by
  unfold scan
  obtain ⟨m, hm⟩ : ∃ m, l.length = m + 1 := ⟨l.length - 1, by omega⟩
  rw [hm]
  show (if l.length = 0 then _ else if _ then _ else _) = _
  rw [if_neg (by omega), if_neg h]
theorem scan_next {l t : List UInt8} {r : Rc} {n : Nat} (h : takeR l = (r, n, 0)) (ht : l.drop n = t) : scan l = (r :: (scan t).1, n + (scan t).2.1, (scan t).2.2) := by
  have hz := take_size (l := l) (by rw [h])
  rw [h] at hz
  simp only at hz
  unfold scan
  obtain ⟨m, hm⟩ : ∃ m, l.length = m + 1 := ⟨l.length - 1, by omega⟩
  have hl : t.length = l.length - n := by rw [← ht, List.length_drop]
  rw [hm]
  show (if l.length = 0 then _ else if _ then _ else _) = _
  rw [if_neg (by omega), h, if_pos rfl]
  simp only
  rw [ht, scanF_same m t.length t (by omega) (Nat.le_refl _)]
/-- Of so many bytes of records, one behind the other: how many are whole. -/
def wholeN : List Rc → Nat → Nat
  | [], _ => 0
  | r :: rs, n => if (recL r).length ≤ n then wholeN rs (n - (recL r).length) + 1 else 0
theorem whole_yes {r : Rc} {rs : List Rc} {n : Nat} (h : (recL r).length ≤ n) : wholeN (r :: rs) n = wholeN rs (n - (recL r).length) + 1 := by rw [wholeN, if_pos h]
theorem whole_no {r : Rc} {rs : List Rc} {n : Nat} (h : ¬ (recL r).length ≤ n) : wholeN (r :: rs) n = 0 := by rw [wholeN, if_neg h]
def allL (rs : List Rc) : List UInt8 := rs.flatMap recL
theorem all_cons (r : Rc) (rs : List Rc) : allL (r :: rs) = recL r ++ allL rs := by unfold allL; rw [List.flatMap_cons]
theorem all_snoc (rs : List Rc) (r : Rc) : allL (rs ++ [r]) = allL rs ++ recL r := by unfold allL; rw [List.flatMap_append]; simp
theorem whole_le (rs : List Rc) (n : Nat) : wholeN rs n ≤ rs.length := by
  induction rs generalizing n with
  | nil => exact Nat.le_refl _
  | cons r rs ih =>
    by_cases c : (recL r).length ≤ n
    · rw [whole_yes c, List.length_cons]
      have := ih (n - (recL r).length); omega
    · rw [whole_no c]; omega
theorem whole_end (rs : List Rc) (n : Nat) : (allL (rs.take (wholeN rs n))).length ≤ n := by
  induction rs generalizing n with
  | nil => exact Nat.zero_le _
  | cons r rs ih =>
    by_cases c : (recL r).length ≤ n
    · rw [whole_yes c, List.take_succ_cons, all_cons, List.length_append]
      have := ih (n - (recL r).length); omega
    · rw [whole_no c]; exact Nat.zero_le _
/-- One more would not be whole. -/
theorem whole_next (rs : List Rc) (n : Nat) (h : wholeN rs n < rs.length) : n < (allL (rs.take (wholeN rs n + 1))).length := by
  induction rs generalizing n with
  | nil => cases h
  | cons r rs ih =>
    by_cases c : (recL r).length ≤ n
    · have e := whole_yes (rs := rs) c
      rw [e] at h ⊢
      rw [List.take_succ_cons, all_cons, List.length_append]
      have := ih (n - (recL r).length) (by simpa using h)
      omega
    · have e := whole_no (rs := rs) c
      rw [e, List.take_succ_cons, all_cons, List.length_append]
      omega
/-- Cut off anywhere those that are whole are told. -/
theorem scan_cut (rs : List Rc) (hm : ∀ r ∈ rs, mayB r = true) (n : Nat) (hn : n ≤ (allL rs).length) :
    scan ((allL rs).take n) = (rs.take (wholeN rs n), (allL (rs.take (wholeN rs n))).length, decide ((allL (rs.take (wholeN rs n))).length = n)) := by
  induction rs generalizing n with
  | nil =>
    obtain rfl : n = 0 := Nat.le_zero.1 hn
    rfl
  | cons r rs ih =>
    have hr := hm r (List.mem_cons_self ..)
    rw [all_cons, List.length_append] at hn
    have hpos : 25 ≤ (recL r).length := by rw [rec_len]; omega
    by_cases c : (recL r).length ≤ n
    · have e := whole_yes (rs := rs) c
      have e1 : (allL (r :: rs)).take n = recL r ++ (allL rs).take (n - (recL r).length) := by
        rw [all_cons, List.take_append, List.take_of_length_le c]
      rw [e, e1, scan_next (take_rec _ hr) (by rw [List.drop_append_of_le_length (Nat.le_refl _), List.drop_length, List.nil_append]), ih (fun x hx => hm x (List.mem_cons_of_mem _ hx)) _ (by omega), List.take_succ_cons, all_cons, List.length_append]
      simp only
      congr 2
      exact decide_eq_decide.2 (by omega)
    · have e := whole_no (rs := rs) c
      have e1 : (allL (r :: rs)).take n = (recL r).take n := by
        rw [all_cons, List.take_append_of_le_length (by omega)]
      rw [e, e1, List.take_zero]
      by_cases h0 : n = 0
      · subst h0; rfl
      · rw [scan_stop (by rw [List.length_take]; omega) (by rw [take_cut hr n (by omega)]; decide)]
        show ([], 0, false) = ([], 0, decide (0 = n))
        rw [decide_eq_false (by omega)]
end Go.Proofs.Ytijpieaanlnibaa.Rcd
/- Segments, plainly: which may be; what is parsed; the first record that is far enough. No run of a program is in this file. -/
namespace Go.Proofs.Ytijpieaanlnibaa.Rcd
open Go.Lib Vbi Crc

/-- May r stand behind a? -/
def pairB (a r : Rc) : Bool := decide (a.o < r.o ∧ a.t ≤ r.t)
/-- May r stand where the records rs of a segment from b on are ahead of it? -/
def nextB (b : Int) (rs : List Rc) (r : Rc) : Bool := match rs.getLast? with
  | none => decide (b ≤ r.o)
  | some a => pairB a r
/-- The same, of a record that may be, where there is room. -/
def followB (b : Int) (rs : List Rc) (r : Rc) : Bool := decide (rs.length < 200) && (mayB r && nextB b rs r)
def baseB (b : Int) : Bool := decide (0 ≤ b ∧ b ≤ 1099511627776)
/-- A segment that may be. -/
def segB (b : Int) (rs : List Rc) : Bool := baseB b && (List.range rs.length).all (fun i => followB b (rs.take i) (rs.getD i zero))
theorem follow_iff {b : Int} {rs : List Rc} {r : Rc} : followB b rs r = true ↔ rs.length < 200 ∧ mayB r = true ∧ nextB b rs r = true := by
  unfold followB
  rw [Bool.and_eq_true, Bool.and_eq_true, decide_eq_true_iff]
theorem pair_iff {a r : Rc} : pairB a r = true ↔ a.o < r.o ∧ a.t ≤ r.t := decide_eq_true_iff
theorem next_nil (b : Int) (r : Rc) : nextB b [] r = decide (b ≤ r.o) := rfl
theorem next_last {b : Int} {rs : List Rc} {a r : Rc} (h : rs.getLast? = some a) : nextB b rs r = pairB a r := by unfold nextB; rw [h]
theorem last_take {rs : List Rc} {i : Nat} (h : i < rs.length) : (rs.take (i + 1)).getLast? = some rs[i] := by
  rw [List.take_succ_eq_append_getElem h, List.getLast?_append]; rfl
theorem last_all {rs : List Rc} {n : Nat} (h : n + 1 = rs.length) : rs.getLast? = some (rs[n]'(by omega)) := by
  have := last_take (rs := rs) (i := n) (by omega)
  rwa [List.take_of_length_le (by omega)] at this
theorem seg_iff {b : Int} {rs : List Rc} : segB b rs = true ↔ baseB b = true ∧ ∀ i (h : i < rs.length), followB b (rs.take i) rs[i] = true := by
  unfold segB
  rw [Bool.and_eq_true, List.all_eq_true]
  refine and_congr Iff.rfl ⟨fun h i hi => ?_, fun h i hi => ?_⟩
  · have := h i (List.mem_range.2 hi)
    rwa [List.getD_eq_getElem?_getD, List.getElem?_eq_getElem hi, Option.getD_some] at this
  · have hi' := List.mem_range.1 hi
    rw [List.getD_eq_getElem?_getD, List.getElem?_eq_getElem hi', Option.getD_some]
    exact h i hi'
theorem seg_base {b : Int} {rs : List Rc} (h : segB b rs = true) : baseB b = true := (seg_iff.1 h).1
theorem seg_nil (b : Int) : segB b [] = baseB b := by unfold segB; simp
theorem seg_take {b : Int} {rs : List Rc} (h : segB b rs = true) (k : Nat) : segB b (rs.take k) = true := by
  rw [seg_iff] at h ⊢
  refine ⟨h.1, fun i hi => ?_⟩
  have hi2 := hi
  rw [List.length_take] at hi2
  have := h.2 i (by omega)
  rw [List.getElem_take, List.take_take, Nat.min_eq_left (by omega)]
  exact this
theorem seg_snoc (b : Int) (rs : List Rc) (r : Rc) : segB b (rs ++ [r]) = (segB b rs && followB b rs r) := by
  rw [Bool.eq_iff_iff, Bool.and_eq_true, seg_iff, seg_iff]
  constructor
  · rintro ⟨h1, h2⟩
    refine ⟨⟨h1, fun i hi => ?_⟩, ?_⟩
    · have := h2 i (by rw [List.length_append]; omega)
      rwa [List.getElem_append_left hi, List.take_append_of_le_length (by omega)] at this
    · have := h2 rs.length (by rw [List.length_append]; simp)
      rw [List.getElem_append_right (Nat.le_refl _), List.take_append_of_le_length (Nat.le_refl _), List.take_length] at this
      simpa using this
  · rintro ⟨⟨h1, h2⟩, h3⟩
    refine ⟨h1, fun i hi => ?_⟩
    rw [List.length_append, List.length_cons, List.length_nil] at hi
    by_cases c : i < rs.length
    · rw [List.getElem_append_left c, List.take_append_of_le_length (by omega)]
      exact h2 i c
    · obtain rfl : i = rs.length := by omega
      rw [List.getElem_append_right (Nat.le_refl _), List.take_append_of_le_length (Nat.le_refl _), List.take_length]
      simpa using h3
theorem seg_may {b : Int} {rs : List Rc} (h : segB b rs = true) : ∀ r ∈ rs, mayB r = true := by
  intro r hr
  obtain ⟨i, hi, rfl⟩ := List.mem_iff_getElem.1 hr
  exact (follow_iff.1 ((seg_iff.1 h).2 i hi)).2.1
theorem seg_len {b : Int} {rs : List Rc} (h : segB b rs = true) : rs.length ≤ 200 := by
  rcases Nat.lt_or_ge 200 rs.length with c | c
  · have := (follow_iff.1 ((seg_iff.1 h).2 200 c)).1
    rw [List.length_take] at this
    omega
  · exact c
/-- What the document asks of the record at i. -/
def docAt (b : Int) (rs : List Rc) (i : Nat) : Prop := ∀ h : i < rs.length, mayB rs[i] = true ∧ b ≤ rs[i].o ∧ (0 < i → pairB (rs[i - 1]'(by omega)) rs[i] = true)
theorem next_at {b : Int} {rs : List Rc} {i : Nat} (h : i < rs.length) : nextB b (rs.take i) rs[i] = if _h0 : 0 < i then pairB (rs[i - 1]'(by omega)) rs[i] else decide (b ≤ rs[i].o) := by
  cases i with
  | zero => rfl
  | succ j => rw [next_last (last_take (by omega))]; rfl
theorem seg_doc {b : Int} {rs : List Rc} : segB b rs = true ↔ (baseB b = true ∧ rs.length ≤ 200) ∧ ∀ i, i < rs.length → docAt b rs i := by
  constructor
  · intro hs
    refine ⟨⟨seg_base hs, seg_len hs⟩, fun i _ => ?_⟩
    have hf := (seg_iff.1 hs).2
    have key : ∀ j (h : j < rs.length), b ≤ rs[j].o := by
      intro j
      induction j with
      | zero =>
        intro h
        have := (follow_iff.1 (hf 0 h)).2.2
        rw [next_at h, dif_neg (by omega), decide_eq_true_iff] at this
        exact this
      | succ j ih =>
        intro h
        have := (follow_iff.1 (hf (j + 1) h)).2.2
        rw [next_at h, dif_pos (by omega), pair_iff] at this
        have h2 := ih (by omega)
        have h3 := this.1
        simp only [Nat.add_sub_cancel] at h3
        omega
    intro h
    have h1 := follow_iff.1 (hf i h)
    refine ⟨h1.2.1, key i h, fun h0 => ?_⟩
    have := h1.2.2
    rwa [next_at h, dif_pos h0] at this
  · rintro ⟨⟨h1, h2⟩, h3⟩
    rw [seg_iff]
    refine ⟨h1, fun i hi => follow_iff.2 ⟨?_, ?_, ?_⟩⟩
    · rw [List.length_take]; omega
    · exact (h3 i hi hi).1
    · rw [next_at hi]
      by_cases h0 : 0 < i
      · rw [dif_pos h0]; exact (h3 i hi hi).2.2 h0
      · rw [dif_neg h0]; exact decide_eq_true (h3 i hi hi).2.1

/-! ### what is parsed -/
/-- The records that may stand behind rs, out of those of L, up to the first one that may not. -/
def goP (b : Int) : List Rc → List Rc → List Rc
  | rs, [] => rs
  | rs, r :: L => if followB b rs r then goP b (rs ++ [r]) L else rs
def parseS (b : Int) (l : List UInt8) : List Rc := goP b [] (scan l).1
theorem goP_nil (b : Int) (rs : List Rc) : goP b rs [] = rs := rfl
theorem goP_yes {b : Int} {rs L : List Rc} {r : Rc} (h : followB b rs r = true) : goP b rs (r :: L) = goP b (rs ++ [r]) L := by rw [goP, if_pos h]
theorem goP_no {b : Int} {rs L : List Rc} {r : Rc} (h : followB b rs r = false) : goP b rs (r :: L) = rs := by rw [goP, if_neg (by rw [h]; decide)]
theorem goP_all {b : Int} (L : List Rc) : ∀ rs, segB b (rs ++ L) = true → goP b rs L = rs ++ L := by
  induction L with
  | nil => intro rs _; rw [goP_nil, List.append_nil]
  | cons r L ih =>
    intro rs h
    have h2 : segB b (rs ++ [r]) = true := by
      have := seg_take h (rs.length + 1)
      rwa [List.take_append, List.take_of_length_le (by omega), show rs.length + 1 - rs.length = 1 by omega, List.take_succ_cons, List.take_zero] at this
    rw [seg_snoc, Bool.and_eq_true] at h2
    rw [goP_yes h2.2, ih (rs ++ [r]) (by rw [List.append_assoc]; exact h), List.append_assoc]
    rfl
theorem goP_seg {b : Int} (L : List Rc) : ∀ rs, segB b rs = true → segB b (goP b rs L) = true := by
  induction L with
  | nil => intro rs h; exact h
  | cons r L ih =>
    intro rs h
    by_cases c : followB b rs r = true
    · rw [goP_yes c]; exact ih _ (by rw [seg_snoc, h, c]; rfl)
    · rw [goP_no (by simpa using c)]; exact h
theorem parse_seg {b : Int} (l : List UInt8) (h : baseB b = true) : segB b (parseS b l) = true := goP_seg _ _ (by rw [seg_nil]; exact h)
/-- A record has just the bytes that are taken. -/
theorem parse_len {B : List UInt8} (h : (parse B).2 = 0) : B.length = 19 + (parse B).1.k.length + (parse B).1.b.length := by
  unfold parse p0 at h ⊢
  by_cases c1 : B.length < 8
  · rw [if_pos c1] at h; cases h
  · rw [if_neg c1] at h ⊢
    unfold p1 at h ⊢
    by_cases c2 : (B.drop 8).length < 8
    · rw [if_pos c2] at h; cases h
    · rw [if_neg c2] at h ⊢
      rw [List.length_drop] at c2
      rcases hd : (B.drop 8).drop 8 with _ | ⟨f, t⟩
      · rw [hd] at h; cases h
      · have hl := congrArg List.length hd
        rw [List.length_drop, List.length_drop, List.length_cons] at hl
        rw [hd] at h
        rw [p2_cons] at h ⊢
        unfold p3 at h ⊢
        by_cases c3 : t.length < 2
        · rw [if_pos c3] at h; cases h
        · rw [if_neg c3] at h ⊢
          by_cases c4 : 1024 < fixVal (t.take 2)
          · rw [if_pos c4] at h; cases h
          · rw [if_neg c4] at h ⊢
            by_cases c5 : t.length < 2 + fixVal (t.take 2)
            · rw [if_pos c5] at h; cases h
            · rw [if_neg c5]
              unfold p4
              simp only [List.length_take, List.length_drop]
              omega
theorem take_len {l : List UInt8} {r : Rc} {n : Nat} (h : takeR l = (r, n, 0)) : n = (recL r).length := by
  unfold takeR at h
  by_cases c1 : l.length < 6
  · rw [if_pos c1] at h; injection h with _ h; injection h with _ h; cases h
  · rw [if_neg c1] at h
    by_cases c2 : l.length < 6 + fixVal (l.take 2)
    · rw [if_pos c2] at h; injection h with _ h; injection h with _ h; cases h
    · rw [if_neg c2] at h
      split at h
      · split at h
        · next c4 =>
          have hl := parse_len c4
          injection h with h1 h2
          injection h2 with h2 _
          rw [h1, List.length_take, List.length_drop, Nat.min_eq_left (by omega)] at hl
          rw [rec_len]
          omega
        · injection h with _ h; injection h with _ h; cases h
      · injection h with _ h; injection h with _ h; cases h
theorem take_may {l : List UInt8} {r : Rc} {n : Nat} (h : takeR l = (r, n, 0)) : n ≤ l.length ∧ 25 ≤ n := by
  have h1 := take_size (l := l) (by rw [h])
  rw [h] at h1
  have h2 := take_len h
  rw [rec_len] at h2
  exact ⟨h1.2, by omega⟩
/-- No record is told where none is taken. -/
theorem scan_none {l : List UInt8} (h : ¬ (takeR l).2.2 = 0) : (scan l).1 = [] := by
  by_cases h0 : l.length = 0
  · obtain rfl : l = [] := List.eq_nil_of_length_eq_zero h0
    rfl
  · rw [scan_stop (by omega) h]
/-- A segment's bytes, cut off anywhere: a beginning of it. -/
theorem parse_cut {b : Int} {rs : List Rc} (h : segB b rs = true) (n : Nat) (hn : n ≤ (allL rs).length) : parseS b ((allL rs).take n) = rs.take (wholeN rs n) := by
  unfold parseS
  rw [scan_cut rs (seg_may h) n hn]
  exact (goP_all _ [] (by rw [List.nil_append]; exact seg_take h _)).trans (List.nil_append _)
theorem whole_all (rs : List Rc) : wholeN rs (allL rs).length = rs.length := by
  induction rs with
  | nil => rfl
  | cons r rs ih =>
    rw [all_cons, List.length_append, whole_yes (by omega), List.length_cons]
    rw [show (recL r).length + (allL rs).length - (recL r).length = (allL rs).length by omega, ih]
theorem all_size {rs : List Rc} (h : ∀ r ∈ rs, mayB r = true) : (allL rs).length ≤ rs.length * 2100 := by
  induction rs with
  | nil => exact Nat.zero_le _
  | cons r rs ih =>
    obtain ⟨_, _, _, _, h5, h6, _⟩ := (may_iff r).1 (h r (List.mem_cons_self ..))
    have := ih fun x hx => h x (List.mem_cons_of_mem _ hx)
    rw [all_cons, List.length_append, rec_len, List.length_cons]
    omega
theorem all_take_le (rs : List Rc) (k : Nat) : (allL (rs.take k)).length ≤ (allL rs).length := by
  have e : rs = rs.take k ++ rs.drop k := (List.take_append_drop k rs).symm
  have h : (allL rs).length = (allL (rs.take k)).length + (allL (rs.drop k)).length := by
    conv => lhs; rw [e]
    unfold allL
    rw [List.flatMap_append, List.length_append]
  omega

/-! ### the first one -/
structure First (p : Rc → Bool) (rs : List Rc) (a : Nat) : Prop where
  le : a ≤ rs.length
  lo : ∀ i (h : i < rs.length), i < a → p rs[i] = false
  hi : ∀ h : a < rs.length, p rs[a] = true
theorem first_of (p : Rc → Bool) (rs : List Rc) : ∃ a, First p rs a := by
  induction rs with
  | nil => exact ⟨0, Nat.le_refl _, fun i h => absurd h (Nat.not_lt_zero _), fun h => absurd h (Nat.not_lt_zero _)⟩
  | cons r rs ih =>
    by_cases c : p r = true
    · exact ⟨0, Nat.zero_le _, fun i _ h => absurd h (Nat.not_lt_zero _), fun _ => c⟩
    · obtain ⟨a, h1, h2, h3⟩ := ih
      refine ⟨a + 1, by rw [List.length_cons]; omega, fun i h hi => ?_, fun h => ?_⟩
      · cases i with
        | zero => simpa using c
        | succ j => exact h2 j (by simpa using h) (by omega)
      · exact h3 (by simpa using h)
end Go.Proofs.Ytijpieaanlnibaa.Rcd
/- Marks on the way, plainly: those of a segment, the last one not above an offset, how many records are passed from it on. No run of a program is in this file. -/
namespace Go.Proofs.Ytijpieaanlnibaa.Rcd
open Go.Lib Vbi Crc

/-- A mark: an offset, how many bytes stand ahead. -/
structure Mk where
  o : Int
  a : Int
def mzero : Mk := ⟨0, 0⟩
def mkAt (rs : List Rc) (j : Nat) : Mk := ⟨(rs.getD (4 * j) zero).o, ((allL (rs.take (4 * j))).length : Int)⟩
/-- The marks of a segment: one for its first record, and one for each fourth one behind it. -/
def marks (rs : List Rc) : List Mk := (List.range ((rs.length + 3) / 4)).map (mkAt rs)
theorem marks_len (rs : List Rc) : (marks rs).length = (rs.length + 3) / 4 := by unfold marks; simp
theorem marks_at (rs : List Rc) (j : Nat) (h : j < (marks rs).length) : (marks rs)[j] = mkAt rs j := by
  have h2 : (marks rs)[j]? = some (mkAt rs j) := by
    have hl := h
    rw [marks_len] at hl
    unfold marks
    rw [List.getElem?_map, List.getElem?_range hl]; rfl
  rw [List.getElem?_eq_getElem h] at h2
  exact Option.some.inj h2
theorem mk_take (rs : List Rc) (k j : Nat) (h : 4 * j < k) : mkAt (rs.take k) j = mkAt rs j := by
  unfold mkAt
  rw [List.take_take, Nat.min_eq_left (by omega), List.getD_eq_getElem?_getD, List.getD_eq_getElem?_getD, List.getElem?_take_of_lt h]
theorem marks_nil : marks [] = [] := rfl
/-- One record more: one mark more, or none. -/
theorem marks_next {rs : List Rc} {k : Nat} (h : k < rs.length) : marks (rs.take (k + 1)) = marks (rs.take k) ++ (if k % 4 = 0 then [⟨rs[k].o, ((allL (rs.take k)).length : Int)⟩] else []) := by
  have l1 : (rs.take (k + 1)).length = k + 1 := by rw [List.length_take]; omega
  have l0 : (rs.take k).length = k := by rw [List.length_take]; omega
  have hm : ∀ j ∈ List.range ((k + 3) / 4), mkAt (rs.take (k + 1)) j = mkAt (rs.take k) j := by
    intro j hj
    have := List.mem_range.1 hj
    rw [mk_take rs (k + 1) j (by omega), mk_take rs k j (by omega)]
  unfold marks
  rw [l1, l0]
  by_cases c : k % 4 = 0
  · rw [if_pos c, show (k + 1 + 3) / 4 = (k + 3) / 4 + 1 by omega, List.range_succ, List.map_append, List.map_congr_left hm]
    congr 1
    have e : 4 * ((k + 3) / 4) = k := by omega
    rw [List.map_cons, List.map_nil, mk_take rs (k + 1) _ (by omega)]
    unfold mkAt
    rw [e, List.getD_eq_getElem?_getD, List.getElem?_eq_getElem h]
    rfl
  · rw [if_neg c, show (k + 1 + 3) / 4 = (k + 3) / 4 by omega, List.append_nil, List.map_congr_left hm]
theorem marks_all (rs : List Rc) : marks (rs.take rs.length) = marks rs := by rw [List.take_length]

/-- Do marks rise? -/
def riseB (a m : Mk) : Bool := decide (a.o < m.o ∧ a.a ≤ m.a)
def Risen (l : List Mk) : Prop := ∀ i (h : i < l.length) (_ : 0 < i), riseB (l[i - 1]'(by omega)) l[i] = true
theorem seg_rise {b : Int} {rs : List Rc} (h : segB b rs = true) (i j : Nat) (hij : i < j) (hj : j < rs.length) : (rs[i]'(by omega)).o < rs[j].o ∧ (rs[i]'(by omega)).t ≤ rs[j].t := by
  induction j with
  | zero => omega
  | succ j ih =>
    have h1 := ((seg_doc.1 h).2 (j + 1) hj hj).2.2 (by omega)
    rw [pair_iff] at h1
    simp only [Nat.add_sub_cancel] at h1
    by_cases c : i = j
    · subst c; exact h1
    · have h2 := ih (by omega) (by omega)
      exact ⟨by omega, by omega⟩
theorem all_mono' (rs : List Rc) (a b : Nat) (h : a ≤ b) : (allL (rs.take a)).length ≤ (allL (rs.take b)).length := by
  have := all_take_le (rs.take b) a
  rwa [List.take_take, Nat.min_eq_left h] at this
theorem mk_lt {rs : List Rc} {j : Nat} (h : 4 * j < rs.length) : mkAt rs j = ⟨rs[4 * j].o, ((allL (rs.take (4 * j))).length : Int)⟩ := by
  unfold mkAt
  rw [List.getD_eq_getElem?_getD, List.getElem?_eq_getElem h]
  rfl
theorem marks_rise {b : Int} {rs : List Rc} (h : segB b rs = true) : Risen (marks rs) := by
  intro i hi h0
  have hl := hi
  rw [marks_len] at hl
  rw [marks_at rs i hi, marks_at rs (i - 1) (by omega), mk_lt (show 4 * i < rs.length by omega), mk_lt (show 4 * (i - 1) < rs.length by omega)]
  have h1 := (seg_rise h (4 * (i - 1)) (4 * i) (by omega) (by omega)).1
  have h2 := all_mono' rs (4 * (i - 1)) (4 * i) (by omega)
  exact decide_eq_true ⟨h1, by show ((_ : Nat) : Int) ≤ ((_ : Nat) : Int); omega⟩

/-- Which one of so many is the last that is the first, or is not above n; -1: there are none. -/
def lastF (l : List Mk) (n : Int) : Nat → Int
  | 0 => -1
  | k + 1 => if k = 0 ∨ (l.getD k mzero).o ≤ n then (k : Int) else lastF l n k
def fromZ (l : List Mk) (n : Int) : Int := lastF l n l.length
theorem lastF_yes {l : List Mk} {n : Int} {k : Nat} (h : k = 0 ∨ (l.getD k mzero).o ≤ n) : lastF l n (k + 1) = (k : Int) := by rw [lastF, if_pos h]
theorem lastF_no {l : List Mk} {n : Int} {k : Nat} (h : ¬ (k = 0 ∨ (l.getD k mzero).o ≤ n)) : lastF l n (k + 1) = lastF l n k := by rw [lastF, if_neg h]
/-- The last one: itself not above n (or the first), none behind it that is not. -/
theorem lastF_spec (l : List Mk) (n : Int) (k : Nat) (h : 0 < k) : ∃ m : Nat, lastF l n k = (m : Int) ∧ m < k ∧ (m = 0 ∨ (l.getD m mzero).o ≤ n) ∧ ∀ i, m < i → i < k → n < (l.getD i mzero).o := by
  induction k with
  | zero => omega
  | succ k ih =>
    by_cases c : k = 0 ∨ (l.getD k mzero).o ≤ n
    · exact ⟨k, lastF_yes c, Nat.lt_succ_self _, c, fun i h1 h2 => by omega⟩
    · obtain ⟨m, h1, h2, h3, h4⟩ := ih (by omega)
      refine ⟨m, (lastF_no c).trans h1, by omega, h3, fun i hi hk => ?_⟩
      by_cases e : i = k
      · subst e; omega
      · exact h4 i hi (by omega)
/-- From the last mark not above n on, the first record from n on is passed by four at most. -/
theorem from_near {b : Int} {rs : List Rc} {n : Int} {a : Nat} (h : segB b rs = true) (ha : a < rs.length) (hlo : ∀ i (hi : i < rs.length), i < a → rs[i].o < n) (hhi : n ≤ rs[a].o) :
    ∃ m : Nat, fromZ (marks rs) n = (m : Int) ∧ m < (marks rs).length ∧ 4 * m ≤ a ∧ a ≤ 4 * m + 4 := by
  have hl := marks_len rs
  obtain ⟨m, h1, h2, h3, h4⟩ := lastF_spec (marks rs) n (marks rs).length (by omega)
  have hgd : ∀ j, j < (marks rs).length → ((marks rs).getD j mzero) = mkAt rs j := fun j hj => by
    rw [List.getD_eq_getElem?_getD, List.getElem?_eq_getElem hj, Option.getD_some, marks_at rs j hj]
  refine ⟨m, h1, h2, ?_, ?_⟩
  · rcases h3 with rfl | h3
    · omega
    · rw [hgd m h2, mk_lt (show 4 * m < rs.length by omega)] at h3
      rcases Nat.lt_or_ge a (4 * m) with c | c
      · have := (seg_rise h a (4 * m) c (by omega)).1
        simp only at h3
        omega
      · exact c
  · rcases Nat.lt_or_ge (4 * m + 4) a with c | c
    · have h5 := h4 (m + 1) (by omega) (by omega)
      rw [hgd (m + 1) (by omega), mk_lt (show 4 * (m + 1) < rs.length by omega)] at h5
      have := hlo (4 * (m + 1)) (by omega) (by omega)
      simp only at h5
      omega
    · exact c
end Go.Proofs.Ytijpieaanlnibaa.Rcd
/- Lists of numbers in memory: what came in, what was made by the call itself. -/
namespace Go.Proofs.Ytijpieaanlnibaa
open Go.RowKit Go.Lib

/-- The slice at A holds the numbers xs of kind k, in a block below B. -/
def Nums (w : World) (B : Nat) (k : IntKind) (A : Option Addr) (xs : List Int) : Prop :=
  xs = [] ∨ ∃ a, A = some a ∧ a.block < B ∧ ∀ j, j < xs.length → w.cell? (a.add j) = some (.int k (xs.getD j 0))

theorem add_block (a : Addr) (n : Nat) : (a.add n).block = a.block := by unfold Addr.add; split <;> rfl

section
variable {w w' : World} {B B' : Nat} {k : IntKind} {A : Option Addr} {xs : List Int}
theorem Nums.none_ : Nums w B k A [] := .inl rfl
theorem Nums.some_ (h : Nums w B k A xs) (hx : 0 < xs.length) : ∃ a, A = some a ∧ a.block < B ∧ ∀ j, j < xs.length → w.cell? (a.add j) = some (.int k (xs.getD j 0)) := by
  rcases h with rfl | h
  · simp at hx
  · exact h
theorem Nums.keep (h : Nums w B k A xs) (hk : ∀ p : Addr, p.block < B → w'.cell? p = w.cell? p) : Nums w' B k A xs := by
  rcases h with h | ⟨a, h1, h2, h3⟩
  · exact .inl h
  · exact .inr ⟨a, h1, h2, fun j hj => by rw [hk _ (by rw [add_block]; exact h2)]; exact h3 j hj⟩
theorem Nums.mono (h : Nums w B k A xs) (hB : B ≤ B') : Nums w B' k A xs := by
  rcases h with h | ⟨a, h1, h2, h3⟩
  · exact .inl h
  · exact .inr ⟨a, h1, Nat.lt_of_lt_of_le h2 hB, h3⟩
theorem Nums.below (h : Nums w B k A xs) (hb : Below B w w') : Nums w' B k A xs := h.keep fun _ hp => hb.cell hp
theorem Nums.drewN (h : Nums w B k A xs) (n : Nat) : Nums (w.drewN n) B k A xs := h
theorem Nums.alloc (h : Nums w B k A xs) (hB : B ≤ w.heap.size) (o : Obj) : Nums (w.alloc o) B k A xs :=
  h.keep fun p hp => World.cell?_alloc_lt w o p (by omega)
theorem Nums.of_own {base : Nat} {e : TypeId} {c : Nat} (h : w.ownsRow base e 1 (.slice A xs.length c) xs.length (xs.map (Value.int k))) : Nums w w.heap.size k A xs := by
  rcases h.2 with ⟨hv, hn⟩ | ⟨g, cap, cur, hv, _, hg, hle, _, hsz, htk⟩
  · exact .inl (List.eq_nil_of_length_eq_zero hn)
  · injection hv with hA _ _
    subst hA
    refine .inr ⟨_, rfl, (Array.getElem?_eq_some_iff.1 hg).1, fun j hj => ?_⟩
    refine h.cells (g := g) rfl j _ ?_
    rw [List.getElem?_map, List.getElem?_eq_getElem hj, List.getD_eq_getElem?_getD, List.getElem?_eq_getElem hj]
    rfl
/-- What an owned row of numbers is as a value. -/
theorem own_form {base : Nat} {e : TypeId} {v : Value} (h : w.ownsRow base e 1 v xs.length (xs.map (Value.int k))) : ∃ A c, v = .slice A xs.length c := by
  rcases h.2 with ⟨hv, hn⟩ | ⟨g, cap, cur, hv, _⟩
  · exact ⟨none, 0, by rw [hv, hn]⟩
  · exact ⟨_, cap, hv⟩
end

/-- Draws turn nothing below. -/
theorem below_drewN {B : Nat} {a w : World} (h : Below B a w) (n : Nat) : Below B a (w.drewN n) := ⟨h.os, h.tape, h.output, h.size, h.block⟩

/-! ### memory of the call's own -/
/-- A new block, and then an append onto a row of the call's own: below B nothing has turned. -/
theorem below_alloc_grown {B e size n : Nat} {w w' : World} {v : Value} {xs : List Value} {o : Obj} (hB : B ≤ w.heap.size) (hown : w.ownsRow B e size v n xs) (hg : (w.alloc o).grownBy w' v.ownBlock) : Below B w w' := by
  refine ⟨hg.os, hg.tape, hg.output, ?_, fun k hk => ?_⟩
  · have := hg.size; simp at this; omega
  · rw [hg.block k (by simp; omega)]
    · exact Below.heap_alloc w o k (by omega)
    · intro hk2
      have := (hown.lt k hk2.symm).1
      omega
theorem own_snoc {w : World} {B e : Nat} {v : Value} {k : IntKind} {ys : List Int} {x : Int} (h : w.ownsRow B e 1 v (ys.length + 1) (ys.map (Value.int k) ++ [.int k x])) :
    w.ownsRow B e 1 v (ys ++ [x]).length ((ys ++ [x]).map (Value.int k)) := by simpa using h

/-- A slice that holds the numbers xs, in new memory. -/
def GivesNums (k : IntKind) (xs : List Int) (w : World) (e : Ending) (w' : World) : Prop := ∃ A c, e = .returned (.slice A xs.length c) ∧ Nums w' w'.heap.size k A xs ∧ Below w.heap.size w w'
theorem gives_of_own {w w' : World} {B e : Nat} {v : Value} {k : IntKind} {xs : List Int} (h : w'.ownsRow B e 1 v xs.length (xs.map (Value.int k))) (hb : Below w.heap.size w w') : GivesNums k xs w (.returned v) w' := by
  obtain ⟨A, c, rfl⟩ := own_form h
  exact ⟨A, c, rfl, Nums.of_own h, hb⟩

theorem add_new (g j : Nat) : (⟨g, 0, none⟩ : Addr).add j = ⟨g, j, none⟩ := by
  unfold Addr.add; split <;> simp_all
/-- A new block that begins with the numbers rs. -/
theorem new_cell (W : World) (cs : Array Value) (rs : List Int) {k : IntKind} {e : TypeId} (h : ∀ j, j < rs.length → cs[j]? = some (.int k (rs.getD j 0))) (j : Nat) (hj : j < rs.length) :
    (W.alloc (.cells cs e)).drew.cell? ((⟨W.heap.size, 0, none⟩ : Addr).add j) = some (.int k (rs.getD j 0)) := by
  rw [add_new]
  show (W.alloc (.cells cs e)).cell? ⟨W.heap.size, j, none⟩ = _
  rw [cell_of_row (W.alloc (.cells cs e)) W.heap.size j cs e (0, 0) (heap_alloc_new W _)]
  exact h j hj

/-- A literal slice of numbers. -/
theorem lit_nums (W : World) (cs : Array Value) (rs : List Int) (k : IntKind) (e : TypeId) (h : cs = (rs.map (Value.int k)).toArray) : Nums (W.alloc (.cells cs e)) (W.heap.size + 1) k (some ⟨W.heap.size, 0, none⟩) rs := by
  refine .inr ⟨_, rfl, by simp, fun j hj => ?_⟩
  refine new_cell W cs rs (fun j hj => ?_) j hj
  rw [h]
  simp [List.getElem?_eq_getElem hj]

theorem gives_lit (w : World) (cs : Array Value) (rs : List Int) (n : Nat) (k : IntKind) (e : TypeId) (h : cs = (rs.map (Value.int k)).toArray) (hn : n = rs.length) :
    GivesNums k rs w (.returned (.slice (some ⟨w.heap.size, 0, none⟩) n n)) (w.alloc (.cells cs e)) := by
  subst hn
  exact ⟨_, _, rfl, (lit_nums w cs rs k e h).mono (by simp), (Below.refl _ _).alloc (Nat.le_refl _) _⟩

theorem own_below {w w' : World} {B e size n : Nat} {v : Value} {xs : List Value} (h : w.ownsRow B e size v n xs) (hb : Below w.heap.size w w') : w'.ownsRow B e size v n xs :=
  h.kept (row := none) ⟨hb.os, hb.tape, hb.output, hb.size, fun k hk _ => hb.block k hk⟩ (Classical.em _)
theorem below_grown {B e size n : Nat} {w w' : World} {v : Value} {xs : List Value} (hB : B ≤ w.heap.size) (hown : w.ownsRow B e size v n xs) (hg : w.grownBy w' v.ownBlock) : Below B w w' := by
  refine ⟨hg.os, hg.tape, hg.output, hg.size, fun k hk => ?_⟩
  refine hg.block k (by omega) fun hk2 => ?_
  have := (hown.lt k hk2.symm).1
  omega

end Go.Proofs.Ytijpieaanlnibaa
/- Lists of texts in memory: what came in, what was made by the call itself. -/
namespace Go.Proofs.Ytijpieaanlnibaa
open Go.RowKit Go.Lib

/-- Bytes, as a text. -/
def str (x : List UInt8) : ByteArray := ⟨x.toArray⟩
theorem str_data (x : List UInt8) : (str x).data.toList = x := by simp [str]
theorem data_str (s : ByteArray) : str s.data.toList = s := by simp [str]
theorem str_size (x : List UInt8) : (str x).size = x.length := by rw [Lib.size_eq, str_data]
theorem str_inj {x y : List UInt8} (h : str x = str y) : x = y := by rw [← str_data x, h, str_data]
theorem str_toList (x : List UInt8) : (str x).toList = x := by rw [ByteArray.toList_eq, str_data]
theorem toList_data_eq (s : ByteArray) : s.toList = s.data.toList := ByteArray.toList_eq s
def strs (ls : List (List UInt8)) : List Value := ls.map fun x => Value.string (str x)
theorem strs_len (ls : List (List UInt8)) : (strs ls).length = ls.length := by simp [strs]
theorem strs_snoc (ls : List (List UInt8)) (x : List UInt8) : strs (ls ++ [x]) = strs ls ++ [.string (str x)] := by simp [strs]

/-- The slice at A holds the texts ls, in a block below B. -/
def Strs (w : World) (B : Nat) (A : Option Addr) (ls : List (List UInt8)) : Prop :=
  ls = [] ∨ ∃ a, A = some a ∧ a.block < B ∧ ∀ j, j < ls.length → w.cell? (a.add j) = some (.string (str (ls.getD j [])))
section
variable {w w' : World} {B B' : Nat} {A : Option Addr} {ls : List (List UInt8)}
theorem Strs.none_ : Strs w B A [] := .inl rfl
theorem Strs.some_ (h : Strs w B A ls) (hx : 0 < ls.length) : ∃ a, A = some a ∧ a.block < B ∧ ∀ j, j < ls.length → w.cell? (a.add j) = some (.string (str (ls.getD j []))) := by
  rcases h with rfl | h
  · simp at hx
  · exact h
theorem Strs.keep (h : Strs w B A ls) (hk : ∀ p : Addr, p.block < B → w'.cell? p = w.cell? p) : Strs w' B A ls := by
  rcases h with h | ⟨a, h1, h2, h3⟩
  · exact .inl h
  · exact .inr ⟨a, h1, h2, fun j hj => by rw [hk _ (by rw [add_block]; exact h2)]; exact h3 j hj⟩
theorem Strs.mono (h : Strs w B A ls) (hB : B ≤ B') : Strs w B' A ls := by
  rcases h with h | ⟨a, h1, h2, h3⟩
  · exact .inl h
  · exact .inr ⟨a, h1, Nat.lt_of_lt_of_le h2 hB, h3⟩
theorem Strs.below (h : Strs w B A ls) (hb : Below B w w') : Strs w' B A ls := h.keep fun _ hp => hb.cell hp
theorem Strs.on (h : Strs w w.heap.size A ls) (hb : Below w.heap.size w w') : Strs w' w'.heap.size A ls := (h.below hb).mono hb.size
theorem Strs.drewN (h : Strs w B A ls) (n : Nat) : Strs (w.drewN n) B A ls := h.keep fun _ _ => rfl
theorem Strs.alloc (h : Strs w B A ls) (hB : B ≤ w.heap.size) (o : Obj) : Strs (w.alloc o) B A ls := h.keep fun p hp => World.cell?_alloc_lt w o p (by omega)
theorem Strs.of_own {base e c : Nat} (h : w.ownsRow base e 1 (.slice A ls.length c) ls.length (strs ls)) : Strs w w.heap.size A ls := by
  rcases h.2 with ⟨hv, hn⟩ | ⟨g, cap, cur, hv, _, hg, hle, _, hsz, htk⟩
  · exact .inl (List.eq_nil_of_length_eq_zero hn)
  · injection hv with hA _ _
    subst hA
    refine .inr ⟨_, rfl, (Array.getElem?_eq_some_iff.1 hg).1, fun j hj => ?_⟩
    refine h.cells (g := g) rfl j _ ?_
    unfold strs
    rw [List.getElem?_map, List.getElem?_eq_getElem hj, List.getD_eq_getElem?_getD, List.getElem?_eq_getElem hj]
    rfl
theorem own_strs {base e : Nat} {v : Value} (h : w.ownsRow base e 1 v ls.length (strs ls)) : ∃ A c, v = .slice A ls.length c := by
  rcases h.2 with ⟨hv, hn⟩ | ⟨g, cap, cur, hv, _⟩
  · exact ⟨none, 0, by rw [hv, hn]⟩
  · exact ⟨_, cap, hv⟩
theorem own_str_snoc {base e : Nat} {v : Value} {x : List UInt8} (h : w.ownsRow base e 1 v (ls.length + 1) (strs ls ++ [.string (str x)])) : w.ownsRow base e 1 v (ls ++ [x]).length (strs (ls ++ [x])) := by
  rw [strs_snoc, List.length_append]; exact h
end
/-- A literal slice of texts. -/
theorem lit_strs (W : World) (cs : Array Value) (ls : List (List UInt8)) (e : TypeId) (h : cs = (strs ls).toArray) : Strs (W.alloc (.cells cs e)) (W.heap.size + 1) (some ⟨W.heap.size, 0, none⟩) ls := by
  refine .inr ⟨_, rfl, by simp, fun j hj => ?_⟩
  rw [add_new, cell_of_row (W.alloc (.cells cs e)) W.heap.size j cs e (0, 0) (heap_alloc_new W _), h]
  simp [strs, List.getElem?_eq_getElem hj]
/-- A slice that holds the texts ls, in new memory that the call owns. -/
def GivesStrs (ls : List (List UInt8)) (w : World) (e : Ending) (w' : World) : Prop :=
  ∃ A c, e = .returned (.slice A ls.length c) ∧ w'.ownsRow w.heap.size 9 1 (.slice A ls.length c) ls.length (strs ls) ∧ Below w.heap.size w w'
theorem gives_strs {w w' : World} {B : Nat} {v : Value} {ls : List (List UInt8)} (h : w'.ownsRow B 9 1 v ls.length (strs ls)) (hB : w.heap.size ≤ B) (hb : Below w.heap.size w w') : GivesStrs ls w (.returned v) w' := by
  obtain ⟨A, c, rfl⟩ := own_strs h
  refine ⟨A, c, rfl, ⟨h.1, ?_⟩, hb⟩
  rcases h.2 with h2 | ⟨g, cap, cur, h1, h2, h3⟩
  · exact .inl h2
  · exact .inr ⟨g, cap, cur, h1, Nat.le_trans hB h2, h3⟩
end Go.Proofs.Ytijpieaanlnibaa
/- A region that draws its order, whose operations read, and whose calls may make memory: walked once, in the order of the text, in whatever world of a class. No program. -/
namespace Go.Proofs.Ytijpieaanlnibaa
open Go.RowKit

/-- A world that meets S. -/
structure In (S : World → Prop) where
  w : World
  h : S w
/-- The class of the worlds that meet S. -/
def Cls (S : World → Prop) (w' : World) : Prop := ∃ u : In S, w' = u.w
theorem cls_of {S : World → Prop} {w : World} (h : S w) : ∃ u : In S, w = u.w := ⟨⟨w, h⟩, rfl⟩
/-- A call behind which S holds. -/
theorem in_call {P : Program} {f : FuncId} {args : Array Value} {S : World → Prop} {u : In S} {v : Value} (h : Calls P f args u.w fun e w' => e = .returned v ∧ S w') :
    Calls P f args u.w fun e w'' => e = .returned v ∧ ∃ u' : In S, w'' = u'.w := h.mono fun _ _ ⟨he, hs⟩ => ⟨he, cls_of hs⟩
theorem region_in {P : Program} {S : World → Prop} {id : Nat} {Q : Exit → Act → World → Prop} {a : Act} {w : World} {l : List Oper} (hm : P.follows .mixedOrders = true) (hB : Region.lexB .any l.toArray = true) (h0 : S (w.drewN 1))
    (h : wpQuiet P l.toArray (fun w' => ∃ u : In S, w' = u.w) (fun a' => ∀ w', (∃ u : In S, w' = u.w) → Q .normal a' w') l a) : (Code.region id l.toArray true).wp P Q a w :=
  wp_region_quiet (C := fun w' => ∃ u : In S, w' = u.w) hm hB ⟨⟨_, h0⟩, rfl⟩ (by simpa using h)
end Go.Proofs.Ytijpieaanlnibaa
/- Small words for what a call answers. No program. -/
namespace Go.Proofs.Ytijpieaanlnibaa
open Go.RowKit Go.Lib

theorem ret_bool {a b : Bool} (h : a = b) : Ending.returned (.bool a) = .returned (.bool b) := by rw [h]
theorem ret_int {k : IntKind} {a b : Int} (h : a = b) : Ending.returned (.int k a) = .returned (.int k b) := by rw [h]
theorem bool_dec {b : Bool} {p : Prop} [Decidable p] (h : b = true ↔ p) : b = decide p := by
  rw [Bool.eq_iff_iff, h]; simp
theorem dec_false {p : Prop} [Decidable p] (h : ¬ p) : false = decide p := (decide_eq_false h).symm
theorem dec_true {p : Prop} [Decidable p] (h : p) : true = decide p := (decide_eq_true h).symm
theorem dec_dec {p q : Prop} [Decidable p] [Decidable q] (h : q ↔ p) : decide q = decide p := decide_eq_decide.2 h

theorem cell_lt {w : World} {a : Addr} {v : Value} (h : w.cell? a = some v) : a.block < w.heap.size := by
  rcases Nat.lt_or_ge a.block w.heap.size with hlt | hge
  · exact hlt
  · unfold World.cell? at h
    rw [Array.getElem?_eq_none hge] at h
    cases h
end Go.Proofs.Ytijpieaanlnibaa
/- Records in memory; blocks of the call's own. -/
namespace Go.Proofs.Ytijpieaanlnibaa.Rcd
open Go.RowKit Go.Lib

/-- Block g holds just these cells, and may be written. -/
def Blk (w : World) (g : Nat) (cs : Array Value) : Prop := ∃ T, w.heap[g]? = some (.cells cs T (0, 0))
section
variable {w w' : World} {g : Nat} {cs : Array Value}
theorem Blk.new (w : World) (T : TypeId) (cs : Array Value) : Blk (w.alloc (.cells cs T)) w.heap.size cs := ⟨T, heap_alloc_new w _⟩
theorem Blk.lt (h : Blk w g cs) : g < w.heap.size := by
  obtain ⟨T, h⟩ := h
  exact (Array.getElem?_eq_some_iff.1 h).1
theorem Blk.cell (h : Blk w g cs) (i : Nat) : w.cell? ⟨g, i, none⟩ = cs[i]? := by
  obtain ⟨T, h⟩ := h
  exact cell_of_row w g i cs T (0, 0) h
theorem Blk.frozen (h : Blk w g cs) (i : Nat) : w.frozen? ⟨g, i, none⟩ = false := by
  obtain ⟨T, h⟩ := h
  simp [World.frozen?, h]
theorem Blk.below (h : Blk w g cs) (hb : Below w.heap.size w w') : Blk w' g cs := by
  have hl := h.lt
  obtain ⟨T, h⟩ := h
  exact ⟨T, (hb.block g hl).trans h⟩
theorem Blk.drewN (h : Blk w g cs) (n : Nat) : Blk (w.drewN n) g cs := h
theorem Blk.alloc (h : Blk w g cs) (o : Obj) : Blk (w.alloc o) g cs := h.below ((Below.refl _ _).alloc (Nat.le_refl _) o)
theorem Blk.put (h : Blk w g cs) (i : Nat) (v : Value) : Blk (w.setCell ⟨g, i, none⟩ v) g (cs.setIfInBounds i v) := by
  obtain ⟨T, h⟩ := h
  exact ⟨T, by simp [World.setCell, Array.getElem?_modify, h]⟩
end

/-- The cells of a record. -/
def rcells (r : Rc) : List Value := [.int .i64 r.o, .int .i64 r.t, .string (str r.k), .string (str r.b), .int .i64 r.q, .bool r.g]
/-- The same, of what each is. -/
def rarr (o t : Int) (k b : ByteArray) (q : Int) (g : Bool) : Array Value := #[.int .i64 o, .int .i64 t, .string k, .string b, .int .i64 q, .bool g]
def ragg (r : Rc) : Value := .agg (rarr r.o r.t (str r.k) (str r.b) r.q r.g)
theorem rcells_arr (r : Rc) : (rcells r).toArray = rarr r.o r.t (str r.k) (str r.b) r.q r.g := rfl
/-- One record in memory. -/
structure RAt (w : World) (b o : Nat) (s : Rc) : Prop where
  c0 : w.cell? ⟨b, o, none⟩ = some (.int .i64 s.o)
  c1 : w.cell? ⟨b, o + 1, none⟩ = some (.int .i64 s.t)
  c2 : w.cell? ⟨b, o + 2, none⟩ = some (.string (str s.k))
  c3 : w.cell? ⟨b, o + 3, none⟩ = some (.string (str s.b))
  c4 : w.cell? ⟨b, o + 4, none⟩ = some (.int .i64 s.q)
  c5 : w.cell? ⟨b, o + 5, none⟩ = some (.bool s.g)
/-- The slice at A holds the records l, in a block below B. -/
def RecsAt (w : World) (B : Nat) (A : Option Addr) (l : List Rc) : Prop :=
  l = [] ∨ ∃ b o, A = some ⟨b, o, none⟩ ∧ b < B ∧ ∀ j (h : j < l.length), RAt w b (o + j * 6) l[j]
section
variable {w w' : World} {B B' : Nat} {A : Option Addr} {l : List Rc}
theorem RAt.keep {b o : Nat} {s : Rc} (h : RAt w b o s) (hk : ∀ i, w'.cell? ⟨b, i, none⟩ = w.cell? ⟨b, i, none⟩) : RAt w' b o s :=
  ⟨(hk _).trans h.c0, (hk _).trans h.c1, (hk _).trans h.c2, (hk _).trans h.c3, (hk _).trans h.c4, (hk _).trans h.c5⟩
theorem RecsAt.none_ : RecsAt w B A [] := .inl rfl
theorem RecsAt.some_ (h : RecsAt w B A l) (hl : 0 < l.length) : ∃ b o, A = some ⟨b, o, none⟩ ∧ b < B ∧ ∀ j (h : j < l.length), RAt w b (o + j * 6) l[j] := by
  rcases h with rfl | h
  · simp at hl
  · exact h
theorem RecsAt.keep (h : RecsAt w B A l) (hk : ∀ p : Addr, p.block < B → w'.cell? p = w.cell? p) : RecsAt w' B A l := by
  rcases h with h | ⟨b, o, h1, h2, h3⟩
  · exact .inl h
  · exact .inr ⟨b, o, h1, h2, fun j hj => (h3 j hj).keep fun i => hk ⟨b, i, none⟩ h2⟩
theorem RecsAt.mono (h : RecsAt w B A l) (hB : B ≤ B') : RecsAt w B' A l := by
  rcases h with h | ⟨b, o, h1, h2, h3⟩
  · exact .inl h
  · exact .inr ⟨b, o, h1, Nat.lt_of_lt_of_le h2 hB, h3⟩
theorem RecsAt.below (h : RecsAt w B A l) (hb : Below B w w') : RecsAt w' B A l := h.keep fun _ hp => hb.cell hp
theorem RecsAt.on (h : RecsAt w w.heap.size A l) (hb : Below w.heap.size w w') : RecsAt w' w'.heap.size A l := (h.below hb).mono hb.size
theorem RecsAt.drewN (h : RecsAt w B A l) (n : Nat) : RecsAt (w.drewN n) B A l := h.keep fun _ _ => rfl
theorem RecsAt.alloc (h : RecsAt w B A l) (hB : B ≤ w.heap.size) (o : Obj) : RecsAt (w.alloc o) B A l := h.keep fun p hp => World.cell?_alloc_lt w o p (by omega)
end
def flat (l : List Rc) : List Value := l.flatMap rcells
theorem flat_cons (s : Rc) (l : List Rc) : flat (s :: l) = rcells s ++ flat l := by unfold flat; rw [List.flatMap_cons]
theorem flat_len (l : List Rc) : (flat l).length = l.length * 6 := by
  induction l with
  | nil => rfl
  | cons p t ih => rw [flat_cons, List.length_append, ih]; show 6 + _ = (t.length + 1) * 6; omega
theorem flat_snoc (l : List Rc) (p : Rc) : flat (l ++ [p]) = flat l ++ rcells p := by unfold flat; rw [List.flatMap_append]; simp
theorem flat_app (l m : List Rc) : flat (l ++ m) = flat l ++ flat m := by unfold flat; rw [List.flatMap_append]
theorem flat_at (l : List Rc) (j i : Nat) (hj : j < l.length) (hi : i < 6) : (flat l)[j * 6 + i]? = (rcells l[j])[i]? := by
  induction l generalizing j with
  | nil => simp at hj
  | cons p t ih =>
    rw [flat_cons]
    cases j with
    | zero =>
      rw [List.getElem?_append_left (by show _ < 6; omega)]
      simp
    | succ m =>
      rw [List.getElem?_append_right (by show 6 ≤ _; omega)]
      have : (m + 1) * 6 + i - (rcells p).length = m * 6 + i := by show _ - 6 = _; omega
      rw [this]
      exact ih m (by simpa using hj)
theorem one_cells (p : Rc) : ∀ u ∈ rcells p, u.oneCell' = true := by
  have h : (rcells p).all (fun u => u.oneCell') = true := rfl
  exact List.all_eq_true.1 h
theorem flat_one : ∀ (l : List Rc), ∀ u ∈ flat l, u.oneCell' = true
  | [], u, h => by simp [flat] at h
  | s :: l, u, h => by
    rw [flat_cons] at h
    rcases List.mem_append.1 h with h | h
    · exact one_cells s u h
    · exact flat_one l u h
/-- Cells that hold the records, one behind the other. -/
theorem RecsAt.of_cells {w : World} {B g : Nat} {l : List Rc} (hg : g < B) (key : ∀ j u, (flat l)[j]? = some u → w.cell? ⟨g, j, none⟩ = some u) : RecsAt w B (some ⟨g, 0, none⟩) l := by
  refine .inr ⟨g, 0, rfl, hg, fun j hj => ?_⟩
  have hz : ∀ i u, i < 6 → (rcells l[j])[i]? = some u → w.cell? ⟨g, 0 + j * 6 + i, none⟩ = some u := fun i u hi hu => by
    rw [Nat.zero_add]
    exact key (j * 6 + i) u (by rw [flat_at l j i hj hi]; exact hu)
  exact ⟨hz 0 _ (by omega) rfl, hz 1 _ (by omega) rfl, hz 2 _ (by omega) rfl, hz 3 _ (by omega) rfl, hz 4 _ (by omega) rfl, hz 5 _ (by omega) rfl⟩
/-- A row of records of the call's own. -/
theorem RecsAt.of_own {w : World} {base e c : Nat} {A : Option Addr} {l : List Rc} (h : w.ownsRow base e 6 (.slice A l.length c) l.length (flat l)) : RecsAt w w.heap.size A l := by
  rcases h.2 with ⟨hv, hn⟩ | ⟨g, cap, cur, hv, _, hg, hle, _, hsz, htk⟩
  · exact .inl (List.eq_nil_of_length_eq_zero hn)
  · injection hv with hA _ _
    subst hA
    have key := h.cells (g := g) rfl
    refine .of_cells (Array.getElem?_eq_some_iff.1 hg).1 fun j u hu => ?_
    have := key j u hu
    rwa [add_new] at this
theorem own_slice {w : World} {base e : Nat} {v : Value} {l : List Rc} (h : w.ownsRow base e 6 v l.length (flat l)) : ∃ A c, v = .slice A l.length c := by
  rcases h.2 with ⟨hv, hn⟩ | ⟨g, cap, cur, hv, _⟩
  · exact ⟨none, 0, by rw [hv, hn]⟩
  · exact ⟨_, cap, hv⟩
theorem own_cap {w : World} {B e c : Nat} {A : Option Addr} {l : List Rc} (h : w.ownsRow B e 6 (.slice A l.length c) l.length (flat l)) : l.length ≤ c := by
  rcases h.2 with ⟨hv, hn⟩ | ⟨g, cap, cur, hv, _, _, hle, _⟩
  · omega
  · injection hv with _ _ hc
    omega
theorem cells_new (w : World) (T : TypeId) (cs : List Value) (j : Nat) (u : Value) (h : cs[j]? = some u) : (w.alloc (.cells cs.toArray T)).cell? ((⟨w.heap.size, 0, none⟩ : Addr).add j) = some u := by
  rw [add_new, cell_of_row (w.alloc _) w.heap.size j _ _ (0, 0) (heap_alloc_new w _)]
  simpa using h
/-- Records in a row of the call's own. -/
def GivesRecs (l : List Rc) (w : World) (e : Ending) (w' : World) : Prop := ∃ A c, e = .returned (.slice A l.length c) ∧ w'.ownsRow w.heap.size 44 6 (.slice A l.length c) l.length (flat l) ∧ Below w.heap.size w w'
/-- The first few. -/
theorem RecsAt.take {w : World} {B : Nat} {A : Option Addr} {l : List Rc} (h : RecsAt w B A l) (k : Nat) : RecsAt w B A (l.take k) := by
  rcases h with rfl | ⟨b, o, h1, h2, h3⟩
  · exact .inl (by simp)
  · refine .inr ⟨b, o, h1, h2, fun j hj => ?_⟩
    have hl : j < l.length := by rw [List.length_take] at hj; omega
    rw [List.getElem_take]
    exact h3 j hl
end Go.Proofs.Ytijpieaanlnibaa.Rcd
/- A variable read whole: one operation of a quiet walk, by the law of its reading. No program. -/
namespace Go.Proofs.Ytijpieaanlnibaa
open Go.RowKit

theorem quiet_load {P : Program} {o : Oper} {a : Act} {C : World → Prop} {K : Act → Prop} (ty : TypeId) (x : Operand) (ho : o.op = .load ty x) (b off : Nat) (hx : a.eval x = .pointer (some ⟨b, off, none⟩)) (V : Value)
    (hv : ∀ w, C w → (loadVar ty ⟨b, off, none⟩).run P w = .ok V w) (h : K (a.put o.dst V)) : o.quiet P a C K := by
  refine ⟨V, fun w hw => ?_, h⟩
  unfold Oper.quietAt execOp
  simp only [ho, hx, Instr.loadAt, Instr.sureAddr, Sem.run_bind, Sem.run_pure, Result.andThen_ok, hv w hw]
  exact ⟨rfl, rfl⟩
theorem quiet_load_in {P : Program} {o : Oper} {a : Act} {S : World → Prop} {K : Act → Prop} (ty : TypeId) (x : Operand) (ho : o.op = .load ty x) (b off : Nat) (hx : a.eval x = .pointer (some ⟨b, off, none⟩)) (V : Value)
    (hv : ∀ u : In S, (loadVar ty ⟨b, off, none⟩).run P u.w = .ok V u.w) (h : K (a.put o.dst V)) : o.quiet P a (fun w' => ∃ u : In S, w' = u.w) K :=
  quiet_load ty x ho b off hx V (fun w ⟨u, hu⟩ => by rw [hu]; exact hv u) h
theorem wp_load_one {P : Program} {op : Oper} {a : Act} {w : World} {K : Act → World → Prop} {Q : Exit → Act → World → Prop} (ty : TypeId) (x : Operand) (ho : op.op = .load ty x) (b off : Nat) (hx : a.eval x = .pointer (some ⟨b, off, none⟩)) (V : Value)
    (hv : (loadVar ty ⟨b, off, none⟩).run P w = .ok V w) (h : K (a.put op.dst V) w) : op.wp P a w K Q := by
  unfold Oper.wp execOp
  simp only [ho, hx, Instr.loadAt, Instr.sureAddr, Sem.run_bind, Sem.run_pure, Result.andThen_ok, hv]
  exact h
theorem wpList_load_one {P : Program} {ops : Array Oper} {rest : List Oper} {op : Oper} {a : Act} {w : World} {Q : Exit → Act → World → Prop} (hgd : op.guard = none) (ty : TypeId) (x : Operand) (ho : op.op = .load ty x) (b off : Nat)
    (hx : a.eval x = .pointer (some ⟨b, off, none⟩)) (V : Value) (hv : (loadVar ty ⟨b, off, none⟩).run P w = .ok V w) (h : wpList P ops Q rest (a.put op.dst V) w) : wpList P ops Q (op :: rest) a w :=
  wpList_plain hgd fun _ hK => wp_load_one ty x ho b off hx V hv (hK _ _ h)
end Go.Proofs.Ytijpieaanlnibaa
/- A record read, written, handed back whole. -/
namespace Go.Proofs.Ytijpieaanlnibaa.Rcd
open Go.RowKit Go.Lib

theorem info_rec : (Try.prog.info? 44).map (·.size) = some 6 := by kernel_rfl
theorem info_more : (Try.prog.info? 44).map (fun i => (i.zero, i.size, i.bytes)) = some (some (.agg #[.int .i64 0, .int .i64 0, .string ⟨#[]⟩, .string ⟨#[]⟩, .int .i64 0, .bool false]), 6, 64) := by kernel_rfl
def zcells : Array Value := #[.int .i64 0, .int .i64 0, .string ⟨#[]⟩, .string ⟨#[]⟩, .int .i64 0, .bool false]
section
variable {W : World} {g : Nat} {cs : Array Value}
theorem load_blk (h : Blk W g cs) (h9 : cs.size = 6) : (loadVar 44 ⟨g, 0, none⟩).run Try.prog W = .ok (.agg cs) W :=
  run_loadVar_mid W g 0 44 cs.toList _ (fun j v hv => by rw [Nat.zero_add, h.cell j]; rw [← hv]; simp) Try.underlying44 rfl (by rw [info_rec]; simp [h9])
theorem load_at {o : Nat} {s : Rc} (h : RAt W g o s) : (loadVar 44 ⟨g, o, none⟩).run Try.prog W = .ok (ragg s) W :=
  run_loadVar_mid W g o 44 (rcells s) _ (fun j v hv => by
    match j, hv with
    | 0, hv => rw [← hv]; exact h.c0
    | 1, hv => rw [← hv]; exact h.c1
    | 2, hv => rw [← hv]; exact h.c2
    | 3, hv => rw [← hv]; exact h.c3
    | 4, hv => rw [← hv]; exact h.c4
    | 5, hv => rw [← hv]; exact h.c5) Try.underlying44 rfl info_rec
theorem one_arr (o t : Int) (k b : ByteArray) (q : Int) (g : Bool) : (rarr o t k b q g).all (·.oneCell') = true := by simp [rarr, Value.oneCell']
theorem one_zero : zcells.all (·.oneCell') = true := by simp [zcells, Value.oneCell']
theorem one_sub (s : Rc) : (rcells s).toArray.all (·.oneCell') = true := by
  rw [Array.all_eq_true']
  exact fun u hu => one_cells s u (by simpa using hu)
end
section
variable {P : Program} {ops : Array Oper} {rest : List Oper} {op : Oper} {a : Act} {w : World} {K : Act → World → Prop} {Q : Exit → Act → World → Prop}
/-- A wanted load. -/
theorem wpList_load_any (hw : Region.wanted op (yielded ops a.tmps) = true) (ty : TypeId) (x : Operand) (ho : op.op = .load ty x) (b off : Nat)
    (hx : a.eval x = .pointer (some ⟨b, off, none⟩)) (V : Value) (hv : (loadVar ty ⟨b, off, none⟩).run P w = .ok V w) (h : wpList P ops Q rest (a.put op.dst V) w) : wpList P ops Q (op :: rest) a w := by
  simp only [wpList]
  rw [if_pos hw]
  exact .inl (wp_load_one ty x ho b off hx V hv h)
/-- A store of a whole row. -/
theorem wpList_store_whole (hgd : op.guard = none) (ty : TypeId) (x y : Operand) (ho : op.op = .store ty x y) (g : Nat) (cells : Array Value) (hx : a.eval x = .pointer (some ⟨g, 0, none⟩)) (hy : a.eval y = .agg cells)
    (old : Array Value) (hg : Blk w g old) (hi : (P.info? ty).map (·.size) = some cells.size) (hold : old.size = cells.size) (h1 : cells.all (·.oneCell') = true)
    (h : wpList P ops Q rest (a.put op.dst undef) (w.setRow g cells)) : wpList P ops Q (op :: rest) a w := by
  obtain ⟨T, hg⟩ := hg
  exact wpList_plain hgd fun _ hK => wp_store_row ty x y ho g cells hx hy T old hg hi hold h1 (hK _ _ h)
end
section
variable {w W : World} {g : Nat} {cs : Array Value}
theorem Blk.row (h : Blk w g cs) (ds : Array Value) : Blk (w.setRow g ds) g ds := by
  obtain ⟨T, h⟩ := h
  exact ⟨T, setRow_heap w g cs ds T _ h⟩
theorem below_row (hb : Below w.heap.size w W) (hg : w.heap.size ≤ g) (ds : Array Value) : Below w.heap.size w (W.setRow g ds) :=
  ⟨hb.os, hb.tape, hb.output, by have := hb.size; simpa using this, fun k hk => by rw [setRow_other W g k ds (by omega)]; exact hb.block k hk⟩
theorem Blk.far {p : Addr} (k : Blk W g cs) (hp : g ≠ p.block) (v : Value) : Blk (W.setCell p v) g cs := by
  obtain ⟨T, h⟩ := k
  exact ⟨T, (Below.heap_setCell W p v g hp).trans h⟩
theorem RecsAt.row {B : Nat} {A : Option Addr} {l : List Rc} (h : RecsAt W B A l) (hg : B ≤ g) (ds : Array Value) : RecsAt (W.setRow g ds) B A l :=
  h.keep fun p hp => World.cell?_of_block (setRow_other W g p.block ds (by omega))
end
/-- A record handed back. -/
theorem results_rec {fn : Func} {tmps : Array Value} {w : World} {c g : Nat} {cs : Array Value} (hr : fn.results = #[.cell c 44]) (h0 : tmps.getD c undef = .pointer (some ⟨g, 0, none⟩)) (hb : Blk w g cs) (h9 : cs.size = 6) :
    (results fn tmps).run Try.prog w = .ok (.agg cs) w := by
  unfold results
  rw [hr]
  simp only [List.mapM_toArray, List.mapM_cons, List.mapM_nil, h0, asAddr, Sem.run_bind, Sem.run_pure, Result.andThen_ok, bind_assoc, pure_bind, map_bind, map_pure, load_blk hb h9]
  rfl
theorem results_rec2 {fn : Func} {tmps : Array Value} {w : World} {c i g : Nat} {cs : Array Value} {u : Value} (hr : fn.results = #[.cell c 44, .tmp i]) (h0 : tmps.getD c undef = .pointer (some ⟨g, 0, none⟩)) (hb : Blk w g cs) (h9 : cs.size = 6) (h1 : tmps.getD i undef = u) :
    (results fn tmps).run Try.prog w = .ok (.tuple #[.agg cs, u]) w := by
  unfold results
  rw [hr]
  simp only [List.mapM_toArray, List.mapM_cons, List.mapM_nil, h0, h1, asAddr, Sem.run_bind, Sem.run_pure, Result.andThen_ok, bind_assoc, pure_bind, map_bind, map_pure, load_blk hb h9]
  rfl
theorem results_rec3 {fn : Func} {tmps : Array Value} {w : World} {c i j g : Nat} {cs : Array Value} {u v : Value} (hr : fn.results = #[.cell c 44, .tmp i, .tmp j]) (h0 : tmps.getD c undef = .pointer (some ⟨g, 0, none⟩)) (hb : Blk w g cs) (h9 : cs.size = 6) (h1 : tmps.getD i undef = u) (h2 : tmps.getD j undef = v) :
    (results fn tmps).run Try.prog w = .ok (.tuple #[.agg cs, u, v]) w := by
  unfold results
  rw [hr]
  simp only [List.mapM_toArray, List.mapM_cons, List.mapM_nil, h0, h1, h2, asAddr, Sem.run_bind, Sem.run_pure, Result.andThen_ok, bind_assoc, pure_bind, map_bind, map_pure, load_blk hb h9]
  rfl
end Go.Proofs.Ytijpieaanlnibaa.Rcd
/- Bits that have nothing in common, as sums; rows of bytes of the call's own; the words of numbers taken. -/
namespace Go.Proofs.Ytijpieaanlnibaa
open Go.RowKit Go.Lib Vbi

theorem ofInt_i64 (a : Nat) (ha : a < 9223372036854775808) : (BitVec.ofInt 64 (a : Int)).toNat = a := by
  rw [BitVec.ofInt_natCast, BitVec.toNat_ofNat]; exact Nat.mod_eq_of_lt (by omega)
theorem i64_or_nat (a b : Nat) (ha : a < 9223372036854775808) (hb : b < 9223372036854775808) : bits .or .i64 (a : Int) (b : Int) = ((a ||| b : Nat) : Int) := by
  have hx : a ||| b < 2 ^ 63 := Nat.or_lt_two_pow (by omega) (by omega)
  show IntKind.i64.wrap ((BitVec.ofInt 64 (a : Int) ||| BitVec.ofInt 64 (b : Int)).toNat : Int) = _
  rw [BitVec.toNat_or, ofInt_i64 a ha, ofInt_i64 b hb]
  unfold IntKind.wrap
  simp [IntKind.bits, IntKind.signed]
  omega
/-- Bits that have nothing in common. -/
theorem i64_or_add (a b k : Nat) (ha : a < 2 ^ k) (hk : k ≤ 40) (hb : b * 2 ^ k < 9223372036854775808) : bits .or .i64 (a : Int) ((b * 2 ^ k : Nat) : Int) = ((a + b * 2 ^ k : Nat) : Int) := by
  have h2 : (2 : Nat) ^ k ≤ 2 ^ 40 := Nat.pow_le_pow_right (by decide) hk
  rw [i64_or_nat a _ (by omega) hb, Nat.or_comm, Nat.mul_comm b, ← Nat.two_pow_add_eq_or_of_lt ha, Nat.add_comm]

theorem data_at (s : ByteArray) (k : Nat) (h : k < s.size) : s.data.toList.drop k = s[k] :: s.data.toList.drop (k + 1) := by
  rw [List.drop_eq_getElem_cons (by simpa using h)]; rfl
theorem data_end (s : ByteArray) (k : Nat) (h : s.size ≤ k) : s.data.toList.drop k = [] := List.drop_of_length_le (by rw [← Lib.size_eq]; exact h)
theorem i64_or8 (m c : Nat) (hm : m < 16777216) (hc : c < 256) : bits .or .i64 ((m : Int) * 256) (c : Int) = ((m * 256 + c : Nat) : Int) := by
  have h := i64_or_nat (m * 256) c (by omega) (by omega)
  rw [Nat.mul_comm m 256, show (256 : Nat) = 2 ^ 8 from rfl, ← Nat.two_pow_add_eq_or_of_lt (by omega)] at h
  rw [show ((m : Int) * 256) = ((2 ^ 8 * m : Nat) : Int) by omega, h]
  omega

@[irreducible] def TfOk (wd : Nat) (l : List UInt8) (w : World) (e : Ending) (w' : World) : Prop := e = .returned (.tuple #[.int .i64 (tfVal wd l), .int .i64 (tfErr wd l)]) ∧ w' = w
theorem tf_ok {wd : Nat} {l : List UInt8} {w : World} {a b : Int} (h : tfVal wd l = a) (h2 : tfErr wd l = b) : TfOk wd l w (.returned (.tuple #[.int .i64 a, .int .i64 b])) w := by
  unfold TfOk; rw [h, h2]; exact ⟨rfl, rfl⟩
@[irreducible] def RTfOk (wd : Nat) (l : List UInt8) (w : World) (e : Ending) (w' : World) : Prop := e = .returned (.tuple #[.int .i64 (tfVal wd l), .bool (decide (tfErr wd l = 0))]) ∧ w' = w
theorem rtf_ok {wd : Nat} {l : List UInt8} {w : World} {a b : Int} {c : Bool} (h : tfVal wd l = a) (h2 : tfErr wd l = b) (h3 : decide (b = 0) = c) : RTfOk wd l w (.returned (.tuple #[.int .i64 a, .bool c])) w := by
  unfold RTfOk; rw [h, h2, h3]; exact ⟨rfl, rfl⟩
theorem tf_cut {wd : Nat} {l : List UInt8} (h : l.length < wd) : tfVal wd l = 0 ∧ tfErr wd l = 7 := by
  unfold tfVal tfErr; rw [if_pos h, if_pos h]; exact ⟨rfl, rfl⟩
theorem tf_good {wd : Nat} {l : List UInt8} (h : wd ≤ l.length) : tfVal wd l = (fixVal (l.take wd) : Nat) ∧ tfErr wd l = 0 := by
  unfold tfVal tfErr; rw [if_neg (by omega), if_neg (by omega)]; exact ⟨rfl, rfl⟩
theorem take_drop_at (s : ByteArray) (wd k : Nat) (hk : k < wd) (h : wd ≤ s.size) : (s.data.toList.take wd).drop k = (s[k]'(by omega)) :: (s.data.toList.take wd).drop (k + 1) := by
  have hl : k < (s.data.toList.take wd).length := by rw [List.length_take, ← Lib.size_eq]; omega
  rw [List.drop_eq_getElem_cons hl, List.getElem_take]; rfl
theorem take_drop_end (s : ByteArray) (wd : Nat) : (s.data.toList.take wd).drop wd = [] := List.drop_of_length_le (by rw [List.length_take]; omega)
theorem pow_lt24 {m k : Nat} (hm : m < 256 ^ k) (hk : k < 4) : m < 16777216 := by
  have : 256 ^ k ≤ 256 ^ 3 := Nat.pow_le_pow_right (by decide) (by omega)
  omega
theorem pow_next {m k c : Nat} (hm : m < 256 ^ k) (hc : c < 256) : m * 256 + c < 256 ^ (k + 1) := by
  rw [Nat.pow_succ]; omega

theorem info_byte : (Try.prog.info? 5).map (fun i => (i.zero, i.size, i.bytes)) = some (some (.int .u8 0), 1, 1) := by kernel_rfl
theorem conv_bytes {w : World} {B : Nat} {v : Value} {zs : List Int} (h : w.ownsRow B 5 1 v zs.length (zs.map (Value.int .u8))) : (convert 70 9 v).run Try.prog w = .ok (.string (strOfNums zs)) w := by
  rcases h.2 with ⟨rfl, hn⟩ | ⟨g, cap, cur, rfl, _⟩
  · have : zs = [] := List.eq_nil_of_length_eq_zero hn
    subst this
    exact run_convert_bytes_nil w 70 5 Try.underlying70 Try.underlying5 0 0 9 Try.underlying9
  · refine run_convert_bytes_arg w 70 5 Try.underlying70 Try.underlying5 g 0 zs.length cap zs rfl (fun i hi => ?_) 9 Try.underlying9
    have := h.cells (g := g) rfl i (.int .u8 (zs.getD i 0)) (by simp [List.getElem?_eq_getElem hi])
    rw [add_new] at this
    rw [Nat.zero_add]; exact this

theorem fixZ_step (zs : List Int) (k n : Nat) (x : Int) (hx : ((n / 256 ^ k % 256 : Nat) : Int) = x) : zs ++ fixZ (k + 1) n = (zs ++ [x]) ++ fixZ k n := by
  rw [← hx]
  show zs ++ (((n / 256 ^ k % 256 : Nat) : Int) :: fixZ k n) = _
  simp
end Go.Proofs.Ytijpieaanlnibaa
