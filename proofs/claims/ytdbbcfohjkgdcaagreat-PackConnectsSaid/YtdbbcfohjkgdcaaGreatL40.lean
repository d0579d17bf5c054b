/- The fifth layer's statements: bytes near a packet's are none of a Subscribe or an Unsubscribe. No run of a program is in this file's facts. -/
import Derived.Test.YtdbbcfohjkgdcaaGreatL00
import Derived.Test.YtdbbcfohjkgdcaaGreatL39
set_option maxRecDepth 100000
set_option maxHeartbeats 64000000
namespace Go.Proofs.YtdbbcfohjkgdcaaGreat.Vbi
open Go.Lib
def numErr (n : Int) : Int := if 0 ≤ n ∧ n ≤ 268435455 then 0 else 2
def numStr (n : Int) : ByteArray := if 0 ≤ n ∧ n ≤ 268435455 then strOfNums (numZ n.toNat) else ⟨#[]⟩
theorem numErr_cases (n : Int) : (0 ≤ n ∧ n ≤ 268435455 ∧ numErr n = 0 ∧ numStr n = strOfNums (numZ n.toNat)) ∨ ((n < 0 ∨ 268435455 < n) ∧ numErr n = 2 ∧ numStr n = ⟨#[]⟩) := by
 unfold numErr numStr
 by_cases h : 0 ≤ n ∧ n ≤ 268435455
 ·rw [if_pos h, if_pos h]; exact .inl ⟨h.1, h.2, rfl, rfl⟩
 ·rw [if_neg h, if_neg h]; exact .inr ⟨by omega, rfl, rfl⟩
def fixErr (w : Nat) (n : Int) : Int := if 0 ≤ n ∧ n < 256 ^ w then 0 else 2
def fixStr (w : Nat) (n : Int) : ByteArray := if 0 ≤ n ∧ n < 256 ^ w then strOfNums (fixZ w n.toNat) else ⟨#[]⟩
theorem fix_cases (w : Nat) (n : Int) : (0 ≤ n ∧ n < 256 ^ w ∧ fixErr w n = 0 ∧ fixStr w n = strOfNums (fixZ w n.toNat)) ∨ ((n < 0 ∨ 256 ^ w ≤ n) ∧ fixErr w n = 2 ∧ fixStr w n = ⟨#[]⟩) := by
 unfold fixErr fixStr
 by_cases h : 0 ≤ n ∧ n < 256 ^ w
 ·rw [if_pos h, if_pos h]; exact .inl ⟨h.1, h.2, rfl, rfl⟩
 ·rw [if_neg h, if_neg h]; exact .inr ⟨by omega, rfl, rfl⟩
end Go.Proofs.YtdbbcfohjkgdcaaGreat.Vbi
namespace Go.Proofs.YtdbbcfohjkgdcaaGreat.Prp
open Go.Lib Vbi
instance (id : Int) : Decidable (noZ id) := by unfold noZ; exact inferInstance
theorem rest_snoc (l : List P) (p : P) : restStr (l ++ [p]) = restStr l ++ oneStr p := by unfold restStr; rw [List.foldl_append]; rfl
end Go.Proofs.YtdbbcfohjkgdcaaGreat.Prp
namespace Go.Proofs.YtdbbcfohjkgdcaaGreat.Pkt
open Go.Lib Vbi Prp
theorem allStr_snoc (l : List Part) (p : Part) : allStr (l ++ [p]) = allStr l ++ p.str := by unfold allStr; rw [List.foldl_append]; rfl
def packStr (p : Pk) : ByteArray := if packB p = true then strP p else ⟨#[]⟩
def packErr (p : Pk) : Int := if packB p = true then 0 else 1
theorem pack_yes {p : Pk} (h : packB p = true) : packStr p = strP p ∧ packErr p = 0 := by unfold packStr packErr; rw [if_pos h, if_pos h]; exact ⟨rfl, rfl⟩
theorem pack_no {p : Pk} (h : packB p = false) : packStr p = ⟨#[]⟩ ∧ packErr p = 1 := by
 have h' : ¬ packB p = true := by rw [h]; decide
 unfold packStr packErr; rw [if_neg h', if_neg h']; exact ⟨rfl, rfl⟩
end Go.Proofs.YtdbbcfohjkgdcaaGreat.Pkt
namespace Go.Proofs.YtdbbcfohjkgdcaaGreat
open Go.RowKit Go.Lib Prp Pkt Vbi
def OneKind (k : Int) : Prop := 1 ≤ k ∧ k ≤ 15 ∧ k ≠ 8 ∧ k ≠ 10
theorem xor_at (u : UInt8) (y : Nat) (hy : y < 256) : ∃ u' : UInt8, bits .xor .u8 ((u.toNat : Nat) : Int) (y : Int) = ((u'.toNat : Nat) : Int) ∧ u'.toNat = u.toNat ^^^ y := by
 have hx : u.toNat ^^^ y < 2 ^ 8 := Nat.xor_lt_two_pow (by have := u.toNat_lt; omega) (by omega)
 refine ⟨UInt8.ofNat (u.toNat ^^^ y), ?_, UInt8.toNat_ofNat_of_lt' hx⟩
 rw [UInt8.toNat_ofNat_of_lt' hx]
 exact u8_xor_nat u.toNat y (by have := u.toNat_lt; omega) hy
def nearB : Bool := (List.range 256).all fun c => (List.range 8).all fun z => !headB (c : Int) || (decide ((c : Int) / 16 = 8) || (decide ((c : Int) / 16 = 10) || (decide (c ^^^ (1 + z * 37 % 255) ≠ 130) && decide (c ^^^ (1 + z * 37 % 255) ≠ 162))))
theorem nearB_all : nearB = true := by kernel_rfl
theorem near_one {c z : Nat} (hc : c < 256) (hz : z < 8) (hh : headB (c : Int) = true) (h8 : (c : Int) / 16 ≠ 8) (h10 : (c : Int) / 16 ≠ 10) : c ^^^ (1 + z * 37 % 255) ≠ 130 ∧ c ^^^ (1 + z * 37 % 255) ≠ 162 := by
 have h := nearB_all
 unfold nearB at h
 rw [List.all_eq_true] at h
 have h1 := h c (List.mem_range.2 hc)
 rw [List.all_eq_true] at h1
 have h2 := h1 z (List.mem_range.2 hz)
 rw [hh, decide_eq_false h8, decide_eq_false h10] at h2
 simpa using h2
theorem id_mk (l : List UInt8) (h : 0 < l.length) : idOf (ByteArray.mk l.toArray) = ((l.getD 0 0).toNat : Int) := by
 have hz : 0 < (ByteArray.mk l.toArray).size := by show 0 < l.toArray.size; simpa using h
 rw [id_at hz]
 cases l with
 | nil => simp at h
 | cons x t => rfl
theorem near_ask {p : Pk} {S : ByteArray} {z j : Nat} {v v' : UInt8} (hb : packB p = true) (hS : strP p = S) (hk : OneKind p.kind) (hz : z < 8) (hj : j < S.size) (hv : S.data.toList.getD j 0 = v) (hx : v'.toNat = v.toNat ^^^ (1 + (z * 37 + j * 11) % 255)) :
  NoAsk (ByteArray.mk (S.data.toList.set j v').toArray) := by
 obtain ⟨hm, ho, _⟩ := pack_parts hb
 obtain ⟨hfl, hh, _⟩ := parts_back hm ho
 obtain ⟨k1, k2, k3, k4⟩ := hk
 have hid : idOf S = 16 * p.kind + flagsZ p := by
  rw [← hS]
  have e : strP p = strOfNums [16 * p.kind + flagsZ p] ++ (strOfNums (numZ (restP p).size) ++ restP p) := by unfold strP; rw [ByteArray.append_assoc]
  rw [e]
  exact (byte_back (by omega) _).1
 have hl : 0 < S.data.toList.length := by rw [Array.length_toList]; show 0 < S.size; omega
 have hid2 : idOf S = ((S.data.toList.getD 0 0).toNat : Int) := by
  have := id_mk S.data.toList hl
  rwa [Array.toArray_toList] at this
 have hl2 : 0 < (S.data.toList.set j v').length := by rw [List.length_set]; exact hl
 have key : idOf (ByteArray.mk (S.data.toList.set j v').toArray) = (((S.data.toList.set j v').getD 0 0).toNat : Int) := id_mk _ hl2
 unfold NoAsk
 rw [key]
 by_cases h0 : j = 0
 ·subst h0
  have hv0 : (S.data.toList.set 0 v').getD 0 0 = v' := by
   rw [List.getD_eq_getElem?_getD, List.getElem?_set_self hl]
   rfl
  rw [hv0]
  rw [hv] at hid2
  have hc : ((v.toNat : Nat) : Int) = 16 * p.kind + flagsZ p := hid2.symm.trans hid
  have hn := near_one (c := v.toNat) (z := z) v.toNat_lt hz (by rw [hc]; exact hh) (by omega) (by omega)
  have hx' : v'.toNat = v.toNat ^^^ (1 + z * 37 % 255) := by rw [hx]; congr 2; 
  omega
 ·have hv0 : (S.data.toList.set j v').getD 0 0 = S.data.toList.getD 0 0 := by
   rw [List.getD_eq_getElem?_getD, List.getD_eq_getElem?_getD, List.getElem?_set_ne h0]
  rw [hv0, ← hid2, hid]
  omega
end Go.Proofs.YtdbbcfohjkgdcaaGreat
