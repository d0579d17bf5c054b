/- Plain facts on packets: what is taken has few codes, filters, properties. No run of a program is in this file. -/
import Derived.Test.YtdbbcfohjkgdcaaGreatM00
import Derived.Test.YtdbbcfohjkgdcaaGreatM23
set_option maxRecDepth 100000
set_option maxHeartbeats 64000000
namespace Go.Proofs.YtdbbcfohjkgdcaaGreat.Pkt
open Go.Lib Vbi Prp
theorem dec_bit (b : Bool) (Q : Prop) [Decidable Q] (h : Q ↔ bitZ b 1 = 1) : decide Q = b := by
 cases b with
 | true => exact decide_eq_true (h.2 rfl)
 | false => exact decide_eq_false (fun q => by have := h.1 q; simp [bitZ] at this)
theorem parts_back {p : Pk} (h : mayP p = true) (ho : allOk (partsL p) = true) : (0 ≤ flagsZ p ∧ flagsZ p ≤ 15) ∧ headB (16 * p.kind + flagsZ p) = true ∧ partsS (headP (16 * p.kind + flagsZ p)) (.ok (restP p)) = (p, .ok ⟨#[]⟩) := by
 unfold mayP at h
 rw [Bool.and_eq_true, Bool.and_eq_true] at h
 obtain ⟨hk, hf, hx⟩ := h
 have hk := of_decide_eq_true hk
 obtain ⟨n, hn⟩ : ∃ n, 16 * p.kind + flagsZ p = n := ⟨_, rfl⟩
 rw [hn]
 by_cases h3 : p.kind = 3
 ·rw [if_neg (by omega), if_pos h3, Bool.and_eq_true, Bool.and_eq_true, Bool.or_eq_true] at hx
  obtain ⟨hs, hid, hb⟩ := hx
  have hs' := hs
  unfold sendB qosB at hs'
  rw [Bool.and_eq_true] at hs'
  have hq := of_decide_eq_true hs'.1
  have hfl : flagsZ p = bitZ p.dup 8 + 2 * p.q + bitZ p.ret 1 := by unfold flagsZ; rw [if_neg (by omega)]
  rw [bit_mul p.dup 8] at hfl
  have b1 := bit_le p.dup
  have b2 := bit_le p.ret
  have e1 : n / 16 = 3 := by omega
  have hP : headP n = { zp 3 with dup := p.dup, q := p.q, ret := p.ret } := by
   unfold headP
   rw [if_pos e1, dec_bit p.dup (8 ≤ n % 16) (by omega), (by omega : n % 16 / 2 % 4 = p.q), dec_bit p.ret (n % 2 = 1) (by omega)]
  refine ⟨by omega, ?_, ?_⟩
  ·unfold headB
   rw [hP, decide_eq_true (show n / 16 ≠ 0 by omega), if_pos e1]
   exact hs
  ·rw [hP]
   exact back_3 h3 hf ho hq.1 (hid.imp of_decide_eq_true of_decide_eq_true) (of_decide_eq_true hb)
 ·have m3 := (fields hf).n3 h3
  have hz : flagsZ p = flagsZ (zp p.kind) := by
   unfold flagsZ
   rw [m3.1, m3.2.1, m3.2.2.1]
   rfl
  have hr : 0 ≤ flagsZ p ∧ flagsZ p ≤ 15 := by
   rw [hz]
   unfold flagsZ
   split
   ·decide
   ·show 0 ≤ bitZ false 8 + 2 * 0 + bitZ false 1 ∧ bitZ false 8 + 2 * 0 + bitZ false 1 ≤ 15
    decide
  have e1 : n / 16 = p.kind := by omega
  have e2 : n % 16 = flagsZ p := by omega
  have hP : headP n = zp p.kind := by unfold headP; rw [if_neg (by omega), e1]
  refine ⟨hr, ?_, ?_⟩
  ·unfold headB
   rw [hP, e1, e2, decide_eq_true (show p.kind ≠ 0 by omega), if_neg h3]
   show (true && decide (flagsZ (zp p.kind) = flagsZ p)) = true
   rw [decide_eq_true hz.symm]
   rfl
  ·rw [hP]
   rcases (by omega : p.kind = 1 ∨ p.kind = 2 ∨ p.kind = 4 ∨ p.kind = 5 ∨ p.kind = 6 ∨ p.kind = 7 ∨ p.kind = 8 ∨ p.kind = 9 ∨ p.kind = 10 ∨ p.kind = 11 ∨ p.kind = 12 ∨ p.kind = 13 ∨ p.kind = 14 ∨ p.kind = 15) with c | c | c | c | c | c | c | c | c | c | c | c | c | c
   ·rw [if_pos c] at hx
    rw [show zp p.kind = zp 1 by rw [c]]
    exact back_1 c hf ho hx
   ·rw [show zp p.kind = zp 2 by rw [c]]
    exact back_2 c hf ho
   ·rw [show zp p.kind = zp 4 by rw [c]]
    exact back_4 c hf ho
   ·rw [show zp p.kind = zp 5 by rw [c]]
    exact back_5 c hf ho
   ·rw [show zp p.kind = zp 6 by rw [c]]
    exact back_6 c hf ho
   ·rw [show zp p.kind = zp 7 by rw [c]]
    exact back_7 c hf ho
   ·rw [if_neg (by omega), if_neg (by omega), if_pos (by omega)] at hx
    rw [show zp p.kind = zp 8 by rw [c]]
    exact back_8 c hf ho hx
   ·rw [if_neg (by omega), if_neg (by omega), if_neg (by omega), if_pos (by omega)] at hx
    rw [show zp p.kind = zp 9 by rw [c]]
    exact back_9 c hf ho hx
   ·rw [if_neg (by omega), if_neg (by omega), if_pos (by omega)] at hx
    rw [show zp p.kind = zp 10 by rw [c]]
    exact back_10 c hf ho hx
   ·rw [if_neg (by omega), if_neg (by omega), if_neg (by omega), if_pos (by omega)] at hx
    rw [show zp p.kind = zp 11 by rw [c]]
    exact back_11 c hf ho hx
   ·rw [show zp p.kind = zp 12 by rw [c]]
    exact back_12 c hf
   ·rw [show zp p.kind = zp 13 by rw [c]]
    exact back_13 c hf
   ·rw [show zp p.kind = zp 14 by rw [c]]
    exact back_14 c hf ho
   ·rw [show zp p.kind = zp 15 by rw [c]]
    exact back_15 c hf ho
theorem body_back {p : Pk} (h : mayP p = true) (ho : allOk (partsL p) = true) : bodyS (16 * p.kind + flagsZ p) (restP p) = (p, .ok ⟨#[]⟩) := by
 obtain ⟨_, h2, h3⟩ := parts_back h ho
 unfold bodyS
 rw [h2, if_pos rfl, h3]
 rfl
theorem byte_back {c : Int} (h : 0 ≤ c ∧ c ≤ 255) (y : ByteArray) : idOf (strOfNums [c] ++ y) = c ∧ (strOfNums [c] ++ y).extract 1 (strOfNums [c] ++ y).size = y := by
 obtain ⟨n, rfl⟩ : ∃ n : Nat, c = (n : Int) := ⟨c.toNat, by omega⟩
 have hz : (strOfNums [(n : Int)]).size = 1 := by rw [strOfNums_size]; rfl
 refine ⟨?_, ?_⟩
 ·unfold idOf
  rw [data_add, strOf_data]
  show (((UInt8.ofNat ((n : Int).toNat)).toNat : Nat) : Int) = _
  rw [Int.toNat_natCast, u8_ofNat (by omega)]
 ·have := ext_right (strOfNums [(n : Int)]) y
  rw [hz] at this
  exact this
theorem kind_of {p : Pk} (h : mayP p = true) : 1 ≤ p.kind ∧ p.kind ≤ 15 := by
 unfold mayP at h
 rw [Bool.and_eq_true] at h
 exact of_decide_eq_true h.1
theorem pack_parts {p : Pk} (h : packB p = true) : mayP p = true ∧ allOk (partsL p) = true ∧ (strP p).size ≤ 8192 := by
 unfold packB at h
 rw [Bool.and_eq_true, Bool.and_eq_true] at h
 exact ⟨h.1, h.2.1, of_decide_eq_true h.2.2⟩
theorem take_back {p : Pk} (y : ByteArray) (h : packB p = true) : takeS (strP p ++ y) = (p, ((strP p).size : Int), 0) := by
 obtain ⟨hm, ho, h8⟩ := pack_parts h
 obtain ⟨hr, _, _⟩ := parts_back hm ho
 have hk := kind_of hm
 have hbody := body_back hm ho
 unfold strP at h8 ⊢
 obtain ⟨c, hc⟩ : ∃ c, 16 * p.kind + flagsZ p = c := ⟨_, rfl⟩
 rw [hc] at hbody h8 ⊢
 obtain ⟨R, hR⟩ : ∃ R, restP p = R := ⟨_, rfl⟩
 rw [hR] at hbody h8 ⊢
 obtain ⟨N, hN⟩ : ∃ N, strOfNums (numZ R.size) = N := ⟨_, rfl⟩
 rw [hN] at h8 ⊢
 have hs1 : (strOfNums [c]).size = 1 := by rw [strOfNums_size]; rfl
 have hsz : ((strOfNums [c] ++ N) ++ R).size = 1 + N.size + R.size := by rw [ByteArray.size_append, ByteArray.size_append, hs1]
 have ha : (strOfNums [c] ++ N).size = 1 + N.size := by rw [ByteArray.size_append, hs1]
 have htn := num_back (n := R.size) (by omega) (R ++ y)
 rw [hN] at htn
 have eS : ((strOfNums [c] ++ N) ++ R) ++ y = strOfNums [c] ++ (N ++ (R ++ y)) := by rw [ByteArray.append_assoc, ByteArray.append_assoc]
 have eT : ((strOfNums [c] ++ N) ++ R) ++ y = (strOfNums [c] ++ N) ++ (R ++ y) := by rw [ByteArray.append_assoc]
 obtain ⟨b1, b2⟩ := byte_back (c := c) (by omega) (N ++ (R ++ y))
 rw [← eS] at b1 b2
 have hmid := ext_mid (strOfNums [c] ++ N) R y
 rw [← eT, ha] at hmid
 have hSz : (((strOfNums [c] ++ N) ++ R) ++ y).size = 1 + N.size + R.size + y.size := by rw [ByteArray.size_append, hsz]
 rw [hsz]
 obtain ⟨S, hS⟩ : ∃ S, ((strOfNums [c] ++ N) ++ R) ++ y = S := ⟨_, rfl⟩
 rw [hS] at b1 b2 hmid hSz ⊢
 rcases takeS_cases S with ⟨h0, _⟩ | ⟨_, E, ht, hE, _⟩ | ⟨_, m, q, ht, hq, hm28, _, hT⟩
 ·omega
 ·rw [b2, htn] at ht
  injection ht with _ e2
  injection e2 with _ e3
  exact absurd e3.symm hE
 ·rw [b2, htn] at ht
  injection ht with e1 e2
  injection e2 with e2 _
  obtain ⟨rfl, rfl⟩ : R.size = m ∧ N.size = q := by omega
  rcases hT with ⟨h1, _⟩ | ⟨_, h2, _⟩ | ⟨_, _, p', st, hb, he⟩
  ·omega
  ·omega
  ·rw [hmid, b1, hbody] at hb
   injection hb with e3 e4
   rw [he, ← e3, ← e4]
   rfl
open Go.Lib Vbi Prp
structure Few (p : Pk) : Prop where
 cs : p.cs.length ≤ 8
 fs : p.fs.length ≤ 8
 ws : p.w.ps.length ≤ 8
 ps : p.ps.length ≤ 8
theorem Few.zero (k : Int) : Few (zp k) := ⟨Nat.zero_le _, Nat.zero_le _, Nat.zero_le _, Nat.zero_le _⟩
end Go.Proofs.YtdbbcfohjkgdcaaGreat.Pkt
