/- Plain facts: a Publish of so many bytes: its bytes; what a framer tells of them. No run of a program is in this file. -/
import Derived.Test.YtiancngpknnkaaaFramePlain
import Derived.Test.YtiancngpknnkaaaF16
namespace Go.Proofs.Ytiancngpknnkaaa.Pkt
open Go.Lib Vbi Prp

def zeros (n : Nat) : ByteArray := strOfNums (List.replicate n 0)
theorem zeros_size (n : Nat) : (zeros n).size = n := by unfold zeros; rw [strOfNums_size, List.length_replicate]
def edgeP (n : Nat) : Pk := { zp 3 with t := ⟨#[97]⟩, b := zeros n }
def edgeS (n : Nat) : ByteArray := ((⟨#[48]⟩ ++ strOfNums [((4 + n : Nat) : Int)]) ++ ⟨#[0, 1, 97, 0]⟩) ++ zeros n
theorem edge_rest (n : Nat) : restP (edgeP n) = ⟨#[0, 1, 97, 0]⟩ ++ zeros n := by
  show allStr (partsL (edgeP n)) = _
  have e : partsL (edgeP n) = [.words ⟨#[97]⟩, .props 3 [], .raw (zeros n)] := rfl
  rw [e, allStr_cons, allStr_cons, allStr_cons, allStr_nil, add_empty]
  show lgStr ⟨#[97]⟩ ++ (propStr [] ++ zeros n) = _
  rw [← ByteArray.append_assoc]
  have e1 : lgStr ⟨#[97]⟩ = ⟨#[0, 1, 97]⟩ := by rfl
  have e2 : propStr [] = ⟨#[0]⟩ := by
    unfold propStr
    rw [show (restStr []).size = 0 from rfl, numZ_last (by omega)]
    rfl
  rw [e1, e2]
  rfl
theorem edge_str (n : Nat) (h : n ≤ 100) : strP (edgeP n) = edgeS n := by
  unfold strP edgeS
  rw [edge_rest]
  have hz : ((⟨#[0, 1, 97, 0]⟩ : ByteArray) ++ zeros n).size = 4 + n := by rw [ByteArray.size_append, zeros_size]; rfl
  rw [hz, numZ_last (by omega), ← ByteArray.append_assoc]
  rfl
theorem edge_size (n : Nat) : (edgeS n).size = 6 + n := by
  unfold edgeS
  rw [ByteArray.size_append, ByteArray.size_append, ByteArray.size_append, zeros_size, strOfNums_size]
  show 1 + 1 + 4 + n = 6 + n
  omega
theorem edge_pack (n : Nat) (h : n ≤ 100) : packB (edgeP n) = true := by
  unfold packB
  rw [edge_str n h, edge_size n]
  have h1 : mayP (edgeP n) = true := by
    have hf : fieldB (edgeP n) = true := by
      unfold fieldB fieldOf b1 b3 wFilled
      simp [edgeP, zp, zw, E]
    unfold mayP
    rw [hf]
    have hb : (edgeP n).b.size ≤ 1024 := by show (zeros n).size ≤ 1024; rw [zeros_size]; omega
    simp [edgeP, zp, sendB, qosB] at hb ⊢
    exact decide_eq_true hb
  have h2 : allOk (partsL (edgeP n)) = true := by
    have e : partsL (edgeP n) = [.words ⟨#[97]⟩, .props 3 [], .raw (zeros n)] := rfl
    rw [e]
    rfl
  rw [h1, h2, decide_eq_true (by omega)]
  rfl
/-- A packet's bytes tell its length. -/
theorem len_pack {p : Pk} (h : packB p = true) : lenS (strP p) = (((strP p).size : Int), 0) := by
  obtain ⟨hm, ho, h8⟩ := pack_parts h
  obtain ⟨hr, _, _⟩ := parts_back hm ho
  have hk := kind_of hm
  obtain ⟨c, hc⟩ : ∃ c, 16 * p.kind + flagsZ p = c := ⟨_, rfl⟩
  obtain ⟨R, hR⟩ : ∃ R, restP p = R := ⟨_, rfl⟩
  have hs : strP p = strOfNums [c] ++ (strOfNums (numZ R.size) ++ R) := by unfold strP; rw [hc, hR, ByteArray.append_assoc]
  have hs1 : (strOfNums [c]).size = 1 := by rw [strOfNums_size]; rfl
  have hsz : (strP p).size = 1 + (strOfNums (numZ R.size)).size + R.size := by rw [hs, ByteArray.size_append, ByteArray.size_append, hs1]; omega
  have he : (strP p).extract 1 (strP p).size = strOfNums (numZ R.size) ++ R := by rw [hs]; exact (byte_back (by omega) _).2
  unfold lenS
  rw [if_neg (by omega), he, num_back (by omega), if_neg (not_not_intro rfl)]
  show ((1 : Int) + ((strOfNums (numZ R.size)).size : Int) + (R.size : Int), (0 : Int)) = _
  rw [hsz]
  congr 1
theorem feed_whole {p : Pk} {max : Int} (h : packB p = true) (hm : ((strP p).size : Int) ≤ max) : feedS max (strP p) = ([p], ⟨#[]⟩, 0) := by
  have hl := len_pack h
  have ht := take_back ⟨#[]⟩ h
  rw [add_empty] at ht
  have hx : (strP p).extract 0 (strP p).size = strP p := by apply bytes_ext; rw [data_take]; exact List.take_of_length_le (by rw [← Lib.size_eq]; exact Nat.le_refl _)
  have hs : stepS max (strP p) = .one p (strP p).size := by
    unfold stepS
    rw [hl, if_neg (show ¬ (0 : Int) = 7 by decide), if_neg (not_not_intro rfl), if_neg (by show ¬ max < ((strP p).size : Int); omega), if_neg (by show ¬ ((strP p).size : Int) < ((strP p).size : Int); omega)]
    show (if (takeS ((strP p).extract 0 (((strP p).size : Int)).toNat)).2.2 = 0 then Step.one (takeS ((strP p).extract 0 (((strP p).size : Int)).toNat)).1 (((strP p).size : Int)).toNat else _) = _
    rw [Int.toNat_natCast, hx, ht, if_pos rfl]
  rw [feedS_one hs]
  have e : (strP p).extract (strP p).size (strP p).size = ⟨#[]⟩ := by
    apply bytes_ext
    rw [data_drop]
    exact List.drop_of_length_le (by rw [← Lib.size_eq]; exact Nat.le_refl _)
  rw [e, feedS_wait (step_nil rfl)]
theorem feed_over {p : Pk} {max : Int} (h : packB p = true) (hm : max < ((strP p).size : Int)) : feedS max (strP p) = ([], ⟨#[]⟩, 2) := by
  refine feedS_dead ?_
  unfold stepS
  rw [len_pack h, if_neg (show ¬ (0 : Int) = 7 by decide), if_neg (not_not_intro rfl), if_pos hm]
end Go.Proofs.Ytiancngpknnkaaa.Pkt
