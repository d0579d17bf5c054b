/- Package vbi, and the document's own answer: texts, and bytes, with their lengths ahead. -/
import Derived.Test.YtiancngpknnkaaaGreatB01
import Derived.Lib.ItoaWalk
import Derived.Test.YtiancngpknnkaaaGreatB02
set_option maxRecDepth 100000
set_option maxHeartbeats 64000000
namespace Go.Proofs.YtiancngpknnkaaaGreat
open Go.RowKit Go.Lib Txt
open Go.RowKit Go.Lib Txt
open Go.RowKit Go.Lib Vbi Txt
def binErr (s : ByteArray) : Int := if 1024 < s.size then 2 else 0
def binStr (s : ByteArray) : ByteArray := if 1024 < s.size then ⟨#[]⟩ else strOfNums (fixZ 2 s.size) ++ s
def tbN (s : ByteArray) : Nat := fixVal (s.data.toList.take 2)
def tb (s : ByteArray) : ByteArray × Int × Int :=
  if s.size < 2 then (⟨#[]⟩, 0, 7) else if 1024 < tbN s then (⟨#[]⟩, 0, 2) else if s.size < 2 + tbN s then (⟨#[]⟩, 0, 7) else (s.extract 2 (2 + tbN s), ((2 + tbN s : Nat) : Int), 0)
theorem tb_cases (s : ByteArray) : (s.size < 2 ∧ tb s = (⟨#[]⟩, 0, 7)) ∨ (2 ≤ s.size ∧ 1024 < tbN s ∧ tb s = (⟨#[]⟩, 0, 2)) ∨ (2 ≤ s.size ∧ tbN s ≤ 1024 ∧ s.size < 2 + tbN s ∧ tb s = (⟨#[]⟩, 0, 7)) ∨
    (tbN s ≤ 1024 ∧ 2 + tbN s ≤ s.size ∧ tb s = (s.extract 2 (2 + tbN s), ((2 + tbN s : Nat) : Int), 0)) := by
  unfold tb
  by_cases h1 : s.size < 2
  · rw [if_pos h1]; exact .inl ⟨h1, rfl⟩
  · rw [if_neg h1]
    by_cases h2 : 1024 < tbN s
    · rw [if_pos h2]; exact .inr (.inl ⟨by omega, h2, rfl⟩)
    · rw [if_neg h2]
      by_cases h3 : s.size < 2 + tbN s
      · rw [if_pos h3]; exact .inr (.inr (.inl ⟨by omega, by omega, h3, rfl⟩))
      · rw [if_neg h3]; exact .inr (.inr (.inr ⟨by omega, by omega, rfl⟩))
theorem Clone_same (s : ByteArray) (w : World) (h : s.size ≤ 281474976710656) :
    Calls Tryz.prog 69 #[.string s] w fun e w' => e = .returned (.string s) ∧ Below w.heap.size w w' := by
  have HC := Lib.hid (fun W => Tryz.stringslite_Clone s W h)
  go_enter Tryz.func69, Tryz.ntmps69
  go_wp2_with fail
  refine (HC.out _).mono ?_
  rintro e w1 ⟨rfl, hb⟩
  go_wp2_with fail
  go_ret
  exact ⟨rfl, hb⟩
theorem fix2_size (n : Nat) : (strOfNums (fixZ 2 n)).size = 2 := by rw [strOfNums_size, fixZ_len]
theorem fix2_of (n : Nat) (h : n < 65536) : fixStr 2 (n : Int) = strOfNums (fixZ 2 n) ∧ fixErr 2 (n : Int) = 0 := by
  rcases fix_cases 2 (n : Int) with ⟨_, _, e1, e2⟩ | ⟨h0, _⟩
  · exact ⟨e2, e1⟩
  · omega
theorem Bin_good (s S : ByteArray) (w : World) (hs : s.size ≤ 1024) (hS : strOfNums (fixZ 2 s.size) ++ s = S) :
    Calls Tryz.prog 109 #[.string s] w fun e w' => e = .returned (.tuple #[.string S, .int .i64 0]) ∧ Below w.heap.size w w' := by
  subst hS
  have H2 := Lib.hid (fun W => Two_is (s.size : Int) _ _ W (by omega) (fix2_of s.size (by omega)).1 (fix2_of s.size (by omega)).2)
  obtain ⟨T, hT⟩ : ∃ T, T = strOfNums (fixZ 2 s.size) := ⟨_, rfl⟩
  have hz : T.size ≤ 2 := by rw [hT, fix2_size]; omega
  rw [← hT] at H2
  rw [← hT]
  clear hT
  have hd : decide (1024 < (s.size : Int)) = false := by simp; omega
  go_enter Tryz.func109, Tryz.ntmps109
  go_wp2_with fail
  refine (H2.out _).mono ?_
  rintro e w1 ⟨rfl, hb⟩
  go_wp2_with fail
  go_ret2
  exact ⟨rfl, hb⟩
theorem Bin_bad (s : ByteArray) (w : World) (hs : 1024 < s.size) :
    Calls Tryz.prog 109 #[.string s] w fun e w' => e = .returned (.tuple #[.string ⟨#[]⟩, .int .i64 2]) ∧ Below w.heap.size w w' := by
  have hd : decide (1024 < (s.size : Int)) = true := by simp; omega
  go_enter Tryz.func109, Tryz.ntmps109
  go_wp2_with fail
  go_ret2
  exact ⟨rfl, Below.refl _ _⟩
theorem Bin_is (s S : ByteArray) (E : Int) (w : World) (hS : binStr s = S) (hE : binErr s = E) :
    Calls Tryz.prog 109 #[.string s] w fun e w' => e = .returned (.tuple #[.string S, .int .i64 E]) ∧ Below w.heap.size w w' := by
  subst hS hE
  unfold binStr binErr
  by_cases h : 1024 < s.size
  · rw [if_pos h, if_pos h]; exact Bin_bad s w h
  · rw [if_neg h, if_neg h]; exact Bin_good s _ w (by omega) rfl
theorem TakeTwo_cut (s : ByteArray) (w : World) (hs : s.size < 2) : Calls Tryz.prog 166 #[.string s] w fun e w' => e = .returned (.tuple #[.int .i64 0, .int .i64 7]) ∧ w = w' :=
  (TakeTwo_ok s w (by omega)).mono fun e w' h => by
    unfold TfOk at h
    rw [(tf_cut (wd := 2) (l := s.data.toList) (by rw [← Lib.size_eq]; exact hs)).1, (tf_cut (wd := 2) (l := s.data.toList) (by rw [← Lib.size_eq]; exact hs)).2] at h
    exact ⟨h.1, h.2.symm⟩
theorem TakeTwo_good (s : ByteArray) (n : Nat) (w : World) (hs : 2 ≤ s.size) (hm : s.size ≤ 9223372036854775807) (hn : tbN s = n) : Calls Tryz.prog 166 #[.string s] w fun e w' => e = .returned (.tuple #[.int .i64 (n : Int), .int .i64 0]) ∧ w = w' :=
  (TakeTwo_ok s w hm).mono fun e w' h => by
    subst hn
    unfold TfOk at h
    rw [(tf_good (wd := 2) (l := s.data.toList) (by rw [← Lib.size_eq]; exact hs)).1, (tf_good (wd := 2) (l := s.data.toList) (by rw [← Lib.size_eq]; exact hs)).2] at h
    exact ⟨h.1, h.2.symm⟩
theorem TakeBin_is (s S : ByteArray) (K E : Int) (w : World) (hm : s.size ≤ 281474976710656) (h : tb s = (S, K, E)) :
    Calls Tryz.prog 147 #[.string s] w fun e w' => e = .returned (.tuple #[.string S, .int .i64 K, .int .i64 E]) ∧ Below w.heap.size w w' := by
  obtain ⟨n, hn⟩ : ∃ n, tbN s = n := ⟨_, rfl⟩
  rcases tb_cases s with ⟨h1, e⟩ | ⟨h1, h2, e⟩ | ⟨h1, h2, h3, e⟩ | ⟨h1, h2, e⟩
  · rw [e] at h
    obtain ⟨rfl, rfl, rfl⟩ : ⟨#[]⟩ = S ∧ 0 = K ∧ 7 = E := by simpa using h
    have HT := Lib.hid (fun W => TakeTwo_cut s W h1)
    clear h e hn
    go_enter Tryz.func147, Tryz.ntmps147
    go_wp2_with fail
    refine (HT.out _).mono ?_
    rintro e w1 ⟨rfl, rfl⟩
    go_wp2_with fail
    go_ret3
    exact ⟨rfl, Below.refl _ _⟩
  · rw [e] at h
    obtain ⟨rfl, rfl, rfl⟩ : ⟨#[]⟩ = S ∧ 0 = K ∧ 2 = E := by simpa using h
    have HT := Lib.hid (fun W => TakeTwo_good s n W h1 (by omega) hn)
    rw [hn] at h2
    clear h e hn
    go_enter Tryz.func147, Tryz.ntmps147
    go_wp2_with fail
    refine (HT.out _).mono ?_
    rintro e w1 ⟨rfl, rfl⟩
    go_wp2_with fail
    go_ret3
    exact ⟨rfl, Below.refl _ _⟩
  · rw [e] at h
    obtain ⟨rfl, rfl, rfl⟩ : ⟨#[]⟩ = S ∧ 0 = K ∧ 7 = E := by simpa using h
    have HT := Lib.hid (fun W => TakeTwo_good s n W h1 (by omega) hn)
    rw [hn] at h2 h3
    clear h e hn
    go_enter Tryz.func147, Tryz.ntmps147
    go_wp2_with fail
    refine (HT.out _).mono ?_
    rintro e w1 ⟨rfl, rfl⟩
    go_wp2_with fail
    go_ret3
    exact ⟨rfl, Below.refl _ _⟩
  · rw [e] at h
    rw [hn] at h h1 h2
    obtain ⟨hS, rfl, rfl⟩ : s.extract 2 (2 + n) = S ∧ ((2 + n : Nat) : Int) = K ∧ 0 = E := by
      injection h with a b
      injection b with b c
      exact ⟨a, b, c⟩
    have HT := Lib.hid (fun W => TakeTwo_good s n W (by omega) (by omega) hn)
    have hz : (s.extract 2 (2 + n)).size ≤ 1024 := by rw [ByteArray.size_extract]; omega
    have HC := Lib.hid (fun W => Clone_same (s.extract 2 (2 + n)) W (by omega))
    have HS := Lib.hid hS
    clear h e hn hS
    go_enter Tryz.func147, Tryz.ntmps147
    go_wp2_with fail
    refine (HT.out _).mono ?_
    rintro e w1 ⟨rfl, rfl⟩
    go_wp2_with (go_at_call 69; refine (HC.out _).mono ?_; rintro e w1 ⟨rfl, hb⟩)
    go_ret3
    refine ⟨?_, hb⟩
    rw [← HS.out]
    rfl
end Go.Proofs.YtiancngpknnkaaaGreat
