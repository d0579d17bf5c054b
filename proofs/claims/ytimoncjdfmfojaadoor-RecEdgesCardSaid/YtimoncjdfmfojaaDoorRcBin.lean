/- Package vbi: bytes with their length ahead. -/
import Derived.Test.YtimoncjdfmfojaaDoorShelf
import Derived.Test.YtimoncjdfmfojaaDoorRcTake
import Derived.Test.YtimoncjdfmfojaaDoorRcPut
namespace Go.Proofs.YtimoncjdfmfojaaDoor
open Go.RowKit Go.Lib Vbi

theorem Clone_same (s : ByteArray) (w : World) (h : s.size ≤ 281474976710656) :
    Calls Tryd.prog 56 #[.string s] w fun e w' => e = .returned (.string s) ∧ Below w.heap.size w w' := by
  have HC := Lib.hid (fun W => Tryd.stringslite_Clone s W h)
  go_enter Tryd.func56, Tryd.ntmps56
  go_wp2_with fail
  refine (HC.out _).mono ?_
  rintro e w1 ⟨rfl, hb⟩
  go_wp2_with fail
  go_ret
  exact ⟨rfl, hb⟩

theorem fix2_size (n : Nat) : (strOfNums (fixZ 2 n)).size = 2 := by rw [strOfNums_size, fixZ_len]
theorem fix2_of (n : Nat) (h : n < 65536) : fixStr 2 (n : Int) = strOfNums (fixZ 2 n) ∧ fixErr 2 (n : Int) = 0 := by
  rcases fix_cases 2 (n : Int) with ⟨_, _, e1, e2⟩ | ⟨h0, _⟩
  · exact ⟨e2, e1⟩
  · omega

set_option maxHeartbeats 1000000 in
theorem Bin_good (s S : ByteArray) (w : World) (hs : s.size ≤ 1024) (hS : strOfNums (fixZ 2 s.size) ++ s = S) :
    Calls Tryd.prog 46 #[.string s] w fun e w' => e = .returned (.tuple #[.string S, .int .i64 0]) ∧ Below w.heap.size w w' := by
  subst hS
  have H2 := Lib.hid (fun W => Two_is (s.size : Int) _ _ W (by omega) (fix2_of s.size (by omega)).1 (fix2_of s.size (by omega)).2)
  obtain ⟨T, hT⟩ : ∃ T, T = strOfNums (fixZ 2 s.size) := ⟨_, rfl⟩
  have hz : T.size ≤ 2 := by rw [hT, fix2_size]; omega
  rw [← hT] at H2
  rw [← hT]
  clear hT
  have hd : decide (1024 < (s.size : Int)) = false := by simp; omega
  go_enter Tryd.func46, Tryd.ntmps46
  go_wp2_with fail
  refine (H2.out _).mono ?_
  rintro e w1 ⟨rfl, hb⟩
  go_wp2_with fail
  go_ret2
  exact ⟨rfl, hb⟩
set_option maxHeartbeats 2000000 in
/-- vbi.TakeBin. -/
theorem TakeBin_is (s S : ByteArray) (K E : Int) (w : World) (hm : s.size ≤ 281474976710656) (h : tb s = (S, K, E)) :
    Calls Tryd.prog 55 #[.string s] w fun e w' => e = .returned (.tuple #[.string S, .int .i64 K, .int .i64 E]) ∧ Below w.heap.size w w' := by
  obtain ⟨n, hn⟩ : ∃ n, tbN s = n := ⟨_, rfl⟩
  rcases tb_cases s with ⟨h1, e⟩ | ⟨h1, h2, e⟩ | ⟨h1, h2, h3, e⟩ | ⟨h1, h2, e⟩
  · rw [e] at h
    obtain ⟨rfl, rfl, rfl⟩ : ⟨#[]⟩ = S ∧ 0 = K ∧ 7 = E := by simpa using h
    have HT := Lib.hid (fun W => TakeTwo_cut s W h1)
    clear h e hn
    go_enter Tryd.func55, Tryd.ntmps55
    go_wp2_with fail
    refine (HT.out _).mono ?_
    rintro e w1 ⟨rfl, rfl⟩
    go_wp2_with fail
    go_ret3
    exact ⟨rfl, Below.refl _ _⟩
  · rw [e] at h
    obtain ⟨rfl, rfl, rfl⟩ : ⟨#[]⟩ = S ∧ 0 = K ∧ 2 = E := by simpa using h
    have HT := Lib.hid (fun W => TakeTwo_good s n W h1 (by omega) hn)
    rw [hn] at h2
    clear h e hn
    go_enter Tryd.func55, Tryd.ntmps55
    go_wp2_with fail
    refine (HT.out _).mono ?_
    rintro e w1 ⟨rfl, rfl⟩
    go_wp2_with fail
    go_ret3
    exact ⟨rfl, Below.refl _ _⟩
  · rw [e] at h
    obtain ⟨rfl, rfl, rfl⟩ : ⟨#[]⟩ = S ∧ 0 = K ∧ 7 = E := by simpa using h
    have HT := Lib.hid (fun W => TakeTwo_good s n W h1 (by omega) hn)
    rw [hn] at h2 h3
    clear h e hn
    go_enter Tryd.func55, Tryd.ntmps55
    go_wp2_with fail
    refine (HT.out _).mono ?_
    rintro e w1 ⟨rfl, rfl⟩
    go_wp2_with fail
    go_ret3
    exact ⟨rfl, Below.refl _ _⟩
  · rw [e] at h
    rw [hn] at h h1 h2
    obtain ⟨hS, rfl, rfl⟩ : s.extract 2 (2 + n) = S ∧ ((2 + n : Nat) : Int) = K ∧ 0 = E := by
      injection h with a b
      injection b with b c
      exact ⟨a, b, c⟩
    have HT := Lib.hid (fun W => TakeTwo_good s n W (by omega) (by omega) hn)
    have hz : (s.extract 2 (2 + n)).size ≤ 1024 := by rw [ByteArray.size_extract]; omega
    have HC := Lib.hid (fun W => Clone_same (s.extract 2 (2 + n)) W (by omega))
    have HS := Lib.hid hS
    clear h e hn hS
    go_enter Tryd.func55, Tryd.ntmps55
    go_wp2_with fail
    refine (HT.out _).mono ?_
    rintro e w1 ⟨rfl, rfl⟩
    go_wp2_with (go_at_call 56; refine (HC.out _).mono ?_; rintro e w1 ⟨rfl, hb⟩)
    go_ret3
    refine ⟨?_, hb⟩
    rw [← HS.out]
    rfl
end Go.Proofs.YtimoncjdfmfojaaDoor
