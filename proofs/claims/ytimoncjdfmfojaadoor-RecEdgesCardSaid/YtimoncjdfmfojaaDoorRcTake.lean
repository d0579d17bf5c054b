/- Package vbi: numbers of two and of four bytes taken, the highest first. -/
import Derived.Test.YtimoncjdfmfojaaDoorRcOr
namespace Go.Proofs.YtimoncjdfmfojaaDoor
open Go.RowKit Go.Lib Vbi

set_option maxRecDepth 100000 in
set_option maxHeartbeats 2000000 in
theorem takeFixed_ok (s : ByteArray) (wd : Nat) (w : World) (hs : s.size ≤ 9223372036854775807) (hw : wd ≤ 4) :
    Calls Tryd.prog 49 #[.string s, .int .i64 (wd : Int)] w (TfOk wd s.data.toList w) := by
  by_cases hcut : s.size < wd
  · have HC := Lib.hid (tf_cut (wd := wd) (l := s.data.toList) (by rw [← Lib.size_eq]; exact hcut))
    have hcut' : (s.size : Int) < (wd : Int) := by omega
    go_enter Tryd.func49, Tryd.ntmps49
    go_wp2
    go_ret2
    exact tf_ok HC.out.1 HC.out.2
  · have HC := Lib.hid (tf_good (wd := wd) (l := s.data.toList) (by rw [← Lib.size_eq]; omega))
    have hcut' : ¬ (s.size : Int) < (wd : Int) := by omega
    have hcd : decide ((s.size : Int) < (wd : Int)) = false := by simp; omega
    go_enter Tryd.func49, Tryd.ntmps49
    go_wp2_with fail
    go_loop [6, 13] (fun n i => ∃ (k m : Nat), k ≤ wd ∧ i = .int .i64 (k : Int) ∧ n = .int .i64 (m : Int) ∧ m < 256 ^ k ∧ fixVal (s.data.toList.take wd) = fixGo m ((s.data.toList.take wd).drop k)) (fun _ i => wd - (RowKit.intOf i).toNat)
    case atStart => exact ⟨0, 0, by omega, rfl, rfl, by simp, rfl⟩
    case round =>
      obtain ⟨k, m, hk, rfl, rfl, hm, ht⟩ := hrel
      by_cases hlt : k < wd
      · rw [take_drop_at s wd k hlt (by omega)] at ht
        have hks : k < s.size := by omega
        have hb : s[k].toNat < 256 := s[k].toNat_lt
        have hm24 := pow_lt24 hm (by omega)
        have HO := Lib.hid (i64_or8 m s[k].toNat hm24 hb)
        have HM := Lib.hid hm
        have HT := Lib.hid ht
        clear ht hm
        go_wp2_with fail
        go_round
        case rel => exact ⟨k + 1, _, by omega, by go_num, by rw [HO.out], pow_next HM.out hb, HT.out.trans (fixGo_cons _ _ _)⟩
        case measure => simp [RowKit.intOf]; omega
      · obtain rfl : k = wd := by omega
        rw [take_drop_end] at ht
        have HT := Lib.hid ht
        clear ht hm
        go_wp2_with fail
        go_ret2
        exact tf_ok (HC.out.1.trans (by rw [HT.out]; rfl)) HC.out.2

set_option maxHeartbeats 1000000 in
theorem TakeTwo_ok (s : ByteArray) (w : World) (hs : s.size ≤ 9223372036854775807) :
    Calls Tryd.prog 41 #[.string s] w (TfOk 2 s.data.toList w) := by
  go_enter Tryd.func41, Tryd.ntmps41
  go_wp2_with fail
  refine (takeFixed_ok s 2 _ hs (by omega)).mono ?_
  intro e w' h
  unfold TfOk at h
  obtain ⟨rfl, rfl⟩ := h
  go_wp2_with fail
  go_ret2
  exact tf_ok rfl rfl
set_option maxHeartbeats 1000000 in
theorem TakeFour_ok (s : ByteArray) (w : World) (hs : s.size ≤ 9223372036854775807) :
    Calls Tryd.prog 42 #[.string s] w (TfOk 4 s.data.toList w) := by
  go_enter Tryd.func42, Tryd.ntmps42
  go_wp2_with fail
  refine (takeFixed_ok s 4 _ hs (by omega)).mono ?_
  intro e w' h
  unfold TfOk at h
  obtain ⟨rfl, rfl⟩ := h
  go_wp2_with fail
  go_ret2
  exact tf_ok rfl rfl
def tbN (s : ByteArray) : Nat := fixVal (s.data.toList.take 2)
def tb (s : ByteArray) : ByteArray × Int × Int :=
  if s.size < 2 then (⟨#[]⟩, 0, 7) else if 1024 < tbN s then (⟨#[]⟩, 0, 2) else if s.size < 2 + tbN s then (⟨#[]⟩, 0, 7) else (s.extract 2 (2 + tbN s), ((2 + tbN s : Nat) : Int), 0)
theorem tb_cases (s : ByteArray) : (s.size < 2 ∧ tb s = (⟨#[]⟩, 0, 7)) ∨ (2 ≤ s.size ∧ 1024 < tbN s ∧ tb s = (⟨#[]⟩, 0, 2)) ∨ (2 ≤ s.size ∧ tbN s ≤ 1024 ∧ s.size < 2 + tbN s ∧ tb s = (⟨#[]⟩, 0, 7)) ∨
    (tbN s ≤ 1024 ∧ 2 + tbN s ≤ s.size ∧ tb s = (s.extract 2 (2 + tbN s), ((2 + tbN s : Nat) : Int), 0)) := by
  unfold tb
  by_cases h1 : s.size < 2
  · rw [if_pos h1]; exact .inl ⟨h1, rfl⟩
  · rw [if_neg h1]
    by_cases h2 : 1024 < tbN s
    · rw [if_pos h2]; exact .inr (.inl ⟨by omega, h2, rfl⟩)
    · rw [if_neg h2]
      by_cases h3 : s.size < 2 + tbN s
      · rw [if_pos h3]; exact .inr (.inr (.inl ⟨by omega, by omega, h3, rfl⟩))
      · rw [if_neg h3]; exact .inr (.inr (.inr ⟨by omega, by omega, rfl⟩))
theorem tbN_lt (s : ByteArray) : tbN s < 65536 := fixVal_two _

theorem TakeTwo_cut (s : ByteArray) (w : World) (hs : s.size < 2) : Calls Tryd.prog 41 #[.string s] w fun e w' => e = .returned (.tuple #[.int .i64 0, .int .i64 7]) ∧ w = w' :=
  (TakeTwo_ok s w (by omega)).mono fun e w' h => by
    unfold TfOk at h
    rw [(tf_cut (wd := 2) (l := s.data.toList) (by rw [← Lib.size_eq]; exact hs)).1, (tf_cut (wd := 2) (l := s.data.toList) (by rw [← Lib.size_eq]; exact hs)).2] at h
    exact ⟨h.1, h.2.symm⟩
theorem TakeTwo_good (s : ByteArray) (n : Nat) (w : World) (hs : 2 ≤ s.size) (hm : s.size ≤ 9223372036854775807) (hn : tbN s = n) : Calls Tryd.prog 41 #[.string s] w fun e w' => e = .returned (.tuple #[.int .i64 (n : Int), .int .i64 0]) ∧ w = w' :=
  (TakeTwo_ok s w hm).mono fun e w' h => by
    subst hn
    unfold TfOk at h
    rw [(tf_good (wd := 2) (l := s.data.toList) (by rw [← Lib.size_eq]; exact hs)).1, (tf_good (wd := 2) (l := s.data.toList) (by rw [← Lib.size_eq]; exact hs)).2] at h
    exact ⟨h.1, h.2.symm⟩
end Go.Proofs.YtimoncjdfmfojaaDoor
