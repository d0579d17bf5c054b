/- The small functions of the fourth layer's statements: an error's number; calls that are right. -/
import Derived.Test.YthjlbdplhhgcpaaPropBytes
namespace Go.Proofs.Ythjlbdplhhgcpaa
open Go.RowKit Go.Lib Prp

set_option maxHeartbeats 1000000 in
theorem num_same (n : Int) (w : World) :
    Calls Try.prog 13 #[.int .i64 n] w fun e w' => e = .returned (.int .i64 n) ∧ w = w' := by
  go_enter Try.func13, Try.ntmps13
  go_wp2
  go_ret
  exact ⟨rfl, rfl⟩
theorem bytes_none : bytesStr 0 [] = ⟨#[0]⟩ ∧ bytesErr 0 [] = 0 := by
  obtain ⟨h1, h2⟩ := bytes_yes (place := 0) (l := []) rfl
  refine ⟨h1.trans ?_, h2⟩
  show strOfNums (Vbi.numZ 0) ++ ⟨#[]⟩ = _
  rw [Vbi.numZ_last (by omega)]
  rfl
set_option maxRecDepth 100000 in
set_option maxHeartbeats 2000000 in
theorem wakes_any (w : World) : Calls Try.prog 14 #[] w fun e w' => e = .returned (.bool true) ∧ Below w.heap.size w w' := by
  have HB := Lib.hid (fun W => Bytes_is 0 [] none 0 _ _ W (by decide) (by decide) (by simp) (.inl rfl) bytes_none.1 bytes_none.2)
  have HK := Lib.hid (fun W => Kind_is 38 7 0 W rfl rfl)
  go_enter Try.func14, Try.ntmps14
  go_wp2_with fail
  refine (HB.out _).mono ?_
  rintro e w1 ⟨rfl, hb⟩
  have HX := Lib.hid hb
  clear hb
  go_wp2_with (first | (go_at_call 13; refine (num_same _ _).mono ?_; rintro e w' ⟨rfl, rfl⟩) | (go_at_call 11; refine (HK.out _).mono ?_; rintro e w' ⟨rfl, rfl⟩))
  go_ret
  exact ⟨rfl, HX.out⟩
end Go.Proofs.Ythjlbdplhhgcpaa
