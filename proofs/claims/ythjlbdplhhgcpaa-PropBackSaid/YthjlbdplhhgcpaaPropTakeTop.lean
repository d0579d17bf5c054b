/- Package prop: properties are taken, their length ahead. -/
import Derived.Test.YthjlbdplhhgcpaaPropTakePlain
import Derived.Test.YthjlbdplhhgcpaaPropTakeAll
import Derived.Test.YthjlbdplhhgcpaaPropLeaf
namespace Go.Proofs.Ythjlbdplhhgcpaa
open Go.RowKit Go.Lib Prp Vbi

/-- What is given: properties in a row of the call's own, how many bytes, the error. -/
def GivesTake (L : List P) (K E : Int) (w : World) (e : Ending) (w' : World) : Prop := ∃ A c, e = .returned (.tuple #[.slice A L.length c, .int .i64 K, .int .i64 E]) ∧ TA w A c L w'

set_option maxRecDepth 100000 in
set_option maxHeartbeats 4000000 in
theorem Take_is (place : Int) (s : ByteArray) (L : List P) (K E : Int) (w : World) (hs : s.size ≤ 281474976710656) (h : takeP place s = (L, K, E)) :
    Calls Try.prog 22 #[.int .i64 place, .string s] w (GivesTake L K E w) := by
  obtain ⟨x, hx⟩ : ∃ x, placeB place = x := ⟨_, rfl⟩
  have HP := Lib.hid (fun W => isPlace_is place x W hx)
  cases x with
  | false =>
    rw [takeP_place s hx] at h
    obtain ⟨rfl, rfl, rfl⟩ : [] = L ∧ 0 = K ∧ 1 = E := by
      injection h with h1 h2
      injection h2 with h2 h3
      exact ⟨h1, h2, h3⟩
    clear hx h
    go_enter Try.func22, Try.ntmps22
    go_wp2_with (go_at_call 28; refine (HP.out _).mono ?_; rintro e w' ⟨rfl, rfl⟩)
    go_ret3
    exact ⟨none, 0, rfl, .nil w⟩
  | true =>
    rcases takeP_cases s hx with ⟨E', ht, hE, e⟩ | ⟨m, q, ht, hq, hm, h7, e⟩ | ⟨m, q, E', ht, hq, hm, h7, hta, hE, e⟩ | ⟨m, q, L', ht, hq, hm, h7, hta, e⟩
    · rw [e] at h
      obtain ⟨rfl, rfl, rfl⟩ : [] = L ∧ 0 = K ∧ E' = E := by
        injection h with h1 h2
        injection h2 with h2 h3
        exact ⟨h1, h2, h3⟩
      have HT := Lib.hid (fun W => TakeNum_z s 0 0 E' W (by omega) ht)
      have hEb := ne_true hE
      clear hx h e ht hE
      go_enter Try.func22, Try.ntmps22
      go_wp2_with (first | (go_at_call 28; refine (HP.out _).mono ?_; rintro e w' ⟨rfl, rfl⟩) | (go_at_call 40; refine (HT.out _).mono ?_; rintro e w' ⟨rfl, rfl⟩))
      go_ret3
      exact ⟨none, 0, rfl, .nil w⟩
    · rw [e] at h
      obtain ⟨rfl, rfl, rfl⟩ : [] = L ∧ 0 = K ∧ 7 = E := by
        injection h with h1 h2
        injection h2 with h2 h3
        exact ⟨h1, h2, h3⟩
      have HT := Lib.hid (fun W => TakeNum_z s (m : Int) (q : Int) 0 W (by omega) ht)
      have hlt : (s.size : Int) - (q : Int) < (m : Int) := by omega
      clear hx h e ht
      go_enter Try.func22, Try.ntmps22
      go_wp2_with (first | (go_at_call 28; refine (HP.out _).mono ?_; rintro e w' ⟨rfl, rfl⟩) | (go_at_call 40; refine (HT.out _).mono ?_; rintro e w' ⟨rfl, rfl⟩))
      go_ret3
      exact ⟨none, 0, rfl, .nil w⟩
    · rw [e] at h
      obtain ⟨rfl, rfl, rfl⟩ : [] = L ∧ 0 = K ∧ E' = E := by
        injection h with h1 h2
        injection h2 with h2 h3
        exact ⟨h1, h2, h3⟩
      have HT := Lib.hid (fun W => TakeNum_z s (m : Int) (q : Int) 0 W (by omega) ht)
      have HA := Lib.hid (fun W => takeAll_is place (s.extract q (q + m)) (s.size + 1) [] E' W (by rw [ByteArray.size_extract]; omega) (by rw [ByteArray.size_extract]; omega) hta)
      have hlt : ¬ (s.size : Int) - (q : Int) < (m : Int) := by omega
      have hdl : decide ((s.size : Int) - (q : Int) < (m : Int)) = false := decide_eq_false hlt
      have hq0 : (0 : Int) ≤ (q : Int) := by omega
      have hqm : (q : Int) ≤ (q : Int) + (m : Int) := by omega
      have hqs : (q : Int) + (m : Int) ≤ (s.size : Int) := by omega
      have htn : ((q : Int) + (m : Int)).toNat = q + m := by omega
      have hEb := ne_true hE
      clear hx h e ht hta hE
      go_enter Try.func22, Try.ntmps22
      go_wp2_with (first | (go_at_call 28; refine (HP.out _).mono ?_; rintro e w' ⟨rfl, rfl⟩) | (go_at_call 40; refine (HT.out _).mono ?_; rintro e w' ⟨rfl, rfl⟩))
      refine (HA.out _).mono ?_
      rintro e w1 ⟨A, c, rfl, hta⟩
      have HTA := Lib.hid hta
      clear hta HA HT HP
      go_wp2_with fail
      go_ret3
      exact ⟨none, 0, rfl, .mk (World.ownsRow_nil _ _ _ _) HTA.out.out.2⟩
    · rw [e] at h
      obtain ⟨rfl, rfl, rfl⟩ : L' = L ∧ (q : Int) + (m : Int) = K ∧ 0 = E := by
        injection h with h1 h2
        injection h2 with h2 h3
        exact ⟨h1, h2, h3⟩
      have HT := Lib.hid (fun W => TakeNum_z s (m : Int) (q : Int) 0 W (by omega) ht)
      have HA := Lib.hid (fun W => takeAll_is place (s.extract q (q + m)) (s.size + 1) L' 0 W (by rw [ByteArray.size_extract]; omega) (by rw [ByteArray.size_extract]; omega) hta)
      have hlt : ¬ (s.size : Int) - (q : Int) < (m : Int) := by omega
      have hdl : decide ((s.size : Int) - (q : Int) < (m : Int)) = false := decide_eq_false hlt
      have hq0 : (0 : Int) ≤ (q : Int) := by omega
      have hqm : (q : Int) ≤ (q : Int) + (m : Int) := by omega
      have hqs : (q : Int) + (m : Int) ≤ (s.size : Int) := by omega
      have htn : ((q : Int) + (m : Int)).toNat = q + m := by omega
      clear hx h e ht hta
      go_enter Try.func22, Try.ntmps22
      go_wp2_with (first | (go_at_call 28; refine (HP.out _).mono ?_; rintro e w' ⟨rfl, rfl⟩) | (go_at_call 40; refine (HT.out _).mono ?_; rintro e w' ⟨rfl, rfl⟩))
      refine (HA.out _).mono ?_
      rintro e w1 ⟨A, c, rfl, hta⟩
      have HTA := Lib.hid hta
      clear hta HA HT HP
      go_wp2_with fail
      go_ret3
      exact ⟨A, c, rfl, HTA.out⟩
end Go.Proofs.Ythjlbdplhhgcpaa
