/- PropBack: what its walk calls. -/
import Derived.Test.YthjlbdplhhgcpaaPropPlainWrote
import Derived.Test.YthjlbdplhhgcpaaPropLawBytes
namespace Go.Proofs.Ythjlbdplhhgcpaa
open Go.RowKit Go.Lib Prp Vbi

theorem fit_good {p : P} (hk : kindZ p.id ≠ 0) (hv : valB (kindZ p.id) p = true) : Fit p := by
  obtain ⟨i1, i2⟩ := kind_id hk
  have hr := kind_range p.id
  have z0 : (⟨#[]⟩ : ByteArray).size = 0 := rfl
  obtain ⟨k, hkk⟩ : ∃ k, kindZ p.id = k := ⟨_, rfl⟩
  rw [hkk] at hk hv hr
  rcases kind_seven hr.1 hr.2 hk with rfl | rfl | rfl | rfl | rfl | rfl | rfl
  · obtain ⟨h1, h2, h3⟩ := valB_1 hv; exact ⟨by omega, by omega, by omega, by omega, by rw [h2, z0]; omega, by rw [h3, z0]; omega⟩
  · obtain ⟨h1, h2, h3⟩ := valB_2 hv; exact ⟨by omega, by omega, by omega, by omega, by rw [h2, z0]; omega, by rw [h3, z0]; omega⟩
  · obtain ⟨h1, h2, h3⟩ := valB_3 hv; exact ⟨by omega, by omega, by omega, by omega, by rw [h2, z0]; omega, by rw [h3, z0]; omega⟩
  · obtain ⟨h1, h2, h3⟩ := valB_4 hv; exact ⟨by omega, by omega, by omega, by omega, by rw [h2, z0]; omega, by rw [h3, z0]; omega⟩
  · obtain ⟨h1, h2, h3⟩ := valB_5 hv
    have := text_sz h2
    exact ⟨by omega, by omega, by omega, by omega, by omega, by rw [h3, z0]; omega⟩
  · obtain ⟨h1, h2, h3⟩ := valB_6 hv
    have : p.s.size ≤ 1024 := of_decide_eq_true h2
    exact ⟨by omega, by omega, by omega, by omega, by omega, by rw [h3, z0]; omega⟩
  · obtain ⟨h1, h2, h3⟩ := valB_7 hv
    have := text_sz h2
    have := text_sz h3
    exact ⟨by omega, by omega, by omega, by omega, by omega, by omega⟩
theorem prop_size {place : Int} {l : List P} (h : propsB place l = true) : (propStr l).size ≤ 20000 := by
  obtain ⟨_, h8, hg⟩ := props_parts h
  have hcs := cat_size l [] hg
  unfold propStr
  rw [rest_cat, ByteArray.size_append, strOfNums_size, numZ_len (by omega)]
  have := (numLen_le (catStr l).size).2
  omega
theorem cut_cases {place : Int} {l : List P} (h : propsB place l = true) (i : Nat) (hi : i < (propStr l).size) : tn ((propStr l).extract 0 i).data.toList = (0, 0, 7) ∨
    ∃ m q : Nat, tn ((propStr l).extract 0 i).data.toList = ((m : Int), (q : Int), 0) ∧ ((propStr l).extract 0 i).size < q + m ∧ m < 268435456 ∧ q ≤ ((propStr l).extract 0 i).size := by
  obtain ⟨hp, h8, hg⟩ := props_parts h
  have hcs := cat_size l [] hg
  unfold propStr at hi ⊢
  rw [rest_cat] at hi ⊢
  obtain ⟨R, hR⟩ : ∃ R, catStr l = R := ⟨_, rfl⟩
  rw [hR] at hcs hi ⊢
  have hR28 : R.size < 268435456 := by omega
  obtain ⟨N, hN⟩ : ∃ N, strOfNums (numZ R.size) = N := ⟨_, rfl⟩
  rw [ByteArray.size_append] at hi
  by_cases hiN : i < N.size
  · have htn := num_cut hR28 i (by rw [hN]; exact hiN)
    rw [hN] at htn ⊢
    rw [ext_left N R i (by omega)]
    exact .inl htn
  · have htn := num_back hR28 (R.extract 0 (i - N.size))
    rw [hN] at htn hi ⊢
    rw [ext_both N R i (by omega)]
    have hsz : (N ++ R.extract 0 (i - N.size)).size = i := by rw [ByteArray.size_append, ByteArray.size_extract]; omega
    exact .inr ⟨R.size, N.size, htn, by omega, hR28, by omega⟩

set_option maxRecDepth 100000 in
set_option maxHeartbeats 4000000 in
/-- Cut off anywhere: the answer, and the world as it was. -/
theorem Take_cut (place : Int) (s : ByteArray) (w : World) (hs : s.size ≤ 281474976710656) (hx : placeB place = true)
    (h : tn s.data.toList = (0, 0, 7) ∨ ∃ m q : Nat, tn s.data.toList = ((m : Int), (q : Int), 0) ∧ s.size < q + m ∧ m < 268435456 ∧ q ≤ s.size) :
    Calls Try.prog 22 #[.int .i64 place, .string s] w fun e w' => e = .returned (.tuple #[.slice none 0 0, .int .i64 0, .int .i64 7]) ∧ w = w' := by
  have HP := Lib.hid (fun W => isPlace_is place true W hx)
  rcases h with ht | ⟨m, q, ht, h7, hm, hq⟩
  · have HT := Lib.hid (fun W => TakeNum_z s 0 0 7 W (by omega) ht)
    clear hx ht
    go_enter Try.func22, Try.ntmps22
    go_wp2_with (first | (go_at_call 28; refine (HP.out _).mono ?_; rintro e w' ⟨rfl, rfl⟩) | (go_at_call 40; refine (HT.out _).mono ?_; rintro e w' ⟨rfl, rfl⟩))
    go_ret3
    exact ⟨rfl, rfl⟩
  · have HT := Lib.hid (fun W => TakeNum_z s (m : Int) (q : Int) 0 W (by omega) ht)
    have hlt : (s.size : Int) - (q : Int) < (m : Int) := by omega
    clear hx ht
    go_enter Try.func22, Try.ntmps22
    go_wp2_with (first | (go_at_call 28; refine (HP.out _).mono ?_; rintro e w' ⟨rfl, rfl⟩) | (go_at_call 40; refine (HT.out _).mono ?_; rintro e w' ⟨rfl, rfl⟩))
    go_ret3
    exact ⟨rfl, rfl⟩
end Go.Proofs.Ythjlbdplhhgcpaa
