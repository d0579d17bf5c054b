/- Package vbi, and the document's own answer: texts, or bytes, with their lengths ahead: both ways. -/
import Derived.Test.YthjlbdplhhgcpaaVbiText
namespace Go.Proofs.Ythjlbdplhhgcpaa
open Go.RowKit Go.Lib Vbi Txt

def loErr (t : Bool) (s : ByteArray) : Int := if t = true then textErr s.data.toList else binErr s
def loStr (t : Bool) (s : ByteArray) : ByteArray := if loErr t s = 0 then strOfNums (fixZ 2 s.size) ++ s else ⟨#[]⟩
def tlErr (t : Bool) (s : ByteArray) : Int := if t = true then textErr s.data.toList else 0
def tl (t : Bool) (s : ByteArray) : ByteArray × Int × Int := if (tb s).2.2 = 0 ∧ tlErr t (tb s).1 ≠ 0 then (⟨#[]⟩, 0, tlErr t (tb s).1) else tb s
theorem textErr_zero {l : List UInt8} (h : textErr l = 0) : l.length ≤ 1024 := by
  unfold textErr at h
  by_cases c : 1024 < l.length
  · rw [if_pos c] at h; cases h
  · omega
theorem loErr_zero {t : Bool} {s : ByteArray} (h : loErr t s = 0) : s.size ≤ 1024 := by
  unfold loErr at h
  cases t with
  | true => rw [if_pos rfl] at h; rw [Lib.size_eq]; exact textErr_zero h
  | false =>
    rw [if_neg (by simp)] at h
    unfold binErr at h
    by_cases c : 1024 < s.size
    · rw [if_pos c] at h; cases h
    · omega
theorem lo_cases (t : Bool) (s : ByteArray) : (loErr t s = 0 ∧ s.size ≤ 1024 ∧ loStr t s = strOfNums (fixZ 2 s.size) ++ s) ∨ (loErr t s ≠ 0 ∧ loStr t s = ⟨#[]⟩) := by
  unfold loStr
  by_cases h : loErr t s = 0
  · rw [if_pos h]; exact .inl ⟨h, loErr_zero h, rfl⟩
  · rw [if_neg h]; exact .inr ⟨h, rfl⟩
theorem bin_lo (s : ByteArray) : binErr s = loErr false s ∧ binStr s = loStr false s := by
  have he : loErr false s = binErr s := by unfold loErr; rw [if_neg (by simp)]
  refine ⟨he.symm, ?_⟩
  unfold loStr
  rw [he]
  unfold binErr binStr
  by_cases c : 1024 < s.size
  · rw [if_pos c, if_pos c, if_neg (by decide)]
  · rw [if_neg c, if_neg c, if_pos rfl]
theorem Check_eq (s : ByteArray) (E : Int) (w : World) (hm : s.size ≤ 9223372036854775807) (hE : textErr s.data.toList = E) :
    Calls Try.prog 70 #[.string s] w fun e w' => e = .returned (.int .i64 E) ∧ Below w.heap.size w w' := by
  rw [← hE]; exact Check_any s w hm
theorem RText_eq (s : ByteArray) (E : Int) (w : World) (hE : textErr s.data.toList = E) :
    Calls Try.prog 52 #[.string s] w fun e w' => e = .returned (.int .i64 E) ∧ w = w' := by
  rw [← hE]; exact (RText_any s w).mono fun _ _ h => ⟨h.1, h.2.symm⟩

set_option maxHeartbeats 1000000 in
/-- vbi.Text. -/
theorem Text_is (s S : ByteArray) (E : Int) (w : World) (hm : s.size ≤ 9223372036854775807) (hS : loStr true s = S) (hE : loErr true s = E) :
    Calls Try.prog 62 #[.string s] w fun e w' => e = .returned (.tuple #[.string S, .int .i64 E]) ∧ Below w.heap.size w w' := by
  have he : textErr s.data.toList = E := by rw [← hE]; rfl
  have HK := Lib.hid (fun W => Check_eq s E W hm he)
  rcases lo_cases true s with ⟨h0, hl, e1⟩ | ⟨h0, e1⟩
  · obtain rfl : 0 = E := h0.symm.trans hE
    have HB := Lib.hid (fun W => Bin_good s S W hl (e1.symm.trans hS))
    clear hS hE he h0 e1
    go_enter Try.func62, Try.ntmps62
    go_wp2_with fail
    refine (HK.out _).mono ?_
    rintro e w1 ⟨rfl, hb1⟩
    have HX := Lib.hid hb1
    clear hb1
    go_wp2_with fail
    refine (HB.out _).mono ?_
    rintro e w2 ⟨rfl, hb2⟩
    go_wp2_with fail
    go_ret2
    exact ⟨rfl, HX.out.trans (hb2.mono HX.out.size)⟩
  · obtain rfl : ⟨#[]⟩ = S := e1.symm.trans hS
    have hne : (E != 0) = true := by rw [bne_iff_ne, ← hE]; exact h0
    clear hS hE he h0 e1
    go_enter Try.func62, Try.ntmps62
    go_wp2_with fail
    refine (HK.out _).mono ?_
    rintro e w1 ⟨rfl, hb1⟩
    have HX := Lib.hid hb1
    clear hb1
    go_wp2_with fail
    go_ret2
    exact ⟨rfl, HX.out⟩

theorem tl_bad {t : Bool} {s : ByteArray} (h : (tb s).2.2 ≠ 0) : tl t s = tb s := by unfold tl; rw [if_neg (fun x => h x.1)]
theorem tl_false (s : ByteArray) : tl false s = tb s := by
  unfold tl; rw [if_neg (fun x => x.2 rfl)]
theorem tl_good {t : Bool} {s T : ByteArray} {K : Int} (h : tb s = (T, K, 0)) (h2 : tlErr t T = 0) : tl t s = (T, K, 0) := by
  unfold tl; rw [if_neg (fun x => x.2 (by rw [h]; exact h2)), h]
theorem tl_wrong {t : Bool} {s T : ByteArray} {K : Int} (h : tb s = (T, K, 0)) (h2 : tlErr t T ≠ 0) : tl t s = (⟨#[]⟩, 0, tlErr t T) := by
  unfold tl; rw [h, if_pos ⟨rfl, h2⟩]
theorem tb_err (s : ByteArray) : ((tb s).2.2 ≠ 0 ∧ (tb s).1 = ⟨#[]⟩ ∧ (tb s).2.1 = 0) ∨ (∃ T K, tb s = (T, K, 0) ∧ T.size ≤ 1024) := by
  rcases tb_cases s with ⟨_, e⟩ | ⟨_, _, e⟩ | ⟨_, _, _, e⟩ | ⟨h1, h2, e⟩
  · left; rw [e]; simp
  · left; rw [e]; simp
  · left; rw [e]; simp
  · right; exact ⟨_, _, e, by rw [ByteArray.size_extract]; omega⟩

set_option maxHeartbeats 1000000 in
/-- vbi.TakeText. -/
theorem TakeText_is (s S : ByteArray) (K E : Int) (w : World) (hm : s.size ≤ 281474976710656) (h : tl true s = (S, K, E)) :
    Calls Try.prog 75 #[.string s] w fun e w' => e = .returned (.tuple #[.string S, .int .i64 K, .int .i64 E]) ∧ Below w.heap.size w w' := by
  rcases tb_err s with ⟨h0, h1, h2⟩ | ⟨T, K', hT, hz⟩
  · rw [tl_bad h0] at h
    rw [h] at h0 h1 h2
    simp only [] at h0 h1 h2
    subst h1 h2
    have HB := Lib.hid (fun W => TakeBin_is s _ _ E W hm h)
    have hne : (E != 0) = true := by rw [bne_iff_ne]; exact h0
    have heq : (E == 0) = false := by rw [beq_eq_false_iff_ne]; exact h0
    clear h h0
    go_enter Try.func75, Try.ntmps75
    go_wp2_with fail
    refine (HB.out _).mono ?_
    rintro e w1 ⟨rfl, hb1⟩
    have HX := Lib.hid hb1
    clear hb1
    go_wp2_with fail
    go_ret3
    exact ⟨rfl, HX.out⟩
  · have HB := Lib.hid (fun W => TakeBin_is s _ _ 0 W hm hT)
    by_cases hc : textErr T.data.toList = 0
    · rw [tl_good (t := true) hT hc] at h
      obtain ⟨rfl, rfl, rfl⟩ : T = S ∧ K' = K ∧ 0 = E := by
        injection h with a b
        injection b with b c
        exact ⟨a, b, c⟩
      have HK := Lib.hid (fun W => Check_eq T 0 W (by omega) hc)
      clear h hc hT
      go_enter Try.func75, Try.ntmps75
      go_wp2_with fail
      refine (HB.out _).mono ?_
      rintro e w1 ⟨rfl, hb1⟩
      have HX := Lib.hid hb1
      clear hb1
      go_wp2_with fail
      refine (HK.out _).mono ?_
      rintro e w2 ⟨rfl, hb2⟩
      go_wp2_with fail
      go_ret3
      exact ⟨rfl, HX.out.trans (hb2.mono HX.out.size)⟩
    · rw [tl_wrong (t := true) hT hc] at h
      have he : textErr T.data.toList = E := by
        injection h with a b
        injection b with b c
      obtain ⟨rfl, rfl⟩ : ⟨#[]⟩ = S ∧ 0 = K := by
        injection h with a b
        injection b with b c
        exact ⟨a, b⟩
      have HK := Lib.hid (fun W => Check_eq T E W (by omega) he)
      have hne : (E != 0) = true := by rw [bne_iff_ne, ← he]; exact hc
      clear h hc hT he
      go_enter Try.func75, Try.ntmps75
      go_wp2_with fail
      refine (HB.out _).mono ?_
      rintro e w1 ⟨rfl, hb1⟩
      have HX := Lib.hid hb1
      clear hb1
      go_wp2_with fail
      refine (HK.out _).mono ?_
      rintro e w2 ⟨rfl, hb2⟩
      go_wp2_with fail
      go_ret3
      exact ⟨rfl, HX.out.trans (hb2.mono HX.out.size)⟩

set_option maxHeartbeats 2000000 in
/-- fairwayref1.TakeLong. -/
theorem RTakeLong_is (t : Bool) (s S : ByteArray) (K E : Int) (w : World) (hm : s.size ≤ 281474976710656) (h : tl t s = (S, K, E)) :
    Calls Try.prog 57 #[.string s, .bool t] w fun e w' => e = .returned (.tuple #[.string S, .int .i64 K, .int .i64 E]) ∧ Below w.heap.size w w' := by
  obtain ⟨n, hn⟩ : ∃ n, tbN s = n := ⟨_, rfl⟩
  rcases tb_cases s with ⟨h1, e⟩ | ⟨h1, h2, e⟩ | ⟨h1, h2, h3, e⟩ | ⟨h1, h2, e⟩
  · rw [tl_bad (by rw [e]; simp), e] at h
    obtain ⟨rfl, rfl, rfl⟩ : ⟨#[]⟩ = S ∧ 0 = K ∧ 7 = E := by simpa using h
    have HT := Lib.hid (fun W => RTakeTwo_cut s W h1)
    clear h e hn
    go_enter Try.func57, Try.ntmps57
    go_wp2_with fail
    refine (HT.out _).mono ?_
    rintro e w1 ⟨rfl, rfl⟩
    go_wp2_with fail
    go_ret3
    exact ⟨rfl, Below.refl _ _⟩
  · rw [tl_bad (by rw [e]; simp), e] at h
    obtain ⟨rfl, rfl, rfl⟩ : ⟨#[]⟩ = S ∧ 0 = K ∧ 2 = E := by simpa using h
    have HT := Lib.hid (fun W => RTakeTwo_good s n W h1 (by omega) hn)
    rw [hn] at h2
    clear h e hn
    go_enter Try.func57, Try.ntmps57
    go_wp2_with fail
    refine (HT.out _).mono ?_
    rintro e w1 ⟨rfl, rfl⟩
    go_wp2_with fail
    go_ret3
    exact ⟨rfl, Below.refl _ _⟩
  · rw [tl_bad (by rw [e]; simp), e] at h
    obtain ⟨rfl, rfl, rfl⟩ : ⟨#[]⟩ = S ∧ 0 = K ∧ 7 = E := by simpa using h
    have HT := Lib.hid (fun W => RTakeTwo_good s n W h1 (by omega) hn)
    rw [hn] at h2 h3
    clear h e hn
    go_enter Try.func57, Try.ntmps57
    go_wp2_with fail
    refine (HT.out _).mono ?_
    rintro e w1 ⟨rfl, rfl⟩
    go_wp2_with fail
    go_ret3
    exact ⟨rfl, Below.refl _ _⟩
  · have HT := Lib.hid (fun W => RTakeTwo_good s n W (by omega) (by omega) hn)
    rw [hn] at h1 h2 e
    clear hn
    by_cases hc : tlErr t (s.extract 2 (2 + n)) = 0
    · rw [tl_good e hc] at h
      obtain ⟨hS, rfl, rfl⟩ : s.extract 2 (2 + n) = S ∧ ((2 + n : Nat) : Int) = K ∧ 0 = E := by
        injection h with a b
        injection b with b c
        exact ⟨a, b, c⟩
      have HS := Lib.hid hS
      cases t with
      | true =>
        have HK := Lib.hid (fun W => RText_eq (s.extract 2 (2 + n)) 0 W hc)
        clear h hc hS e
        go_enter Try.func57, Try.ntmps57
        go_wp2_with fail
        refine (HT.out _).mono ?_
        rintro e w1 ⟨rfl, rfl⟩
        go_wp2_with (go_at_call 52; refine (HK.out _).mono ?_; rintro e w1 ⟨rfl, rfl⟩)
        go_ret3
        refine ⟨?_, Below.refl _ _⟩
        rw [← HS.out]; rfl
      | false =>
        clear h hc hS e
        go_enter Try.func57, Try.ntmps57
        go_wp2_with fail
        refine (HT.out _).mono ?_
        rintro e w1 ⟨rfl, rfl⟩
        go_wp2_with fail
        go_ret3
        refine ⟨?_, Below.refl _ _⟩
        rw [← HS.out]; rfl
    · rw [tl_wrong e hc] at h
      have he : tlErr t (s.extract 2 (2 + n)) = E := by
        injection h with a b
        injection b with b c
      obtain ⟨rfl, rfl⟩ : ⟨#[]⟩ = S ∧ 0 = K := by
        injection h with a b
        injection b with b c
        exact ⟨a, b⟩
      have hne : (E != 0) = true := by rw [bne_iff_ne, ← he]; exact hc
      cases t with
      | true =>
        have HK := Lib.hid (fun W => RText_eq (s.extract 2 (2 + n)) E W he)
        clear h hc e he
        go_enter Try.func57, Try.ntmps57
        go_wp2_with fail
        refine (HT.out _).mono ?_
        rintro e w1 ⟨rfl, rfl⟩
        go_wp2_with (go_at_call 52; refine (HK.out _).mono ?_; rintro e w1 ⟨rfl, rfl⟩)
        go_ret3
        exact ⟨rfl, Below.refl _ _⟩
      | false => exact absurd rfl hc
end Go.Proofs.Ythjlbdplhhgcpaa
