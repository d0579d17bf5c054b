/- Package vbi, and the document's own answer: texts, or bytes, with their lengths ahead: both ways. -/
import Derived.Test.YtdbbcfohjkgdcaaGreatL00
import Derived.Test.YtdbbcfohjkgdcaaGreatL03
set_option maxRecDepth 100000
set_option maxHeartbeats 64000000
namespace Go.Proofs.YtdbbcfohjkgdcaaGreat
open Go.RowKit Go.Lib Vbi Txt
def binErr (s : ByteArray) : Int := if 1024 < s.size then 2 else 0
def tbN (s : ByteArray) : Nat := fixVal (s.data.toList.take 2)
def tb (s : ByteArray) : ByteArray × Int × Int :=
 if s.size < 2 then (⟨#[]⟩, 0, 7) else if 1024 < tbN s then (⟨#[]⟩, 0, 2) else if s.size < 2 + tbN s then (⟨#[]⟩, 0, 7) else (s.extract 2 (2 + tbN s), ((2 + tbN s : Nat) : Int), 0)
theorem tb_cases (s : ByteArray) : (s.size < 2 ∧ tb s = (⟨#[]⟩, 0, 7)) ∨ (2 ≤ s.size ∧ 1024 < tbN s ∧ tb s = (⟨#[]⟩, 0, 2)) ∨ (2 ≤ s.size ∧ tbN s ≤ 1024 ∧ s.size < 2 + tbN s ∧ tb s = (⟨#[]⟩, 0, 7)) ∨
  (tbN s ≤ 1024 ∧ 2 + tbN s ≤ s.size ∧ tb s = (s.extract 2 (2 + tbN s), ((2 + tbN s : Nat) : Int), 0)) := by
 unfold tb
 by_cases h1 : s.size < 2
 ·rw [if_pos h1]; exact .inl ⟨h1, rfl⟩
 ·rw [if_neg h1]
  by_cases h2 : 1024 < tbN s
  ·rw [if_pos h2]; exact .inr (.inl ⟨by omega, h2, rfl⟩)
  ·rw [if_neg h2]
   by_cases h3 : s.size < 2 + tbN s
   ·rw [if_pos h3]; exact .inr (.inr (.inl ⟨by omega, by omega, h3, rfl⟩))
   ·rw [if_neg h3]; exact .inr (.inr (.inr ⟨by omega, by omega, rfl⟩))
theorem Clone_same (s : ByteArray) (w : World) (h : s.size ≤ 281474976710656) :
  Calls Tryz.prog 54 #[.string s] w fun e w' => e = .returned (.string s) ∧ Below w.heap.size w w' := by
 have HC := Lib.hid (fun W => Tryz.stringslite_Clone s W h)
 go_enter Tryz.func54, Tryz.ntmps54
 go_wp2_with fail
 refine (HC.out _).mono ?_
 rintro e w1 ⟨rfl, hb⟩
 go_wp2_with fail
 go_ret
 exact ⟨rfl, hb⟩
theorem fix2_size (n : Nat) : (strOfNums (fixZ 2 n)).size = 2 := by rw [strOfNums_size, fixZ_len]
theorem TakeTwo_cut (s : ByteArray) (w : World) (hs : s.size < 2) : Calls Tryz.prog 162 #[.string s] w fun e w' => e = .returned (.tuple #[.int .i64 0, .int .i64 7]) ∧ w = w' :=
 (TakeTwo_ok s w (by omega)).mono fun e w' h => by
  unfold TfOk at h
  rw [(tf_cut (wd := 2) (l := s.data.toList) (by rw [← Lib.size_eq]; exact hs)).1, (tf_cut (wd := 2) (l := s.data.toList) (by rw [← Lib.size_eq]; exact hs)).2] at h
  exact ⟨h.1, h.2.symm⟩
theorem TakeTwo_good (s : ByteArray) (n : Nat) (w : World) (hs : 2 ≤ s.size) (hm : s.size ≤ 9223372036854775807) (hn : tbN s = n) : Calls Tryz.prog 162 #[.string s] w fun e w' => e = .returned (.tuple #[.int .i64 (n : Int), .int .i64 0]) ∧ w = w' :=
 (TakeTwo_ok s w hm).mono fun e w' h => by
  subst hn
  unfold TfOk at h
  rw [(tf_good (wd := 2) (l := s.data.toList) (by rw [← Lib.size_eq]; exact hs)).1, (tf_good (wd := 2) (l := s.data.toList) (by rw [← Lib.size_eq]; exact hs)).2] at h
  exact ⟨h.1, h.2.symm⟩
theorem RTakeTwo_cut (s : ByteArray) (w : World) (hs : s.size < 2) : Calls Tryz.prog 129 #[.string s, .int .i64 2] w fun e w' => e = .returned (.tuple #[.int .i64 0, .bool false]) ∧ w = w' :=
 (RTakeFixed_ok s 2 w (by omega) (by omega)).mono fun e w' h => by
  unfold RTfOk at h
  rw [(tf_cut (wd := 2) (l := s.data.toList) (by rw [← Lib.size_eq]; exact hs)).1, (tf_cut (wd := 2) (l := s.data.toList) (by rw [← Lib.size_eq]; exact hs)).2] at h
  exact ⟨h.1, h.2.symm⟩
theorem RTakeTwo_good (s : ByteArray) (n : Nat) (w : World) (hs : 2 ≤ s.size) (hm : s.size ≤ 9223372036854775807) (hn : tbN s = n) : Calls Tryz.prog 129 #[.string s, .int .i64 2] w fun e w' => e = .returned (.tuple #[.int .i64 (n : Int), .bool true]) ∧ w = w' :=
 (RTakeFixed_ok s 2 w hm (by omega)).mono fun e w' h => by
  subst hn
  unfold RTfOk at h
  rw [(tf_good (wd := 2) (l := s.data.toList) (by rw [← Lib.size_eq]; exact hs)).1, (tf_good (wd := 2) (l := s.data.toList) (by rw [← Lib.size_eq]; exact hs)).2] at h
  exact ⟨h.1, h.2.symm⟩
theorem TakeBin_is (s S : ByteArray) (K E : Int) (w : World) (hm : s.size ≤ 281474976710656) (h : tb s = (S, K, E)) :
  Calls Tryz.prog 148 #[.string s] w fun e w' => e = .returned (.tuple #[.string S, .int .i64 K, .int .i64 E]) ∧ Below w.heap.size w w' := by
 obtain ⟨n, hn⟩ : ∃ n, tbN s = n := ⟨_, rfl⟩
 rcases tb_cases s with ⟨h1, e⟩ | ⟨h1, h2, e⟩ | ⟨h1, h2, h3, e⟩ | ⟨h1, h2, e⟩
 ·rw [e] at h
  obtain ⟨rfl, rfl, rfl⟩ : ⟨#[]⟩ = S ∧ 0 = K ∧ 7 = E := by simpa using h
  have HT := Lib.hid (fun W => TakeTwo_cut s W h1)
  clear h e hn
  go_enter Tryz.func148, Tryz.ntmps148
  go_wp2_with fail
  refine (HT.out _).mono ?_
  rintro e w1 ⟨rfl, rfl⟩
  go_wp2_with fail
  go_ret3
  exact ⟨rfl, Below.refl _ _⟩
 ·rw [e] at h
  obtain ⟨rfl, rfl, rfl⟩ : ⟨#[]⟩ = S ∧ 0 = K ∧ 2 = E := by simpa using h
  have HT := Lib.hid (fun W => TakeTwo_good s n W h1 (by omega) hn)
  rw [hn] at h2
  clear h e hn
  go_enter Tryz.func148, Tryz.ntmps148
  go_wp2_with fail
  refine (HT.out _).mono ?_
  rintro e w1 ⟨rfl, rfl⟩
  go_wp2_with fail
  go_ret3
  exact ⟨rfl, Below.refl _ _⟩
 ·rw [e] at h
  obtain ⟨rfl, rfl, rfl⟩ : ⟨#[]⟩ = S ∧ 0 = K ∧ 7 = E := by simpa using h
  have HT := Lib.hid (fun W => TakeTwo_good s n W h1 (by omega) hn)
  rw [hn] at h2 h3
  clear h e hn
  go_enter Tryz.func148, Tryz.ntmps148
  go_wp2_with fail
  refine (HT.out _).mono ?_
  rintro e w1 ⟨rfl, rfl⟩
  go_wp2_with fail
  go_ret3
  exact ⟨rfl, Below.refl _ _⟩
 ·rw [e] at h
  rw [hn] at h h1 h2
  obtain ⟨hS, rfl, rfl⟩ : s.extract 2 (2 + n) = S ∧ ((2 + n : Nat) : Int) = K ∧ 0 = E := by
   injection h with a b
   injection b with b c
   exact ⟨a, b, c⟩
  have HT := Lib.hid (fun W => TakeTwo_good s n W (by omega) (by omega) hn)
  have hz : (s.extract 2 (2 + n)).size ≤ 1024 := by rw [ByteArray.size_extract]; omega
  have HC := Lib.hid (fun W => Clone_same (s.extract 2 (2 + n)) W (by omega))
  have HS := Lib.hid hS
  clear h e hn hS
  go_enter Tryz.func148, Tryz.ntmps148
  go_wp2_with fail
  refine (HT.out _).mono ?_
  rintro e w1 ⟨rfl, rfl⟩
  go_wp2_with (go_at_call 54; refine (HC.out _).mono ?_; rintro e w1 ⟨rfl, hb⟩)
  go_ret3
  refine ⟨?_, hb⟩
  rw [← HS.out]
  rfl
open Go.RowKit Go.Lib Vbi Txt
def loErr (t : Bool) (s : ByteArray) : Int := if t = true then textErr s.data.toList else binErr s
def tlErr (t : Bool) (s : ByteArray) : Int := if t = true then textErr s.data.toList else 0
def tl (t : Bool) (s : ByteArray) : ByteArray × Int × Int := if (tb s).2.2 = 0 ∧ tlErr t (tb s).1 ≠ 0 then (⟨#[]⟩, 0, tlErr t (tb s).1) else tb s
theorem textErr_zero {l : List UInt8} (h : textErr l = 0) : l.length ≤ 1024 := by
 unfold textErr at h
 by_cases c : 1024 < l.length
 ·rw [if_pos c] at h; cases h
 ·omega
theorem loErr_zero {t : Bool} {s : ByteArray} (h : loErr t s = 0) : s.size ≤ 1024 := by
 unfold loErr at h
 cases t with
 | true => rw [if_pos rfl] at h; rw [Lib.size_eq]; exact textErr_zero h
 | false =>
  rw [if_neg (by simp)] at h
  unfold binErr at h
  by_cases c : 1024 < s.size
  ·rw [if_pos c] at h; cases h
  ·omega
theorem Check_eq (s : ByteArray) (E : Int) (w : World) (hm : s.size ≤ 9223372036854775807) (hE : textErr s.data.toList = E) :
  Calls Tryz.prog 110 #[.string s] w fun e w' => e = .returned (.int .i64 E) ∧ Below w.heap.size w w' := by
 rw [← hE]; exact Check_any s w hm
theorem RText_eq (s : ByteArray) (E : Int) (w : World) (hE : textErr s.data.toList = E) :
  Calls Tryz.prog 75 #[.string s] w fun e w' => e = .returned (.int .i64 E) ∧ w = w' := by
 rw [← hE]; exact (RText_any s w).mono fun _ _ h => ⟨h.1, h.2.symm⟩
theorem tl_bad {t : Bool} {s : ByteArray} (h : (tb s).2.2 ≠ 0) : tl t s = tb s := by unfold tl; rw [if_neg (fun x => h x.1)]
theorem tl_false (s : ByteArray) : tl false s = tb s := by
 unfold tl; rw [if_neg (fun x => x.2 rfl)]
theorem tl_good {t : Bool} {s T : ByteArray} {K : Int} (h : tb s = (T, K, 0)) (h2 : tlErr t T = 0) : tl t s = (T, K, 0) := by
 unfold tl; rw [if_neg (fun x => x.2 (by rw [h]; exact h2)), h]
theorem tl_wrong {t : Bool} {s T : ByteArray} {K : Int} (h : tb s = (T, K, 0)) (h2 : tlErr t T ≠ 0) : tl t s = (⟨#[]⟩, 0, tlErr t T) := by
 unfold tl; rw [h, if_pos ⟨rfl, h2⟩]
theorem tb_err (s : ByteArray) : ((tb s).2.2 ≠ 0 ∧ (tb s).1 = ⟨#[]⟩ ∧ (tb s).2.1 = 0) ∨ (∃ T K, tb s = (T, K, 0) ∧ T.size ≤ 1024) := by
 rcases tb_cases s with ⟨_, e⟩ | ⟨_, _, e⟩ | ⟨_, _, _, e⟩ | ⟨h1, h2, e⟩
 ·left; rw [e]; simp
 ·left; rw [e]; simp
 ·left; rw [e]; simp
 ·right; exact ⟨_, _, e, by rw [ByteArray.size_extract]; omega⟩
theorem TakeText_is (s S : ByteArray) (K E : Int) (w : World) (hm : s.size ≤ 281474976710656) (h : tl true s = (S, K, E)) :
  Calls Tryz.prog 163 #[.string s] w fun e w' => e = .returned (.tuple #[.string S, .int .i64 K, .int .i64 E]) ∧ Below w.heap.size w w' := by
 rcases tb_err s with ⟨h0, h1, h2⟩ | ⟨T, K', hT, hz⟩
 ·rw [tl_bad h0] at h
  rw [h] at h0 h1 h2
  simp only [] at h0 h1 h2
  subst h1 h2
  have HB := Lib.hid (fun W => TakeBin_is s _ _ E W hm h)
  have hne : (E != 0) = true := by rw [bne_iff_ne]; exact h0
  have heq : (E == 0) = false := by rw [beq_eq_false_iff_ne]; exact h0
  clear h h0
  go_enter Tryz.func163, Tryz.ntmps163
  go_wp2_with fail
  refine (HB.out _).mono ?_
  rintro e w1 ⟨rfl, hb1⟩
  have HX := Lib.hid hb1
  clear hb1
  go_wp2_with fail
  go_ret3
  exact ⟨rfl, HX.out⟩
 ·have HB := Lib.hid (fun W => TakeBin_is s _ _ 0 W hm hT)
  by_cases hc : textErr T.data.toList = 0
  ·rw [tl_good (t := true) hT hc] at h
   obtain ⟨rfl, rfl, rfl⟩ : T = S ∧ K' = K ∧ 0 = E := by
    injection h with a b
    injection b with b c
    exact ⟨a, b, c⟩
   have HK := Lib.hid (fun W => Check_eq T 0 W (by omega) hc)
   clear h hc hT
   go_enter Tryz.func163, Tryz.ntmps163
   go_wp2_with fail
   refine (HB.out _).mono ?_
   rintro e w1 ⟨rfl, hb1⟩
   have HX := Lib.hid hb1
   clear hb1
   go_wp2_with fail
   refine (HK.out _).mono ?_
   rintro e w2 ⟨rfl, hb2⟩
   go_wp2_with fail
   go_ret3
   exact ⟨rfl, HX.out.trans (hb2.mono HX.out.size)⟩
  ·rw [tl_wrong (t := true) hT hc] at h
   have he : textErr T.data.toList = E := by
    injection h with a b
    injection b with b c
   obtain ⟨rfl, rfl⟩ : ⟨#[]⟩ = S ∧ 0 = K := by
    injection h with a b
    injection b with b c
    exact ⟨a, b⟩
   have HK := Lib.hid (fun W => Check_eq T E W (by omega) he)
   have hne : (E != 0) = true := by rw [bne_iff_ne, ← he]; exact hc
   clear h hc hT he
   go_enter Tryz.func163, Tryz.ntmps163
   go_wp2_with fail
   refine (HB.out _).mono ?_
   rintro e w1 ⟨rfl, hb1⟩
   have HX := Lib.hid hb1
   clear hb1
   go_wp2_with fail
   refine (HK.out _).mono ?_
   rintro e w2 ⟨rfl, hb2⟩
   go_wp2_with fail
   go_ret3
   exact ⟨rfl, HX.out.trans (hb2.mono HX.out.size)⟩
theorem RTakeLong_is (t : Bool) (s S : ByteArray) (K E : Int) (w : World) (hm : s.size ≤ 281474976710656) (h : tl t s = (S, K, E)) :
  Calls Tryz.prog 133 #[.string s, .bool t] w fun e w' => e = .returned (.tuple #[.string S, .int .i64 K, .int .i64 E]) ∧ Below w.heap.size w w' := by
 obtain ⟨n, hn⟩ : ∃ n, tbN s = n := ⟨_, rfl⟩
 rcases tb_cases s with ⟨h1, e⟩ | ⟨h1, h2, e⟩ | ⟨h1, h2, h3, e⟩ | ⟨h1, h2, e⟩
 ·rw [tl_bad (by rw [e]; simp), e] at h
  obtain ⟨rfl, rfl, rfl⟩ : ⟨#[]⟩ = S ∧ 0 = K ∧ 7 = E := by simpa using h
  have HT := Lib.hid (fun W => RTakeTwo_cut s W h1)
  clear h e hn
  go_enter Tryz.func133, Tryz.ntmps133
  go_wp2_with fail
  refine (HT.out _).mono ?_
  rintro e w1 ⟨rfl, rfl⟩
  go_wp2_with fail
  go_ret3
  exact ⟨rfl, Below.refl _ _⟩
 ·rw [tl_bad (by rw [e]; simp), e] at h
  obtain ⟨rfl, rfl, rfl⟩ : ⟨#[]⟩ = S ∧ 0 = K ∧ 2 = E := by simpa using h
  have HT := Lib.hid (fun W => RTakeTwo_good s n W h1 (by omega) hn)
  rw [hn] at h2
  clear h e hn
  go_enter Tryz.func133, Tryz.ntmps133
  go_wp2_with fail
  refine (HT.out _).mono ?_
  rintro e w1 ⟨rfl, rfl⟩
  go_wp2_with fail
  go_ret3
  exact ⟨rfl, Below.refl _ _⟩
 ·rw [tl_bad (by rw [e]; simp), e] at h
  obtain ⟨rfl, rfl, rfl⟩ : ⟨#[]⟩ = S ∧ 0 = K ∧ 7 = E := by simpa using h
  have HT := Lib.hid (fun W => RTakeTwo_good s n W h1 (by omega) hn)
  rw [hn] at h2 h3
  clear h e hn
  go_enter Tryz.func133, Tryz.ntmps133
  go_wp2_with fail
  refine (HT.out _).mono ?_
  rintro e w1 ⟨rfl, rfl⟩
  go_wp2_with fail
  go_ret3
  exact ⟨rfl, Below.refl _ _⟩
 ·have HT := Lib.hid (fun W => RTakeTwo_good s n W (by omega) (by omega) hn)
  rw [hn] at h1 h2 e
  clear hn
  by_cases hc : tlErr t (s.extract 2 (2 + n)) = 0
  ·rw [tl_good e hc] at h
   obtain ⟨hS, rfl, rfl⟩ : s.extract 2 (2 + n) = S ∧ ((2 + n : Nat) : Int) = K ∧ 0 = E := by
    injection h with a b
    injection b with b c
    exact ⟨a, b, c⟩
   have HS := Lib.hid hS
   cases t with
   | true =>
    have HK := Lib.hid (fun W => RText_eq (s.extract 2 (2 + n)) 0 W hc)
    clear h hc hS e
    go_enter Tryz.func133, Tryz.ntmps133
    go_wp2_with fail
    refine (HT.out _).mono ?_
    rintro e w1 ⟨rfl, rfl⟩
    go_wp2_with (go_at_call 75; refine (HK.out _).mono ?_; rintro e w1 ⟨rfl, rfl⟩)
    go_ret3
    refine ⟨?_, Below.refl _ _⟩
    rw [← HS.out]; rfl
   | false =>
    clear h hc hS e
    go_enter Tryz.func133, Tryz.ntmps133
    go_wp2_with fail
    refine (HT.out _).mono ?_
    rintro e w1 ⟨rfl, rfl⟩
    go_wp2_with fail
    go_ret3
    refine ⟨?_, Below.refl _ _⟩
    rw [← HS.out]; rfl
  ·rw [tl_wrong e hc] at h
   have he : tlErr t (s.extract 2 (2 + n)) = E := by
    injection h with a b
    injection b with b c
   obtain ⟨rfl, rfl⟩ : ⟨#[]⟩ = S ∧ 0 = K := by
    injection h with a b
    injection b with b c
    exact ⟨a, b⟩
   have hne : (E != 0) = true := by rw [bne_iff_ne, ← he]; exact hc
   cases t with
   | true =>
    have HK := Lib.hid (fun W => RText_eq (s.extract 2 (2 + n)) E W he)
    clear h hc e he
    go_enter Tryz.func133, Tryz.ntmps133
    go_wp2_with fail
    refine (HT.out _).mono ?_
    rintro e w1 ⟨rfl, rfl⟩
    go_wp2_with (go_at_call 75; refine (HK.out _).mono ?_; rintro e w1 ⟨rfl, rfl⟩)
    go_ret3
    exact ⟨rfl, Below.refl _ _⟩
   | false => exact absurd rfl hc
end Go.Proofs.YtdbbcfohjkgdcaaGreat
