/- Numbers of eight bytes, the highest first: the program's, and the document's own. -/
import Derived.Test.YtimoncjdfmfojaaDoorRcTake
import Derived.Test.YtimoncjdfmfojaaDoorRcPut
import Derived.Test.YtimoncjdfmfojaaDoorRcRFix
import Derived.Test.YtimoncjdfmfojaaDoorRcPlain
import Derived.Test.YtimoncjdfmfojaaDoorStrMem
namespace Go.Proofs.YtimoncjdfmfojaaDoor
open Go.RowKit Go.Lib Vbi Rcd

theorem str_add (a b : List UInt8) : str a ++ str b = str (a ++ b) := by
  apply ByteArray.ext
  simp [str]
theorem str_nums (zs : List Int) : strOfNums zs = str (bytesOf zs) := by rw [← data_str (strOfNums zs), strOf_data]
theorem str_fx (w n : Nat) : strOfNums (fixZ w n) = str (fx w n) := str_nums _
theorem ofInt_mod (z : Int) : (BitVec.ofInt 64 z).toNat = (z % 18446744073709551616).toNat := by
  rw [BitVec.toNat_ofInt]; rfl
theorem wrap_mod (m : Nat) : IntKind.i64.wrap (((m % 18446744073709551616 : Nat)) : Int) = IntKind.i64.wrap (m : Int) := by
  unfold IntKind.wrap
  simp [IntKind.bits, IntKind.signed]
/-- The last byte of eight: whatever is above, it stands below. -/
theorem or_low (z : Int) (m c : Nat) (hz : z = IntKind.i64.wrap ((m * 256 : Nat) : Int)) (hm : m < 72057594037927936) (hc : c < 256) : bits .or .i64 z (c : Int) = IntKind.i64.wrap ((m * 256 + c : Nat) : Int) := by
  show IntKind.i64.wrap ((BitVec.ofInt 64 z ||| BitVec.ofInt 64 (c : Int)).toNat : Int) = _
  have e1 : (BitVec.ofInt 64 z).toNat = m * 256 := by
    rw [ofInt_mod, hz]
    unfold IntKind.wrap
    simp [IntKind.bits, IntKind.signed]
    omega
  have e2 : (BitVec.ofInt 64 (c : Int)).toNat = c := ofInt_i64 c (by omega)
  rw [BitVec.toNat_or, e1, e2]
  congr 2
  rw [Nat.mul_comm m 256, show (256 : Nat) = 2 ^ 8 from rfl, ← Nat.two_pow_add_eq_or_of_lt (by omega)]
/-- High and low. -/
theorem or_halves (z : Int) (h l : Nat) (hz : z = IntKind.i64.wrap ((h * 4294967296 : Nat) : Int)) (hh : h < 4294967296) (hl : l < 4294967296) : bits .or .i64 z (l : Int) = IntKind.i64.wrap ((h * 4294967296 + l : Nat) : Int) := by
  show IntKind.i64.wrap ((BitVec.ofInt 64 z ||| BitVec.ofInt 64 (l : Int)).toNat : Int) = _
  have e1 : (BitVec.ofInt 64 z).toNat = h * 4294967296 := by
    rw [ofInt_mod, hz]
    unfold IntKind.wrap
    simp [IntKind.bits, IntKind.signed]
    omega
  have e2 : (BitVec.ofInt 64 (l : Int)).toNat = l := ofInt_i64 l (by omega)
  rw [BitVec.toNat_or, e1, e2]
  congr 2
  rw [Nat.mul_comm h 4294967296, show (4294967296 : Nat) = 2 ^ 32 from rfl, ← Nat.two_pow_add_eq_or_of_lt (by omega)]
theorem wrap64_nat (h : Nat) : wrap64 ((h : Int) * 4294967296) = IntKind.i64.wrap ((h * 4294967296 : Nat) : Int) := by
  rw [show ((h : Int) * 4294967296) = ((h * 4294967296 : Nat) : Int) by omega, IntWalk.i64_left]
theorem wrap64_low (m : Nat) : wrap64 ((m : Int) * 256) = IntKind.i64.wrap ((m * 256 : Nat) : Int) := by
  rw [show ((m : Int) * 256) = ((m * 256 : Nat) : Int) by omega, IntWalk.i64_left]
theorem fixGo_app (a b : List UInt8) (n : Nat) : fixGo n (a ++ b) = fixGo (fixGo n a) b := List.foldl_append ..
theorem fixGo_shift (l : List UInt8) (n : Nat) : fixGo n l = n * 256 ^ l.length + fixVal l := by
  unfold fixVal
  induction l generalizing n with
  | nil => show n = n * 1 + 0; omega
  | cons b t ih =>
    rw [fixGo_cons, fixGo_cons, ih, ih (0 * 256 + b.toNat), List.length_cons, Nat.pow_succ, Nat.add_mul, Nat.add_mul, Nat.mul_assoc, Nat.mul_comm 256]
    omega
theorem eight_halves (l : List UInt8) (h : 8 ≤ l.length) : fixVal (l.take 8) = fixVal (l.take 4) * 4294967296 + fixVal ((l.drop 4).take 4) := by
  have e : l.take 8 = l.take 4 ++ (l.drop 4).take 4 := by rw [← List.take_add]
  have hl : ((l.drop 4).take 4).length = 4 := by rw [List.length_take, List.length_drop]; omega
  rw [e]
  unfold fixVal
  rw [fixGo_app, fixGo_shift, hl]
  rfl
theorem fx8_halves (n : Nat) (h : n < 18446744073709551616) : fx 8 n = fx 4 (n / 4294967296) ++ fx 4 (n % 4294967296) := by
  simp only [fx_succ]
  have e : ∀ m, fx 0 m = [] := fun _ => rfl
  simp only [e, List.cons_append, List.nil_append, Nat.reducePow]
  congr 1
  · congr 1; omega
  congr 1
  · congr 1; omega
  congr 1
  · congr 1; omega
  congr 1
  · congr 1; omega
  congr 1
  · congr 1; omega
  congr 1
  · congr 1; omega
  congr 1
  · congr 1; omega
  congr 1
  · congr 1; omega

set_option maxRecDepth 100000 in
set_option maxHeartbeats 2000000 in
/-- rec.putLong. -/
theorem putLong_is (n : Nat) (S : ByteArray) (w : World) (hn : n < 9223372036854775808) (hS : str (fx 8 n) = S) :
    Calls Tryd.prog 45 #[.int .i64 (n : Int)] w fun e w' => e = .returned (.string S) ∧ Below w.heap.size w w' := by
  rw [fx8_halves n (by omega), ← str_add] at hS
  have f1 : fixStr 4 ((n / 4294967296 : Nat) : Int) = str (fx 4 (n / 4294967296)) ∧ fixErr 4 ((n / 4294967296 : Nat) : Int) = 0 := by
    rcases fix_cases 4 ((n / 4294967296 : Nat) : Int) with ⟨_, _, e1, e2⟩ | ⟨h0, _⟩
    · exact ⟨e2.trans (str_fx _ _), e1⟩
    · omega
  have f2 : fixStr 4 ((n % 4294967296 : Nat) : Int) = str (fx 4 (n % 4294967296)) ∧ fixErr 4 ((n % 4294967296 : Nat) : Int) = 0 := by
    rcases fix_cases 4 ((n % 4294967296 : Nat) : Int) with ⟨_, _, e1, e2⟩ | ⟨h0, _⟩
    · exact ⟨e2.trans (str_fx _ _), e1⟩
    · omega
  have H1 := Lib.hid (fun W => Four_is ((n / 4294967296 : Nat) : Int) _ _ W (by omega) f1.1 f1.2)
  have H2 := Lib.hid (fun W => Four_is ((n % 4294967296 : Nat) : Int) _ _ W (by omega) f2.1 f2.2)
  have z1 : (str (fx 4 (n / 4294967296))).size = 4 := by rw [str_size, fx_len]
  have z2 : (str (fx 4 (n % 4294967296))).size = 4 := by rw [str_size, fx_len]
  clear f1 f2
  generalize str (fx 4 (n / 4294967296)) = A at H1 hS z1
  generalize str (fx 4 (n % 4294967296)) = B at H2 hS z2
  subst hS
  rw [show ((n / 4294967296 : Nat) : Int) = (n : Int) / 4294967296 by omega] at H1
  rw [show ((n % 4294967296 : Nat) : Int) = (n : Int) % 4294967296 by omega] at H2
  go_enter Tryd.func45, Tryd.ntmps45
  go_wp2_with fail
  refine (H1.out _).mono ?_
  rintro e w1 ⟨rfl, hb1⟩
  go_wp2_with fail
  refine (H2.out _).mono ?_
  rintro e w2 ⟨rfl, hb2⟩
  go_wp2_with fail
  go_ret
  exact ⟨rfl, hb1.trans (hb2.mono hb1.size)⟩

theorem TakeFour_good (s : ByteArray) (n : Nat) (w : World) (hs : 4 ≤ s.size) (hm : s.size ≤ 9223372036854775807) (hn : fixVal (s.data.toList.take 4) = n) : Calls Tryd.prog 42 #[.string s] w fun e w' => e = .returned (.tuple #[.int .i64 (n : Int), .int .i64 0]) ∧ w = w' :=
  (TakeFour_ok s w hm).mono fun e w' h => by
    subst hn
    unfold TfOk at h
    rw [(tf_good (wd := 4) (l := s.data.toList) (by rw [← Lib.size_eq]; exact hs)).1, (tf_good (wd := 4) (l := s.data.toList) (by rw [← Lib.size_eq]; exact hs)).2] at h
    exact ⟨h.1, h.2.symm⟩
theorem RTake_good (wd : Nat) (s : ByteArray) (n : Nat) (w : World) (hw : wd ≤ 4) (hs : wd ≤ s.size) (hm : s.size ≤ 9223372036854775807) (hn : fixVal (s.data.toList.take wd) = n) : Calls Tryd.prog 33 #[.string s, .int .i64 (wd : Int)] w fun e w' => e = .returned (.tuple #[.int .i64 (n : Int), .bool true]) ∧ w = w' :=
  (RTakeFixed_ok s wd w hm hw).mono fun e w' h => by
    subst hn
    unfold RTfOk at h
    rw [(tf_good (wd := wd) (l := s.data.toList) (by rw [← Lib.size_eq]; exact hs)).1, (tf_good (wd := wd) (l := s.data.toList) (by rw [← Lib.size_eq]; exact hs)).2] at h
    exact ⟨h.1, h.2.symm⟩

/-- A call that leaves the world as it was and answers a number, how many bytes it has, no error. -/
theorem lng_wrap (l : List UInt8) (h : 8 ≤ l.length) : lng l = IntKind.i64.wrap ((fixVal (l.take 4) * 4294967296 + fixVal ((l.drop 4).take 4) : Nat) : Int) := by
  unfold lng; rw [eight_halves l h]

set_option maxRecDepth 100000 in
set_option maxHeartbeats 2000000 in
/-- rec.takeLong. -/
theorem takeLong_is (s : ByteArray) (N : Int) (w : World) (hs : 8 ≤ s.size) (hm : s.size ≤ 1000000) (hN : lng s.data.toList = N) :
    Calls Tryd.prog 53 #[.string s] w fun e w' => e = .returned (.tuple #[.int .i64 N, .int .i64 8, .int .i64 0]) ∧ w = w' := by
  obtain ⟨h, hh⟩ : ∃ h, fixVal (s.data.toList.take 4) = h := ⟨_, rfl⟩
  obtain ⟨l, hl⟩ : ∃ l, fixVal ((s.data.toList.drop 4).take 4) = l := ⟨_, rfl⟩
  have hh32 : h < 4294967296 := by rw [← hh]; exact fixVal_lt _ 4 (by rw [List.length_take]; omega)
  have hl32 : l < 4294967296 := by rw [← hl]; exact fixVal_lt _ 4 (by rw [List.length_take]; omega)
  have hsl : s.data.toList.length = s.size := by rw [Array.length_toList]; rfl
  rw [lng_wrap _ (by omega), hh, hl] at hN
  have H1 := Lib.hid (fun W => TakeFour_good s h W (by omega) (by omega) hh)
  have he : (s.extract 4 s.size).data.toList = s.data.toList.drop 4 := by
    rw [Lib.extract_data]; exact List.take_of_length_le (by rw [List.length_drop, hsl]; omega)
  have H2 := Lib.hid (fun W => TakeFour_good (s.extract 4 s.size) l W (by rw [ByteArray.size_extract]; omega) (by rw [ByteArray.size_extract]; omega) (by rw [he]; exact hl))
  have HO := fun z hz => or_halves z h l hz hh32 hl32
  have HN := Lib.hid hN
  have h8 : decide ((s.size : Int) < 8) = false := by rw [decide_eq_false_iff_not]; omega
  have h4 : (4 : Int) ≤ (s.size : Int) := by omega
  clear hh hl hN he hsl
  go_enter Tryd.func53, Tryd.ntmps53
  go_wp2_with fail
  refine (H1.out _).mono ?_
  rintro e w1 ⟨rfl, rfl⟩
  go_wp2_with fail
  refine (H2.out _).mono ?_
  rintro e w2 ⟨rfl, rfl⟩
  go_wp2_with fail
  go_ret3
  refine ⟨?_, rfl⟩
  rw [HO _ (wrap64_nat h), HN.out]
  rfl
set_option maxRecDepth 100000 in
set_option maxHeartbeats 1000000 in
/-- rec.takeLong, of too few bytes. -/
theorem takeLong_cut (s : ByteArray) (w : World) (hs : s.size < 8) :
    Calls Tryd.prog 53 #[.string s] w fun e w' => e = .returned (.tuple #[.int .i64 0, .int .i64 0, .int .i64 7]) ∧ w = w' := by
  have h8 : decide ((s.size : Int) < 8) = true := by rw [decide_eq_true_eq]; omega
  go_enter Tryd.func53, Tryd.ntmps53
  go_wp2_with fail
  go_ret3
  exact ⟨rfl, rfl⟩

theorem or8_more (m c : Nat) (hm : m < 36028797018963968) (hc : c < 256) : bits .or .i64 ((m : Int) * 256) (c : Int) = ((m * 256 + c : Nat) : Int) := by
  have h := or_low (((m * 256 : Nat)) : Int) m c (wrap_nat (by omega)).symm (by omega) hc
  rw [wrap_nat (by omega)] at h
  rw [← h]
  congr 1
theorem pow_small {m k : Nat} (hm : m < 256 ^ k) (hk : k < 7) : m < 281474976710656 := by
  have : 256 ^ k ≤ 256 ^ 6 := Nat.pow_le_pow_right (by decide) (by omega)
  omega
set_option maxRecDepth 100000 in
set_option maxHeartbeats 4000000 in
/-- The document's own answer: the number of eight bytes. -/
theorem RTake8_is (s : ByteArray) (N : Int) (w : World) (hs : 8 ≤ s.size) (hm : s.size ≤ 1000000) (hN : lng s.data.toList = N) :
    Calls Tryd.prog 33 #[.string s, .int .i64 8] w fun e w' => e = .returned (.tuple #[.int .i64 N, .bool true]) ∧ w = w' := by
  have hcd : decide ((s.size : Int) < 8) = false := by rw [decide_eq_false_iff_not]; omega
  have HN := Lib.hid hN
  clear hN
  go_enter Tryd.func33, Tryd.ntmps33
  go_wp2_with fail
  clear hcd
  go_loop [6, 7] (fun n i => ∃ (k m : Nat) (z : Int), k ≤ 8 ∧ i = .int .i64 (k : Int) ∧ n = .int .i64 z ∧ z = IntKind.i64.wrap (m : Int) ∧ m < 256 ^ k ∧ fixVal (s.data.toList.take 8) = fixGo m ((s.data.toList.take 8).drop k)) (fun _ i => 8 - (RowKit.intOf i).toNat)
  case atStart => exact ⟨0, 0, 0, by omega, rfl, rfl, rfl, by simp, rfl⟩
  case round =>
    obtain ⟨k, m, z, hk, rfl, rfl, hz, hm, ht⟩ := hrel
    by_cases hlt : k < 8
    · rw [take_drop_at s 8 k hlt (by omega)] at ht
      have hks : k < s.size := by omega
      have hb : s[k].toNat < 256 := s[k].toNat_lt
      by_cases h7 : k < 7
      · have hms := pow_small hm h7
        rw [wrap_nat (by omega)] at hz
        subst hz
        have HO := Lib.hid (or8_more m s[k].toNat (by omega) hb)
        have HM := Lib.hid hm
        have HT := Lib.hid ht
        have HW := Lib.hid (wrap_nat (n := m * 256 + s[k].toNat) (by omega))
        clear ht hm h7
        go_wp2_with fail
        go_round
        case rel => exact ⟨k + 1, m * 256 + s[k].toNat, _, by omega, by go_num, by rw [HO.out], HW.out.symm, pow_next HM.out hb, HT.out.trans (fixGo_cons _ _ _)⟩
        case measure => simp [RowKit.intOf]; omega
      · obtain rfl : k = 7 := by omega
        have hm7 : m < 72057594037927936 := hm
        rw [wrap_nat (by omega)] at hz
        subst hz
        have HM := Lib.hid hm
        have HT := Lib.hid ht
        by_cases hbig : m < 36028797018963968
        · have HO := Lib.hid (or8_more m s[7].toNat (by omega) hb)
          have HW := Lib.hid (wrap_nat (n := m * 256 + s[7].toNat) (by omega))
          clear ht hm h7
          go_wp2_with fail
          go_round
          case rel => exact ⟨8, m * 256 + s[7].toNat, _, by omega, by go_num, by rw [HO.out], HW.out.symm, pow_next HM.out hb, HT.out.trans (fixGo_cons _ _ _)⟩
          case measure => simp [RowKit.intOf]
        · have HO := Lib.hid (fun z hz => or_low z m s[7].toNat hz hm7 hb)
          clear ht hm h7
          go_wp2_with fail
          go_round
          case rel => exact ⟨8, m * 256 + s[7].toNat, _, by omega, by go_num, rfl, HO.out _ (wrap64_low m), pow_next HM.out hb, HT.out.trans (fixGo_cons _ _ _)⟩
          case measure => simp [RowKit.intOf]
    · obtain rfl : k = 8 := by omega
      rw [take_drop_end] at ht
      obtain rfl : z = N := by rw [← HN.out]; unfold lng; rw [ht]; exact hz
      clear ht hm hz
      go_wp2_with fail
      go_ret2
      exact ⟨rfl, rfl⟩
set_option maxRecDepth 100000 in
set_option maxHeartbeats 4000000 in
/-- The document's own answer: a number as eight bytes. -/
theorem RFixed8_is (n : Nat) (S : ByteArray) (w : World) (hn : n < 9223372036854775808) (hS : str (fx 8 n) = S) :
    Calls Tryd.prog 25 #[.int .i64 (n : Int), .int .i64 8] w fun e w' => e = .returned (.string S) ∧ Below w.heap.size w w' := by
  rw [← str_fx] at hS
  subst hS
  obtain ⟨i0, hi, hz0, hz1, hz2⟩ := info_parts info_byte
  go_enter Tryd.func25, Tryd.ntmps25
  go_wp2_with fail
  go_loopw [5, 6] (fun v iv wr => ∃ (j : Int) (k : Nat) (zs : List Int), iv = .int .i64 j ∧ j = (k : Int) - 1 ∧ k ≤ 8 ∧ fixZ 8 n = zs ++ fixZ k n ∧ wr.ownsRow w.heap.size 5 1 v zs.length (zs.map (Value.int .u8)) ∧ Below w.heap.size w wr) (fun _ iv _ => (RowKit.intOf iv + 1).toNat)
  case atStart => exact ⟨_, 8, [], rfl, rfl, by omega, rfl, World.ownsRow_nil _ _ _ _, Below.refl _ _⟩
  case round =>
    obtain ⟨j, k, zs, rfl, hj, hk, hz, hown, hnx⟩ := hrel
    have h2 := hnx.size
    have hzl : zs.length ≤ 8 := by
      have := congrArg List.length hz
      rw [List.length_append, fixZ_len, fixZ_len] at this
      omega
    by_cases hk0 : k = 0
    · subst hk0
      obtain rfl : j = -1 := by omega
      have hcv := conv_bytes hown
      have hzz : zs = fixZ 8 n := by rw [hz]; show zs = zs ++ []; simp
      rw [hzz] at hcv
      have HC := Lib.hid hcv
      clear hz hown hj hzz
      go_wp2_with fail
      go_ret
      exact ⟨rfl, hnx⟩
    · rcases (by omega : k = 1 ∨ k = 2 ∨ k = 3 ∨ k = 4 ∨ k = 5 ∨ k = 6 ∨ k = 7 ∨ k = 8) with rfl | rfl | rfl | rfl | rfl | rfl | rfl | rfl
      · obtain rfl : j = 0 := by omega
        have HZ := Lib.hid (hz.trans (fixZ_step zs 0 n ((n : Int) % 256) (by omega)))
        clear hz hj hk0
        go_wp2_with (at_builtin; refine wpList_append_own _ rfl _ _ 50 rfl w.heap.size 5 i0 (.int .u8 0) 1 1 Tryd.underlying50 hi hz0 hz1 hz2 rfl (by decide) _ _ _ rfl (hown.alloc _) ⟨wr.heap.size, 0, none⟩ 1 1 [.int .u8 ((n : Int) % 256)] rfl rfl ?c1 ?c2 ?c3 ?c4 ?c5 ?_)
        case c1 => exact cell_one_new _ _ _
        case c2 => intro u hu; simp at hu; subst hu; rfl
        case c3 => unfold maxLen; omega
        case c4 => omega
        case c5 => simp; omega
        intro v' w1 hown' hgrow _
        have hnx' := hnx.trans (below_alloc_grown h2 hown hgrow)
        have HO := Lib.hid (own_snoc hown')
        clear hown' hgrow hown
        go_wp2
        go_roundw
        case rel => exact ⟨-1, 0, _, rfl, rfl, by omega, HZ.out, HO.out, hnx'⟩
        case measure => simp [RowKit.intOf]
      · obtain rfl : j = 1 := by omega
        have HZ := Lib.hid (hz.trans (fixZ_step zs 1 n ((n : Int) / 256 % 256) (by omega)))
        clear hz hj hk0
        go_wp2_with (at_builtin; refine wpList_append_own _ rfl _ _ 50 rfl w.heap.size 5 i0 (.int .u8 0) 1 1 Tryd.underlying50 hi hz0 hz1 hz2 rfl (by decide) _ _ _ rfl (hown.alloc _) ⟨wr.heap.size, 0, none⟩ 1 1 [.int .u8 ((n : Int) / 256 % 256)] rfl rfl ?c1 ?c2 ?c3 ?c4 ?c5 ?_)
        case c1 => exact cell_one_new _ _ _
        case c2 => intro u hu; simp at hu; subst hu; rfl
        case c3 => unfold maxLen; omega
        case c4 => omega
        case c5 => simp; omega
        intro v' w1 hown' hgrow _
        have hnx' := hnx.trans (below_alloc_grown h2 hown hgrow)
        have HO := Lib.hid (own_snoc hown')
        clear hown' hgrow hown
        go_wp2
        go_roundw
        case rel => exact ⟨0, 1, _, rfl, rfl, by omega, HZ.out, HO.out, hnx'⟩
        case measure => simp [RowKit.intOf]
      · obtain rfl : j = 2 := by omega
        have HZ := Lib.hid (hz.trans (fixZ_step zs 2 n ((n : Int) / 65536 % 256) (by omega)))
        clear hz hj hk0
        go_wp2_with (at_builtin; refine wpList_append_own _ rfl _ _ 50 rfl w.heap.size 5 i0 (.int .u8 0) 1 1 Tryd.underlying50 hi hz0 hz1 hz2 rfl (by decide) _ _ _ rfl (hown.alloc _) ⟨wr.heap.size, 0, none⟩ 1 1 [.int .u8 ((n : Int) / 65536 % 256)] rfl rfl ?c1 ?c2 ?c3 ?c4 ?c5 ?_)
        case c1 => exact cell_one_new _ _ _
        case c2 => intro u hu; simp at hu; subst hu; rfl
        case c3 => unfold maxLen; omega
        case c4 => omega
        case c5 => simp; omega
        intro v' w1 hown' hgrow _
        have hnx' := hnx.trans (below_alloc_grown h2 hown hgrow)
        have HO := Lib.hid (own_snoc hown')
        clear hown' hgrow hown
        go_wp2
        go_roundw
        case rel => exact ⟨1, 2, _, rfl, rfl, by omega, HZ.out, HO.out, hnx'⟩
        case measure => simp [RowKit.intOf]
      · obtain rfl : j = 3 := by omega
        have HZ := Lib.hid (hz.trans (fixZ_step zs 3 n ((n : Int) / 16777216 % 256) (by omega)))
        clear hz hj hk0
        go_wp2_with (at_builtin; refine wpList_append_own _ rfl _ _ 50 rfl w.heap.size 5 i0 (.int .u8 0) 1 1 Tryd.underlying50 hi hz0 hz1 hz2 rfl (by decide) _ _ _ rfl (hown.alloc _) ⟨wr.heap.size, 0, none⟩ 1 1 [.int .u8 ((n : Int) / 16777216 % 256)] rfl rfl ?c1 ?c2 ?c3 ?c4 ?c5 ?_)
        case c1 => exact cell_one_new _ _ _
        case c2 => intro u hu; simp at hu; subst hu; rfl
        case c3 => unfold maxLen; omega
        case c4 => omega
        case c5 => simp; omega
        intro v' w1 hown' hgrow _
        have hnx' := hnx.trans (below_alloc_grown h2 hown hgrow)
        have HO := Lib.hid (own_snoc hown')
        clear hown' hgrow hown
        go_wp2
        go_roundw
        case rel => exact ⟨2, 3, _, rfl, rfl, by omega, HZ.out, HO.out, hnx'⟩
        case measure => simp [RowKit.intOf]
      · obtain rfl : j = 4 := by omega
        have HZ := Lib.hid (hz.trans (fixZ_step zs 4 n ((n : Int) / 4294967296 % 256) (by omega)))
        clear hz hj hk0
        go_wp2_with (at_builtin; refine wpList_append_own _ rfl _ _ 50 rfl w.heap.size 5 i0 (.int .u8 0) 1 1 Tryd.underlying50 hi hz0 hz1 hz2 rfl (by decide) _ _ _ rfl (hown.alloc _) ⟨wr.heap.size, 0, none⟩ 1 1 [.int .u8 ((n : Int) / 4294967296 % 256)] rfl rfl ?c1 ?c2 ?c3 ?c4 ?c5 ?_)
        case c1 => exact cell_one_new _ _ _
        case c2 => intro u hu; simp at hu; subst hu; rfl
        case c3 => unfold maxLen; omega
        case c4 => omega
        case c5 => simp; omega
        intro v' w1 hown' hgrow _
        have hnx' := hnx.trans (below_alloc_grown h2 hown hgrow)
        have HO := Lib.hid (own_snoc hown')
        clear hown' hgrow hown
        go_wp2
        go_roundw
        case rel => exact ⟨3, 4, _, rfl, rfl, by omega, HZ.out, HO.out, hnx'⟩
        case measure => simp [RowKit.intOf]
      · obtain rfl : j = 5 := by omega
        have HZ := Lib.hid (hz.trans (fixZ_step zs 5 n ((n : Int) / 1099511627776 % 256) (by omega)))
        clear hz hj hk0
        go_wp2_with (at_builtin; refine wpList_append_own _ rfl _ _ 50 rfl w.heap.size 5 i0 (.int .u8 0) 1 1 Tryd.underlying50 hi hz0 hz1 hz2 rfl (by decide) _ _ _ rfl (hown.alloc _) ⟨wr.heap.size, 0, none⟩ 1 1 [.int .u8 ((n : Int) / 1099511627776 % 256)] rfl rfl ?c1 ?c2 ?c3 ?c4 ?c5 ?_)
        case c1 => exact cell_one_new _ _ _
        case c2 => intro u hu; simp at hu; subst hu; rfl
        case c3 => unfold maxLen; omega
        case c4 => omega
        case c5 => simp; omega
        intro v' w1 hown' hgrow _
        have hnx' := hnx.trans (below_alloc_grown h2 hown hgrow)
        have HO := Lib.hid (own_snoc hown')
        clear hown' hgrow hown
        go_wp2
        go_roundw
        case rel => exact ⟨4, 5, _, rfl, rfl, by omega, HZ.out, HO.out, hnx'⟩
        case measure => simp [RowKit.intOf]
      · obtain rfl : j = 6 := by omega
        have HZ := Lib.hid (hz.trans (fixZ_step zs 6 n ((n : Int) / 281474976710656 % 256) (by omega)))
        clear hz hj hk0
        go_wp2_with (at_builtin; refine wpList_append_own _ rfl _ _ 50 rfl w.heap.size 5 i0 (.int .u8 0) 1 1 Tryd.underlying50 hi hz0 hz1 hz2 rfl (by decide) _ _ _ rfl (hown.alloc _) ⟨wr.heap.size, 0, none⟩ 1 1 [.int .u8 ((n : Int) / 281474976710656 % 256)] rfl rfl ?c1 ?c2 ?c3 ?c4 ?c5 ?_)
        case c1 => exact cell_one_new _ _ _
        case c2 => intro u hu; simp at hu; subst hu; rfl
        case c3 => unfold maxLen; omega
        case c4 => omega
        case c5 => simp; omega
        intro v' w1 hown' hgrow _
        have hnx' := hnx.trans (below_alloc_grown h2 hown hgrow)
        have HO := Lib.hid (own_snoc hown')
        clear hown' hgrow hown
        go_wp2
        go_roundw
        case rel => exact ⟨5, 6, _, rfl, rfl, by omega, HZ.out, HO.out, hnx'⟩
        case measure => simp [RowKit.intOf]
      · obtain rfl : j = 7 := by omega
        have HZ := Lib.hid (hz.trans (fixZ_step zs 7 n ((n : Int) / 72057594037927936) (by omega)))
        clear hz hj hk0
        go_wp2_with (at_builtin; refine wpList_append_own _ rfl _ _ 50 rfl w.heap.size 5 i0 (.int .u8 0) 1 1 Tryd.underlying50 hi hz0 hz1 hz2 rfl (by decide) _ _ _ rfl (hown.alloc _) ⟨wr.heap.size, 0, none⟩ 1 1 [.int .u8 ((n : Int) / 72057594037927936)] rfl rfl ?c1 ?c2 ?c3 ?c4 ?c5 ?_)
        case c1 => exact cell_one_new _ _ _
        case c2 => intro u hu; simp at hu; subst hu; rfl
        case c3 => unfold maxLen; omega
        case c4 => omega
        case c5 => simp; omega
        intro v' w1 hown' hgrow _
        have hnx' := hnx.trans (below_alloc_grown h2 hown hgrow)
        have HO := Lib.hid (own_snoc hown')
        clear hown' hgrow hown
        go_wp2
        go_roundw
        case rel => exact ⟨6, 7, _, rfl, rfl, by omega, HZ.out, HO.out, hnx'⟩
        case measure => simp [RowKit.intOf]
end Go.Proofs.YtimoncjdfmfojaaDoor
