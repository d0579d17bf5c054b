/- The document's own answer: names, what a name stands at, what a call counts for; copies. -/
import Derived.Test.YtgimecgdfcckbaaDskRMem
namespace Go.Proofs.Ytgimecgdfcckbaa.Dsk
open Go.RowKit Go.Lib Go.Maps

theorem drop_byte {s : ByteArray} {b : Nat} (hb : b < s.size) : s.data.toList.drop b = s[b] :: s.data.toList.drop (b + 1) := by
  have h : b < s.data.toList.length := by rw [← Lib.size_eq]; exact hb
  rw [List.drop_eq_getElem_cons h]
  rfl
theorem print_byte {s : ByteArray} {b : Nat} (hb : b < s.size) : printB (s.data.toList.drop b) = ((decide (33 ≤ s[b].toNat) && decide (s[b].toNat ≤ 126)) && printB (s.data.toList.drop (b + 1))) := by
  rw [drop_byte hb]; rfl
set_option maxRecDepth 100000 in
set_option maxHeartbeats 4000000 in
theorem RName_is (x : List UInt8) (v : Bool) (w : World) (hx : x.length ≤ 140737488351232) (hS : nameB x = v) :
    Calls Try.prog 58 #[.string (str x)] w fun e w' => e = .returned (.bool v) ∧ w' = w := by
  have hS : (decide (1 ≤ (str x).size) && (decide ((str x).size ≤ 64) && printB (str x).data.toList)) = v := by rw [str_size, str_data, ← nameB_eq]; exact hS
  have hsz : (str x).size ≤ 140737488351232 := by rw [str_size]; exact hx
  generalize str x = s at hS hsz
  have HS := Lib.hid hS
  clear hS
  go_enter Try.func58, Try.ntmps58
  go_wp2_with fail
  go_loopw [3] (fun i wr => ∃ b : Nat, b ≤ s.size ∧ i = .int .i64 (b : Int) ∧ wr = w ∧ printB (s.data.toList.drop b) = printB s.data.toList) (fun i _ => s.size - (RowKit.intOf i).toNat)
  case atStart => exact ⟨0, Nat.zero_le _, rfl, rfl, rfl⟩
  case round =>
    obtain ⟨b, hbs, rfl, rfl, hc⟩ := hrel
    have HC := Lib.hid hc
    clear hc
    by_cases hlt : b < s.size
    · have hltI : (b : Int) < (s.size : Int) := by omega
      have HP := Lib.hid (print_byte hlt)
      have hb256 : s[b].toNat < 256 := UInt8.toNat_lt _
      by_cases h1 : s[b].toNat < 33
      · have q1 : decide ((s[b].toNat : Int) < 33) = true := by simp; omega
        have q1' : decide (s[b].toNat < 33) = true := by simp; omega
        have HF : Hid (v = false) := Lib.hid (by rw [← HS.out, ← HC.out, HP.out]; simp; omega)
        clear h1
        go_wp2
        go_ret
        exact ⟨ret_bool HF.out.symm, rfl⟩
      · have q1 : decide ((s[b].toNat : Int) < 33) = false := by simp; omega
        have q1' : decide (s[b].toNat < 33) = false := by simp; omega
        by_cases h2 : 126 < s[b].toNat
        · have q2 : decide ((126 : Int) < (s[b].toNat : Int)) = true := by simp; omega
          have q2' : decide (126 < s[b].toNat) = true := by simp; omega
          have HF : Hid (v = false) := Lib.hid (by rw [← HS.out, ← HC.out, HP.out]; simp; omega)
          clear h1 h2
          go_wp2
          go_ret
          exact ⟨ret_bool HF.out.symm, rfl⟩
        · have q2 : decide ((126 : Int) < (s[b].toNat : Int)) = false := by simp; omega
          have q2' : decide (126 < s[b].toNat) = false := by simp; omega
          have HN : Hid (printB (s.data.toList.drop (b + 1)) = printB s.data.toList) := Lib.hid (by
            rw [← HC.out, HP.out]
            have e1 : decide (33 ≤ s[b].toNat) = true := by simp; omega
            have e2 : decide (s[b].toNat ≤ 126) = true := by simp; omega
            rw [e1, e2]; rfl)
          clear h1 h2
          go_wp2
          go_roundw
          case rel => exact ⟨b + 1, hlt, by go_num, by trivial, HN.out⟩
          case measure => simp [RowKit.intOf]; omega
    · have hltI : ¬ (b : Int) < (s.size : Int) := by omega
      have HT : Hid (printB s.data.toList = true) := Lib.hid (by rw [← HC.out, List.drop_of_length_le (by rw [← Lib.size_eq]; omega)]; rfl)
      clear hlt
      by_cases h1 : 1 ≤ s.size
      · by_cases h2 : s.size ≤ 64
        · have q1 : decide ((1 : Int) ≤ (s.size : Int)) = true := by simp; omega
          have q2 : decide ((s.size : Int) ≤ 64) = true := by simp; omega
          have HF : Hid (v = true) := Lib.hid (by rw [← HS.out, HT.out]; simp; omega)
          clear h1 h2
          go_wp2
          go_ret
          exact ⟨ret_bool HF.out.symm, rfl⟩
        · have q1 : decide ((1 : Int) ≤ (s.size : Int)) = true := by simp; omega
          have q2 : decide ((s.size : Int) ≤ 64) = false := by simp; omega
          have HF : Hid (v = false) := Lib.hid (by rw [← HS.out, HT.out]; simp; omega)
          clear h1 h2
          go_wp2
          go_ret
          exact ⟨ret_bool HF.out.symm, rfl⟩
      · have q1 : decide ((1 : Int) ≤ (s.size : Int)) = false := by simp; omega
        have HF : Hid (v = false) := Lib.hid (by rw [← HS.out, HT.out]; simp; omega)
        clear h1
        go_wp2
        go_ret
        exact ⟨ret_bool HF.out.symm, rfl⟩

set_option maxHeartbeats 1000000 in
theorem counts_is (w : World) (Y : Nat → Prop) (r : Nat) (F : List Fl) (A : Option Addr) (c : Nat) (h : RkAt w Y r F A c) :
    Calls Try.prog 62 #[.pointer (some ⟨r, 0, none⟩)] w fun e w' => e = .returned (.bool false) ∧ w' = w := by
  have c2 := h.box.cell 2
  have c3 := h.box.cell 3
  simp at c2 c3
  clear h
  go_enter Try.func62, Try.ntmps62
  go_wp2
  go_ret
  exact ⟨rfl, rfl⟩

theorem str_ne {a b : List UInt8} (h : a ≠ b) : ((str a).toList == (str b).toList) = false := by
  rw [str_toList, str_toList, beq_eq_false_iff_ne]; exact h
theorem str_eq {a b : List UInt8} (h : a = b) : ((str a).toList == (str b).toList) = true := by rw [h]; simp
/-- What find tells: i; -1. -/
def findI (F : List Fl) (n : List UInt8) : Int := match F.findIdx? (fun f => f.n == n) with | some i => (i : Int) | none => -1
theorem find_at {F : List Fl} {n : List UInt8} {i : Nat} (hi : i < F.length) (hn : F[i].n = n) (h : ∀ j (h : j < F.length), j < i → F[j].n ≠ n) : findI F n = (i : Int) := by
  unfold findI
  have : F.findIdx? (fun f => f.n == n) = some i := by
    rw [List.findIdx?_eq_some_iff_getElem]
    exact ⟨hi, by simpa using hn, fun j hj => by simpa using h j (by omega) hj⟩
  rw [this]
theorem find_not {F : List Fl} {n : List UInt8} (h : ∀ g ∈ F, g.n ≠ n) : findI F n = -1 := by
  unfold findI
  have : F.findIdx? (fun f => f.n == n) = none := by
    rw [List.findIdx?_eq_none_iff]
    intro f hf
    simpa using h f hf
  rw [this]
theorem find_look {F : List Fl} {n : List UInt8} (hs : Sorted F) : (∃ i, ∃ h : i < F.length, F[i].n = n ∧ look F n = some F[i] ∧ findI F n = (i : Int)) ∨ (look F n = none ∧ findI F n = -1) := by
  cases hl : look F n with
  | none => exact .inr ⟨rfl, find_not (look_none hl)⟩
  | some f =>
    obtain ⟨hf, hn⟩ := look_some hl
    obtain ⟨i, hi, e⟩ := List.mem_iff_getElem.1 hf
    refine .inl ⟨i, hi, by rw [e]; exact hn, by rw [e], find_at hi (by rw [e]; exact hn) fun j h hj e2 => ?_⟩
    have h1 := List.pairwise_iff_getElem.1 hs j i h hi hj
    rw [e2, e, hn] at h1
    exact List.lt_irrefl _ h1
set_option maxRecDepth 100000 in
set_option maxHeartbeats 2000000 in
theorem find_is (w : World) (Y : Nat → Prop) (r : Nat) (F : List Fl) (A : Option Addr) (c : Nat) (n : List UInt8) (I : Int) (hl : F.length ≤ 1000000) (h : RkAt w Y r F A c) (hI : findI F n = I) :
    Calls Try.prog 61 #[.pointer (some ⟨r, 0, none⟩), .string (str n)] w fun e w' => e = .returned (.int .i64 I) ∧ w' = w := by
  have c0 := h.box.cell 0
  simp at c0
  have H := Lib.hid h
  have HI := Lib.hid hI
  clear h hI
  go_enter Try.func61, Try.ntmps61
  go_wp2_with fail
  go_loopw [5] (fun i wr => ∃ k : Nat, k ≤ F.length ∧ i = .int .i64 (k : Int) ∧ wr = w ∧ ∀ j (h : j < F.length), j < k → F[j].n ≠ n) (fun i _ => F.length - (RowKit.intOf i).toNat)
  case atStart => exact ⟨0, Nat.zero_le _, rfl, rfl, fun j h hj => by omega⟩
  case round =>
    obtain ⟨k, hk, rfl, rfl, hno⟩ := hrel
    have HNo := Lib.hid hno
    clear hno
    by_cases hlt : k < F.length
    · have hkI : (k : Int) < (F.length : Int) := by omega
      obtain ⟨g, rfl, _, _, _, _⟩ := H.out.addr (by omega)
      obtain ⟨d0, _, _⟩ := H.out.at_ hlt
      by_cases he : F[k].n = n
      · have HF := Lib.hid (find_at hlt he HNo.out)
        have hq := str_eq he
        have hq2 : ((str F[k].n).toList == (str n).toList) = true := hq
        clear he hq
        generalize str F[k].n = s1 at d0 hq2
        generalize str n = s2 at hq2
        go_wp2
        go_ret
        exact ⟨ret_int (HF.out.symm.trans HI.out), rfl⟩
      · have hq := str_ne he
        have HE := Lib.hid he
        clear he
        generalize str F[k].n = s1 at d0 hq
        generalize str n = s2 at hq
        go_wp2
        go_roundw
        case rel =>
          refine ⟨k + 1, hlt, by go_num, by trivial, fun j h hj => ?_⟩
          by_cases hjk : j = k
          · subst hjk; exact HE.out
          · exact HNo.out j h (by omega)
        case measure => simp [RowKit.intOf]; omega
    · have hkI : ¬ (k : Int) < (F.length : Int) := by omega
      have HF : Hid (findI F n = -1) := Lib.hid (find_not fun g hg => by
        obtain ⟨i, hi, rfl⟩ := List.mem_iff_getElem.1 hg
        exact HNo.out i hi (by omega))
      clear hlt
      go_wp2
      go_ret
      exact ⟨ret_int (HF.out.symm.trans HI.out), rfl⟩
set_option maxHeartbeats 1000000 in
theorem Num_is (a b : Int) (v : Bool) (w : World) (hv : (decide (0 ≤ a) && decide (a ≤ b)) = v) :
    Calls Try.prog 63 #[.int .i64 a, .int .i64 b] w fun e w' => e = .returned (.bool v) ∧ w' = w := by
  have HV := Lib.hid hv
  clear hv
  by_cases h0 : 0 ≤ a
  · have q0 : decide (0 ≤ a) = true := by simpa using h0
    go_enter Try.func63, Try.ntmps63
    go_wp2
    go_ret
    exact ⟨ret_bool (by rw [← HV.out, q0]; rfl), rfl⟩
  · have q0 : decide (0 ≤ a) = false := by simpa using h0
    clear h0
    go_enter Try.func63, Try.ntmps63
    go_wp2
    go_ret
    exact ⟨ret_bool (by rw [← HV.out, q0]; rfl), rfl⟩
def GivesIn (xs : List (List UInt8)) (x : List UInt8) (w : World) (e : Ending) (w' : World) : Prop := (∃ I : Int, e = .returned (.int .i64 I) ∧ (decide (0 ≤ I)) = xs.contains x) ∧ w' = w
def GivesCopyS (xs : List (List UInt8)) (m : Nat) (w : World) (e : Ending) (w' : World) : Prop := ∃ A' c', e = .returned (.slice A' m c') ∧ Strs w' w'.heap.size A' xs ∧ Below w.heap.size w w'
def GivesCopyN (xs : List Int) (m : Nat) (w : World) (e : Ending) (w' : World) : Prop := ∃ A' c', e = .returned (.slice A' m c') ∧ Nums w' w'.heap.size .i64 A' xs ∧ (∀ a, A' = some a → w.heap.size ≤ a.block) ∧ Below w.heap.size w w'
set_option maxRecDepth 100000 in
set_option maxHeartbeats 2000000 in
/-- InStrings: at or above nought, just if it is there. -/
theorem InStrings_is (xs : List (List UInt8)) (x : List UInt8) (A : Option Addr) (m c B : Nat) (w : World) (hm : xs.length = m) (hl : m ≤ 1000000) (h : Strs w B A xs) :
    Calls Try.prog 59 #[.slice A m c, .string (str x)] w fun e w' => GivesIn xs x w e w' := by
  have H := Lib.hid h
  have HM := Lib.hid hm
  clear h hm
  go_enter Try.func59, Try.ntmps59
  go_wp2_with fail
  go_loopw [5] (fun i wr => ∃ k : Nat, k ≤ m ∧ i = .int .i64 (k : Int) ∧ wr = w ∧ ∀ j (h : j < xs.length), j < k → xs[j] ≠ x) (fun i _ => m - (RowKit.intOf i).toNat)
  case atStart => exact ⟨0, Nat.zero_le _, rfl, rfl, fun j h hj => by omega⟩
  case round =>
    obtain ⟨k, hk, rfl, rfl, hno⟩ := hrel
    have HNo := Lib.hid hno
    clear hno
    by_cases hlt : k < m
    · have hkI : (k : Int) < (m : Int) := by omega
      have hkx : k < xs.length := by rw [HM.out]; exact hlt
      obtain ⟨a, rfl, _, hc⟩ := H.out.some_ (by omega)
      have d0 := hc k hkx
      rw [List.getD_eq_getElem?_getD, List.getElem?_eq_getElem hkx] at d0
      simp only [Option.getD_some] at d0
      by_cases he : xs[k] = x
      · have HF : Hid (xs.contains x = true) := Lib.hid (by rw [← he]; simp)
        have hq2 : ((str xs[k]).toList == (str x).toList) = true := str_eq he
        clear he hc
        generalize str xs[k] = s1 at d0 hq2
        generalize str x = s2 at hq2
        go_wp2
        go_ret
        exact ⟨⟨(k : Int), rfl, by rw [HF.out]; simp⟩, rfl⟩
      · have hq := str_ne he
        have HE := Lib.hid he
        clear he hc
        generalize str xs[k] = s1 at d0 hq
        generalize str x = s2 at hq
        go_wp2
        go_roundw
        case rel =>
          refine ⟨k + 1, hlt, by go_num, by trivial, fun j h hj => ?_⟩
          by_cases hjk : j = k
          · subst hjk; exact HE.out
          · exact HNo.out j h (by omega)
        case measure => simp [RowKit.intOf]; omega
    · have hkI : ¬ (k : Int) < (m : Int) := by omega
      have HF : Hid (xs.contains x = false) := Lib.hid (by
        rw [Bool.eq_false_iff]
        intro e
        obtain ⟨i, hi, e2⟩ := List.mem_iff_getElem.1 (List.contains_iff_mem.1 e)
        have hm := HM.out
        exact HNo.out i hi (by omega) e2)
      clear hlt
      go_wp2
      go_ret
      exact ⟨⟨-1, rfl, by rw [HF.out]; rfl⟩, rfl⟩

set_option maxRecDepth 100000 in
set_option maxHeartbeats 2000000 in
theorem CopyStrings_is (xs : List (List UInt8)) (A : Option Addr) (m c : Nat) (w : World) (hm : xs.length = m) (hl : m ≤ 1000000) (h : Strs w w.heap.size A xs) :
    Calls Try.prog 37 #[.slice A m c] w fun e w' => GivesCopyS xs m w e w' := by
  obtain ⟨i0, hi, hz0, hz1, hz2⟩ := info_parts info_string
  have H := Lib.hid h
  have HM := Lib.hid hm
  clear h hm
  go_enter Try.func37, Try.ntmps37
  go_wp2_with fail
  go_loopw [3, 4] (fun v i wr => ∃ k : Nat, k ≤ m ∧ i = .int .i64 (k : Int) ∧ wr.ownsRow w.heap.size 9 1 v k (strs (xs.take k)) ∧ Below w.heap.size w wr) (fun _ i _ => m - (RowKit.intOf i).toNat)
  case atStart => exact ⟨0, Nat.zero_le _, rfl, World.ownsRow_nil _ _ _ _, Below.refl _ _⟩
  case round =>
    obtain ⟨k, hk, rfl, hown, hb⟩ := hrel
    have HB := Lib.hid hb
    have hBr := hb.size
    clear hb
    by_cases hlt : k < m
    · have hkI : (k : Int) < (m : Int) := by omega
      have hkx : k < xs.length := by rw [HM.out]; exact hlt
      obtain ⟨a, rfl, _, hc⟩ := (H.out.below HB.out).some_ (by omega)
      have d0 := hc k hkx
      rw [List.getD_eq_getElem?_getD, List.getElem?_eq_getElem hkx] at d0
      simp only [Option.getD_some] at d0
      have HT : Hid (xs.take k ++ [xs[k]] = xs.take (k + 1)) := Lib.hid (by rw [List.take_add_one, List.getElem?_eq_getElem hkx]; rfl)
      clear hc
      generalize xs[k] = x at d0 HT
      go_wp2_with (at_builtin; refine wpList_append_own _ rfl _ _ 22 rfl w.heap.size 9 i0 (.string ⟨#[]⟩) 1 16 Try.underlying22 hi hz0 hz1 hz2 rfl (by decide) _ _ _ rfl (hown.alloc _) ⟨wr.heap.size, 0, none⟩ 1 1 [.string (str x)] rfl rfl ?c1 ?c2 ?c3 ?c4 ?c5 ?_)
      case c1 => exact cell_one_new _ _ _
      case c2 => intro u hu; simp at hu; subst hu; rfl
      case c3 => unfold maxLen; omega
      case c4 => first | omega | (simp; omega)
      case c5 => simp; omega
      intro v' w4 hown' hgrow _
      have HN := Lib.hid (HB.out.trans (below_alloc_grown hBr hown hgrow))
      have HO := Lib.hid hown'
      clear hown' hgrow hown d0
      go_wp2_with fail
      go_roundw
      case rel =>
        refine ⟨k + 1, hlt, by go_num, ?_, HN.out⟩
        rw [← HT.out, strs_snoc]
        exact HO.out
      case measure => simp [RowKit.intOf]; omega
    · have hkI : ¬ (k : Int) < (m : Int) := by omega
      obtain rfl : k = m := by omega
      rw [List.take_of_length_le (Nat.le_of_eq HM.out)] at hown
      obtain ⟨B', cb, rfl⟩ := own_any hown
      have HO := Lib.hid hown
      clear hown
      go_wp2_with fail
      go_ret
      exact ⟨B', cb, rfl, Strs.of_own (c := cb) (base := w.heap.size) (e := 9) (by rw [HM.out]; exact HO.out), HB.out⟩
theorem info_int : (Try.prog.info? 3).map (fun i => (i.zero, i.size, i.bytes)) = some (some (.int .i64 0), 1, 8) := by kernel_rfl
def nums (xs : List Int) : List Value := xs.map (Value.int .i64)
theorem nums_snoc (xs : List Int) (x : Int) : nums (xs ++ [x]) = nums xs ++ [.int .i64 x] := by simp [nums]
set_option maxRecDepth 100000 in
set_option maxHeartbeats 2000000 in
/-- CopyNumbers: the same numbers, in new memory. -/
theorem CopyNumbers_is (xs : List Int) (A : Option Addr) (m c : Nat) (w : World) (hm : xs.length = m) (hl : m ≤ 1000000) (h : Nums w w.heap.size .i64 A xs) :
    Calls Try.prog 51 #[.slice A m c] w fun e w' => GivesCopyN xs m w e w' := by
  obtain ⟨i0, hi, hz0, hz1, hz2⟩ := info_parts info_int
  have H := Lib.hid h
  have HM := Lib.hid hm
  clear h hm
  go_enter Try.func51, Try.ntmps51
  go_wp2_with fail
  go_loopw [3, 4] (fun v i wr => ∃ k : Nat, k ≤ m ∧ i = .int .i64 (k : Int) ∧ wr.ownsRow w.heap.size 3 1 v k (nums (xs.take k)) ∧ Below w.heap.size w wr) (fun _ i _ => m - (RowKit.intOf i).toNat)
  case atStart => exact ⟨0, Nat.zero_le _, rfl, World.ownsRow_nil _ _ _ _, Below.refl _ _⟩
  case round =>
    obtain ⟨k, hk, rfl, hown, hb⟩ := hrel
    have HB := Lib.hid hb
    have hBr := hb.size
    clear hb
    by_cases hlt : k < m
    · have hkI : (k : Int) < (m : Int) := by omega
      have hkx : k < xs.length := by rw [HM.out]; exact hlt
      obtain ⟨a, rfl, _, hc⟩ := (H.out.below HB.out).some_ (by omega)
      have d0 := hc k hkx
      rw [List.getD_eq_getElem?_getD, List.getElem?_eq_getElem hkx] at d0
      simp only [Option.getD_some] at d0
      have HT : Hid (xs.take k ++ [xs[k]] = xs.take (k + 1)) := Lib.hid (by rw [List.take_add_one, List.getElem?_eq_getElem hkx]; rfl)
      clear hc
      generalize xs[k] = x at d0 HT
      go_wp2_with (at_builtin; refine wpList_append_own _ rfl _ _ 35 rfl w.heap.size 3 i0 (.int .i64 0) 1 8 Try.underlying35 hi hz0 hz1 hz2 rfl (by decide) _ _ _ rfl (hown.alloc _) ⟨wr.heap.size, 0, none⟩ 1 1 [.int .i64 x] rfl rfl ?c1 ?c2 ?c3 ?c4 ?c5 ?_)
      case c1 => exact cell_one_new _ _ _
      case c2 => intro u hu; simp at hu; subst hu; rfl
      case c3 => unfold maxLen; omega
      case c4 => first | omega | (simp; omega)
      case c5 => simp; omega
      intro v' w4 hown' hgrow _
      have HN := Lib.hid (HB.out.trans (below_alloc_grown hBr hown hgrow))
      have HO := Lib.hid hown'
      clear hown' hgrow hown d0
      go_wp2_with fail
      go_roundw
      case rel =>
        refine ⟨k + 1, hlt, by go_num, ?_, HN.out⟩
        rw [← HT.out, nums_snoc]
        exact HO.out
      case measure => simp [RowKit.intOf]; omega
    · have hkI : ¬ (k : Int) < (m : Int) := by omega
      obtain rfl : k = m := by omega
      rw [List.take_of_length_le (Nat.le_of_eq HM.out)] at hown
      obtain ⟨B', cb, rfl⟩ := own_any hown
      have HO := Lib.hid hown
      clear hown
      go_wp2_with fail
      go_ret
      have hown2 : wr.ownsRow w.heap.size 3 1 (.slice B' xs.length cb) xs.length (xs.map (Value.int .i64)) := by rw [HM.out]; exact HO.out
      refine ⟨B', cb, rfl, Nums.of_own hown2, fun a ha => ?_, HB.out⟩
      subst ha
      exact (hown2.lt a.block rfl).1
end Go.Proofs.Ytgimecgdfcckbaa.Dsk
