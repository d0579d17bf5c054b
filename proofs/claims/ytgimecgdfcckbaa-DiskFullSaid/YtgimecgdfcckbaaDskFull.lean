/- There is room for so many files, so many bytes of one, and of all; one more is told so, and nothing changes. -/
import Derived.Test.YtgimecgdfcckbaaDskOff
import Derived.Laws.BytesArg
namespace Go.Proofs.Ytgimecgdfcckbaa.Dsk
open Go.RowKit Go.Lib Go.Maps

/-! ### plain -/
theorem put_last {F : List Fl} {f : Fl} (h : ∀ g ∈ F, g.n < f.n) : put F f = F ++ [f] := by
  induction F with
  | nil => rfl
  | cons a r ih =>
    unfold put
    rw [if_pos (h a (by simp)), ih fun g hg => h g (List.mem_cons_of_mem _ hg)]
    rfl
theorem look_last {F : List Fl} {n : List UInt8} (h : ∀ g ∈ F, g.n < n) : look F n = none := look_not fun g hg => lt_ne (h g hg)
def nmA (j : Nat) : List UInt8 := [UInt8.ofNat (65 + j)]
def nmF (j : Nat) : List UInt8 := [102, UInt8.ofNat (33 + j)]
/-- The first i files, as great as may be. -/
def fullF (B : List UInt8) (i : Nat) : List Fl := (List.range i).map fun j => ⟨nmA j, B, 0⟩
/-- Without the first one, and with k - 15 empty ones. -/
def fullG (B : List UInt8) (k : Nat) : List Fl := rm (fullF B 16) [65] ++ (List.range (k - 15)).map fun j => ⟨nmF (15 + j), [], 0⟩
theorem nmA_lt : ∀ i : Nat, i < 17 → ∀ j : Nat, j < i → decide (nmA j < nmA i) = true := by decide +kernel
theorem nmA_z : ∀ j : Nat, j < 17 → decide (nmA j < [122]) = true := by decide +kernel
theorem nmA_F : ∀ k : Nat, k < 66 → ∀ j : Nat, j < 17 → decide (nmA j < nmF k) = true := by decide +kernel
theorem nmF_lt : ∀ k : Nat, k < 66 → ∀ j : Nat, j < k → decide (nmF j < nmF k) = true := by decide +kernel
theorem nmA_ok : ∀ i : Nat, i < 17 → nameB (nmA i) = true := by decide +kernel
theorem nmF_ok : ∀ i : Nat, i < 66 → nameB (nmF i) = true := by decide +kernel
section
variable {B : List UInt8}
theorem full_len (i : Nat) : (fullF B i).length = i := by simp [fullF]
theorem full_mem {i : Nat} {f : Fl} (h : f ∈ fullF B i) : ∃ j, j < i ∧ f = ⟨nmA j, B, 0⟩ := by
  unfold fullF at h
  obtain ⟨j, hj, rfl⟩ := List.mem_map.1 h
  exact ⟨j, List.mem_range.1 hj, rfl⟩
theorem full_in {i j : Nat} (h : j < i) : (⟨nmA j, B, 0⟩ : Fl) ∈ fullF B i := List.mem_map.2 ⟨j, List.mem_range.2 h, rfl⟩
theorem full_succ (i : Nat) : fullF B (i + 1) = fullF B i ++ [⟨nmA i, B, 0⟩] := by
  unfold fullF
  rw [List.range_succ, List.map_append]; rfl
theorem full_total (i : Nat) : total (fullF B i) = i * B.length := by
  induction i with
  | zero => simp [fullF, total]
  | succ m ih =>
    rw [full_succ]
    have : total (fullF B m ++ [⟨nmA m, B, 0⟩]) = total (fullF B m) + B.length := by simp [total]
    rw [this, ih, Nat.succ_mul]
theorem full_put (hB : B.length = 65536) {i : Nat} (hi : i < 16) : appE (fullF B i) (nmA i) B = 0 ∧ appF (fullF B i) (nmA i) B = fullF B (i + 1) := by
  have hlt : ∀ g ∈ fullF B i, g.n < nmA i := fun g hg => by
    obtain ⟨j, hj, rfl⟩ := full_mem hg
    exact of_decide_eq_true (nmA_lt i (by omega) j hj)
  have ht := full_total (B := B) i
  rw [hB] at ht
  obtain ⟨e1, e2⟩ := appE_new (F := fullF B i) (s := B) (look_last hlt) (nmA_ok i (by omega)) (by rw [full_len]; omega) (by unfold roomB; rw [hB, ht]; simp; omega)
  refine ⟨e1, ?_⟩
  rw [e2, put_last hlt, full_succ]
theorem full_more (hB : B.length = 65536) {i : Nat} (hi : i < 16) (hs : Sorted (fullF B (i + 1))) : appE (fullF B (i + 1)) (nmA i) [120] = 5 ∧ appF (fullF B (i + 1)) (nmA i) [120] = fullF B (i + 1) := by
  have hl : look (fullF B (i + 1)) (nmA i) = some ⟨nmA i, B, 0⟩ := look_of hs (full_in (by omega)) rfl
  refine appE_full (nmA_ok i (by omega)) ?_
  unfold fullB
  rw [hl]
  simp [roomB, hB]
theorem full_z (hB : B.length = 65536) : appE (fullF B 16) [122] [120] = 5 ∧ appF (fullF B 16) [122] [120] = fullF B 16 := by
  have hlt : ∀ g ∈ fullF B 16, g.n < [122] := fun g hg => by
    obtain ⟨j, hj, rfl⟩ := full_mem hg
    exact of_decide_eq_true (nmA_z j (by omega))
  refine appE_full (by decide +kernel) ?_
  unfold fullB
  rw [look_last hlt]
  have ht := full_total (B := B) 16
  rw [hB] at ht
  simp [roomB, ht]
theorem full_del (hs : Sorted (fullF B 16)) : syncE (fullF B 16) [65] = 0 := by
  have hl : look (fullF B 16) [65] = some ⟨nmA 0, B, 0⟩ := look_of hs (full_in (by omega)) rfl
  unfold syncE
  rw [hl]
theorem rm_count (B : List UInt8) : (rm (fullF B 16) [65]).length = 15 := by
  have h : ((rm (fullF B 16) [65]).map Fl.n).length = 15 := by
    have e : (rm (fullF B 16) [65]).map Fl.n = ((fullF B 16).map Fl.n).filter fun n => !(n == [65]) := by
      unfold rm
      rw [List.filter_map]; rfl
    have e2 : (fullF B 16).map Fl.n = (List.range 16).map nmA := by unfold fullF; rw [List.map_map]; rfl
    rw [e, e2]
    decide +kernel
  simpa using h
theorem fullG_0 : fullG B 15 = rm (fullF B 16) [65] := by simp [fullG]
theorem fullG_len {k : Nat} (hk : 15 ≤ k) : (fullG B k).length = k := by
  unfold fullG
  rw [List.length_append, rm_count, List.length_map, List.length_range]; omega
theorem fullG_total (hB : B.length = 65536) (k : Nat) : total (fullG B k) ≤ 1048576 := by
  have h1 : total (rm (fullF B 16) [65]) ≤ total (fullF B 16) := rm_total
  rw [full_total, hB] at h1
  have h2 : total (fullG B k) = total (rm (fullF B 16) [65]) := by
    unfold fullG total
    rw [List.map_append, List.sum_append, List.map_map]
    have : ((List.range (k - 15)).map ((fun f : Fl => f.t.length) ∘ fun j => ⟨nmF (15 + j), [], 0⟩)).sum = 0 := by
      generalize List.range (k - 15) = l
      induction l with
      | nil => rfl
      | cons a r ih => rw [List.map_cons, List.sum_cons, ih]; rfl
    omega
  omega
theorem fullG_lt {k : Nat} (hk : k < 66) : ∀ g ∈ fullG B k, g.n < nmF k := fun g hg => by
  unfold fullG at hg
  rcases List.mem_append.1 hg with hg | hg
  · obtain ⟨j, hj, rfl⟩ := full_mem (mem_rm.1 hg).1
    exact of_decide_eq_true (nmA_F k hk j (by omega))
  · obtain ⟨j, hj, rfl⟩ := List.mem_map.1 hg
    have := List.mem_range.1 hj
    exact of_decide_eq_true (nmF_lt k hk (15 + j) (by omega))
theorem fullG_put (hB : B.length = 65536) {k : Nat} (h15 : 15 ≤ k) (hk : k < 64) : appE (fullG B k) (nmF k) [] = 0 ∧ appF (fullG B k) (nmF k) [] = fullG B (k + 1) := by
  have hlt := fullG_lt (B := B) (k := k) (by omega)
  have ht := fullG_total hB k
  obtain ⟨e1, e2⟩ := appE_new (F := fullG B k) (s := []) (look_last hlt) (nmF_ok k (by omega)) (by rw [fullG_len h15]; omega) (by unfold roomB; simp; omega)
  refine ⟨e1, ?_⟩
  rw [e2, put_last hlt]
  unfold fullG
  rw [show k + 1 - 15 = (k - 15) + 1 by omega, List.range_succ, List.map_append, List.append_assoc]
  have : 15 + (k - 15) = k := by omega
  simp [this]
theorem fullG_full (hB : B.length = 65536) : appE (fullG B 64) (nmF 64) [] = 5 ∧ appF (fullG B 64) (nmF 64) [] = fullG B 64 := by
  refine appE_full (nmF_ok 64 (by omega)) ?_
  unfold fullB
  rw [look_last (fullG_lt (by omega)), fullG_len (by omega)]
  rfl
end

/-! ### memory -/
/-- So many noughts, as a text. -/
theorem make_big (w : World) : ∃ (w1 : World) (B : List UInt8), B.length = 65536 ∧ (Instr.makeSlice 42 (.int .i64 65536) (.int .i64 65536)).run Try.prog w = .ok (.slice (some ⟨w.heap.size, 0, none⟩) 65536 65536) w1 ∧
    (convert 42 9 (.slice (some ⟨w.heap.size, 0, none⟩) 65536 65536)).run Try.prog w1 = .ok (.string (str B)) w1 ∧ Below w.heap.size w w1 := by
  obtain ⟨i0, hi, hz0, hz1, hz2⟩ := info_parts info_byte
  obtain ⟨n, hn⟩ : ∃ n : Nat, n = 65536 := ⟨_, rfl⟩
  obtain ⟨w1, hr, ho, hg⟩ := run_makeSlice_full (P := Try.prog) w w.heap.size 42 5 i0 (.int .u8 0) 1 Try.underlying42 hi hz0 hz1 .i64 .i64 n (by omega) (by rw [hz2]; omega) (by unfold maxLen; omega) (Nat.le_refl _)
  have key := ho.cells (g := w.heap.size) rfl
  have hc := run_convert_bytes_arg w1 42 5 Try.underlying42 Try.underlying5 w.heap.size 0 n n (List.replicate n 0) (List.length_replicate) (fun j hj => by
    have := key j (.int .u8 0) (by rw [show (Value.int .u8 0).cells = #[.int .u8 0] from rfl, toList_madeCells_one, List.getElem?_replicate, if_pos (by omega)])
    rw [add_new] at this
    rw [Nat.zero_add, this, List.getD_eq_getElem?_getD, List.getElem?_replicate, if_pos hj]
    rfl) 9 Try.underlying9
  have he : strOfNums (List.replicate n 0) = str (List.replicate n 0) := by
    rw [← strOf_nums, List.map_replicate]; rfl
  rw [he] at hc
  refine ⟨w1, List.replicate n 0, by rw [List.length_replicate, hn], ?_, ?_, ⟨hg.os, hg.tape, hg.output, hg.size, fun k hk => hg.block k hk (fun e => by cases e)⟩⟩
  · have e : ((n : Nat) : Int) = 65536 := by omega
    rw [e, hn] at hr
    exact hr
  · generalize List.replicate n (0 : UInt8) = Z at hc ⊢
    rw [hn] at hc
    exact hc
theorem conv_byte (c : Nat) (e : Int) (he : e = (c : Int)) (w : World) : (convert 42 9 (.slice (some ⟨w.heap.size, 0, none⟩) 1 1)).run Try.prog (w.alloc (.cells #[.int .u8 e] 5)) = .ok (.string (str [UInt8.ofNat c])) (w.alloc (.cells #[.int .u8 e] 5)) := by
  have h := run_convert_bytes_arg (P := Try.prog) (w.alloc (.cells #[.int .u8 e] 5)) 42 5 Try.underlying42 Try.underlying5 w.heap.size 0 1 1 [e] rfl (fun i hi => by
    obtain rfl : i = 0 := by simpa using hi
    exact cell_of_row (w.alloc _) w.heap.size 0 _ _ (0, 0) (heap_alloc_new w _)) 9 Try.underlying9
  rw [h]
  subst he
  rfl

set_option maxRecDepth 100000 in
set_option maxHeartbeats 8000000 in
theorem DiskFull_any (A B L : Option Addr) (n c n' c' m cl : Nat) (w : World) :
    Calls Try.prog 5 #[.agg #[.slice A n c, .slice B n' c', .slice L m cl]] w fun e w' => e = .returned (.bool true) ∧ Below w.heap.size w w' := by
  have HX := Lib.hid ((Below.refl w.heap.size w).alloc (Nat.le_refl _) (.cells #[.slice A n c, .slice B n' c', .slice L m cl] 25))
  have HB := Lib.hid (Bk.new w 25 #[.slice A n c, .slice B n' c', .slice L m cl])
  have HNm := Lib.hid (fun (x : Int) W => num_is x W)
  go_enter Try.func5, Try.ntmps5
  go_upto_region 1 with fail
  obtain ⟨W0, hW⟩ : ∃ W0, w.alloc (.cells #[.slice A n c, .slice B n' c', .slice L m cl] 25) = W0 := ⟨_, rfl⟩
  rw [hW] at HB HX ⊢
  clear hW
  obtain ⟨g, hg⟩ : ∃ g, w.heap.size = g := ⟨_, rfl⟩
  have HG := Lib.hid hg
  rw [hg] at HB ⊢
  clear hg
  have HN := Lib.hid (new_none_at W0)
  go_wp2_with fail
  refine HN.out.mono ?_
  rintro e w1 ⟨d, rfl, h1⟩
  have H1 := Lib.hid h1
  clear h1 HN
  obtain ⟨w2, Bg, hBg, hmk, hcv, hb2⟩ := make_big w1
  have HBg := Lib.hid hBg
  have H2 := Lib.hid (H1.out.below hb2)
  obtain ⟨sb, hsb⟩ : ∃ sb, str Bg = sb := ⟨_, rfl⟩
  have HSB := Lib.hid hsb
  rw [hsb] at hcv
  clear hBg hb2 hsb
  go_wp2_with (go_at_call 12; refine (HNm.out _ _).mono ?_; rintro e w' ⟨rfl, rfl⟩)
  clear hmk hcv H1
  go_loopw [6] (fun i wr => ∃ k : Nat, k ≤ 16 ∧ i = .int .i64 (k : Int) ∧ At W0 wr d (fullF Bg k) 0 false) (fun i _ => 16 - (RowKit.intOf i).toNat)
  case atStart => exact ⟨0, by omega, rfl, H2.out⟩
  case round =>
    obtain ⟨k, hk, rfl, hat⟩ := hrel
    have HAt := Lib.hid hat
    clear hat
    by_cases hlt : k < 16
    · have hkI : (k : Int) < 16 := by omega
      have cv := conv_byte (65 + k) (65 + (k : Int)) (by omega) wr
      have HAA := Lib.hid (HAt.out.alloc (.cells #[.int .u8 (65 + (k : Int))] 5))
      obtain ⟨p1, p2⟩ := full_put HBg.out hlt
      have HP1 := Lib.hid (fun W (h : At W0 W d (fullF Bg k) 0 false) => app_at h (nmA k) Bg 0 _ (by simp [nmA]) (by rw [HBg.out]; omega) p1 p2)
      have HP2 := Lib.hid (fun W (h : At W0 W d (fullF Bg (k + 1)) 0 false) => app_at h (nmA k) [120] 5 _ (by simp [nmA]) (by simp) (full_more HBg.out hlt h.good.sorted).1 (full_more HBg.out hlt h.good.sorted).2)
      rw [HSB.out] at HP1
      have HP2' : Hid (∀ W, At W0 W d (fullF Bg (k + 1)) 0 false → Calls Try.prog 13 #[.pointer (some ⟨d, 0, none⟩), .string (str (nmA k)), .string ⟨#[120]⟩] W fun e w' => e = .returned (.int .i64 5) ∧ At W0 w' d (fullF Bg (k + 1)) 0 false) := HP2
      have cv2 : (convert 42 9 (.slice (some ⟨wr.heap.size, 0, none⟩) 1 1)).run Try.prog (wr.alloc (.cells #[.int .u8 (65 + (k : Int))] 5)) = .ok (.string (str (nmA k))) (wr.alloc (.cells #[.int .u8 (65 + (k : Int))] 5)) := cv
      generalize str (nmA k) = sn at HP1 HP2' cv2
      clear cv HP2 p1 p2
      go_wp2_with fail
      refine (HP1.out _ HAA.out).mono ?_
      rintro e w3 ⟨rfl, h3⟩
      have H3 := Lib.hid h3
      clear h3 HP1 HAA HAt cv2
      go_wp2_with (go_at_call 12; refine (HNm.out _ _).mono ?_; rintro e w' ⟨rfl, rfl⟩)
      refine (HP2'.out _ H3.out).mono ?_
      rintro e w4 ⟨rfl, h4⟩
      have H4 := Lib.hid h4
      clear h4 HP2' H3
      go_wp2_with (go_at_call 12; refine (HNm.out _ _).mono ?_; rintro e w' ⟨rfl, rfl⟩)
      go_roundw
      case rel => exact ⟨k + 1, hlt, by go_num, H4.out⟩
      case measure => simp [RowKit.intOf]; omega
    · have hkI : ¬ (k : Int) < 16 := by omega
      have H16 : Hid (At W0 wr d (fullF Bg 16) 0 false) := Lib.hid (by have := HAt.out; rwa [show k = 16 by omega] at this)
      have HSz := Lib.hid (show Calls Try.prog 21 #[.pointer (some ⟨d, 0, none⟩), .string ⟨#[65]⟩] wr fun e w' => e = .returned (.tuple #[.int .i64 65536, .int .i64 0]) ∧ w' = wr from by
        have := size_at H16.out ⟨nmA 0, Bg, 0⟩ (full_in (by omega)) (by simp [nmA])
        rw [HBg.out] at this
        exact this)
      have HAz := Lib.hid (fun W (h : At W0 W d (fullF Bg 16) 0 false) => show Calls Try.prog 13 #[.pointer (some ⟨d, 0, none⟩), .string ⟨#[122]⟩, .string ⟨#[120]⟩] W fun e w' => e = .returned (.int .i64 5) ∧ At W0 w' d (fullF Bg 16) 0 false from
        app_at h [122] [120] 5 _ (by simp) (by simp) (full_z HBg.out).1 (full_z HBg.out).2)
      have HDl := Lib.hid (fun W (h : At W0 W d (fullF Bg 16) 0 false) => show Calls Try.prog 22 #[.pointer (some ⟨d, 0, none⟩), .string ⟨#[65]⟩] W fun e w' => e = .returned (.int .i64 0) ∧ At W0 w' d (fullG Bg 15) 0 false from
        del_at h [65] 0 _ (by simp) (full_del h.good.sorted) fullG_0.symm)
      clear HAt
      go_wp2_with fail
      refine HSz.out.mono ?_
      rintro e w3 ⟨rfl, rfl⟩
      clear HSz
      go_wp2_with fail
      refine (HAz.out _ H16.out).mono ?_
      rintro e w4 ⟨rfl, h4⟩
      have H4 := Lib.hid h4
      clear h4 HAz H16
      go_wp2_with (go_at_call 12; refine (HNm.out _ _).mono ?_; rintro e w' ⟨rfl, rfl⟩)
      refine (HDl.out _ H4.out).mono ?_
      rintro e w5 ⟨rfl, h5⟩
      have H5 := Lib.hid h5
      clear h5 HDl H4
      go_wp2_with (go_at_call 12; refine (HNm.out _ _).mono ?_; rintro e w' ⟨rfl, rfl⟩)
      clear hkI hlt hk
      go_loopw [11] (fun i wr => ∃ j : Nat, 15 ≤ j ∧ j ≤ 65 ∧ i = .int .i64 (j : Int) ∧ At W0 wr d (fullG Bg (min j 64)) 0 false) (fun i _ => 65 - (RowKit.intOf i).toNat)
      case atStart => exact ⟨15, by omega, by omega, rfl, H5.out⟩
      case round =>
        obtain ⟨j, hj15, hj65, rfl, hat⟩ := hrel
        have HAt := Lib.hid hat
        clear hat H5
        by_cases hlt : j ≤ 64
        · have hjI : (j : Int) ≤ 64 := by omega
          have cv := conv_byte (33 + j) (33 + (j : Int)) (by omega) wr
          have HAA := Lib.hid (HAt.out.alloc (.cells #[.int .u8 (33 + (j : Int))] 5))
          have hcat : (⟨#[102]⟩ : ByteArray) ++ str [UInt8.ofNat (33 + j)] = str (nmF j) := by apply ByteArray.ext; simp [str, nmF]
          have hz : ¬ (9223372036854775807 < 1 + (str [UInt8.ofNat (33 + j)]).size) := by rw [str_size]; simp
          by_cases h64 : j < 64
          · have hmin : min j 64 = j := by omega
            rw [hmin] at HAA
            obtain ⟨p1, p2⟩ := fullG_put HBg.out hj15 h64
            have HP : Hid (∀ W, At W0 W d (fullG Bg j) 0 false → Calls Try.prog 13 #[.pointer (some ⟨d, 0, none⟩), .string (str (nmF j)), .string ⟨#[]⟩] W fun e w' => e = .returned (.int .i64 0) ∧ At W0 w' d (fullG Bg (j + 1)) 0 false) :=
              Lib.hid (fun W h => app_at h (nmF j) [] 0 _ (by simp [nmF]) (by simp) p1 p2)
            have q1 : decide ((j : Int) < 64) = true := by simp; omega
            generalize str (nmF j) = sn at HP hcat
            generalize str [UInt8.ofNat (33 + j)] = sx at cv hcat hz
            clear p1 p2 hmin HAt
            go_wp2_with fail
            refine (HP.out _ HAA.out).mono ?_
            rintro e w6 ⟨rfl, h6⟩
            have H6 := Lib.hid h6
            clear h6 HP HAA cv hcat hz
            go_wp2_with (go_at_call 12; refine (HNm.out _ _).mono ?_; rintro e w' ⟨rfl, rfl⟩)
            go_roundw
            case rel => exact ⟨j + 1, by omega, by omega, by go_num, by rw [show min (j + 1) 64 = j + 1 by omega]; exact H6.out⟩
            case measure => simp [RowKit.intOf]; omega
          · have hj : j = 64 := by omega
            have HJ := Lib.hid hj
            have hmin : min j 64 = 64 := by omega
            rw [hmin] at HAA
            have HP : Hid (∀ W, At W0 W d (fullG Bg 64) 0 false → Calls Try.prog 13 #[.pointer (some ⟨d, 0, none⟩), .string (str (nmF j)), .string ⟨#[]⟩] W fun e w' => e = .returned (.int .i64 5) ∧ At W0 w' d (fullG Bg 64) 0 false) :=
              Lib.hid (fun W h => by rw [HJ.out]; exact app_at h (nmF 64) [] 5 _ (by simp [nmF]) (by simp) (fullG_full HBg.out).1 (fullG_full HBg.out).2)
            have q1 : decide ((j : Int) < 64) = false := by simp; omega
            generalize str (nmF j) = sn at HP hcat
            generalize str [UInt8.ofNat (33 + j)] = sx at cv hcat hz
            clear hmin HAt hj h64
            go_wp2_with fail
            refine (HP.out _ HAA.out).mono ?_
            rintro e w6 ⟨rfl, h6⟩
            have H6 := Lib.hid h6
            clear h6 HP HAA cv hcat hz
            go_wp2_with (go_at_call 12; refine (HNm.out _ _).mono ?_; rintro e w' ⟨rfl, rfl⟩)
            go_roundw
            case rel => exact ⟨j + 1, by omega, by have := HJ.out; omega, by go_num, by rw [show min (j + 1) 64 = 64 by have := HJ.out; omega]; exact H6.out⟩
            case measure => have := HJ.out; simp [RowKit.intOf]; omega
        · have hjI : ¬ (j : Int) ≤ 64 := by omega
          have H65 : Hid (At W0 wr d (fullG Bg 64) 0 false) := Lib.hid (by have := HAt.out; rwa [show min j 64 = 64 by omega] at this)
          have HE1 := Lib.hid (fun W (h : At W0 W d (fullG Bg 64) 0 false) => show Calls Try.prog 13 #[.pointer (some ⟨d, 0, none⟩), .string ⟨#[]⟩, .string ⟨#[120]⟩] W fun e w' => e = .returned (.int .i64 1) ∧ At W0 w' d (fullG Bg 64) 0 false from
            app_at h [] [120] 1 _ (by simp) (by simp) (appE_bad (by decide +kernel)).1 (appE_bad (by decide +kernel)).2)
          have HE2 := Lib.hid (fun W (h : At W0 W d (fullG Bg 64) 0 false) => show Calls Try.prog 13 #[.pointer (some ⟨d, 0, none⟩), .string ⟨#[97, 32, 98]⟩, .string ⟨#[120]⟩] W fun e w' => e = .returned (.int .i64 1) ∧ At W0 w' d (fullG Bg 64) 0 false from
            app_at h [97, 32, 98] [120] 1 _ (by simp) (by simp) (appE_bad (by decide +kernel)).1 (appE_bad (by decide +kernel)).2)
          have HWk := Lib.hid (fun W => wakes_is W)
          have hmI : (0 : Int) ≤ (m : Int) := by omega
          clear HAt hlt
          go_wp2_with fail
          refine (HE1.out _ H65.out).mono ?_
          rintro e w7 ⟨rfl, h7⟩
          have H7 := Lib.hid h7
          clear h7 HE1 H65
          go_wp2_with (go_at_call 12; refine (HNm.out _ _).mono ?_; rintro e w' ⟨rfl, rfl⟩)
          refine (HE2.out _ H7.out).mono ?_
          rintro e w8 ⟨rfl, h8⟩
          have H8 := Lib.hid h8
          clear h8 HE2 H7
          have c2 := (HB.out.below H8.out.low).cell 2
          simp at c2
          go_wp2_with (go_at_call 12; refine (HNm.out _ _).mono ?_; rintro e w' ⟨rfl, rfl⟩)
          refine (HWk.out _).mono ?_
          rintro e w9 ⟨rfl, hb9⟩
          have HEnd := Lib.hid (HX.out.trans ((H8.out.low.trans (hb9.mono H8.out.low.size)).mono HX.out.size))
          clear hb9
          go_wp2_with fail
          go_ret
          exact ⟨rfl, HEnd.out⟩
end Go.Proofs.Ytgimecgdfcckbaa.Dsk
