/- The document's own answer: the bytes of properties that may be. -/
import Derived.Test.YtdbbcfohjkgdcaaGreatL00
import Derived.Test.YtdbbcfohjkgdcaaGreatL42
set_option maxRecDepth 100000
set_option maxHeartbeats 64000000
namespace Go.Proofs.YtdbbcfohjkgdcaaGreat
open Go.RowKit Go.Lib Prp
theorem twice_take (place id : Int) (l : List P) (k : Nat) (A : Option Addr) (c B : Nat) (b : Bool) (w : World) (hk : k ≤ l.length) (hm : l.length ≤ 9223372036854775807) (h : PropsAt w B A l) (hb : twiceB place id (l.take k) = b) :
  Calls Tryz.prog 74 #[.int .i64 place, .int .i64 id, .slice A k c] w fun e w' => e = .returned (.bool b) ∧ w = w' := by
 have := twice_is place id (l.take k) A c B b w (by rw [List.length_take]; omega) (h.take k) hb
 rwa [List.length_take, Nat.min_eq_left hk] at this
theorem RProps_is (place : Int) (l : List P) (A : Option Addr) (c : Nat) (z : Bool) (w : World) (hm : l.length ≤ 9223372036854775807) (hcap : l.length ≤ c) (hfit : ∀ p ∈ l, Fit p) (h : PropsAt w w.heap.size A l) (hz : propsB place l = z) :
  Calls Tryz.prog 35 #[.int .i64 place, .slice A l.length c] w fun e w' => e = .returned (.bool z) ∧ Below w.heap.size w w' := by
 have H := Lib.hid h
 have HF := Lib.hid hfit
 clear h hfit
 obtain ⟨x, hx⟩ : ∃ x, placeB place = x := ⟨_, rfl⟩
 have HP := Lib.hid (fun W => Place_is place x W hx)
 cases x with
 | false =>
  obtain rfl : false = z := (props_place (l := l) hx).symm.trans hz
  clear hx hz
  go_enter Tryz.func35, Tryz.ntmps35
  go_wp2_with (go_at_call 71; refine (HP.out _).mono ?_; rintro e w' ⟨rfl, rfl⟩)
  go_ret
  exact ⟨rfl, Below.refl _ _⟩
 | true =>
 by_cases h8 : 8 < l.length
 ·obtain rfl : false = z := (props_many (place := place) h8).symm.trans hz
  clear hx hz
  go_enter Tryz.func35, Tryz.ntmps35
  go_wp2_with (go_at_call 71; refine (HP.out _).mono ?_; rintro e w' ⟨rfl, rfl⟩)
  go_ret
  exact ⟨rfl, Below.refl _ _⟩
 have hd8 : decide (8 < (l.length : Int)) = false := by simp; omega
 have hl8 : l.length ≤ 8 := by omega
 have HG := Lib.hid ((props_few hx hl8).symm.trans hz)
 clear hx hz
 go_enter Tryz.func35, Tryz.ntmps35
 go_wp2_with (go_at_call 71; refine (HP.out _).mono ?_; rintro e w' ⟨rfl, rfl⟩)
 go_loopw [5] (fun i wr => ∃ k : Nat, k ≤ l.length ∧ i = .int .i64 (k : Int) ∧ RSt w A l wr ∧ z = goodL place (l.take k) (l.drop k)) (fun i _ => l.length - (RowKit.intOf i).toNat)
 case atStart => exact ⟨0, Nat.zero_le _, rfl, .mk H.out (Below.refl _ _), HG.out.symm⟩
 case round =>
  obtain ⟨k, hk, rfl, hst, hgood⟩ := hrel
  have HT := Lib.hid hst
  have HGD := Lib.hid hgood
  clear hst hgood
  by_cases hlt : k < l.length
  ·have HGS := Lib.hid (HGD.out.trans (good_step hlt))
   have hfp : Fit l[k] := HF.out _ (List.getElem_mem hlt)
   obtain ⟨b0, o, rfl, hb0, hc⟩ := HT.out.out.1.some_ (by omega)
   clear hc
   obtain ⟨d0, d1, d2, d3⟩ := HT.out.cells k hlt
   have HCL := Lib.hid (fun (W : World) (h : RSt w (some ⟨b0, o, none⟩) l W) => h.cells k hlt)
   obtain ⟨q, hq⟩ : ∃ q, l[k] = q := ⟨_, rfl⟩
   rw [hq] at d0 d1 d2 d3 hfp HCL HGS
   clear hq
   obtain ⟨id, n, s, v⟩ := q
   have hn1 := hfp.n1
   have hs1 := hfp.hs
   have hkI : (k : Int) < (l.length : Int) := by omega
   have hk0 : (0 : Int) ≤ (k : Int) := by omega
   have hkc : (k : Int) ≤ (c : Int) := by omega
   obtain ⟨f, hf⟩ : ∃ f, fitsB ⟨id, n, s, v⟩ = f := ⟨_, rfl⟩
   have HFI := Lib.hid (fun W => fits_is id n s v f W (by have : s.size ≤ 140737488351232 := hs1; omega) hf)
   obtain ⟨g, hg⟩ : ∃ g, standB place id = g := ⟨_, rfl⟩
   have HSI := Lib.hid (fun W => stands_is place id g W hg)
   obtain ⟨t, ht⟩ : ∃ t, twiceB place id (l.take k) = t := ⟨_, rfl⟩
   have HTI := Lib.hid (fun (W : World) (h : RSt w (some ⟨b0, o, none⟩) l W) => twice_take place id l k (some ⟨b0, o, none⟩) c w.heap.size t W hk hm h.out.1 ht)
   have HGO : Hid (goodB place (l.take k) ⟨id, n, s, v⟩ = (g && (f && !t))) := by show _ = _; unfold goodB; rw [hf, ht]; show (standB place id && _) = _; rw [hg]
   clear hf hg ht
   have st0 := HT.out
   clear HT
   go_wp2_with fail
   haveI : Nonempty (In (RSt w (some ⟨b0, o, none⟩) l)) := ⟨⟨_, st0⟩⟩
   have k0 : ∀ u : In (RSt w (some ⟨b0, o, none⟩) l), u.w.cell? ⟨b0, o + k * 4, none⟩ = some (.int .i64 id) := fun u => (HCL.out _ u.h).c0
   have k1 : ∀ u : In (RSt w (some ⟨b0, o, none⟩) l), u.w.cell? ⟨b0, o + k * 4 + 1, none⟩ = some (.int .i64 n) := fun u => (HCL.out _ u.h).c1
   have k2 : ∀ u : In (RSt w (some ⟨b0, o, none⟩) l), u.w.cell? ⟨b0, o + k * 4 + 2, none⟩ = some (.string s) := fun u => (HCL.out _ u.h).c2
   have k3 : ∀ u : In (RSt w (some ⟨b0, o, none⟩) l), u.w.cell? ⟨b0, o + k * 4 + 3, none⟩ = some (.string v) := fun u => (HCL.out _ u.h).c3
   cases f with
   | true =>
    cases g with
    | true =>
     refine region_in (S := RSt w (some ⟨b0, o, none⟩) l) (by kernel_rfl) (by kernel_rfl) (st0.drewN 1) ?_
     repeat (go_big_quiet_step (first | (go_at_call 72; exact in_call ((HFI.out _).mono fun _ _ h => ⟨h.1, RSt.below (In.h _) h.2⟩)) | (go_at_call 73; exact in_call ((HSI.out _).mono fun _ _ h => ⟨h.1, RSt.below (In.h _) h.2⟩)) | (go_at_call 74; exact in_call ((HTI.out _ (In.h _)).mono fun _ _ h => ⟨h.1, by rw [← h.2]; exact In.h _⟩))))
     refine wpQuiet_nil ?_
     rintro _ ⟨⟨w2, st2⟩, rfl⟩
     clear st0
     have HT2 := Lib.hid st2
     clear st2 k0 k1 k2 k3 HCL HFI HSI HTI d0 d1 d2 d3
     cases t with
     | true =>
      obtain rfl : z = false := HGS.out.trans (by rw [HGO.out]; rfl)
      go_wp2_with fail
      go_ret
      exact ⟨rfl, HT2.out.out.2⟩
     | false =>
      have HN : Hid (z = goodL place (l.take (k + 1)) (l.drop (k + 1))) := HGS.out.trans (by rw [HGO.out]; simp)
      go_wp2_with fail
      go_roundw
      case rel => exact ⟨k + 1, hlt, by go_num, HT2.out, HN.out⟩
      case measure => simp [RowKit.intOf]; omega
    | false =>
     obtain rfl : z = false := HGS.out.trans (by rw [HGO.out]; rfl)
     refine region_in (S := RSt w (some ⟨b0, o, none⟩) l) (by kernel_rfl) (by kernel_rfl) (st0.drewN 1) ?_
     repeat (go_big_quiet_step (first | (go_at_call 72; exact in_call ((HFI.out _).mono fun _ _ h => ⟨h.1, RSt.below (In.h _) h.2⟩)) | (go_at_call 73; exact in_call ((HSI.out _).mono fun _ _ h => ⟨h.1, RSt.below (In.h _) h.2⟩)) | (go_at_call 74; exact in_call ((HTI.out _ (In.h _)).mono fun _ _ h => ⟨h.1, by rw [← h.2]; exact In.h _⟩))))
     refine wpQuiet_nil ?_
     rintro _ ⟨⟨w2, st2⟩, rfl⟩
     clear st0
     have HT2 := Lib.hid st2
     clear st2 k0 k1 k2 k3 HCL HFI HSI HTI d0 d1 d2 d3
     go_wp2_with fail
     go_ret
     exact ⟨rfl, HT2.out.out.2⟩
   | false =>
    obtain rfl : z = false := HGS.out.trans (by rw [HGO.out]; cases g <;> rfl)
    refine region_in (S := RSt w (some ⟨b0, o, none⟩) l) (by kernel_rfl) (by kernel_rfl) (st0.drewN 1) ?_
    repeat (go_big_quiet_step (first | (go_at_call 72; exact in_call ((HFI.out _).mono fun _ _ h => ⟨h.1, RSt.below (In.h _) h.2⟩)) | (go_at_call 73; exact in_call ((HSI.out _).mono fun _ _ h => ⟨h.1, RSt.below (In.h _) h.2⟩)) | (go_at_call 74; exact in_call ((HTI.out _ (In.h _)).mono fun _ _ h => ⟨h.1, by rw [← h.2]; exact In.h _⟩))))
    refine wpQuiet_nil ?_
    rintro _ ⟨⟨w2, st2⟩, rfl⟩
    clear st0
    have HT2 := Lib.hid st2
    clear st2 k0 k1 k2 k3 HCL HFI HSI HTI d0 d1 d2 d3
    go_wp2_with fail
    go_ret
    exact ⟨rfl, HT2.out.out.2⟩
  ·obtain rfl : k = l.length := by omega
   have hgo : z = true := by have := HGD.out; rw [List.drop_length] at this; exact this
   subst hgo
   go_wp2_with fail
   go_ret
   exact ⟨rfl, HT.out.out.2⟩
open Go.RowKit Go.Lib Prp Vbi
theorem app_assoc (a b c : ByteArray) : (a ++ b) ++ c = a ++ (b ++ c) := by
 apply ByteArray.ext
 simp only [ByteArray.data_append]
 exact Array.append_assoc
theorem conv_byte2 (z : Int) (w : World) (o : Obj) : (convert 68 9 (.slice (some ⟨w.heap.size + 1, 0, none⟩) 1 1)).run Tryz.prog ((w.alloc o).alloc (.cells #[.int .u8 z] 5)) = .ok (.string (strOfNums [z])) ((w.alloc o).alloc (.cells #[.int .u8 z] 5)) := by
 have := conv_byte z (w.alloc o)
 rwa [show (w.alloc o).heap.size = w.heap.size + 1 by simp] at this
theorem RNum_z (x : Int) (S : ByteArray) (w : World) (h0 : 0 ≤ x) (h1 : x < 268435456) (hS : strOfNums (numZ x.toNat) = S) :
  Calls Tryz.prog 42 #[.int .i64 x] w fun e w' => e = .returned (.string S) ∧ Below w.heap.size w w' := by
 subst hS
 obtain ⟨m, rfl⟩ := Int.eq_ofNat_of_zero_le h0
 exact RNum_ok m w (by omega)
theorem RFixed_z2 (x : Int) (S : ByteArray) (w : World) (h0 : 0 ≤ x) (h1 : x < 65536) (hS : strOfNums (fixZ 2 x.toNat) = S) :
  Calls Tryz.prog 78 #[.int .i64 x, .int .i64 2] w fun e w' => e = .returned (.string S) ∧ Below w.heap.size w w' := by
 subst hS
 obtain ⟨m, rfl⟩ := Int.eq_ofNat_of_zero_le h0
 exact RFixed_ok m 2 w (by omega) (by omega)
theorem RFixed_z4 (x : Int) (S : ByteArray) (w : World) (h0 : 0 ≤ x) (h1 : x < 4294967296) (hS : strOfNums (fixZ 4 x.toNat) = S) :
  Calls Tryz.prog 78 #[.int .i64 x, .int .i64 4] w fun e w' => e = .returned (.string S) ∧ Below w.heap.size w w' := by
 subst hS
 obtain ⟨m, rfl⟩ := Int.eq_ofNat_of_zero_le h0
 exact RFixed_ok m 4 w (by omega) (by omega)
theorem RFixed_n2 (n : Nat) (S : ByteArray) (w : World) (h1 : n < 65536) (hS : strOfNums (fixZ 2 n) = S) :
  Calls Tryz.prog 78 #[.int .i64 (n : Int), .int .i64 2] w fun e w' => e = .returned (.string S) ∧ Below w.heap.size w w' := by
 subst hS
 exact RFixed_ok n 2 w (by omega) (by omega)
theorem val_1 {p : P} (h : valB 1 p = true) : p.n = 0 ∨ p.n = 1 := (of_decide_eq_true h).1
theorem val_2 {p : P} (h : valB 2 p = true) : 0 ≤ p.n ∧ p.n < 65536 := (of_decide_eq_true h).1
theorem val_3 {p : P} (h : valB 3 p = true) : 0 ≤ p.n ∧ p.n < 4294967296 := (of_decide_eq_true h).1
theorem val_4 {p : P} (h : valB 4 p = true) : 0 ≤ p.n ∧ p.n < 268435456 := (of_decide_eq_true h).1
theorem val_5 {p : P} (h : valB 5 p = true) : p.s.size ≤ 1024 := text_size (of_decide_eq_true h).2.1
theorem val_6 {p : P} (h : valB 6 p = true) : p.s.size ≤ 1024 := by
 have := (of_decide_eq_true h).2.1
 unfold binB at this
 exact of_decide_eq_true this
theorem val_7 {p : P} (h : valB 7 p = true) : p.s.size ≤ 1024 ∧ p.v.size ≤ 1024 := ⟨text_size (of_decide_eq_true h).2.1, text_size (of_decide_eq_true h).2.2⟩
theorem RPropBytes_is (l : List P) (A : Option Addr) (c : Nat) (S : ByteArray) (w : World) (hm : l.length ≤ 8) (hok : ∀ p ∈ l, kindZ p.id ≠ 0 ∧ valB (kindZ p.id) p = true) (h : PropsAt w w.heap.size A l) (hS : propStr l = S) :
  Calls Tryz.prog 79 #[.slice A l.length c] w fun e w' => e = .returned (.string S) ∧ Below w.heap.size w w' := by
 have H := Lib.hid h
 have HF := Lib.hid hok
 have HS := Lib.hid hS
 clear h hok hS
 have hcv := conv_byte
 have hcv2 := conv_byte2
 go_enter Tryz.func79, Tryz.ntmps79
 go_wp2_with fail
 go_loopw [3, 4] (fun sv i wr => ∃ k : Nat, k ≤ l.length ∧ i = .int .i64 (k : Int) ∧ sv = .string (restStr (l.take k)) ∧ RSt w A l wr ∧ (restStr (l.take k)).size ≤ 2053 * k) (fun _ i _ => l.length - (RowKit.intOf i).toNat)
 case atStart => exact ⟨0, Nat.zero_le _, rfl, rfl, .mk H.out (Below.refl _ _), by rw [List.take_zero]; decide⟩
 case round =>
  obtain ⟨k, hk, rfl, rfl, hst, hsz⟩ := hrel
  have HT := Lib.hid hst
  have HZ := Lib.hid hsz
  have hsz2 : (restStr (l.take k)).size ≤ 16424 := by omega
  clear hst hsz
  by_cases hlt : k < l.length
  ·have HR := Lib.hid (rest_step hlt)
   obtain ⟨hkind, hval⟩ := HF.out _ (List.getElem_mem hlt)
   obtain ⟨b0, o, rfl, hb0, hc⟩ := HT.out.out.1.some_ (by omega)
   clear hc
   obtain ⟨d0, d1, d2, d3⟩ := HT.out.cells k hlt
   obtain ⟨q, hq⟩ : ∃ q, l[k] = q := ⟨_, rfl⟩
   rw [hq] at d0 d1 d2 d3 hkind hval HR
   clear hq
   obtain ⟨id, n, s, v⟩ := q
   replace hkind : kindZ id ≠ 0 := hkind
   obtain ⟨hi1, hi42⟩ := kind_id hkind
   have hone : (oneStr ⟨id, n, s, v⟩).size ≤ 2053 := one_size id n s v hkind hval
   have hr := kind_range id
   obtain ⟨T, hT⟩ : ∃ T, restStr (l.take k) = T := ⟨_, rfl⟩
   rw [hT] at hsz2 HR HZ ⊢
   clear hT
   have HBP := Lib.hid (RStP.new (cs := #[.int .i64 id, .int .i64 n, .string s, .string v]) HT.out 99)
   have hkI : (k : Int) < (l.length : Int) := by omega
   have hz1 : (strOfNums [id]).size ≤ 1 := by rw [strOfNums_size]; simp
   obtain ⟨I, hI⟩ : ∃ I, strOfNums [id] = I := ⟨_, rfl⟩
   have HI := Lib.hid hI
   obtain ⟨K, hK⟩ : ∃ K, kindZ id = K := ⟨_, rfl⟩
   have HK := Lib.hid (fun W => RKind_is id K W hK)
   have hval2 : valB K ⟨id, n, s, v⟩ = true := by rw [← hK]; exact hval
   have HRR : Hid (restStr (l.take (k + 1)) = (T ++ I) ++ valStr K ⟨id, n, s, v⟩) := by show _ = _; rw [HR.out, app_assoc]; unfold oneStr; show T ++ (strOfNums [id] ++ valStr (kindZ id) _) = _; rw [hI, hK]
   have HZZ : Hid ((restStr (l.take (k + 1))).size ≤ 2053 * (k + 1)) := by show _ ≤ _; rw [HR.out, ByteArray.size_append]; have := HZ.out; omega
   have hK0 : K ≠ 0 := by rw [← hK]; exact hkind
   rw [hK] at hr
   clear hK hkind hval HR HZ hone
   have hIz : I.size ≤ 1 := by rw [← hI]; exact hz1
   go_wp2_with fail
   have HB2 := Lib.hid (HBP.out.alloc (.cells #[.int .u8 id] 5))
   clear HBP
   obtain ⟨g, hg⟩ : ∃ g, wr.heap.size = g := ⟨_, rfl⟩
   rw [hg] at HB2 ⊢
   clear hg hI
   generalize (wr.alloc (.cells #[.int .i64 id, .int .i64 n, .string s, .string v] 99)).alloc (.cells #[.int .u8 id] 5) = wa at HB2 ⊢
   obtain ⟨e0, e1, e2, e3⟩ := HB2.out.four
   refine (HK.out _).mono ?_
   rintro e w' ⟨rfl, rfl⟩
   rcases kind_seven hr.1 hr.2 hK0 with rfl | rfl | rfl | rfl | rfl | rfl | rfl
   ·have hn := val_1 hval2
    have hn : n = 0 ∨ n = 1 := hn
    obtain ⟨U, hU⟩ : ∃ U, strOfNums [n] = U := ⟨_, rfl⟩
    have hUz : U.size ≤ 1 := by rw [← hU, strOfNums_size]; simp
    have HRU : Hid (restStr (l.take (k + 1)) = (T ++ I) ++ U) := by rw [← hU]; exact HRR.out
    rcases hn with rfl | rfl
    all_goals
     go_wp2_with fail
     go_roundw
     case rel => exact ⟨k + 1, hlt, by go_num, by rw [HRU.out], (HB2.out.alloc _).out.1, HZZ.out⟩
     case measure => simp [RowKit.intOf]; omega
   ·obtain ⟨hn0, hn1⟩ := val_2 hval2
    obtain ⟨U, hU⟩ : ∃ U, strOfNums (fixZ 2 n.toNat) = U := ⟨_, rfl⟩
    have hUz : U.size ≤ 4 := by rw [← hU, strOfNums_size, fixZ_len]; omega
    have HC := Lib.hid (fun W => RFixed_z2 n U W hn0 hn1 hU)
    have HRU : Hid (restStr (l.take (k + 1)) = (T ++ I) ++ U) := by rw [← hU]; exact HRR.out
    clear hU
    go_wp2_with fail
    refine (HC.out _).mono ?_
    rintro e w2 ⟨rfl, hb2⟩
    have HB3 := Lib.hid (HB2.out.below hb2)
    clear hb2 HB2 HC e0 e1 e2 e3
    go_wp2_with fail
    go_roundw
    case rel => exact ⟨k + 1, hlt, by go_num, by rw [HRU.out], HB3.out.out.1, HZZ.out⟩
    case measure => simp [RowKit.intOf]; omega
   ·obtain ⟨hn0, hn1⟩ := val_3 hval2
    obtain ⟨U, hU⟩ : ∃ U, strOfNums (fixZ 4 n.toNat) = U := ⟨_, rfl⟩
    have hUz : U.size ≤ 4 := by rw [← hU, strOfNums_size, fixZ_len]; omega
    have HC := Lib.hid (fun W => RFixed_z4 n U W hn0 hn1 hU)
    have HRU : Hid (restStr (l.take (k + 1)) = (T ++ I) ++ U) := by rw [← hU]; exact HRR.out
    clear hU
    go_wp2_with fail
    refine (HC.out _).mono ?_
    rintro e w2 ⟨rfl, hb2⟩
    have HB3 := Lib.hid (HB2.out.below hb2)
    clear hb2 HB2 HC e0 e1 e2 e3
    go_wp2_with fail
    go_roundw
    case rel => exact ⟨k + 1, hlt, by go_num, by rw [HRU.out], HB3.out.out.1, HZZ.out⟩
    case measure => simp [RowKit.intOf]; omega
   ·obtain ⟨hn0, hn1⟩ := val_4 hval2
    have hn0 : 0 ≤ n := hn0
    have hn1 : n < 268435456 := hn1
    obtain ⟨U, hU⟩ : ∃ U, strOfNums (numZ n.toNat) = U := ⟨_, rfl⟩
    have hUz : U.size ≤ 4 := by rw [← hU, strOfNums_size, numZ_len (by omega)]; exact (numLen_le _).2
    have HC := Lib.hid (fun W => RNum_z n U W hn0 hn1 hU)
    have HRU : Hid (restStr (l.take (k + 1)) = (T ++ I) ++ U) := by rw [← hU]; exact HRR.out
    clear hU
    go_wp2_with fail
    refine (HC.out _).mono ?_
    rintro e w2 ⟨rfl, hb2⟩
    have HB3 := Lib.hid (HB2.out.below hb2)
    clear hb2 HB2 HC e0 e1 e2 e3
    go_wp2_with fail
    go_roundw
    case rel => exact ⟨k + 1, hlt, by go_num, by rw [HRU.out], HB3.out.out.1, HZZ.out⟩
    case measure => simp [RowKit.intOf]; omega
   ·have hs1 : s.size ≤ 1024 := val_5 hval2
    obtain ⟨U, hU⟩ : ∃ U, strOfNums (fixZ 2 s.size) = U := ⟨_, rfl⟩
    have hUz : U.size ≤ 2 := by rw [← hU, fix2_size]; omega
    have HC := Lib.hid (fun W => RFixed_n2 s.size U W (by omega) hU)
    have HRU : Hid (restStr (l.take (k + 1)) = ((T ++ I) ++ U) ++ s) := by show _ = _; rw [HRR.out, ← hU, app_assoc (T ++ I)]; rfl
    clear hU
    have st0 := HB2.out
    haveI : Nonempty (In (RStP w (some ⟨b0, o, none⟩) l g #[.int .i64 id, .int .i64 n, .string s, .string v])) := ⟨⟨_, st0⟩⟩
    have k2 : ∀ u : In (RStP w (some ⟨b0, o, none⟩) l g #[.int .i64 id, .int .i64 n, .string s, .string v]), u.w.cell? ⟨g, 2, none⟩ = some (.string s) := fun u => u.h.four.2.2.1
    go_wp2_with fail
    refine region_in (S := RStP w (some ⟨b0, o, none⟩) l g #[.int .i64 id, .int .i64 n, .string s, .string v]) (by kernel_rfl) (by kernel_rfl) (st0.drewN 1) ?_
    repeat (go_big_quiet_step ((go_at_call 78; exact in_call ((HC.out _).mono fun _ _ h => ⟨h.1, RStP.below (In.h _) h.2⟩))))
    refine wpQuiet_nil ?_
    rintro _ ⟨⟨w2, st2⟩, rfl⟩
    have HB3 := Lib.hid st2
    clear st2 st0 k2 HC HB2 e0 e1 e2 e3
    go_wp2_with fail
    go_roundw
    case rel => exact ⟨k + 1, hlt, by go_num, by rw [HRU.out], HB3.out.out.1, HZZ.out⟩
    case measure => simp [RowKit.intOf]; omega
   ·have hs1 : s.size ≤ 1024 := val_6 hval2
    obtain ⟨U, hU⟩ : ∃ U, strOfNums (fixZ 2 s.size) = U := ⟨_, rfl⟩
    have hUz : U.size ≤ 2 := by rw [← hU, fix2_size]; omega
    have HC := Lib.hid (fun W => RFixed_n2 s.size U W (by omega) hU)
    have HRU : Hid (restStr (l.take (k + 1)) = ((T ++ I) ++ U) ++ s) := by show _ = _; rw [HRR.out, ← hU, app_assoc (T ++ I)]; rfl
    clear hU
    have st0 := HB2.out
    haveI : Nonempty (In (RStP w (some ⟨b0, o, none⟩) l g #[.int .i64 id, .int .i64 n, .string s, .string v])) := ⟨⟨_, st0⟩⟩
    have k2 : ∀ u : In (RStP w (some ⟨b0, o, none⟩) l g #[.int .i64 id, .int .i64 n, .string s, .string v]), u.w.cell? ⟨g, 2, none⟩ = some (.string s) := fun u => u.h.four.2.2.1
    go_wp2_with fail
    refine region_in (S := RStP w (some ⟨b0, o, none⟩) l g #[.int .i64 id, .int .i64 n, .string s, .string v]) (by kernel_rfl) (by kernel_rfl) (st0.drewN 1) ?_
    repeat (go_big_quiet_step ((go_at_call 78; exact in_call ((HC.out _).mono fun _ _ h => ⟨h.1, RStP.below (In.h _) h.2⟩))))
    refine wpQuiet_nil ?_
    rintro _ ⟨⟨w2, st2⟩, rfl⟩
    have HB3 := Lib.hid st2
    clear st2 st0 k2 HC HB2 e0 e1 e2 e3
    go_wp2_with fail
    go_roundw
    case rel => exact ⟨k + 1, hlt, by go_num, by rw [HRU.out], HB3.out.out.1, HZZ.out⟩
    case measure => simp [RowKit.intOf]; omega
   ·obtain ⟨hs1, hv1⟩ := val_7 hval2
    have hs1 : s.size ≤ 1024 := hs1
    have hv1 : v.size ≤ 1024 := hv1
    obtain ⟨U, hU⟩ : ∃ U, strOfNums (fixZ 2 s.size) = U := ⟨_, rfl⟩
    have hUz : U.size ≤ 2 := by rw [← hU, fix2_size]; omega
    obtain ⟨V, hV⟩ : ∃ V, strOfNums (fixZ 2 v.size) = V := ⟨_, rfl⟩
    have hVz : V.size ≤ 2 := by rw [← hV, fix2_size]; omega
    have HC := Lib.hid (fun W => RFixed_n2 s.size U W (by omega) hU)
    have HD := Lib.hid (fun W => RFixed_n2 v.size V W (by omega) hV)
    have HRU : Hid (restStr (l.take (k + 1)) = ((((T ++ I) ++ U) ++ s) ++ V) ++ v) := by
     show _ = _
     rw [HRR.out]
     show (T ++ I) ++ ((strOfNums (fixZ 2 s.size) ++ s) ++ (strOfNums (fixZ 2 v.size) ++ v)) = _
     rw [hU, hV, app_assoc (T ++ I) U s, app_assoc (T ++ I) (U ++ s) V, app_assoc (T ++ I) ((U ++ s) ++ V) v, app_assoc (U ++ s) V v]
    clear hU hV
    have st0 := HB2.out
    haveI : Nonempty (In (RStP w (some ⟨b0, o, none⟩) l g #[.int .i64 id, .int .i64 n, .string s, .string v])) := ⟨⟨_, st0⟩⟩
    have k2 : ∀ u : In (RStP w (some ⟨b0, o, none⟩) l g #[.int .i64 id, .int .i64 n, .string s, .string v]), u.w.cell? ⟨g, 2, none⟩ = some (.string s) := fun u => u.h.four.2.2.1
    have k3 : ∀ u : In (RStP w (some ⟨b0, o, none⟩) l g #[.int .i64 id, .int .i64 n, .string s, .string v]), u.w.cell? ⟨g, 3, none⟩ = some (.string v) := fun u => u.h.four.2.2.2
    go_wp2_with fail
    refine region_in (S := RStP w (some ⟨b0, o, none⟩) l g #[.int .i64 id, .int .i64 n, .string s, .string v]) (by kernel_rfl) (by kernel_rfl) (st0.drewN 1) ?_
    repeat (go_big_quiet_step (first | (go_at_call 78; with_reducible exact in_call ((HC.out _).mono fun _ _ h => ⟨h.1, RStP.below (In.h _) h.2⟩)) | (go_at_call 78; with_reducible exact in_call ((HD.out _).mono fun _ _ h => ⟨h.1, RStP.below (In.h _) h.2⟩))))
    refine wpQuiet_nil ?_
    rintro _ ⟨⟨w2, st2⟩, rfl⟩
    have HB3 := Lib.hid st2
    clear st2 st0 k2 k3 HC HD HB2 e0 e1 e2 e3
    go_wp2_with fail
    go_roundw
    case rel => exact ⟨k + 1, hlt, by go_num, by rw [HRU.out], HB3.out.out.1, HZZ.out⟩
    case measure => simp [RowKit.intOf]; omega
  ·obtain rfl : k = l.length := by omega
   rw [List.take_length] at hsz2
   obtain ⟨R, hR⟩ : ∃ R, restStr l = R := ⟨_, rfl⟩
   rw [List.take_length, hR]
   rw [hR] at hsz2
   obtain ⟨N, hN⟩ : ∃ N, strOfNums (numZ R.size) = N := ⟨_, rfl⟩
   have hNz : N.size ≤ 4 := by rw [← hN, strOfNums_size, numZ_len (by omega)]; exact (numLen_le _).2
   have HN := Lib.hid (fun W => RNum_z (R.size : Int) N W (by omega) (by omega) (by rw [Int.toNat_natCast]; exact hN))
   have HSS : Hid (S = N ++ R) := HS.out.symm.trans (by unfold propStr; rw [hR, hN])
   clear hR hN
   go_wp2_with fail
   refine (HN.out _).mono ?_
   rintro e w2 ⟨rfl, hb2⟩
   have HB3 := Lib.hid (HT.out.below hb2)
   clear hb2 HT HN
   go_wp2_with fail
   go_ret
   exact ⟨by rw [HSS.out]; rfl, HB3.out.out.2⟩
end Go.Proofs.YtdbbcfohjkgdcaaGreat
