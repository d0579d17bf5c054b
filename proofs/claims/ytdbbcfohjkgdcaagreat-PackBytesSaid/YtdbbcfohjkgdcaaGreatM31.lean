/- The document's own: may a packet be: its box, and the box of one that has just what its kind has. -/
import Derived.Test.YtdbbcfohjkgdcaaGreatM00
import Derived.Test.YtdbbcfohjkgdcaaGreatM22
import Derived.Test.YtdbbcfohjkgdcaaGreatM25
import Derived.Test.YtdbbcfohjkgdcaaGreatM28
import Derived.Test.YtdbbcfohjkgdcaaGreatM29
import Derived.Test.YtdbbcfohjkgdcaaGreatM30
set_option maxRecDepth 100000
set_option maxHeartbeats 64000000
namespace Go.Proofs.YtdbbcfohjkgdcaaGreat
open Go.RowKit Go.Lib Prp Pkt Vbi
theorem fil_step (s : Bool) (l : List Fl) (k : Nat) (hk : k < l.length) : allStr (filterL s (l.take (k + 1))) = (if s = true then (allStr (filterL s (l.take k)) ++ lgStr l[k].t) ++ strOfNums [filterZ l[k]] else allStr (filterL s (l.take k)) ++ lgStr l[k].t) := by
 rw [List.take_succ_eq_append_getElem hk]
 unfold filterL
 rw [List.flatMap_append, allStr_app]
 rw [show List.flatMap (fun f : Fl => if s = true then [Part.words f.t, Part.octet (filterZ f)] else [Part.words f.t]) [l[k]] = (if s = true then [Part.words l[k].t, Part.octet (filterZ l[k])] else [Part.words l[k].t]) by simp]
 cases s with
 | true =>
  rw [if_pos rfl, if_pos rfl, allStr_cons, allStr_cons, allStr_nil, add_empty, ByteArray.append_assoc]
  rfl
 | false =>
  rw [if_neg (by decide), if_neg (by decide), allStr_cons, allStr_nil, add_empty]
  rfl
theorem fil_size (s : Bool) (l : List Fl) (h : ∀ f ∈ l, f.t.size ≤ 1024) : (allStr (filterL s l)).size ≤ 1027 * l.length := by
 induction l with
 | nil => exact Nat.le_refl _
 | cons x t ih =>
  have e : filterL s (x :: t) = (if s = true then [.words x.t, .octet (filterZ x)] else [.words x.t]) ++ filterL s t := by unfold filterL; rw [List.flatMap_cons]
  have h1 := h x (by simp)
  have h2 := ih (fun f hf => h f (by simp [hf]))
  rw [e, allStr_app, ByteArray.size_append, List.length_cons]
  have h3 : (allStr (if s = true then [Part.words x.t, .octet (filterZ x)] else [.words x.t])).size ≤ 1027 := by
   cases s with
   | true =>
    rw [if_pos rfl, allStr_cons, allStr_cons, allStr_nil, add_empty, ByteArray.size_append]
    show (lgStr x.t).size + (strOfNums [filterZ x]).size ≤ _
    rw [lgStr_size, strOfNums_size]
    simp; omega
   | false =>
    rw [if_neg (by decide), allStr_cons, allStr_nil, add_empty]
    show (lgStr x.t).size ≤ _
    rw [lgStr_size]; omega
  omega
theorem filterZ_range {f : Fl} (h0 : 0 ≤ f.q) (h1 : f.q ≤ 2) (h2 : 0 ≤ f.h) (h3 : f.h ≤ 2) : 0 ≤ filterZ f ∧ filterZ f ≤ 255 := by
 have r1 := bit_range f.nl (n := 4) (by omega)
 have r2 := bit_range f.ar (n := 8) (by omega)
 unfold filterZ
 omega
theorem filterByte_two (f : Fl) (R : Int) (w : World) (h0 : 0 ≤ f.q) (h1 : f.q ≤ 3) (h2 : 0 ≤ f.h) (h3 : f.h ≤ 15) (hR : filterZ f = R) :
  Calls Tryz.prog 80 #[.agg #[.string f.t, .int .i64 f.q, .bool f.nl, .bool f.ar, .int .i64 f.h]] w fun e w' => e = .returned (.int .i64 R) ∧ Below w.heap.size w w' := by
 have HR : Hid (R = f.q + 4 * bitZ f.nl 1 + 8 * bitZ f.ar 1 + 16 * f.h) := by
  show _ = _
  rw [← hR]; unfold filterZ bitZ
  cases f.nl <;> cases f.ar <;> simp
 clear hR
 have r1 := bit_range f.nl (n := 1) (by omega)
 have r2 := bit_range f.ar (n := 1) (by omega)
 have y1 : IntKind.i64.wrap (4 * bitZ f.nl 1) = 4 * bitZ f.nl 1 := IntWalk.i64_in _ (by omega)
 have y2 : IntKind.i64.wrap (8 * bitZ f.ar 1) = 8 * bitZ f.ar 1 := IntWalk.i64_in _ (by omega)
 have z1 : IntKind.i64.wrap (16 * f.h) = 16 * f.h := IntWalk.i64_in _ (by omega)
 have z2 : IntKind.i64.wrap (f.q + 4 * bitZ f.nl 1) = f.q + 4 * bitZ f.nl 1 := IntWalk.i64_in _ (by omega)
 have z3 : IntKind.i64.wrap (f.q + 4 * bitZ f.nl 1 + 8 * bitZ f.ar 1) = f.q + 4 * bitZ f.nl 1 + 8 * bitZ f.ar 1 := IntWalk.i64_in _ (by omega)
 have z4 : IntKind.i64.wrap (f.q + 4 * bitZ f.nl 1 + 8 * bitZ f.ar 1 + 16 * f.h) = f.q + 4 * bitZ f.nl 1 + 8 * bitZ f.ar 1 + 16 * f.h := IntWalk.i64_in _ (by omega)
 go_enter Tryz.func80, Tryz.ntmps80
 go_wp2_with fail
 go_quiet ((go_at_call 77; exact Calls.quiet_of_same (rbit_same _ _)))
 go_wp2_with fail
 go_ret
 exact ⟨by rw [HR.out]; rfl, below_drewN ((Below.refl _ _).alloc (Nat.le_refl _) _) _⟩
theorem rest_8 (p : Pk) (a : Ad) (S : ByteArray) (w : World) (h : PkAt w w.heap.size p a) (hk : p.kind = 8) (hid : 1 ≤ p.id ∧ p.id < 65536) (hps : propsB p.kind p.ps = true) (hm : p.fs.length ≤ 4) (hq : ∀ f ∈ p.fs, (0 ≤ f.q ∧ f.q ≤ 2) ∧ (0 ≤ f.h ∧ f.h ≤ 2) ∧ f.t.size ≤ 1024) (hS : (fxStr p.id ++ propStr p.ps) ++ allStr (filterL true p.fs) = S) :
  Calls Tryz.prog 39 #[.agg (pkArr p a)] w fun e w' => e = .returned (.string S) ∧ Below w.heap.size w w' := by
 have H := Lib.hid h
 clear h
 obtain ⟨F, hF⟩ : ∃ F, fxStr p.id = F := ⟨_, rfl⟩
 have hFz : F.size ≤ 2 := by rw [← hF, fxStr_size]; omega
 have HF := Lib.hid (fun W => RFixed_z2 p.id F W (by omega) (by omega) hF)
 obtain ⟨P, hPP⟩ : ∃ P, propStr p.ps = P := ⟨_, rfl⟩
 have hPz : P.size ≤ 16428 := by rw [← hPP]; exact propStr_size hps
 have HP := Lib.hid (fun (W : World) (h : KP w w.heap.size p a W) => PropBytes_ok p.kind p.ps a.pa a.pc P W hps h.at.ps hPP)
 rw [hF, hPP] at hS
 obtain ⟨B, hB⟩ : ∃ B, F ++ P = B := ⟨_, rfl⟩
 have hBz : B.size ≤ 16430 := by rw [← hB, ByteArray.size_append]; omega
 rw [hB] at hS
 have HB := Lib.hid hB
 have HS := Lib.hid hS
 have HQ := Lib.hid hq
 have e1 : (p.kind == 1) = false := ne_false (by omega)
 have e2 : (p.kind == 2) = false := ne_false (by omega)
 have e3 : (p.kind == 3) = false := ne_false (by omega)
 have e4 : (p.kind == 4) = false := ne_false (by omega)
 have e5 : (p.kind == 5) = false := ne_false (by omega)
 have e6 : (p.kind == 6) = false := ne_false (by omega)
 have e7 : (p.kind == 7) = false := ne_false (by omega)
 have e14 : (p.kind == 14) = false := ne_false (by omega)
 have e15 : (p.kind == 15) = false := ne_false (by omega)
 have e8 : (p.kind == 8) = true := beq_iff_eq.2 (by omega)
 clear hS hB hF hPP hps hid hk hq
 have HK0 := Keep.new w 30 (pkArr p a)
 obtain ⟨W1, hW⟩ : ∃ W1, w.alloc (.cells (pkArr p a) 30) = W1 := ⟨_, rfl⟩
 rw [hW] at HK0
 unfold pkArr at hW ⊢
 have HW := Lib.hid hW
 clear hW
 go_enter Tryz.func39, Tryz.ntmps39
 go_upto_region 2 with fail
 rw [HW.out]
 generalize Value.agg _ = v0
 obtain ⟨g, hg⟩ : ∃ g, w.heap.size = g := ⟨_, rfl⟩
 rw [hg] at HK0 ⊢
 have HK := Lib.hid (KP.new HK0 H.out)
 clear HW HK0 H
 rw [hg] at HP
 have HG := Lib.hid hg
 clear hg
 have c0 := HK.out.k.f0
 go_upto_region 33 with fail
 clear c0
 have st0 := HK.out
 clear HK
 haveI : Nonempty (In (KP w g p a)) := ⟨⟨_, st0⟩⟩
 have k4 := fun u : In (KP w g p a) => u.h.k.f4
 have k24 := fun u : In (KP w g p a) => u.h.k.f24
 refine region_in (S := KP w g p a) (by kernel_rfl) (by kernel_rfl) (st0.drewN 1) ?_
 repeat (go_big_quiet_step (first | (go_at_call 79; exact in_call ((HP.out _ (In.h _)).mono fun _ _ h => ⟨h.1, KP.below (In.h _) h.2⟩)) | (go_at_call 78; exact in_call ((HF.out _).mono fun _ _ h => ⟨h.1, KP.below (In.h _) h.2⟩))))
 refine wpQuiet_nil ?_
 rintro _ ⟨⟨w2, st2⟩, rfl⟩
 have HK := Lib.hid st2
 clear this st0 st2 k4 k24
 go_wp2_with fail
 rw [HB.out]
 go_loopw [3, 5] (fun s i wr => ∃ k : Nat, k ≤ p.fs.length ∧ i = .int .i64 (k : Int) ∧ s = .string (B ++ allStr (filterL true (p.fs.take k))) ∧ KP w g p a wr) (fun _ i _ => p.fs.length - (RowKit.intOf i).toNat)
 case atStart => exact ⟨0, Nat.zero_le _, rfl, by rw [List.take_zero]; exact congrArg Value.string (add_empty B).symm, HK.out⟩
 case round =>
  obtain ⟨k, hk, rfl, rfl, hst⟩ := hrel
  have HT := Lib.hid hst
  clear hst HK
  by_cases hlt : k < p.fs.length
  ·have HN := Lib.hid (fil_step true p.fs k hlt)
   have hz : (allStr (filterL true (p.fs.take k))).size ≤ 4108 := by
    have := fil_size true (p.fs.take k) (fun f hf => (HQ.out f (List.mem_of_mem_take hf)).2.2)
    rw [List.length_take] at this
    omega
   obtain ⟨b0, o, hAd, hb0, hcc⟩ := HT.out.out.2.fs.some_ (by omega)
   obtain ⟨d0, d1, d2, d3, d4⟩ := hcc k hlt
   obtain ⟨⟨q0, q1⟩, ⟨q2, q3⟩, q4⟩ := HQ.out _ (List.getElem_mem hlt)
   obtain ⟨f, hf⟩ : ∃ f, p.fs[k] = f := ⟨_, rfl⟩
   rw [hf] at d0 d1 d2 d3 d4 HN q0 q1 q2 q3 q4
   obtain ⟨U, hU⟩ : ∃ U, lgStr f.t = U := ⟨_, rfl⟩
   have hUz : U.size ≤ 1026 := by rw [← hU, lgStr_size]; omega
   have HL := Lib.hid (fun W => long_is f.t U W (by omega) hU)
   rw [hU] at HN
   have hzr := filterZ_range q0 q1 q2 q3
   obtain ⟨z, hz2⟩ : ∃ z, filterZ f = z := ⟨_, rfl⟩
   have HFB := Lib.hid (fun W => filterByte_two f z W q0 (by omega) q2 (by omega) hz2)
   rw [hz2] at hzr HN
   obtain ⟨O, hO⟩ : ∃ O, strOfNums [z] = O := ⟨_, rfl⟩
   have hOz : O.size ≤ 1 := by rw [← hO, strOfNums_size]; simp
   have HO := Lib.hid (fun W => one_is z O W hzr.1 hzr.2 hO)
   rw [hO] at HN
   obtain ⟨T, hT⟩ : ∃ T, B ++ allStr (filterL true (p.fs.take k)) = T := ⟨_, rfl⟩
   have hTz : T.size ≤ 20538 := by rw [← hT, ByteArray.size_append]; omega
   have HN2 : Hid (B ++ allStr (filterL true (p.fs.take (k + 1))) = (T ++ U) ++ O) := by
    show _ = _
    rw [HN.out, ← hT]
    simp only [ByteArray.append_assoc, if_true]
   rw [hT]
   have HAd := Lib.hid hAd
   have c10 := HT.out.k.f10
   rw [hAd] at c10
   have hkI : (k : Int) < (p.fs.length : Int) := by omega
   have HCC := Lib.hid hcc
   clear hf hU hT hcc hAd hz hzr hz2 hO HN
   go_wp2_with (first
    | (go_at_call 76; refine (HL.out _).mono ?_; rintro e w3 ⟨rfl, hb3⟩; have HT3 := Lib.hid (HT.out.below hb3); have g0 := HT3.out.k.f0; have g10 := HT3.out.k.f10; rw [HAd.out] at g10; have hbx := hb3.mono HT.out.b.size; have h1 := (hbx.cell (p := ⟨b0, o + k * 5, none⟩) hb0).trans d0; have h2 := (hbx.cell (p := ⟨b0, o + k * 5 + 1, none⟩) hb0).trans d1; have h3 := (hbx.cell (p := ⟨b0, o + k * 5 + 2, none⟩) hb0).trans d2; have h4 := (hbx.cell (p := ⟨b0, o + k * 5 + 3, none⟩) hb0).trans d3; have h5 := (hbx.cell (p := ⟨b0, o + k * 5 + 4, none⟩) hb0).trans d4; clear hb3 hbx)
    | (go_at_call 80; refine (HFB.out _).mono ?_; rintro e w4 ⟨rfl, hb4⟩; have HT4 := Lib.hid (HT3.out.below hb4); clear hb4)
    | (go_at_call 40; refine (HO.out _).mono ?_; rintro e w5 ⟨rfl, hb5⟩; have HT5 := Lib.hid (HT4.out.below hb5); clear hb5))
   go_roundw
   case rel => exact ⟨k + 1, hlt, by go_num, by rw [HN2.out], HT5.out⟩
   case measure => simp [RowKit.intOf]; omega
  ·obtain rfl : k = p.fs.length := by omega
   rw [List.take_length, HS.out]
   have c10 := HT.out.k.f10
   go_wp2_with fail
   go_ret
   exact ⟨rfl, HT.out.b⟩
theorem rest_10 (p : Pk) (a : Ad) (S : ByteArray) (w : World) (h : PkAt w w.heap.size p a) (hk : p.kind = 10) (hid : 1 ≤ p.id ∧ p.id < 65536) (hps : propsB p.kind p.ps = true) (hm : p.fs.length ≤ 4) (hq : ∀ f ∈ p.fs, (0 ≤ f.q ∧ f.q ≤ 2) ∧ (0 ≤ f.h ∧ f.h ≤ 2) ∧ f.t.size ≤ 1024) (hS : (fxStr p.id ++ propStr p.ps) ++ allStr (filterL false p.fs) = S) :
  Calls Tryz.prog 39 #[.agg (pkArr p a)] w fun e w' => e = .returned (.string S) ∧ Below w.heap.size w w' := by
 have H := Lib.hid h
 clear h
 obtain ⟨F, hF⟩ : ∃ F, fxStr p.id = F := ⟨_, rfl⟩
 have hFz : F.size ≤ 2 := by rw [← hF, fxStr_size]; omega
 have HF := Lib.hid (fun W => RFixed_z2 p.id F W (by omega) (by omega) hF)
 obtain ⟨P, hPP⟩ : ∃ P, propStr p.ps = P := ⟨_, rfl⟩
 have hPz : P.size ≤ 16428 := by rw [← hPP]; exact propStr_size hps
 have HP := Lib.hid (fun (W : World) (h : KP w w.heap.size p a W) => PropBytes_ok p.kind p.ps a.pa a.pc P W hps h.at.ps hPP)
 rw [hF, hPP] at hS
 obtain ⟨B, hB⟩ : ∃ B, F ++ P = B := ⟨_, rfl⟩
 have hBz : B.size ≤ 16430 := by rw [← hB, ByteArray.size_append]; omega
 rw [hB] at hS
 have HB := Lib.hid hB
 have HS := Lib.hid hS
 have HQ := Lib.hid hq
 have e1 : (p.kind == 1) = false := ne_false (by omega)
 have e2 : (p.kind == 2) = false := ne_false (by omega)
 have e3 : (p.kind == 3) = false := ne_false (by omega)
 have e4 : (p.kind == 4) = false := ne_false (by omega)
 have e5 : (p.kind == 5) = false := ne_false (by omega)
 have e6 : (p.kind == 6) = false := ne_false (by omega)
 have e7 : (p.kind == 7) = false := ne_false (by omega)
 have e14 : (p.kind == 14) = false := ne_false (by omega)
 have e15 : (p.kind == 15) = false := ne_false (by omega)
 have e8 : (p.kind == 8) = false := ne_false (by omega)
 have e10 : (p.kind == 10) = true := beq_iff_eq.2 (by omega)
 clear hS hB hF hPP hps hid hk hq
 have HK0 := Keep.new w 30 (pkArr p a)
 obtain ⟨W1, hW⟩ : ∃ W1, w.alloc (.cells (pkArr p a) 30) = W1 := ⟨_, rfl⟩
 rw [hW] at HK0
 unfold pkArr at hW ⊢
 have HW := Lib.hid hW
 clear hW
 go_enter Tryz.func39, Tryz.ntmps39
 go_upto_region 2 with fail
 rw [HW.out]
 generalize Value.agg _ = v0
 obtain ⟨g, hg⟩ : ∃ g, w.heap.size = g := ⟨_, rfl⟩
 rw [hg] at HK0 ⊢
 have HK := Lib.hid (KP.new HK0 H.out)
 clear HW HK0 H
 rw [hg] at HP
 have HG := Lib.hid hg
 clear hg
 have c0 := HK.out.k.f0
 go_upto_region 33 with fail
 clear c0
 have st0 := HK.out
 clear HK
 haveI : Nonempty (In (KP w g p a)) := ⟨⟨_, st0⟩⟩
 have k4 := fun u : In (KP w g p a) => u.h.k.f4
 have k24 := fun u : In (KP w g p a) => u.h.k.f24
 refine region_in (S := KP w g p a) (by kernel_rfl) (by kernel_rfl) (st0.drewN 1) ?_
 repeat (go_big_quiet_step (first | (go_at_call 79; exact in_call ((HP.out _ (In.h _)).mono fun _ _ h => ⟨h.1, KP.below (In.h _) h.2⟩)) | (go_at_call 78; exact in_call ((HF.out _).mono fun _ _ h => ⟨h.1, KP.below (In.h _) h.2⟩))))
 refine wpQuiet_nil ?_
 rintro _ ⟨⟨w2, st2⟩, rfl⟩
 have HK := Lib.hid st2
 clear this st0 st2 k4 k24
 go_wp2_with fail
 rw [HB.out]
 go_loopw [3, 5] (fun s i wr => ∃ k : Nat, k ≤ p.fs.length ∧ i = .int .i64 (k : Int) ∧ s = .string (B ++ allStr (filterL false (p.fs.take k))) ∧ KP w g p a wr) (fun _ i _ => p.fs.length - (RowKit.intOf i).toNat)
 case atStart => exact ⟨0, Nat.zero_le _, rfl, by rw [List.take_zero]; exact congrArg Value.string (add_empty B).symm, HK.out⟩
 case round =>
  obtain ⟨k, hk, rfl, rfl, hst⟩ := hrel
  have HT := Lib.hid hst
  clear hst HK
  by_cases hlt : k < p.fs.length
  ·have HN := Lib.hid (fil_step false p.fs k hlt)
   have hz : (allStr (filterL false (p.fs.take k))).size ≤ 4108 := by
    have := fil_size false (p.fs.take k) (fun f hf => (HQ.out f (List.mem_of_mem_take hf)).2.2)
    rw [List.length_take] at this
    omega
   obtain ⟨b0, o, hAd, hb0, hcc⟩ := HT.out.out.2.fs.some_ (by omega)
   obtain ⟨d0, d1, d2, d3, d4⟩ := hcc k hlt
   obtain ⟨⟨q0, q1⟩, ⟨q2, q3⟩, q4⟩ := HQ.out _ (List.getElem_mem hlt)
   obtain ⟨f, hf⟩ : ∃ f, p.fs[k] = f := ⟨_, rfl⟩
   rw [hf] at d0 d1 d2 d3 d4 HN q0 q1 q2 q3 q4
   obtain ⟨U, hU⟩ : ∃ U, lgStr f.t = U := ⟨_, rfl⟩
   have hUz : U.size ≤ 1026 := by rw [← hU, lgStr_size]; omega
   have HL := Lib.hid (fun W => long_is f.t U W (by omega) hU)
   rw [hU] at HN
   obtain ⟨T, hT⟩ : ∃ T, B ++ allStr (filterL false (p.fs.take k)) = T := ⟨_, rfl⟩
   have hTz : T.size ≤ 20538 := by rw [← hT, ByteArray.size_append]; omega
   have HN2 : Hid (B ++ allStr (filterL false (p.fs.take (k + 1))) = T ++ U) := by
    show _ = _
    rw [HN.out, ← hT]
    simp only [ByteArray.append_assoc, if_false, Bool.false_eq_true]
   rw [hT]
   have HAd := Lib.hid hAd
   have c10 := HT.out.k.f10
   rw [hAd] at c10
   have hkI : (k : Int) < (p.fs.length : Int) := by omega
   clear hf hU hT hcc hAd hz HN
   go_wp2_with (go_at_call 76; refine (HL.out _).mono ?_; rintro e w3 ⟨rfl, hb3⟩; have HT3 := Lib.hid (HT.out.below hb3); have g0 := HT3.out.k.f0; clear hb3)
   go_roundw
   case rel => exact ⟨k + 1, hlt, by go_num, by rw [HN2.out], HT3.out⟩
   case measure => simp [RowKit.intOf]; omega
  ·obtain rfl : k = p.fs.length := by omega
   rw [List.take_length, HS.out]
   have c10 := HT.out.k.f10
   go_wp2_with fail
   go_ret
   exact ⟨rfl, HT.out.b⟩
open Go.RowKit Go.Lib Prp Pkt Vbi
theorem code_step (l : List Int) (k : Nat) (hk : k < l.length) : allStr (codeL (l.take (k + 1))) = allStr (codeL (l.take k)) ++ strOfNums [l[k]] := by
 rw [List.take_succ_eq_append_getElem hk]
 unfold codeL
 rw [List.map_append, allStr_app]
 rw [show List.map Part.octet [l[k]] = [.octet l[k]] from rfl, allStr_cons, allStr_nil, add_empty]
 rfl
theorem code_size (l : List Int) : (allStr (codeL l)).size = l.length := by
 induction l with
 | nil => rfl
 | cons x t ih =>
  unfold codeL at ih ⊢
  rw [List.map_cons, allStr_cons, ByteArray.size_append, ih, List.length_cons]
  show (strOfNums [x]).size + _ = _
  rw [strOfNums_size]
  simp; omega
theorem rest_9 (p : Pk) (a : Ad) (S : ByteArray) (w : World) (h : PkAt w w.heap.size p a) (hk : p.kind = 9) (hid : 1 ≤ p.id ∧ p.id < 65536) (hps : propsB p.kind p.ps = true) (hm : p.cs.length ≤ 4) (hc : ∀ x ∈ p.cs, 0 ≤ x ∧ x ≤ 255) (hS : (fxStr p.id ++ propStr p.ps) ++ allStr (codeL p.cs) = S) :
  Calls Tryz.prog 39 #[.agg (pkArr p a)] w fun e w' => e = .returned (.string S) ∧ Below w.heap.size w w' := by
 have H := Lib.hid h
 clear h
 obtain ⟨F, hF⟩ : ∃ F, fxStr p.id = F := ⟨_, rfl⟩
 have hFz : F.size ≤ 2 := by rw [← hF, fxStr_size]; omega
 have HF := Lib.hid (fun W => RFixed_z2 p.id F W (by omega) (by omega) hF)
 obtain ⟨P, hPP⟩ : ∃ P, propStr p.ps = P := ⟨_, rfl⟩
 have hPz : P.size ≤ 16428 := by rw [← hPP]; exact propStr_size hps
 have HP := Lib.hid (fun (W : World) (h : KP w w.heap.size p a W) => PropBytes_ok p.kind p.ps a.pa a.pc P W hps h.at.ps hPP)
 rw [hF, hPP] at hS
 obtain ⟨B, hB⟩ : ∃ B, F ++ P = B := ⟨_, rfl⟩
 have hBz : B.size ≤ 16430 := by rw [← hB, ByteArray.size_append]; omega
 rw [hB] at hS
 have HB := Lib.hid hB
 have HS := Lib.hid hS
 have HC := Lib.hid hc
 have e1 : (p.kind == 1) = false := ne_false (by omega)
 have e2 : (p.kind == 2) = false := ne_false (by omega)
 have e3 : (p.kind == 3) = false := ne_false (by omega)
 have e4 : (p.kind == 4) = false := ne_false (by omega)
 have e5 : (p.kind == 5) = false := ne_false (by omega)
 have e6 : (p.kind == 6) = false := ne_false (by omega)
 have e7 : (p.kind == 7) = false := ne_false (by omega)
 have e14 : (p.kind == 14) = false := ne_false (by omega)
 have e15 : (p.kind == 15) = false := ne_false (by omega)
 have e8 : (p.kind == 8) = false := ne_false (by omega)
 have e10 : (p.kind == 10) = false := ne_false (by omega)
 have e9 : (p.kind == 9) = true := beq_iff_eq.2 (by omega)
 clear hS hB hF hPP hps hid hk hc
 have HK0 := Keep.new w 30 (pkArr p a)
 obtain ⟨W1, hW⟩ : ∃ W1, w.alloc (.cells (pkArr p a) 30) = W1 := ⟨_, rfl⟩
 rw [hW] at HK0
 unfold pkArr at hW ⊢
 have HW := Lib.hid hW
 clear hW
 go_enter Tryz.func39, Tryz.ntmps39
 go_upto_region 2 with fail
 rw [HW.out]
 generalize Value.agg _ = v0
 obtain ⟨g, hg⟩ : ∃ g, w.heap.size = g := ⟨_, rfl⟩
 rw [hg] at HK0 ⊢
 have HK := Lib.hid (KP.new HK0 H.out)
 clear HW HK0 H
 rw [hg] at HP
 have HG := Lib.hid hg
 clear hg
 have c0 := HK.out.k.f0
 go_upto_region 42 with fail
 clear c0
 have st0 := HK.out
 clear HK
 haveI : Nonempty (In (KP w g p a)) := ⟨⟨_, st0⟩⟩
 have k4 := fun u : In (KP w g p a) => u.h.k.f4
 have k24 := fun u : In (KP w g p a) => u.h.k.f24
 refine region_in (S := KP w g p a) (by kernel_rfl) (by kernel_rfl) (st0.drewN 1) ?_
 repeat (go_big_quiet_step (first | (go_at_call 79; exact in_call ((HP.out _ (In.h _)).mono fun _ _ h => ⟨h.1, KP.below (In.h _) h.2⟩)) | (go_at_call 78; exact in_call ((HF.out _).mono fun _ _ h => ⟨h.1, KP.below (In.h _) h.2⟩))))
 refine wpQuiet_nil ?_
 rintro _ ⟨⟨w2, st2⟩, rfl⟩
 have HK := Lib.hid st2
 clear this st0 st2 k4 k24
 go_wp2_with fail
 rw [HB.out]
 go_loopw [3, 6] (fun s i wr => ∃ k : Nat, k ≤ p.cs.length ∧ i = .int .i64 (k : Int) ∧ s = .string (B ++ allStr (codeL (p.cs.take k))) ∧ KP w g p a wr) (fun _ i _ => p.cs.length - (RowKit.intOf i).toNat)
 case atStart => exact ⟨0, Nat.zero_le _, rfl, by rw [List.take_zero]; exact congrArg Value.string (add_empty B).symm, HK.out⟩
 case round =>
  obtain ⟨k, hk, rfl, rfl, hst⟩ := hrel
  have HT := Lib.hid hst
  clear hst HK
  by_cases hlt : k < p.cs.length
  ·have HN := Lib.hid (code_step p.cs k hlt)
   have hz : (allStr (codeL (p.cs.take k))).size ≤ 4 := by rw [code_size, List.length_take]; omega
   obtain ⟨ad, hAd, hb0, hcc⟩ := HT.out.out.2.cs.some_ (by omega)
   have d0 := hcc k hlt
   rw [List.getD_eq_getElem?_getD, List.getElem?_eq_getElem hlt] at d0
   change _ = some (Value.int .i64 p.cs[k]) at d0
   have hr := HC.out _ (List.getElem_mem hlt)
   obtain ⟨x, hx⟩ : ∃ x, p.cs[k] = x := ⟨_, rfl⟩
   rw [hx] at d0 HN hr
   obtain ⟨O, hO⟩ : ∃ O, strOfNums [x] = O := ⟨_, rfl⟩
   have hOz : O.size ≤ 1 := by rw [← hO, strOfNums_size]; simp
   have HO := Lib.hid (fun W => one_is x O W hr.1 hr.2 hO)
   rw [hO] at HN
   obtain ⟨T, hT⟩ : ∃ T, B ++ allStr (codeL (p.cs.take k)) = T := ⟨_, rfl⟩
   have hTz : T.size ≤ 16434 := by rw [← hT, ByteArray.size_append]; omega
   have HN2 : Hid (B ++ allStr (codeL (p.cs.take (k + 1))) = T ++ O) := by show _ = _; rw [HN.out, ← ByteArray.append_assoc, hT]
   rw [hT]
   have HAd := Lib.hid hAd
   have c9 := HT.out.k.f9
   rw [hAd] at c9
   have hkI : (k : Int) < (p.cs.length : Int) := by omega
   clear hx hO hT hcc hAd hz hr HN
   go_wp2_with (go_at_call 40; refine (HO.out _).mono ?_; rintro e w3 ⟨rfl, hb3⟩; have HT3 := Lib.hid (HT.out.below hb3); clear hb3)
   go_roundw
   case rel => exact ⟨k + 1, hlt, by go_num, by rw [HN2.out], HT3.out⟩
   case measure => simp [RowKit.intOf]; omega
  ·obtain rfl : k = p.cs.length := by omega
   rw [List.take_length, HS.out]
   have c9 := HT.out.k.f9
   go_wp2_with fail
   go_ret
   exact ⟨rfl, HT.out.b⟩
theorem rest_11 (p : Pk) (a : Ad) (S : ByteArray) (w : World) (h : PkAt w w.heap.size p a) (hk : p.kind = 11) (hid : 1 ≤ p.id ∧ p.id < 65536) (hps : propsB p.kind p.ps = true) (hm : p.cs.length ≤ 4) (hc : ∀ x ∈ p.cs, 0 ≤ x ∧ x ≤ 255) (hS : (fxStr p.id ++ propStr p.ps) ++ allStr (codeL p.cs) = S) :
  Calls Tryz.prog 39 #[.agg (pkArr p a)] w fun e w' => e = .returned (.string S) ∧ Below w.heap.size w w' := by
 have H := Lib.hid h
 clear h
 obtain ⟨F, hF⟩ : ∃ F, fxStr p.id = F := ⟨_, rfl⟩
 have hFz : F.size ≤ 2 := by rw [← hF, fxStr_size]; omega
 have HF := Lib.hid (fun W => RFixed_z2 p.id F W (by omega) (by omega) hF)
 obtain ⟨P, hPP⟩ : ∃ P, propStr p.ps = P := ⟨_, rfl⟩
 have hPz : P.size ≤ 16428 := by rw [← hPP]; exact propStr_size hps
 have HP := Lib.hid (fun (W : World) (h : KP w w.heap.size p a W) => PropBytes_ok p.kind p.ps a.pa a.pc P W hps h.at.ps hPP)
 rw [hF, hPP] at hS
 obtain ⟨B, hB⟩ : ∃ B, F ++ P = B := ⟨_, rfl⟩
 have hBz : B.size ≤ 16430 := by rw [← hB, ByteArray.size_append]; omega
 rw [hB] at hS
 have HB := Lib.hid hB
 have HS := Lib.hid hS
 have HC := Lib.hid hc
 have e1 : (p.kind == 1) = false := ne_false (by omega)
 have e2 : (p.kind == 2) = false := ne_false (by omega)
 have e3 : (p.kind == 3) = false := ne_false (by omega)
 have e4 : (p.kind == 4) = false := ne_false (by omega)
 have e5 : (p.kind == 5) = false := ne_false (by omega)
 have e6 : (p.kind == 6) = false := ne_false (by omega)
 have e7 : (p.kind == 7) = false := ne_false (by omega)
 have e14 : (p.kind == 14) = false := ne_false (by omega)
 have e15 : (p.kind == 15) = false := ne_false (by omega)
 have e8 : (p.kind == 8) = false := ne_false (by omega)
 have e10 : (p.kind == 10) = false := ne_false (by omega)
 have e9 : (p.kind == 9) = false := ne_false (by omega)
 have e11 : (p.kind == 11) = true := beq_iff_eq.2 (by omega)
 clear hS hB hF hPP hps hid hk hc
 have HK0 := Keep.new w 30 (pkArr p a)
 obtain ⟨W1, hW⟩ : ∃ W1, w.alloc (.cells (pkArr p a) 30) = W1 := ⟨_, rfl⟩
 rw [hW] at HK0
 unfold pkArr at hW ⊢
 have HW := Lib.hid hW
 clear hW
 go_enter Tryz.func39, Tryz.ntmps39
 go_upto_region 2 with fail
 rw [HW.out]
 generalize Value.agg _ = v0
 obtain ⟨g, hg⟩ : ∃ g, w.heap.size = g := ⟨_, rfl⟩
 rw [hg] at HK0 ⊢
 have HK := Lib.hid (KP.new HK0 H.out)
 clear HW HK0 H
 rw [hg] at HP
 have HG := Lib.hid hg
 clear hg
 have c0 := HK.out.k.f0
 go_upto_region 42 with fail
 clear c0
 have st0 := HK.out
 clear HK
 haveI : Nonempty (In (KP w g p a)) := ⟨⟨_, st0⟩⟩
 have k4 := fun u : In (KP w g p a) => u.h.k.f4
 have k24 := fun u : In (KP w g p a) => u.h.k.f24
 refine region_in (S := KP w g p a) (by kernel_rfl) (by kernel_rfl) (st0.drewN 1) ?_
 repeat (go_big_quiet_step (first | (go_at_call 79; exact in_call ((HP.out _ (In.h _)).mono fun _ _ h => ⟨h.1, KP.below (In.h _) h.2⟩)) | (go_at_call 78; exact in_call ((HF.out _).mono fun _ _ h => ⟨h.1, KP.below (In.h _) h.2⟩))))
 refine wpQuiet_nil ?_
 rintro _ ⟨⟨w2, st2⟩, rfl⟩
 have HK := Lib.hid st2
 clear this st0 st2 k4 k24
 go_wp2_with fail
 rw [HB.out]
 go_loopw [3, 6] (fun s i wr => ∃ k : Nat, k ≤ p.cs.length ∧ i = .int .i64 (k : Int) ∧ s = .string (B ++ allStr (codeL (p.cs.take k))) ∧ KP w g p a wr) (fun _ i _ => p.cs.length - (RowKit.intOf i).toNat)
 case atStart => exact ⟨0, Nat.zero_le _, rfl, by rw [List.take_zero]; exact congrArg Value.string (add_empty B).symm, HK.out⟩
 case round =>
  obtain ⟨k, hk, rfl, rfl, hst⟩ := hrel
  have HT := Lib.hid hst
  clear hst HK
  by_cases hlt : k < p.cs.length
  ·have HN := Lib.hid (code_step p.cs k hlt)
   have hz : (allStr (codeL (p.cs.take k))).size ≤ 4 := by rw [code_size, List.length_take]; omega
   obtain ⟨ad, hAd, hb0, hcc⟩ := HT.out.out.2.cs.some_ (by omega)
   have d0 := hcc k hlt
   rw [List.getD_eq_getElem?_getD, List.getElem?_eq_getElem hlt] at d0
   change _ = some (Value.int .i64 p.cs[k]) at d0
   have hr := HC.out _ (List.getElem_mem hlt)
   obtain ⟨x, hx⟩ : ∃ x, p.cs[k] = x := ⟨_, rfl⟩
   rw [hx] at d0 HN hr
   obtain ⟨O, hO⟩ : ∃ O, strOfNums [x] = O := ⟨_, rfl⟩
   have hOz : O.size ≤ 1 := by rw [← hO, strOfNums_size]; simp
   have HO := Lib.hid (fun W => one_is x O W hr.1 hr.2 hO)
   rw [hO] at HN
   obtain ⟨T, hT⟩ : ∃ T, B ++ allStr (codeL (p.cs.take k)) = T := ⟨_, rfl⟩
   have hTz : T.size ≤ 16434 := by rw [← hT, ByteArray.size_append]; omega
   have HN2 : Hid (B ++ allStr (codeL (p.cs.take (k + 1))) = T ++ O) := by show _ = _; rw [HN.out, ← ByteArray.append_assoc, hT]
   rw [hT]
   have HAd := Lib.hid hAd
   have c9 := HT.out.k.f9
   rw [hAd] at c9
   have hkI : (k : Int) < (p.cs.length : Int) := by omega
   clear hx hO hT hcc hAd hz hr HN
   go_wp2_with (go_at_call 40; refine (HO.out _).mono ?_; rintro e w3 ⟨rfl, hb3⟩; have HT3 := Lib.hid (HT.out.below hb3); clear hb3)
   go_roundw
   case rel => exact ⟨k + 1, hlt, by go_num, by rw [HN2.out], HT3.out⟩
   case measure => simp [RowKit.intOf]; omega
  ·obtain rfl : k = p.cs.length := by omega
   rw [List.take_length, HS.out]
   have c9 := HT.out.k.f9
   go_wp2_with fail
   go_ret
   exact ⟨rfl, HT.out.b⟩
theorem rest_12 (p : Pk) (a : Ad) (w : World) (hk : p.kind = 12 ∨ p.kind = 13) :
  Calls Tryz.prog 39 #[.agg (pkArr p a)] w fun e w' => e = .returned (.string ⟨#[]⟩) ∧ Below w.heap.size w w' := by
 have e1 : (p.kind == 1) = false := ne_false (by omega)
 have e2 : (p.kind == 2) = false := ne_false (by omega)
 have e3 : (p.kind == 3) = false := ne_false (by omega)
 have e4 : (p.kind == 4) = false := ne_false (by omega)
 have e5 : (p.kind == 5) = false := ne_false (by omega)
 have e6 : (p.kind == 6) = false := ne_false (by omega)
 have e7 : (p.kind == 7) = false := ne_false (by omega)
 have e14 : (p.kind == 14) = false := ne_false (by omega)
 have e15 : (p.kind == 15) = false := ne_false (by omega)
 have e8 : (p.kind == 8) = false := ne_false (by omega)
 have e10 : (p.kind == 10) = false := ne_false (by omega)
 have e9 : (p.kind == 9) = false := ne_false (by omega)
 have e11 : (p.kind == 11) = false := ne_false (by omega)
 clear hk
 have HK0 := Keep.new w 30 (pkArr p a)
 obtain ⟨W1, hW⟩ : ∃ W1, w.alloc (.cells (pkArr p a) 30) = W1 := ⟨_, rfl⟩
 rw [hW] at HK0
 unfold pkArr at hW ⊢
 have HW := Lib.hid hW
 clear hW
 go_enter Tryz.func39, Tryz.ntmps39
 go_upto_region 2 with fail
 rw [HW.out]
 generalize Value.agg _ = v0
 obtain ⟨g, hg⟩ : ∃ g, w.heap.size = g := ⟨_, rfl⟩
 rw [hg] at HK0 ⊢
 have HK := Lib.hid HK0
 clear HW HK0
 have HG := Lib.hid hg
 clear hg
 have c0 := HK.out.f0
 go_wp2_with fail
 go_ret
 exact ⟨rfl, HK.out.out.2⟩
open Go.RowKit Go.Lib Prp Pkt Vbi
theorem parts_of (p : Pk) {l : List Part} (hg : goodP p = true) (h : partsL p = l) : allOk l = true ∧ restP p = allStr l := by
 obtain ⟨_, h2⟩ := good_parts hg
 unfold restP
 rw [h] at h2 ⊢
 exact ⟨h2, rfl⟩
theorem reason_ok {p : Pk} (h : allOk (reasonL p) = true) : (0 < p.ps.length → (0 ≤ p.re ∧ p.re ≤ 255) ∧ propsB p.kind p.ps = true) ∧ (p.ps.length = 0 → ¬ p.re = 0 → 0 ≤ p.re ∧ p.re ≤ 255) := by
 unfold reasonL at h
 by_cases hp : p.ps = []
 ·rw [if_neg (by simpa using hp)] at h
  refine ⟨fun hl => by rw [hp] at hl; simp at hl, fun _ hr => ?_⟩
  rw [if_pos hr] at h
  unfold allOk at h
  simp only [List.all_cons, List.all_nil, Bool.and_true] at h
  exact of_decide_eq_true h
 ·rw [if_pos hp] at h
  unfold allOk at h
  simp only [List.all_cons, List.all_nil, Bool.and_eq_true, Bool.and_true] at h
  exact ⟨fun _ => ⟨of_decide_eq_true h.1, h.2⟩, fun hl => absurd (List.eq_nil_of_length_eq_zero hl) hp⟩
theorem reason_str (p : Pk) (pre : ByteArray) : pre ++ allStr (reasonL p) = (if 0 < p.ps.length then (pre ++ strOfNums [p.re]) ++ propStr p.ps else if p.re = 0 then pre else pre ++ strOfNums [p.re]) := by
 unfold reasonL
 by_cases hp : p.ps = []
 ·rw [if_neg (show ¬ p.ps ≠ [] by simpa using hp), if_neg (show ¬ 0 < p.ps.length by rw [hp]; simp)]
  by_cases hr : p.re = 0
  ·rw [if_neg (show ¬ p.re ≠ 0 by simpa using hr), if_pos hr, allStr_nil, add_empty]
  ·rw [if_pos (show p.re ≠ 0 from hr), if_neg hr, allStr_cons, allStr_nil, add_empty]
   rfl
 ·rw [if_pos (show p.ps ≠ [] from hp), if_pos (show 0 < p.ps.length from List.length_pos_iff.2 hp), allStr_cons, allStr_cons, allStr_nil, add_empty, ← ByteArray.append_assoc]
  rfl
theorem num_part {n : Int} (h : (Part.number n).okB = true) : 1 ≤ n ∧ n < 65536 := of_decide_eq_true h
theorem rest_ack (p : Pk) (a : Ad) (S : ByteArray) (w : World) (h : PkAt w w.heap.size p a) (hk : p.kind = 4 ∨ p.kind = 5 ∨ p.kind = 6 ∨ p.kind = 7) (hg : goodP p = true) (hS : restP p = S) :
  Calls Tryz.prog 39 #[.agg (pkArr p a)] w fun e w' => e = .returned (.string S) ∧ Below w.heap.size w w' := by
 obtain ⟨h1, h2⟩ := parts_of p (l := [.number p.id] ++ reasonL p) hg (by unfold partsL; rw [if_neg (by omega), if_neg (by omega), if_neg (by omega), if_pos (by omega)])
 rw [allOk_app, Bool.and_eq_true] at h1
 have hid : 1 ≤ p.id ∧ p.id < 65536 := by
  have := h1.1
  unfold allOk at this
  simp only [List.all_cons, List.all_nil, Bool.and_true] at this
  exact num_part this
 obtain ⟨r1, r2⟩ := reason_ok h1.2
 have hs : restP p = fxStr p.id ++ allStr (reasonL p) := by rw [h2, allStr_app, allStr_cons, allStr_nil, add_empty]; rfl
 rw [hs, reason_str] at hS
 by_cases hp : 0 < p.ps.length
 ·rw [if_pos hp] at hS
  obtain ⟨x1, x2⟩ := r1 hp
  rcases hk with k | k | k | k
  ·exact rest_4p p a S w h k hid x1 x2 hp hS
  ·exact rest_5p p a S w h k hid x1 x2 hp hS
  ·exact rest_6p p a S w h k hid x1 x2 hp hS
  ·exact rest_7p p a S w h k hid x1 x2 hp hS
 ·rw [if_neg hp] at hS
  have hp0 : p.ps.length = 0 := by omega
  by_cases hr : p.re = 0
  ·rw [if_pos hr] at hS
   rcases hk with k | k | k | k
   ·exact rest_4n p a S w h k hid hp0 hr hS
   ·exact rest_5n p a S w h k hid hp0 hr hS
   ·exact rest_6n p a S w h k hid hp0 hr hS
   ·exact rest_7n p a S w h k hid hp0 hr hS
  ·rw [if_neg hr] at hS
   have x1 := r2 hp0 hr
   rcases hk with k | k | k | k
   ·exact rest_4r p a S w h k hid x1 hp0 hr hS
   ·exact rest_5r p a S w h k hid x1 hp0 hr hS
   ·exact rest_6r p a S w h k hid x1 hp0 hr hS
   ·exact rest_7r p a S w h k hid x1 hp0 hr hS
theorem rest_end (p : Pk) (a : Ad) (S : ByteArray) (w : World) (h : PkAt w w.heap.size p a) (hk : p.kind = 14 ∨ p.kind = 15) (hg : goodP p = true) (hS : restP p = S) :
  Calls Tryz.prog 39 #[.agg (pkArr p a)] w fun e w' => e = .returned (.string S) ∧ Below w.heap.size w w' := by
 obtain ⟨h1, h2⟩ := parts_of p (l := reasonL p) hg (by unfold partsL; rw [if_neg (by omega), if_neg (by omega), if_neg (by omega), if_neg (by omega), if_neg (by omega), if_neg (by omega), if_pos (by omega)])
 obtain ⟨r1, r2⟩ := reason_ok h1
 have hs : restP p = ⟨#[]⟩ ++ allStr (reasonL p) := by rw [h2, Pkt.empty_add]
 rw [hs, reason_str] at hS
 by_cases hp : 0 < p.ps.length
 ·rw [if_pos hp] at hS
  obtain ⟨x1, x2⟩ := r1 hp
  rcases hk with k | k
  ·exact rest_14p p a S w h k x1 x2 hp hS
  ·exact rest_15p p a S w h k x1 x2 hp hS
 ·rw [if_neg hp] at hS
  have hp0 : p.ps.length = 0 := by omega
  by_cases hr : p.re = 0
  ·rw [if_pos hr] at hS
   rcases hk with k | k
   ·exact rest_14n p a S w h k hp0 hr hS
   ·exact rest_15n p a S w h k hp0 hr hS
  ·rw [if_neg hr] at hS
   have x1 := r2 hp0 hr
   rcases hk with k | k
   ·exact rest_14r p a S w h k x1 hp0 hr hS
   ·exact rest_15r p a S w h k x1 hp0 hr hS
theorem rest_pub (p : Pk) (a : Ad) (S : ByteArray) (w : World) (h : PkAt w w.heap.size p a) (hk : p.kind = 3) (hg : goodP p = true) (hS : restP p = S) :
  Calls Tryz.prog 39 #[.agg (pkArr p a)] w fun e w' => e = .returned (.string S) ∧ Below w.heap.size w w' := by
 have hm := (good_parts hg).1
 have hb := ((may_parts hm).2.2.2.2 hk).2
 have hq := may_q hm
 by_cases h0 : p.q = 0
 ·obtain ⟨h1, h2⟩ := parts_of p (l := [.words p.t, .props p.kind p.ps, .raw p.b]) hg (by unfold partsL; rw [if_neg (by omega), if_neg (by omega), if_pos hk, if_pos h0])
  unfold allOk at h1
  simp only [List.all_cons, List.all_nil, Bool.and_eq_true, Bool.and_true] at h1
  refine rest_3z p a S w h hk (text_size h1.1) h1.2.1 hb h0 ?_
  rw [← hS, h2]
  unfold allStr
  simp only [List.foldl_cons, List.foldl_nil, Pkt.empty_add]
  rfl
 ·obtain ⟨h1, h2⟩ := parts_of p (l := [.words p.t, .number p.id, .props p.kind p.ps, .raw p.b]) hg (by unfold partsL; rw [if_neg (by omega), if_neg (by omega), if_pos hk, if_neg h0])
  unfold allOk at h1
  simp only [List.all_cons, List.all_nil, Bool.and_eq_true, Bool.and_true] at h1
  refine rest_3q p a S w h hk (text_size h1.1) h1.2.2.1 hb (by omega) (num_part h1.2.1) ?_
  rw [← hS, h2]
  unfold allStr
  simp only [List.foldl_cons, List.foldl_nil, Pkt.empty_add]
  rfl
theorem rest_codes (p : Pk) (a : Ad) (S : ByteArray) (w : World) (h : PkAt w w.heap.size p a) (hk : p.kind = 9 ∨ p.kind = 11) (hg : goodP p = true) (hS : restP p = S) :
  Calls Tryz.prog 39 #[.agg (pkArr p a)] w fun e w' => e = .returned (.string S) ∧ Below w.heap.size w w' := by
 obtain ⟨h1, h2⟩ := parts_of p (l := [.number p.id, .props p.kind p.ps] ++ codeL p.cs) hg (by unfold partsL; rw [if_neg (by omega), if_neg (by omega), if_neg (by omega), if_neg (by omega), if_neg (by omega), if_pos (by omega)])
 have ha : p.cs.length ≤ 4 := by
  have := (may_parts (good_parts hg).1).2.2.2.1 hk
  unfold countB at this
  have := of_decide_eq_true this
  omega
 rw [allOk_app, Bool.and_eq_true] at h1
 have h3 := h1.1
 unfold allOk at h3
 simp only [List.all_cons, List.all_nil, Bool.and_eq_true, Bool.and_true] at h3
 have hs : (fxStr p.id ++ propStr p.ps) ++ allStr (codeL p.cs) = S := by
  rw [← hS, h2, allStr_app, allStr_cons, allStr_cons, allStr_nil, add_empty]; rfl
 have hc : ∀ x ∈ p.cs, 0 ≤ x ∧ x ≤ 255 := fun x hx => by
  have h4 := h1.2
  unfold allOk at h4
  rw [List.all_eq_true] at h4
  exact of_decide_eq_true (h4 (.octet x) (by unfold codeL; exact List.mem_map_of_mem hx))
 rcases hk with k | k
 ·exact rest_9 p a S w h k (num_part h3.1) h3.2 ha hc hs
 ·exact rest_11 p a S w h k (num_part h3.1) h3.2 ha hc hs
theorem rest_con (p : Pk) (a : Ad) (S : ByteArray) (w : World) (h : PkAt w w.heap.size p a) (hk : p.kind = 1) (hg : goodP p = true) (hS : restP p = S) :
  Calls Tryz.prog 39 #[.agg (pkArr p a)] w fun e w' => e = .returned (.string S) ∧ Below w.heap.size w w' := by
 have hq := login_q ((may_parts (good_parts hg).1).2.1 hk)
 obtain ⟨h1, h2⟩ := parts_of p (l := connectL p) hg (by unfold partsL; rw [if_pos hk])
 unfold connectL willL userL passL at h1 h2
 cases hh : p.w.has with
 | false =>
  cases hu : p.hu with
  | false =>
   cases hp : p.hp with
   | false =>
    rw [hh, hu, hp] at h1 h2
    simp only [if_false, Bool.false_eq_true, List.append_nil] at h1 h2
    unfold allOk at h1
    simp only [List.all_cons, List.all_nil, Bool.and_eq_true, Bool.and_true] at h1
    obtain ⟨_, _, _, x1, x2, x3⟩ := h1
    refine rest_1000 p a S w h hk hq.1 hq.2 (of_decide_eq_true x1) x2 (text_size x3) hh hu hp ?_
    rw [← hS, h2]
    unfold allStr
    simp only [List.foldl_cons, List.foldl_nil, Pkt.empty_add]
    rfl
   | true =>
    rw [hh, hu, hp] at h1 h2
    simp only [if_true, if_false, Bool.false_eq_true, List.cons_append, List.nil_append, List.append_nil] at h1 h2
    unfold allOk at h1
    simp only [List.all_cons, List.all_nil, Bool.and_eq_true, Bool.and_true] at h1
    obtain ⟨_, _, _, x1, x2, x3, x8⟩ := h1
    refine rest_1001 p a S w h hk hq.1 hq.2 (of_decide_eq_true x1) x2 (text_size x3) hh hu hp (of_decide_eq_true x8) ?_
    rw [← hS, h2]
    unfold allStr
    simp only [List.foldl_cons, List.foldl_nil, Pkt.empty_add]
    rfl
  | true =>
   cases hp : p.hp with
   | false =>
    rw [hh, hu, hp] at h1 h2
    simp only [if_true, if_false, Bool.false_eq_true, List.cons_append, List.nil_append, List.append_nil] at h1 h2
    unfold allOk at h1
    simp only [List.all_cons, List.all_nil, Bool.and_eq_true, Bool.and_true] at h1
    obtain ⟨_, _, _, x1, x2, x3, x7⟩ := h1
    refine rest_1010 p a S w h hk hq.1 hq.2 (of_decide_eq_true x1) x2 (text_size x3) hh hu (text_size x7) hp ?_
    rw [← hS, h2]
    unfold allStr
    simp only [List.foldl_cons, List.foldl_nil, Pkt.empty_add]
    rfl
   | true =>
    rw [hh, hu, hp] at h1 h2
    simp only [if_true, if_false, Bool.false_eq_true, List.cons_append, List.nil_append, List.append_nil] at h1 h2
    unfold allOk at h1
    simp only [List.all_cons, List.all_nil, Bool.and_eq_true, Bool.and_true] at h1
    obtain ⟨_, _, _, x1, x2, x3, x7, x8⟩ := h1
    refine rest_1011 p a S w h hk hq.1 hq.2 (of_decide_eq_true x1) x2 (text_size x3) hh hu (text_size x7) hp (of_decide_eq_true x8) ?_
    rw [← hS, h2]
    unfold allStr
    simp only [List.foldl_cons, List.foldl_nil, Pkt.empty_add]
    rfl
 | true =>
  cases hu : p.hu with
  | false =>
   cases hp : p.hp with
   | false =>
    rw [hh, hu, hp] at h1 h2
    simp only [if_true, if_false, Bool.false_eq_true, List.cons_append, List.nil_append, List.append_nil] at h1 h2
    unfold allOk at h1
    simp only [List.all_cons, List.all_nil, Bool.and_eq_true, Bool.and_true] at h1
    obtain ⟨_, _, _, x1, x2, x3, x4, x5, x6⟩ := h1
    refine rest_1100 p a S w h hk hq.1 hq.2 (of_decide_eq_true x1) x2 (text_size x3) hh (x4) (text_size x5) (of_decide_eq_true x6) hu hp ?_
    rw [← hS, h2]
    unfold allStr
    simp only [List.foldl_cons, List.foldl_nil, Pkt.empty_add]
    rfl
   | true =>
    rw [hh, hu, hp] at h1 h2
    simp only [if_true, if_false, Bool.false_eq_true, List.cons_append, List.nil_append, List.append_nil] at h1 h2
    unfold allOk at h1
    simp only [List.all_cons, List.all_nil, Bool.and_eq_true, Bool.and_true] at h1
    obtain ⟨_, _, _, x1, x2, x3, x4, x5, x6, x8⟩ := h1
    refine rest_1101 p a S w h hk hq.1 hq.2 (of_decide_eq_true x1) x2 (text_size x3) hh (x4) (text_size x5) (of_decide_eq_true x6) hu hp (of_decide_eq_true x8) ?_
    rw [← hS, h2]
    unfold allStr
    simp only [List.foldl_cons, List.foldl_nil, Pkt.empty_add]
    rfl
  | true =>
   cases hp : p.hp with
   | false =>
    rw [hh, hu, hp] at h1 h2
    simp only [if_true, if_false, Bool.false_eq_true, List.cons_append, List.nil_append, List.append_nil] at h1 h2
    unfold allOk at h1
    simp only [List.all_cons, List.all_nil, Bool.and_eq_true, Bool.and_true] at h1
    obtain ⟨_, _, _, x1, x2, x3, x4, x5, x6, x7⟩ := h1
    refine rest_1110 p a S w h hk hq.1 hq.2 (of_decide_eq_true x1) x2 (text_size x3) hh (x4) (text_size x5) (of_decide_eq_true x6) hu (text_size x7) hp ?_
    rw [← hS, h2]
    unfold allStr
    simp only [List.foldl_cons, List.foldl_nil, Pkt.empty_add]
    rfl
   | true =>
    rw [hh, hu, hp] at h1 h2
    simp only [if_true, List.cons_append, List.nil_append] at h1 h2
    unfold allOk at h1
    simp only [List.all_cons, List.all_nil, Bool.and_eq_true, Bool.and_true] at h1
    obtain ⟨_, _, _, x1, x2, x3, x4, x5, x6, x7, x8⟩ := h1
    refine rest_1111 p a S w h hk hq.1 hq.2 (of_decide_eq_true x1) x2 (text_size x3) hh (x4) (text_size x5) (of_decide_eq_true x6) hu (text_size x7) hp (of_decide_eq_true x8) ?_
    rw [← hS, h2]
    unfold allStr
    simp only [List.foldl_cons, List.foldl_nil, Pkt.empty_add]
    rfl
open Go.RowKit Go.Lib Prp Pkt Vbi
theorem rflags_eq {p : Pk} (h : mayP p = true) : rflagsZ p = flagsZ p := by
 obtain ⟨⟨hk1, hk15⟩, _⟩ := may_parts h
 by_cases k : p.kind = 3
 ·unfold rflagsZ flagsZ bitZ
  rw [if_pos k, if_neg (show ¬ (p.kind = 6 ∨ p.kind = 8 ∨ p.kind = 10) by omega)]
  cases p.dup <;> cases p.ret <;> simp
 ·have hF : fieldB p = true := by
   cases hF : fieldB p with
   | true => rfl
   | false => rw [may_field hF] at h; cases h
  unfold fieldB fieldOf at hF
  simp only [Bool.and_eq_true, Bool.or_eq_true, Bool.not_eq_true', decide_eq_true_eq] at hF
  have hb3 : b3 p = false := by
   rcases hF.2.2.1 with h | h
   ·exact h
   ·exact absurd h k
  unfold b3 at hb3
  simp only [Bool.or_eq_false_iff, decide_eq_false_iff_not, ne_eq, Decidable.not_not] at hb3
  unfold rflagsZ flagsZ bitZ
  rw [if_neg k]
  split
  ·rfl
  ·rw [hb3.1, hb3.2.1, hb3.2.2.1]; rfl
theorem RBytes_of (p : Pk) (a : Ad) (S : ByteArray) (w : World) (h : PkAt w w.heap.size p a) (hg : goodP p = true) (hS : strP p = S)
  (hrest : ∀ (R : ByteArray) (W : World), PkAt W W.heap.size p a → restP p = R → Calls Tryz.prog 39 #[.agg (pkArr p a)] W fun e w' => e = .returned (.string R) ∧ Below W.heap.size W w') :
  Calls Tryz.prog 10 #[.agg (pkArr p a)] w fun e w' => e = .returned (.string S) ∧ Below w.heap.size w w' := by
 have H := Lib.hid h
 have hm := (good_parts hg).1
 have hk := (may_parts hm).1
 have hfl := flags_in hm
 have hq := may_q hm
 have hfw := parts_few hm
 have hrz := allStr_size (good_parts hg).2 hfw.2
 have hre := rflags_eq hm
 obtain ⟨R, hR⟩ : ∃ R, restP p = R := ⟨_, rfl⟩
 have hRz : R.size ≤ 1051392 := by rw [← hR]; unfold restP; have := hfw.1; omega
 have HR := Lib.hid (fun (W : World) (h : PkAt W W.heap.size p a) => hrest R W h hR)
 obtain ⟨N, hN⟩ : ∃ N, strOfNums (numZ R.size) = N := ⟨_, rfl⟩
 have hNz : N.size ≤ 4 := by rw [← hN, strOfNums_size, numZ_len (by omega)]; exact (numLen_le _).2
 have HN := Lib.hid (fun W => RNum_z (R.size : Int) N W (by omega) (by omega) (by rw [Int.toNat_natCast]; exact hN))
 obtain ⟨z, hz⟩ : ∃ z, flagsZ p = z := ⟨_, rfl⟩
 have HF := Lib.hid (fun W => rflags_is p a z W hq.1 (by omega) (hre.trans hz))
 rw [hz] at hfl
 obtain ⟨b, hb⟩ : ∃ b, 16 * p.kind + z = b := ⟨_, rfl⟩
 obtain ⟨O, hO⟩ : ∃ O, strOfNums [b] = O := ⟨_, rfl⟩
 have hOz : O.size ≤ 1 := by rw [← hO, strOfNums_size]; simp
 have HO := Lib.hid (fun W => one_is b O W (by omega) (by omega) hO)
 have HS : Hid (S = (O ++ N) ++ R) := by
  show _ = _
  rw [← hS]
  unfold strP
  rw [hR, hN, hz, ← hO, ← hb]
 have z1 : IntKind.i64.wrap (16 * p.kind) = 16 * p.kind := IntWalk.i64_in _ (by omega)
 have z2 : IntKind.i64.wrap (16 * p.kind + z) = b := by rw [← hb]; exact IntWalk.i64_in _ (by omega)
 clear h hg hS hm hk hfl hq hfw hrz hre hR hN hz hb hO
 have HK0 := Keep.new w 30 (pkArr p a)
 obtain ⟨W1, hW⟩ : ∃ W1, w.alloc (.cells (pkArr p a) 30) = W1 := ⟨_, rfl⟩
 rw [hW] at HK0
 unfold pkArr at hW ⊢
 have HW := Lib.hid hW
 clear hW
 go_enter Tryz.func10, Tryz.ntmps10
 go_upto_region 1 with fail
 rw [HW.out]
 generalize Value.agg _ = v0
 obtain ⟨g, hg⟩ : ∃ g, w.heap.size = g := ⟨_, rfl⟩
 rw [hg] at HK0 ⊢
 have HK := Lib.hid (KP.new HK0 H.out)
 clear HW HK0 H
 have HG := Lib.hid hg
 clear hg
 have hld := load_pk HK.out.k
 go_upto_region 2 with (first | (refine wpList_load_one rfl 30 (.tmp 1) rfl g 0 rfl _ hld ?_) | (go_at_call 39; refine (HR.out _ HK.out.at).mono ?_; rintro e w1 ⟨rfl, hb1⟩; have HK1 := Lib.hid (HK.out.below hb1); clear hb1 hld))
 have st0 := HK1.out
 clear HK HK1
 haveI : Nonempty (In (KP w g p a)) := ⟨⟨_, st0⟩⟩
 have k0 := fun u : In (KP w g p a) => u.h.k.f0
 have hld := fun u : In (KP w g p a) => load_pk u.h.k
 refine region_in (S := KP w g p a) (by kernel_rfl) (by kernel_rfl) (st0.drewN 1) ?_
 iterate 3 (go_big_quiet_step (fail))
 go_big_quiet_want
 refine quiet_load_in 30 (.tmp 1) rfl g 0 rfl _ hld ?_
 go_simp
 go_big_quiet_on
 repeat (go_big_quiet_step (first | (go_at_call 41; exact in_call ((HF.out _).mono fun _ _ h => ⟨h.1, KP.below (In.h _) h.2⟩)) | (go_at_call 40; exact in_call ((HO.out _).mono fun _ _ h => ⟨h.1, KP.below (In.h _) h.2⟩)) | (go_at_call 42; exact in_call ((HN.out _).mono fun _ _ h => ⟨h.1, KP.below (In.h _) h.2⟩))))
 refine wpQuiet_nil ?_
 rintro _ ⟨⟨w2, st2⟩, rfl⟩
 have HK := Lib.hid st2
 clear this st0 st2 k0 hld HF HO HN
 go_wp2_with fail
 go_ret
 exact ⟨by rw [HS.out]; rfl, HK.out.b⟩
theorem rest_no (p : Pk) (a : Ad) (S : ByteArray) (w : World) (hk : p.kind = 12 ∨ p.kind = 13) (hg : goodP p = true) (hS : restP p = S) :
  Calls Tryz.prog 39 #[.agg (pkArr p a)] w fun e w' => e = .returned (.string S) ∧ Below w.heap.size w w' := by
 obtain rfl : ⟨#[]⟩ = S := by rw [← hS, (parts_of p (l := []) hg (by unfold partsL; rw [if_neg (by omega), if_neg (by omega), if_neg (by omega), if_neg (by omega), if_neg (by omega), if_neg (by omega), if_neg (by omega)])).2]; rfl
 exact rest_12 p a w hk
theorem RB_1 (p : Pk) (a : Ad) (S : ByteArray) (w : World) (h : PkAt w w.heap.size p a) (hk : p.kind = 1) (hg : goodP p = true) (hS : strP p = S) :
  Calls Tryz.prog 10 #[.agg (pkArr p a)] w fun e w' => e = .returned (.string S) ∧ Below w.heap.size w w' :=
 RBytes_of p a S w h hg hS fun R W h hR => rest_con p a R W h hk hg hR
theorem RB_2 (p : Pk) (a : Ad) (S : ByteArray) (w : World) (h : PkAt w w.heap.size p a) (hk : p.kind = 2) (hg : goodP p = true) (hS : strP p = S) :
  Calls Tryz.prog 10 #[.agg (pkArr p a)] w fun e w' => e = .returned (.string S) ∧ Below w.heap.size w w' :=
 RBytes_of p a S w h hg hS fun R W h hR => rest_2 p a R W h hk hg hR
theorem RB_3 (p : Pk) (a : Ad) (S : ByteArray) (w : World) (h : PkAt w w.heap.size p a) (hk : p.kind = 3) (hg : goodP p = true) (hS : strP p = S) :
  Calls Tryz.prog 10 #[.agg (pkArr p a)] w fun e w' => e = .returned (.string S) ∧ Below w.heap.size w w' :=
 RBytes_of p a S w h hg hS fun R W h hR => rest_pub p a R W h hk hg hR
theorem RB_4 (p : Pk) (a : Ad) (S : ByteArray) (w : World) (h : PkAt w w.heap.size p a) (hk : p.kind = 4) (hg : goodP p = true) (hS : strP p = S) :
  Calls Tryz.prog 10 #[.agg (pkArr p a)] w fun e w' => e = .returned (.string S) ∧ Below w.heap.size w w' :=
 RBytes_of p a S w h hg hS fun R W h hR => rest_ack p a R W h (by omega) hg hR
theorem RB_5 (p : Pk) (a : Ad) (S : ByteArray) (w : World) (h : PkAt w w.heap.size p a) (hk : p.kind = 5) (hg : goodP p = true) (hS : strP p = S) :
  Calls Tryz.prog 10 #[.agg (pkArr p a)] w fun e w' => e = .returned (.string S) ∧ Below w.heap.size w w' :=
 RBytes_of p a S w h hg hS fun R W h hR => rest_ack p a R W h (by omega) hg hR
theorem RB_6 (p : Pk) (a : Ad) (S : ByteArray) (w : World) (h : PkAt w w.heap.size p a) (hk : p.kind = 6) (hg : goodP p = true) (hS : strP p = S) :
  Calls Tryz.prog 10 #[.agg (pkArr p a)] w fun e w' => e = .returned (.string S) ∧ Below w.heap.size w w' :=
 RBytes_of p a S w h hg hS fun R W h hR => rest_ack p a R W h (by omega) hg hR
theorem RB_7 (p : Pk) (a : Ad) (S : ByteArray) (w : World) (h : PkAt w w.heap.size p a) (hk : p.kind = 7) (hg : goodP p = true) (hS : strP p = S) :
  Calls Tryz.prog 10 #[.agg (pkArr p a)] w fun e w' => e = .returned (.string S) ∧ Below w.heap.size w w' :=
 RBytes_of p a S w h hg hS fun R W h hR => rest_ack p a R W h (by omega) hg hR
theorem RB_9 (p : Pk) (a : Ad) (S : ByteArray) (w : World) (h : PkAt w w.heap.size p a) (hk : p.kind = 9) (hg : goodP p = true) (hS : strP p = S) :
  Calls Tryz.prog 10 #[.agg (pkArr p a)] w fun e w' => e = .returned (.string S) ∧ Below w.heap.size w w' :=
 RBytes_of p a S w h hg hS fun R W h hR => rest_codes p a R W h (by omega) hg hR
theorem RB_11 (p : Pk) (a : Ad) (S : ByteArray) (w : World) (h : PkAt w w.heap.size p a) (hk : p.kind = 11) (hg : goodP p = true) (hS : strP p = S) :
  Calls Tryz.prog 10 #[.agg (pkArr p a)] w fun e w' => e = .returned (.string S) ∧ Below w.heap.size w w' :=
 RBytes_of p a S w h hg hS fun R W h hR => rest_codes p a R W h (by omega) hg hR
theorem RB_12 (p : Pk) (a : Ad) (S : ByteArray) (w : World) (h : PkAt w w.heap.size p a) (hk : p.kind = 12) (hg : goodP p = true) (hS : strP p = S) :
  Calls Tryz.prog 10 #[.agg (pkArr p a)] w fun e w' => e = .returned (.string S) ∧ Below w.heap.size w w' :=
 RBytes_of p a S w h hg hS fun R W h hR => rest_no p a R W (by omega) hg hR
theorem RB_13 (p : Pk) (a : Ad) (S : ByteArray) (w : World) (h : PkAt w w.heap.size p a) (hk : p.kind = 13) (hg : goodP p = true) (hS : strP p = S) :
  Calls Tryz.prog 10 #[.agg (pkArr p a)] w fun e w' => e = .returned (.string S) ∧ Below w.heap.size w w' :=
 RBytes_of p a S w h hg hS fun R W h hR => rest_no p a R W (by omega) hg hR
theorem RB_14 (p : Pk) (a : Ad) (S : ByteArray) (w : World) (h : PkAt w w.heap.size p a) (hk : p.kind = 14) (hg : goodP p = true) (hS : strP p = S) :
  Calls Tryz.prog 10 #[.agg (pkArr p a)] w fun e w' => e = .returned (.string S) ∧ Below w.heap.size w w' :=
 RBytes_of p a S w h hg hS fun R W h hR => rest_end p a R W h (by omega) hg hR
theorem RB_15 (p : Pk) (a : Ad) (S : ByteArray) (w : World) (h : PkAt w w.heap.size p a) (hk : p.kind = 15) (hg : goodP p = true) (hS : strP p = S) :
  Calls Tryz.prog 10 #[.agg (pkArr p a)] w fun e w' => e = .returned (.string S) ∧ Below w.heap.size w w' :=
 RBytes_of p a S w h hg hS fun R W h hR => rest_end p a R W h (by omega) hg hR
open Go.RowKit Go.Lib Prp Pkt Vbi
@[irreducible] def Pair (w : World) (g g3 : Nat) (p : Pk) (a : Ad) (N : Pk) (a' : Ad) (W : World) : Prop :=
 Box W g (pkArr p a) ∧ Box W g3 (pkArr N a') ∧ PkAt W w.heap.size p a ∧ Below w.heap.size w W ∧ w.heap.size ≤ g ∧ w.heap.size ≤ g3 ∧ g ≠ g3
section
variable {w W W' : World} {g g3 : Nat} {p N N' : Pk} {a a' a'' : Ad}
theorem Pair.mk (h : Box W g (pkArr p a) ∧ Box W g3 (pkArr N a') ∧ PkAt W w.heap.size p a ∧ Below w.heap.size w W ∧ w.heap.size ≤ g ∧ w.heap.size ≤ g3 ∧ g ≠ g3) : Pair w g g3 p a N a' W := by unfold Pair; exact h
theorem Pair.out (h : Pair w g g3 p a N a' W) : Box W g (pkArr p a) ∧ Box W g3 (pkArr N a') ∧ PkAt W w.heap.size p a ∧ Below w.heap.size w W ∧ w.heap.size ≤ g ∧ w.heap.size ≤ g3 ∧ g ≠ g3 := by unfold Pair at h; exact h
theorem Pair.b (h : Pair w g g3 p a N a' W) : Below w.heap.size w W := h.out.2.2.2.1
theorem Pair.at (h : Pair w g g3 p a N a' W) : PkAt W W.heap.size p a := h.out.2.2.1.mono h.b.size
theorem Pair.below (h : Pair w g g3 p a N a' W) (hb : Below W.heap.size W W') : Pair w g g3 p a N a' W' := by
 obtain ⟨h1, h2, h3, h4, h5, h6, h7⟩ := h.out
 exact .mk ⟨h1.below hb, h2.below hb, h3.below (hb.mono h4.size), h4.trans (hb.mono h4.size), h5, h6, h7⟩
theorem Pair.put (h : Pair w g g3 p a N a' W) (i : Nat) (v : Value) (N' : Pk) (a'' : Ad) (he : (pkArr N a').setIfInBounds i v = pkArr N' a'') : Pair w g g3 p a N' a'' (W.setCell ⟨g3, i, none⟩ v) := by
 obtain ⟨h1, h2, h3, h4, h5, h6, h7⟩ := h.out
 refine .mk ⟨Box.far h1 h7 v, ?_, h3.below ((Below.refl w.heap.size W).setCell (p := ⟨g3, i, none⟩) h6 v), h4.setCell (p := ⟨g3, i, none⟩) h6 v, h5, h6, h7⟩
 rw [← he]
 exact h2.put i v
theorem Pair.arg (h : Pair w g g3 p a N a' W) (i : Nat) : W.cell? ⟨g, i, none⟩ = (pkArr p a)[i]? := h.out.1.cell i
theorem Pair.non (h : Pair w g g3 p a N a' W) (i : Nat) : W.cell? ⟨g3, i, none⟩ = (pkArr N a')[i]? := h.out.2.1.cell i
theorem Pair.nfz (h : Pair w g g3 p a N a' W) (i : Nat) : W.frozen? ⟨g3, i, none⟩ = false := h.out.2.1.frozen i
theorem Pair.nat (h : Pair w g g3 p a N a' W) (h1 : N.cs = [] ∨ N.cs = p.cs ∧ a'.ca = a.ca) (h2 : N.fs = [] ∨ N.fs = p.fs ∧ a'.fa = a.fa) (h3 : N.w.ps = [] ∨ N.w.ps = p.w.ps ∧ a'.wa = a.wa) (h4 : N.ps = [] ∨ N.ps = p.ps ∧ a'.pa = a.pa) :
  PkAt W W.heap.size N a' ∧ HalfOf p N := by
 have k := h.at
 refine ⟨⟨?_, ?_, ?_, ?_⟩, ?_, ?_, ?_, ?_⟩
 ·rcases h1 with e | ⟨e, e'⟩
  ·rw [e]; exact .inl rfl
  ·rw [e, e']; exact k.cs
 ·rcases h2 with e | ⟨e, e'⟩
  ·rw [e]; exact .inl rfl
  ·rw [e, e']; exact k.fs
 ·rcases h3 with e | ⟨e, e'⟩
  ·rw [e]; exact .inl rfl
  ·rw [e, e']; exact k.ws
 ·rcases h4 with e | ⟨e, e'⟩
  ·rw [e]; exact .inl rfl
  ·rw [e, e']; exact k.ps
 ·exact h1.elim .inr fun x => .inl x.1
 ·exact h2.elim .inr fun x => .inl x.1
 ·exact h3.elim .inr fun x => .inl x.1
 ·exact h4.elim .inr fun x => .inl x.1
theorem Pair.putw (h : Pair w g g3 p a N a' W) : Pair w g g3 p a { N with w := p.w } { a' with wa := a.wa, wc := a.wc } (W.setCells g3 14 (wlArr p.w a.wa a.wc).toList) :=
 (((((h.put 14 (.bool p.w.has) { N with w := { N.w with has := p.w.has } } a' rfl).put 15 (.int .i64 p.w.q) { N with w := { N.w with has := p.w.has, q := p.w.q } } a' rfl).put 16 (.bool p.w.ret) { N with w := { N.w with has := p.w.has, q := p.w.q, ret := p.w.ret } } a' rfl).put 17 (.string p.w.t) { N with w := { N.w with has := p.w.has, q := p.w.q, ret := p.w.ret, t := p.w.t } } a' rfl).put 18 (.string p.w.b) { N with w := { N.w with has := p.w.has, q := p.w.q, ret := p.w.ret, t := p.w.t, b := p.w.b } } a' rfl).put 19 (.slice a.wa p.w.ps.length a.wc) { N with w := p.w } { a' with wa := a.wa, wc := a.wc } rfl
theorem Pair.there (h : Pair w g g3 p a N a' W) : W.there g3 14 6 := fun j hj => by
 refine ⟨?_, h.nfz _⟩
 rw [h.non]
 match j, hj with
 | 0, _ => rfl
 | 1, _ => rfl
 | 2, _ => rfl
 | 3, _ => rfl
 | 4, _ => rfl
 | 5, _ => rfl
theorem one_wl (x : Wl) (A : Option Addr) (c : Nat) : (wlArr x A c).all (·.oneCell') = true := by simp [wlArr, Value.oneCell']
theorem load_wlbox {W : World} {g : Nat} {x : Wl} {A : Option Addr} {c : Nat} (h : Box W g (wlArr x A c)) : (loadVar 28 ⟨g, 0, none⟩).run Tryz.prog W = .ok (.agg (wlArr x A c)) W :=
 run_loadVar_mid W g 0 28 (wlArr x A c).toList _ (fun j v hv => by rw [Nat.zero_add, h.cell j]; rw [← hv]; simp) Tryz.underlying28 rfl info_wl
@[irreducible] def Trio (w : World) (g g3 g4 : Nat) (p : Pk) (a : Ad) (N : Pk) (a' : Ad) (W : World) : Prop := Pair w g g3 p a N a' W ∧ Box W g4 (wlArr p.w a.wa a.wc) ∧ g4 ≠ g3
theorem Trio.mk {g4 : Nat} (h : Pair w g g3 p a N a' W ∧ Box W g4 (wlArr p.w a.wa a.wc) ∧ g4 ≠ g3) : Trio w g g3 g4 p a N a' W := by unfold Trio; exact h
theorem Trio.out {g4 : Nat} (h : Trio w g g3 g4 p a N a' W) : Pair w g g3 p a N a' W ∧ Box W g4 (wlArr p.w a.wa a.wc) ∧ g4 ≠ g3 := by unfold Trio at h; exact h
theorem Trio.below {g4 : Nat} (h : Trio w g g3 g4 p a N a' W) (hb : Below W.heap.size W W') : Trio w g g3 g4 p a N a' W' := .mk ⟨h.out.1.below hb, h.out.2.1.below hb, h.out.2.2⟩
theorem Trio.put {g4 : Nat} (h : Trio w g g3 g4 p a N a' W) (i : Nat) (v : Value) (N' : Pk) (a'' : Ad) (he : (pkArr N a').setIfInBounds i v = pkArr N' a'') : Trio w g g3 g4 p a N' a'' (W.setCell ⟨g3, i, none⟩ v) :=
 .mk ⟨h.out.1.put i v N' a'' he, Box.far h.out.2.1 h.out.2.2 v, h.out.2.2⟩
theorem Trio.putw {g4 : Nat} (h : Trio w g g3 g4 p a N a' W) : Trio w g g3 g4 p a { N with w := p.w } { a' with wa := a.wa, wc := a.wc } (W.setCells g3 14 (wlArr p.w a.wa a.wc).toList) :=
 .mk ⟨h.out.1.putw, Box.far (p := ⟨g3, 19, none⟩) (Box.far (p := ⟨g3, 18, none⟩) (Box.far (p := ⟨g3, 17, none⟩) (Box.far (p := ⟨g3, 16, none⟩) (Box.far (p := ⟨g3, 15, none⟩) (Box.far (p := ⟨g3, 14, none⟩) h.out.2.1 h.out.2.2 _) h.out.2.2 _) h.out.2.2 _) h.out.2.2 _) h.out.2.2 _) h.out.2.2 _, h.out.2.2⟩
end
structure Asked (p N : Pk) (b : Bool) : Prop where
 yes : eqP p N = true → goodP p = true ∧ b = decide ((strP p).size ≤ 8192)
 no : eqP p N = false → b = false
theorem asked {p N : Pk} {b : Bool} (hb : packB p = b) (hg : goodP p = eqP p N) : Asked p N b := by
 rw [pack_good] at hb
 refine ⟨fun h => ⟨hg.trans h, ?_⟩, fun h => ?_⟩
 ·rw [hg, h] at hb; exact hb.symm
 ·rw [hg, h] at hb; exact hb.symm
theorem not_good {p : Pk} {b : Bool} (hb : packB p = b) (hg : goodP p = false) : b = false := by
 rw [pack_good, hg] at hb
 exact hb.symm
end Go.Proofs.YtdbbcfohjkgdcaaGreat
