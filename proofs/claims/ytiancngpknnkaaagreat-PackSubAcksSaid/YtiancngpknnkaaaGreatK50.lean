/- The document's own answer on packets: what stands behind the length of a packet that may be; its bytes. -/
import Derived.Test.YtiancngpknnkaaaGreatK00
import Derived.Test.YtiancngpknnkaaaGreatK27
import Derived.Test.YtiancngpknnkaaaGreatK37
import Derived.Test.YtiancngpknnkaaaGreatK40
import Derived.Test.YtiancngpknnkaaaGreatK41
import Derived.Test.YtiancngpknnkaaaGreatK43
set_option maxRecDepth 100000
set_option maxHeartbeats 64000000
namespace Go.Proofs.YtiancngpknnkaaaGreat
open Go.RowKit Go.Lib Prp Pkt Vbi
theorem eq_cs {p : Pk} {k : Int} (hk : p.kind = k) (h : k = 9 ∨ k = 11) : eqP p { zp k with id := p.id, cs := p.cs, ps := p.ps } = fieldB p := by
 rw [Bool.eq_iff_iff]
 rcases h with rfl | rfl <;>
 ·simp [eqP, eqW, fieldB, fieldOf, b1, b3, wFilled, E, zp, zw, hk]
  grind
open Go.RowKit Go.Lib Prp Pkt Vbi
theorem codes_all (l : List Int) : allOk (codeL l) = l.all fun x => inB x 255 := by
 unfold allOk codeL
 rw [List.all_map]
 rfl
theorem doc_cs {p : Pk} {k : Int} (hk : p.kind = k) (h : k = 9 ∨ k = 11) : goodP p = (inB p.re 255 && (propsB k p.ps && (idB p.id && (countB p.cs.length && ((p.cs.all fun x => inB x 255) && eqP p { zp k with ps := p.ps, id := p.id, cs := p.cs }))))) := by
 have e := eq_cs hk h
 have hp : partsL p = [.number p.id, .props p.kind p.ps] ++ codeL p.cs := by rcases h with rfl | rfl <;> simp [partsL, hk]
 have hm : mayP p = (fieldB p && countB p.cs.length) := by rcases h with rfl | rfl <;> simp [mayP, hk]
 have ho : Part.okB (.props p.kind p.ps) = propsB k p.ps := by rw [hk]; rfl
 rw [e, goodP_eq, hp, hm, allOk_app, codes_all]
 simp only [allOk, List.all_cons, List.all_nil, num_doc, Bool.and_true, ho]
 cases hF : fieldB p with
 | false => simp
 | true =>
  have hr := re_zero hF (by omega)
  rw [hr, show inB 0 255 = true from rfl]
  cases idB p.id <;> cases propsB k p.ps <;> cases countB p.cs.length <;> simp
open Go.RowKit Go.Lib Prp Pkt Vbi
theorem code_step (l : List Int) (k : Nat) (hk : k < l.length) : allStr (codeL (l.take (k + 1))) = allStr (codeL (l.take k)) ++ strOfNums [l[k]] := by
 rw [List.take_succ_eq_append_getElem hk]
 unfold codeL
 rw [List.map_append, allStr_app]
 rw [show List.map Part.octet [l[k]] = [.octet l[k]] from rfl, allStr_cons, allStr_nil, add_empty]
 rfl
theorem code_size (l : List Int) : (allStr (codeL l)).size = l.length := by
 induction l with
 | nil => rfl
 | cons x t ih =>
  unfold codeL at ih ⊢
  rw [List.map_cons, allStr_cons, ByteArray.size_append, ih, List.length_cons]
  show (strOfNums [x]).size + _ = _
  rw [strOfNums_size]
  simp; omega
theorem rest_9 (p : Pk) (a : Ad) (S : ByteArray) (w : World) (h : PkAt w w.heap.size p a) (hk : p.kind = 9) (hid : 1 ≤ p.id ∧ p.id < 65536) (hps : propsB p.kind p.ps = true) (hm : p.cs.length ≤ 4) (hc : ∀ x ∈ p.cs, 0 ≤ x ∧ x ≤ 255) (hS : (fxStr p.id ++ propStr p.ps) ++ allStr (codeL p.cs) = S) :
  Calls Tryz.prog 53 #[.agg (pkArr p a)] w fun e w' => e = .returned (.string S) ∧ Below w.heap.size w w' := by
 have H := Lib.hid h
 clear h
 obtain ⟨F, hF⟩ : ∃ F, fxStr p.id = F := ⟨_, rfl⟩
 have hFz : F.size ≤ 2 := by rw [← hF, fxStr_size]; omega
 have HF := Lib.hid (fun W => RFixed_z2 p.id F W (by omega) (by omega) hF)
 obtain ⟨P, hPP⟩ : ∃ P, propStr p.ps = P := ⟨_, rfl⟩
 have hPz : P.size ≤ 16428 := by rw [← hPP]; exact propStr_size hps
 have HP := Lib.hid (fun (W : World) (h : KP w w.heap.size p a W) => PropBytes_ok p.kind p.ps a.pa a.pc P W hps h.at.ps hPP)
 rw [hF, hPP] at hS
 obtain ⟨B, hB⟩ : ∃ B, F ++ P = B := ⟨_, rfl⟩
 have hBz : B.size ≤ 16430 := by rw [← hB, ByteArray.size_append]; omega
 rw [hB] at hS
 have HB := Lib.hid hB
 have HS := Lib.hid hS
 have HC := Lib.hid hc
 have e1 : (p.kind == 1) = false := ne_false (by omega)
 have e2 : (p.kind == 2) = false := ne_false (by omega)
 have e3 : (p.kind == 3) = false := ne_false (by omega)
 have e4 : (p.kind == 4) = false := ne_false (by omega)
 have e5 : (p.kind == 5) = false := ne_false (by omega)
 have e6 : (p.kind == 6) = false := ne_false (by omega)
 have e7 : (p.kind == 7) = false := ne_false (by omega)
 have e14 : (p.kind == 14) = false := ne_false (by omega)
 have e15 : (p.kind == 15) = false := ne_false (by omega)
 have e8 : (p.kind == 8) = false := ne_false (by omega)
 have e10 : (p.kind == 10) = false := ne_false (by omega)
 have e9 : (p.kind == 9) = true := beq_iff_eq.2 (by omega)
 clear hS hB hF hPP hps hid hk hc
 have HK0 := Keep.new w 30 (pkArr p a)
 obtain ⟨W1, hW⟩ : ∃ W1, w.alloc (.cells (pkArr p a) 30) = W1 := ⟨_, rfl⟩
 rw [hW] at HK0
 unfold pkArr at hW ⊢
 have HW := Lib.hid hW
 clear hW
 go_enter Tryz.func53, Tryz.ntmps53
 go_upto_region 2 with fail
 rw [HW.out]
 generalize Value.agg _ = v0
 obtain ⟨g, hg⟩ : ∃ g, w.heap.size = g := ⟨_, rfl⟩
 rw [hg] at HK0 ⊢
 have HK := Lib.hid (KP.new HK0 H.out)
 clear HW HK0 H
 rw [hg] at HP
 have HG := Lib.hid hg
 clear hg
 have c0 := HK.out.k.f0
 go_upto_region 42 with fail
 clear c0
 have st0 := HK.out
 clear HK
 haveI : Nonempty (In (KP w g p a)) := ⟨⟨_, st0⟩⟩
 have k4 := fun u : In (KP w g p a) => u.h.k.f4
 have k24 := fun u : In (KP w g p a) => u.h.k.f24
 refine region_in (S := KP w g p a) (by kernel_rfl) (by kernel_rfl) (st0.drewN 1) ?_
 repeat (go_big_quiet_step (first | (go_at_call 94; exact in_call ((HP.out _ (In.h _)).mono fun _ _ h => ⟨h.1, KP.below (In.h _) h.2⟩)) | (go_at_call 93; exact in_call ((HF.out _).mono fun _ _ h => ⟨h.1, KP.below (In.h _) h.2⟩))))
 refine wpQuiet_nil ?_
 rintro _ ⟨⟨w2, st2⟩, rfl⟩
 have HK := Lib.hid st2
 clear this st0 st2 k4 k24
 go_wp2_with fail
 rw [HB.out]
 go_loopw [3, 6] (fun s i wr => ∃ k : Nat, k ≤ p.cs.length ∧ i = .int .i64 (k : Int) ∧ s = .string (B ++ allStr (codeL (p.cs.take k))) ∧ KP w g p a wr) (fun _ i _ => p.cs.length - (RowKit.intOf i).toNat)
 case atStart => exact ⟨0, Nat.zero_le _, rfl, by rw [List.take_zero]; exact congrArg Value.string (add_empty B).symm, HK.out⟩
 case round =>
  obtain ⟨k, hk, rfl, rfl, hst⟩ := hrel
  have HT := Lib.hid hst
  clear hst HK
  by_cases hlt : k < p.cs.length
  ·have HN := Lib.hid (code_step p.cs k hlt)
   have hz : (allStr (codeL (p.cs.take k))).size ≤ 4 := by rw [code_size, List.length_take]; omega
   obtain ⟨ad, hAd, hb0, hcc⟩ := HT.out.out.2.cs.some_ (by omega)
   have d0 := hcc k hlt
   rw [List.getD_eq_getElem?_getD, List.getElem?_eq_getElem hlt] at d0
   change _ = some (Value.int .i64 p.cs[k]) at d0
   have hr := HC.out _ (List.getElem_mem hlt)
   obtain ⟨x, hx⟩ : ∃ x, p.cs[k] = x := ⟨_, rfl⟩
   rw [hx] at d0 HN hr
   obtain ⟨O, hO⟩ : ∃ O, strOfNums [x] = O := ⟨_, rfl⟩
   have hOz : O.size ≤ 1 := by rw [← hO, strOfNums_size]; simp
   have HO := Lib.hid (fun W => one_is x O W hr.1 hr.2 hO)
   rw [hO] at HN
   obtain ⟨T, hT⟩ : ∃ T, B ++ allStr (codeL (p.cs.take k)) = T := ⟨_, rfl⟩
   have hTz : T.size ≤ 16434 := by rw [← hT, ByteArray.size_append]; omega
   have HN2 : Hid (B ++ allStr (codeL (p.cs.take (k + 1))) = T ++ O) := by show _ = _; rw [HN.out, ← ByteArray.append_assoc, hT]
   rw [hT]
   have HAd := Lib.hid hAd
   have c9 := HT.out.k.f9
   rw [hAd] at c9
   have hkI : (k : Int) < (p.cs.length : Int) := by omega
   clear hx hO hT hcc hAd hz hr HN
   go_wp2_with (go_at_call 54; refine (HO.out _).mono ?_; rintro e w3 ⟨rfl, hb3⟩; have HT3 := Lib.hid (HT.out.below hb3); clear hb3)
   go_roundw
   case rel => exact ⟨k + 1, hlt, by go_num, by rw [HN2.out], HT3.out⟩
   case measure => simp [RowKit.intOf]; omega
  ·obtain rfl : k = p.cs.length := by omega
   rw [List.take_length, HS.out]
   have c9 := HT.out.k.f9
   go_wp2_with fail
   go_ret
   exact ⟨rfl, HT.out.b⟩
theorem rest_11 (p : Pk) (a : Ad) (S : ByteArray) (w : World) (h : PkAt w w.heap.size p a) (hk : p.kind = 11) (hid : 1 ≤ p.id ∧ p.id < 65536) (hps : propsB p.kind p.ps = true) (hm : p.cs.length ≤ 4) (hc : ∀ x ∈ p.cs, 0 ≤ x ∧ x ≤ 255) (hS : (fxStr p.id ++ propStr p.ps) ++ allStr (codeL p.cs) = S) :
  Calls Tryz.prog 53 #[.agg (pkArr p a)] w fun e w' => e = .returned (.string S) ∧ Below w.heap.size w w' := by
 have H := Lib.hid h
 clear h
 obtain ⟨F, hF⟩ : ∃ F, fxStr p.id = F := ⟨_, rfl⟩
 have hFz : F.size ≤ 2 := by rw [← hF, fxStr_size]; omega
 have HF := Lib.hid (fun W => RFixed_z2 p.id F W (by omega) (by omega) hF)
 obtain ⟨P, hPP⟩ : ∃ P, propStr p.ps = P := ⟨_, rfl⟩
 have hPz : P.size ≤ 16428 := by rw [← hPP]; exact propStr_size hps
 have HP := Lib.hid (fun (W : World) (h : KP w w.heap.size p a W) => PropBytes_ok p.kind p.ps a.pa a.pc P W hps h.at.ps hPP)
 rw [hF, hPP] at hS
 obtain ⟨B, hB⟩ : ∃ B, F ++ P = B := ⟨_, rfl⟩
 have hBz : B.size ≤ 16430 := by rw [← hB, ByteArray.size_append]; omega
 rw [hB] at hS
 have HB := Lib.hid hB
 have HS := Lib.hid hS
 have HC := Lib.hid hc
 have e1 : (p.kind == 1) = false := ne_false (by omega)
 have e2 : (p.kind == 2) = false := ne_false (by omega)
 have e3 : (p.kind == 3) = false := ne_false (by omega)
 have e4 : (p.kind == 4) = false := ne_false (by omega)
 have e5 : (p.kind == 5) = false := ne_false (by omega)
 have e6 : (p.kind == 6) = false := ne_false (by omega)
 have e7 : (p.kind == 7) = false := ne_false (by omega)
 have e14 : (p.kind == 14) = false := ne_false (by omega)
 have e15 : (p.kind == 15) = false := ne_false (by omega)
 have e8 : (p.kind == 8) = false := ne_false (by omega)
 have e10 : (p.kind == 10) = false := ne_false (by omega)
 have e9 : (p.kind == 9) = false := ne_false (by omega)
 have e11 : (p.kind == 11) = true := beq_iff_eq.2 (by omega)
 clear hS hB hF hPP hps hid hk hc
 have HK0 := Keep.new w 30 (pkArr p a)
 obtain ⟨W1, hW⟩ : ∃ W1, w.alloc (.cells (pkArr p a) 30) = W1 := ⟨_, rfl⟩
 rw [hW] at HK0
 unfold pkArr at hW ⊢
 have HW := Lib.hid hW
 clear hW
 go_enter Tryz.func53, Tryz.ntmps53
 go_upto_region 2 with fail
 rw [HW.out]
 generalize Value.agg _ = v0
 obtain ⟨g, hg⟩ : ∃ g, w.heap.size = g := ⟨_, rfl⟩
 rw [hg] at HK0 ⊢
 have HK := Lib.hid (KP.new HK0 H.out)
 clear HW HK0 H
 rw [hg] at HP
 have HG := Lib.hid hg
 clear hg
 have c0 := HK.out.k.f0
 go_upto_region 42 with fail
 clear c0
 have st0 := HK.out
 clear HK
 haveI : Nonempty (In (KP w g p a)) := ⟨⟨_, st0⟩⟩
 have k4 := fun u : In (KP w g p a) => u.h.k.f4
 have k24 := fun u : In (KP w g p a) => u.h.k.f24
 refine region_in (S := KP w g p a) (by kernel_rfl) (by kernel_rfl) (st0.drewN 1) ?_
 repeat (go_big_quiet_step (first | (go_at_call 94; exact in_call ((HP.out _ (In.h _)).mono fun _ _ h => ⟨h.1, KP.below (In.h _) h.2⟩)) | (go_at_call 93; exact in_call ((HF.out _).mono fun _ _ h => ⟨h.1, KP.below (In.h _) h.2⟩))))
 refine wpQuiet_nil ?_
 rintro _ ⟨⟨w2, st2⟩, rfl⟩
 have HK := Lib.hid st2
 clear this st0 st2 k4 k24
 go_wp2_with fail
 rw [HB.out]
 go_loopw [3, 6] (fun s i wr => ∃ k : Nat, k ≤ p.cs.length ∧ i = .int .i64 (k : Int) ∧ s = .string (B ++ allStr (codeL (p.cs.take k))) ∧ KP w g p a wr) (fun _ i _ => p.cs.length - (RowKit.intOf i).toNat)
 case atStart => exact ⟨0, Nat.zero_le _, rfl, by rw [List.take_zero]; exact congrArg Value.string (add_empty B).symm, HK.out⟩
 case round =>
  obtain ⟨k, hk, rfl, rfl, hst⟩ := hrel
  have HT := Lib.hid hst
  clear hst HK
  by_cases hlt : k < p.cs.length
  ·have HN := Lib.hid (code_step p.cs k hlt)
   have hz : (allStr (codeL (p.cs.take k))).size ≤ 4 := by rw [code_size, List.length_take]; omega
   obtain ⟨ad, hAd, hb0, hcc⟩ := HT.out.out.2.cs.some_ (by omega)
   have d0 := hcc k hlt
   rw [List.getD_eq_getElem?_getD, List.getElem?_eq_getElem hlt] at d0
   change _ = some (Value.int .i64 p.cs[k]) at d0
   have hr := HC.out _ (List.getElem_mem hlt)
   obtain ⟨x, hx⟩ : ∃ x, p.cs[k] = x := ⟨_, rfl⟩
   rw [hx] at d0 HN hr
   obtain ⟨O, hO⟩ : ∃ O, strOfNums [x] = O := ⟨_, rfl⟩
   have hOz : O.size ≤ 1 := by rw [← hO, strOfNums_size]; simp
   have HO := Lib.hid (fun W => one_is x O W hr.1 hr.2 hO)
   rw [hO] at HN
   obtain ⟨T, hT⟩ : ∃ T, B ++ allStr (codeL (p.cs.take k)) = T := ⟨_, rfl⟩
   have hTz : T.size ≤ 16434 := by rw [← hT, ByteArray.size_append]; omega
   have HN2 : Hid (B ++ allStr (codeL (p.cs.take (k + 1))) = T ++ O) := by show _ = _; rw [HN.out, ← ByteArray.append_assoc, hT]
   rw [hT]
   have HAd := Lib.hid hAd
   have c9 := HT.out.k.f9
   rw [hAd] at c9
   have hkI : (k : Int) < (p.cs.length : Int) := by omega
   clear hx hO hT hcc hAd hz hr HN
   go_wp2_with (go_at_call 54; refine (HO.out _).mono ?_; rintro e w3 ⟨rfl, hb3⟩; have HT3 := Lib.hid (HT.out.below hb3); clear hb3)
   go_roundw
   case rel => exact ⟨k + 1, hlt, by go_num, by rw [HN2.out], HT3.out⟩
   case measure => simp [RowKit.intOf]; omega
  ·obtain rfl : k = p.cs.length := by omega
   rw [List.take_length, HS.out]
   have c9 := HT.out.k.f9
   go_wp2_with fail
   go_ret
   exact ⟨rfl, HT.out.b⟩
open Go.RowKit Go.Lib Prp Pkt Vbi
theorem rest_codes (p : Pk) (a : Ad) (S : ByteArray) (w : World) (h : PkAt w w.heap.size p a) (hk : p.kind = 9 ∨ p.kind = 11) (hg : goodP p = true) (hS : restP p = S) :
  Calls Tryz.prog 53 #[.agg (pkArr p a)] w fun e w' => e = .returned (.string S) ∧ Below w.heap.size w w' := by
 obtain ⟨h1, h2⟩ := parts_of p (l := [.number p.id, .props p.kind p.ps] ++ codeL p.cs) hg (by unfold partsL; rw [if_neg (by omega), if_neg (by omega), if_neg (by omega), if_neg (by omega), if_neg (by omega), if_pos (by omega)])
 have ha : p.cs.length ≤ 4 := by
  have := (may_parts (good_parts hg).1).2.2.2.1 hk
  unfold countB at this
  have := of_decide_eq_true this
  omega
 rw [allOk_app, Bool.and_eq_true] at h1
 have h3 := h1.1
 unfold allOk at h3
 simp only [List.all_cons, List.all_nil, Bool.and_eq_true, Bool.and_true] at h3
 have hs : (fxStr p.id ++ propStr p.ps) ++ allStr (codeL p.cs) = S := by
  rw [← hS, h2, allStr_app, allStr_cons, allStr_cons, allStr_nil, add_empty]; rfl
 have hc : ∀ x ∈ p.cs, 0 ≤ x ∧ x ≤ 255 := fun x hx => by
  have h4 := h1.2
  unfold allOk at h4
  rw [List.all_eq_true] at h4
  exact of_decide_eq_true (h4 (.octet x) (by unfold codeL; exact List.mem_map_of_mem hx))
 rcases hk with k | k
 ·exact rest_9 p a S w h k (num_part h3.1) h3.2 ha hc hs
 ·exact rest_11 p a S w h k (num_part h3.1) h3.2 ha hc hs
end Go.Proofs.YtiancngpknnkaaaGreat
