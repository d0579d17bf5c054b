/- The document's own answer: may properties be at a place? -/
import Derived.Test.YthjlbdplhhgcpaaPropFitsAll
import Derived.Test.YthjlbdplhhgcpaaPropMay
import Derived.Test.YthjlbdplhhgcpaaPropBytes
import Derived.Test.YthjlbdplhhgcpaaInRegion
namespace Go.Proofs.Ythjlbdplhhgcpaa
open Go.RowKit Go.Lib Prp

/-- Where a round stands: the properties, what was there ahead of the call. -/
@[irreducible] def RSt (w : World) (A : Option Addr) (l : List P) (W : World) : Prop := PropsAt W w.heap.size A l ∧ Below w.heap.size w W
section
variable {w W W' : World} {A : Option Addr} {l : List P}
theorem RSt.mk (h1 : PropsAt W w.heap.size A l) (h2 : Below w.heap.size w W) : RSt w A l W := by unfold RSt; exact ⟨h1, h2⟩
theorem RSt.out (h : RSt w A l W) : PropsAt W w.heap.size A l ∧ Below w.heap.size w W := by unfold RSt at h; exact h
theorem RSt.below (h : RSt w A l W) (hb : Below W.heap.size W W') : RSt w A l W' := .mk (h.out.1.below (hb.mono h.out.2.size)) (h.out.2.trans (hb.mono h.out.2.size))
theorem RSt.drewN (h : RSt w A l W) (n : Nat) : RSt w A l (W.drewN n) := h.below (below_drewN (Below.refl _ _) n)
theorem RSt.cells {b o : Nat} (h : RSt w (some ⟨b, o, none⟩) l W) (k : Nat) (hk : k < l.length) : PAt W b (o + k * 4) l[k] := by
  obtain ⟨b', o', e, _, hc⟩ := h.out.1.some_ (by omega)
  injection e with e
  injection e with e1 e2
  subst e1 e2
  exact hc k hk
end
theorem twice_take (place id : Int) (l : List P) (k : Nat) (A : Option Addr) (c B : Nat) (b : Bool) (w : World) (hk : k ≤ l.length) (hm : l.length ≤ 9223372036854775807) (h : PropsAt w B A l) (hb : twiceB place id (l.take k) = b) :
    Calls Try.prog 37 #[.int .i64 place, .int .i64 id, .slice A k c] w fun e w' => e = .returned (.bool b) ∧ w = w' := by
  have := twice_is place id (l.take k) A c B b w (by rw [List.length_take]; omega) (h.take k) hb
  rwa [List.length_take, Nat.min_eq_left hk] at this

set_option maxRecDepth 100000 in
set_option maxHeartbeats 8000000 in
theorem RProps_is (place : Int) (l : List P) (A : Option Addr) (c : Nat) (z : Bool) (w : World) (hm : l.length ≤ 9223372036854775807) (hcap : l.length ≤ c) (hfit : ∀ p ∈ l, Fit p) (h : PropsAt w w.heap.size A l) (hz : propsB place l = z) :
    Calls Try.prog 18 #[.int .i64 place, .slice A l.length c] w fun e w' => e = .returned (.bool z) ∧ Below w.heap.size w w' := by
  have H := Lib.hid h
  have HF := Lib.hid hfit
  clear h hfit
  obtain ⟨x, hx⟩ : ∃ x, placeB place = x := ⟨_, rfl⟩
  have HP := Lib.hid (fun W => Place_is place x W hx)
  cases x with
  | false =>
    obtain rfl : false = z := (props_place (l := l) hx).symm.trans hz
    clear hx hz
    go_enter Try.func18, Try.ntmps18
    go_wp2_with (go_at_call 23; refine (HP.out _).mono ?_; rintro e w' ⟨rfl, rfl⟩)
    go_ret
    exact ⟨rfl, Below.refl _ _⟩
  | true =>
  by_cases h8 : 8 < l.length
  · obtain rfl : false = z := (props_many (place := place) h8).symm.trans hz
    clear hx hz
    go_enter Try.func18, Try.ntmps18
    go_wp2_with (go_at_call 23; refine (HP.out _).mono ?_; rintro e w' ⟨rfl, rfl⟩)
    go_ret
    exact ⟨rfl, Below.refl _ _⟩
  have hd8 : decide (8 < (l.length : Int)) = false := by simp; omega
  have hl8 : l.length ≤ 8 := by omega
  have HG := Lib.hid ((props_few hx hl8).symm.trans hz)
  clear hx hz
  go_enter Try.func18, Try.ntmps18
  go_wp2_with (go_at_call 23; refine (HP.out _).mono ?_; rintro e w' ⟨rfl, rfl⟩)
  go_loopw [5] (fun i wr => ∃ k : Nat, k ≤ l.length ∧ i = .int .i64 (k : Int) ∧ RSt w A l wr ∧ z = goodL place (l.take k) (l.drop k)) (fun i _ => l.length - (RowKit.intOf i).toNat)
  case atStart => exact ⟨0, Nat.zero_le _, rfl, .mk H.out (Below.refl _ _), HG.out.symm⟩
  case round =>
    obtain ⟨k, hk, rfl, hst, hgood⟩ := hrel
    have HT := Lib.hid hst
    have HGD := Lib.hid hgood
    clear hst hgood
    by_cases hlt : k < l.length
    · have HGS := Lib.hid (HGD.out.trans (good_step hlt))
      have hfp : Fit l[k] := HF.out _ (List.getElem_mem hlt)
      obtain ⟨b0, o, rfl, hb0, hc⟩ := HT.out.out.1.some_ (by omega)
      clear hc
      obtain ⟨d0, d1, d2, d3⟩ := HT.out.cells k hlt
      have HCL := Lib.hid (fun (W : World) (h : RSt w (some ⟨b0, o, none⟩) l W) => h.cells k hlt)
      obtain ⟨q, hq⟩ : ∃ q, l[k] = q := ⟨_, rfl⟩
      rw [hq] at d0 d1 d2 d3 hfp HCL HGS
      clear hq
      obtain ⟨id, n, s, v⟩ := q
      have hn1 := hfp.n1
      have hs1 := hfp.hs
      have hkI : (k : Int) < (l.length : Int) := by omega
      have hk0 : (0 : Int) ≤ (k : Int) := by omega
      have hkc : (k : Int) ≤ (c : Int) := by omega
      obtain ⟨f, hf⟩ : ∃ f, fitsB ⟨id, n, s, v⟩ = f := ⟨_, rfl⟩
      have HFI := Lib.hid (fun W => fits_is id n s v f W (by have : s.size ≤ 140737488351232 := hs1; omega) hf)
      obtain ⟨g, hg⟩ : ∃ g, standB place id = g := ⟨_, rfl⟩
      have HSI := Lib.hid (fun W => stands_is place id g W hg)
      obtain ⟨t, ht⟩ : ∃ t, twiceB place id (l.take k) = t := ⟨_, rfl⟩
      have HTI := Lib.hid (fun (W : World) (h : RSt w (some ⟨b0, o, none⟩) l W) => twice_take place id l k (some ⟨b0, o, none⟩) c w.heap.size t W hk hm h.out.1 ht)
      have HGO : Hid (goodB place (l.take k) ⟨id, n, s, v⟩ = (g && (f && !t))) := by show _ = _; unfold goodB; rw [hf, ht]; show (standB place id && _) = _; rw [hg]
      clear hf hg ht
      have st0 := HT.out
      clear HT
      go_wp2_with fail
      haveI : Nonempty (In (RSt w (some ⟨b0, o, none⟩) l)) := ⟨⟨_, st0⟩⟩
      have k0 : ∀ u : In (RSt w (some ⟨b0, o, none⟩) l), u.w.cell? ⟨b0, o + k * 4, none⟩ = some (.int .i64 id) := fun u => (HCL.out _ u.h).c0
      have k1 : ∀ u : In (RSt w (some ⟨b0, o, none⟩) l), u.w.cell? ⟨b0, o + k * 4 + 1, none⟩ = some (.int .i64 n) := fun u => (HCL.out _ u.h).c1
      have k2 : ∀ u : In (RSt w (some ⟨b0, o, none⟩) l), u.w.cell? ⟨b0, o + k * 4 + 2, none⟩ = some (.string s) := fun u => (HCL.out _ u.h).c2
      have k3 : ∀ u : In (RSt w (some ⟨b0, o, none⟩) l), u.w.cell? ⟨b0, o + k * 4 + 3, none⟩ = some (.string v) := fun u => (HCL.out _ u.h).c3
      cases f with
      | true =>
        cases g with
        | true =>
          refine region_in (S := RSt w (some ⟨b0, o, none⟩) l) (by kernel_rfl) (by kernel_rfl) (st0.drewN 1) ?_
          repeat (go_big_quiet_step (first | (go_at_call 35; exact in_call ((HFI.out _).mono fun _ _ h => ⟨h.1, RSt.below (In.h _) h.2⟩)) | (go_at_call 36; exact in_call ((HSI.out _).mono fun _ _ h => ⟨h.1, RSt.below (In.h _) h.2⟩)) | (go_at_call 37; exact in_call ((HTI.out _ (In.h _)).mono fun _ _ h => ⟨h.1, by rw [← h.2]; exact In.h _⟩))))
          refine wpQuiet_nil ?_
          rintro _ ⟨⟨w2, st2⟩, rfl⟩
          clear st0
          have HT2 := Lib.hid st2
          clear st2 k0 k1 k2 k3 HCL HFI HSI HTI d0 d1 d2 d3
          cases t with
          | true =>
            obtain rfl : z = false := HGS.out.trans (by rw [HGO.out]; rfl)
            go_wp2_with fail
            go_ret
            exact ⟨rfl, HT2.out.out.2⟩
          | false =>
            have HN : Hid (z = goodL place (l.take (k + 1)) (l.drop (k + 1))) := HGS.out.trans (by rw [HGO.out]; simp)
            go_wp2_with fail
            go_roundw
            case rel => exact ⟨k + 1, hlt, by go_num, HT2.out, HN.out⟩
            case measure => simp [RowKit.intOf]; omega
        | false =>
          obtain rfl : z = false := HGS.out.trans (by rw [HGO.out]; rfl)
          refine region_in (S := RSt w (some ⟨b0, o, none⟩) l) (by kernel_rfl) (by kernel_rfl) (st0.drewN 1) ?_
          repeat (go_big_quiet_step (first | (go_at_call 35; exact in_call ((HFI.out _).mono fun _ _ h => ⟨h.1, RSt.below (In.h _) h.2⟩)) | (go_at_call 36; exact in_call ((HSI.out _).mono fun _ _ h => ⟨h.1, RSt.below (In.h _) h.2⟩)) | (go_at_call 37; exact in_call ((HTI.out _ (In.h _)).mono fun _ _ h => ⟨h.1, by rw [← h.2]; exact In.h _⟩))))
          refine wpQuiet_nil ?_
          rintro _ ⟨⟨w2, st2⟩, rfl⟩
          clear st0
          have HT2 := Lib.hid st2
          clear st2 k0 k1 k2 k3 HCL HFI HSI HTI d0 d1 d2 d3
          go_wp2_with fail
          go_ret
          exact ⟨rfl, HT2.out.out.2⟩
      | false =>
        obtain rfl : z = false := HGS.out.trans (by rw [HGO.out]; cases g <;> rfl)
        refine region_in (S := RSt w (some ⟨b0, o, none⟩) l) (by kernel_rfl) (by kernel_rfl) (st0.drewN 1) ?_
        repeat (go_big_quiet_step (first | (go_at_call 35; exact in_call ((HFI.out _).mono fun _ _ h => ⟨h.1, RSt.below (In.h _) h.2⟩)) | (go_at_call 36; exact in_call ((HSI.out _).mono fun _ _ h => ⟨h.1, RSt.below (In.h _) h.2⟩)) | (go_at_call 37; exact in_call ((HTI.out _ (In.h _)).mono fun _ _ h => ⟨h.1, by rw [← h.2]; exact In.h _⟩))))
        refine wpQuiet_nil ?_
        rintro _ ⟨⟨w2, st2⟩, rfl⟩
        clear st0
        have HT2 := Lib.hid st2
        clear st2 k0 k1 k2 k3 HCL HFI HSI HTI d0 d1 d2 d3
        go_wp2_with fail
        go_ret
        exact ⟨rfl, HT2.out.out.2⟩
    · obtain rfl : k = l.length := by omega
      have hgo : z = true := by have := HGD.out; rw [List.drop_length] at this; exact this
      subst hgo
      go_wp2_with fail
      go_ret
      exact ⟨rfl, HT.out.out.2⟩
end Go.Proofs.Ythjlbdplhhgcpaa
