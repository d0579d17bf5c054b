/- SumParts: of two parts the second one's sum behind the first one's is that of both; one turned bit, and a few within two bytes, change it. -/
import Derived.Test.YtbonmfhkcoacjaaDoorSumLeaf
import Derived.Test.YtbonmfhkcoacjaaDoorSumAsks
import Derived.Deep.RegionHeld3
import Derived.StillTailTactics
import Derived.Lib.Strings
import Derived.IntWalk
namespace Go.Proofs.YtbonmfhkcoacjaaDoor
open Go.RowKit Go.Lib Crc

theorem size_pos {s : ByteArray} (h : ¬ s = ByteArray.empty) : 0 < s.size := by
  rcases Nat.eq_zero_or_pos s.size with h0 | h0
  · exact absurd (ByteArray.size_eq_zero_iff.1 h0) h
  · exact h0

/-- Where a round stands: the ask, the table, what was there ahead of the call. -/
@[irreducible] def Held (w : World) (b o x : Nat) (s : ByteArray) (y : Int) (W : World) : Prop := AskAt W w.heap.size b o x s y ∧ Tab w ∧ Tab W ∧ Below w.heap.size w W
section
variable {w W W' : World} {b o x : Nat} {s : ByteArray} {y : Int}
theorem Held.mk (h1 : AskAt W w.heap.size b o x s y) (h0 : Tab w) (h2 : Tab W) (h3 : Below w.heap.size w W) : Held w b o x s y W := by unfold Held; exact ⟨h1, h0, h2, h3⟩
theorem Held.out (h : Held w b o x s y W) : AskAt W w.heap.size b o x s y ∧ Tab w ∧ Tab W ∧ Below w.heap.size w W := by unfold Held at h; exact h
theorem Held.low (h : Held w b o x s y W) (hb : Below w.heap.size W W') : Held w b o x s y W' := by
  obtain ⟨h1, h0, h2, h3⟩ := h.out
  exact .mk (h1.below hb) h0 (fun j hj => (hb.cell (p := ⟨0, j, none⟩) h0.lt).trans (h2 j hj)) (h3.trans hb)
theorem Held.below (h : Held w b o x s y W) (hb : Below W.heap.size W W') : Held w b o x s y W' := h.low (hb.mono h.out.2.2.2.size)
theorem Held.drewN (h : Held w b o x s y W) (n : Nat) : Held w b o x s y (W.drewN n) := h.below (below_drewN (Below.refl _ _) n)
theorem Held.cells (h : Held w b o x s y W) : W.cell? ⟨b, o, none⟩ = some (.int .u32 (x : Int)) ∧ W.cell? ⟨b, o + 1, none⟩ = some (.string s) ∧ W.cell? ⟨b, o + 2, none⟩ = some (.int .i64 y) := ⟨h.out.1.c0, h.out.1.c1, h.out.1.c2⟩
/-- A call of Sum in a round: where it stands is told anew. -/
theorem Sum_held (N X : Nat) (t : ByteArray) (h : Held w b o x s y W) (hX : X < 4294967296) (ht : t.size ≤ 9223372036854775807) (hN : sumN X t.data.toList = N) :
    Calls Tryd.prog 5 #[.int .u32 (X : Int), .string t] W fun e w' => e = .returned (.int .u32 (N : Int)) ∧ w'.cell? ⟨b, o, none⟩ = some (.int .u32 (x : Int)) ∧ Held w b o x s y w' :=
  (Sum_is X t N W hX ht h.out.2.2.1 hN).mono fun _ _ ⟨he, hb⟩ => ⟨he, (h.below hb).cells.1, h.below hb⟩
end
theorem BytesAt.drew {W : World} {g : Nat} {l : List UInt8} (h : BytesAt W g l) : BytesAt W.drew g l := h
theorem BytesAt.below {W W' : World} {g : Nat} {l : List UInt8} (h : BytesAt W g l) (hb : Below W.heap.size W W') : BytesAt W' g l :=
  ⟨Nat.lt_of_lt_of_le h.1 hb.size, fun j hj => ⟨(hb.cell (p := ⟨g, j, none⟩) h.1).trans (h.2 j hj).1, (hb.frozen (p := ⟨g, j, none⟩) h.1).trans (h.2 j hj).2⟩⟩
theorem BytesAt.put {W : World} {g : Nat} {l : List UInt8} (h : BytesAt W g l) (a : Nat) (v : UInt8) : BytesAt (W.setCell ⟨g, a, none⟩ (.int .u8 ((v.toNat : Nat) : Int))) g (l.set a v) := by
  refine ⟨by simpa [World.setCell] using h.1, fun j hj => ?_⟩
  have hj' : j < l.length := by simpa using hj
  have h2 := h.2 j hj'
  refine ⟨?_, ?_⟩
  · by_cases hja : j = a
    · subst hja
      rw [World.cell?_setCell_same W _ _ h2.1, List.getD_eq_getElem?_getD, List.getElem?_set_self hj']
      rfl
    · rw [World.cell?_setCell_other W _ _ _ (by intro e; injection e with _ e _; exact hja e.symm), h2.1, List.getD_eq_getElem?_getD, List.getD_eq_getElem?_getD, List.getElem?_set_ne (Ne.symm hja)]
  · rw [World.frozen?_setCell]
    exact h2.2
/-- The same, with the row of the call's own that holds the bytes l. -/
@[irreducible] def Own (w : World) (b o x : Nat) (s : ByteArray) (y : Int) (g : Nat) (l : List UInt8) (W : World) : Prop := Held w b o x s y W ∧ w.heap.size ≤ g ∧ BytesAt W g l
section
variable {w W W' : World} {b o x g : Nat} {s : ByteArray} {y : Int} {l : List UInt8}
theorem Own.mk (h1 : Held w b o x s y W) (h2 : w.heap.size ≤ g) (h3 : BytesAt W g l) : Own w b o x s y g l W := by unfold Own; exact ⟨h1, h2, h3⟩
theorem Own.out (h : Own w b o x s y g l W) : Held w b o x s y W ∧ w.heap.size ≤ g ∧ BytesAt W g l := by unfold Own at h; exact h
theorem Own.below (h : Own w b o x s y g l W) (hb : Below W.heap.size W W') : Own w b o x s y g l W' := .mk (h.out.1.below hb) h.out.2.1 (h.out.2.2.below hb)
theorem Own.drewN (h : Own w b o x s y g l W) (n : Nat) : Own w b o x s y g l (W.drewN n) := h.below (below_drewN (Below.refl _ _) n)
theorem Own.put (h : Own w b o x s y g l W) (a : Nat) (v : UInt8) : Own w b o x s y g (l.set a v) (W.setCell ⟨g, a, none⟩ (.int .u8 ((v.toNat : Nat) : Int))) :=
  .mk (h.out.1.low ((Below.refl _ _).setCell h.out.2.1 _)) h.out.2.1 (h.out.2.2.put a v)
end
/-- The row as a string. -/
theorem Own.conv {w W : World} {b o x g n c : Nat} {s : ByteArray} {y : Int} {l : List UInt8} (h : Own w b o x s y g l W) (hn : l.length = n) :
    (convert 30 9 (.slice (some ⟨g, 0, none⟩) n c)).run Tryd.prog W = .ok (.string ⟨l.toArray⟩) W := by
  subst hn
  refine run_convert_bytes_back W 30 9 5 ⟨g, 0, none⟩ c l Tryd.underlying30 Tryd.underlying5 Tryd.underlying9 fun j hj => ?_
  rw [add_new, (h.out.2.2.2 j hj).1, List.getD_eq_getElem?_getD, List.getElem?_eq_getElem hj]
  rfl
/-- A call of Sum while the row stands. -/
theorem Sum_own {w W : World} {b o x g : Nat} {s : ByteArray} {y : Int} {l : List UInt8} (N X : Nat) (t : ByteArray) (h : Own w b o x s y g l W) (hX : X < 4294967296) (ht : t.size ≤ 9223372036854775807) (hN : sumN X t.data.toList = N) :
    Calls Tryd.prog 5 #[.int .u32 (X : Int), .string t] W fun e w' => e = .returned (.int .u32 (N : Int)) ∧ w'.cell? ⟨b, o, none⟩ = some (.int .u32 (x : Int)) ∧ Own w b o x s y g l w' :=
  (Sum_is X t N W hX ht h.out.1.out.2.2.1 hN).mono fun _ _ ⟨he, hb⟩ => ⟨he, (h.below hb).out.1.cells.1, h.below hb⟩
theorem size_mk (l : List UInt8) : (ByteArray.mk l.toArray).size = l.length := List.size_toArray
theorem turn_byte (v : UInt8) (t : Nat) (ht : t < 8) : ∃ v' : UInt8, v'.toNat = v.toNat ^^^ 2 ^ t ∧ bits .xor .u8 ((v.toNat : Nat) : Int) (2 ^ t % 256) = ((v'.toNat : Nat) : Int) := by
  have h2 : 2 ^ t < 256 := Nat.lt_of_le_of_lt (Nat.pow_le_pow_right (n := 2) (by omega) (show t ≤ 7 by omega)) (by decide)
  have e1 : (v ^^^ UInt8.ofNat (2 ^ t)).toNat = v.toNat ^^^ 2 ^ t := by
    rw [UInt8.toNat_xor, UInt8.toNat_ofNat_of_lt' (by exact h2)]
  refine ⟨v ^^^ UInt8.ofNat (2 ^ t), e1, ?_⟩
  have e2 : ((2 : Int) ^ t % 256) = ((2 ^ t : Nat) : Int) := by
    have h3 : ((2 ^ t : Nat) : Int) = (2 : Int) ^ t := Int.natCast_pow 2 t
    rw [← h3]
    exact Int.emod_eq_of_lt (Int.natCast_nonneg _) (by omega)
  rw [e2, u8_xor_nat v.toNat (2 ^ t) (by have := v.toNat_lt; omega) h2, e1]
theorem turn_any (u : UInt8) (y : Int) : ∃ u' : UInt8, bits .xor .u8 ((u.toNat : Nat) : Int) (y % 256) = ((u'.toNat : Nat) : Int) := by
  obtain ⟨m, hm⟩ := Int.eq_ofNat_of_zero_le (show 0 ≤ y % 256 by omega)
  have hm2 : m < 256 := by omega
  refine ⟨UInt8.ofNat (u.toNat ^^^ m), ?_⟩
  have hx : u.toNat ^^^ m < 2 ^ 8 := Nat.xor_lt_two_pow (by have := u.toNat_lt; omega) (by omega)
  rw [hm, UInt8.toNat_ofNat_of_lt' hx]
  exact u8_xor_nat u.toNat m (by have := u.toNat_lt; omega) hm2
theorem set_parts (l : List UInt8) (a : Nat) (v v' : UInt8) (h : a < l.length) (hv : l.getD a 0 = v) : l = l.take a ++ v :: l.drop (a + 1) ∧ l.set a v' = l.take a ++ v' :: l.drop (a + 1) := by
  have e : l[a] = v := by rw [← hv, List.getD_eq_getElem?_getD, List.getElem?_eq_getElem h]; rfl
  refine ⟨?_, List.set_eq_take_append_cons_drop.trans (by rw [if_pos h])⟩
  rw [← e]
  simp
theorem set_turned (x : Nat) (l : List UInt8) (a t : Nat) (v v' : UInt8) (h : a < l.length) (hv : l.getD a 0 = v) (ht : t < 8) (hv' : v'.toNat = v.toNat ^^^ 2 ^ t) : sumN x (l.set a v') ≠ sumN x l := by
  obtain ⟨e1, e2⟩ := set_parts l a v v' h hv
  rw [e2]
  have := sum_turned x (l.take a) (l.drop (a + 1)) v v' ht hv'
  rwa [← e1] at this
theorem set_turned2 (x : Nat) (l : List UInt8) (a t : Nat) (v v' u' : UInt8) (h : a + 1 < l.length) (hv : l.getD a 0 = v) (ht : t < 8) (hv' : v'.toNat = v.toNat ^^^ 2 ^ t) : sumN x ((l.set a v').set (a + 1) u') ≠ sumN x l := by
  obtain ⟨e1, e2⟩ := set_parts l a v v' (by omega) hv
  obtain ⟨r, q, hr⟩ : ∃ r q, l.drop (a + 1) = r :: q := by
    rw [List.drop_eq_getElem_cons h]
    exact ⟨_, _, rfl⟩
  rw [hr] at e1 e2
  have hl : (l.take a).length = a := by rw [List.length_take]; omega
  have e3 : (l.set a v').set (a + 1) u' = l.take a ++ v' :: u' :: q := by
    rw [e2, List.set_append_right _ _ (by omega), hl, show a + 1 - a = 1 by omega]
    rfl
  rw [e3]
  have := sum_turned2 x (l.take a) q v v' r u' ht hv'
  rwa [← e1] at this
theorem within_nat (n m : Int) (h : 0 < m) : ∃ k : Nat, within n m = (k : Int) ∧ (k : Int) < m := by
  obtain ⟨h0, h1⟩ := within_lt (n := n) h
  obtain ⟨k, hk⟩ := Int.eq_ofNat_of_zero_le h0
  exact ⟨k, hk, by omega⟩
theorem Within_is (n m : Int) (k : Nat) (w : World) (h : 0 < m) (h3 : m ≤ 9223372036854775807) (hk : within n m = (k : Int)) :
    Calls Tryd.prog 8 #[.int .i64 n, .int .i64 m] w fun e w' => e = .returned (.int .i64 (k : Int)) ∧ w = w' := by
  rw [← hk]
  exact Within_any n m w h h3
theorem parts_sum (x k : Nat) (s : ByteArray) : sumN (sumN x (s.extract 0 k).data.toList) (s.extract k s.size).data.toList = sumN x s.data.toList := by
  rw [sum_append]
  congr 1
  rw [Lib.extract_data, Lib.extract_data]
  have hl : s.data.toList.length = s.size := by rw [Array.length_toList]; rfl
  have hd : (s.data.toList.drop k).take (s.size - k) = s.data.toList.drop k := List.take_of_length_le (by rw [List.length_drop, hl]; omega)
  rw [List.drop_zero, Nat.sub_zero, hd, List.take_append_drop]

set_option maxRecDepth 100000 in
set_option maxHeartbeats 8000000 in
theorem SumParts_any (A : Option Addr) (n c : Nat) (w : World) (h : Asks w A n) (ht : Tab w) :
    Calls Tryd.prog 4 #[.slice A n c] w fun e w' => e = .returned (.bool true) ∧ Below w.heap.size w w' := by
  have H := Lib.hid h
  have T := Lib.hid ht
  clear h ht
  go_enter Tryd.func4, Tryd.ntmps4
  go_wp2_with fail
  go_loopw [3] (fun i wr => ∃ k : Nat, k ≤ n ∧ k ≤ 15 ∧ i = .int .i64 (k : Int) ∧ Below w.heap.size w wr) (fun i _ => 15 - (RowKit.intOf i).toNat)
  case atStart => exact ⟨0, Nat.zero_le _, by omega, rfl, Below.refl _ _⟩
  case round =>
    obtain ⟨k, hkn, hk15, rfl, hnx⟩ := hrel
    have TW := Lib.hid (T.out.below hnx)
    by_cases hgo : k < n ∧ k < 15
    · obtain ⟨h1, h2⟩ := hgo
      rcases H.out with h0 | ⟨b, off, rfl, hall⟩
      · omega
      · obtain ⟨x, s, y, ha⟩ := hall k h1
        have HA := Lib.hid (Held.mk (ha.below hnx) T.out TW.out hnx)
        have hs := ha.hs
        have HX := Lib.hid ha.hx
        clear hall ha hnx H T TW
        obtain ⟨q0, q1, q2⟩ := HA.out.cells
        have hkn' : (k : Int) < (n : Int) := by omega
        have hk15' : (k : Int) < 15 := by omega
        by_cases hbig : 3000 < s.size
        · go_wp2_with fail
          go_ret
          exact ⟨rfl, HA.out.out.2.2.2⟩
        · obtain ⟨N, hN⟩ : ∃ N, sumN x s.data.toList = N := ⟨_, rfl⟩
          obtain ⟨p, hp, hps⟩ := within_nat y ((s.size : Int) + 1) (by omega)
          obtain ⟨M, hM⟩ : ∃ M, sumN x (s.extract 0 p).data.toList = M := ⟨_, rfl⟩
          have hM32 : M < 4294967296 := by rw [← hM]; exact sum_lt _ _
          have hpz : p ≤ s.size := by omega
          have HW := Lib.hid (fun W => Within_is y ((s.size : Int) + 1) p W (by omega) (by omega) hp)
          have HS := Lib.hid (fun (W : World) (h : Held w b (off + k * 3) x s y W) => Sum_held N x s h HX.out hs hN)
          have HS1 := Lib.hid (fun (W : World) (h : Held w b (off + k * 3) x s y W) => Sum_held M x (s.extract 0 p) h HX.out (by simp; omega) hM)
          have HS2 := Lib.hid (fun (W : World) (h : Held w b (off + k * 3) x s y W) => Sum_held N M (s.extract p s.size) h hM32 (by simp; omega) (by rw [← hM, parts_sum]; exact hN))
          have HS3 := Lib.hid (fun (W : World) (h : Held w b (off + k * 3) x s y W) => Sum_held x x ⟨#[]⟩ h HX.out (by decide) (sum_nil HX.out))
          have HM := Lib.hid hM32
          have HN := Lib.hid hN
          clear hN hM hp hps hM32
          go_wp2_with fail
          refine (HW.out _).mono ?_
          rintro e w' ⟨rfl, rfl⟩
          go_wp2_with fail
          refine (HS.out _ HA.out).mono ?_
          rintro e w1 ⟨rfl, c0, st⟩
          have HA1 := Lib.hid st
          clear q0 q1 q2 HA HW
          go_wp2_with fail
          go_region_held3 (fun W => W.cell? ⟨b, off + k * 3, none⟩ = some (.int .u32 (x : Int)) ∧ Held w b (off + k * 3) x s y W)
            (first | exact ⟨c4, st4⟩ | exact ⟨c3, st3⟩ | exact ⟨c2, st2⟩ | exact ⟨c0, st.drewN 1⟩)
            (first | (go_at_call 5; (with_reducible refine (HS1.out _ ?_).mono ?_); (exact st.drewN 1); rintro e w2 ⟨rfl, c2, st2⟩) | (go_at_call 5; (with_reducible refine (HS2.out _ ?_).mono ?_); (exact st2); rintro e w3 ⟨rfl, c3, st3⟩) | (go_at_call 5; (with_reducible refine (HS3.out _ ?_).mono ?_); (exact st3); rintro e w4 ⟨rfl, c4, st4⟩))
          have HA4 := Lib.hid st4
          clear c0 c2 c3 c4 st st2 st3 st4 HA1 HS1 HS2 HS3
          by_cases hem : s = ByteArray.empty
          · have hz : s.size = 0 := by rw [hem]; rfl
            go_wp2_with fail
            go_roundw
            case rel => exact ⟨k + 1, h1, h2, by go_num, HA4.out.out.2.2.2⟩
            case measure => simp [RowKit.intOf]; omega
          · have hpos := size_pos hem
            obtain ⟨cx, w5, hcv, hby, hbel⟩ := bytes_conv s w4
            have HA5 := Lib.hid (HA4.out.below hbel)
            have HB5 := Lib.hid hby
            obtain ⟨q0, q1, q2⟩ := HA5.out.cells
            obtain ⟨a, ha, has⟩ := within_nat y (s.size : Int) (by omega)
            have has' : a < s.size := by omega
            have HWa := Lib.hid (fun W => Within_is y (s.size : Int) a W (by omega) (by omega) ha)
            have HG := Lib.hid HA4.out.out.2.2.2.size
            clear ha has hby hbel HA4
            go_wp2_with fail
            refine (HWa.out _).mono ?_
            rintro e w' ⟨rfl, rfl⟩
            clear hcv q0 q1
            obtain ⟨g, hg⟩ : ∃ g, w4.heap.size = g := ⟨_, rfl⟩
            rw [hg] at HB5 HG ⊢
            clear hg
            have hal : a < s.data.toList.length := by rw [Array.length_toList]; exact has'
            obtain ⟨f0, f1⟩ := HB5.out.2 a hal
            obtain ⟨v, hv⟩ : ∃ v, s.data.toList.getD a 0 = v := ⟨_, rfl⟩
            rw [hv] at f0
            obtain ⟨t, ht, htk⟩ := within_nat y 8 (by omega)
            have ht8 : t < 8 := by omega
            have HWt := Lib.hid (fun W => Within_is y 8 t W (by omega) (by omega) ht)
            obtain ⟨v', hv', hb8⟩ := turn_byte v t ht8
            obtain ⟨N1, hN1⟩ : ∃ N1, sumN x (s.data.toList.set a v') = N1 := ⟨_, rfl⟩
            have hne : ¬ (N1 : Int) = (N : Int) := by
              have := set_turned x s.data.toList a t v v' hal hv ht8 hv'
              rw [hN1, HN.out] at this
              omega
            have HNE := Lib.hid hne
            have HV := Lib.hid hv
            have HV' := Lib.hid hv'
            have HB8 := Lib.hid hb8
            have HS1 := Lib.hid (fun (W : World) (h : Own w b (off + k * 3) x s y g (s.data.toList.set a v') W) => Sum_own N1 x ⟨(s.data.toList.set a v').toArray⟩ h HX.out (by rw [size_mk, List.length_set, Array.length_toList]; exact hs) hN1)
            have HL : Hid ((s.data.toList.set a v').length = s.size) := by show _ = _; rw [List.length_set, Array.length_toList]; rfl
            clear hne hv' hb8 hN1
            clear hal hv ht htk HWa
            go_wp2_with fail
            go_still_tail 15, (by kernel_rfl)
            still_call ((HWt.out _).mono fun _ _ ⟨he, hw⟩ => ⟨he, hw.symm⟩)
            repeat still_step
            refine wpStill_nil ?_
            change wpList _ _ _ _ _ w5.drew
            have OW : Own w b (off + k * 3) x s y g s.data.toList w5.drew := .mk (HA5.out.drewN 1) HG.out HB5.out.drew
            have z0 : w5.drew.cell? ⟨g, a, none⟩ = some (.int .u8 ((v.toNat : Nat) : Int)) := f0
            have z1 : w5.drew.frozen? ⟨g, a, none⟩ = false := f1
            clear q2 f0 f1 HA5 HB5 HG HWt
            generalize w5.drew = w6 at OW z0 z1 ⊢
            have OW6 := Lib.hid OW
            clear OW
            go_wp2_with fail
            rw [HB8.out]
            have OW7 := OW6.out.put a v'
            generalize w6.setCell ⟨g, a, none⟩ (.int .u8 ((v'.toNat : Nat) : Int)) = w7 at OW7 ⊢
            clear z0 z1 OW6 HB8
            have d0 := OW7.out.1.cells.1
            go_region_held3 (fun W => W.cell? ⟨b, off + k * 3, none⟩ = some (.int .u32 (x : Int)) ∧ (convert 30 9 (.slice (some ⟨g, 0, none⟩) s.size cx)).run Tryd.prog W = .ok (.string ⟨(s.data.toList.set a v').toArray⟩) W ∧ Own w b (off + k * 3) x s y g (s.data.toList.set a v') W)
              (first | exact ⟨d2, st2.conv HL.out, st2⟩ | exact ⟨d0, (OW7.drewN 1).conv HL.out, OW7.drewN 1⟩)
              (first | (go_at_call 5; (with_reducible refine (HS1.out _ ?_).mono ?_); (exact OW7.drewN 1); rintro e w8 ⟨rfl, d2, st2⟩))
            have OW8 := Lib.hid st2
            have hneB : ((N1 : Int) == (N : Int)) = false := by simpa using HNE.out
            clear d0 d2 st2 OW7 HS1
            by_cases hnext : a + 1 < s.size
            · have hal : a < s.data.toList.length := by rw [Array.length_toList]; exact has'
              have hal2 : a + 1 < (s.data.toList.set a v').length := by rw [HL.out]; exact hnext
              obtain ⟨f0, f1⟩ := OW8.out.out.2.2.2 (a + 1) hal2
              obtain ⟨u, hu⟩ : ∃ u, (s.data.toList.set a v').getD (a + 1) 0 = u := ⟨_, rfl⟩
              rw [hu] at f0
              obtain ⟨q0, q1, q2⟩ := OW8.out.out.1.cells
              have HU := Lib.hid hu
              obtain ⟨u', hu'⟩ := turn_any u y
              have HB := Lib.hid hu'
              obtain ⟨N2, hN2⟩ : ∃ N2, sumN x ((s.data.toList.set a v').set (a + 1) u') = N2 := ⟨_, rfl⟩
              have hne : ¬ (N2 : Int) = (N : Int) := by
                have := set_turned2 x s.data.toList a t v v' u' (by rw [Array.length_toList]; exact hnext) HV.out ht8 HV'.out
                rw [hN2, HN.out] at this
                omega
              have HNE2 := Lib.hid hne
              have HS2 := Lib.hid (fun (W : World) (h : Own w b (off + k * 3) x s y g ((s.data.toList.set a v').set (a + 1) u') W) => Sum_own N2 x ⟨((s.data.toList.set a v').set (a + 1) u').toArray⟩ h HX.out (by rw [size_mk, List.length_set, List.length_set, Array.length_toList]; exact hs) hN2)
              have HL2 : Hid (((s.data.toList.set a v').set (a + 1) u').length = s.size) := by show _ = _; rw [List.length_set, List.length_set, Array.length_toList]; rfl
              clear hne hN2 hu'
              clear q0 q1 hal hal2 hu
              have j1 : IntKind.i64.wrap ((a : Int) + 1) = (a : Int) + 1 := IntWalk.i64_in _ (by omega)
              have j2 : (0 : Int) ≤ (a : Int) + 1 := by omega
              have j3 : ((a : Int) + 1).toNat = a + 1 := by omega
              have j4 : (a : Int) + 1 < (s.size : Int) := by omega
              go_wp2_with fail
              go_still_tail 16, (by kernel_rfl)
              change wpList _ _ _ _ _ w8.drew
              have OW : Own w b (off + k * 3) x s y g (s.data.toList.set a v') w8.drew := OW8.out.drewN 1
              have z0 : w8.drew.cell? ⟨g, a + 1, none⟩ = some (.int .u8 ((u.toNat : Nat) : Int)) := f0
              have z1 : w8.drew.frozen? ⟨g, a + 1, none⟩ = false := f1
              clear q2 f0 f1 OW8
              generalize w8.drew = w9 at OW z0 z1 ⊢
              have OW9 := Lib.hid OW
              clear OW
              go_wp2_with fail
              rw [HB.out]
              have OW9' := OW9.out.put (a + 1) u'
              generalize w9.setCell ⟨g, a + 1, none⟩ (.int .u8 ((u'.toNat : Nat) : Int)) = w10 at OW9' ⊢
              clear z0 z1 OW9 HB j1 j2 j3 j4 hneB
              have d0 := OW9'.out.1.cells.1
              go_region_held3 (fun W => W.cell? ⟨b, off + k * 3, none⟩ = some (.int .u32 (x : Int)) ∧ (convert 30 9 (.slice (some ⟨g, 0, none⟩) s.size cx)).run Tryd.prog W = .ok (.string ⟨((s.data.toList.set a v').set (a + 1) u').toArray⟩) W ∧ Own w b (off + k * 3) x s y g ((s.data.toList.set a v').set (a + 1) u') W)
                (first | exact ⟨d2, st2.conv HL2.out, st2⟩ | exact ⟨d0, (OW9'.drewN 1).conv HL2.out, OW9'.drewN 1⟩)
                (first | (go_at_call 5; (with_reducible refine (HS2.out _ ?_).mono ?_); (exact OW9'.drewN 1); rintro e w11 ⟨rfl, d2, st2⟩))
              have OW11 := Lib.hid st2
              have hneB : ((N2 : Int) == (N : Int)) = false := by simpa using HNE2.out
              clear d0 d2 st2 OW9' HS2
              go_wp2_with fail
              go_roundw
              case rel => exact ⟨k + 1, h1, h2, by go_num, OW11.out.out.1.out.2.2.2⟩
              case measure => simp [RowKit.intOf]; omega
            · go_wp2_with fail
              go_roundw
              case rel => exact ⟨k + 1, h1, h2, by go_num, OW8.out.out.1.out.2.2.2⟩
              case measure => simp [RowKit.intOf]; omega
    · go_wp2_with (go_at_call 7; refine (wakes_any _ TW.out).mono ?_; rintro e w1 ⟨rfl, hb1⟩)
      all_goals (go_ret; exact ⟨rfl, hnx.trans (hb1.mono hnx.size)⟩)
end Go.Proofs.YtbonmfhkcoacjaaDoor
