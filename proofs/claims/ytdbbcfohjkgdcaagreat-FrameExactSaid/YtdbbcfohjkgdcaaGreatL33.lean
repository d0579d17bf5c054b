/- The sixth layer's statements: is a script too much; a bound; a framer made; an error's number. -/
import Derived.Test.YtdbbcfohjkgdcaaGreatL00
import Derived.Test.YtdbbcfohjkgdcaaGreatL27
import Derived.Test.YtdbbcfohjkgdcaaGreatL31
import Derived.Test.YtdbbcfohjkgdcaaGreatL32
set_option maxRecDepth 100000
set_option maxHeartbeats 64000000
namespace Go.Proofs.YtdbbcfohjkgdcaaGreat
open Go.RowKit Go.Lib Prp Pkt Vbi
theorem rbody_any (c : Int) (t : ByteArray) (W : World) (h0 : 0 ≤ c) (h1 : c ≤ 255) (ht : t.size ≤ 268435456) :
  Calls Tryz.prog 84 #[.int .i64 (c / 16), .int .i64 (c % 16), .string t] W (GivesBody (bodyS c t) W) := by
 by_cases h8 : c = 130
 ·subst h8
  have e := rbody_8 2 t W (by decide) (by decide) ht
  rw [show (16 * 8 + 2 : Int) = 130 by decide] at e
  rw [show (130 : Int) / 16 = 8 by decide, show (130 : Int) % 16 = 2 by decide]
  exact e
 ·by_cases h10 : c = 162
  ·subst h10
   have e := rbody_10 2 t W (by decide) (by decide) ht
   rw [show (16 * 10 + 2 : Int) = 162 by decide] at e
   rw [show (162 : Int) / 16 = 10 by decide, show (162 : Int) % 16 = 2 by decide]
   exact e
  ·exact rbody_is c t W h0 h1 h8 h10 ht
theorem RTakeN_any (s : ByteArray) (w : World) (hs : s.size ≤ 268435456) : Calls Tryz.prog 47 #[.string s] w (GivesPkN (takeS s) w) :=
 RTakeN_of s w (fun t W ht h0 h1 => rbody_any (idOf s) t W h0 h1 ht) hs
theorem RLen_w (s : ByteArray) (N E : Int) (w : World) (hs : s.size ≤ 281474976710656) (h : lenS s = (N, E)) :
  Calls Tryz.prog 49 #[.string s] w fun r w' => r = .returned (.tuple #[.int .i64 N, .int .i64 E]) ∧ w = w' :=
 (RLength_is s N E w hs h).mono fun _ _ h => ⟨h.1, h.2.symm⟩
theorem no_wait {max : Int} {rest : ByteArray} (h : stepS max rest ≠ .wait) : decide ((sizeS max rest).2 = 7) = false := decide_eq_false fun e => h (size_wait.1 e)
theorem is_wait {max : Int} {rest : ByteArray} (h : stepS max rest = .wait) : decide ((sizeS max rest).2 = 7) = true := decide_eq_true (size_wait.2 h)
theorem RFramer_is (rest : ByteArray) (max : Int) (dead b : Bool) (w : World) (hs : rest.size ≤ 281474976710656) (hb : mayF rest max dead = b) :
  Calls Tryz.prog 17 #[.agg (frArr rest max dead)] w fun e w' => e = .returned (.bool b) ∧ Below w.heap.size w w' := by
 have hb0 := Box.new w 46 (frArr rest max dead)
 have ha := (Below.refl w.heap.size w).alloc (Nat.le_refl _) (.cells (frArr rest max dead) 46)
 obtain ⟨W1, hW⟩ : ∃ W1, w.alloc (.cells (frArr rest max dead) 46) = W1 := ⟨_, rfl⟩
 rw [hW] at hb0 ha
 have HA := Lib.hid ha
 obtain ⟨g, hg⟩ : ∃ g, w.heap.size = g := ⟨_, rfl⟩
 rw [hg] at hb0
 have HG := Lib.hid hg
 unfold frArr at hW ⊢
 have HW := Lib.hid hW
 have c0 : W1.cell? ⟨g, 0, none⟩ = some (.string rest) := hb0.cell 0
 have c1 : W1.cell? ⟨g, 1, none⟩ = some (.int .i64 max) := hb0.cell 1
 have c2 : W1.cell? ⟨g, 2, none⟩ = some (.bool dead) := hb0.cell 2
 clear hW hb0 ha hg
 by_cases m1 : max < 2
 ·obtain rfl : b = false := by rw [← hb]; exact mayF_no (by omega)
  have dm : decide (max < 2) = true := decide_eq_true m1
  clear hb m1 hs
  go_enter Tryz.func17, Tryz.ntmps17
  go_upto_region 1 with fail
  rw [HW.out, HG.out]
  generalize Value.agg _ = v0
  clear HW HG
  go_wp2_with fail
  go_ret
  exact ⟨rfl, HA.out⟩
 have dm : decide (max < 2) = false := decide_eq_false m1
 by_cases m2 : 8192 < max
 ·obtain rfl : b = false := by rw [← hb]; exact mayF_no (by omega)
  have dm2 : decide (8192 < max) = true := decide_eq_true m2
  clear hb m1 m2 hs
  go_enter Tryz.func17, Tryz.ntmps17
  go_upto_region 1 with fail
  rw [HW.out, HG.out]
  generalize Value.agg _ = v0
  clear HW HG
  go_wp2_with fail
  go_ret
  exact ⟨rfl, HA.out⟩
 have dm2 : decide (8192 < max) = false := decide_eq_false m2
 have hmm : decide (2 ≤ max ∧ max ≤ 8192) = true := decide_eq_true (by omega)
 unfold mayF at hb
 rw [hmm, Bool.true_and] at hb
 clear hmm m1 m2
 cases dead with
 | true =>
  rw [if_pos rfl] at hb
  by_cases hz : rest.size = 0
  ·rw [decide_eq_true hz] at hb
   subst hb
   obtain rfl : rest = ByteArray.empty := ByteArray.size_eq_zero_iff.1 hz
   clear hz hs
   go_enter Tryz.func17, Tryz.ntmps17
   go_upto_region 1 with fail
   rw [HW.out, HG.out]
   generalize Value.agg _ = v0
   clear HW HG
   go_wp2_with fail
   go_ret
   exact ⟨rfl, HA.out⟩
  ·rw [decide_eq_false hz] at hb
   subst hb
   obtain ⟨hne, hne2⟩ := size_facts hz
   clear hz hs
   go_enter Tryz.func17, Tryz.ntmps17
   go_upto_region 1 with fail
   rw [HW.out, HG.out]
   generalize Value.agg _ = v0
   clear HW HG
   go_wp2_with fail
   go_ret
   exact ⟨rfl, HA.out⟩
 | false =>
  rw [if_neg (by decide)] at hb
  by_cases hz : rest.size = 0
  ·rw [is_wait (step_nil hz)] at hb
   subst hb
   obtain rfl : rest = ByteArray.empty := ByteArray.size_eq_zero_iff.1 hz
   clear hz hs
   go_enter Tryz.func17, Tryz.ntmps17
   go_upto_region 1 with fail
   rw [HW.out, HG.out]
   generalize Value.agg _ = v0
   clear HW HG
   go_wp2_with fail
   go_ret
   exact ⟨rfl, HA.out⟩
  obtain ⟨hne, hne2⟩ := size_facts hz
  rcases stepOf max rest with ⟨h, e⟩ | ⟨_, h, e⟩ | ⟨n, h, _, hm, _, e⟩ | ⟨n, h, _, hm, _, hl, e⟩ | ⟨n, p, m, h, _, hm, hl, ht, e⟩ | ⟨n, p, m, E, h, _, hm, hl, ht, h0, h7, e⟩
  ·rw [is_wait e] at hb
   subst hb
   have HL := Lib.hid (fun W => RLen_w rest 0 7 W hs h)
   clear h e hz 
   go_enter Tryz.func17, Tryz.ntmps17
   go_upto_region 1 with fail
   rw [HW.out, HG.out]
   generalize Value.agg _ = v0
   clear HW HG
   go_wp2_with (go_at_call 49; refine (HL.out _).mono ?_; rintro r wt ⟨rfl, rfl⟩)
   go_ret
   exact ⟨rfl, HA.out⟩
  ·rw [no_wait (by rw [e]; intro q; cases q)] at hb
   subst hb
   have HL := Lib.hid (fun W => RLen_w rest 0 8 W hs h)
   clear h e hz 
   go_enter Tryz.func17, Tryz.ntmps17
   go_upto_region 1 with fail
   rw [HW.out, HG.out]
   generalize Value.agg _ = v0
   clear HW HG
   go_wp2_with (go_at_call 49; refine (HL.out _).mono ?_; rintro r wt ⟨rfl, rfl⟩)
   go_ret
   exact ⟨rfl, HA.out⟩
  ·have hmb : decide ((n : Int) ≤ max) = false := decide_eq_false (by omega)
   by_cases hl : rest.size < n
   ·rw [no_wait (by rw [e]; intro q; cases q)] at hb
    subst hb
    have HL := Lib.hid (fun W => RLen_w rest (n : Int) 0 W hs h)
    have hlb : (rest.size : Int) < (n : Int) := by omega
    have hlc : rest.size < n := by omega
    clear h e hz hl hm
    go_enter Tryz.func17, Tryz.ntmps17
    go_upto_region 1 with fail
    rw [HW.out, HG.out]
    generalize Value.agg _ = v0
    clear HW HG
    go_wp2_with (go_at_call 49; refine (HL.out _).mono ?_; rintro r wt ⟨rfl, rfl⟩)
    go_ret
    exact ⟨rfl, HA.out⟩
   ·rw [no_wait (by rw [e]; intro q; cases q)] at hb
    subst hb
    have HL := Lib.hid (fun W => RLen_w rest (n : Int) 0 W hs h)
    have hlb : decide ((rest.size : Int) < (n : Int)) = false := decide_eq_false (by omega)
    have hlc : decide (rest.size < n) = false := decide_eq_false (by omega)
    clear h e hz hl hm
    go_enter Tryz.func17, Tryz.ntmps17
    go_upto_region 1 with fail
    rw [HW.out, HG.out]
    generalize Value.agg _ = v0
    clear HW HG
    go_wp2_with (go_at_call 49; refine (HL.out _).mono ?_; rintro r wt ⟨rfl, rfl⟩)
    go_ret
    exact ⟨rfl, HA.out⟩
  ·rw [is_wait e] at hb
   subst hb
   have HL := Lib.hid (fun W => RLen_w rest (n : Int) 0 W hs h)
   have hlb : (rest.size : Int) < (n : Int) := by omega
   have hlc : rest.size < n := by omega
   have hmb : (n : Int) ≤ max := hm
   clear h e hz hl
   go_enter Tryz.func17, Tryz.ntmps17
   go_upto_region 1 with fail
   rw [HW.out, HG.out]
   generalize Value.agg _ = v0
   clear HW HG
   go_wp2_with (go_at_call 49; refine (HL.out _).mono ?_; rintro r wt ⟨rfl, rfl⟩)
   go_ret
   exact ⟨rfl, HA.out⟩
  ·rw [no_wait (by rw [e]; intro q; cases q)] at hb
   subst hb
   have HL := Lib.hid (fun W => RLen_w rest (n : Int) 0 W hs h)
   have hlb : decide ((rest.size : Int) < (n : Int)) = false := decide_eq_false (by omega)
   have hlc : decide (rest.size < n) = false := decide_eq_false (by omega)
   clear h e hz hm hl ht
   go_enter Tryz.func17, Tryz.ntmps17
   go_upto_region 1 with fail
   rw [HW.out, HG.out]
   generalize Value.agg _ = v0
   clear HW HG
   go_wp2_with (go_at_call 49; refine (HL.out _).mono ?_; rintro r wt ⟨rfl, rfl⟩)
   go_ret
   exact ⟨rfl, HA.out⟩
  ·rw [no_wait (by rw [e]; intro q; cases q)] at hb
   subst hb
   have HL := Lib.hid (fun W => RLen_w rest (n : Int) 0 W hs h)
   have hlb : decide ((rest.size : Int) < (n : Int)) = false := decide_eq_false (by omega)
   have hlc : decide (rest.size < n) = false := decide_eq_false (by omega)
   clear h e hz hm hl ht h0 h7
   go_enter Tryz.func17, Tryz.ntmps17
   go_upto_region 1 with fail
   rw [HW.out, HG.out]
   generalize Value.agg _ = v0
   clear HW HG
   go_wp2_with (go_at_call 49; refine (HL.out _).mono ?_; rintro r wt ⟨rfl, rfl⟩)
   go_ret
   exact ⟨rfl, HA.out⟩
@[irreducible] def RFeedIn (w : World) (g : Nat) (rest : ByteArray) (max : Int) (v : Value) (L : List Pk) (W : World) : Prop :=
 Box W g (frArr rest max false) ∧ Box W (g + 1) (frArr ⟨#[]⟩ 0 false) ∧ Box W (g + 2) (frArr ⟨#[]⟩ max true) ∧ OwnPks W (g + 3) v L ∧ Below w.heap.size w W ∧ w.heap.size = g ∧ g + 3 ≤ W.heap.size
section
variable {w W W' : World} {g : Nat} {rest : ByteArray} {max : Int} {v : Value} {L : List Pk}
theorem RFeedIn.mk (h : Box W g (frArr rest max false) ∧ Box W (g + 1) (frArr ⟨#[]⟩ 0 false) ∧ Box W (g + 2) (frArr ⟨#[]⟩ max true) ∧ OwnPks W (g + 3) v L ∧ Below w.heap.size w W ∧ w.heap.size = g ∧ g + 3 ≤ W.heap.size) : RFeedIn w g rest max v L W := by unfold RFeedIn; exact h
theorem RFeedIn.out (h : RFeedIn w g rest max v L W) : Box W g (frArr rest max false) ∧ Box W (g + 1) (frArr ⟨#[]⟩ 0 false) ∧ Box W (g + 2) (frArr ⟨#[]⟩ max true) ∧ OwnPks W (g + 3) v L ∧ Below w.heap.size w W ∧ w.heap.size = g ∧ g + 3 ≤ W.heap.size := by unfold RFeedIn at h; exact h
theorem RFeedIn.below (h : RFeedIn w g rest max v L W) (hb : Below W.heap.size W W') : RFeedIn w g rest max v L W' := by
 obtain ⟨h1, h2, h3, h4, h5, h6, h7⟩ := h.out
 exact .mk ⟨h1.below hb, h2.below hb, h3.below hb, h4.below hb, h5.trans (hb.mono h5.size), h6, Nat.le_trans h7 hb.size⟩
theorem RFeedIn.alloc (h : RFeedIn w g rest max v L W) (o : Obj) : RFeedIn w g rest max v L (W.alloc o) := h.below ((Below.refl _ _).alloc (Nat.le_refl _) o)
theorem RFeedIn.grown {v' : Value} {L' : List Pk} (h : RFeedIn w g rest max v L W) (hb : Below (g + 3) W W') (ho : OwnPks W' (g + 3) v' L') : RFeedIn w g rest max v' L' W' := by
 obtain ⟨h1, h2, h3, h4, h5, h6, h7⟩ := h.out
 refine .mk ⟨?_, ?_, ?_, ho, h5.trans (hb.mono (by omega)), h6, Nat.le_trans h7 hb.size⟩
 ·obtain ⟨T, hT⟩ := h1; exact ⟨T, (hb.block g (by omega)).trans hT⟩
 ·obtain ⟨T, hT⟩ := h2; exact ⟨T, (hb.block (g + 1) (by omega)).trans hT⟩
 ·obtain ⟨T, hT⟩ := h3; exact ⟨T, (hb.block (g + 2) (by omega)).trans hT⟩
theorem RFeedIn.fin {A : Option Addr} {c : Nat} {cs : Array Value} {l : List Pk} (h : RFeedIn w g rest max (.slice A l.length c) l W) (hw : Below w.heap.size W W') (ho : OwnPks W' (g + 3) (.slice A l.length c) l) : OwnPks (W'.setRow (g + 1) cs) w.heap.size (.slice A l.length c) l ∧ Below w.heap.size w (W'.setRow (g + 1) cs) := by
 obtain ⟨h1, h2, h3, h4, h5, h6, h7⟩ := h.out
 have hrow := Bar.row (g + 1) W' cs
 have hb := h5.trans hw
 exact ⟨(ho.bar hrow (by omega)).mono (by omega), hrow.below hb (by omega) hb.size⟩
theorem RFeedIn.keep {x : ByteArray} (h : RFeedIn w g rest max v L W) : RFeedIn w g x max v L (W.setCell ⟨g, 0, none⟩ (.string x)) := by
 obtain ⟨h1, h2, h3, h4, h5, h6, h7⟩ := h.out
 have hb := Bar.set g W 0 (.string x)
 exact .mk ⟨h1.put 0 _, hb.box h2 (by omega), hb.box h3 (by omega), h4.bar hb (by omega), hb.below h5 (by omega) h5.size, h6, by rw [show (W.setCell ⟨g, 0, none⟩ (.string x)).heap.size = W.heap.size from World.size_setCell _ _ _]; exact h7⟩
end
theorem RFeed_dead (rest : ByteArray) (max : Int) (s : ByteArray) (w : World) :
  Calls Tryz.prog 21 #[.agg (frArr rest max true), .string s] w (GivesFeed rest max true [] 0 w) := by
 have hb1 := Box.new w 46 (frArr rest max true)
 have ha1 := (Below.refl w.heap.size w).alloc (Nat.le_refl _) (.cells (frArr rest max true) 46)
 obtain ⟨W1, hW1⟩ : ∃ W1, w.alloc (.cells (frArr rest max true) 46) = W1 := ⟨_, rfl⟩
 have hs1 : W1.heap.size = w.heap.size + 1 := by rw [← hW1, World.size_alloc]
 rw [hW1] at hb1 ha1
 have hb2 := Box.new W1 46 (frArr ⟨#[]⟩ 0 false)
 have ha2 := (Below.refl W1.heap.size W1).alloc (Nat.le_refl _) (.cells (frArr ⟨#[]⟩ 0 false) 46)
 obtain ⟨W2, hW2⟩ : ∃ W2, W1.alloc (.cells (frArr ⟨#[]⟩ 0 false) 46) = W2 := ⟨_, rfl⟩
 have hs2 : W2.heap.size = w.heap.size + 2 := by rw [← hW2, World.size_alloc, hs1]
 rw [hW2] at hb2 ha2
 rw [hs1] at hb2
 obtain ⟨g, hg⟩ : ∃ g, w.heap.size = g := ⟨_, rfl⟩
 rw [hg] at hb1 hb2 hs2
 have hbx := hb1.below (ha2.mono (by omega))
 have hld := load_fr hbx
 have HG := Lib.hid hg
 have HB1 := Lib.hid hbx
 have HB2 := Lib.hid hb2
 have HBX := Lib.hid (ha1.trans (ha2.mono (by omega)))
 have c2 : W2.cell? ⟨g, 2, none⟩ = some (.bool true) := hbx.cell 2
 unfold frArr at hW1 hW2 ⊢
 have HW1 := Lib.hid hW1
 have HW2 := Lib.hid hW2
 clear hb1 ha1 hb2 ha2 hs1 hs2 hg hW1 hW2 hbx
 go_enter Tryz.func21, Tryz.ntmps21
 go_upto_region 1 with fail
 rw [HW1.out, HW2.out, HG.out]
 generalize Value.agg _ = v0
 clear HW1 HW2
 go_wp2_with (first | (refine wpList_load_any (by rfl) 46 (.tmp 2) rfl g 0 rfl _ hld ?_) | (refine wpList_store_whole rfl 46 (.tmp 4) (.tmp 15) rfl (g + 1) (frArr rest max true) rfl rfl (frArr ⟨#[]⟩ 0 false) HB2.out info_fr rfl (one_fr _ _ _) ?_; simp only [Act.put]))
 have hrow := Bar.row (g + 1) W2 (frArr rest max true)
 refine bodyPost_ret (results_fr3 Tryz.results21 rfl (HB2.out.row (frArr rest max true)) rfl rfl) rfl ⟨none, 0, rfl, OwnPks.nil _ _, hrow.below HBX.out (by have := HG.out; omega) HBX.out.size⟩
theorem RFeed_live (rest : ByteArray) (max : Int) (s : ByteArray) (L : List Pk) (x : ByteArray) (e : Int) (dd : Bool) (w : World) (hs : rest.size + s.size ≤ 268435456) (hR : feedS max (rest ++ s) = (L, x, e)) (hdd : dd = decide (e ≠ 0)) :
  Calls Tryz.prog 21 #[.agg (frArr rest max false), .string s] w (GivesFeed x max dd L e w) := by
 have hb1 := Box.new w 46 (frArr rest max false)
 have ha1 := (Below.refl w.heap.size w).alloc (Nat.le_refl _) (.cells (frArr rest max false) 46)
 obtain ⟨W1, hW1⟩ : ∃ W1, w.alloc (.cells (frArr rest max false) 46) = W1 := ⟨_, rfl⟩
 have hs1 : W1.heap.size = w.heap.size + 1 := by rw [← hW1, World.size_alloc]
 rw [hW1] at hb1 ha1
 have hb2 := Box.new W1 46 (frArr ⟨#[]⟩ 0 false)
 have ha2 := (Below.refl W1.heap.size W1).alloc (Nat.le_refl _) (.cells (frArr ⟨#[]⟩ 0 false) 46)
 obtain ⟨W2, hW2⟩ : ∃ W2, W1.alloc (.cells (frArr ⟨#[]⟩ 0 false) 46) = W2 := ⟨_, rfl⟩
 have hs2 : W2.heap.size = w.heap.size + 2 := by rw [← hW2, World.size_alloc, hs1]
 rw [hW2] at hb2 ha2
 rw [hs1] at hb2
 obtain ⟨g, hg⟩ : ∃ g, w.heap.size = g := ⟨_, rfl⟩
 rw [hg] at hb1 hb2 hs2
 have hbx := hb1.below (ha2.mono (by omega))
 have hld := load_fr hbx
 have HG := Lib.hid hg
 have hb3 := Box.new W2 46 #[.string ⟨#[]⟩, .int .i64 max, .bool true]
 have ha3 := (Below.refl W2.heap.size W2).alloc (Nat.le_refl _) (.cells #[.string ⟨#[]⟩, .int .i64 max, .bool true] 46)
 have hz3 : (W2.alloc (.cells #[.string ⟨#[]⟩, .int .i64 max, .bool true] 46)).heap.size = g + 3 := by rw [World.size_alloc, hs2]
 rw [hs2] at hb3
 have hBW := ha1.trans (ha2.mono (by omega))
 have HF3 := Lib.hid (RFeedIn.mk (w := w) (g := g) (rest := rest) (max := max) (v := .slice none 0 0) (L := []) ⟨hbx.below ha3, hb2.below ha3, hb3, OwnPks.nil _ _, hBW.trans (ha3.mono hBW.size), hg, by omega⟩)
 have HS2 := Lib.hid hs2
 have HDD := Lib.hid hdd
 clear hdd
 have HLN : Hid (L.length ≤ 134217728 ∧ (rest ++ s).size ≤ 268435456) := by
  have h1 := feed_len max (rest ++ s)
  rw [hR] at h1
  have h2 : (rest ++ s).size = rest.size + s.size := ByteArray.size_append
  have h1' : 2 * L.length + x.size ≤ (rest ++ s).size := h1
  exact ⟨by omega, by omega⟩
 have hadd : ¬ 9223372036854775807 < rest.size + s.size := by omega
 have c0 : W2.cell? ⟨g, 0, none⟩ = some (.string rest) := hbx.cell 0
 have c1 : W2.cell? ⟨g, 1, none⟩ = some (.int .i64 max) := hbx.cell 1
 have c2 : W2.cell? ⟨g, 2, none⟩ = some (.bool false) := hbx.cell 2
 unfold frArr at hW1 hW2 ⊢
 have HW1 := Lib.hid hW1
 have HW2 := Lib.hid hW2
 have HR := Lib.hid hR
 clear hb1 ha1 hb2 ha2 hs1 hs2 hg hW1 hW2 hs hbx hR hb3 ha3 hz3 hBW hld
 go_enter Tryz.func21, Tryz.ntmps21
 go_upto_region 1 with fail
 rw [HW1.out, HW2.out, HG.out]
 generalize Value.agg _ = v0
 clear HW1 HW2
 go_wp2_with fail
 rw [HS2.out]
 generalize World.alloc _ _ = w3 at HF3 ⊢
 clear c0 c1 c2 HS2
 go_loopw [1, 7] (fun r v wr => ∃ (l : List Pk) (y : ByteArray) (A : Option Addr) (c : Nat), v = .slice A l.length c ∧ r = .string y ∧ RFeedIn w g rest max (.slice A l.length c) l wr ∧ L = l ++ (feedS max y).1 ∧ (x, e) = (feedS max y).2 ∧ y.size ≤ 268435456) (fun r _ _ => stLen r)
 case atStart => exact ⟨[], rest ++ s, none, 0, rfl, rfl, HF3.out, by rw [HR.out]; rfl, by rw [HR.out], HLN.out.2⟩
 case round =>
  obtain ⟨l, y, A, c, rfl, rfl, hfi, hL, hxe, hy⟩ := hrel
  have HF := Lib.hid hfi
  have c1 : wr.cell? ⟨g, 1, none⟩ = some (.int .i64 max) := hfi.out.1.cell 1
  have HLL := Lib.hid hL
  have HXE := Lib.hid hxe
  have HY := Lib.hid hy
  clear HF3 HR hfi hL hxe
  rcases stepOf max y with ⟨h, hst⟩ | ⟨_, h, hst⟩ | ⟨n, h, _, hm, _, hst⟩ | ⟨n, h, _, hm, _, hl, hst⟩ | ⟨n, p, m, h, h2, hm, hl, ht, hst⟩ | ⟨n, p, m, E, h, h2, hm, hl, ht, h0, h7, hst⟩
  ·have HL := Lib.hid (fun W => RLen_w y 0 7 W (by omega) h)
   have HRES : Hid (dd = false ∧ x = y ∧ L = l ∧ e = 0) := by
    have h1 := HLL.out
    have h2 := HXE.out
    rw [feedS_wait hst] at h1 h2
    injection h2 with h2 h3
    exact ⟨by rw [HDD.out, h3]; rfl, h2, by rw [h1]; exact List.append_nil _, h3⟩
   clear h hst hy HLL HXE 
   have c0 : wr.cell? ⟨g, 0, none⟩ = some (.string rest) := HF.out.out.1.cell 0
   have f0 := HF.out.out.1.frozen 0
   have HF2 := Lib.hid (HF.out.keep (x := y))
   go_upto_region 9 with (go_at_call 49; refine (HL.out _).mono ?_; rintro r wt ⟨rfl, rfl⟩)
   clear c0 f0 c1 HF HL
   generalize World.setCell _ _ _ = w5 at HF2 ⊢
   have hld := load_fr HF2.out.out.1
   go_wp2_with (first | (refine wpList_load_any (by rfl) 46 (.tmp 2) rfl g 0 rfl _ hld ?_) | (refine wpList_store_whole rfl 46 (.tmp 4) (.tmp 32) rfl (g + 1) (frArr y max false) rfl rfl (frArr ⟨#[]⟩ 0 false) HF2.out.out.2.1 info_fr rfl (one_fr _ _ _) ?_; simp only [Act.put]))
   obtain ⟨h1, h2, h3, h4⟩ := HRES.out
   rw [h1, h2, h3, h4]
   refine bodyPost_ret (results_fr3 Tryz.results21 rfl (HF2.out.out.2.1.row (frArr y max false)) rfl rfl) rfl ⟨A, c, rfl, RFeedIn.fin HF2.out (Below.refl _ _) HF2.out.out.2.2.2.1⟩
  ·have HL := Lib.hid (fun W => RLen_w y 0 8 W (by omega) h)
   have HRES : Hid (dd = true ∧ x = ⟨#[]⟩ ∧ L = l ∧ e = 8) := by
    have h1 := HLL.out
    have h2 := HXE.out
    rw [feedS_dead hst] at h1 h2
    injection h2 with h2 h3
    exact ⟨by rw [HDD.out, h3]; exact decide_eq_true (by decide), h2, by rw [h1]; exact List.append_nil _, h3⟩
   clear h hst hy HLL HXE 
   have hld := load_fr HF.out.out.2.2.1
   go_wp2_with (first | (go_at_call 49; refine (HL.out _).mono ?_; rintro r wt ⟨rfl, rfl⟩) | (refine wpList_load_any (by rfl) 46 (.tmp 8) rfl (g + 2) 0 rfl _ hld ?_) | (refine wpList_store_whole rfl 46 (.tmp 4) (.tmp 36) rfl (g + 1) (frArr ⟨#[]⟩ max true) rfl rfl (frArr ⟨#[]⟩ 0 false) HF.out.out.2.1 info_fr rfl (one_fr _ _ _) ?_; simp only [Act.put]))
   obtain ⟨h1, h2, h3, h4⟩ := HRES.out
   rw [h1, h2, h3, h4]
   refine bodyPost_ret (results_fr3 Tryz.results21 rfl (HF.out.out.2.1.row (frArr ⟨#[]⟩ max true)) rfl rfl) rfl ⟨A, c, rfl, RFeedIn.fin HF.out (Below.refl _ _) HF.out.out.2.2.2.1⟩
  ·have HL := Lib.hid (fun W => RLen_w y (n : Int) 0 W (by omega) h)
   have HRES : Hid (dd = true ∧ x = ⟨#[]⟩ ∧ L = l ∧ e = 2) := by
    have h1 := HLL.out
    have h2 := HXE.out
    rw [feedS_dead hst] at h1 h2
    injection h2 with h2 h3
    exact ⟨by rw [HDD.out, h3]; exact decide_eq_true (by decide), h2, by rw [h1]; exact List.append_nil _, h3⟩
   have hmb : decide (max < (n : Int)) = true := decide_eq_true hm
   clear h hst hy HLL HXE hm
   have hld := load_fr HF.out.out.2.2.1
   go_wp2_with (first | (go_at_call 49; refine (HL.out _).mono ?_; rintro r wt ⟨rfl, rfl⟩) | (refine wpList_load_any (by rfl) 46 (.tmp 8) rfl (g + 2) 0 rfl _ hld ?_) | (refine wpList_store_whole rfl 46 (.tmp 4) (.tmp 43) rfl (g + 1) (frArr ⟨#[]⟩ max true) rfl rfl (frArr ⟨#[]⟩ 0 false) HF.out.out.2.1 info_fr rfl (one_fr _ _ _) ?_; simp only [Act.put]))
   obtain ⟨h1, h2, h3, h4⟩ := HRES.out
   rw [h1, h2, h3, h4]
   refine bodyPost_ret (results_fr3 Tryz.results21 rfl (HF.out.out.2.1.row (frArr ⟨#[]⟩ max true)) rfl rfl) rfl ⟨A, c, rfl, RFeedIn.fin HF.out (Below.refl _ _) HF.out.out.2.2.2.1⟩
  ·have HL := Lib.hid (fun W => RLen_w y (n : Int) 0 W (by omega) h)
   have HRES : Hid (dd = false ∧ x = y ∧ L = l ∧ e = 0) := by
    have h1 := HLL.out
    have h2 := HXE.out
    rw [feedS_wait hst] at h1 h2
    injection h2 with h2 h3
    exact ⟨by rw [HDD.out, h3]; rfl, h2, by rw [h1]; exact List.append_nil _, h3⟩
   have hmb : decide (max < (n : Int)) = false := decide_eq_false (by omega)
   have hlb : (y.size : Int) < (n : Int) := by omega
   have hlc : y.size < n := by omega
   clear h hst hy HLL HXE hm hl
   have c0 : wr.cell? ⟨g, 0, none⟩ = some (.string rest) := HF.out.out.1.cell 0
   have f0 := HF.out.out.1.frozen 0
   have HF2 := Lib.hid (HF.out.keep (x := y))
   go_upto_region 16 with (go_at_call 49; refine (HL.out _).mono ?_; rintro r wt ⟨rfl, rfl⟩)
   clear c0 f0 c1 HF HL
   generalize World.setCell _ _ _ = w5 at HF2 ⊢
   have hld := load_fr HF2.out.out.1
   go_wp2_with (first | (refine wpList_load_any (by rfl) 46 (.tmp 2) rfl g 0 rfl _ hld ?_) | (refine wpList_store_whole rfl 46 (.tmp 4) (.tmp 51) rfl (g + 1) (frArr y max false) rfl rfl (frArr ⟨#[]⟩ 0 false) HF2.out.out.2.1 info_fr rfl (one_fr _ _ _) ?_; simp only [Act.put]))
   obtain ⟨h1, h2, h3, h4⟩ := HRES.out
   rw [h1, h2, h3, h4]
   refine bodyPost_ret (results_fr3 Tryz.results21 rfl (HF2.out.out.2.1.row (frArr y max false)) rfl rfl) rfl ⟨A, c, rfl, RFeedIn.fin HF2.out (Below.refl _ _) HF2.out.out.2.2.2.1⟩
  ·have HL := Lib.hid (fun W => RLen_w y (n : Int) 0 W (by omega) h)
   have hmb : decide (max < (n : Int)) = false := decide_eq_false (by omega)
   have hlb : decide ((y.size : Int) < (n : Int)) = false := decide_eq_false (by omega)
   have hn0 : (0 : Int) ≤ (n : Int) := by omega
   have hn1 : (n : Int) ≤ (y.size : Int) := by omega
   have HT0 := fun W => RTakeN_any (y.extract 0 n) W (by rw [ByteArray.size_extract]; omega)
   rw [ht] at HT0
   have HT := Lib.hid HT0
   have HL2 : Hid (L = (l ++ [p]) ++ (feedS max (y.extract n y.size)).1) := by show _ = _; rw [HLL.out, feedS_one hst, List.append_assoc]; rfl
   have HX2 : Hid ((x, e) = (feedS max (y.extract n y.size)).2) := by show _ = _; rw [HXE.out, feedS_one hst]
   have HN := Lib.hid (show 2 ≤ n ∧ n ≤ y.size from ⟨h2, hl⟩)
   clear h hst hy HLL HXE hm hl ht h2 HT0
   go_wp2_with (go_at_call 49; refine (HL.out _).mono ?_; rintro r wt ⟨rfl, rfl⟩)
   refine (HT.out _).mono ?_
   rintro r w1 ⟨a, rfl, q1, q2, q3, q4⟩
   have HF1 := Lib.hid (HF.out.below q4)
   have hvl := HF.out.out.2.2.2.1.lt
   have hbz := HF.out.out.2.2.2.2.2.2
   have hmb := new_below w1 (pkArr (zp 0) za) (pkArr p a) 30
   have hmx := new_box w1 (pkArr (zp 0) za) (pkArr p a) 30
   have hbn := Box.new w1 30 (pkArr (zp 0) za)
   obtain ⟨W4, hW4⟩ : ∃ W, w1.alloc (.cells (pkArr (zp 0) za) 30) = W := ⟨_, rfl⟩
   rw [hW4] at hmb hmx hbn
   obtain ⟨k9, hk9⟩ : ∃ k, w1.heap.size = k := ⟨_, rfl⟩
   have HF2 := Lib.hid (HF1.out.below hmb)
   have HP2 := Lib.hid ((q1.below hmb).mono hmb.size)
   have hq4 := q4.size
   have HO := Lib.hid (show ∀ gg, (Value.slice A l.length c).ownBlock = some gg → POff gg p a from fun gg hh => POff.of_new q3 (hvl gg hh).2)
   have HNW := Lib.hid (q3.mono (B' := g + 3) hbz)
   have HCP := Lib.hid q2
   rw [hk9] at hmx hbn HF2 HP2
   have HMX := Lib.hid hmx
   have HBN := Lib.hid hbn
   simp only [pkArr, zp, za, zw, List.length_nil] at hW4
   have HW4 := Lib.hid hW4
   clear q1 q2 q3 q4 hmb hmx hbn hW4 hvl hbz hq4 HF HF1 HT HL c1
   go_upto_region 18 with (rw [HW4.out]; refine wpList_store_whole rfl 30 (.tmp 11) (.tmp 58) rfl k9 (pkArr p a) rfl rfl (pkArr (zp 0) za) HBN.out info_pk rfl (one_pk _ _) ?_; simp only [Act.put])
   clear hk9 HW4 HBN
   generalize World.setRow _ _ _ = w5 at HF2 HP2 HMX ⊢
   have hld := load_bx HMX.out
   have halc := (Below.refl w5.heap.size w5).alloc (Nat.le_refl _) (.cells (pkArr p a) 30)
   have HRW := Lib.hid (rows_one (w := w5.alloc (.cells (pkArr p a) 30)) (base := g + 3) (k := w5.heap.size) (v := .slice A l.length c) ((HP2.out.below halc).mono halc.size) HCP.out HNW.out HO.out (Box.new w5 30 (pkArr p a)))
   have HZ := Lib.hid halc.size
   clear halc HMX HP2 HCP HNW HO
   go_wp2_with (first | (refine wpList_load_any (by rfl) 30 (.tmp 11) rfl k9 0 rfl _ hld ?_) | (refine wpList_one_pk rfl (.tmp 67) rfl p a rfl ?_) | (at_builtin; refine wpList_append_pks rfl (.tmp 66) (.tmp 68) rfl (base := g + 3) (c := 1) (v := .slice A l.length c) (l := l) (m := [p]) (A := some ⟨w5.heap.size, 0, none⟩) (bs := [a]) rfl rfl ?c1 HRW.out.1 ?c3 ?c4 ?c5 ?_))
   case c1 => exact HF2.out.out.2.2.2.1.alloc _
   case c3 => exact .inr ⟨_, rfl, HRW.out.2⟩
   case c4 => exact Nat.le_trans HF2.out.out.2.2.2.2.2.2 HZ.out
   case c5 =>
    have h1 := congrArg List.length HL2.out
    have h2 := HLN.out.1
    simp only [List.length_append, List.length_cons, List.length_nil] at h1 ⊢
    omega
   intro v' w6 ho hbl hgr
   obtain ⟨A', c', rfl, _⟩ := ho.slice
   have HF6 := Lib.hid ((HF2.out.alloc _).grown hbl ho)
   clear ho hbl hgr hld HF2 HRW HZ
   go_wp2_with fail
   go_roundw
   case rel => exact ⟨l ++ [p], y.extract n y.size, A', c', rfl, rfl, HF6.out, HL2.out, HX2.out, by have := HY.out; rw [ByteArray.size_extract]; omega⟩
   case measure => show (y.extract n y.size).size < y.size; have := HN.out; rw [ByteArray.size_extract]; omega
  ·have HL := Lib.hid (fun W => RLen_w y (n : Int) 0 W (by omega) h)
   have hmb : decide (max < (n : Int)) = false := decide_eq_false (by omega)
   have hlb : decide ((y.size : Int) < (n : Int)) = false := decide_eq_false (by omega)
   have hn0 : (0 : Int) ≤ (n : Int) := by omega
   have hn1 : (n : Int) ≤ (y.size : Int) := by omega
   have HT0 := fun W => RTakeN_any (y.extract 0 n) W (by rw [ByteArray.size_extract]; omega)
   rw [ht] at HT0
   have HT := Lib.hid HT0
   have HRES : Hid (dd = true ∧ x = ⟨#[]⟩ ∧ L = l ∧ e = E) := by
    have h1 := HLL.out
    have h2 := HXE.out
    rw [feedS_dead hst] at h1 h2
    injection h2 with h2 h3
    exact ⟨by rw [HDD.out, h3]; exact decide_eq_true h0, h2, by rw [h1]; exact List.append_nil _, h3⟩
   have hEb : (E == 0) = false := ne_false h0
   clear h hst hy HLL HXE hm hl ht h2 HT0 h0 h7
   go_wp2_with (go_at_call 49; refine (HL.out _).mono ?_; rintro r wt ⟨rfl, rfl⟩)
   refine (HT.out _).mono ?_
   rintro r w1 ⟨a, rfl, q1, q2, q3, q4⟩
   have HF1 := Lib.hid (HF.out.below q4)
   have hvl := HF.out.out.2.2.2.1.lt
   have hbz := HF.out.out.2.2.2.2.2.2
   have hmb := new_below w1 (pkArr (zp 0) za) (pkArr p a) 30
   have hmx := new_box w1 (pkArr (zp 0) za) (pkArr p a) 30
   have hbn := Box.new w1 30 (pkArr (zp 0) za)
   obtain ⟨W4, hW4⟩ : ∃ W, w1.alloc (.cells (pkArr (zp 0) za) 30) = W := ⟨_, rfl⟩
   rw [hW4] at hmb hmx hbn
   obtain ⟨k9, hk9⟩ : ∃ k, w1.heap.size = k := ⟨_, rfl⟩
   have HF2 := Lib.hid (HF1.out.below hmb)
   have HP2 := Lib.hid ((q1.below hmb).mono hmb.size)
   have hq4 := q4.size
   have HO := Lib.hid (show ∀ gg, (Value.slice A l.length c).ownBlock = some gg → POff gg p a from fun gg hh => POff.of_new q3 (hvl gg hh).2)
   have HNW := Lib.hid (q3.mono (B' := g + 3) hbz)
   have HCP := Lib.hid q2
   rw [hk9] at hmx hbn HF2 HP2
   have HMX := Lib.hid hmx
   have HBN := Lib.hid hbn
   simp only [pkArr, zp, za, zw, List.length_nil] at hW4
   have HW4 := Lib.hid hW4
   clear q1 q2 q3 q4 hmb hmx hbn hW4 hvl hbz hq4 HF HF1 HT HL c1
   go_upto_region 18 with (rw [HW4.out]; refine wpList_store_whole rfl 30 (.tmp 11) (.tmp 58) rfl k9 (pkArr p a) rfl rfl (pkArr (zp 0) za) HBN.out info_pk rfl (one_pk _ _) ?_; simp only [Act.put])
   clear hk9 HW4 HBN
   generalize World.setRow _ _ _ = w5 at HF2 HP2 HMX ⊢
   clear HMX HP2 HCP HNW HO
   have hld := load_fr HF2.out.out.2.2.1
   go_wp2_with (first | (refine wpList_load_any (by rfl) 46 (.tmp 8) rfl (g + 2) 0 rfl _ hld ?_) | (refine wpList_store_whole rfl 46 (.tmp 4) (.tmp 63) rfl (g + 1) (frArr ⟨#[]⟩ max true) rfl rfl (frArr ⟨#[]⟩ 0 false) HF2.out.out.2.1 info_fr rfl (one_fr _ _ _) ?_; simp only [Act.put]))
   obtain ⟨h1, h2, h3, h4⟩ := HRES.out
   rw [h1, h2, h3, h4]
   refine bodyPost_ret (results_fr3 Tryz.results21 rfl (HF2.out.out.2.1.row (frArr ⟨#[]⟩ max true)) rfl rfl) rfl ⟨A, c, rfl, RFeedIn.fin HF2.out (Below.refl _ _) HF2.out.out.2.2.2.1⟩
open Go.ChangeShapes Go.WideShapes Go.ChangeAt Go.RowKit Prp
theorem fr_cells_bool : Tryz.prog.cellsOf 4 = 1 := by kernel_rfl
theorem fr_cells_strs : Tryz.prog.cellsOf 47 = 1 := by kernel_rfl
theorem fr_cells_framer : Tryz.prog.cellsOf 46 = 3 := by kernel_rfl
theorem fr_cells_script : Tryz.prog.cellsOf 49 = 4 := by kernel_rfl
def StrsAt (w : World) (B : Nat) (A : Option Addr) (l : List ByteArray) : Prop :=
 l = [] ∨ ∃ b o, A = some ⟨b, o, none⟩ ∧ b < B ∧ ∀ j (h : j < l.length), w.cell? ⟨b, o + j, none⟩ = some (.string l[j])
theorem StrsAt.below {w w' : World} {B : Nat} {A : Option Addr} {l : List ByteArray} (h : StrsAt w B A l) (hb : Below B w w') : StrsAt w' B A l := by
 rcases h with h | ⟨b, o, h1, h2, h3⟩
 ·exact .inl h
 ·exact .inr ⟨b, o, h1, h2, fun j hj => (hb.cell (p := ⟨b, o + j, none⟩) h2).trans (h3 j hj)⟩
theorem StrsAt.mono {w : World} {B B' : Nat} {A : Option Addr} {l : List ByteArray} (h : StrsAt w B A l) (hB : B ≤ B') : StrsAt w B' A l := by
 rcases h with h | ⟨b, o, h1, h2, h3⟩
 ·exact .inl h
 ·exact .inr ⟨b, o, h1, Nat.lt_of_lt_of_le h2 hB, h3⟩
theorem StrsAt.some_ {w : World} {B : Nat} {A : Option Addr} {l : List ByteArray} (h : StrsAt w B A l) (hl : 0 < l.length) : ∃ b o, A = some ⟨b, o, none⟩ ∧ b < B ∧ ∀ j (h : j < l.length), w.cell? ⟨b, o + j, none⟩ = some (.string l[j]) := by
 rcases h with rfl | h
 ·simp at hl
 ·exact h
structure ScFit (rest : ByteArray) (max : Int) (l : List ByteArray) (c : Nat) : Prop where
 rest : rest.size ≤ 140737488351232
 max : -9223372036854775808 ≤ max ∧ max ≤ 9223372036854775807
 strs : ∀ x ∈ l, x.size ≤ 140737488351232
 cap : l.length ≤ c
 len : l.length ≤ 8796093022208
section
variable {H : Type} {enc : TypeId × Value → H} {W : World} {base : Nat} {spare : Nat → Bool} {held : Bool}
theorem one_str {fuel : Nat} {a : Addr} {cs : List Value} {y : DataW H × List MemPlace} (hc : W.cells? base a 1 = some cs) (hw : Near 9 y.1) (h : DataW.trod enc Tryz.prog W base spare held fuel 9 cs = some y) :
  ∃ s : ByteArray, W.cell? ⟨a.block, a.off, none⟩ = some (.string s) ∧ s.size ≤ 140737488351232 ∧ a.spot = none := by
 obtain ⟨_, hlen, hcell⟩ := World.cells?_some hc
 match cs, hlen with
 | [v0], _ =>
  have g0 := hcell 0 (by omega)
  change W.cell? (a.add 0) = some v0 at g0
  obtain ⟨s, e0, x0, _⟩ := DataW.trod_string Tryz.underlying9 h
  rw [x0] at hw
  have ws := near_string hw
  have hsp : a.spot = none := by
   have := World.cell?_spot g0
   simpa [Addr.add] using this
  obtain ⟨b, off, spot⟩ := a
  obtain rfl : spot = none := hsp
  rw [add_off] at g0
  simp at e0
  subst e0
  exact ⟨s, g0, ws, rfl⟩
theorem fr_bytes_string : Tryz.prog.bytesOf 9 = 16 := by kernel_rfl
theorem near_len {t e : TypeId} {elems rest : List (DataW H)} (hu : Tryz.prog.underlying t = some (.slice e)) (h : Near t (.slice elems rest)) : (elems.length + rest.length) * Tryz.prog.bytesOf e ≤ reachBytes := by
 refine h _ ?_
 rw [DataW.weights, hu]
 exact List.mem_cons_self
theorem strs_of_trod {fuel : Nat} {v : Value} {y : DataW H × List MemPlace} (hw : Near 47 y.1) (h : DataW.trod enc Tryz.prog W base spare held fuel 47 [v] = some y) :
  ∃ A l c, v = .slice A (List.length l) c ∧ StrsAt W W.heap.size A l ∧ (∀ x ∈ l, x.size ≤ 140737488351232) ∧ l.length ≤ c ∧ l.length ≤ 8796093022208 := by
 rcases Go.Deep.open_slice Tryz.underlying47 h with ⟨hcs, _⟩ | ⟨a, len, cap, m, k, D, Pl, hcs, _, hl, hcm, hm, hx, hi⟩
 ·simp at hcs
  subst hcs
  exact ⟨none, [], 0, rfl, .inl rfl, by simp, by simp, by simp⟩
 ·simp at hcs
  subst hcs
  have hml : len ≤ m := by rw [hm]; split <;> omega
  rw [cells_string] at hi
  have key : ∀ i, i < len → ∃ s : ByteArray, W.cell? ⟨(a.add (i * 1)).block, (a.add (i * 1)).off, none⟩ = some (.string s) ∧ s.size ≤ 140737488351232 ∧ (a.add (i * 1)).spot = none := fun i hin => by
   obtain ⟨cs, hc, ht⟩ := hi i (by omega)
   refine one_str hc ?_ ht
   rw [hx] at hw
   exact near_elem Tryz.underlying47 hw (List.mem_map.2 ⟨i, List.mem_range.2 hin, rfl⟩)
  have hlw : len ≤ 8796093022208 := by
   have hw2 := hw
   rw [hx] at hw2
   have := near_len Tryz.underlying47 hw2
   rw [fr_bytes_string, List.length_map, List.length_range] at this
   unfold reachBytes at this
   omega
  by_cases h0 : len = 0
  ·subst h0
   exact ⟨some a, [], cap, rfl, .inl rfl, by simp, by simp, by simp⟩
  ·have hsp : a.spot = none := by
    obtain ⟨_, _, _, h⟩ := key 0 (by omega)
    simpa [Addr.add] using h
   obtain ⟨b, off, spot⟩ := a
   obtain rfl : spot = none := hsp
   have key2 : ∀ i, ∃ s : ByteArray, i < len → W.cell? ⟨b, off + i, none⟩ = some (.string s) ∧ s.size ≤ 140737488351232 := fun i => by
    by_cases hin : i < len
    ·obtain ⟨s, hp, hfp, _⟩ := key i hin
     rw [add_off, Nat.mul_one] at hp
     exact ⟨s, fun _ => ⟨hp, hfp⟩⟩
    ·exact ⟨⟨#[]⟩, fun h => absurd h hin⟩
   obtain ⟨f, hf⟩ := Classical.axiomOfChoice key2
   refine ⟨some ⟨b, off, none⟩, (List.range len).map f, cap, by simp, .inr ⟨b, off, rfl, ?_, fun j hj => ?_⟩, fun p hp => ?_, by simpa using hl, by simpa using hlw⟩
   ·exact cell_lt (hf 0 (by omega)).1
   ·have hj' : j < len := by simpa using hj
    rw [List.getElem_map, List.getElem_range]
    exact (hf j hj').1
   ·rw [List.mem_map] at hp
    obtain ⟨j, hj, rfl⟩ := hp
    exact (hf j (by simpa using hj)).2
theorem script_of_trod {b0 : Nat} {v : Value} {d : DataW H} {p : List MemPlace} (hv : Value.okWide Tryz.prog W .any b0 49 v) (hw : Near 49 d) (h : DataW.Trod enc Tryz.prog W base (fun _ => true) held 49 v d p) :
  ∃ rest max dead A l c, v = .agg #[.string rest, .int .i64 max, .bool dead, .slice A (List.length l) c] ∧ StrsAt W W.heap.size A l ∧ ScFit rest max l c := by
 obtain ⟨fuel, hf⟩ := h
 obtain ⟨⟨cs⟩, rfl, hsz⟩ := okWide_struct Tryz.underlying49 hv
 rw [fr_cells_script] at hsz
 match cs, hsz with
 | [v0, v1, v2, v3], _ =>
  change DataW.trod enc Tryz.prog W base (fun _ => true) held fuel 49 [v0, v1, v2, v3] = _ at hf
  obtain ⟨ys, n, _, hy, _, hyl, hff⟩ := DataW.trod_struct Tryz.underlying49 hf
  injection hy with hy _
  subst hy
  have hyl' : ys.length = 2 := by simpa using hyl
  have f0 := hff 0 _ rfl
  have f1 := hff 1 _ rfl
  rw [List.getElem?_eq_getElem (by omega)] at f0 f1
  have w0 := near_field Tryz.underlying49 hw (j := 0) rfl rfl (List.getElem?_eq_getElem (by omega))
  have w1 := near_field Tryz.underlying49 hw (j := 1) rfl rfl (List.getElem?_eq_getElem (by omega))
  change DataW.trod enc Tryz.prog W base (fun _ => true) held n 46 (List.take (Tryz.prog.cellsOf 46) [v0, v1, v2, v3]) = _ at f0
  change DataW.trod enc Tryz.prog W base (fun _ => true) held n 47 (List.take (Tryz.prog.cellsOf 47) [v3]) = _ at f1
  rw [fr_cells_framer] at f0
  rw [fr_cells_strs] at f1
  have f0 : DataW.trod enc Tryz.prog W base (fun _ => true) held n 46 [v0, v1, v2] = _ := f0
  have f1 : DataW.trod enc Tryz.prog W base (fun _ => true) held n 47 [v3] = _ := f1
  obtain ⟨A, l, c, e3, hl, hs, hc, hn⟩ := strs_of_trod w1 f1
  obtain ⟨zs, k, _, hz, _, hzl, hgf⟩ := DataW.trod_struct Tryz.underlying46 f0
  rw [hz] at w0
  have hzl' : zs.length = 3 := by simpa using hzl
  have g0 := hgf 0 _ rfl
  have g1 := hgf 1 _ rfl
  have g2 := hgf 2 _ rfl
  rw [List.getElem?_eq_getElem (by omega)] at g0 g1 g2
  change DataW.trod enc Tryz.prog W base (fun _ => true) held k 9 (List.take (Tryz.prog.cellsOf 9) [v0, v1, v2]) = _ at g0
  change DataW.trod enc Tryz.prog W base (fun _ => true) held k 3 (List.take (Tryz.prog.cellsOf 3) [v1, v2]) = _ at g1
  change DataW.trod enc Tryz.prog W base (fun _ => true) held k 4 (List.take (Tryz.prog.cellsOf 4) [v2]) = _ at g2
  rw [cells_string] at g0
  rw [cells_int] at g1
  rw [fr_cells_bool] at g2
  have x0 := near_field Tryz.underlying46 w0 (j := 0) rfl rfl (List.getElem?_eq_getElem (by omega))
  obtain ⟨s, e0, y0, _⟩ := DataW.trod_string Tryz.underlying9 g0
  rw [y0] at x0
  have hrs := near_string x0
  obtain ⟨m, e1, _, wm⟩ := DataW.trod_int Tryz.underlying3 g1
  obtain ⟨b, e2, _⟩ := DataW.trod_bool Tryz.underlying4 g2
  simp at e0 e1 e2
  subst e0 e1 e2 e3
  exact ⟨s, m, b, A, l, c, rfl, hl, hrs, int_range wm, hs, hc, hn⟩
end
open Go.RowKit Go.Lib Prp Pkt Vbi
def wtGo : Nat → List ByteArray → Nat
 | n, [] => n
 | n, x :: t => if n < 1048576 then wtGo (n + x.size) t else n
theorem wt_ge : ∀ (l : List ByteArray) (n : Nat), n ≤ wtGo n l
 | [], n => Nat.le_refl _
 | x :: t, n => by
  unfold wtGo
  split
  ·exact Nat.le_trans (Nat.le_add_right _ _) (wt_ge t _)
  ·exact Nat.le_refl _
theorem wt_mem : ∀ (l : List ByteArray) (n : Nat), wtGo n l ≤ 20000 → ∀ x ∈ l, x.size ≤ 20000
 | [], n, _, x, h => by cases h
 | y :: t, n, hw, x, h => by
  unfold wtGo at hw
  split at hw
  ·rcases List.mem_cons.1 h with rfl | h
   ·have := wt_ge t (n + x.size); omega
   ·exact wt_mem t _ hw x h
  ·omega
theorem wt_le : ∀ (l : List ByteArray) (n : Nat), n ≤ 140737489400000 → (∀ x ∈ l, x.size ≤ 140737488351232) → wtGo n l ≤ 140737489400000
 | [], n, h, _ => h
 | y :: t, n, h, hs => by
  unfold wtGo
  split
  ·have := hs y (List.mem_cons_self)
   exact wt_le t _ (by omega) (fun x hx => hs x (List.mem_cons_of_mem _ hx))
  ·exact h
theorem TextWeight_is (l : List ByteArray) (A : Option Addr) (c N : Nat) (w : World) (h : StrsAt w w.heap.size A l) (hs : ∀ x ∈ l, x.size ≤ 140737488351232) (hn : l.length ≤ 8796093022208) (hN : wtGo l.length l = N) :
  Calls Tryz.prog 48 #[.slice A l.length c] w fun e w' => e = .returned (.int .i64 (N : Int)) ∧ w = w' := by
 have H := Lib.hid h
 have HS := Lib.hid hs
 have HN := Lib.hid hN
 clear h hs hN
 go_enter Tryz.func48, Tryz.ntmps48
 go_wp2_with fail
 go_loopw [3, 4] (fun m i wr => ∃ k n : Nat, k ≤ l.length ∧ i = .int .i64 (k : Int) ∧ m = .int .i64 (n : Int) ∧ wtGo n (l.drop k) = N ∧ n ≤ 281474976710656 ∧ wr = w) (fun _ i _ => l.length - (RowKit.intOf i).toNat)
 case atStart => exact ⟨0, l.length, Nat.zero_le _, rfl, rfl, HN.out, by omega, rfl⟩
 case round =>
  obtain ⟨k, n, hk, rfl, rfl, hnn, hnb, rfl⟩ := hrel
  have HNN := Lib.hid hnn
  clear hnn
  by_cases hlt : k < l.length
  ·have hdr : l.drop k = l[k] :: l.drop (k + 1) := by rw [List.drop_eq_getElem_cons hlt]
   by_cases hsm : n < 1048576
   ·obtain ⟨b, o, rfl, hbb, hcell⟩ := H.out.some_ (by omega)
    have hc := hcell k hlt
    have hx := HS.out l[k] (List.getElem_mem hlt)
    obtain ⟨x, hxx⟩ : ∃ x, l[k] = x := ⟨_, rfl⟩
    rw [hxx] at hc hx hdr
    have HST : Hid (wtGo (n + x.size) (l.drop (k + 1)) = N) := by
     have := HNN.out
     rw [hdr] at this
     unfold wtGo at this
     rw [if_pos hsm] at this
     exact this
    have hkI : (k : Int) < (l.length : Int) := by omega
    have hsI : (n : Int) < 1048576 := by omega
    have hwr : IntKind.i64.wrap ((n : Int) + (x.size : Int)) = (n : Int) + (x.size : Int) := IntWalk.i64_in _ (by omega)
    clear hcell hdr hxx
    go_wp2_with fail
    go_roundw
    case rel => exact ⟨k + 1, n + x.size, by omega, by go_num, by simp, HST.out, by omega, (by first | rfl | trivial)⟩
    case measure => simp [RowKit.intOf]; omega
   ·have hkI : (k : Int) < (l.length : Int) := by omega
    have hd : decide ((n : Int) < 1048576) = false := decide_eq_false (by omega)
    have HE : Hid (n = N) := by
     have := HNN.out
     rw [hdr] at this
     unfold wtGo at this
     rw [if_neg hsm] at this
     exact this
    clear hdr
    go_wp2_with fail
    go_ret
    exact ⟨by rw [HE.out]; rfl, (by first | rfl | trivial)⟩
  ·obtain rfl : k = l.length := by omega
   have HE : Hid (n = N) := by
    have := HNN.out
    rw [List.drop_length] at this
    exact this
   go_wp2_with fail
   go_ret
   exact ⟨by rw [HE.out]; rfl, (by first | rfl | trivial)⟩
def scArr (rest : ByteArray) (max : Int) (dead : Bool) (A : Option Addr) (l : List ByteArray) (c : Nat) : Array Value := #[.string rest, .int .i64 max, .bool dead, .slice A l.length c]
theorem Heavy6_is (rest : ByteArray) (max : Int) (dead : Bool) (A : Option Addr) (l : List ByteArray) (c : Nat) (w : World) (h : StrsAt w w.heap.size A l) (hf : ScFit rest max l c) :
  Calls Tryz.prog 16 #[.agg (scArr rest max dead A l c)] w fun e w' => ∃ b : Bool, e = .returned (.bool b) ∧ (b = false → rest.size ≤ 20000 ∧ ∀ x ∈ l, x.size ≤ 20000) ∧ Below w.heap.size w w' := by
 have hb0 := Box.new w 49 (scArr rest max dead A l c)
 have ha := (Below.refl w.heap.size w).alloc (Nat.le_refl _) (.cells (scArr rest max dead A l c) 49)
 obtain ⟨W1, hW⟩ : ∃ W1, w.alloc (.cells (scArr rest max dead A l c) 49) = W1 := ⟨_, rfl⟩
 rw [hW] at hb0 ha
 obtain ⟨N, hN⟩ : ∃ N, wtGo l.length l = N := ⟨_, rfl⟩
 have hN1 : N ≤ 140737489400000 := by rw [← hN]; exact wt_le l _ (by have := hf.len; omega) hf.strs
 have HT := Lib.hid (fun (W : World) (hh : StrsAt W W.heap.size A l) => TextWeight_is l A c N W hh hf.strs hf.len hN)
 have HM : Hid (N ≤ 20000 → ∀ x ∈ l, x.size ≤ 20000) := Lib.hid (fun hh => wt_mem l l.length (by rw [hN]; exact hh))
 have HSA := Lib.hid ((h.below ha).mono ha.size)
 have HA := Lib.hid ha
 obtain ⟨g, hg⟩ : ∃ g, w.heap.size = g := ⟨_, rfl⟩
 rw [hg] at hb0
 have HG := Lib.hid hg
 have HB0 := Lib.hid hb0
 have hrs := hf.rest
 unfold scArr at hW ⊢
 have HW := Lib.hid hW
 have c0 : W1.cell? ⟨g, 0, none⟩ = some (.string rest) := hb0.cell 0
 have c3 : W1.cell? ⟨g, 3, none⟩ = some (.slice A l.length c) := hb0.cell 3
 clear hW hb0 ha hg h hf hN
 go_enter Tryz.func16, Tryz.ntmps16
 go_upto_region 1 with fail
 rw [HW.out, HG.out]
 generalize Value.agg _ = v0
 have hwr : IntKind.i64.wrap ((rest.size : Int) + (N : Int)) = (rest.size : Int) + (N : Int) := IntWalk.i64_in _ (by omega)
 have hS0 : Box (World.drew W1) g (scArr rest max dead A l c) ∧ StrsAt (World.drew W1) (World.drew W1).heap.size A l ∧ Below w.heap.size w (World.drew W1) := by
  have hb := below_drewN (Below.refl W1.heap.size W1) 1
  exact ⟨HB0.out.below hb, (HSA.out.below hb).mono hb.size, HA.out.trans (hb.mono HA.out.size)⟩
 clear c0 c3 HSA HA HB0
 refine wp_region_held_drew (S := fun W => Box W g (scArr rest max dead A l c) ∧ StrsAt W W.heap.size A l ∧ Below w.heap.size w W) (by kernel_rfl) hS0 (fun hS => ?_)
 clear hS0
 generalize World.drew W1 = Wd at hS ⊢
 refine take_op 0 3 ?v0 rfl rfl (by kernel_rfl) (fun _ _ _ h => h) (by rfl) hS (fun w' hS' => ?hv0) ?hh0
 case hv0 => (go_simp; try with_reducible rfl)
 simp only [Act.put, List.setIfInBounds_toArray, List.set_cons_zero, List.set_cons_succ]
 refine take_op 1 4 ?v1 rfl rfl (by kernel_rfl) (fun _ _ _ h => h) (by rfl) hS (fun w' hS' => ?hv1) ?hh1
 case hv1 => (go_simp; try with_reducible rfl)
 simp only [Act.put, List.setIfInBounds_toArray, List.set_cons_zero, List.set_cons_succ]
 refine take_op 2 5 ?v2 rfl rfl (by kernel_rfl) (fun _ _ _ h => h) (by rfl) hS (fun w' hS' => ?hv2) ?hh2
 case hv2 => (have k : w'.cell? ⟨g, 0, none⟩ = some (.string rest) := hS'.1.cell 0; go_simp; try with_reducible rfl)
 simp only [Act.put, List.setIfInBounds_toArray, List.set_cons_zero, List.set_cons_succ]
 refine take_op 3 6 ?v3 rfl rfl (by kernel_rfl) (fun _ _ _ h => h) (by rfl) hS (fun w' hS' => ?hv3) ?hh3
 case hv3 => (go_simp; try with_reducible rfl)
 simp only [Act.put, List.setIfInBounds_toArray, List.set_cons_zero, List.set_cons_succ]
 refine take_op 4 7 ?v4 rfl rfl (by kernel_rfl) (fun _ _ _ h => h) (by rfl) hS (fun w' hS' => ?hv4) ?hh4
 case hv4 => (go_simp; try with_reducible rfl)
 simp only [Act.put, List.setIfInBounds_toArray, List.set_cons_zero, List.set_cons_succ]
 refine take_op 5 8 ?v5 rfl rfl (by kernel_rfl) (fun _ _ _ h => h) (by rfl) hS (fun w' hS' => ?hv5) ?hh5
 case hv5 => (have k : w'.cell? ⟨g, 3, none⟩ = some (.slice A l.length c) := hS'.1.cell 3; go_simp; try with_reducible rfl)
 simp only [Act.put, List.setIfInBounds_toArray, List.set_cons_zero, List.set_cons_succ]
 refine only_op 6 rfl (by kernel_rfl) (by rfl) (wp_call_ex 9 48 #[.slice A l.length c] _ rfl (by go_simp) (HT.out Wd hS.2.1) ?_)
 rintro r w3 ⟨rfl, rfl⟩
 refine ⟨_, rfl, hS, ?_⟩
 simp only [Act.put, List.setIfInBounds_toArray, List.set_cons_zero, List.set_cons_succ]
 refine take_op 7 10 ?v7 rfl rfl (by kernel_rfl) (fun _ _ _ h => h) (by rfl) hS (fun w' hS' => ?hv7) ?hh7
 case hv7 => (go_simp; try with_reducible rfl)
 simp only [Act.put, List.setIfInBounds_toArray, List.set_cons_zero, List.set_cons_succ]
 refine take_op 8 11 ?v8 rfl rfl (by kernel_rfl) (fun _ _ _ h => h) (by rfl) hS (fun w' hS' => ?hv8) ?hh8
 case hv8 => (go_simp; try with_reducible rfl)
 simp only [Act.put, List.setIfInBounds_toArray, List.set_cons_zero, List.set_cons_succ]
 refine take_op 9 2 ?v9 rfl rfl (by kernel_rfl) (fun _ _ _ h => h) (by rfl) hS (fun w' hS' => ?hv9) ?hh9
 case hv9 => (go_simp; try with_reducible rfl)
 simp only [Act.put, List.setIfInBounds_toArray, List.set_cons_zero, List.set_cons_succ]
 refine wpAnyH_done (by kernel_rfl) ?_ _
 have HX := Lib.hid hS.2.2
 clear hS
 go_wp2_with fail
 go_ret
 refine ⟨_, rfl, fun hh => ?_, HX.out⟩
 have hle := of_decide_eq_false hh
 have hN2 : N ≤ 20000 := by omega
 exact ⟨by omega, HM.out hN2⟩
end Go.Proofs.YtdbbcfohjkgdcaaGreat
