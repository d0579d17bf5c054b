/- Package subs: one in the place of another. -/
import Derived.Test.YtdogeljlcnlbkaaSubDel
namespace Go.Proofs.Ytdogeljlcnlbkaa.Sbs
open Go.RowKit Go.Lib Txt Nam

/-- What Put tells, where one was there. -/
def GivesSet (l : List Sb) (w : World) (e : Ending) (w' : World) : Prop :=
  ∃ A c, e = .returned (.tuple #[.slice A l.length c, .bool true, .int .i64 0]) ∧ SubsAt w' w'.heap.size A l ∧ Below w.heap.size w w'

set_option maxRecDepth 100000 in
set_option maxHeartbeats 4000000 in
/-- subs.Put, in the place of one. -/
theorem Put_old (l : List Sb) (s : Sb) (A : Option Addr) (c : Nat) (a : Nat) (w : World) (h : SubsAt w w.heap.size A l) (hm : May l) (hs : Fine s) (hp : Place l s.t a true) (ha : a < l.length) :
    Calls Try.prog 4 #[.slice A l.length c, sagg s] w (GivesSet (l.set a s) w) := by
  have hl := hm.few
  have R0 := Lib.hid (round_new s h)
  have HCk := Lib.hid (fun g W (r : Round w A l g s W) => Check_is l A c W (r.out.2.1.mono r.out.2.2.size) hm)
  have HMB := Lib.hid (fun W => mayBe_is s W hs)
  have HSe := Lib.hid (fun g W (r : Round w A l g s W) => search_is l A c s.t a true W (by omega) (r.out.2.1.mono r.out.2.2.size) hp)
  have HCs := Lib.hid (fun g W (r : Round w A l g s W) => copies_is l A c W (by omega) (fun s hs => (hm.fine s hs).len) (r.out.2.1.mono r.out.2.2.size))
  have HK := Lib.hid (fun W => copyOf_is s W hs.len)
  have HP := Lib.hid hp
  clear h hm hs hp
  obtain ⟨W0, hW⟩ : ∃ W0, w.alloc (.cells (sarr (str s.t) s.q) 33) = W0 := ⟨_, rfl⟩
  rw [hW] at R0
  unfold sarr at hW
  have HW := Lib.hid hW
  clear hW
  have HSA : Hid (sagg s = .agg (sarr (str s.t) s.q)) := rfl
  rw [HSA.out]
  unfold sarr
  go_enter Try.func4, Try.ntmps4
  go_upto_region 1 with fail
  rw [HW.out]
  clear HW
  generalize Value.agg _ = v1
  obtain ⟨g, hg⟩ : ∃ g, w.heap.size = g := ⟨_, rfl⟩
  rw [hg] at R0 ⊢
  clear hg
  go_wp2_with fail
  refine (HCk.out g _ R0.out).mono ?_
  rintro e w1 ⟨rfl, hb1⟩
  have R1 := Lib.hid (R0.out.below hb1)
  have hld := R1.out.load
  clear R0 HCk hb1
  go_wp2_with (refine wpList_load_any (by rfl) 33 (.tmp 3) rfl g 0 rfl _ hld ?_; simp only [Act.put])
  refine (HMB.out _).mono ?_
  rintro e w2 ⟨rfl, hb2⟩
  have R2 := Lib.hid (R1.out.below hb2)
  have d0 := R2.out.topic
  clear R1 HMB hb2 hld
  go_wp2_with fail
  refine (HSe.out g _ R2.out).mono ?_
  rintro e w3 ⟨rfl, hb3⟩
  have R3 := Lib.hid (R2.out.below hb3)
  clear R2 HSe hb3 d0
  have haI : (a : Int) < (l.length : Int) := by omega
  go_wp2_with fail
  refine (HCs.out g _ R3.out).mono ?_
  rintro e w4 ⟨A4, c4, rfl, hown, hb4⟩
  have R4 := Lib.hid (R3.out.below hb4)
  have R3s := Lib.hid R3.out.out.2.2.size
  obtain ⟨g4, rfl, hg4, hg4', _, _⟩ := own_where hown (by omega)
  have hr4 := own_range hown
  have hf4 := hown.frozenAt
  have HR4 := Lib.hid hr4
  have HF4 := Lib.hid hf4
  have hld := R4.out.load
  clear R3 HCs hown hb4 hr4 hf4
  go_wp2_with (refine wpList_load_any (by rfl) 33 (.tmp 3) rfl g 0 rfl _ hld ?_; simp only [Act.put])
  refine (HK.out _).mono ?_
  rintro e w5 ⟨rfl, hb5⟩
  have R5 := Lib.hid (R4.out.below hb5)
  have hr5 : w5.rangeAt g4 0 (flat l) := fun j v hv => (hb5.cell (p := ⟨g4, 0 + j, none⟩) hg4').trans (HR4.out j v hv)
  have hf5 : ∀ j, w5.frozen? ⟨g4, j, none⟩ = false := fun j => by
    have h1 := HF4.out j
    have h2 := hb5.block g4 hg4'
    unfold World.frozen? at h1 ⊢
    dsimp only at h1 ⊢
    rw [h2]
    exact h1
  have HT := Lib.hid (show w5.there g4 (a * 9) 9 from there_of hr5 hf5 (by omega))
  have HS5 := Lib.hid (range_set ha s hr5 HT.out)
  have HB5 := Lib.hid (below_cells (g := g4) (by have := R3s.out; omega) (scells s) (a * 9) R5.out.out.2.2)
  have hgl : g4 < w5.heap.size := Nat.lt_of_lt_of_le hg4' hb5.size
  clear R4 HK hb5 hld hr5 hf5 HR4 HF4
  go_wp2_with (refine wpList_store_mid rfl 33 (.tmp 38) (.tmp 37) rfl g4 (a * 9) (scells s).toArray rfl rfl HT.out info_sub (one_sub s) ?_; simp only [Act.put])
  refine bodyPost_ret (v := .tuple #[.slice (some ⟨g4, 0, none⟩) l.length c4, .bool true, .int .i64 0]) (by simp [results, Try.results4, go_sem]) rfl ⟨some ⟨g4, 0, none⟩, c4, by rw [List.length_set], ?_, HB5.out⟩
  exact SubsAt.of_range (by have := (below_cells (g := g4) (Nat.le_refl g4) (scells s) (a * 9) (Below.refl g4 w5)).size; exact Nat.lt_of_lt_of_le hgl this) HS5.out

end Go.Proofs.Ytdogeljlcnlbkaa.Sbs
