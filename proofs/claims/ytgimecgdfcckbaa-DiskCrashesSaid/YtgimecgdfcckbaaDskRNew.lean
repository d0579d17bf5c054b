/- The document's own answer: a disk laid out of names and texts. -/
import Derived.Test.YtgimecgdfcckbaaDskRCrash
import Derived.Test.YtgimecgdfcckbaaDskMay
namespace Go.Proofs.Ytgimecgdfcckbaa.Dsk
open Go.RowKit Go.Lib Go.Maps

def GivesRNew (R : List Fl) (w : World) (e : Ending) (w' : World) : Prop :=
  e = .returned (.pointer (some ⟨w.heap.size, 0, none⟩)) ∧ ∃ Y, Rk w' Y w.heap.size R ∧ Below w.heap.size w w' ∧ ∀ k, Y k → w.heap.size ≤ k
structure RNInv (w : World) (R : List Fl) (wr : World) : Prop where
  rk : ∃ Y, Rk wr Y w.heap.size R ∧ ∀ k, Y k → w.heap.size ≤ k
  bel : Below w.heap.size w wr
set_option maxRecDepth 100000 in
set_option maxHeartbeats 8000000 in
theorem RNew_is (ns ts : List (List UInt8)) (A B : Option Addr) (n c c' : Nat) (w : World) (hn : ns.length = n) (ht : ts.length = n) (hl : n ≤ 1000) (hA : Strs w w.heap.size A ns) (hB : Strs w w.heap.size B ts) :
    Calls Try.prog 39 #[.slice A n c, .slice B n c'] w fun e w' => GivesRNew (newF ns ts) w e w' := by
  have HA := Lib.hid hA
  have HB := Lib.hid hB
  have HN := Lib.hid hn
  have HT := Lib.hid ht
  have h0 : RNInv w [] (w.alloc (.cells #[.slice none 0 0, .int .i64 0, .bool false, .bool false] 86)) := by
    have hb := (Below.refl w.heap.size w).alloc (Nat.le_refl _) (.cells #[.slice none 0 0, .int .i64 0, .bool false, .bool false] 86)
    refine ⟨⟨fun k => k = w.heap.size, ⟨none, 0, ⟨Bk.new w _ _, rfl, World.ownsRow_nil _ _ _ _, fun a ha => (nomatch ha), fun k hk => ?_⟩⟩, fun k hk => Nat.le_of_eq hk.symm⟩, hb⟩
    have hk : k = w.heap.size := hk
    subst hk
    simp
  have H0 := Lib.hid h0
  clear hA hB hn ht h0
  go_enter Try.func39, Try.ntmps39
  go_wp2_with fail
  obtain ⟨w0, hw0⟩ : ∃ w0, w.alloc (.cells #[.slice none 0 0, .int .i64 0, .bool false, .bool false] 86) = w0 := ⟨_, rfl⟩
  rw [hw0] at H0 ⊢
  clear hw0
  obtain ⟨d, hd⟩ : ∃ d, w.heap.size = d := ⟨_, rfl⟩
  have HD := Lib.hid hd
  have hps : ∀ k, (hk : k < ns.length) → (hk' : k < ts.length) → newK ns ts (k + 1) = put (newK ns ts k) ⟨ns[k], ts[k], ts[k].length⟩ := fun k hk hk' => newK_succ (HN.out.trans HT.out.symm) hk hk'
  have HPS := Lib.hid hps
  have HKl := Lib.hid (fun k (hk : k ≤ n) => newK_len (HN.out.trans HT.out.symm) k (by rw [HN.out]; exact hk))
  have HAll : Hid (newK ns ts n = newF ns ts) := Lib.hid (by rw [← HN.out]; exact newK_all (HN.out.trans HT.out.symm))
  clear hps
  rw [hd]
  clear hd
  go_loopw [6] (fun i wr => ∃ k : Nat, k ≤ n ∧ i = .int .i64 (k : Int) ∧ RNInv w (newK ns ts k) wr) (fun i _ => n - (RowKit.intOf i).toNat)
  case atStart => exact ⟨0, Nat.zero_le _, rfl, H0.out⟩
  case round =>
    obtain ⟨k, hk, rfl, hI⟩ := hrel
    have HI := Lib.hid hI
    clear hI
    by_cases hlt : k < n
    · have hkI : (k : Int) < (n : Int) := by omega
      have hkn : k < ns.length := by rw [HN.out]; exact hlt
      have hkt : k < ts.length := by rw [HT.out]; exact hlt
      obtain ⟨Y, hrk, hY⟩ := HI.out.rk
      rw [HD.out] at hrk hY
      have hbw : w.heap.size ≤ wr.heap.size := HI.out.bel.size
      obtain ⟨a, rfl, ha1, hca⟩ := HA.out.some_ (by omega)
      obtain ⟨b, rfl, hb1, hcb⟩ := HB.out.some_ (by omega)
      have da := hca k hkn
      have db := hcb k hkt
      rw [List.getD_eq_getElem?_getD, List.getElem?_eq_getElem hkn] at da
      rw [List.getD_eq_getElem?_getD, List.getElem?_eq_getElem hkt] at db
      simp only [Option.getD_some] at da db
      have HPut := Lib.hid (put_rk (w := wr.drew) ⟨ns[k], ts[k], ts[k].length⟩ (by rw [HKl.out k hk]; omega) (hrk.below ((Below.refl _ _).drew)))
      have HPk := Lib.hid (HPS.out k hkn hkt)
      have HSz : Hid ((str ts[k]).size = ts[k].length) := Lib.hid (str_size _)
      have HPut : Hid (Calls Try.prog 60 #[.pointer (some ⟨d, 0, none⟩), .agg #[.string (str ns[k]), .string (str ts[k]), .int .i64 (((str ts[k]).size : Nat) : Int)]] wr.drew fun e w' => e = .returned (.tuple #[]) ∧ RThen Y wr.drew w' d (put (newK ns ts k) ⟨ns[k], ts[k], ts[k].length⟩)) := by
        rw [HSz.out]; exact HPut
      have ea : wr.cell? (a.add k) = some (.string (str ns[k])) := (HI.out.bel.cell (p := a.add k) (by rw [add_block]; omega)).trans da
      have eb : wr.cell? (b.add k) = some (.string (str ts[k])) := (HI.out.bel.cell (p := b.add k) (by rw [add_block]; omega)).trans db
      rw [← HPk.out] at HPut
      have hYa : ∀ x : Addr, x.block < d → ¬ Y x.block := fun x hx hy => by have := hY _ hy; omega
      have hda : (a.add k).block < d := by rw [add_block, ← HD.out]; exact ha1
      have hdb : (b.add k).block < d := by rw [add_block, ← HD.out]; exact hb1
      clear HPk HSz hca hcb hrk da db
      generalize str ns[k] = sn at *
      generalize str ts[k] = st at *
      have hdw : d ≤ wr.heap.size := by rw [← HD.out]; exact hbw
      have hal : (a.add k).block < wr.heap.size := Nat.lt_of_lt_of_le hda hdw
      have hbl : (b.add k).block < wr.heap.size := Nat.lt_of_lt_of_le hdb hdw
      go_wp2_with fail
      go_region_held3 (fun W' => W'.cell? (a.add k) = some (.string sn) ∧ W'.cell? (b.add k) = some (.string st))
        (first | exact ⟨ea, eb⟩ | exact ⟨(World.cell?_of_block (w := wr.drew) (hc2.block _ hal (hYa _ hda))).trans ea, (World.cell?_of_block (w := wr.drew) (hc2.block _ hbl (hYa _ hdb))).trans eb⟩)
        (first | ((go_at_call 60; refine HPut.out.mono ?_; rintro e w3 ⟨rfl, Y2, hrk2, hc2, hy2⟩)))
      have HRk2 := Lib.hid hrk2
      have HY2 : Hid (∀ k, Y2 k → d ≤ k) := Lib.hid fun j hj => (hy2 j hj).elim (hY j) (fun h1 => Nat.le_trans hdw h1)
      have HB2 := Lib.hid (HI.out.bel.trans ((chg_drew (Y := Y) (w := wr)).tr hc2 |>.below (by rw [HD.out]; exact hdw) (fun j hj => by rw [HD.out]; exact hY j hj)))
      clear hrk2 hc2 hy2 ea eb
      go_wp2_with fail
      go_roundw
      case rel => exact ⟨k + 1, hlt, by go_num, ⟨Y2, by rw [HD.out]; exact HRk2.out, fun j hj => by rw [HD.out]; exact HY2.out j hj⟩, HB2.out⟩
      case measure => simp [RowKit.intOf]; omega
    · have hkI : ¬ (k : Int) < (n : Int) := by omega
      obtain rfl : k = n := by omega
      obtain ⟨Y, hrk, hY⟩ := HI.out.rk
      have HR := Lib.hid hrk
      have HY := Lib.hid hY
      have HBl := Lib.hid HI.out.bel
      clear hrk hY
      go_wp2_with fail
      go_ret
      exact ⟨by rw [HD.out]; rfl, Y, by rw [← HAll.out]; exact HR.out, HBl.out, HY.out⟩
end Go.Proofs.Ytgimecgdfcckbaa.Dsk
