/- The program's disk and the document's, side by side: each call upon one leaves the other. -/
import Derived.Test.YtgimecgdfcckbaaDskHeavy
namespace Go.Proofs.Ytgimecgdfcckbaa.Dsk
open Go.RowKit Go.Lib Go.Maps

structure BothX (w0 w : World) (X Y : Nat → Prop) (d r : Nat) (F G : List Fl) : Prop where
  dk : Dk w X d F 0 false
  rk : Rk w Y r G
  x0 : ∀ k, X k → w0.heap.size ≤ k
  y0 : ∀ k, Y k → w0.heap.size ≤ k
  xy : ∀ k, X k → ¬ Y k
  low : Below w0.heap.size w0 w
/-- Both disks, that came behind w0, hold F and G. -/
def Both (w0 w : World) (d r : Nat) (F G : List Fl) : Prop := ∃ X Y, BothX w0 w X Y d r F G
section
variable {w0 w w' : World} {d r : Nat} {F G F' G' : List Fl}
theorem Both.good (h : Both w0 w d r F G) : GoodF F := by
  obtain ⟨X, Y, h⟩ := h
  exact h.dk.good
theorem Both.low (h : Both w0 w d r F G) : Below w0.heap.size w0 w := by
  obtain ⟨X, Y, h⟩ := h
  exact h.low
theorem Both.below (h : Both w0 w d r F G) (hb : Below w.heap.size w w') : Both w0 w' d r F G := by
  obtain ⟨X, Y, h⟩ := h
  exact ⟨X, Y, h.dk.below hb, h.rk.below hb, h.x0, h.y0, h.xy, h.low.trans (hb.mono h.low.size)⟩
theorem Both.drew (h : Both w0 w d r F G) : Both w0 w.drew d r F G := h.below (Below.refl _ _).drew
theorem Both.drewN (h : Both w0 w d r F G) (n : Nat) : Both w0 (w.drewN n) d r F G := h.below (below_drewN (Below.refl _ _) n)
theorem Both.alloc (h : Both w0 w d r F G) (o : Obj) : Both w0 (w.alloc o) d r F G := h.below ((Below.refl _ _).alloc (Nat.le_refl _) o)
/-- A call upon the program's disk. -/
theorem both_left {f : FuncId} {args : Array Value} {R : Ending} (h : Both w0 w d r F G) (hc : ∀ X, Dk w X d F 0 false → Calls Try.prog f args w fun e w' => e = R ∧ Then X w w' d F' 0 false) :
    Calls Try.prog f args w fun e w' => e = R ∧ Both w0 w' d r F' G := by
  obtain ⟨X, Y, h⟩ := h
  refine (hc X h.dk).mono fun e w' ⟨he, X', h1, h2, h3⟩ => ⟨he, X', Y, h1, h.rk.kept h2 (fun k hk hx => h.xy k hx hk), fun k hk => ?_, h.y0, fun k hk hy => ?_, ?_⟩
  · rcases h3 k hk with h4 | h4
    · exact h.x0 k h4
    · exact Nat.le_trans h.low.size h4
  · rcases h3 k hk with h4 | h4
    · exact h.xy k h4 hy
    · have := h.rk.lt k hy
      omega
  · exact h.low.trans (h2.below h.low.size h.x0)
/-- A call upon the document's disk. -/
theorem both_right {f : FuncId} {args : Array Value} {R : Ending} (h : Both w0 w d r F G) (hc : ∀ Y, Rk w Y r G → Calls Try.prog f args w fun e w' => e = R ∧ RThen Y w w' r G') :
    Calls Try.prog f args w fun e w' => e = R ∧ Both w0 w' d r F G' := by
  obtain ⟨X, Y, h⟩ := h
  refine (hc Y h.rk).mono fun e w' ⟨he, Y', h1, h2, h3⟩ => ⟨he, X, Y', h.dk.kept h2 h.xy, h1, h.x0, fun k hk => ?_, fun k hk hy => ?_, ?_⟩
  · rcases h3 k hk with h4 | h4
    · exact h.y0 k h4
    · exact Nat.le_trans h.low.size h4
  · rcases h3 k hy with h4 | h4
    · exact h.xy k hk h4
    · have := h.dk.lt k hk
      omega
  · exact h.low.trans (h2.below h.low.size h.y0)

/-! ### the calls -/
theorem app_l (h : Both w0 w d r F G) (n s : List UInt8) (hn : n.length ≤ 140737488351232) (hs : s.length ≤ 140737488351232) :
    Calls Try.prog 13 #[.pointer (some ⟨d, 0, none⟩), .string (str n), .string (str s)] w fun e w' => e = .returned (.int .i64 (appE F n s)) ∧ Both w0 w' d r (appF F n s) G :=
  both_left h fun X hk => Append_on w X d F n s 0 false _ _ (by omega) hn hs hk rfl rfl rfl
theorem sync_l (h : Both w0 w d r F G) (n : List UInt8) (hn : n.length ≤ 140737488351232) :
    Calls Try.prog 14 #[.pointer (some ⟨d, 0, none⟩), .string (str n)] w fun e w' => e = .returned (.int .i64 (syncE F n)) ∧ Both w0 w' d r (syncF F n) G :=
  both_left h fun X hk => Sync_is w X d F n _ _ hn hk rfl rfl
theorem cut_l (h : Both w0 w d r F G) (n : List UInt8) (k : Int) (hn : n.length ≤ 140737488351232) :
    Calls Try.prog 46 #[.pointer (some ⟨d, 0, none⟩), .string (str n), .int .i64 k] w fun e w' => e = .returned (.int .i64 (cutE F n k)) ∧ Both w0 w' d r (cutF F n k) G :=
  both_left h fun X hk => Cut_is w X d F n k _ _ hn hk rfl rfl
theorem ren_l (h : Both w0 w d r F G) (a z : List UInt8) (ha : a.length ≤ 140737488351232) (hz : z.length ≤ 140737488351232) :
    Calls Try.prog 15 #[.pointer (some ⟨d, 0, none⟩), .string (str a), .string (str z)] w fun e w' => e = .returned (.int .i64 (renE F a z)) ∧ Both w0 w' d r (renF F a z) G :=
  both_left h fun X hk => Rename_is w X d F a z _ _ ha hz hk rfl rfl
theorem del_l (h : Both w0 w d r F G) (n : List UInt8) (hn : n.length ≤ 140737488351232) :
    Calls Try.prog 22 #[.pointer (some ⟨d, 0, none⟩), .string (str n)] w fun e w' => e = .returned (.int .i64 (syncE F n)) ∧ Both w0 w' d r (delF F n) G :=
  both_left h fun X hk => Del_is w X d F n _ _ hn hk rfl rfl
theorem app_r (h : Both w0 w d r F G) (hg : GoodF G) (n s : List UInt8) (hn : n.length ≤ 140737488351232) (hs : s.length ≤ 140737488351232) :
    Calls Try.prog 53 #[.pointer (some ⟨r, 0, none⟩), .string (str n), .string (str s)] w fun e w' => e = .returned (.int .i64 (appE G n s)) ∧ Both w0 w' d r F (appF G n s) :=
  both_right h fun Y ⟨A, c, hk⟩ => RAppend_is n s _ hn hs hg.sorted (Nat.le_trans hg.few (by omega)) hg.small hk rfl
theorem sync_r (h : Both w0 w d r F G) (hg : GoodF G) (n : List UInt8) :
    Calls Try.prog 45 #[.pointer (some ⟨r, 0, none⟩), .string (str n)] w fun e w' => e = .returned (.int .i64 (syncE G n)) ∧ Both w0 w' d r F (syncF G n) :=
  both_right h fun Y ⟨A, c, hk⟩ => RSync_is n _ hg.sorted (Nat.le_trans hg.few (by omega)) hg.small hk rfl
theorem cut_r (h : Both w0 w d r F G) (hg : GoodF G) (n : List UInt8) (k : Int) :
    Calls Try.prog 47 #[.pointer (some ⟨r, 0, none⟩), .string (str n), .int .i64 k] w fun e w' => e = .returned (.int .i64 (cutE G n k)) ∧ Both w0 w' d r F (cutF G n k) :=
  both_right h fun Y ⟨A, c, hk⟩ => RCut_is n k _ hg.sorted (Nat.le_trans hg.few (by omega)) hg.small hg.safe hk rfl
theorem ren_r (h : Both w0 w d r F G) (hg : GoodF G) (a z : List UInt8) (hz : z.length ≤ 140737488351232) :
    Calls Try.prog 48 #[.pointer (some ⟨r, 0, none⟩), .string (str a), .string (str z)] w fun e w' => e = .returned (.int .i64 (renE G a z)) ∧ Both w0 w' d r F (renF G a z) :=
  both_right h fun Y ⟨A, c, hk⟩ => RRename_is a z _ hz hg.sorted (Nat.le_trans hg.few (by omega)) hg.small hg.safe hk rfl
theorem del_r (h : Both w0 w d r F G) (hg : GoodF G) (n : List UInt8) :
    Calls Try.prog 49 #[.pointer (some ⟨r, 0, none⟩), .string (str n)] w fun e w' => e = .returned (.int .i64 (syncE G n)) ∧ Both w0 w' d r F (delF G n) :=
  both_right h fun Y ⟨A, c, hk⟩ => RDel_is n _ hg.sorted (Nat.le_trans hg.few (by omega)) hk rfl
end
/-- Both are laid: the program's in one world, the document's in a later one. -/
theorem both_made {w0 w1 w2 : World} {d r : Nat} {X Y : Nat → Prop} {F G : List Fl} (hd : Dk w1 X d F 0 false) (hx : ∀ k, X k → w0.heap.size ≤ k) (hb1 : Below w0.heap.size w0 w1) (hb2 : Below w1.heap.size w1 w2) (hr : Rk w2 Y r G) (hy : ∀ k, Y k → w1.heap.size ≤ k) : Both w0 w2 d r F G :=
  ⟨X, Y, hd.below hb2, hr, hx, fun k hk => Nat.le_trans hb1.size (hy k hk), fun k h1 h2 => by have := hd.lt k h1; have := hy k h2; omega, hb1.trans (hb2.mono hb1.size)⟩
end Go.Proofs.Ytgimecgdfcckbaa.Dsk
