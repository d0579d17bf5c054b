/- Both disks, and a box that no call upon them turns. -/
import Derived.Test.YtgimecgdfcckbaaDskRise
namespace Go.Proofs.Ytgimecgdfcckbaa.Dsk
open Go.RowKit Go.Lib Go.Maps

/-- Both disks, and a box b of the type T that holds cs. -/
def BothB (T : TypeId) (b : Nat) (cs : Array Value) (w0 w : World) (d r : Nat) (F G : List Fl) : Prop := ∃ X Y, BothX w0 w X Y d r F G ∧ ¬ X b ∧ ¬ Y b ∧ Bk w b T cs
section
variable {T : TypeId} {b : Nat} {cs : Array Value} {w0 w w' : World} {d r : Nat} {F G F' G' : List Fl}
theorem BothB.both (h : BothB T b cs w0 w d r F G) : Both w0 w d r F G := by
  obtain ⟨X, Y, h, _⟩ := h
  exact ⟨X, Y, h⟩
theorem BothB.good (h : BothB T b cs w0 w d r F G) : GoodF F := h.both.good
theorem BothB.box (h : BothB T b cs w0 w d r F G) : Bk w b T cs := by
  obtain ⟨X, Y, _, _, _, h⟩ := h
  exact h
theorem BothB.below (h : BothB T b cs w0 w d r F G) (hb : Below w.heap.size w w') : BothB T b cs w0 w' d r F G := by
  obtain ⟨X, Y, h, h1, h2, h3⟩ := h
  exact ⟨X, Y, ⟨h.dk.below hb, h.rk.below hb, h.x0, h.y0, h.xy, h.low.trans (hb.mono h.low.size)⟩, h1, h2, h3.below hb⟩
theorem BothB.drew (h : BothB T b cs w0 w d r F G) : BothB T b cs w0 w.drew d r F G := h.below (Below.refl _ _).drew
theorem BothB.drewN (h : BothB T b cs w0 w d r F G) (n : Nat) : BothB T b cs w0 (w.drewN n) d r F G := h.below (below_drewN (Below.refl _ _) n)
/-- A new box beside both. -/
theorem Both.box (h : Both w0 w d r F G) (T : TypeId) (cs : Array Value) : BothB T w.heap.size cs w0 (w.alloc (.cells cs T)) d r F G := by
  obtain ⟨X, Y, h⟩ := h
  have hb := (Below.refl w.heap.size w).alloc (Nat.le_refl _) (.cells cs T)
  refine ⟨X, Y, ⟨h.dk.below hb, h.rk.below hb, h.x0, h.y0, h.xy, h.low.trans (hb.mono h.low.size)⟩, fun hx => ?_, fun hy => ?_, Bk.new w _ _⟩
  · exact Nat.lt_irrefl _ (h.dk.lt _ hx)
  · exact Nat.lt_irrefl _ (h.rk.lt _ hy)
/-- A call upon the program's disk. -/
theorem leftB {f : FuncId} {args : Array Value} {R : Ending} (h : BothB T b cs w0 w d r F G) (hc : ∀ X, Dk w X d F 0 false → Calls Try.prog f args w fun e w' => e = R ∧ Then X w w' d F' 0 false) :
    Calls Try.prog f args w fun e w' => e = R ∧ BothB T b cs w0 w' d r F' G := by
  obtain ⟨X, Y, h, h1, h2, h3⟩ := h
  refine (hc X h.dk).mono fun e w' ⟨he, X', g1, g2, g3⟩ => ⟨he, X', Y, ⟨g1, h.rk.kept g2 (fun k hk hx => h.xy k hx hk), fun k hk => ?_, h.y0, fun k hk hy => ?_, h.low.trans (g2.below h.low.size h.x0)⟩, fun hx => ?_, h2, h3.chg g2 h1⟩
  · rcases g3 k hk with h4 | h4
    · exact h.x0 k h4
    · exact Nat.le_trans h.low.size h4
  · rcases g3 k hk with h4 | h4
    · exact h.xy k h4 hy
    · have := h.rk.lt k hy
      omega
  · rcases g3 b hx with h4 | h4
    · exact h1 h4
    · have := h3.lt
      omega
/-- A call upon the document's disk. -/
theorem rightB {f : FuncId} {args : Array Value} {R : Ending} (h : BothB T b cs w0 w d r F G) (hc : ∀ Y, Rk w Y r G → Calls Try.prog f args w fun e w' => e = R ∧ RThen Y w w' r G') :
    Calls Try.prog f args w fun e w' => e = R ∧ BothB T b cs w0 w' d r F G' := by
  obtain ⟨X, Y, h, h1, h2, h3⟩ := h
  refine (hc Y h.rk).mono fun e w' ⟨he, Y', g1, g2, g3⟩ => ⟨he, X, Y', ⟨h.dk.kept g2 h.xy, g1, h.x0, fun k hk => ?_, fun k hk hy => ?_, h.low.trans (g2.below h.low.size h.y0)⟩, h1, fun hy => ?_, h3.chg g2 h2⟩
  · rcases g3 k hk with h4 | h4
    · exact h.y0 k h4
    · exact Nat.le_trans h.low.size h4
  · rcases g3 k hy with h4 | h4
    · exact h.xy k hk h4
    · have := h.dk.lt k hk
      omega
  · rcases g3 b hy with h4 | h4
    · exact h2 h4
    · have := h3.lt
      omega

/-! ### the calls -/
theorem app_lb (h : BothB T b cs w0 w d r F G) (n s : List UInt8) (hn : n.length ≤ 140737488351232) (hs : s.length ≤ 140737488351232) :
    Calls Try.prog 13 #[.pointer (some ⟨d, 0, none⟩), .string (str n), .string (str s)] w fun e w' => e = .returned (.int .i64 (appE F n s)) ∧ BothB T b cs w0 w' d r (appF F n s) G :=
  leftB h fun X hk => Append_on w X d F n s 0 false _ _ (by omega) hn hs hk rfl rfl rfl
theorem sync_lb (h : BothB T b cs w0 w d r F G) (n : List UInt8) (hn : n.length ≤ 140737488351232) :
    Calls Try.prog 14 #[.pointer (some ⟨d, 0, none⟩), .string (str n)] w fun e w' => e = .returned (.int .i64 (syncE F n)) ∧ BothB T b cs w0 w' d r (syncF F n) G :=
  leftB h fun X hk => Sync_is w X d F n _ _ hn hk rfl rfl
theorem cut_lb (h : BothB T b cs w0 w d r F G) (n : List UInt8) (k : Int) (hn : n.length ≤ 140737488351232) :
    Calls Try.prog 46 #[.pointer (some ⟨d, 0, none⟩), .string (str n), .int .i64 k] w fun e w' => e = .returned (.int .i64 (cutE F n k)) ∧ BothB T b cs w0 w' d r (cutF F n k) G :=
  leftB h fun X hk => Cut_is w X d F n k _ _ hn hk rfl rfl
theorem ren_lb (h : BothB T b cs w0 w d r F G) (a z : List UInt8) (ha : a.length ≤ 140737488351232) (hz : z.length ≤ 140737488351232) :
    Calls Try.prog 15 #[.pointer (some ⟨d, 0, none⟩), .string (str a), .string (str z)] w fun e w' => e = .returned (.int .i64 (renE F a z)) ∧ BothB T b cs w0 w' d r (renF F a z) G :=
  leftB h fun X hk => Rename_is w X d F a z _ _ ha hz hk rfl rfl
theorem del_lb (h : BothB T b cs w0 w d r F G) (n : List UInt8) (hn : n.length ≤ 140737488351232) :
    Calls Try.prog 22 #[.pointer (some ⟨d, 0, none⟩), .string (str n)] w fun e w' => e = .returned (.int .i64 (syncE F n)) ∧ BothB T b cs w0 w' d r (delF F n) G :=
  leftB h fun X hk => Del_is w X d F n _ _ hn hk rfl rfl
theorem app_rb (h : BothB T b cs w0 w d r F G) (hg : GoodF G) (n s : List UInt8) (hn : n.length ≤ 140737488351232) (hs : s.length ≤ 140737488351232) :
    Calls Try.prog 53 #[.pointer (some ⟨r, 0, none⟩), .string (str n), .string (str s)] w fun e w' => e = .returned (.int .i64 (appE G n s)) ∧ BothB T b cs w0 w' d r F (appF G n s) :=
  rightB h fun Y ⟨A, c, hk⟩ => RAppend_is n s _ hn hs hg.sorted (Nat.le_trans hg.few (by omega)) hg.small hk rfl
theorem sync_rb (h : BothB T b cs w0 w d r F G) (hg : GoodF G) (n : List UInt8) :
    Calls Try.prog 45 #[.pointer (some ⟨r, 0, none⟩), .string (str n)] w fun e w' => e = .returned (.int .i64 (syncE G n)) ∧ BothB T b cs w0 w' d r F (syncF G n) :=
  rightB h fun Y ⟨A, c, hk⟩ => RSync_is n _ hg.sorted (Nat.le_trans hg.few (by omega)) hg.small hk rfl
theorem cut_rb (h : BothB T b cs w0 w d r F G) (hg : GoodF G) (n : List UInt8) (k : Int) :
    Calls Try.prog 47 #[.pointer (some ⟨r, 0, none⟩), .string (str n), .int .i64 k] w fun e w' => e = .returned (.int .i64 (cutE G n k)) ∧ BothB T b cs w0 w' d r F (cutF G n k) :=
  rightB h fun Y ⟨A, c, hk⟩ => RCut_is n k _ hg.sorted (Nat.le_trans hg.few (by omega)) hg.small hg.safe hk rfl
theorem ren_rb (h : BothB T b cs w0 w d r F G) (hg : GoodF G) (a z : List UInt8) (hz : z.length ≤ 140737488351232) :
    Calls Try.prog 48 #[.pointer (some ⟨r, 0, none⟩), .string (str a), .string (str z)] w fun e w' => e = .returned (.int .i64 (renE G a z)) ∧ BothB T b cs w0 w' d r F (renF G a z) :=
  rightB h fun Y ⟨A, c, hk⟩ => RRename_is a z _ hz hg.sorted (Nat.le_trans hg.few (by omega)) hg.small hg.safe hk rfl
theorem del_rb (h : BothB T b cs w0 w d r F G) (hg : GoodF G) (n : List UInt8) :
    Calls Try.prog 49 #[.pointer (some ⟨r, 0, none⟩), .string (str n)] w fun e w' => e = .returned (.int .i64 (syncE G n)) ∧ BothB T b cs w0 w' d r F (delF G n) :=
  rightB h fun Y ⟨A, c, hk⟩ => RDel_is n _ hg.sorted (Nat.le_trans hg.few (by omega)) hk rfl
end
end Go.Proofs.Ytgimecgdfcckbaa.Dsk
