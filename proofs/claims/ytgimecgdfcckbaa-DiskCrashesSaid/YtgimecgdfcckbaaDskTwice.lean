/- Both disks crash: what the one keeps, and what the other one does. -/
import Derived.Test.YtgimecgdfcckbaaDskBox
namespace Go.Proofs.Ytgimecgdfcckbaa.Dsk
open Go.RowKit Go.Lib Go.Maps

theorem Both.old {T : TypeId} {b : Nat} {cs : Array Value} {w0 w : World} {d r : Nat} {F G : List Fl} (h : Both w0 w d r F G) (hb : Bk w b T cs) (hlt : b < w0.heap.size) : BothB T b cs w0 w d r F G := by
  obtain ⟨X, Y, h⟩ := h
  refine ⟨X, Y, h, fun hx => ?_, fun hy => ?_, hb⟩
  · have := h.x0 _ hx; omega
  · have := h.y0 _ hy; omega
theorem strs_chg {w w' : World} {B : Nat} {A : Option Addr} {ls : List (List UInt8)} {Y : Nat → Prop} (h : Strs w B A ls) (hc : Chg Y w w') (hB : B ≤ w.heap.size) (hy : ∀ a, A = some a → 0 < ls.length → ¬ Y a.block) : Strs w' B A ls := by
  rcases h with e | ⟨a, e1, e2, e3⟩
  · exact .inl e
  · refine .inr ⟨a, e1, e2, fun j hj => ?_⟩
    have hb : (a.add j).block = a.block := add_block a j
    rw [World.cell?_of_block (w := w) (hc.block _ (by rw [hb]; omega) (by rw [hb]; exact hy a e1 (by omega)))]
    exact e3 j hj
theorem own_from {w : World} {base e n c : Nat} {A : Option Addr} {l : List Value} (h : w.ownsRow base e 1 (.slice A n c) n l) : ∀ a, A = some a → 0 < n → base ≤ a.block := fun a ha hn => by
  rcases h.2 with ⟨hv, h0⟩ | ⟨g, cap, cur, hv, _⟩
  · omega
  · subst ha
    exact (h.lt a.block rfl).1
/-- Behind the program's Crash: its two rows, the document's disk as it was, and the box. -/
structure Mid (T : TypeId) (b : Nat) (cs : Array Value) (w0 w : World) (r : Nat) (F : List Fl) (ps : List Int) (A B : Option Addr) : Prop where
  na : Strs w w.heap.size A (names F)
  nb : Strs w w.heap.size B (crashT F ps)
  rk : ∃ Y, Rk w Y r F ∧ (∀ k, Y k → w0.heap.size ≤ k) ∧ (∀ a, A = some a → 0 < (names F).length → ¬ Y a.block) ∧ (∀ a, B = some a → 0 < (crashT F ps).length → ¬ Y a.block) ∧ ¬ Y b
  low : Below w0.heap.size w0 w
  box : Bk w b T cs
/-- Behind both. -/
structure Kept4 (w0 w : World) (F : List Fl) (ps : List Int) (A B A' B' : Option Addr) : Prop where
  na : Strs w w.heap.size A (names F)
  nb : Strs w w.heap.size B (crashT F ps)
  ra : Strs w w.heap.size A' (names F)
  rb : Strs w w.heap.size B' (crashT F ps)
  low : Below w0.heap.size w0 w
section
variable {T : TypeId} {b : Nat} {cs : Array Value} {w0 w w' : World} {d r : Nat} {F : List Fl} {ps : List Int} {A B A' B' : Option Addr}
theorem Kept4.below (h : Kept4 w0 w F ps A B A' B') (hb : Below w.heap.size w w') : Kept4 w0 w' F ps A B A' B' :=
  ⟨h.na.on hb, h.nb.on hb, h.ra.on hb, h.rb.on hb, h.low.trans (hb.mono h.low.size)⟩
theorem Kept4.drewN (h : Kept4 w0 w F ps A B A' B') (n : Nat) : Kept4 w0 (w.drewN n) F ps A B A' B' := h.below (below_drewN (Below.refl _ _) n)
def GivesMid (T : TypeId) (b : Nat) (cs : Array Value) (w0 : World) (r : Nat) (F : List Fl) (ps : List Int) (e : Ending) (w' : World) : Prop :=
  ∃ A c B c', e = .returned (.tuple #[.slice A F.length c, .slice B F.length c']) ∧ Mid T b cs w0 w' r F ps A B
def GivesFour (w0 : World) (F : List Fl) (ps : List Int) (A B : Option Addr) (e : Ending) (w' : World) : Prop :=
  ∃ A' c B' c', e = .returned (.tuple #[.slice A' F.length c, .slice B' F.length c']) ∧ Kept4 w0 w' F ps A B A' B'
/-- The program's. -/
theorem crash_lb (h : BothB T b cs w0 w d r F F) (hbw : Below w.heap.size w w') (P : Option Addr) (cp : Nat) (hps : Nums w' w'.heap.size .i64 P ps) (hpx : ∀ a, P = some a → 0 < ps.length → a.block < w0.heap.size ∨ w.heap.size ≤ a.block) (hpl : ps.length ≤ 100000000) :
    Calls Try.prog 16 #[.pointer (some ⟨d, 0, none⟩), .slice P ps.length cp] w' fun e w2 => GivesMid T b cs w0 r F ps e w2 := by
  have h' := h.below hbw
  obtain ⟨X, Y, hx, h1, h2, h3⟩ := h
  have hd := hx.dk.below hbw
  refine (Crash_is w' X d F 0 false P cp ps hd hps (fun a ha hl hXa => ?_) hpl).mono fun e w2 ⟨A, c, B, c', e1, g2, g3, g4, g5⟩ => ?_
  · rcases hpx a ha hl with hlt | hge
    · have := hx.x0 _ hXa; omega
    · have := hx.dk.lt _ hXa; omega
  · have hlow : Below w0.heap.size w0 w' := hx.low.trans (hbw.mono hx.low.size)
    refine ⟨A, c, B, c', e1, ?_, ?_, ⟨Y, (hx.rk.below hbw).kept g5 (fun k hk hX => hx.xy k hX hk), hx.y0, fun a ha hl hy => ?_, fun a ha hl hy => ?_, h2⟩, hlow.trans (g5.below hlow.size hx.x0), (h3.below hbw).chg g5 h1⟩
    · refine Strs.of_own (c := c) (base := w'.heap.size) (e := 9) ?_
      rw [names_len]; exact g2
    · refine Strs.of_own (c := c') (base := w'.heap.size) (e := 9) ?_
      rw [crash_len]; exact g3
    · rw [names_len] at hl
      have := own_from g2 a ha hl
      have := hx.rk.lt _ hy
      have := hbw.size
      omega
    · rw [crash_len] at hl
      have := own_from g3 a ha hl
      have := hx.rk.lt _ hy
      have := hbw.size
      omega
/-- The document's, behind it. -/
theorem crash_rb (hG : GoodF F) (h : Mid T b cs w0 w r F ps A B) (P : Option Addr) (cp : Nat) (hps : Nums w w.heap.size .i64 P ps) (hpl : ps.length ≤ 1000000) :
    Calls Try.prog 52 #[.pointer (some ⟨r, 0, none⟩), .slice P ps.length cp] w fun e w2 => GivesFour w0 F ps A B e w2 := by
  obtain ⟨Y, ⟨A0, c0, hk⟩, hy0, hya, hyb, hyx⟩ := h.rk
  refine (RCrash_is P cp ps (Nat.le_trans hG.few (by omega)) hG.small hG.safe hk hps hpl).mono fun e w2 ⟨A', c, B', c', e1, g2, g3, g4⟩ => ?_
  refine ⟨A', c, B', c', e1, (strs_chg h.na g4 (Nat.le_refl _) hya).mono g4.size, (strs_chg h.nb g4 (Nat.le_refl _) hyb).mono g4.size, ?_, ?_, h.low.trans (g4.below h.low.size hy0)⟩
  · refine Strs.of_own (c := c) (base := w.heap.size) (e := 9) ?_
    rw [names_len]; exact g2
  · refine Strs.of_own (c := c') (base := w.heap.size) (e := 9) ?_
    rw [crash_len]; exact g3
/-- Picks that were there ahead of both disks are there still. -/
theorem Mid.old_picks (h : Mid T b cs w0 w r F ps A B) {P : Option Addr} (hps : Nums w0 w0.heap.size .i64 P ps) : Nums w w.heap.size .i64 P ps := (hps.below h.low).mono h.low.size
end
end Go.Proofs.Ytgimecgdfcckbaa.Dsk
