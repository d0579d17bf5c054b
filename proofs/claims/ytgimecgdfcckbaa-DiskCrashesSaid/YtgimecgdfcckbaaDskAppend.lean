/- Package disk: Append. -/
import Derived.Test.YtgimecgdfcckbaaDskOrph
import Derived.Test.YtgimecgdfcckbaaChecked
namespace Go.Proofs.Ytgimecgdfcckbaa.Dsk
open Go.RowKit Go.Lib Go.Maps

theorem info_byte : (Try.prog.info? 5).map (fun i => (i.zero, i.size, i.bytes)) = some (some (.int .u8 0), 1, 1) := by kernel_rfl
theorem as_file (v : Value) (w : World) : (Instr.typeAssert (.iface 49 v) 20 49 true).run Try.prog w = .ok (.tuple #[v, .bool true]) w := by kernel_rfl
theorem as_no_file (v : Value) (w : World) : (Instr.typeAssert (.iface 27 v) 20 49 true).run Try.prog w = .ok (.tuple #[.pointer none, .bool false]) w := by kernel_rfl
theorem as_errno (v : Value) (w : World) : (Instr.typeAssert (.iface 27 v) 20 27 false).run Try.prog w = .ok v w := by kernel_rfl

section
variable {w w' : World} {X : Nat → Prop} {d : Nat} {F : List Fl} {off : Bool} {mv : Value} {bx : List UInt8 → Nat} {vl : List UInt8 → Value}
/-- len of the map. -/
theorem len_run {l : Int} (h : DkAt w X d F l off mv bx vl) (ty : TypeId) : (Builtin.len_ #[46] ty #[mv]).run Try.prog w = .ok (.int .i64 (F.length : Int)) w := by
  rcases h.map with ⟨rfl, rfl⟩ | ⟨m, D, rfl, _, hi⟩
  · exact Maps.len_nil Try.underlying46 ty
  · rw [hi.own.len Try.underlying46 ty, size_is hi h.good.sorted]
theorem DkAt.orph {l : Int} (h : DkAt w X d F l off mv bx vl) {f : Fl} (hf : f ∈ F) : Orph w X (rm F f.n) bx vl (bx f.n) (vl f.n) f.t f.s :=
  ⟨fun g hg => h.file g (mem_rm.1 hg).1, fun g hg k hk hne => h.apart g (mem_rm.1 hg).1 k (mem_rm.1 hk).1 hne, h.file f hf, fun g hg => h.apart g (mem_rm.1 hg).1 f hf (mem_rm.1 hg).2⟩
/-- A new file's box. -/
theorem DkAt.fresh {l : Int} (h : DkAt w X d F l off mv bx vl) : Orph (w.alloc (.cells #[.slice none 0 0, .int .i64 0] 54)) (fun k => X k ∨ w.heap.size ≤ k) F bx vl w.heap.size (.slice none 0 0) [] 0 := by
  have hb : Below w.heap.size w (w.alloc (.cells #[.slice none 0 0, .int .i64 0] 54)) := (Below.refl _ w).alloc (Nat.le_refl _) _
  refine ⟨fun f hf => ((h.file f hf).grown (grown_of_below hb) (by simp) (fun _ _ => by simp)).mono fun k hk => .inl hk, h.apart, ⟨Bk.new w _ _, .inr (Nat.le_refl _), World.ownsRow_nil _ _ _ _, fun k hk => by cases hk⟩, fun f hf => ⟨fun e => ?_, fun k _ e => by cases e⟩⟩
  have := (h.file f hf).lt
  omega
end
/-- A disk behind a call that may have made memory. -/
def Then (X : Nat → Prop) (w w' : World) (d : Nat) (F : List Fl) (l : Int) (off : Bool) : Prop := ∃ X', Dk w' X' d F l off ∧ Chg X w w' ∧ ∀ k, X' k → X k ∨ w.heap.size ≤ k
theorem then_same {X : Nat → Prop} {w w' : World} {d : Nat} {F : List Fl} {l : Int} {off : Bool} (h : Dk w' X d F l off) (hc : Chg X w w') : Then X w w' d F l off := ⟨X, h, hc, fun _ hk => .inl hk⟩

/-- Where a file's bytes come behind those that are there, and it is laid: as one step of memory, w1 being the world at the append. -/
theorem app_end {w w1 w3 w4 w5 : World} {X : Nat → Prop} {d b : Nat} {F F' : List Fl} {l : Int} {off : Bool} {mv mv' v v' : Value} {bx bx' : List UInt8 → Nat} {vl : List UInt8 → Value} {n t t' : List UInt8} {s : Nat}
    (hk : DkAt w X d F l off mv bx vl) (hb1 : Below w.heap.size w w1) (ho : Orph w1 (fun k => X k ∨ w.heap.size ≤ k) F' bx vl b v t s)
    (hg : w1.grownBy w3 v.ownBlock) (hown : w3.ownsRow 0 5 1 v' t'.length (strCells (str t'))) (hl : v'.ownBlock = v.ownBlock ∨ v'.ownBlock = some w1.heap.size) (hw4 : w3.setCell ⟨b, 0, none⟩ v' = w4)
    (hb : bx' n = b) (hbx : ∀ x, x ≠ n → bx' x = bx x) (hn : ∀ f ∈ F', f.n ≠ n) (hG : GoodF (put F' ⟨n, t', s⟩)) :
    Bk w4 d 48 #[mv, .int .i64 l, .bool off] ∧ MapAt w4 (fun k => X k ∨ w.heap.size ≤ k) mv F bx ∧ (Laid w4 w5 d l off mv mv' bx' (put F' ⟨n, t', s⟩) → Then X w w5 d (put F' ⟨n, t', s⟩) l off) := by
  have hX : ∀ k, X k → X k ∨ w.heap.size ≤ k := fun k h => .inl h
  have h1 : Orph w4 (fun k => X k ∨ w.heap.size ≤ k) F' bx vl b v' t' s := by rw [← hw4]; exact ho.append hg hown hl (.inr hb1.size)
  have hgr := grown_setCell w3 b 0 v'
  rw [hw4] at hgr
  have hrow : v.ownBlock ≠ some d := fun e => ho.me.row_ne (hk.disk.below hb1) (by decide) d e rfl
  have hbd : b ≠ d := ho.me.box.ne (hk.disk.below hb1) (by decide)
  have hd4 : Bk w4 d 48 #[mv, .int .i64 l, .bool off] := ((hk.disk.below hb1).grown hg (fun e => hrow e.symm)).grown hgr (fun e => hbd (by injection e with e; exact e.symm))
  have hm1 : MapAt w1 (fun k => X k ∨ w.heap.size ≤ k) mv F bx := (hk.map.grown (grown_of_below hb1) (fun _ _ => by simp)).mono hX
  have hm3 : MapAt w3 (fun k => X k ∨ w.heap.size ≤ k) mv F bx := hm1.grown hg (fun m e e2 => by
    obtain ⟨cs, hbk⟩ := row_block ho.me.row e2.symm
    exact hm1.ne hbk m e rfl)
  have hb3 : Bk w3 b 54 #[v, .int .i64 (s : Int)] := ho.me.box.grown hg (fun e => by
    obtain ⟨cs, hb⟩ := row_block ho.me.row e.symm
    exact ho.me.box.ne hb (by decide) rfl)
  have hm4 : MapAt w4 (fun k => X k ∨ w.heap.size ≤ k) mv F bx := hm3.grown hgr (fun m e => hm3.ne hb3 m e)
  refine ⟨hd4, hm4, fun hL => ?_⟩
  have hs14 : w1.heap.size ≤ w4.heap.size := Nat.le_trans hg.size hgr.size
  have h0 : w.heap.size ≤ w4.heap.size := Nat.le_trans hb1.size hs14
  have hfin := dk_laid (w0 := w) (vl := vl) (vl' := fun x => if x = n then v' else vl x) h1 hd4 hk.inX hm4 hL hb hbx (by simp) (fun x hx => by simp [hx]) hn hG h0
  refine ⟨_, ⟨mv', bx', _, hfin⟩, ?_, fun k hk => hk.1⟩
  refine ⟨hL.os.trans (hgr.os.trans (hg.os.trans hb1.os)), hL.tape.trans (hgr.tape.trans (hg.tape.trans hb1.tape)), hL.output.trans (hgr.output.trans (hg.output.trans hb1.output)), Nat.le_trans h0 hL.size, fun k hkl hkX => ?_⟩
  have k1 := hb1.size
  have k3 := hg.size
  have hnd : k ≠ d := fun e => hkX (by rw [e]; exact hk.inX)
  have hnm : mv ≠ .map (some k) := fun e => by
    rcases hk.map with ⟨e2, _⟩ | ⟨m, D, e2, hxm, _⟩
    · rw [e2] at e; cases e
    · rw [e2] at e
      injection e with e
      injection e with e
      exact hkX (by rw [← e]; exact hxm)
  have hnb : some k ≠ some b := fun e => by
    injection e with e
    rcases ho.me.inX with h | h
    · exact hkX (by rw [e]; exact h)
    · omega
  have hnv : some k ≠ v.ownBlock := fun e => by
    rcases ho.me.rowX k e.symm with h | h
    · exact hkX h
    · omega
  exact (hL.block k (by omega) hnd hnm).trans ((hgr.block k (by omega) hnb).trans ((hg.block k (by omega) hnv).trans (hb1.block k hkl)))

theorem cells_add (t s : List UInt8) : strCells (str t) ++ strCells (str s) = strCells (str (t ++ s)) := by
  unfold strCells
  rw [str_data, str_data, str_data, List.map_append]
theorem names_put {F : List Fl} {f : Fl} (x : List UInt8) : (∃ g ∈ put F f, g.n = x) ↔ x = f.n ∨ ∃ g ∈ F, g.n = x := by
  constructor
  · rintro ⟨g, hg, rfl⟩
    rcases mem_put.1 hg with rfl | hg
    · exact .inl rfl
    · exact .inr ⟨g, hg, rfl⟩
  · rintro (rfl | ⟨g, hg, rfl⟩)
    · exact ⟨f, mem_put.2 (.inl rfl), rfl⟩
    · exact ⟨g, mem_put.2 (.inr hg), rfl⟩
theorem names_rm {F : List Fl} {n : List UInt8} (x : List UInt8) : (∃ g ∈ rm F n, g.n = x) ↔ x ≠ n ∧ ∃ g ∈ F, g.n = x := by
  constructor
  · rintro ⟨g, hg, rfl⟩
    exact ⟨(mem_rm.1 hg).2, g, (mem_rm.1 hg).1, rfl⟩
  · rintro ⟨h, g, hg, rfl⟩
    exact ⟨g, mem_rm.2 ⟨hg, h⟩, rfl⟩
end Go.Proofs.Ytgimecgdfcckbaa.Dsk
