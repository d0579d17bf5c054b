/- Package pack: what is taken behind a packet's length: a reason. -/
import Derived.Test.YtdbbcfohjkgdcaaGreatM00
import Derived.Test.YtdbbcfohjkgdcaaGreatM07
import Derived.Test.YtdbbcfohjkgdcaaGreatM09
set_option maxRecDepth 100000
set_option maxHeartbeats 64000000
namespace Go.Proofs.YtdbbcfohjkgdcaaGreat
open Go.RowKit Go.Lib Prp Pkt
structure Bar (g : Nat) (w w' : World) : Prop where
 os : w'.os = w.os
 tape : w'.tape = w.tape
 output : w'.output = w.output
 size : w.heap.size ≤ w'.heap.size
 block : ∀ k, k < w.heap.size → k ≠ g → w'.heap[k]? = w.heap[k]?
section
variable {g : Nat} {w w' w'' : World}
theorem Bar.refl (g : Nat) (w : World) : Bar g w w := ⟨rfl, rfl, rfl, Nat.le_refl _, fun _ _ _ => rfl⟩
theorem Bar.trans (h : Bar g w w') (k : Bar g w' w'') : Bar g w w'' :=
 ⟨k.os.trans h.os, k.tape.trans h.tape, k.output.trans h.output, Nat.le_trans h.size k.size, fun i hi hn => (k.block i (Nat.lt_of_lt_of_le hi h.size) hn).trans (h.block i hi hn)⟩
theorem Bar.of (g : Nat) (h : Below w.heap.size w w') : Bar g w w' := ⟨h.os, h.tape, h.output, h.size, fun k hk _ => h.block k hk⟩
theorem Bar.set (g : Nat) (w : World) (i : Nat) (v : Value) : Bar g w (w.setCell ⟨g, i, none⟩ v) := ⟨rfl, rfl, rfl, by simp [World.setCell], fun _ _ hn => Below.heap_setCell _ _ _ _ hn⟩
theorem Bar.box {k : Nat} {cs : Array Value} (h : Bar g w w') (hb : Box w k cs) (hn : k ≠ g) : Box w' k cs := by
 have hl := hb.lt
 obtain ⟨T, hb⟩ := hb
 exact ⟨T, (h.block k hl hn).trans hb⟩
theorem Bar.below {B : Nat} {w0 : World} (h : Below B w0 w) (k : Bar g w w') (hB : B ≤ g) (hs : B ≤ w.heap.size) : Below B w0 w' :=
 h.trans ⟨k.os, k.tape, k.output, k.size, fun i hi => k.block i (by omega) (by omega)⟩
theorem Bar.drewN (g : Nat) (w : World) (n : Nat) : Bar g w (w.drewN n) := Bar.of g (below_drewN (Below.refl _ _) n)
theorem Bar.drew (g : Nat) (w : World) : Bar g w w.drew := Bar.drewN g w 1
theorem Bar.cell (h : Bar g w w') {b i : Nat} (hb : b < w.heap.size) (hn : b ≠ g) : w'.cell? ⟨b, i, none⟩ = w.cell? ⟨b, i, none⟩ := World.cell?_of_block (h.block b hb hn)
end
def Off (g : Nat) (A : Option Addr) : Prop := ∀ x, A = some x → x.block ≠ g
def New (B : Nat) (A : Option Addr) : Prop := ∀ x, A = some x → B ≤ x.block
theorem New.off {B g : Nat} {A : Option Addr} (h : New B A) (hg : g < B) : Off g A := fun x hx => by have := h x hx; omega
theorem New.mono {B B' : Nat} {A : Option Addr} (h : New B A) (hB : B' ≤ B) : New B' A := fun x hx => Nat.le_trans hB (h x hx)
theorem New.none_ (B : Nat) : New B none := fun _ h => by cases h
theorem Off.none_ (g : Nat) : Off g none := fun _ h => by cases h
theorem own_new {w : World} {B e sz n m c : Nat} {A : Option Addr} {xs : List Value} (h : w.ownsRow B e sz (.slice A n c) m xs) : New B A := by
 intro x hx
 rcases h.2 with ⟨hv, _⟩ | ⟨g, cap, cur, hv, hg, _⟩
 ·injection hv with h1 _ _
  rw [h1] at hx
  cases hx
 ·injection hv with h1 _ _
  rw [h1] at hx
  injection hx with hx
  subst hx
  exact hg
section
variable {g B : Nat} {w w' : World} {A : Option Addr}
theorem nums_bar {k : IntKind} {xs : List Int} (h : Nums w B k A xs) (hB : B ≤ w.heap.size) (ho : Off g A) (hb : Bar g w w') : Nums w' B k A xs := by
 rcases h with h | ⟨a, h1, h2, h3⟩
 ·exact .inl h
 ·exact .inr ⟨a, h1, h2, fun j hj => (World.cell?_of_block (hb.block _ (by rw [add_block]; omega) (by rw [add_block]; exact ho _ h1))).trans (h3 j hj)⟩
theorem props_bar {l : List P} (h : PropsAt w B A l) (hB : B ≤ w.heap.size) (ho : Off g A) (hb : Bar g w w') : PropsAt w' B A l := by
 rcases h with h | ⟨b, o, h1, h2, h3⟩
 ·exact .inl h
 ·exact .inr ⟨b, o, h1, h2, fun j hj => (h3 j hj).keep fun i => hb.cell (by omega) (ho _ h1)⟩
theorem fils_bar {l : List Fl} (h : FilsAt w B A l) (hB : B ≤ w.heap.size) (ho : Off g A) (hb : Bar g w w') : FilsAt w' B A l := by
 rcases h with h | ⟨b, o, h1, h2, h3⟩
 ·exact .inl h
 ·exact .inr ⟨b, o, h1, h2, fun j hj => (h3 j hj).keep fun i => hb.cell (by omega) (ho _ h1)⟩
end
structure PkOff (g : Nat) (a : Ad) : Prop where
 ca : Off g a.ca
 fa : Off g a.fa
 wa : Off g a.wa
 pa : Off g a.pa
theorem PkOff.zero (g : Nat) : PkOff g za := ⟨.none_ g, .none_ g, .none_ g, .none_ g⟩
structure PkNew (B : Nat) (a : Ad) : Prop where
 ca : New B a.ca
 fa : New B a.fa
 wa : New B a.wa
 pa : New B a.pa
theorem PkNew.zero (B : Nat) : PkNew B za := ⟨.none_ B, .none_ B, .none_ B, .none_ B⟩
theorem PkNew.off {B g : Nat} {a : Ad} (h : PkNew B a) (hg : g < B) : PkOff g a := ⟨h.ca.off hg, h.fa.off hg, h.wa.off hg, h.pa.off hg⟩
structure PkCap (p : Pk) (a : Ad) : Prop where
 cs : p.cs.length ≤ a.cc
 fs : p.fs.length ≤ a.fc
 ws : p.w.ps.length ≤ a.wc
 ps : p.ps.length ≤ a.pc
theorem pk_bar {g : Nat} {w w' : World} {p : Pk} {a : Ad} (h : PkAt w w.heap.size p a) (ho : PkOff g a) (hb : Bar g w w') : PkAt w' w'.heap.size p a :=
 PkAt.mono ⟨nums_bar h.cs (Nat.le_refl _) ho.ca hb, fils_bar h.fs (Nat.le_refl _) ho.fa hb, props_bar h.ws (Nat.le_refl _) ho.wa hb, props_bar h.ps (Nat.le_refl _) ho.pa hb⟩ hb.size
def Rd (w : World) (g : Nat) (s : ByteArray) (e : Int) : Prop := Box w g #[.string s, .int .i64 e]
theorem Rd.put1 {w : World} {g : Nat} {s : ByteArray} {e : Int} (h : Rd w g s e) (x : Int) : Rd (w.setCell ⟨g, 1, none⟩ (.int .i64 x)) g s x := h.put 1 _
theorem Rd.put0 {w : World} {g : Nat} {s : ByteArray} {e : Int} (h : Rd w g s e) (x : ByteArray) : Rd (w.setCell ⟨g, 0, none⟩ (.string x)) g x e := h.put 0 _
def firstE (e x : Int) : Int := if e = 0 then x else e
def RdOf (x : Bool) (w : World) (g : Nat) : St → Prop
 | .ok s => Rd w g s 0 ∧ s.size ≤ 268435456
 | .bad e => e ≠ 0 ∧ ∃ s, Rd w g s e ∧ s.size ≤ 268435456 ∧ (x = true → s = ⟨#[]⟩)
theorem RdOf.rd {x : Bool} {w : World} {g : Nat} {st : St} (h : RdOf x w g st) : ∃ s, Rd w g s st.err ∧ s.size ≤ 268435456 ∧ (st.isBad = false → st = .ok s) ∧ (st.isBad = true → st.err ≠ 0 ∧ st = .bad st.err) ∧ (x = true → st.rest = s) := by
 cases st with
 | ok s => exact ⟨s, h.1, h.2, fun _ => rfl, fun e => (by cases e), fun _ => rfl⟩
 | bad e =>
  obtain ⟨h0, s, h1, h2, h3⟩ := h
  exact ⟨s, h1, h2, fun e => (by cases e), fun _ => ⟨h0, rfl⟩, fun e => (h3 e).symm⟩
theorem RdOf.exact {w : World} {g : Nat} {st : St} (h : RdOf true w g st) : Rd w g st.rest st.err := by
 obtain ⟨s, h1, _, _, _, h2⟩ := h.rd
 rw [h2 rfl]
 exact h1
theorem RdOf.map {x : Bool} {w w' : World} {g : Nat} {st : St} (h : RdOf x w g st) (k : ∀ s e, Rd w g s e → Rd w' g s e) : RdOf x w' g st := by
 cases st with
 | ok s => exact ⟨k _ _ h.1, h.2⟩
 | bad e =>
  obtain ⟨h0, s, h1, h2, h3⟩ := h
  exact ⟨h0, s, k _ _ h1, h2, h3⟩
theorem RdOf.lt {x : Bool} {w : World} {g : Nat} {st : St} (h : RdOf x w g st) : g < w.heap.size := by
 obtain ⟨s, h, _⟩ := h.rd
 exact h.lt
theorem RdOf.wf {x : Bool} {w : World} {g : Nat} {st : St} (h : RdOf x w g st) : st.Wf := by
 cases st with
 | ok s => exact h.2
 | bad e => exact h.1
theorem RdOf.below {x : Bool} {w w' : World} {g : Nat} {st : St} (h : RdOf x w g st) (hb : Below w.heap.size w w') : RdOf x w' g st := h.map fun _ _ h => Box.below h hb
theorem own_room {w : World} {B e n c : Nat} {A : Option Addr} {xs : List Value} {sz : Nat} (h : w.ownsRow B e sz (.slice A n c) n xs) : n ≤ c := by
 rcases h.2 with ⟨hv, hn⟩ | ⟨g, cap, cur, hv, _, _, hle, _⟩
 ·omega
 ·injection hv with _ _ hc
  omega
def GivesNew (L : List P) (g : Nat) (s : ByteArray) (e : Int) (w : World) (r : Ending) (w' : World) : Prop :=
 ∃ A c, r = .returned (.slice A L.length c) ∧ L.length ≤ c ∧ New w.heap.size A ∧ PropsAt w' w'.heap.size A L ∧ Rd w' g s e ∧ Bar g w w'
def GivesSt (x : Bool) (L : List P) (g : Nat) (st : St) (w : World) (r : Ending) (w' : World) : Prop :=
 ∃ A c, r = .returned (.slice A L.length c) ∧ L.length ≤ c ∧ New w.heap.size A ∧ PropsAt w' w'.heap.size A L ∧ RdOf x w' g st ∧ Bar g w w'
@[irreducible] def Live (x : Bool) (B : Nat) (w0 : World) (g h : Nat) (st : St) (p : Pk) (a : Ad) (W : World) : Prop :=
 Below B w0 W ∧ B ≤ g ∧ B ≤ h ∧ g ≠ h ∧ RdOf x W g st ∧ Box W h (pkArr p a) ∧ PkAt W W.heap.size p a ∧ PkOff g a ∧ PkOff h a ∧ PkCap p a ∧ PkNew B a
section
variable {x : Bool} {B : Nat} {w0 : World} {g h : Nat} {st st' : St} {p p' : Pk} {a a' : Ad} {W W' : World}
theorem Live.mk (k : Below B w0 W ∧ B ≤ g ∧ B ≤ h ∧ g ≠ h ∧ RdOf x W g st ∧ Box W h (pkArr p a) ∧ PkAt W W.heap.size p a ∧ PkOff g a ∧ PkOff h a ∧ PkCap p a ∧ PkNew B a) : Live x B w0 g h st p a W := by unfold Live; exact k
theorem Live.out (k : Live x B w0 g h st p a W) : Below B w0 W ∧ B ≤ g ∧ B ≤ h ∧ g ≠ h ∧ RdOf x W g st ∧ Box W h (pkArr p a) ∧ PkAt W W.heap.size p a ∧ PkOff g a ∧ PkOff h a ∧ PkCap p a ∧ PkNew B a := by unfold Live at k; exact k
theorem Live.b (k : Live x B w0 g h st p a W) : Below B w0 W := k.out.1
theorem Live.rd (k : Live x B w0 g h st p a W) : RdOf x W g st := k.out.2.2.2.2.1
theorem Live.bx (k : Live x B w0 g h st p a W) : Box W h (pkArr p a) := k.out.2.2.2.2.2.1
theorem Live.at (k : Live x B w0 g h st p a W) : PkAt W W.heap.size p a := k.out.2.2.2.2.2.2.1
theorem Live.cap (k : Live x B w0 g h st p a W) : PkCap p a := k.out.2.2.2.2.2.2.2.2.2.1
theorem Live.new (k : Live x B w0 g h st p a W) : PkNew B a := k.out.2.2.2.2.2.2.2.2.2.2
theorem Live.wf (k : Live x B w0 g h st p a W) : st.Wf := k.rd.wf
theorem Live.bar (k : Live x B w0 g h st p a W) (hb : Bar g W W') (hr : RdOf x W' g st') : Live x B w0 g h st' p a W' := by
 obtain ⟨k1, k2, k3, k4, k5, k6, k7, k8, k9, k10, k11⟩ := k.out
 exact .mk ⟨Bar.below k1 hb k2 (by have := k5.lt; omega), k2, k3, k4, hr, hb.box k6 (fun e => k4 e.symm), pk_bar k7 k8 hb, k8, k9, k10, k11⟩
theorem Live.below (k : Live x B w0 g h st p a W) (hb : Below W.heap.size W W') : Live x B w0 g h st p a W' := k.bar (.of g hb) (k.rd.below hb)
theorem Live.drewN (k : Live x B w0 g h st p a W) (n : Nat) : Live x B w0 g h st p a (W.drewN n) := k.below (below_drewN (Below.refl _ _) n)
theorem Live.alloc (k : Live x B w0 g h st p a W) (o : Obj) : Live x B w0 g h st p a (W.alloc o) := k.below ((Below.refl _ _).alloc (Nat.le_refl _) _)
theorem Live.cell (k : Live x B w0 g h st p a W) (i : Nat) : W.cell? ⟨h, i, none⟩ = (pkArr p a)[i]? := k.bx.cell i
theorem Live.frozen (k : Live x B w0 g h st p a W) (i : Nat) : W.frozen? ⟨h, i, none⟩ = false := k.bx.frozen i
theorem Live.put (k : Live x B w0 g h st p a W) (i : Nat) (v : Value) (he : (pkArr p a).setIfInBounds i v = pkArr p' a') (hat : PkAt W W.heap.size p' a') (ho1 : PkOff g a') (ho2 : PkOff h a') (hc : PkCap p' a') (hn : PkNew B a') :
  Live x B w0 g h st p' a' (W.setCell ⟨h, i, none⟩ v) := by
 obtain ⟨k1, k2, k3, k4, k5, k6, k7, k8, k9, k10, k11⟩ := k.out
 refine .mk ⟨k1.setCell (p := ⟨h, i, none⟩) k3 v, k2, k3, k4, k5.map fun _ _ r => Box.far r k4 v, ?_, pk_bar hat ho2 (.set h W i v), ho1, ho2, hc, hn⟩
 rw [← he]
 exact k6.put i v
theorem Live.put1 (k : Live x B w0 g h st p a W) (i : Nat) (v : Value) (p' : Pk) (he : (pkArr p a).setIfInBounds i v = pkArr p' a) (h1 : p'.cs = p.cs) (h2 : p'.fs = p.fs) (h3 : p'.w.ps = p.w.ps) (h4 : p'.ps = p.ps) :
  Live x B w0 g h st p' a (W.setCell ⟨h, i, none⟩ v) := by
 obtain ⟨k1, k2, k3, k4, k5, k6, k7, k8, k9, k10, k11⟩ := k.out
 refine k.put i v he ?_ k8 k9 ?_ k11
 ·exact ⟨by rw [h1]; exact k7.cs, by rw [h2]; exact k7.fs, by rw [h3]; exact k7.ws, by rw [h4]; exact k7.ps⟩
 ·exact ⟨by rw [h1]; exact k10.cs, by rw [h2]; exact k10.fs, by rw [h3]; exact k10.ws, by rw [h4]; exact k10.ps⟩
theorem Live.props (k : Live x B w0 g h st p a W) {l : List P} {A : Option Addr} {c : Nat} (hl : PropsAt W W.heap.size A l) (ho : Off g A ∧ Off h A ∧ New B A) (hc : l.length ≤ c) :
  Live x B w0 g h st { p with ps := l } { a with pa := A, pc := c } (W.setCell ⟨h, 24, none⟩ (.slice A l.length c)) := by
 obtain ⟨k1, k2, k3, k4, k5, k6, k7, k8, k9, k10, k11⟩ := k.out
 exact k.put 24 _ rfl ⟨k7.cs, k7.fs, k7.ws, hl⟩ ⟨k8.ca, k8.fa, k8.wa, ho.1⟩ ⟨k9.ca, k9.fa, k9.wa, ho.2.1⟩ ⟨k10.cs, k10.fs, k10.ws, hc⟩ ⟨k11.ca, k11.fa, k11.wa, ho.2.2⟩
theorem Live.wprops (k : Live x B w0 g h st p a W) {l : List P} {A : Option Addr} {c : Nat} (hl : PropsAt W W.heap.size A l) (ho : Off g A ∧ Off h A ∧ New B A) (hc : l.length ≤ c) :
  Live x B w0 g h st { p with w := { p.w with ps := l } } { a with wa := A, wc := c } (W.setCell ⟨h, 19, none⟩ (.slice A l.length c)) := by
 obtain ⟨k1, k2, k3, k4, k5, k6, k7, k8, k9, k10, k11⟩ := k.out
 exact k.put 19 _ rfl ⟨k7.cs, k7.fs, hl, k7.ps⟩ ⟨k8.ca, k8.fa, ho.1, k8.pa⟩ ⟨k9.ca, k9.fa, ho.2.1, k9.pa⟩ ⟨k10.cs, k10.fs, hc, k10.ps⟩ ⟨k11.ca, k11.fa, ho.2.2, k11.pa⟩
theorem Live.codes (k : Live x B w0 g h st p a W) {l : List Int} {A : Option Addr} {c : Nat} (hl : Nums W W.heap.size .i64 A l) (ho : Off g A ∧ Off h A ∧ New B A) (hc : l.length ≤ c) :
  Live x B w0 g h st { p with cs := l } { a with ca := A, cc := c } (W.setCell ⟨h, 9, none⟩ (.slice A l.length c)) := by
 obtain ⟨k1, k2, k3, k4, k5, k6, k7, k8, k9, k10, k11⟩ := k.out
 exact k.put 9 _ rfl ⟨hl, k7.fs, k7.ws, k7.ps⟩ ⟨ho.1, k8.fa, k8.wa, k8.pa⟩ ⟨ho.2.1, k9.fa, k9.wa, k9.pa⟩ ⟨hc, k10.fs, k10.ws, k10.ps⟩ ⟨ho.2.2, k11.fa, k11.wa, k11.pa⟩
theorem Live.filters (k : Live x B w0 g h st p a W) {l : List Fl} {A : Option Addr} {c : Nat} (hl : FilsAt W W.heap.size A l) (ho : Off g A ∧ Off h A ∧ New B A) (hc : l.length ≤ c) :
  Live x B w0 g h st { p with fs := l } { a with fa := A, fc := c } (W.setCell ⟨h, 10, none⟩ (.slice A l.length c)) := by
 obtain ⟨k1, k2, k3, k4, k5, k6, k7, k8, k9, k10, k11⟩ := k.out
 exact k.put 10 _ rfl ⟨k7.cs, hl, k7.ws, k7.ps⟩ ⟨k8.ca, ho.1, k8.wa, k8.pa⟩ ⟨k9.ca, ho.2.1, k9.wa, k9.pa⟩ ⟨k10.cs, hc, k10.ws, k10.ps⟩ ⟨k11.ca, ho.2.2, k11.wa, k11.pa⟩
theorem Live.off (k : Live x B w0 g h st p a W) {A : Option Addr} (hn : New W.heap.size A) : Off g A ∧ Off h A ∧ New B A :=
 ⟨hn.off k.rd.lt, hn.off k.bx.lt, hn.mono (by have h1 := k.out.2.1; have h2 := k.rd.lt; omega)⟩
end
def Done (x : Bool) (B : Nat) (w0 : World) (g h : Nat) (R : Pk × St) (r : Ending) (w' : World) : Prop :=
 r = .returned (.tuple #[]) ∧ ∃ p' a', Live x B w0 g h R.2 p' a' w' ∧ (R.2.isBad = false → p' = R.1)
theorem size_facts {s : ByteArray} (h : s.size ≠ 0) : ¬ s = ByteArray.empty ∧ s.toList.isEmpty = false := by
 have hne : ¬ s = ByteArray.empty := fun e0 => by subst e0; simp at h
 have hne2 : ¬ s.toList = [] := fun e0 => hne (by rw [show (ByteArray.empty : ByteArray) = ⟨#[]⟩ from rfl]; exact (toList_eq_iff s ⟨#[]⟩).1 (by rw [e0, ByteArray.toList_eq]))
 refine ⟨hne, ?_⟩
 cases hh : s.toList with
 | nil => exact absurd hh hne2
 | cons => rfl
theorem more_run {st : St} (h : st.more = true) : ∃ v s, st.run octetR = .ok v s := by
 unfold St.more at h
 have h := of_decide_eq_true h
 cases st with
 | bad e => exact absurd rfl h
 | ok s =>
  have h' : s.size ≠ 0 := h
  refine ⟨(Vbi.fixVal (s.data.toList.take 1) : Nat), s.extract 1 s.size, ?_⟩
  show fixR 1 s = _
  unfold fixR
  rw [if_neg (by omega)]
open Go.RowKit Go.Lib Prp Pkt Vbi
theorem fail_is (g : Nat) (s : ByteArray) (e x : Int) (w : World) (h : Rd w g s e) :
  Calls Tryz.prog 103 #[.pointer (some ⟨g, 0, none⟩), .int .i64 x] w fun r w' => r = .returned (.tuple #[]) ∧ Rd w' g ⟨#[]⟩ (firstE e x) ∧ Bar g w w' := by
 have H := Lib.hid h
 have c0 := h.cell 0
 have f0 := h.frozen 0
 have c1 := h.cell 1
 have f1 := h.frozen 1
 clear h
 by_cases he : e = 0
 ·have HF : Hid (firstE e x = x) := by show _ = _; unfold firstE; rw [if_pos he]
  subst he
  go_enter Tryz.func103, Tryz.ntmps103
  go_wp2_with fail
  refine bodyPost_end (v := .tuple #[]) (by simp [results, Tryz.results103]) rfl ⟨rfl, ?_, ?_⟩
  ·rw [HF.out]; exact (H.out.put1 x).put0 _
  ·exact (Bar.set g _ 1 _).trans (Bar.set g _ 0 _)
 ·have HF : Hid (firstE e x = e) := by show _ = _; unfold firstE; rw [if_neg he]
  go_enter Tryz.func103, Tryz.ntmps103
  go_wp2_with fail
  refine bodyPost_end (v := .tuple #[]) (by simp [results, Tryz.results103]) rfl ⟨rfl, ?_, ?_⟩
  ·rw [HF.out]; exact H.out.put0 _
  ·exact Bar.set g _ 0 _
theorem fail_st (g : Nat) (st : St) (x : Int) (w : World) (hx : x ≠ 0) (h : RdOf true w g st) :
  Calls Tryz.prog 103 #[.pointer (some ⟨g, 0, none⟩), .int .i64 x] w fun r w' => r = .returned (.tuple #[]) ∧ RdOf true w' g (st.want false x) ∧ Bar g w w' := by
 cases st with
 | ok s =>
  refine (fail_is g s 0 x w h.1).mono ?_
  rintro r w' ⟨rfl, h1, h2⟩
  exact ⟨rfl, ⟨hx, ⟨#[]⟩, h1, Nat.zero_le _, fun _ => rfl⟩, h2⟩
 | bad e =>
  obtain ⟨h0, s, h1, h2, h3⟩ := h
  refine (fail_is g s e x w h1).mono ?_
  rintro r w' ⟨rfl, k1, k2⟩
  have : firstE e x = e := by unfold firstE; rw [if_neg h0]
  rw [this] at k1
  exact ⟨rfl, ⟨h0, ⟨#[]⟩, k1, Nat.zero_le _, fun _ => rfl⟩, k2⟩
def nxS (k e : Int) (s : ByteArray) : ByteArray := if e = 0 then s.extract k.toNat s.size else ⟨#[]⟩
def nxE (e0 e : Int) : Int := if e = 0 then e0 else firstE e0 (inn e)
def Gets (G : Nat) (s : ByteArray) (v : Value) (k e : Int) : Prop := ∀ W : World, (callFunc G #[.string s]).run Tryz.prog W = .ok (.enter G #[.string s]) W ∧ Calls Tryz.prog G #[.string s] W fun r w' => r = .returned (.tuple #[v, .int .i64 k, .int .i64 e]) ∧ Below W.heap.size W w'
theorem next_int (G g : Nat) (s : ByteArray) (e0 v k e : Int) (w : World) (hT : Gets G s (.int .i64 v) k e) (hk : e = 0 → 0 ≤ k ∧ k ≤ (s.size : Int)) (h : Rd w g s e0) :
  Calls Tryz.prog 122 #[.pointer (some ⟨g, 0, none⟩), .func (.func G) #[] #[]] w fun r w' => r = .returned (.int .i64 v) ∧ Rd w' g (nxS k e s) (nxE e0 e) ∧ Bar g w w' := by
 have H := Lib.hid h
 have HT := Lib.hid (fun W => (hT W).2)
 have hcf : ∀ W : World, (callFunc G #[.string s]).run Tryz.prog W = .ok (.enter G #[.string s]) W := fun W => (hT W).1
 have c0 := h.cell 0
 clear h hT
 by_cases he : e = 0
 ·subst he
  obtain ⟨m, rfl⟩ : ∃ m : Nat, k = (m : Int) := ⟨k.toNat, by have := hk rfl; omega⟩
  have hm : (m : Int) ≤ (s.size : Int) := (hk rfl).2
  have HS : Hid (nxS (m : Int) 0 s = s.extract m s.size) := rfl
  have HE : Hid (nxE e0 0 = e0) := rfl
  clear hk
  go_enter Tryz.func122, Tryz.ntmps122
  go_wp2_with fail
  refine (HT.out _).mono ?_
  rintro r w1 ⟨rfl, hb⟩
  have H1 : Hid (Rd w1 g s e0) := Lib.hid (Box.below H.out hb)
  have HB := Lib.hid hb
  clear hb c0 H
  have c0 := H1.out.cell 0
  have f0 := H1.out.frozen 0
  go_wp2_with fail
  go_ret
  exact ⟨rfl, by rw [HS.out, HE.out]; exact H1.out.put0 _, (Bar.of g HB.out).trans (Bar.set g _ 0 _)⟩
 ·have HS : Hid (nxS k e s = ⟨#[]⟩) := by show _ = _; unfold nxS; rw [if_neg he]
  have HE : Hid (nxE e0 e = firstE e0 (inn e)) := by show _ = _; unfold nxE; rw [if_neg he]
  clear hk
  have HF := Lib.hid (fun (W : World) (x : Int) (h : Rd W g s e0) => fail_is g s e0 x W h)
  by_cases h7 : e = 7
  ·subst h7
   go_enter Tryz.func122, Tryz.ntmps122
   go_wp2_with fail
   refine (HT.out _).mono ?_
   rintro r w1 ⟨rfl, hb⟩
   have H1 : Hid (Rd w1 g s e0) := Lib.hid (Box.below H.out hb)
   have HB := Lib.hid hb
   clear hb c0 H
   go_wp2_with fail
   refine (HF.out _ _ H1.out).mono ?_
   rintro r w2 ⟨rfl, h1, h2⟩
   have HA := Lib.hid h1
   have HB2 := Lib.hid h2
   clear h1 h2
   go_wp2_with fail
   go_ret
   exact ⟨rfl, by rw [HS.out, HE.out]; exact HA.out, (Bar.of g HB.out).trans HB2.out⟩
  ·have e0b : (e == 0) = false := ne_false he
   have e7b : (e == 7) = false := ne_false h7
   have e0n : (e != 0) = true := ne_true he
   have HI : Hid (inn e = e) := by show _ = _; unfold inn; rw [if_neg h7]
   go_enter Tryz.func122, Tryz.ntmps122
   go_wp2_with fail
   refine (HT.out _).mono ?_
   rintro r w1 ⟨rfl, hb⟩
   have H1 : Hid (Rd w1 g s e0) := Lib.hid (Box.below H.out hb)
   have HB := Lib.hid hb
   clear hb c0 H
   go_wp2_with fail
   refine (HF.out _ _ H1.out).mono ?_
   rintro r w2 ⟨rfl, h1, h2⟩
   have HA := Lib.hid h1
   have HB2 := Lib.hid h2
   clear h1 h2
   go_wp2_with fail
   go_ret
   exact ⟨rfl, by rw [HS.out, HE.out, HI.out]; exact HA.out, (Bar.of g HB.out).trans HB2.out⟩
theorem next_str (G g : Nat) (s : ByteArray) (v : ByteArray) (e0 k e : Int) (w : World) (hT : Gets G s (.string v) k e) (hk : e = 0 → 0 ≤ k ∧ k ≤ (s.size : Int)) (h : Rd w g s e0) :
  Calls Tryz.prog 147 #[.pointer (some ⟨g, 0, none⟩), .func (.func G) #[] #[]] w fun r w' => r = .returned (.string v) ∧ Rd w' g (nxS k e s) (nxE e0 e) ∧ Bar g w w' := by
 have H := Lib.hid h
 have HT := Lib.hid (fun W => (hT W).2)
 have hcf : ∀ W : World, (callFunc G #[.string s]).run Tryz.prog W = .ok (.enter G #[.string s]) W := fun W => (hT W).1
 have c0 := h.cell 0
 clear h hT
 by_cases he : e = 0
 ·subst he
  obtain ⟨m, rfl⟩ : ∃ m : Nat, k = (m : Int) := ⟨k.toNat, by have := hk rfl; omega⟩
  have hm : (m : Int) ≤ (s.size : Int) := (hk rfl).2
  have HS : Hid (nxS (m : Int) 0 s = s.extract m s.size) := rfl
  have HE : Hid (nxE e0 0 = e0) := rfl
  clear hk
  go_enter Tryz.func147, Tryz.ntmps147
  go_wp2_with fail
  refine (HT.out _).mono ?_
  rintro r w1 ⟨rfl, hb⟩
  have H1 : Hid (Rd w1 g s e0) := Lib.hid (Box.below H.out hb)
  have HB := Lib.hid hb
  clear hb c0 H
  have c0 := H1.out.cell 0
  have f0 := H1.out.frozen 0
  go_wp2_with fail
  go_ret
  exact ⟨rfl, by rw [HS.out, HE.out]; exact H1.out.put0 _, (Bar.of g HB.out).trans (Bar.set g _ 0 _)⟩
 ·have HS : Hid (nxS k e s = ⟨#[]⟩) := by show _ = _; unfold nxS; rw [if_neg he]
  have HE : Hid (nxE e0 e = firstE e0 (inn e)) := by show _ = _; unfold nxE; rw [if_neg he]
  clear hk
  have HF := Lib.hid (fun (W : World) (x : Int) (h : Rd W g s e0) => fail_is g s e0 x W h)
  by_cases h7 : e = 7
  ·subst h7
   go_enter Tryz.func147, Tryz.ntmps147
   go_wp2_with fail
   refine (HT.out _).mono ?_
   rintro r w1 ⟨rfl, hb⟩
   have H1 : Hid (Rd w1 g s e0) := Lib.hid (Box.below H.out hb)
   have HB := Lib.hid hb
   clear hb c0 H
   go_wp2_with fail
   refine (HF.out _ _ H1.out).mono ?_
   rintro r w2 ⟨rfl, h1, h2⟩
   have HA := Lib.hid h1
   have HB2 := Lib.hid h2
   clear h1 h2
   go_wp2_with fail
   go_ret
   exact ⟨rfl, by rw [HS.out, HE.out]; exact HA.out, (Bar.of g HB.out).trans HB2.out⟩
  ·have e0b : (e == 0) = false := ne_false he
   have e7b : (e == 7) = false := ne_false h7
   have e0n : (e != 0) = true := ne_true he
   have HI : Hid (inn e = e) := by show _ = _; unfold inn; rw [if_neg h7]
   go_enter Tryz.func147, Tryz.ntmps147
   go_wp2_with fail
   refine (HT.out _).mono ?_
   rintro r w1 ⟨rfl, hb⟩
   have H1 : Hid (Rd w1 g s e0) := Lib.hid (Box.below H.out hb)
   have HB := Lib.hid hb
   clear hb c0 H
   go_wp2_with fail
   refine (HF.out _ _ H1.out).mono ?_
   rintro r w2 ⟨rfl, h1, h2⟩
   have HA := Lib.hid h1
   have HB2 := Lib.hid h2
   clear h1 h2
   go_wp2_with fail
   go_ret
   exact ⟨rfl, by rw [HS.out, HE.out, HI.out]; exact HA.out, (Bar.of g HB.out).trans HB2.out⟩
open Go.RowKit Go.Lib Prp Pkt Vbi
theorem empty_size : (⟨#[]⟩ : ByteArray).size = 0 := rfl
theorem nx_ok {α : Type} {w' : World} {g : Nat} {s : ByteArray} {k e : Int} {v z : α} {R : Res α} (hs : s.size ≤ 268435456) (h : Rd w' g (nxS k e s) (nxE 0 e)) (hR : R = if e = 0 then .ok v (s.extract k.toNat s.size) else .bad (inn e)) (hz : e ≠ 0 → v = z) :
  v = R.val z ∧ RdOf true w' g R.st := by
 by_cases he : e = 0
 ·rw [if_pos he] at hR
  subst he hR
  exact ⟨rfl, h, by rw [ByteArray.size_extract]; omega⟩
 ·rw [if_neg he] at hR
  subst hR
  have e1 : nxS k e s = ⟨#[]⟩ := by unfold nxS; rw [if_neg he]
  have e2 : nxE 0 e = inn e := by unfold nxE firstE; rw [if_neg he, if_pos rfl]
  rw [e1, e2] at h
  exact ⟨hz he, inn_ne he, _, h, by rw [empty_size]; omega, fun _ => rfl⟩
theorem nx_bad {w' : World} {g : Nat} {e0 k e : Int} {s : ByteArray} (h0 : e0 ≠ 0) (he : e ≠ 0) (h : Rd w' g (nxS k e s) (nxE e0 e)) : RdOf true w' g (.bad e0) := by
 have e1 : nxS k e s = ⟨#[]⟩ := by unfold nxS; rw [if_neg he]
 have e2 : nxE e0 e = e0 := by unfold nxE firstE; rw [if_neg he, if_neg h0]
 rw [e1, e2] at h
 exact ⟨h0, _, h, by rw [empty_size]; omega, fun _ => rfl⟩
def ocV (s : ByteArray) : Int := if s.size < 1 then 0 else (fixVal (s.data.toList.take 1) : Nat)
theorem takeOctet_gets (s : ByteArray) (hs : s.size ≤ 268435456) : ∃ k, Gets 149 s (.int .i64 (ocV s)) k (if s.size < 1 then 7 else 0) ∧ (¬ s.size < 1 → k = 1) := by
 by_cases h : s.size < 1
 ·have h0 : s = ByteArray.empty := ByteArray.size_eq_zero_iff.1 (by omega)
  have e1 : ocV s = 0 := by unfold ocV; rw [if_pos h]
  rw [e1, if_pos h]
  refine ⟨0, fun W => ⟨by go_simp, ?_⟩, fun hn => absurd h hn⟩
  clear h hs e1
  subst h0
  go_enter Tryz.func149, Tryz.ntmps149
  go_wp2_with fail
  go_ret3
  exact ⟨rfl, Below.refl _ _⟩
 ·have hne : ¬ s = ByteArray.empty := fun e0 => by subst e0; simp at h
  have hne2 : ¬ s.toList = [] := fun e0 => hne (by rw [show (ByteArray.empty : ByteArray) = ⟨#[]⟩ from rfl]; exact (toList_eq_iff s ⟨#[]⟩).1 (by rw [e0, ByteArray.toList_eq]))
  have hne3 : s.toList.isEmpty = false := by cases hh : s.toList with
   | nil => exact absurd hh hne2
   | cons => rfl
  have hl : 0 < s.size := by omega
  obtain ⟨b, hb⟩ : ∃ b, s[0] = b := ⟨_, rfl⟩
  have e1 : ocV s = (b.toNat : Int) := by
   unfold ocV
   rw [if_neg h]
   have hd := data_at s 0 (by omega)
   rw [List.drop_zero] at hd
   rw [hd, List.take_succ_cons, List.take_zero, ← hb]
   show ((0 * 256 + _ : Nat) : Int) = _
   rw [Nat.zero_mul, Nat.zero_add]
  rw [e1, if_neg h]
  refine ⟨1, fun W => ⟨by go_simp, ?_⟩, fun _ => rfl⟩
  have hlt := b.toNat_lt
  clear e1 h
  go_enter Tryz.func149, Tryz.ntmps149
  go_wp2_with fail
  go_ret3
  exact ⟨rfl, Below.refl _ _⟩
theorem octetR_eq (s : ByteArray) (k : Int) (hk : ¬ s.size < 1 → k = 1) : octetR s = if (if s.size < 1 then (7 : Int) else 0) = 0 then .ok (ocV s) (s.extract k.toNat s.size) else .bad (inn (if s.size < 1 then 7 else 0)) := by
 unfold octetR fixR ocV
 by_cases h : s.size < 1
 ·rw [if_pos h, if_pos h, if_neg (by decide)]; rfl
 ·rw [if_neg h, if_neg h, if_neg h, if_pos rfl, hk h]; rfl
def NextInt (F : Value) (f : ByteArray → Res Int) : Prop := ∀ (g : Nat) (st : St) (w : World), RdOf true w g st →
 Calls Tryz.prog 122 #[.pointer (some ⟨g, 0, none⟩), F] w fun r w' => r = .returned (.int .i64 ((st.run f).val 0)) ∧ RdOf true w' g (st.run f).st ∧ Bar g w w'
def NextStr (F : Value) (f : ByteArray → Res ByteArray) : Prop := ∀ (g : Nat) (st : St) (w : World), RdOf true w g st →
 Calls Tryz.prog 147 #[.pointer (some ⟨g, 0, none⟩), F] w fun r w' => r = .returned (.string ((st.run f).val ⟨#[]⟩)) ∧ RdOf true w' g (st.run f).st ∧ Bar g w w'
theorem nextInt_of (G : Nat) (f : ByteArray → Res Int) (V : ByteArray → Int) (E : ByteArray → Int) (h0 : E ⟨#[]⟩ ≠ 0) (hz : ∀ s, E s ≠ 0 → V s = 0)
  (h : ∀ s : ByteArray, s.size ≤ 268435456 → ∃ k, Gets G s (.int .i64 (V s)) k (E s) ∧ (E s = 0 → 0 ≤ k ∧ k ≤ (s.size : Int)) ∧ f s = if E s = 0 then .ok (V s) (s.extract k.toNat s.size) else .bad (inn (E s))) :
  NextInt (.func (.func G) #[] #[]) f := by
 intro g st w hr
 cases st with
 | ok s =>
  obtain ⟨k, hg, hk, hf⟩ := h s hr.2
  refine (next_int G g s 0 (V s) k (E s) w hg hk hr.1).mono ?_
  rintro r w' ⟨rfl, h1, h2⟩
  obtain ⟨a1, a2⟩ := nx_ok (z := 0) hr.2 h1 hf (hz s)
  exact ⟨by rw [a1]; rfl, a2, h2⟩
 | bad e0 =>
  obtain ⟨h0', s, h1, h2, h3⟩ := hr
  obtain rfl := h3 rfl
  obtain ⟨k, hg, hk, hf⟩ := h ⟨#[]⟩ (by rw [empty_size]; omega)
  refine (next_int G g ⟨#[]⟩ e0 (V ⟨#[]⟩) k (E ⟨#[]⟩) w hg hk h1).mono ?_
  rintro r w' ⟨rfl, k1, k2⟩
  exact ⟨by rw [hz _ h0]; rfl, nx_bad h0' h0 k1, k2⟩
theorem nextStr_of (G : Nat) (f : ByteArray → Res ByteArray) (V : ByteArray → ByteArray) (E : ByteArray → Int) (h0 : E ⟨#[]⟩ ≠ 0) (hz : ∀ s, E s ≠ 0 → V s = ⟨#[]⟩)
  (h : ∀ s : ByteArray, s.size ≤ 268435456 → ∃ k, Gets G s (.string (V s)) k (E s) ∧ (E s = 0 → 0 ≤ k ∧ k ≤ (s.size : Int)) ∧ f s = if E s = 0 then .ok (V s) (s.extract k.toNat s.size) else .bad (inn (E s))) :
  NextStr (.func (.func G) #[] #[]) f := by
 intro g st w hr
 cases st with
 | ok s =>
  obtain ⟨k, hg, hk, hf⟩ := h s hr.2
  refine (next_str G g s (V s) 0 k (E s) w hg hk hr.1).mono ?_
  rintro r w' ⟨rfl, h1, h2⟩
  obtain ⟨a1, a2⟩ := nx_ok (z := (⟨#[]⟩ : ByteArray)) hr.2 h1 hf (hz s)
  exact ⟨by rw [a1]; rfl, a2, h2⟩
 | bad e0 =>
  obtain ⟨h0', s, h1, h2, h3⟩ := hr
  obtain rfl := h3 rfl
  obtain ⟨k, hg, hk, hf⟩ := h ⟨#[]⟩ (by rw [empty_size]; omega)
  refine (next_str G g ⟨#[]⟩ (V ⟨#[]⟩) e0 k (E ⟨#[]⟩) w hg hk h1).mono ?_
  rintro r w' ⟨rfl, k1, k2⟩
  exact ⟨by rw [hz _ h0]; rfl, nx_bad h0' h0 k1, k2⟩
theorem octet_next : NextInt (.func (.func 149) #[] #[]) octetR := by
 refine nextInt_of _ _ ocV (fun s => if s.size < 1 then 7 else 0) (by decide) (fun s h => ?_) (fun s hs => ?_)
 ·unfold ocV
  by_cases c : s.size < 1
  ·rw [if_pos c]
  ·exact absurd (if_neg c) h
 ·obtain ⟨k, hg, hk⟩ := takeOctet_gets s hs
  refine ⟨k, hg, fun he => ?_, octetR_eq s k hk⟩
  by_cases c : s.size < 1
  ·rw [if_pos c] at he; cases he
  ·rw [hk c]; omega
theorem tf_both (s : ByteArray) : tfErr 2 s.data.toList = (if s.size < 2 then 7 else 0) ∧ tfVal 2 s.data.toList = (if s.size < 2 then 0 else ((fixVal (s.data.toList.take 2) : Nat) : Int)) := by
 unfold tfErr tfVal
 rw [← Lib.size_eq]
 exact ⟨rfl, rfl⟩
theorem takeShort_gets (s : ByteArray) (a e : Int) (hs : s.size ≤ 268435456) (h1 : tfVal 2 s.data.toList = a) (h2 : tfErr 2 s.data.toList = e) : Gets 145 s (.int .i64 a) 2 e := by
 intro W
 refine ⟨by go_simp, ?_⟩
 have HT := Lib.hid (fun W => TakeTwo_z s a e W (by omega) h1 h2)
 clear h1 h2
 go_enter Tryz.func145, Tryz.ntmps145
 go_wp2_with fail
 refine (HT.out _).mono ?_
 rintro r w1 ⟨rfl, rfl⟩
 go_wp2_with fail
 go_ret3
 exact ⟨rfl, Below.refl _ _⟩
theorem takeNumber_gets (s : ByteArray) (a e : Int) (hs : s.size ≤ 268435456) (h1 : tfVal 2 s.data.toList = a) (h2 : tfErr 2 s.data.toList = e) : Gets 123 s (.int .i64 a) 2 (if e = 0 ∧ a = 0 then 8 else e) := by
 intro W
 refine ⟨by go_simp, ?_⟩
 have HT := Lib.hid (fun W => (takeShort_gets s a e hs h1 h2 W).2)
 clear h1 h2
 by_cases he : e = 0
 ·subst he
  by_cases ha : a = 0
  ·subst ha
   rw [if_pos ⟨rfl, rfl⟩]
   go_enter Tryz.func123, Tryz.ntmps123
   go_wp2_with fail
   refine (HT.out _).mono ?_
   rintro r w1 ⟨rfl, hb⟩
   have HB := Lib.hid hb
   clear hb
   go_wp2_with fail
   go_ret3
   exact ⟨rfl, HB.out⟩
  ·rw [if_neg (fun x => ha x.2)]
   have hab := ne_false ha
   go_enter Tryz.func123, Tryz.ntmps123
   go_wp2_with fail
   refine (HT.out _).mono ?_
   rintro r w1 ⟨rfl, hb⟩
   have HB := Lib.hid hb
   clear hb
   go_wp2_with fail
   go_ret3
   exact ⟨rfl, HB.out⟩
 ·rw [if_neg (fun x => he x.1)]
  have heb := ne_false he
  go_enter Tryz.func123, Tryz.ntmps123
  go_wp2_with fail
  refine (HT.out _).mono ?_
  rintro r w1 ⟨rfl, hb⟩
  have HB := Lib.hid hb
  clear hb
  go_wp2_with fail
  go_ret3
  exact ⟨rfl, HB.out⟩
def shV (s : ByteArray) : Int := if s.size < 2 then 0 else (fixVal (s.data.toList.take 2) : Nat)
theorem short_next : NextInt (.func (.func 145) #[] #[]) shortR := by
 refine nextInt_of _ _ shV (fun s => if s.size < 2 then 7 else 0) (by decide) (fun s h => ?_) (fun s hs => ?_)
 ·unfold shV
  by_cases c : s.size < 2
  ·rw [if_pos c]
  ·exact absurd (if_neg c) h
 ·refine ⟨2, takeShort_gets s _ _ hs (tf_both s).2 (tf_both s).1, fun he => ?_, ?_⟩
  ·by_cases c : s.size < 2
   ·rw [if_pos c] at he; cases he
   ·omega
  ·unfold shortR fixR shV
   by_cases h : s.size < 2
   ·rw [if_pos h, if_pos h, if_neg (by decide)]; rfl
   ·rw [if_neg h, if_neg h, if_neg h, if_pos rfl]; rfl
def nuE (s : ByteArray) : Int := if s.size < 2 then 7 else if fixVal (s.data.toList.take 2) = 0 then 8 else 0
theorem nuE_eq (s : ByteArray) : (if tfErr 2 s.data.toList = 0 ∧ tfVal 2 s.data.toList = 0 then 8 else tfErr 2 s.data.toList) = nuE s := by
 rw [(tf_both s).1, (tf_both s).2]
 unfold nuE
 by_cases c : s.size < 2
 ·rw [if_pos c, if_pos c, if_pos c, if_neg (by decide)]
 ·rw [if_neg c, if_neg c, if_neg c]
  by_cases d : fixVal (s.data.toList.take 2) = 0
  ·rw [if_pos d, if_pos ⟨rfl, by rw [d]; rfl⟩]
  ·rw [if_neg d, if_neg (fun x => d (by have := x.2; omega))]
theorem number_next : NextInt (.func (.func 123) #[] #[]) numberR := by
 refine nextInt_of _ _ shV nuE (by decide) (fun s h => ?_) (fun s hs => ?_)
 ·unfold nuE at h
  unfold shV
  by_cases c : s.size < 2
  ·rw [if_pos c]
  ·rw [if_neg c] at h ⊢
   by_cases d : fixVal (s.data.toList.take 2) = 0
   ·rw [d]; rfl
   ·rw [if_neg d] at h; exact absurd rfl h
 ·refine ⟨2, by rw [← nuE_eq]; exact (show shV s = tfVal 2 s.data.toList from (tf_both s).2.symm) ▸ takeNumber_gets s _ _ hs rfl rfl, fun he => ?_, ?_⟩
  ·unfold nuE at he
   by_cases c : s.size < 2
   ·rw [if_pos c] at he; cases he
   ·omega
  ·unfold numberR shV nuE
   by_cases h : s.size < 2
   ·rw [if_pos h, if_pos h, if_pos h, if_neg (by decide)]; rfl
   ·rw [if_neg h, if_neg h, if_neg h]
    by_cases d : fixVal (s.data.toList.take 2) = 0
    ·rw [if_pos d, if_pos d, if_neg (by decide)]; rfl
    ·rw [if_neg d, if_neg d, if_pos rfl]; rfl
theorem tl_k {t : Bool} {s : ByteArray} (h : (tl t s).2.2 = 0) : 0 ≤ (tl t s).2.1 ∧ (tl t s).2.1 ≤ (s.size : Int) := by
 obtain ⟨m, h1, h2, _⟩ := tl_took h
 rw [h1]; omega
theorem tl_none (t : Bool) : (tl t ⟨#[]⟩).2.2 ≠ 0 := fun h => by
 obtain ⟨m, h1, h2, _⟩ := tl_took h
 rw [empty_size] at h2
 omega
theorem text_next : NextStr (.func (.func 163) #[] #[]) (longR true) := by
 refine nextStr_of _ _ (fun s => (tl true s).1) (fun s => (tl true s).2.2) (tl_none true) (fun s h => (tl_not h).1) (fun s hs => ?_)
 exact ⟨(tl true s).2.1, fun W => ⟨by go_simp, TakeText_is s _ _ _ W (by omega) rfl⟩, tl_k, rfl⟩
theorem bin_next : NextStr (.func (.func 148) #[] #[]) (longR false) := by
 refine nextStr_of _ _ (fun s => (tl false s).1) (fun s => (tl false s).2.2) (tl_none false) (fun s h => (tl_not h).1) (fun s hs => ?_)
 exact ⟨(tl false s).2.1, fun W => ⟨by go_simp, TakeBin_is s _ _ _ W (by omega) (by rw [tl_false])⟩, tl_k, rfl⟩
theorem words_st (g : Nat) (st : St) (w : World) (h : RdOf true w g st) :
  Calls Tryz.prog 146 #[.pointer (some ⟨g, 0, none⟩)] w fun r w' => r = .returned (.string ((st.run (longR true)).val ⟨#[]⟩)) ∧ RdOf true w' g (st.run (longR true)).st ∧ Bar g w w' := by
 have HT := Lib.hid (text_next g st w h)
 go_enter Tryz.func146, Tryz.ntmps146
 go_wp2_with fail
 refine HT.out.mono ?_
 rintro r w1 ⟨rfl, h1, h2⟩
 go_wp2_with fail
 go_ret
 exact ⟨rfl, h1, h2⟩
theorem octet_st (g : Nat) (st : St) (w : World) (h : RdOf true w g st) :
  Calls Tryz.prog 119 #[.pointer (some ⟨g, 0, none⟩)] w fun r w' => r = .returned (.int .i64 ((st.run octetR).val 0)) ∧ RdOf true w' g (st.run octetR).st ∧ Bar g w w' := by
 have HT := Lib.hid (octet_next g st w h)
 go_enter Tryz.func119, Tryz.ntmps119
 go_wp2_with fail
 refine HT.out.mono ?_
 rintro r w1 ⟨rfl, h1, h2⟩
 go_wp2_with fail
 go_ret
 exact ⟨rfl, h1, h2⟩
theorem yes_st (g : Nat) (st : St) (w : World) (h : RdOf true w g st) :
  Calls Tryz.prog 118 #[.pointer (some ⟨g, 0, none⟩)] w fun r w' => r = .returned (.bool (decide ((st.run octetR).val 0 = 1))) ∧ RdOf true w' g ((st.run octetR).st.want (decide ((st.run octetR).val 0 ≤ 1)) 8) ∧ Bar g w w' := by
 have HO := octet_st g st w h
 obtain ⟨n, hn⟩ : ∃ n, (st.run octetR).val 0 = n := ⟨_, rfl⟩
 obtain ⟨s1, hs1⟩ : ∃ s1, (st.run octetR).st = s1 := ⟨_, rfl⟩
 rw [hn, hs1] at HO
 rw [hn, hs1]
 have HT := Lib.hid HO
 clear HO hn hs1
 by_cases h1 : n ≤ 1
 ·have HW : Hid (s1.want (decide (n ≤ 1)) 8 = s1) := by show _ = _; rw [decide_eq_true h1, want_true]
  have hg : ¬ 1 < n := by omega
  go_enter Tryz.func118, Tryz.ntmps118
  go_wp2_with fail
  refine HT.out.mono ?_
  rintro r w1 ⟨rfl, k1, k2⟩
  have HR := Lib.hid k1
  have HB := Lib.hid k2
  clear k1 k2
  go_wp2_with fail
  go_ret
  refine ⟨ret_bool ?_, by rw [HW.out]; exact HR.out, HB.out⟩
  by_cases c : n = 1 <;> simp [c]
 ·have HW : Hid (s1.want (decide (n ≤ 1)) 8 = s1.want false 8) := by show _ = _; rw [decide_eq_false h1]
  have hg : 1 < n := by omega
  have hn1 : ¬ n = 1 := by omega
  have HF := Lib.hid (fun (W : World) (h : RdOf true W g s1) => fail_st g s1 8 W (by decide) h)
  go_enter Tryz.func118, Tryz.ntmps118
  go_wp2_with fail
  refine HT.out.mono ?_
  rintro r w1 ⟨rfl, k1, k2⟩
  have HR := Lib.hid k1
  have HB := Lib.hid k2
  clear k1 k2
  go_wp2_with fail
  refine (HF.out _ HR.out).mono ?_
  rintro r w2 ⟨rfl, k1, k2⟩
  have HR2 := Lib.hid k1
  have HB2 := Lib.hid k2
  clear k1 k2
  go_wp2_with fail
  go_ret
  refine ⟨ret_bool ?_, by rw [HW.out]; exact HR2.out, HB.out.trans HB2.out⟩
  simp [hn1]
theorem closure_is (place : Int) (s : ByteArray) (L : List P) (K E : Int) (c : Nat) (w : World) (hs : s.size ≤ 268435456) (hc : w.cell? ⟨c, 0, none⟩ = some (.int .i64 place)) (h : takeP place s = (L, K, E)) :
  Calls Tryz.prog 151 #[.string s, .pointer (some ⟨c, 0, none⟩)] w (GivesTake L K E w) := by
 have HT := Lib.hid (fun W => Take_is place s L K E W (by omega) h)
 clear h
 go_enter Tryz.func151, Tryz.ntmps151
 go_wp2_with fail
 refine (HT.out _).mono ?_
 rintro r w1 ⟨A, c', rfl, hta⟩
 have HA := Lib.hid hta
 clear hta
 go_wp2_with fail
 go_ret3
 exact ⟨A, c', rfl, HA.out⟩
theorem takeP_none (place : Int) : (takeP place ⟨#[]⟩).1 = [] ∧ (takeP place ⟨#[]⟩).2.2 ≠ 0 := by
 cases hp : placeB place with
 | false => rw [takeP_place _ hp]; exact ⟨rfl, by decide⟩
 | true =>
  have : tn (⟨#[]⟩ : ByteArray).data.toList = (0, 0, 7) := rfl
  unfold takeP
  rw [if_neg (by rw [hp]; decide), this, if_pos (by decide)]
  exact ⟨rfl, by decide⟩
theorem takeP_k {place : Int} {s : ByteArray} (h : (takeP place s).2.2 = 0) : 0 ≤ (takeP place s).2.1 ∧ (takeP place s).2.1 ≤ (s.size : Int) := by
 cases hp : placeB place with
 | false => rw [takeP_place _ hp] at h; cases h
 | true =>
  rcases takeP_cases s hp with ⟨E, _, hE, e⟩ | ⟨m, q, _, _, _, _, e⟩ | ⟨m, q, E, _, _, _, _, _, hE, e⟩ | ⟨m, q, L', _, _, _, h7, _, e⟩
  ·rw [e] at h; exact absurd h hE
  ·rw [e] at h; cases h
  ·rw [e] at h; exact absurd h hE
  ·rw [e]; show (0 : Int) ≤ (q : Int) + (m : Int) ∧ (q : Int) + (m : Int) ≤ _; omega
theorem takeP_not {place : Int} {s : ByteArray} (h : (takeP place s).2.2 ≠ 0) : (takeP place s).1 = [] := by
 cases hp : placeB place with
 | false => rw [takeP_place _ hp]
 | true =>
  rcases takeP_cases s hp with ⟨E, _, hE, e⟩ | ⟨m, q, _, _, _, _, e⟩ | ⟨m, q, E, _, _, _, _, _, hE, e⟩ | ⟨m, q, L', _, _, _, h7, _, e⟩
  ·rw [e]
  ·rw [e]
  ·rw [e]
  ·rw [e] at h; exact absurd rfl h
theorem next_props (place : Int) (g c : Nat) (s : ByteArray) (e0 K E : Int) (L : List P) (w : World) (hs : s.size ≤ 268435456) (hT : takeP place s = (L, K, E)) (hk : E = 0 → 0 ≤ K ∧ K ≤ (s.size : Int)) (hc : w.cell? ⟨c, 0, none⟩ = some (.int .i64 place)) (h : Rd w g s e0) :
  Calls Tryz.prog 150 #[.pointer (some ⟨g, 0, none⟩), .func (.func 151) #[] #[.pointer (some ⟨c, 0, none⟩)]] w (GivesNew L g (nxS K E s) (nxE e0 E) w) := by
 have hg := h.lt
 have H := Lib.hid h
 have HT := Lib.hid (closure_is place s L K E c w hs hc hT)
 have c0 := h.cell 0
 clear h hT hc
 by_cases he : E = 0
 ·subst he
  obtain ⟨m, rfl⟩ : ∃ m : Nat, K = (m : Int) := ⟨K.toNat, by have := hk rfl; omega⟩
  have hm : (m : Int) ≤ (s.size : Int) := (hk rfl).2
  have HS : Hid (nxS (m : Int) 0 s = s.extract m s.size) := rfl
  have HE : Hid (nxE e0 0 = e0) := rfl
  clear hk
  go_enter Tryz.func150, Tryz.ntmps150
  go_wp2_with fail
  refine HT.out.mono ?_
  rintro r w1 ⟨A, c1, rfl, hta⟩
  have HO := Lib.hid hta.out.1
  have HB := Lib.hid hta.out.2
  have H1 : Hid (Rd w1 g s e0) := Lib.hid (Box.below H.out HB.out)
  clear hta c0 H
  have c0 := H1.out.cell 0
  have f0 := H1.out.frozen 0
  go_wp2_with fail
  go_ret
  refine ⟨A, c1, rfl, own_room HO.out, own_new HO.out, ?_, by rw [HS.out, HE.out]; exact H1.out.put0 _, (Bar.of g HB.out).trans (Bar.set g _ 0 _)⟩
  exact (props_bar (PropsAt.of_own HO.out) (Nat.le_refl _) ((own_new HO.out).off hg) (Bar.set g _ 0 _)).mono (Bar.set g _ 0 _).size
 ·have HS : Hid (nxS K E s = ⟨#[]⟩) := by show _ = _; unfold nxS; rw [if_neg he]
  have HE : Hid (nxE e0 E = firstE e0 (inn E)) := by show _ = _; unfold nxE; rw [if_neg he]
  clear hk
  have HF := Lib.hid (fun (W : World) (x : Int) (h : Rd W g s e0) => fail_is g s e0 x W h)
  by_cases h7 : E = 7
  ·subst h7
   go_enter Tryz.func150, Tryz.ntmps150
   go_wp2_with fail
   refine HT.out.mono ?_
   rintro r w1 ⟨A, c1, rfl, hta⟩
   have HO := Lib.hid hta.out.1
   have HB := Lib.hid hta.out.2
   have H1 : Hid (Rd w1 g s e0) := Lib.hid (Box.below H.out HB.out)
   clear hta c0 H
   go_wp2_with fail
   refine (HF.out _ _ H1.out).mono ?_
   rintro r w2 ⟨rfl, h1, h2⟩
   have HA := Lib.hid h1
   have HB2 := Lib.hid h2
   clear h1 h2
   go_wp2_with fail
   go_ret
   exact ⟨A, c1, rfl, own_room HO.out, own_new HO.out, (props_bar (PropsAt.of_own HO.out) (Nat.le_refl _) ((own_new HO.out).off hg) HB2.out).mono HB2.out.size, by rw [HS.out, HE.out]; exact HA.out, (Bar.of g HB.out).trans HB2.out⟩
  ·have e0b : (E == 0) = false := ne_false he
   have e7b : (E == 7) = false := ne_false h7
   have e0n : (E != 0) = true := ne_true he
   have HI : Hid (inn E = E) := by show _ = _; unfold inn; rw [if_neg h7]
   go_enter Tryz.func150, Tryz.ntmps150
   go_wp2_with fail
   refine HT.out.mono ?_
   rintro r w1 ⟨A, c1, rfl, hta⟩
   have HO := Lib.hid hta.out.1
   have HB := Lib.hid hta.out.2
   have H1 : Hid (Rd w1 g s e0) := Lib.hid (Box.below H.out HB.out)
   clear hta c0 H
   go_wp2_with fail
   refine (HF.out _ _ H1.out).mono ?_
   rintro r w2 ⟨rfl, h1, h2⟩
   have HA := Lib.hid h1
   have HB2 := Lib.hid h2
   clear h1 h2
   go_wp2_with fail
   go_ret
   exact ⟨A, c1, rfl, own_room HO.out, own_new HO.out, (props_bar (PropsAt.of_own HO.out) (Nat.le_refl _) ((own_new HO.out).off hg) HB2.out).mono HB2.out.size, by rw [HS.out, HE.out, HI.out]; exact HA.out, (Bar.of g HB.out).trans HB2.out⟩
theorem propsR_eq (place : Int) (s : ByteArray) : propsR place s = if (takeP place s).2.2 = 0 then .ok (takeP place s).1 (s.extract (takeP place s).2.1.toNat s.size) else .bad (inn (takeP place s).2.2) := rfl
theorem next_props_st (place : Int) (g c : Nat) (st : St) (w : World) (hc : w.cell? ⟨c, 0, none⟩ = some (.int .i64 place)) (h : RdOf true w g st) :
  Calls Tryz.prog 150 #[.pointer (some ⟨g, 0, none⟩), .func (.func 151) #[] #[.pointer (some ⟨c, 0, none⟩)]] w (GivesSt true ((st.run (propsR place)).val []) g (st.run (propsR place)).st w) := by
 cases st with
 | ok s =>
  refine (next_props place g c s 0 _ _ _ w h.2 rfl takeP_k hc h.1).mono ?_
  rintro r w' ⟨A, c', rfl, k1, k2, k3, k4, k5⟩
  obtain ⟨a1, a2⟩ := nx_ok (z := ([] : List P)) h.2 k4 (propsR_eq place s) takeP_not
  rw [run_ok, ← a1]
  exact ⟨A, c', rfl, k1, k2, k3, a2, k5⟩
 | bad e0 =>
  obtain ⟨h0, s, h1, h2, h3⟩ := h
  obtain rfl := h3 rfl
  obtain ⟨L, K, E, hT⟩ : ∃ L K E, takeP place ⟨#[]⟩ = (L, K, E) := ⟨_, _, _, rfl⟩
  have hn := takeP_none place
  have hk := takeP_k (place := place) (s := ⟨#[]⟩)
  rw [hT] at hn hk
  have hL : L = [] := hn.1
  subst hL
  refine (next_props place g c ⟨#[]⟩ e0 K E [] w (by rw [empty_size]; omega) hT hk hc h1).mono ?_
  rintro r w' ⟨A, c', rfl, k1, k2, k3, k4, k5⟩
  exact ⟨A, c', rfl, k1, k2, k3, nx_bad h0 hn.2 k4, k5⟩
theorem pprops_st (place : Int) (g : Nat) (st : St) (w : World) (h : RdOf true w g st) :
  Calls Tryz.prog 120 #[.pointer (some ⟨g, 0, none⟩), .int .i64 place] w (GivesSt true ((st.run (propsR place)).val []) g (st.run (propsR place)).st w) := by
 have hg := h.lt
 obtain ⟨w1, hw1⟩ : ∃ w1, w.alloc (.cells #[.int .i64 place] 3) = w1 := ⟨_, rfl⟩
 have hb : Below w.heap.size w w1 := by rw [← hw1]; exact (Below.refl _ _).alloc (Nat.le_refl _) _
 have hc : w1.cell? ⟨w.heap.size, 0, none⟩ = some (.int .i64 place) := by rw [← hw1]; exact (Box.new w 3 #[.int .i64 place]).cell 0
 have HT := Lib.hid (next_props_st place g w.heap.size st w1 hc (h.below hb))
 obtain ⟨L, hL⟩ : ∃ L, (st.run (propsR place)).val [] = L := ⟨_, rfl⟩
 obtain ⟨s1, hs1⟩ : ∃ s1, (st.run (propsR place)).st = s1 := ⟨_, rfl⟩
 rw [hL, hs1] at HT
 rw [hL, hs1]
 have HB := Lib.hid hb
 have HW := Lib.hid hw1
 clear hb hw1 hc h hL hs1
 have hmf : ∀ (fn : Fn) (first cap : Array Value) (w : World), (Instr.makeFunc fn first cap).run Tryz.prog w = .ok (.func fn first cap) w := fun _ _ _ _ => rfl
 go_enter Tryz.func120, Tryz.ntmps120
 go_wp2_with fail
 rw [HW.out]
 refine HT.out.mono ?_
 rintro r w2 ⟨A, c, rfl, k1, k2, k3, k4, k5⟩
 have K2 := Lib.hid k2
 have K3 := Lib.hid k3
 have K4 := Lib.hid k4
 have K5 := Lib.hid k5
 clear k2 k3 k4 k5
 go_wp2_with fail
 go_ret
 exact ⟨A, c, rfl, k1, K2.out.mono HB.out.size, K3.out, K4.out, (Bar.of g HB.out).trans K5.out⟩
open Go.RowKit Go.Lib Prp Pkt
section
variable {x : Bool} {B : Nat} {w0 : World} {g h : Nat} {st : St} {p : Pk} {a : Ad} {W : World}
theorem Live.f0 (k : Live x B w0 g h st p a W) : W.cell? ⟨h, 0, none⟩ = some (.int .i64 p.kind) := k.cell 0
theorem Live.f1 (k : Live x B w0 g h st p a W) : W.cell? ⟨h, 1, none⟩ = some (.bool p.dup) := k.cell 1
theorem Live.f2 (k : Live x B w0 g h st p a W) : W.cell? ⟨h, 2, none⟩ = some (.int .i64 p.q) := k.cell 2
theorem Live.f3 (k : Live x B w0 g h st p a W) : W.cell? ⟨h, 3, none⟩ = some (.bool p.ret) := k.cell 3
theorem Live.f4 (k : Live x B w0 g h st p a W) : W.cell? ⟨h, 4, none⟩ = some (.int .i64 p.id) := k.cell 4
theorem Live.f5 (k : Live x B w0 g h st p a W) : W.cell? ⟨h, 5, none⟩ = some (.string p.t) := k.cell 5
theorem Live.f6 (k : Live x B w0 g h st p a W) : W.cell? ⟨h, 6, none⟩ = some (.string p.b) := k.cell 6
theorem Live.f7 (k : Live x B w0 g h st p a W) : W.cell? ⟨h, 7, none⟩ = some (.int .i64 p.re) := k.cell 7
theorem Live.f8 (k : Live x B w0 g h st p a W) : W.cell? ⟨h, 8, none⟩ = some (.bool p.pre) := k.cell 8
theorem Live.f9 (k : Live x B w0 g h st p a W) : W.cell? ⟨h, 9, none⟩ = some (.slice a.ca p.cs.length a.cc) := k.cell 9
theorem Live.f10 (k : Live x B w0 g h st p a W) : W.cell? ⟨h, 10, none⟩ = some (.slice a.fa p.fs.length a.fc) := k.cell 10
theorem Live.f11 (k : Live x B w0 g h st p a W) : W.cell? ⟨h, 11, none⟩ = some (.string p.cl) := k.cell 11
theorem Live.f12 (k : Live x B w0 g h st p a W) : W.cell? ⟨h, 12, none⟩ = some (.bool p.clean) := k.cell 12
theorem Live.f13 (k : Live x B w0 g h st p a W) : W.cell? ⟨h, 13, none⟩ = some (.int .i64 p.keep) := k.cell 13
theorem Live.f14 (k : Live x B w0 g h st p a W) : W.cell? ⟨h, 14, none⟩ = some (.bool p.w.has) := k.cell 14
theorem Live.f15 (k : Live x B w0 g h st p a W) : W.cell? ⟨h, 15, none⟩ = some (.int .i64 p.w.q) := k.cell 15
theorem Live.f16 (k : Live x B w0 g h st p a W) : W.cell? ⟨h, 16, none⟩ = some (.bool p.w.ret) := k.cell 16
theorem Live.f17 (k : Live x B w0 g h st p a W) : W.cell? ⟨h, 17, none⟩ = some (.string p.w.t) := k.cell 17
theorem Live.f18 (k : Live x B w0 g h st p a W) : W.cell? ⟨h, 18, none⟩ = some (.string p.w.b) := k.cell 18
theorem Live.f19 (k : Live x B w0 g h st p a W) : W.cell? ⟨h, 19, none⟩ = some (.slice a.wa p.w.ps.length a.wc) := k.cell 19
theorem Live.f20 (k : Live x B w0 g h st p a W) : W.cell? ⟨h, 20, none⟩ = some (.bool p.hu) := k.cell 20
theorem Live.f21 (k : Live x B w0 g h st p a W) : W.cell? ⟨h, 21, none⟩ = some (.string p.u) := k.cell 21
theorem Live.f22 (k : Live x B w0 g h st p a W) : W.cell? ⟨h, 22, none⟩ = some (.bool p.hp) := k.cell 22
theorem Live.f23 (k : Live x B w0 g h st p a W) : W.cell? ⟨h, 23, none⟩ = some (.string p.pw) := k.cell 23
theorem Live.f24 (k : Live x B w0 g h st p a W) : W.cell? ⟨h, 24, none⟩ = some (.slice a.pa p.ps.length a.pc) := k.cell 24
theorem RdOf.at0 {w : World} (k : RdOf true w g st) : w.cell? ⟨g, 0, none⟩ = some (.string st.rest) := k.exact.cell 0
end
end Go.Proofs.YtdbbcfohjkgdcaaGreat
namespace Go.Proofs.YtdbbcfohjkgdcaaGreat.Pkt
open Prp Vbi
theorem reasonS_none {p : Pk} {st : St} (hm : ¬ st.more = true) : reasonS p st = (p, st) := by
 unfold reasonS St.optR
 rw [if_neg hm]
 simp only [if_neg hm]
theorem reasonS_one {p : Pk} {st : St} {v : Int} {s : ByteArray} (hm : st.more = true) (hr : st.run octetR = .ok v s) (h1 : s.size = 0) : reasonS p st = ({ p with re := v }, .ok s) := by
 have hm2 : ¬ (St.ok s).more = true := by unfold St.more; show ¬ decide (s.size ≠ 0) = true; rw [h1]; decide
 unfold reasonS St.optR
 rw [if_pos hm, hr]
 show (let b : List P × St := if (St.ok s).more = true then _ else (p.ps, St.ok s); ({ p with re := v, ps := b.1 }, b.2)) = _
 rw [if_neg hm2]
theorem reasonS_two {p : Pk} {st : St} {v : Int} {s : ByteArray} (hm : st.more = true) (hr : st.run octetR = .ok v s) (h1 : s.size ≠ 0) :
  (reasonS p st).2 = ((St.ok s).run (propsR p.kind)).st ∧ ((reasonS p st).2.isBad = false → (reasonS p st).1 = { p with re := v, ps := ((St.ok s).run (propsR p.kind)).val [] }) := by
 have hm2 : (St.ok s).more = true := by unfold St.more; exact decide_eq_true h1
 have e : reasonS p st = ({ p with re := v, ps := ((St.ok s).run (propsR p.kind)).val p.ps }, ((St.ok s).run (propsR p.kind)).st) := by
  unfold reasonS St.optR
  rw [if_pos hm, hr]
  show (let b : List P × St := if (St.ok s).more = true then _ else _; ({ p with re := v, ps := b.1 }, b.2)) = _
  rw [if_pos hm2]
  rfl
 rw [e]
 refine ⟨rfl, fun hb => ?_⟩
 cases hq : (St.ok s).run (propsR p.kind) with
 | ok x y => rfl
 | bad z => rw [hq] at hb; cases hb
end Go.Proofs.YtdbbcfohjkgdcaaGreat.Pkt
namespace Go.Proofs.YtdbbcfohjkgdcaaGreat
open Go.RowKit Go.Lib Prp Pkt Vbi
theorem reason_is (B g h : Nat) (w0 : World) (st : St) (p : Pk) (a : Ad) (w : World) (hl : Live true B w0 g h st p a w) :
  Calls Tryz.prog 124 #[.pointer (some ⟨g, 0, none⟩), .pointer (some ⟨h, 0, none⟩)] w (Done true B w0 g h (reasonS p st)) := by
 have c0 := hl.rd.at0
 have hgh : ¬ g = h := hl.out.2.2.2.1
 obtain ⟨s, hs⟩ : ∃ s, st.rest = s := ⟨_, rfl⟩
 rw [hs] at c0
 have HL := Lib.hid hl
 clear hl
 by_cases h0 : s.size = 0
 ·have HE : Hid (reasonS p st = (p, st)) := reasonS_none (by unfold St.more; rw [hs, h0]; decide)
  obtain rfl : s = ByteArray.empty := ByteArray.size_eq_zero_iff.1 h0
  clear hs h0
  go_enter Tryz.func124, Tryz.ntmps124
  go_wp2_with fail
  refine bodyPost_end (v := .tuple #[]) (by simp [results, Tryz.results124]) rfl ⟨rfl, p, a, ?_, ?_⟩
  ·rw [HE.out]; exact HL.out
  ·rw [HE.out]; exact fun _ => rfl
 ·have hm : st.more = true := by unfold St.more; rw [hs]; exact decide_eq_true h0
  obtain ⟨hne, hne2⟩ := size_facts h0
  obtain ⟨v, s1, hrun⟩ := more_run hm
  have HO0 := octet_st g st w HL.out.rd
  rw [hrun] at HO0
  have HO : Hid (Calls Tryz.prog 119 #[.pointer (some ⟨g, 0, none⟩)] w fun r w' => r = .returned (.int .i64 v) ∧ RdOf true w' g (.ok s1) ∧ Bar g w w') := HO0
  clear HO0 hs
  by_cases h1 : s1.size = 0
  ·have HE : Hid (reasonS p st = ({ p with re := v }, .ok s1)) := reasonS_one hm hrun h1
   obtain rfl : s1 = ByteArray.empty := ByteArray.size_eq_zero_iff.1 h1
   clear h1 hm hrun
   go_enter Tryz.func124, Tryz.ntmps124
   go_wp2_with fail
   refine HO.out.mono ?_
   rintro r w1 ⟨rfl, k1, k2⟩
   have HL1 := Lib.hid (HL.out.bar k2 k1)
   clear k1 k2 c0 HO HL
   have d0 : w1.cell? ⟨g, 0, none⟩ = some (.string ByteArray.empty) := HL1.out.rd.at0
   have d7 := HL1.out.f7
   have f7 := HL1.out.frozen 7
   go_wp2_with fail
   refine bodyPost_end (v := .tuple #[]) (by simp [results, Tryz.results124]) rfl ⟨rfl, { p with re := v }, a, ?_, ?_⟩
   ·rw [HE.out]; exact HL1.out.put1 7 (.int .i64 v) { p with re := v } rfl rfl rfl rfl rfl
   ·rw [HE.out]; exact fun _ => rfl
  ·obtain ⟨gne, gne2⟩ := size_facts h1
   obtain ⟨HE20, HE0⟩ := reasonS_two hm hrun h1
   have HP0 := fun (W : World) (hr : RdOf true W g (.ok s1)) => pprops_st p.kind g (.ok s1) W hr
   rw [HE20] at HE0
   obtain ⟨L, hL⟩ : ∃ L, ((St.ok s1).run (propsR p.kind)).val [] = L := ⟨_, rfl⟩
   obtain ⟨s2, hs2⟩ : ∃ s2, ((St.ok s1).run (propsR p.kind)).st = s2 := ⟨_, rfl⟩
   rw [hL, hs2] at HP0
   rw [hs2] at HE20
   rw [hL, hs2] at HE0
   have HP := Lib.hid HP0
   have HE := Lib.hid HE0
   have HE2 := Lib.hid HE20
   clear hL hs2 HP0 HE0 HE20 hm hrun
   go_enter Tryz.func124, Tryz.ntmps124
   go_wp2_with fail
   refine HO.out.mono ?_
   rintro r w1 ⟨rfl, k1, k2⟩
   have HL1 := Lib.hid (HL.out.bar k2 k1)
   clear k1 k2 c0 HO HL
   have d0 : w1.cell? ⟨g, 0, none⟩ = some (.string s1) := HL1.out.rd.at0
   have dk := HL1.out.f0
   have d7 := HL1.out.f7
   have f7 := HL1.out.frozen 7
   have HL2 := Lib.hid (HL1.out.put1 7 (.int .i64 v) { p with re := v } rfl rfl rfl rfl rfl)
   go_wp2_with fail
   refine (HP.out _ HL2.out.rd).mono ?_
   rintro r w2 ⟨A, c, rfl, k1, k2, k3, k4, k5⟩
   have HL3 := Lib.hid (HL2.out.bar k5 k4)
   have HN := Lib.hid (HL2.out.off k2)
   have HA := Lib.hid k3
   clear k2 k3 k4 k5 d0 dk d7 f7 HL1 HL2
   have d24 := HL3.out.f24
   have f24 := HL3.out.frozen 24
   go_wp2_with fail
   refine bodyPost_end (v := .tuple #[]) (by simp [results, Tryz.results124]) rfl ⟨rfl, { p with re := v, ps := L }, { a with pa := A, pc := c }, ?_, ?_⟩
   ·rw [HE2.out]; exact HL3.out.props (HA.out.mono (Nat.le_refl _)) HN.out k1
   ·rw [HE2.out]; exact fun hb => (HE.out hb).symm
end Go.Proofs.YtdbbcfohjkgdcaaGreat
