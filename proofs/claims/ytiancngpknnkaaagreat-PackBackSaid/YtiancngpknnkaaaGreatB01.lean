/- Package vbi, and the document's own answer: numbers of two and of four bytes, the highest first. -/
import Derived.WalkKit
import Derived.WalkSpells
import Derived.Lib.Hide
import Derived.Deep.QuietTactic
import Derived.BigQuiet
import Derived.Laws.OwnMore
import Derived.Deep.Draws
import Derived.OwnWalk
import Derived.Shelf.Strings.Builder1
import Derived.Shelf.Small.Utf8
import Derived.Shelf.Strings.BuilderF
import Derived.Shelf.Strings.BuilderK
import Derived.Shelf.LaysM
import Derived.Shelf.Strconv.Clone
import Derived.Shelf.Strings.Prefix
import Derived.Shelf.Slices.Turned
import Derived.Test.YtiancngpknnkaaaGreatProg
import Derived.Lib.MapLaws
import Derived.Lib.ValidLaws
import Derived.Lib.RuneBytes
import Derived.Lib.Small
import Derived.Laws.Cover4
import Derived.WalkLawsBesides
import Derived.Laws.BytesArg
import Derived.LoopN
set_option maxRecDepth 100000
set_option maxHeartbeats 64000000
namespace Go.Proofs.YtiancngpknnkaaaGreat
open Go.RowKit Go.Lib
def Nums (w : World) (B : Nat) (k : IntKind) (A : Option Addr) (xs : List Int) : Prop :=
  xs = [] ∨ ∃ a, A = some a ∧ a.block < B ∧ ∀ j, j < xs.length → w.cell? (a.add j) = some (.int k (xs.getD j 0))
theorem add_block (a : Addr) (n : Nat) : (a.add n).block = a.block := by unfold Addr.add; split <;> rfl
section
variable {w w' : World} {B B' : Nat} {k : IntKind} {A : Option Addr} {xs : List Int}
theorem Nums.none_ : Nums w B k A [] := .inl rfl
theorem Nums.some_ (h : Nums w B k A xs) (hx : 0 < xs.length) : ∃ a, A = some a ∧ a.block < B ∧ ∀ j, j < xs.length → w.cell? (a.add j) = some (.int k (xs.getD j 0)) := by
  rcases h with rfl | h
  · simp at hx
  · exact h
theorem Nums.keep (h : Nums w B k A xs) (hk : ∀ p : Addr, p.block < B → w'.cell? p = w.cell? p) : Nums w' B k A xs := by
  rcases h with h | ⟨a, h1, h2, h3⟩
  · exact .inl h
  · exact .inr ⟨a, h1, h2, fun j hj => by rw [hk _ (by rw [add_block]; exact h2)]; exact h3 j hj⟩
theorem Nums.mono (h : Nums w B k A xs) (hB : B ≤ B') : Nums w B' k A xs := by
  rcases h with h | ⟨a, h1, h2, h3⟩
  · exact .inl h
  · exact .inr ⟨a, h1, Nat.lt_of_lt_of_le h2 hB, h3⟩
theorem Nums.below (h : Nums w B k A xs) (hb : Below B w w') : Nums w' B k A xs := h.keep fun _ hp => hb.cell hp
theorem Nums.drewN (h : Nums w B k A xs) (n : Nat) : Nums (w.drewN n) B k A xs := h
theorem Nums.alloc (h : Nums w B k A xs) (hB : B ≤ w.heap.size) (o : Obj) : Nums (w.alloc o) B k A xs :=
  h.keep fun p hp => World.cell?_alloc_lt w o p (by omega)
theorem Nums.of_own {base : Nat} {e : TypeId} {c : Nat} (h : w.ownsRow base e 1 (.slice A xs.length c) xs.length (xs.map (Value.int k))) : Nums w w.heap.size k A xs := by
  rcases h.2 with ⟨hv, hn⟩ | ⟨g, cap, cur, hv, _, hg, hle, _, hsz, htk⟩
  · exact .inl (List.eq_nil_of_length_eq_zero hn)
  · injection hv with hA _ _
    subst hA
    refine .inr ⟨_, rfl, (Array.getElem?_eq_some_iff.1 hg).1, fun j hj => ?_⟩
    refine h.cells (g := g) rfl j _ ?_
    rw [List.getElem?_map, List.getElem?_eq_getElem hj, List.getD_eq_getElem?_getD, List.getElem?_eq_getElem hj]
    rfl
theorem own_form {base : Nat} {e : TypeId} {v : Value} (h : w.ownsRow base e 1 v xs.length (xs.map (Value.int k))) : ∃ A c, v = .slice A xs.length c := by
  rcases h.2 with ⟨hv, hn⟩ | ⟨g, cap, cur, hv, _⟩
  · exact ⟨none, 0, by rw [hv, hn]⟩
  · exact ⟨_, cap, hv⟩
end
theorem below_drewN {B : Nat} {a w : World} (h : Below B a w) (n : Nat) : Below B a (w.drewN n) := ⟨h.os, h.tape, h.output, h.size, h.block⟩
theorem below_alloc_grown {B e size n : Nat} {w w' : World} {v : Value} {xs : List Value} {o : Obj} (hB : B ≤ w.heap.size) (hown : w.ownsRow B e size v n xs) (hg : (w.alloc o).grownBy w' v.ownBlock) : Below B w w' := by
  refine ⟨hg.os, hg.tape, hg.output, ?_, fun k hk => ?_⟩
  · have := hg.size; simp at this; omega
  · rw [hg.block k (by simp; omega)]
    · exact Below.heap_alloc w o k (by omega)
    · intro hk2
      have := (hown.lt k hk2.symm).1
      omega
theorem own_snoc {w : World} {B e : Nat} {v : Value} {k : IntKind} {ys : List Int} {x : Int} (h : w.ownsRow B e 1 v (ys.length + 1) (ys.map (Value.int k) ++ [.int k x])) :
    w.ownsRow B e 1 v (ys ++ [x]).length ((ys ++ [x]).map (Value.int k)) := by simpa using h
def GivesNums (k : IntKind) (xs : List Int) (w : World) (e : Ending) (w' : World) : Prop := ∃ A c, e = .returned (.slice A xs.length c) ∧ Nums w' w'.heap.size k A xs ∧ Below w.heap.size w w'
theorem add_new (g j : Nat) : (⟨g, 0, none⟩ : Addr).add j = ⟨g, j, none⟩ := by
  unfold Addr.add; split <;> simp_all
theorem new_cell (W : World) (cs : Array Value) (rs : List Int) {k : IntKind} {e : TypeId} (h : ∀ j, j < rs.length → cs[j]? = some (.int k (rs.getD j 0))) (j : Nat) (hj : j < rs.length) :
    (W.alloc (.cells cs e)).drew.cell? ((⟨W.heap.size, 0, none⟩ : Addr).add j) = some (.int k (rs.getD j 0)) := by
  rw [add_new]
  show (W.alloc (.cells cs e)).cell? ⟨W.heap.size, j, none⟩ = _
  rw [cell_of_row (W.alloc (.cells cs e)) W.heap.size j cs e (0, 0) (heap_alloc_new W _)]
  exact h j hj
theorem lit_nums (W : World) (cs : Array Value) (rs : List Int) (k : IntKind) (e : TypeId) (h : cs = (rs.map (Value.int k)).toArray) : Nums (W.alloc (.cells cs e)) (W.heap.size + 1) k (some ⟨W.heap.size, 0, none⟩) rs := by
  refine .inr ⟨_, rfl, by simp, fun j hj => ?_⟩
  refine new_cell W cs rs (fun j hj => ?_) j hj
  rw [h]
  simp [List.getElem?_eq_getElem hj]
theorem gives_lit (w : World) (cs : Array Value) (rs : List Int) (n : Nat) (k : IntKind) (e : TypeId) (h : cs = (rs.map (Value.int k)).toArray) (hn : n = rs.length) :
    GivesNums k rs w (.returned (.slice (some ⟨w.heap.size, 0, none⟩) n n)) (w.alloc (.cells cs e)) := by
  subst hn
  exact ⟨_, _, rfl, (lit_nums w cs rs k e h).mono (by simp), (Below.refl _ _).alloc (Nat.le_refl _) _⟩
theorem own_below {w w' : World} {B e size n : Nat} {v : Value} {xs : List Value} (h : w.ownsRow B e size v n xs) (hb : Below w.heap.size w w') : w'.ownsRow B e size v n xs :=
  h.kept (row := none) ⟨hb.os, hb.tape, hb.output, hb.size, fun k hk _ => hb.block k hk⟩ (Classical.em _)
theorem below_grown {B e size n : Nat} {w w' : World} {v : Value} {xs : List Value} (hB : B ≤ w.heap.size) (hown : w.ownsRow B e size v n xs) (hg : w.grownBy w' v.ownBlock) : Below B w w' := by
  refine ⟨hg.os, hg.tape, hg.output, hg.size, fun k hk => ?_⟩
  refine hg.block k (by omega) fun hk2 => ?_
  have := (hown.lt k hk2.symm).1
  omega
end Go.Proofs.YtiancngpknnkaaaGreat
namespace Go.Proofs
open Go.Shelf
def Tryz.lays170_ren : Go.Shelf.Ren := ⟨fun | 170 => 139 | n => n, fun | 70 => 105 | 3 => 3 | 0 => 0 | 72 => 107 | 37 => 70 | 5 => 5 | n => n, fun | n => n⟩
theorem Tryz.lays170 : Go.Proofs.Lays.n170 Tryz.prog Tryz.lays170_ren := {
  mixed := by kernel_rfl
  f170 := Tryz.func139.trans (congrArg some (by kernel_rfl))
  t0 := Tryz.underlying0
  a0 := Tryz.isAgg0
  z0 := Tryz.sizeOf0
  v0 := Tryz.zeroValue0
  t3 := Tryz.underlying3
  a3 := Tryz.isAgg3
  z3 := Tryz.sizeOf3
  v3 := Tryz.zeroValue3
  t37 := Tryz.underlying70
  a37 := Tryz.isAgg70
  z37 := Tryz.sizeOf70
  v37 := Tryz.zeroValue70
  t70 := Tryz.underlying105
  a70 := Tryz.isAgg105
  z70 := Tryz.sizeOf105
  v70 := Tryz.zeroValue105
  t72 := Tryz.underlying107
  a72 := Tryz.isAgg107
  z72 := Tryz.sizeOf107
  v72 := Tryz.zeroValue107 }
open Go.RowKit in
theorem Tryz.Builder_Len (B b : Nat) (bs : List Value) (w : World) (h : Lib.IsBuilder 107 5 B b bs w) :
    Calls Tryz.prog 139 #[.pointer (some ⟨b, 0, none⟩)] w fun e w' => e = .returned (.int .i64 bs.length) ∧ w' = w := Any.Builder_Len Tryz.lays170 B b bs w h
def Tryz.lays169_ren : Go.Shelf.Ren := ⟨fun | 169 => 80 | n => n, fun | 70 => 105 | 9 => 9 | 0 => 0 | 72 => 107 | 37 => 70 | 127 => 150 | 3 => 3 | 5 => 5 | n => n, fun | n => n⟩
theorem Tryz.lays169 : Go.Proofs.Lays.n169 Tryz.prog Tryz.lays169_ren := {
  mixed := by kernel_rfl
  f169 := Tryz.func80.trans (congrArg some (by kernel_rfl))
  t0 := Tryz.underlying0
  a0 := Tryz.isAgg0
  z0 := Tryz.sizeOf0
  v0 := Tryz.zeroValue0
  t3 := Tryz.underlying3
  a3 := Tryz.isAgg3
  z3 := Tryz.sizeOf3
  v3 := Tryz.zeroValue3
  t9 := Tryz.underlying9
  a9 := Tryz.isAgg9
  z9 := Tryz.sizeOf9
  v9 := Tryz.zeroValue9
  t37 := Tryz.underlying70
  a37 := Tryz.isAgg70
  z37 := Tryz.sizeOf70
  v37 := Tryz.zeroValue70
  t70 := Tryz.underlying105
  a70 := Tryz.isAgg105
  z70 := Tryz.sizeOf105
  v70 := Tryz.zeroValue105
  t72 := Tryz.underlying107
  a72 := Tryz.isAgg107
  z72 := Tryz.sizeOf107
  v72 := Tryz.zeroValue107
  t127 := Tryz.underlying150
  a127 := Tryz.isAgg150
  z127 := Tryz.sizeOf150
  v127 := Tryz.zeroValue150 }
theorem Tryz.Builder_Extra_169 : Builder.Extra Tryz.prog Tryz.lays169_ren := {
  sizeBuilder := by kernel_rfl
  liesBuilder := by kernel_rfl
  t5 := Tryz.underlying5
  a5 := Tryz.isAgg5
  z5 := Tryz.sizeOf5
  v5 := Tryz.zeroValue5
  infoByte := by kernel_rfl
  cellsByte := by kernel_rfl
  sizeByte := by kernel_rfl
  neB5 := by decide }
open Go.RowKit in
open Go.RowKit in
open Go.RowKit in
theorem Tryz.Builder_String_any (B b : Nat) (l : List UInt8) (w : World) (h : Lib.IsBuilder 107 5 B b (Lib.byteCells l) w) (hBw : B ≤ w.heap.size) :
    Calls Tryz.prog 80 #[.pointer (some ⟨b, 0, none⟩)] w fun e w' => e = .returned (.string ⟨l.toArray⟩) ∧ Below B w w' := Any.Builder_String_any Tryz.lays169 Tryz.Builder_Extra_169 B b l w h hBw
def Tryz.lays119_ren : Go.Shelf.Ren := ⟨fun | 119 => 170 | n => n, fun | 21 => 21 | 4 => 4 | n => n, fun | n => n⟩
theorem Tryz.lays119 : Go.Proofs.Lays.n119 Tryz.prog Tryz.lays119_ren := {
  mixed := by kernel_rfl
  f119 := Tryz.func170.trans (congrArg some (by kernel_rfl))
  t4 := Tryz.underlying4
  a4 := Tryz.isAgg4
  z4 := Tryz.sizeOf4
  v4 := Tryz.zeroValue4
  t21 := Tryz.underlying21
  a21 := Tryz.isAgg21
  z21 := Tryz.sizeOf21
  v21 := Tryz.zeroValue21 }
theorem Tryz.utf8_ValidRune (r : Int) (w : World) :
    Calls Tryz.prog 170 #[.int .i32 r] w fun e w' => e = .returned (.bool (Lib.validRune r)) ∧ w' = w := Any.utf8_ValidRune Tryz.lays119 r w
open Go.RowKit in
open Go.RowKit in
open Go.RowKit in
open Go.RowKit in
open Go.RowKit in
open Go.RowKit in
open Go.RowKit in
def Tryz.laysM316_ren : Go.Shelf.Ren := ⟨fun | 316 => 101 | n => n, fun | 9 => 9 | 3 => 3 | 4 => 4 | 37 => 70 | 0 => 0 | 127 => 150 | 5 => 5 | n => n, fun | n => n⟩
theorem Tryz.laysM316 : Go.Proofs.LaysM.n316 Tryz.prog Tryz.laysM316_ren := {
  mixed := by kernel_rfl
  f316 := Tryz.func101.trans (congrArg some (by kernel_rfl))
  t0 := Tryz.underlying0
  a0 := Tryz.isAgg0
  z0 := Tryz.sizeOf0
  v0 := Tryz.zeroValue0
  t3 := Tryz.underlying3
  a3 := Tryz.isAgg3
  z3 := Tryz.sizeOf3
  v3 := Tryz.zeroValue3
  t4 := Tryz.underlying4
  a4 := Tryz.isAgg4
  z4 := Tryz.sizeOf4
  v4 := Tryz.zeroValue4
  t9 := Tryz.underlying9
  a9 := Tryz.isAgg9
  z9 := Tryz.sizeOf9
  v9 := Tryz.zeroValue9
  t37 := Tryz.underlying70
  a37 := Tryz.isAgg70
  z37 := Tryz.sizeOf70
  v37 := Tryz.zeroValue70
  t127 := Tryz.underlying150
  a127 := Tryz.isAgg150
  z127 := Tryz.sizeOf150
  v127 := Tryz.zeroValue150
  t5 := Tryz.underlying5
  a5 := Tryz.isAgg5
  z5 := Tryz.sizeOf5
  v5 := Tryz.zeroValue5
  i0 := by kernel_rfl
  i3 := by kernel_rfl
  i4 := by kernel_rfl
  i5 := by kernel_rfl
  i9 := by kernel_rfl
  i37 := by kernel_rfl
  i127 := by kernel_rfl }
open Go.RowKit in
theorem Tryz.stringslite_Clone (s : ByteArray) (w : World) (hlim : s.size ≤ 281474976710656) :
    Calls Tryz.prog 101 #[.string s] w fun e w' => e = .returned (.string s) ∧ Below w.heap.size w w' := Any.stringslite_Clone Tryz.laysM316 s w hlim
open Go.RowKit Go.Lib in
def Tryz.lays99_ren : Go.Shelf.Ren := ⟨fun | 99 => 158 | 206 => 173 | n => n, fun | 9 => 9 | 4 => 4 | 3 => 3 | n => n, fun | n => n⟩
theorem Tryz.lays99 : Go.Proofs.Lays.n99 Tryz.prog Tryz.lays99_ren := {
  mixed := by kernel_rfl
  f99 := Tryz.func158.trans (congrArg some (by kernel_rfl))
  f206 := Tryz.func173.trans (congrArg some (by kernel_rfl))
  t3 := Tryz.underlying3
  a3 := Tryz.isAgg3
  z3 := Tryz.sizeOf3
  v3 := Tryz.zeroValue3
  t4 := Tryz.underlying4
  a4 := Tryz.isAgg4
  z4 := Tryz.sizeOf4
  v4 := Tryz.zeroValue4
  t9 := Tryz.underlying9
  a9 := Tryz.isAgg9
  z9 := Tryz.sizeOf9
  v9 := Tryz.zeroValue9 }
open Go.RowKit Go.Lib in
theorem Tryz.strings_HasPrefix (s p : ByteArray) (w : World) :
    Calls Tryz.prog 158 #[.string s, .string p] w fun e w' => e = .returned (.bool (Lib.hasPrefix s.data.toList p.data.toList)) ∧ w' = w := Any.strings_HasPrefix Tryz.lays99 s p w
open Go.Lib in
open Go.Lib in
def Tryz.lays107_ren : Go.Shelf.Ren := ⟨fun | 107 => 174 | 108 => 180 | n => n, fun | 28 => 24 | 3 => 3 | 4 => 4 | 0 => 0 | n => n, fun | n => n⟩
theorem Tryz.lays107 : Go.Proofs.Lays.n107 Tryz.prog Tryz.lays107_ren := {
  mixed := by kernel_rfl
  f107 := Tryz.func174.trans (congrArg some (by kernel_rfl))
  f108 := Tryz.func180.trans (congrArg some (by kernel_rfl))
  t0 := Tryz.underlying0
  a0 := Tryz.isAgg0
  z0 := Tryz.sizeOf0
  v0 := Tryz.zeroValue0
  t3 := Tryz.underlying3
  a3 := Tryz.isAgg3
  z3 := Tryz.sizeOf3
  v3 := Tryz.zeroValue3
  t4 := Tryz.underlying4
  a4 := Tryz.isAgg4
  z4 := Tryz.sizeOf4
  v4 := Tryz.zeroValue4
  t28 := Tryz.underlying24
  a28 := Tryz.isAgg24
  z28 := Tryz.sizeOf24
  v28 := Tryz.zeroValue24 }
open Go.Lib in
theorem Tryz.slices_Contains_int (b off n c : Nat) (zs : List Int) (x : Int) (w : World) (hz : n ≤ zs.length) (hbig : n ≤ 9223372036854775807) (hc : ∀ j, j < zs.length → w.cell? ⟨b, off + j, none⟩ = some (.int .i64 (zs.getD j 0))) :
    Calls Tryz.prog 174 #[.slice (some ⟨b, off, none⟩) n c, .int .i64 x] w fun e w' => e = .returned (.bool ((zs.take n).contains x)) ∧ w' = w := Any.slices_Contains_int Tryz.lays107 b off n c zs x w hz hbig hc
open Go.Lib in
theorem Tryz.slices_Contains_int_empty (a : Option Addr) (c : Nat) (x : Int) (w : World) :
    Calls Tryz.prog 174 #[.slice a 0 c, .int .i64 x] w fun e w' => e = .returned (.bool false) ∧ w' = w := Any.slices_Contains_int_empty Tryz.lays107 a c x w
end Go.Proofs
namespace Go.Proofs.YtiancngpknnkaaaGreat.Txt
open Go.Lib
def good (r : Int) : Bool := decide (32 ≤ r ∧ (r < 127 ∨ 159 < r) ∧ r ≤ 1114111 ∧ (r < 55296 ∨ 57343 < r) ∧ (r < 64976 ∨ 65007 < r) ∧ r % 65536 < 65534)
theorem good_iff (r : Int) : good r = true ↔ (32 ≤ r ∧ (r < 127 ∨ 159 < r) ∧ r ≤ 1114111 ∧ (r < 55296 ∨ 57343 < r) ∧ (r < 64976 ∨ 65007 < r) ∧ r % 65536 < 65534) := by
  simp [good]
theorem good_not (r : Int) : good r = false ↔ ¬ (32 ≤ r ∧ (r < 127 ∨ 159 < r) ∧ r ≤ 1114111 ∧ (r < 55296 ∨ 57343 < r) ∧ (r < 64976 ∨ 65007 < r) ∧ r % 65536 < 65534) := by
  unfold good; exact decide_eq_false_iff_not
def ptOf (d : Nat × Nat) : Nat × Nat := if good (d.1 : Int) = true ∧ ¬ (d.1 = 65533 ∧ d.2 = 1) then d else (0, 0)
def ptN (n b0 b1 b2 b3 : Nat) : Nat × Nat := ptOf (decodeN n b0 b1 b2 b3)
def pt (l : List UInt8) : Nat × Nat := ptN l.length (l.getD 0 0).toNat (l.getD 1 0).toNat (l.getD 2 0).toNat (l.getD 3 0).toNat
theorem pt_eq (l : List UInt8) : pt l = if good ((decodeL l).1 : Int) = true ∧ ¬ ((decodeL l).1 = 65533 ∧ (decodeL l).2 = 1) then decodeL l else (0, 0) := by
  unfold pt ptN; rw [← decodeL_N]; rfl
theorem pt_ok {l : List UInt8} (h : (pt l).2 ≠ 0) : pt l = decodeL l ∧ good ((pt l).1 : Int) = true ∧ ¬ ((decodeL l).1 = 65533 ∧ (decodeL l).2 = 1) := by
  rw [pt_eq] at h ⊢
  split
  · next hc => exact ⟨rfl, hc.1, hc.2⟩
  · next hc => rw [if_neg hc] at h; exact absurd rfl h
theorem pt_le {l : List UInt8} (hne : l ≠ []) : (pt l).2 ≤ l.length := by
  by_cases h : (pt l).2 = 0
  · omega
  · rw [(pt_ok h).1]; exact decodeL_le l hne
def parseN : Nat → List UInt8 → Option (List Int)
  | 0, _ => some []
  | n + 1, l => if l = [] then some [] else if (pt l).2 = 0 then none else (parseN n (l.drop (pt l).2)).map fun r => ((pt l).1 : Int) :: r
def parse (l : List UInt8) : Option (List Int) := parseN l.length l
theorem parseN_nil : ∀ n, parseN n [] = some []
  | 0 => rfl
  | _ + 1 => by simp [parseN]
theorem parseN_fuel : ∀ (n m : Nat) (l : List UInt8), l.length ≤ n → l.length ≤ m → parseN n l = parseN m l
  | 0, m, l, hn, _ => by
    have : l = [] := List.eq_nil_of_length_eq_zero (by omega)
    subst this
    rw [parseN_nil, parseN_nil]
  | n + 1, 0, l, _, hm => by
    have : l = [] := List.eq_nil_of_length_eq_zero (by omega)
    subst this
    rw [parseN_nil, parseN_nil]
  | n + 1, m + 1, l, hn, hm => by
    unfold parseN
    by_cases hne : l = []
    · simp [hne]
    · rw [if_neg hne, if_neg hne]
      by_cases hz : (pt l).2 = 0
      · rw [if_pos hz, if_pos hz]
      · have hl : 0 < l.length := List.length_pos_iff.2 hne
        rw [if_neg hz, if_neg hz, parseN_fuel n m (l.drop (pt l).2) (by rw [List.length_drop]; omega) (by rw [List.length_drop]; omega)]
theorem parse_step (l : List UInt8) (hne : l ≠ []) : parse l = if (pt l).2 = 0 then none else (parse (l.drop (pt l).2)).map fun r => ((pt l).1 : Int) :: r := by
  have hl : 0 < l.length := List.length_pos_iff.2 hne
  obtain ⟨n, hn⟩ : ∃ n, l.length = n + 1 := ⟨l.length - 1, by omega⟩
  unfold parse
  rw [hn]
  show (if l = [] then some [] else _) = _
  rw [if_neg hne]
  by_cases hz : (pt l).2 = 0
  · rw [if_pos hz, if_pos hz]
  · rw [if_neg hz, if_neg hz, parseN_fuel n (l.drop (pt l).2).length _ (by rw [List.length_drop]; omega) (Nat.le_refl _)]
def chk (l : List UInt8) : Bool := (parse l).isSome
def textErr (l : List UInt8) : Int := if 1024 < l.length then 2 else if chk l = true then 0 else 8
theorem chk_nil : chk [] = true := rfl
theorem chk_step (l : List UInt8) (hne : l ≠ []) : chk l = if (pt l).2 = 0 then false else chk (l.drop (pt l).2) := by
  unfold chk
  rw [parse_step l hne]
  split
  · rfl
  · simp
theorem decodeN_err (n b0 b1 b2 b3 : Nat) (hn : 1 ≤ n) (h0 : b0 < 256) (h1 : b1 < 256) (h2 : b2 < 256) (h : (decodeN n b0 b1 b2 b3).1 = 65533) :
    ((decodeN n b0 b1 b2 b3).2 = 1 ∧ ¬ (3 ≤ n ∧ b0 = 239 ∧ b1 = 191 ∧ b2 = 189)) ∨ ((decodeN n b0 b1 b2 b3).2 = 3 ∧ (3 ≤ n ∧ b0 = 239 ∧ b1 = 191 ∧ b2 = 189)) := by
  unfold decodeN at h ⊢
  repeat' split at h
  all_goals simp only [] at h ⊢
  all_goals (repeat' split)
  all_goals first | (exfalso; omega) | omega
theorem prefix_three (l : List UInt8) (a b c : UInt8) : hasPrefix l [a, b, c] = decide (3 ≤ l.length ∧ l.getD 0 0 = a ∧ l.getD 1 0 = b ∧ l.getD 2 0 = c) := by
  unfold hasPrefix
  match l with
  | [] => simp
  | [x] => simp [List.isPrefixOf]
  | [x, y] => simp [List.isPrefixOf]
  | x :: y :: z :: r =>
    rw [Bool.eq_iff_iff]
    simp [List.isPrefixOf]
    constructor
    · rintro ⟨rfl, rfl, rfl⟩; exact ⟨rfl, rfl, rfl⟩
    · rintro ⟨rfl, rfl, rfl⟩; exact ⟨rfl, rfl, rfl⟩
theorem err_prefix (l : List UInt8) (hne : l ≠ []) (h : (decodeL l).1 = 65533) : hasPrefix l [239, 191, 189] = !decide ((decodeL l).2 = 1) := by
  have hl : 0 < l.length := List.length_pos_iff.2 hne
  rw [decodeL_N] at h ⊢
  rw [prefix_three]
  have e (x : UInt8) (k : Nat) (hk : k < 256) : x = UInt8.ofNat k ↔ x.toNat = k := by
    constructor
    · rintro rfl; simp; omega
    · intro h; rw [← h]; simp
  have e0 := e (l.getD 0 0) 239 (by omega)
  have e1 := e (l.getD 1 0) 191 (by omega)
  have e2 := e (l.getD 2 0) 189 (by omega)
  rcases decodeN_err l.length _ _ _ _ hl (UInt8.toNat_lt _) (UInt8.toNat_lt _) (UInt8.toNat_lt _) h with ⟨ha, hb⟩ | ⟨ha, hb⟩
  · rw [ha, decide_eq_false]
    · rfl
    · intro x; exact hb ⟨x.1, e0.1 x.2.1, e1.1 x.2.2.1, e2.1 x.2.2.2⟩
  · rw [ha, decide_eq_true]
    · rfl
    · exact ⟨hb.1, e0.2 hb.2.1, e1.2 hb.2.2.1, e2.2 hb.2.2.2⟩
end Go.Proofs.YtiancngpknnkaaaGreat.Txt
namespace Go.Proofs.YtiancngpknnkaaaGreat
open Go.RowKit Go.Lib Txt
theorem ret_bool {a b : Bool} (h : a = b) : Ending.returned (.bool a) = .returned (.bool b) := by rw [h]
theorem ret_int {k : IntKind} {a b : Int} (h : a = b) : Ending.returned (.int k a) = .returned (.int k b) := by rw [h]
theorem bool_dec {b : Bool} {p : Prop} [Decidable p] (h : b = true ↔ p) : b = decide p := by
  rw [Bool.eq_iff_iff, h]; simp
theorem dec_false {p : Prop} [Decidable p] (h : ¬ p) : false = decide p := (decide_eq_false h).symm
theorem dec_true {p : Prop} [Decidable p] (h : p) : true = decide p := (decide_eq_true h).symm
theorem dec_dec {p q : Prop} [Decidable p] [Decidable q] (h : q ↔ p) : decide q = decide p := decide_eq_decide.2 h
def ctl (n : Int) : Bool := decide (n < 32 ∨ (127 ≤ n ∧ n ≤ 159))
def noc (n : Int) : Bool := decide (65534 ≤ n % 65536 ∨ (64976 ≤ n ∧ n ≤ 65007))
theorem isControl_any (n : Int) (w : World) :
    Calls Tryz.prog 171 #[.int .i32 n] w fun e w' => e = .returned (.bool (ctl n)) ∧ w' = w := by
  go_enter Tryz.func171, Tryz.ntmps171
  go_wp2
  all_goals (go_ret; refine ⟨ret_bool ?_, rfl⟩; unfold ctl; first | exact dec_false (by omega) | exact dec_dec (by omega) | exact dec_true (by omega) | (refine bool_dec ?_; simp; omega))
theorem and_fffe (m : Nat) : m &&& 65534 = m % 65536 / 2 * 2 := by
  have h1 : (m &&& 65534) / 2 = m / 2 % 32768 := by rw [Nat.and_div_two]; exact Nat.and_two_pow_sub_one_eq_mod _ 15
  have h2 : (m &&& 65534) % 2 = 0 := by
    have := Nat.and_mod_two_pow (a := m) (b := 65534) (n := 1)
    simpa using this
  omega
theorem ofInt_i32 (a : Nat) (ha : a < 2147483648) : (BitVec.ofInt 32 (a : Int)).toNat = a := by
  rw [BitVec.ofInt_natCast, BitVec.toNat_ofNat]; exact Nat.mod_eq_of_lt (by omega)
theorem i32_and_nat (a b : Nat) (ha : a < 2147483648) (hb : b < 2147483648) : bits .and .i32 (a : Int) (b : Int) = ((a &&& b : Nat) : Int) := by
  have hx : a &&& b < 2 ^ 31 := Nat.and_lt_two_pow _ (by omega)
  show IntKind.i32.wrap ((BitVec.ofInt 32 (a : Int) &&& BitVec.ofInt 32 (b : Int)).toNat : Int) = _
  rw [BitVec.toNat_and, ofInt_i32 a ha, ofInt_i32 b hb]
  unfold IntKind.wrap
  simp [IntKind.bits, IntKind.signed]
  omega
theorem isNoCharacter_any (n : Int) (w : World) (h0 : 0 ≤ n) (h1 : n ≤ 1114111) :
    Calls Tryz.prog 172 #[.int .i32 n] w fun e w' => e = .returned (.bool (noc n)) ∧ w' = w := by
  obtain ⟨x, hx, hiff⟩ : ∃ x : Int, bits .and .i32 n 65534 = x ∧ (x = 65534 ↔ 65534 ≤ n % 65536) := by
    refine ⟨_, rfl, ?_⟩
    obtain ⟨m, rfl⟩ := Int.eq_ofNat_of_zero_le h0
    rw [show (65534 : Int) = ((65534 : Nat) : Int) from rfl, i32_and_nat m 65534 (by omega) (by omega), and_fffe]
    omega
  have H := Lib.hid hiff
  clear hiff
  go_enter Tryz.func172, Tryz.ntmps172
  go_wp2
  all_goals (go_ret; refine ⟨ret_bool ?_, rfl⟩; have hiff := H.out; clear H; unfold noc; first | exact dec_false (by omega) | exact dec_dec (by omega) | exact dec_true (by omega) | (refine bool_dec ?_; simp; omega))
theorem mayBe_any (n : Int) (w : World) :
    Calls Tryz.prog 157 #[.int .i32 n] w fun e w' => e = .returned (.bool (good n)) ∧ w' = w := by
  by_cases hv : Lib.validRune n = true
  · have hb : 0 ≤ n ∧ n ≤ 1114111 ∧ (n < 55296 ∨ 57343 < n) := by unfold Lib.validRune at hv; have := of_decide_eq_true hv; omega
    cases hc : ctl n with
    | true =>
      have hg : good n = false := by rw [good_not]; unfold ctl at hc; have := of_decide_eq_true hc; omega
      have Hg := Lib.hid hg
      clear hg
      go_enter Tryz.func157, Tryz.ntmps157
      go_wp2_with (first | (go_at_call 170; refine (Tryz.utf8_ValidRune _ _).mono ?_; rintro e w' ⟨rfl, rfl⟩) | (go_at_call 171; refine (isControl_any _ _).mono ?_; rintro e w' ⟨rfl, rfl⟩))
      go_ret
      exact ⟨ret_bool (by rw [Hg.out]), rfl⟩
    | false =>
      have hg : good n = !noc n := by
        unfold ctl at hc
        have hc' := of_decide_eq_false hc
        cases hn : noc n with
        | true => rw [Bool.not_true, good_not]; unfold noc at hn; have := of_decide_eq_true hn; omega
        | false => rw [Bool.not_false, good_iff]; unfold noc at hn; have := of_decide_eq_false hn; omega
      have Hg := Lib.hid hg
      clear hg
      obtain ⟨b0, b1, _⟩ := hb
      go_enter Tryz.func157, Tryz.ntmps157
      go_wp2_with (first | (go_at_call 170; refine (Tryz.utf8_ValidRune _ _).mono ?_; rintro e w' ⟨rfl, rfl⟩) | (go_at_call 171; refine (isControl_any _ _).mono ?_; rintro e w' ⟨rfl, rfl⟩) | (go_at_call 172; refine (isNoCharacter_any _ _ b0 b1).mono ?_; rintro e w' ⟨rfl, rfl⟩))
      go_ret
      exact ⟨ret_bool (by rw [Hg.out]), rfl⟩
  · have hv : Lib.validRune n = false := by simpa using hv
    have hg : good n = false := by rw [good_not]; unfold Lib.validRune at hv; have := of_decide_eq_false hv; omega
    have Hg := Lib.hid hg
    clear hg
    go_enter Tryz.func157, Tryz.ntmps157
    go_wp2_with (go_at_call 170; refine (Tryz.utf8_ValidRune _ _).mono ?_; rintro e w' ⟨rfl, rfl⟩)
    go_ret
    exact ⟨ret_bool (by rw [Hg.out]), rfl⟩
end Go.Proofs.YtiancngpknnkaaaGreat
namespace Go.Proofs.YtiancngpknnkaaaGreat.Vbi
open Go.Lib
def numZ (n : Nat) : List Int := if n < 128 then [(n : Int)] else ((n % 128 + 128 : Nat) : Int) :: numZ (n / 128)
termination_by n
decreasing_by omega
theorem numZ_last {n : Nat} (h : n < 128) : numZ n = [(n : Int)] := by rw [numZ, if_pos h]
theorem numZ_more {n : Nat} (h : 128 ≤ n) : numZ n = ((n % 128 + 128 : Nat) : Int) :: numZ (n / 128) := by rw [numZ, if_neg (by omega)]
theorem numZ_two {n : Nat} (h : 128 ≤ n) (h2 : n < 16384) : numZ n = [((n % 128 + 128 : Nat) : Int), ((n / 128 : Nat) : Int)] := by
  rw [numZ_more h, numZ_last (by omega)]
theorem numZ_three {n : Nat} (h : 16384 ≤ n) (h2 : n < 2097152) : numZ n = [((n % 128 + 128 : Nat) : Int), ((n / 128 % 128 + 128 : Nat) : Int), ((n / 16384 : Nat) : Int)] := by
  rw [numZ_more (by omega), numZ_two (by omega) (by omega)]
  have : n / 128 / 128 = n / 16384 := by omega
  rw [this]
theorem numZ_four {n : Nat} (h : 2097152 ≤ n) (h2 : n < 268435456) : numZ n = [((n % 128 + 128 : Nat) : Int), ((n / 128 % 128 + 128 : Nat) : Int), ((n / 16384 % 128 + 128 : Nat) : Int), ((n / 2097152 : Nat) : Int)] := by
  rw [numZ_more (by omega), numZ_three (by omega) (by omega)]
  have e1 : n / 128 / 128 = n / 16384 := by omega
  have e2 : n / 128 / 16384 = n / 2097152 := by omega
  rw [e1, e2]
theorem numZ_cases {n : Nat} (h : n < 268435456) : (n < 128 ∧ numZ n = [(n : Int)]) ∨ (128 ≤ n ∧ n < 16384 ∧ numZ n = [((n % 128 + 128 : Nat) : Int), ((n / 128 : Nat) : Int)]) ∨
    (16384 ≤ n ∧ n < 2097152 ∧ numZ n = [((n % 128 + 128 : Nat) : Int), ((n / 128 % 128 + 128 : Nat) : Int), ((n / 16384 : Nat) : Int)]) ∨
    (2097152 ≤ n ∧ numZ n = [((n % 128 + 128 : Nat) : Int), ((n / 128 % 128 + 128 : Nat) : Int), ((n / 16384 % 128 + 128 : Nat) : Int), ((n / 2097152 : Nat) : Int)]) := by
  by_cases c1 : n < 128
  · exact .inl ⟨c1, numZ_last c1⟩
  · by_cases c2 : n < 16384
    · exact .inr (.inl ⟨by omega, c2, numZ_two (by omega) c2⟩)
    · by_cases c3 : n < 2097152
      · exact .inr (.inr (.inl ⟨by omega, c3, numZ_three (by omega) c3⟩))
      · exact .inr (.inr (.inr ⟨by omega, numZ_four (by omega) h⟩))
def numLen (n : Nat) : Nat := if n < 128 then 1 else if n < 16384 then 2 else if n < 2097152 then 3 else 4
theorem numZ_len {n : Nat} (h : n < 268435456) : (numZ n).length = numLen n := by
  unfold numLen
  rcases numZ_cases h with ⟨a, e⟩ | ⟨a, b, e⟩ | ⟨a, b, e⟩ | ⟨a, e⟩ <;> rw [e]
  · rw [if_pos a]; rfl
  · rw [if_neg (by omega), if_pos b]; rfl
  · rw [if_neg (by omega), if_neg (by omega), if_pos b]; rfl
  · rw [if_neg (by omega), if_neg (by omega), if_neg (by omega)]; rfl
theorem numLen_le (n : Nat) : 1 ≤ numLen n ∧ numLen n ≤ 4 := by unfold numLen; repeat' split
                                                                all_goals omega
def numErr (n : Int) : Int := if 0 ≤ n ∧ n ≤ 268435455 then 0 else 2
def numStr (n : Int) : ByteArray := if 0 ≤ n ∧ n ≤ 268435455 then strOfNums (numZ n.toNat) else ⟨#[]⟩
theorem numErr_cases (n : Int) : (0 ≤ n ∧ n ≤ 268435455 ∧ numErr n = 0 ∧ numStr n = strOfNums (numZ n.toNat)) ∨ ((n < 0 ∨ 268435455 < n) ∧ numErr n = 2 ∧ numStr n = ⟨#[]⟩) := by
  unfold numErr numStr
  by_cases h : 0 ≤ n ∧ n ≤ 268435455
  · rw [if_pos h, if_pos h]; exact .inl ⟨h.1, h.2, rfl, rfl⟩
  · rw [if_neg h, if_neg h]; exact .inr ⟨by omega, rfl, rfl⟩
def tnGo : Nat → Nat → List UInt8 → Int × Int × Int
  | 0, _, _ => (0, 0, 8)
  | _ + 1, _, [] => (0, 0, 7)
  | f + 1, n, b :: t => if b.toNat < 128 then (if b.toNat = 0 ∧ f < 3 then (0, 0, 8) else (((n + b.toNat * 128 ^ (3 - f) : Nat) : Int), ((4 - f : Nat) : Int), 0))
    else tnGo f (n + b.toNat % 128 * 128 ^ (3 - f)) t
def tn (l : List UInt8) : Int × Int × Int := tnGo 4 0 l
theorem tnGo_more {f n : Nat} {b : UInt8} {t : List UInt8} (h : 128 ≤ b.toNat) : tnGo (f + 1) n (b :: t) = tnGo f (n + b.toNat % 128 * 128 ^ (3 - f)) t := by
  show (if b.toNat < 128 then _ else _) = _
  rw [if_neg (by omega)]
theorem tnGo_bad {f n : Nat} {b : UInt8} {t : List UInt8} (h : b.toNat = 0) (hf : f < 3) : tnGo (f + 1) n (b :: t) = (0, 0, 8) := by
  show (if b.toNat < 128 then _ else _) = _
  rw [if_pos (by omega), if_pos ⟨h, hf⟩]
theorem tnGo_last {f n : Nat} {b : UInt8} {t : List UInt8} (h : b.toNat < 128) (hf : b.toNat ≠ 0 ∨ f = 3) : tnGo (f + 1) n (b :: t) = (((n + b.toNat * 128 ^ (3 - f) : Nat) : Int), ((4 - f : Nat) : Int), 0) := by
  show (if b.toNat < 128 then _ else _) = _
  rw [if_pos h, if_neg (by omega)]
theorem u8_ofNat {x : Nat} (h : x < 256) : (UInt8.ofNat x).toNat = x := by simp; omega
theorem u8_eq {a : UInt8} {x : Nat} (h : a.toNat = x) : UInt8.ofNat x = a := by subst h; simp
def bytesOf (zs : List Int) : List UInt8 := zs.map fun n => UInt8.ofNat n.toNat
theorem strOf_data (zs : List Int) : (strOfNums zs).data.toList = bytesOf zs := strOfNums_data zs
theorem tn_back {n : Nat} (h : n < 268435456) (t : List UInt8) : tn (bytesOf (numZ n) ++ t) = ((n : Int), ((numZ n).length : Int), 0) := by
  unfold tn bytesOf
  rcases numZ_cases h with ⟨a, e⟩ | ⟨a, b, e⟩ | ⟨a, b, e⟩ | ⟨a, e⟩ <;> rw [e] <;> simp only [List.map_cons, List.map_nil, List.cons_append, List.nil_append, Int.toNat_natCast]
  · have u0 : (UInt8.ofNat n).toNat = n := u8_ofNat (by omega)
    rw [tnGo_last (by omega) (.inr rfl), u0]; simp
  · have u0 : (UInt8.ofNat (n % 128 + 128)).toNat = n % 128 + 128 := u8_ofNat (by omega)
    have u1 : (UInt8.ofNat (n / 128)).toNat = n / 128 := u8_ofNat (by omega)
    rw [tnGo_more (by omega), tnGo_last (by omega) (.inl (by omega)), u0, u1]; simp; omega
  · have u0 : (UInt8.ofNat (n % 128 + 128)).toNat = n % 128 + 128 := u8_ofNat (by omega)
    have u1 : (UInt8.ofNat (n / 128 % 128 + 128)).toNat = n / 128 % 128 + 128 := u8_ofNat (by omega)
    have u2 : (UInt8.ofNat (n / 16384)).toNat = n / 16384 := u8_ofNat (by omega)
    rw [tnGo_more (by omega), tnGo_more (by omega), tnGo_last (by omega) (.inl (by omega)), u0, u1, u2]; simp; omega
  · have u0 : (UInt8.ofNat (n % 128 + 128)).toNat = n % 128 + 128 := u8_ofNat (by omega)
    have u1 : (UInt8.ofNat (n / 128 % 128 + 128)).toNat = n / 128 % 128 + 128 := u8_ofNat (by omega)
    have u2 : (UInt8.ofNat (n / 16384 % 128 + 128)).toNat = n / 16384 % 128 + 128 := u8_ofNat (by omega)
    have u3 : (UInt8.ofNat (n / 2097152)).toNat = n / 2097152 := u8_ofNat (by omega)
    rw [tnGo_more (by omega), tnGo_more (by omega), tnGo_more (by omega), tnGo_last (by omega) (.inl (by omega)), u0, u1, u2, u3]; simp; omega
theorem tn_cut {n : Nat} (h : n < 268435456) (j : Nat) (hj : j < (numZ n).length) : tn ((bytesOf (numZ n)).take j) = (0, 0, 7) := by
  unfold tn bytesOf
  rcases numZ_cases h with ⟨a, e⟩ | ⟨a, b, e⟩ | ⟨a, b, e⟩ | ⟨a, e⟩ <;> rw [e] at hj ⊢ <;> simp only [List.map_cons, List.map_nil, List.length_cons, List.length_nil, Int.toNat_natCast] at hj ⊢
  · obtain rfl : j = 0 := by omega
    rfl
  · have u0 : (UInt8.ofNat (n % 128 + 128)).toNat = n % 128 + 128 := u8_ofNat (by omega)
    rcases (by omega : j = 0 ∨ j = 1) with rfl | rfl
    · rfl
    · rw [List.take_succ_cons, List.take_zero, tnGo_more (by omega)]; rfl
  · have u0 : (UInt8.ofNat (n % 128 + 128)).toNat = n % 128 + 128 := u8_ofNat (by omega)
    have u1 : (UInt8.ofNat (n / 128 % 128 + 128)).toNat = n / 128 % 128 + 128 := u8_ofNat (by omega)
    rcases (by omega : j = 0 ∨ j = 1 ∨ j = 2) with rfl | rfl | rfl
    · rfl
    · rw [List.take_succ_cons, List.take_zero, tnGo_more (by omega)]; rfl
    · rw [List.take_succ_cons, List.take_succ_cons, List.take_zero, tnGo_more (by omega), tnGo_more (by omega)]; rfl
  · have u0 : (UInt8.ofNat (n % 128 + 128)).toNat = n % 128 + 128 := u8_ofNat (by omega)
    have u1 : (UInt8.ofNat (n / 128 % 128 + 128)).toNat = n / 128 % 128 + 128 := u8_ofNat (by omega)
    have u2 : (UInt8.ofNat (n / 16384 % 128 + 128)).toNat = n / 16384 % 128 + 128 := u8_ofNat (by omega)
    rcases (by omega : j = 0 ∨ j = 1 ∨ j = 2 ∨ j = 3) with rfl | rfl | rfl | rfl
    · rfl
    · rw [List.take_succ_cons, List.take_zero, tnGo_more (by omega)]; rfl
    · rw [List.take_succ_cons, List.take_succ_cons, List.take_zero, tnGo_more (by omega), tnGo_more (by omega)]; rfl
    · rw [List.take_succ_cons, List.take_succ_cons, List.take_succ_cons, List.take_zero, tnGo_more (by omega), tnGo_more (by omega), tnGo_more (by omega)]; rfl
theorem tnGo_cases (f n : Nat) (l : List UInt8) : (l = [] ∧ tnGo (f + 1) n l = (0, 0, 7)) ∨ (∃ b t, l = b :: t ∧ b.toNat = 0 ∧ f < 3 ∧ tnGo (f + 1) n l = (0, 0, 8)) ∨
    (∃ b t, l = b :: t ∧ b.toNat < 128 ∧ (b.toNat ≠ 0 ∨ 3 ≤ f) ∧ tnGo (f + 1) n l = (((n + b.toNat * 128 ^ (3 - f) : Nat) : Int), ((4 - f : Nat) : Int), 0)) ∨
    (∃ b t, l = b :: t ∧ 128 ≤ b.toNat ∧ tnGo (f + 1) n l = tnGo f (n + b.toNat % 128 * 128 ^ (3 - f)) t) := by
  match l with
  | [] => exact .inl ⟨rfl, rfl⟩
  | b :: t =>
    by_cases h : b.toNat < 128
    · by_cases h2 : b.toNat = 0 ∧ f < 3
      · exact .inr (.inl ⟨b, t, rfl, h2.1, h2.2, tnGo_bad h2.1 h2.2⟩)
      · refine .inr (.inr (.inl ⟨b, t, rfl, h, by omega, ?_⟩))
        show (if b.toNat < 128 then _ else _) = _
        rw [if_pos h, if_neg h2]
    · exact .inr (.inr (.inr ⟨b, t, rfl, by omega, tnGo_more (by omega)⟩))
theorem tn_case3 (n : Nat) (l : List UInt8) : tnGo 4 n l = (0, 0, 7) ∨ tnGo 4 n l = (0, 0, 8) ∨ (∃ b t, l = b :: t ∧ b.toNat < 128 ∧ tnGo 4 n l = (((n + b.toNat : Nat) : Int), 1, 0)) ∨
    (∃ b t, l = b :: t ∧ 128 ≤ b.toNat ∧ tnGo 4 n l = tnGo 3 (n + b.toNat % 128) t) := by
  rcases tnGo_cases 3 n l with ⟨_, e⟩ | ⟨b, t, _, _, _, e⟩ | ⟨b, t, hl, h1, _, e⟩ | ⟨b, t, hl, h1, e⟩
  · exact .inl e
  · exact .inr (.inl e)
  · exact .inr (.inr (.inl ⟨b, t, hl, h1, by rw [e]; simp⟩))
  · exact .inr (.inr (.inr ⟨b, t, hl, h1, by rw [e]; simp⟩))
theorem tn_case2 (n : Nat) (l : List UInt8) : tnGo 3 n l = (0, 0, 7) ∨ tnGo 3 n l = (0, 0, 8) ∨ (∃ b t, l = b :: t ∧ b.toNat < 128 ∧ b.toNat ≠ 0 ∧ tnGo 3 n l = (((n + b.toNat * 128 : Nat) : Int), 2, 0)) ∨
    (∃ b t, l = b :: t ∧ 128 ≤ b.toNat ∧ tnGo 3 n l = tnGo 2 (n + b.toNat % 128 * 128) t) := by
  rcases tnGo_cases 2 n l with ⟨_, e⟩ | ⟨b, t, _, _, _, e⟩ | ⟨b, t, hl, h1, h2, e⟩ | ⟨b, t, hl, h1, e⟩
  · exact .inl e
  · exact .inr (.inl e)
  · exact .inr (.inr (.inl ⟨b, t, hl, h1, by omega, e⟩))
  · exact .inr (.inr (.inr ⟨b, t, hl, h1, by rw [e]⟩))
theorem tn_case1 (n : Nat) (l : List UInt8) : tnGo 2 n l = (0, 0, 7) ∨ tnGo 2 n l = (0, 0, 8) ∨ (∃ b t, l = b :: t ∧ b.toNat < 128 ∧ b.toNat ≠ 0 ∧ tnGo 2 n l = (((n + b.toNat * 16384 : Nat) : Int), 3, 0)) ∨
    (∃ b t, l = b :: t ∧ 128 ≤ b.toNat ∧ tnGo 2 n l = tnGo 1 (n + b.toNat % 128 * 16384) t) := by
  rcases tnGo_cases 1 n l with ⟨_, e⟩ | ⟨b, t, _, _, _, e⟩ | ⟨b, t, hl, h1, h2, e⟩ | ⟨b, t, hl, h1, e⟩
  · exact .inl e
  · exact .inr (.inl e)
  · exact .inr (.inr (.inl ⟨b, t, hl, h1, by omega, e⟩))
  · exact .inr (.inr (.inr ⟨b, t, hl, h1, by rw [e]⟩))
theorem tn_case0 (n : Nat) (l : List UInt8) : tnGo 1 n l = (0, 0, 7) ∨ tnGo 1 n l = (0, 0, 8) ∨ (∃ b t, l = b :: t ∧ b.toNat < 128 ∧ b.toNat ≠ 0 ∧ tnGo 1 n l = (((n + b.toNat * 2097152 : Nat) : Int), 4, 0)) := by
  rcases tnGo_cases 0 n l with ⟨_, e⟩ | ⟨b, t, _, _, _, e⟩ | ⟨b, t, hl, h1, h2, e⟩ | ⟨b, t, hl, h1, e⟩
  · exact .inl e
  · exact .inr (.inl e)
  · exact .inr (.inr ⟨b, t, hl, h1, by omega, by rw [e]; simp⟩)
  · refine .inr (.inl ?_)
    rw [e]; rfl
theorem wrote_one (b : UInt8) (t : List UInt8) (h : b.toNat < 128) : (b :: t).take 1 = bytesOf (numZ b.toNat) := by
  unfold bytesOf
  rw [numZ_last h]; simp
theorem wrote_two (b c : UInt8) (t : List UInt8) (m : Nat) (hb : 128 ≤ b.toNat) (hc : c.toNat < 128) (h0 : c.toNat ≠ 0) (hm : m = b.toNat % 128 + c.toNat * 128) : (b :: c :: t).take 2 = bytesOf (numZ m) := by
  have := b.toNat_lt
  have h1 : b.toNat = m % 128 + 128 := by omega
  have h2 : c.toNat = m / 128 := by omega
  have h3 : 128 ≤ m ∧ m < 16384 := by omega
  clear hm
  unfold bytesOf
  rw [numZ_two h3.1 h3.2]
  simp only [List.take_succ_cons, List.take_zero, List.map_cons, List.map_nil, Int.toNat_natCast]
  rw [u8_eq h1, u8_eq h2]
theorem wrote_three (b c d : UInt8) (t : List UInt8) (m : Nat) (hb : 128 ≤ b.toNat) (hc : 128 ≤ c.toNat) (hd : d.toNat < 128) (h0 : d.toNat ≠ 0) (hm : m = b.toNat % 128 + c.toNat % 128 * 128 + d.toNat * 16384) :
    (b :: c :: d :: t).take 3 = bytesOf (numZ m) := by
  have := b.toNat_lt
  have := c.toNat_lt
  have h1 : b.toNat = m % 128 + 128 := by omega
  have h2 : c.toNat = m / 128 % 128 + 128 := by omega
  have h3 : d.toNat = m / 16384 := by omega
  have h4 : 16384 ≤ m ∧ m < 2097152 := by omega
  clear hm
  unfold bytesOf
  rw [numZ_three h4.1 h4.2]
  simp only [List.take_succ_cons, List.take_zero, List.map_cons, List.map_nil, Int.toNat_natCast]
  rw [u8_eq h1, u8_eq h2, u8_eq h3]
theorem wrote_four (b c d x : UInt8) (t : List UInt8) (m : Nat) (hb : 128 ≤ b.toNat) (hc : 128 ≤ c.toNat) (hd : 128 ≤ d.toNat) (hx : x.toNat < 128) (h0 : x.toNat ≠ 0)
    (hm : m = b.toNat % 128 + c.toNat % 128 * 128 + d.toNat % 128 * 16384 + x.toNat * 2097152) : (b :: c :: d :: x :: t).take 4 = bytesOf (numZ m) := by
  have := b.toNat_lt
  have := c.toNat_lt
  have := d.toNat_lt
  have h1 : b.toNat = m % 128 + 128 := by omega
  have h2 : c.toNat = m / 128 % 128 + 128 := by omega
  have h3 : d.toNat = m / 16384 % 128 + 128 := by omega
  have h4 : x.toNat = m / 2097152 := by omega
  have h5 : 2097152 ≤ m ∧ m < 268435456 := by omega
  clear hm
  unfold bytesOf
  rw [numZ_four h5.1 h5.2]
  simp only [List.take_succ_cons, List.take_zero, List.map_cons, List.map_nil, Int.toNat_natCast]
  rw [u8_eq h1, u8_eq h2, u8_eq h3, u8_eq h4]
theorem tn_wrote (l : List UInt8) : (tn l = (0, 0, 7) ∨ tn l = (0, 0, 8)) ∨ ∃ m k : Nat, tn l = ((m : Int), (k : Int), 0) ∧ m < 268435456 ∧ k ≤ l.length ∧ l.take k = bytesOf (numZ m) := by
  unfold tn
  rcases tn_case3 0 l with e | e | ⟨b, t, rfl, h1, e⟩ | ⟨b, t, rfl, h1, e⟩
  · exact .inl (.inl e)
  · exact .inl (.inr e)
  · rw [Nat.zero_add] at e
    exact .inr ⟨b.toNat, 1, e, by omega, by simp, wrote_one b t h1⟩
  have hb := b.toNat_lt
  rw [Nat.zero_add] at e
  rcases tn_case2 (b.toNat % 128) t with e2 | e2 | ⟨c, t, rfl, h2, h0, e2⟩ | ⟨c, t, rfl, h2, e2⟩
  · exact .inl (.inl (e.trans e2))
  · exact .inl (.inr (e.trans e2))
  · obtain ⟨m, hm⟩ : ∃ m, m = b.toNat % 128 + c.toNat * 128 := ⟨_, rfl⟩
    rw [← hm] at e2
    exact .inr ⟨m, 2, e.trans e2, by omega, by simp, wrote_two b c t m h1 h2 h0 hm⟩
  have hc := c.toNat_lt
  rcases tn_case1 (b.toNat % 128 + c.toNat % 128 * 128) t with e3 | e3 | ⟨d, t, rfl, h3, h0, e3⟩ | ⟨d, t, rfl, h3, e3⟩
  · exact .inl (.inl (e.trans (e2.trans e3)))
  · exact .inl (.inr (e.trans (e2.trans e3)))
  · obtain ⟨m, hm⟩ : ∃ m, m = b.toNat % 128 + c.toNat % 128 * 128 + d.toNat * 16384 := ⟨_, rfl⟩
    rw [← hm] at e3
    exact .inr ⟨m, 3, e.trans (e2.trans e3), by omega, by simp, wrote_three b c d t m h1 h2 h3 h0 hm⟩
  have hd := d.toNat_lt
  rcases tn_case0 (b.toNat % 128 + c.toNat % 128 * 128 + d.toNat % 128 * 16384) t with e4 | e4 | ⟨x, t, rfl, h4, h0, e4⟩
  · exact .inl (.inl (e.trans (e2.trans (e3.trans e4))))
  · exact .inl (.inr (e.trans (e2.trans (e3.trans e4))))
  · obtain ⟨m, hm⟩ : ∃ m, m = b.toNat % 128 + c.toNat % 128 * 128 + d.toNat % 128 * 16384 + x.toNat * 2097152 := ⟨_, rfl⟩
    rw [← hm] at e4
    exact .inr ⟨m, 4, e.trans (e2.trans (e3.trans e4)), by omega, by simp, wrote_four b c d x t m h1 h2 h3 h4 h0 hm⟩
def fixZ : Nat → Nat → List Int
  | 0, _ => []
  | w + 1, n => ((n / 256 ^ w % 256 : Nat) : Int) :: fixZ w n
theorem fixZ_len (w n : Nat) : (fixZ w n).length = w := by
  induction w with
  | zero => rfl
  | succ w ih => show (fixZ w n).length + 1 = w + 1; rw [ih]
def fixErr (w : Nat) (n : Int) : Int := if 0 ≤ n ∧ n < 256 ^ w then 0 else 2
def fixStr (w : Nat) (n : Int) : ByteArray := if 0 ≤ n ∧ n < 256 ^ w then strOfNums (fixZ w n.toNat) else ⟨#[]⟩
theorem fix_cases (w : Nat) (n : Int) : (0 ≤ n ∧ n < 256 ^ w ∧ fixErr w n = 0 ∧ fixStr w n = strOfNums (fixZ w n.toNat)) ∨ ((n < 0 ∨ 256 ^ w ≤ n) ∧ fixErr w n = 2 ∧ fixStr w n = ⟨#[]⟩) := by
  unfold fixErr fixStr
  by_cases h : 0 ≤ n ∧ n < 256 ^ w
  · rw [if_pos h, if_pos h]; exact .inl ⟨h.1, h.2, rfl, rfl⟩
  · rw [if_neg h, if_neg h]; exact .inr ⟨by omega, rfl, rfl⟩
def fixGo (n : Nat) (l : List UInt8) : Nat := l.foldl (fun a b => a * 256 + b.toNat) n
def fixVal (l : List UInt8) : Nat := fixGo 0 l
theorem fixGo_cons (n : Nat) (b : UInt8) (t : List UInt8) : fixGo n (b :: t) = fixGo (n * 256 + b.toNat) t := rfl
def tfErr (w : Nat) (l : List UInt8) : Int := if l.length < w then 7 else 0
def tfVal (w : Nat) (l : List UInt8) : Int := if l.length < w then 0 else (fixVal (l.take w) : Nat)
theorem fix2_data {n : Nat} (h : n < 65536) : bytesOf (fixZ 2 n) = [UInt8.ofNat (n / 256), UInt8.ofNat (n % 256)] := by
  unfold bytesOf fixZ fixZ fixZ
  simp only [List.map_cons, List.map_nil, Int.toNat_natCast, Nat.pow_one, Nat.pow_zero, Nat.div_one]
  rw [Nat.mod_eq_of_lt (show n / 256 < 256 by omega)]
theorem fix2_back {n : Nat} (h : n < 65536) (t : List UInt8) : fixVal ((bytesOf (fixZ 2 n) ++ t).take 2) = n := by
  rw [fix2_data h]
  simp only [List.cons_append, List.nil_append, List.take_succ_cons, List.take_zero]
  unfold fixVal
  rw [fixGo_cons, fixGo_cons, u8_ofNat (by omega), u8_ofNat (by omega)]
  show (0 * 256 + n / 256) * 256 + n % 256 = n
  omega
theorem fixVal_two (l : List UInt8) : fixVal (l.take 2) < 65536 := by
  match l with
  | [] => decide
  | [a] => have := a.toNat_lt; show (0 * 256 + a.toNat) < _; omega
  | a :: b :: t => have := a.toNat_lt; have := b.toNat_lt; show ((0 * 256 + a.toNat) * 256 + b.toNat) < _; omega
end Go.Proofs.YtiancngpknnkaaaGreat.Vbi
namespace Go.Proofs.YtiancngpknnkaaaGreat
open Go.RowKit Go.Lib Vbi
theorem ofInt_i64 (a : Nat) (ha : a < 9223372036854775808) : (BitVec.ofInt 64 (a : Int)).toNat = a := by
  rw [BitVec.ofInt_natCast, BitVec.toNat_ofNat]; exact Nat.mod_eq_of_lt (by omega)
theorem i64_or_nat (a b : Nat) (ha : a < 9223372036854775808) (hb : b < 9223372036854775808) : bits .or .i64 (a : Int) (b : Int) = ((a ||| b : Nat) : Int) := by
  have hx : a ||| b < 2 ^ 63 := Nat.or_lt_two_pow (by omega) (by omega)
  show IntKind.i64.wrap ((BitVec.ofInt 64 (a : Int) ||| BitVec.ofInt 64 (b : Int)).toNat : Int) = _
  rw [BitVec.toNat_or, ofInt_i64 a ha, ofInt_i64 b hb]
  unfold IntKind.wrap
  simp [IntKind.bits, IntKind.signed]
  omega
theorem i64_or_add (a b k : Nat) (ha : a < 2 ^ k) (hk : k ≤ 40) (hb : b * 2 ^ k < 9223372036854775808) : bits .or .i64 (a : Int) ((b * 2 ^ k : Nat) : Int) = ((a + b * 2 ^ k : Nat) : Int) := by
  have h2 : (2 : Nat) ^ k ≤ 2 ^ 40 := Nat.pow_le_pow_right (by decide) hk
  rw [i64_or_nat a _ (by omega) hb, Nat.or_comm, Nat.mul_comm b, ← Nat.two_pow_add_eq_or_of_lt ha, Nat.add_comm]
theorem data_at (s : ByteArray) (k : Nat) (h : k < s.size) : s.data.toList.drop k = s[k] :: s.data.toList.drop (k + 1) := by
  rw [List.drop_eq_getElem_cons (by simpa using h)]; rfl
theorem data_end (s : ByteArray) (k : Nat) (h : s.size ≤ k) : s.data.toList.drop k = [] := List.drop_of_length_le (by rw [← Lib.size_eq]; exact h)
theorem tn_or0 (m c : Nat) (hm : m < 128 ^ 0) : bits .or .i64 (m : Int) ((c : Int) % 128) = ((m + c % 128 * 128 ^ (3 - 3) : Nat) : Int) := by
  have := i64_or_add m (c % 128) 0 (by simpa using hm) (by omega) (by omega)
  simpa using this
theorem tn_or1 (m c : Nat) (hm : m < 128 ^ 1) : bits .or .i64 (m : Int) ((c : Int) % 128 * 128) = ((m + c % 128 * 128 ^ (3 - 2) : Nat) : Int) := by
  have := i64_or_add m (c % 128) 7 (by omega) (by omega) (by omega)
  simpa using this
theorem tn_or2 (m c : Nat) (hm : m < 128 ^ 2) : bits .or .i64 (m : Int) ((c : Int) % 128 * 16384) = ((m + c % 128 * 128 ^ (3 - 1) : Nat) : Int) := by
  have := i64_or_add m (c % 128) 14 (by omega) (by omega) (by omega)
  simpa using this
theorem tn_or3 (m c : Nat) (hm : m < 128 ^ 3) : bits .or .i64 (m : Int) ((c : Int) % 128 * 2097152) = ((m + c % 128 * 128 ^ (3 - 0) : Nat) : Int) := by
  have := i64_or_add m (c % 128) 21 (by omega) (by omega) (by omega)
  simpa using this
theorem tn_or0z (m c : Nat) (hm : m < 128 ^ 0) (hc : c = 0) : bits .or .i64 (m : Int) 0 = ((m + c % 128 * 128 ^ (3 - 3) : Nat) : Int) := by
  subst hc
  exact tn_or0 m 0 hm
theorem ret_tn {l : List UInt8} {a b c : Int} (h : tn l = (a, b, c)) : Ending.returned (.tuple #[.int .i64 a, .int .i64 b, .int .i64 c]) = .returned (.tuple #[.int .i64 (tn l).1, .int .i64 (tn l).2.1, .int .i64 (tn l).2.2]) := by rw [h]
theorem tn_last {l : List UInt8} {f n : Nat} {b : UInt8} {t : List UInt8} (e : tn l = tnGo (f + 1) n (b :: t)) (h : b.toNat < 128) (hf : b.toNat ≠ 0 ∨ f = 3) : tn l = (((n + b.toNat % 128 * 128 ^ (3 - f) : Nat) : Int), ((4 - f : Nat) : Int), 0) := by
  rw [e, tnGo_last h hf, Nat.mod_eq_of_lt h]
theorem tn_next {l : List UInt8} {f n k : Nat} {b : UInt8} {t : List UInt8} (e : tn l = tnGo (f + 1) n (b :: t)) (h : 128 ≤ b.toNat) (hf : f + k = 3) (hn : n < 128 ^ k) :
    n + b.toNat % 128 * 128 ^ (3 - f) < 128 ^ (k + 1) ∧ tn l = tnGo f (n + b.toNat % 128 * 128 ^ (3 - f)) t := by
  refine ⟨?_, e.trans (tnGo_more h)⟩
  have : 3 - f = k := by omega
  rw [this, Nat.pow_succ]
  have h1 : b.toNat % 128 * 128 ^ k ≤ 127 * 128 ^ k := Nat.mul_le_mul_right _ (by omega)
  omega
@[irreducible] def TnOk (l : List UInt8) (w : World) (e : Ending) (w' : World) : Prop := e = .returned (.tuple #[.int .i64 (tn l).1, .int .i64 (tn l).2.1, .int .i64 (tn l).2.2]) ∧ w' = w
theorem tn_ok {l : List UInt8} {w : World} {a b c : Int} (h : tn l = (a, b, c)) : TnOk l w (.returned (.tuple #[.int .i64 a, .int .i64 b, .int .i64 c])) w := by
  unfold TnOk; exact ⟨ret_tn h, rfl⟩
theorem TakeNum_ok (s : ByteArray) (w : World) (hs : s.size ≤ 9223372036854775807) :
    Calls Tryz.prog 60 #[.string s] w (TnOk s.data.toList w) := by
  go_enter Tryz.func60, Tryz.ntmps60
  go_wp2_with fail
  go_loop [2, 7] (fun n i => ∃ (k m : Nat), k ≤ 4 ∧ k ≤ s.size ∧ i = .int .i64 (k : Int) ∧ n = .int .i64 (m : Int) ∧ m < 128 ^ k ∧ tn s.data.toList = tnGo (4 - k) m (s.data.toList.drop k)) (fun _ i => 4 - (RowKit.intOf i).toNat)
  case atStart => exact ⟨0, 0, by omega, by omega, rfl, rfl, by simp, rfl⟩
  case round =>
    obtain ⟨k, m, hk, hks, rfl, rfl, hm, ht⟩ := hrel
    by_cases h4 : k < 4
    · by_cases hlt : k < s.size
      · rw [data_at s k hlt] at ht
        have hb : s[k].toNat < 256 := s[k].toNat_lt
        have hne : ¬ s = ByteArray.empty := by intro h; rw [h] at hlt; exact absurd hlt (by simp)
        rcases (by omega : k = 0 ∨ k = 1 ∨ k = 2 ∨ k = 3) with rfl | rfl | rfl | rfl
        · have HO := Lib.hid (tn_or0 m s[0].toNat hm)
          have HZ := Lib.hid (tn_or0z m s[0].toNat hm)
          have HM := Lib.hid hm
          have HT := Lib.hid ht
          clear ht hm
          by_cases hc : 128 ≤ s[0].toNat
          · go_wp2_with fail
            go_round
            case rel => exact ⟨1, _, by omega, by omega, rfl, by rw [HO.out], (tn_next (k := 0) HT.out hc rfl HM.out).1, (tn_next (k := 0) HT.out hc rfl HM.out).2⟩
            case measure => simp [RowKit.intOf]
          · go_wp2_with fail
            all_goals
              go_ret3
              first | (rw [HZ.out (by assumption)]; exact tn_ok (tn_last HT.out (by omega) (.inr rfl))) | (rw [HO.out]; exact tn_ok (tn_last HT.out (by omega) (.inr rfl)))
        · have HO := Lib.hid (tn_or1 m s[1].toNat hm)
          have HM := Lib.hid hm
          have HT := Lib.hid ht
          clear ht hm
          by_cases hc : 128 ≤ s[1].toNat
          · go_wp2_with fail
            go_round
            case rel => exact ⟨2, _, by omega, by omega, rfl, by rw [HO.out], (tn_next (k := 1) HT.out hc rfl HM.out).1, (tn_next (k := 1) HT.out hc rfl HM.out).2⟩
            case measure => simp [RowKit.intOf]
          · go_wp2_with fail
            · have hz : s[1].toNat = 0 := by assumption
              go_ret3
              exact tn_ok (HT.out.trans (tnGo_bad hz (by omega)))
            · have hz : ¬ s[1].toNat = 0 := by assumption
              go_ret3
              rw [HO.out]
              exact tn_ok (tn_last HT.out (by omega) (.inl hz))
        · have HO := Lib.hid (tn_or2 m s[2].toNat hm)
          have HM := Lib.hid hm
          have HT := Lib.hid ht
          clear ht hm
          by_cases hc : 128 ≤ s[2].toNat
          · go_wp2_with fail
            go_round
            case rel => exact ⟨3, _, by omega, by omega, rfl, by rw [HO.out], (tn_next (k := 2) HT.out hc rfl HM.out).1, (tn_next (k := 2) HT.out hc rfl HM.out).2⟩
            case measure => simp [RowKit.intOf]
          · go_wp2_with fail
            · have hz : s[2].toNat = 0 := by assumption
              go_ret3
              exact tn_ok (HT.out.trans (tnGo_bad hz (by omega)))
            · have hz : ¬ s[2].toNat = 0 := by assumption
              go_ret3
              rw [HO.out]
              exact tn_ok (tn_last HT.out (by omega) (.inl hz))
        · have HO := Lib.hid (tn_or3 m s[3].toNat hm)
          have HM := Lib.hid hm
          have HT := Lib.hid ht
          clear ht hm
          by_cases hc : 128 ≤ s[3].toNat
          · go_wp2_with fail
            go_round
            case rel => exact ⟨4, _, by omega, by omega, rfl, by rw [HO.out], (tn_next (k := 3) HT.out hc rfl HM.out).1, (tn_next (k := 3) HT.out hc rfl HM.out).2⟩
            case measure => simp [RowKit.intOf]
          · go_wp2_with fail
            · have hz : s[3].toNat = 0 := by assumption
              go_ret3
              exact tn_ok (HT.out.trans (tnGo_bad hz (by omega)))
            · have hz : ¬ s[3].toNat = 0 := by assumption
              go_ret3
              rw [HO.out]
              exact tn_ok (tn_last HT.out (by omega) (.inl hz))
      · rw [data_end s k (by omega)] at ht
        obtain rfl : k = s.size := by omega
        have HT := Lib.hid (ht.trans (show tnGo (4 - s.size) m [] = (0, 0, 7) by obtain ⟨f, hf⟩ : ∃ f, 4 - s.size = f + 1 := ⟨3 - s.size, by omega⟩; rw [hf]; rfl))
        clear ht hm
        go_wp2_with fail
        go_ret3
        exact tn_ok HT.out
    · obtain rfl : k = 4 := by omega
      have HT := Lib.hid ht
      clear ht hm
      go_wp2_with fail
      go_ret3
      exact tn_ok HT.out
open Go.RowKit Go.Lib Vbi
theorem i64_or8 (m c : Nat) (hm : m < 16777216) (hc : c < 256) : bits .or .i64 ((m : Int) * 256) (c : Int) = ((m * 256 + c : Nat) : Int) := by
  have h := i64_or_nat (m * 256) c (by omega) (by omega)
  rw [Nat.mul_comm m 256, show (256 : Nat) = 2 ^ 8 from rfl, ← Nat.two_pow_add_eq_or_of_lt (by omega)] at h
  rw [show ((m : Int) * 256) = ((2 ^ 8 * m : Nat) : Int) by omega, h]
  omega
@[irreducible] def TfOk (wd : Nat) (l : List UInt8) (w : World) (e : Ending) (w' : World) : Prop := e = .returned (.tuple #[.int .i64 (tfVal wd l), .int .i64 (tfErr wd l)]) ∧ w' = w
theorem tf_ok {wd : Nat} {l : List UInt8} {w : World} {a b : Int} (h : tfVal wd l = a) (h2 : tfErr wd l = b) : TfOk wd l w (.returned (.tuple #[.int .i64 a, .int .i64 b])) w := by
  unfold TfOk; rw [h, h2]; exact ⟨rfl, rfl⟩
theorem tf_cut {wd : Nat} {l : List UInt8} (h : l.length < wd) : tfVal wd l = 0 ∧ tfErr wd l = 7 := by
  unfold tfVal tfErr; rw [if_pos h, if_pos h]; exact ⟨rfl, rfl⟩
theorem tf_good {wd : Nat} {l : List UInt8} (h : wd ≤ l.length) : tfVal wd l = (fixVal (l.take wd) : Nat) ∧ tfErr wd l = 0 := by
  unfold tfVal tfErr; rw [if_neg (by omega), if_neg (by omega)]; exact ⟨rfl, rfl⟩
theorem take_drop_at (s : ByteArray) (wd k : Nat) (hk : k < wd) (h : wd ≤ s.size) : (s.data.toList.take wd).drop k = (s[k]'(by omega)) :: (s.data.toList.take wd).drop (k + 1) := by
  have hl : k < (s.data.toList.take wd).length := by rw [List.length_take, ← Lib.size_eq]; omega
  rw [List.drop_eq_getElem_cons hl, List.getElem_take]; rfl
theorem take_drop_end (s : ByteArray) (wd : Nat) : (s.data.toList.take wd).drop wd = [] := List.drop_of_length_le (by rw [List.length_take]; omega)
theorem pow_lt24 {m k : Nat} (hm : m < 256 ^ k) (hk : k < 4) : m < 16777216 := by
  have : 256 ^ k ≤ 256 ^ 3 := Nat.pow_le_pow_right (by decide) (by omega)
  omega
theorem pow_next {m k c : Nat} (hm : m < 256 ^ k) (hc : c < 256) : m * 256 + c < 256 ^ (k + 1) := by
  rw [Nat.pow_succ]; omega
theorem takeFixed_ok (s : ByteArray) (wd : Nat) (w : World) (hs : s.size ≤ 9223372036854775807) (hw : wd ≤ 4) :
    Calls Tryz.prog 178 #[.string s, .int .i64 (wd : Int)] w (TfOk wd s.data.toList w) := by
  by_cases hcut : s.size < wd
  · have HC := Lib.hid (tf_cut (wd := wd) (l := s.data.toList) (by rw [← Lib.size_eq]; exact hcut))
    have hcut' : (s.size : Int) < (wd : Int) := by omega
    go_enter Tryz.func178, Tryz.ntmps178
    go_wp2
    go_ret2
    exact tf_ok HC.out.1 HC.out.2
  · have HC := Lib.hid (tf_good (wd := wd) (l := s.data.toList) (by rw [← Lib.size_eq]; omega))
    have hcut' : ¬ (s.size : Int) < (wd : Int) := by omega
    have hcd : decide ((s.size : Int) < (wd : Int)) = false := by simp; omega
    go_enter Tryz.func178, Tryz.ntmps178
    go_wp2_with fail
    go_loop [6, 13] (fun n i => ∃ (k m : Nat), k ≤ wd ∧ i = .int .i64 (k : Int) ∧ n = .int .i64 (m : Int) ∧ m < 256 ^ k ∧ fixVal (s.data.toList.take wd) = fixGo m ((s.data.toList.take wd).drop k)) (fun _ i => wd - (RowKit.intOf i).toNat)
    case atStart => exact ⟨0, 0, by omega, rfl, rfl, by simp, rfl⟩
    case round =>
      obtain ⟨k, m, hk, rfl, rfl, hm, ht⟩ := hrel
      by_cases hlt : k < wd
      · rw [take_drop_at s wd k hlt (by omega)] at ht
        have hks : k < s.size := by omega
        have hb : s[k].toNat < 256 := s[k].toNat_lt
        have hm24 := pow_lt24 hm (by omega)
        have HO := Lib.hid (i64_or8 m s[k].toNat hm24 hb)
        have HM := Lib.hid hm
        have HT := Lib.hid ht
        clear ht hm
        go_wp2_with fail
        go_round
        case rel => exact ⟨k + 1, _, by omega, by go_num, by rw [HO.out], pow_next HM.out hb, HT.out.trans (fixGo_cons _ _ _)⟩
        case measure => simp [RowKit.intOf]; omega
      · obtain rfl : k = wd := by omega
        rw [take_drop_end] at ht
        have HT := Lib.hid ht
        clear ht hm
        go_wp2_with fail
        go_ret2
        exact tf_ok (HC.out.1.trans (by rw [HT.out]; rfl)) HC.out.2
theorem TakeTwo_ok (s : ByteArray) (w : World) (hs : s.size ≤ 9223372036854775807) :
    Calls Tryz.prog 166 #[.string s] w (TfOk 2 s.data.toList w) := by
  go_enter Tryz.func166, Tryz.ntmps166
  go_wp2_with fail
  refine (takeFixed_ok s 2 _ hs (by omega)).mono ?_
  intro e w' h
  unfold TfOk at h
  obtain ⟨rfl, rfl⟩ := h
  go_wp2_with fail
  go_ret2
  exact tf_ok rfl rfl
theorem TakeFour_ok (s : ByteArray) (w : World) (hs : s.size ≤ 9223372036854775807) :
    Calls Tryz.prog 183 #[.string s] w (TfOk 4 s.data.toList w) := by
  go_enter Tryz.func183, Tryz.ntmps183
  go_wp2_with fail
  refine (takeFixed_ok s 4 _ hs (by omega)).mono ?_
  intro e w' h
  unfold TfOk at h
  obtain ⟨rfl, rfl⟩ := h
  go_wp2_with fail
  go_ret2
  exact tf_ok rfl rfl
end Go.Proofs.YtiancngpknnkaaaGreat
