/- Package disk: a file laid under a name. -/
import Derived.Test.YtgimecgdfcckbaaDskKept
namespace Go.Proofs.Ytgimecgdfcckbaa.Dsk
open Go.RowKit Go.Lib Go.Maps Go.ChangeMaps Go.MapKept

section
variable {w w' : World} {m nn : Nat} {D : DW} {F : List Fl} {bx : List UInt8 → Nat}
theorem own_tight (h : w.ownsMap Try.prog 9 ptrR m nn D) {k : Nat} (hk : Maps.size D ≤ k) : w.ownsMap Try.prog 9 ptrR m k D := by
  obtain ⟨es, c, hb, F, _, rfl⟩ := h
  refine ⟨es, c, hb, F, ?_, rfl⟩
  simpa [Maps.size, length_sorted] using hk
theorem size_of (h : w.ownsMap Try.prog 9 ptrR m nn D) (hh : ∀ x, Maps.has D (.string x) = true ↔ ∃ f ∈ F, f.n = x) (hs : Sorted F) : Maps.size D = F.length := by
  obtain ⟨es, hD, hpw, _⟩ := h.entries keyed
  obtain ⟨es', hD', hko⟩ := h.keysOf
  obtain rfl : es = es' := by rw [hD] at hD'; simpa using hD'
  subst hD
  have hp : (names F).Perm (strKeys (.map es)) := by
    refine perm_strKeys hpw (fun p hp => by obtain ⟨v, hv⟩ := hko p hp; obtain ⟨x, _, hx, _⟩ := Maps.keyOf_str Try.underlying9 hv; exact ⟨x, hx⟩) ?_ (fun x => ?_)
    · exact (sorted_names hs).imp fun h => lt_ne h
    · rw [hh x]
      simp [names]
  have := hp.length_eq
  simpa [names, strKeys, Maps.size] using this.symm
/-- A store into the map, whatever else the world is. -/
theorem upd_fn (h : w.ownsMap Try.prog 9 ptrR m nn D) (hn : nn < maxLen) (n : List UInt8) (hl : n.length ≤ 140737488351232) (b : Nat) :
    ∃ U : World → World, ∀ W : World, W.heap[m]? = w.heap[m]? → (Instr.mapUpdate 46 (.map (some m)) (.string (str n)) (.pointer (some ⟨b, 0, none⟩))).run Try.prog W = .ok () (U W) ∧
      (U W).ownsMap Try.prog 9 ptrR m (nn + 1) (D.put (.string n) (ptrD b)) ∧ W.grownBy (U W) (some m) := by
  have hkey := key_str (x := n) (by unfold maxLen; omega)
  have key : ∀ W : World, ∃ W' : World, W.heap[m]? = w.heap[m]? → (Instr.mapUpdate 46 (.map (some m)) (.string (str n)) (.pointer (some ⟨b, 0, none⟩))).run Try.prog W = .ok () W' ∧
      W'.ownsMap Try.prog 9 ptrR m (nn + 1) (D.put (.string n) (ptrD b)) ∧ W.grownBy W' (some m) := fun W => by
    rcases Classical.em (W.heap[m]? = w.heap[m]?) with hW | hW
    · obtain ⟨es, c, hb, F, hs, hD⟩ := h
      have hW2 : W.ownsMap Try.prog 9 ptrR m nn D := ⟨es, c, hW.trans hb, F, hs, hD⟩
      obtain ⟨W', h1, h2, h3⟩ := hW2.update keyed Try.underlying46 hn hkey (ptrR_mk b)
      exact ⟨W', fun _ => ⟨h1, h2, h3⟩⟩
    · exact ⟨W, fun e => absurd e hW⟩
  exact ⟨fun W => Classical.choose (key W), fun W => Classical.choose_spec (key W)⟩
theorem put_facts (hi : w.ownsMap Try.prog 9 ptrR m nn D) (hh : ∀ x, Maps.has D (.string x) = true ↔ ∃ f ∈ F, f.n = x) (ha : ∀ f ∈ F, ∀ z, D.atKey (.string f.n) z = ptrD (bx f.n)) (n : List UInt8) (b : Nat) (bx' : List UInt8 → Nat) (G : List Fl)
    (hb : bx' n = b) (hbx : ∀ x, x ≠ n → bx' x = bx x) (hG : ∀ x, (∃ f ∈ G, f.n = x) ↔ x = n ∨ ∃ f ∈ F, f.n = x) :
    (∀ x, Maps.has (D.put (.string n) (ptrD b)) (.string x) = true ↔ ∃ f ∈ G, f.n = x) ∧ ∀ f ∈ G, ∀ z, (D.put (.string n) (ptrD b)).atKey (.string f.n) z = ptrD (bx' f.n) := by
  have hD := hi.isMap
  have hk : WideAt.IsKeyLit (.string n) := trivial
  refine ⟨fun x => ?_, fun f hf z => ?_⟩
  · rw [hG x]
    by_cases hx : x = n
    · subst hx
      rw [has_put_same hD hk]; simp
    · rw [has_put_other (fun e => hx (by injection e)), hh x]
      simp [hx]
  · by_cases hx : f.n = n
    · rw [hx, atKey_put_same hD hk, hb]
    · rw [atKey_put_other (fun e => hx (by injection e)), hbx _ hx]
      rcases (hG f.n).1 ⟨f, hf, rfl⟩ with e | ⟨g, hg, e⟩
      · exact absurd e hx
      · rw [← e]; exact ha g hg z
end

theorem nil_map_eq (w : World) : (binOp .eql 46 (.map none) (.map none)).run Try.prog w = .ok (.bool true) w := by kernel_rfl
theorem some_map_eq (m : Nat) (w : World) : (binOp .eql 46 (.map (some m)) (.map none)).run Try.prog w = .ok (.bool false) w := by kernel_rfl

/-- What lay leaves: the disk's box, its map; nothing else has turned. -/
structure Laid (w w' : World) (d : Nat) (l : Int) (off : Bool) (mv mv' : Value) (bx' : List UInt8 → Nat) (G : List Fl) : Prop where
  disk : Bk w' d 48 #[mv', .int .i64 l, .bool off]
  map : ∃ m D, mv' = .map (some m) ∧ (mv = mv' ∨ w.heap.size ≤ m) ∧ MapIn w' m G bx' D
  os : w'.os = w.os
  tape : w'.tape = w.tape
  output : w'.output = w.output
  size : w.heap.size ≤ w'.heap.size
  block : ∀ k, k < w.heap.size → k ≠ d → mv ≠ .map (some k) → w'.heap[k]? = w.heap[k]?

set_option maxRecDepth 100000 in
set_option maxHeartbeats 4000000 in
theorem lay_is (d b : Nat) (l : Int) (off : Bool) (mv : Value) (X : Nat → Prop) (F G : List Fl) (bx bx' : List UInt8 → Nat) (n : List UInt8) (w : World) (hn : n.length ≤ 140737488351232)
    (hd : Bk w d 48 #[mv, .int .i64 l, .bool off]) (hm : MapAt w X mv F bx) (hb : bx' n = b) (hbx : ∀ x, x ≠ n → bx' x = bx x) (hG : ∀ x, (∃ f ∈ G, f.n = x) ↔ x = n ∨ ∃ f ∈ F, f.n = x)
    (hs : Sorted G) (h64 : G.length ≤ 64) :
    Calls Try.prog 28 #[.pointer (some ⟨d, 0, none⟩), .string (str n), .pointer (some ⟨b, 0, none⟩)] w fun e w' => e = .returned (.tuple #[]) ∧ ∃ mv', Laid w w' d l off mv mv' bx' G := by
  have c0 := hd.cell 0
  simp at c0
  have f0 := hd.frozen 0
  have hdl := hd.lt
  have HC := Lib.hid (fun W => Clone_same (str n) W (by rw [str_size]; omega))
  rcases hm with ⟨rfl, rfl⟩ | ⟨m, D, rfl, _, hi⟩
  · have hmm := @run_makeMap Try.prog
    have heq := nil_map_eq
    -- the world in which the map is made and laid in its place
    obtain ⟨w1, hw1⟩ : ∃ w1, (w.setCell ⟨d, 0, none⟩ (.map (some w.heap.size))).alloc (.map #[] 0) = w1 := ⟨_, rfl⟩
    have hsa : (w.setCell ⟨d, 0, none⟩ (.map (some w.heap.size))).heap.size = w.heap.size := by simp [World.setCell]
    have hown1 : w1.ownsMap Try.prog 9 ptrR w.heap.size 0 (.map []) := by
      have := World.ownsMap_made (w.setCell ⟨d, 0, none⟩ (.map (some w.heap.size))) Try.prog 9 ptrR
      rw [hsa, hw1] at this
      exact this
    have hd1 : Bk w1 d 48 #[.map (some w.heap.size), .int .i64 l, .bool off] := by rw [← hw1]; exact (hd.put 0 _).alloc _
    have hblk : ∀ k, k < w.heap.size → k ≠ d → w1.heap[k]? = w.heap[k]? := fun k hk hkd => by
      rw [← hw1, Below.heap_alloc _ _ k (by omega)]
      exact (grown_setCell w d 0 _).block k hk (fun e => hkd (by injection e))
    have hsz1 : w1.heap.size = w.heap.size + 1 := by rw [← hw1]; simp [World.setCell]
    have hos : w1.os = w.os ∧ w1.tape = w.tape ∧ w1.output = w.output := by rw [← hw1]; exact ⟨rfl, rfl, rfl⟩
    have hm1 : w.heap.size < w1.heap.size := by omega
    obtain ⟨U, hU⟩ := upd_fn hown1 (by unfold maxLen; omega) n hn b
    have hpf := put_facts (F := []) (bx := bx) hown1 (fun x => by simp [Maps.has]) (fun f hf => by cases hf) n b bx' G hb hbx hG
    have c1 := hd1.cell 0
    simp at c1
    have e0 := (hd.alloc (.map #[] 0)).frozen 0
    have e1 := (hd.alloc (.map #[] 0)).cell 0
    simp at e1
    have hdl1 : d < w1.heap.size := by omega
    have HU := Lib.hid hU
    have HP := Lib.hid hpf
    have HW1 := Lib.hid hw1
    have HD1 := Lib.hid hd1
    have HBk := Lib.hid hblk
    have HOS := Lib.hid hos
    clear hU hpf hw1 hsa hown1 hd1 hblk hos hb hbx hG hd
    generalize str n = s at HC HU
    go_enter Try.func28, Try.ntmps28
    go_wp2_with fail
    rw [HW1.out]
    have HU1 := Lib.hid (HU.out w1 rfl)
    have hdm : some d ≠ some w.heap.size := fun e => by injection e with e; omega
    go_region_held3 (fun W' => W'.cell? ⟨d, 0, none⟩ = some (.map (some w.heap.size)))
      (first | exact c1 | exact (hb3.cell (p := ⟨d, 0, none⟩) hdl1).trans c1 | exact hg3.cell (a := ⟨d, 0, none⟩) ((hb3.cell (p := ⟨d, 0, none⟩) hdl1).trans c1) hdm)
      (first | ((go_at_call 33; refine (HC.out _).mono ?_; rintro e w3 ⟨rfl, hb3⟩; have hr3 := (HU.out w3 (hb3.block w.heap.size hm1)).1; have hg3 := (HU.out w3 (hb3.block w.heap.size hm1)).2.2)))
    go_wp2_with fail
    refine bodyPost_end (v := .tuple #[]) (by simp [results, Try.results28]) rfl ⟨rfl, .map (some w.heap.size), ?_⟩
    have ho := (HU.out w3 (hb3.block w.heap.size hm1)).2.1
    have hsz3 := hb3.size
    refine ⟨(HD1.out.drew.below hb3).grown hg3 hdm, ⟨w.heap.size, _, rfl, .inr (Nat.le_refl _), ⟨own_tight ho ?_, HP.out.1, HP.out.2⟩⟩, hg3.os.trans (hb3.os.trans HOS.out.1), hg3.tape.trans (hb3.tape.trans HOS.out.2.1), hg3.output.trans (hb3.output.trans HOS.out.2.2), ?_, fun k hk hkd _ => ?_⟩
    · rw [size_of ho HP.out.1 hs]; exact h64
    · have h1 := hg3.size
      have h2 : w1.heap.size ≤ w3.heap.size := hsz3
      omega
    · have h2 : w1.heap.size ≤ w3.heap.size := hsz3
      exact (hg3.block k (by omega) (fun e => by injection e with e; omega)).trans ((hb3.block k (show k < w1.heap.size by omega)).trans (HBk.out k hk hkd))
  · have heq := some_map_eq m
    have hml := hi.lt
    have hdm : some d ≠ some m := fun e => by injection e with e; exact map_ne hd hi.own e
    obtain ⟨U, hU⟩ := upd_fn hi.own (by unfold maxLen; omega) n hn b
    have hpf := put_facts (F := F) (bx := bx) hi.own hi.has hi.at_ n b bx' G hb hbx hG
    have HU := Lib.hid hU
    have HP := Lib.hid hpf
    have HD1 := Lib.hid hd
    clear hU hpf hi hb hbx hG hd
    generalize str n = s at HC HU
    go_enter Try.func28, Try.ntmps28
    go_wp2_with fail
    go_region_held3 (fun W' => W'.cell? ⟨d, 0, none⟩ = some (.map (some m)))
      (first | exact c0 | exact (hb3.cell (p := ⟨d, 0, none⟩) hdl).trans c0 | exact hg3.cell (a := ⟨d, 0, none⟩) ((hb3.cell (p := ⟨d, 0, none⟩) hdl).trans c0) hdm)
      (first | ((go_at_call 33; refine (HC.out _).mono ?_; rintro e w3 ⟨rfl, hb3⟩; have hr3 := (HU.out w3 (hb3.block m hml)).1; have hg3 := (HU.out w3 (hb3.block m hml)).2.2)))
    go_wp2_with fail
    refine bodyPost_end (v := .tuple #[]) (by simp [results, Try.results28]) rfl ⟨rfl, .map (some m), ?_⟩
    have ho := (HU.out w3 (hb3.block m hml)).2.1
    have hsz3 : w.heap.size ≤ w3.heap.size := hb3.size
    refine ⟨(HD1.out.drew.below hb3).grown hg3 hdm, ⟨m, _, rfl, .inl rfl, ⟨own_tight ho ?_, HP.out.1, HP.out.2⟩⟩, hg3.os.trans hb3.os, hg3.tape.trans hb3.tape, hg3.output.trans hb3.output, ?_, fun k hk hkd hkm => ?_⟩
    · rw [size_of ho HP.out.1 hs]; exact h64
    · have h1 := hg3.size
      omega
    · exact (hg3.block k (by omega) (fun e => hkm (by rw [e]))).trans (hb3.block k hk)
end Go.Proofs.Ytgimecgdfcckbaa.Dsk
