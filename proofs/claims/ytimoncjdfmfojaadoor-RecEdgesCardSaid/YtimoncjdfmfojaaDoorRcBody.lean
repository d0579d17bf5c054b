/- Package rec: the body of a record that may be: part by part, by the text that names the parts. -/
import Derived.Test.YtimoncjdfmfojaaDoorRcPutBody
namespace Go.Proofs.YtimoncjdfmfojaaDoor
open Go.RowKit Go.Lib Vbi Rcd Crc

/-- The text that names the parts. -/
def lay : ByteArray := ⟨#[111, 116, 102, 107, 98]⟩
theorem lay_size : lay.size = 5 := rfl
theorem lay_at : ∀ j, j < 5 → Utf8.decode lay j = (([111, 116, 102, 107, 98] : List Nat).getD j 0, 1) := by decide
/-- A record's parts as bytes. -/
def partsL (r : Rc) : List (List UInt8) := [fx 8 r.o.toNat, fx 8 r.t.toNat, [UInt8.ofNat (flagN r)], fx 2 r.k.length ++ r.k, r.b]
theorem parts_body (r : Rc) : (partsL r).flatten = bodyL r := by unfold partsL bodyL; simp
def preS (r : Rc) (j : Nat) : ByteArray := str ((partsL r).take j).flatten
theorem pre_next (r : Rc) (j : Nat) (x : List UInt8) (h : (partsL r)[j]? = some x) : preS r (j + 1) = preS r j ++ str x := by
  unfold preS
  rw [str_add, List.take_add_one, h]
  simp
theorem pre_end (r : Rc) : preS r 5 = str (bodyL r) := by rw [← parts_body]; rfl
theorem pre_size (r : Rc) (h : mayB r = true) (j : Nat) (hj : j ≤ 5) : (preS r j).size ≤ 10000 := by
  obtain ⟨_, _, _, _, h5, h6, _⟩ := (may_iff r).1 h
  unfold preS partsL
  rw [str_size]
  rcases (by omega : j = 0 ∨ j = 1 ∨ j = 2 ∨ j = 3 ∨ j = 4 ∨ j = 5) with rfl | rfl | rfl | rfl | rfl | rfl <;> simp [fx_len] <;> omega

/-- One part: its letter, its value, its bytes. -/
theorem part_step (r : Rc) (h : mayB r = true) (j : Nat) (hj : j < 5) : ∃ (c : Nat) (V : Value) (S : ByteArray), Utf8.decode lay j = (c, 1) ∧
    (∀ W, Calls Tryd.prog 37 #[.int .i32 (c : Int), ragg r] W fun e w' => e = .returned V ∧ Below W.heap.size W w') ∧
    (∀ W, Calls Tryd.prog 36 #[.int .i32 (c : Int), V] W fun e w' => e = .returned (.string S) ∧ Below W.heap.size W w') ∧
    S.size ≤ 10000 ∧ preS r (j + 1) = preS r j ++ S := by
  have hf := flag_lt h
  obtain ⟨o, t, k, b, q, g⟩ := r
  obtain ⟨h1, h2, h3, h4, h5, h6, h7, h8, h9⟩ := (may_iff _).1 h
  simp only at h1 h2 h3 h4 h5 h6 h7 h8 h9
  obtain ⟨o, rfl⟩ := Int.eq_ofNat_of_zero_le h1
  obtain ⟨t, rfl⟩ := Int.eq_ofNat_of_zero_le h3
  obtain ⟨q, rfl⟩ := Int.eq_ofNat_of_zero_le h7
  obtain ⟨F, hF⟩ : ∃ F, flagN ⟨(o : Int), (t : Int), k, b, (q : Int), g⟩ = F := ⟨_, rfl⟩
  have hF2 : (q + if g then 4 else 0) = F := by rw [← hF]; unfold flagN; rw [Int.toNat_natCast]
  have hd := lay_at j hj
  have hks := str_size k
  have hbs := str_size b
  rcases (by omega : j = 0 ∨ j = 1 ∨ j = 2 ∨ j = 3 ∨ j = 4) with rfl | rfl | rfl | rfl | rfl
  · refine ⟨111, .iface 3 (.int .i64 (o : Int)), str (fx 8 o), hd, fun W => valueOf_is o t (str k) (str b) q g F 111 _ W (by omega) hF2 (.inl ⟨rfl, rfl⟩), fun W => put_is 111 _ _ W (.inl ⟨.inl rfl, o, by omega, rfl, rfl⟩), by rw [str_size, fx_len]; omega, ?_⟩
    exact pre_next _ 0 _ rfl
  · refine ⟨116, .iface 3 (.int .i64 (t : Int)), str (fx 8 t), hd, fun W => valueOf_is o t (str k) (str b) q g F 116 _ W (by omega) hF2 (.inr (.inl ⟨rfl, rfl⟩)), fun W => put_is 116 _ _ W (.inl ⟨.inr rfl, t, by omega, rfl, rfl⟩), by rw [str_size, fx_len]; omega, ?_⟩
    exact pre_next _ 1 _ rfl
  · refine ⟨102, .iface 3 (.int .i64 (F : Int)), str [UInt8.ofNat F], hd, fun W => valueOf_is o t (str k) (str b) q g F 102 _ W (by omega) hF2 (.inr (.inr (.inl ⟨rfl, rfl⟩))), fun W => put_is 102 _ _ W (.inr (.inl ⟨rfl, F, by omega, rfl, rfl⟩)), by rw [str_size]; simp, ?_⟩
    rw [← hF]
    exact pre_next _ 2 _ rfl
  · refine ⟨107, .iface 9 (.string (str k)), str (fx 2 k.length ++ k), hd, fun W => valueOf_is o t (str k) (str b) q g F 107 _ W (by omega) hF2 (.inr (.inr (.inr (.inl ⟨rfl, rfl⟩)))), fun W => put_is 107 _ _ W (.inr (.inr (.inl ⟨rfl, str k, by omega, rfl, by rw [str_data, hks]⟩))), by rw [str_size, List.length_append, fx_len]; omega, ?_⟩
    exact pre_next _ 3 _ rfl
  · refine ⟨98, .iface 9 (.string (str b)), str b, hd, fun W => valueOf_is o t (str k) (str b) q g F 98 _ W (by omega) hF2 (.inr (.inr (.inr (.inr ⟨rfl, rfl⟩)))), fun W => put_is 98 _ _ W (.inr (.inr (.inr ⟨rfl, rfl⟩))), by omega, ?_⟩
    exact pre_next _ 4 _ rfl

/-- Where the writing stands: the record in a box, a builder, an iterator; all that was there ahead of the call. -/
@[irreducible] def PB (w : World) (p b k : Nat) (cs : Array Value) (j : Nat) (s : ByteArray) (W : World) : Prop :=
  W.heap[p]? = some (.cells cs 28 (0, 0)) ∧ Built b b s W ∧ W.heap[k]? = some (.stringIter lay j) ∧ Below w.heap.size w W ∧ w.heap.size ≤ p ∧ p < b ∧ b < k
section
variable {w W W' : World} {p b k j : Nat} {cs : Array Value} {s : ByteArray}
theorem PB.mk (h : W.heap[p]? = some (.cells cs 28 (0, 0)) ∧ Built b b s W ∧ W.heap[k]? = some (.stringIter lay j) ∧ Below w.heap.size w W ∧ w.heap.size ≤ p ∧ p < b ∧ b < k) : PB w p b k cs j s W := by unfold PB; exact h
theorem PB.out (h : PB w p b k cs j s W) : W.heap[p]? = some (.cells cs 28 (0, 0)) ∧ Built b b s W ∧ W.heap[k]? = some (.stringIter lay j) ∧ Below w.heap.size w W ∧ w.heap.size ≤ p ∧ p < b ∧ b < k := by unfold PB at h; exact h
theorem PB.below (h : PB w p b k cs j s W) (hb : Below W.heap.size W W') : PB w p b k cs j s W' := by
  obtain ⟨h1, h2, h3, h4, h5, h6, h7⟩ := h.out
  exact .mk ⟨(hb.block p (Array.getElem?_eq_some_iff.1 h1).1).trans h1, built_below h2 hb, (hb.block k (Array.getElem?_eq_some_iff.1 h3).1).trans h3, h4.trans (hb.mono h4.size), h5, h6, h7⟩
theorem PB.iter (h : PB w p b k cs j s W) (j' : Nat) : PB w p b k cs j' s (W.iterAt k lay j') := by
  obtain ⟨h1, h2, h3, h4, h5, h6, h7⟩ := h.out
  exact .mk ⟨(iterAt_other W k p lay j' (by omega)).trans h1, built_iter h2 h3 j', iterAt_heap W k lay j j' h3, below_iterAt h4 (by omega) lay j', h5, h6, h7⟩
theorem PB.wrote {t : ByteArray} (h : PB w p b k cs j s W) (h2' : Built b b t W') (hb : Below b W W') (ho : OthersKept 5 (some b) W W') : PB w p b k cs j t W' := by
  obtain ⟨h1, h2, h3, h4, h5, h6, h7⟩ := h.out
  exact .mk ⟨ho p _ h1 (by simp; omega) (fun c fz e => by injection e with _ e2; exact absurd e2 (by decide)), h2', ho.iter h3 (by omega), h4.trans (hb.mono (by omega)), h5, h6, h7⟩
theorem PB.load (h : PB w p b k cs j s W) (h6 : cs.size = 6) : (loadVar 28 ⟨p, 0, none⟩).run Tryd.prog W = .ok (.agg cs) W := load_blk ⟨_, h.out.1⟩ h6
theorem PB.next (h : PB w p b k cs j s W) (hj : j < 5) (ty : TypeId) : (Instr.next (.pointer (some ⟨k, 0, none⟩)) true ty).run Tryd.prog W = .ok (.tuple #[.bool true, .int .i64 (j : Int), .int .i32 ((Utf8.decode lay j).1 : Int)]) (W.iterAt k lay (j + (Utf8.decode lay j).2)) :=
  run_next_any_at (P := Tryd.prog) W k lay j ty h.out.2.2.1 (by rw [lay_size]; exact hj)
theorem PB.last (h : PB w p b k cs j s W) (hj : ¬ j < 5) (ty : TypeId) : (Instr.next (.pointer (some ⟨k, 0, none⟩)) true ty).run Tryd.prog W = .ok (.tuple #[.bool false]) W :=
  run_next_end_at (P := Tryd.prog) W k lay j ty h.out.2.2.1 (by rw [lay_size]; exact hj)
theorem PB.start (w : World) (cs : Array Value) : PB w w.heap.size (w.heap.size + 1) (w.heap.size + 2) cs 0 ⟨#[]⟩ (((w.alloc (.cells cs 28)).alloc (.cells #[.pointer none, .slice none 0 0] 70)).iter lay 0) := by
  have e0 := heap_alloc_new w (.cells cs 28)
  have z0 : (w.alloc (.cells cs 28)).heap.size = w.heap.size + 1 := by simp
  have b0 := built_new (w.alloc (.cells cs 28))
  have z1 : ((w.alloc (.cells cs 28)).alloc (.cells #[.pointer none, .slice none 0 0] 70)).heap.size = w.heap.size + 2 := by simp
  have x0 : Below w.heap.size w (w.alloc (.cells cs 28)) := (Below.refl _ _).alloc (Nat.le_refl _) _
  generalize w.alloc (.cells cs 28) = w1 at e0 z0 b0 z1 x0 ⊢
  rw [z0] at b0
  have e1 : (w1.alloc (.cells #[.pointer none, .slice none 0 0] 70)).heap[w.heap.size]? = some (.cells cs 28 (0, 0)) := (Lib.alloc_old w1 _ _ (by omega)).trans e0
  have x1 : Below w.heap.size w (w1.alloc (.cells #[.pointer none, .slice none 0 0] 70)) := x0.alloc (by omega) _
  generalize w1.alloc (.cells #[.pointer none, .slice none 0 0] 70) = w2 at e1 b0 z1 x1 ⊢
  have e2 := World.iter_heap w2 lay 0
  rw [z1] at e2
  have x2 : Below w2.heap.size w2 (w2.iter lay 0) := (Below.refl _ _).alloc (Nat.le_refl _) _
  exact .mk ⟨(x2.block _ (by omega)).trans e1, built_below b0 x2, e2, x1.trans (x2.mono (by omega)), Nat.le_refl _, by omega, by omega⟩
end

set_option maxRecDepth 100000 in
set_option maxHeartbeats 4000000 in
/-- rec.putBody. -/
theorem putBody_is (r : Rc) (S : ByteArray) (w : World) (h : mayB r = true) (hS : str (bodyL r) = S) :
    Calls Tryd.prog 27 #[ragg r] w fun e w' => e = .returned (.string S) ∧ Below w.heap.size w w' := by
  have HP := Lib.hid (fun j hj => part_step r h j hj)
  have HZ := Lib.hid (fun j hj => pre_size r h j hj)
  have R0 := Lib.hid (PB.start w (rarr r.o r.t (str r.k) (str r.b) r.q r.g))
  have HE := Lib.hid ((pre_end r).trans hS)
  have H0 : Hid (preS r 0 = ⟨#[]⟩) := rfl
  unfold ragg at HP ⊢
  obtain ⟨cs, hcs⟩ : ∃ cs, cs = rarr r.o r.t (str r.k) (str r.b) r.q r.g := ⟨_, rfl⟩
  have HC6 : Hid (cs.size = 6) := by show _ = _; rw [hcs]; rfl
  rw [← hcs] at HP R0 ⊢
  clear hcs h hS
  unfold lay at R0
  go_enter Tryd.func27, Tryd.ntmps27
  go_wp2_with fail
  rw [show (w.heap.size + 1 + 1) = w.heap.size + 2 from rfl]
  generalize World.iter _ _ _ = W0 at R0 ⊢
  obtain ⟨p, hp⟩ : ∃ p, w.heap.size = p := ⟨_, rfl⟩
  rw [hp] at R0 ⊢
  clear hp
  generalize p + 1 = b at R0 ⊢
  generalize p + 2 = k at R0 ⊢
  go_loopw [5] (fun _ wr => ∃ j, j ≤ 5 ∧ PB w p b k cs j (preS r j) wr) (fun _ wr => 5 - wr.iterPos k)
  case atStart => exact ⟨0, by omega, by rw [H0.out]; exact R0.out⟩
  case round =>
    obtain ⟨j, hj, hP⟩ := hrel
    have HPB := Lib.hid hP
    have hpos := Lib.hid (iterPos_of hP.out.2.2.1)
    clear hP R0
    by_cases hlt : j < 5
    · obtain ⟨c, V, T, hd, hV, hT, hz, hn⟩ := HP.out j hlt
      have hnx := HPB.out.next hlt
      rw [hd] at hnx
      dsimp only at hnx
      have HV := Lib.hid hV
      have HT := Lib.hid hT
      have HN := Lib.hid hn
      have R1 := Lib.hid (HPB.out.iter (j + 1))
      have hz1 := HZ.out j hj
      clear hd hV hT hn HPB
      generalize wr.iterAt k lay (j + 1) = W1 at hnx R1
      have hld := R1.out.load HC6.out
      generalize preS r j = s0 at R1 HN hz1
      go_wp2_with (refine wpList_load_any (by rfl) 28 (.tmp 1) rfl p 0 rfl _ hld ?_; simp only [Act.put])
      refine (HV.out _).mono ?_
      rintro e w2 ⟨rfl, hb2⟩
      have R2 := Lib.hid (R1.out.below hb2)
      clear hb2 hnx hld R1 HV
      go_wp2_with fail
      refine (HT.out _).mono ?_
      rintro e w3 ⟨rfl, hb3⟩
      have R3 := Lib.hid (R2.out.below hb3)
      clear hb3 R2 HT
      go_wp2_with fail
      have hbb := built_lt R3.out.out.2.1
      refine (WriteString_is b b s0 T _ R3.out.out.2.1 (by omega) (by omega)).mono ?_
      rintro e w4 ⟨⟨v4, rfl⟩, hb4, hb5, hb6⟩
      have R4 := Lib.hid (R3.out.wrote hb4 hb5 hb6)
      rw [← HN.out] at R4
      clear hb4 hb5 hb6 R3 HN hbb
      go_wp2_with fail
      go_roundw
      case rel => exact ⟨j + 1, hlt, R4.out⟩
      case measure => rw [hpos.out, iterPos_of R4.out.out.2.2.1]; omega
    · obtain rfl : j = 5 := by omega
      have hnx := HPB.out.last hlt
      have hbb := built_lt HPB.out.out.2.1
      have HS := Lib.hid (String_is b b (preS r 5) wr HPB.out.out.2.1 (by omega))
      rw [HE.out] at HS
      have HX := Lib.hid HPB.out.out.2.2.2
      clear HPB hbb
      go_wp2_with fail
      refine HS.out.mono ?_
      rintro e w5 ⟨rfl, hb5⟩
      go_wp2_with fail
      go_ret
      exact ⟨rfl, HX.out.1.trans (hb5.mono (by have := HX.out.2; omega))⟩
end Go.Proofs.YtimoncjdfmfojaaDoor
