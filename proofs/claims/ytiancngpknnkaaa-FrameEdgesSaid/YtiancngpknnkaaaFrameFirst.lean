/- Package frame: what bytes begin with. -/
import Derived.Test.YtiancngpknnkaaaFrameSize
import Derived.Test.YtiancngpknnkaaaF14
import Derived.Test.YtiancngpknnkaaaF18
namespace Go.Proofs.Ytiancngpknnkaaa
open Go.RowKit Go.Lib Prp Pkt Vbi

/-- A whole packet, and its size. -/
def whArr (p : Pk) (a : Ad) (n : Int) : Array Value :=
  #[.int .i64 p.kind, .bool p.dup, .int .i64 p.q, .bool p.ret, .int .i64 p.id, .string p.t, .string p.b, .int .i64 p.re, .bool p.pre, .slice a.ca p.cs.length a.cc, .slice a.fa p.fs.length a.fc, .string p.cl, .bool p.clean, .int .i64 p.keep,
    .bool p.w.has, .int .i64 p.w.q, .bool p.w.ret, .string p.w.t, .string p.w.b, .slice a.wa p.w.ps.length a.wc, .bool p.hu, .string p.u, .bool p.hp, .string p.pw, .slice a.pa p.ps.length a.pc, .int .i64 n]
theorem info_wh : (Try.prog.info? 52).map (·.size) = some 26 := by kernel_rfl
theorem one_wh (p : Pk) (a : Ad) (n : Int) : (whArr p a n).all (·.oneCell') = true := by simp [whArr, Value.oneCell']
theorem built_wh (p : Pk) (a : Ad) (n : Int) : Try.prog.built 52 [(0, .agg (pkArr p a)), (1, .int .i64 n)] = some (whArr p a n) := by kernel_rfl
section
variable {ops : Array Oper} {rest : List Oper} {o : Oper} {f : Act} {w : World} {Q : Exit → Act → World → Prop}
theorem wpList_build_wh (hg : o.guard = none) (x y : Operand) (ho : o.op = .build 52 #[(0, x), (1, y)]) (p : Pk) (a : Ad) (n : Int) (hx : f.eval x = .agg (pkArr p a)) (hy : f.eval y = .int .i64 n) (h : wpList Try.prog ops Q rest (f.put o.dst (.agg (whArr p a n))) w) : wpList Try.prog ops Q (o :: rest) f w := by
  have hb : Try.prog.built 52 ((#[(0, x), (1, y)] : Array (Nat × Operand)).map fun (i, x) => (i, f.eval x)).toList = some (whArr p a n) := by
    rw [← built_wh p a n, ← hx, ← hy]
    simp
  refine wpList_build hg 52 #[(0, x), (1, y)] ho (by rw [hb]; rfl) ?_
  rw [hb]
  exact h
end
theorem new_below (w : World) (c0 cs : Array Value) (T : TypeId) : Below w.heap.size w ((w.alloc (.cells c0 T)).setRow w.heap.size cs) :=
  (Bar.row w.heap.size _ cs).below ((Below.refl w.heap.size w).alloc (Nat.le_refl _) _) (Nat.le_refl _) (by rw [World.size_alloc]; omega)
theorem new_box (w : World) (c0 cs : Array Value) (T : TypeId) : Box ((w.alloc (.cells c0 T)).setRow w.heap.size cs) w.heap.size cs := (Box.new w T c0).row cs
/-- What bytes begin with, as the program tells it. -/
def GivesFirst (st : Step) (w : World) (r : Ending) (w' : World) : Prop :=
  match st with
  | .wait => r = .returned (.iface 29 (.int .i64 7)) ∧ Below w.heap.size w w'
  | .dead e => r = .returned (.iface 29 (.int .i64 e)) ∧ Below w.heap.size w w'
  | .one p n => ∃ a, r = .returned (.iface 52 (.agg (whArr p a (n : Int)))) ∧ PkAt w' w'.heap.size p a ∧ PkCap p a ∧ PkNew w.heap.size a ∧ Below w.heap.size w w'
set_option maxRecDepth 100000 in
set_option maxHeartbeats 4000000 in
theorem first_none (s : ByteArray) (max E : Int) (w : World) (hs : s.size ≤ 281474976710656) (h : sizeS max s = (0, E)) (hE : E ≠ 0) :
    Calls Try.prog 15 #[.string s, .int .i64 max] w fun r w' => r = .returned (.iface 29 (.int .i64 E)) ∧ Below w.heap.size w w' := by
  have HZ := Lib.hid (fun W => wholeSize_is s max 0 E W hs h)
  have hEb := ne_true hE
  clear h
  go_enter Try.func15, Try.ntmps15
  go_wp2_with (go_at_call 19; refine (HZ.out _).mono ?_; rintro e w' ⟨rfl, rfl⟩)
  go_ret
  exact ⟨rfl, Below.refl _ _⟩
set_option maxRecDepth 100000 in
set_option maxHeartbeats 16000000 in
theorem first_some (s : ByteArray) (max : Int) (n : Nat) (p : Pk) (m E : Int) (w : World) (hs : s.size ≤ 268435456) (hn : n ≤ s.size) (h : sizeS max s = ((n : Int), 0)) (ht : takeS (s.extract 0 n) = (p, m, E)) :
    Calls Try.prog 15 #[.string s, .int .i64 max] w fun r w' => (E ≠ 0 → r = .returned (.iface 29 (.int .i64 E)) ∧ Below w.heap.size w w') ∧
      (E = 0 → ∃ a, r = .returned (.iface 52 (.agg (whArr p a (n : Int)))) ∧ PkAt w' w'.heap.size p a ∧ PkCap p a ∧ PkNew w.heap.size a ∧ Below w.heap.size w w') := by
  have HZ := Lib.hid (fun W => wholeSize_is s max n 0 W (by omega) h)
  have HT0 := fun W => PTakeN_is (s.extract 0 n) W (by rw [ByteArray.size_extract]; omega)
  rw [ht] at HT0
  have HT := Lib.hid HT0
  have hn0 : (0 : Int) ≤ (n : Int) := by omega
  have hn1 : (n : Int) ≤ (s.size : Int) := by omega
  clear h ht HT0 hs
  go_enter Try.func15, Try.ntmps15
  go_wp2_with (go_at_call 19; refine (HZ.out _).mono ?_; rintro e w' ⟨rfl, rfl⟩)
  refine (HT.out _).mono ?_
  rintro r w2 ⟨a, rfl, q1, q2, q3, q4⟩
  have hmb := new_below w2 (pkArr (zp 0) za) (pkArr p a) 45
  have hmx := new_box w2 (pkArr (zp 0) za) (pkArr p a) 45
  have hb3 := Box.new w2 45 (pkArr (zp 0) za)
  obtain ⟨W3, hW3⟩ : ∃ W3, w2.alloc (.cells (pkArr (zp 0) za) 45) = W3 := ⟨_, rfl⟩
  rw [hW3] at hmb hmx hb3
  simp only [pkArr, zp, za, zw, List.length_nil] at hW3
  have HW3 := Lib.hid hW3
  have HP := Lib.hid ((q1.below hmb).mono hmb.size)
  have HX := Lib.hid (q4.trans (hmb.mono q4.size))
  obtain ⟨k3, hk3⟩ : ∃ k, w2.heap.size = k := ⟨_, rfl⟩
  rw [hk3] at hmx hb3 HX HP
  have HMX := Lib.hid hmx
  have HB3 := Lib.hid hb3
  have HC := Lib.hid q2
  have HN := Lib.hid q3
  clear hmb hmx hb3 hW3 q1 q2 q3 q4 HT HZ
  go_upto_region 5 with (rw [HW3.out]; refine wpList_store_whole rfl 45 (.tmp 7) (.tmp 24) rfl k3 (pkArr p a) rfl rfl (pkArr (zp 0) za) HB3.out info_pk rfl (one_pk _ _) ?_; simp only [Act.put])
  clear hk3 HW3 HB3
  generalize World.setRow _ _ _ = w4 at HX HP HMX ⊢
  by_cases h0 : E = 0
  · subst h0
    have hld := load_bx HMX.out
    go_wp2_with (first | (refine wpList_load_any (by rfl) 45 (.tmp 7) rfl k3 0 rfl _ hld ?_) | (refine wpList_build_wh rfl (.tmp 31) (.tmp 32) rfl p a (n : Int) rfl rfl ?_))
    go_ret
    exact ⟨a, rfl, HP.out, HC.out, HN.out, HX.out⟩
  · have hEb := ne_true h0
    go_wp2_with fail
    go_ret
    exact ⟨fun _ => ⟨rfl, HX.out⟩, fun h => absurd h h0⟩
theorem first_is (s : ByteArray) (max : Int) (w : World) (hs : s.size ≤ 268435456) :
    Calls Try.prog 15 #[.string s, .int .i64 max] w (GivesFirst (stepS max s) w) := by
  have hz : ∀ (n : Nat), lenS s = ((n : Int), 0) → (n : Int) ≤ max → n ≤ s.size → sizeS max s = ((n : Int), 0) := fun n h h1 h2 => by
    unfold sizeS
    rw [h, if_neg (not_not_intro rfl), if_neg (by show ¬ max < (n : Int); omega), if_neg (by show ¬ (s.size : Int) < (n : Int); omega)]
  rcases stepOf max s with ⟨h, e⟩ | ⟨_, h, e⟩ | ⟨n, h, _, hm, _, e⟩ | ⟨n, h, _, hm, _, hs2, e⟩ | ⟨n, p, m, h, _, hm, hs2, ht, e⟩ | ⟨n, p, m, E, h, _, hm, hs2, ht, h0, h7, e⟩ <;> rw [e]
  · exact first_none s max 7 w (by omega) (by unfold sizeS; rw [h]; rfl) (by decide)
  · exact first_none s max 8 w (by omega) (by unfold sizeS; rw [h]; rfl) (by decide)
  · exact first_none s max 2 w (by omega) (by unfold sizeS; rw [h, if_neg (not_not_intro rfl), if_pos hm]) (by decide)
  · exact first_none s max 7 w (by omega) (by unfold sizeS; rw [h, if_neg (not_not_intro rfl), if_neg (by show ¬ max < (n : Int); omega), if_pos (show (s.size : Int) < (n : Int) by omega)]) (by decide)
  · exact (first_some s max n p m 0 w hs hs2 (hz n h hm hs2) ht).mono fun _ _ h => h.2 rfl
  · exact (first_some s max n p m E w hs hs2 (hz n h hm hs2) ht).mono fun _ _ h => h.1 h0
end Go.Proofs.Ytiancngpknnkaaa
