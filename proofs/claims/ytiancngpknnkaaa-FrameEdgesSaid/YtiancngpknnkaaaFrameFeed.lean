/- Package frame: the packets of what comes. -/
import Derived.Test.YtiancngpknnkaaaFrameFirst
import Derived.Test.YtiancngpknnkaaaFrameApp
import Derived.Test.YtiancngpknnkaaaF19
namespace Go.Proofs.Ytiancngpknnkaaa
open Go.RowKit Go.Lib Prp Pkt Vbi

theorem info_fr : (Try.prog.info? 23).map (·.size) = some 3 := by kernel_rfl
theorem one_fr (r : ByteArray) (m : Int) (d : Bool) : (frArr r m d).all (·.oneCell') = true := by simp [frArr, Value.oneCell']
section
variable {W : World} {g : Nat} {r : ByteArray} {m : Int} {d : Bool}
theorem load_fr (h : Box W g (frArr r m d)) : (loadVar 23 ⟨g, 0, none⟩).run Try.prog W = .ok (.agg (frArr r m d)) W :=
  run_loadVar_mid W g 0 23 (frArr r m d).toList _ (fun j v hv => by rw [Nat.zero_add, h.cell j]; rw [← hv]; simp) Try.underlying23 rfl info_fr
theorem results_fr3 {fn : Func} {tmps : Array Value} {c i j : Nat} {u v : Value} (hr : fn.results = #[.cell c 23, .tmp i, .tmp j]) (h0 : tmps.getD c undef = .pointer (some ⟨g, 0, none⟩)) (hb : Box W g (frArr r m d)) (h1 : tmps.getD i undef = u) (h2 : tmps.getD j undef = v) :
    (results fn tmps).run Try.prog W = .ok (.tuple #[.agg (frArr r m d), u, v]) W := by
  unfold results
  rw [hr]
  simp only [List.mapM_toArray, List.mapM_cons, List.mapM_nil, h0, h1, h2, asAddr, Sem.run_bind, Sem.run_pure, Result.andThen_ok, bind_assoc, pure_bind, map_bind, map_pure, load_fr hb]
  rfl
end
theorem results_fr2 {W : World} {g : Nat} {r : ByteArray} {m : Int} {d : Bool} {fn : Func} {tmps : Array Value} {c i : Nat} {u : Value} (hr : fn.results = #[.cell c 23, .tmp i]) (h0 : tmps.getD c undef = .pointer (some ⟨g, 0, none⟩)) (hb : Box W g (frArr r m d)) (h1 : tmps.getD i undef = u) :
    (results fn tmps).run Try.prog W = .ok (.tuple #[.agg (frArr r m d), u]) W := by
  unfold results
  rw [hr]
  simp only [List.mapM_toArray, List.mapM_cons, List.mapM_nil, h0, h1, asAddr, Sem.run_bind, Sem.run_pure, Result.andThen_ok, bind_assoc, pure_bind, map_bind, map_pure, load_fr hb]
  rfl
theorem load_wh {W : World} {g : Nat} {p : Pk} {a : Ad} {n : Int} (h : Box W g (whArr p a n)) : (loadVar 45 ⟨g, 0, none⟩).run Try.prog W = .ok (.agg (pkArr p a)) W := by
  refine run_loadVar_mid W g 0 45 (pkArr p a).toList _ (fun j v hv => ?_) Try.underlying45 rfl info_pk
  rw [Nat.zero_add, h.cell]
  match j, hv with
  | 0, hv => exact hv
  | 1, hv => exact hv
  | 2, hv => exact hv
  | 3, hv => exact hv
  | 4, hv => exact hv
  | 5, hv => exact hv
  | 6, hv => exact hv
  | 7, hv => exact hv
  | 8, hv => exact hv
  | 9, hv => exact hv
  | 10, hv => exact hv
  | 11, hv => exact hv
  | 12, hv => exact hv
  | 13, hv => exact hv
  | 14, hv => exact hv
  | 15, hv => exact hv
  | 16, hv => exact hv
  | 17, hv => exact hv
  | 18, hv => exact hv
  | 19, hv => exact hv
  | 20, hv => exact hv
  | 21, hv => exact hv
  | 22, hv => exact hv
  | 23, hv => exact hv
  | 24, hv => exact hv
theorem as_wh (v : Value) (w : World) : (Instr.typeAssert (.iface 52 v) 20 52 true).run Try.prog w = .ok (.tuple #[v, .bool true]) w := by kernel_rfl
theorem as_no_wh (v : Value) (w : World) : (Instr.typeAssert (.iface 29 v) 20 52 true).run Try.prog w = .ok (.tuple #[.agg (whArr (zp 0) za 0), .bool false]) w := by kernel_rfl
theorem as_errno (v : Value) (w : World) : (Instr.typeAssert (.iface 29 v) 20 29 false).run Try.prog w = .ok v w := by kernel_rfl
/-- Where the loop over what came stands. -/
@[irreducible] def FeedIn (w : World) (g : Nat) (rest : ByteArray) (max : Int) (v : Value) (L : List Pk) (W : World) : Prop :=
  Box W g (frArr rest max false) ∧ Box W (g + 1) (frArr ⟨#[]⟩ 0 false) ∧ OwnPks W (g + 2) v L ∧ Below w.heap.size w W ∧ w.heap.size = g ∧ g + 2 ≤ W.heap.size
section
variable {w W W' : World} {g : Nat} {rest : ByteArray} {max : Int} {v : Value} {L : List Pk}
theorem FeedIn.mk (h : Box W g (frArr rest max false) ∧ Box W (g + 1) (frArr ⟨#[]⟩ 0 false) ∧ OwnPks W (g + 2) v L ∧ Below w.heap.size w W ∧ w.heap.size = g ∧ g + 2 ≤ W.heap.size) : FeedIn w g rest max v L W := by unfold FeedIn; exact h
theorem FeedIn.out (h : FeedIn w g rest max v L W) : Box W g (frArr rest max false) ∧ Box W (g + 1) (frArr ⟨#[]⟩ 0 false) ∧ OwnPks W (g + 2) v L ∧ Below w.heap.size w W ∧ w.heap.size = g ∧ g + 2 ≤ W.heap.size := by unfold FeedIn at h; exact h
theorem FeedIn.below (h : FeedIn w g rest max v L W) (hb : Below W.heap.size W W') : FeedIn w g rest max v L W' := by
  obtain ⟨h1, h2, h3, h4, h5, h6⟩ := h.out
  exact .mk ⟨h1.below hb, h2.below hb, h3.below hb, h4.trans (hb.mono h4.size), h5, Nat.le_trans h6 hb.size⟩
theorem FeedIn.drewN (h : FeedIn w g rest max v L W) (n : Nat) : FeedIn w g rest max v L (W.drewN n) := h.below (below_drewN (Below.refl _ _) n)
theorem FeedIn.alloc (h : FeedIn w g rest max v L W) (o : Obj) : FeedIn w g rest max v L (W.alloc o) := h.below ((Below.refl _ _).alloc (Nat.le_refl _) o)
/-- More packets. -/
theorem FeedIn.grown {v' : Value} {L' : List Pk} (h : FeedIn w g rest max v L W) (hb : Below (g + 2) W W') (ho : OwnPks W' (g + 2) v' L') : FeedIn w g rest max v' L' W' := by
  obtain ⟨h1, h2, h3, h4, h5, h6⟩ := h.out
  refine .mk ⟨?_, ?_, ho, h4.trans (hb.mono (by omega)), h5, Nat.le_trans h6 hb.size⟩
  · obtain ⟨T, hT⟩ := h1; exact ⟨T, (hb.block g (by omega)).trans hT⟩
  · obtain ⟨T, hT⟩ := h2; exact ⟨T, (hb.block (g + 1) (by omega)).trans hT⟩
end
/-- What Feed hands back: the framer, the packets, the error. -/
def GivesFeed (r : ByteArray) (max : Int) (dead : Bool) (L : List Pk) (e : Int) (w : World) (x : Ending) (w' : World) : Prop :=
  ∃ A c, x = .returned (.tuple #[.agg (frArr r max dead), .slice A L.length c, .int .i64 e]) ∧ OwnPks w' w.heap.size (.slice A L.length c) L ∧ Below w.heap.size w w'

set_option maxRecDepth 100000 in
set_option maxHeartbeats 16000000 in
theorem Feed_no (rest : ByteArray) (max : Int) (dead : Bool) (s : ByteArray) (w : World) (hs : rest.size ≤ 281474976710656) (hb : mayF rest max dead = false) :
    Calls Try.prog 9 #[.agg (frArr rest max dead), .string s] w (GivesFeed ⟨#[]⟩ 0 false [] 1 w) := by
  have hb1 := Box.new w 23 (frArr rest max dead)
  have ha1 := (Below.refl w.heap.size w).alloc (Nat.le_refl _) (.cells (frArr rest max dead) 23)
  obtain ⟨W1, hW1⟩ : ∃ W1, w.alloc (.cells (frArr rest max dead) 23) = W1 := ⟨_, rfl⟩
  have hs1 : W1.heap.size = w.heap.size + 1 := by rw [← hW1, World.size_alloc]
  rw [hW1] at hb1 ha1
  have hb2 := Box.new W1 23 (frArr ⟨#[]⟩ 0 false)
  have ha2 := (Below.refl W1.heap.size W1).alloc (Nat.le_refl _) (.cells (frArr ⟨#[]⟩ 0 false) 23)
  obtain ⟨W2, hW2⟩ : ∃ W2, W1.alloc (.cells (frArr ⟨#[]⟩ 0 false) 23) = W2 := ⟨_, rfl⟩
  have hs2 : W2.heap.size = w.heap.size + 2 := by rw [← hW2, World.size_alloc, hs1]
  rw [hW2] at hb2 ha2
  rw [hs1] at hb2
  obtain ⟨g, hg⟩ : ∃ g, w.heap.size = g := ⟨_, rfl⟩
  rw [hg] at hb1 hb2
  have hld := load_fr (hb1.below (ha2.mono (by omega)))
  have HB2 := Lib.hid hb2
  have HBW := Lib.hid (ha1.trans (ha2.mono (by omega)))
  have HCK := Lib.hid (FrCheck_is rest max dead false W2 hs hb)
  have HG := Lib.hid hg
  have HS2 := Lib.hid hs2
  unfold frArr at hW1 hW2 ⊢
  have HW1 := Lib.hid hW1
  have HW2 := Lib.hid hW2
  clear hb1 ha1 hb2 ha2 hs1 hs2 hg hW1 hW2 hs hb
  go_enter Try.func9, Try.ntmps9
  go_upto_region 1 with fail
  rw [HW1.out, HW2.out, HG.out]
  generalize Value.agg _ = v0
  clear HW1 HW2
  go_wp2_with (refine wpList_load_any (by rfl) 23 (.tmp 2) rfl g 0 rfl _ hld ?_)
  refine HCK.out.mono ?_
  rintro e w3 ⟨rfl, hb3⟩
  have HB3 := Lib.hid (HB2.out.below hb3)
  have HBX := Lib.hid (HBW.out.trans (hb3.mono HBW.out.size))
  clear hb3 hld HB2 HCK
  go_wp2_with (refine wpList_store_whole rfl 23 (.tmp 4) (.tmp 15) rfl (g + 1) (frArr ⟨#[]⟩ 0 false) rfl rfl (frArr ⟨#[]⟩ 0 false) HB3.out info_fr rfl (one_fr _ _ _) ?_; simp only [Act.put])
  have hrow := Bar.row (g + 1) w3 (frArr ⟨#[]⟩ 0 false)
  refine bodyPost_ret (results_fr3 Try.results9 rfl (HB3.out.row (frArr ⟨#[]⟩ 0 false)) rfl rfl) rfl ⟨none, 0, rfl, OwnPks.nil _ _, hrow.below HBX.out (by have := HG.out; omega) HBX.out.size⟩

set_option maxRecDepth 100000 in
set_option maxHeartbeats 16000000 in
theorem Feed_dead (rest : ByteArray) (max : Int) (s : ByteArray) (w : World) (hs : rest.size ≤ 281474976710656) (hb : mayF rest max true = true) :
    Calls Try.prog 9 #[.agg (frArr rest max true), .string s] w (GivesFeed rest max true [] 0 w) := by
  have hb1 := Box.new w 23 (frArr rest max true)
  have ha1 := (Below.refl w.heap.size w).alloc (Nat.le_refl _) (.cells (frArr rest max true) 23)
  obtain ⟨W1, hW1⟩ : ∃ W1, w.alloc (.cells (frArr rest max true) 23) = W1 := ⟨_, rfl⟩
  have hs1 : W1.heap.size = w.heap.size + 1 := by rw [← hW1, World.size_alloc]
  rw [hW1] at hb1 ha1
  have hb2 := Box.new W1 23 (frArr ⟨#[]⟩ 0 false)
  have ha2 := (Below.refl W1.heap.size W1).alloc (Nat.le_refl _) (.cells (frArr ⟨#[]⟩ 0 false) 23)
  obtain ⟨W2, hW2⟩ : ∃ W2, W1.alloc (.cells (frArr ⟨#[]⟩ 0 false) 23) = W2 := ⟨_, rfl⟩
  have hs2 : W2.heap.size = w.heap.size + 2 := by rw [← hW2, World.size_alloc, hs1]
  rw [hW2] at hb2 ha2
  rw [hs1] at hb2
  obtain ⟨g, hg⟩ : ∃ g, w.heap.size = g := ⟨_, rfl⟩
  rw [hg] at hb1 hb2
  have hbx := hb1.below (ha2.mono (by omega))
  have hld := load_fr hbx
  have HB1 := Lib.hid hbx
  have HB2 := Lib.hid hb2
  have HBW := Lib.hid (ha1.trans (ha2.mono (by omega)))
  have HCK := Lib.hid (FrCheck_is rest max true true W2 hs hb)
  have HG := Lib.hid hg
  unfold frArr at hW1 hW2 ⊢
  have HW1 := Lib.hid hW1
  have HW2 := Lib.hid hW2
  clear hb1 ha1 hb2 ha2 hs1 hs2 hg hW1 hW2 hs hb hbx
  go_enter Try.func9, Try.ntmps9
  go_upto_region 1 with fail
  rw [HW1.out, HW2.out, HG.out]
  generalize Value.agg _ = v0
  clear HW1 HW2
  go_wp2_with (refine wpList_load_any (by rfl) 23 (.tmp 2) rfl g 0 rfl _ hld ?_)
  refine HCK.out.mono ?_
  rintro e w3 ⟨rfl, hb3⟩
  have HB3 := Lib.hid (HB2.out.below hb3)
  have HB4 := Lib.hid (HB1.out.below hb3)
  have HBX := Lib.hid (HBW.out.trans (hb3.mono HBW.out.size))
  clear hb3 hld HB2 HB1 HCK
  have hld := load_fr HB4.out
  have c2 : w3.cell? ⟨g, 2, none⟩ = some (.bool true) := HB4.out.cell 2
  go_wp2_with (first | (refine wpList_load_any (by rfl) 23 (.tmp 2) rfl g 0 rfl _ hld ?_) | (refine wpList_store_whole rfl 23 (.tmp 4) (.tmp 19) rfl (g + 1) (frArr rest max true) rfl rfl (frArr ⟨#[]⟩ 0 false) HB3.out info_fr rfl (one_fr _ _ _) ?_; simp only [Act.put]))
  have hrow := Bar.row (g + 1) w3 (frArr rest max true)
  refine bodyPost_ret (results_fr3 Try.results9 rfl (HB3.out.row (frArr rest max true)) rfl rfl) rfl ⟨none, 0, rfl, OwnPks.nil _ _, hrow.below HBX.out (by have := HG.out; omega) HBX.out.size⟩
end Go.Proofs.Ytiancngpknnkaaa
