/- Package rec: a body taken, part by part, by the text that names the parts. -/
import Derived.Test.YtimoncjdfmfojaaDoorRcTakePart
import Derived.Test.YtimoncjdfmfojaaDoorRcBody
import Derived.Test.YtimoncjdfmfojaaDoorInTake
namespace Go.Proofs.YtimoncjdfmfojaaDoor
open Go.RowKit Go.Lib Vbi Rcd Crc

/-- What is still to be read behind so many parts. -/
def restR : Nat → Rc → List UInt8 → Rc × Int
  | 0, r, l => p0 r l
  | 1, r, l => p1 r l
  | 2, r, l => p2 r l
  | 3, r, l => p3 r l
  | 4, r, l => p4 r l
  | _, r, _ => (r, mayE r)
theorem size_list (s : ByteArray) : s.data.toList.length = s.size := by rw [Array.length_toList]; rfl
theorem tbN_eq (s : ByteArray) : tbN s = fixVal (s.data.toList.take 2) := rfl
theorem extract_str (s : ByteArray) (n : Nat) : str ((s.data.toList.drop 2).take n) = s.extract 2 (2 + n) := by
  rw [← data_str (s.extract 2 (2 + n)), Lib.extract_data, show 2 + n - 2 = n by omega]

set_option maxHeartbeats 1000000 in
/-- One part. -/
theorem take_step (r : Rc) (s : ByteArray) (j : Nat) (hj : j < 5) (hm : s.size ≤ 1000000) : ∃ (c : Nat) (V : Value) (K E : Int), Utf8.decode lay j = (c, 1) ∧
    (∀ W, Calls Tryd.prog 50 #[.int .i32 (c : Int), .string s] W fun e w' => e = .returned (.tuple #[V, .int .i64 K, .int .i64 E]) ∧ Below W.heap.size W w') ∧
    ((¬ E = 0 ∧ restR j r s.data.toList = (zero, E)) ∨ (E = 0 ∧ ∃ (n : Nat) (r' : Rc), K = (n : Int) ∧ n ≤ s.size ∧
      (∀ W, Calls Tryd.prog 51 #[ragg r, .int .i32 (c : Int), V] W fun e w' => e = .returned (ragg r') ∧ Below W.heap.size W w') ∧ restR j r s.data.toList = restR (j + 1) r' (s.data.toList.drop n))) := by
  have hd := lay_at j hj
  have hl := size_list s
  rcases (by omega : j = 0 ∨ j = 1 ∨ j = 2 ∨ j = 3 ∨ j = 4) with rfl | rfl | rfl | rfl | rfl
  · by_cases h8 : s.size < 8
    · exact ⟨111, _, 0, 7, hd, fun W => take_long 111 s 0 0 7 W (.inl rfl) (fun W => takeLong_cut s W h8), .inl ⟨by decide, by show p0 r _ = _; unfold p0; rw [if_pos (by omega)]⟩⟩
    · exact ⟨111, .iface 3 (.int .i64 (lng s.data.toList)), 8, 0, hd, fun W => take_long 111 s _ 8 0 W (.inl rfl) (fun W => takeLong_is s _ W (by omega) hm rfl), .inr ⟨rfl, 8, { r with o := lng s.data.toList }, rfl, by omega, fun W => with_o r.o r.t (str r.k) (str r.b) r.q r.g (lng s.data.toList) W, by show p0 r _ = p1 _ _; unfold p0; rw [if_neg (by omega)]⟩⟩
  · by_cases h8 : s.size < 8
    · exact ⟨116, _, 0, 7, hd, fun W => take_long 116 s 0 0 7 W (.inr rfl) (fun W => takeLong_cut s W h8), .inl ⟨by decide, by show p1 r _ = _; unfold p1; rw [if_pos (by omega)]⟩⟩
    · exact ⟨116, .iface 3 (.int .i64 (lng s.data.toList)), 8, 0, hd, fun W => take_long 116 s _ 8 0 W (.inr rfl) (fun W => takeLong_is s _ W (by omega) hm rfl), .inr ⟨rfl, 8, { r with t := lng s.data.toList }, rfl, by omega, fun W => with_t r.o r.t (str r.k) (str r.b) r.q r.g (lng s.data.toList) W, by show p1 r _ = p2 _ _; unfold p1; rw [if_neg (by omega)]⟩⟩
  · rcases hs : s.data.toList with _ | ⟨f, t⟩
    · have he : s = ⟨#[]⟩ := by rw [← data_str s, hs]; rfl
      subst he
      exact ⟨102, _, 0, 7, hd, fun W => take_byte _ 0 0 7 W takeByte_none, .inl ⟨by decide, rfl⟩⟩
    · have hz : 1 ≤ s.size := by rw [← hl, hs]; simp
      exact ⟨102, _, 1, 0, hd, fun W => take_byte s _ 1 0 W (fun W => takeByte_some s f t W hs hm), .inr ⟨rfl, 1, flagged r f.toNat, rfl, hz, fun W => with_f r f.toNat W f.toNat_lt, rfl⟩⟩
  · rcases tb_cases s with ⟨h1, e⟩ | ⟨h1, h2, e⟩ | ⟨h1, h2, h3, e⟩ | ⟨h1, h2, e⟩
    · exact ⟨107, _, 0, 7, hd, fun W => take_key s _ _ _ W hm e, .inl ⟨by decide, by show p3 r _ = _; unfold p3; rw [if_pos (by omega)]⟩⟩
    · rw [tbN_eq] at h2
      exact ⟨107, _, 0, 2, hd, fun W => take_key s _ _ _ W hm e, .inl ⟨by decide, by show p3 r _ = _; unfold p3; rw [if_neg (by omega), if_pos h2]⟩⟩
    · rw [tbN_eq] at h2 h3
      exact ⟨107, _, 0, 7, hd, fun W => take_key s _ _ _ W hm e, .inl ⟨by decide, by show p3 r _ = _; unfold p3; rw [if_neg (by omega), if_neg (by omega), if_pos (by omega)]⟩⟩
    · refine ⟨107, _, _, 0, hd, fun W => take_key s _ _ _ W hm e, .inr ⟨rfl, 2 + tbN s, { r with k := (s.data.toList.drop 2).take (tbN s) }, rfl, h2, fun W => ?_, ?_⟩⟩
      · have := with_k r.o r.t (str r.k) (str r.b) r.q r.g (s.extract 2 (2 + tbN s)) W
        rw [← extract_str] at this ⊢
        exact this
      · rw [tbN_eq] at h1 h2 ⊢
        show p3 r _ = p4 _ _
        unfold p3
        rw [if_neg (by omega), if_neg (by omega), if_neg (by omega)]
  · refine ⟨98, _, _, 0, hd, fun W => take_rest s W hm, .inr ⟨rfl, s.size, { r with b := s.data.toList }, rfl, Nat.le_refl _, fun W => ?_, rfl⟩⟩
    have := with_b r.o r.t (str r.k) (str r.b) r.q r.g s W
    unfold ragg
    rw [data_str]
    exact this

/-- Where the reading stands: the result's cell as it began, the record so far, an iterator; all that was there ahead of the call. -/
@[irreducible] def TB (w : World) (p b k : Nat) (cs : Array Value) (j : Nat) (W : World) : Prop :=
  Blk W p zcells ∧ Blk W b cs ∧ W.heap[k]? = some (.stringIter lay j) ∧ Below w.heap.size w W ∧ w.heap.size ≤ p ∧ p < b ∧ b < k
section
variable {w W W' : World} {p b k j : Nat} {cs : Array Value}
theorem TB.mk (h : Blk W p zcells ∧ Blk W b cs ∧ W.heap[k]? = some (.stringIter lay j) ∧ Below w.heap.size w W ∧ w.heap.size ≤ p ∧ p < b ∧ b < k) : TB w p b k cs j W := by unfold TB; exact h
theorem TB.out (h : TB w p b k cs j W) : Blk W p zcells ∧ Blk W b cs ∧ W.heap[k]? = some (.stringIter lay j) ∧ Below w.heap.size w W ∧ w.heap.size ≤ p ∧ p < b ∧ b < k := by unfold TB at h; exact h
theorem TB.below (h : TB w p b k cs j W) (hb : Below W.heap.size W W') : TB w p b k cs j W' := by
  obtain ⟨h1, h2, h3, h4, h5, h6, h7⟩ := h.out
  exact .mk ⟨h1.below hb, h2.below hb, (hb.block k (Array.getElem?_eq_some_iff.1 h3).1).trans h3, h4.trans (hb.mono h4.size), h5, h6, h7⟩
theorem blk_iter {g : Nat} {ds : Array Value} (h : Blk W g ds) (hg : g ≠ k) (j' : Nat) : Blk (W.iterAt k lay j') g ds := by
  obtain ⟨T, h⟩ := h
  exact ⟨T, (iterAt_other W k g lay j' hg).trans h⟩
theorem TB.iter (h : TB w p b k cs j W) (j' : Nat) : TB w p b k cs j' (W.iterAt k lay j') := by
  obtain ⟨h1, h2, h3, h4, h5, h6, h7⟩ := h.out
  exact .mk ⟨blk_iter h1 (by omega) j', blk_iter h2 (by omega) j', iterAt_heap W k lay j j' h3, below_iterAt h4 (by omega) lay j', h5, h6, h7⟩
theorem blk_row_far {g g' : Nat} {ds : Array Value} (h : Blk W g ds) (hg : g ≠ g') (es : Array Value) : Blk (W.setRow g' es) g ds := by
  obtain ⟨T, h⟩ := h
  exact ⟨T, (setRow_other W g' g es hg).trans h⟩
theorem TB.row (h : TB w p b k cs j W) (ds : Array Value) : TB w p b k ds j (W.setRow b ds) := by
  obtain ⟨h1, h2, h3, h4, h5, h6, h7⟩ := h.out
  exact .mk ⟨blk_row_far h1 (by omega) ds, h2.row ds, (setRow_other W b k ds (by omega)).trans h3, below_row h4 (by omega) ds, h5, h6, h7⟩
theorem TB.last (h : TB w p b k cs j W) (ds : Array Value) : Blk (W.setRow p ds) p ds ∧ Below w.heap.size w (W.setRow p ds) := by
  obtain ⟨h1, h2, h3, h4, h5, h6, h7⟩ := h.out
  exact ⟨h1.row ds, below_row h4 h5 ds⟩
theorem TB.load (h : TB w p b k cs j W) (h6 : cs.size = 6) : (loadVar 28 ⟨b, 0, none⟩).run Tryd.prog W = .ok (.agg cs) W := load_blk h.out.2.1 h6
theorem TB.next (h : TB w p b k cs j W) (hj : j < 5) (ty : TypeId) : (Instr.next (.pointer (some ⟨k, 0, none⟩)) true ty).run Tryd.prog W = .ok (.tuple #[.bool true, .int .i64 (j : Int), .int .i32 ((Utf8.decode lay j).1 : Int)]) (W.iterAt k lay (j + (Utf8.decode lay j).2)) :=
  run_next_any_at (P := Tryd.prog) W k lay j ty h.out.2.2.1 (by rw [lay_size]; exact hj)
theorem TB.over (h : TB w p b k cs j W) (hj : ¬ j < 5) (ty : TypeId) : (Instr.next (.pointer (some ⟨k, 0, none⟩)) true ty).run Tryd.prog W = .ok (.tuple #[.bool false]) W :=
  run_next_end_at (P := Tryd.prog) W k lay j ty h.out.2.2.1 (by rw [lay_size]; exact hj)
theorem TB.start (w : World) : TB w w.heap.size (w.heap.size + 1) (w.heap.size + 2) zcells 0 (((w.alloc (.cells zcells 28)).alloc (.cells zcells 28)).iter lay 0) := by
  have e0 := Blk.new w 28 zcells
  have z0 : (w.alloc (.cells zcells 28)).heap.size = w.heap.size + 1 := by simp
  have x0 : Below w.heap.size w (w.alloc (.cells zcells 28)) := (Below.refl _ _).alloc (Nat.le_refl _) _
  generalize w.alloc (.cells zcells 28) = w1 at e0 z0 x0 ⊢
  have e1 := Blk.new w1 28 zcells
  have z1 : (w1.alloc (.cells zcells 28)).heap.size = w.heap.size + 2 := by simp [z0]
  have e0' := e0.alloc (.cells zcells 28)
  have x1 : Below w.heap.size w (w1.alloc (.cells zcells 28)) := x0.alloc (by omega) _
  rw [z0] at e1
  generalize w1.alloc (.cells zcells 28) = w2 at e1 e0' z1 x1 ⊢
  have e2 := World.iter_heap w2 lay 0
  rw [z1] at e2
  have x2 : Below w2.heap.size w2 (w2.iter lay 0) := (Below.refl _ _).alloc (Nat.le_refl _) _
  exact .mk ⟨e0'.below x2, e1.below x2, e2, x1.trans (x2.mono (by omega)), Nat.le_refl _, by omega, by omega⟩
end

set_option maxRecDepth 100000 in
set_option maxHeartbeats 4000000 in
/-- rec.takeBody. -/
theorem takeBody_is (s : ByteArray) (R : Rc) (E : Int) (w : World) (hm : s.size ≤ 1000000) (h : parse s.data.toList = (R, E)) :
    Calls Tryd.prog 43 #[.string s] w fun e w' => e = .returned (.tuple #[ragg R, .int .i64 E]) ∧ Below w.heap.size w w' := by
  have HP := Lib.hid (fun r s j hj hm => take_step r s j hj hm)
  have R0 := Lib.hid (TB.start w)
  have H0 := Lib.hid h
  clear h
  obtain ⟨RC, hRC⟩ : ∃ c, rarr R.o R.t (str R.k) (str R.b) R.q R.g = c := ⟨_, rfl⟩
  have HRC := Lib.hid hRC
  unfold ragg
  rw [hRC]
  clear hRC
  unfold lay zcells at R0
  go_enter Tryd.func43, Tryd.ntmps43
  go_wp2_with fail
  rw [show (w.heap.size + 1 + 1) = w.heap.size + 2 from rfl]
  generalize World.iter _ _ _ = W0 at R0 ⊢
  obtain ⟨p, hp⟩ : ∃ p, w.heap.size = p := ⟨_, rfl⟩
  rw [hp] at R0
  rw [hp]
  clear hp
  generalize p + 1 = b at R0 ⊢
  generalize p + 2 = k at R0 ⊢
  go_loopw [0] (fun s0 wr => ∃ j s r, j ≤ 5 ∧ s0 = .string s ∧ s.size ≤ 1000000 ∧ TB w p b k (rarr r.o r.t (str r.k) (str r.b) r.q r.g) j wr ∧ restR j r s.data.toList = (R, E)) (fun _ wr => 5 - wr.iterPos k)
  case atStart => exact ⟨0, s, zero, by omega, rfl, hm, R0.out, H0.out⟩
  case round =>
    obtain ⟨j, s, r, hj, rfl, hm, hT, hr⟩ := hrel
    have HTB := Lib.hid hT
    have HR := Lib.hid hr
    have hpos := Lib.hid (iterPos_of hT.out.2.2.1)
    clear hT R0 hr H0
    by_cases hlt : j < 5
    · obtain ⟨c, V, K, F, hd, hT, hn⟩ := HP.out r s j hlt hm
      have hnx := HTB.out.next hlt
      rw [hd] at hnx
      dsimp only at hnx
      have HT := Lib.hid hT
      have R1 := Lib.hid (HTB.out.iter (j + 1))
      clear hd hT HTB
      generalize wr.iterAt k lay (j + 1) = W1 at hnx R1
      rcases hn with ⟨hF, hz⟩ | ⟨rfl, n, r', rfl, hns, hw, hz⟩
      · have hF1 : (F != 0) = true := by rw [bne_iff_ne]; exact hF
        rw [HR.out] at hz
        injection hz with hz1 hz2
        subst hz1 hz2
        have hrc : rarr (0 : Int) 0 ⟨#[]⟩ ⟨#[]⟩ 0 false = RC := HRC.out
        unfold rarr at hrc
        have HI : Hid ((Tryd.prog.info? 28).map (·.size) = some RC.size) := by show _ = _; rw [← hrc]; exact info_rec
        have HC6 : Hid (zcells.size = RC.size) := by show _ = _; rw [← hrc]; rfl
        have HO : Hid (RC.all (·.oneCell') = true) := by show _ = _; rw [← hrc]; exact one_arr _ _ _ _ _ _
        go_wp2_with fail
        refine (HT.out _).mono ?_
        rintro e w2 ⟨rfl, hb2⟩
        have R2 := Lib.hid (R1.out.below hb2)
        have HL2 := Lib.hid (R2.out.last RC)
        clear R1 hnx hb2 HT
        go_wp2_with (refine wpList_store_whole rfl 28 (.tmp 2) (.tmp 23) rfl p RC rfl rfl zcells R2.out.out.1 HI.out HC6.out HO.out ?_; simp only [Act.put])
        refine bodyPost_ret (results_rec2 Tryd.results43 rfl HL2.out.1 (by rw [← hrc]; rfl) rfl) rfl ⟨rfl, HL2.out.2⟩
      · have hld := R1.out.load rfl
        unfold ragg at hw
        have HWI := Lib.hid hw
        have HZ := Lib.hid (HR.out.symm.trans hz)
        have hnI : (n : Int) ≤ (s.size : Int) := by omega
        have hsx : (s.extract n s.size).data.toList = s.data.toList.drop n := by
          rw [Lib.extract_data]; exact List.take_of_length_le (by rw [List.length_drop, size_list]; omega)
        have HSX := Lib.hid hsx
        have hsz : (s.extract n s.size).size ≤ 1000000 := by rw [ByteArray.size_extract]; omega
        clear hw hz hld hsx
        go_wp2_with fail
        refine (HT.out _).mono ?_
        rintro e w2 ⟨rfl, hb2⟩
        have R2 := Lib.hid (R1.out.below hb2)
        have hld := R2.out.load rfl
        clear R1 hnx hb2 HT
        go_wp2_with (refine wpList_load_any (by rfl) 28 (.tmp 4) rfl b 0 rfl _ hld ?_; simp only [Act.put])
        refine (HWI.out _).mono ?_
        rintro e w3 ⟨rfl, hb3⟩
        have R3 := Lib.hid (R2.out.below hb3)
        have R4 := Lib.hid (R3.out.row (rarr r'.o r'.t (str r'.k) (str r'.b) r'.q r'.g))
        clear R2 hb3 HWI hld
        go_upto_region 9 with (refine wpList_store_whole rfl 28 (.tmp 4) (.tmp 28) rfl b (rarr r'.o r'.t (str r'.k) (str r'.b) r'.q r'.g) rfl rfl _ R3.out.out.2.1 info_rec rfl (one_arr _ _ _ _ _ _) ?_; simp only [Act.put])
        generalize World.setRow _ _ _ = w4 at R4 ⊢
        clear R3
        go_wp2_with fail
        go_roundw
        case rel => exact ⟨j + 1, _, r', hlt, rfl, hsz, R4.out, by rw [HSX.out]; exact HZ.out.symm⟩
        case measure => rw [hpos.out, iterPos_of R4.out.out.2.2.1]; omega
    · obtain rfl : j = 5 := by omega
      have hnx := HTB.out.over hlt
      obtain ⟨hr1, hr2⟩ : r = R ∧ mayE r = E := by
        have := HR.out
        injection this with h1 h2
        exact ⟨h1, h2⟩
      subst hr1
      have HC := Lib.hid (fun W => Check_is r E W hr2)
      unfold ragg at HC
      have hrc := HRC.out
      rw [hrc] at HC HTB
      have HI : Hid ((Tryd.prog.info? 28).map (·.size) = some RC.size) := by show _ = _; rw [← hrc]; exact info_rec
      have HC6 : Hid (RC.size = 6) := by show _ = _; rw [← hrc]; rfl
      have HO : Hid (RC.all (·.oneCell') = true) := by show _ = _; rw [← hrc]; exact one_arr _ _ _ _ _ _
      clear hr2 HRC HR HP hpos hrc
      go_upto_region 10 with fail
      have hT : TB w p b k RC 5 wr.drew := HTB.out.below (below_drewN (Below.refl _ _) 1)
      clear hnx HTB
      refine wp_region_held_drew (S := fun W => Blk W b RC) (by kernel_rfl) hT.out.2.1 (fun hS => ?_)
      generalize wr.drew = Wd at hT hS ⊢
      refine take_load 0 32 28 (.tmp 4) b 0 (.agg RC) rfl rfl (by kernel_rfl) (fun _ _ _ h => h) (by rfl) hS rfl rfl (fun w' hS' => load_blk hS' HC6.out) ?_
      simp only [Act.put, List.setIfInBounds_toArray, List.set_cons_zero, List.set_cons_succ]
      refine take_load 1 33 28 (.tmp 4) b 0 (.agg RC) rfl rfl (by kernel_rfl) (fun _ _ _ h => h) (by rfl) hS rfl rfl (fun w' hS' => load_blk hS' HC6.out) ?_
      simp only [Act.put, List.setIfInBounds_toArray, List.set_cons_zero, List.set_cons_succ]
      refine only_op 2 rfl (by kernel_rfl) (by rfl) (wp_call 34 13 #[.agg RC] (.int .i64 E) (fun W => Below Wd.heap.size Wd W) rfl (by go_simp) (HC.out Wd) (fun w1 hb1 => ⟨hS.below hb1, ?_⟩))
      simp only [Act.put, List.setIfInBounds_toArray, List.set_cons_zero, List.set_cons_succ]
      have hT1 := hT.below hb1
      have hL := hT1.last RC
      have hS1 : Blk (w1.setRow p RC) b RC := blk_row_far (hS.below hb1) (by have := hT.out.2.2.2.2.2.1; omega) RC
      obtain ⟨T, hpT⟩ := hT1.out.1
      refine only_op 3 rfl (by kernel_rfl) (by rfl) (wp_store_row 28 (.tmp 2) (.tmp 32) rfl p RC rfl rfl T _ hpT HI.out HC6.out.symm HO.out ⟨hS1, ?_⟩)
      simp only [Act.put]
      refine take_op 4 3 ?v4 rfl rfl (by kernel_rfl) (fun _ _ _ h => h) (by rfl) hS1 (fun w' hS' => ?hv4) ?hh4
      case hv4 => (go_simp; try with_reducible rfl)
      simp only [Act.put, List.setIfInBounds_toArray, List.set_cons_zero, List.set_cons_succ]
      refine wpAnyH_done (by kernel_rfl) ?_ _
      have HL := Lib.hid hL
      clear hL hS1 hT1 hT hpT hS hb1
      go_wp2_with fail
      refine bodyPost_ret (results_rec2 Tryd.results43 rfl HL.out.1 HC6.out rfl) rfl ⟨rfl, HL.out.2⟩
end Go.Proofs.YtimoncjdfmfojaaDoor
