/- The document's own answer: a file put at its place. -/
import Derived.Test.YtgimecgdfcckbaaDskRSmall
namespace Go.Proofs.Ytgimecgdfcckbaa.Dsk
open Go.RowKit Go.Lib Go.Maps

theorem info_file : (Try.prog.info? 89).map (fun i => (i.zero, i.size, i.bytes)) = some (some (.agg #[.string ⟨#[]⟩, .string ⟨#[]⟩, .int .i64 0]), 3, 40) := by kernel_rfl
theorem own3_any {w : World} {B e n : Nat} {v : Value} {xs : List Value} (h : w.ownsRow B e 3 v n xs) : ∃ A c, v = .slice A n c := by
  rcases h.2 with ⟨hv, hn⟩ | ⟨g, cap, cur, hv, _⟩
  · exact ⟨none, 0, by rw [hv, hn]⟩
  · exact ⟨_, _, hv⟩
theorem run_app (W : World) (B : Nat) (v : Value) (n : Nat) (xs : List Value) (hown : W.ownsRow B 89 3 v n xs) (a : Addr) (m c : Nat) (G : List Fl) (hG : G.length = m) (hc : ∀ j u, (rflat G)[j]? = some u → W.cell? (a.add j) = some u) (hnm : n + m ≤ 1000000) (hB : B ≤ W.heap.size) :
    ∃ A' c' W', (Builtin.append_ #[84, 84] 84 #[v, .slice (some a) m c]).run Try.prog W = .ok (.slice A' (n + m) c') W' ∧ W'.ownsRow B 89 3 (.slice A' (n + m) c') (n + m) (xs ++ rflat G) ∧ W.grownBy W' v.ownBlock := by
  obtain ⟨i0, hi, hz0, hz1, hz2⟩ := info_parts info_file
  obtain ⟨v', w', hr, h2, h3, _⟩ := run_append_own (P := Try.prog) W B 84 84 89 i0 _ 3 40 Try.underlying84 hi hz0 hz1 hz2 rfl (by omega) v n xs hown a m c (rflat G) (by rw [rflat_len, hG]) hc (rflat_one G) (by unfold maxLen; omega) (by omega) hB
  obtain ⟨A', c', rfl⟩ := own3_any h2
  exact ⟨A', c', w', hr, h2, h3⟩
theorem run_app_none (W : World) (B : Nat) (v : Value) (n : Nat) (xs : List Value) (hown : W.ownsRow B 89 3 v n xs) :
    (Builtin.append_ #[84, 84] 84 #[v, .slice none 0 0]).run Try.prog W = .ok v W := by
  obtain ⟨i0, hi, _, _, _⟩ := info_parts info_file
  exact run_append_owned_none (P := Try.prog) (w := W) B 84 84 89 i0 3 Try.underlying84 hi v n xs hown
theorem wpList_app {ops : Array Oper} {rest : List Oper} {o : Oper} {a : Act} {Q : Exit → Act → World → Prop} {w : World} (hgd : o.guard = none) (s x : Operand) (t : TypeId) (ho : o.op = .call { callee := .builtin .append, args := #[s, x], argTypes := #[t, t] })
    (v xv v' : Value) (w' : World) (hs : a.eval s = v) (hx : a.eval x = xv) (hr : (Builtin.append_ #[t, t] o.type #[v, xv]).run Try.prog w = .ok v' w') (h : wpList Try.prog ops Q rest (a.put o.dst v') w') : wpList Try.prog ops Q (o :: rest) a w := by
  refine wpList_plain hgd fun K hK => ?_
  unfold Oper.wp execOp
  simp only [ho, resolve, invoke, builtin, Sem.run_bind, Sem.run_pure, Result.andThen_ok, List.map_toArray, List.map_cons, List.map_nil, hs, hx, hr]
  exact hK _ _ h
theorem wpList_app3 {ops : Array Oper} {rest : List Oper} {o : Oper} {a : Act} {Q : Exit → Act → World → Prop} {w : World} (hgd : o.guard = none) (s x : Operand) (ho : o.op = .call { callee := .builtin .append, args := #[s, x], argTypes := #[84, 84] }) (hot : o.type = 84)
    (B : Nat) (v : Value) (n : Nat) (xs : List Value) (hs : a.eval s = v) (hown : w.ownsRow B 89 3 v n xs) (hB : B ≤ w.heap.size) (ad : Addr) (m c : Nat) (G : List Fl) (hx : a.eval x = .slice (some ad) m c) (hG : G.length = m) (hc : ∀ j u, (rflat G)[j]? = some u → w.cell? (ad.add j) = some u) (hnm : n + m ≤ 1000000)
    (h : ∀ A' c' W', W'.ownsRow B 89 3 (.slice A' (n + m) c') (n + m) (xs ++ rflat G) → w.grownBy W' v.ownBlock → wpList Try.prog ops Q rest (a.put o.dst (.slice A' (n + m) c')) W') : wpList Try.prog ops Q (o :: rest) a w := by
  obtain ⟨A', c', W', hr, h2, h3⟩ := run_app w B v n xs hown ad m c G hG hc hnm hB
  exact wpList_app hgd s x _ ho v _ _ W' hs hx (by rw [hot]; exact hr) (h A' c' W' h2 h3)
theorem own_ge {w : World} {B e size n c : Nat} {A : Option Addr} {xs : List Value} (h : w.ownsRow B e size (.slice A n c) n xs) : ∀ a, A = some a → B ≤ a.block := fun a ha => by
  subst ha
  exact (h.lt a.block rfl).1
theorem RkAt.cells_ahead {w : World} {Y : Nat → Prop} {r : Nat} {F : List Fl} {g c k : Nat} (h : RkAt w Y r F (some ⟨g, 0, none⟩) c) : ∀ j u, (rflat (F.take k))[j]? = some u → w.cell? ((⟨g, 0, none⟩ : Addr).add j) = some u := fun j u hu => by
  have e : (rflat F)[j]? = some u := by
    rw [← List.take_append_drop k F, rflat_app, List.getElem?_append_left (List.getElem?_eq_some_iff.1 hu).1]
    exact hu
  have hj := (List.getElem?_eq_some_iff.1 e).1
  rw [rflat_len] at hj
  rw [add_new, h.row.cellAt j hj]
  exact e
theorem RkAt.cells_behind {w : World} {Y : Nat → Prop} {r : Nat} {F : List Fl} {g c k : Nat} (h : RkAt w Y r F (some ⟨g, 0, none⟩) c) (hk : k ≤ F.length) : ∀ j u, (rflat (F.drop k))[j]? = some u → w.cell? ⟨g, k * 3 + j, none⟩ = some u := fun j u hu => by
  have hlen : (rflat (F.take k)).length = k * 3 := by rw [rflat_len, List.length_take, Nat.min_eq_left hk]
  have e : (rflat F)[k * 3 + j]? = some u := by
    rw [← List.take_append_drop k F, rflat_app, List.getElem?_append_right (by omega), hlen, show k * 3 + j - k * 3 = j by omega]
    exact hu
  have hj := (List.getElem?_eq_some_iff.1 e).1
  rw [rflat_len] at hj
  rw [h.row.cellAt _ hj]
  exact e
/-- A new row laid in its box: as one step, W being the world ahead of it. -/
theorem rk_laid {w W W4 : World} {Y : Nat → Prop} {r : Nat} {F G : List Fl} {A A3 : Option Addr} {c c3 : Nat} (hw : Below w.heap.size w W) (h : RkAt W Y r F A c) (hl : ∀ k, Y k → k < w.heap.size) (hb : Below W.heap.size W W4)
    (ho : W4.ownsRow w.heap.size 89 3 (.slice A3 G.length c3) G.length (rflat G)) : RThen Y w (W4.setCell ⟨r, 0, none⟩ (.slice A3 G.length c3)) r G := by
  have hbx := h.box.below hb
  have hg := grown_setCell W4 r 0 (.slice A3 G.length c3)
  have hs1 := hw.size
  have hs2 := hb.size
  have hrl := hl r h.inY
  refine ⟨fun k => Y k ∨ (w.heap.size ≤ k ∧ k < W4.heap.size), ⟨A3, c3, by simpa using hbx.put 0 (.slice A3 G.length c3), .inl h.inY, own_low (own_kept0 ho hg (fun k hk e => ?_)) (Nat.zero_le _), fun a ha => .inr ⟨own_ge ho a ha, ?_⟩, fun k hk => ?_⟩, ?_, fun k hk => hk.imp id And.left⟩
  · injection e with e
    have := (ho.lt k hk).1
    omega
  · subst ha
    exact (ho.lt a.block rfl).2
  · have hsz : (W4.setCell ⟨r, 0, none⟩ (.slice A3 G.length c3)).heap.size = W4.heap.size := by simp [World.setCell]
    rw [hsz]
    rcases hk with hk | hk
    · have := hl k hk; omega
    · exact hk.2
  · refine ((Chg.of_below (X := Y) hw).trans (Chg.of_below (X := Y) hb) fun _ hk => .inl hk).trans (Chg.of_grown (X := Y) hg (fun k hk => by cases hk; exact h.inY)) fun _ hk => .inl hk

section
variable {w : World} {Y : Nat → Prop} {r : Nat} {F : List Fl} {A : Option Addr} {c : Nat}
set_option maxRecDepth 100000 in
set_option maxHeartbeats 8000000 in
theorem put_nil (f : Fl) (h : RkAt w Y r [] none 0) :
    Calls Try.prog 60 #[.pointer (some ⟨r, 0, none⟩), .agg #[.string (str f.n), .string (str f.t), .int .i64 (f.s : Int)]] w fun e w' => e = .returned (.tuple #[]) ∧ RThen Y w w' r (put [] f) := by
  have hal := (Below.refl w.heap.size w).alloc (Nat.le_refl _) (.cells #[.string (str f.n), .string (str f.t), .int .i64 (f.s : Int)] 89)
  have HLt := Lib.hid h.lt
  have H := Lib.hid (h.below hal)
  have HBx := Lib.hid (Bk.new w 89 #[.string (str f.n), .string (str f.t), .int .i64 (f.s : Int)])
  have HBe := Lib.hid hal
  clear h hal
  obtain ⟨sn, hsn⟩ : ∃ sn, str f.n = sn := ⟨_, rfl⟩
  obtain ⟨st, hst⟩ : ∃ st, str f.t = st := ⟨_, rfl⟩
  obtain ⟨si, hsi⟩ : ∃ si, (f.s : Int) = si := ⟨_, rfl⟩
  have HRc : Hid (rcells f = [.string sn, .string st, .int .i64 si]) := Lib.hid (by rw [← hsn, ← hst, ← hsi]; rfl)
  rw [hsn, hst, hsi] at H HBx HBe ⊢
  clear hsn hst hsi
  go_enter Try.func60, Try.ntmps60
  go_upto_region 1 with fail
  obtain ⟨W1, hW1⟩ : ∃ W1, w.alloc (.cells #[.string sn, .string st, .int .i64 si] 89) = W1 := ⟨_, rfl⟩
  obtain ⟨b, hb⟩ : ∃ b, w.heap.size = b := ⟨_, rfl⟩
  have HB := Lib.hid hb
  rw [hW1] at H HBx HBe ⊢
  rw [hb] at HBx ⊢
  clear hW1 hb
  have c0 : W1.cell? ⟨r, 0, none⟩ = some (.slice none 0 0) := H.out.box.cell 0
  have b0 := HBx.out.cell 0
  simp at b0
  go_wp2_with fail
  go_loopw [4] (fun i wr => ∃ m : Nat, i = .int .i64 0 ∧ wr = W1.drewN m) (fun i _ => 0)
  case atStart => exact ⟨0, rfl, rfl⟩
  case round =>
    obtain ⟨m, rfl, rfl⟩ := hrel
    go_wp2_with fail
    go_quiet (fail)
    rename_i nq
    have hbl := below_drewN (below_drewN (Below.refl W1.heap.size W1) m) nq
    have HR := Lib.hid (H.out.below hbl)
    have HX := Lib.hid (HBx.out.below hbl)
    have HW := Lib.hid (HBe.out.trans (hbl.mono HBe.out.size))
    obtain ⟨W, hW⟩ : ∃ W, (W1.drewN m).drewN nq = W := ⟨_, rfl⟩
    rw [hW] at HR HX HW ⊢
    clear hW hbl c0 b0
    have hwW : w.heap.size ≤ W.heap.size := HW.out.size
    have r0 : W.cell? ⟨r, 0, none⟩ = some (.slice none 0 0) := HR.out.box.cell 0
    have hal := (Below.refl W.heap.size W).alloc (Nat.le_refl _) (.cells #[] 89)
    have HR1 := Lib.hid (HR.out.below hal)
    have r1 : (W.alloc (.cells #[] 89)).cell? ⟨r, 0, none⟩ = some (.slice none 0 0) := HR1.out.box.cell 0
    have hmade : (W.alloc (.cells #[] 89)).ownsRow W.heap.size 89 3 (.slice (some ⟨W.heap.size, 0, none⟩) 0 0) 0 [] := World.ownsRow_made W #[] 0 (Nat.le_refl _) (by unfold maxLen; omega) rfl
    obtain ⟨A1, c1, W2, hr1, ho1, hg1⟩ : ∃ A' c' W', (Builtin.append_ #[84, 84] 84 #[.slice (some ⟨W.heap.size, 0, none⟩) 0 0, .slice none 0 0]).run Try.prog (W.alloc (.cells #[] 89)) = .ok (.slice A' 0 c') W' ∧ W'.ownsRow W.heap.size 89 3 (.slice A' 0 c') 0 [] ∧ (W.alloc (.cells #[] 89)).grownBy W' (Value.slice (some ⟨W.heap.size, 0, none⟩) 0 0).ownBlock := ⟨_, _, _, run_app_none _ _ _ _ _ hmade, hmade, World.grownBy.refl _ _⟩
    have hb2 : Below W.heap.size W W2 := hal.grown hg1 (by simp) (fun j hj => by cases hj; exact Nat.le_refl _)
    have HR2 := Lib.hid (HR.out.below hb2)
    have HX2 := Lib.hid (HX.out.below hb2)
    have hal2 := (Below.refl W2.heap.size W2).alloc (Nat.le_refl _) (.cells #[.string sn, .string st, .int .i64 si] 89)
    have hwW2 : w.heap.size ≤ W2.heap.size := Nat.le_trans hwW hb2.size
    obtain ⟨A2, c2, W3, hr2, ho2, hg2⟩ := run_app (W2.alloc (.cells #[.string sn, .string st, .int .i64 si] 89)) W.heap.size _ 0 _ (ho1.alloc _) ⟨W2.heap.size, 0, none⟩ 1 1 [f] rfl (fun j u hu => by
      have hb := (Bk.new W2 89 #[.string sn, .string st, .int .i64 si]).cell j
      rw [add_new, hb]
      rw [show rflat [f] = rcells f from List.append_nil _, HRc.out] at hu
      simpa using hu) (by omega) (Nat.le_trans hb2.size hal2.size)
    simp only [Nat.zero_add, List.nil_append] at hr2 ho2
    have hb3 : Below W.heap.size W W3 := by
      have hbs2 := hb2.size
      refine (hb2.trans (hal2.mono hb2.size)).grown hg2 (Nat.le_trans hb2.size hal2.size) (fun j hj => ?_)
      exact (ho1.lt j hj).1
    have HR3 := Lib.hid (HR.out.below hb3)
    have b2 : W2.cell? ⟨b, 0, none⟩ = some (.string sn) := HX2.out.cell 0
    have b3 : W2.cell? ⟨b, 1, none⟩ = some (.string st) := HX2.out.cell 1
    have b4 : W2.cell? ⟨b, 2, none⟩ = some (.int .i64 si) := HX2.out.cell 2
    have HX3 := Lib.hid (HX2.out.below (hal2))
    have b5 : (W2.alloc (.cells #[.string sn, .string st, .int .i64 si] 89)).cell? ⟨b, 0, none⟩ = some (.string sn) := HX3.out.cell 0
    have r3 : W3.cell? ⟨r, 0, none⟩ = some (.slice none 0 0) := HR3.out.box.cell 0
    have hbs2 := hb2.size
    obtain ⟨A3, c3, W4, hr3, ho3, hg3⟩ : ∃ A' c' W', (Builtin.append_ #[84, 84] 84 #[.slice A2 1 c2, .slice none 0 0]).run Try.prog W3 = .ok (.slice A' 1 c') W' ∧ W'.ownsRow W.heap.size 89 3 (.slice A' 1 c') 1 (rflat [f]) ∧ W3.grownBy W' (Value.slice A2 1 c2).ownBlock := ⟨_, _, _, run_app_none _ _ _ _ _ ho2, ho2, World.grownBy.refl _ _⟩
    have hw3 : W.heap.size ≤ W3.heap.size := hb3.size
    skip
    
    have hb4 : Below W.heap.size W W4 := hb3.grown hg3 hb3.size (fun j hj => (ho2.lt j hj).1)
    have hbx4 := HR.out.box.below hb4
    have r4 : W4.cell? ⟨r, 0, none⟩ = some (.slice none 0 0) := hbx4.cell 0
    have f4 := hbx4.frozen 0
    have HFin : Hid (RThen Y w (W4.setCell ⟨r, 0, none⟩ (.slice A3 1 c3)) r (put [] f)) := Lib.hid (by
      have e : put [] f = [f] := rfl
      have hl2 : (put [] f).length = 1 := rfl
      rw [← hl2]
      refine rk_laid HW.out HR.out HLt.out hb4 ?_
      rw [hl2, e]
      have := own_low ho3 hwW
      exact this)
    clear hb4 hbx4 ho3 hg3 ho2 hg2 ho1 hg1
    go_wp2_with (at_builtin; first | refine wpList_app rfl (.tmp 28) (.tmp 34) _ rfl _ _ _ _ rfl rfl hr1 ?_ | refine wpList_app rfl (.tmp 36) (.tmp 38) _ rfl _ _ _ _ rfl rfl hr2 ?_ | go_must (refine wpList_app rfl (.tmp 41) (.tmp 47) _ rfl _ _ _ _ rfl rfl hr3 ?_))
    exact bodyPost_end (v := .tuple #[]) (by simp [results, Try.results60]) rfl ⟨rfl, HFin.out⟩
set_option maxRecDepth 100000 in
set_option maxHeartbeats 8000000 in
theorem put_some (f : Fl) (hA : ∃ g, A = some ⟨g, 0, none⟩) (hl : F.length ≤ 1000) (h : RkAt w Y r F A c) :
    Calls Try.prog 60 #[.pointer (some ⟨r, 0, none⟩), .agg #[.string (str f.n), .string (str f.t), .int .i64 (f.s : Int)]] w fun e w' => e = .returned (.tuple #[]) ∧ RThen Y w w' r (put F f) := by
  have hal := (Below.refl w.heap.size w).alloc (Nat.le_refl _) (.cells #[.string (str f.n), .string (str f.t), .int .i64 (f.s : Int)] 89)
  have HLt := Lib.hid h.lt
  have H := Lib.hid (h.below hal)
  have HBx := Lib.hid (Bk.new w 89 #[.string (str f.n), .string (str f.t), .int .i64 (f.s : Int)])
  have HBe := Lib.hid hal
  have hcapA := own_cap1 h.row
  have HA := Lib.hid hA
  clear h hal hA
  have HLs := Lib.hid (fun (F : Fl) => less_is F.n f.n)
  obtain ⟨sn, hsn⟩ : ∃ sn, str f.n = sn := ⟨_, rfl⟩
  obtain ⟨st, hst⟩ : ∃ st, str f.t = st := ⟨_, rfl⟩
  obtain ⟨si, hsi⟩ : ∃ si, (f.s : Int) = si := ⟨_, rfl⟩
  have HRc : Hid (rcells f = [.string sn, .string st, .int .i64 si]) := Lib.hid (by rw [← hsn, ← hst, ← hsi]; rfl)
  rw [hsn, hst, hsi] at H HBx HBe ⊢
  rw [hsn] at HLs
  clear hsn hst hsi
  go_enter Try.func60, Try.ntmps60
  go_upto_region 1 with fail
  obtain ⟨W1, hW1⟩ : ∃ W1, w.alloc (.cells #[.string sn, .string st, .int .i64 si] 89) = W1 := ⟨_, rfl⟩
  obtain ⟨b, hb⟩ : ∃ b, w.heap.size = b := ⟨_, rfl⟩
  have HB := Lib.hid hb
  rw [hW1] at H HBx HBe ⊢
  rw [hb] at HBx ⊢
  clear hW1 hb
  have c0 := H.out.box.cell 0
  simp at c0
  have b0 := HBx.out.cell 0
  simp at b0
  go_wp2_with fail
  go_loopw [4] (fun i wr => ∃ k m : Nat, k ≤ F.length ∧ i = .int .i64 (k : Int) ∧ wr = W1.drewN m ∧ ∀ j (h : j < F.length), j < k → F[j].n < f.n) (fun i _ => F.length - (RowKit.intOf i).toNat)
  case atStart => exact ⟨0, 0, Nat.zero_le _, rfl, rfl, fun j h hj => by omega⟩
  case round =>
    obtain ⟨k, m, hk, rfl, rfl, hless⟩ := hrel
    have HLe := Lib.hid hless
    clear hless
    by_cases hlt : k < F.length
    · have hkI : (k : Int) < (F.length : Int) := by omega
      have hkq : decide ((k : Int) < (F.length : Int)) = true := by simp; omega
      have hkq2 : decide (k < F.length) = true := by simp; omega
      obtain ⟨g, rfl, _, _, _, _⟩ := H.out.addr (by omega)
      obtain ⟨d0, _, _⟩ := H.out.at_ hlt
      have hls := HLs.out F[k]
      by_cases hg : F[k].n < f.n
      · rw [decide_eq_true hg] at hls
        have HG := Lib.hid hg
        clear hg
        generalize str F[k].n = s1 at d0 hls
        go_wp2_with fail
        go_quiet (fail)
        go_wp2_with fail
        go_roundw
        case rel =>
          refine ⟨k + 1, _, hlt, by go_num, rfl, fun j h hj => ?_⟩
          by_cases hjk : j = k
          · subst hjk; exact HG.out
          · exact HLe.out j h (by omega)
        case measure => simp [RowKit.intOf]; omega
      · rw [decide_eq_false hg] at hls
        have HPt := Lib.hid (put_at (f := f) (a := k) hk HLe.out (fun _ => hg))
        clear hg
        generalize str F[k].n = s1 at d0 hls
        go_wp2_with fail
        go_quiet (fail)
        rename_i nq
        have hbl := below_drewN (below_drewN (Below.refl W1.heap.size W1) m) nq
        have HR := Lib.hid (H.out.below hbl)
        have HX := Lib.hid (HBx.out.below hbl)
        have HW := Lib.hid (HBe.out.trans (hbl.mono HBe.out.size))
        obtain ⟨W, hW⟩ : ∃ W, (W1.drewN m).drewN nq = W := ⟨_, rfl⟩
        rw [hW] at HR HX HW ⊢
        clear hW hbl d0 hls c0 b0
        have hwW : w.heap.size ≤ W.heap.size := HW.out.size
        have r0 : W.cell? ⟨r, 0, none⟩ = some (.slice (some ⟨g, 0, none⟩) F.length c) := HR.out.box.cell 0
        have hal := (Below.refl W.heap.size W).alloc (Nat.le_refl _) (.cells #[] 89)
        have HR1 := Lib.hid (HR.out.below hal)
        have r1 : (W.alloc (.cells #[] 89)).cell? ⟨r, 0, none⟩ = some (.slice (some ⟨g, 0, none⟩) F.length c) := HR1.out.box.cell 0
        obtain ⟨A1, c1, W2, hr1, ho1, hg1⟩ := run_app (W.alloc (.cells #[] 89)) W.heap.size _ 0 [] (World.ownsRow_made W #[] 0 (Nat.le_refl _) (by unfold maxLen; omega) rfl) ⟨g, 0, none⟩ k c (F.take k) (by rw [List.length_take]; omega) HR1.out.cells_ahead (by omega) (by simp)
        rw [Nat.zero_add] at hr1 ho1
        rw [List.nil_append] at ho1
        have hb2 : Below W.heap.size W W2 := hal.grown hg1 (by simp) (fun j hj => by cases hj; exact Nat.le_refl _)
        have HR2 := Lib.hid (HR.out.below hb2)
        have HX2 := Lib.hid (HX.out.below hb2)
        have hal2 := (Below.refl W2.heap.size W2).alloc (Nat.le_refl _) (.cells #[.string sn, .string st, .int .i64 si] 89)
        have hwW2 : w.heap.size ≤ W2.heap.size := Nat.le_trans hwW hb2.size
        obtain ⟨A2, c2, W3, hr2, ho2, hg2⟩ := run_app (W2.alloc (.cells #[.string sn, .string st, .int .i64 si] 89)) W.heap.size _ k _ (ho1.alloc _) ⟨W2.heap.size, 0, none⟩ 1 1 [f] rfl (fun j u hu => by
          have hb := (Bk.new W2 89 #[.string sn, .string st, .int .i64 si]).cell j
          rw [add_new, hb]
          rw [show rflat [f] = rcells f from List.append_nil _, HRc.out] at hu
          simpa using hu) (by omega) (Nat.le_trans hb2.size hal2.size)
        have hb3 : Below W.heap.size W W3 := by
          have hbs2 := hb2.size
          refine (hb2.trans (hal2.mono hb2.size)).grown hg2 (Nat.le_trans hb2.size hal2.size) (fun j hj => ?_)
          exact (ho1.lt j hj).1
        have HR3 := Lib.hid (HR.out.below hb3)
        have b2 : W2.cell? ⟨b, 0, none⟩ = some (.string sn) := HX2.out.cell 0
        have b3 : W2.cell? ⟨b, 1, none⟩ = some (.string st) := HX2.out.cell 1
        have b4 : W2.cell? ⟨b, 2, none⟩ = some (.int .i64 si) := HX2.out.cell 2
        have HX3 := Lib.hid (HX2.out.below (hal2))
        have b5 : (W2.alloc (.cells #[.string sn, .string st, .int .i64 si] 89)).cell? ⟨b, 0, none⟩ = some (.string sn) := HX3.out.cell 0
        have r3 : W3.cell? ⟨r, 0, none⟩ = some (.slice (some ⟨g, 0, none⟩) F.length c) := HR3.out.box.cell 0
        have hk0 : (0 : Int) ≤ (k : Int) := by omega
        have hkc : (k : Int) ≤ (c : Int) := by omega
        have hbs2 := hb2.size
        have hw3 : W.heap.size ≤ W3.heap.size := hb3.size
        skip
        go_wp2_with (at_builtin; first | refine wpList_app rfl (.tmp 28) (.tmp 34) _ rfl _ _ _ _ rfl rfl hr1 ?_ | refine wpList_app rfl (.tmp 36) (.tmp 38) _ rfl _ _ _ _ rfl rfl hr2 ?_ | go_must (refine wpList_app3 rfl (.tmp 41) (.tmp 47) rfl rfl W.heap.size _ (k + 1) _ rfl ho2 hw3 ⟨g, k * 3, none⟩ (F.length - k) (c - k) (F.drop k) rfl (by rw [List.length_drop]) ?h1 (by omega) ?_))
        case h1 =>
          intro j u hu
          have := HR3.out.cells_behind hk j u hu
          rwa [Addr.add_lit]
        intro A3 c3 W4 ho3 hg3
        have hb4 : Below W.heap.size W W4 := hb3.grown hg3 hb3.size (fun j hj => (ho2.lt j hj).1)
        have hbx4 := HR.out.box.below hb4
        have r4 : W4.cell? ⟨r, 0, none⟩ = some (.slice (some ⟨g, 0, none⟩) F.length c) := hbx4.cell 0
        have f4 := hbx4.frozen 0
        have HFin : Hid (RThen Y w (W4.setCell ⟨r, 0, none⟩ (.slice A3 (k + 1 + (F.length - k)) c3)) r (put F f)) := Lib.hid (by
          have e : put F f = F.take k ++ f :: F.drop k := HPt.out
          have hl2 : (put F f).length = k + 1 + (F.length - k) := by
            rw [e, List.length_append, List.length_cons, List.length_take, List.length_drop]; omega
          rw [← hl2]
          refine rk_laid HW.out HR.out HLt.out hb4 ?_
          rw [hl2, e, rflat_app, rflat_cons]
          have := own_low ho3 hwW
          simpa [rflat_cons, rflat] using this)
        clear hb4 hbx4 ho3 hg3 ho2 hg2 ho1 hg1
        go_wp2_with fail
        exact bodyPost_end (v := .tuple #[]) (by simp [results, Try.results60]) rfl ⟨rfl, HFin.out⟩
    · have hkI : ¬ (k : Int) < (F.length : Int) := by omega
      have hkq : decide ((k : Int) < (F.length : Int)) = false := by simp; omega
      have hkq2 : decide (k < F.length) = false := by simp; omega
      obtain rfl : k = F.length := by omega
      have HPt := Lib.hid (put_at (f := f) (a := F.length) hk HLe.out (fun h => absurd h (by omega)))
      clear hlt
      obtain ⟨g, rfl⟩ := HA.out
      · go_wp2_with fail
        go_quiet (fail)
        rename_i nq
        by_cases hcl : c = F.length
        · subst hcl
          have hbl := below_drewN (below_drewN (Below.refl W1.heap.size W1) m) nq
          have HR := Lib.hid (H.out.below hbl)
          have HX := Lib.hid (HBx.out.below hbl)
          have HW := Lib.hid (HBe.out.trans (hbl.mono HBe.out.size))
          obtain ⟨W, hW⟩ : ∃ W, (W1.drewN m).drewN nq = W := ⟨_, rfl⟩
          rw [hW] at HR HX HW ⊢
          clear hW hbl c0 b0
          have hwW : w.heap.size ≤ W.heap.size := HW.out.size
          have r0 : W.cell? ⟨r, 0, none⟩ = some (.slice (some ⟨g, 0, none⟩) F.length F.length) := HR.out.box.cell 0
          have hal := (Below.refl W.heap.size W).alloc (Nat.le_refl _) (.cells #[] 89)
          have HR1 := Lib.hid (HR.out.below hal)
          have r1 : (W.alloc (.cells #[] 89)).cell? ⟨r, 0, none⟩ = some (.slice (some ⟨g, 0, none⟩) F.length F.length) := HR1.out.box.cell 0
          obtain ⟨A1, c1, W2, hr1, ho1, hg1⟩ := run_app (W.alloc (.cells #[] 89)) W.heap.size _ 0 [] (World.ownsRow_made W #[] 0 (Nat.le_refl _) (by unfold maxLen; omega) rfl) ⟨g, 0, none⟩ F.length F.length (F.take F.length) (by rw [List.length_take]; omega) HR1.out.cells_ahead (by omega) (by simp)
          rw [Nat.zero_add] at hr1 ho1
          rw [List.nil_append] at ho1
          have hb2 : Below W.heap.size W W2 := hal.grown hg1 (by simp) (fun j hj => by cases hj; exact Nat.le_refl _)
          have HR2 := Lib.hid (HR.out.below hb2)
          have HX2 := Lib.hid (HX.out.below hb2)
          have hal2 := (Below.refl W2.heap.size W2).alloc (Nat.le_refl _) (.cells #[.string sn, .string st, .int .i64 si] 89)
          have hwW2 : w.heap.size ≤ W2.heap.size := Nat.le_trans hwW hb2.size
          obtain ⟨A2, c2, W3, hr2, ho2, hg2⟩ := run_app (W2.alloc (.cells #[.string sn, .string st, .int .i64 si] 89)) W.heap.size _ F.length _ (ho1.alloc _) ⟨W2.heap.size, 0, none⟩ 1 1 [f] rfl (fun j u hu => by
            have hb := (Bk.new W2 89 #[.string sn, .string st, .int .i64 si]).cell j
            rw [add_new, hb]
            rw [show rflat [f] = rcells f from List.append_nil _, HRc.out] at hu
            simpa using hu) (by omega) (Nat.le_trans hb2.size hal2.size)
          have hb3 : Below W.heap.size W W3 := by
            have hbs2 := hb2.size
            refine (hb2.trans (hal2.mono hb2.size)).grown hg2 (Nat.le_trans hb2.size hal2.size) (fun j hj => ?_)
            exact (ho1.lt j hj).1
          have HR3 := Lib.hid (HR.out.below hb3)
          have b2 : W2.cell? ⟨b, 0, none⟩ = some (.string sn) := HX2.out.cell 0
          have b3 : W2.cell? ⟨b, 1, none⟩ = some (.string st) := HX2.out.cell 1
          have b4 : W2.cell? ⟨b, 2, none⟩ = some (.int .i64 si) := HX2.out.cell 2
          have HX3 := Lib.hid (HX2.out.below (hal2))
          have b5 : (W2.alloc (.cells #[.string sn, .string st, .int .i64 si] 89)).cell? ⟨b, 0, none⟩ = some (.string sn) := HX3.out.cell 0
          have r3 : W3.cell? ⟨r, 0, none⟩ = some (.slice (some ⟨g, 0, none⟩) F.length F.length) := HR3.out.box.cell 0
          have hk0 : (0 : Int) ≤ (F.length : Int) := by omega
          have hkc : (F.length : Int) ≤ (F.length : Int) := by omega
          have hbs2 := hb2.size
          have hw3 : W.heap.size ≤ W3.heap.size := hb3.size
          skip
          go_wp2_with (at_builtin; first | refine wpList_app rfl (.tmp 28) (.tmp 34) _ rfl _ _ _ _ rfl rfl hr1 ?_ | refine wpList_app rfl (.tmp 36) (.tmp 38) _ rfl _ _ _ _ rfl rfl hr2 ?_ | go_must (refine wpList_app3 rfl (.tmp 41) (.tmp 47) rfl rfl W.heap.size _ (F.length + 1) _ rfl ho2 hw3 ⟨g, 0, none⟩ 0 0 [] rfl rfl (fun j u hu => by simp [rflat] at hu) (by omega) ?_))
          intro A3 c3 W4 ho3 hg3
          have hb4 : Below W.heap.size W W4 := hb3.grown hg3 hb3.size (fun j hj => (ho2.lt j hj).1)
          have hbx4 := HR.out.box.below hb4
          have r4 : W4.cell? ⟨r, 0, none⟩ = some (.slice (some ⟨g, 0, none⟩) F.length F.length) := hbx4.cell 0
          have f4 := hbx4.frozen 0
          have HFin : Hid (RThen Y w (W4.setCell ⟨r, 0, none⟩ (.slice A3 (F.length + 1 + 0) c3)) r (put F f)) := Lib.hid (by
            have e : put F f = F.take F.length ++ f :: F.drop F.length := HPt.out
            have hl2 : (put F f).length = F.length + 1 + 0 := by
              rw [e, List.length_append, List.length_cons, List.length_take, List.length_drop]; omega
            rw [← hl2]
            refine rk_laid HW.out HR.out HLt.out hb4 ?_
            rw [hl2, e, rflat_app, rflat_cons]
            have := own_low ho3 hwW
            simpa [rflat_cons, rflat] using this)
          clear hb4 hbx4 ho3 hg3 ho2 hg2 ho1 hg1
          go_wp2_with fail
          exact bodyPost_end (v := .tuple #[]) (by simp [results, Try.results60]) rfl ⟨rfl, HFin.out⟩
        · have hcl2 : ¬ (c : Int) = (F.length : Int) := by omega
          have hbl := below_drewN (below_drewN (Below.refl W1.heap.size W1) m) nq
          have HR := Lib.hid (H.out.below hbl)
          have HX := Lib.hid (HBx.out.below hbl)
          have HW := Lib.hid (HBe.out.trans (hbl.mono HBe.out.size))
          obtain ⟨W, hW⟩ : ∃ W, (W1.drewN m).drewN nq = W := ⟨_, rfl⟩
          rw [hW] at HR HX HW ⊢
          clear hW hbl c0 b0
          have hwW : w.heap.size ≤ W.heap.size := HW.out.size
          have r0 : W.cell? ⟨r, 0, none⟩ = some (.slice (some ⟨g, 0, none⟩) F.length c) := HR.out.box.cell 0
          have hal := (Below.refl W.heap.size W).alloc (Nat.le_refl _) (.cells #[] 89)
          have HR1 := Lib.hid (HR.out.below hal)
          have r1 : (W.alloc (.cells #[] 89)).cell? ⟨r, 0, none⟩ = some (.slice (some ⟨g, 0, none⟩) F.length c) := HR1.out.box.cell 0
          obtain ⟨A1, c1, W2, hr1, ho1, hg1⟩ := run_app (W.alloc (.cells #[] 89)) W.heap.size _ 0 [] (World.ownsRow_made W #[] 0 (Nat.le_refl _) (by unfold maxLen; omega) rfl) ⟨g, 0, none⟩ F.length c (F.take F.length) (by rw [List.length_take]; omega) HR1.out.cells_ahead (by omega) (by simp)
          rw [Nat.zero_add] at hr1 ho1
          rw [List.nil_append] at ho1
          have hb2 : Below W.heap.size W W2 := hal.grown hg1 (by simp) (fun j hj => by cases hj; exact Nat.le_refl _)
          have HR2 := Lib.hid (HR.out.below hb2)
          have HX2 := Lib.hid (HX.out.below hb2)
          have hal2 := (Below.refl W2.heap.size W2).alloc (Nat.le_refl _) (.cells #[.string sn, .string st, .int .i64 si] 89)
          have hwW2 : w.heap.size ≤ W2.heap.size := Nat.le_trans hwW hb2.size
          obtain ⟨A2, c2, W3, hr2, ho2, hg2⟩ := run_app (W2.alloc (.cells #[.string sn, .string st, .int .i64 si] 89)) W.heap.size _ F.length _ (ho1.alloc _) ⟨W2.heap.size, 0, none⟩ 1 1 [f] rfl (fun j u hu => by
            have hb := (Bk.new W2 89 #[.string sn, .string st, .int .i64 si]).cell j
            rw [add_new, hb]
            rw [show rflat [f] = rcells f from List.append_nil _, HRc.out] at hu
            simpa using hu) (by omega) (Nat.le_trans hb2.size hal2.size)
          have hb3 : Below W.heap.size W W3 := by
            have hbs2 := hb2.size
            refine (hb2.trans (hal2.mono hb2.size)).grown hg2 (Nat.le_trans hb2.size hal2.size) (fun j hj => ?_)
            exact (ho1.lt j hj).1
          have HR3 := Lib.hid (HR.out.below hb3)
          have b2 : W2.cell? ⟨b, 0, none⟩ = some (.string sn) := HX2.out.cell 0
          have b3 : W2.cell? ⟨b, 1, none⟩ = some (.string st) := HX2.out.cell 1
          have b4 : W2.cell? ⟨b, 2, none⟩ = some (.int .i64 si) := HX2.out.cell 2
          have HX3 := Lib.hid (HX2.out.below (hal2))
          have b5 : (W2.alloc (.cells #[.string sn, .string st, .int .i64 si] 89)).cell? ⟨b, 0, none⟩ = some (.string sn) := HX3.out.cell 0
          have r3 : W3.cell? ⟨r, 0, none⟩ = some (.slice (some ⟨g, 0, none⟩) F.length c) := HR3.out.box.cell 0
          have hk0 : (0 : Int) ≤ (F.length : Int) := by omega
          have hkc : (F.length : Int) ≤ (c : Int) := by omega
          have hbs2 := hb2.size
          have hw3 : W.heap.size ≤ W3.heap.size := hb3.size
          skip
          go_wp2_with (at_builtin; first | refine wpList_app rfl (.tmp 28) (.tmp 34) _ rfl _ _ _ _ rfl rfl hr1 ?_ | refine wpList_app rfl (.tmp 36) (.tmp 38) _ rfl _ _ _ _ rfl rfl hr2 ?_ | go_must (refine wpList_app3 rfl (.tmp 41) (.tmp 47) rfl rfl W.heap.size _ (F.length + 1) _ rfl ho2 hw3 ⟨g, F.length * 3, none⟩ 0 (c - F.length) [] rfl rfl (fun j u hu => by simp [rflat] at hu) (by omega) ?_))
          intro A3 c3 W4 ho3 hg3
          have hb4 : Below W.heap.size W W4 := hb3.grown hg3 hb3.size (fun j hj => (ho2.lt j hj).1)
          have hbx4 := HR.out.box.below hb4
          have r4 : W4.cell? ⟨r, 0, none⟩ = some (.slice (some ⟨g, 0, none⟩) F.length c) := hbx4.cell 0
          have f4 := hbx4.frozen 0
          have HFin : Hid (RThen Y w (W4.setCell ⟨r, 0, none⟩ (.slice A3 (F.length + 1 + 0) c3)) r (put F f)) := Lib.hid (by
            have e : put F f = F.take F.length ++ f :: F.drop F.length := HPt.out
            have hl2 : (put F f).length = F.length + 1 + 0 := by
              rw [e, List.length_append, List.length_cons, List.length_take, List.length_drop]; omega
            rw [← hl2]
            refine rk_laid HW.out HR.out HLt.out hb4 ?_
            rw [hl2, e, rflat_app, rflat_cons]
            have := own_low ho3 hwW
            simpa [rflat_cons, rflat] using this)
          clear hb4 hbx4 ho3 hg3 ho2 hg2 ho1 hg1
          go_wp2_with fail
          exact bodyPost_end (v := .tuple #[]) (by simp [results, Try.results60]) rfl ⟨rfl, HFin.out⟩
theorem put_is (f : Fl) (hl : F.length ≤ 1000) (h : RkAt w Y r F A c) :
    Calls Try.prog 60 #[.pointer (some ⟨r, 0, none⟩), .agg #[.string (str f.n), .string (str f.t), .int .i64 (f.s : Int)]] w fun e w' => e = .returned (.tuple #[]) ∧ RThen Y w w' r (put F f) := by
  rcases h.row.2 with ⟨hv, hn⟩ | ⟨g, cap, cur, hv, _⟩
  · injection hv with e1 e2 e3
    subst e1 e3
    obtain rfl : F = [] := List.eq_nil_of_length_eq_zero hn
    exact put_nil f h
  · injection hv with e1 e2 e3
    exact put_some f ⟨g, e1⟩ hl h
end
end Go.Proofs.Ytgimecgdfcckbaa.Dsk
