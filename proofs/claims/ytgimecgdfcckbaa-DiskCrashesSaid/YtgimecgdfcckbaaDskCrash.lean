/- Package disk: Names, Size, Off, Crash. -/
import Derived.Test.YtgimecgdfcckbaaDskNew
namespace Go.Proofs.Ytgimecgdfcckbaa.Dsk
open Go.RowKit Go.Lib Go.Maps

set_option maxRecDepth 100000 in
set_option maxHeartbeats 2000000 in
theorem Names_off (w : World) (X : Nat → Prop) (d : Nat) (F : List Fl) (l : Int) (h : Dk w X d F l true) :
    Calls Try.prog 17 #[.pointer (some ⟨d, 0, none⟩)] w fun e w' => e = .returned (.tuple #[.slice none 0 0, .int .i64 10]) ∧ w' = w := by
  obtain ⟨mv, bx, vl, hk⟩ := h
  have c2 := hk.disk.cell 2
  simp at c2
  clear hk
  go_enter Try.func17, Try.ntmps17
  go_wp2
  go_ret2
  exact ⟨rfl, rfl⟩
set_option maxRecDepth 100000 in
set_option maxHeartbeats 2000000 in
theorem Names_on (w : World) (X : Nat → Prop) (d : Nat) (F : List Fl) (l : Int) (h : Dk w X d F l false) :
    Calls Try.prog 17 #[.pointer (some ⟨d, 0, none⟩)] w fun e w' => (∃ A c, e = .returned (.tuple #[.slice A F.length c, .int .i64 0])) ∧ Below w.heap.size w w' := by
  obtain ⟨mv, bx, vl, hk⟩ := h
  have c2 := hk.disk.cell 2
  simp at c2
  have HS := Lib.hid (sorted_is hk)
  clear hk
  go_enter Try.func17, Try.ntmps17
  go_wp2_with fail
  refine HS.out.mono ?_
  rintro e w1 ⟨A, c, rfl, _, hb⟩
  go_wp2_with fail
  go_ret2
  exact ⟨⟨A, c, rfl⟩, hb⟩
set_option maxRecDepth 100000 in
set_option maxHeartbeats 2000000 in
theorem Size_is (w : World) (X : Nat → Prop) (d : Nat) (F : List Fl) (l : Int) (f : Fl) (hf : f ∈ F) (hn : f.n.length ≤ 140737488351232) (h : Dk w X d F l false) :
    Calls Try.prog 21 #[.pointer (some ⟨d, 0, none⟩), .string (str f.n)] w fun e w' => e = .returned (.tuple #[.int .i64 (f.t.length : Int), .int .i64 0]) ∧ w' = w := by
  obtain ⟨mv, bx, vl, hk⟩ := h
  have HLk := Lib.hid (look_is f.n _ hn hk rfl)
  have HV : Hid (lookV false F bx f.n = .iface 49 (.pointer (some ⟨bx f.n, 0, none⟩))) := Lib.hid (by unfold lookV; rw [look_of hk.good.sorted hf rfl]; rfl)
  rw [HV.out] at HLk
  obtain ⟨A, c, b0⟩ := hk.slice hf
  have haf := fun W => as_file (.pointer (some ⟨bx f.n, 0, none⟩)) W
  clear hk hf HV
  generalize bx f.n = b at HLk b0 haf
  generalize str f.n = sn at HLk
  go_enter Try.func21, Try.ntmps21
  go_wp2_with fail
  refine HLk.out.mono ?_
  rintro e w1 ⟨rfl, rfl⟩
  clear HLk
  go_wp2_with fail
  go_ret2
  exact ⟨rfl, rfl⟩
set_option maxRecDepth 100000 in
set_option maxHeartbeats 2000000 in
theorem Off_is (w : World) (X : Nat → Prop) (d : Nat) (F : List Fl) (n : Int) (h : Dk w X d F 0 false) :
    Calls Try.prog 20 #[.pointer (some ⟨d, 0, none⟩), .int .i64 n] w fun e w' => e = .returned (.tuple #[]) ∧ Dk w' X d F (if n < 1 then 0 else n) (decide (n < 1)) ∧ Chg X w w' := by
  obtain ⟨mv, bx, vl, hk⟩ := h
  have c1 := hk.disk.cell 1
  simp at c1
  have f1 := hk.disk.frozen 1
  have c2 := hk.disk.cell 2
  simp at c2
  have f2 := hk.disk.frozen 2
  have HK := Lib.hid hk
  clear hk
  by_cases h1 : n < 1
  · have q1 : decide (n < 1) = true := by simpa using h1
    have H1 := Lib.hid h1
    rw [if_pos h1, q1]
    clear h1
    go_enter Try.func20, Try.ntmps20
    go_wp2
    try simp only [Exit.inBlock, Exit.then]
    refine bodyPost_ret (v := .tuple #[]) (by simp [results, Try.results20]) rfl ⟨rfl, ⟨_, _, _, HK.out.setOff true⟩, Chg.of_grown (X := X) (grown_setCell w d 2 _) (fun k hk => by cases hk; exact HK.out.inX)⟩
  · have q1 : decide (n < 1) = false := by simpa using h1
    rw [if_neg h1, q1]
    clear h1
    go_enter Try.func20, Try.ntmps20
    go_wp2
    refine bodyPost_end (v := .tuple #[]) (by simp [results, Try.results20]) rfl ⟨rfl, ⟨_, _, _, HK.out.setLeft n⟩, Chg.of_grown (X := X) (grown_setCell w d 1 _) (fun k hk => by cases hk; exact HK.out.inX)⟩

/-! ### Crash -/
theorem info_string : (Try.prog.info? 9).map (fun i => (i.zero, i.size, i.bytes)) = some (some (.string ⟨#[]⟩), 1, 16) := by kernel_rfl
theorem crash_len (F : List Fl) (ps : List Int) : (crashT F ps).length = F.length := by unfold crashT; rw [List.length_mapIdx]
theorem crash_take (F : List Fl) (ps : List Int) (k : Nat) (hk : k < F.length) : (crashT F ps).take k ++ [keptT F[k] (ps.getD k 0)] = (crashT F ps).take (k + 1) := by
  have hk2 : k < (crashT F ps).length := by rw [crash_len]; exact hk
  rw [List.take_add_one, List.getElem?_eq_getElem hk2]
  congr 1
  have : (crashT F ps)[k] = keptT F[k] (ps.getD k 0) := List.getElem_mapIdx
  rw [this]; rfl
theorem look_run1 {w : World} {X : Nat → Prop} {d : Nat} {F : List Fl} {l : Int} {off : Bool} {mv : Value} {bx : List UInt8 → Nat} {vl : List UInt8 → Value} (h : DkAt w X d F l off mv bx vl) {f : Fl} (hf : f ∈ F) :
    (Instr.lookup 46 mv (.string (str f.n)) false).run Try.prog w = .ok (.pointer (some ⟨bx f.n, 0, none⟩)) w := by
  have hn := (name_len (h.good.name f hf)).2
  have hk := key_str (x := f.n) (by unfold maxLen; omega)
  rcases h.map with ⟨_, e⟩ | ⟨m, D, rfl, _, hi⟩
  · rw [e] at hf; cases hf
  · obtain ⟨v, ps, hrun, hv⟩ := hi.own.lookup keyed Try.underlying46 (zero_ptr w) ptrR_nil hk
    rw [hrun]
    rw [hi.at_ f hf] at hv
    rw [ptr_is hv]
/-- What a crash tells: names and texts, in rows of the call's own; the disk is off. -/
def GivesCrash (X : Nat → Prop) (d : Nat) (F : List Fl) (l : Int) (ps : List Int) (w : World) (e : Ending) (w' : World) : Prop :=
  ∃ A c B c', e = .returned (.tuple #[.slice A F.length c, .slice B F.length c']) ∧ w'.ownsRow w.heap.size 9 1 (.slice A F.length c) F.length (strs (names F)) ∧
    w'.ownsRow w.heap.size 9 1 (.slice B F.length c') F.length (strs (crashT F ps)) ∧ Dk w' X d F l true ∧ Chg X w w'

set_option maxRecDepth 100000 in
set_option maxHeartbeats 8000000 in
theorem Crash_is (w : World) (X : Nat → Prop) (d : Nat) (F : List Fl) (l : Int) (off : Bool) (P : Option Addr) (cp : Nat) (ps : List Int) (h : Dk w X d F l off) (hps : Nums w w.heap.size .i64 P ps) (hpx : ∀ a, P = some a → 0 < ps.length → ¬ X a.block) (hpl : ps.length ≤ 100000000) :
    Calls Try.prog 16 #[.pointer (some ⟨d, 0, none⟩), .slice P ps.length cp] w fun e w' => GivesCrash X d F l ps w e w' := by
  obtain ⟨i0, hi, hz0, hz1, hz2⟩ := info_parts info_string
  obtain ⟨mv, bx, vl, hk⟩ := h
  have c2 := hk.disk.cell 2
  simp at c2
  have f2 := hk.disk.frozen 2
  have hk1 := hk.setOff true
  have hg1 := grown_setCell w d 2 (.bool true)
  have hps1 : Nums (w.setCell ⟨d, 2, none⟩ (.bool true)) w.heap.size .i64 P ps := by
    rcases hps with e | ⟨a, e1, e2, e3⟩
    · exact .inl e
    · refine .inr ⟨a, e1, e2, fun j hj => ?_⟩
      have hb : (a.add j).block = a.block := add_block a j
      have hne : (a.add j).block ≠ d := fun e => hpx a e1 (by omega) (by rw [← hb, e]; exact hk.inX)
      rw [World.cell?_of_block (w := w) (Below.heap_setCell w ⟨d, 2, none⟩ (.bool true) _ hne)]
      exact e3 j hj
  obtain ⟨w1, hw1⟩ : ∃ w1, w.setCell ⟨d, 2, none⟩ (.bool true) = w1 := ⟨_, rfl⟩
  rw [hw1] at hk1 hg1 hps1
  have hsz1 : w1.heap.size = w.heap.size := by rw [← hw1]; simp [World.setCell]
  have HS := Lib.hid (sorted_is hk1)
  have HK1 := Lib.hid hk1
  have HC1 := Lib.hid (Chg.of_grown (X := X) hg1 (fun k hk' => by cases hk'; exact hk.inX))
  have HPS := Lib.hid hps1
  have HW1 := Lib.hid hw1
  have hf64 := hk.good.few
  clear hps hpx hk hk1 hg1 hps1 hw1
  go_enter Try.func16, Try.ntmps16
  go_upto_region 2 with fail
  rw [HW1.out]
  go_wp2_with fail
  refine HS.out.mono ?_
  rintro e w2 ⟨A, c, rfl, hown, hb2⟩
  have HK2 := Lib.hid (HK1.out.below hb2)
  have HO2 := Lib.hid (own_low hown (Nat.le_of_eq hsz1.symm))
  have HB2 := Lib.hid hb2
  have HP2 := Lib.hid (HPS.out.below (hb2.mono (Nat.le_of_eq hsz1.symm)))
  have hsz2 : w.heap.size ≤ w2.heap.size := by have := hb2.size; omega
  have HCr := Lib.hid (crash_len F ps)
  have HNl := Lib.hid (names_len F)
  clear hown hb2 HS HPS HK1 c2 f2
  obtain ⟨n, hn⟩ : ∃ n, F.length = n := ⟨_, rfl⟩
  have HNN := Lib.hid hn
  rw [hn] at hf64 HO2 HCr HNl ⊢
  clear hn
  go_wp2_with fail
  go_loopw [5, 16] (fun v i wr => ∃ k : Nat, k ≤ n ∧ i = .int .i64 (k : Int) ∧ wr.ownsRow w2.heap.size 9 1 v k (strs ((crashT F ps).take k)) ∧ Below w2.heap.size w2 wr) (fun _ i _ => n - (RowKit.intOf i).toNat)
  case atStart => exact ⟨0, Nat.zero_le _, rfl, World.ownsRow_nil _ _ _ _, Below.refl _ _⟩
  case round =>
    obtain ⟨k, hk, rfl, hown, hb⟩ := hrel
    have HOw := Lib.hid hown
    have HB := Lib.hid hb
    have HK := Lib.hid (HK2.out.below hb)
    have hBr := hb.size
    clear hown hb
    by_cases hlt : k < n
    · have hkF : k < F.length := by rw [HNN.out]; exact hlt
      have hfm := List.getElem_mem hkF
      have HTk := Lib.hid (crash_take F ps k hkF)
      have HPk : Hid (∀ h : k < ps.length, ∃ a, P = some a ∧ wr.cell? (a.add k) = some (.int .i64 (ps.getD k 0))) := Lib.hid fun h => by
        obtain ⟨a, e1, e2, e3⟩ := HP2.out.some_ (by omega)
        exact ⟨a, e1, (HB.out.cell (p := a.add k) (by rw [add_block]; omega)).trans (e3 k h)⟩
      have hc0 := HK.out.disk.cell 0
      simp at hc0
      have hlk := look_run1 HK.out hfm
      obtain ⟨A1, k1, b0⟩ := HK.out.slice hfm
      have hfl := HK.out.file _ hfm
      have b1 := hfl.box.cell 1
      simp at b1
      have hrow := hfl.row
      have hvl : vl F[k].n = .slice A1 F[k].t.length k1 := by
        have := hfl.box.cell 0
        rw [b0] at this
        simp at this
        exact this.symm
      rw [hvl] at hrow
      have hsm := HK.out.good.small _ hfm
      have hsf := HK.out.good.safe _ hfm
      have HKp := Lib.hid (fun p => kept_is (bx F[k].n) F[k].s F[k].t.length p A1 k1 F[k].t wr hsf rfl (by omega) hrow b0 b1)
      -- the name, out of the row of names
      have hrowN := own_kept0 HO2.out (grown_of_below HB.out) (fun _ _ => by simp)
      obtain ⟨g, rfl, hg⟩ := own1_addr hrowN (by omega)
      have hkn : k < (names F).length := by rw [HNl.out]; exact hlt
      have hnk : (names F)[k] = F[k].n := by simp [names]
      have cn : wr.cell? ⟨g, k, none⟩ = some (.string (str F[k].n)) := by
        rw [hrowN.cellAt k (by omega)]
        unfold strs
        rw [List.getElem?_map, List.getElem?_eq_getElem hkn, hnk]; rfl
      have hkI : (k : Int) < (n : Int) := by omega
      clear hfl b0 b1 hrow hvl hsm hsf hrowN hkn hnk hfm
      have HKk : Hid (∀ p, keptT F[k] p = F[k].t.take (F[k].s + min p.toNat (F[k].t.length - F[k].s))) := Lib.hid fun _ => rfl
      generalize F[k] = f at hlk HKp cn HTk HKk
      generalize bx f.n = bf at hlk HKp
      generalize str f.n = sn at hlk cn
      by_cases hp : k < ps.length
      · obtain ⟨a, rfl, cpk⟩ := HPk.out hp
        have hpI : (k : Int) < (ps.length : Int) := by omega
        have hq : decide ((k : Int) < (ps.length : Int)) = true := by simp; omega
        generalize ps.getD k 0 = p at cpk HTk
        have HKq := Lib.hid (HKp.out p)
        rw [← HKk.out p] at HKq
        clear HKp HKk HPk hp
        generalize keptT f p = tt at HKq HTk
        go_wp2_with fail
        refine HKq.out.mono ?_
        rintro e w3 ⟨rfl, hb3⟩
        have hown3 := own_kept0 HOw.out (grown_of_below hb3) (fun _ _ => by simp)
        have HB3 := Lib.hid (HB.out.trans (hb3.mono hBr))
        have hB3 := HB3.out.size
        clear hb3 HOw HKq
        go_wp2_with (at_builtin; refine wpList_append_own _ rfl _ _ 22 rfl w2.heap.size 9 i0 (.string ⟨#[]⟩) 1 16 Try.underlying22 hi hz0 hz1 hz2 rfl (by decide) _ _ _ rfl (hown3.alloc _) ⟨w3.heap.size, 0, none⟩ 1 1 [.string (str tt)] rfl rfl ?c1 ?c2 ?c3 ?c4 ?c5 ?_)
        case c1 => exact cell_one_new _ _ _
        case c2 => intro u hu; simp at hu; subst hu; rfl
        case c3 => unfold maxLen; omega
        case c4 => first | omega | (simp; omega)
        case c5 => simp; omega
        intro v' w4 hown' hgrow _
        have HN := Lib.hid (HB3.out.trans (below_alloc_grown hB3 hown3 hgrow))
        have HO := Lib.hid hown'
        clear hown' hgrow hown3
        go_wp2_with fail
        go_roundw
        case rel =>
          refine ⟨k + 1, hlt, by go_num, ?_, HN.out⟩
          rw [← HTk.out, strs_snoc]
          exact HO.out
        case measure => simp [RowKit.intOf]; omega
      · have hpI : ¬ (k : Int) < (ps.length : Int) := by omega
        have hq : decide ((k : Int) < (ps.length : Int)) = false := by simp; omega
        have e0 : ps.getD k 0 = 0 := by rw [List.getD_eq_getElem?_getD, List.getElem?_eq_none (by omega)]; rfl
        rw [e0] at HTk
        have HKq := Lib.hid (HKp.out 0)
        rw [← HKk.out 0] at HKq
        clear HKp HKk HPk hp e0
        generalize keptT f 0 = tt at HKq HTk
        go_wp2_with fail
        refine HKq.out.mono ?_
        rintro e w3 ⟨rfl, hb3⟩
        have hown3 := own_kept0 HOw.out (grown_of_below hb3) (fun _ _ => by simp)
        have HB3 := Lib.hid (HB.out.trans (hb3.mono hBr))
        have hB3 := HB3.out.size
        clear hb3 HOw HKq
        go_wp2_with (at_builtin; refine wpList_append_own _ rfl _ _ 22 rfl w2.heap.size 9 i0 (.string ⟨#[]⟩) 1 16 Try.underlying22 hi hz0 hz1 hz2 rfl (by decide) _ _ _ rfl (hown3.alloc _) ⟨w3.heap.size, 0, none⟩ 1 1 [.string (str tt)] rfl rfl ?c1 ?c2 ?c3 ?c4 ?c5 ?_)
        case c1 => exact cell_one_new _ _ _
        case c2 => intro u hu; simp at hu; subst hu; rfl
        case c3 => unfold maxLen; omega
        case c4 => first | omega | (simp; omega)
        case c5 => simp; omega
        intro v' w4 hown' hgrow _
        have HN := Lib.hid (HB3.out.trans (below_alloc_grown hB3 hown3 hgrow))
        have HO := Lib.hid hown'
        clear hown' hgrow hown3
        go_wp2_with fail
        go_roundw
        case rel =>
          refine ⟨k + 1, hlt, by go_num, ?_, HN.out⟩
          rw [← HTk.out, strs_snoc]
          exact HO.out
        case measure => simp [RowKit.intOf]; omega
    · obtain rfl : k = n := by omega
      have hown := HOw.out
      rw [List.take_of_length_le (Nat.le_of_eq HCr.out)] at hown
      obtain ⟨B', cb, rfl⟩ := own_any hown
      have HO := Lib.hid (own_low hown hsz2)
      have hrowN := Lib.hid (own_kept0 HO2.out (grown_of_below HB.out) (fun _ _ => by simp))
      clear hown
      go_wp2_with fail
      go_ret2
      unfold GivesCrash
      rw [HNN.out]
      exact ⟨A, c, B', cb, rfl, hrowN.out, HO.out, ⟨_, _, _, HK.out⟩, (HC1.out.trans (Chg.of_below HB2.out) fun _ h => .inl h).trans (Chg.of_below HB.out) fun _ h => .inl h⟩
end Go.Proofs.Ytgimecgdfcckbaa.Dsk
