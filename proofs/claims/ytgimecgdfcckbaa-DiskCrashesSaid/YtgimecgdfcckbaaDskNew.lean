/- Package disk: New. -/
import Derived.Test.YtgimecgdfcckbaaDskRen
namespace Go.Proofs.Ytgimecgdfcckbaa.Dsk
open Go.RowKit Go.Lib Go.Maps

theorem mayStep_eq {F : List Fl} {n t : List UInt8} (hl : look F n = none) : mayStep F n t = decide (appE F n t = 0) := by
  unfold mayStep appE fullB
  rw [hl]
  cases h1 : nameB n
  · simp
  · cases h2 : roomB F 0 t.length
    · simp
    · by_cases h3 : F.length < 64
      · have : ¬ 64 ≤ F.length := by omega
        simp [h3, this]
      · have : 64 ≤ F.length := by omega
        simp [h3, this]
theorem mayStep_some {F : List Fl} {f : Fl} {n t : List UInt8} (hl : look F n = some f) : mayStep F n t = false := by
  unfold mayStep
  rw [hl]; simp
theorem edit_put {F : List Fl} {f : Fl} {h : Fl → Fl} (hn : ∀ g ∈ F, g.n ≠ f.n) (he : (h f).n = f.n) : edit (put F f) f.n h = put F (h f) := by
  induction F with
  | nil => simp [put, edit]
  | cons a r ih =>
    have ha := hn a (by simp)
    have hr := fun g hg => hn g (List.mem_cons_of_mem _ hg)
    unfold put
    rw [he]
    split
    · rw [edit_cons, if_neg ha, ih hr]
    · rw [edit_cons, if_pos rfl, edit_cons, if_neg ha, edit_out hr]
theorem step_put {F : List Fl} {n t : List UInt8} (hl : look F n = none) (h0 : appE F n t = 0) : syncE (appF F n t) n = 0 ∧ syncF (appF F n t) n = put F ⟨n, t, t.length⟩ := by
  have e : appF F n t = put F ⟨n, t, 0⟩ := by unfold appF; rw [if_pos h0, hl]
  rw [e]
  have hn := look_none hl
  constructor
  · unfold syncE
    cases hk : look (put F ⟨n, t, 0⟩) n with
    | none => exact absurd rfl (look_none hk ⟨n, t, 0⟩ (mem_put.2 (.inl rfl)))
    | some f => rfl
  · unfold syncF
    exact edit_put (f := ⟨n, t, 0⟩) (h := fun f => ⟨f.n, f.t, f.t.length⟩) hn rfl
theorem may_cons (F : List Fl) (n t : List UInt8) (ns ts : List (List UInt8)) : mayFrom F (n :: ns) (t :: ts) = (mayStep F n t && mayFrom (put F ⟨n, t, t.length⟩) ns ts) := rfl
theorem new_cons (F : List Fl) (n t : List UInt8) (ns ts : List (List UInt8)) : newFrom F (n :: ns) (t :: ts) = newFrom (put F ⟨n, t, t.length⟩) ns ts := rfl
theorem may_len : ∀ (F : List Fl) (ns ts : List (List UInt8)), mayFrom F ns ts = true → ns.length = ts.length
  | _, [], [], _ => rfl
  | F, n :: ns, t :: ts, h => by
    rw [may_cons, Bool.and_eq_true] at h
    simp [may_len _ ns ts h.2]
  | _, [], _ :: _, h => by cases h
  | _, _ :: _, [], h => by cases h
theorem drop_at {α : Type} {l : List α} {k : Nat} (h : k < l.length) : l.drop k = l[k] :: l.drop (k + 1) := List.drop_eq_getElem_cons h

/-- What New tells. -/
def GivesNew (b : Bool) (R : List Fl) (w : World) (e : Ending) (w' : World) : Prop :=
  Below w.heap.size w w' ∧ (b = false → e = .returned (.tuple #[.pointer none, .int .i64 1])) ∧
    (b = true → ∃ d X, e = .returned (.tuple #[.pointer (some ⟨d, 0, none⟩), .int .i64 0]) ∧ Dk w' X d R 0 false ∧ ∀ k, X k → w.heap.size ≤ k)
theorem dk_new (w : World) : Dk (w.alloc (.cells #[.map none, .int .i64 0, .bool false] 48)) (fun k => k = w.heap.size) w.heap.size [] 0 false :=
  ⟨.map none, fun _ => 0, fun _ => .pointer none, ⟨good_none, Bk.new w _ _, rfl, .inl ⟨rfl, rfl⟩, fun f hf => (by cases hf), fun f hf => (by cases hf), fun k hk => (by have hk : k = w.heap.size := hk; rw [hk]; simp)⟩⟩

set_option maxRecDepth 100000 in
set_option maxHeartbeats 8000000 in
theorem New_is (ns ts : List (List UInt8)) (A B : Option Addr) (c c' : Nat) (b : Bool) (R : List Fl) (w : World) (hA : Strs w w.heap.size A ns) (hB : Strs w w.heap.size B ts) (hn : ∀ x ∈ ns, x.length ≤ 140737488351232) (ht : ∀ x ∈ ts, x.length ≤ 140737488351232)
    (hln : ns.length ≤ 1000000) (hlt : ts.length ≤ 1000000) (hb : mayFrom [] ns ts = b) (hR : newF ns ts = R) :
    Calls Try.prog 11 #[.slice A ns.length c, .slice B ts.length c'] w fun e w' => GivesNew b R w e w' := by
  have HA := Lib.hid hA
  have HB := Lib.hid hB
  have HN := Lib.hid hn
  have HT := Lib.hid ht
  have HBb := Lib.hid hb
  have HR := Lib.hid hR
  clear hA hB hn ht hb hR
  by_cases hle : ns.length = ts.length
  · have hq : ((ns.length : Int) == (ts.length : Int)) = true := by simp; omega
    have hq2 : ((ns.length : Int) != (ts.length : Int)) = false := by simp; omega
    have HLe := Lib.hid hle
    have HD0 := Lib.hid (dk_new w)
    have hbl : Below w.heap.size w (w.alloc (.cells #[.map none, .int .i64 0, .bool false] 48)) := (Below.refl _ w).alloc (Nat.le_refl _) _
    have HL0 := Lib.hid hbl
    clear hle hbl
    go_enter Try.func11, Try.ntmps11
    go_upto_region 4 with fail
    obtain ⟨d, hd⟩ : ∃ d, w.heap.size = d := ⟨_, rfl⟩
    have HDD := Lib.hid hd
    obtain ⟨W0, hW⟩ : ∃ W0, w.alloc (.cells #[.map none, .int .i64 0, .bool false] 48) = W0 := ⟨_, rfl⟩
    rw [hW] at HD0 HL0 ⊢
    have HX0 : Hid (∃ X, Dk W0 X d [] 0 false ∧ ∀ k, X k → w.heap.size ≤ k) := Lib.hid ⟨_, hd ▸ HD0.out, fun k hk => by have hk : k = d := hk; omega⟩
    rw [hd]
    clear hW hd hq HD0
    go_wp2_with fail
    go_loopw [20] (fun i wr => ∃ (k : Nat) (F : List Fl) (X : Nat → Prop), k ≤ ns.length ∧ i = .int .i64 (k : Int) ∧ Dk wr X d F 0 false ∧ (∀ j, X j → w.heap.size ≤ j) ∧ mayFrom F (ns.drop k) (ts.drop k) = b ∧ newFrom F (ns.drop k) (ts.drop k) = R ∧ Below w.heap.size w wr) (fun i _ => ns.length - (RowKit.intOf i).toNat)
    case atStart =>
      obtain ⟨X, h1, h2⟩ := HX0.out
      exact ⟨0, [], X, Nat.zero_le _, rfl, h1, h2, HBb.out, HR.out, HL0.out⟩
    case round =>
      obtain ⟨k, F, X, hk, rfl, hdk, hX, hmb, hmr, hbe⟩ := hrel
      have HDk := Lib.hid hdk
      have HX := Lib.hid hX
      have HBe := Lib.hid hbe
      clear hdk hX hbe HL0 HX0
      by_cases hlk : k < ns.length
      · have hkt : k < ts.length := by rw [← HLe.out]; exact hlk
        obtain ⟨g, hgA, hgB, hgc⟩ := (HA.out.below HBe.out).some_ (by omega)
        obtain ⟨g', hgA', hgB', hgc'⟩ := (HB.out.below HBe.out).some_ (by omega)
        have c1 := hgc k hlk
        have c2 := hgc' k hkt
        rw [List.getD_eq_getElem?_getD, List.getElem?_eq_getElem hlk] at c1
        rw [List.getD_eq_getElem?_getD, List.getElem?_eq_getElem hkt] at c2
        simp only [Option.getD_some] at c1 c2
        have hxn := HN.out _ (List.getElem_mem hlk)
        have hxt := HT.out _ (List.getElem_mem hkt)
        rw [drop_at hlk, drop_at hkt] at hmb hmr
        generalize ns[k] = n at c1 hxn hmb hmr
        generalize ts[k] = t at c2 hxt hmb hmr
        rw [may_cons] at hmb
        rw [new_cons] at hmr
        subst hgA hgA'
        have hkI : (k : Int) < (ns.length : Int) := by omega
        have hkI2 : (k : Int) < (ts.length : Int) := by omega
        obtain ⟨mv, bx, vl, hat⟩ := HDk.out
        have HLk := Lib.hid (look_is n _ hxn hat rfl)
        have HAp := Lib.hid (Append_on wr X d F n t 0 false (appE F n t) (appF F n t) (by omega) hxn hxt HDk.out rfl rfl rfl)
        have HSy := Lib.hid (fun w1 X1 (h : Dk w1 X1 d (appF F n t) 0 false) => Sync_is w1 X1 d (appF F n t) n _ _ hxn h rfl rfl)
        have hat' := hat
        clear hat hgc hgc' hlk hkt
        cases hl : look F n with
        | some f =>
          have HV : Hid (lookV false F bx n = .iface 49 (.pointer (some ⟨bx f.n, 0, none⟩))) := Lib.hid (by unfold lookV; rw [hl]; rfl)
          rw [HV.out] at HLk
          rw [mayStep_some hl, Bool.false_and] at hmb
          have HMb := Lib.hid hmb
          have haf := fun W => as_file (.pointer (some ⟨bx f.n, 0, none⟩)) W
          clear hmb hmr hl HAp HSy hat'
          generalize str n = sn at c1 HLk
          generalize str t = st at c2
          go_wp2_with fail
          refine HLk.out.mono ?_
          rintro e w1 ⟨rfl, rfl⟩
          clear HLk
          go_wp2_with fail
          go_ret2
          exact ⟨HBe.out, fun _ => rfl, fun e => by rw [← HMb.out] at e; cases e⟩
        | none =>
          have HV : Hid (lookV false F bx n = .iface 27 (.int .i64 3)) := Lib.hid (by unfold lookV; rw [hl]; rfl)
          rw [HV.out] at HLk
          have haf := as_no_file (.int .i64 3)
          rw [mayStep_eq hl] at hmb
          have HSt := Lib.hid (fun h0 => step_put (t := t) hl h0)
          obtain ⟨E, hE⟩ : ∃ E, appE F n t = E := ⟨_, rfl⟩
          rw [hE] at HAp hmb HSt
          have HMb := Lib.hid hmb
          have HMr := Lib.hid hmr
          clear hmb hmr hl hE hat' HDk
          obtain ⟨sn, hsn⟩ : ∃ sn, str n = sn := ⟨_, rfl⟩
          rw [hsn] at c1 HLk HAp HSy
          generalize str t = st at c2 HAp
          clear hsn
          go_wp2_with fail
          refine HLk.out.mono ?_
          rintro e w1 ⟨rfl, rfl⟩
          clear HLk
          go_wp2_with fail
          refine HAp.out.mono ?_
          rintro e w2 ⟨rfl, X2, hdk2, hc2, hx2⟩
          have HD2 := Lib.hid hdk2
          have HX2 : Hid (∀ j, X2 j → w.heap.size ≤ j) := Lib.hid fun j hj => by
            rcases hx2 j hj with h | h
            · exact HX.out j h
            · exact Nat.le_trans HBe.out.size h
          have HB2 := Lib.hid (HBe.out.trans (hc2.below HBe.out.size HX.out))
          clear hdk2 hc2 hx2 HAp
          by_cases h0 : E = 0
          · subst h0
            obtain ⟨e1, e2⟩ := HSt.out rfl
            rw [e1, e2] at HSy
            clear e1 e2
            go_wp2_with fail
            refine (HSy.out _ _ HD2.out).mono ?_
            rintro e w3 ⟨rfl, X3, hdk3, hc3, hx3⟩
            have HD3 := Lib.hid hdk3
            have HX3 : Hid (∀ j, X3 j → w.heap.size ≤ j) := Lib.hid fun j hj => by
              rcases hx3 j hj with h | h
              · exact HX2.out j h
              · exact Nat.le_trans HB2.out.size h
            have HB3 := Lib.hid (HB2.out.trans (hc3.below HB2.out.size HX2.out))
            clear hdk3 hc3 hx3 HSy HB2 HX2 HD2
            go_wp2_with fail
            go_roundw
            case rel =>
              refine ⟨k + 1, _, X3, by omega, by go_num, HD3.out, HX3.out, ?_, HMr.out, HB3.out⟩
              have := HMb.out
              simpa using this
            case measure => simp [RowKit.intOf]; omega
          · have hq : (E != 0) = true := by simp; omega
            have HMB : Hid (b = false) := Lib.hid (by rw [← HMb.out]; simp [h0])
            clear h0 HSy
            go_wp2_with fail
            go_ret2
            exact ⟨HB2.out, fun _ => rfl, fun e => by rw [HMB.out] at e; cases e⟩
      · obtain rfl : k = ns.length := by omega
        rw [List.drop_length, show ts.drop ns.length = [] by rw [HLe.out]; exact List.drop_length] at hmb hmr
        have HMb := Lib.hid (show true = b from hmb)
        have HMr := Lib.hid (show F = R from hmr)
        have hkI : ¬ ((ns.length : Int) < (ns.length : Int)) := by omega
        clear hmb hmr hlk
        go_wp2_with fail
        go_ret2
        refine ⟨HBe.out, ?_, ?_⟩
        · intro e
          rw [← HMb.out] at e
          cases e
        · intro _
          exact ⟨d, X, rfl, by rw [← HMr.out]; exact HDk.out, HX.out⟩
  · have hq : ((ns.length : Int) == (ts.length : Int)) = false := by simp; omega
    have hq2 : ((ns.length : Int) != (ts.length : Int)) = true := by simp; omega
    have HBF : Hid (b = false) := Lib.hid (by
      rw [← HBb.out, Bool.eq_false_iff]
      intro e
      exact hle (may_len _ _ _ e))
    clear hle
    go_enter Try.func11, Try.ntmps11
    go_wp2_with fail
    go_ret2
    exact ⟨Below.refl _ _, fun _ => rfl, fun e => by rw [HBF.out] at e; cases e⟩
end Go.Proofs.Ytgimecgdfcckbaa.Dsk
