/- The document's own answer: may these be? -/
import Derived.Test.YtgimecgdfcckbaaDskRNew
import Derived.Test.YtgimecgdfcckbaaInRegion
namespace Go.Proofs.Ytgimecgdfcckbaa.Dsk
open Go.RowKit Go.Lib Go.Maps

theorem lens_take {ts : List (List UInt8)} {k : Nat} (hk : k < ts.length) : lens (ts.take (k + 1)) = lens (ts.take k) + ts[k].length := by
  unfold lens
  rw [List.take_add_one, List.getElem?_eq_getElem hk, List.map_append, List.sum_append]
  simp
theorem lens_le {ts : List (List UInt8)} (B : Nat) (h : ∀ t ∈ ts, t.length ≤ B) : lens ts ≤ ts.length * B := by
  induction ts with
  | nil => simp [lens]
  | cons t r ih =>
    have h1 := h t (by simp)
    have h2 := ih fun x hx => h x (by simp [hx])
    rw [lens_cons, List.length_cons, Nat.add_mul, Nat.one_mul]
    omega
theorem may_none {ns ts : List (List UInt8)} : mayFrom [] ns ts = true ↔ ns.length = ts.length ∧ ns.length ≤ 64 ∧ (∀ n ∈ ns, nameB n = true) ∧ ns.Nodup ∧ (∀ t ∈ ts, t.length ≤ 65536) ∧ lens ts ≤ 1048576 := by
  rw [may_iff (F := []) (by simp) (by simp [total])]
  simp [total]
/-- What was looked at of the first k. -/
def okK (ns ts : List (List UInt8)) (k : Nat) : Prop := (∀ n ∈ ns.take k, nameB n = true) ∧ (ns.take k).Nodup ∧ ∀ t ∈ ts.take k, t.length ≤ 65536
theorem ok_succ {ns ts : List (List UInt8)} {k : Nat} (h : okK ns ts k) (hk : k < ns.length) (hk' : k < ts.length) (h1 : nameB ns[k] = true) (h2 : (ns.take k).contains ns[k] = false) (h3 : ts[k].length ≤ 65536) : okK ns ts (k + 1) := by
  unfold okK
  rw [List.take_add_one, List.take_add_one, List.getElem?_eq_getElem hk, List.getElem?_eq_getElem hk']
  refine ⟨fun n hn => ?_, ?_, fun t ht => ?_⟩
  · rcases List.mem_append.1 hn with hn | hn
    · exact h.1 n hn
    · have hn : n = ns[k] := by simpa using hn
      rw [hn]; exact h1
  · rw [List.nodup_append]
    refine ⟨h.2.1, by simp, fun a ha b hb e => ?_⟩
    have hb : b = ns[k] := by simpa using hb
    subst e
    rw [hb] at ha
    rw [List.contains_iff_mem.2 ha] at h2
    cases h2
  · rcases List.mem_append.1 ht with ht | ht
    · exact h.2.2 t ht
    · have ht : t = ts[k] := by simpa using ht
      rw [ht]; exact h3
theorem may_bad {ns ts : List (List UInt8)} {k : Nat} (hk : k < ns.length) (hk' : k < ts.length) (h : nameB ns[k] = false ∨ (ns.take k).contains ns[k] = true ∨ 65536 < ts[k].length) : mayFrom [] ns ts = false := by
  rw [Bool.eq_false_iff]
  intro e
  obtain ⟨_, _, h3, h4, h5, _⟩ := may_none.1 e
  rcases h with h | h | h
  · rw [h3 _ (List.getElem_mem hk)] at h; cases h
  · obtain ⟨i, hi, e2⟩ := List.mem_iff_getElem.1 (List.contains_iff_mem.1 h)
    rw [List.getElem_take] at e2
    have hik : i < k := by rw [List.length_take] at hi; omega
    exact (List.pairwise_iff_getElem.1 h4 i k (by omega) hk hik) e2
  · have := h5 _ (List.getElem_mem hk')
    omega
theorem may_end {ns ts : List (List UInt8)} {n : Nat} (h : okK ns ts n) (h1 : ns.length = n) (h2 : ts.length = n) (h3 : n ≤ 64) : mayFrom [] ns ts = decide (lens ts ≤ 1048576) := by
  unfold okK at h
  have e1 : ns.take n = ns := List.take_of_length_le (Nat.le_of_eq h1)
  have e2 : ts.take n = ts := List.take_of_length_le (Nat.le_of_eq h2)
  rw [e1, e2] at h
  rw [Bool.eq_iff_iff, may_none, decide_eq_true_eq]
  exact ⟨fun h => h.2.2.2.2.2, fun h4 => ⟨by omega, by omega, h.1, h.2.1, h.2.2, h4⟩⟩

def inI (xs : List (List UInt8)) (x : List UInt8) : Int := match xs.findIdx? (fun y => y == x) with | some i => (i : Int) | none => -1
theorem in_at {xs : List (List UInt8)} {x : List UInt8} {i : Nat} (hi : i < xs.length) (hn : xs[i] = x) (h : ∀ j (h : j < xs.length), j < i → xs[j] ≠ x) : inI xs x = (i : Int) := by
  unfold inI
  have : xs.findIdx? (fun y => y == x) = some i := by
    rw [List.findIdx?_eq_some_iff_getElem]
    exact ⟨hi, by simpa using hn, fun j hj => by simpa using h j (by omega) hj⟩
  rw [this]
theorem in_not {xs : List (List UInt8)} {x : List UInt8} (h : ∀ g ∈ xs, g ≠ x) : inI xs x = -1 := by
  unfold inI
  have : xs.findIdx? (fun y => y == x) = none := by
    rw [List.findIdx?_eq_none_iff]
    intro f hf
    simpa using h f hf
  rw [this]
theorem in_yes {xs : List (List UInt8)} {x : List UInt8} (h : xs.contains x = true) : 0 ≤ inI xs x := by
  unfold inI
  cases e : xs.findIdx? (fun y => y == x) with
  | some i => simp
  | none =>
    rw [List.findIdx?_eq_none_iff] at e
    have := e x (List.contains_iff_mem.1 h)
    simp at this
theorem in_no {xs : List (List UInt8)} {x : List UInt8} (h : xs.contains x = false) : inI xs x = -1 := in_not fun g hg e => by
  subst e
  rw [List.contains_iff_mem.2 hg] at h
  cases h
set_option maxRecDepth 100000 in
set_option maxHeartbeats 2000000 in
theorem InStrings_ex (xs : List (List UInt8)) (x : List UInt8) (I : Int) (A : Option Addr) (m c B : Nat) (w : World) (hm : xs.length = m) (hl : m ≤ 1000000) (h : Strs w B A xs) (hI : inI xs x = I) :
    Calls Try.prog 59 #[.slice A m c, .string (str x)] w fun e w' => e = .returned (.int .i64 I) ∧ w' = w := by
  have H := Lib.hid h
  have HM := Lib.hid hm
  have HI := Lib.hid hI
  clear h hm hI
  go_enter Try.func59, Try.ntmps59
  go_wp2_with fail
  go_loopw [5] (fun i wr => ∃ k : Nat, k ≤ m ∧ i = .int .i64 (k : Int) ∧ wr = w ∧ ∀ j (h : j < xs.length), j < k → xs[j] ≠ x) (fun i _ => m - (RowKit.intOf i).toNat)
  case atStart => exact ⟨0, Nat.zero_le _, rfl, rfl, fun j h hj => by omega⟩
  case round =>
    obtain ⟨k, hk, rfl, rfl, hno⟩ := hrel
    have HNo := Lib.hid hno
    clear hno
    by_cases hlt : k < m
    · have hkI : (k : Int) < (m : Int) := by omega
      have hkx : k < xs.length := by rw [HM.out]; exact hlt
      obtain ⟨a, rfl, _, hc⟩ := H.out.some_ (by omega)
      have d0 := hc k hkx
      rw [List.getD_eq_getElem?_getD, List.getElem?_eq_getElem hkx] at d0
      simp only [Option.getD_some] at d0
      by_cases he : xs[k] = x
      · have HF := Lib.hid (in_at hkx he HNo.out)
        have hq2 : ((str xs[k]).toList == (str x).toList) = true := str_eq he
        clear he hc
        generalize str xs[k] = s1 at d0 hq2
        generalize str x = s2 at hq2
        go_wp2
        go_ret
        exact ⟨ret_int (HF.out.symm.trans HI.out), rfl⟩
      · have hq := str_ne he
        have HE := Lib.hid he
        clear he hc
        generalize str xs[k] = s1 at d0 hq
        generalize str x = s2 at hq
        go_wp2
        go_roundw
        case rel =>
          refine ⟨k + 1, hlt, by go_num, by trivial, fun j h hj => ?_⟩
          by_cases hjk : j = k
          · subst hjk; exact HE.out
          · exact HNo.out j h (by omega)
        case measure => simp [RowKit.intOf]; omega
    · have hkI : ¬ (k : Int) < (m : Int) := by omega
      have HF : Hid (inI xs x = -1) := Lib.hid (in_not fun g hg => by
        obtain ⟨i, hi, e2⟩ := List.mem_iff_getElem.1 hg
        have hm := HM.out
        rw [← e2]
        exact HNo.out i hi (by omega))
      clear hlt
      go_wp2
      go_ret
      exact ⟨ret_int (HF.out.symm.trans HI.out), rfl⟩

/-- The world in the loop's guarded region. -/
@[irreducible] def MayAt (V : World) (a b : Addr) (k : Nat) (x y : Value) (xs : List (List UInt8)) (W : World) : Prop := W.cell? (a.add k) = some x ∧ W.cell? (b.add k) = some y ∧ Strs W V.heap.size (some a) xs ∧ Below V.heap.size V W
section
variable {V W : World} {a b : Addr} {k : Nat} {x y : Value} {xs : List (List UInt8)}
theorem MayAt.mk (h : W.cell? (a.add k) = some x ∧ W.cell? (b.add k) = some y ∧ Strs W V.heap.size (some a) xs ∧ Below V.heap.size V W) : MayAt V a b k x y xs W := by unfold MayAt; exact h
theorem MayAt.out (h : MayAt V a b k x y xs W) : W.cell? (a.add k) = some x ∧ W.cell? (b.add k) = some y ∧ Strs W V.heap.size (some a) xs ∧ Below V.heap.size V W := by unfold MayAt at h; exact h
theorem MayAt.drewN (h : MayAt V a b k x y xs W) (n : Nat) : MayAt V a b k x y xs (W.drewN n) := by
  obtain ⟨h1, h2, h3, h4⟩ := h.out
  exact .mk ⟨h1, h2, h3.drewN n, below_drewN h4 n⟩
end
def GivesMay (v : Bool) (w : World) (e : Ending) (w' : World) : Prop := e = .returned (.bool v) ∧ Below w.heap.size w w'
set_option maxRecDepth 100000 in
set_option maxHeartbeats 8000000 in
theorem RMay_is (ns ts : List (List UInt8)) (A B : Option Addr) (n n' c c' : Nat) (w : World) (v : Bool) (hn : ns.length = n) (ht : ts.length = n') (hcA : n ≤ c) (hl : n ≤ 1000000) (hl' : n' ≤ 1000000) (hsn : ∀ x ∈ ns, x.length ≤ 1000000) (hst : ∀ x ∈ ts, x.length ≤ 1000000) (hA : Strs w w.heap.size A ns) (hB : Strs w w.heap.size B ts) (hv : mayFrom [] ns ts = v) :
    Calls Try.prog 38 #[.slice A n c, .slice B n' c'] w fun e w' => GivesMay v w e w' := by
  have HA := Lib.hid hA
  have HB := Lib.hid hB
  have HN := Lib.hid hn
  have HT := Lib.hid ht
  have HV := Lib.hid hv
  have HSn := Lib.hid hsn
  have HSt := Lib.hid hst
  by_cases hnn : n = n'
  · subst hnn
    by_cases h64 : n ≤ 64
    · have q64 : ¬ (64 : Int) < (n : Int) := by omega
      clear hA hB hn ht hv hsn hst hl'
      go_enter Try.func38, Try.ntmps38
      go_wp2_with fail
      obtain ⟨V, hV⟩ : ∃ V, V = w := ⟨_, rfl⟩
      subst hV
      go_loopw [5, 6] (fun all i wr => ∃ k : Nat, k ≤ n ∧ i = .int .i64 (k : Int) ∧ all = .int .i64 ((lens (ts.take k) : Nat) : Int) ∧ okK ns ts k ∧ Below V.heap.size V wr) (fun _ i _ => n - (RowKit.intOf i).toNat)
      case atStart => exact ⟨0, Nat.zero_le _, rfl, rfl, ⟨by simp, by simp, by simp⟩, Below.refl _ _⟩
      case round =>
        obtain ⟨k, hk, rfl, rfl, hok, hb⟩ := hrel
        have HK := Lib.hid hok
        have HBe := Lib.hid hb
        have hbs : V.heap.size ≤ wr.heap.size := hb.size
        clear hok hb
        by_cases hlt : k < n
        · have hkI : (k : Int) < (n : Int) := by omega
          have hkc : (k : Int) ≤ (c : Int) := by omega
          have hk0 : (0 : Int) ≤ (k : Int) := by omega
          have hkn : k < ns.length := by rw [HN.out]; exact hlt
          have hkt : k < ts.length := by rw [HT.out]; exact hlt
          obtain ⟨a, rfl, ha1, hca⟩ := HA.out.some_ (by omega)
          obtain ⟨b, rfl, hb1, hcb⟩ := HB.out.some_ (by omega)
          have da := hca k hkn
          have db := hcb k hkt
          rw [List.getD_eq_getElem?_getD, List.getElem?_eq_getElem hkn] at da
          rw [List.getD_eq_getElem?_getD, List.getElem?_eq_getElem hkt] at db
          simp only [Option.getD_some] at da db
          have ea : wr.cell? (a.add k) = some (.string (str ns[k])) := (HBe.out.cell (p := a.add k) (by rw [add_block]; omega)).trans da
          have eb : wr.cell? (b.add k) = some (.string (str ts[k])) := (HBe.out.cell (p := b.add k) (by rw [add_block]; omega)).trans db
          have hSk : Strs wr V.heap.size (some a) (ns.take k) := .inr ⟨a, rfl, ha1, fun j hj => by
            have hjk : j < k := by rw [List.length_take] at hj; omega
            have e1 : (ns.take k).getD j [] = ns.getD j [] := by
              rw [List.getD_eq_getElem?_getD, List.getD_eq_getElem?_getD, List.getElem?_take_of_lt hjk]
            rw [e1]
            exact (HBe.out.cell (p := a.add j) (by rw [add_block]; omega)).trans (hca j (by omega))⟩
          have hnl := HSn.out _ (List.getElem_mem hkn)
          have htl := HSt.out _ (List.getElem_mem hkt)
          have HNm : Hid (∀ W, Calls Try.prog 58 #[.string (str ns[k])] W fun e w' => e = .returned (.bool (nameB ns[k])) ∧ w' = W) := Lib.hid (fun W => RName_is ns[k] (nameB ns[k]) W (by omega) rfl)
          have HIn : Hid (∀ W B', Strs W B' (some a) (ns.take k) → Calls Try.prog 59 #[.slice (some a) k c, .string (str ns[k])] W fun e w' => e = .returned (.int .i64 (inI (ns.take k) ns[k])) ∧ w' = W) := Lib.hid (fun W B' h => InStrings_ex (ns.take k) ns[k] _ (some a) k c B' W (by rw [List.length_take]; omega) (by omega) h rfl)
          have st0 : MayAt V a b k (.string (str ns[k])) (.string (str ts[k])) (ns.take k) wr := .mk ⟨ea, eb, hSk, HBe.out⟩
          have HSz : Hid ((str ts[k]).size = ts[k].length) := Lib.hid (str_size _)
          skip
          have hle : lens (ts.take k) ≤ 64 * 1000000 := by
            have h1 := lens_le (ts := ts.take k) 1000000 (fun x hx => HSt.out x (List.mem_of_mem_take hx))
            rw [List.length_take] at h1
            have h2 : min k ts.length * 1000000 ≤ 64 * 1000000 := Nat.mul_le_mul_right _ (by omega)
            exact Nat.le_trans h1 h2
          have HLt := Lib.hid (lens_take hkt)
          have HBad := Lib.hid (may_bad (ns := ns) (ts := ts) hkn hkt)
          have HOk := Lib.hid (ok_succ HK.out hkn hkt)
          clear hSk hca hcb da db ea eb
          generalize ns[k] = x at *
          generalize ts[k] = y at *
          cases hnb : nameB x with
          | false =>
            rw [hnb] at HNm
            have HF : Hid (v = false) := Lib.hid (HV.out.symm.trans (HBad.out (.inl hnb)))
            clear HBad HOk HIn HLt
            have HXl := Lib.hid hnl
            generalize str x = sn at *
            generalize str y = st at *
            go_upto_region 7 with fail
            generalize ns.take k = xs at *
            haveI : Nonempty (In (MayAt V a b k (.string sn) (.string st) xs)) := ⟨⟨_, st0⟩⟩
            have k0 := fun u : In (MayAt V a b k (.string sn) (.string st) xs) => u.h.out.1
            have k1 := fun u : In (MayAt V a b k (.string sn) (.string st) xs) => u.h.out.2.1
            refine region_in (S := MayAt V a b k (.string sn) (.string st) xs) (by kernel_rfl) (by kernel_rfl) (st0.drewN 1) ?_
            repeat (go_big_quiet_step (first | (go_at_call 58; exact in_call ((HNm.out _).mono fun _ _ h => ⟨h.1, h.2 ▸ In.h _⟩))))
            refine wpQuiet_nil ?_
            rintro _ ⟨⟨w7, st7⟩, rfl⟩
            have HBd := Lib.hid st7.out.2.2.2
            have eb := st7.out.2.1
            clear this st0 st7 k0 k1 HNm
            go_wp2_with fail
            go_ret
            exact ⟨ret_bool HF.out.symm, HBd.out⟩
          | true =>
            rw [hnb] at HNm
            cases hct : (ns.take k).contains x with
            | true =>
              have HF : Hid (v = false) := Lib.hid (HV.out.symm.trans (HBad.out (.inr (.inl hct))))
              have hI0 := in_yes hct
              have hI1 : decide (0 ≤ inI (ns.take k) x) = true := by simpa using hI0
              generalize inI (ns.take k) x = I at *
              clear HBad HOk HLt
              have HXl := Lib.hid hnl
              generalize str x = sn at *
              generalize str y = st at *
              go_upto_region 7 with fail
              generalize ns.take k = xs at *
              haveI : Nonempty (In (MayAt V a b k (.string sn) (.string st) xs)) := ⟨⟨_, st0⟩⟩
              have k0 := fun u : In (MayAt V a b k (.string sn) (.string st) xs) => u.h.out.1
              have k1 := fun u : In (MayAt V a b k (.string sn) (.string st) xs) => u.h.out.2.1
              have hI2 := fun u : In (MayAt V a b k (.string sn) (.string st) xs) => HIn.out _ _ u.h.out.2.2.1
              refine region_in (S := MayAt V a b k (.string sn) (.string st) xs) (by kernel_rfl) (by kernel_rfl) (st0.drewN 1) ?_
              repeat (go_big_quiet_step (first | (go_at_call 58; exact in_call ((HNm.out _).mono fun _ _ h => ⟨h.1, h.2 ▸ In.h _⟩)) | (go_at_call 59; exact in_call ((hI2 _).mono fun _ _ h => ⟨h.1, h.2 ▸ In.h _⟩))))
              refine wpQuiet_nil ?_
              rintro _ ⟨⟨w7, st7⟩, rfl⟩
              have HBd := Lib.hid st7.out.2.2.2
              have eb := st7.out.2.1
              clear this st0 st7 k0 k1 HNm hI2 HIn
              go_wp2_with fail
              go_ret
              exact ⟨ret_bool HF.out.symm, HBd.out⟩
            | false =>
              rw [in_no hct] at HIn
              have HCt := Lib.hid hct
              by_cases hbig : 65536 < y.length
              · have HF : Hid (v = false) := Lib.hid (HV.out.symm.trans (HBad.out (.inr (.inr hbig))))
                have q1 : decide ((65536 : Int) < ((str y).size : Int)) = true := by rw [HSz.out]; simp; omega
                have q2 : decide (65536 < (str y).size) = true := by rw [HSz.out]; simp; omega
                have q3 : 65536 < (str y).size := by rw [HSz.out]; exact hbig
                clear HBad HOk HLt
                have HXl := Lib.hid hnl
                generalize str x = sn at *
                generalize str y = st at *
                go_upto_region 7 with fail
                generalize ns.take k = xs at *
                haveI : Nonempty (In (MayAt V a b k (.string sn) (.string st) xs)) := ⟨⟨_, st0⟩⟩
                have k0 := fun u : In (MayAt V a b k (.string sn) (.string st) xs) => u.h.out.1
                have k1 := fun u : In (MayAt V a b k (.string sn) (.string st) xs) => u.h.out.2.1
                have hI2 := fun u : In (MayAt V a b k (.string sn) (.string st) xs) => HIn.out _ _ u.h.out.2.2.1
                refine region_in (S := MayAt V a b k (.string sn) (.string st) xs) (by kernel_rfl) (by kernel_rfl) (st0.drewN 1) ?_
                repeat (go_big_quiet_step (first | (go_at_call 58; exact in_call ((HNm.out _).mono fun _ _ h => ⟨h.1, h.2 ▸ In.h _⟩)) | (go_at_call 59; exact in_call ((hI2 _).mono fun _ _ h => ⟨h.1, h.2 ▸ In.h _⟩))))
                refine wpQuiet_nil ?_
                rintro _ ⟨⟨w7, st7⟩, rfl⟩
                have HBd := Lib.hid st7.out.2.2.2
                have eb := st7.out.2.1
                clear this st0 st7 k0 k1 HNm hI2 HIn
                go_wp2_with fail
                go_ret
                exact ⟨ret_bool HF.out.symm, HBd.out⟩
              · have q1 : decide ((65536 : Int) < ((str y).size : Int)) = false := by rw [HSz.out]; simp; omega
                have q2 : decide (65536 < (str y).size) = false := by rw [HSz.out]; simp; omega
                have q3 : ¬ 65536 < (str y).size := by rw [HSz.out]; exact hbig
                have HOk2 := Lib.hid (HOk.out hnb hct (by omega))
                have hlt2 := HLt.out
                have hsz := HSz.out
                have hwr : IntKind.i64.wrap (((lens (ts.take k) : Nat) : Int) + ((str y).size : Int)) = ((lens (ts.take (k + 1)) : Nat) : Int) := by
                  rw [hsz, IntWalk.i64_in _ ⟨by omega, by omega⟩]
                  omega
                clear HBad HOk HLt hlt2 hsz
                have HXl := Lib.hid hnl
                generalize str x = sn at *
                generalize str y = st at *
                go_upto_region 7 with fail
                generalize ns.take k = xs at *
                haveI : Nonempty (In (MayAt V a b k (.string sn) (.string st) xs)) := ⟨⟨_, st0⟩⟩
                have k0 := fun u : In (MayAt V a b k (.string sn) (.string st) xs) => u.h.out.1
                have k1 := fun u : In (MayAt V a b k (.string sn) (.string st) xs) => u.h.out.2.1
                have hI2 := fun u : In (MayAt V a b k (.string sn) (.string st) xs) => HIn.out _ _ u.h.out.2.2.1
                refine region_in (S := MayAt V a b k (.string sn) (.string st) xs) (by kernel_rfl) (by kernel_rfl) (st0.drewN 1) ?_
                repeat (go_big_quiet_step (first | (go_at_call 58; exact in_call ((HNm.out _).mono fun _ _ h => ⟨h.1, h.2 ▸ In.h _⟩)) | (go_at_call 59; exact in_call ((hI2 _).mono fun _ _ h => ⟨h.1, h.2 ▸ In.h _⟩))))
                refine wpQuiet_nil ?_
                rintro _ ⟨⟨w7, st7⟩, rfl⟩
                have HBd := Lib.hid st7.out.2.2.2
                have eb := st7.out.2.1
                clear this st0 st7 k0 k1 HNm hI2 HIn
                go_wp2_with fail
                go_roundw
                case rel => exact ⟨k + 1, hlt, by go_num, rfl, HOk2.out, HBd.out⟩
                case measure => simp [RowKit.intOf]; omega
        · have hkI : ¬ (k : Int) < (n : Int) := by omega
          obtain rfl : k = n := by omega
          have he := may_end HK.out HN.out HT.out h64
          have e2 : ts.take k = ts := List.take_of_length_le (Nat.le_of_eq HT.out)
          rw [e2]
          have HF : Hid (v = decide (lens ts ≤ 1048576)) := Lib.hid (HV.out.symm.trans he)
          clear he hlt
          by_cases hT : lens ts ≤ 1048576
          · have q1 : decide (((lens ts : Nat) : Int) ≤ 1048576) = true := by simp; omega
            have HF2 : Hid (v = true) := Lib.hid (by rw [HF.out]; simpa using hT)
            go_wp2_with fail
            go_ret
            exact ⟨ret_bool HF2.out.symm, HBe.out⟩
          · have q1 : decide (((lens ts : Nat) : Int) ≤ 1048576) = false := by simp; omega
            have HF2 : Hid (v = false) := Lib.hid (by rw [HF.out]; simpa using hT)
            go_wp2_with fail
            go_ret
            exact ⟨ret_bool HF2.out.symm, HBe.out⟩
    · have q64 : (64 : Int) < (n : Int) := by omega
      have HF : Hid (v = false) := Lib.hid (by
        rw [← HV.out, Bool.eq_false_iff]
        intro e
        have := (may_none.1 e).2.1
        have := HN.out
        omega)
      clear hA hB hn ht hv hsn hst hl' h64
      go_enter Try.func38, Try.ntmps38
      go_wp2_with fail
      go_ret
      exact ⟨ret_bool HF.out.symm, Below.refl _ _⟩
  · have hq : ¬ (n : Int) = (n' : Int) := by omega
    have hq2 : ((n : Int) != (n' : Int)) = true := bne_iff_ne.2 hq
    have HF : Hid (v = false) := Lib.hid (by
      rw [← HV.out, Bool.eq_false_iff]
      intro e
      have := (may_none.1 e).1
      have := HN.out
      have := HT.out
      omega)
    clear hA hB hn ht hv hsn hst hl'
    go_enter Try.func38, Try.ntmps38
    go_wp2_with fail
    go_ret
    exact ⟨ret_bool HF.out.symm, Below.refl _ _⟩
end Go.Proofs.Ytgimecgdfcckbaa.Dsk
