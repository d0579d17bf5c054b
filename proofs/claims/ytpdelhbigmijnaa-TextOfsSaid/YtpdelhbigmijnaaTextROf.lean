/- The document's own answer: the bytes of code points. -/
import Derived.Test.YtpdelhbigmijnaaTextRef
import Derived.Test.YtpdelhbigmijnaaTextPlainOf
import Derived.Test.YtpdelhbigmijnaaTextRunes
namespace Go.Proofs.Ytpdelhbigmijnaa
open Go.RowKit Go.Lib Txt

theorem info5 : (Try.prog.info? 5).map (fun i => (i.zero, i.size, i.bytes)) = some (some (.int .u8 0), 1, 1) := by kernel_rfl

theorem gives_lit (w : World) (cs : Array Value) (rs : List Int) (n : Nat) (k : IntKind) (e : TypeId) (h : cs = (rs.map (Value.int k)).toArray) (hn : n = rs.length) :
    GivesNums k rs w (.returned (.slice (some ⟨w.heap.size, 0, none⟩) n n)) (w.alloc (.cells cs e)) := by
  subst hn
  exact ⟨_, _, rfl, (lit_nums w cs rs k e h).mono (by simp), (Below.refl _ _).alloc (Nat.le_refl _) _⟩

set_option maxRecDepth 100000 in
set_option maxHeartbeats 1000000 in
theorem bytes_any (r : Int) (w : World) (h0 : 0 ≤ r) (h1 : r ≤ 1114111) (hv : r < 55296 ∨ 57343 < r) :
    Calls Try.prog 27 #[.int .i64 r] w (GivesNums .u8 (encodeRuneZ r) w) := by
  by_cases c1 : r ≤ 127
  · have H := Lib.hid (encodeRuneZ_one h0 c1)
    clear hv
    go_enter Try.func27, Try.ntmps27
    go_wp2
    go_ret
    exact gives_lit w _ _ 1 .u8 5 (by rw [H.out]; rfl) (by rw [H.out]; rfl)
  · by_cases c2 : r ≤ 2047
    · have H := Lib.hid (encodeRuneZ_two (by omega) c2)
      clear hv
      go_enter Try.func27, Try.ntmps27
      go_wp2
      go_ret
      exact gives_lit w _ _ 2 .u8 5 (by rw [H.out]; rfl) (by rw [H.out]; rfl)
    · by_cases c3 : r ≤ 65535
      · have H := Lib.hid (encodeRuneZ_three (r := r) (by omega))
        clear hv
        go_enter Try.func27, Try.ntmps27
        go_wp2
        go_ret
        exact gives_lit w _ _ 3 .u8 5 (by rw [H.out]; rfl) (by rw [H.out]; rfl)
      · have H := Lib.hid (encodeRuneZ_four (by omega) h1)
        clear hv
        go_enter Try.func27, Try.ntmps27
        go_wp2
        go_ret
        exact gives_lit w _ _ 4 .u8 5 (by rw [H.out]; rfl) (by rw [H.out]; rfl)

theorem good_same (n : Int) (b : Bool) (w : World) (h0 : -9223372036854775808 ≤ n) (h1 : n ≤ 9223372036854775807) (h : good n = b) :
    Calls Try.prog 26 #[.int .i64 n] w fun e w' => e = .returned (.bool b) ∧ w = w' := by
  rw [← h]; exact (good_any n w h0 h1).mono fun _ _ h => ⟨h.1, h.2.symm⟩
theorem conv_own {w : World} {B : Nat} {v : Value} {zs : List Int} (h : w.ownsRow B 5 1 v zs.length (zs.map (Value.int .u8))) : (convert 52 9 v).run Try.prog w = .ok (.string (strOfNums zs)) w := by
  rcases h.2 with ⟨rfl, hn⟩ | ⟨g, cap, cur, rfl, _⟩
  · have : zs = [] := List.eq_nil_of_length_eq_zero hn
    subst this
    exact run_convert_bytes_nil w 52 5 Try.underlying52 Try.underlying5 0 0 9 Try.underlying9
  · refine run_convert_bytes_arg w 52 5 Try.underlying52 Try.underlying5 g 0 zs.length cap zs rfl (fun i hi => ?_) 9 Try.underlying9
    have := h.cells (g := g) rfl i (.int .u8 (zs.getD i 0)) (by simp [List.getElem?_eq_getElem hi])
    rw [add_new] at this
    rw [Nat.zero_add]; exact this
theorem own_below {w w' : World} {B e size n : Nat} {v : Value} {xs : List Value} (h : w.ownsRow B e size v n xs) (hb : Below w.heap.size w w') : w'.ownsRow B e size v n xs :=
  h.kept (row := none) ⟨hb.os, hb.tape, hb.output, hb.size, fun k hk _ => hb.block k hk⟩ (Classical.em _)
theorem below_grown {B e size n : Nat} {w w' : World} {v : Value} {xs : List Value} (hB : B ≤ w.heap.size) (hown : w.ownsRow B e size v n xs) (hg : w.grownBy w' v.ownBlock) : Below B w w' := by
  refine ⟨hg.os, hg.tape, hg.output, hg.size, fun k hk => ?_⟩
  refine hg.block k (by omega) fun hk2 => ?_
  have := (hown.lt k hk2.symm).1
  omega

set_option maxRecDepth 100000 in
set_option maxHeartbeats 2000000 in
/-- fairwayref1.Of. -/
theorem ROf_any (xs : List Int) (A : Option Addr) (c : Nat) (w : World) (hm : xs.length ≤ 3000) (hw : ∀ r ∈ xs, (Lit.int .i32 r).wf = true) (h : Nums w w.heap.size .i32 A xs) :
    Calls Try.prog 18 #[.slice A xs.length c] w fun e w' => e = .returned (.tuple #[.string (ofStr xs), .int .i64 (ofErr xs)]) ∧ Below w.heap.size w w' := by
  obtain ⟨i0, hi, hz0, hz1, hz2⟩ := info_parts info5
  have H := Lib.hid h
  have HW := Lib.hid hw
  clear h hw
  go_enter Try.func18, Try.ntmps18
  go_wp2_with fail
  go_loopw [4, 5] (fun v i wr => ∃ (k : Nat) (zs : List Int), k ≤ xs.length ∧ i = .int .i64 (k : Int) ∧ zs.length ≤ 1024 ∧ zs = encZ (xs.take k) ∧ ofErr xs = ofGo zs.length (xs.drop k) ∧ wr.ownsRow w.heap.size 5 1 v zs.length (zs.map (Value.int .u8)) ∧ Below w.heap.size w wr) (fun _ i _ => xs.length - (RowKit.intOf i).toNat)
  case atStart => exact ⟨0, [], Nat.zero_le _, rfl, by simp, rfl, rfl, World.ownsRow_nil _ _ _ _, Below.refl _ _⟩
  case round =>
    obtain ⟨k, zs, hk, rfl, hzl, hzs, he, hown, hnx⟩ := hrel
    have h2 := hnx.size
    by_cases hlt : k < xs.length
    · obtain ⟨a, rfl, hab, hc⟩ := (H.out.below hnx).some_ (by omega)
      have h1 := hc k hlt
      have hc2 := hc
      have hkI : (k : Int) < (xs.length : Int) := by omega
      have hget : xs.getD k 0 = xs[k]'hlt := by rw [List.getD_eq_getElem?_getD, List.getElem?_eq_getElem hlt]; rfl
      have hd : xs.drop k = xs.getD k 0 :: xs.drop (k + 1) := by rw [List.drop_eq_getElem_cons hlt, hget]
      have hwk := HW.out (xs.getD k 0) (by rw [hget]; exact List.getElem_mem hlt)
      have hr : -2147483648 ≤ xs.getD k 0 ∧ xs.getD k 0 ≤ 2147483647 := by
        have e1 : IntKind.i32.min = -2147483648 := rfl
        have e2 : IntKind.i32.max = 2147483647 := rfl
        simp only [Lit.wf, Bool.and_eq_true, decide_eq_true_eq] at hwk
        omega
      obtain ⟨r0, r1⟩ := hr
      rw [hd] at he
      have hzn : zs ++ encodeRuneZ (xs.getD k 0) = encZ (xs.take (k + 1)) := by
        rw [hzs, List.take_succ_eq_append_getElem hlt, ← hget]
        simp [encZ]
      have HE := Lib.hid he
      have HZ := Lib.hid hzn
      have HK : ∀ w', Below w.heap.size wr w' → w'.cell? (a.add k) = some (.int .i32 (xs.getD k 0)) := fun w' hb => (hb.cell (by rw [add_block]; exact hab)).trans (hc k hlt)
      have HK' := Lib.hid HK
      clear hc he hd hzs hzn hwk hget HK hc2
      generalize xs.getD k 0 = r at h1 HE HZ r0 r1 HK'
      cases hg : good r with
      | false =>
        have HX := Lib.hid (HE.out.trans (ofGo_bad hg))
        have HG := Lib.hid (fun W => good_same r false W (by omega) (by omega) hg)
        clear hg HE
        go_wp2_with (go_at_call 26; refine (HG.out _).mono ?_; rintro e w' ⟨rfl, rfl⟩)
        go_ret2
        refine ⟨?_, hnx⟩
        unfold ofStr
        rw [HX.out]; rfl
      | true =>
        have hlen := encodeRuneZ_length r
        have hgr := (good_iff r).1 hg
        have HG := Lib.hid (fun W => good_same r true W (by omega) (by omega) hg)
        have HBy := Lib.hid (fun W => bytes_any r W (by omega) (by omega) (by omega))
        have hone : ∀ u ∈ (encodeRuneZ r).map (Value.int .u8), u.oneCell' = true := by
          intro u hu
          obtain ⟨x, _, rfl⟩ := List.mem_map.1 hu
          rfl
        have HO1 := Lib.hid hone
        have HL : ofErr xs = if 1024 < zs.length + (encodeRuneZ r).length then 2 else ofGo (zs.length + (encodeRuneZ r).length) (xs.drop (k + 1)) := by
          rw [HE.out]
          by_cases hl : 1024 < zs.length + (encodeRuneZ r).length
          · rw [ofGo_long hg hl, if_pos hl]
          · rw [ofGo_step hg hl, if_neg hl]
        have HL' := Lib.hid HL
        clear hg HE HL hone hgr
        generalize encodeRuneZ r = ys at hlen HBy HZ HL' HO1
        go_wp2_with (go_at_call 26; refine (HG.out _).mono ?_; rintro e w' ⟨rfl, rfl⟩)
        refine (HBy.out _).mono ?_
        rintro e w1 ⟨A1, c1, rfl, n1, b1⟩
        obtain ⟨a1, rfl, _, hc1⟩ := n1.some_ (by omega)
        have hown1 := own_below hown b1
        have hsz1 := b1.size
        go_wp2_with (at_builtin; refine wpList_append_own _ rfl _ _ 52 rfl w.heap.size 5 i0 (.int .u8 0) 1 1 Try.underlying52 hi hz0 hz1 hz2 rfl (by decide) _ _ _ rfl hown1 a1 ys.length c1 (ys.map (Value.int .u8)) rfl ?c0 ?c1 ?c2 ?c3 ?c4 ?c5 ?_)
        case c0 => simp
        case c1 =>
          intro j u hu
          have hj : j < ys.length := by
            rcases Nat.lt_or_ge j ys.length with h | h
            · exact h
            · rw [List.getElem?_eq_none (by simpa using h)] at hu; cases hu
          rw [hc1 j hj]
          simp [List.getElem?_eq_getElem hj] at hu ⊢
          exact hu
        case c2 => exact HO1.out
        case c3 => unfold maxLen; omega
        case c4 => omega
        case c5 => omega
        intro v' w2 hown2 hgrow _
        have hown3 : w2.ownsRow w.heap.size 5 1 v' (zs ++ ys).length ((zs ++ ys).map (Value.int .u8)) := by simpa using hown2
        have hnx2 := (hnx.trans (b1.mono h2)).trans (below_grown (by omega) hown1 hgrow)
        obtain ⟨A2, c2, hv⟩ := own_form hown3
        rw [hv]
        rw [hv] at hown3
        have HO3 := Lib.hid hown3
        have HN2 := Lib.hid hnx2
        have hln : (zs ++ ys).length = zs.length + ys.length := List.length_append
        have HLN := Lib.hid hln
        clear hv hown3 hown2 hgrow hown1 hown hnx hnx2 b1 n1 hc1 h1
        by_cases hl : 1024 < (zs ++ ys).length
        · have HX : ofErr xs = 2 := by rw [HL'.out, if_pos (by rw [← hln]; exact hl)]
          have HX' := Lib.hid HX
          clear HX hln
          generalize (zs ++ ys).length = m at hl
          go_wp2
          go_ret2
          refine ⟨?_, HN2.out⟩
          unfold ofStr
          rw [HX'.out]; rfl
        · have HX : ofErr xs = ofGo (zs ++ ys).length (xs.drop (k + 1)) := by rw [HL'.out, if_neg (by rw [← hln]; exact hl), hln]
          have HX' := Lib.hid HX
          clear HX hln
          obtain ⟨m, hm⟩ : ∃ m, m = (zs ++ ys).length := ⟨_, rfl⟩
          rw [← hm] at hl
          rw [← hm]
          have HM := Lib.hid hm
          clear hm
          go_wp2
          go_roundw
          case rel => exact ⟨k + 1, zs ++ ys, hlt, by go_num, by rw [← HM.out]; omega, HZ.out, HX'.out, by rw [HM.out]; exact HO3.out, HN2.out⟩
          case measure => simp [RowKit.intOf]; omega
    · obtain rfl : k = xs.length := by omega
      rw [List.drop_length] at he
      rw [List.take_length] at hzs
      have he0 : ofErr xs = 0 := he
      have hstr : strOfNums zs = ofStr xs := by unfold ofStr; rw [he0, if_pos rfl, hzs]
      have hconv := conv_own hown
      have HO := Lib.hid he0
      have HS := Lib.hid hstr
      clear he he0 hzs hown hstr
      generalize strOfNums zs = S at hconv HS
      go_wp2_with fail
      go_ret2
      refine ⟨?_, hnx⟩
      rw [HO.out, ← HS.out]; rfl
end Go.Proofs.Ytpdelhbigmijnaa
