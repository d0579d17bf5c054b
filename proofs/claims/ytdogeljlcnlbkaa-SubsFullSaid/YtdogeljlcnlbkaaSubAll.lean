/- Package subs: one taken away; those whose filter matches. -/
import Derived.Test.YtdogeljlcnlbkaaSubSet
namespace Go.Proofs.Ytdogeljlcnlbkaa.Sbs
open Go.RowKit Go.Lib Txt Nam

/-- Subscriptions and no error. -/
def GivesList (l : List Sb) (w : World) (e : Ending) (w' : World) : Prop :=
  ∃ A c, e = .returned (.tuple #[.slice A l.length c, .int .i64 0]) ∧ SubsAt w' w'.heap.size A l ∧ Below w.heap.size w w'

set_option maxRecDepth 100000 in
set_option maxHeartbeats 2000000 in
/-- subs.Del, of a topic that is there. -/
theorem Del_yes (l : List Sb) (A : Option Addr) (c : Nat) (x : List UInt8) (a : Nat) (w : World) (h : SubsAt w w.heap.size A l) (hm : May l) (hp : Place l x a true) (ha : a < l.length) :
    Calls Try.prog 9 #[.slice A l.length c, .string (str x)] w (GivesList (l.eraseIdx a) w) := by
  have hl := hm.few
  have HP := Lib.hid (placeOf_is l A c x a true w h hm hp)
  have HCs := Lib.hid (fun W (hb : Below w.heap.size w W) => copies_is l A c W (by omega) (fun s hs => (hm.fine s hs).len) (h.on hb))
  clear h hm hp
  generalize str x = sx at HP ⊢
  go_enter Try.func9, Try.ntmps9
  go_wp2_with fail
  refine HP.out.mono ?_
  rintro e w1 ⟨rfl, hb1⟩
  have HX1 := Lib.hid hb1
  clear hb1
  simp only [if_pos]
  go_wp2_with fail
  refine (HCs.out _ HX1.out).mono ?_
  rintro e w2 ⟨A2, c2, rfl, hown, hb2⟩
  have HX2 := Lib.hid (HX1.out.trans (hb2.mono HX1.out.size))
  obtain ⟨g, rfl, hg, hg', hnc, hc⟩ := own_where hown (by omega)
  have HD := Lib.hid (Delete_is l g c2 a (a + 1) w2 ha rfl hnc hc (own_range hown) hown.frozenAt)
  have HG := Lib.hid (Nat.le_trans HX1.out.size hg)
  clear hb2 hown HCs HP
  rw [show ((a + 1 : Nat) : Int) = (a : Int) + 1 by omega] at HD
  have hgl := hg'
  go_wp2_with fail
  refine HD.out.mono ?_
  rintro e w3 ⟨rfl, hr, hbl⟩
  have HX3 := Lib.hid (HX2.out.trans ((hbl _ hg).mono (Nat.le_trans HX1.out.size (Nat.le_refl _))))
  have HS := Lib.hid (SubsAt.of_range (B := w3.heap.size) (Nat.lt_of_lt_of_le hg' (hbl g (Nat.le_refl _)).size) hr)
  have HLn : Hid ((l.eraseIdx a).length = l.length - 1) := by show _ = _; rw [List.length_eraseIdx, if_pos ha]
  clear hr hbl HD
  go_wp2_with fail
  refine bodyPost_ret (v := .tuple #[.slice (some ⟨g, 0, none⟩) (l.length - 1) c2, .int .i64 0]) (by simp [results, Try.results9, go_sem]) rfl ⟨some ⟨g, 0, none⟩, c2, by rw [HLn.out], HS.out, HX3.out⟩

theorem asked_filter (a b : ByteArray) (w : World) : (Instr.field 56 (.agg #[.string a, .string b]) 1).run Try.prog w = .ok (.string b) w := by kernel_rfl
set_option maxRecDepth 100000 in
set_option maxHeartbeats 2000000 in
/-- subs.reaches. -/
theorem reaches_is (s : Sb) (x : List UInt8) (b : Bool) (w : World) (hs : Fine s) (hx : x.length ≤ 1000000) (hb : matchB s.t x = b) :
    Calls Try.prog 35 #[sagg s, .string (str x)] w fun e w' => e = .returned (.bool b) ∧ Below w.heap.size w w' := by
  obtain ⟨t, q⟩ := s
  have HA := Lib.hid (fun W => sask_is t W hs.len hs.sh)
  have HM := Lib.hid (fun W => Match_is (str t) (str x) b W (by rw [str_size]; exact hs.len) (by rw [str_size]; exact hx) (by rw [str_data, str_data]; exact hb))
  have as0 := to_asked (.agg #[.string ⟨#[]⟩, .string (str t)])
  have fl := asked_filter ⟨#[]⟩ (str t)
  have HX := Lib.hid ((Below.refl w.heap.size w).alloc (Nat.le_refl _) (.cells (sarr (str t) q) 33))
  unfold sarr at HX
  unfold sagg
  dsimp only
  clear hs hx hb
  generalize str t = st at HA HM as0 fl HX ⊢
  generalize str x = sx at HM ⊢
  go_enter Try.func35, Try.ntmps35
  go_wp2_with fail
  refine (HA.out _).mono ?_
  rintro e w1 ⟨rfl, hb1⟩
  have HX1 := Lib.hid (HX.out.trans (hb1.mono HX.out.size))
  clear hb1
  go_wp2_with fail
  refine (HM.out _).mono ?_
  rintro e w2 ⟨rfl, hb2⟩
  have HX2 := Lib.hid (HX1.out.trans (hb2.mono HX1.out.size))
  clear hb2
  go_wp2_with fail
  go_ret
  exact ⟨rfl, HX2.out⟩

/-- Those that match. -/
def reached (l : List Sb) (x : List UInt8) : List Sb := l.filter fun s => matchB s.t x
theorem reached_step {l : List Sb} {x : List UInt8} {k : Nat} (h : k < l.length) : reached (l.take (k + 1)) x = if matchB (l[k]).t x = true then reached (l.take k) x ++ [l[k]] else reached (l.take k) x := by
  unfold reached
  rw [List.take_succ_eq_append_getElem h, List.filter_append]
  cases hb : matchB (l[k]).t x <;> simp [List.filter_cons, hb]
theorem reached_len (l : List Sb) (x : List UInt8) : (reached l x).length ≤ l.length := List.length_filter_le _ _

set_option maxRecDepth 100000 in
set_option maxHeartbeats 4000000 in
/-- subs.All. -/
theorem All_is (l : List Sb) (A : Option Addr) (c : Nat) (x : List UInt8) (m : List Sb) (w : World) (h : SubsAt w w.heap.size A l) (hm : May l) (hx : x.length ≤ 1000000) (ht : topicErr x = 0) (hr : reached l x = m) :
    Calls Try.prog 19 #[.slice A l.length c, .string (str x)] w (GivesList m w) := by
  obtain ⟨i0, hi, hz0, hz1, hz2⟩ := info_parts info_more
  have hl := hm.few
  have HC := Lib.hid (Check_is l A c w h hm)
  have HT := Lib.hid (fun W => Topic_is (str x) 0 W (by rw [str_size]; exact hx) (by rw [str_data]; exact ht))
  have HRe := Lib.hid (fun (s : Sb) (hs : s ∈ l) (b : Bool) (hb : matchB s.t x = b) W => reaches_is s x b W (hm.fine s hs) hx hb)
  have HKe := Lib.hid (fun (s : Sb) (hs : s ∈ l) W => copyOf_is s W (hm.fine s hs).len)
  have H := Lib.hid h
  have HR := Lib.hid hr
  clear h hm hx ht hr
  generalize hsx : str x = sx at HT HRe ⊢
  clear hsx
  go_enter Try.func19, Try.ntmps19
  go_wp2_with fail
  refine HC.out.mono ?_
  rintro e w1 ⟨rfl, hb1⟩
  have HX1 := Lib.hid hb1
  clear hb1 HC
  go_wp2_with fail
  refine (HT.out _).mono ?_
  rintro e w2 ⟨rfl, hb2⟩
  have HX2 := Lib.hid (HX1.out.trans (hb2.mono HX1.out.size))
  clear hb2 HX1 HT
  go_wp2_with fail
  go_loopw [6, 19] (fun m i wr => ∃ k n : Nat, k ≤ l.length ∧ n ≤ k ∧ i = .int .i64 (k : Int) ∧ n = (reached (l.take k) x).length ∧ wr.ownsRow w.heap.size 33 9 m n (flat (reached (l.take k) x)) ∧ Below w.heap.size w wr) (fun _ i _ => l.length - (RowKit.intOf i).toNat)
  case atStart => exact ⟨0, 0, Nat.zero_le _, Nat.le_refl _, rfl, rfl, World.ownsRow_nil _ _ _ _, HX2.out⟩
  case round =>
    obtain ⟨k, n, hk, hnk, rfl, hn, hown, hnx⟩ := hrel
    have h2 := hnx.size
    clear HX2
    by_cases hlt : k < l.length
    · obtain ⟨b0, o, rfl, _, hc⟩ := (H.out.below hnx).some_ (by omega)
      have hat := hc k hlt
      obtain ⟨d0, d1, d2, d3, d4, d5, d6, d7, d8⟩ := hat
      have HS := Lib.hid (reached_step (x := x) hlt)
      have HRe1 := Lib.hid (HRe.out _ (List.getElem_mem hlt))
      have HK := Lib.hid (HKe.out _ (List.getElem_mem hlt))
      have HN := Lib.hid hn
      clear hc hn
      obtain ⟨s, hs⟩ : ∃ s, l[k] = s := ⟨_, rfl⟩
      rw [hs] at d0 d1 HS HRe1 HK
      clear hs
      obtain ⟨t, q⟩ := s
      unfold sagg at HRe1 HK
      dsimp only at HRe1 HK d0 d1 HS
      obtain ⟨b, hb⟩ : ∃ b, matchB t x = b := ⟨_, rfl⟩
      have HB := Lib.hid (HRe1.out b hb)
      rw [hb] at HS
      have HO := Lib.hid hown
      have HNX := Lib.hid hnx
      clear hb hown hnx HRe1
      generalize hst : str t = st at HB HK d0
      have HST := Lib.hid hst
      clear hst
      have hkI : (k : Int) < (l.length : Int) := by omega
      go_wp2_with fail
      refine (HB.out _).mono ?_
      rintro e w3 ⟨rfl, hb3⟩
      have hwb := ((Below.refl wr.heap.size wr).alloc (Nat.le_refl _) (.cells (sarr st q) 33))
      have HBx := Lib.hid ((Blk.new wr 33 (sarr st q)).below hb3)
      have HW3 := Lib.hid (hwb.trans (hb3.mono hwb.size))
      have HX3 := Lib.hid (HNX.out.trans (HW3.out.mono h2))
      have HO3 := Lib.hid (own_below HO.out HW3.out)
      have h3 := HX3.out.size
      clear d0 d1 d2 d3 d4 d5 d6 d7 d8 hb3 hwb HO HNX HB
      generalize wr.heap.size = g at HBx ⊢
      cases b with
      | false =>
        have HF : Hid (reached (l.take (k + 1)) x = reached (l.take k) x) := HS.out
        go_wp2_with fail
        go_roundw
        case rel => exact ⟨k + 1, n, hlt, by omega, by go_num, by rw [HF.out]; exact HN.out, by rw [HF.out]; exact HO3.out, HX3.out⟩
        case measure => simp [RowKit.intOf]; omega
      | true =>
        have HF : Hid (reached (l.take (k + 1)) x = reached (l.take k) x ++ [⟨t, q⟩]) := HS.out
        have hld := load_blk HBx.out rfl
        unfold sarr at hld
        go_wp2_with (refine wpList_load_any (by rfl) 33 (.tmp 8) rfl g 0 rfl _ hld ?_; simp only [Act.put])
        refine (HK.out _).mono ?_
        rintro e w4 ⟨rfl, hb4⟩
        have HX4 := Lib.hid (HX3.out.trans (hb4.mono h3))
        have HO4 := Lib.hid (own_below HO3.out hb4)
        have h4 := HX4.out.size
        clear hb4 HO3 HX3 hld HBx HK
        go_wp2_with (at_builtin; refine wpList_append_own _ rfl _ _ 22 rfl w.heap.size 33 i0 (.agg zcells) 9 96 Try.underlying22 hi hz0 hz1 hz2 rfl (by decide) _ _ _ rfl (HO4.out.alloc _) ⟨w4.heap.size, 0, none⟩ 1 1 (scells ⟨t, q⟩) rfl rfl ?c1 ?c2 ?c3 ?c4 ?c5 ?_)
        case c1 => rw [← HST.out]; exact fun j u hu => cells_new _ _ _ j u hu
        case c2 => exact one_cells _
        case c3 => unfold maxLen; omega
        case c4 => first | omega | (simp; omega)
        case c5 => first | omega | (simp; omega)
        intro v' w5 hown' hgrow _
        have HX5 := Lib.hid (HX4.out.trans (below_alloc_grown h4 HO4.out hgrow))
        have HO5 : Hid (w5.ownsRow w.heap.size 33 9 v' (n + 1) (flat (reached (l.take (k + 1)) x))) := by show World.ownsRow _ _ _ _ _ _ _; rw [HF.out, flat_snoc]; exact hown'
        clear hown' hgrow HO4 HX4
        go_wp2
        go_roundw
        case rel => exact ⟨k + 1, n + 1, hlt, by omega, by go_num, by rw [HF.out, List.length_append, ← HN.out]; rfl, HO5.out, HX5.out⟩
        case measure => simp [RowKit.intOf]; omega
    · obtain rfl : k = l.length := by omega
      rw [List.take_length, HR.out] at hown hn
      subst hn
      obtain ⟨A', c', hv⟩ := own_slice hown
      have HX := Lib.hid hnx
      subst hv
      have HS := Lib.hid (SubsAt.of_own hown)
      clear hown hnx
      go_wp2
      go_ret2
      exact ⟨A', c', rfl, HS.out, HX.out⟩
end Go.Proofs.Ytdogeljlcnlbkaa.Sbs
