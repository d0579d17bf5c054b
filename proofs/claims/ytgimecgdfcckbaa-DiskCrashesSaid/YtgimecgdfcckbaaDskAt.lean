/- Package disk, call by call, for statements that run it: what was there ahead of a disk stays. -/
import Derived.Test.YtgimecgdfcckbaaDskCrash
namespace Go.Proofs.Ytgimecgdfcckbaa.Dsk
open Go.RowKit Go.Lib Go.Maps

/-- A disk that came behind w0: nothing that was there then has turned. -/
def At (w0 w : World) (d : Nat) (F : List Fl) (l : Int) (off : Bool) : Prop := Below w0.heap.size w0 w ∧ ∃ X, Dk w X d F l off ∧ ∀ k, X k → w0.heap.size ≤ k
section
variable {w0 w w' : World} {d : Nat} {F G : List Fl} {l l' : Int} {off off' : Bool} {X : Nat → Prop}
theorem At.good (h : At w0 w d F l off) : GoodF F := by
  obtain ⟨_, X, h, _⟩ := h
  exact h.good
theorem At.low (h : At w0 w d F l off) : Below w0.heap.size w0 w := h.1
theorem At.below (h : At w0 w d F l off) (hb : Below w.heap.size w w') : At w0 w' d F l off := by
  obtain ⟨h1, X, h2, h3⟩ := h
  exact ⟨h1.trans (hb.mono h1.size), X, h2.below hb, h3⟩
theorem At.drewN (h : At w0 w d F l off) (n : Nat) : At w0 (w.drewN n) d F l off := h.below (below_drewN (Below.refl _ _) n)
theorem At.drew (h : At w0 w d F l off) : At w0 w.drew d F l off := h.below (Below.refl _ _).drew
theorem At.alloc (h : At w0 w d F l off) (o : Obj) : At w0 (w.alloc o) d F l off := h.below ((Below.refl _ _).alloc (Nat.le_refl _) o)
theorem at_step (hb : Below w0.heap.size w0 w) (hX : ∀ k, X k → w0.heap.size ≤ k) (h : Then X w w' d G l' off') : At w0 w' d G l' off' := by
  obtain ⟨X', h1, h2, h3⟩ := h
  refine ⟨hb.trans (h2.below hb.size hX), X', h1, fun k hk => ?_⟩
  rcases h3 k hk with h | h
  · exact hX k h
  · exact Nat.le_trans hb.size h
theorem app_at (h : At w0 w d F 0 false) (n s : List UInt8) (E : Int) (G : List Fl) (hn : n.length ≤ 140737488351232) (hs : s.length ≤ 140737488351232) (hE : appE F n s = E) (hG : appF F n s = G) :
    Calls Try.prog 13 #[.pointer (some ⟨d, 0, none⟩), .string (str n), .string (str s)] w fun e w' => e = .returned (.int .i64 E) ∧ At w0 w' d G 0 false := by
  obtain ⟨hb, X, h, hX⟩ := h
  exact (Append_on w X d F n s 0 false E G (by omega) hn hs h rfl hE hG).mono fun e w' ⟨h1, h2⟩ => ⟨h1, at_step hb hX h2⟩
/-- The same, the power counted. -/
theorem app_on_at (h : At w0 w d F l off) (L : Nat) (hL : (L : Int) = l) (hl : L ≤ 1000000) (n s : List UInt8) (E : Int) (G : List Fl) (hn : n.length ≤ 140737488351232) (hs : s.length ≤ 140737488351232) (hon : tickO L off = false) (hE : appE F n s = E) (hG : appF F n s = G) :
    Calls Try.prog 13 #[.pointer (some ⟨d, 0, none⟩), .string (str n), .string (str s)] w fun e w' => e = .returned (.int .i64 E) ∧ At w0 w' d G (tickL L : Nat) false := by
  obtain ⟨hb, X, h, hX⟩ := h
  subst hL
  refine (Append_on w X d F n s L off E G hl hn hs h hon hE hG).mono fun e w' ⟨h1, h2⟩ => ⟨h1, ?_⟩
  rw [hon] at h2
  exact at_step hb hX h2
theorem app_off_at (h : At w0 w d F l off) (L : Nat) (hL : (L : Int) = l) (hl : L ≤ 1000000) (n s : List UInt8) (hon : tickO L off = true) :
    Calls Try.prog 13 #[.pointer (some ⟨d, 0, none⟩), .string (str n), .string (str s)] w fun e w' => e = .returned (.int .i64 10) ∧ At w0 w' d F (tickL L : Nat) true := by
  obtain ⟨hb, X, h, hX⟩ := h
  subst hL
  refine (Append_off w X d F n s L off hl h hon).mono fun e w' ⟨h1, h2⟩ => ⟨h1, ?_⟩
  rw [hon] at h2
  exact at_step hb hX h2
theorem sync_at (h : At w0 w d F 0 false) (n : List UInt8) (E : Int) (G : List Fl) (hn : n.length ≤ 140737488351232) (hE : syncE F n = E) (hG : syncF F n = G) :
    Calls Try.prog 14 #[.pointer (some ⟨d, 0, none⟩), .string (str n)] w fun e w' => e = .returned (.int .i64 E) ∧ At w0 w' d G 0 false := by
  obtain ⟨hb, X, h, hX⟩ := h
  exact (Sync_is w X d F n E G hn h hE hG).mono fun e w' ⟨h1, h2⟩ => ⟨h1, at_step hb hX h2⟩
theorem cut_at (h : At w0 w d F 0 false) (n : List UInt8) (k : Int) (E : Int) (G : List Fl) (hn : n.length ≤ 140737488351232) (hE : cutE F n k = E) (hG : cutF F n k = G) :
    Calls Try.prog 46 #[.pointer (some ⟨d, 0, none⟩), .string (str n), .int .i64 k] w fun e w' => e = .returned (.int .i64 E) ∧ At w0 w' d G 0 false := by
  obtain ⟨hb, X, h, hX⟩ := h
  exact (Cut_is w X d F n k E G hn h hE hG).mono fun e w' ⟨h1, h2⟩ => ⟨h1, at_step hb hX h2⟩
theorem del_at (h : At w0 w d F 0 false) (n : List UInt8) (E : Int) (G : List Fl) (hn : n.length ≤ 140737488351232) (hE : syncE F n = E) (hG : delF F n = G) :
    Calls Try.prog 22 #[.pointer (some ⟨d, 0, none⟩), .string (str n)] w fun e w' => e = .returned (.int .i64 E) ∧ At w0 w' d G 0 false := by
  obtain ⟨hb, X, h, hX⟩ := h
  exact (Del_is w X d F n E G hn h hE hG).mono fun e w' ⟨h1, h2⟩ => ⟨h1, at_step hb hX h2⟩
theorem ren_at (h : At w0 w d F 0 false) (a z : List UInt8) (E : Int) (G : List Fl) (ha : a.length ≤ 140737488351232) (hz : z.length ≤ 140737488351232) (hE : renE F a z = E) (hG : renF F a z = G) :
    Calls Try.prog 15 #[.pointer (some ⟨d, 0, none⟩), .string (str a), .string (str z)] w fun e w' => e = .returned (.int .i64 E) ∧ At w0 w' d G 0 false := by
  obtain ⟨hb, X, h, hX⟩ := h
  exact (Rename_is w X d F a z E G ha hz h hE hG).mono fun e w' ⟨h1, h2⟩ => ⟨h1, at_step hb hX h2⟩
theorem names_off_at (h : At w0 w d F l true) : Calls Try.prog 17 #[.pointer (some ⟨d, 0, none⟩)] w fun e w' => e = .returned (.tuple #[.slice none 0 0, .int .i64 10]) ∧ w' = w := by
  obtain ⟨hb, X, h, hX⟩ := h
  exact Names_off w X d F l h
theorem names_on_at (h : At w0 w d F l false) : Calls Try.prog 17 #[.pointer (some ⟨d, 0, none⟩)] w fun e w' => (∃ A c, e = .returned (.tuple #[.slice A F.length c, .int .i64 0])) ∧ At w0 w' d F l false := by
  have h0 := h
  obtain ⟨hb, X, h, hX⟩ := h
  exact (Names_on w X d F l h).mono fun e w' ⟨h1, h2⟩ => ⟨h1, h0.below h2⟩
theorem size_at (h : At w0 w d F l false) (f : Fl) (hf : f ∈ F) (hn : f.n.length ≤ 140737488351232) : Calls Try.prog 21 #[.pointer (some ⟨d, 0, none⟩), .string (str f.n)] w fun e w' => e = .returned (.tuple #[.int .i64 (f.t.length : Int), .int .i64 0]) ∧ w' = w := by
  obtain ⟨hb, X, h, hX⟩ := h
  exact Size_is w X d F l f hf hn h
theorem off_at (h : At w0 w d F 0 false) (n : Int) : Calls Try.prog 20 #[.pointer (some ⟨d, 0, none⟩), .int .i64 n] w fun e w' => e = .returned (.tuple #[]) ∧ At w0 w' d F (if n < 1 then 0 else n) (decide (n < 1)) := by
  obtain ⟨hb, X, h, hX⟩ := h
  exact (Off_is w X d F n h).mono fun e w' ⟨h1, h2, h3⟩ => ⟨h1, at_step hb hX (then_same h2 h3)⟩
theorem new_at (ns ts : List (List UInt8)) (A B : Option Addr) (c c' : Nat) (R : List Fl) (w : World) (hA : Strs w w.heap.size A ns) (hB : Strs w w.heap.size B ts) (hn : ∀ x ∈ ns, x.length ≤ 140737488351232) (ht : ∀ x ∈ ts, x.length ≤ 140737488351232)
    (hln : ns.length ≤ 1000000) (hlt : ts.length ≤ 1000000) (hb : mayFrom [] ns ts = true) (hR : newF ns ts = R) :
    Calls Try.prog 11 #[.slice A ns.length c, .slice B ts.length c'] w fun e w' => ∃ d, e = .returned (.tuple #[.pointer (some ⟨d, 0, none⟩), .int .i64 0]) ∧ At w w' d R 0 false := by
  refine (New_is ns ts A B c c' true R w hA hB hn ht hln hlt hb hR).mono fun e w' ⟨h1, _, h2⟩ => ?_
  obtain ⟨d, X, e1, e2, e3⟩ := h2 rfl
  exact ⟨d, e1, h1, X, e2, e3⟩
theorem new_none_at (w : World) : Calls Try.prog 11 #[.slice none 0 0, .slice none 0 0] w fun e w' => ∃ d, e = .returned (.tuple #[.pointer (some ⟨d, 0, none⟩), .int .i64 0]) ∧ At w w' d [] 0 false :=
  new_at [] [] none none 0 0 [] w .none_ .none_ (fun _ h => by cases h) (fun _ h => by cases h) (by simp) (by simp) rfl rfl
/-- Picks that lie ahead of the disk, or came behind its last call. -/
theorem crash_at (h : At w0 w d F l off) (hbw : Below w.heap.size w w') (P : Option Addr) (cp : Nat) (ps : List Int) (hps : Nums w' w'.heap.size .i64 P ps) (hpx : ∀ a, P = some a → a.block < w0.heap.size ∨ w.heap.size ≤ a.block) (hpl : ps.length ≤ 100000000) :
    Calls Try.prog 16 #[.pointer (some ⟨d, 0, none⟩), .slice P ps.length cp] w' fun e w2 => ∃ A c B c', e = .returned (.tuple #[.slice A F.length c, .slice B F.length c']) ∧
      Strs w2 w2.heap.size A (names F) ∧ Strs w2 w2.heap.size B (crashT F ps) ∧ At w0 w2 d F l true := by
  have h' := h.below hbw
  obtain ⟨hb, X, h, hX⟩ := h
  refine (Crash_is w' X d F l off P cp ps (h.below hbw) hps (fun a ha _ hXa => ?_) hpl).mono fun e w2 ⟨A, c, B, c', h1, h2, h3, h4, h5⟩ => ?_
  · rcases hpx a ha with hlt | hge
    · have := hX _ hXa; omega
    · have := h.lt _ hXa; omega
  · refine ⟨A, c, B, c', h1, ?_, ?_, at_step (h'.1) hX (then_same h4 h5)⟩
    · refine Strs.of_own (c := c) (base := w'.heap.size) (e := 9) ?_
      rw [names_len]; exact h2
    · refine Strs.of_own (c := c') (base := w'.heap.size) (e := 9) ?_
      rw [crash_len]; exact h3
theorem crash_none_at (h : At w0 w d F l off) :
    Calls Try.prog 16 #[.pointer (some ⟨d, 0, none⟩), .slice none 0 0] w fun e w' => ∃ A c B c', e = .returned (.tuple #[.slice A F.length c, .slice B F.length c']) ∧
      Strs w' w'.heap.size A (names F) ∧ Strs w' w'.heap.size B (crashT F []) ∧ At w0 w' d F l true :=
  crash_at h (Below.refl _ _) none 0 [] .none_ (fun a ha => by cases ha) (by simp)
/-- One pick, in a slice of its own. -/
theorem crash_one_at (h : At w0 w d F l off) (p : Int) :
    Calls Try.prog 16 #[.pointer (some ⟨d, 0, none⟩), .slice (some ⟨w.heap.size, 0, none⟩) 1 1] (w.alloc (.cells #[.int .i64 p] 3)) fun e w' => ∃ A c B c', e = .returned (.tuple #[.slice A F.length c, .slice B F.length c']) ∧
      Strs w' w'.heap.size A (names F) ∧ Strs w' w'.heap.size B (crashT F [p]) ∧ At w0 w' d F l true :=
  crash_at h ((Below.refl _ _).alloc (Nat.le_refl _) _) (some ⟨w.heap.size, 0, none⟩) 1 [p] ((lit_nums w #[.int .i64 p] [p] .i64 3 rfl).mono (by simp)) (fun a ha => by cases ha; exact .inr (Nat.le_refl _)) (by simp)
end
set_option maxHeartbeats 1000000 in
theorem num_is (n : Int) (w : World) : Calls Try.prog 12 #[.int .i64 n] w fun e w' => e = .returned (.int .i64 n) ∧ w = w' := by
  go_enter Try.func12, Try.ntmps12
  go_wp2
  go_ret
  exact ⟨rfl, rfl⟩
set_option maxRecDepth 100000 in
set_option maxHeartbeats 1000000 in
/-- EqStrings of the same texts: yes. -/
theorem EqStrings_same (xs : List (List UInt8)) (n : Nat) (A A' : Option Addr) (c c' B B' : Nat) (w : World) (hn : xs.length = n) (hm : n ≤ 9223372036854775807) (h : Strs w B A xs) (h' : Strs w B' A' xs) :
    Calls Try.prog 18 #[.slice A n c, .slice A' n c'] w fun e w' => e = .returned (.bool true) ∧ ∃ n, w' = w.drewN n := by
  have H := Lib.hid h
  have H' := Lib.hid h'
  have HN := Lib.hid hn
  clear h h' hn
  go_enter Try.func18, Try.ntmps18
  go_wp2_with fail
  go_loopw [5] (fun i wr => ∃ k m : Nat, k ≤ n ∧ i = .int .i64 (k : Int) ∧ wr = w.drewN m) (fun i _ => n - (RowKit.intOf i).toNat)
  case atStart => exact ⟨0, 0, Nat.zero_le _, rfl, rfl⟩
  case round =>
    obtain ⟨k, m, hk, rfl, rfl⟩ := hrel
    by_cases hlt : k < n
    · obtain ⟨a, rfl, _, hc⟩ := H.out.some_ (by rw [HN.out]; omega)
      obtain ⟨a', rfl, _, hc'⟩ := H'.out.some_ (by rw [HN.out]; omega)
      have h1 := hc k (by rw [HN.out]; omega)
      have h2 := hc' k (by rw [HN.out]; omega)
      generalize str (xs.getD k []) = s at h1 h2
      clear hc hc' H H'
      have hkI : (k : Int) < (n : Int) := by omega
      go_wp2
      go_quiet (fail)
      go_wp2
      go_roundw
      case rel => exact ⟨k + 1, _, hlt, by go_num, rfl⟩
      case measure => simp [RowKit.intOf]; omega
    · go_wp2
      go_ret
      exact ⟨rfl, m, rfl⟩

set_option maxRecDepth 100000 in
set_option maxHeartbeats 4000000 in
/-- What every statement asks last. -/
theorem wakes_is (w : World) : Calls Try.prog 19 #[] w fun e w' => e = .returned (.bool true) ∧ Below w.heap.size w w' := by
  have HN := Lib.hid (new_none_at w)
  have HA := Lib.hid (fun d W (h : At w W d [] 0 false) => show Calls Try.prog 13 #[.pointer (some ⟨d, 0, none⟩), .string ⟨#[97]⟩, .string ⟨#[98, 99]⟩] W fun e w' => e = .returned (.int .i64 0) ∧ At w w' d [⟨[97], [98, 99], 0⟩] 0 false from
    app_at h [97] [98, 99] 0 [⟨[97], [98, 99], 0⟩] (by decide) (by decide) (by decide +kernel) rfl)
  have HS := Lib.hid (fun d W (h : At w W d [⟨[97], [98, 99], 0⟩] 0 false) => show Calls Try.prog 14 #[.pointer (some ⟨d, 0, none⟩), .string ⟨#[97]⟩] W fun e w' => e = .returned (.int .i64 0) ∧ At w w' d [⟨[97], [98, 99], 2⟩] 0 false from
    sync_at h [97] 0 [⟨[97], [98, 99], 2⟩] (by decide) (by decide +kernel) rfl)
  have HC := Lib.hid (fun d W (h : At w W d [⟨[97], [98, 99], 2⟩] 0 false) => show Calls Try.prog 16 #[.pointer (some ⟨d, 0, none⟩), .slice none 0 0] W fun e w' => ∃ A c B c', e = .returned (.tuple #[.slice A 1 c, .slice B 1 c']) ∧ Strs w' w'.heap.size A [[97]] ∧ Strs w' w'.heap.size B [[98, 99]] ∧ At w w' d [⟨[97], [98, 99], 2⟩] 0 true from crash_none_at h)
  have HE := Lib.hid (fun (xs : List (List UInt8)) A A' c c' B B' W (h : Strs W B A xs) (h' : Strs W B' A' xs) (hl : xs.length = 1) => EqStrings_same xs 1 A A' c c' _ _ W hl (by omega) h h')
  go_enter Try.func19, Try.ntmps19
  go_wp2_with fail
  refine HN.out.mono ?_
  rintro e w1 ⟨d, rfl, h1⟩
  have H1 := Lib.hid h1
  clear h1 HN
  go_wp2_with (go_at_call 12; refine (num_is _ _).mono ?_; rintro e w' ⟨rfl, rfl⟩)
  refine (HA.out _ _ H1.out).mono ?_
  rintro e w2 ⟨rfl, h2⟩
  have H2 := Lib.hid h2
  clear h2 HA H1
  go_wp2_with fail
  refine (HS.out _ _ H2.out).mono ?_
  rintro e w3 ⟨rfl, h3⟩
  have H3 := Lib.hid h3
  clear h3 HS H2
  go_wp2_with fail
  refine (HC.out _ _ H3.out).mono ?_
  rintro e w4 ⟨A, c, B, c', rfl, hA, hB, h4⟩
  have HA4 := Lib.hid hA
  have HB4 := Lib.hid hB
  have H4 := Lib.hid h4
  clear hA hB h4 HC H3
  go_wp2_with (go_at_call 12; refine (num_is _ _).mono ?_; rintro e w' ⟨rfl, rfl⟩)
  have hal := (Below.refl w4.heap.size w4).alloc (Nat.le_refl _) (.cells #[.string ⟨#[97]⟩] 9)
  refine (HE.out [[97]] _ _ _ _ _ _ _ (HA4.out.alloc (Nat.le_refl _) _) (lit_strs w4 #[.string ⟨#[97]⟩] [[97]] 9 rfl) rfl).mono ?_
  rintro e w5 ⟨rfl, n5, rfl⟩
  have HB5 := Lib.hid ((HB4.out.alloc (Nat.le_refl _) (.cells #[.string ⟨#[97]⟩] 9)).drewN n5)
  have H5 := Lib.hid ((H4.out.alloc (.cells #[.string ⟨#[97]⟩] 9)).drewN n5)
  clear hal HA4 HB4 H4
  obtain ⟨W5, hW5⟩ : ∃ W5, (w4.alloc (.cells #[.string ⟨#[97]⟩] 9)).drewN n5 = W5 := ⟨_, rfl⟩
  have hsz : w4.heap.size ≤ W5.heap.size := by rw [← hW5]; show w4.heap.size ≤ (w4.alloc _).heap.size; simp
  rw [hW5] at HB5 H5 ⊢
  clear hW5
  go_wp2_with fail
  refine (HE.out [[98, 99]] _ _ _ _ _ _ _ (HB5.out.alloc hsz _) (lit_strs W5 #[.string ⟨#[98, 99]⟩] [[98, 99]] 9 rfl) rfl).mono ?_
  rintro e w6 ⟨rfl, n6, rfl⟩
  have H6 := Lib.hid ((H5.out.alloc (.cells #[.string ⟨#[98, 99]⟩] 9)).drewN n6)
  clear H5 HB5 hsz
  go_wp2_with fail
  go_ret
  exact ⟨rfl, H6.out.low⟩
end Go.Proofs.Ytgimecgdfcckbaa.Dsk
