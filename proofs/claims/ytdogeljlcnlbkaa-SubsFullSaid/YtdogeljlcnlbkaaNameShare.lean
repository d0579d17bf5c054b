/- Package name: shared filters. -/
import Derived.Test.YtdogeljlcnlbkaaNameTop
import Derived.Lib.IndexLaws
namespace Go.Proofs.Ytdogeljlcnlbkaa
open Go.RowKit Go.Lib Txt Nam

/-! ### strings.Cut at / -/
theorem head_free : ∀ a : List UInt8, (∀ c ∈ a, c ≠ 47) → head a = a ∧ tail a = []
  | [], _ => ⟨rfl, rfl⟩
  | c :: a, h => by
    have hc : c ≠ 47 := h c (by simp)
    obtain ⟨h1, h2⟩ := head_free a (fun x hx => h x (by simp [hx]))
    constructor
    · unfold head at h1 ⊢; rw [List.takeWhile_cons, if_pos (by simpa using hc), h1]
    · unfold tail at h2 ⊢; rw [List.dropWhile_cons, if_pos (by simpa using hc)]; exact h2
theorem head_part : ∀ (a b : List UInt8), (∀ c ∈ a, c ≠ 47) → head (a ++ 47 :: b) = a ∧ tail (a ++ 47 :: b) = b
  | [], b, _ => ⟨rfl, rfl⟩
  | c :: a, b, h => by
    have hc : c ≠ 47 := h c (by simp)
    obtain ⟨h1, h2⟩ := head_part a b (fun x hx => h x (by simp [hx]))
    constructor
    · unfold head at h1 ⊢; rw [List.cons_append, List.takeWhile_cons, if_pos (by simpa using hc), h1]
    · unfold tail at h2 ⊢; rw [List.cons_append, List.dropWhile_cons, if_pos (by simpa using hc)]; exact h2
theorem head_none {x : List UInt8} (h : indexByte x 47 = -1) : head x = x ∧ tail x = [] := by
  refine head_free x fun c hc => ?_
  obtain ⟨j, hj, rfl⟩ := List.mem_iff_getElem.1 hc
  have := indexByte_none h j
  rw [List.getElem?_eq_getElem hj] at this
  intro e; exact this (by rw [e])
theorem head_some {x : List UInt8} {i : Nat} (h : indexByte x 47 = i) : head x = x.take i ∧ tail x = x.drop (i + 1) ∧ i < x.length := by
  obtain ⟨h1, h2⟩ := indexByte_some h
  have hi : i < x.length := by
    rcases Nat.lt_or_ge i x.length with h | h
    · exact h
    · rw [List.getElem?_eq_none h] at h1; cases h1
  rw [List.getElem?_eq_getElem hi] at h1
  injection h1 with h1
  have e : x = x.take i ++ 47 :: x.drop (i + 1) := by
    rw [← h1, ← List.drop_eq_getElem_cons hi, List.take_append_drop]
  have hf : ∀ c ∈ x.take i, c ≠ 47 := by
    intro c hc
    obtain ⟨j, hj, rfl⟩ := List.mem_iff_getElem.1 hc
    rw [List.length_take] at hj
    rw [List.getElem_take]
    have := h2 j (by omega)
    rw [List.getElem?_eq_getElem (by omega)] at this
    intro e; exact this (by rw [e])
  obtain ⟨p1, p2⟩ := head_part _ (x.drop (i + 1)) hf
  rw [← e] at p1 p2
  exact ⟨p1, p2, hi⟩
set_option maxRecDepth 100000 in
set_option maxHeartbeats 2000000 in
theorem cut_is (s : ByteArray) (w : World) (hs : s.size ≤ 1000000) :
    Calls Try.prog 63 #[.string s, .string ⟨#[47]⟩] w fun e w' => ∃ b n, e = .returned (.tuple #[.string (str (head s.data.toList)), .string (str (tail s.data.toList)), .bool b]) ∧ w' = w.drewN n := by
  have HI := Lib.hid (fun W => Try.stringslite_Index_one s 47 W)
  have hge := indexByte_ge s.data.toList 47
  by_cases hn : indexByte s.data.toList 47 = -1
  · obtain ⟨h1, h2⟩ := head_none hn
    rw [h1, h2, data_str]
    rw [hn] at HI
    clear hn h1 h2 hge
    go_enter Try.func63, Try.ntmps63
    go_wp2_with (go_at_call 71; refine (HI.out _).mono ?_; rintro e w' ⟨rfl, rfl⟩)
    go_ret3
    exact ⟨false, 0, rfl, rfl⟩
  · obtain ⟨i, hi⟩ : ∃ i : Nat, indexByte s.data.toList 47 = i := ⟨(indexByte s.data.toList 47).toNat, by omega⟩
    obtain ⟨h1, h2, h3⟩ := head_some hi
    have e1 : s.extract 0 i = str (head s.data.toList) := by rw [extract_cutL, h1]; unfold cutL; simp
    have e2 : s.extract (i + 1) s.size = str (tail s.data.toList) := by rw [extract_cutL, cutL_all _ _ _ (Nat.le_refl _), h2]
    rw [← Lib.size_eq] at h3
    rw [hi] at HI
    rw [← e1, ← e2]
    have c1 : (0 : Int) ≤ (i : Int) := by omega
    have c2 : (i : Int) ≤ (s.size : Int) := by omega
    have c3 : (i : Int) + 1 ≤ (s.size : Int) := by omega
    clear hn h1 h2 hge hi e1 e2
    go_enter Try.func63, Try.ntmps63
    go_wp2_with (go_at_call 71; refine (HI.out _).mono ?_; rintro e w' ⟨rfl, rfl⟩)
    go_quiet (fail)
    go_wp2
    go_ret3
    exact ⟨true, _, rfl, rfl⟩
set_option maxRecDepth 100000 in
set_option maxHeartbeats 2000000 in
theorem Cut_is (s : ByteArray) (w : World) (hs : s.size ≤ 1000000) :
    Calls Try.prog 49 #[.string s, .string ⟨#[47]⟩] w fun e w' => ∃ b, e = .returned (.tuple #[.string (str (head s.data.toList)), .string (str (tail s.data.toList)), .bool b]) ∧ Below w.heap.size w w' := by
  have HC := Lib.hid (fun W => cut_is s W hs)
  go_enter Try.func49, Try.ntmps49
  go_wp2_with (go_at_call 63; refine (HC.out _).mono ?_; rintro e w' ⟨b, n, rfl, rfl⟩)
  go_ret3
  exact ⟨b, rfl, below_drewN (Below.refl _ _) _⟩

set_option maxRecDepth 100000 in
set_option maxHeartbeats 2000000 in
/-- name.isGroup. -/
theorem isGroup_is (s : ByteArray) (b : Bool) (w : World) (hs : s.size ≤ 1000000) (hb : groupB s.data.toList = b) :
    Calls Try.prog 50 #[.string s] w fun e w' => e = .returned (.bool b) ∧ Below w.heap.size w w' := by
  have HC := Lib.hid (Check_any s w (by omega))
  by_cases h0 : textErr s.data.toList = 0
  · by_cases he : s.data.toList = []
    · have hs0 : s = ⟨#[]⟩ := by rw [← data_str s, he]; rfl
      have HB := Lib.hid (show false = b by rw [← hb]; unfold groupB; rw [he]; simp)
      rw [h0] at HC
      clear hb h0 he
      subst hs0
      go_enter Try.func50, Try.ntmps50
      go_wp2_with (go_at_call 59; refine HC.out.mono ?_; rintro e w1 ⟨rfl, hb1⟩)
      go_ret
      exact ⟨ret_bool HB.out, hb1⟩
    · have hq := empty_no he
      have hq2 : (s.toList == []) = false := by rw [beq_eq_false_iff_ne]; exact hq
      have hse : ¬ s = ByteArray.empty := by rintro rfl; exact he rfl
      have hie : s.data.toList.isEmpty = false := by cases hl : s.data.toList <;> simp_all
      have hp : plain s.data.toList = b := by rw [← hb]; unfold groupB; rw [hie, h0]; simp
      have HP := Lib.hid (fun W => isPlain_is s b W hp)
      rw [h0] at HC
      clear hb h0 he hie hp
      go_enter Try.func50, Try.ntmps50
      go_wp2_with (first | (go_at_call 59; refine HC.out.mono ?_; rintro e w1 ⟨rfl, hb1⟩) | (go_at_call 46; refine (HP.out _).mono ?_; rintro e w2 ⟨rfl, hb2⟩))
      go_ret
      exact ⟨rfl, hb1.trans (hb2.mono hb1.size)⟩
  · have HB := Lib.hid (show false = b by rw [← hb]; unfold groupB; rw [decide_eq_false h0]; rfl)
    have q : (textErr s.data.toList == 0) = false := by rw [beq_eq_false_iff_ne]; exact h0
    clear hb h0
    generalize textErr s.data.toList = T at HC q
    go_enter Try.func50, Try.ntmps50
    go_wp2_with (go_at_call 59; refine HC.out.mono ?_; rintro e w1 ⟨rfl, hb1⟩)
    go_ret
    exact ⟨ret_bool HB.out, hb1⟩

/-- What Share tells. -/
def shV (r : Sh) : Value := .tuple #[.bool r.is, .string (str r.group), .string (str r.filter), .int .i64 r.err]
theorem takeWhile_len (l : List UInt8) (p : UInt8 → Bool) : (l.takeWhile p).length ≤ l.length := by
  have := congrArg List.length (List.takeWhile_append_dropWhile (p := p) (l := l))
  rw [List.length_append] at this; omega
theorem dropWhile_len (l : List UInt8) (p : UInt8 → Bool) : (l.dropWhile p).length ≤ l.length := by
  have := congrArg List.length (List.takeWhile_append_dropWhile (p := p) (l := l))
  rw [List.length_append] at this; omega
theorem head_len (l : List UInt8) : (head l).length ≤ l.length := takeWhile_len _ _
theorem tail_len (l : List UInt8) : (tail l).length ≤ l.length := by
  unfold tail
  rw [List.length_drop]
  have := dropWhile_len l (fun c => c != 47)
  omega

set_option maxRecDepth 100000 in
set_option maxHeartbeats 4000000 in
/-- name.Share. -/
theorem Share_is (s : ByteArray) (r : Sh) (w : World) (hs : s.size ≤ 1000000) (hr : shareOf s.data.toList = r) :
    Calls Try.prog 36 #[.string s] w fun e w' => e = .returned (shV r) ∧ Below w.heap.size w w' := by
  have hpre := fun W => Try.strings_CutPrefix s ⟨#[36, 115, 104, 97, 114, 101, 47]⟩ W
  unfold shareOf at hr
  cases hp : hasPrefix s.data.toList shareSign with
  | false =>
    have e1 : trimPrefix s.data.toList shareSign = s.data.toList := by unfold trimPrefix; rw [hp]; rfl
    rw [hp, if_neg (by decide)] at hr
    have HP := Lib.hid (fun W => show Calls Try.prog 47 #[.string s, .string ⟨#[36, 115, 104, 97, 114, 101, 47]⟩] W fun e w' => e = .returned (.tuple #[.string s, .bool false]) ∧ W = w' from (hpre W).mono fun e w' ⟨h1, h2⟩ => ⟨by
      rw [h1]
      show Ending.returned (.tuple #[.string ⟨(trimPrefix s.data.toList shareSign).toArray⟩, .bool (hasPrefix s.data.toList shareSign)]) = _
      rw [e1, hp], h2.symm⟩)
    clear hpre hp e1
    obtain ⟨E, hE⟩ : ∃ E, filterErr s.data.toList = E := ⟨_, rfl⟩
    have HF := Lib.hid (fun W => Filter_is s E W hs hE)
    rw [hE] at hr
    by_cases h0 : E = 0
    · rw [if_pos h0] at hr
      have HC := Lib.hid (fun W => Clone_same s W (by omega))
      have HR := Lib.hid (show shV r = .tuple #[.bool false, .string ⟨#[]⟩, .string s, .int .i64 0] by rw [← hr]; unfold shV; dsimp only; rw [data_str]; rfl)
      subst h0
      clear hr hE
      go_enter Try.func36, Try.ntmps36
      go_wp2_with (first | (go_at_call 47; refine (HP.out _).mono ?_; rintro e w' ⟨rfl, rfl⟩) | (go_at_call 48; refine (HF.out _).mono ?_; rintro e w1 ⟨rfl, hb1⟩) | (go_at_call 27; refine (HC.out _).mono ?_; rintro e w2 ⟨rfl, hb2⟩))
      refine bodyPost_ret (v := .tuple #[.bool false, .string ⟨#[]⟩, .string s, .int .i64 0]) (by simp [results, Try.results36, go_sem]) rfl ⟨by rw [HR.out], hb1.trans (hb2.mono hb1.size)⟩
    · rw [if_neg h0] at hr
      have HR := Lib.hid (show shV r = .tuple #[.bool false, .string ⟨#[]⟩, .string ⟨#[]⟩, .int .i64 E] by rw [← hr]; rfl)
      have q : (E != 0) = true := by rw [bne_iff_ne]; exact h0
      clear hr hE h0
      go_enter Try.func36, Try.ntmps36
      go_wp2_with (first | (go_at_call 47; refine (HP.out _).mono ?_; rintro e w' ⟨rfl, rfl⟩) | (go_at_call 48; refine (HF.out _).mono ?_; rintro e w1 ⟨rfl, hb1⟩))
      refine bodyPost_ret (v := .tuple #[.bool false, .string ⟨#[]⟩, .string ⟨#[]⟩, .int .i64 E]) (by simp [results, Try.results36, go_sem]) rfl ⟨by rw [HR.out], hb1⟩
  | true =>
    have e1 : trimPrefix s.data.toList shareSign = s.data.toList.drop 7 := by unfold trimPrefix; rw [hp]; rfl
    rw [hp, if_pos rfl] at hr
    have HP := Lib.hid (fun W => show Calls Try.prog 47 #[.string s, .string ⟨#[36, 115, 104, 97, 114, 101, 47]⟩] W fun e w' => e = .returned (.tuple #[.string (str (s.data.toList.drop 7)), .bool true]) ∧ W = w' from (hpre W).mono fun e w' ⟨h1, h2⟩ => ⟨by
      rw [h1]
      show Ending.returned (.tuple #[.string ⟨(trimPrefix s.data.toList shareSign).toArray⟩, .bool (hasPrefix s.data.toList shareSign)]) = _
      rw [e1, hp]; rfl, h2.symm⟩)
    clear hpre hp e1
    have hl : (s.data.toList.drop 7).length ≤ 1000000 := by rw [List.length_drop, ← Lib.size_eq]; omega
    generalize s.data.toList.drop 7 = x at hr HP hl
    have HK := Lib.hid (fun W => Cut_is (str x) W (by rw [str_size]; exact hl))
    rw [str_data] at HK
    have hg := head_len x
    have hf := tail_len x
    generalize head x = g at hr HK hg
    generalize tail x = f at hr HK hf
    obtain ⟨G, hG⟩ : ∃ G, groupB g = G := ⟨_, rfl⟩
    obtain ⟨E, hE⟩ : ∃ E, filterErr f = E := ⟨_, rfl⟩
    rw [hG, hE] at hr
    have HG := Lib.hid (fun W => isGroup_is (str g) G W (by rw [str_size]; omega) (by rw [str_data]; exact hG))
    have HF := Lib.hid (fun W => Filter_is (str f) E W (by rw [str_size]; omega) (by rw [str_data]; exact hE))
    have HCg := Lib.hid (fun W => Clone_same (str g) W (by rw [str_size]; omega))
    have HCf := Lib.hid (fun W => Clone_same (str f) W (by rw [str_size]; omega))
    clear hG hE
    cases G with
    | false =>
      have HR := Lib.hid (show shV r = .tuple #[.bool false, .string ⟨#[]⟩, .string ⟨#[]⟩, .int .i64 8] by rw [← hr]; rfl)
      clear hr hg hf hl
      generalize str x = sx at HP HK
      generalize str g = sg at HG HCg HK
      generalize str f = sf at HF HCf HK
      go_enter Try.func36, Try.ntmps36
      go_wp2_with (first | (go_at_call 47; refine (HP.out _).mono ?_; rintro e w' ⟨rfl, rfl⟩) | (go_at_call 49; refine (HK.out _).mono ?_; rintro e w1 ⟨bb, rfl, hb1⟩) | (go_at_call 50; refine (HG.out _).mono ?_; rintro e w2 ⟨rfl, hb2⟩))
      refine bodyPost_ret (v := .tuple #[.bool false, .string ⟨#[]⟩, .string ⟨#[]⟩, .int .i64 8]) (by simp [results, Try.results36, go_sem]) rfl ⟨by rw [HR.out], hb1.trans (hb2.mono hb1.size)⟩
    | true =>
      by_cases h0 : E = 0
      · subst h0
        have HR := Lib.hid (show shV r = .tuple #[.bool true, .string (str g), .string (str f), .int .i64 0] by rw [← hr]; rfl)
        clear hr hg hf hl
        generalize str x = sx at HP HK
        generalize str g = sg at HG HCg HK HR
        generalize str f = sf at HF HCf HK HR
        go_enter Try.func36, Try.ntmps36
        go_wp2_with (first | (go_at_call 47; refine (HP.out _).mono ?_; rintro e w' ⟨rfl, rfl⟩) | (go_at_call 49; refine (HK.out _).mono ?_; rintro e w1 ⟨bb, rfl, hb1⟩) | (go_at_call 50; refine (HG.out _).mono ?_; rintro e w2 ⟨rfl, hb2⟩) | (go_at_call 48; refine (HF.out _).mono ?_; rintro e w3 ⟨rfl, hb3⟩))
        refine (HCg.out _).mono ?_
        rintro e w4 ⟨rfl, hb4⟩
        go_wp2_with fail
        refine (HCf.out _).mono ?_
        rintro e w5 ⟨rfl, hb5⟩
        go_wp2_with fail
        have h2 := hb1.trans (hb2.mono hb1.size)
        have h3 := h2.trans (hb3.mono h2.size)
        have h4 := h3.trans (hb4.mono h3.size)
        refine bodyPost_ret (v := .tuple #[.bool true, .string sg, .string sf, .int .i64 0]) (by simp [results, Try.results36, go_sem]) rfl ⟨by rw [HR.out], h4.trans (hb5.mono h4.size)⟩
      · have HR := Lib.hid (show shV r = .tuple #[.bool false, .string ⟨#[]⟩, .string ⟨#[]⟩, .int .i64 8] by rw [← hr]; simp [h0]; rfl)
        have q : (E != 0) = true := by rw [bne_iff_ne]; exact h0
        clear hr hg hf hl h0
        generalize str x = sx at HP HK
        generalize str g = sg at HG HCg HK
        generalize str f = sf at HF HCf HK
        go_enter Try.func36, Try.ntmps36
        go_wp2_with (first | (go_at_call 47; refine (HP.out _).mono ?_; rintro e w' ⟨rfl, rfl⟩) | (go_at_call 49; refine (HK.out _).mono ?_; rintro e w1 ⟨bb, rfl, hb1⟩) | (go_at_call 50; refine (HG.out _).mono ?_; rintro e w2 ⟨rfl, hb2⟩) | (go_at_call 48; refine (HF.out _).mono ?_; rintro e w3 ⟨rfl, hb3⟩))
        have h2 := hb1.trans (hb2.mono hb1.size)
        refine bodyPost_ret (v := .tuple #[.bool false, .string ⟨#[]⟩, .string ⟨#[]⟩, .int .i64 8]) (by simp [results, Try.results36, go_sem]) rfl ⟨by rw [HR.out], h2.trans (hb3.mono h2.size)⟩
end Go.Proofs.Ytdogeljlcnlbkaa
