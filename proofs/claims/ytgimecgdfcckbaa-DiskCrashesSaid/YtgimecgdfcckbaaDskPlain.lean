/- What a disk is, plainly: files in the order of their names; what each call answers, and what it leaves. No program. -/
import Derived.Sort.KeysCollected
namespace Go.Proofs.Ytgimecgdfcckbaa.Dsk

/-- A file: its name, its bytes, how many of them are safe. -/
structure Fl where
  n : List UInt8
  t : List UInt8
  s : Nat
/-- In order, no name twice. -/
def Sorted (F : List Fl) : Prop := F.Pairwise fun a b => a.n < b.n
def names (F : List Fl) : List (List UInt8) := F.map Fl.n
def look (F : List Fl) (n : List UInt8) : Option Fl := F.find? fun f => f.n == n
def total (F : List Fl) : Nat := (F.map fun f => f.t.length).sum
/-- One more, at its place. -/
def put : List Fl → Fl → List Fl
  | [], f => [f]
  | g :: r, f => if g.n < f.n then g :: put r f else f :: g :: r
def rm (F : List Fl) (n : List UInt8) : List Fl := F.filter fun f => !(f.n == n)
def edit (F : List Fl) (n : List UInt8) (h : Fl → Fl) : List Fl := F.map fun f => if f.n = n then h f else f

theorem lt_ne {a b : List UInt8} (h : a < b) : a ≠ b := fun e => by subst e; exact List.lt_irrefl a h
theorem not_lt_ne {a b : List UInt8} (h : ¬ a < b) (hn : a ≠ b) : b < a := by
  rcases Classical.em (b < a) with h' | h'
  · exact h'
  · exact absurd (List.le_antisymm (List.not_lt.1 h') (List.not_lt.1 h)) hn
section
variable {F : List Fl} {f g : Fl} {n m : List UInt8} {h : Fl → Fl}
theorem mem_put : g ∈ put F f ↔ g = f ∨ g ∈ F := by
  induction F with
  | nil => simp [put]
  | cons a r ih =>
    unfold put
    split
    · rw [List.mem_cons, ih, List.mem_cons]
      constructor
      · rintro (h | h | h)
        · exact .inr (.inl h)
        · exact .inl h
        · exact .inr (.inr h)
      · rintro (h | h | h)
        · exact .inr (.inl h)
        · exact .inl h
        · exact .inr (.inr h)
    · rw [List.mem_cons]
theorem put_perm : (put F f).Perm (f :: F) := by
  induction F with
  | nil => exact .refl _
  | cons a r ih =>
    unfold put
    split
    · exact (ih.cons a).trans (.swap f a r)
    · exact .refl _
theorem put_len : (put F f).length = F.length + 1 := put_perm.length_eq
theorem sum_perm {l l' : List Nat} (h : l.Perm l') : l.sum = l'.sum := by
  induction h with
  | nil => rfl
  | cons x _ ih => simp [ih]
  | swap x y l => simp; omega
  | trans _ _ h1 h2 => exact h1.trans h2
theorem put_total : total (put F f) = total F + f.t.length := by
  unfold total
  rw [sum_perm (put_perm.map _)]
  simp; omega
theorem sorted_put (hs : Sorted F) (hn : ∀ g ∈ F, g.n ≠ f.n) : Sorted (put F f) := by
  induction F with
  | nil => simp [put, Sorted]
  | cons a r ih =>
    unfold Sorted at hs ih ⊢
    obtain ⟨h1, h2⟩ := List.pairwise_cons.1 hs
    unfold put
    split
    · rename_i hlt
      refine List.pairwise_cons.2 ⟨fun g hg => ?_, ih h2 fun g hg => hn g (List.mem_cons_of_mem _ hg)⟩
      rcases mem_put.1 hg with rfl | hg
      · exact hlt
      · exact h1 g hg
    · rename_i hlt
      have hfa := not_lt_ne hlt (hn a (by simp))
      refine List.pairwise_cons.2 ⟨fun g hg => ?_, hs⟩
      rcases List.mem_cons.1 hg with rfl | hg
      · exact hfa
      · exact List.lt_trans hfa (h1 g hg)
theorem mem_rm : g ∈ rm F n ↔ g ∈ F ∧ g.n ≠ n := by simp [rm]
theorem sorted_rm (hs : Sorted F) : Sorted (rm F n) := hs.filter _
theorem rm_len : (rm F n).length ≤ F.length := List.length_filter_le _ _
theorem rm_total : total (rm F n) ≤ total F := by
  unfold total rm
  induction F with
  | nil => simp
  | cons a r ih =>
    rw [List.filter_cons]
    split
    · simp; omega
    · simp; omega
theorem mem_edit : g ∈ edit F n h ↔ ∃ f ∈ F, g = if f.n = n then h f else f := by
  unfold edit
  rw [List.mem_map]
  constructor <;> · rintro ⟨f, h1, h2⟩; exact ⟨f, h1, h2.symm⟩
theorem edit_len : (edit F n h).length = F.length := by simp [edit]
theorem edit_names (hh : ∀ f, (h f).n = f.n) : names (edit F n h) = names F := by
  unfold names edit
  rw [List.map_map]
  refine List.map_congr_left fun f _ => ?_
  simp only [Function.comp]
  split
  · exact hh f
  · rfl
theorem sorted_names (hs : Sorted F) : (names F).Pairwise (· < ·) := List.pairwise_map.2 hs
theorem sorted_edit (hs : Sorted F) (hh : ∀ f, (h f).n = f.n) : Sorted (edit F n h) := by
  have := sorted_names hs
  rw [← edit_names (n := n) hh] at this
  exact List.pairwise_map.1 this
theorem one_name (hs : Sorted F) (hf : f ∈ F) (hg : g ∈ F) (he : f.n = g.n) : f = g := by
  induction F with
  | nil => cases hf
  | cons a r ih =>
    obtain ⟨h1, h2⟩ := List.pairwise_cons.1 hs
    rcases List.mem_cons.1 hf with e | hf'
    · rcases List.mem_cons.1 hg with e' | hg'
      · rw [e, e']
      · subst e; exact absurd he (lt_ne (h1 g hg'))
    · rcases List.mem_cons.1 hg with e' | hg'
      · subst e'; exact absurd he.symm (lt_ne (h1 f hf'))
      · exact ih h2 hf' hg'
theorem look_some (h : look F n = some f) : f ∈ F ∧ f.n = n := by
  unfold look at h
  exact ⟨List.mem_of_find?_eq_some h, by simpa using List.find?_some h⟩
theorem look_none (h : look F n = none) : ∀ g ∈ F, g.n ≠ n := by
  unfold look at h
  simpa using h
theorem look_of (hs : Sorted F) (hf : f ∈ F) (hn : f.n = n) : look F n = some f := by
  cases h : look F n with
  | none => exact absurd hn (look_none h f hf)
  | some g =>
    obtain ⟨h1, h2⟩ := look_some h
    rw [one_name hs h1 hf (h2.trans hn.symm)]
theorem look_not (h : ∀ g ∈ F, g.n ≠ n) : look F n = none := by
  unfold look
  simpa using h
theorem len_total (hf : f ∈ F) : f.t.length ≤ total F := by
  unfold total
  induction F with
  | nil => cases hf
  | cons a r ih =>
    rw [List.map_cons, List.sum_cons]
    rcases List.mem_cons.1 hf with rfl | hf
    · omega
    · have := ih hf; omega
theorem edit_cons (a : Fl) (r : List Fl) : edit (a :: r) n h = (if a.n = n then h a else a) :: edit r n h := rfl
theorem edit_out (hn : ∀ g ∈ F, g.n ≠ n) : edit F n h = F := by
  unfold edit
  refine (List.map_congr_left fun f hf => ?_).trans (List.map_id _)
  rw [if_neg (hn f hf)]; rfl
theorem edit_total (hs : Sorted F) (hf : f ∈ F) : total (edit F f.n h) + f.t.length = total F + (h f).t.length := by
  induction F with
  | nil => cases hf
  | cons a r ih =>
    obtain ⟨h1, h2⟩ := List.pairwise_cons.1 hs
    rw [edit_cons]
    rcases List.mem_cons.1 hf with rfl | hf
    · rw [if_pos rfl, edit_out (fun g hg => (lt_ne (h1 g hg)).symm)]
      simp [total]; omega
    · rw [if_neg (lt_ne (h1 f hf))]
      have := ih h2 hf
      simp [total] at this ⊢; omega
end

/-- The files' bytes that a range over them has come by; L: is it still to come? -/
def seen (L : List UInt8 → Bool) (F : List Fl) : Nat := (F.map fun f => if L f.n = true then 0 else f.t.length).sum
theorem seen_start (F : List Fl) (L : List UInt8 → Bool) (h : ∀ f ∈ F, L f.n = true) : seen L F = 0 := by
  unfold seen
  induction F with
  | nil => rfl
  | cons a r ih => rw [List.map_cons, List.sum_cons, if_pos (h a (by simp)), ih fun f hf => h f (List.mem_cons_of_mem _ hf)]
theorem seen_end (F : List Fl) (L : List UInt8 → Bool) (h : ∀ n, L n = false) : seen L F = total F := by
  unfold seen total
  congr 1
  refine List.map_congr_left fun f _ => ?_
  rw [h]; rfl
theorem seen_congr {F : List Fl} {L L' : List UInt8 → Bool} (h : ∀ f ∈ F, L f.n = L' f.n) : seen L F = seen L' F := by
  unfold seen
  congr 1
  exact List.map_congr_left fun f hf => by rw [h f hf]
theorem seen_step {F : List Fl} {L : List UInt8 → Bool} {f : Fl} (hs : Sorted F) (hf : f ∈ F) (hL : L f.n = true) : seen (fun z => L z && !(z == f.n)) F = seen L F + f.t.length := by
  induction F with
  | nil => cases hf
  | cons a r ih =>
    obtain ⟨h1, h2⟩ := List.pairwise_cons.1 hs
    rcases List.mem_cons.1 hf with rfl | hf
    · have := seen_congr (F := r) (L := fun z => L z && !(z == f.n)) (L' := L) fun g hg => by
        have : (g.n == f.n) = false := by simpa using (lt_ne (h1 g hg)).symm
        simp [this]
      simp only [seen, List.map_cons, List.sum_cons] at this ⊢
      rw [this]
      simp [hL]
      omega
    · have hne : (a.n == f.n) = false := by simpa using lt_ne (h1 f hf)
      have := ih h2 hf
      simp only [seen, List.map_cons, List.sum_cons] at this ⊢
      rw [this]
      simp [hne]
      omega
theorem seen_le (L : List UInt8 → Bool) (F : List Fl) : seen L F ≤ total F := by
  unfold seen total
  induction F with
  | nil => simp
  | cons a r ih =>
    simp only [List.map_cons, List.sum_cons]
    split <;> omega

/-! ### what each call answers -/
def nameB (n : List UInt8) : Bool := decide (1 ≤ n.length) && (decide (n.length ≤ 64) && n.all fun c => decide (33 ≤ c.toNat) && decide (c.toNat ≤ 126))
theorem name_len {n : List UInt8} (h : nameB n = true) : 1 ≤ n.length ∧ n.length ≤ 64 := by
  unfold nameB at h
  simp only [Bool.and_eq_true, decide_eq_true_eq] at h
  exact ⟨h.1, h.2.1⟩
/-- A disk's files as they may be. -/
structure GoodF (F : List Fl) : Prop where
  sorted : Sorted F
  few : F.length ≤ 64
  name : ∀ f ∈ F, nameB f.n = true
  small : ∀ f ∈ F, f.t.length ≤ 65536
  safe : ∀ f ∈ F, f.s ≤ f.t.length
  room : total F ≤ 1048576
theorem good_none : GoodF [] := ⟨List.Pairwise.nil, by simp, by simp, by simp, by simp, by simp [total]⟩
/-- Is there room for so many bytes in a file that has old of them? -/
def roomB (F : List Fl) (old len : Nat) : Bool := decide (old + len ≤ 65536) && decide (len + total F ≤ 1048576)
def fullB (F : List Fl) (n : List UInt8) (len : Nat) : Bool :=
  match look F n with
  | some f => !roomB F f.t.length len
  | none => decide (64 ≤ F.length) || !roomB F 0 len
def appE (F : List Fl) (n s : List UInt8) : Int := if nameB n = true then (if fullB F n s.length = true then 5 else 0) else 1
def appF (F : List Fl) (n s : List UInt8) : List Fl :=
  if appE F n s = 0 then (match look F n with | some _ => edit F n (fun f => ⟨f.n, f.t ++ s, f.s⟩) | none => put F ⟨n, s, 0⟩) else F
def syncE (F : List Fl) (n : List UInt8) : Int := match look F n with | some _ => 0 | none => 3
def syncF (F : List Fl) (n : List UInt8) : List Fl := edit F n fun f => ⟨f.n, f.t, f.t.length⟩
def cutE (F : List Fl) (n : List UInt8) (k : Int) : Int := match look F n with | some f => if 0 ≤ k ∧ k ≤ (f.t.length : Int) then 0 else 1 | none => 3
def cutF (F : List Fl) (n : List UInt8) (k : Int) : List Fl := if cutE F n k = 0 then edit F n (fun f => ⟨f.n, f.t.take k.toNat, min f.s k.toNat⟩) else F
def renE (F : List Fl) (a b : List UInt8) : Int := match look F a with | some f => if nameB b = true then (if f.s < f.t.length then 6 else 0) else 1 | none => 3
def renF (F : List Fl) (a b : List UInt8) : List Fl :=
  if renE F a b = 0 then (match look F a with | some f => put (rm (rm F a) b) ⟨b, f.t, f.s⟩ | none => F) else F
def delF (F : List Fl) (n : List UInt8) : List Fl := rm F n
/-- What a crash leaves of a file. -/
def keptT (f : Fl) (p : Int) : List UInt8 := f.t.take (f.s + min p.toNat (f.t.length - f.s))
def crashT (F : List Fl) (ps : List Int) : List (List UInt8) := F.mapIdx fun i f => keptT f (ps.getD i 0)
/-- What is laid out of names and texts. -/
def newFrom : List Fl → List (List UInt8) → List (List UInt8) → List Fl
  | F, n :: ns, t :: ts => newFrom (put F ⟨n, t, t.length⟩) ns ts
  | F, _, _ => F
def newF (ns ts : List (List UInt8)) : List Fl := newFrom [] ns ts
def mayStep (F : List Fl) (n t : List UInt8) : Bool := nameB n && ((look F n).isNone && (decide (F.length < 64) && roomB F 0 t.length))
/-- May these be? -/
def mayFrom : List Fl → List (List UInt8) → List (List UInt8) → Bool
  | _, [], [] => true
  | F, n :: ns, t :: ts => mayStep F n t && mayFrom (put F ⟨n, t, t.length⟩) ns ts
  | _, _, _ => false

section
variable {F : List Fl} {f : Fl} {n : List UInt8}
theorem good_put (h : GoodF F) (hn : ∀ g ∈ F, g.n ≠ f.n) (h64 : F.length < 64) (hb : nameB f.n = true) (ht : f.t.length ≤ 65536) (hs : f.s ≤ f.t.length) (hr : total F + f.t.length ≤ 1048576) : GoodF (put F f) :=
  ⟨sorted_put h.sorted hn, by rw [put_len]; omega, fun g hg => by rcases mem_put.1 hg with rfl | hg; exact hb; exact h.name g hg, fun g hg => by rcases mem_put.1 hg with rfl | hg; exact ht; exact h.small g hg,
    fun g hg => by rcases mem_put.1 hg with rfl | hg; exact hs; exact h.safe g hg, by rw [put_total]; exact hr⟩
theorem good_rm (h : GoodF F) : GoodF (rm F n) :=
  ⟨sorted_rm h.sorted, Nat.le_trans rm_len h.few, fun g hg => h.name g (mem_rm.1 hg).1, fun g hg => h.small g (mem_rm.1 hg).1, fun g hg => h.safe g (mem_rm.1 hg).1, Nat.le_trans rm_total h.room⟩
theorem good_edit {e : Fl → Fl} (h : GoodF F) (hf : f ∈ F) (he : ∀ g, (e g).n = g.n) (ht : (e f).t.length ≤ 65536) (hs : (e f).s ≤ (e f).t.length) (hr : total F + (e f).t.length ≤ 1048576 + f.t.length) : GoodF (edit F f.n e) := by
  have key : ∀ g ∈ edit F f.n e, g = e f ∨ g ∈ F := fun g hg => by
    obtain ⟨g', h1, h2⟩ := mem_edit.1 hg
    by_cases hn : g'.n = f.n
    · rw [if_pos hn, one_name h.sorted h1 hf hn] at h2; exact .inl h2
    · rw [if_neg hn] at h2; exact .inr (h2 ▸ h1)
  refine ⟨sorted_edit h.sorted he, by rw [edit_len]; exact h.few, fun g hg => ?_, fun g hg => ?_, fun g hg => ?_, ?_⟩
  · rcases key g hg with rfl | hg
    · rw [he]; exact h.name f hf
    · exact h.name g hg
  · rcases key g hg with rfl | hg
    · exact ht
    · exact h.small g hg
  · rcases key g hg with rfl | hg
    · exact hs
    · exact h.safe g hg
  · have := edit_total (h := e) h.sorted hf
    omega
theorem good_app (h : GoodF F) (n s : List UInt8) : GoodF (appF F n s) := by
  unfold appF
  split
  · rename_i h0
    unfold appE at h0
    split at h0
    · rename_i hb
      split at h0
      · cases h0
      · rename_i hfull
        unfold fullB at hfull
        split
        · rename_i f hl
          rw [hl] at hfull
          simp [roomB] at hfull
          obtain ⟨hm, rfl⟩ := look_some hl
          exact good_edit h hm (fun _ => rfl) (by simp; omega) (by simp; have := h.safe f hm; omega) (by simp; omega)
        · rename_i hl
          rw [hl] at hfull
          simp [roomB] at hfull
          exact good_put h (look_none hl) (by omega) hb (by simp; omega) (by simp) (by simp; omega)
    · cases h0
  · exact h
theorem good_sync (h : GoodF F) (n : List UInt8) : GoodF (syncF F n) := by
  unfold syncF
  cases hl : look F n with
  | none => rw [edit_out (look_none hl)]; exact h
  | some f =>
    obtain ⟨hm, rfl⟩ := look_some hl
    exact good_edit h hm (fun _ => rfl) (h.small f hm) (Nat.le_refl _) (by have := h.room; simp; omega)
theorem good_cut (h : GoodF F) (n : List UInt8) (k : Int) : GoodF (cutF F n k) := by
  unfold cutF
  split
  · cases hl : look F n with
    | none => rw [edit_out (look_none hl)]; exact h
    | some f =>
      obtain ⟨hm, rfl⟩ := look_some hl
      have h1 := h.small f hm
      have h2 := h.room
      have h3 := h.safe f hm
      exact good_edit h hm (fun _ => rfl) (by simp; omega) (by simp; omega) (by simp; omega)
  · exact h
theorem good_ren (h : GoodF F) (a b : List UInt8) : GoodF (renF F a b) := by
  unfold renF
  split
  · rename_i h0
    cases hl : look F a with
    | none => exact h
    | some f =>
      obtain ⟨hm, rfl⟩ := look_some hl
      have hb : nameB b = true := by
        unfold renE at h0
        rw [hl] at h0
        simp only [] at h0
        split at h0
        · assumption
        · cases h0
      have hg := good_rm (n := b) (good_rm (n := f.n) h)
      have hlen : (rm (rm F f.n) b).length < F.length := by
        refine Nat.lt_of_le_of_lt rm_len ?_
        unfold rm
        rw [List.length_filter_lt_length_iff_exists]
        exact ⟨f, hm, by simp⟩
      have htot : total (rm (rm F f.n) b) + f.t.length ≤ total F := by
        have h1 : total (rm (rm F f.n) b) ≤ total (rm F f.n) := rm_total
        have h2 : total (rm F f.n) + f.t.length ≤ total F := by
          clear hg hlen h1 h h0 hl
          unfold total rm
          induction F with
          | nil => cases hm
          | cons a r ih =>
            rw [List.filter_cons]
            rcases List.mem_cons.1 hm with rfl | hm
            · have : total (rm r f.n) ≤ total r := rm_total
              unfold total rm at this
              simp
              omega
            · have := ih hm
              split
              · simp; omega
              · simp; omega
        omega
      have hr := h.room
      have hf := h.few
      exact good_put hg (fun g hgm => (mem_rm.1 hgm).2) (by omega) hb (h.small f hm) (h.safe f hm) (by simp; omega)
  · exact h
theorem good_del (h : GoodF F) (n : List UInt8) : GoodF (delF F n) := good_rm h
end
end Go.Proofs.Ytgimecgdfcckbaa.Dsk
