/- Subscriptions of short topics: what there is, at each step of the eighth layer's statement. No run of a program is in this file. -/
import Derived.Test.YtdogeljlcnlbkaaSubMost
namespace Go.Proofs.Ytdogeljlcnlbkaa.Sbs
open Go.RowKit Go.Lib Txt Nam

deriving instance DecidableEq for Sb
def fineB (s : Sb) : Bool := (shareOf s.t).is == false && (shareOf s.t).group == [] && (shareOf s.t).filter == s.t && decide ((shareOf s.t).err = 0) && decide (s.t.length ≤ 1000000) && decide (0 ≤ s.q) && decide (s.q ≤ 2)
theorem fine_of {s : Sb} (h : fineB s = true) : Fine s := by
  unfold fineB at h
  simp only [Bool.and_eq_true, beq_iff_eq, decide_eq_true_eq] at h
  obtain ⟨⟨⟨⟨⟨⟨h1, h2⟩, h3⟩, h4⟩, h5⟩, h6⟩, h7⟩ := h
  refine ⟨?_, h5, h6, h7⟩
  generalize shareOf s.t = r at h1 h2 h3 h4
  obtain ⟨a, b, c, d⟩ := r
  dsimp only at h1 h2 h3 h4
  rw [h1, h2, h3, h4]
def riseB : List Sb → Bool
  | a :: b :: r => Go.Op.bytesLess a.t b.t && riseB (b :: r)
  | _ => true
theorem rise_of : ∀ (l : List Sb), riseB l = true → ∀ i (h : i + 1 < l.length), Go.Op.bytesLess (l[i]'(by omega)).t l[i + 1].t = true
  | [], _, i, h => by simp at h
  | [_], _, i, h => by simp at h
  | a :: b :: r, hr, 0, _ => by
    unfold riseB at hr
    rw [Bool.and_eq_true] at hr
    exact hr.1
  | a :: b :: r, hr, i + 1, h => by
    unfold riseB at hr
    rw [Bool.and_eq_true] at hr
    exact rise_of (b :: r) hr.2 i (by simpa using h)
def mayB (l : List Sb) : Bool := l.all fineB && riseB l && decide (l.length ≤ 8)
theorem may_of {l : List Sb} (h : mayB l = true) : May l := by
  unfold mayB at h
  rw [Bool.and_eq_true, Bool.and_eq_true, decide_eq_true_eq] at h
  exact ⟨fun s hs => fine_of (List.all_eq_true.1 h.1.1 s hs), rise_of l h.1.2, h.2⟩
def placeB (l : List Sb) (x : List UInt8) (a : Nat) (was : Bool) : Bool :=
  decide (a ≤ l.length) && (l.take a).all (fun s => decide (cmp s.t x < 0)) && (l.drop a).all (fun s => decide (0 ≤ cmp s.t x)) && ((l.drop a).headD ⟨[], 0⟩).t == (if was then x else ((l.drop a).headD ⟨[], 0⟩).t) &&
    (match l[a]? with | some s => decide (cmp s.t x = 0) == was | none => was == false)
theorem place_of {l : List Sb} {x : List UInt8} {a : Nat} {was : Bool} (h : placeB l x a was = true) : Place l x a was := by
  unfold placeB at h
  simp only [Bool.and_eq_true, decide_eq_true_eq] at h
  obtain ⟨⟨⟨⟨h1, h2⟩, h3⟩, _⟩, h5⟩ := h
  refine ⟨h1, fun i hi hia => ?_, fun i hi hia => ?_, fun ha => ?_, fun ha => ?_⟩
  · have := List.all_eq_true.1 h2 l[i] (List.mem_take_iff_getElem.2 ⟨i, by omega, rfl⟩)
    simpa using this
  · have := List.all_eq_true.1 h3 l[i] (List.mem_drop_iff_getElem.2 ⟨i - a, by omega, by congr 1; omega⟩)
    simpa using this
  · rw [List.getElem?_eq_getElem ha] at h5
    dsimp only at h5
    rw [beq_iff_eq] at h5
    rw [← h5, decide_eq_true_eq]
  · rw [List.getElem?_eq_none ha] at h5
    simpa using h5

/-- The topic of a number: t and a letter. -/
def tp (k : Nat) : List UInt8 := [116, UInt8.ofNat (97 + k)]
def sb (k : Nat) : Sb := ⟨tp k, (k : Int) % 3⟩
/-- The first k. -/
def fs (k : Nat) : List Sb := (List.range k).map sb
theorem fs_len (k : Nat) : (fs k).length = k := by simp [fs]
theorem fs_step (k : Nat) : fs k ++ [sb k] = fs (k + 1) := by simp [fs, List.range_succ]
/-- One with another QoS. -/
def s2 (k : Nat) : Sb := ⟨tp k, 2⟩
def xs (k : Nat) : List Sb := (fs 8).set k (s2 k)
def ys (k : Nat) : List Sb := (xs k).eraseIdx k
theorem fs_may : ∀ k, k < 9 → mayB (fs k) = true := by decide +kernel
theorem sb_fine : ∀ k, k < 9 → fineB (sb k) = true := by decide +kernel
theorem fs_place : ∀ k, k < 9 → placeB (fs k) (tp k) k false = true := by decide +kernel
theorem s2_fine : ∀ k, k < 8 → fineB (s2 k) = true := by decide +kernel
theorem fs_there : ∀ k, k < 8 → placeB (fs 8) (tp k) k true = true := by decide +kernel
theorem xs_may : ∀ k, k < 8 → mayB (xs k) = true := by decide +kernel
theorem xs_place : ∀ k, k < 8 → placeB (xs k) (tp k) k true = true := by decide +kernel
theorem tp_name : ∀ k, k < 8 → topicErr (tp k) = 0 := by decide +kernel
theorem xs_reached : ∀ k, k < 8 → reached (xs k) (tp k) = [s2 k] := by decide +kernel
theorem ys_may : ∀ k, k < 8 → mayB (ys k) = true := by decide +kernel
theorem ys_place : ∀ k, k < 8 → placeB (ys k) (tp k) k false = true := by decide +kernel
theorem ys_reached : ∀ k, k < 8 → reached (ys k) (tp k) = [] := by decide +kernel
theorem xs_len (k : Nat) : (xs k).length = 8 := by unfold xs; rw [List.length_set, fs_len]
theorem xs_at (k : Nat) (h : k < 8) : (xs k)[k]'(by rw [xs_len]; exact h) = s2 k := by unfold xs; rw [List.getElem_set_self]
theorem ys_len (k : Nat) (h : k < 8) : (ys k).length = 7 := by unfold ys; rw [List.length_eraseIdx, xs_len, if_pos h]
end Go.Proofs.Ytdogeljlcnlbkaa.Sbs
