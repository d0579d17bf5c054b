/- Package disk: the names of all files, in order; what a crash leaves of a file. -/
import Derived.Test.YtgimecgdfcckbaaDskRoom
import Derived.Test.YtgimecgdfcckbaaDskIter
import Derived.BigQuiet
namespace Go.Proofs.Ytgimecgdfcckbaa.Dsk
open Go.RowKit Go.Lib Go.Maps

set_option maxHeartbeats 1000000 in
theorem Clone_same (s : ByteArray) (w : World) (h : s.size ≤ 281474976710656) :
    Calls Try.prog 33 #[.string s] w fun e w' => e = .returned (.string s) ∧ Below w.heap.size w w' := by
  have HC := Lib.hid (fun W => Try.stringslite_Clone s W h)
  go_enter Try.func33, Try.ntmps33
  go_wp2_with fail
  refine (HC.out _).mono ?_
  rintro e w1 ⟨rfl, hb⟩
  go_wp2_with fail
  go_ret
  exact ⟨rfl, hb⟩

theorem own_low {w : World} {B B' e size n : Nat} {v : Value} {xs : List Value} (h : w.ownsRow B e size v n xs) (hB : B' ≤ B) : w.ownsRow B' e size v n xs := by
  refine ⟨h.1, ?_⟩
  rcases h.2 with h2 | ⟨g, cap, cur, h1, h2, h3⟩
  · exact .inl h2
  · exact .inr ⟨g, cap, cur, h1, Nat.le_trans hB h2, h3⟩
theorem own1_addr {w : World} {B e n c : Nat} {A : Option Addr} {xs : List Value} (h : w.ownsRow B e 1 (.slice A n c) n xs) (hn : 0 < n) : ∃ g, A = some ⟨g, 0, none⟩ ∧ B ≤ g := by
  rcases h.2 with ⟨_, h0⟩ | ⟨g, cap, cur, hv, hg, _⟩
  · omega
  · injection hv with h1
    exact ⟨g, h1, hg⟩
/-- The names, sorted, are as they are. -/
theorem sorted_same {F : List Fl} (hs : Sorted F) {ss : List (List UInt8)} (hp : ss.Perm (names F)) : ss.mergeSort (fun x y => decide (x ≤ y)) = names F := by
  rw [mergeSort_of_perm hp]
  refine List.mergeSort_of_pairwise ?_
  refine (sorted_names hs).imp fun {a b} h => ?_
  simp only [leB, decide_eq_true_eq]
  exact List.le_of_lt h
theorem keys_perm {w : World} {m : Nat} {F : List Fl} {bx : List UInt8 → Nat} {D : DW} (h : MapIn w m F bx D) (hs : Sorted F) : (names F).Perm (strKeys D) := by
  obtain ⟨es, hD, hpw, _⟩ := h.own.entries keyed
  obtain ⟨es', hD', hko⟩ := h.own.keysOf
  obtain rfl : es = es' := by rw [hD] at hD'; simpa using hD'
  subst hD
  refine perm_strKeys hpw (fun p hp => by obtain ⟨v, hv⟩ := hko p hp; obtain ⟨x, _, hx, _⟩ := Maps.keyOf_str Try.underlying9 hv; exact ⟨x, hx⟩) ?_ (fun x => ?_)
  · exact (sorted_names hs).imp fun h => lt_ne h
  · rw [h.has x]
    simp [names]
theorem size_is {w : World} {m : Nat} {F : List Fl} {bx : List UInt8 → Nat} {D : DW} (h : MapIn w m F bx D) (hs : Sorted F) : Maps.size D = F.length := by
  have hp := (keys_perm h hs).length_eq
  obtain ⟨es, hD, _⟩ := h.own.entries keyed
  subst hD
  simpa [names, strKeys, Maps.size] using hp.symm
theorem strs_names (F : List Fl) : (names F).map Go.Proofs.encStr = strs (names F) := rfl
theorem names_len (F : List Fl) : (names F).length = F.length := by simp [names]

section
variable {w : World} {X : Nat → Prop} {d : Nat} {F : List Fl} {off : Bool} {mv : Value} {bx : List UInt8 → Nat} {vl : List UInt8 → Value}
/-- Names in a row of the call's own. -/
def GivesNames (F : List Fl) (w : World) (e : Ending) (w' : World) : Prop :=
  ∃ A c, e = .returned (.slice A F.length c) ∧ w'.ownsRow w.heap.size 9 1 (.slice A F.length c) F.length (strs (names F)) ∧ Below w.heap.size w w'
set_option maxRecDepth 100000 in
set_option maxHeartbeats 2000000 in
/-- slices.Sorted of the map's keys. -/
theorem sorted_call {l : Int} (h : DkAt w X d F l off mv bx vl) :
    Calls Try.prog 34 #[.func (.func keysI) #[] #[.pointer (some ⟨w.heap.size, 0, none⟩)]] (w.alloc (.cells #[mv] 46)) fun e w' => GivesNames F w e w' := by
  have hal : Below w.heap.size w (w.alloc (.cells #[mv] 46)) := (Below.refl _ w).alloc (Nat.le_refl _) _
  have hsz : w.heap.size ≤ (w.alloc (.cells #[mv] 46)).heap.size := by simp
  rcases h.map with ⟨rfl, rfl⟩ | ⟨m, D, rfl, _, hi⟩
  · refine (sorted_none w).mono ?_
    rintro e w' ⟨rfl, hb⟩
    exact ⟨none, 0, rfl, World.ownsRow_nil _ _ _ _, hal.trans (hb.mono hsz)⟩
  · have hs := size_is hi h.good.sorted
    have hf := h.good.few
    refine (sorted_of m 64 D ptrR w hi.own (by rw [hs]; unfold maxLen; omega) (by rw [hs]; omega)).mono ?_
    rintro e w' ⟨v, ss, rfl, hp, hrow, hb⟩
    have hp2 : ss.Perm (names F) := hp.trans (keys_perm hi h.good.sorted).symm
    rw [sorted_same h.good.sorted hp2, strs_names, hp2.length_eq, names_len] at hrow
    have hrow2 := own_low hrow hsz
    obtain ⟨A, c, rfl⟩ := own_any hrow2
    exact ⟨A, c, rfl, hrow2, hal.trans (hb.mono hsz)⟩
set_option maxRecDepth 100000 in
set_option maxHeartbeats 2000000 in
theorem sorted_is {l : Int} (h : DkAt w X d F l off mv bx vl) :
    Calls Try.prog 29 #[.pointer (some ⟨d, 0, none⟩)] w fun e w' => GivesNames F w e w' := by
  obtain ⟨mb, rfl⟩ : ∃ mb, mv = .map mb := by
    rcases h.map with ⟨e, _⟩ | ⟨m, _, e, _⟩
    · exact ⟨_, e⟩
    · exact ⟨_, e⟩
  have c0 := h.disk.cell 0
  simp at c0
  have hf := h.good.few
  have HK := Lib.hid (fun W => keys_of mb W)
  have HS := Lib.hid (sorted_call h)
  have HL : Hid (∀ x ∈ names F, x.length ≤ 64) := Lib.hid fun x hx => by
    obtain ⟨f, hf, rfl⟩ := List.mem_map.1 hx
    exact (name_len (h.good.name f hf)).2
  have HN := Lib.hid (names_len F)
  have HC := Lib.hid (fun s W h => Clone_same s W h)
  clear h
  go_enter Try.func29, Try.ntmps29
  go_wp2_with fail
  refine (HK.out _).mono ?_
  rintro e w1 ⟨rfl, rfl⟩
  go_wp2_with fail
  refine HS.out.mono ?_
  rintro e w2 ⟨A, c, rfl, hown, hbe⟩
  have hB2 := hbe.size
  have HO := Lib.hid hown
  have HB := Lib.hid hbe
  clear hown hbe HS HK c0
  obtain ⟨n, hn⟩ : ∃ n, F.length = n := ⟨_, rfl⟩
  have HNN := Lib.hid hn
  rw [hn] at hf HO HN ⊢
  clear hn
  go_wp2_with fail
  go_loopw [14] (fun i wr => ∃ k : Nat, k ≤ n ∧ i = .int .i64 (k : Int) ∧ wr.ownsRow w.heap.size 9 1 (.slice A n c) n (strs (names F)) ∧ Below w.heap.size w wr) (fun i _ => n - (RowKit.intOf i).toNat)
  case atStart => exact ⟨0, Nat.zero_le _, rfl, HO.out, HB.out⟩
  case round =>
    obtain ⟨k, hk, rfl, hown, hb⟩ := hrel
    have hBr := hb.size
    by_cases hlt : k < n
    · obtain ⟨g, rfl, hg⟩ := own1_addr hown (by omega)
      have hkn : k < (names F).length := by rw [HN.out]; exact hlt
      obtain ⟨x, hx⟩ : ∃ x, (names F)[k] = x := ⟨_, rfl⟩
      have hxl := HL.out x (hx ▸ List.getElem_mem hkn)
      have hxk : (strs (names F))[k]? = some (.string (str x)) := by
        unfold strs
        rw [List.getElem?_map, List.getElem?_eq_getElem hkn, hx]; rfl
      have c0 : wr.cell? ⟨g, k, none⟩ = some (.string (str x)) := by rw [hown.cellAt k (by omega)]; exact hxk
      have hcl := HC.out (str x) wr (by rw [str_size]; omega)
      have HX := Lib.hid hxk
      clear hx hxl hxk
      generalize str x = s at c0 hcl HX
      have HCl := Lib.hid hcl
      have hkI : (k : Int) < (n : Int) := by omega
      have H1 := Lib.hid hown
      have HB1 := Lib.hid hb
      clear hown hb HO HB hkn hcl
      go_wp2_with fail
      refine HCl.out.mono ?_
      rintro e w3 ⟨rfl, hb3⟩
      have hown3 := own_kept0 H1.out (grown_of_below hb3) (fun _ _ => by simp)
      have c3 : ∃ v, w3.cell? ⟨g, k, none⟩ = some v := ⟨.string s, by rw [hown3.cellAt k (by omega)]; exact HX.out⟩
      obtain ⟨v3, c3⟩ := c3
      have f3 := hown3.frozenAt k
      have hB3 := HB1.out.trans (hb3.mono hBr)
      have H3 := Lib.hid (hown3.stored k (.string s)).1
      have HB3 := Lib.hid (hB3.trans ((Below.refl w.heap.size w3).setCell (p := ⟨g, k, none⟩) hg (.string s)))
      clear hb3 hown3 H1 HB1 HCl hB3 c0
      go_wp2_with fail
      go_roundw
      case rel =>
        refine ⟨k + 1, hlt, by go_num, ?_, HB3.out⟩
        have e : (strs (names F)).set k (.string s) = strs (names F) := by
          refine List.ext_getElem? fun j => ?_
          rw [List.getElem?_set]
          split
          · rename_i e; subst e
            split
            · exact HX.out.symm
            · rename_i hj; rw [List.getElem?_eq_none (by omega)]
          · rfl
        rw [← e]; exact H3.out
      case measure => simp [RowKit.intOf]; omega
    · have HO1 := Lib.hid hown
      have HB1 := Lib.hid hb
      have hkI : ¬ (k : Int) < (n : Int) := by omega
      clear hown hb HO HB
      go_wp2_with fail
      go_ret
      unfold GivesNames
      rw [HNN.out]
      exact ⟨A, c, rfl, HO1.out, HB1.out⟩
end
end Go.Proofs.Ytgimecgdfcckbaa.Dsk
