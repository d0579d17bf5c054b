/- Package disk: what a crash leaves of a file; a file laid under a name. -/
import Derived.Test.YtgimecgdfcckbaaDskSorted
import Derived.Deep.RegionHeld3
import Derived.Lib.MinMax
namespace Go.Proofs.Ytgimecgdfcckbaa.Dsk
open Go.RowKit Go.Lib Go.Maps

theorem str_cells (t : List UInt8) : strCells (str t) = (t.map fun c => (c.toNat : Int)).map (Value.int .u8) := by
  unfold strCells
  rw [str_data, List.map_map]; rfl
theorem strOf_nums (t : List UInt8) : strOfNums (t.map fun c => (c.toNat : Int)) = str t := by
  unfold strOfNums str
  congr 2
  rw [List.map_map]
  refine (List.map_congr_left fun c _ => ?_).trans (List.map_id _)
  simp
theorem own_cap1 {w : World} {B e size n c : Nat} {A : Option Addr} {xs : List Value} (h : w.ownsRow B e size (.slice A n c) n xs) : n ≤ c := by
  rcases h.2 with ⟨e, h0⟩ | ⟨g, cap, cur, e, _, _, hle, _⟩
  · omega
  · injection e with _ _ e; omega
set_option maxRecDepth 100000 in
/-- The first K bytes of a file's row, as a text. -/
theorem conv_take {w : World} {n : Nat} {A : Option Addr} {c : Nat} {t : List UInt8} (h : w.ownsRow 0 5 1 (.slice A n c) n (strCells (str t))) (hn : t.length = n) (K : Nat) (hK : K ≤ n) (c' : Nat) :
    (convert 42 9 (.slice A K c')).run Try.prog w = .ok (.string (str (t.take K))) w := by
  rw [← strOf_nums]
  have hlen : ((t.take K).map fun c => (c.toNat : Int)).length = K := by simp; omega
  rcases h.2 with ⟨e, h0⟩ | ⟨g, cap, cur, e, _⟩
  · injection e with e1 _ _
    subst e1
    obtain rfl : K = 0 := by omega
    rw [List.take_zero, List.map_nil]
    have key := run_convert_bytes_nil w 42 5 Try.underlying42 Try.underlying5 0 c' 9 Try.underlying9
    rw [key]; rfl
  · injection e with e1 _ _
    subst e1
    generalize hz : ((t.take K).map fun c => (c.toNat : Int)) = zs at hlen ⊢
    have key := run_convert_bytes_arg w 42 5 Try.underlying42 Try.underlying5 g 0 K c' zs hlen (fun i hi => by
      have hit : i < t.length := by omega
      have := h.cells (g := g) rfl i (.int .u8 (zs.getD i 0)) (by
        rw [str_cells, ← hz]
        have hiK : i < K := by omega
        simp [hit, hiK])
      rw [add_new] at this
      rw [Nat.zero_add]
      exact this) 9 Try.underlying9
    exact key

set_option maxRecDepth 100000 in
set_option maxHeartbeats 2000000 in
theorem kept_is (b s n : Nat) (p : Int) (A : Option Addr) (c : Nat) (t : List UInt8) (w : World) (hs : s ≤ n) (hn : t.length = n) (hsm : n ≤ 1000000) (h : w.ownsRow 0 5 1 (.slice A n c) n (strCells (str t)))
    (c0 : w.cell? ⟨b, 0, none⟩ = some (.slice A n c)) (c1 : w.cell? ⟨b, 1, none⟩ = some (.int .i64 (s : Int))) :
    Calls Try.prog 30 #[.pointer (some ⟨b, 0, none⟩), .int .i64 p] w fun e w' => e = .returned (.string (str (t.take (s + min p.toNat (n - s))))) ∧ Below w.heap.size w w' := by
  obtain ⟨j, hj⟩ : ∃ j, min p.toNat (n - s) = j := ⟨_, rfl⟩
  have hmm : min (max p 0) ((n : Int) - (s : Int)) = (j : Int) := by omega
  have hjn : s + j ≤ n := by omega
  have hnc := own_cap1 h
  have hjI : (s : Int) + (j : Int) ≤ (c : Int) := by omega
  have hwr : IntKind.i64.wrap ((s : Int) + (j : Int)) = (s : Int) + (j : Int) := IntWalk.i64_in _ ⟨by omega, by omega⟩
  rw [hj]
  have hcv := fun c' k => conv_take (w := w.drewN k) (A := A) (c := c) h hn (s + j) hjn c'
  obtain ⟨T, hT⟩ : ∃ T, str (t.take (s + j)) = T := ⟨_, rfl⟩
  rw [hT] at hcv ⊢
  clear hj hT h hn
  go_enter Try.func30, Try.ntmps30
  go_wp2_with fail
  go_quiet (fail)
  go_wp2_with fail
  go_region
  go_wp2_with fail
  go_ret
  exact ⟨rfl, below_drewN (Below.refl _ _) _⟩
end Go.Proofs.Ytgimecgdfcckbaa.Dsk
