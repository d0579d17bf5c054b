/- Package subs: the greatest QoS of those whose filter matches. -/
import Derived.Test.YtdogeljlcnlbkaaSubAll
namespace Go.Proofs.Ytdogeljlcnlbkaa.Sbs
open Go.RowKit Go.Lib Txt Nam

/-- The greatest QoS, or -1. -/
def top (l : List Sb) : Int := l.foldl (fun a s => max a s.q) (-1)
theorem top_step {l : List Sb} {k : Nat} (h : k < l.length) : top (l.take (k + 1)) = max (top (l.take k)) (l[k]).q := by
  unfold top
  rw [List.take_succ_eq_append_getElem h, List.foldl_append]
  rfl

set_option maxRecDepth 100000 in
set_option maxHeartbeats 4000000 in
/-- subs.Most. -/
theorem Most_is (l : List Sb) (A : Option Addr) (c : Nat) (x : List UInt8) (m : List Sb) (Q : Int) (w : World) (h : SubsAt w w.heap.size A l) (hm : May l) (hx : x.length ≤ 1000000) (ht : topicErr x = 0) (hr : reached l x = m) (hQ : top m = Q) :
    Calls Try.prog 8 #[.slice A l.length c, .string (str x)] w fun e w' => e = .returned (.tuple #[.int .i64 Q, .int .i64 0]) ∧ Below w.heap.size w w' := by
  have HA := Lib.hid (All_is l A c x m w h hm hx ht hr)
  have hml : m.length ≤ 8 := by rw [← hr]; exact Nat.le_trans (reached_len _ _) hm.few
  have HQ := Lib.hid hQ
  clear h hm hx ht hr hQ
  generalize str x = sx at HA ⊢
  go_enter Try.func8, Try.ntmps8
  go_wp2_with fail
  refine HA.out.mono ?_
  rintro e w1 ⟨A1, c1, rfl, hs1, hb1⟩
  have HX1 := Lib.hid hb1
  have H := Lib.hid hs1
  clear hs1 hb1 HA
  go_wp2_with fail
  go_loopw [8, 22] (fun q i wr => ∃ k : Nat, k ≤ m.length ∧ i = .int .i64 (k : Int) ∧ q = .int .i64 (top (m.take k)) ∧ Below w1.heap.size w1 wr) (fun _ i _ => m.length - (RowKit.intOf i).toNat)
  case atStart => exact ⟨0, Nat.zero_le _, rfl, rfl, Below.refl _ _⟩
  case round =>
    obtain ⟨k, hk, rfl, rfl, hb⟩ := hrel
    have HW := Lib.hid hb
    have hsz := hb.size
    clear hb
    by_cases hlt : k < m.length
    · obtain ⟨b0, o, rfl, _, hc⟩ := (H.out.below HW.out).some_ (by omega)
      obtain ⟨d0, d1, d2, d3, d4, d5, d6, d7, d8⟩ := hc k hlt
      have HS := Lib.hid (top_step hlt)
      clear hc
      generalize m[k] = s at d0 d1 HS
      obtain ⟨t, q⟩ := s
      dsimp only at d0 d1 HS
      generalize str t = st at d0
      have hkI : (k : Int) < (m.length : Int) := by omega
      generalize htk : top (m.take k) = a at HS ⊢
      have HT := Lib.hid htk
      clear htk
      go_wp2_with fail
      go_roundw
      case rel => exact ⟨k + 1, hlt, by go_num, by rw [HS.out], HW.out.alloc hsz _⟩
      case measure => simp [RowKit.intOf]; omega
    · obtain rfl : k = m.length := by omega
      rw [List.take_length, HQ.out]
      go_wp2_with fail
      go_ret2
      exact ⟨rfl, HX1.out.trans (HW.out.mono HX1.out.size)⟩
end Go.Proofs.Ytdogeljlcnlbkaa.Sbs
