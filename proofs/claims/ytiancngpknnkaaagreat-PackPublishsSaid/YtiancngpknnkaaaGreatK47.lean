/- The document's own answer on packets: small words; flags. -/
import Derived.Test.YtiancngpknnkaaaGreatK00
import Derived.Test.YtiancngpknnkaaaGreatK13
import Derived.Test.YtiancngpknnkaaaGreatK46
set_option maxRecDepth 100000
set_option maxHeartbeats 64000000
namespace Go.Proofs.YtiancngpknnkaaaGreat
open Go.RowKit Go.Lib Prp Pkt Vbi Txt
theorem long_is (s S : ByteArray) (w : World) (hs : s.size < 65536) (hS : lgStr s = S) :
  Calls Tryz.prog 91 #[.string s] w fun e w' => e = .returned (.string S) ∧ Below w.heap.size w w' := by
 obtain ⟨T, hT⟩ : ∃ T, strOfNums (fixZ 2 s.size) = T := ⟨_, rfl⟩
 have hz : T.size ≤ 2 := by rw [← hT, fix2_size]; omega
 have HF := Lib.hid (fun W => RFixed_two s.size T W hs hT)
 have HS : Hid (S = T ++ s) := by show _ = _; rw [← hS, ← hT]; rfl
 clear hS hT
 go_enter Tryz.func91, Tryz.ntmps91
 go_wp2_with (go_at_call 93; refine (HF.out _).mono ?_; rintro e w1 ⟨rfl, hb⟩)
 go_ret
 exact ⟨by rw [HS.out]; rfl, hb⟩
end Go.Proofs.YtiancngpknnkaaaGreat
