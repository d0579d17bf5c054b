/- The document's own: may any packet be; its bytes. -/
import Derived.Test.YtdbbcfohjkgdcaaGreatM00
import Derived.Test.YtdbbcfohjkgdcaaGreatM33
import Derived.Test.YtdbbcfohjkgdcaaGreatM34
import Derived.Test.YtdbbcfohjkgdcaaGreatM35
import Derived.Test.YtdbbcfohjkgdcaaGreatM37
set_option maxRecDepth 100000
set_option maxHeartbeats 64000000
namespace Go.Proofs.YtdbbcfohjkgdcaaGreat
open Go.RowKit Go.Lib Prp Pkt Vbi
theorem RPacket_any (p : Pk) (a : Ad) (b : Bool) (w : World) (hf : PkFit p a) (h : PkAt w w.heap.size p a) (hb : packB p = b) :
  Calls Tryz.prog 9 #[.agg (pkArr p a)] w fun e w' => e = .returned (.bool b) ∧ Below w.heap.size w w' := by
 by_cases hk : 1 ≤ p.kind ∧ p.kind ≤ 15
 ·rcases kinds_all hk.1 hk.2 with e | e | e | e | e | e | e | e | e | e | e | e | e | e | e
  ·exact rpacket_1 p a b w hf h e hb
  ·exact rpacket_2 p a b w hf h e hb
  ·exact rpacket_3 p a b w hf h e hb
  ·exact rpacket_4 p a b w hf h e hb
  ·exact rpacket_5 p a b w hf h e hb
  ·exact rpacket_6 p a b w hf h e hb
  ·exact rpacket_7 p a b w hf h e hb
  ·exact rpacket_8 p a b w hf h e hb
  ·exact rpacket_9 p a b w hf h e hb
  ·exact rpacket_10 p a b w hf h e hb
  ·exact rpacket_11 p a b w hf h e hb
  ·exact rpacket_12 p a b w hf h e hb
  ·exact rpacket_13 p a b w hf h e hb
  ·exact rpacket_14 p a b w hf h e hb
  ·exact rpacket_15 p a b w hf h e hb
 ·exact rpacket_none p a b w hf h hk hb
theorem RBytes_any (p : Pk) (a : Ad) (S : ByteArray) (w : World) (h : PkAt w w.heap.size p a) (hb : packB p = true) (hS : strP p = S) :
  Calls Tryz.prog 10 #[.agg (pkArr p a)] w fun e w' => e = .returned (.string S) ∧ Below w.heap.size w w' := by
 have hg : goodP p = true := by
  rw [pack_good, Bool.and_eq_true] at hb
  exact hb.1
 have hk : 1 ≤ p.kind ∧ p.kind ≤ 15 := by
  refine Classical.byContradiction fun hk => ?_
  rw [doc_none hk] at hg
  cases hg
 rcases kinds_all hk.1 hk.2 with e | e | e | e | e | e | e | e | e | e | e | e | e | e | e
 ·exact RB_1 p a S w h e hg hS
 ·exact RB_2 p a S w h e hg hS
 ·exact RB_3 p a S w h e hg hS
 ·exact RB_4 p a S w h e hg hS
 ·exact RB_5 p a S w h e hg hS
 ·exact RB_6 p a S w h e hg hS
 ·exact RB_7 p a S w h e hg hS
 ·exact RB_8 p a S w h e hg hS
 ·exact RB_9 p a S w h e hg hS
 ·exact RB_10 p a S w h e hg hS
 ·exact RB_11 p a S w h e hg hS
 ·exact RB_12 p a S w h e hg hS
 ·exact RB_13 p a S w h e hg hS
 ·exact RB_14 p a S w h e hg hS
 ·exact RB_15 p a S w h e hg hS
end Go.Proofs.YtdbbcfohjkgdcaaGreat
