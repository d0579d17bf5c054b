/- For every script: by a segment's marks package index finds the record that the document's own answer finds without them, from any offset on, and passes no more than there are to a mark. No condition. -/
import Derived.Test.YtijpieaanlnibaaV06
/- The law IndexLooks for every argument: by whether the segment may be. -/
namespace Go.Proofs.Ytijpieaanlnibaa.Mkd
open Go.RowKit Go.Lib Rcd

theorem IndexLooks_any (b : Int) (rs L : List Rc) (ns : List Int) (A B D : Option Addr) (c cl cn : Nat) (x : ByteArray) (w : World) (hl1 : rs.length ≤ 9223372036854775807) (hl2 : L.length ≤ 9223372036854775807) (hl3 : ns.length ≤ 9223372036854775807) (hcap : rs.length ≤ c) (hA : RecsAt w w.heap.size A rs) (hB : RecsAt w w.heap.size B L) (hD : Nums w w.heap.size .i64 D ns) :
    Calls Try.prog 5 #[.agg #[.int .i64 b, .slice A rs.length c, .slice B L.length cl, .slice D ns.length cn, .string x]] w fun e w' => e = .returned (.bool true) ∧ Below w.heap.size w w' := by
  cases hM : segB b rs with
  | false => exact IndexLooks_no b rs L ns A B D c cl cn x w hl1 hl2 hl3 hcap hA hB hD hM
  | true => exact IndexLooks_yes b rs L ns A B D c cl cn x w hl1 hl2 hl3 hcap hA hB hD hM
end Go.Proofs.Ytijpieaanlnibaa.Mkd
/- For every script: by a segment's marks package index finds the record that the document's own answer finds without them, from any offset on, and passes no more than there are to a mark. No condition. -/
namespace Go.Proofs.Ytijpieaanlnibaa.indexLooks
open Go.ChangeShapes Go.WideShapes Go.ChangeAt Go.RowKit Rcd Mkd

set_option maxRecDepth 100000 in
theorem lifted (os : Os) (started : os.Started) (H : Type) (enc : TypeId × Value → H) :
    ReturnsInHanded {} Try.checked os 5 .any (Rows.indexLooksSpec.pre6 enc Try.prog Try.f5 Rows.indexLooksRow.domain false) (Rows.indexLooksSpec.post enc Try.prog Try.f5 false true false false) := by
  refine returnsInHanded_of_change_sized (C := Try.checked) ownKnob_none started (by kernel_rfl) Try.func5
    (ChangeSpec.witness6 (enc := enc) (C := Try.checked) false ⟨#[], #[.agg #[.int .i64 0, .slice none 0 0, .slice none 0 0, .slice none 0 0, .string ⟨#[]⟩]], []⟩ 8 (by kernel_rfl) (by kernel_rfl) (by kernel_rfl) (by kernel_rfl)) ?_
  intro W base args ds gs before hval0 hW _ hsz0 _
  have hval : ∀ (j : Nat) t v, Try.f5.params[j]? = some t → args[j]? = some v → Value.okWide Try.prog W .any base t v := hval0
  have hW' := hW
  obtain ⟨p, q, hA0, hV, rfl, _, _⟩ := hW
  have hA : DataW.TrodAll enc Try.prog W 0 (fun _ => true) true Try.f5.params.toList args.toList ds p := hA0
  rw [Try.params5] at hA hval
  obtain ⟨v0, d0, rfl, rfl, h0⟩ := trodAll_one hA
  obtain ⟨rfl, rfl⟩ := trodVars_none hV
  have lt0 : ∀ x ∈ p, x.block < W.heap.size := by obtain ⟨m, hm⟩ := h0; exact DataW.trod_lt m _ _ _ hm
  have near : Near 27 d0 := fun n hn => by
    have := List.all_eq_true.1 hsz0 n (DataW.weights_mem_each (j := 0) (t := 27) (d := d0) (by rw [Try.params5]; rfl) rfl n hn)
    simpa using this
  obtain ⟨b, rs, L, ns, A, B, D, c, cl, cn, s, rfl, hs⟩ := script_all (hval 0 27 v0 rfl rfl) near h0
  clear hA0 hval0
  refine (IndexLooks_any b rs L ns A B D c cl cn s W (by have := hs.lA; omega) (by have := hs.lB; omega) (by have := hs.lD; omega) hs.cap hs.hA hs.hB hs.hD).mono fun e W' ⟨he, bel⟩ => ?_
  subst he
  exact ⟨_, rfl, _, _, _, [], _, [], hW', trodAll_mk1 (shut_bool Try.underlying4 _), trodAll_mk1 (Below.trod laidOut_true (by kernel_rfl) (of_decide_eq_true (by kernel_rfl)) h0 bel lt0), rfl, bel.frame _, fun h => by cases h⟩

theorem over : Rows.indexLooksRow.holds Try.pinned (OpenSpec.ofChange Rows.indexLooksSpec) :=
  OpenClaim.holds_of_wide 5 Try.f5 rfl rfl rfl rfl rfl rfl rfl ⟨rfl, rfl, rfl, rfl, rfl⟩ rfl rfl rfl rfl rfl (by kernel_rfl) Try.func5 (by kernel_rfl)
    (of_decide_eq_true (by kernel_rfl)) (by unfold Func.isWrapper; rw [if_neg (of_decide_eq_false (by kernel_rfl))]; exact ⟨rfl, rfl⟩)
    (fun os started H enc _ => lifted os started H enc)

theorem proved : Rows.IndexLooksSaid := over
#print axioms proved
end Go.Proofs.Ytijpieaanlnibaa.indexLooks
