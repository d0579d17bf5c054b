/-
  DERIVED. GIVEN WITH THE SEED: THE CARDS: each row of YthhpmhibkbndhaaDoorRows.lean that lists a variable, with what it lists TIED to the program's text (the seventh form; the later family's looks); each row that meets fmt, with fmt's text TOLD by the authors' own Lean function (tested against real Go, not proved from fmt's source: count such statements apart). THE CARD IS WHAT COUNTS. Prove the row's statement (the work); the ties are given (YthhpmhibkbndhaaDoorTie.lean); close each card by the builder's one call (the guide's Derived/Test/ToyasCard.lean, 'card_holds'). Laid BY PROGRAM, IN A SANDBOX (cutbox-door.mjs). By AI agents, Wed Nov 11 2026. No macro, syntax, notation, axiom, sorry.
-/
import Derived.Test.YthhpmhibkbndhaaDoorRows
import GoSem.ClaimSeven
namespace Go.Proofs.YthhpmhibkbndhaaDoor
namespace Rows

/-- THE TIED CARD OF 'fairwaylaw11.SegAdds'. -/
def segAddsCard : Claim7 := { stood := { row := segAddsRow, standIns := [], harness := (true, "051315559efe7de9f91f3e2ab9dbcaf3265e53064963a972f3403ba9c3b4f771"), looks := true }, kinds := [], alts := [], laidByText := true, laidKinds := [.data], laidTests := true, laidLooks := .later }
def SegAddsCardSaid : Prop := Claim7.holds Tryd.pinned (.plain (OpenSpec.ofChange segAddsSpec)) segAddsCard

/-- THE TIED CARD OF 'fairwaylaw11.SegParses'. -/
def segParsesCard : Claim7 := { stood := { row := segParsesRow, standIns := [], harness := (true, "051315559efe7de9f91f3e2ab9dbcaf3265e53064963a972f3403ba9c3b4f771"), looks := true }, kinds := [], alts := [], laidByText := true, laidKinds := [.data], laidTests := true, laidLooks := .later }
def SegParsesCardSaid : Prop := Claim7.holds Tryd.pinned (.plain (OpenSpec.ofChange segParsesSpec)) segParsesCard

/-- THE TIED CARD OF 'fairwaylaw11.SegBack'. -/
def segBackCard : Claim7 := { stood := { row := segBackRow, standIns := [], harness := (true, "051315559efe7de9f91f3e2ab9dbcaf3265e53064963a972f3403ba9c3b4f771"), looks := true }, kinds := [], alts := [], laidByText := true, laidKinds := [.data], laidTests := true, laidLooks := .later }
def SegBackCardSaid : Prop := Claim7.holds Tryd.pinned (.plain (OpenSpec.ofChange segBackSpec)) segBackCard

/-- THE SECOND FORM's CARD OF 'fairwaylaw11.SegAdds'. -/
def segAddsUptoCard : Claim7 := { stood := { row := segAddsUptoRow, standIns := [], harness := (true, "051315559efe7de9f91f3e2ab9dbcaf3265e53064963a972f3403ba9c3b4f771"), looks := true }, kinds := [], alts := [], laidByText := true, laidKinds := [.data], laidTests := true, laidLooks := .later }
def SegAddsUptoCardSaid : Prop := Claim7.holds Tryd.pinned (.plain (OpenSpec.upto segAddsSpec)) segAddsUptoCard

/-- THE SECOND FORM's CARD OF 'fairwaylaw11.SegParses'. -/
def segParsesUptoCard : Claim7 := { stood := { row := segParsesUptoRow, standIns := [], harness := (true, "051315559efe7de9f91f3e2ab9dbcaf3265e53064963a972f3403ba9c3b4f771"), looks := true }, kinds := [], alts := [], laidByText := true, laidKinds := [.data], laidTests := true, laidLooks := .later }
def SegParsesUptoCardSaid : Prop := Claim7.holds Tryd.pinned (.plain (OpenSpec.upto segParsesSpec)) segParsesUptoCard

/-- THE SECOND FORM's CARD OF 'fairwaylaw11.SegBack'. -/
def segBackUptoCard : Claim7 := { stood := { row := segBackUptoRow, standIns := [], harness := (true, "051315559efe7de9f91f3e2ab9dbcaf3265e53064963a972f3403ba9c3b4f771"), looks := true }, kinds := [], alts := [], laidByText := true, laidKinds := [.data], laidTests := true, laidLooks := .later }
def SegBackUptoCardSaid : Prop := Claim7.holds Tryd.pinned (.plain (OpenSpec.upto segBackSpec)) segBackUptoCard
end Rows
end Go.Proofs.YthhpmhibkbndhaaDoor
