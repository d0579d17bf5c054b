/-
  DERIVED. GIVEN WITH THE SEED: THE CARDS: each row of YtimoncjdfmfojaaDoorRows.lean that lists a variable, with what it lists TIED to the program's text (the seventh form; the later family's looks); each row that meets fmt, with fmt's text TOLD by the authors' own Lean function (tested against real Go, not proved from fmt's source: count such statements apart). THE CARD IS WHAT COUNTS. Prove the row's statement (the work); the ties are given (YtimoncjdfmfojaaDoorTie.lean); close each card by the builder's one call (the guide's Derived/Test/ToyasCard.lean, 'card_holds'). Laid BY PROGRAM, IN A SANDBOX (cutbox-door.mjs). By AI agents, Wed Nov 11 2026. No macro, syntax, notation, axiom, sorry.
-/
import Derived.Test.YtimoncjdfmfojaaDoorRows
import GoSem.ClaimSeven
namespace Go.Proofs.YtimoncjdfmfojaaDoor
namespace Rows

/-- THE TIED CARD OF 'fairwaylaw10.RecBytes'. -/
def recBytesCard : Claim7 := { stood := { row := recBytesRow, standIns := [], harness := (true, "1684f457d99689c232ef26593dd9c645dd9927ca09ecc9f3e3b7da52614d924c"), looks := true }, kinds := [], alts := [], laidByText := true, laidKinds := [.data], laidTests := true, laidLooks := .later }
def RecBytesCardSaid : Prop := Claim7.holds Tryd.pinned (.plain (OpenSpec.ofChange recBytesSpec)) recBytesCard

/-- THE TIED CARD OF 'fairwaylaw10.RecTakes'. -/
def recTakesCard : Claim7 := { stood := { row := recTakesRow, standIns := [], harness := (true, "1684f457d99689c232ef26593dd9c645dd9927ca09ecc9f3e3b7da52614d924c"), looks := true }, kinds := [], alts := [], laidByText := true, laidKinds := [.data], laidTests := true, laidLooks := .later }
def RecTakesCardSaid : Prop := Claim7.holds Tryd.pinned (.plain (OpenSpec.ofChange recTakesSpec)) recTakesCard

/-- THE TIED CARD OF 'fairwaylaw10.RecBack'. -/
def recBackCard : Claim7 := { stood := { row := recBackRow, standIns := [], harness := (true, "1684f457d99689c232ef26593dd9c645dd9927ca09ecc9f3e3b7da52614d924c"), looks := true }, kinds := [], alts := [], laidByText := true, laidKinds := [.data], laidTests := true, laidLooks := .later }
def RecBackCardSaid : Prop := Claim7.holds Tryd.pinned (.plain (OpenSpec.ofChange recBackSpec)) recBackCard

/-- THE TIED CARD OF 'fairwaylaw10.RecEdges'. -/
def recEdgesCard : Claim7 := { stood := { row := recEdgesRow, standIns := [], harness := (true, "1684f457d99689c232ef26593dd9c645dd9927ca09ecc9f3e3b7da52614d924c"), looks := true }, kinds := [], alts := [], laidByText := true, laidKinds := [.data], laidTests := true, laidLooks := .later }
def RecEdgesCardSaid : Prop := Claim7.holds Tryd.pinned (.plain (OpenSpec.ofChange recEdgesSpec)) recEdgesCard

/-- THE SECOND FORM's CARD OF 'fairwaylaw10.RecBytes'. -/
def recBytesUptoCard : Claim7 := { stood := { row := recBytesUptoRow, standIns := [], harness := (true, "1684f457d99689c232ef26593dd9c645dd9927ca09ecc9f3e3b7da52614d924c"), looks := true }, kinds := [], alts := [], laidByText := true, laidKinds := [.data], laidTests := true, laidLooks := .later }
def RecBytesUptoCardSaid : Prop := Claim7.holds Tryd.pinned (.plain (OpenSpec.upto recBytesSpec)) recBytesUptoCard

/-- THE SECOND FORM's CARD OF 'fairwaylaw10.RecTakes'. -/
def recTakesUptoCard : Claim7 := { stood := { row := recTakesUptoRow, standIns := [], harness := (true, "1684f457d99689c232ef26593dd9c645dd9927ca09ecc9f3e3b7da52614d924c"), looks := true }, kinds := [], alts := [], laidByText := true, laidKinds := [.data], laidTests := true, laidLooks := .later }
def RecTakesUptoCardSaid : Prop := Claim7.holds Tryd.pinned (.plain (OpenSpec.upto recTakesSpec)) recTakesUptoCard

/-- THE SECOND FORM's CARD OF 'fairwaylaw10.RecBack'. -/
def recBackUptoCard : Claim7 := { stood := { row := recBackUptoRow, standIns := [], harness := (true, "1684f457d99689c232ef26593dd9c645dd9927ca09ecc9f3e3b7da52614d924c"), looks := true }, kinds := [], alts := [], laidByText := true, laidKinds := [.data], laidTests := true, laidLooks := .later }
def RecBackUptoCardSaid : Prop := Claim7.holds Tryd.pinned (.plain (OpenSpec.upto recBackSpec)) recBackUptoCard

/-- THE SECOND FORM's CARD OF 'fairwaylaw10.RecEdges'. -/
def recEdgesUptoCard : Claim7 := { stood := { row := recEdgesUptoRow, standIns := [], harness := (true, "1684f457d99689c232ef26593dd9c645dd9927ca09ecc9f3e3b7da52614d924c"), looks := true }, kinds := [], alts := [], laidByText := true, laidKinds := [.data], laidTests := true, laidLooks := .later }
def RecEdgesUptoCardSaid : Prop := Claim7.holds Tryd.pinned (.plain (OpenSpec.upto recEdgesSpec)) recEdgesUptoCard
end Rows
end Go.Proofs.YtimoncjdfmfojaaDoor
