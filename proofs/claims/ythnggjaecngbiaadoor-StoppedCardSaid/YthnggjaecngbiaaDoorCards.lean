/-
  DERIVED. GIVEN WITH THE SEED: THE CARDS: each row of YthnggjaecngbiaaDoorRows.lean that lists a variable, with what it lists TIED to the program's text (the seventh form; the later family's looks); each row that meets fmt, with fmt's text TOLD by the authors' own Lean function (tested against real Go, not proved from fmt's source: count such statements apart). THE CARD IS WHAT COUNTS. Prove the row's statement (the work); the ties are given (YthnggjaecngbiaaDoorTie.lean); close each card by the builder's one call (the guide's Derived/Test/ToyasCard.lean, 'card_holds'). Laid BY PROGRAM, IN A SANDBOX (cutbox-door.mjs). By AI agents, Wed Nov 11 2026. No macro, syntax, notation, axiom, sorry.
-/
import Derived.Test.YthnggjaecngbiaaDoorRows
import GoSem.ClaimSeven
namespace Go.Proofs.YthnggjaecngbiaaDoor
namespace Rows

/-- THE TIED CARD OF 'curtainkeep.Stopped'. -/
def stoppedCard : Claim7 := { stood := { row := stoppedRow, standIns := [], harness := (true, "0e5b9ad2d9330787cc5c21d21d9d03b4d4d9f32b0d687c13fdc585dcd6b22f32"), looks := true }, kinds := [], alts := [], laidByText := true, laidKinds := [.data, .data, .data], laidTests := true, laidLooks := .later }
def StoppedCardSaid : Prop := Claim7.holds Tryd.pinned (.plain (OpenSpec.ofChange stoppedSpec)) stoppedCard

/-- THE SECOND FORM's CARD OF 'curtainkeep.Stopped'. -/
def stoppedUptoCard : Claim7 := { stood := { row := stoppedUptoRow, standIns := [], harness := (true, "0e5b9ad2d9330787cc5c21d21d9d03b4d4d9f32b0d687c13fdc585dcd6b22f32"), looks := true }, kinds := [], alts := [], laidByText := true, laidKinds := [.data, .data, .data], laidTests := true, laidLooks := .later }
def StoppedUptoCardSaid : Prop := Claim7.holds Tryd.pinned (.plain (OpenSpec.upto stoppedSpec)) stoppedUptoCard
end Rows
end Go.Proofs.YthnggjaecngbiaaDoor
