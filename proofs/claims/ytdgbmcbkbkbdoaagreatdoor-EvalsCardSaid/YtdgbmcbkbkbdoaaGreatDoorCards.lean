/-
  DERIVED. GIVEN WITH THE SEED: THE CARDS: each row of YtdgbmcbkbkbdoaaGreatDoorRows.lean that lists a variable, with what it lists TIED to the program's text (the seventh form; the later family's looks); each row that meets fmt, with fmt's text TOLD by the authors' own Lean function (tested against real Go, not proved from fmt's source: count such statements apart). THE CARD IS WHAT COUNTS. Prove the row's statement (the work); the ties are given (YtdgbmcbkbkbdoaaGreatDoorTie.lean); close each card by the builder's one call (the guide's Derived/Test/ToyasCard.lean, 'card_holds'). Laid BY PROGRAM, IN A SANDBOX (cutbox-door.mjs). By AI agents, Wed Nov 11 2026. No macro, syntax, notation, axiom, sorry.
-/
import Derived.Test.YtdgbmcbkbkbdoaaGreatDoorRows
import GoSem.ClaimSeven
namespace Go.Proofs.YtdgbmcbkbkbdoaaGreatDoor
namespace Rows

/-- THE TIED CARD OF 'curtainlaw.Texts'. -/
def textsCard : Claim7 := { stood := { row := textsRow, standIns := [], harness := (true, "4fd1585b452e370b4cc0535cf72d2b6a9cfa629480fda0d70fcb56bf814894b1"), looks := true }, kinds := [], alts := [], laidByText := true, laidKinds := [.data, .data, .data], laidTests := true, laidLooks := .later }
def TextsCardSaid : Prop := Claim7.holds Tryz.pinned (.plain (OpenSpec.ofChange textsSpec)) textsCard

/-- THE TIED CARD OF 'curtainkeep.Written'. -/
def writtenCard : Claim7 := { stood := { row := writtenRow, standIns := [], harness := (true, "4fd1585b452e370b4cc0535cf72d2b6a9cfa629480fda0d70fcb56bf814894b1"), looks := true }, kinds := [], alts := [], laidByText := true, laidKinds := [.data, .data, .data], laidTests := true, laidLooks := .later }
def WrittenCardSaid : Prop := Claim7.holds Tryz.pinned (.plain (OpenSpec.ofChange writtenSpec)) writtenCard

/-- THE TIED CARD OF 'curtainlaw.Evals'. -/
def evalsCard : Claim7 := { stood := { row := evalsRow, standIns := [], harness := (true, "4fd1585b452e370b4cc0535cf72d2b6a9cfa629480fda0d70fcb56bf814894b1"), looks := true }, kinds := [], alts := [], laidByText := true, laidKinds := [.data, .data, .data], laidTests := true, laidLooks := .later }
def EvalsCardSaid : Prop := Claim7.holds Tryz.pinned (.plain (OpenSpec.ofChange evalsSpec)) evalsCard

/-- THE TIED CARD OF 'curtainkeep.Curtained'. -/
def curtainedCard : Claim7 := { stood := { row := curtainedRow, standIns := [], harness := (true, "4fd1585b452e370b4cc0535cf72d2b6a9cfa629480fda0d70fcb56bf814894b1"), looks := true }, kinds := [], alts := [], laidByText := true, laidKinds := [.data, .data, .data], laidTests := true, laidLooks := .later }
def CurtainedCardSaid : Prop := Claim7.holds Tryz.pinned (.plain (OpenSpec.ofChange curtainedSpec)) curtainedCard

/-- THE TIED CARD OF 'curtainkeep.Told'. -/
def toldCard : Claim7 := { stood := { row := toldRow, standIns := [], harness := (true, "4fd1585b452e370b4cc0535cf72d2b6a9cfa629480fda0d70fcb56bf814894b1"), looks := true }, kinds := [], alts := [], laidByText := true, laidKinds := [.data, .data, .data], laidTests := true, laidLooks := .later }
def ToldCardSaid : Prop := Claim7.holds Tryz.pinned (.plain (OpenSpec.ofChange toldSpec)) toldCard

/-- THE TIED CARD OF 'curtainkeep.Meant'. -/
def meantCard : Claim7 := { stood := { row := meantRow, standIns := [], harness := (true, "4fd1585b452e370b4cc0535cf72d2b6a9cfa629480fda0d70fcb56bf814894b1"), looks := true }, kinds := [], alts := [], laidByText := true, laidKinds := [.data, .data, .data], laidTests := true, laidLooks := .later }
def MeantCardSaid : Prop := Claim7.holds Tryz.pinned (.plain (OpenSpec.ofChange meantSpec)) meantCard

/-- THE SECOND FORM's CARD OF 'curtainlaw.Texts'. -/
def textsUptoCard : Claim7 := { stood := { row := textsUptoRow, standIns := [], harness := (true, "4fd1585b452e370b4cc0535cf72d2b6a9cfa629480fda0d70fcb56bf814894b1"), looks := true }, kinds := [], alts := [], laidByText := true, laidKinds := [.data, .data, .data], laidTests := true, laidLooks := .later }
def TextsUptoCardSaid : Prop := Claim7.holds Tryz.pinned (.plain (OpenSpec.upto textsSpec)) textsUptoCard

/-- THE SECOND FORM's CARD OF 'curtainkeep.Written'. -/
def writtenUptoCard : Claim7 := { stood := { row := writtenUptoRow, standIns := [], harness := (true, "4fd1585b452e370b4cc0535cf72d2b6a9cfa629480fda0d70fcb56bf814894b1"), looks := true }, kinds := [], alts := [], laidByText := true, laidKinds := [.data, .data, .data], laidTests := true, laidLooks := .later }
def WrittenUptoCardSaid : Prop := Claim7.holds Tryz.pinned (.plain (OpenSpec.upto writtenSpec)) writtenUptoCard

/-- THE SECOND FORM's CARD OF 'curtainlaw.Evals'. -/
def evalsUptoCard : Claim7 := { stood := { row := evalsUptoRow, standIns := [], harness := (true, "4fd1585b452e370b4cc0535cf72d2b6a9cfa629480fda0d70fcb56bf814894b1"), looks := true }, kinds := [], alts := [], laidByText := true, laidKinds := [.data, .data, .data], laidTests := true, laidLooks := .later }
def EvalsUptoCardSaid : Prop := Claim7.holds Tryz.pinned (.plain (OpenSpec.upto evalsSpec)) evalsUptoCard

/-- THE SECOND FORM's CARD OF 'curtainkeep.Curtained'. -/
def curtainedUptoCard : Claim7 := { stood := { row := curtainedUptoRow, standIns := [], harness := (true, "4fd1585b452e370b4cc0535cf72d2b6a9cfa629480fda0d70fcb56bf814894b1"), looks := true }, kinds := [], alts := [], laidByText := true, laidKinds := [.data, .data, .data], laidTests := true, laidLooks := .later }
def CurtainedUptoCardSaid : Prop := Claim7.holds Tryz.pinned (.plain (OpenSpec.upto curtainedSpec)) curtainedUptoCard

/-- THE SECOND FORM's CARD OF 'curtainkeep.Told'. -/
def toldUptoCard : Claim7 := { stood := { row := toldUptoRow, standIns := [], harness := (true, "4fd1585b452e370b4cc0535cf72d2b6a9cfa629480fda0d70fcb56bf814894b1"), looks := true }, kinds := [], alts := [], laidByText := true, laidKinds := [.data, .data, .data], laidTests := true, laidLooks := .later }
def ToldUptoCardSaid : Prop := Claim7.holds Tryz.pinned (.plain (OpenSpec.upto toldSpec)) toldUptoCard

/-- THE SECOND FORM's CARD OF 'curtainkeep.Meant'. -/
def meantUptoCard : Claim7 := { stood := { row := meantUptoRow, standIns := [], harness := (true, "4fd1585b452e370b4cc0535cf72d2b6a9cfa629480fda0d70fcb56bf814894b1"), looks := true }, kinds := [], alts := [], laidByText := true, laidKinds := [.data, .data, .data], laidTests := true, laidLooks := .later }
def MeantUptoCardSaid : Prop := Claim7.holds Tryz.pinned (.plain (OpenSpec.upto meantSpec)) meantUptoCard
end Rows
end Go.Proofs.YtdgbmcbkbkbdoaaGreatDoor
