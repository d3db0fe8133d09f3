/-
  DERIVED. GIVEN WITH THE SEED: THE CARDS: each row of YthnggjaecngbiaaGreatDoorRows.lean that lists a variable, with what it lists TIED to the program's text (the seventh form; the later family's looks); each row that meets fmt, with fmt's text TOLD by the authors' own Lean function (tested against real Go, not proved from fmt's source: count such statements apart). THE CARD IS WHAT COUNTS. Prove the row's statement (the work); the ties are given (YthnggjaecngbiaaGreatDoorTie.lean); close each card by the builder's one call (the guide's Derived/Test/ToyasCard.lean, 'card_holds'). Laid BY PROGRAM, IN A SANDBOX (cutbox-door.mjs). By AI agents, Wed Nov 11 2026. No macro, syntax, notation, axiom, sorry.
-/
import Derived.Test.YthnggjaecngbiaaGreatDoorRows
import GoSem.ClaimSeven
namespace Go.Proofs.YthnggjaecngbiaaGreatDoor
namespace Rows

/-- THE TIED CARD OF 'curtainlaw.Texts'. -/
def textsCard : Claim7 := { stood := { row := textsRow, standIns := [], harness := (true, "ef173cb1f44de414b0a56f6d026c17ab80f2998c29abdc5710c7851c8e636ece"), looks := true }, kinds := [], alts := [], laidByText := true, laidKinds := [.data, .data, .data], laidTests := true, laidLooks := .later }
def TextsCardSaid : Prop := Claim7.holds Tryz.pinned (.plain (OpenSpec.ofChange textsSpec)) textsCard

/-- THE TIED CARD OF 'curtainkeep.Written'. -/
def writtenCard : Claim7 := { stood := { row := writtenRow, standIns := [], harness := (true, "ef173cb1f44de414b0a56f6d026c17ab80f2998c29abdc5710c7851c8e636ece"), looks := true }, kinds := [], alts := [], laidByText := true, laidKinds := [.data, .data, .data], laidTests := true, laidLooks := .later }
def WrittenCardSaid : Prop := Claim7.holds Tryz.pinned (.plain (OpenSpec.ofChange writtenSpec)) writtenCard

/-- THE TIED CARD OF 'curtainlaw.Evals'. -/
def evalsCard : Claim7 := { stood := { row := evalsRow, standIns := [], harness := (true, "ef173cb1f44de414b0a56f6d026c17ab80f2998c29abdc5710c7851c8e636ece"), looks := true }, kinds := [], alts := [], laidByText := true, laidKinds := [.data, .data, .data], laidTests := true, laidLooks := .later }
def EvalsCardSaid : Prop := Claim7.holds Tryz.pinned (.plain (OpenSpec.ofChange evalsSpec)) evalsCard

/-- THE TIED CARD OF 'curtainkeep.Curtained'. -/
def curtainedCard : Claim7 := { stood := { row := curtainedRow, standIns := [], harness := (true, "ef173cb1f44de414b0a56f6d026c17ab80f2998c29abdc5710c7851c8e636ece"), looks := true }, kinds := [], alts := [], laidByText := true, laidKinds := [.data, .data, .data], laidTests := true, laidLooks := .later }
def CurtainedCardSaid : Prop := Claim7.holds Tryz.pinned (.plain (OpenSpec.ofChange curtainedSpec)) curtainedCard

/-- THE TIED CARD OF 'curtainkeep.Told'. -/
def toldCard : Claim7 := { stood := { row := toldRow, standIns := [], harness := (true, "ef173cb1f44de414b0a56f6d026c17ab80f2998c29abdc5710c7851c8e636ece"), looks := true }, kinds := [], alts := [], laidByText := true, laidKinds := [.data, .data, .data], laidTests := true, laidLooks := .later }
def ToldCardSaid : Prop := Claim7.holds Tryz.pinned (.plain (OpenSpec.ofChange toldSpec)) toldCard

/-- THE TIED CARD OF 'curtainkeep.Meant'. -/
def meantCard : Claim7 := { stood := { row := meantRow, standIns := [], harness := (true, "ef173cb1f44de414b0a56f6d026c17ab80f2998c29abdc5710c7851c8e636ece"), looks := true }, kinds := [], alts := [], laidByText := true, laidKinds := [.data, .data, .data], laidTests := true, laidLooks := .later }
def MeantCardSaid : Prop := Claim7.holds Tryz.pinned (.plain (OpenSpec.ofChange meantSpec)) meantCard

/-- THE TIED CARD OF 'curtainkeep.Sought'. -/
def soughtCard : Claim7 := { stood := { row := soughtRow, standIns := [], harness := (true, "ef173cb1f44de414b0a56f6d026c17ab80f2998c29abdc5710c7851c8e636ece"), looks := true }, kinds := [], alts := [], laidByText := true, laidKinds := [.data, .data, .data], laidTests := true, laidLooks := .later }
def SoughtCardSaid : Prop := Claim7.holds Tryz.pinned (.plain (OpenSpec.ofChange soughtSpec)) soughtCard

/-- THE TIED CARD OF 'curtainlaw.All'. -/
def allCard : Claim7 := { stood := { row := allRow, standIns := [], harness := (true, "ef173cb1f44de414b0a56f6d026c17ab80f2998c29abdc5710c7851c8e636ece"), looks := true }, kinds := [], alts := [], laidByText := true, laidKinds := [.data, .data, .data], laidTests := true, laidLooks := .later }
def AllCardSaid : Prop := Claim7.holds Tryz.pinned (.plain (OpenSpec.ofChange allSpec)) allCard

/-- THE SECOND FORM's CARD OF 'curtainlaw.Texts'. -/
def textsUptoCard : Claim7 := { stood := { row := textsUptoRow, standIns := [], harness := (true, "ef173cb1f44de414b0a56f6d026c17ab80f2998c29abdc5710c7851c8e636ece"), looks := true }, kinds := [], alts := [], laidByText := true, laidKinds := [.data, .data, .data], laidTests := true, laidLooks := .later }
def TextsUptoCardSaid : Prop := Claim7.holds Tryz.pinned (.plain (OpenSpec.upto textsSpec)) textsUptoCard

/-- THE SECOND FORM's CARD OF 'curtainkeep.Written'. -/
def writtenUptoCard : Claim7 := { stood := { row := writtenUptoRow, standIns := [], harness := (true, "ef173cb1f44de414b0a56f6d026c17ab80f2998c29abdc5710c7851c8e636ece"), looks := true }, kinds := [], alts := [], laidByText := true, laidKinds := [.data, .data, .data], laidTests := true, laidLooks := .later }
def WrittenUptoCardSaid : Prop := Claim7.holds Tryz.pinned (.plain (OpenSpec.upto writtenSpec)) writtenUptoCard

/-- THE SECOND FORM's CARD OF 'curtainlaw.Evals'. -/
def evalsUptoCard : Claim7 := { stood := { row := evalsUptoRow, standIns := [], harness := (true, "ef173cb1f44de414b0a56f6d026c17ab80f2998c29abdc5710c7851c8e636ece"), looks := true }, kinds := [], alts := [], laidByText := true, laidKinds := [.data, .data, .data], laidTests := true, laidLooks := .later }
def EvalsUptoCardSaid : Prop := Claim7.holds Tryz.pinned (.plain (OpenSpec.upto evalsSpec)) evalsUptoCard

/-- THE SECOND FORM's CARD OF 'curtainkeep.Curtained'. -/
def curtainedUptoCard : Claim7 := { stood := { row := curtainedUptoRow, standIns := [], harness := (true, "ef173cb1f44de414b0a56f6d026c17ab80f2998c29abdc5710c7851c8e636ece"), looks := true }, kinds := [], alts := [], laidByText := true, laidKinds := [.data, .data, .data], laidTests := true, laidLooks := .later }
def CurtainedUptoCardSaid : Prop := Claim7.holds Tryz.pinned (.plain (OpenSpec.upto curtainedSpec)) curtainedUptoCard

/-- THE SECOND FORM's CARD OF 'curtainkeep.Told'. -/
def toldUptoCard : Claim7 := { stood := { row := toldUptoRow, standIns := [], harness := (true, "ef173cb1f44de414b0a56f6d026c17ab80f2998c29abdc5710c7851c8e636ece"), looks := true }, kinds := [], alts := [], laidByText := true, laidKinds := [.data, .data, .data], laidTests := true, laidLooks := .later }
def ToldUptoCardSaid : Prop := Claim7.holds Tryz.pinned (.plain (OpenSpec.upto toldSpec)) toldUptoCard

/-- THE SECOND FORM's CARD OF 'curtainkeep.Meant'. -/
def meantUptoCard : Claim7 := { stood := { row := meantUptoRow, standIns := [], harness := (true, "ef173cb1f44de414b0a56f6d026c17ab80f2998c29abdc5710c7851c8e636ece"), looks := true }, kinds := [], alts := [], laidByText := true, laidKinds := [.data, .data, .data], laidTests := true, laidLooks := .later }
def MeantUptoCardSaid : Prop := Claim7.holds Tryz.pinned (.plain (OpenSpec.upto meantSpec)) meantUptoCard

/-- THE SECOND FORM's CARD OF 'curtainkeep.Sought'. -/
def soughtUptoCard : Claim7 := { stood := { row := soughtUptoRow, standIns := [], harness := (true, "ef173cb1f44de414b0a56f6d026c17ab80f2998c29abdc5710c7851c8e636ece"), looks := true }, kinds := [], alts := [], laidByText := true, laidKinds := [.data, .data, .data], laidTests := true, laidLooks := .later }
def SoughtUptoCardSaid : Prop := Claim7.holds Tryz.pinned (.plain (OpenSpec.upto soughtSpec)) soughtUptoCard

/-- THE SECOND FORM's CARD OF 'curtainlaw.All'. -/
def allUptoCard : Claim7 := { stood := { row := allUptoRow, standIns := [], harness := (true, "ef173cb1f44de414b0a56f6d026c17ab80f2998c29abdc5710c7851c8e636ece"), looks := true }, kinds := [], alts := [], laidByText := true, laidKinds := [.data, .data, .data], laidTests := true, laidLooks := .later }
def AllUptoCardSaid : Prop := Claim7.holds Tryz.pinned (.plain (OpenSpec.upto allSpec)) allUptoCard
end Rows
end Go.Proofs.YthnggjaecngbiaaGreatDoor
