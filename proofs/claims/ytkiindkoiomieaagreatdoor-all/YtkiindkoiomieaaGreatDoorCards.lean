/-
  DERIVED. GIVEN WITH THE SEED: THE CARDS: each row of YtkiindkoiomieaaGreatDoorRows.lean that lists a variable, with what it lists TIED to the program's text (the seventh form; the later family's looks); each row that meets fmt, with fmt's text TOLD by the authors' own Lean function (tested against real Go, not proved from fmt's source: count such statements apart). THE CARD IS WHAT COUNTS. Prove the row's statement (the work); the ties are given (YtkiindkoiomieaaGreatDoorTie.lean); close each card by the builder's one call (the guide's Derived/Test/ToyasCard.lean, 'card_holds'). Laid BY PROGRAM, IN A SANDBOX (cutbox-door.mjs). By AI agents, Wed Nov 11 2026. No macro, syntax, notation, axiom, sorry.
-/
import Derived.Test.YtkiindkoiomieaaGreatDoorRows
import GoSem.ClaimSeven
namespace Go.Proofs.YtkiindkoiomieaaGreatDoor
namespace Rows

/-- THE TIED CARD OF 'twinelaw.Falling'. -/
def fallingCard : Claim7 := { stood := { row := fallingRow, standIns := [], harness := (true, "796a967dd9546e9204b8d70a5ae1a0a8a0f1709517399fab1c6940565d2e137f"), looks := false }, kinds := [], alts := [], laidByText := true, laidKinds := [.data, .pinned], laidTests := true, laidLooks := .later }
def FallingCardSaid : Prop := Claim7.holds Tryz.pinned (.plain (OpenSpec.ofChange fallingSpec)) fallingCard

/-- THE TIED CARD OF 'twinelaw.Both'. -/
def bothCard : Claim7 := { stood := { row := bothRow, standIns := [], harness := (true, "796a967dd9546e9204b8d70a5ae1a0a8a0f1709517399fab1c6940565d2e137f"), looks := false }, kinds := [], alts := [], laidByText := true, laidKinds := [.data, .pinned], laidTests := true, laidLooks := .later }
def BothCardSaid : Prop := Claim7.holds Tryz.pinned (.plain (OpenSpec.ofChange bothSpec)) bothCard

/-- THE TIED CARD OF 'twinelaw.Other'. -/
def otherCard : Claim7 := { stood := { row := otherRow, standIns := [], harness := (true, "796a967dd9546e9204b8d70a5ae1a0a8a0f1709517399fab1c6940565d2e137f"), looks := false }, kinds := [], alts := [], laidByText := true, laidKinds := [.data, .pinned], laidTests := true, laidLooks := .later }
def OtherCardSaid : Prop := Claim7.holds Tryz.pinned (.plain (OpenSpec.ofChange otherSpec)) otherCard

/-- THE TIED CARD OF 'twinelaw.Numbers'. -/
def numbersCard : Claim7 := { stood := { row := numbersRow, standIns := [], harness := (true, "796a967dd9546e9204b8d70a5ae1a0a8a0f1709517399fab1c6940565d2e137f"), looks := false }, kinds := [], alts := [], laidByText := true, laidKinds := [.data, .pinned], laidTests := true, laidLooks := .later }
def NumbersCardSaid : Prop := Claim7.holds Tryz.pinned (.plain (OpenSpec.ofChange numbersSpec)) numbersCard

/-- THE TIED CARD OF 'twinelaw.Packs'. -/
def packsCard : Claim7 := { stood := { row := packsRow, standIns := [], harness := (true, "796a967dd9546e9204b8d70a5ae1a0a8a0f1709517399fab1c6940565d2e137f"), looks := false }, kinds := [], alts := [], laidByText := true, laidKinds := [.data, .pinned], laidTests := true, laidLooks := .later }
def PacksCardSaid : Prop := Claim7.holds Tryz.pinned (.plain (OpenSpec.ofChange packsSpec)) packsCard

/-- THE TIED CARD OF 'twinelaw.Texts'. -/
def textsCard : Claim7 := { stood := { row := textsRow, standIns := [], harness := (true, "796a967dd9546e9204b8d70a5ae1a0a8a0f1709517399fab1c6940565d2e137f"), looks := false }, kinds := [], alts := [], laidByText := true, laidKinds := [.data, .pinned], laidTests := true, laidLooks := .later }
def TextsCardSaid : Prop := Claim7.holds Tryz.pinned (.plain (OpenSpec.ofChange textsSpec)) textsCard

/-- THE TIED CARD OF 'twinelaw.Own'. -/
def ownCard : Claim7 := { stood := { row := ownRow, standIns := [], harness := (true, "796a967dd9546e9204b8d70a5ae1a0a8a0f1709517399fab1c6940565d2e137f"), looks := false }, kinds := [], alts := [], laidByText := true, laidKinds := [.data, .pinned], laidTests := true, laidLooks := .later }
def OwnCardSaid : Prop := Claim7.holds Tryz.pinned (.plain (OpenSpec.ofChange ownSpec)) ownCard

/-- THE TIED CARD OF 'twinelaw.All'. -/
def allCard : Claim7 := { stood := { row := allRow, standIns := [], harness := (true, "796a967dd9546e9204b8d70a5ae1a0a8a0f1709517399fab1c6940565d2e137f"), looks := false }, kinds := [], alts := [], laidByText := true, laidKinds := [.data, .pinned], laidTests := true, laidLooks := .later }
def AllCardSaid : Prop := Claim7.holds Tryz.pinned (.plain (OpenSpec.ofChange allSpec)) allCard

/-- THE SECOND FORM's CARD OF 'twinelaw.Falling'. -/
def fallingUptoCard : Claim7 := { stood := { row := fallingUptoRow, standIns := [], harness := (true, "796a967dd9546e9204b8d70a5ae1a0a8a0f1709517399fab1c6940565d2e137f"), looks := false }, kinds := [], alts := [], laidByText := true, laidKinds := [.data, .pinned], laidTests := true, laidLooks := .later }
def FallingUptoCardSaid : Prop := Claim7.holds Tryz.pinned (.plain (OpenSpec.upto fallingSpec)) fallingUptoCard

/-- THE SECOND FORM's CARD OF 'twinelaw.Both'. -/
def bothUptoCard : Claim7 := { stood := { row := bothUptoRow, standIns := [], harness := (true, "796a967dd9546e9204b8d70a5ae1a0a8a0f1709517399fab1c6940565d2e137f"), looks := false }, kinds := [], alts := [], laidByText := true, laidKinds := [.data, .pinned], laidTests := true, laidLooks := .later }
def BothUptoCardSaid : Prop := Claim7.holds Tryz.pinned (.plain (OpenSpec.upto bothSpec)) bothUptoCard

/-- THE SECOND FORM's CARD OF 'twinelaw.Other'. -/
def otherUptoCard : Claim7 := { stood := { row := otherUptoRow, standIns := [], harness := (true, "796a967dd9546e9204b8d70a5ae1a0a8a0f1709517399fab1c6940565d2e137f"), looks := false }, kinds := [], alts := [], laidByText := true, laidKinds := [.data, .pinned], laidTests := true, laidLooks := .later }
def OtherUptoCardSaid : Prop := Claim7.holds Tryz.pinned (.plain (OpenSpec.upto otherSpec)) otherUptoCard

/-- THE SECOND FORM's CARD OF 'twinelaw.Numbers'. -/
def numbersUptoCard : Claim7 := { stood := { row := numbersUptoRow, standIns := [], harness := (true, "796a967dd9546e9204b8d70a5ae1a0a8a0f1709517399fab1c6940565d2e137f"), looks := false }, kinds := [], alts := [], laidByText := true, laidKinds := [.data, .pinned], laidTests := true, laidLooks := .later }
def NumbersUptoCardSaid : Prop := Claim7.holds Tryz.pinned (.plain (OpenSpec.upto numbersSpec)) numbersUptoCard

/-- THE SECOND FORM's CARD OF 'twinelaw.Packs'. -/
def packsUptoCard : Claim7 := { stood := { row := packsUptoRow, standIns := [], harness := (true, "796a967dd9546e9204b8d70a5ae1a0a8a0f1709517399fab1c6940565d2e137f"), looks := false }, kinds := [], alts := [], laidByText := true, laidKinds := [.data, .pinned], laidTests := true, laidLooks := .later }
def PacksUptoCardSaid : Prop := Claim7.holds Tryz.pinned (.plain (OpenSpec.upto packsSpec)) packsUptoCard

/-- THE SECOND FORM's CARD OF 'twinelaw.Texts'. -/
def textsUptoCard : Claim7 := { stood := { row := textsUptoRow, standIns := [], harness := (true, "796a967dd9546e9204b8d70a5ae1a0a8a0f1709517399fab1c6940565d2e137f"), looks := false }, kinds := [], alts := [], laidByText := true, laidKinds := [.data, .pinned], laidTests := true, laidLooks := .later }
def TextsUptoCardSaid : Prop := Claim7.holds Tryz.pinned (.plain (OpenSpec.upto textsSpec)) textsUptoCard

/-- THE SECOND FORM's CARD OF 'twinelaw.Own'. -/
def ownUptoCard : Claim7 := { stood := { row := ownUptoRow, standIns := [], harness := (true, "796a967dd9546e9204b8d70a5ae1a0a8a0f1709517399fab1c6940565d2e137f"), looks := false }, kinds := [], alts := [], laidByText := true, laidKinds := [.data, .pinned], laidTests := true, laidLooks := .later }
def OwnUptoCardSaid : Prop := Claim7.holds Tryz.pinned (.plain (OpenSpec.upto ownSpec)) ownUptoCard

/-- THE SECOND FORM's CARD OF 'twinelaw.All'. -/
def allUptoCard : Claim7 := { stood := { row := allUptoRow, standIns := [], harness := (true, "796a967dd9546e9204b8d70a5ae1a0a8a0f1709517399fab1c6940565d2e137f"), looks := false }, kinds := [], alts := [], laidByText := true, laidKinds := [.data, .pinned], laidTests := true, laidLooks := .later }
def AllUptoCardSaid : Prop := Claim7.holds Tryz.pinned (.plain (OpenSpec.upto allSpec)) allUptoCard
end Rows
end Go.Proofs.YtkiindkoiomieaaGreatDoor
