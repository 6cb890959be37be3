/-
  DERIVED. GIVEN WITH THE SEED: THE CARDS: each row of YtjpejheipkfanaaGreatDoorRows.lean that lists a variable, with what it lists TIED to the program's text (the seventh form; the later family's looks); each row that meets fmt, with fmt's text TOLD by the authors' own Lean function (tested against real Go, not proved from fmt's source: count such statements apart). THE CARD IS WHAT COUNTS. Prove the row's statement (the work); the ties are given (YtjpejheipkfanaaGreatDoorTie.lean); close each card by the builder's one call (the guide's Derived/Test/ToyasCard.lean, 'card_holds'). Laid BY PROGRAM, IN A SANDBOX (cutbox-door.mjs). By AI agents, Wed Nov 11 2026. No macro, syntax, notation, axiom, sorry.
-/
import Derived.Test.YtjpejheipkfanaaGreatDoorRows
import GoSem.ClaimSeven
namespace Go.Proofs.YtjpejheipkfanaaGreatDoor
namespace Rows

/-- THE TIED CARD OF 'deedboxlaw12.SealIdeal'. -/
def sealIdealCard : Claim7 := { stood := { row := sealIdealRow, standIns := [], harness := (true, "c007c7d0dfa854a9fd5c7d7e7f7a396760c66f5d475d5501ecdc4af00320f06e"), looks := false }, kinds := [], alts := [], laidByText := true, laidKinds := [.data], laidTests := true, laidLooks := .later }
def SealIdealCardSaid : Prop := Claim7.holds Tryz.pinned (.plain (OpenSpec.ofChange sealIdealSpec)) sealIdealCard

/-- THE TIED CARD OF 'deedboxlaw12.SealReal'. -/
def sealRealCard : Claim7 := { stood := { row := sealRealRow, standIns := [], harness := (true, "c007c7d0dfa854a9fd5c7d7e7f7a396760c66f5d475d5501ecdc4af00320f06e"), looks := false }, kinds := [], alts := [], laidByText := true, laidKinds := [.data], laidTests := true, laidLooks := .later }
def SealRealCardSaid : Prop := Claim7.holds Tryz.pinned (.plain (OpenSpec.ofChange sealRealSpec)) sealRealCard

/-- THE SECOND FORM's CARD OF 'deedboxlaw12.SealIdeal'. -/
def sealIdealUptoCard : Claim7 := { stood := { row := sealIdealUptoRow, standIns := [], harness := (true, "c007c7d0dfa854a9fd5c7d7e7f7a396760c66f5d475d5501ecdc4af00320f06e"), looks := false }, kinds := [], alts := [], laidByText := true, laidKinds := [.data], laidTests := true, laidLooks := .later }
def SealIdealUptoCardSaid : Prop := Claim7.holds Tryz.pinned (.plain (OpenSpec.upto sealIdealSpec)) sealIdealUptoCard

/-- THE SECOND FORM's CARD OF 'deedboxlaw12.SealReal'. -/
def sealRealUptoCard : Claim7 := { stood := { row := sealRealUptoRow, standIns := [], harness := (true, "c007c7d0dfa854a9fd5c7d7e7f7a396760c66f5d475d5501ecdc4af00320f06e"), looks := false }, kinds := [], alts := [], laidByText := true, laidKinds := [.data], laidTests := true, laidLooks := .later }
def SealRealUptoCardSaid : Prop := Claim7.holds Tryz.pinned (.plain (OpenSpec.upto sealRealSpec)) sealRealUptoCard
end Rows
end Go.Proofs.YtjpejheipkfanaaGreatDoor
