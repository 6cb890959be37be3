/-
  DERIVED. GIVEN WITH THE SEED: THE CARDS: each row of YtjpejheipkfanaaDoorRows.lean that lists a variable, with what it lists TIED to the program's text (the seventh form; the later family's looks); each row that meets fmt, with fmt's text TOLD by the authors' own Lean function (tested against real Go, not proved from fmt's source: count such statements apart). THE CARD IS WHAT COUNTS. Prove the row's statement (the work); the ties are given (YtjpejheipkfanaaDoorTie.lean); close each card by the builder's one call (the guide's Derived/Test/ToyasCard.lean, 'card_holds'). Laid BY PROGRAM, IN A SANDBOX (cutbox-door.mjs). By AI agents, Wed Nov 11 2026. No macro, syntax, notation, axiom, sorry.
-/
import Derived.Test.YtjpejheipkfanaaDoorRows
import GoSem.ClaimSeven
namespace Go.Proofs.YtjpejheipkfanaaDoor
namespace Rows

/-- THE TIED CARD OF 'deedboxlaw12.SealBack'. -/
def sealBackCard : Claim7 := { stood := { row := sealBackRow, standIns := [], harness := (true, "0064ac2812dac3eb89b7bd79eba35771ed8e67a9c33b20088fbf9a09a7ea93cb"), looks := false }, kinds := [], alts := [], laidByText := true, laidKinds := [.data], laidTests := true, laidLooks := .later }
def SealBackCardSaid : Prop := Claim7.holds Tryd.pinned (.plain (OpenSpec.ofChange sealBackSpec)) sealBackCard

/-- THE TIED CARD OF 'deedboxlaw12.SealBlind'. -/
def sealBlindCard : Claim7 := { stood := { row := sealBlindRow, standIns := [], harness := (true, "0064ac2812dac3eb89b7bd79eba35771ed8e67a9c33b20088fbf9a09a7ea93cb"), looks := false }, kinds := [], alts := [], laidByText := true, laidKinds := [.data], laidTests := true, laidLooks := .later }
def SealBlindCardSaid : Prop := Claim7.holds Tryd.pinned (.plain (OpenSpec.ofChange sealBlindSpec)) sealBlindCard

/-- THE TIED CARD OF 'deedboxlaw12.SealKeys'. -/
def sealKeysCard : Claim7 := { stood := { row := sealKeysRow, standIns := [], harness := (true, "0064ac2812dac3eb89b7bd79eba35771ed8e67a9c33b20088fbf9a09a7ea93cb"), looks := false }, kinds := [], alts := [], laidByText := true, laidKinds := [.data], laidTests := true, laidLooks := .later }
def SealKeysCardSaid : Prop := Claim7.holds Tryd.pinned (.plain (OpenSpec.ofChange sealKeysSpec)) sealKeysCard

/-- THE SECOND FORM's CARD OF 'deedboxlaw12.SealBack'. -/
def sealBackUptoCard : Claim7 := { stood := { row := sealBackUptoRow, standIns := [], harness := (true, "0064ac2812dac3eb89b7bd79eba35771ed8e67a9c33b20088fbf9a09a7ea93cb"), looks := false }, kinds := [], alts := [], laidByText := true, laidKinds := [.data], laidTests := true, laidLooks := .later }
def SealBackUptoCardSaid : Prop := Claim7.holds Tryd.pinned (.plain (OpenSpec.upto sealBackSpec)) sealBackUptoCard

/-- THE SECOND FORM's CARD OF 'deedboxlaw12.SealBlind'. -/
def sealBlindUptoCard : Claim7 := { stood := { row := sealBlindUptoRow, standIns := [], harness := (true, "0064ac2812dac3eb89b7bd79eba35771ed8e67a9c33b20088fbf9a09a7ea93cb"), looks := false }, kinds := [], alts := [], laidByText := true, laidKinds := [.data], laidTests := true, laidLooks := .later }
def SealBlindUptoCardSaid : Prop := Claim7.holds Tryd.pinned (.plain (OpenSpec.upto sealBlindSpec)) sealBlindUptoCard

/-- THE SECOND FORM's CARD OF 'deedboxlaw12.SealKeys'. -/
def sealKeysUptoCard : Claim7 := { stood := { row := sealKeysUptoRow, standIns := [], harness := (true, "0064ac2812dac3eb89b7bd79eba35771ed8e67a9c33b20088fbf9a09a7ea93cb"), looks := false }, kinds := [], alts := [], laidByText := true, laidKinds := [.data], laidTests := true, laidLooks := .later }
def SealKeysUptoCardSaid : Prop := Claim7.holds Tryd.pinned (.plain (OpenSpec.upto sealKeysSpec)) sealKeysUptoCard
end Rows
end Go.Proofs.YtjpejheipkfanaaDoor
