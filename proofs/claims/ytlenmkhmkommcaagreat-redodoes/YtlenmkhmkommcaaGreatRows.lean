/-
  No cell of these rows narrows 'for every input' (looked for: loops, veiled, ifaces, maps, wideKeys, modest, calm, conditions, laid).
  DERIVED. THE GIVEN ROWS OF THIS SEAT. 3 by the template 'for every input the law returns true; each argument reads behind the call as it read before'; 0 by the template 'total and deterministic' (their statements: YtlenmkhmkommcaaGreatTotals.lean).
  GIVEN WITH THE SEED: the statements are not yours to turn. If you find one false, say at which input.
  Laid BY PROGRAM, IN A SANDBOX (cutbox-rows.mjs): the forced cells as the released guide's own fill.sh prints them over the translation f8e1a74b69843b84… (all of the seat's roots in one cut). By AI agents, Wed Nov 11 2026. No macro, syntax, notation, axiom, sorry.
-/
import Derived.Test.YtlenmkhmkommcaaGreatChecked
import GoSem.Claim
import GoSem.ClaimJoined
import GoSem.ClaimMapViews
import Derived.JoinedTies
import Derived.KernelRfl
namespace Go.Proofs.YtlenmkhmkommcaaGreat
/- THE CELL 'sum', in the pinned program and in every row, IS THE sha256 OF THE DUMP (.gsa) THAT YtlenmkhmkommcaaGreatProg.lean LOADS. Nothing in Lean hashes anything: it is a label: what it is worth is what the hold of that sum in a sandbox is worth. -/
noncomputable def Tryz.pinned : Pinned := { name := "ytlenmkhmkommcaagreat", sum := "f8e1a74b69843b84f84edc43e610bf169746b959abcc817adb2fde6762ff0ee8", checked := Tryz.checked }
namespace Rows
def none {H : Type} : Left H := { results := [], args := [] }

/-- 'deedboxlaw16.RedoDoes': WHATEVER THE INPUT: true; the input reads as it did. -/
def redoDoesSpec : ChangeSpec := { name := "redoDoes", fn := fun _ => fun
  | [d1, d2, d3, d4, d5, d6, d7] => { results := [.lit (.bool true)], args := [d1, d2, d3, d4, d5, d6, d7] }
  | _ => none }
def redoDoesRow : OpenClaim := { program := "ytlenmkhmkommcaagreat", sum := "f8e1a74b69843b84f84edc43e610bf169746b959abcc817adb2fde6762ff0ee8", func := "deedbox/deedboxlaw16.RedoDoes", spec := "redoDoes", unfollowed := true, recurses := true, plainKeys := false, apart := false }
def RedoDoesSaid : Prop := redoDoesRow.holds Tryz.pinned (OpenSpec.ofChange redoDoesSpec)

/-- ITS FALSE NEIGHBOUR: 'it returns false'. Refute it at one input. -/
def redoDoesWrong : ChangeSpec := { name := "redoDoes", fn := fun _ => fun
  | [d1, d2, d3, d4, d5, d6, d7] => { results := [.lit (.bool false)], args := [d1, d2, d3, d4, d5, d6, d7] }
  | _ => none }
def RedoDoesWrongFalsely : Prop := redoDoesRow.holds Tryz.pinned (OpenSpec.ofChange redoDoesWrong)

/-- 'deedboxlaw16.RedoBack': WHATEVER THE INPUT: true; the input reads as it did. -/
def redoBackSpec : ChangeSpec := { name := "redoBack", fn := fun _ => fun
  | [d1, d2, d3, d4] => { results := [.lit (.bool true)], args := [d1, d2, d3, d4] }
  | _ => none }
def redoBackRow : OpenClaim := { program := "ytlenmkhmkommcaagreat", sum := "f8e1a74b69843b84f84edc43e610bf169746b959abcc817adb2fde6762ff0ee8", func := "deedbox/deedboxlaw16.RedoBack", spec := "redoBack", unfollowed := true, recurses := true, plainKeys := false, apart := false }
def RedoBackSaid : Prop := redoBackRow.holds Tryz.pinned (OpenSpec.ofChange redoBackSpec)

/-- ITS FALSE NEIGHBOUR: 'it returns false'. Refute it at one input. -/
def redoBackWrong : ChangeSpec := { name := "redoBack", fn := fun _ => fun
  | [d1, d2, d3, d4] => { results := [.lit (.bool false)], args := [d1, d2, d3, d4] }
  | _ => none }
def RedoBackWrongFalsely : Prop := redoBackRow.holds Tryz.pinned (OpenSpec.ofChange redoBackWrong)

/-- 'deedboxlaw16.RedoTells': WHATEVER THE INPUT: true; the input reads as it did. -/
def redoTellsSpec : ChangeSpec := { name := "redoTells", fn := fun _ => fun
  | [d1, d2, d3, d4, d5] => { results := [.lit (.bool true)], args := [d1, d2, d3, d4, d5] }
  | _ => none }
def redoTellsRow : OpenClaim := { program := "ytlenmkhmkommcaagreat", sum := "f8e1a74b69843b84f84edc43e610bf169746b959abcc817adb2fde6762ff0ee8", func := "deedbox/deedboxlaw16.RedoTells", spec := "redoTells", unfollowed := true, recurses := true, plainKeys := false, apart := false }
def RedoTellsSaid : Prop := redoTellsRow.holds Tryz.pinned (OpenSpec.ofChange redoTellsSpec)

/-- ITS FALSE NEIGHBOUR: 'it returns false'. Refute it at one input. -/
def redoTellsWrong : ChangeSpec := { name := "redoTells", fn := fun _ => fun
  | [d1, d2, d3, d4, d5] => { results := [.lit (.bool false)], args := [d1, d2, d3, d4, d5] }
  | _ => none }
def RedoTellsWrongFalsely : Prop := redoTellsRow.holds Tryz.pinned (OpenSpec.ofChange redoTellsWrong)

/- THE SECOND FORM. 'bulk': how many values and letters a reading holds, each counted each time it is reached (what is shared counts as often as it is met; a slice's spare places count too). A statement '..UptoSaid' is the law's where the arguments, and the package variables that the reading takes, are together of bulk at most 1048576: NARROWER than '..Said'. Prove '..Said' where nothing that the law and all that it calls make is longer than what came in: it says more and counts as full. Else prove '..UptoSaid'. A law counts once. -/
mutual
def uptoBulk {H : Type} : DataW H → Nat
  | .lit (.string bytes) => bytes.length + 1
  | .lit _ => 1
  | .nil => 1
  | .ptr d => uptoBulk d + 1
  | .slice elems spare => uptoBulkAll elems + uptoBulkAll spare + 1
  | .agg parts => uptoBulkAll parts + 1
  | .iface _ d => uptoBulk d + 1
  | .map entries => uptoBulkEntries entries + 1
  | .held _ => 1
def uptoBulkAll {H : Type} : List (DataW H) → Nat
  | [] => 0
  | d :: r => uptoBulk d + uptoBulkAll r
def uptoBulkEntries {H : Type} : List (Lit × DataW H) → Nat
  | [] => 0
  | x :: r => uptoBulkEntry x + uptoBulkEntries r
def uptoBulkEntry {H : Type} : Lit × DataW H → Nat
  | (.string bytes, d) => bytes.length + uptoBulk d + 1
  | (_, d) => uptoBulk d + 1
 end
def uptoSmall : (H : Type) → List (DataW H) → Bool := fun _ ds => decide (uptoBulkAll ds ≤ 1048576)
def OpenSpec.upto (s : _root_.Go.ChangeSpec) : _root_.Go.OpenSpec := { _root_.Go.OpenSpec.ofChange s with cond := some uptoSmall }

/-- 'deedboxlaw16.RedoDoes', WHERE WHAT IT READS IS OF BULK AT MOST 1048576: true; the input reads as it did. -/
def redoDoesUptoRow : OpenClaim := { program := "ytlenmkhmkommcaagreat", sum := "f8e1a74b69843b84f84edc43e610bf169746b959abcc817adb2fde6762ff0ee8", func := "deedbox/deedboxlaw16.RedoDoes", spec := "redoDoes", unfollowed := true, recurses := true, plainKeys := false, apart := false, narrowed := true }
def RedoDoesUptoSaid : Prop := redoDoesUptoRow.holds Tryz.pinned (OpenSpec.upto redoDoesSpec)

/-- 'deedboxlaw16.RedoBack', WHERE WHAT IT READS IS OF BULK AT MOST 1048576: true; the input reads as it did. -/
def redoBackUptoRow : OpenClaim := { program := "ytlenmkhmkommcaagreat", sum := "f8e1a74b69843b84f84edc43e610bf169746b959abcc817adb2fde6762ff0ee8", func := "deedbox/deedboxlaw16.RedoBack", spec := "redoBack", unfollowed := true, recurses := true, plainKeys := false, apart := false, narrowed := true }
def RedoBackUptoSaid : Prop := redoBackUptoRow.holds Tryz.pinned (OpenSpec.upto redoBackSpec)

/-- 'deedboxlaw16.RedoTells', WHERE WHAT IT READS IS OF BULK AT MOST 1048576: true; the input reads as it did. -/
def redoTellsUptoRow : OpenClaim := { program := "ytlenmkhmkommcaagreat", sum := "f8e1a74b69843b84f84edc43e610bf169746b959abcc817adb2fde6762ff0ee8", func := "deedbox/deedboxlaw16.RedoTells", spec := "redoTells", unfollowed := true, recurses := true, plainKeys := false, apart := false, narrowed := true }
def RedoTellsUptoSaid : Prop := redoTellsUptoRow.holds Tryz.pinned (OpenSpec.upto redoTellsSpec)

end Rows
end Go.Proofs.YtlenmkhmkommcaaGreat
