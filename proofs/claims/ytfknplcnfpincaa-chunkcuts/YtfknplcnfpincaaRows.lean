/-
  No cell of these rows narrows 'for every input' (looked for: loops, veiled, ifaces, maps, wideKeys, modest, calm, conditions, laid).
  DERIVED. THE GIVEN ROWS OF THIS SEAT. 4 by the template 'for every input the law returns true; each argument reads behind the call as it read before'; 0 by the template 'total and deterministic' (their statements: YtfknplcnfpincaaTotals.lean).
  GIVEN WITH THE SEED: the statements are not yours to turn. If you find one false, say at which input.
  Laid BY PROGRAM, IN A SANDBOX (cutbox-rows.mjs): the forced cells as the released guide's own fill.sh prints them over the translation 337c20d7cb4b2bff… (all of the seat's roots in one cut). By AI agents, Wed Nov 11 2026. No macro, syntax, notation, axiom, sorry.
-/
import Derived.Test.YtfknplcnfpincaaChecked
import GoSem.Claim
import GoSem.ClaimJoined
import GoSem.ClaimMapViews
import Derived.JoinedTies
import Derived.KernelRfl
namespace Go.Proofs.Ytfknplcnfpincaa
/- THE CELL 'sum', in the pinned program and in every row, IS THE sha256 OF THE DUMP (.gsa) THAT YtfknplcnfpincaaProg.lean LOADS. Nothing in Lean hashes anything: it is a label: what it is worth is what the hold of that sum in a sandbox is worth. -/
noncomputable def Try.pinned : Pinned := { name := "ytfknplcnfpincaa", sum := "337c20d7cb4b2bff790d9a7c1b52b288e589bd365cf1ef318d22a2351801aa3b", checked := Try.checked }
namespace Rows
def none {H : Type} : Left H := { results := [], args := [] }

/-- 'deedboxlaw13.ChunkSeals': WHATEVER THE INPUT: true; the input reads as it did. -/
def chunkSealsSpec : ChangeSpec := { name := "chunkSeals", fn := fun _ => fun
  | [d1, d2, d3, d4, d5] => { results := [.lit (.bool true)], args := [d1, d2, d3, d4, d5] }
  | _ => none }
def chunkSealsRow : OpenClaim := { program := "ytfknplcnfpincaa", sum := "337c20d7cb4b2bff790d9a7c1b52b288e589bd365cf1ef318d22a2351801aa3b", func := "deedbox/deedboxlaw13.ChunkSeals", spec := "chunkSeals", unfollowed := true, recurses := true, plainKeys := false, apart := false }
def ChunkSealsSaid : Prop := chunkSealsRow.holds Try.pinned (OpenSpec.ofChange chunkSealsSpec)

/-- ITS FALSE NEIGHBOUR: 'it returns false'. Refute it at one input. -/
def chunkSealsWrong : ChangeSpec := { name := "chunkSeals", fn := fun _ => fun
  | [d1, d2, d3, d4, d5] => { results := [.lit (.bool false)], args := [d1, d2, d3, d4, d5] }
  | _ => none }
def ChunkSealsWrongFalsely : Prop := chunkSealsRow.holds Try.pinned (OpenSpec.ofChange chunkSealsWrong)

/-- 'deedboxlaw13.ChunkBack': WHATEVER THE INPUT: true; the input reads as it did. -/
def chunkBackSpec : ChangeSpec := { name := "chunkBack", fn := fun _ => fun
  | [d1, d2, d3, d4, d5] => { results := [.lit (.bool true)], args := [d1, d2, d3, d4, d5] }
  | _ => none }
def chunkBackRow : OpenClaim := { program := "ytfknplcnfpincaa", sum := "337c20d7cb4b2bff790d9a7c1b52b288e589bd365cf1ef318d22a2351801aa3b", func := "deedbox/deedboxlaw13.ChunkBack", spec := "chunkBack", unfollowed := true, recurses := true, plainKeys := false, apart := false }
def ChunkBackSaid : Prop := chunkBackRow.holds Try.pinned (OpenSpec.ofChange chunkBackSpec)

/-- ITS FALSE NEIGHBOUR: 'it returns false'. Refute it at one input. -/
def chunkBackWrong : ChangeSpec := { name := "chunkBack", fn := fun _ => fun
  | [d1, d2, d3, d4, d5] => { results := [.lit (.bool false)], args := [d1, d2, d3, d4, d5] }
  | _ => none }
def ChunkBackWrongFalsely : Prop := chunkBackRow.holds Try.pinned (OpenSpec.ofChange chunkBackWrong)

/-- 'deedboxlaw13.ChunkWhole': WHATEVER THE INPUT: true; the input reads as it did. -/
def chunkWholeSpec : ChangeSpec := { name := "chunkWhole", fn := fun _ => fun
  | [d1, d2, d3, d4, d5, d6, d7] => { results := [.lit (.bool true)], args := [d1, d2, d3, d4, d5, d6, d7] }
  | _ => none }
def chunkWholeRow : OpenClaim := { program := "ytfknplcnfpincaa", sum := "337c20d7cb4b2bff790d9a7c1b52b288e589bd365cf1ef318d22a2351801aa3b", func := "deedbox/deedboxlaw13.ChunkWhole", spec := "chunkWhole", unfollowed := true, recurses := true, plainKeys := false, apart := false }
def ChunkWholeSaid : Prop := chunkWholeRow.holds Try.pinned (OpenSpec.ofChange chunkWholeSpec)

/-- ITS FALSE NEIGHBOUR: 'it returns false'. Refute it at one input. -/
def chunkWholeWrong : ChangeSpec := { name := "chunkWhole", fn := fun _ => fun
  | [d1, d2, d3, d4, d5, d6, d7] => { results := [.lit (.bool false)], args := [d1, d2, d3, d4, d5, d6, d7] }
  | _ => none }
def ChunkWholeWrongFalsely : Prop := chunkWholeRow.holds Try.pinned (OpenSpec.ofChange chunkWholeWrong)

/-- 'deedboxlaw13.ChunkCuts': WHATEVER THE INPUT: true; the input reads as it did. -/
def chunkCutsSpec : ChangeSpec := { name := "chunkCuts", fn := fun _ => fun
  | [d1, d2, d3, d4, d5, d6] => { results := [.lit (.bool true)], args := [d1, d2, d3, d4, d5, d6] }
  | _ => none }
def chunkCutsRow : OpenClaim := { program := "ytfknplcnfpincaa", sum := "337c20d7cb4b2bff790d9a7c1b52b288e589bd365cf1ef318d22a2351801aa3b", func := "deedbox/deedboxlaw13.ChunkCuts", spec := "chunkCuts", unfollowed := true, recurses := true, plainKeys := false, apart := false }
def ChunkCutsSaid : Prop := chunkCutsRow.holds Try.pinned (OpenSpec.ofChange chunkCutsSpec)

/-- ITS FALSE NEIGHBOUR: 'it returns false'. Refute it at one input. -/
def chunkCutsWrong : ChangeSpec := { name := "chunkCuts", fn := fun _ => fun
  | [d1, d2, d3, d4, d5, d6] => { results := [.lit (.bool false)], args := [d1, d2, d3, d4, d5, d6] }
  | _ => none }
def ChunkCutsWrongFalsely : Prop := chunkCutsRow.holds Try.pinned (OpenSpec.ofChange chunkCutsWrong)

/- THE SECOND FORM. 'bulk': how many values and letters a reading holds, each counted each time it is reached (what is shared counts as often as it is met; a slice's spare places count too). A statement '..UptoSaid' is the law's where the arguments, and the package variables that the reading takes, are together of bulk at most 1048576: NARROWER than '..Said'. Prove '..Said' where nothing that the law and all that it calls make is longer than what came in: it says more and counts as full. Else prove '..UptoSaid'. A law counts once. -/
mutual
def uptoBulk {H : Type} : DataW H → Nat
  | .lit (.string bytes) => bytes.length + 1
  | .lit _ => 1
  | .nil => 1
  | .ptr d => uptoBulk d + 1
  | .slice elems spare => uptoBulkAll elems + uptoBulkAll spare + 1
  | .agg parts => uptoBulkAll parts + 1
  | .iface _ d => uptoBulk d + 1
  | .map entries => uptoBulkEntries entries + 1
  | .held _ => 1
def uptoBulkAll {H : Type} : List (DataW H) → Nat
  | [] => 0
  | d :: r => uptoBulk d + uptoBulkAll r
def uptoBulkEntries {H : Type} : List (Lit × DataW H) → Nat
  | [] => 0
  | x :: r => uptoBulkEntry x + uptoBulkEntries r
def uptoBulkEntry {H : Type} : Lit × DataW H → Nat
  | (.string bytes, d) => bytes.length + uptoBulk d + 1
  | (_, d) => uptoBulk d + 1
 end
def uptoSmall : (H : Type) → List (DataW H) → Bool := fun _ ds => decide (uptoBulkAll ds ≤ 1048576)
def OpenSpec.upto (s : _root_.Go.ChangeSpec) : _root_.Go.OpenSpec := { _root_.Go.OpenSpec.ofChange s with cond := some uptoSmall }

/-- 'deedboxlaw13.ChunkSeals', WHERE WHAT IT READS IS OF BULK AT MOST 1048576: true; the input reads as it did. -/
def chunkSealsUptoRow : OpenClaim := { program := "ytfknplcnfpincaa", sum := "337c20d7cb4b2bff790d9a7c1b52b288e589bd365cf1ef318d22a2351801aa3b", func := "deedbox/deedboxlaw13.ChunkSeals", spec := "chunkSeals", unfollowed := true, recurses := true, plainKeys := false, apart := false, narrowed := true }
def ChunkSealsUptoSaid : Prop := chunkSealsUptoRow.holds Try.pinned (OpenSpec.upto chunkSealsSpec)

/-- 'deedboxlaw13.ChunkBack', WHERE WHAT IT READS IS OF BULK AT MOST 1048576: true; the input reads as it did. -/
def chunkBackUptoRow : OpenClaim := { program := "ytfknplcnfpincaa", sum := "337c20d7cb4b2bff790d9a7c1b52b288e589bd365cf1ef318d22a2351801aa3b", func := "deedbox/deedboxlaw13.ChunkBack", spec := "chunkBack", unfollowed := true, recurses := true, plainKeys := false, apart := false, narrowed := true }
def ChunkBackUptoSaid : Prop := chunkBackUptoRow.holds Try.pinned (OpenSpec.upto chunkBackSpec)

/-- 'deedboxlaw13.ChunkWhole', WHERE WHAT IT READS IS OF BULK AT MOST 1048576: true; the input reads as it did. -/
def chunkWholeUptoRow : OpenClaim := { program := "ytfknplcnfpincaa", sum := "337c20d7cb4b2bff790d9a7c1b52b288e589bd365cf1ef318d22a2351801aa3b", func := "deedbox/deedboxlaw13.ChunkWhole", spec := "chunkWhole", unfollowed := true, recurses := true, plainKeys := false, apart := false, narrowed := true }
def ChunkWholeUptoSaid : Prop := chunkWholeUptoRow.holds Try.pinned (OpenSpec.upto chunkWholeSpec)

/-- 'deedboxlaw13.ChunkCuts', WHERE WHAT IT READS IS OF BULK AT MOST 1048576: true; the input reads as it did. -/
def chunkCutsUptoRow : OpenClaim := { program := "ytfknplcnfpincaa", sum := "337c20d7cb4b2bff790d9a7c1b52b288e589bd365cf1ef318d22a2351801aa3b", func := "deedbox/deedboxlaw13.ChunkCuts", spec := "chunkCuts", unfollowed := true, recurses := true, plainKeys := false, apart := false, narrowed := true }
def ChunkCutsUptoSaid : Prop := chunkCutsUptoRow.holds Try.pinned (OpenSpec.upto chunkCutsSpec)

end Rows
end Go.Proofs.Ytfknplcnfpincaa
