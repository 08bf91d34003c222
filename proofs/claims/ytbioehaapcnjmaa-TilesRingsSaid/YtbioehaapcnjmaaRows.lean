/-
  No cell of these rows narrows 'for every input' (looked for: loops, veiled, ifaces, maps, wideKeys, modest, calm, conditions, laid).
  DERIVED. THE GIVEN ROWS OF THIS SEAT. 7 by the template 'for every input the law returns true; each argument reads behind the call as it read before'; 0 by the template 'total and deterministic' (their statements: YtbioehaapcnjmaaTotals.lean).
  GIVEN WITH THE SEED: the statements are not yours to turn. If you find one false, say at which input.
  Laid BY PROGRAM, IN A SANDBOX (cutbox-rows.mjs): the forced cells as the released guide's own fill.sh prints them over the translation f30a0d82034fb865… (all of the seat's roots in one cut). By AI agents, Wed Nov 11 2026. No macro, syntax, notation, axiom, sorry.
-/
import Derived.Test.YtbioehaapcnjmaaChecked
import GoSem.Claim
import GoSem.ClaimJoined
import GoSem.ClaimMapViews
import Derived.JoinedTies
import Derived.KernelRfl
namespace Go.Proofs.Ytbioehaapcnjmaa
/- THE CELL 'sum', in the pinned program and in every row, IS THE sha256 OF THE DUMP (.gsa) THAT YtbioehaapcnjmaaProg.lean LOADS. Nothing in Lean hashes anything: it is a label: what it is worth is what the hold of that sum in a sandbox is worth. -/
noncomputable def Try.pinned : Pinned := { name := "ytbioehaapcnjmaa", sum := "f30a0d82034fb8655fa7fec17a0018a9eeea01c1b3771cc13ee609255cc8335d", checked := Try.checked }
namespace Rows
def none {H : Type} : Left H := { results := [], args := [] }

/-- 'horocyclelaw03.WordsMakes': WHATEVER THE INPUT: true; the input reads as it did. -/
def wordsMakesSpec : ChangeSpec := { name := "wordsMakes", fn := fun _ => fun
  | [d1, d2, d3] => { results := [.lit (.bool true)], args := [d1, d2, d3] }
  | _ => none }
def wordsMakesRow : OpenClaim := { program := "ytbioehaapcnjmaa", sum := "f30a0d82034fb8655fa7fec17a0018a9eeea01c1b3771cc13ee609255cc8335d", func := "horocycle/horocyclelaw03.WordsMakes", spec := "wordsMakes", unfollowed := true, recurses := true, plainKeys := false, apart := false }
def WordsMakesSaid : Prop := wordsMakesRow.holds Try.pinned (OpenSpec.ofChange wordsMakesSpec)

/-- ITS FALSE NEIGHBOUR: 'it returns false'. Refute it at one input. -/
def wordsMakesWrong : ChangeSpec := { name := "wordsMakes", fn := fun _ => fun
  | [d1, d2, d3] => { results := [.lit (.bool false)], args := [d1, d2, d3] }
  | _ => none }
def WordsMakesWrongFalsely : Prop := wordsMakesRow.holds Try.pinned (OpenSpec.ofChange wordsMakesWrong)

/-- 'horocyclelaw03.WordsSteps': WHATEVER THE INPUT: true; the input reads as it did. -/
def wordsStepsSpec : ChangeSpec := { name := "wordsSteps", fn := fun _ => fun
  | [d1, d2, d3] => { results := [.lit (.bool true)], args := [d1, d2, d3] }
  | _ => none }
def wordsStepsRow : OpenClaim := { program := "ytbioehaapcnjmaa", sum := "f30a0d82034fb8655fa7fec17a0018a9eeea01c1b3771cc13ee609255cc8335d", func := "horocycle/horocyclelaw03.WordsSteps", spec := "wordsSteps", unfollowed := true, recurses := true, plainKeys := false, apart := false }
def WordsStepsSaid : Prop := wordsStepsRow.holds Try.pinned (OpenSpec.ofChange wordsStepsSpec)

/-- ITS FALSE NEIGHBOUR: 'it returns false'. Refute it at one input. -/
def wordsStepsWrong : ChangeSpec := { name := "wordsSteps", fn := fun _ => fun
  | [d1, d2, d3] => { results := [.lit (.bool false)], args := [d1, d2, d3] }
  | _ => none }
def WordsStepsWrongFalsely : Prop := wordsStepsRow.holds Try.pinned (OpenSpec.ofChange wordsStepsWrong)

/-- 'horocyclelaw03.WordsLeast': WHATEVER THE INPUT: true; the input reads as it did. -/
def wordsLeastSpec : ChangeSpec := { name := "wordsLeast", fn := fun _ => fun
  | [d1, d2, d3, d4] => { results := [.lit (.bool true)], args := [d1, d2, d3, d4] }
  | _ => none }
def wordsLeastRow : OpenClaim := { program := "ytbioehaapcnjmaa", sum := "f30a0d82034fb8655fa7fec17a0018a9eeea01c1b3771cc13ee609255cc8335d", func := "horocycle/horocyclelaw03.WordsLeast", spec := "wordsLeast", unfollowed := true, recurses := true, plainKeys := false, apart := false }
def WordsLeastSaid : Prop := wordsLeastRow.holds Try.pinned (OpenSpec.ofChange wordsLeastSpec)

/-- ITS FALSE NEIGHBOUR: 'it returns false'. Refute it at one input. -/
def wordsLeastWrong : ChangeSpec := { name := "wordsLeast", fn := fun _ => fun
  | [d1, d2, d3, d4] => { results := [.lit (.bool false)], args := [d1, d2, d3, d4] }
  | _ => none }
def WordsLeastWrongFalsely : Prop := wordsLeastRow.holds Try.pinned (OpenSpec.ofChange wordsLeastWrong)

/-- 'horocyclelaw03.WordsGroup': WHATEVER THE INPUT: true; the input reads as it did. -/
def wordsGroupSpec : ChangeSpec := { name := "wordsGroup", fn := fun _ => fun
  | [d1, d2, d3, d4] => { results := [.lit (.bool true)], args := [d1, d2, d3, d4] }
  | _ => none }
def wordsGroupRow : OpenClaim := { program := "ytbioehaapcnjmaa", sum := "f30a0d82034fb8655fa7fec17a0018a9eeea01c1b3771cc13ee609255cc8335d", func := "horocycle/horocyclelaw03.WordsGroup", spec := "wordsGroup", unfollowed := true, recurses := true, plainKeys := false, apart := false }
def WordsGroupSaid : Prop := wordsGroupRow.holds Try.pinned (OpenSpec.ofChange wordsGroupSpec)

/-- ITS FALSE NEIGHBOUR: 'it returns false'. Refute it at one input. -/
def wordsGroupWrong : ChangeSpec := { name := "wordsGroup", fn := fun _ => fun
  | [d1, d2, d3, d4] => { results := [.lit (.bool false)], args := [d1, d2, d3, d4] }
  | _ => none }
def WordsGroupWrongFalsely : Prop := wordsGroupRow.holds Try.pinned (OpenSpec.ofChange wordsGroupWrong)

/-- 'horocyclelaw04.TilesRings': WHATEVER THE INPUT: true; the input reads as it did. -/
def tilesRingsSpec : ChangeSpec := { name := "tilesRings", fn := fun _ => fun
  | [d1, d2] => { results := [.lit (.bool true)], args := [d1, d2] }
  | _ => none }
def tilesRingsRow : OpenClaim := { program := "ytbioehaapcnjmaa", sum := "f30a0d82034fb8655fa7fec17a0018a9eeea01c1b3771cc13ee609255cc8335d", func := "horocycle/horocyclelaw04.TilesRings", spec := "tilesRings", inPlace := ["internal/abi.NoEscape", "internal/bytealg.MakeNoZero"], unfollowed := true, recurses := true, plainKeys := false, apart := false }
def TilesRingsSaid : Prop := tilesRingsRow.holds Try.pinned (OpenSpec.ofChange tilesRingsSpec)

/-- ITS FALSE NEIGHBOUR: 'it returns false'. Refute it at one input. -/
def tilesRingsWrong : ChangeSpec := { name := "tilesRings", fn := fun _ => fun
  | [d1, d2] => { results := [.lit (.bool false)], args := [d1, d2] }
  | _ => none }
def TilesRingsWrongFalsely : Prop := tilesRingsRow.holds Try.pinned (OpenSpec.ofChange tilesRingsWrong)

/-- 'horocyclelaw04.TilesCounts': WHATEVER THE INPUT: true; the input reads as it did. -/
def tilesCountsSpec : ChangeSpec := { name := "tilesCounts", fn := fun _ => fun
  | [d1, d2] => { results := [.lit (.bool true)], args := [d1, d2] }
  | _ => none }
def tilesCountsRow : OpenClaim := { program := "ytbioehaapcnjmaa", sum := "f30a0d82034fb8655fa7fec17a0018a9eeea01c1b3771cc13ee609255cc8335d", func := "horocycle/horocyclelaw04.TilesCounts", spec := "tilesCounts", inPlace := ["internal/abi.NoEscape", "internal/bytealg.MakeNoZero"], unfollowed := true, recurses := true, plainKeys := false, apart := false }
def TilesCountsSaid : Prop := tilesCountsRow.holds Try.pinned (OpenSpec.ofChange tilesCountsSpec)

/-- ITS FALSE NEIGHBOUR: 'it returns false'. Refute it at one input. -/
def tilesCountsWrong : ChangeSpec := { name := "tilesCounts", fn := fun _ => fun
  | [d1, d2] => { results := [.lit (.bool false)], args := [d1, d2] }
  | _ => none }
def TilesCountsWrongFalsely : Prop := tilesCountsRow.holds Try.pinned (OpenSpec.ofChange tilesCountsWrong)

/-- 'horocyclelaw04.TilesFar': WHATEVER THE INPUT: true; the input reads as it did. -/
def tilesFarSpec : ChangeSpec := { name := "tilesFar", fn := fun _ => fun
  | [d1, d2, d3, d4, d5] => { results := [.lit (.bool true)], args := [d1, d2, d3, d4, d5] }
  | _ => none }
def tilesFarRow : OpenClaim := { program := "ytbioehaapcnjmaa", sum := "f30a0d82034fb8655fa7fec17a0018a9eeea01c1b3771cc13ee609255cc8335d", func := "horocycle/horocyclelaw04.TilesFar", spec := "tilesFar", inPlace := ["internal/abi.NoEscape", "internal/bytealg.MakeNoZero"], unfollowed := true, recurses := true, plainKeys := false, apart := false }
def TilesFarSaid : Prop := tilesFarRow.holds Try.pinned (OpenSpec.ofChange tilesFarSpec)

/-- ITS FALSE NEIGHBOUR: 'it returns false'. Refute it at one input. -/
def tilesFarWrong : ChangeSpec := { name := "tilesFar", fn := fun _ => fun
  | [d1, d2, d3, d4, d5] => { results := [.lit (.bool false)], args := [d1, d2, d3, d4, d5] }
  | _ => none }
def TilesFarWrongFalsely : Prop := tilesFarRow.holds Try.pinned (OpenSpec.ofChange tilesFarWrong)

/- THE SECOND FORM. 'bulk': how many values and letters a reading holds, each counted each time it is reached (what is shared counts as often as it is met; a slice's spare places count too). A statement '..UptoSaid' is the law's where the arguments, and the package variables that the reading takes, are together of bulk at most 1048576: NARROWER than '..Said'. Prove '..Said' where nothing that the law and all that it calls make is longer than what came in: it says more and counts as full. Else prove '..UptoSaid'. A law counts once. -/
mutual
def uptoBulk {H : Type} : DataW H → Nat
  | .lit (.string bytes) => bytes.length + 1
  | .lit _ => 1
  | .nil => 1
  | .ptr d => uptoBulk d + 1
  | .slice elems spare => uptoBulkAll elems + uptoBulkAll spare + 1
  | .agg parts => uptoBulkAll parts + 1
  | .iface _ d => uptoBulk d + 1
  | .map entries => uptoBulkEntries entries + 1
  | .held _ => 1
def uptoBulkAll {H : Type} : List (DataW H) → Nat
  | [] => 0
  | d :: r => uptoBulk d + uptoBulkAll r
def uptoBulkEntries {H : Type} : List (Lit × DataW H) → Nat
  | [] => 0
  | x :: r => uptoBulkEntry x + uptoBulkEntries r
def uptoBulkEntry {H : Type} : Lit × DataW H → Nat
  | (.string bytes, d) => bytes.length + uptoBulk d + 1
  | (_, d) => uptoBulk d + 1
 end
def uptoSmall : (H : Type) → List (DataW H) → Bool := fun _ ds => decide (uptoBulkAll ds ≤ 1048576)
def OpenSpec.upto (s : _root_.Go.ChangeSpec) : _root_.Go.OpenSpec := { _root_.Go.OpenSpec.ofChange s with cond := some uptoSmall }

/-- 'horocyclelaw03.WordsMakes', WHERE WHAT IT READS IS OF BULK AT MOST 1048576: true; the input reads as it did. -/
def wordsMakesUptoRow : OpenClaim := { program := "ytbioehaapcnjmaa", sum := "f30a0d82034fb8655fa7fec17a0018a9eeea01c1b3771cc13ee609255cc8335d", func := "horocycle/horocyclelaw03.WordsMakes", spec := "wordsMakes", unfollowed := true, recurses := true, plainKeys := false, apart := false, narrowed := true }
def WordsMakesUptoSaid : Prop := wordsMakesUptoRow.holds Try.pinned (OpenSpec.upto wordsMakesSpec)

/-- 'horocyclelaw03.WordsSteps', WHERE WHAT IT READS IS OF BULK AT MOST 1048576: true; the input reads as it did. -/
def wordsStepsUptoRow : OpenClaim := { program := "ytbioehaapcnjmaa", sum := "f30a0d82034fb8655fa7fec17a0018a9eeea01c1b3771cc13ee609255cc8335d", func := "horocycle/horocyclelaw03.WordsSteps", spec := "wordsSteps", unfollowed := true, recurses := true, plainKeys := false, apart := false, narrowed := true }
def WordsStepsUptoSaid : Prop := wordsStepsUptoRow.holds Try.pinned (OpenSpec.upto wordsStepsSpec)

/-- 'horocyclelaw03.WordsLeast', WHERE WHAT IT READS IS OF BULK AT MOST 1048576: true; the input reads as it did. -/
def wordsLeastUptoRow : OpenClaim := { program := "ytbioehaapcnjmaa", sum := "f30a0d82034fb8655fa7fec17a0018a9eeea01c1b3771cc13ee609255cc8335d", func := "horocycle/horocyclelaw03.WordsLeast", spec := "wordsLeast", unfollowed := true, recurses := true, plainKeys := false, apart := false, narrowed := true }
def WordsLeastUptoSaid : Prop := wordsLeastUptoRow.holds Try.pinned (OpenSpec.upto wordsLeastSpec)

/-- 'horocyclelaw03.WordsGroup', WHERE WHAT IT READS IS OF BULK AT MOST 1048576: true; the input reads as it did. -/
def wordsGroupUptoRow : OpenClaim := { program := "ytbioehaapcnjmaa", sum := "f30a0d82034fb8655fa7fec17a0018a9eeea01c1b3771cc13ee609255cc8335d", func := "horocycle/horocyclelaw03.WordsGroup", spec := "wordsGroup", unfollowed := true, recurses := true, plainKeys := false, apart := false, narrowed := true }
def WordsGroupUptoSaid : Prop := wordsGroupUptoRow.holds Try.pinned (OpenSpec.upto wordsGroupSpec)

/-- 'horocyclelaw04.TilesRings', WHERE WHAT IT READS IS OF BULK AT MOST 1048576: true; the input reads as it did. -/
def tilesRingsUptoRow : OpenClaim := { program := "ytbioehaapcnjmaa", sum := "f30a0d82034fb8655fa7fec17a0018a9eeea01c1b3771cc13ee609255cc8335d", func := "horocycle/horocyclelaw04.TilesRings", spec := "tilesRings", inPlace := ["internal/abi.NoEscape", "internal/bytealg.MakeNoZero"], unfollowed := true, recurses := true, plainKeys := false, apart := false, narrowed := true }
def TilesRingsUptoSaid : Prop := tilesRingsUptoRow.holds Try.pinned (OpenSpec.upto tilesRingsSpec)

/-- 'horocyclelaw04.TilesCounts', WHERE WHAT IT READS IS OF BULK AT MOST 1048576: true; the input reads as it did. -/
def tilesCountsUptoRow : OpenClaim := { program := "ytbioehaapcnjmaa", sum := "f30a0d82034fb8655fa7fec17a0018a9eeea01c1b3771cc13ee609255cc8335d", func := "horocycle/horocyclelaw04.TilesCounts", spec := "tilesCounts", inPlace := ["internal/abi.NoEscape", "internal/bytealg.MakeNoZero"], unfollowed := true, recurses := true, plainKeys := false, apart := false, narrowed := true }
def TilesCountsUptoSaid : Prop := tilesCountsUptoRow.holds Try.pinned (OpenSpec.upto tilesCountsSpec)

/-- 'horocyclelaw04.TilesFar', WHERE WHAT IT READS IS OF BULK AT MOST 1048576: true; the input reads as it did. -/
def tilesFarUptoRow : OpenClaim := { program := "ytbioehaapcnjmaa", sum := "f30a0d82034fb8655fa7fec17a0018a9eeea01c1b3771cc13ee609255cc8335d", func := "horocycle/horocyclelaw04.TilesFar", spec := "tilesFar", inPlace := ["internal/abi.NoEscape", "internal/bytealg.MakeNoZero"], unfollowed := true, recurses := true, plainKeys := false, apart := false, narrowed := true }
def TilesFarUptoSaid : Prop := tilesFarUptoRow.holds Try.pinned (OpenSpec.upto tilesFarSpec)

end Rows
end Go.Proofs.Ytbioehaapcnjmaa
