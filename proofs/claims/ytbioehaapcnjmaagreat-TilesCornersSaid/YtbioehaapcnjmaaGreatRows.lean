/-
  No cell of these rows narrows 'for every input' (looked for: loops, veiled, ifaces, maps, wideKeys, modest, calm, conditions, laid).
  DERIVED. THE GIVEN ROWS OF THIS SEAT. 2 by the template 'for every input the law returns true; each argument reads behind the call as it read before'; 0 by the template 'total and deterministic' (their statements: YtbioehaapcnjmaaGreatTotals.lean).
  GIVEN WITH THE SEED: the statements are not yours to turn. If you find one false, say at which input.
  Laid BY PROGRAM, IN A SANDBOX (cutbox-rows.mjs): the forced cells as the released guide's own fill.sh prints them over the translation 6bf5de7dd5362643… (all of the seat's roots in one cut). By AI agents, Wed Nov 11 2026. No macro, syntax, notation, axiom, sorry.
-/
import Derived.Test.YtbioehaapcnjmaaGreatChecked
import GoSem.Claim
import GoSem.ClaimJoined
import GoSem.ClaimMapViews
import Derived.JoinedTies
import Derived.KernelRfl
namespace Go.Proofs.YtbioehaapcnjmaaGreat
/- THE CELL 'sum', in the pinned program and in every row, IS THE sha256 OF THE DUMP (.gsa) THAT YtbioehaapcnjmaaGreatProg.lean LOADS. Nothing in Lean hashes anything: it is a label: what it is worth is what the hold of that sum in a sandbox is worth. -/
noncomputable def Tryz.pinned : Pinned := { name := "ytbioehaapcnjmaagreat", sum := "6bf5de7dd5362643832f14bc2c23d3ed89c0a5a6a9a8e937d2906f9a120d8616", checked := Tryz.checked }
namespace Rows
def none {H : Type} : Left H := { results := [], args := [] }

/-- 'horocyclelaw04.TilesCorners': WHATEVER THE INPUT: true; the input reads as it did. -/
def tilesCornersSpec : ChangeSpec := { name := "tilesCorners", fn := fun _ => fun
  | [d1, d2, d3, d4] => { results := [.lit (.bool true)], args := [d1, d2, d3, d4] }
  | _ => none }
def tilesCornersRow : OpenClaim := { program := "ytbioehaapcnjmaagreat", sum := "6bf5de7dd5362643832f14bc2c23d3ed89c0a5a6a9a8e937d2906f9a120d8616", func := "horocycle/horocyclelaw04.TilesCorners", spec := "tilesCorners", inPlace := ["internal/abi.NoEscape", "internal/bytealg.MakeNoZero"], unfollowed := true, recurses := true, plainKeys := false, apart := false }
def TilesCornersSaid : Prop := tilesCornersRow.holds Tryz.pinned (OpenSpec.ofChange tilesCornersSpec)

/-- ITS FALSE NEIGHBOUR: 'it returns false'. Refute it at one input. -/
def tilesCornersWrong : ChangeSpec := { name := "tilesCorners", fn := fun _ => fun
  | [d1, d2, d3, d4] => { results := [.lit (.bool false)], args := [d1, d2, d3, d4] }
  | _ => none }
def TilesCornersWrongFalsely : Prop := tilesCornersRow.holds Tryz.pinned (OpenSpec.ofChange tilesCornersWrong)

/-- 'horocyclelaw04.TilesCells': WHATEVER THE INPUT: true; the input reads as it did. -/
def tilesCellsSpec : ChangeSpec := { name := "tilesCells", fn := fun _ => fun
  | [d1, d2] => { results := [.lit (.bool true)], args := [d1, d2] }
  | _ => none }
def tilesCellsRow : OpenClaim := { program := "ytbioehaapcnjmaagreat", sum := "6bf5de7dd5362643832f14bc2c23d3ed89c0a5a6a9a8e937d2906f9a120d8616", func := "horocycle/horocyclelaw04.TilesCells", spec := "tilesCells", inPlace := ["internal/abi.NoEscape", "internal/bytealg.MakeNoZero"], unfollowed := true, recurses := true, plainKeys := false, apart := false }
def TilesCellsSaid : Prop := tilesCellsRow.holds Tryz.pinned (OpenSpec.ofChange tilesCellsSpec)

/-- ITS FALSE NEIGHBOUR: 'it returns false'. Refute it at one input. -/
def tilesCellsWrong : ChangeSpec := { name := "tilesCells", fn := fun _ => fun
  | [d1, d2] => { results := [.lit (.bool false)], args := [d1, d2] }
  | _ => none }
def TilesCellsWrongFalsely : Prop := tilesCellsRow.holds Tryz.pinned (OpenSpec.ofChange tilesCellsWrong)

/- THE SECOND FORM. 'bulk': how many values and letters a reading holds, each counted each time it is reached (what is shared counts as often as it is met; a slice's spare places count too). A statement '..UptoSaid' is the law's where the arguments, and the package variables that the reading takes, are together of bulk at most 1048576: NARROWER than '..Said'. Prove '..Said' where nothing that the law and all that it calls make is longer than what came in: it says more and counts as full. Else prove '..UptoSaid'. A law counts once. -/
mutual
def uptoBulk {H : Type} : DataW H → Nat
  | .lit (.string bytes) => bytes.length + 1
  | .lit _ => 1
  | .nil => 1
  | .ptr d => uptoBulk d + 1
  | .slice elems spare => uptoBulkAll elems + uptoBulkAll spare + 1
  | .agg parts => uptoBulkAll parts + 1
  | .iface _ d => uptoBulk d + 1
  | .map entries => uptoBulkEntries entries + 1
  | .held _ => 1
def uptoBulkAll {H : Type} : List (DataW H) → Nat
  | [] => 0
  | d :: r => uptoBulk d + uptoBulkAll r
def uptoBulkEntries {H : Type} : List (Lit × DataW H) → Nat
  | [] => 0
  | x :: r => uptoBulkEntry x + uptoBulkEntries r
def uptoBulkEntry {H : Type} : Lit × DataW H → Nat
  | (.string bytes, d) => bytes.length + uptoBulk d + 1
  | (_, d) => uptoBulk d + 1
 end
def uptoSmall : (H : Type) → List (DataW H) → Bool := fun _ ds => decide (uptoBulkAll ds ≤ 1048576)
def OpenSpec.upto (s : _root_.Go.ChangeSpec) : _root_.Go.OpenSpec := { _root_.Go.OpenSpec.ofChange s with cond := some uptoSmall }

/-- 'horocyclelaw04.TilesCorners', WHERE WHAT IT READS IS OF BULK AT MOST 1048576: true; the input reads as it did. -/
def tilesCornersUptoRow : OpenClaim := { program := "ytbioehaapcnjmaagreat", sum := "6bf5de7dd5362643832f14bc2c23d3ed89c0a5a6a9a8e937d2906f9a120d8616", func := "horocycle/horocyclelaw04.TilesCorners", spec := "tilesCorners", inPlace := ["internal/abi.NoEscape", "internal/bytealg.MakeNoZero"], unfollowed := true, recurses := true, plainKeys := false, apart := false, narrowed := true }
def TilesCornersUptoSaid : Prop := tilesCornersUptoRow.holds Tryz.pinned (OpenSpec.upto tilesCornersSpec)

/-- 'horocyclelaw04.TilesCells', WHERE WHAT IT READS IS OF BULK AT MOST 1048576: true; the input reads as it did. -/
def tilesCellsUptoRow : OpenClaim := { program := "ytbioehaapcnjmaagreat", sum := "6bf5de7dd5362643832f14bc2c23d3ed89c0a5a6a9a8e937d2906f9a120d8616", func := "horocycle/horocyclelaw04.TilesCells", spec := "tilesCells", inPlace := ["internal/abi.NoEscape", "internal/bytealg.MakeNoZero"], unfollowed := true, recurses := true, plainKeys := false, apart := false, narrowed := true }
def TilesCellsUptoSaid : Prop := tilesCellsUptoRow.holds Tryz.pinned (OpenSpec.upto tilesCellsSpec)

end Rows
end Go.Proofs.YtbioehaapcnjmaaGreat
