/-
  No cell of these rows narrows 'for every input' (looked for: loops, veiled, ifaces, maps, wideKeys, modest, calm, conditions, laid).
  DERIVED. THE GIVEN ROWS OF THIS SEAT. 9 by the template 'for every input the law returns true; each argument reads behind the call as it read before'; 0 by the template 'total and deterministic' (their statements: YtcpeeopdaakbaaaGreatTotals.lean).
  GIVEN WITH THE SEED: the statements are not yours to turn. If you find one false, say at which input.
  Laid BY PROGRAM, IN A SANDBOX (cutbox-rows.mjs): the forced cells as the released guide's own fill.sh prints them over the translation 77de00aca6aa1550… (all of the seat's roots in one cut). By AI agents, Wed Nov 11 2026. No macro, syntax, notation, axiom, sorry.
-/
import Derived.Test.YtcpeeopdaakbaaaGreatChecked
import GoSem.Claim
import GoSem.ClaimJoined
import GoSem.ClaimMapViews
import Derived.JoinedTies
import Derived.KernelRfl
namespace Go.Proofs.YtcpeeopdaakbaaaGreat
/- THE CELL 'sum', in the pinned program and in every row, IS THE sha256 OF THE DUMP (.gsa) THAT YtcpeeopdaakbaaaGreatProg.lean LOADS. Nothing in Lean hashes anything: it is a label: what it is worth is what the hold of that sum in a sandbox is worth. -/
noncomputable def Tryz.pinned : Pinned := { name := "ytcpeeopdaakbaaagreat", sum := "77de00aca6aa155055e44935a36006fcaf48e33e3ed6381d61914c0caee65f8d", checked := Tryz.checked }
namespace Rows
def none {H : Type} : Left H := { results := [], args := [] }

/-- 'horocyclelaw04.TilesCorners': WHATEVER THE INPUT: true; the input reads as it did. -/
def tilesCornersSpec : ChangeSpec := { name := "tilesCorners", fn := fun _ => fun
  | [d1, d2, d3, d4] => { results := [.lit (.bool true)], args := [d1, d2, d3, d4] }
  | _ => none }
def tilesCornersRow : OpenClaim := { program := "ytcpeeopdaakbaaagreat", sum := "77de00aca6aa155055e44935a36006fcaf48e33e3ed6381d61914c0caee65f8d", func := "horocycle/horocyclelaw04.TilesCorners", spec := "tilesCorners", inPlace := ["internal/abi.NoEscape", "internal/bytealg.MakeNoZero"], unfollowed := true, recurses := true, plainKeys := false, apart := false }
def TilesCornersSaid : Prop := tilesCornersRow.holds Tryz.pinned (OpenSpec.ofChange tilesCornersSpec)

/-- ITS FALSE NEIGHBOUR: 'it returns false'. Refute it at one input. -/
def tilesCornersWrong : ChangeSpec := { name := "tilesCorners", fn := fun _ => fun
  | [d1, d2, d3, d4] => { results := [.lit (.bool false)], args := [d1, d2, d3, d4] }
  | _ => none }
def TilesCornersWrongFalsely : Prop := tilesCornersRow.holds Tryz.pinned (OpenSpec.ofChange tilesCornersWrong)

/-- 'horocyclelaw04.TilesCells': WHATEVER THE INPUT: true; the input reads as it did. -/
def tilesCellsSpec : ChangeSpec := { name := "tilesCells", fn := fun _ => fun
  | [d1, d2] => { results := [.lit (.bool true)], args := [d1, d2] }
  | _ => none }
def tilesCellsRow : OpenClaim := { program := "ytcpeeopdaakbaaagreat", sum := "77de00aca6aa155055e44935a36006fcaf48e33e3ed6381d61914c0caee65f8d", func := "horocycle/horocyclelaw04.TilesCells", spec := "tilesCells", inPlace := ["internal/abi.NoEscape", "internal/bytealg.MakeNoZero"], unfollowed := true, recurses := true, plainKeys := false, apart := false }
def TilesCellsSaid : Prop := tilesCellsRow.holds Tryz.pinned (OpenSpec.ofChange tilesCellsSpec)

/-- ITS FALSE NEIGHBOUR: 'it returns false'. Refute it at one input. -/
def tilesCellsWrong : ChangeSpec := { name := "tilesCells", fn := fun _ => fun
  | [d1, d2] => { results := [.lit (.bool false)], args := [d1, d2] }
  | _ => none }
def TilesCellsWrongFalsely : Prop := tilesCellsRow.holds Tryz.pinned (OpenSpec.ofChange tilesCellsWrong)

/-- 'horocyclelaw05.PolyMakes': WHATEVER THE INPUT: true; the input reads as it did. -/
def polyMakesSpec : ChangeSpec := { name := "polyMakes", fn := fun _ => fun
  | [d1, d2, d3] => { results := [.lit (.bool true)], args := [d1, d2, d3] }
  | _ => none }
def polyMakesRow : OpenClaim := { program := "ytcpeeopdaakbaaagreat", sum := "77de00aca6aa155055e44935a36006fcaf48e33e3ed6381d61914c0caee65f8d", func := "horocycle/horocyclelaw05.PolyMakes", spec := "polyMakes", inPlace := ["internal/bytealg.abigen_runtime_cmpstring"], unfollowed := true, recurses := true, plainKeys := false, apart := false }
def PolyMakesSaid : Prop := polyMakesRow.holds Tryz.pinned (OpenSpec.ofChange polyMakesSpec)

/-- ITS FALSE NEIGHBOUR: 'it returns false'. Refute it at one input. -/
def polyMakesWrong : ChangeSpec := { name := "polyMakes", fn := fun _ => fun
  | [d1, d2, d3] => { results := [.lit (.bool false)], args := [d1, d2, d3] }
  | _ => none }
def PolyMakesWrongFalsely : Prop := polyMakesRow.holds Tryz.pinned (OpenSpec.ofChange polyMakesWrong)

/-- 'horocyclelaw05.PolyBorders': WHATEVER THE INPUT: true; the input reads as it did. -/
def polyBordersSpec : ChangeSpec := { name := "polyBorders", fn := fun _ => fun
  | [d1, d2] => { results := [.lit (.bool true)], args := [d1, d2] }
  | _ => none }
def polyBordersRow : OpenClaim := { program := "ytcpeeopdaakbaaagreat", sum := "77de00aca6aa155055e44935a36006fcaf48e33e3ed6381d61914c0caee65f8d", func := "horocycle/horocyclelaw05.PolyBorders", spec := "polyBorders", inPlace := ["internal/bytealg.abigen_runtime_cmpstring"], unfollowed := true, recurses := true, plainKeys := false, apart := false }
def PolyBordersSaid : Prop := polyBordersRow.holds Tryz.pinned (OpenSpec.ofChange polyBordersSpec)

/-- ITS FALSE NEIGHBOUR: 'it returns false'. Refute it at one input. -/
def polyBordersWrong : ChangeSpec := { name := "polyBorders", fn := fun _ => fun
  | [d1, d2] => { results := [.lit (.bool false)], args := [d1, d2] }
  | _ => none }
def PolyBordersWrongFalsely : Prop := polyBordersRow.holds Tryz.pinned (OpenSpec.ofChange polyBordersWrong)

/-- 'horocyclelaw05.PolyHulls': WHATEVER THE INPUT: true; the input reads as it did. -/
def polyHullsSpec : ChangeSpec := { name := "polyHulls", fn := fun _ => fun
  | [d1, d2] => { results := [.lit (.bool true)], args := [d1, d2] }
  | _ => none }
def polyHullsRow : OpenClaim := { program := "ytcpeeopdaakbaaagreat", sum := "77de00aca6aa155055e44935a36006fcaf48e33e3ed6381d61914c0caee65f8d", func := "horocycle/horocyclelaw05.PolyHulls", spec := "polyHulls", inPlace := ["internal/bytealg.abigen_runtime_cmpstring"], unfollowed := true, recurses := true, plainKeys := false, apart := false }
def PolyHullsSaid : Prop := polyHullsRow.holds Tryz.pinned (OpenSpec.ofChange polyHullsSpec)

/-- ITS FALSE NEIGHBOUR: 'it returns false'. Refute it at one input. -/
def polyHullsWrong : ChangeSpec := { name := "polyHulls", fn := fun _ => fun
  | [d1, d2] => { results := [.lit (.bool false)], args := [d1, d2] }
  | _ => none }
def PolyHullsWrongFalsely : Prop := polyHullsRow.holds Tryz.pinned (OpenSpec.ofChange polyHullsWrong)

/-- 'horocyclelaw05.PolyAngles': WHATEVER THE INPUT: true; the input reads as it did. -/
def polyAnglesSpec : ChangeSpec := { name := "polyAngles", fn := fun _ => fun
  | [d1, d2] => { results := [.lit (.bool true)], args := [d1, d2] }
  | _ => none }
def polyAnglesRow : OpenClaim := { program := "ytcpeeopdaakbaaagreat", sum := "77de00aca6aa155055e44935a36006fcaf48e33e3ed6381d61914c0caee65f8d", func := "horocycle/horocyclelaw05.PolyAngles", spec := "polyAngles", inPlace := ["internal/bytealg.abigen_runtime_cmpstring"], unfollowed := true, recurses := true, plainKeys := false, apart := false }
def PolyAnglesSaid : Prop := polyAnglesRow.holds Tryz.pinned (OpenSpec.ofChange polyAnglesSpec)

/-- ITS FALSE NEIGHBOUR: 'it returns false'. Refute it at one input. -/
def polyAnglesWrong : ChangeSpec := { name := "polyAngles", fn := fun _ => fun
  | [d1, d2] => { results := [.lit (.bool false)], args := [d1, d2] }
  | _ => none }
def PolyAnglesWrongFalsely : Prop := polyAnglesRow.holds Tryz.pinned (OpenSpec.ofChange polyAnglesWrong)

/-- 'horocyclelaw05.PolyLeast': WHATEVER THE INPUT: true; the input reads as it did. -/
def polyLeastSpec : ChangeSpec := { name := "polyLeast", fn := fun _ => fun
  | [d1, d2, d3] => { results := [.lit (.bool true)], args := [d1, d2, d3] }
  | _ => none }
def polyLeastRow : OpenClaim := { program := "ytcpeeopdaakbaaagreat", sum := "77de00aca6aa155055e44935a36006fcaf48e33e3ed6381d61914c0caee65f8d", func := "horocycle/horocyclelaw05.PolyLeast", spec := "polyLeast", inPlace := ["internal/bytealg.abigen_runtime_cmpstring"], unfollowed := true, recurses := true, plainKeys := false, apart := false }
def PolyLeastSaid : Prop := polyLeastRow.holds Tryz.pinned (OpenSpec.ofChange polyLeastSpec)

/-- ITS FALSE NEIGHBOUR: 'it returns false'. Refute it at one input. -/
def polyLeastWrong : ChangeSpec := { name := "polyLeast", fn := fun _ => fun
  | [d1, d2, d3] => { results := [.lit (.bool false)], args := [d1, d2, d3] }
  | _ => none }
def PolyLeastWrongFalsely : Prop := polyLeastRow.holds Tryz.pinned (OpenSpec.ofChange polyLeastWrong)

/-- 'horocyclelaw05.PolyCarries': WHATEVER THE INPUT: true; the input reads as it did. -/
def polyCarriesSpec : ChangeSpec := { name := "polyCarries", fn := fun _ => fun
  | [d1, d2, d3] => { results := [.lit (.bool true)], args := [d1, d2, d3] }
  | _ => none }
def polyCarriesRow : OpenClaim := { program := "ytcpeeopdaakbaaagreat", sum := "77de00aca6aa155055e44935a36006fcaf48e33e3ed6381d61914c0caee65f8d", func := "horocycle/horocyclelaw05.PolyCarries", spec := "polyCarries", inPlace := ["internal/bytealg.abigen_runtime_cmpstring"], unfollowed := true, recurses := true, plainKeys := false, apart := false }
def PolyCarriesSaid : Prop := polyCarriesRow.holds Tryz.pinned (OpenSpec.ofChange polyCarriesSpec)

/-- ITS FALSE NEIGHBOUR: 'it returns false'. Refute it at one input. -/
def polyCarriesWrong : ChangeSpec := { name := "polyCarries", fn := fun _ => fun
  | [d1, d2, d3] => { results := [.lit (.bool false)], args := [d1, d2, d3] }
  | _ => none }
def PolyCarriesWrongFalsely : Prop := polyCarriesRow.holds Tryz.pinned (OpenSpec.ofChange polyCarriesWrong)

/-- 'horocyclelaw05.PolyStays': WHATEVER THE INPUT: true; the input reads as it did. -/
def polyStaysSpec : ChangeSpec := { name := "polyStays", fn := fun _ => fun
  | [d1, d2, d3] => { results := [.lit (.bool true)], args := [d1, d2, d3] }
  | _ => none }
def polyStaysRow : OpenClaim := { program := "ytcpeeopdaakbaaagreat", sum := "77de00aca6aa155055e44935a36006fcaf48e33e3ed6381d61914c0caee65f8d", func := "horocycle/horocyclelaw05.PolyStays", spec := "polyStays", inPlace := ["internal/bytealg.abigen_runtime_cmpstring"], unfollowed := true, recurses := true, plainKeys := false, apart := false }
def PolyStaysSaid : Prop := polyStaysRow.holds Tryz.pinned (OpenSpec.ofChange polyStaysSpec)

/-- ITS FALSE NEIGHBOUR: 'it returns false'. Refute it at one input. -/
def polyStaysWrong : ChangeSpec := { name := "polyStays", fn := fun _ => fun
  | [d1, d2, d3] => { results := [.lit (.bool false)], args := [d1, d2, d3] }
  | _ => none }
def PolyStaysWrongFalsely : Prop := polyStaysRow.holds Tryz.pinned (OpenSpec.ofChange polyStaysWrong)

/- THE SECOND FORM. 'bulk': how many values and letters a reading holds, each counted each time it is reached (what is shared counts as often as it is met; a slice's spare places count too). A statement '..UptoSaid' is the law's where the arguments, and the package variables that the reading takes, are together of bulk at most 1048576: NARROWER than '..Said'. Prove '..Said' where nothing that the law and all that it calls make is longer than what came in: it says more and counts as full. Else prove '..UptoSaid'. A law counts once. -/
mutual
def uptoBulk {H : Type} : DataW H → Nat
  | .lit (.string bytes) => bytes.length + 1
  | .lit _ => 1
  | .nil => 1
  | .ptr d => uptoBulk d + 1
  | .slice elems spare => uptoBulkAll elems + uptoBulkAll spare + 1
  | .agg parts => uptoBulkAll parts + 1
  | .iface _ d => uptoBulk d + 1
  | .map entries => uptoBulkEntries entries + 1
  | .held _ => 1
def uptoBulkAll {H : Type} : List (DataW H) → Nat
  | [] => 0
  | d :: r => uptoBulk d + uptoBulkAll r
def uptoBulkEntries {H : Type} : List (Lit × DataW H) → Nat
  | [] => 0
  | x :: r => uptoBulkEntry x + uptoBulkEntries r
def uptoBulkEntry {H : Type} : Lit × DataW H → Nat
  | (.string bytes, d) => bytes.length + uptoBulk d + 1
  | (_, d) => uptoBulk d + 1
 end
def uptoSmall : (H : Type) → List (DataW H) → Bool := fun _ ds => decide (uptoBulkAll ds ≤ 1048576)
def OpenSpec.upto (s : _root_.Go.ChangeSpec) : _root_.Go.OpenSpec := { _root_.Go.OpenSpec.ofChange s with cond := some uptoSmall }

/-- 'horocyclelaw04.TilesCorners', WHERE WHAT IT READS IS OF BULK AT MOST 1048576: true; the input reads as it did. -/
def tilesCornersUptoRow : OpenClaim := { program := "ytcpeeopdaakbaaagreat", sum := "77de00aca6aa155055e44935a36006fcaf48e33e3ed6381d61914c0caee65f8d", func := "horocycle/horocyclelaw04.TilesCorners", spec := "tilesCorners", inPlace := ["internal/abi.NoEscape", "internal/bytealg.MakeNoZero"], unfollowed := true, recurses := true, plainKeys := false, apart := false, narrowed := true }
def TilesCornersUptoSaid : Prop := tilesCornersUptoRow.holds Tryz.pinned (OpenSpec.upto tilesCornersSpec)

/-- 'horocyclelaw04.TilesCells', WHERE WHAT IT READS IS OF BULK AT MOST 1048576: true; the input reads as it did. -/
def tilesCellsUptoRow : OpenClaim := { program := "ytcpeeopdaakbaaagreat", sum := "77de00aca6aa155055e44935a36006fcaf48e33e3ed6381d61914c0caee65f8d", func := "horocycle/horocyclelaw04.TilesCells", spec := "tilesCells", inPlace := ["internal/abi.NoEscape", "internal/bytealg.MakeNoZero"], unfollowed := true, recurses := true, plainKeys := false, apart := false, narrowed := true }
def TilesCellsUptoSaid : Prop := tilesCellsUptoRow.holds Tryz.pinned (OpenSpec.upto tilesCellsSpec)

/-- 'horocyclelaw05.PolyMakes', WHERE WHAT IT READS IS OF BULK AT MOST 1048576: true; the input reads as it did. -/
def polyMakesUptoRow : OpenClaim := { program := "ytcpeeopdaakbaaagreat", sum := "77de00aca6aa155055e44935a36006fcaf48e33e3ed6381d61914c0caee65f8d", func := "horocycle/horocyclelaw05.PolyMakes", spec := "polyMakes", inPlace := ["internal/bytealg.abigen_runtime_cmpstring"], unfollowed := true, recurses := true, plainKeys := false, apart := false, narrowed := true }
def PolyMakesUptoSaid : Prop := polyMakesUptoRow.holds Tryz.pinned (OpenSpec.upto polyMakesSpec)

/-- 'horocyclelaw05.PolyBorders', WHERE WHAT IT READS IS OF BULK AT MOST 1048576: true; the input reads as it did. -/
def polyBordersUptoRow : OpenClaim := { program := "ytcpeeopdaakbaaagreat", sum := "77de00aca6aa155055e44935a36006fcaf48e33e3ed6381d61914c0caee65f8d", func := "horocycle/horocyclelaw05.PolyBorders", spec := "polyBorders", inPlace := ["internal/bytealg.abigen_runtime_cmpstring"], unfollowed := true, recurses := true, plainKeys := false, apart := false, narrowed := true }
def PolyBordersUptoSaid : Prop := polyBordersUptoRow.holds Tryz.pinned (OpenSpec.upto polyBordersSpec)

/-- 'horocyclelaw05.PolyHulls', WHERE WHAT IT READS IS OF BULK AT MOST 1048576: true; the input reads as it did. -/
def polyHullsUptoRow : OpenClaim := { program := "ytcpeeopdaakbaaagreat", sum := "77de00aca6aa155055e44935a36006fcaf48e33e3ed6381d61914c0caee65f8d", func := "horocycle/horocyclelaw05.PolyHulls", spec := "polyHulls", inPlace := ["internal/bytealg.abigen_runtime_cmpstring"], unfollowed := true, recurses := true, plainKeys := false, apart := false, narrowed := true }
def PolyHullsUptoSaid : Prop := polyHullsUptoRow.holds Tryz.pinned (OpenSpec.upto polyHullsSpec)

/-- 'horocyclelaw05.PolyAngles', WHERE WHAT IT READS IS OF BULK AT MOST 1048576: true; the input reads as it did. -/
def polyAnglesUptoRow : OpenClaim := { program := "ytcpeeopdaakbaaagreat", sum := "77de00aca6aa155055e44935a36006fcaf48e33e3ed6381d61914c0caee65f8d", func := "horocycle/horocyclelaw05.PolyAngles", spec := "polyAngles", inPlace := ["internal/bytealg.abigen_runtime_cmpstring"], unfollowed := true, recurses := true, plainKeys := false, apart := false, narrowed := true }
def PolyAnglesUptoSaid : Prop := polyAnglesUptoRow.holds Tryz.pinned (OpenSpec.upto polyAnglesSpec)

/-- 'horocyclelaw05.PolyLeast', WHERE WHAT IT READS IS OF BULK AT MOST 1048576: true; the input reads as it did. -/
def polyLeastUptoRow : OpenClaim := { program := "ytcpeeopdaakbaaagreat", sum := "77de00aca6aa155055e44935a36006fcaf48e33e3ed6381d61914c0caee65f8d", func := "horocycle/horocyclelaw05.PolyLeast", spec := "polyLeast", inPlace := ["internal/bytealg.abigen_runtime_cmpstring"], unfollowed := true, recurses := true, plainKeys := false, apart := false, narrowed := true }
def PolyLeastUptoSaid : Prop := polyLeastUptoRow.holds Tryz.pinned (OpenSpec.upto polyLeastSpec)

/-- 'horocyclelaw05.PolyCarries', WHERE WHAT IT READS IS OF BULK AT MOST 1048576: true; the input reads as it did. -/
def polyCarriesUptoRow : OpenClaim := { program := "ytcpeeopdaakbaaagreat", sum := "77de00aca6aa155055e44935a36006fcaf48e33e3ed6381d61914c0caee65f8d", func := "horocycle/horocyclelaw05.PolyCarries", spec := "polyCarries", inPlace := ["internal/bytealg.abigen_runtime_cmpstring"], unfollowed := true, recurses := true, plainKeys := false, apart := false, narrowed := true }
def PolyCarriesUptoSaid : Prop := polyCarriesUptoRow.holds Tryz.pinned (OpenSpec.upto polyCarriesSpec)

/-- 'horocyclelaw05.PolyStays', WHERE WHAT IT READS IS OF BULK AT MOST 1048576: true; the input reads as it did. -/
def polyStaysUptoRow : OpenClaim := { program := "ytcpeeopdaakbaaagreat", sum := "77de00aca6aa155055e44935a36006fcaf48e33e3ed6381d61914c0caee65f8d", func := "horocycle/horocyclelaw05.PolyStays", spec := "polyStays", inPlace := ["internal/bytealg.abigen_runtime_cmpstring"], unfollowed := true, recurses := true, plainKeys := false, apart := false, narrowed := true }
def PolyStaysUptoSaid : Prop := polyStaysUptoRow.holds Tryz.pinned (OpenSpec.upto polyStaysSpec)

end Rows
end Go.Proofs.YtcpeeopdaakbaaaGreat
