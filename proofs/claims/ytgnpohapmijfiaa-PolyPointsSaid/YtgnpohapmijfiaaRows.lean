/-
  No cell of these rows narrows 'for every input' (looked for: loops, veiled, ifaces, maps, wideKeys, modest, calm, conditions, laid).
  DERIVED. THE GIVEN ROWS OF THIS SEAT. 16 by the template 'for every input the law returns true; each argument reads behind the call as it read before'; 0 by the template 'total and deterministic' (their statements: YtgnpohapmijfiaaTotals.lean).
  GIVEN WITH THE SEED: the statements are not yours to turn. If you find one false, say at which input.
  Laid BY PROGRAM, IN A SANDBOX (cutbox-rows.mjs): the forced cells as the released guide's own fill.sh prints them over the translation be990959a8f0da78… (all of the seat's roots in one cut). By AI agents, Wed Nov 11 2026. No macro, syntax, notation, axiom, sorry.
-/
import Derived.Test.YtgnpohapmijfiaaChecked
import GoSem.Claim
import GoSem.ClaimJoined
import GoSem.ClaimMapViews
import Derived.JoinedTies
import Derived.KernelRfl
namespace Go.Proofs.Ytgnpohapmijfiaa
/- THE CELL 'sum', in the pinned program and in every row, IS THE sha256 OF THE DUMP (.gsa) THAT YtgnpohapmijfiaaProg.lean LOADS. Nothing in Lean hashes anything: it is a label: what it is worth is what the hold of that sum in a sandbox is worth. -/
noncomputable def Try.pinned : Pinned := { name := "ytgnpohapmijfiaa", sum := "be990959a8f0da78dce5d1e26637b2d79ad21f0a6bc11fb69beae90de93f9ec9", checked := Try.checked }
namespace Rows
def none {H : Type} : Left H := { results := [], args := [] }

/-- 'olivettelaw02.PolySums': WHATEVER THE INPUT: true; the input reads as it did. -/
def polySumsSpec : ChangeSpec := { name := "polySums", fn := fun _ => fun
  | [d1, d2] => { results := [.lit (.bool true)], args := [d1, d2] }
  | _ => none }
def polySumsRow : OpenClaim := { program := "ytgnpohapmijfiaa", sum := "be990959a8f0da78dce5d1e26637b2d79ad21f0a6bc11fb69beae90de93f9ec9", func := "olivette/olivettelaw02.PolySums", spec := "polySums", unfollowed := true, recurses := true, apart := false }
def PolySumsSaid : Prop := polySumsRow.holds Try.pinned (OpenSpec.ofChange polySumsSpec)

/-- ITS FALSE NEIGHBOUR: 'it returns false'. Refute it at one input. -/
def polySumsWrong : ChangeSpec := { name := "polySums", fn := fun _ => fun
  | [d1, d2] => { results := [.lit (.bool false)], args := [d1, d2] }
  | _ => none }
def PolySumsWrongFalsely : Prop := polySumsRow.holds Try.pinned (OpenSpec.ofChange polySumsWrong)

/-- 'olivettelaw02.PolyQuotients': WHATEVER THE INPUT: true; the input reads as it did. -/
def polyQuotientsSpec : ChangeSpec := { name := "polyQuotients", fn := fun _ => fun
  | [d1, d2] => { results := [.lit (.bool true)], args := [d1, d2] }
  | _ => none }
def polyQuotientsRow : OpenClaim := { program := "ytgnpohapmijfiaa", sum := "be990959a8f0da78dce5d1e26637b2d79ad21f0a6bc11fb69beae90de93f9ec9", func := "olivette/olivettelaw02.PolyQuotients", spec := "polyQuotients", unfollowed := true, recurses := true, apart := false }
def PolyQuotientsSaid : Prop := polyQuotientsRow.holds Try.pinned (OpenSpec.ofChange polyQuotientsSpec)

/-- ITS FALSE NEIGHBOUR: 'it returns false'. Refute it at one input. -/
def polyQuotientsWrong : ChangeSpec := { name := "polyQuotients", fn := fun _ => fun
  | [d1, d2] => { results := [.lit (.bool false)], args := [d1, d2] }
  | _ => none }
def PolyQuotientsWrongFalsely : Prop := polyQuotientsRow.holds Try.pinned (OpenSpec.ofChange polyQuotientsWrong)

/-- 'olivettelaw02.PolyGcds': WHATEVER THE INPUT: true; the input reads as it did. -/
def polyGcdsSpec : ChangeSpec := { name := "polyGcds", fn := fun _ => fun
  | [d1, d2] => { results := [.lit (.bool true)], args := [d1, d2] }
  | _ => none }
def polyGcdsRow : OpenClaim := { program := "ytgnpohapmijfiaa", sum := "be990959a8f0da78dce5d1e26637b2d79ad21f0a6bc11fb69beae90de93f9ec9", func := "olivette/olivettelaw02.PolyGcds", spec := "polyGcds", unfollowed := true, recurses := true, apart := false }
def PolyGcdsSaid : Prop := polyGcdsRow.holds Try.pinned (OpenSpec.ofChange polyGcdsSpec)

/-- ITS FALSE NEIGHBOUR: 'it returns false'. Refute it at one input. -/
def polyGcdsWrong : ChangeSpec := { name := "polyGcds", fn := fun _ => fun
  | [d1, d2] => { results := [.lit (.bool false)], args := [d1, d2] }
  | _ => none }
def PolyGcdsWrongFalsely : Prop := polyGcdsRow.holds Try.pinned (OpenSpec.ofChange polyGcdsWrong)

/-- 'olivettelaw02.PolyValues': WHATEVER THE INPUT: true; the input reads as it did. -/
def polyValuesSpec : ChangeSpec := { name := "polyValues", fn := fun _ => fun
  | [d1, d2, d3] => { results := [.lit (.bool true)], args := [d1, d2, d3] }
  | _ => none }
def polyValuesRow : OpenClaim := { program := "ytgnpohapmijfiaa", sum := "be990959a8f0da78dce5d1e26637b2d79ad21f0a6bc11fb69beae90de93f9ec9", func := "olivette/olivettelaw02.PolyValues", spec := "polyValues", unfollowed := true, recurses := true, apart := false }
def PolyValuesSaid : Prop := polyValuesRow.holds Try.pinned (OpenSpec.ofChange polyValuesSpec)

/-- ITS FALSE NEIGHBOUR: 'it returns false'. Refute it at one input. -/
def polyValuesWrong : ChangeSpec := { name := "polyValues", fn := fun _ => fun
  | [d1, d2, d3] => { results := [.lit (.bool false)], args := [d1, d2, d3] }
  | _ => none }
def PolyValuesWrongFalsely : Prop := polyValuesRow.holds Try.pinned (OpenSpec.ofChange polyValuesWrong)

/-- 'olivettelaw02.PolyPoints': WHATEVER THE INPUT: true; the input reads as it did. -/
def polyPointsSpec : ChangeSpec := { name := "polyPoints", fn := fun _ => fun
  | [d1, d2] => { results := [.lit (.bool true)], args := [d1, d2] }
  | _ => none }
def polyPointsRow : OpenClaim := { program := "ytgnpohapmijfiaa", sum := "be990959a8f0da78dce5d1e26637b2d79ad21f0a6bc11fb69beae90de93f9ec9", func := "olivette/olivettelaw02.PolyPoints", spec := "polyPoints", unfollowed := true, recurses := true, apart := false }
def PolyPointsSaid : Prop := polyPointsRow.holds Try.pinned (OpenSpec.ofChange polyPointsSpec)

/-- ITS FALSE NEIGHBOUR: 'it returns false'. Refute it at one input. -/
def polyPointsWrong : ChangeSpec := { name := "polyPoints", fn := fun _ => fun
  | [d1, d2] => { results := [.lit (.bool false)], args := [d1, d2] }
  | _ => none }
def PolyPointsWrongFalsely : Prop := polyPointsRow.holds Try.pinned (OpenSpec.ofChange polyPointsWrong)

/-- 'olivettelaw02.PolyCounts': WHATEVER THE INPUT: true; the input reads as it did. -/
def polyCountsSpec : ChangeSpec := { name := "polyCounts", fn := fun _ => fun
  | [d1, d2] => { results := [.lit (.bool true)], args := [d1, d2] }
  | _ => none }
def polyCountsRow : OpenClaim := { program := "ytgnpohapmijfiaa", sum := "be990959a8f0da78dce5d1e26637b2d79ad21f0a6bc11fb69beae90de93f9ec9", func := "olivette/olivettelaw02.PolyCounts", spec := "polyCounts", unfollowed := true, recurses := true, apart := false }
def PolyCountsSaid : Prop := polyCountsRow.holds Try.pinned (OpenSpec.ofChange polyCountsSpec)

/-- ITS FALSE NEIGHBOUR: 'it returns false'. Refute it at one input. -/
def polyCountsWrong : ChangeSpec := { name := "polyCounts", fn := fun _ => fun
  | [d1, d2] => { results := [.lit (.bool false)], args := [d1, d2] }
  | _ => none }
def PolyCountsWrongFalsely : Prop := polyCountsRow.holds Try.pinned (OpenSpec.ofChange polyCountsWrong)

/-- 'olivettelaw02.PolyFirst': WHATEVER THE INPUT: true; the input reads as it did. -/
def polyFirstSpec : ChangeSpec := { name := "polyFirst", fn := fun _ => fun
  | [d1, d2] => { results := [.lit (.bool true)], args := [d1, d2] }
  | _ => none }
def polyFirstRow : OpenClaim := { program := "ytgnpohapmijfiaa", sum := "be990959a8f0da78dce5d1e26637b2d79ad21f0a6bc11fb69beae90de93f9ec9", func := "olivette/olivettelaw02.PolyFirst", spec := "polyFirst", unfollowed := true, recurses := true, apart := false }
def PolyFirstSaid : Prop := polyFirstRow.holds Try.pinned (OpenSpec.ofChange polyFirstSpec)

/-- ITS FALSE NEIGHBOUR: 'it returns false'. Refute it at one input. -/
def polyFirstWrong : ChangeSpec := { name := "polyFirst", fn := fun _ => fun
  | [d1, d2] => { results := [.lit (.bool false)], args := [d1, d2] }
  | _ => none }
def PolyFirstWrongFalsely : Prop := polyFirstRow.holds Try.pinned (OpenSpec.ofChange polyFirstWrong)

/-- 'olivettelaw02.PolyRing': WHATEVER THE INPUT: true; the input reads as it did. -/
def polyRingSpec : ChangeSpec := { name := "polyRing", fn := fun _ => fun
  | [d1, d2, d3] => { results := [.lit (.bool true)], args := [d1, d2, d3] }
  | _ => none }
def polyRingRow : OpenClaim := { program := "ytgnpohapmijfiaa", sum := "be990959a8f0da78dce5d1e26637b2d79ad21f0a6bc11fb69beae90de93f9ec9", func := "olivette/olivettelaw02.PolyRing", spec := "polyRing", unfollowed := true, recurses := true, apart := false }
def PolyRingSaid : Prop := polyRingRow.holds Try.pinned (OpenSpec.ofChange polyRingSpec)

/-- ITS FALSE NEIGHBOUR: 'it returns false'. Refute it at one input. -/
def polyRingWrong : ChangeSpec := { name := "polyRing", fn := fun _ => fun
  | [d1, d2, d3] => { results := [.lit (.bool false)], args := [d1, d2, d3] }
  | _ => none }
def PolyRingWrongFalsely : Prop := polyRingRow.holds Try.pinned (OpenSpec.ofChange polyRingWrong)

/-- 'olivettelaw02.PolyDivides': WHATEVER THE INPUT: true; the input reads as it did. -/
def polyDividesSpec : ChangeSpec := { name := "polyDivides", fn := fun _ => fun
  | [d1, d2] => { results := [.lit (.bool true)], args := [d1, d2] }
  | _ => none }
def polyDividesRow : OpenClaim := { program := "ytgnpohapmijfiaa", sum := "be990959a8f0da78dce5d1e26637b2d79ad21f0a6bc11fb69beae90de93f9ec9", func := "olivette/olivettelaw02.PolyDivides", spec := "polyDivides", unfollowed := true, recurses := true, apart := false }
def PolyDividesSaid : Prop := polyDividesRow.holds Try.pinned (OpenSpec.ofChange polyDividesSpec)

/-- ITS FALSE NEIGHBOUR: 'it returns false'. Refute it at one input. -/
def polyDividesWrong : ChangeSpec := { name := "polyDivides", fn := fun _ => fun
  | [d1, d2] => { results := [.lit (.bool false)], args := [d1, d2] }
  | _ => none }
def PolyDividesWrongFalsely : Prop := polyDividesRow.holds Try.pinned (OpenSpec.ofChange polyDividesWrong)

/-- 'olivettelaw02.PolyBezout': WHATEVER THE INPUT: true; the input reads as it did. -/
def polyBezoutSpec : ChangeSpec := { name := "polyBezout", fn := fun _ => fun
  | [d1, d2] => { results := [.lit (.bool true)], args := [d1, d2] }
  | _ => none }
def polyBezoutRow : OpenClaim := { program := "ytgnpohapmijfiaa", sum := "be990959a8f0da78dce5d1e26637b2d79ad21f0a6bc11fb69beae90de93f9ec9", func := "olivette/olivettelaw02.PolyBezout", spec := "polyBezout", unfollowed := true, recurses := true, apart := false }
def PolyBezoutSaid : Prop := polyBezoutRow.holds Try.pinned (OpenSpec.ofChange polyBezoutSpec)

/-- ITS FALSE NEIGHBOUR: 'it returns false'. Refute it at one input. -/
def polyBezoutWrong : ChangeSpec := { name := "polyBezout", fn := fun _ => fun
  | [d1, d2] => { results := [.lit (.bool false)], args := [d1, d2] }
  | _ => none }
def PolyBezoutWrongFalsely : Prop := polyBezoutRow.holds Try.pinned (OpenSpec.ofChange polyBezoutWrong)

/-- 'olivettelaw02.PolyProducts': WHATEVER THE INPUT: true; the input reads as it did. -/
def polyProductsSpec : ChangeSpec := { name := "polyProducts", fn := fun _ => fun
  | [d1, d2] => { results := [.lit (.bool true)], args := [d1, d2] }
  | _ => none }
def polyProductsRow : OpenClaim := { program := "ytgnpohapmijfiaa", sum := "be990959a8f0da78dce5d1e26637b2d79ad21f0a6bc11fb69beae90de93f9ec9", func := "olivette/olivettelaw02.PolyProducts", spec := "polyProducts", unfollowed := true, recurses := true, apart := false }
def PolyProductsSaid : Prop := polyProductsRow.holds Try.pinned (OpenSpec.ofChange polyProductsSpec)

/-- ITS FALSE NEIGHBOUR: 'it returns false'. Refute it at one input. -/
def polyProductsWrong : ChangeSpec := { name := "polyProducts", fn := fun _ => fun
  | [d1, d2] => { results := [.lit (.bool false)], args := [d1, d2] }
  | _ => none }
def PolyProductsWrongFalsely : Prop := polyProductsRow.holds Try.pinned (OpenSpec.ofChange polyProductsWrong)

/-- 'olivettelaw02.PolyRoots': WHATEVER THE INPUT: true; the input reads as it did. -/
def polyRootsSpec : ChangeSpec := { name := "polyRoots", fn := fun _ => fun
  | [d1, d2] => { results := [.lit (.bool true)], args := [d1, d2] }
  | _ => none }
def polyRootsRow : OpenClaim := { program := "ytgnpohapmijfiaa", sum := "be990959a8f0da78dce5d1e26637b2d79ad21f0a6bc11fb69beae90de93f9ec9", func := "olivette/olivettelaw02.PolyRoots", spec := "polyRoots", unfollowed := true, recurses := true, apart := false }
def PolyRootsSaid : Prop := polyRootsRow.holds Try.pinned (OpenSpec.ofChange polyRootsSpec)

/-- ITS FALSE NEIGHBOUR: 'it returns false'. Refute it at one input. -/
def polyRootsWrong : ChangeSpec := { name := "polyRoots", fn := fun _ => fun
  | [d1, d2] => { results := [.lit (.bool false)], args := [d1, d2] }
  | _ => none }
def PolyRootsWrongFalsely : Prop := polyRootsRow.holds Try.pinned (OpenSpec.ofChange polyRootsWrong)

/-- 'olivettelaw02.PolyAgain': WHATEVER THE INPUT: true; the input reads as it did. -/
def polyAgainSpec : ChangeSpec := { name := "polyAgain", fn := fun _ => fun
  | [d1, d2, d3] => { results := [.lit (.bool true)], args := [d1, d2, d3] }
  | _ => none }
def polyAgainRow : OpenClaim := { program := "ytgnpohapmijfiaa", sum := "be990959a8f0da78dce5d1e26637b2d79ad21f0a6bc11fb69beae90de93f9ec9", func := "olivette/olivettelaw02.PolyAgain", spec := "polyAgain", unfollowed := true, recurses := true, apart := false }
def PolyAgainSaid : Prop := polyAgainRow.holds Try.pinned (OpenSpec.ofChange polyAgainSpec)

/-- ITS FALSE NEIGHBOUR: 'it returns false'. Refute it at one input. -/
def polyAgainWrong : ChangeSpec := { name := "polyAgain", fn := fun _ => fun
  | [d1, d2, d3] => { results := [.lit (.bool false)], args := [d1, d2, d3] }
  | _ => none }
def PolyAgainWrongFalsely : Prop := polyAgainRow.holds Try.pinned (OpenSpec.ofChange polyAgainWrong)

/-- 'olivettelaw02.PolyAll': WHATEVER THE INPUT: true; the input reads as it did. -/
def polyAllSpec : ChangeSpec := { name := "polyAll", fn := fun _ => fun
  | [d1, d2] => { results := [.lit (.bool true)], args := [d1, d2] }
  | _ => none }
def polyAllRow : OpenClaim := { program := "ytgnpohapmijfiaa", sum := "be990959a8f0da78dce5d1e26637b2d79ad21f0a6bc11fb69beae90de93f9ec9", func := "olivette/olivettelaw02.PolyAll", spec := "polyAll", unfollowed := true, recurses := true, apart := false }
def PolyAllSaid : Prop := polyAllRow.holds Try.pinned (OpenSpec.ofChange polyAllSpec)

/-- ITS FALSE NEIGHBOUR: 'it returns false'. Refute it at one input. -/
def polyAllWrong : ChangeSpec := { name := "polyAll", fn := fun _ => fun
  | [d1, d2] => { results := [.lit (.bool false)], args := [d1, d2] }
  | _ => none }
def PolyAllWrongFalsely : Prop := polyAllRow.holds Try.pinned (OpenSpec.ofChange polyAllWrong)

/-- 'olivettelaw02.PolyOwn': WHATEVER THE INPUT: true; the input reads as it did. -/
def polyOwnSpec : ChangeSpec := { name := "polyOwn", fn := fun _ => fun
  | [d1, d2] => { results := [.lit (.bool true)], args := [d1, d2] }
  | _ => none }
def polyOwnRow : OpenClaim := { program := "ytgnpohapmijfiaa", sum := "be990959a8f0da78dce5d1e26637b2d79ad21f0a6bc11fb69beae90de93f9ec9", func := "olivette/olivettelaw02.PolyOwn", spec := "polyOwn", unfollowed := true, recurses := true, apart := false }
def PolyOwnSaid : Prop := polyOwnRow.holds Try.pinned (OpenSpec.ofChange polyOwnSpec)

/-- ITS FALSE NEIGHBOUR: 'it returns false'. Refute it at one input. -/
def polyOwnWrong : ChangeSpec := { name := "polyOwn", fn := fun _ => fun
  | [d1, d2] => { results := [.lit (.bool false)], args := [d1, d2] }
  | _ => none }
def PolyOwnWrongFalsely : Prop := polyOwnRow.holds Try.pinned (OpenSpec.ofChange polyOwnWrong)

/-- 'olivettetop.TopSquares': WHATEVER THE INPUT: true; the input reads as it did. -/
def topSquaresSpec : ChangeSpec := { name := "topSquares", fn := fun _ => fun
  | [d1, d2] => { results := [.lit (.bool true)], args := [d1, d2] }
  | _ => none }
def topSquaresRow : OpenClaim := { program := "ytgnpohapmijfiaa", sum := "be990959a8f0da78dce5d1e26637b2d79ad21f0a6bc11fb69beae90de93f9ec9", func := "olivette/olivettetop.TopSquares", spec := "topSquares", unfollowed := true, recurses := true, apart := false }
def TopSquaresSaid : Prop := topSquaresRow.holds Try.pinned (OpenSpec.ofChange topSquaresSpec)

/-- ITS FALSE NEIGHBOUR: 'it returns false'. Refute it at one input. -/
def topSquaresWrong : ChangeSpec := { name := "topSquares", fn := fun _ => fun
  | [d1, d2] => { results := [.lit (.bool false)], args := [d1, d2] }
  | _ => none }
def TopSquaresWrongFalsely : Prop := topSquaresRow.holds Try.pinned (OpenSpec.ofChange topSquaresWrong)

/- THE SECOND FORM. 'bulk': how many values and letters a reading holds, each counted each time it is reached (what is shared counts as often as it is met; a slice's spare places count too). A statement '..UptoSaid' is the law's where the arguments, and the package variables that the reading takes, are together of bulk at most 1048576: NARROWER than '..Said'. Prove '..Said' where nothing that the law and all that it calls make is longer than what came in: it says more and counts as full. Else prove '..UptoSaid'. A law counts once. -/
mutual
def uptoBulk {H : Type} : DataW H → Nat
  | .lit (.string bytes) => bytes.length + 1
  | .lit _ => 1
  | .nil => 1
  | .ptr d => uptoBulk d + 1
  | .slice elems spare => uptoBulkAll elems + uptoBulkAll spare + 1
  | .agg parts => uptoBulkAll parts + 1
  | .iface _ d => uptoBulk d + 1
  | .map entries => uptoBulkEntries entries + 1
  | .held _ => 1
def uptoBulkAll {H : Type} : List (DataW H) → Nat
  | [] => 0
  | d :: r => uptoBulk d + uptoBulkAll r
def uptoBulkEntries {H : Type} : List (Lit × DataW H) → Nat
  | [] => 0
  | x :: r => uptoBulkEntry x + uptoBulkEntries r
def uptoBulkEntry {H : Type} : Lit × DataW H → Nat
  | (.string bytes, d) => bytes.length + uptoBulk d + 1
  | (_, d) => uptoBulk d + 1
 end
def uptoSmall : (H : Type) → List (DataW H) → Bool := fun _ ds => decide (uptoBulkAll ds ≤ 1048576)
def OpenSpec.upto (s : _root_.Go.ChangeSpec) : _root_.Go.OpenSpec := { _root_.Go.OpenSpec.ofChange s with cond := some uptoSmall }

/-- 'olivettelaw02.PolySums', WHERE WHAT IT READS IS OF BULK AT MOST 1048576: true; the input reads as it did. -/
def polySumsUptoRow : OpenClaim := { program := "ytgnpohapmijfiaa", sum := "be990959a8f0da78dce5d1e26637b2d79ad21f0a6bc11fb69beae90de93f9ec9", func := "olivette/olivettelaw02.PolySums", spec := "polySums", unfollowed := true, recurses := true, apart := false, narrowed := true }
def PolySumsUptoSaid : Prop := polySumsUptoRow.holds Try.pinned (OpenSpec.upto polySumsSpec)

/-- 'olivettelaw02.PolyQuotients', WHERE WHAT IT READS IS OF BULK AT MOST 1048576: true; the input reads as it did. -/
def polyQuotientsUptoRow : OpenClaim := { program := "ytgnpohapmijfiaa", sum := "be990959a8f0da78dce5d1e26637b2d79ad21f0a6bc11fb69beae90de93f9ec9", func := "olivette/olivettelaw02.PolyQuotients", spec := "polyQuotients", unfollowed := true, recurses := true, apart := false, narrowed := true }
def PolyQuotientsUptoSaid : Prop := polyQuotientsUptoRow.holds Try.pinned (OpenSpec.upto polyQuotientsSpec)

/-- 'olivettelaw02.PolyGcds', WHERE WHAT IT READS IS OF BULK AT MOST 1048576: true; the input reads as it did. -/
def polyGcdsUptoRow : OpenClaim := { program := "ytgnpohapmijfiaa", sum := "be990959a8f0da78dce5d1e26637b2d79ad21f0a6bc11fb69beae90de93f9ec9", func := "olivette/olivettelaw02.PolyGcds", spec := "polyGcds", unfollowed := true, recurses := true, apart := false, narrowed := true }
def PolyGcdsUptoSaid : Prop := polyGcdsUptoRow.holds Try.pinned (OpenSpec.upto polyGcdsSpec)

/-- 'olivettelaw02.PolyValues', WHERE WHAT IT READS IS OF BULK AT MOST 1048576: true; the input reads as it did. -/
def polyValuesUptoRow : OpenClaim := { program := "ytgnpohapmijfiaa", sum := "be990959a8f0da78dce5d1e26637b2d79ad21f0a6bc11fb69beae90de93f9ec9", func := "olivette/olivettelaw02.PolyValues", spec := "polyValues", unfollowed := true, recurses := true, apart := false, narrowed := true }
def PolyValuesUptoSaid : Prop := polyValuesUptoRow.holds Try.pinned (OpenSpec.upto polyValuesSpec)

/-- 'olivettelaw02.PolyPoints', WHERE WHAT IT READS IS OF BULK AT MOST 1048576: true; the input reads as it did. -/
def polyPointsUptoRow : OpenClaim := { program := "ytgnpohapmijfiaa", sum := "be990959a8f0da78dce5d1e26637b2d79ad21f0a6bc11fb69beae90de93f9ec9", func := "olivette/olivettelaw02.PolyPoints", spec := "polyPoints", unfollowed := true, recurses := true, apart := false, narrowed := true }
def PolyPointsUptoSaid : Prop := polyPointsUptoRow.holds Try.pinned (OpenSpec.upto polyPointsSpec)

/-- 'olivettelaw02.PolyCounts', WHERE WHAT IT READS IS OF BULK AT MOST 1048576: true; the input reads as it did. -/
def polyCountsUptoRow : OpenClaim := { program := "ytgnpohapmijfiaa", sum := "be990959a8f0da78dce5d1e26637b2d79ad21f0a6bc11fb69beae90de93f9ec9", func := "olivette/olivettelaw02.PolyCounts", spec := "polyCounts", unfollowed := true, recurses := true, apart := false, narrowed := true }
def PolyCountsUptoSaid : Prop := polyCountsUptoRow.holds Try.pinned (OpenSpec.upto polyCountsSpec)

/-- 'olivettelaw02.PolyFirst', WHERE WHAT IT READS IS OF BULK AT MOST 1048576: true; the input reads as it did. -/
def polyFirstUptoRow : OpenClaim := { program := "ytgnpohapmijfiaa", sum := "be990959a8f0da78dce5d1e26637b2d79ad21f0a6bc11fb69beae90de93f9ec9", func := "olivette/olivettelaw02.PolyFirst", spec := "polyFirst", unfollowed := true, recurses := true, apart := false, narrowed := true }
def PolyFirstUptoSaid : Prop := polyFirstUptoRow.holds Try.pinned (OpenSpec.upto polyFirstSpec)

/-- 'olivettelaw02.PolyRing', WHERE WHAT IT READS IS OF BULK AT MOST 1048576: true; the input reads as it did. -/
def polyRingUptoRow : OpenClaim := { program := "ytgnpohapmijfiaa", sum := "be990959a8f0da78dce5d1e26637b2d79ad21f0a6bc11fb69beae90de93f9ec9", func := "olivette/olivettelaw02.PolyRing", spec := "polyRing", unfollowed := true, recurses := true, apart := false, narrowed := true }
def PolyRingUptoSaid : Prop := polyRingUptoRow.holds Try.pinned (OpenSpec.upto polyRingSpec)

/-- 'olivettelaw02.PolyDivides', WHERE WHAT IT READS IS OF BULK AT MOST 1048576: true; the input reads as it did. -/
def polyDividesUptoRow : OpenClaim := { program := "ytgnpohapmijfiaa", sum := "be990959a8f0da78dce5d1e26637b2d79ad21f0a6bc11fb69beae90de93f9ec9", func := "olivette/olivettelaw02.PolyDivides", spec := "polyDivides", unfollowed := true, recurses := true, apart := false, narrowed := true }
def PolyDividesUptoSaid : Prop := polyDividesUptoRow.holds Try.pinned (OpenSpec.upto polyDividesSpec)

/-- 'olivettelaw02.PolyBezout', WHERE WHAT IT READS IS OF BULK AT MOST 1048576: true; the input reads as it did. -/
def polyBezoutUptoRow : OpenClaim := { program := "ytgnpohapmijfiaa", sum := "be990959a8f0da78dce5d1e26637b2d79ad21f0a6bc11fb69beae90de93f9ec9", func := "olivette/olivettelaw02.PolyBezout", spec := "polyBezout", unfollowed := true, recurses := true, apart := false, narrowed := true }
def PolyBezoutUptoSaid : Prop := polyBezoutUptoRow.holds Try.pinned (OpenSpec.upto polyBezoutSpec)

/-- 'olivettelaw02.PolyProducts', WHERE WHAT IT READS IS OF BULK AT MOST 1048576: true; the input reads as it did. -/
def polyProductsUptoRow : OpenClaim := { program := "ytgnpohapmijfiaa", sum := "be990959a8f0da78dce5d1e26637b2d79ad21f0a6bc11fb69beae90de93f9ec9", func := "olivette/olivettelaw02.PolyProducts", spec := "polyProducts", unfollowed := true, recurses := true, apart := false, narrowed := true }
def PolyProductsUptoSaid : Prop := polyProductsUptoRow.holds Try.pinned (OpenSpec.upto polyProductsSpec)

/-- 'olivettelaw02.PolyRoots', WHERE WHAT IT READS IS OF BULK AT MOST 1048576: true; the input reads as it did. -/
def polyRootsUptoRow : OpenClaim := { program := "ytgnpohapmijfiaa", sum := "be990959a8f0da78dce5d1e26637b2d79ad21f0a6bc11fb69beae90de93f9ec9", func := "olivette/olivettelaw02.PolyRoots", spec := "polyRoots", unfollowed := true, recurses := true, apart := false, narrowed := true }
def PolyRootsUptoSaid : Prop := polyRootsUptoRow.holds Try.pinned (OpenSpec.upto polyRootsSpec)

/-- 'olivettelaw02.PolyAgain', WHERE WHAT IT READS IS OF BULK AT MOST 1048576: true; the input reads as it did. -/
def polyAgainUptoRow : OpenClaim := { program := "ytgnpohapmijfiaa", sum := "be990959a8f0da78dce5d1e26637b2d79ad21f0a6bc11fb69beae90de93f9ec9", func := "olivette/olivettelaw02.PolyAgain", spec := "polyAgain", unfollowed := true, recurses := true, apart := false, narrowed := true }
def PolyAgainUptoSaid : Prop := polyAgainUptoRow.holds Try.pinned (OpenSpec.upto polyAgainSpec)

/-- 'olivettelaw02.PolyAll', WHERE WHAT IT READS IS OF BULK AT MOST 1048576: true; the input reads as it did. -/
def polyAllUptoRow : OpenClaim := { program := "ytgnpohapmijfiaa", sum := "be990959a8f0da78dce5d1e26637b2d79ad21f0a6bc11fb69beae90de93f9ec9", func := "olivette/olivettelaw02.PolyAll", spec := "polyAll", unfollowed := true, recurses := true, apart := false, narrowed := true }
def PolyAllUptoSaid : Prop := polyAllUptoRow.holds Try.pinned (OpenSpec.upto polyAllSpec)

/-- 'olivettelaw02.PolyOwn', WHERE WHAT IT READS IS OF BULK AT MOST 1048576: true; the input reads as it did. -/
def polyOwnUptoRow : OpenClaim := { program := "ytgnpohapmijfiaa", sum := "be990959a8f0da78dce5d1e26637b2d79ad21f0a6bc11fb69beae90de93f9ec9", func := "olivette/olivettelaw02.PolyOwn", spec := "polyOwn", unfollowed := true, recurses := true, apart := false, narrowed := true }
def PolyOwnUptoSaid : Prop := polyOwnUptoRow.holds Try.pinned (OpenSpec.upto polyOwnSpec)

/-- 'olivettetop.TopSquares', WHERE WHAT IT READS IS OF BULK AT MOST 1048576: true; the input reads as it did. -/
def topSquaresUptoRow : OpenClaim := { program := "ytgnpohapmijfiaa", sum := "be990959a8f0da78dce5d1e26637b2d79ad21f0a6bc11fb69beae90de93f9ec9", func := "olivette/olivettetop.TopSquares", spec := "topSquares", unfollowed := true, recurses := true, apart := false, narrowed := true }
def TopSquaresUptoSaid : Prop := topSquaresUptoRow.holds Try.pinned (OpenSpec.upto topSquaresSpec)

end Rows
end Go.Proofs.Ytgnpohapmijfiaa
