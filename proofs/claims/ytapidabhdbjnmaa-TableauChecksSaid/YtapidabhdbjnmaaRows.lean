/-
  No cell of these rows narrows 'for every input' (looked for: loops, veiled, ifaces, maps, wideKeys, modest, calm, conditions, laid).
  DERIVED. THE GIVEN ROWS OF THIS SEAT. 5 by the template 'for every input the law returns true; each argument reads behind the call as it read before'; 0 by the template 'total and deterministic' (their statements: YtapidabhdbjnmaaTotals.lean).
  GIVEN WITH THE SEED: the statements are not yours to turn. If you find one false, say at which input.
  Laid BY PROGRAM, IN A SANDBOX (cutbox-rows.mjs): the forced cells as the released guide's own fill.sh prints them over the translation 9391a75973e01fce… (all of the seat's roots in one cut). By AI agents, Wed Nov 11 2026. No macro, syntax, notation, axiom, sorry.
-/
import Derived.Test.YtapidabhdbjnmaaChecked
import GoSem.Claim
import GoSem.ClaimJoined
import GoSem.ClaimMapViews
import Derived.JoinedTies
import Derived.KernelRfl
namespace Go.Proofs.Ytapidabhdbjnmaa
/- THE CELL 'sum', in the pinned program and in every row, IS THE sha256 OF THE DUMP (.gsa) THAT YtapidabhdbjnmaaProg.lean LOADS. Nothing in Lean hashes anything: it is a label: what it is worth is what the hold of that sum in a sandbox is worth. -/
noncomputable def Try.pinned : Pinned := { name := "ytapidabhdbjnmaa", sum := "9391a75973e01fce4f202686bdc664ceb42597b3f2f0a945ecbf79d6cac92122", checked := Try.checked }
namespace Rows
def none {H : Type} : Left H := { results := [], args := [] }

/-- 'olivettelaw04.TableauInverse': WHATEVER THE INPUT: true; the input reads as it did. -/
def tableauInverseSpec : ChangeSpec := { name := "tableauInverse", fn := fun _ => fun
  | [d] => { results := [.lit (.bool true)], args := [d] }
  | _ => none }
def tableauInverseRow : OpenClaim := { program := "ytapidabhdbjnmaa", sum := "9391a75973e01fce4f202686bdc664ceb42597b3f2f0a945ecbf79d6cac92122", func := "olivette/olivettelaw04.TableauInverse", spec := "tableauInverse", unfollowed := true, recurses := true, plainKeys := false, apart := false }
def TableauInverseSaid : Prop := tableauInverseRow.holds Try.pinned (OpenSpec.ofChange tableauInverseSpec)

/-- ITS FALSE NEIGHBOUR: 'it returns false'. Refute it at one input. -/
def tableauInverseWrong : ChangeSpec := { name := "tableauInverse", fn := fun _ => fun
  | [d] => { results := [.lit (.bool false)], args := [d] }
  | _ => none }
def TableauInverseWrongFalsely : Prop := tableauInverseRow.holds Try.pinned (OpenSpec.ofChange tableauInverseWrong)

/-- 'olivettelaw04.TableauWords': WHATEVER THE INPUT: true; the input reads as it did. -/
def tableauWordsSpec : ChangeSpec := { name := "tableauWords", fn := fun _ => fun
  | [d1, d2] => { results := [.lit (.bool true)], args := [d1, d2] }
  | _ => none }
def tableauWordsRow : OpenClaim := { program := "ytapidabhdbjnmaa", sum := "9391a75973e01fce4f202686bdc664ceb42597b3f2f0a945ecbf79d6cac92122", func := "olivette/olivettelaw04.TableauWords", spec := "tableauWords", unfollowed := true, recurses := true, plainKeys := false, apart := false }
def TableauWordsSaid : Prop := tableauWordsRow.holds Try.pinned (OpenSpec.ofChange tableauWordsSpec)

/-- ITS FALSE NEIGHBOUR: 'it returns false'. Refute it at one input. -/
def tableauWordsWrong : ChangeSpec := { name := "tableauWords", fn := fun _ => fun
  | [d1, d2] => { results := [.lit (.bool false)], args := [d1, d2] }
  | _ => none }
def TableauWordsWrongFalsely : Prop := tableauWordsRow.holds Try.pinned (OpenSpec.ofChange tableauWordsWrong)

/-- 'olivettelaw04.TableauBack': WHATEVER THE INPUT: true; the input reads as it did. -/
def tableauBackSpec : ChangeSpec := { name := "tableauBack", fn := fun _ => fun
  | [d] => { results := [.lit (.bool true)], args := [d] }
  | _ => none }
def tableauBackRow : OpenClaim := { program := "ytapidabhdbjnmaa", sum := "9391a75973e01fce4f202686bdc664ceb42597b3f2f0a945ecbf79d6cac92122", func := "olivette/olivettelaw04.TableauBack", spec := "tableauBack", unfollowed := true, recurses := true, plainKeys := false, apart := false }
def TableauBackSaid : Prop := tableauBackRow.holds Try.pinned (OpenSpec.ofChange tableauBackSpec)

/-- ITS FALSE NEIGHBOUR: 'it returns false'. Refute it at one input. -/
def tableauBackWrong : ChangeSpec := { name := "tableauBack", fn := fun _ => fun
  | [d] => { results := [.lit (.bool false)], args := [d] }
  | _ => none }
def TableauBackWrongFalsely : Prop := tableauBackRow.holds Try.pinned (OpenSpec.ofChange tableauBackWrong)

/-- 'olivettelaw04.TableauTwice': WHATEVER THE INPUT: true; the input reads as it did. -/
def tableauTwiceSpec : ChangeSpec := { name := "tableauTwice", fn := fun _ => fun
  | [d] => { results := [.lit (.bool true)], args := [d] }
  | _ => none }
def tableauTwiceRow : OpenClaim := { program := "ytapidabhdbjnmaa", sum := "9391a75973e01fce4f202686bdc664ceb42597b3f2f0a945ecbf79d6cac92122", func := "olivette/olivettelaw04.TableauTwice", spec := "tableauTwice", unfollowed := true, recurses := true, plainKeys := false, apart := false }
def TableauTwiceSaid : Prop := tableauTwiceRow.holds Try.pinned (OpenSpec.ofChange tableauTwiceSpec)

/-- ITS FALSE NEIGHBOUR: 'it returns false'. Refute it at one input. -/
def tableauTwiceWrong : ChangeSpec := { name := "tableauTwice", fn := fun _ => fun
  | [d] => { results := [.lit (.bool false)], args := [d] }
  | _ => none }
def TableauTwiceWrongFalsely : Prop := tableauTwiceRow.holds Try.pinned (OpenSpec.ofChange tableauTwiceWrong)

/-- 'olivettelaw04.TableauChecks': WHATEVER THE INPUT: true; the input reads as it did. -/
def tableauChecksSpec : ChangeSpec := { name := "tableauChecks", fn := fun _ => fun
  | [d1, d2, d3] => { results := [.lit (.bool true)], args := [d1, d2, d3] }
  | _ => none }
def tableauChecksRow : OpenClaim := { program := "ytapidabhdbjnmaa", sum := "9391a75973e01fce4f202686bdc664ceb42597b3f2f0a945ecbf79d6cac92122", func := "olivette/olivettelaw04.TableauChecks", spec := "tableauChecks", unfollowed := true, recurses := true, plainKeys := false, apart := false }
def TableauChecksSaid : Prop := tableauChecksRow.holds Try.pinned (OpenSpec.ofChange tableauChecksSpec)

/-- ITS FALSE NEIGHBOUR: 'it returns false'. Refute it at one input. -/
def tableauChecksWrong : ChangeSpec := { name := "tableauChecks", fn := fun _ => fun
  | [d1, d2, d3] => { results := [.lit (.bool false)], args := [d1, d2, d3] }
  | _ => none }
def TableauChecksWrongFalsely : Prop := tableauChecksRow.holds Try.pinned (OpenSpec.ofChange tableauChecksWrong)

/- THE SECOND FORM. 'bulk': how many values and letters a reading holds, each counted each time it is reached (what is shared counts as often as it is met; a slice's spare places count too). A statement '..UptoSaid' is the law's where the arguments, and the package variables that the reading takes, are together of bulk at most 1048576: NARROWER than '..Said'. Prove '..Said' where nothing that the law and all that it calls make is longer than what came in: it says more and counts as full. Else prove '..UptoSaid'. A law counts once. -/
mutual
def uptoBulk {H : Type} : DataW H → Nat
  | .lit (.string bytes) => bytes.length + 1
  | .lit _ => 1
  | .nil => 1
  | .ptr d => uptoBulk d + 1
  | .slice elems spare => uptoBulkAll elems + uptoBulkAll spare + 1
  | .agg parts => uptoBulkAll parts + 1
  | .iface _ d => uptoBulk d + 1
  | .map entries => uptoBulkEntries entries + 1
  | .held _ => 1
def uptoBulkAll {H : Type} : List (DataW H) → Nat
  | [] => 0
  | d :: r => uptoBulk d + uptoBulkAll r
def uptoBulkEntries {H : Type} : List (Lit × DataW H) → Nat
  | [] => 0
  | x :: r => uptoBulkEntry x + uptoBulkEntries r
def uptoBulkEntry {H : Type} : Lit × DataW H → Nat
  | (.string bytes, d) => bytes.length + uptoBulk d + 1
  | (_, d) => uptoBulk d + 1
 end
def uptoSmall : (H : Type) → List (DataW H) → Bool := fun _ ds => decide (uptoBulkAll ds ≤ 1048576)
def OpenSpec.upto (s : _root_.Go.ChangeSpec) : _root_.Go.OpenSpec := { _root_.Go.OpenSpec.ofChange s with cond := some uptoSmall }

/-- 'olivettelaw04.TableauInverse', WHERE WHAT IT READS IS OF BULK AT MOST 1048576: true; the input reads as it did. -/
def tableauInverseUptoRow : OpenClaim := { program := "ytapidabhdbjnmaa", sum := "9391a75973e01fce4f202686bdc664ceb42597b3f2f0a945ecbf79d6cac92122", func := "olivette/olivettelaw04.TableauInverse", spec := "tableauInverse", unfollowed := true, recurses := true, plainKeys := false, apart := false, narrowed := true }
def TableauInverseUptoSaid : Prop := tableauInverseUptoRow.holds Try.pinned (OpenSpec.upto tableauInverseSpec)

/-- 'olivettelaw04.TableauWords', WHERE WHAT IT READS IS OF BULK AT MOST 1048576: true; the input reads as it did. -/
def tableauWordsUptoRow : OpenClaim := { program := "ytapidabhdbjnmaa", sum := "9391a75973e01fce4f202686bdc664ceb42597b3f2f0a945ecbf79d6cac92122", func := "olivette/olivettelaw04.TableauWords", spec := "tableauWords", unfollowed := true, recurses := true, plainKeys := false, apart := false, narrowed := true }
def TableauWordsUptoSaid : Prop := tableauWordsUptoRow.holds Try.pinned (OpenSpec.upto tableauWordsSpec)

/-- 'olivettelaw04.TableauBack', WHERE WHAT IT READS IS OF BULK AT MOST 1048576: true; the input reads as it did. -/
def tableauBackUptoRow : OpenClaim := { program := "ytapidabhdbjnmaa", sum := "9391a75973e01fce4f202686bdc664ceb42597b3f2f0a945ecbf79d6cac92122", func := "olivette/olivettelaw04.TableauBack", spec := "tableauBack", unfollowed := true, recurses := true, plainKeys := false, apart := false, narrowed := true }
def TableauBackUptoSaid : Prop := tableauBackUptoRow.holds Try.pinned (OpenSpec.upto tableauBackSpec)

/-- 'olivettelaw04.TableauTwice', WHERE WHAT IT READS IS OF BULK AT MOST 1048576: true; the input reads as it did. -/
def tableauTwiceUptoRow : OpenClaim := { program := "ytapidabhdbjnmaa", sum := "9391a75973e01fce4f202686bdc664ceb42597b3f2f0a945ecbf79d6cac92122", func := "olivette/olivettelaw04.TableauTwice", spec := "tableauTwice", unfollowed := true, recurses := true, plainKeys := false, apart := false, narrowed := true }
def TableauTwiceUptoSaid : Prop := tableauTwiceUptoRow.holds Try.pinned (OpenSpec.upto tableauTwiceSpec)

/-- 'olivettelaw04.TableauChecks', WHERE WHAT IT READS IS OF BULK AT MOST 1048576: true; the input reads as it did. -/
def tableauChecksUptoRow : OpenClaim := { program := "ytapidabhdbjnmaa", sum := "9391a75973e01fce4f202686bdc664ceb42597b3f2f0a945ecbf79d6cac92122", func := "olivette/olivettelaw04.TableauChecks", spec := "tableauChecks", unfollowed := true, recurses := true, plainKeys := false, apart := false, narrowed := true }
def TableauChecksUptoSaid : Prop := tableauChecksUptoRow.holds Try.pinned (OpenSpec.upto tableauChecksSpec)

end Rows
end Go.Proofs.Ytapidabhdbjnmaa
