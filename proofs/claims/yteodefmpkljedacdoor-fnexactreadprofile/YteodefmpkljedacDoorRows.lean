/-
  NARROWER THAN 'FOR EVERY INPUT', by the rows' own cells (each row's printed sentence says how): FnExactReadProfile: laid.
  DERIVED. THE GIVEN ROWS OF THIS SEAT. 1 by the template 'for every input the law returns true; each argument reads behind the call as it read before'; 0 by the template 'total and deterministic' (their statements: YteodefmpkljedacDoorTotals.lean).
  GIVEN WITH THE SEED: the statements are not yours to turn. If you find one false, say at which input.
  Laid BY PROGRAM, IN A SANDBOX (cutbox-rows.mjs): the forced cells as the released guide's own fill.sh prints them over the translation e69f0f090739c1f3… (all of the seat's roots in one cut). By AI agents, Wed Nov 11 2026. No macro, syntax, notation, axiom, sorry.
-/
import Derived.Test.YteodefmpkljedacDoorChecked
import GoSem.Claim
import GoSem.ClaimJoined
import GoSem.ClaimMapViews
import Derived.JoinedTies
import Derived.KernelRfl
namespace Go.Proofs.YteodefmpkljedacDoor
/- THE CELL 'sum', in the pinned program and in every row, IS THE sha256 OF THE DUMP (.gsa) THAT YteodefmpkljedacDoorProg.lean LOADS. Nothing in Lean hashes anything: it is a label: what it is worth is what the hold of that sum in a sandbox is worth. -/
noncomputable def Tryd.pinned : Pinned := { name := "yteodefmpkljedacdoor", sum := "e69f0f090739c1f3c6399b7aa38895b134ceb77769d1b9654d838c16cb094454", checked := Tryd.checked }
namespace Rows
def none {H : Type} : Left H := { results := [], args := [] }

/- WHAT THE LISTED PACKAGE-LEVEL VARIABLES READ AS WHEN THE CALL BEGINS. Each datum BY PROGRAM (the guide's laid-datum.mjs) off the statement by which the dump's own 'gosem.cut.vars' lays the variable. In a bare row this is a premise. The card (YteodefmpkljedacDoorCards.lean) ties it to the program's text. -/
def laid_errors_errorType {H : Type} : DataW H := .iface "internal/reflectlite.rtype" (.agg [.ptr (.lit (.string [101, 114, 114, 111, 114]))])
def laid_loop_example_sprag_impl_words {H : Type} : DataW H := .agg [.lit (.string [116, 114, 97, 99, 107, 32]), .lit (.string [32, 98, 114, 97, 107, 101, 32]), .lit (.string [108, 105, 109, 105, 116, 32]), .lit (.string [32]), .lit (.string [116, 114, 97, 105, 110, 32]), .lit (.string [32, 101, 110, 100, 32]), .lit (.string [32, 100, 101, 108, 97, 121, 32]), .lit (.string [10])]

/-- 'laws.FnExactReadProfile': WHATEVER THE INPUT: true; the input reads as it did. -/
def fnExactReadProfileSpec : ChangeSpec := { name := "fnExactReadProfile", vars := ["loop.example/sprag/impl.words"], fn := fun _ => fun
  | [d, g1] => { results := [.lit (.bool true)], args := [d], vars := [g1] }
  | _ => none }
def fnExactReadProfileRow : OpenClaim := { program := "yteodefmpkljedacdoor", sum := "e69f0f090739c1f3c6399b7aa38895b134ceb77769d1b9654d838c16cb094454", func := "loop.example/sprag/laws.FnExactReadProfile", spec := "fnExactReadProfile", inPlace := ["internal/reflectlite.ValueOf", "(internal/reflectlite.Value).Type", "(internal/reflectlite.Value).IsNil", "internal/reflectlite.TypeOf", "(internal/reflectlite.Value).Elem", "(internal/reflectlite.Value).Set"], unfollowed := true, recurses := true, named := ["loop.example/sprag/impl.words", "errors.errorType"], apart := false, laid := [("errors.errorType", laid_errors_errorType), ("loop.example/sprag/impl.words", laid_loop_example_sprag_impl_words)] }
def FnExactReadProfileSaid : Prop := fnExactReadProfileRow.holds Tryd.pinned (OpenSpec.ofChange fnExactReadProfileSpec)

/-- ITS FALSE NEIGHBOUR: 'it returns false'. Refute it at one input. -/
def fnExactReadProfileWrong : ChangeSpec := { name := "fnExactReadProfile", vars := ["loop.example/sprag/impl.words"], fn := fun _ => fun
  | [d, g1] => { results := [.lit (.bool false)], args := [d], vars := [g1] }
  | _ => none }
def FnExactReadProfileWrongFalsely : Prop := fnExactReadProfileRow.holds Tryd.pinned (OpenSpec.ofChange fnExactReadProfileWrong)

/- THE SECOND FORM. 'bulk': how many values and letters a reading holds, each counted each time it is reached (what is shared counts as often as it is met; a slice's spare places count too). A statement '..UptoSaid' is the law's where the arguments, and the package variables that the reading takes, are together of bulk at most 1048576: NARROWER than '..Said'. Prove '..Said' where nothing that the law and all that it calls make is longer than what came in: it says more and counts as full. Else prove '..UptoSaid'. A law counts once. -/
mutual
def uptoBulk {H : Type} : DataW H → Nat
  | .lit (.string bytes) => bytes.length + 1
  | .lit _ => 1
  | .nil => 1
  | .ptr d => uptoBulk d + 1
  | .slice elems spare => uptoBulkAll elems + uptoBulkAll spare + 1
  | .agg parts => uptoBulkAll parts + 1
  | .iface _ d => uptoBulk d + 1
  | .map entries => uptoBulkEntries entries + 1
  | .held _ => 1
def uptoBulkAll {H : Type} : List (DataW H) → Nat
  | [] => 0
  | d :: r => uptoBulk d + uptoBulkAll r
def uptoBulkEntries {H : Type} : List (Lit × DataW H) → Nat
  | [] => 0
  | x :: r => uptoBulkEntry x + uptoBulkEntries r
def uptoBulkEntry {H : Type} : Lit × DataW H → Nat
  | (.string bytes, d) => bytes.length + uptoBulk d + 1
  | (_, d) => uptoBulk d + 1
 end
def uptoSmall : (H : Type) → List (DataW H) → Bool := fun _ ds => decide (uptoBulkAll ds ≤ 1048576)
def OpenSpec.upto (s : _root_.Go.ChangeSpec) : _root_.Go.OpenSpec := { _root_.Go.OpenSpec.ofChange s with cond := some uptoSmall }

/-- 'laws.FnExactReadProfile', WHERE WHAT IT READS IS OF BULK AT MOST 1048576: true; the input reads as it did. -/
def fnExactReadProfileUptoRow : OpenClaim := { program := "yteodefmpkljedacdoor", sum := "e69f0f090739c1f3c6399b7aa38895b134ceb77769d1b9654d838c16cb094454", func := "loop.example/sprag/laws.FnExactReadProfile", spec := "fnExactReadProfile", inPlace := ["internal/reflectlite.ValueOf", "(internal/reflectlite.Value).Type", "(internal/reflectlite.Value).IsNil", "internal/reflectlite.TypeOf", "(internal/reflectlite.Value).Elem", "(internal/reflectlite.Value).Set"], unfollowed := true, recurses := true, named := ["loop.example/sprag/impl.words", "errors.errorType"], apart := false, laid := [("errors.errorType", laid_errors_errorType), ("loop.example/sprag/impl.words", laid_loop_example_sprag_impl_words)], narrowed := true }
def FnExactReadProfileUptoSaid : Prop := fnExactReadProfileUptoRow.holds Tryd.pinned (OpenSpec.upto fnExactReadProfileSpec)

end Rows
end Go.Proofs.YteodefmpkljedacDoor
