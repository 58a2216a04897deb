/-
  No cell of these rows narrows 'for every input' (looked for: loops, veiled, ifaces, maps, wideKeys, modest, calm, conditions, laid).
  DERIVED. THE GIVEN ROWS OF THIS SEAT. 11 by the template 'for every input the law returns true; each argument reads behind the call as it read before'; 0 by the template 'total and deterministic' (their statements: YteodefmpkljedaaTotals.lean).
  GIVEN WITH THE SEED: the statements are not yours to turn. If you find one false, say at which input.
  Laid BY PROGRAM, IN A SANDBOX (cutbox-rows.mjs): the forced cells as the released guide's own fill.sh prints them over the translation a20f1bd06efa9b0f… (all of the seat's roots in one cut). By AI agents, Wed Nov 11 2026. No macro, syntax, notation, axiom, sorry.
-/
import Derived.Test.YteodefmpkljedaaChecked
import GoSem.Claim
import GoSem.ClaimJoined
import GoSem.ClaimMapViews
import Derived.JoinedTies
import Derived.KernelRfl
namespace Go.Proofs.Yteodefmpkljedaa
/- THE CELL 'sum', in the pinned program and in every row, IS THE sha256 OF THE DUMP (.gsa) THAT YteodefmpkljedaaProg.lean LOADS. Nothing in Lean hashes anything: it is a label: what it is worth is what the hold of that sum in a sandbox is worth. -/
noncomputable def Try.pinned : Pinned := { name := "yteodefmpkljedaa", sum := "a20f1bd06efa9b0f7f20af31a25af50f479a85b826704723453a9a068a9140cb", checked := Try.checked }
namespace Rows
def none {H : Type} : Left H := { results := [], args := [] }

/-- 'laws.FnTop': WHATEVER THE INPUT: true; the input reads as it did. -/
def fnTopSpec : ChangeSpec := { name := "fnTop", fn := fun _ => fun
  | [d] => { results := [.lit (.bool true)], args := [d] }
  | _ => none }
def fnTopRow : OpenClaim := { program := "yteodefmpkljedaa", sum := "a20f1bd06efa9b0f7f20af31a25af50f479a85b826704723453a9a068a9140cb", func := "loop.example/sprag/laws.FnTop", spec := "fnTop", unfollowed := true, recurses := true, apart := false }
def FnTopSaid : Prop := fnTopRow.holds Try.pinned (OpenSpec.ofChange fnTopSpec)

/-- ITS FALSE NEIGHBOUR: 'it returns false'. Refute it at one input. -/
def fnTopWrong : ChangeSpec := { name := "fnTop", fn := fun _ => fun
  | [d] => { results := [.lit (.bool false)], args := [d] }
  | _ => none }
def FnTopWrongFalsely : Prop := fnTopRow.holds Try.pinned (OpenSpec.ofChange fnTopWrong)

/-- 'laws.FnMost': WHATEVER THE INPUT: true; the input reads as it did. -/
def fnMostSpec : ChangeSpec := { name := "fnMost", fn := fun _ => fun
  | [d] => { results := [.lit (.bool true)], args := [d] }
  | _ => none }
def fnMostRow : OpenClaim := { program := "yteodefmpkljedaa", sum := "a20f1bd06efa9b0f7f20af31a25af50f479a85b826704723453a9a068a9140cb", func := "loop.example/sprag/laws.FnMost", spec := "fnMost", unfollowed := true, recurses := true, apart := false }
def FnMostSaid : Prop := fnMostRow.holds Try.pinned (OpenSpec.ofChange fnMostSpec)

/-- ITS FALSE NEIGHBOUR: 'it returns false'. Refute it at one input. -/
def fnMostWrong : ChangeSpec := { name := "fnMost", fn := fun _ => fun
  | [d] => { results := [.lit (.bool false)], args := [d] }
  | _ => none }
def FnMostWrongFalsely : Prop := fnMostRow.holds Try.pinned (OpenSpec.ofChange fnMostWrong)

/-- 'laws.FnSums': WHATEVER THE INPUT: true; the input reads as it did. -/
def fnSumsSpec : ChangeSpec := { name := "fnSums", fn := fun _ => fun
  | [d] => { results := [.lit (.bool true)], args := [d] }
  | _ => none }
def fnSumsRow : OpenClaim := { program := "yteodefmpkljedaa", sum := "a20f1bd06efa9b0f7f20af31a25af50f479a85b826704723453a9a068a9140cb", func := "loop.example/sprag/laws.FnSums", spec := "fnSums", apart := false }
def FnSumsSaid : Prop := fnSumsRow.holds Try.pinned (OpenSpec.ofChange fnSumsSpec)

/-- ITS FALSE NEIGHBOUR: 'it returns false'. Refute it at one input. -/
def fnSumsWrong : ChangeSpec := { name := "fnSums", fn := fun _ => fun
  | [d] => { results := [.lit (.bool false)], args := [d] }
  | _ => none }
def FnSumsWrongFalsely : Prop := fnSumsRow.holds Try.pinned (OpenSpec.ofChange fnSumsWrong)

/-- 'laws.FnSafe': WHATEVER THE INPUT: true; the input reads as it did. -/
def fnSafeSpec : ChangeSpec := { name := "fnSafe", fn := fun _ => fun
  | [d] => { results := [.lit (.bool true)], args := [d] }
  | _ => none }
def fnSafeRow : OpenClaim := { program := "yteodefmpkljedaa", sum := "a20f1bd06efa9b0f7f20af31a25af50f479a85b826704723453a9a068a9140cb", func := "loop.example/sprag/laws.FnSafe", spec := "fnSafe", unfollowed := true, recurses := true, apart := false }
def FnSafeSaid : Prop := fnSafeRow.holds Try.pinned (OpenSpec.ofChange fnSafeSpec)

/-- ITS FALSE NEIGHBOUR: 'it returns false'. Refute it at one input. -/
def fnSafeWrong : ChangeSpec := { name := "fnSafe", fn := fun _ => fun
  | [d] => { results := [.lit (.bool false)], args := [d] }
  | _ => none }
def FnSafeWrongFalsely : Prop := fnSafeRow.holds Try.pinned (OpenSpec.ofChange fnSafeWrong)

/-- 'laws.FnTight': WHATEVER THE INPUT: true; the input reads as it did. -/
def fnTightSpec : ChangeSpec := { name := "fnTight", fn := fun _ => fun
  | [d] => { results := [.lit (.bool true)], args := [d] }
  | _ => none }
def fnTightRow : OpenClaim := { program := "yteodefmpkljedaa", sum := "a20f1bd06efa9b0f7f20af31a25af50f479a85b826704723453a9a068a9140cb", func := "loop.example/sprag/laws.FnTight", spec := "fnTight", unfollowed := true, recurses := true, apart := false }
def FnTightSaid : Prop := fnTightRow.holds Try.pinned (OpenSpec.ofChange fnTightSpec)

/-- ITS FALSE NEIGHBOUR: 'it returns false'. Refute it at one input. -/
def fnTightWrong : ChangeSpec := { name := "fnTight", fn := fun _ => fun
  | [d] => { results := [.lit (.bool false)], args := [d] }
  | _ => none }
def FnTightWrongFalsely : Prop := fnTightRow.holds Try.pinned (OpenSpec.ofChange fnTightWrong)

/-- 'laws.FnRuns': WHATEVER THE INPUT: true; the input reads as it did. -/
def fnRunsSpec : ChangeSpec := { name := "fnRuns", fn := fun _ => fun
  | [d1, d2] => { results := [.lit (.bool true)], args := [d1, d2] }
  | _ => none }
def fnRunsRow : OpenClaim := { program := "yteodefmpkljedaa", sum := "a20f1bd06efa9b0f7f20af31a25af50f479a85b826704723453a9a068a9140cb", func := "loop.example/sprag/laws.FnRuns", spec := "fnRuns", unfollowed := true, recurses := true, apart := false }
def FnRunsSaid : Prop := fnRunsRow.holds Try.pinned (OpenSpec.ofChange fnRunsSpec)

/-- ITS FALSE NEIGHBOUR: 'it returns false'. Refute it at one input. -/
def fnRunsWrong : ChangeSpec := { name := "fnRuns", fn := fun _ => fun
  | [d1, d2] => { results := [.lit (.bool false)], args := [d1, d2] }
  | _ => none }
def FnRunsWrongFalsely : Prop := fnRunsRow.holds Try.pinned (OpenSpec.ofChange fnRunsWrong)

/-- 'laws.FnEven': WHATEVER THE INPUT: true; the input reads as it did. -/
def fnEvenSpec : ChangeSpec := { name := "fnEven", fn := fun _ => fun
  | [d] => { results := [.lit (.bool true)], args := [d] }
  | _ => none }
def fnEvenRow : OpenClaim := { program := "yteodefmpkljedaa", sum := "a20f1bd06efa9b0f7f20af31a25af50f479a85b826704723453a9a068a9140cb", func := "loop.example/sprag/laws.FnEven", spec := "fnEven", unfollowed := true, recurses := true, apart := false }
def FnEvenSaid : Prop := fnEvenRow.holds Try.pinned (OpenSpec.ofChange fnEvenSpec)

/-- ITS FALSE NEIGHBOUR: 'it returns false'. Refute it at one input. -/
def fnEvenWrong : ChangeSpec := { name := "fnEven", fn := fun _ => fun
  | [d] => { results := [.lit (.bool false)], args := [d] }
  | _ => none }
def FnEvenWrongFalsely : Prop := fnEvenRow.holds Try.pinned (OpenSpec.ofChange fnEvenWrong)

/-- 'laws.FnCurve': WHATEVER THE INPUT: true; the input reads as it did. -/
def fnCurveSpec : ChangeSpec := { name := "fnCurve", fn := fun _ => fun
  | [d] => { results := [.lit (.bool true)], args := [d] }
  | _ => none }
def fnCurveRow : OpenClaim := { program := "yteodefmpkljedaa", sum := "a20f1bd06efa9b0f7f20af31a25af50f479a85b826704723453a9a068a9140cb", func := "loop.example/sprag/laws.FnCurve", spec := "fnCurve", unfollowed := true, recurses := true, apart := false }
def FnCurveSaid : Prop := fnCurveRow.holds Try.pinned (OpenSpec.ofChange fnCurveSpec)

/-- ITS FALSE NEIGHBOUR: 'it returns false'. Refute it at one input. -/
def fnCurveWrong : ChangeSpec := { name := "fnCurve", fn := fun _ => fun
  | [d] => { results := [.lit (.bool false)], args := [d] }
  | _ => none }
def FnCurveWrongFalsely : Prop := fnCurveRow.holds Try.pinned (OpenSpec.ofChange fnCurveWrong)

/-- 'laws.FnExactSlowLen': WHATEVER THE INPUT: true; the input reads as it did. -/
def fnExactSlowLenSpec : ChangeSpec := { name := "fnExactSlowLen", fn := fun _ => fun
  | [d1, d2, d3] => { results := [.lit (.bool true)], args := [d1, d2, d3] }
  | _ => none }
def fnExactSlowLenRow : OpenClaim := { program := "yteodefmpkljedaa", sum := "a20f1bd06efa9b0f7f20af31a25af50f479a85b826704723453a9a068a9140cb", func := "loop.example/sprag/laws.FnExactSlowLen", spec := "fnExactSlowLen", apart := false }
def FnExactSlowLenSaid : Prop := fnExactSlowLenRow.holds Try.pinned (OpenSpec.ofChange fnExactSlowLenSpec)

/-- ITS FALSE NEIGHBOUR: 'it returns false'. Refute it at one input. -/
def fnExactSlowLenWrong : ChangeSpec := { name := "fnExactSlowLen", fn := fun _ => fun
  | [d1, d2, d3] => { results := [.lit (.bool false)], args := [d1, d2, d3] }
  | _ => none }
def FnExactSlowLenWrongFalsely : Prop := fnExactSlowLenRow.holds Try.pinned (OpenSpec.ofChange fnExactSlowLenWrong)

/-- 'laws.FnExactSlowTicks': WHATEVER THE INPUT: true; the input reads as it did. -/
def fnExactSlowTicksSpec : ChangeSpec := { name := "fnExactSlowTicks", fn := fun _ => fun
  | [d1, d2, d3] => { results := [.lit (.bool true)], args := [d1, d2, d3] }
  | _ => none }
def fnExactSlowTicksRow : OpenClaim := { program := "yteodefmpkljedaa", sum := "a20f1bd06efa9b0f7f20af31a25af50f479a85b826704723453a9a068a9140cb", func := "loop.example/sprag/laws.FnExactSlowTicks", spec := "fnExactSlowTicks", apart := false }
def FnExactSlowTicksSaid : Prop := fnExactSlowTicksRow.holds Try.pinned (OpenSpec.ofChange fnExactSlowTicksSpec)

/-- ITS FALSE NEIGHBOUR: 'it returns false'. Refute it at one input. -/
def fnExactSlowTicksWrong : ChangeSpec := { name := "fnExactSlowTicks", fn := fun _ => fun
  | [d1, d2, d3] => { results := [.lit (.bool false)], args := [d1, d2, d3] }
  | _ => none }
def FnExactSlowTicksWrongFalsely : Prop := fnExactSlowTicksRow.holds Try.pinned (OpenSpec.ofChange fnExactSlowTicksWrong)

/-- 'laws.FnExactMostSpeed': WHATEVER THE INPUT: true; the input reads as it did. -/
def fnExactMostSpeedSpec : ChangeSpec := { name := "fnExactMostSpeed", fn := fun _ => fun
  | [d1, d2, d3, d4] => { results := [.lit (.bool true)], args := [d1, d2, d3, d4] }
  | _ => none }
def fnExactMostSpeedRow : OpenClaim := { program := "yteodefmpkljedaa", sum := "a20f1bd06efa9b0f7f20af31a25af50f479a85b826704723453a9a068a9140cb", func := "loop.example/sprag/laws.FnExactMostSpeed", spec := "fnExactMostSpeed", unfollowed := true, recurses := true, apart := false }
def FnExactMostSpeedSaid : Prop := fnExactMostSpeedRow.holds Try.pinned (OpenSpec.ofChange fnExactMostSpeedSpec)

/-- ITS FALSE NEIGHBOUR: 'it returns false'. Refute it at one input. -/
def fnExactMostSpeedWrong : ChangeSpec := { name := "fnExactMostSpeed", fn := fun _ => fun
  | [d1, d2, d3, d4] => { results := [.lit (.bool false)], args := [d1, d2, d3, d4] }
  | _ => none }
def FnExactMostSpeedWrongFalsely : Prop := fnExactMostSpeedRow.holds Try.pinned (OpenSpec.ofChange fnExactMostSpeedWrong)

/- THE SECOND FORM. 'bulk': how many values and letters a reading holds, each counted each time it is reached (what is shared counts as often as it is met; a slice's spare places count too). A statement '..UptoSaid' is the law's where the arguments, and the package variables that the reading takes, are together of bulk at most 1048576: NARROWER than '..Said'. Prove '..Said' where nothing that the law and all that it calls make is longer than what came in: it says more and counts as full. Else prove '..UptoSaid'. A law counts once. -/
mutual
def uptoBulk {H : Type} : DataW H → Nat
  | .lit (.string bytes) => bytes.length + 1
  | .lit _ => 1
  | .nil => 1
  | .ptr d => uptoBulk d + 1
  | .slice elems spare => uptoBulkAll elems + uptoBulkAll spare + 1
  | .agg parts => uptoBulkAll parts + 1
  | .iface _ d => uptoBulk d + 1
  | .map entries => uptoBulkEntries entries + 1
  | .held _ => 1
def uptoBulkAll {H : Type} : List (DataW H) → Nat
  | [] => 0
  | d :: r => uptoBulk d + uptoBulkAll r
def uptoBulkEntries {H : Type} : List (Lit × DataW H) → Nat
  | [] => 0
  | x :: r => uptoBulkEntry x + uptoBulkEntries r
def uptoBulkEntry {H : Type} : Lit × DataW H → Nat
  | (.string bytes, d) => bytes.length + uptoBulk d + 1
  | (_, d) => uptoBulk d + 1
 end
def uptoSmall : (H : Type) → List (DataW H) → Bool := fun _ ds => decide (uptoBulkAll ds ≤ 1048576)
def OpenSpec.upto (s : _root_.Go.ChangeSpec) : _root_.Go.OpenSpec := { _root_.Go.OpenSpec.ofChange s with cond := some uptoSmall }

/-- 'laws.FnTop', WHERE WHAT IT READS IS OF BULK AT MOST 1048576: true; the input reads as it did. -/
def fnTopUptoRow : OpenClaim := { program := "yteodefmpkljedaa", sum := "a20f1bd06efa9b0f7f20af31a25af50f479a85b826704723453a9a068a9140cb", func := "loop.example/sprag/laws.FnTop", spec := "fnTop", unfollowed := true, recurses := true, apart := false, narrowed := true }
def FnTopUptoSaid : Prop := fnTopUptoRow.holds Try.pinned (OpenSpec.upto fnTopSpec)

/-- 'laws.FnMost', WHERE WHAT IT READS IS OF BULK AT MOST 1048576: true; the input reads as it did. -/
def fnMostUptoRow : OpenClaim := { program := "yteodefmpkljedaa", sum := "a20f1bd06efa9b0f7f20af31a25af50f479a85b826704723453a9a068a9140cb", func := "loop.example/sprag/laws.FnMost", spec := "fnMost", unfollowed := true, recurses := true, apart := false, narrowed := true }
def FnMostUptoSaid : Prop := fnMostUptoRow.holds Try.pinned (OpenSpec.upto fnMostSpec)

/-- 'laws.FnSums', WHERE WHAT IT READS IS OF BULK AT MOST 1048576: true; the input reads as it did. -/
def fnSumsUptoRow : OpenClaim := { program := "yteodefmpkljedaa", sum := "a20f1bd06efa9b0f7f20af31a25af50f479a85b826704723453a9a068a9140cb", func := "loop.example/sprag/laws.FnSums", spec := "fnSums", apart := false, narrowed := true }
def FnSumsUptoSaid : Prop := fnSumsUptoRow.holds Try.pinned (OpenSpec.upto fnSumsSpec)

/-- 'laws.FnSafe', WHERE WHAT IT READS IS OF BULK AT MOST 1048576: true; the input reads as it did. -/
def fnSafeUptoRow : OpenClaim := { program := "yteodefmpkljedaa", sum := "a20f1bd06efa9b0f7f20af31a25af50f479a85b826704723453a9a068a9140cb", func := "loop.example/sprag/laws.FnSafe", spec := "fnSafe", unfollowed := true, recurses := true, apart := false, narrowed := true }
def FnSafeUptoSaid : Prop := fnSafeUptoRow.holds Try.pinned (OpenSpec.upto fnSafeSpec)

/-- 'laws.FnTight', WHERE WHAT IT READS IS OF BULK AT MOST 1048576: true; the input reads as it did. -/
def fnTightUptoRow : OpenClaim := { program := "yteodefmpkljedaa", sum := "a20f1bd06efa9b0f7f20af31a25af50f479a85b826704723453a9a068a9140cb", func := "loop.example/sprag/laws.FnTight", spec := "fnTight", unfollowed := true, recurses := true, apart := false, narrowed := true }
def FnTightUptoSaid : Prop := fnTightUptoRow.holds Try.pinned (OpenSpec.upto fnTightSpec)

/-- 'laws.FnRuns', WHERE WHAT IT READS IS OF BULK AT MOST 1048576: true; the input reads as it did. -/
def fnRunsUptoRow : OpenClaim := { program := "yteodefmpkljedaa", sum := "a20f1bd06efa9b0f7f20af31a25af50f479a85b826704723453a9a068a9140cb", func := "loop.example/sprag/laws.FnRuns", spec := "fnRuns", unfollowed := true, recurses := true, apart := false, narrowed := true }
def FnRunsUptoSaid : Prop := fnRunsUptoRow.holds Try.pinned (OpenSpec.upto fnRunsSpec)

/-- 'laws.FnEven', WHERE WHAT IT READS IS OF BULK AT MOST 1048576: true; the input reads as it did. -/
def fnEvenUptoRow : OpenClaim := { program := "yteodefmpkljedaa", sum := "a20f1bd06efa9b0f7f20af31a25af50f479a85b826704723453a9a068a9140cb", func := "loop.example/sprag/laws.FnEven", spec := "fnEven", unfollowed := true, recurses := true, apart := false, narrowed := true }
def FnEvenUptoSaid : Prop := fnEvenUptoRow.holds Try.pinned (OpenSpec.upto fnEvenSpec)

/-- 'laws.FnCurve', WHERE WHAT IT READS IS OF BULK AT MOST 1048576: true; the input reads as it did. -/
def fnCurveUptoRow : OpenClaim := { program := "yteodefmpkljedaa", sum := "a20f1bd06efa9b0f7f20af31a25af50f479a85b826704723453a9a068a9140cb", func := "loop.example/sprag/laws.FnCurve", spec := "fnCurve", unfollowed := true, recurses := true, apart := false, narrowed := true }
def FnCurveUptoSaid : Prop := fnCurveUptoRow.holds Try.pinned (OpenSpec.upto fnCurveSpec)

/-- 'laws.FnExactSlowLen', WHERE WHAT IT READS IS OF BULK AT MOST 1048576: true; the input reads as it did. -/
def fnExactSlowLenUptoRow : OpenClaim := { program := "yteodefmpkljedaa", sum := "a20f1bd06efa9b0f7f20af31a25af50f479a85b826704723453a9a068a9140cb", func := "loop.example/sprag/laws.FnExactSlowLen", spec := "fnExactSlowLen", apart := false, narrowed := true }
def FnExactSlowLenUptoSaid : Prop := fnExactSlowLenUptoRow.holds Try.pinned (OpenSpec.upto fnExactSlowLenSpec)

/-- 'laws.FnExactSlowTicks', WHERE WHAT IT READS IS OF BULK AT MOST 1048576: true; the input reads as it did. -/
def fnExactSlowTicksUptoRow : OpenClaim := { program := "yteodefmpkljedaa", sum := "a20f1bd06efa9b0f7f20af31a25af50f479a85b826704723453a9a068a9140cb", func := "loop.example/sprag/laws.FnExactSlowTicks", spec := "fnExactSlowTicks", apart := false, narrowed := true }
def FnExactSlowTicksUptoSaid : Prop := fnExactSlowTicksUptoRow.holds Try.pinned (OpenSpec.upto fnExactSlowTicksSpec)

/-- 'laws.FnExactMostSpeed', WHERE WHAT IT READS IS OF BULK AT MOST 1048576: true; the input reads as it did. -/
def fnExactMostSpeedUptoRow : OpenClaim := { program := "yteodefmpkljedaa", sum := "a20f1bd06efa9b0f7f20af31a25af50f479a85b826704723453a9a068a9140cb", func := "loop.example/sprag/laws.FnExactMostSpeed", spec := "fnExactMostSpeed", unfollowed := true, recurses := true, apart := false, narrowed := true }
def FnExactMostSpeedUptoSaid : Prop := fnExactMostSpeedUptoRow.holds Try.pinned (OpenSpec.upto fnExactMostSpeedSpec)

end Rows
end Go.Proofs.Yteodefmpkljedaa
