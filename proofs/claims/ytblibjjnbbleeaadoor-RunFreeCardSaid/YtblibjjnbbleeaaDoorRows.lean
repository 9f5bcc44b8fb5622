/-
  NARROWER THAN 'FOR EVERY INPUT', by the rows' own cells (each row's printed sentence says how): RunFits: laid · RunFree: laid · RunTakes: laid · RunOnce: laid · RunJoins: laid.
  DERIVED. THE GIVEN ROWS OF THIS SEAT. 5 by the template 'for every input the law returns true; each argument reads behind the call as it read before'; 0 by the template 'total and deterministic' (their statements: YtblibjjnbbleeaaDoorTotals.lean).
  GIVEN WITH THE SEED: the statements are not yours to turn. If you find one false, say at which input.
  Laid BY PROGRAM, IN A SANDBOX (cutbox-rows.mjs): the forced cells as the released guide's own fill.sh prints them over the translation b0a2fbc5e9653b4a… (all of the seat's roots in one cut). By AI agents, Wed Nov 11 2026. No macro, syntax, notation, axiom, sorry.
-/
import Derived.Test.YtblibjjnbbleeaaDoorChecked
import GoSem.Claim
import GoSem.ClaimJoined
import GoSem.ClaimMapViews
import Derived.JoinedTies
import Derived.KernelRfl
namespace Go.Proofs.YtblibjjnbbleeaaDoor
/- THE CELL 'sum', in the pinned program and in every row, IS THE sha256 OF THE DUMP (.gsa) THAT YtblibjjnbbleeaaDoorProg.lean LOADS. Nothing in Lean hashes anything: it is a label: what it is worth is what the hold of that sum in a sandbox is worth. -/
noncomputable def Tryd.pinned : Pinned := { name := "ytblibjjnbbleeaadoor", sum := "b0a2fbc5e9653b4ad824be670f806fd08aa8b9c9376badadfbef2b2967d2997e", checked := Tryd.checked }
namespace Rows
def none {H : Type} : Left H := { results := [], args := [] }

/- WHAT THE LISTED PACKAGE-LEVEL VARIABLES READ AS WHEN THE CALL BEGINS. Each datum BY PROGRAM (the guide's laid-datum.mjs) off the statement by which the dump's own 'gosem.cut.vars' lays the variable. In a bare row this is a premise. The card (YtblibjjnbbleeaaDoorCards.lean) ties it to the program's text. -/
def laid_math_bits_deBruijn64tab {H : Type} : DataW H := .agg [.lit (.int .u8 0), .lit (.int .u8 1), .lit (.int .u8 56), .lit (.int .u8 2), .lit (.int .u8 57), .lit (.int .u8 49), .lit (.int .u8 28), .lit (.int .u8 3), .lit (.int .u8 61), .lit (.int .u8 58), .lit (.int .u8 42), .lit (.int .u8 50), .lit (.int .u8 38), .lit (.int .u8 29), .lit (.int .u8 17), .lit (.int .u8 4), .lit (.int .u8 62), .lit (.int .u8 47), .lit (.int .u8 59), .lit (.int .u8 36), .lit (.int .u8 45), .lit (.int .u8 43), .lit (.int .u8 51), .lit (.int .u8 22), .lit (.int .u8 53), .lit (.int .u8 39), .lit (.int .u8 33), .lit (.int .u8 30), .lit (.int .u8 24), .lit (.int .u8 18), .lit (.int .u8 12), .lit (.int .u8 5), .lit (.int .u8 63), .lit (.int .u8 55), .lit (.int .u8 48), .lit (.int .u8 27), .lit (.int .u8 60), .lit (.int .u8 41), .lit (.int .u8 37), .lit (.int .u8 16), .lit (.int .u8 46), .lit (.int .u8 35), .lit (.int .u8 44), .lit (.int .u8 21), .lit (.int .u8 52), .lit (.int .u8 32), .lit (.int .u8 23), .lit (.int .u8 11), .lit (.int .u8 54), .lit (.int .u8 26), .lit (.int .u8 40), .lit (.int .u8 15), .lit (.int .u8 34), .lit (.int .u8 20), .lit (.int .u8 31), .lit (.int .u8 10), .lit (.int .u8 25), .lit (.int .u8 14), .lit (.int .u8 19), .lit (.int .u8 9), .lit (.int .u8 13), .lit (.int .u8 8), .lit (.int .u8 7), .lit (.int .u8 6)]

/-- 'cantlelaw11.RunFits': WHATEVER THE INPUT: true; the input reads as it did. -/
def runFitsSpec : ChangeSpec := { name := "runFits", fn := fun _ => fun
  | [d1, d2, d3] => { results := [.lit (.bool true)], args := [d1, d2, d3] }
  | _ => none }
def runFitsRow : OpenClaim := { program := "ytblibjjnbbleeaadoor", sum := "b0a2fbc5e9653b4ad824be670f806fd08aa8b9c9376badadfbef2b2967d2997e", func := "cantle/cantlelaw11.RunFits", spec := "runFits", named := ["math/bits.deBruijn64tab"], apart := false, laid := [("math/bits.deBruijn64tab", laid_math_bits_deBruijn64tab)] }
def RunFitsSaid : Prop := runFitsRow.holds Tryd.pinned (OpenSpec.ofChange runFitsSpec)

/-- ITS FALSE NEIGHBOUR: 'it returns false'. Refute it at one input. -/
def runFitsWrong : ChangeSpec := { name := "runFits", fn := fun _ => fun
  | [d1, d2, d3] => { results := [.lit (.bool false)], args := [d1, d2, d3] }
  | _ => none }
def RunFitsWrongFalsely : Prop := runFitsRow.holds Tryd.pinned (OpenSpec.ofChange runFitsWrong)

/-- 'cantlelaw11.RunFree': WHATEVER THE INPUT: true; the input reads as it did. -/
def runFreeSpec : ChangeSpec := { name := "runFree", fn := fun _ => fun
  | [d1, d2, d3] => { results := [.lit (.bool true)], args := [d1, d2, d3] }
  | _ => none }
def runFreeRow : OpenClaim := { program := "ytblibjjnbbleeaadoor", sum := "b0a2fbc5e9653b4ad824be670f806fd08aa8b9c9376badadfbef2b2967d2997e", func := "cantle/cantlelaw11.RunFree", spec := "runFree", named := ["math/bits.deBruijn64tab"], apart := false, laid := [("math/bits.deBruijn64tab", laid_math_bits_deBruijn64tab)] }
def RunFreeSaid : Prop := runFreeRow.holds Tryd.pinned (OpenSpec.ofChange runFreeSpec)

/-- ITS FALSE NEIGHBOUR: 'it returns false'. Refute it at one input. -/
def runFreeWrong : ChangeSpec := { name := "runFree", fn := fun _ => fun
  | [d1, d2, d3] => { results := [.lit (.bool false)], args := [d1, d2, d3] }
  | _ => none }
def RunFreeWrongFalsely : Prop := runFreeRow.holds Tryd.pinned (OpenSpec.ofChange runFreeWrong)

/-- 'cantlelaw11.RunTakes': WHATEVER THE INPUT: true; the input reads as it did. -/
def runTakesSpec : ChangeSpec := { name := "runTakes", fn := fun _ => fun
  | [d1, d2, d3] => { results := [.lit (.bool true)], args := [d1, d2, d3] }
  | _ => none }
def runTakesRow : OpenClaim := { program := "ytblibjjnbbleeaadoor", sum := "b0a2fbc5e9653b4ad824be670f806fd08aa8b9c9376badadfbef2b2967d2997e", func := "cantle/cantlelaw11.RunTakes", spec := "runTakes", named := ["math/bits.deBruijn64tab"], apart := false, laid := [("math/bits.deBruijn64tab", laid_math_bits_deBruijn64tab)] }
def RunTakesSaid : Prop := runTakesRow.holds Tryd.pinned (OpenSpec.ofChange runTakesSpec)

/-- ITS FALSE NEIGHBOUR: 'it returns false'. Refute it at one input. -/
def runTakesWrong : ChangeSpec := { name := "runTakes", fn := fun _ => fun
  | [d1, d2, d3] => { results := [.lit (.bool false)], args := [d1, d2, d3] }
  | _ => none }
def RunTakesWrongFalsely : Prop := runTakesRow.holds Tryd.pinned (OpenSpec.ofChange runTakesWrong)

/-- 'cantlelaw11.RunOnce': WHATEVER THE INPUT: true; the input reads as it did. -/
def runOnceSpec : ChangeSpec := { name := "runOnce", fn := fun _ => fun
  | [d1, d2, d3] => { results := [.lit (.bool true)], args := [d1, d2, d3] }
  | _ => none }
def runOnceRow : OpenClaim := { program := "ytblibjjnbbleeaadoor", sum := "b0a2fbc5e9653b4ad824be670f806fd08aa8b9c9376badadfbef2b2967d2997e", func := "cantle/cantlelaw11.RunOnce", spec := "runOnce", named := ["math/bits.deBruijn64tab"], apart := false, laid := [("math/bits.deBruijn64tab", laid_math_bits_deBruijn64tab)] }
def RunOnceSaid : Prop := runOnceRow.holds Tryd.pinned (OpenSpec.ofChange runOnceSpec)

/-- ITS FALSE NEIGHBOUR: 'it returns false'. Refute it at one input. -/
def runOnceWrong : ChangeSpec := { name := "runOnce", fn := fun _ => fun
  | [d1, d2, d3] => { results := [.lit (.bool false)], args := [d1, d2, d3] }
  | _ => none }
def RunOnceWrongFalsely : Prop := runOnceRow.holds Tryd.pinned (OpenSpec.ofChange runOnceWrong)

/-- 'cantlelaw11.RunJoins': WHATEVER THE INPUT: true; the input reads as it did. -/
def runJoinsSpec : ChangeSpec := { name := "runJoins", fn := fun _ => fun
  | [d1, d2] => { results := [.lit (.bool true)], args := [d1, d2] }
  | _ => none }
def runJoinsRow : OpenClaim := { program := "ytblibjjnbbleeaadoor", sum := "b0a2fbc5e9653b4ad824be670f806fd08aa8b9c9376badadfbef2b2967d2997e", func := "cantle/cantlelaw11.RunJoins", spec := "runJoins", named := ["math/bits.deBruijn64tab"], apart := false, laid := [("math/bits.deBruijn64tab", laid_math_bits_deBruijn64tab)] }
def RunJoinsSaid : Prop := runJoinsRow.holds Tryd.pinned (OpenSpec.ofChange runJoinsSpec)

/-- ITS FALSE NEIGHBOUR: 'it returns false'. Refute it at one input. -/
def runJoinsWrong : ChangeSpec := { name := "runJoins", fn := fun _ => fun
  | [d1, d2] => { results := [.lit (.bool false)], args := [d1, d2] }
  | _ => none }
def RunJoinsWrongFalsely : Prop := runJoinsRow.holds Tryd.pinned (OpenSpec.ofChange runJoinsWrong)

/- THE SECOND FORM. 'bulk': how many values and letters a reading holds, each counted each time it is reached (what is shared counts as often as it is met; a slice's spare places count too). A statement '..UptoSaid' is the law's where the arguments, and the package variables that the reading takes, are together of bulk at most 1048576: NARROWER than '..Said'. Prove '..Said' where nothing that the law and all that it calls make is longer than what came in: it says more and counts as full. Else prove '..UptoSaid'. A law counts once. -/
mutual
def uptoBulk {H : Type} : DataW H → Nat
  | .lit (.string bytes) => bytes.length + 1
  | .lit _ => 1
  | .nil => 1
  | .ptr d => uptoBulk d + 1
  | .slice elems spare => uptoBulkAll elems + uptoBulkAll spare + 1
  | .agg parts => uptoBulkAll parts + 1
  | .iface _ d => uptoBulk d + 1
  | .map entries => uptoBulkEntries entries + 1
  | .held _ => 1
def uptoBulkAll {H : Type} : List (DataW H) → Nat
  | [] => 0
  | d :: r => uptoBulk d + uptoBulkAll r
def uptoBulkEntries {H : Type} : List (Lit × DataW H) → Nat
  | [] => 0
  | x :: r => uptoBulkEntry x + uptoBulkEntries r
def uptoBulkEntry {H : Type} : Lit × DataW H → Nat
  | (.string bytes, d) => bytes.length + uptoBulk d + 1
  | (_, d) => uptoBulk d + 1
 end
def uptoSmall : (H : Type) → List (DataW H) → Bool := fun _ ds => decide (uptoBulkAll ds ≤ 1048576)
def OpenSpec.upto (s : _root_.Go.ChangeSpec) : _root_.Go.OpenSpec := { _root_.Go.OpenSpec.ofChange s with cond := some uptoSmall }

/-- 'cantlelaw11.RunFits', WHERE WHAT IT READS IS OF BULK AT MOST 1048576: true; the input reads as it did. -/
def runFitsUptoRow : OpenClaim := { program := "ytblibjjnbbleeaadoor", sum := "b0a2fbc5e9653b4ad824be670f806fd08aa8b9c9376badadfbef2b2967d2997e", func := "cantle/cantlelaw11.RunFits", spec := "runFits", named := ["math/bits.deBruijn64tab"], apart := false, laid := [("math/bits.deBruijn64tab", laid_math_bits_deBruijn64tab)], narrowed := true }
def RunFitsUptoSaid : Prop := runFitsUptoRow.holds Tryd.pinned (OpenSpec.upto runFitsSpec)

/-- 'cantlelaw11.RunFree', WHERE WHAT IT READS IS OF BULK AT MOST 1048576: true; the input reads as it did. -/
def runFreeUptoRow : OpenClaim := { program := "ytblibjjnbbleeaadoor", sum := "b0a2fbc5e9653b4ad824be670f806fd08aa8b9c9376badadfbef2b2967d2997e", func := "cantle/cantlelaw11.RunFree", spec := "runFree", named := ["math/bits.deBruijn64tab"], apart := false, laid := [("math/bits.deBruijn64tab", laid_math_bits_deBruijn64tab)], narrowed := true }
def RunFreeUptoSaid : Prop := runFreeUptoRow.holds Tryd.pinned (OpenSpec.upto runFreeSpec)

/-- 'cantlelaw11.RunTakes', WHERE WHAT IT READS IS OF BULK AT MOST 1048576: true; the input reads as it did. -/
def runTakesUptoRow : OpenClaim := { program := "ytblibjjnbbleeaadoor", sum := "b0a2fbc5e9653b4ad824be670f806fd08aa8b9c9376badadfbef2b2967d2997e", func := "cantle/cantlelaw11.RunTakes", spec := "runTakes", named := ["math/bits.deBruijn64tab"], apart := false, laid := [("math/bits.deBruijn64tab", laid_math_bits_deBruijn64tab)], narrowed := true }
def RunTakesUptoSaid : Prop := runTakesUptoRow.holds Tryd.pinned (OpenSpec.upto runTakesSpec)

/-- 'cantlelaw11.RunOnce', WHERE WHAT IT READS IS OF BULK AT MOST 1048576: true; the input reads as it did. -/
def runOnceUptoRow : OpenClaim := { program := "ytblibjjnbbleeaadoor", sum := "b0a2fbc5e9653b4ad824be670f806fd08aa8b9c9376badadfbef2b2967d2997e", func := "cantle/cantlelaw11.RunOnce", spec := "runOnce", named := ["math/bits.deBruijn64tab"], apart := false, laid := [("math/bits.deBruijn64tab", laid_math_bits_deBruijn64tab)], narrowed := true }
def RunOnceUptoSaid : Prop := runOnceUptoRow.holds Tryd.pinned (OpenSpec.upto runOnceSpec)

/-- 'cantlelaw11.RunJoins', WHERE WHAT IT READS IS OF BULK AT MOST 1048576: true; the input reads as it did. -/
def runJoinsUptoRow : OpenClaim := { program := "ytblibjjnbbleeaadoor", sum := "b0a2fbc5e9653b4ad824be670f806fd08aa8b9c9376badadfbef2b2967d2997e", func := "cantle/cantlelaw11.RunJoins", spec := "runJoins", named := ["math/bits.deBruijn64tab"], apart := false, laid := [("math/bits.deBruijn64tab", laid_math_bits_deBruijn64tab)], narrowed := true }
def RunJoinsUptoSaid : Prop := runJoinsUptoRow.holds Tryd.pinned (OpenSpec.upto runJoinsSpec)

end Rows
end Go.Proofs.YtblibjjnbbleeaaDoor
