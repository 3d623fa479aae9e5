/-
  NARROWER THAN 'FOR EVERY INPUT', by the rows' own cells (each row's printed sentence says how): InstExact: loops · InstOne: loops · InstNone: loops · InstScopes: loops · InstShifts: loops · InstKids: loops · InstTwice: loops · InstVars: loops · InstCounts: loops.
  DERIVED. THE GIVEN ROWS OF THIS SEAT. 9 by the template 'for every input the law returns true; each argument reads behind the call as it read before'; 0 by the template 'total and deterministic' (their statements: YtbfefpejcefnhaaTotals.lean).
  GIVEN WITH THE SEED: the statements are not yours to turn. If you find one false, say at which input.
  Laid BY PROGRAM, IN A SANDBOX (cutbox-rows.mjs): the forced cells as the released guide's own fill.sh prints them over the translation f75fa8626e03a3ea… (all of the seat's roots in one cut). By AI agents, Wed Nov 11 2026. No macro, syntax, notation, axiom, sorry.
-/
import Derived.Test.YtbfefpejcefnhaaChecked
import GoSem.Claim
import GoSem.ClaimJoined
import GoSem.ClaimMapViews
import Derived.JoinedTies
import Derived.KernelRfl
namespace Go.Proofs.Ytbfefpejcefnhaa
/- THE CELL 'sum', in the pinned program and in every row, IS THE sha256 OF THE DUMP (.gsa) THAT YtbfefpejcefnhaaProg.lean LOADS. Nothing in Lean hashes anything: it is a label: what it is worth is what the hold of that sum in a sandbox is worth. -/
noncomputable def Try.pinned : Pinned := { name := "ytbfefpejcefnhaa", sum := "f75fa8626e03a3eaa909b1f5db2f6e3f0092c4ffeefc475f3c8f0c5989e2145c", checked := Try.checked }
namespace Rows
def none {H : Type} : Left H := { results := [], args := [] }

/-- 'porismlaw05.InstExact': WHATEVER THE INPUT: true; the input reads as it did. -/
def instExactSpec : ChangeSpec := { name := "instExact", fn := fun _ => fun
  | [d1, d2, d3] => { results := [.lit (.bool true)], args := [d1, d2, d3] }
  | _ => none }
def instExactRow : OpenClaim := { program := "ytbfefpejcefnhaa", sum := "f75fa8626e03a3eaa909b1f5db2f6e3f0092c4ffeefc475f3c8f0c5989e2145c", func := "porism/porismlaw05.InstExact", spec := "instExact", unfollowed := true, recurses := true, loops := true, apart := false }
def InstExactSaid : Prop := instExactRow.holds Try.pinned (OpenSpec.ofChange instExactSpec)

/-- ITS FALSE NEIGHBOUR: 'it returns false'. Refute it at one input. -/
def instExactWrong : ChangeSpec := { name := "instExact", fn := fun _ => fun
  | [d1, d2, d3] => { results := [.lit (.bool false)], args := [d1, d2, d3] }
  | _ => none }
def InstExactWrongFalsely : Prop := instExactRow.holds Try.pinned (OpenSpec.ofChange instExactWrong)

/-- 'porismlaw05.InstOne': WHATEVER THE INPUT: true; the input reads as it did. -/
def instOneSpec : ChangeSpec := { name := "instOne", fn := fun _ => fun
  | [d1, d2] => { results := [.lit (.bool true)], args := [d1, d2] }
  | _ => none }
def instOneRow : OpenClaim := { program := "ytbfefpejcefnhaa", sum := "f75fa8626e03a3eaa909b1f5db2f6e3f0092c4ffeefc475f3c8f0c5989e2145c", func := "porism/porismlaw05.InstOne", spec := "instOne", unfollowed := true, recurses := true, loops := true, apart := false }
def InstOneSaid : Prop := instOneRow.holds Try.pinned (OpenSpec.ofChange instOneSpec)

/-- ITS FALSE NEIGHBOUR: 'it returns false'. Refute it at one input. -/
def instOneWrong : ChangeSpec := { name := "instOne", fn := fun _ => fun
  | [d1, d2] => { results := [.lit (.bool false)], args := [d1, d2] }
  | _ => none }
def InstOneWrongFalsely : Prop := instOneRow.holds Try.pinned (OpenSpec.ofChange instOneWrong)

/-- 'porismlaw05.InstNone': WHATEVER THE INPUT: true; the input reads as it did. -/
def instNoneSpec : ChangeSpec := { name := "instNone", fn := fun _ => fun
  | [d1, d2, d3] => { results := [.lit (.bool true)], args := [d1, d2, d3] }
  | _ => none }
def instNoneRow : OpenClaim := { program := "ytbfefpejcefnhaa", sum := "f75fa8626e03a3eaa909b1f5db2f6e3f0092c4ffeefc475f3c8f0c5989e2145c", func := "porism/porismlaw05.InstNone", spec := "instNone", unfollowed := true, recurses := true, loops := true, apart := false }
def InstNoneSaid : Prop := instNoneRow.holds Try.pinned (OpenSpec.ofChange instNoneSpec)

/-- ITS FALSE NEIGHBOUR: 'it returns false'. Refute it at one input. -/
def instNoneWrong : ChangeSpec := { name := "instNone", fn := fun _ => fun
  | [d1, d2, d3] => { results := [.lit (.bool false)], args := [d1, d2, d3] }
  | _ => none }
def InstNoneWrongFalsely : Prop := instNoneRow.holds Try.pinned (OpenSpec.ofChange instNoneWrong)

/-- 'porismlaw05.InstScopes': WHATEVER THE INPUT: true; the input reads as it did. -/
def instScopesSpec : ChangeSpec := { name := "instScopes", fn := fun _ => fun
  | [d1, d2, d3] => { results := [.lit (.bool true)], args := [d1, d2, d3] }
  | _ => none }
def instScopesRow : OpenClaim := { program := "ytbfefpejcefnhaa", sum := "f75fa8626e03a3eaa909b1f5db2f6e3f0092c4ffeefc475f3c8f0c5989e2145c", func := "porism/porismlaw05.InstScopes", spec := "instScopes", unfollowed := true, recurses := true, loops := true, apart := false }
def InstScopesSaid : Prop := instScopesRow.holds Try.pinned (OpenSpec.ofChange instScopesSpec)

/-- ITS FALSE NEIGHBOUR: 'it returns false'. Refute it at one input. -/
def instScopesWrong : ChangeSpec := { name := "instScopes", fn := fun _ => fun
  | [d1, d2, d3] => { results := [.lit (.bool false)], args := [d1, d2, d3] }
  | _ => none }
def InstScopesWrongFalsely : Prop := instScopesRow.holds Try.pinned (OpenSpec.ofChange instScopesWrong)

/-- 'porismlaw05.InstShifts': WHATEVER THE INPUT: true; the input reads as it did. -/
def instShiftsSpec : ChangeSpec := { name := "instShifts", fn := fun _ => fun
  | [d1, d2, d3] => { results := [.lit (.bool true)], args := [d1, d2, d3] }
  | _ => none }
def instShiftsRow : OpenClaim := { program := "ytbfefpejcefnhaa", sum := "f75fa8626e03a3eaa909b1f5db2f6e3f0092c4ffeefc475f3c8f0c5989e2145c", func := "porism/porismlaw05.InstShifts", spec := "instShifts", unfollowed := true, recurses := true, loops := true, apart := false }
def InstShiftsSaid : Prop := instShiftsRow.holds Try.pinned (OpenSpec.ofChange instShiftsSpec)

/-- ITS FALSE NEIGHBOUR: 'it returns false'. Refute it at one input. -/
def instShiftsWrong : ChangeSpec := { name := "instShifts", fn := fun _ => fun
  | [d1, d2, d3] => { results := [.lit (.bool false)], args := [d1, d2, d3] }
  | _ => none }
def InstShiftsWrongFalsely : Prop := instShiftsRow.holds Try.pinned (OpenSpec.ofChange instShiftsWrong)

/-- 'porismlaw05.InstKids': WHATEVER THE INPUT: true; the input reads as it did. -/
def instKidsSpec : ChangeSpec := { name := "instKids", fn := fun _ => fun
  | [d1, d2, d3] => { results := [.lit (.bool true)], args := [d1, d2, d3] }
  | _ => none }
def instKidsRow : OpenClaim := { program := "ytbfefpejcefnhaa", sum := "f75fa8626e03a3eaa909b1f5db2f6e3f0092c4ffeefc475f3c8f0c5989e2145c", func := "porism/porismlaw05.InstKids", spec := "instKids", unfollowed := true, recurses := true, loops := true, apart := false }
def InstKidsSaid : Prop := instKidsRow.holds Try.pinned (OpenSpec.ofChange instKidsSpec)

/-- ITS FALSE NEIGHBOUR: 'it returns false'. Refute it at one input. -/
def instKidsWrong : ChangeSpec := { name := "instKids", fn := fun _ => fun
  | [d1, d2, d3] => { results := [.lit (.bool false)], args := [d1, d2, d3] }
  | _ => none }
def InstKidsWrongFalsely : Prop := instKidsRow.holds Try.pinned (OpenSpec.ofChange instKidsWrong)

/-- 'porismlaw05.InstTwice': WHATEVER THE INPUT: true; the input reads as it did. -/
def instTwiceSpec : ChangeSpec := { name := "instTwice", fn := fun _ => fun
  | [d1, d2, d3] => { results := [.lit (.bool true)], args := [d1, d2, d3] }
  | _ => none }
def instTwiceRow : OpenClaim := { program := "ytbfefpejcefnhaa", sum := "f75fa8626e03a3eaa909b1f5db2f6e3f0092c4ffeefc475f3c8f0c5989e2145c", func := "porism/porismlaw05.InstTwice", spec := "instTwice", unfollowed := true, recurses := true, loops := true, apart := false }
def InstTwiceSaid : Prop := instTwiceRow.holds Try.pinned (OpenSpec.ofChange instTwiceSpec)

/-- ITS FALSE NEIGHBOUR: 'it returns false'. Refute it at one input. -/
def instTwiceWrong : ChangeSpec := { name := "instTwice", fn := fun _ => fun
  | [d1, d2, d3] => { results := [.lit (.bool false)], args := [d1, d2, d3] }
  | _ => none }
def InstTwiceWrongFalsely : Prop := instTwiceRow.holds Try.pinned (OpenSpec.ofChange instTwiceWrong)

/-- 'porismlaw05.InstVars': WHATEVER THE INPUT: true; the input reads as it did. -/
def instVarsSpec : ChangeSpec := { name := "instVars", fn := fun _ => fun
  | [d1, d2, d3] => { results := [.lit (.bool true)], args := [d1, d2, d3] }
  | _ => none }
def instVarsRow : OpenClaim := { program := "ytbfefpejcefnhaa", sum := "f75fa8626e03a3eaa909b1f5db2f6e3f0092c4ffeefc475f3c8f0c5989e2145c", func := "porism/porismlaw05.InstVars", spec := "instVars", unfollowed := true, recurses := true, loops := true, apart := false }
def InstVarsSaid : Prop := instVarsRow.holds Try.pinned (OpenSpec.ofChange instVarsSpec)

/-- ITS FALSE NEIGHBOUR: 'it returns false'. Refute it at one input. -/
def instVarsWrong : ChangeSpec := { name := "instVars", fn := fun _ => fun
  | [d1, d2, d3] => { results := [.lit (.bool false)], args := [d1, d2, d3] }
  | _ => none }
def InstVarsWrongFalsely : Prop := instVarsRow.holds Try.pinned (OpenSpec.ofChange instVarsWrong)

/-- 'porismlaw05.InstCounts': WHATEVER THE INPUT: true; the input reads as it did. -/
def instCountsSpec : ChangeSpec := { name := "instCounts", fn := fun _ => fun
  | [d1, d2, d3] => { results := [.lit (.bool true)], args := [d1, d2, d3] }
  | _ => none }
def instCountsRow : OpenClaim := { program := "ytbfefpejcefnhaa", sum := "f75fa8626e03a3eaa909b1f5db2f6e3f0092c4ffeefc475f3c8f0c5989e2145c", func := "porism/porismlaw05.InstCounts", spec := "instCounts", unfollowed := true, recurses := true, loops := true, apart := false }
def InstCountsSaid : Prop := instCountsRow.holds Try.pinned (OpenSpec.ofChange instCountsSpec)

/-- ITS FALSE NEIGHBOUR: 'it returns false'. Refute it at one input. -/
def instCountsWrong : ChangeSpec := { name := "instCounts", fn := fun _ => fun
  | [d1, d2, d3] => { results := [.lit (.bool false)], args := [d1, d2, d3] }
  | _ => none }
def InstCountsWrongFalsely : Prop := instCountsRow.holds Try.pinned (OpenSpec.ofChange instCountsWrong)

/- THE SECOND FORM. 'bulk': how many values and letters a reading holds, each counted each time it is reached (what is shared counts as often as it is met; a slice's spare places count too). A statement '..UptoSaid' is the law's where the arguments, and the package variables that the reading takes, are together of bulk at most 1048576: NARROWER than '..Said'. Prove '..Said' where nothing that the law and all that it calls make is longer than what came in: it says more and counts as full. Else prove '..UptoSaid'. A law counts once. -/
mutual
def uptoBulk {H : Type} : DataW H → Nat
  | .lit (.string bytes) => bytes.length + 1
  | .lit _ => 1
  | .nil => 1
  | .ptr d => uptoBulk d + 1
  | .slice elems spare => uptoBulkAll elems + uptoBulkAll spare + 1
  | .agg parts => uptoBulkAll parts + 1
  | .iface _ d => uptoBulk d + 1
  | .map entries => uptoBulkEntries entries + 1
  | .held _ => 1
def uptoBulkAll {H : Type} : List (DataW H) → Nat
  | [] => 0
  | d :: r => uptoBulk d + uptoBulkAll r
def uptoBulkEntries {H : Type} : List (Lit × DataW H) → Nat
  | [] => 0
  | x :: r => uptoBulkEntry x + uptoBulkEntries r
def uptoBulkEntry {H : Type} : Lit × DataW H → Nat
  | (.string bytes, d) => bytes.length + uptoBulk d + 1
  | (_, d) => uptoBulk d + 1
 end
def uptoSmall : (H : Type) → List (DataW H) → Bool := fun _ ds => decide (uptoBulkAll ds ≤ 1048576)
def OpenSpec.upto (s : _root_.Go.ChangeSpec) : _root_.Go.OpenSpec := { _root_.Go.OpenSpec.ofChange s with cond := some uptoSmall }

/-- 'porismlaw05.InstExact', WHERE WHAT IT READS IS OF BULK AT MOST 1048576: true; the input reads as it did. -/
def instExactUptoRow : OpenClaim := { program := "ytbfefpejcefnhaa", sum := "f75fa8626e03a3eaa909b1f5db2f6e3f0092c4ffeefc475f3c8f0c5989e2145c", func := "porism/porismlaw05.InstExact", spec := "instExact", unfollowed := true, recurses := true, loops := true, apart := false, narrowed := true }
def InstExactUptoSaid : Prop := instExactUptoRow.holds Try.pinned (OpenSpec.upto instExactSpec)

/-- 'porismlaw05.InstOne', WHERE WHAT IT READS IS OF BULK AT MOST 1048576: true; the input reads as it did. -/
def instOneUptoRow : OpenClaim := { program := "ytbfefpejcefnhaa", sum := "f75fa8626e03a3eaa909b1f5db2f6e3f0092c4ffeefc475f3c8f0c5989e2145c", func := "porism/porismlaw05.InstOne", spec := "instOne", unfollowed := true, recurses := true, loops := true, apart := false, narrowed := true }
def InstOneUptoSaid : Prop := instOneUptoRow.holds Try.pinned (OpenSpec.upto instOneSpec)

/-- 'porismlaw05.InstNone', WHERE WHAT IT READS IS OF BULK AT MOST 1048576: true; the input reads as it did. -/
def instNoneUptoRow : OpenClaim := { program := "ytbfefpejcefnhaa", sum := "f75fa8626e03a3eaa909b1f5db2f6e3f0092c4ffeefc475f3c8f0c5989e2145c", func := "porism/porismlaw05.InstNone", spec := "instNone", unfollowed := true, recurses := true, loops := true, apart := false, narrowed := true }
def InstNoneUptoSaid : Prop := instNoneUptoRow.holds Try.pinned (OpenSpec.upto instNoneSpec)

/-- 'porismlaw05.InstScopes', WHERE WHAT IT READS IS OF BULK AT MOST 1048576: true; the input reads as it did. -/
def instScopesUptoRow : OpenClaim := { program := "ytbfefpejcefnhaa", sum := "f75fa8626e03a3eaa909b1f5db2f6e3f0092c4ffeefc475f3c8f0c5989e2145c", func := "porism/porismlaw05.InstScopes", spec := "instScopes", unfollowed := true, recurses := true, loops := true, apart := false, narrowed := true }
def InstScopesUptoSaid : Prop := instScopesUptoRow.holds Try.pinned (OpenSpec.upto instScopesSpec)

/-- 'porismlaw05.InstShifts', WHERE WHAT IT READS IS OF BULK AT MOST 1048576: true; the input reads as it did. -/
def instShiftsUptoRow : OpenClaim := { program := "ytbfefpejcefnhaa", sum := "f75fa8626e03a3eaa909b1f5db2f6e3f0092c4ffeefc475f3c8f0c5989e2145c", func := "porism/porismlaw05.InstShifts", spec := "instShifts", unfollowed := true, recurses := true, loops := true, apart := false, narrowed := true }
def InstShiftsUptoSaid : Prop := instShiftsUptoRow.holds Try.pinned (OpenSpec.upto instShiftsSpec)

/-- 'porismlaw05.InstKids', WHERE WHAT IT READS IS OF BULK AT MOST 1048576: true; the input reads as it did. -/
def instKidsUptoRow : OpenClaim := { program := "ytbfefpejcefnhaa", sum := "f75fa8626e03a3eaa909b1f5db2f6e3f0092c4ffeefc475f3c8f0c5989e2145c", func := "porism/porismlaw05.InstKids", spec := "instKids", unfollowed := true, recurses := true, loops := true, apart := false, narrowed := true }
def InstKidsUptoSaid : Prop := instKidsUptoRow.holds Try.pinned (OpenSpec.upto instKidsSpec)

/-- 'porismlaw05.InstTwice', WHERE WHAT IT READS IS OF BULK AT MOST 1048576: true; the input reads as it did. -/
def instTwiceUptoRow : OpenClaim := { program := "ytbfefpejcefnhaa", sum := "f75fa8626e03a3eaa909b1f5db2f6e3f0092c4ffeefc475f3c8f0c5989e2145c", func := "porism/porismlaw05.InstTwice", spec := "instTwice", unfollowed := true, recurses := true, loops := true, apart := false, narrowed := true }
def InstTwiceUptoSaid : Prop := instTwiceUptoRow.holds Try.pinned (OpenSpec.upto instTwiceSpec)

/-- 'porismlaw05.InstVars', WHERE WHAT IT READS IS OF BULK AT MOST 1048576: true; the input reads as it did. -/
def instVarsUptoRow : OpenClaim := { program := "ytbfefpejcefnhaa", sum := "f75fa8626e03a3eaa909b1f5db2f6e3f0092c4ffeefc475f3c8f0c5989e2145c", func := "porism/porismlaw05.InstVars", spec := "instVars", unfollowed := true, recurses := true, loops := true, apart := false, narrowed := true }
def InstVarsUptoSaid : Prop := instVarsUptoRow.holds Try.pinned (OpenSpec.upto instVarsSpec)

/-- 'porismlaw05.InstCounts', WHERE WHAT IT READS IS OF BULK AT MOST 1048576: true; the input reads as it did. -/
def instCountsUptoRow : OpenClaim := { program := "ytbfefpejcefnhaa", sum := "f75fa8626e03a3eaa909b1f5db2f6e3f0092c4ffeefc475f3c8f0c5989e2145c", func := "porism/porismlaw05.InstCounts", spec := "instCounts", unfollowed := true, recurses := true, loops := true, apart := false, narrowed := true }
def InstCountsUptoSaid : Prop := instCountsUptoRow.holds Try.pinned (OpenSpec.upto instCountsSpec)

end Rows
end Go.Proofs.Ytbfefpejcefnhaa
