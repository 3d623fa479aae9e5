/-
  NARROWER THAN 'FOR EVERY INPUT', by the rows' own cells (each row's printed sentence says how): ShapeExact: loops · ShapeNumbers: loops · ShapeBent: loops · ShapeFewer: loops · ShapeBases: loops.
  DERIVED. THE GIVEN ROWS OF THIS SEAT. 5 by the template 'for every input the law returns true; each argument reads behind the call as it read before'; 0 by the template 'total and deterministic' (their statements: YtcegocmndfoflaaTotals.lean).
  GIVEN WITH THE SEED: the statements are not yours to turn. If you find one false, say at which input.
  Laid BY PROGRAM, IN A SANDBOX (cutbox-rows.mjs): the forced cells as the released guide's own fill.sh prints them over the translation 78df28cacca16e1e… (all of the seat's roots in one cut). By AI agents, Wed Nov 11 2026. No macro, syntax, notation, axiom, sorry.
-/
import Derived.Test.YtcegocmndfoflaaChecked
import GoSem.Claim
import GoSem.ClaimJoined
import GoSem.ClaimMapViews
import Derived.JoinedTies
import Derived.KernelRfl
namespace Go.Proofs.Ytcegocmndfoflaa
/- THE CELL 'sum', in the pinned program and in every row, IS THE sha256 OF THE DUMP (.gsa) THAT YtcegocmndfoflaaProg.lean LOADS. Nothing in Lean hashes anything: it is a label: what it is worth is what the hold of that sum in a sandbox is worth. -/
noncomputable def Try.pinned : Pinned := { name := "ytcegocmndfoflaa", sum := "78df28cacca16e1e33b163e68ff7cd4f12c6a5c89f1323cf3822d80ff24c7521", checked := Try.checked }
namespace Rows
def none {H : Type} : Left H := { results := [], args := [] }

/-- 'porismlaw07.ShapeExact': WHATEVER THE INPUT: true; the input reads as it did. -/
def shapeExactSpec : ChangeSpec := { name := "shapeExact", fn := fun _ => fun
  | [d1, d2, d3, d4] => { results := [.lit (.bool true)], args := [d1, d2, d3, d4] }
  | _ => none }
def shapeExactRow : OpenClaim := { program := "ytcegocmndfoflaa", sum := "78df28cacca16e1e33b163e68ff7cd4f12c6a5c89f1323cf3822d80ff24c7521", func := "porism/porismlaw07.ShapeExact", spec := "shapeExact", unfollowed := true, recurses := true, loops := true, apart := false }
def ShapeExactSaid : Prop := shapeExactRow.holds Try.pinned (OpenSpec.ofChange shapeExactSpec)

/-- ITS FALSE NEIGHBOUR: 'it returns false'. Refute it at one input. -/
def shapeExactWrong : ChangeSpec := { name := "shapeExact", fn := fun _ => fun
  | [d1, d2, d3, d4] => { results := [.lit (.bool false)], args := [d1, d2, d3, d4] }
  | _ => none }
def ShapeExactWrongFalsely : Prop := shapeExactRow.holds Try.pinned (OpenSpec.ofChange shapeExactWrong)

/-- 'porismlaw07.ShapeNumbers': WHATEVER THE INPUT: true; the input reads as it did. -/
def shapeNumbersSpec : ChangeSpec := { name := "shapeNumbers", fn := fun _ => fun
  | [d1, d2, d3] => { results := [.lit (.bool true)], args := [d1, d2, d3] }
  | _ => none }
def shapeNumbersRow : OpenClaim := { program := "ytcegocmndfoflaa", sum := "78df28cacca16e1e33b163e68ff7cd4f12c6a5c89f1323cf3822d80ff24c7521", func := "porism/porismlaw07.ShapeNumbers", spec := "shapeNumbers", unfollowed := true, recurses := true, loops := true, apart := false }
def ShapeNumbersSaid : Prop := shapeNumbersRow.holds Try.pinned (OpenSpec.ofChange shapeNumbersSpec)

/-- ITS FALSE NEIGHBOUR: 'it returns false'. Refute it at one input. -/
def shapeNumbersWrong : ChangeSpec := { name := "shapeNumbers", fn := fun _ => fun
  | [d1, d2, d3] => { results := [.lit (.bool false)], args := [d1, d2, d3] }
  | _ => none }
def ShapeNumbersWrongFalsely : Prop := shapeNumbersRow.holds Try.pinned (OpenSpec.ofChange shapeNumbersWrong)

/-- 'porismlaw07.ShapeBent': WHATEVER THE INPUT: true; the input reads as it did. -/
def shapeBentSpec : ChangeSpec := { name := "shapeBent", fn := fun _ => fun
  | [d1, d2, d3] => { results := [.lit (.bool true)], args := [d1, d2, d3] }
  | _ => none }
def shapeBentRow : OpenClaim := { program := "ytcegocmndfoflaa", sum := "78df28cacca16e1e33b163e68ff7cd4f12c6a5c89f1323cf3822d80ff24c7521", func := "porism/porismlaw07.ShapeBent", spec := "shapeBent", unfollowed := true, recurses := true, loops := true, apart := false }
def ShapeBentSaid : Prop := shapeBentRow.holds Try.pinned (OpenSpec.ofChange shapeBentSpec)

/-- ITS FALSE NEIGHBOUR: 'it returns false'. Refute it at one input. -/
def shapeBentWrong : ChangeSpec := { name := "shapeBent", fn := fun _ => fun
  | [d1, d2, d3] => { results := [.lit (.bool false)], args := [d1, d2, d3] }
  | _ => none }
def ShapeBentWrongFalsely : Prop := shapeBentRow.holds Try.pinned (OpenSpec.ofChange shapeBentWrong)

/-- 'porismlaw07.ShapeFewer': WHATEVER THE INPUT: true; the input reads as it did. -/
def shapeFewerSpec : ChangeSpec := { name := "shapeFewer", fn := fun _ => fun
  | [d1, d2, d3, d4] => { results := [.lit (.bool true)], args := [d1, d2, d3, d4] }
  | _ => none }
def shapeFewerRow : OpenClaim := { program := "ytcegocmndfoflaa", sum := "78df28cacca16e1e33b163e68ff7cd4f12c6a5c89f1323cf3822d80ff24c7521", func := "porism/porismlaw07.ShapeFewer", spec := "shapeFewer", unfollowed := true, recurses := true, loops := true, apart := false }
def ShapeFewerSaid : Prop := shapeFewerRow.holds Try.pinned (OpenSpec.ofChange shapeFewerSpec)

/-- ITS FALSE NEIGHBOUR: 'it returns false'. Refute it at one input. -/
def shapeFewerWrong : ChangeSpec := { name := "shapeFewer", fn := fun _ => fun
  | [d1, d2, d3, d4] => { results := [.lit (.bool false)], args := [d1, d2, d3, d4] }
  | _ => none }
def ShapeFewerWrongFalsely : Prop := shapeFewerRow.holds Try.pinned (OpenSpec.ofChange shapeFewerWrong)

/-- 'porismlaw07.ShapeBases': WHATEVER THE INPUT: true; the input reads as it did. -/
def shapeBasesSpec : ChangeSpec := { name := "shapeBases", fn := fun _ => fun
  | [d1, d2, d3, d4] => { results := [.lit (.bool true)], args := [d1, d2, d3, d4] }
  | _ => none }
def shapeBasesRow : OpenClaim := { program := "ytcegocmndfoflaa", sum := "78df28cacca16e1e33b163e68ff7cd4f12c6a5c89f1323cf3822d80ff24c7521", func := "porism/porismlaw07.ShapeBases", spec := "shapeBases", unfollowed := true, recurses := true, loops := true, apart := false }
def ShapeBasesSaid : Prop := shapeBasesRow.holds Try.pinned (OpenSpec.ofChange shapeBasesSpec)

/-- ITS FALSE NEIGHBOUR: 'it returns false'. Refute it at one input. -/
def shapeBasesWrong : ChangeSpec := { name := "shapeBases", fn := fun _ => fun
  | [d1, d2, d3, d4] => { results := [.lit (.bool false)], args := [d1, d2, d3, d4] }
  | _ => none }
def ShapeBasesWrongFalsely : Prop := shapeBasesRow.holds Try.pinned (OpenSpec.ofChange shapeBasesWrong)

/- THE SECOND FORM. 'bulk': how many values and letters a reading holds, each counted each time it is reached (what is shared counts as often as it is met; a slice's spare places count too). A statement '..UptoSaid' is the law's where the arguments, and the package variables that the reading takes, are together of bulk at most 1048576: NARROWER than '..Said'. Prove '..Said' where nothing that the law and all that it calls make is longer than what came in: it says more and counts as full. Else prove '..UptoSaid'. A law counts once. -/
mutual
def uptoBulk {H : Type} : DataW H → Nat
  | .lit (.string bytes) => bytes.length + 1
  | .lit _ => 1
  | .nil => 1
  | .ptr d => uptoBulk d + 1
  | .slice elems spare => uptoBulkAll elems + uptoBulkAll spare + 1
  | .agg parts => uptoBulkAll parts + 1
  | .iface _ d => uptoBulk d + 1
  | .map entries => uptoBulkEntries entries + 1
  | .held _ => 1
def uptoBulkAll {H : Type} : List (DataW H) → Nat
  | [] => 0
  | d :: r => uptoBulk d + uptoBulkAll r
def uptoBulkEntries {H : Type} : List (Lit × DataW H) → Nat
  | [] => 0
  | x :: r => uptoBulkEntry x + uptoBulkEntries r
def uptoBulkEntry {H : Type} : Lit × DataW H → Nat
  | (.string bytes, d) => bytes.length + uptoBulk d + 1
  | (_, d) => uptoBulk d + 1
 end
def uptoSmall : (H : Type) → List (DataW H) → Bool := fun _ ds => decide (uptoBulkAll ds ≤ 1048576)
def OpenSpec.upto (s : _root_.Go.ChangeSpec) : _root_.Go.OpenSpec := { _root_.Go.OpenSpec.ofChange s with cond := some uptoSmall }

/-- 'porismlaw07.ShapeExact', WHERE WHAT IT READS IS OF BULK AT MOST 1048576: true; the input reads as it did. -/
def shapeExactUptoRow : OpenClaim := { program := "ytcegocmndfoflaa", sum := "78df28cacca16e1e33b163e68ff7cd4f12c6a5c89f1323cf3822d80ff24c7521", func := "porism/porismlaw07.ShapeExact", spec := "shapeExact", unfollowed := true, recurses := true, loops := true, apart := false, narrowed := true }
def ShapeExactUptoSaid : Prop := shapeExactUptoRow.holds Try.pinned (OpenSpec.upto shapeExactSpec)

/-- 'porismlaw07.ShapeNumbers', WHERE WHAT IT READS IS OF BULK AT MOST 1048576: true; the input reads as it did. -/
def shapeNumbersUptoRow : OpenClaim := { program := "ytcegocmndfoflaa", sum := "78df28cacca16e1e33b163e68ff7cd4f12c6a5c89f1323cf3822d80ff24c7521", func := "porism/porismlaw07.ShapeNumbers", spec := "shapeNumbers", unfollowed := true, recurses := true, loops := true, apart := false, narrowed := true }
def ShapeNumbersUptoSaid : Prop := shapeNumbersUptoRow.holds Try.pinned (OpenSpec.upto shapeNumbersSpec)

/-- 'porismlaw07.ShapeBent', WHERE WHAT IT READS IS OF BULK AT MOST 1048576: true; the input reads as it did. -/
def shapeBentUptoRow : OpenClaim := { program := "ytcegocmndfoflaa", sum := "78df28cacca16e1e33b163e68ff7cd4f12c6a5c89f1323cf3822d80ff24c7521", func := "porism/porismlaw07.ShapeBent", spec := "shapeBent", unfollowed := true, recurses := true, loops := true, apart := false, narrowed := true }
def ShapeBentUptoSaid : Prop := shapeBentUptoRow.holds Try.pinned (OpenSpec.upto shapeBentSpec)

/-- 'porismlaw07.ShapeFewer', WHERE WHAT IT READS IS OF BULK AT MOST 1048576: true; the input reads as it did. -/
def shapeFewerUptoRow : OpenClaim := { program := "ytcegocmndfoflaa", sum := "78df28cacca16e1e33b163e68ff7cd4f12c6a5c89f1323cf3822d80ff24c7521", func := "porism/porismlaw07.ShapeFewer", spec := "shapeFewer", unfollowed := true, recurses := true, loops := true, apart := false, narrowed := true }
def ShapeFewerUptoSaid : Prop := shapeFewerUptoRow.holds Try.pinned (OpenSpec.upto shapeFewerSpec)

/-- 'porismlaw07.ShapeBases', WHERE WHAT IT READS IS OF BULK AT MOST 1048576: true; the input reads as it did. -/
def shapeBasesUptoRow : OpenClaim := { program := "ytcegocmndfoflaa", sum := "78df28cacca16e1e33b163e68ff7cd4f12c6a5c89f1323cf3822d80ff24c7521", func := "porism/porismlaw07.ShapeBases", spec := "shapeBases", unfollowed := true, recurses := true, loops := true, apart := false, narrowed := true }
def ShapeBasesUptoSaid : Prop := shapeBasesUptoRow.holds Try.pinned (OpenSpec.upto shapeBasesSpec)

end Rows
end Go.Proofs.Ytcegocmndfoflaa
