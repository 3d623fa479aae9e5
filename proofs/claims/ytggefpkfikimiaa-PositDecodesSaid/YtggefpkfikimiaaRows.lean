/-
  NARROWER THAN 'FOR EVERY INPUT', by the rows' own cells (each row's printed sentence says how): PositMoves: loops · PositFewer: loops · PositPlain: loops.
  DERIVED. THE GIVEN ROWS OF THIS SEAT. 5 by the template 'for every input the law returns true; each argument reads behind the call as it read before'; 0 by the template 'total and deterministic' (their statements: YtggefpkfikimiaaTotals.lean).
  GIVEN WITH THE SEED: the statements are not yours to turn. If you find one false, say at which input.
  Laid BY PROGRAM, IN A SANDBOX (cutbox-rows.mjs): the forced cells as the released guide's own fill.sh prints them over the translation 231e801b566fb87b… (all of the seat's roots in one cut). By AI agents, Wed Nov 11 2026. No macro, syntax, notation, axiom, sorry.
-/
import Derived.Test.YtggefpkfikimiaaChecked
import GoSem.Claim
import GoSem.ClaimJoined
import GoSem.ClaimMapViews
import Derived.JoinedTies
import Derived.KernelRfl
namespace Go.Proofs.Ytggefpkfikimiaa
/- THE CELL 'sum', in the pinned program and in every row, IS THE sha256 OF THE DUMP (.gsa) THAT YtggefpkfikimiaaProg.lean LOADS. Nothing in Lean hashes anything: it is a label: what it is worth is what the hold of that sum in a sandbox is worth. -/
noncomputable def Try.pinned : Pinned := { name := "ytggefpkfikimiaa", sum := "231e801b566fb87ba85e71189b9c5eb4311d5f07fe981cfd27e247b149e47bc0", checked := Try.checked }
namespace Rows
def none {H : Type} : Left H := { results := [], args := [] }

/-- 'porismlaw08.PositDecodes': WHATEVER THE INPUT: true; the input reads as it did. -/
def positDecodesSpec : ChangeSpec := { name := "positDecodes", fn := fun _ => fun
  | [d1, d2] => { results := [.lit (.bool true)], args := [d1, d2] }
  | _ => none }
def positDecodesRow : OpenClaim := { program := "ytggefpkfikimiaa", sum := "231e801b566fb87ba85e71189b9c5eb4311d5f07fe981cfd27e247b149e47bc0", func := "porism/porismlaw08.PositDecodes", spec := "positDecodes", unfollowed := true, recurses := true, apart := false }
def PositDecodesSaid : Prop := positDecodesRow.holds Try.pinned (OpenSpec.ofChange positDecodesSpec)

/-- ITS FALSE NEIGHBOUR: 'it returns false'. Refute it at one input. -/
def positDecodesWrong : ChangeSpec := { name := "positDecodes", fn := fun _ => fun
  | [d1, d2] => { results := [.lit (.bool false)], args := [d1, d2] }
  | _ => none }
def PositDecodesWrongFalsely : Prop := positDecodesRow.holds Try.pinned (OpenSpec.ofChange positDecodesWrong)

/-- 'porismlaw08.PositMoves': WHATEVER THE INPUT: true; the input reads as it did. -/
def positMovesSpec : ChangeSpec := { name := "positMoves", fn := fun _ => fun
  | [d1, d2, d3] => { results := [.lit (.bool true)], args := [d1, d2, d3] }
  | _ => none }
def positMovesRow : OpenClaim := { program := "ytggefpkfikimiaa", sum := "231e801b566fb87ba85e71189b9c5eb4311d5f07fe981cfd27e247b149e47bc0", func := "porism/porismlaw08.PositMoves", spec := "positMoves", unfollowed := true, recurses := true, loops := true, apart := false }
def PositMovesSaid : Prop := positMovesRow.holds Try.pinned (OpenSpec.ofChange positMovesSpec)

/-- ITS FALSE NEIGHBOUR: 'it returns false'. Refute it at one input. -/
def positMovesWrong : ChangeSpec := { name := "positMoves", fn := fun _ => fun
  | [d1, d2, d3] => { results := [.lit (.bool false)], args := [d1, d2, d3] }
  | _ => none }
def PositMovesWrongFalsely : Prop := positMovesRow.holds Try.pinned (OpenSpec.ofChange positMovesWrong)

/-- 'porismlaw08.PositFewer': WHATEVER THE INPUT: true; the input reads as it did. -/
def positFewerSpec : ChangeSpec := { name := "positFewer", fn := fun _ => fun
  | [d1, d2, d3] => { results := [.lit (.bool true)], args := [d1, d2, d3] }
  | _ => none }
def positFewerRow : OpenClaim := { program := "ytggefpkfikimiaa", sum := "231e801b566fb87ba85e71189b9c5eb4311d5f07fe981cfd27e247b149e47bc0", func := "porism/porismlaw08.PositFewer", spec := "positFewer", unfollowed := true, recurses := true, loops := true, apart := false }
def PositFewerSaid : Prop := positFewerRow.holds Try.pinned (OpenSpec.ofChange positFewerSpec)

/-- ITS FALSE NEIGHBOUR: 'it returns false'. Refute it at one input. -/
def positFewerWrong : ChangeSpec := { name := "positFewer", fn := fun _ => fun
  | [d1, d2, d3] => { results := [.lit (.bool false)], args := [d1, d2, d3] }
  | _ => none }
def PositFewerWrongFalsely : Prop := positFewerRow.holds Try.pinned (OpenSpec.ofChange positFewerWrong)

/-- 'porismlaw08.PositLater': WHATEVER THE INPUT: true; the input reads as it did. -/
def positLaterSpec : ChangeSpec := { name := "positLater", fn := fun _ => fun
  | [d] => { results := [.lit (.bool true)], args := [d] }
  | _ => none }
def positLaterRow : OpenClaim := { program := "ytggefpkfikimiaa", sum := "231e801b566fb87ba85e71189b9c5eb4311d5f07fe981cfd27e247b149e47bc0", func := "porism/porismlaw08.PositLater", spec := "positLater", unfollowed := true, recurses := true, apart := false }
def PositLaterSaid : Prop := positLaterRow.holds Try.pinned (OpenSpec.ofChange positLaterSpec)

/-- ITS FALSE NEIGHBOUR: 'it returns false'. Refute it at one input. -/
def positLaterWrong : ChangeSpec := { name := "positLater", fn := fun _ => fun
  | [d] => { results := [.lit (.bool false)], args := [d] }
  | _ => none }
def PositLaterWrongFalsely : Prop := positLaterRow.holds Try.pinned (OpenSpec.ofChange positLaterWrong)

/-- 'porismlaw08.PositPlain': WHATEVER THE INPUT: true; the input reads as it did. -/
def positPlainSpec : ChangeSpec := { name := "positPlain", fn := fun _ => fun
  | [d1, d2] => { results := [.lit (.bool true)], args := [d1, d2] }
  | _ => none }
def positPlainRow : OpenClaim := { program := "ytggefpkfikimiaa", sum := "231e801b566fb87ba85e71189b9c5eb4311d5f07fe981cfd27e247b149e47bc0", func := "porism/porismlaw08.PositPlain", spec := "positPlain", unfollowed := true, recurses := true, loops := true, apart := false }
def PositPlainSaid : Prop := positPlainRow.holds Try.pinned (OpenSpec.ofChange positPlainSpec)

/-- ITS FALSE NEIGHBOUR: 'it returns false'. Refute it at one input. -/
def positPlainWrong : ChangeSpec := { name := "positPlain", fn := fun _ => fun
  | [d1, d2] => { results := [.lit (.bool false)], args := [d1, d2] }
  | _ => none }
def PositPlainWrongFalsely : Prop := positPlainRow.holds Try.pinned (OpenSpec.ofChange positPlainWrong)

/- THE SECOND FORM. 'bulk': how many values and letters a reading holds, each counted each time it is reached (what is shared counts as often as it is met; a slice's spare places count too). A statement '..UptoSaid' is the law's where the arguments, and the package variables that the reading takes, are together of bulk at most 1048576: NARROWER than '..Said'. Prove '..Said' where nothing that the law and all that it calls make is longer than what came in: it says more and counts as full. Else prove '..UptoSaid'. A law counts once. -/
mutual
def uptoBulk {H : Type} : DataW H → Nat
  | .lit (.string bytes) => bytes.length + 1
  | .lit _ => 1
  | .nil => 1
  | .ptr d => uptoBulk d + 1
  | .slice elems spare => uptoBulkAll elems + uptoBulkAll spare + 1
  | .agg parts => uptoBulkAll parts + 1
  | .iface _ d => uptoBulk d + 1
  | .map entries => uptoBulkEntries entries + 1
  | .held _ => 1
def uptoBulkAll {H : Type} : List (DataW H) → Nat
  | [] => 0
  | d :: r => uptoBulk d + uptoBulkAll r
def uptoBulkEntries {H : Type} : List (Lit × DataW H) → Nat
  | [] => 0
  | x :: r => uptoBulkEntry x + uptoBulkEntries r
def uptoBulkEntry {H : Type} : Lit × DataW H → Nat
  | (.string bytes, d) => bytes.length + uptoBulk d + 1
  | (_, d) => uptoBulk d + 1
 end
def uptoSmall : (H : Type) → List (DataW H) → Bool := fun _ ds => decide (uptoBulkAll ds ≤ 1048576)
def OpenSpec.upto (s : _root_.Go.ChangeSpec) : _root_.Go.OpenSpec := { _root_.Go.OpenSpec.ofChange s with cond := some uptoSmall }

/-- 'porismlaw08.PositDecodes', WHERE WHAT IT READS IS OF BULK AT MOST 1048576: true; the input reads as it did. -/
def positDecodesUptoRow : OpenClaim := { program := "ytggefpkfikimiaa", sum := "231e801b566fb87ba85e71189b9c5eb4311d5f07fe981cfd27e247b149e47bc0", func := "porism/porismlaw08.PositDecodes", spec := "positDecodes", unfollowed := true, recurses := true, apart := false, narrowed := true }
def PositDecodesUptoSaid : Prop := positDecodesUptoRow.holds Try.pinned (OpenSpec.upto positDecodesSpec)

/-- 'porismlaw08.PositMoves', WHERE WHAT IT READS IS OF BULK AT MOST 1048576: true; the input reads as it did. -/
def positMovesUptoRow : OpenClaim := { program := "ytggefpkfikimiaa", sum := "231e801b566fb87ba85e71189b9c5eb4311d5f07fe981cfd27e247b149e47bc0", func := "porism/porismlaw08.PositMoves", spec := "positMoves", unfollowed := true, recurses := true, loops := true, apart := false, narrowed := true }
def PositMovesUptoSaid : Prop := positMovesUptoRow.holds Try.pinned (OpenSpec.upto positMovesSpec)

/-- 'porismlaw08.PositFewer', WHERE WHAT IT READS IS OF BULK AT MOST 1048576: true; the input reads as it did. -/
def positFewerUptoRow : OpenClaim := { program := "ytggefpkfikimiaa", sum := "231e801b566fb87ba85e71189b9c5eb4311d5f07fe981cfd27e247b149e47bc0", func := "porism/porismlaw08.PositFewer", spec := "positFewer", unfollowed := true, recurses := true, loops := true, apart := false, narrowed := true }
def PositFewerUptoSaid : Prop := positFewerUptoRow.holds Try.pinned (OpenSpec.upto positFewerSpec)

/-- 'porismlaw08.PositLater', WHERE WHAT IT READS IS OF BULK AT MOST 1048576: true; the input reads as it did. -/
def positLaterUptoRow : OpenClaim := { program := "ytggefpkfikimiaa", sum := "231e801b566fb87ba85e71189b9c5eb4311d5f07fe981cfd27e247b149e47bc0", func := "porism/porismlaw08.PositLater", spec := "positLater", unfollowed := true, recurses := true, apart := false, narrowed := true }
def PositLaterUptoSaid : Prop := positLaterUptoRow.holds Try.pinned (OpenSpec.upto positLaterSpec)

/-- 'porismlaw08.PositPlain', WHERE WHAT IT READS IS OF BULK AT MOST 1048576: true; the input reads as it did. -/
def positPlainUptoRow : OpenClaim := { program := "ytggefpkfikimiaa", sum := "231e801b566fb87ba85e71189b9c5eb4311d5f07fe981cfd27e247b149e47bc0", func := "porism/porismlaw08.PositPlain", spec := "positPlain", unfollowed := true, recurses := true, loops := true, apart := false, narrowed := true }
def PositPlainUptoSaid : Prop := positPlainUptoRow.holds Try.pinned (OpenSpec.upto positPlainSpec)

end Rows
end Go.Proofs.Ytggefpkfikimiaa
