/-
  NARROWER THAN 'FOR EVERY INPUT', by the rows' own cells (each row's printed sentence says how): PositExact: loops · PositLeft: loops.
  DERIVED. THE GIVEN ROWS OF THIS SEAT. 2 by the template 'for every input the law returns true; each argument reads behind the call as it read before'; 0 by the template 'total and deterministic' (their statements: YtggefpkfikimiaaGreatTotals.lean).
  GIVEN WITH THE SEED: the statements are not yours to turn. If you find one false, say at which input.
  Laid BY PROGRAM, IN A SANDBOX (cutbox-rows.mjs): the forced cells as the released guide's own fill.sh prints them over the translation 3ba1e3ba6836e21a… (all of the seat's roots in one cut). By AI agents, Wed Nov 11 2026. No macro, syntax, notation, axiom, sorry.
-/
import Derived.Test.YtggefpkfikimiaaGreatChecked
import GoSem.Claim
import GoSem.ClaimJoined
import GoSem.ClaimMapViews
import Derived.JoinedTies
import Derived.KernelRfl
namespace Go.Proofs.YtggefpkfikimiaaGreat
/- THE CELL 'sum', in the pinned program and in every row, IS THE sha256 OF THE DUMP (.gsa) THAT YtggefpkfikimiaaGreatProg.lean LOADS. Nothing in Lean hashes anything: it is a label: what it is worth is what the hold of that sum in a sandbox is worth. -/
noncomputable def Tryz.pinned : Pinned := { name := "ytggefpkfikimiaagreat", sum := "3ba1e3ba6836e21a5390d05117570ba9f1aea42865dcf97b94e0481497136f30", checked := Tryz.checked }
namespace Rows
def none {H : Type} : Left H := { results := [], args := [] }

/-- 'porismlaw08.PositExact': WHATEVER THE INPUT: true; the input reads as it did. -/
def positExactSpec : ChangeSpec := { name := "positExact", fn := fun _ => fun
  | [d1, d2] => { results := [.lit (.bool true)], args := [d1, d2] }
  | _ => none }
def positExactRow : OpenClaim := { program := "ytggefpkfikimiaagreat", sum := "3ba1e3ba6836e21a5390d05117570ba9f1aea42865dcf97b94e0481497136f30", func := "porism/porismlaw08.PositExact", spec := "positExact", unfollowed := true, recurses := true, loops := true, apart := false }
def PositExactSaid : Prop := positExactRow.holds Tryz.pinned (OpenSpec.ofChange positExactSpec)

/-- ITS FALSE NEIGHBOUR: 'it returns false'. Refute it at one input. -/
def positExactWrong : ChangeSpec := { name := "positExact", fn := fun _ => fun
  | [d1, d2] => { results := [.lit (.bool false)], args := [d1, d2] }
  | _ => none }
def PositExactWrongFalsely : Prop := positExactRow.holds Tryz.pinned (OpenSpec.ofChange positExactWrong)

/-- 'porismlaw08.PositLeft': WHATEVER THE INPUT: true; the input reads as it did. -/
def positLeftSpec : ChangeSpec := { name := "positLeft", fn := fun _ => fun
  | [d1, d2, d3, d4, d5] => { results := [.lit (.bool true)], args := [d1, d2, d3, d4, d5] }
  | _ => none }
def positLeftRow : OpenClaim := { program := "ytggefpkfikimiaagreat", sum := "3ba1e3ba6836e21a5390d05117570ba9f1aea42865dcf97b94e0481497136f30", func := "porism/porismlaw08.PositLeft", spec := "positLeft", unfollowed := true, recurses := true, loops := true, apart := false }
def PositLeftSaid : Prop := positLeftRow.holds Tryz.pinned (OpenSpec.ofChange positLeftSpec)

/-- ITS FALSE NEIGHBOUR: 'it returns false'. Refute it at one input. -/
def positLeftWrong : ChangeSpec := { name := "positLeft", fn := fun _ => fun
  | [d1, d2, d3, d4, d5] => { results := [.lit (.bool false)], args := [d1, d2, d3, d4, d5] }
  | _ => none }
def PositLeftWrongFalsely : Prop := positLeftRow.holds Tryz.pinned (OpenSpec.ofChange positLeftWrong)

/- THE SECOND FORM. 'bulk': how many values and letters a reading holds, each counted each time it is reached (what is shared counts as often as it is met; a slice's spare places count too). A statement '..UptoSaid' is the law's where the arguments, and the package variables that the reading takes, are together of bulk at most 1048576: NARROWER than '..Said'. Prove '..Said' where nothing that the law and all that it calls make is longer than what came in: it says more and counts as full. Else prove '..UptoSaid'. A law counts once. -/
mutual
def uptoBulk {H : Type} : DataW H → Nat
  | .lit (.string bytes) => bytes.length + 1
  | .lit _ => 1
  | .nil => 1
  | .ptr d => uptoBulk d + 1
  | .slice elems spare => uptoBulkAll elems + uptoBulkAll spare + 1
  | .agg parts => uptoBulkAll parts + 1
  | .iface _ d => uptoBulk d + 1
  | .map entries => uptoBulkEntries entries + 1
  | .held _ => 1
def uptoBulkAll {H : Type} : List (DataW H) → Nat
  | [] => 0
  | d :: r => uptoBulk d + uptoBulkAll r
def uptoBulkEntries {H : Type} : List (Lit × DataW H) → Nat
  | [] => 0
  | x :: r => uptoBulkEntry x + uptoBulkEntries r
def uptoBulkEntry {H : Type} : Lit × DataW H → Nat
  | (.string bytes, d) => bytes.length + uptoBulk d + 1
  | (_, d) => uptoBulk d + 1
 end
def uptoSmall : (H : Type) → List (DataW H) → Bool := fun _ ds => decide (uptoBulkAll ds ≤ 1048576)
def OpenSpec.upto (s : _root_.Go.ChangeSpec) : _root_.Go.OpenSpec := { _root_.Go.OpenSpec.ofChange s with cond := some uptoSmall }

/-- 'porismlaw08.PositExact', WHERE WHAT IT READS IS OF BULK AT MOST 1048576: true; the input reads as it did. -/
def positExactUptoRow : OpenClaim := { program := "ytggefpkfikimiaagreat", sum := "3ba1e3ba6836e21a5390d05117570ba9f1aea42865dcf97b94e0481497136f30", func := "porism/porismlaw08.PositExact", spec := "positExact", unfollowed := true, recurses := true, loops := true, apart := false, narrowed := true }
def PositExactUptoSaid : Prop := positExactUptoRow.holds Tryz.pinned (OpenSpec.upto positExactSpec)

/-- 'porismlaw08.PositLeft', WHERE WHAT IT READS IS OF BULK AT MOST 1048576: true; the input reads as it did. -/
def positLeftUptoRow : OpenClaim := { program := "ytggefpkfikimiaagreat", sum := "3ba1e3ba6836e21a5390d05117570ba9f1aea42865dcf97b94e0481497136f30", func := "porism/porismlaw08.PositLeft", spec := "positLeft", unfollowed := true, recurses := true, loops := true, apart := false, narrowed := true }
def PositLeftUptoSaid : Prop := positLeftUptoRow.holds Tryz.pinned (OpenSpec.upto positLeftSpec)

end Rows
end Go.Proofs.YtggefpkfikimiaaGreat
