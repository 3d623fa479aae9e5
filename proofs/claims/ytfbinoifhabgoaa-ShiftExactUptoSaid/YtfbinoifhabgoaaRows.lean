/-
  NARROWER THAN 'FOR EVERY INPUT', by the rows' own cells (each row's printed sentence says how): ShiftExact: loops · ShiftTwice: loops · ShiftCounts: loops · ShiftScopes: loops · ShiftSwaps: loops · ShiftKids: loops.
  DERIVED. THE GIVEN ROWS OF THIS SEAT. 6 by the template 'for every input the law returns true; each argument reads behind the call as it read before'; 0 by the template 'total and deterministic' (their statements: YtfbinoifhabgoaaTotals.lean).
  GIVEN WITH THE SEED: the statements are not yours to turn. If you find one false, say at which input.
  Laid BY PROGRAM, IN A SANDBOX (cutbox-rows.mjs): the forced cells as the released guide's own fill.sh prints them over the translation 38c88a6d8963e1b3… (all of the seat's roots in one cut). By AI agents, Wed Nov 11 2026. No macro, syntax, notation, axiom, sorry.
-/
import Derived.Test.YtfbinoifhabgoaaChecked
import GoSem.Claim
import GoSem.ClaimJoined
import GoSem.ClaimMapViews
import Derived.JoinedTies
import Derived.KernelRfl
namespace Go.Proofs.Ytfbinoifhabgoaa
/- THE CELL 'sum', in the pinned program and in every row, IS THE sha256 OF THE DUMP (.gsa) THAT YtfbinoifhabgoaaProg.lean LOADS. Nothing in Lean hashes anything: it is a label: what it is worth is what the hold of that sum in a sandbox is worth. -/
noncomputable def Try.pinned : Pinned := { name := "ytfbinoifhabgoaa", sum := "38c88a6d8963e1b3f0ac0ad45236006735515f7733a761145118ee05a3b35522", checked := Try.checked }
namespace Rows
def none {H : Type} : Left H := { results := [], args := [] }

/-- 'porismlaw04.ShiftExact': WHATEVER THE INPUT: true; the input reads as it did. -/
def shiftExactSpec : ChangeSpec := { name := "shiftExact", fn := fun _ => fun
  | [d1, d2, d3, d4] => { results := [.lit (.bool true)], args := [d1, d2, d3, d4] }
  | _ => none }
def shiftExactRow : OpenClaim := { program := "ytfbinoifhabgoaa", sum := "38c88a6d8963e1b3f0ac0ad45236006735515f7733a761145118ee05a3b35522", func := "porism/porismlaw04.ShiftExact", spec := "shiftExact", unfollowed := true, recurses := true, loops := true, apart := false }
def ShiftExactSaid : Prop := shiftExactRow.holds Try.pinned (OpenSpec.ofChange shiftExactSpec)

/-- ITS FALSE NEIGHBOUR: 'it returns false'. Refute it at one input. -/
def shiftExactWrong : ChangeSpec := { name := "shiftExact", fn := fun _ => fun
  | [d1, d2, d3, d4] => { results := [.lit (.bool false)], args := [d1, d2, d3, d4] }
  | _ => none }
def ShiftExactWrongFalsely : Prop := shiftExactRow.holds Try.pinned (OpenSpec.ofChange shiftExactWrong)

/-- 'porismlaw04.ShiftTwice': WHATEVER THE INPUT: true; the input reads as it did. -/
def shiftTwiceSpec : ChangeSpec := { name := "shiftTwice", fn := fun _ => fun
  | [d1, d2, d3, d4] => { results := [.lit (.bool true)], args := [d1, d2, d3, d4] }
  | _ => none }
def shiftTwiceRow : OpenClaim := { program := "ytfbinoifhabgoaa", sum := "38c88a6d8963e1b3f0ac0ad45236006735515f7733a761145118ee05a3b35522", func := "porism/porismlaw04.ShiftTwice", spec := "shiftTwice", unfollowed := true, recurses := true, loops := true, apart := false }
def ShiftTwiceSaid : Prop := shiftTwiceRow.holds Try.pinned (OpenSpec.ofChange shiftTwiceSpec)

/-- ITS FALSE NEIGHBOUR: 'it returns false'. Refute it at one input. -/
def shiftTwiceWrong : ChangeSpec := { name := "shiftTwice", fn := fun _ => fun
  | [d1, d2, d3, d4] => { results := [.lit (.bool false)], args := [d1, d2, d3, d4] }
  | _ => none }
def ShiftTwiceWrongFalsely : Prop := shiftTwiceRow.holds Try.pinned (OpenSpec.ofChange shiftTwiceWrong)

/-- 'porismlaw04.ShiftCounts': WHATEVER THE INPUT: true; the input reads as it did. -/
def shiftCountsSpec : ChangeSpec := { name := "shiftCounts", fn := fun _ => fun
  | [d1, d2, d3, d4] => { results := [.lit (.bool true)], args := [d1, d2, d3, d4] }
  | _ => none }
def shiftCountsRow : OpenClaim := { program := "ytfbinoifhabgoaa", sum := "38c88a6d8963e1b3f0ac0ad45236006735515f7733a761145118ee05a3b35522", func := "porism/porismlaw04.ShiftCounts", spec := "shiftCounts", unfollowed := true, recurses := true, loops := true, apart := false }
def ShiftCountsSaid : Prop := shiftCountsRow.holds Try.pinned (OpenSpec.ofChange shiftCountsSpec)

/-- ITS FALSE NEIGHBOUR: 'it returns false'. Refute it at one input. -/
def shiftCountsWrong : ChangeSpec := { name := "shiftCounts", fn := fun _ => fun
  | [d1, d2, d3, d4] => { results := [.lit (.bool false)], args := [d1, d2, d3, d4] }
  | _ => none }
def ShiftCountsWrongFalsely : Prop := shiftCountsRow.holds Try.pinned (OpenSpec.ofChange shiftCountsWrong)

/-- 'porismlaw04.ShiftScopes': WHATEVER THE INPUT: true; the input reads as it did. -/
def shiftScopesSpec : ChangeSpec := { name := "shiftScopes", fn := fun _ => fun
  | [d1, d2, d3, d4] => { results := [.lit (.bool true)], args := [d1, d2, d3, d4] }
  | _ => none }
def shiftScopesRow : OpenClaim := { program := "ytfbinoifhabgoaa", sum := "38c88a6d8963e1b3f0ac0ad45236006735515f7733a761145118ee05a3b35522", func := "porism/porismlaw04.ShiftScopes", spec := "shiftScopes", unfollowed := true, recurses := true, loops := true, apart := false }
def ShiftScopesSaid : Prop := shiftScopesRow.holds Try.pinned (OpenSpec.ofChange shiftScopesSpec)

/-- ITS FALSE NEIGHBOUR: 'it returns false'. Refute it at one input. -/
def shiftScopesWrong : ChangeSpec := { name := "shiftScopes", fn := fun _ => fun
  | [d1, d2, d3, d4] => { results := [.lit (.bool false)], args := [d1, d2, d3, d4] }
  | _ => none }
def ShiftScopesWrongFalsely : Prop := shiftScopesRow.holds Try.pinned (OpenSpec.ofChange shiftScopesWrong)

/-- 'porismlaw04.ShiftSwaps': WHATEVER THE INPUT: true; the input reads as it did. -/
def shiftSwapsSpec : ChangeSpec := { name := "shiftSwaps", fn := fun _ => fun
  | [d1, d2, d3, d4, d5] => { results := [.lit (.bool true)], args := [d1, d2, d3, d4, d5] }
  | _ => none }
def shiftSwapsRow : OpenClaim := { program := "ytfbinoifhabgoaa", sum := "38c88a6d8963e1b3f0ac0ad45236006735515f7733a761145118ee05a3b35522", func := "porism/porismlaw04.ShiftSwaps", spec := "shiftSwaps", unfollowed := true, recurses := true, loops := true, apart := false }
def ShiftSwapsSaid : Prop := shiftSwapsRow.holds Try.pinned (OpenSpec.ofChange shiftSwapsSpec)

/-- ITS FALSE NEIGHBOUR: 'it returns false'. Refute it at one input. -/
def shiftSwapsWrong : ChangeSpec := { name := "shiftSwaps", fn := fun _ => fun
  | [d1, d2, d3, d4, d5] => { results := [.lit (.bool false)], args := [d1, d2, d3, d4, d5] }
  | _ => none }
def ShiftSwapsWrongFalsely : Prop := shiftSwapsRow.holds Try.pinned (OpenSpec.ofChange shiftSwapsWrong)

/-- 'porismlaw04.ShiftKids': WHATEVER THE INPUT: true; the input reads as it did. -/
def shiftKidsSpec : ChangeSpec := { name := "shiftKids", fn := fun _ => fun
  | [d1, d2, d3] => { results := [.lit (.bool true)], args := [d1, d2, d3] }
  | _ => none }
def shiftKidsRow : OpenClaim := { program := "ytfbinoifhabgoaa", sum := "38c88a6d8963e1b3f0ac0ad45236006735515f7733a761145118ee05a3b35522", func := "porism/porismlaw04.ShiftKids", spec := "shiftKids", unfollowed := true, recurses := true, loops := true, apart := false }
def ShiftKidsSaid : Prop := shiftKidsRow.holds Try.pinned (OpenSpec.ofChange shiftKidsSpec)

/-- ITS FALSE NEIGHBOUR: 'it returns false'. Refute it at one input. -/
def shiftKidsWrong : ChangeSpec := { name := "shiftKids", fn := fun _ => fun
  | [d1, d2, d3] => { results := [.lit (.bool false)], args := [d1, d2, d3] }
  | _ => none }
def ShiftKidsWrongFalsely : Prop := shiftKidsRow.holds Try.pinned (OpenSpec.ofChange shiftKidsWrong)

/- THE SECOND FORM. 'bulk': how many values and letters a reading holds, each counted each time it is reached (what is shared counts as often as it is met; a slice's spare places count too). A statement '..UptoSaid' is the law's where the arguments, and the package variables that the reading takes, are together of bulk at most 1048576: NARROWER than '..Said'. Prove '..Said' where nothing that the law and all that it calls make is longer than what came in: it says more and counts as full. Else prove '..UptoSaid'. A law counts once. -/
mutual
def uptoBulk {H : Type} : DataW H → Nat
  | .lit (.string bytes) => bytes.length + 1
  | .lit _ => 1
  | .nil => 1
  | .ptr d => uptoBulk d + 1
  | .slice elems spare => uptoBulkAll elems + uptoBulkAll spare + 1
  | .agg parts => uptoBulkAll parts + 1
  | .iface _ d => uptoBulk d + 1
  | .map entries => uptoBulkEntries entries + 1
  | .held _ => 1
def uptoBulkAll {H : Type} : List (DataW H) → Nat
  | [] => 0
  | d :: r => uptoBulk d + uptoBulkAll r
def uptoBulkEntries {H : Type} : List (Lit × DataW H) → Nat
  | [] => 0
  | x :: r => uptoBulkEntry x + uptoBulkEntries r
def uptoBulkEntry {H : Type} : Lit × DataW H → Nat
  | (.string bytes, d) => bytes.length + uptoBulk d + 1
  | (_, d) => uptoBulk d + 1
 end
def uptoSmall : (H : Type) → List (DataW H) → Bool := fun _ ds => decide (uptoBulkAll ds ≤ 1048576)
def OpenSpec.upto (s : _root_.Go.ChangeSpec) : _root_.Go.OpenSpec := { _root_.Go.OpenSpec.ofChange s with cond := some uptoSmall }

/-- 'porismlaw04.ShiftExact', WHERE WHAT IT READS IS OF BULK AT MOST 1048576: true; the input reads as it did. -/
def shiftExactUptoRow : OpenClaim := { program := "ytfbinoifhabgoaa", sum := "38c88a6d8963e1b3f0ac0ad45236006735515f7733a761145118ee05a3b35522", func := "porism/porismlaw04.ShiftExact", spec := "shiftExact", unfollowed := true, recurses := true, loops := true, apart := false, narrowed := true }
def ShiftExactUptoSaid : Prop := shiftExactUptoRow.holds Try.pinned (OpenSpec.upto shiftExactSpec)

/-- 'porismlaw04.ShiftTwice', WHERE WHAT IT READS IS OF BULK AT MOST 1048576: true; the input reads as it did. -/
def shiftTwiceUptoRow : OpenClaim := { program := "ytfbinoifhabgoaa", sum := "38c88a6d8963e1b3f0ac0ad45236006735515f7733a761145118ee05a3b35522", func := "porism/porismlaw04.ShiftTwice", spec := "shiftTwice", unfollowed := true, recurses := true, loops := true, apart := false, narrowed := true }
def ShiftTwiceUptoSaid : Prop := shiftTwiceUptoRow.holds Try.pinned (OpenSpec.upto shiftTwiceSpec)

/-- 'porismlaw04.ShiftCounts', WHERE WHAT IT READS IS OF BULK AT MOST 1048576: true; the input reads as it did. -/
def shiftCountsUptoRow : OpenClaim := { program := "ytfbinoifhabgoaa", sum := "38c88a6d8963e1b3f0ac0ad45236006735515f7733a761145118ee05a3b35522", func := "porism/porismlaw04.ShiftCounts", spec := "shiftCounts", unfollowed := true, recurses := true, loops := true, apart := false, narrowed := true }
def ShiftCountsUptoSaid : Prop := shiftCountsUptoRow.holds Try.pinned (OpenSpec.upto shiftCountsSpec)

/-- 'porismlaw04.ShiftScopes', WHERE WHAT IT READS IS OF BULK AT MOST 1048576: true; the input reads as it did. -/
def shiftScopesUptoRow : OpenClaim := { program := "ytfbinoifhabgoaa", sum := "38c88a6d8963e1b3f0ac0ad45236006735515f7733a761145118ee05a3b35522", func := "porism/porismlaw04.ShiftScopes", spec := "shiftScopes", unfollowed := true, recurses := true, loops := true, apart := false, narrowed := true }
def ShiftScopesUptoSaid : Prop := shiftScopesUptoRow.holds Try.pinned (OpenSpec.upto shiftScopesSpec)

/-- 'porismlaw04.ShiftSwaps', WHERE WHAT IT READS IS OF BULK AT MOST 1048576: true; the input reads as it did. -/
def shiftSwapsUptoRow : OpenClaim := { program := "ytfbinoifhabgoaa", sum := "38c88a6d8963e1b3f0ac0ad45236006735515f7733a761145118ee05a3b35522", func := "porism/porismlaw04.ShiftSwaps", spec := "shiftSwaps", unfollowed := true, recurses := true, loops := true, apart := false, narrowed := true }
def ShiftSwapsUptoSaid : Prop := shiftSwapsUptoRow.holds Try.pinned (OpenSpec.upto shiftSwapsSpec)

/-- 'porismlaw04.ShiftKids', WHERE WHAT IT READS IS OF BULK AT MOST 1048576: true; the input reads as it did. -/
def shiftKidsUptoRow : OpenClaim := { program := "ytfbinoifhabgoaa", sum := "38c88a6d8963e1b3f0ac0ad45236006735515f7733a761145118ee05a3b35522", func := "porism/porismlaw04.ShiftKids", spec := "shiftKids", unfollowed := true, recurses := true, loops := true, apart := false, narrowed := true }
def ShiftKidsUptoSaid : Prop := shiftKidsUptoRow.holds Try.pinned (OpenSpec.upto shiftKidsSpec)

end Rows
end Go.Proofs.Ytfbinoifhabgoaa
