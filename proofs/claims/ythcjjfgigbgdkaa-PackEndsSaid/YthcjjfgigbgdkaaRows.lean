/-
  NARROWER THAN 'FOR EVERY INPUT', by the rows' own cells (each row's printed sentence says how): TermExact: loops · TermScope: loops · TermEqual: loops · TermBent: loops · TermParts: loops · TermBinds: loops · PackExact: loops · PackBack: loops · PackSizes: loops.
  DERIVED. THE GIVEN ROWS OF THIS SEAT. 12 by the template 'for every input the law returns true; each argument reads behind the call as it read before'; 0 by the template 'total and deterministic' (their statements: YthcjjfgigbgdkaaTotals.lean).
  GIVEN WITH THE SEED: the statements are not yours to turn. If you find one false, say at which input.
  Laid BY PROGRAM, IN A SANDBOX (cutbox-rows.mjs): the forced cells as the released guide's own fill.sh prints them over the translation dec905e3ebddd513… (all of the seat's roots in one cut). By AI agents, Wed Nov 11 2026. No macro, syntax, notation, axiom, sorry.
-/
import Derived.Test.YthcjjfgigbgdkaaChecked
import GoSem.Claim
import GoSem.ClaimJoined
import GoSem.ClaimMapViews
import Derived.JoinedTies
import Derived.KernelRfl
namespace Go.Proofs.Ythcjjfgigbgdkaa
/- THE CELL 'sum', in the pinned program and in every row, IS THE sha256 OF THE DUMP (.gsa) THAT YthcjjfgigbgdkaaProg.lean LOADS. Nothing in Lean hashes anything: it is a label: what it is worth is what the hold of that sum in a sandbox is worth. -/
noncomputable def Try.pinned : Pinned := { name := "ythcjjfgigbgdkaa", sum := "dec905e3ebddd5131151e089c07c824950974b9f881a4f7e78a60b49ecdc495a", checked := Try.checked }
namespace Rows
def none {H : Type} : Left H := { results := [], args := [] }

/-- 'porismlaw02.TermExact': WHATEVER THE INPUT: true; the input reads as it did. -/
def termExactSpec : ChangeSpec := { name := "termExact", fn := fun _ => fun
  | [d1, d2, d3, d4] => { results := [.lit (.bool true)], args := [d1, d2, d3, d4] }
  | _ => none }
def termExactRow : OpenClaim := { program := "ythcjjfgigbgdkaa", sum := "dec905e3ebddd5131151e089c07c824950974b9f881a4f7e78a60b49ecdc495a", func := "porism/porismlaw02.TermExact", spec := "termExact", unfollowed := true, recurses := true, loops := true, apart := false }
def TermExactSaid : Prop := termExactRow.holds Try.pinned (OpenSpec.ofChange termExactSpec)

/-- ITS FALSE NEIGHBOUR: 'it returns false'. Refute it at one input. -/
def termExactWrong : ChangeSpec := { name := "termExact", fn := fun _ => fun
  | [d1, d2, d3, d4] => { results := [.lit (.bool false)], args := [d1, d2, d3, d4] }
  | _ => none }
def TermExactWrongFalsely : Prop := termExactRow.holds Try.pinned (OpenSpec.ofChange termExactWrong)

/-- 'porismlaw02.TermScope': WHATEVER THE INPUT: true; the input reads as it did. -/
def termScopeSpec : ChangeSpec := { name := "termScope", fn := fun _ => fun
  | [d1, d2, d3, d4] => { results := [.lit (.bool true)], args := [d1, d2, d3, d4] }
  | _ => none }
def termScopeRow : OpenClaim := { program := "ythcjjfgigbgdkaa", sum := "dec905e3ebddd5131151e089c07c824950974b9f881a4f7e78a60b49ecdc495a", func := "porism/porismlaw02.TermScope", spec := "termScope", unfollowed := true, recurses := true, loops := true, apart := false }
def TermScopeSaid : Prop := termScopeRow.holds Try.pinned (OpenSpec.ofChange termScopeSpec)

/-- ITS FALSE NEIGHBOUR: 'it returns false'. Refute it at one input. -/
def termScopeWrong : ChangeSpec := { name := "termScope", fn := fun _ => fun
  | [d1, d2, d3, d4] => { results := [.lit (.bool false)], args := [d1, d2, d3, d4] }
  | _ => none }
def TermScopeWrongFalsely : Prop := termScopeRow.holds Try.pinned (OpenSpec.ofChange termScopeWrong)

/-- 'porismlaw02.TermEqual': WHATEVER THE INPUT: true; the input reads as it did. -/
def termEqualSpec : ChangeSpec := { name := "termEqual", fn := fun _ => fun
  | [d1, d2] => { results := [.lit (.bool true)], args := [d1, d2] }
  | _ => none }
def termEqualRow : OpenClaim := { program := "ythcjjfgigbgdkaa", sum := "dec905e3ebddd5131151e089c07c824950974b9f881a4f7e78a60b49ecdc495a", func := "porism/porismlaw02.TermEqual", spec := "termEqual", unfollowed := true, recurses := true, loops := true, apart := false }
def TermEqualSaid : Prop := termEqualRow.holds Try.pinned (OpenSpec.ofChange termEqualSpec)

/-- ITS FALSE NEIGHBOUR: 'it returns false'. Refute it at one input. -/
def termEqualWrong : ChangeSpec := { name := "termEqual", fn := fun _ => fun
  | [d1, d2] => { results := [.lit (.bool false)], args := [d1, d2] }
  | _ => none }
def TermEqualWrongFalsely : Prop := termEqualRow.holds Try.pinned (OpenSpec.ofChange termEqualWrong)

/-- 'porismlaw02.TermEnds': WHATEVER THE INPUT: true; the input reads as it did. -/
def termEndsSpec : ChangeSpec := { name := "termEnds", fn := fun _ => fun
  | [d1, d2] => { results := [.lit (.bool true)], args := [d1, d2] }
  | _ => none }
def termEndsRow : OpenClaim := { program := "ythcjjfgigbgdkaa", sum := "dec905e3ebddd5131151e089c07c824950974b9f881a4f7e78a60b49ecdc495a", func := "porism/porismlaw02.TermEnds", spec := "termEnds", unfollowed := true, recurses := true, apart := false }
def TermEndsSaid : Prop := termEndsRow.holds Try.pinned (OpenSpec.ofChange termEndsSpec)

/-- ITS FALSE NEIGHBOUR: 'it returns false'. Refute it at one input. -/
def termEndsWrong : ChangeSpec := { name := "termEnds", fn := fun _ => fun
  | [d1, d2] => { results := [.lit (.bool false)], args := [d1, d2] }
  | _ => none }
def TermEndsWrongFalsely : Prop := termEndsRow.holds Try.pinned (OpenSpec.ofChange termEndsWrong)

/-- 'porismlaw02.TermBent': WHATEVER THE INPUT: true; the input reads as it did. -/
def termBentSpec : ChangeSpec := { name := "termBent", fn := fun _ => fun
  | [d1, d2] => { results := [.lit (.bool true)], args := [d1, d2] }
  | _ => none }
def termBentRow : OpenClaim := { program := "ythcjjfgigbgdkaa", sum := "dec905e3ebddd5131151e089c07c824950974b9f881a4f7e78a60b49ecdc495a", func := "porism/porismlaw02.TermBent", spec := "termBent", unfollowed := true, recurses := true, loops := true, apart := false }
def TermBentSaid : Prop := termBentRow.holds Try.pinned (OpenSpec.ofChange termBentSpec)

/-- ITS FALSE NEIGHBOUR: 'it returns false'. Refute it at one input. -/
def termBentWrong : ChangeSpec := { name := "termBent", fn := fun _ => fun
  | [d1, d2] => { results := [.lit (.bool false)], args := [d1, d2] }
  | _ => none }
def TermBentWrongFalsely : Prop := termBentRow.holds Try.pinned (OpenSpec.ofChange termBentWrong)

/-- 'porismlaw02.TermParts': WHATEVER THE INPUT: true; the input reads as it did. -/
def termPartsSpec : ChangeSpec := { name := "termParts", fn := fun _ => fun
  | [d] => { results := [.lit (.bool true)], args := [d] }
  | _ => none }
def termPartsRow : OpenClaim := { program := "ythcjjfgigbgdkaa", sum := "dec905e3ebddd5131151e089c07c824950974b9f881a4f7e78a60b49ecdc495a", func := "porism/porismlaw02.TermParts", spec := "termParts", unfollowed := true, recurses := true, loops := true, apart := false }
def TermPartsSaid : Prop := termPartsRow.holds Try.pinned (OpenSpec.ofChange termPartsSpec)

/-- ITS FALSE NEIGHBOUR: 'it returns false'. Refute it at one input. -/
def termPartsWrong : ChangeSpec := { name := "termParts", fn := fun _ => fun
  | [d] => { results := [.lit (.bool false)], args := [d] }
  | _ => none }
def TermPartsWrongFalsely : Prop := termPartsRow.holds Try.pinned (OpenSpec.ofChange termPartsWrong)

/-- 'porismlaw02.TermBinds': WHATEVER THE INPUT: true; the input reads as it did. -/
def termBindsSpec : ChangeSpec := { name := "termBinds", fn := fun _ => fun
  | [d1, d2, d3, d4] => { results := [.lit (.bool true)], args := [d1, d2, d3, d4] }
  | _ => none }
def termBindsRow : OpenClaim := { program := "ythcjjfgigbgdkaa", sum := "dec905e3ebddd5131151e089c07c824950974b9f881a4f7e78a60b49ecdc495a", func := "porism/porismlaw02.TermBinds", spec := "termBinds", unfollowed := true, recurses := true, loops := true, apart := false }
def TermBindsSaid : Prop := termBindsRow.holds Try.pinned (OpenSpec.ofChange termBindsSpec)

/-- ITS FALSE NEIGHBOUR: 'it returns false'. Refute it at one input. -/
def termBindsWrong : ChangeSpec := { name := "termBinds", fn := fun _ => fun
  | [d1, d2, d3, d4] => { results := [.lit (.bool false)], args := [d1, d2, d3, d4] }
  | _ => none }
def TermBindsWrongFalsely : Prop := termBindsRow.holds Try.pinned (OpenSpec.ofChange termBindsWrong)

/-- 'porismlaw03.PackExact': WHATEVER THE INPUT: true; the input reads as it did. -/
def packExactSpec : ChangeSpec := { name := "packExact", fn := fun _ => fun
  | [d1, d2, d3] => { results := [.lit (.bool true)], args := [d1, d2, d3] }
  | _ => none }
def packExactRow : OpenClaim := { program := "ythcjjfgigbgdkaa", sum := "dec905e3ebddd5131151e089c07c824950974b9f881a4f7e78a60b49ecdc495a", func := "porism/porismlaw03.PackExact", spec := "packExact", unfollowed := true, recurses := true, loops := true, apart := false }
def PackExactSaid : Prop := packExactRow.holds Try.pinned (OpenSpec.ofChange packExactSpec)

/-- ITS FALSE NEIGHBOUR: 'it returns false'. Refute it at one input. -/
def packExactWrong : ChangeSpec := { name := "packExact", fn := fun _ => fun
  | [d1, d2, d3] => { results := [.lit (.bool false)], args := [d1, d2, d3] }
  | _ => none }
def PackExactWrongFalsely : Prop := packExactRow.holds Try.pinned (OpenSpec.ofChange packExactWrong)

/-- 'porismlaw03.PackBack': WHATEVER THE INPUT: true; the input reads as it did. -/
def packBackSpec : ChangeSpec := { name := "packBack", fn := fun _ => fun
  | [d1, d2, d3] => { results := [.lit (.bool true)], args := [d1, d2, d3] }
  | _ => none }
def packBackRow : OpenClaim := { program := "ythcjjfgigbgdkaa", sum := "dec905e3ebddd5131151e089c07c824950974b9f881a4f7e78a60b49ecdc495a", func := "porism/porismlaw03.PackBack", spec := "packBack", unfollowed := true, recurses := true, loops := true, apart := false }
def PackBackSaid : Prop := packBackRow.holds Try.pinned (OpenSpec.ofChange packBackSpec)

/-- ITS FALSE NEIGHBOUR: 'it returns false'. Refute it at one input. -/
def packBackWrong : ChangeSpec := { name := "packBack", fn := fun _ => fun
  | [d1, d2, d3] => { results := [.lit (.bool false)], args := [d1, d2, d3] }
  | _ => none }
def PackBackWrongFalsely : Prop := packBackRow.holds Try.pinned (OpenSpec.ofChange packBackWrong)

/-- 'porismlaw03.PackReads': WHATEVER THE INPUT: true; the input reads as it did. -/
def packReadsSpec : ChangeSpec := { name := "packReads", fn := fun _ => fun
  | [d1, d2] => { results := [.lit (.bool true)], args := [d1, d2] }
  | _ => none }
def packReadsRow : OpenClaim := { program := "ythcjjfgigbgdkaa", sum := "dec905e3ebddd5131151e089c07c824950974b9f881a4f7e78a60b49ecdc495a", func := "porism/porismlaw03.PackReads", spec := "packReads", unfollowed := true, recurses := true, apart := false }
def PackReadsSaid : Prop := packReadsRow.holds Try.pinned (OpenSpec.ofChange packReadsSpec)

/-- ITS FALSE NEIGHBOUR: 'it returns false'. Refute it at one input. -/
def packReadsWrong : ChangeSpec := { name := "packReads", fn := fun _ => fun
  | [d1, d2] => { results := [.lit (.bool false)], args := [d1, d2] }
  | _ => none }
def PackReadsWrongFalsely : Prop := packReadsRow.holds Try.pinned (OpenSpec.ofChange packReadsWrong)

/-- 'porismlaw03.PackSizes': WHATEVER THE INPUT: true; the input reads as it did. -/
def packSizesSpec : ChangeSpec := { name := "packSizes", fn := fun _ => fun
  | [d] => { results := [.lit (.bool true)], args := [d] }
  | _ => none }
def packSizesRow : OpenClaim := { program := "ythcjjfgigbgdkaa", sum := "dec905e3ebddd5131151e089c07c824950974b9f881a4f7e78a60b49ecdc495a", func := "porism/porismlaw03.PackSizes", spec := "packSizes", unfollowed := true, recurses := true, loops := true, apart := false }
def PackSizesSaid : Prop := packSizesRow.holds Try.pinned (OpenSpec.ofChange packSizesSpec)

/-- ITS FALSE NEIGHBOUR: 'it returns false'. Refute it at one input. -/
def packSizesWrong : ChangeSpec := { name := "packSizes", fn := fun _ => fun
  | [d] => { results := [.lit (.bool false)], args := [d] }
  | _ => none }
def PackSizesWrongFalsely : Prop := packSizesRow.holds Try.pinned (OpenSpec.ofChange packSizesWrong)

/-- 'porismlaw03.PackEnds': WHATEVER THE INPUT: true; the input reads as it did. -/
def packEndsSpec : ChangeSpec := { name := "packEnds", fn := fun _ => fun
  | [d1, d2] => { results := [.lit (.bool true)], args := [d1, d2] }
  | _ => none }
def packEndsRow : OpenClaim := { program := "ythcjjfgigbgdkaa", sum := "dec905e3ebddd5131151e089c07c824950974b9f881a4f7e78a60b49ecdc495a", func := "porism/porismlaw03.PackEnds", spec := "packEnds", unfollowed := true, recurses := true, apart := false }
def PackEndsSaid : Prop := packEndsRow.holds Try.pinned (OpenSpec.ofChange packEndsSpec)

/-- ITS FALSE NEIGHBOUR: 'it returns false'. Refute it at one input. -/
def packEndsWrong : ChangeSpec := { name := "packEnds", fn := fun _ => fun
  | [d1, d2] => { results := [.lit (.bool false)], args := [d1, d2] }
  | _ => none }
def PackEndsWrongFalsely : Prop := packEndsRow.holds Try.pinned (OpenSpec.ofChange packEndsWrong)

/- THE SECOND FORM. 'bulk': how many values and letters a reading holds, each counted each time it is reached (what is shared counts as often as it is met; a slice's spare places count too). A statement '..UptoSaid' is the law's where the arguments, and the package variables that the reading takes, are together of bulk at most 1048576: NARROWER than '..Said'. Prove '..Said' where nothing that the law and all that it calls make is longer than what came in: it says more and counts as full. Else prove '..UptoSaid'. A law counts once. -/
mutual
def uptoBulk {H : Type} : DataW H → Nat
  | .lit (.string bytes) => bytes.length + 1
  | .lit _ => 1
  | .nil => 1
  | .ptr d => uptoBulk d + 1
  | .slice elems spare => uptoBulkAll elems + uptoBulkAll spare + 1
  | .agg parts => uptoBulkAll parts + 1
  | .iface _ d => uptoBulk d + 1
  | .map entries => uptoBulkEntries entries + 1
  | .held _ => 1
def uptoBulkAll {H : Type} : List (DataW H) → Nat
  | [] => 0
  | d :: r => uptoBulk d + uptoBulkAll r
def uptoBulkEntries {H : Type} : List (Lit × DataW H) → Nat
  | [] => 0
  | x :: r => uptoBulkEntry x + uptoBulkEntries r
def uptoBulkEntry {H : Type} : Lit × DataW H → Nat
  | (.string bytes, d) => bytes.length + uptoBulk d + 1
  | (_, d) => uptoBulk d + 1
 end
def uptoSmall : (H : Type) → List (DataW H) → Bool := fun _ ds => decide (uptoBulkAll ds ≤ 1048576)
def OpenSpec.upto (s : _root_.Go.ChangeSpec) : _root_.Go.OpenSpec := { _root_.Go.OpenSpec.ofChange s with cond := some uptoSmall }

/-- 'porismlaw02.TermExact', WHERE WHAT IT READS IS OF BULK AT MOST 1048576: true; the input reads as it did. -/
def termExactUptoRow : OpenClaim := { program := "ythcjjfgigbgdkaa", sum := "dec905e3ebddd5131151e089c07c824950974b9f881a4f7e78a60b49ecdc495a", func := "porism/porismlaw02.TermExact", spec := "termExact", unfollowed := true, recurses := true, loops := true, apart := false, narrowed := true }
def TermExactUptoSaid : Prop := termExactUptoRow.holds Try.pinned (OpenSpec.upto termExactSpec)

/-- 'porismlaw02.TermScope', WHERE WHAT IT READS IS OF BULK AT MOST 1048576: true; the input reads as it did. -/
def termScopeUptoRow : OpenClaim := { program := "ythcjjfgigbgdkaa", sum := "dec905e3ebddd5131151e089c07c824950974b9f881a4f7e78a60b49ecdc495a", func := "porism/porismlaw02.TermScope", spec := "termScope", unfollowed := true, recurses := true, loops := true, apart := false, narrowed := true }
def TermScopeUptoSaid : Prop := termScopeUptoRow.holds Try.pinned (OpenSpec.upto termScopeSpec)

/-- 'porismlaw02.TermEqual', WHERE WHAT IT READS IS OF BULK AT MOST 1048576: true; the input reads as it did. -/
def termEqualUptoRow : OpenClaim := { program := "ythcjjfgigbgdkaa", sum := "dec905e3ebddd5131151e089c07c824950974b9f881a4f7e78a60b49ecdc495a", func := "porism/porismlaw02.TermEqual", spec := "termEqual", unfollowed := true, recurses := true, loops := true, apart := false, narrowed := true }
def TermEqualUptoSaid : Prop := termEqualUptoRow.holds Try.pinned (OpenSpec.upto termEqualSpec)

/-- 'porismlaw02.TermEnds', WHERE WHAT IT READS IS OF BULK AT MOST 1048576: true; the input reads as it did. -/
def termEndsUptoRow : OpenClaim := { program := "ythcjjfgigbgdkaa", sum := "dec905e3ebddd5131151e089c07c824950974b9f881a4f7e78a60b49ecdc495a", func := "porism/porismlaw02.TermEnds", spec := "termEnds", unfollowed := true, recurses := true, apart := false, narrowed := true }
def TermEndsUptoSaid : Prop := termEndsUptoRow.holds Try.pinned (OpenSpec.upto termEndsSpec)

/-- 'porismlaw02.TermBent', WHERE WHAT IT READS IS OF BULK AT MOST 1048576: true; the input reads as it did. -/
def termBentUptoRow : OpenClaim := { program := "ythcjjfgigbgdkaa", sum := "dec905e3ebddd5131151e089c07c824950974b9f881a4f7e78a60b49ecdc495a", func := "porism/porismlaw02.TermBent", spec := "termBent", unfollowed := true, recurses := true, loops := true, apart := false, narrowed := true }
def TermBentUptoSaid : Prop := termBentUptoRow.holds Try.pinned (OpenSpec.upto termBentSpec)

/-- 'porismlaw02.TermParts', WHERE WHAT IT READS IS OF BULK AT MOST 1048576: true; the input reads as it did. -/
def termPartsUptoRow : OpenClaim := { program := "ythcjjfgigbgdkaa", sum := "dec905e3ebddd5131151e089c07c824950974b9f881a4f7e78a60b49ecdc495a", func := "porism/porismlaw02.TermParts", spec := "termParts", unfollowed := true, recurses := true, loops := true, apart := false, narrowed := true }
def TermPartsUptoSaid : Prop := termPartsUptoRow.holds Try.pinned (OpenSpec.upto termPartsSpec)

/-- 'porismlaw02.TermBinds', WHERE WHAT IT READS IS OF BULK AT MOST 1048576: true; the input reads as it did. -/
def termBindsUptoRow : OpenClaim := { program := "ythcjjfgigbgdkaa", sum := "dec905e3ebddd5131151e089c07c824950974b9f881a4f7e78a60b49ecdc495a", func := "porism/porismlaw02.TermBinds", spec := "termBinds", unfollowed := true, recurses := true, loops := true, apart := false, narrowed := true }
def TermBindsUptoSaid : Prop := termBindsUptoRow.holds Try.pinned (OpenSpec.upto termBindsSpec)

/-- 'porismlaw03.PackExact', WHERE WHAT IT READS IS OF BULK AT MOST 1048576: true; the input reads as it did. -/
def packExactUptoRow : OpenClaim := { program := "ythcjjfgigbgdkaa", sum := "dec905e3ebddd5131151e089c07c824950974b9f881a4f7e78a60b49ecdc495a", func := "porism/porismlaw03.PackExact", spec := "packExact", unfollowed := true, recurses := true, loops := true, apart := false, narrowed := true }
def PackExactUptoSaid : Prop := packExactUptoRow.holds Try.pinned (OpenSpec.upto packExactSpec)

/-- 'porismlaw03.PackBack', WHERE WHAT IT READS IS OF BULK AT MOST 1048576: true; the input reads as it did. -/
def packBackUptoRow : OpenClaim := { program := "ythcjjfgigbgdkaa", sum := "dec905e3ebddd5131151e089c07c824950974b9f881a4f7e78a60b49ecdc495a", func := "porism/porismlaw03.PackBack", spec := "packBack", unfollowed := true, recurses := true, loops := true, apart := false, narrowed := true }
def PackBackUptoSaid : Prop := packBackUptoRow.holds Try.pinned (OpenSpec.upto packBackSpec)

/-- 'porismlaw03.PackReads', WHERE WHAT IT READS IS OF BULK AT MOST 1048576: true; the input reads as it did. -/
def packReadsUptoRow : OpenClaim := { program := "ythcjjfgigbgdkaa", sum := "dec905e3ebddd5131151e089c07c824950974b9f881a4f7e78a60b49ecdc495a", func := "porism/porismlaw03.PackReads", spec := "packReads", unfollowed := true, recurses := true, apart := false, narrowed := true }
def PackReadsUptoSaid : Prop := packReadsUptoRow.holds Try.pinned (OpenSpec.upto packReadsSpec)

/-- 'porismlaw03.PackSizes', WHERE WHAT IT READS IS OF BULK AT MOST 1048576: true; the input reads as it did. -/
def packSizesUptoRow : OpenClaim := { program := "ythcjjfgigbgdkaa", sum := "dec905e3ebddd5131151e089c07c824950974b9f881a4f7e78a60b49ecdc495a", func := "porism/porismlaw03.PackSizes", spec := "packSizes", unfollowed := true, recurses := true, loops := true, apart := false, narrowed := true }
def PackSizesUptoSaid : Prop := packSizesUptoRow.holds Try.pinned (OpenSpec.upto packSizesSpec)

/-- 'porismlaw03.PackEnds', WHERE WHAT IT READS IS OF BULK AT MOST 1048576: true; the input reads as it did. -/
def packEndsUptoRow : OpenClaim := { program := "ythcjjfgigbgdkaa", sum := "dec905e3ebddd5131151e089c07c824950974b9f881a4f7e78a60b49ecdc495a", func := "porism/porismlaw03.PackEnds", spec := "packEnds", unfollowed := true, recurses := true, apart := false, narrowed := true }
def PackEndsUptoSaid : Prop := packEndsUptoRow.holds Try.pinned (OpenSpec.upto packEndsSpec)

end Rows
end Go.Proofs.Ythcjjfgigbgdkaa
