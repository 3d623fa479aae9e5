/-
  No cell of these rows narrows 'for every input' (looked for: loops, veiled, ifaces, maps, wideKeys, modest, calm, conditions, laid).
  DERIVED. THE GIVEN ROWS OF THIS SEAT. 4 by the template 'for every input the law returns true; each argument reads behind the call as it read before'; 0 by the template 'total and deterministic' (their statements: YtihbjoklppobhaaTotals.lean).
  GIVEN WITH THE SEED: the statements are not yours to turn. If you find one false, say at which input.
  Laid BY PROGRAM, IN A SANDBOX (cutbox-rows.mjs): the forced cells as the released guide's own fill.sh prints them over the translation fa80689713080e75… (all of the seat's roots in one cut). By AI agents, Wed Nov 11 2026. No macro, syntax, notation, axiom, sorry.
-/
import Derived.Test.YtihbjoklppobhaaChecked
import GoSem.Claim
import GoSem.ClaimJoined
import GoSem.ClaimMapViews
import Derived.JoinedTies
import Derived.KernelRfl
namespace Go.Proofs.Ytihbjoklppobhaa
/- THE CELL 'sum', in the pinned program and in every row, IS THE sha256 OF THE DUMP (.gsa) THAT YtihbjoklppobhaaProg.lean LOADS. Nothing in Lean hashes anything: it is a label: what it is worth is what the hold of that sum in a sandbox is worth. -/
noncomputable def Try.pinned : Pinned := { name := "ytihbjoklppobhaa", sum := "fa80689713080e753216bc7fd800e7593ad42c6c377e2ffbc33528f43a3a0312", checked := Try.checked }
namespace Rows
def none {H : Type} : Left H := { results := [], args := [] }

/-- 'porismlaw01.KindExact': WHATEVER THE INPUT: true; the input reads as it did. -/
def kindExactSpec : ChangeSpec := { name := "kindExact", fn := fun _ => fun
  | [d1, d2, d3] => { results := [.lit (.bool true)], args := [d1, d2, d3] }
  | _ => none }
def kindExactRow : OpenClaim := { program := "ytihbjoklppobhaa", sum := "fa80689713080e753216bc7fd800e7593ad42c6c377e2ffbc33528f43a3a0312", func := "porism/porismlaw01.KindExact", spec := "kindExact", inPlace := ["internal/bytealg.IndexByteString"], apart := false }
def KindExactSaid : Prop := kindExactRow.holds Try.pinned (OpenSpec.ofChange kindExactSpec)

/-- ITS FALSE NEIGHBOUR: 'it returns false'. Refute it at one input. -/
def kindExactWrong : ChangeSpec := { name := "kindExact", fn := fun _ => fun
  | [d1, d2, d3] => { results := [.lit (.bool false)], args := [d1, d2, d3] }
  | _ => none }
def KindExactWrongFalsely : Prop := kindExactRow.holds Try.pinned (OpenSpec.ofChange kindExactWrong)

/-- 'porismlaw01.KindLetters': WHATEVER THE INPUT: true; the input reads as it did. -/
def kindLettersSpec : ChangeSpec := { name := "kindLetters", fn := fun _ => fun
  | [d1, d2] => { results := [.lit (.bool true)], args := [d1, d2] }
  | _ => none }
def kindLettersRow : OpenClaim := { program := "ytihbjoklppobhaa", sum := "fa80689713080e753216bc7fd800e7593ad42c6c377e2ffbc33528f43a3a0312", func := "porism/porismlaw01.KindLetters", spec := "kindLetters", inPlace := ["internal/bytealg.IndexByteString"], apart := false }
def KindLettersSaid : Prop := kindLettersRow.holds Try.pinned (OpenSpec.ofChange kindLettersSpec)

/-- ITS FALSE NEIGHBOUR: 'it returns false'. Refute it at one input. -/
def kindLettersWrong : ChangeSpec := { name := "kindLetters", fn := fun _ => fun
  | [d1, d2] => { results := [.lit (.bool false)], args := [d1, d2] }
  | _ => none }
def KindLettersWrongFalsely : Prop := kindLettersRow.holds Try.pinned (OpenSpec.ofChange kindLettersWrong)

/-- 'porismlaw01.KindBinds': WHATEVER THE INPUT: true; the input reads as it did. -/
def kindBindsSpec : ChangeSpec := { name := "kindBinds", fn := fun _ => fun
  | [d1, d2] => { results := [.lit (.bool true)], args := [d1, d2] }
  | _ => none }
def kindBindsRow : OpenClaim := { program := "ytihbjoklppobhaa", sum := "fa80689713080e753216bc7fd800e7593ad42c6c377e2ffbc33528f43a3a0312", func := "porism/porismlaw01.KindBinds", spec := "kindBinds", inPlace := ["internal/bytealg.IndexByteString"], apart := false }
def KindBindsSaid : Prop := kindBindsRow.holds Try.pinned (OpenSpec.ofChange kindBindsSpec)

/-- ITS FALSE NEIGHBOUR: 'it returns false'. Refute it at one input. -/
def kindBindsWrong : ChangeSpec := { name := "kindBinds", fn := fun _ => fun
  | [d1, d2] => { results := [.lit (.bool false)], args := [d1, d2] }
  | _ => none }
def KindBindsWrongFalsely : Prop := kindBindsRow.holds Try.pinned (OpenSpec.ofChange kindBindsWrong)

/-- 'porismlaw01.KindTells': WHATEVER THE INPUT: true; the input reads as it did. -/
def kindTellsSpec : ChangeSpec := { name := "kindTells", fn := fun _ => fun
  | [d1, d2] => { results := [.lit (.bool true)], args := [d1, d2] }
  | _ => none }
def kindTellsRow : OpenClaim := { program := "ytihbjoklppobhaa", sum := "fa80689713080e753216bc7fd800e7593ad42c6c377e2ffbc33528f43a3a0312", func := "porism/porismlaw01.KindTells", spec := "kindTells", inPlace := ["internal/bytealg.IndexByteString"], apart := false }
def KindTellsSaid : Prop := kindTellsRow.holds Try.pinned (OpenSpec.ofChange kindTellsSpec)

/-- ITS FALSE NEIGHBOUR: 'it returns false'. Refute it at one input. -/
def kindTellsWrong : ChangeSpec := { name := "kindTells", fn := fun _ => fun
  | [d1, d2] => { results := [.lit (.bool false)], args := [d1, d2] }
  | _ => none }
def KindTellsWrongFalsely : Prop := kindTellsRow.holds Try.pinned (OpenSpec.ofChange kindTellsWrong)

/- THE SECOND FORM. 'bulk': how many values and letters a reading holds, each counted each time it is reached (what is shared counts as often as it is met; a slice's spare places count too). A statement '..UptoSaid' is the law's where the arguments, and the package variables that the reading takes, are together of bulk at most 1048576: NARROWER than '..Said'. Prove '..Said' where nothing that the law and all that it calls make is longer than what came in: it says more and counts as full. Else prove '..UptoSaid'. A law counts once. -/
mutual
def uptoBulk {H : Type} : DataW H → Nat
  | .lit (.string bytes) => bytes.length + 1
  | .lit _ => 1
  | .nil => 1
  | .ptr d => uptoBulk d + 1
  | .slice elems spare => uptoBulkAll elems + uptoBulkAll spare + 1
  | .agg parts => uptoBulkAll parts + 1
  | .iface _ d => uptoBulk d + 1
  | .map entries => uptoBulkEntries entries + 1
  | .held _ => 1
def uptoBulkAll {H : Type} : List (DataW H) → Nat
  | [] => 0
  | d :: r => uptoBulk d + uptoBulkAll r
def uptoBulkEntries {H : Type} : List (Lit × DataW H) → Nat
  | [] => 0
  | x :: r => uptoBulkEntry x + uptoBulkEntries r
def uptoBulkEntry {H : Type} : Lit × DataW H → Nat
  | (.string bytes, d) => bytes.length + uptoBulk d + 1
  | (_, d) => uptoBulk d + 1
 end
def uptoSmall : (H : Type) → List (DataW H) → Bool := fun _ ds => decide (uptoBulkAll ds ≤ 1048576)
def OpenSpec.upto (s : _root_.Go.ChangeSpec) : _root_.Go.OpenSpec := { _root_.Go.OpenSpec.ofChange s with cond := some uptoSmall }

/-- 'porismlaw01.KindExact', WHERE WHAT IT READS IS OF BULK AT MOST 1048576: true; the input reads as it did. -/
def kindExactUptoRow : OpenClaim := { program := "ytihbjoklppobhaa", sum := "fa80689713080e753216bc7fd800e7593ad42c6c377e2ffbc33528f43a3a0312", func := "porism/porismlaw01.KindExact", spec := "kindExact", inPlace := ["internal/bytealg.IndexByteString"], apart := false, narrowed := true }
def KindExactUptoSaid : Prop := kindExactUptoRow.holds Try.pinned (OpenSpec.upto kindExactSpec)

/-- 'porismlaw01.KindLetters', WHERE WHAT IT READS IS OF BULK AT MOST 1048576: true; the input reads as it did. -/
def kindLettersUptoRow : OpenClaim := { program := "ytihbjoklppobhaa", sum := "fa80689713080e753216bc7fd800e7593ad42c6c377e2ffbc33528f43a3a0312", func := "porism/porismlaw01.KindLetters", spec := "kindLetters", inPlace := ["internal/bytealg.IndexByteString"], apart := false, narrowed := true }
def KindLettersUptoSaid : Prop := kindLettersUptoRow.holds Try.pinned (OpenSpec.upto kindLettersSpec)

/-- 'porismlaw01.KindBinds', WHERE WHAT IT READS IS OF BULK AT MOST 1048576: true; the input reads as it did. -/
def kindBindsUptoRow : OpenClaim := { program := "ytihbjoklppobhaa", sum := "fa80689713080e753216bc7fd800e7593ad42c6c377e2ffbc33528f43a3a0312", func := "porism/porismlaw01.KindBinds", spec := "kindBinds", inPlace := ["internal/bytealg.IndexByteString"], apart := false, narrowed := true }
def KindBindsUptoSaid : Prop := kindBindsUptoRow.holds Try.pinned (OpenSpec.upto kindBindsSpec)

/-- 'porismlaw01.KindTells', WHERE WHAT IT READS IS OF BULK AT MOST 1048576: true; the input reads as it did. -/
def kindTellsUptoRow : OpenClaim := { program := "ytihbjoklppobhaa", sum := "fa80689713080e753216bc7fd800e7593ad42c6c377e2ffbc33528f43a3a0312", func := "porism/porismlaw01.KindTells", spec := "kindTells", inPlace := ["internal/bytealg.IndexByteString"], apart := false, narrowed := true }
def KindTellsUptoSaid : Prop := kindTellsUptoRow.holds Try.pinned (OpenSpec.upto kindTellsSpec)

end Rows
end Go.Proofs.Ytihbjoklppobhaa
