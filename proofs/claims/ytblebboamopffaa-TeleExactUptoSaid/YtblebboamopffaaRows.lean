/-
  NARROWER THAN 'FOR EVERY INPUT', by the rows' own cells (each row's printed sentence says how): TeleExact: loops · TeleBack: loops · TeleAgain: loops · TeleParts: loops · TeleScopes: loops.
  DERIVED. THE GIVEN ROWS OF THIS SEAT. 6 by the template 'for every input the law returns true; each argument reads behind the call as it read before'; 0 by the template 'total and deterministic' (their statements: YtblebboamopffaaTotals.lean).
  GIVEN WITH THE SEED: the statements are not yours to turn. If you find one false, say at which input.
  Laid BY PROGRAM, IN A SANDBOX (cutbox-rows.mjs): the forced cells as the released guide's own fill.sh prints them over the translation 772e903a956b9e9d… (all of the seat's roots in one cut). By AI agents, Wed Nov 11 2026. No macro, syntax, notation, axiom, sorry.
-/
import Derived.Test.YtblebboamopffaaChecked
import GoSem.Claim
import GoSem.ClaimJoined
import GoSem.ClaimMapViews
import Derived.JoinedTies
import Derived.KernelRfl
namespace Go.Proofs.Ytblebboamopffaa
/- THE CELL 'sum', in the pinned program and in every row, IS THE sha256 OF THE DUMP (.gsa) THAT YtblebboamopffaaProg.lean LOADS. Nothing in Lean hashes anything: it is a label: what it is worth is what the hold of that sum in a sandbox is worth. -/
noncomputable def Try.pinned : Pinned := { name := "ytblebboamopffaa", sum := "772e903a956b9e9d49153c4f2f63438119d9f09abeba5a48c9838e3dde4fd7c8", checked := Try.checked }
namespace Rows
def none {H : Type} : Left H := { results := [], args := [] }

/-- 'porismlaw06.TeleExact': WHATEVER THE INPUT: true; the input reads as it did. -/
def teleExactSpec : ChangeSpec := { name := "teleExact", fn := fun _ => fun
  | [d1, d2, d3] => { results := [.lit (.bool true)], args := [d1, d2, d3] }
  | _ => none }
def teleExactRow : OpenClaim := { program := "ytblebboamopffaa", sum := "772e903a956b9e9d49153c4f2f63438119d9f09abeba5a48c9838e3dde4fd7c8", func := "porism/porismlaw06.TeleExact", spec := "teleExact", unfollowed := true, recurses := true, loops := true, apart := false }
def TeleExactSaid : Prop := teleExactRow.holds Try.pinned (OpenSpec.ofChange teleExactSpec)

/-- ITS FALSE NEIGHBOUR: 'it returns false'. Refute it at one input. -/
def teleExactWrong : ChangeSpec := { name := "teleExact", fn := fun _ => fun
  | [d1, d2, d3] => { results := [.lit (.bool false)], args := [d1, d2, d3] }
  | _ => none }
def TeleExactWrongFalsely : Prop := teleExactRow.holds Try.pinned (OpenSpec.ofChange teleExactWrong)

/-- 'porismlaw06.TeleBack': WHATEVER THE INPUT: true; the input reads as it did. -/
def teleBackSpec : ChangeSpec := { name := "teleBack", fn := fun _ => fun
  | [d1, d2] => { results := [.lit (.bool true)], args := [d1, d2] }
  | _ => none }
def teleBackRow : OpenClaim := { program := "ytblebboamopffaa", sum := "772e903a956b9e9d49153c4f2f63438119d9f09abeba5a48c9838e3dde4fd7c8", func := "porism/porismlaw06.TeleBack", spec := "teleBack", unfollowed := true, recurses := true, loops := true, apart := false }
def TeleBackSaid : Prop := teleBackRow.holds Try.pinned (OpenSpec.ofChange teleBackSpec)

/-- ITS FALSE NEIGHBOUR: 'it returns false'. Refute it at one input. -/
def teleBackWrong : ChangeSpec := { name := "teleBack", fn := fun _ => fun
  | [d1, d2] => { results := [.lit (.bool false)], args := [d1, d2] }
  | _ => none }
def TeleBackWrongFalsely : Prop := teleBackRow.holds Try.pinned (OpenSpec.ofChange teleBackWrong)

/-- 'porismlaw06.TeleAgain': WHATEVER THE INPUT: true; the input reads as it did. -/
def teleAgainSpec : ChangeSpec := { name := "teleAgain", fn := fun _ => fun
  | [d] => { results := [.lit (.bool true)], args := [d] }
  | _ => none }
def teleAgainRow : OpenClaim := { program := "ytblebboamopffaa", sum := "772e903a956b9e9d49153c4f2f63438119d9f09abeba5a48c9838e3dde4fd7c8", func := "porism/porismlaw06.TeleAgain", spec := "teleAgain", unfollowed := true, recurses := true, loops := true, apart := false }
def TeleAgainSaid : Prop := teleAgainRow.holds Try.pinned (OpenSpec.ofChange teleAgainSpec)

/-- ITS FALSE NEIGHBOUR: 'it returns false'. Refute it at one input. -/
def teleAgainWrong : ChangeSpec := { name := "teleAgain", fn := fun _ => fun
  | [d] => { results := [.lit (.bool false)], args := [d] }
  | _ => none }
def TeleAgainWrongFalsely : Prop := teleAgainRow.holds Try.pinned (OpenSpec.ofChange teleAgainWrong)

/-- 'porismlaw06.TeleParts': WHATEVER THE INPUT: true; the input reads as it did. -/
def telePartsSpec : ChangeSpec := { name := "teleParts", fn := fun _ => fun
  | [d1, d2, d3] => { results := [.lit (.bool true)], args := [d1, d2, d3] }
  | _ => none }
def telePartsRow : OpenClaim := { program := "ytblebboamopffaa", sum := "772e903a956b9e9d49153c4f2f63438119d9f09abeba5a48c9838e3dde4fd7c8", func := "porism/porismlaw06.TeleParts", spec := "teleParts", unfollowed := true, recurses := true, loops := true, apart := false }
def TelePartsSaid : Prop := telePartsRow.holds Try.pinned (OpenSpec.ofChange telePartsSpec)

/-- ITS FALSE NEIGHBOUR: 'it returns false'. Refute it at one input. -/
def telePartsWrong : ChangeSpec := { name := "teleParts", fn := fun _ => fun
  | [d1, d2, d3] => { results := [.lit (.bool false)], args := [d1, d2, d3] }
  | _ => none }
def TelePartsWrongFalsely : Prop := telePartsRow.holds Try.pinned (OpenSpec.ofChange telePartsWrong)

/-- 'porismlaw06.TeleVars': WHATEVER THE INPUT: true; the input reads as it did. -/
def teleVarsSpec : ChangeSpec := { name := "teleVars", fn := fun _ => fun
  | [d1, d2] => { results := [.lit (.bool true)], args := [d1, d2] }
  | _ => none }
def teleVarsRow : OpenClaim := { program := "ytblebboamopffaa", sum := "772e903a956b9e9d49153c4f2f63438119d9f09abeba5a48c9838e3dde4fd7c8", func := "porism/porismlaw06.TeleVars", spec := "teleVars", unfollowed := true, recurses := true, apart := false }
def TeleVarsSaid : Prop := teleVarsRow.holds Try.pinned (OpenSpec.ofChange teleVarsSpec)

/-- ITS FALSE NEIGHBOUR: 'it returns false'. Refute it at one input. -/
def teleVarsWrong : ChangeSpec := { name := "teleVars", fn := fun _ => fun
  | [d1, d2] => { results := [.lit (.bool false)], args := [d1, d2] }
  | _ => none }
def TeleVarsWrongFalsely : Prop := teleVarsRow.holds Try.pinned (OpenSpec.ofChange teleVarsWrong)

/-- 'porismlaw06.TeleScopes': WHATEVER THE INPUT: true; the input reads as it did. -/
def teleScopesSpec : ChangeSpec := { name := "teleScopes", fn := fun _ => fun
  | [d1, d2] => { results := [.lit (.bool true)], args := [d1, d2] }
  | _ => none }
def teleScopesRow : OpenClaim := { program := "ytblebboamopffaa", sum := "772e903a956b9e9d49153c4f2f63438119d9f09abeba5a48c9838e3dde4fd7c8", func := "porism/porismlaw06.TeleScopes", spec := "teleScopes", unfollowed := true, recurses := true, loops := true, apart := false }
def TeleScopesSaid : Prop := teleScopesRow.holds Try.pinned (OpenSpec.ofChange teleScopesSpec)

/-- ITS FALSE NEIGHBOUR: 'it returns false'. Refute it at one input. -/
def teleScopesWrong : ChangeSpec := { name := "teleScopes", fn := fun _ => fun
  | [d1, d2] => { results := [.lit (.bool false)], args := [d1, d2] }
  | _ => none }
def TeleScopesWrongFalsely : Prop := teleScopesRow.holds Try.pinned (OpenSpec.ofChange teleScopesWrong)

/- THE SECOND FORM. 'bulk': how many values and letters a reading holds, each counted each time it is reached (what is shared counts as often as it is met; a slice's spare places count too). A statement '..UptoSaid' is the law's where the arguments, and the package variables that the reading takes, are together of bulk at most 1048576: NARROWER than '..Said'. Prove '..Said' where nothing that the law and all that it calls make is longer than what came in: it says more and counts as full. Else prove '..UptoSaid'. A law counts once. -/
mutual
def uptoBulk {H : Type} : DataW H → Nat
  | .lit (.string bytes) => bytes.length + 1
  | .lit _ => 1
  | .nil => 1
  | .ptr d => uptoBulk d + 1
  | .slice elems spare => uptoBulkAll elems + uptoBulkAll spare + 1
  | .agg parts => uptoBulkAll parts + 1
  | .iface _ d => uptoBulk d + 1
  | .map entries => uptoBulkEntries entries + 1
  | .held _ => 1
def uptoBulkAll {H : Type} : List (DataW H) → Nat
  | [] => 0
  | d :: r => uptoBulk d + uptoBulkAll r
def uptoBulkEntries {H : Type} : List (Lit × DataW H) → Nat
  | [] => 0
  | x :: r => uptoBulkEntry x + uptoBulkEntries r
def uptoBulkEntry {H : Type} : Lit × DataW H → Nat
  | (.string bytes, d) => bytes.length + uptoBulk d + 1
  | (_, d) => uptoBulk d + 1
 end
def uptoSmall : (H : Type) → List (DataW H) → Bool := fun _ ds => decide (uptoBulkAll ds ≤ 1048576)
def OpenSpec.upto (s : _root_.Go.ChangeSpec) : _root_.Go.OpenSpec := { _root_.Go.OpenSpec.ofChange s with cond := some uptoSmall }

/-- 'porismlaw06.TeleExact', WHERE WHAT IT READS IS OF BULK AT MOST 1048576: true; the input reads as it did. -/
def teleExactUptoRow : OpenClaim := { program := "ytblebboamopffaa", sum := "772e903a956b9e9d49153c4f2f63438119d9f09abeba5a48c9838e3dde4fd7c8", func := "porism/porismlaw06.TeleExact", spec := "teleExact", unfollowed := true, recurses := true, loops := true, apart := false, narrowed := true }
def TeleExactUptoSaid : Prop := teleExactUptoRow.holds Try.pinned (OpenSpec.upto teleExactSpec)

/-- 'porismlaw06.TeleBack', WHERE WHAT IT READS IS OF BULK AT MOST 1048576: true; the input reads as it did. -/
def teleBackUptoRow : OpenClaim := { program := "ytblebboamopffaa", sum := "772e903a956b9e9d49153c4f2f63438119d9f09abeba5a48c9838e3dde4fd7c8", func := "porism/porismlaw06.TeleBack", spec := "teleBack", unfollowed := true, recurses := true, loops := true, apart := false, narrowed := true }
def TeleBackUptoSaid : Prop := teleBackUptoRow.holds Try.pinned (OpenSpec.upto teleBackSpec)

/-- 'porismlaw06.TeleAgain', WHERE WHAT IT READS IS OF BULK AT MOST 1048576: true; the input reads as it did. -/
def teleAgainUptoRow : OpenClaim := { program := "ytblebboamopffaa", sum := "772e903a956b9e9d49153c4f2f63438119d9f09abeba5a48c9838e3dde4fd7c8", func := "porism/porismlaw06.TeleAgain", spec := "teleAgain", unfollowed := true, recurses := true, loops := true, apart := false, narrowed := true }
def TeleAgainUptoSaid : Prop := teleAgainUptoRow.holds Try.pinned (OpenSpec.upto teleAgainSpec)

/-- 'porismlaw06.TeleParts', WHERE WHAT IT READS IS OF BULK AT MOST 1048576: true; the input reads as it did. -/
def telePartsUptoRow : OpenClaim := { program := "ytblebboamopffaa", sum := "772e903a956b9e9d49153c4f2f63438119d9f09abeba5a48c9838e3dde4fd7c8", func := "porism/porismlaw06.TeleParts", spec := "teleParts", unfollowed := true, recurses := true, loops := true, apart := false, narrowed := true }
def TelePartsUptoSaid : Prop := telePartsUptoRow.holds Try.pinned (OpenSpec.upto telePartsSpec)

/-- 'porismlaw06.TeleVars', WHERE WHAT IT READS IS OF BULK AT MOST 1048576: true; the input reads as it did. -/
def teleVarsUptoRow : OpenClaim := { program := "ytblebboamopffaa", sum := "772e903a956b9e9d49153c4f2f63438119d9f09abeba5a48c9838e3dde4fd7c8", func := "porism/porismlaw06.TeleVars", spec := "teleVars", unfollowed := true, recurses := true, apart := false, narrowed := true }
def TeleVarsUptoSaid : Prop := teleVarsUptoRow.holds Try.pinned (OpenSpec.upto teleVarsSpec)

/-- 'porismlaw06.TeleScopes', WHERE WHAT IT READS IS OF BULK AT MOST 1048576: true; the input reads as it did. -/
def teleScopesUptoRow : OpenClaim := { program := "ytblebboamopffaa", sum := "772e903a956b9e9d49153c4f2f63438119d9f09abeba5a48c9838e3dde4fd7c8", func := "porism/porismlaw06.TeleScopes", spec := "teleScopes", unfollowed := true, recurses := true, loops := true, apart := false, narrowed := true }
def TeleScopesUptoSaid : Prop := teleScopesUptoRow.holds Try.pinned (OpenSpec.upto teleScopesSpec)

end Rows
end Go.Proofs.Ytblebboamopffaa
