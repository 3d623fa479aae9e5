/- porismlaw07's moves, where it says yes. No conditions but sizes. -/
import Derived.Test.YtcegocmndfoflaaHt
namespace Go.Proofs.Ytcegocmndfoflaa
open Go.RowKit
set_option linter.unusedVariables false

set_option maxRecDepth 100000 in
set_option maxHeartbeats 1000000 in
theorem moves7_yes (a b y : Int) (h : (a < 0 ∧ b < 0) ∨ (0 ≤ a ∧ b = a + y ∧ I64 (a + y))) (w : World) :
    Calls Try.prog 28 #[.int .i64 a, .int .i64 b, .int .i64 y] w fun e w' => e = .returned (.bool true) ∧ w' = w := by
  rcases h with ⟨h1, h2⟩ | ⟨h1, rfl, h3⟩
  · go_enter Try.func28, Try.ntmps28
    go_wp2_with fail
    go_ret
    exact ⟨rfl, rfl⟩
  · have h0 : ¬ a < 0 := by omega
    have hw : IntKind.i64.wrap (a + y) = a + y := IntWalk.i64_in _ (by unfold I64 at h3; omega)
    clear h3
    have e0 : decide (a < 0) = false := decide_eq_false h0
    have e1 : decide (0 ≤ a) = true := decide_eq_true h1
    go_enter Try.func28, Try.ntmps28
    go_wp2_with fail
    go_ret
    exact ⟨rfl, rfl⟩
end Go.Proofs.Ytcegocmndfoflaa
