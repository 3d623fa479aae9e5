/- What the statements of layer 4 wake up. No conditions. -/
import Derived.Test.YtbfefpejcefnhaaSl
import Derived.Test.YtbfefpejcefnhaaSd
namespace Go.Proofs.Ytbfefpejcefnhaa
open Go.RowKit
set_option linter.unusedVariables false

def lam1T : Tm := .node 5 0 [.node 1 0 [], .node 1 1 []]
def lam2T : Tm := .node 5 0 [.node 1 2 [], .node 1 3 []]
theorem lam_facts : shiftE lam1T 2 0 = 0 ∧ shiftT lam1T 2 0 = lam2T ∧ cntE lam1T 0 = 2 ∧ eqT lam2T lam2T = true ∧ size lam1T = 3 ∧ size lam2T = 3 := by
  have h : shiftE lam1T 2 0 = 0 := by decide +kernel
  refine ⟨h, by rw [shiftT, if_pos h]; rfl, ?_⟩
  decide +kernel
theorem lam_fits : Fits lam1T := fits_formed _ (by decide +kernel)
theorem at_vars (w : World) (a b : Int) : At (w.alloc (.cells #[.int .i64 1, .int .i64 a, .slice none 0 0, .int .i64 1, .int .i64 b, .slice none 0 0] 24)) [.node 1 a [], .node 1 b []] (.slice (some ⟨w.heap.size, 0, none⟩) 2 2) := by
  have hn := World.alloc_heap_new w (.cells #[.int .i64 1, .int .i64 a, .slice none 0 0, .int .i64 1, .int .i64 b, .slice none 0 0] 24)
  revert hn
  generalize w.alloc (.cells #[.int .i64 1, .int .i64 a, .slice none 0 0, .int .i64 1, .int .i64 b, .slice none 0 0] 24) = W
  intro hn
  refine .row _ w.heap.size 0 2 (fun _ => .slice none 0 0) (by simp) (by decide) (fun i hi => ?_) (fun i hi => ?_) (fun i hi => ?_) (fun i hi => ?_)
  all_goals
    have hi2 : i < 2 := hi
    have : i = 0 ∨ i = 1 := by omega
    rcases this with rfl | rfl
  all_goals first | exact .nl | simp [World.cell?, hn, Tm.k, Tm.n]

end Go.Proofs.Ytbfefpejcefnhaa
