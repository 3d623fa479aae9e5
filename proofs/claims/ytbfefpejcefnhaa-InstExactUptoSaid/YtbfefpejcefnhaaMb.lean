/- The page's in; the boxes at a call's beginning. No conditions. -/
import Derived.Test.YtbfefpejcefnhaaMa
namespace Go.Proofs.Ytbfefpejcefnhaa
open Go.RowKit Go Go.Joins
set_option linter.unusedVariables false

theorem TellS.no {w w' : World} (x : Value) (hb : Below w.heap.size w w') : TellS w noT x (.returned (.tuple #[.agg #[.int .i64 0, .int .i64 0, .slice none 0 0], x])) w' := ⟨none, 0, rfl, .nl, hb⟩
theorem inr_any (n : Int) (w : World) :
    Calls Try.prog 40 #[.int .i64 n, .int .i64 0, .int .i64 65535] w fun e w' => e = .returned (.bool (decide (inR n))) ∧ w = w' := by
  have := in_any n 0 65535 w
  rwa [show (decide (0 ≤ n) && decide (n ≤ 65535)) = decide (inR n) by rw [Bool.eq_iff_iff, Bool.and_eq_true, decide_eq_true_eq, decide_eq_true_eq, decide_eq_true_eq]; exact Iff.rfl] at this
/-- The boxes at a call's beginning: the term's, and the result's. -/
theorem start2 (w : World) (t : Tm) (a : Option Addr) (cap : Nat) (hA : At w t.kids (.slice a t.kids.length cap)) : ∀ W', Below ((w.alloc (.cells #[.int .i64 t.k, .int .i64 t.n, .slice a t.kids.length cap] 24)).alloc (.cells #[.int .i64 0, .int .i64 0, .slice none 0 0] 24)).heap.size ((w.alloc (.cells #[.int .i64 t.k, .int .i64 t.n, .slice a t.kids.length cap] 24)).alloc (.cells #[.int .i64 0, .int .i64 0, .slice none 0 0] 24)) W' →
    (W'.cell? ⟨w.heap.size, 0, none⟩ = some (.int .i64 t.k) ∧ W'.cell? ⟨w.heap.size, 1, none⟩ = some (.int .i64 t.n) ∧ W'.cell? ⟨w.heap.size, 2, none⟩ = some (.slice a t.kids.length cap)) ∧
      W'.heap[w.heap.size + 1]? = some (.cells #[.int .i64 0, .int .i64 0, .slice none 0 0] 24 (0, 0)) ∧ At W' t.kids (.slice a t.kids.length cap) ∧ Below w.heap.size w W' ∧ w.heap.size + 2 ≤ W'.heap.size := fun W' hb => by
  have hbW : Below w.heap.size w ((w.alloc (.cells #[.int .i64 t.k, .int .i64 t.n, .slice a t.kids.length cap] 24)).alloc (.cells #[.int .i64 0, .int .i64 0, .slice none 0 0] 24)) := ((Below.refl _ w).alloc (Nat.le_refl _) _).alloc (by simp) _
  have hn := World.alloc_heap_new (w.alloc (.cells #[.int .i64 t.k, .int .i64 t.n, .slice a t.kids.length cap] 24)) (.cells #[.int .i64 0, .int .i64 0, .slice none 0 0] 24)
  simp only [World.size_alloc] at hn
  have hz : ((w.alloc (.cells #[.int .i64 t.k, .int .i64 t.n, .slice a t.kids.length cap] 24)).alloc (.cells #[.int .i64 0, .int .i64 0, .slice none 0 0] 24)).heap.size = w.heap.size + 2 := by simp
  refine ⟨⟨gcell hb ?_, gcell hb ?_, gcell hb ?_⟩, (hb.block _ (by omega)).trans hn, hA.bel (hbW.trans (hb.mono (by omega))) (Nat.le_refl _), hbW.trans (hb.mono (by omega)), by have := hb.size; omega⟩
  all_goals simp [go_sem]
end Go.Proofs.Ytbfefpejcefnhaa
