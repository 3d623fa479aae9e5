/- The heavy test of three terms. No conditions. -/
import Derived.Test.YtbfefpejcefnhaaIb
namespace Go.Proofs.Ytbfefpejcefnhaa
open Go.RowKit
set_option linter.unusedVariables false

theorem row3 {w : World} {t u r : Tm} {v v2 v3 : Value} (hA : At w t.kids v) (hB : At w u.kids v2) (hC : At w r.kids v3) : At (w.alloc (.cells #[.int .i64 t.k, .int .i64 t.n, v, .int .i64 u.k, .int .i64 u.n, v2, .int .i64 r.k, .int .i64 r.n, v3] 24)) [t, u, r] (.slice (some ⟨w.heap.size, 0, none⟩) 3 3) := by
  have hn := World.alloc_heap_new w (.cells #[.int .i64 t.k, .int .i64 t.n, v, .int .i64 u.k, .int .i64 u.n, v2, .int .i64 r.k, .int .i64 r.n, v3] 24)
  have hA' := hA.alloc (.cells #[.int .i64 t.k, .int .i64 t.n, v, .int .i64 u.k, .int .i64 u.n, v2, .int .i64 r.k, .int .i64 r.n, v3] 24)
  have hB' := hB.alloc (.cells #[.int .i64 t.k, .int .i64 t.n, v, .int .i64 u.k, .int .i64 u.n, v2, .int .i64 r.k, .int .i64 r.n, v3] 24)
  have hC' := hC.alloc (.cells #[.int .i64 t.k, .int .i64 t.n, v, .int .i64 u.k, .int .i64 u.n, v2, .int .i64 r.k, .int .i64 r.n, v3] 24)
  revert hn hA' hB' hC'
  generalize w.alloc (.cells #[.int .i64 t.k, .int .i64 t.n, v, .int .i64 u.k, .int .i64 u.n, v2, .int .i64 r.k, .int .i64 r.n, v3] 24) = W
  intro hn hA' hB' hC'
  refine .row _ w.heap.size 0 3 (fun i => if i = 0 then v else if i = 1 then v2 else v3) (by simp) (by decide) (fun i hi => ?_) (fun i hi => ?_) (fun i hi => ?_) (fun i hi => ?_)
  all_goals
    have hi2 : i < 3 := hi
    have : i = 0 ∨ i = 1 ∨ i = 2 := by omega
    rcases this with rfl | rfl | rfl
  all_goals first | exact hA' | exact hB' | exact hC' | simp [World.cell?, hn]
theorem heavy3 (t u r : Tm) (hs : size t ≤ 1048576) (hs2 : size u ≤ 1048576) (hs3 : size r ≤ 1048576) (w : World) (v v2 v3 : Value) (hA : At w t.kids v) (hM : At w u.kids v2) (hR : At w r.kids v3) :
    Calls Try.prog 12 #[.slice (some ⟨w.heap.size + 1 + 1 + 1, 0, none⟩) 3 3] ((((w.alloc (.cells #[.int .i64 t.k, .int .i64 t.n, v] 24)).alloc (.cells #[.int .i64 u.k, .int .i64 u.n, v2] 24)).alloc (.cells #[.int .i64 r.k, .int .i64 r.n, v3] 24)).alloc (.cells #[.int .i64 t.k, .int .i64 t.n, v, .int .i64 u.k, .int .i64 u.n, v2, .int .i64 r.k, .int .i64 r.n, v3] 24)) fun e w' => e = .returned (.bool (heavyB [t, u, r])) ∧ One w w.heap.size t v w' ∧ One w (w.heap.size + 1) u v2 w' ∧ One w (w.heap.size + 1 + 1) r v3 w' := by
  have hT0 := (two_start w t u v v2 hA hM).ones
  have hg := below_al ((w.alloc (.cells #[.int .i64 t.k, .int .i64 t.n, v] 24)).alloc (.cells #[.int .i64 u.k, .int .i64 u.n, v2] 24)) (.cells #[.int .i64 r.k, .int .i64 r.n, v3] 24)
  have h1 := hT0.1.bel hg
  have h2 := hT0.2.bel hg
  have h3 := one_start ((w.alloc (.cells #[.int .i64 t.k, .int .i64 t.n, v] 24)).alloc (.cells #[.int .i64 u.k, .int .i64 u.n, v2] 24)) r v3 ((hR.alloc _).alloc _)
  simp only [World.size_alloc] at h3
  have h3' : One w (w.heap.size + 1 + 1) r v3 _ := ⟨h3.1, h3.2.1, h1.2.2⟩
  have HH := heavy_any [t, u, r] (by simp [sizeL]; omega) _ _ (row3 h1.2.1 h2.2.1 h3.2.1)
  simp only [World.size_alloc] at HH
  have hb6 := below_al (((w.alloc (.cells #[.int .i64 t.k, .int .i64 t.n, v] 24)).alloc (.cells #[.int .i64 u.k, .int .i64 u.n, v2] 24)).alloc (.cells #[.int .i64 r.k, .int .i64 r.n, v3] 24)) (.cells #[.int .i64 t.k, .int .i64 t.n, v, .int .i64 u.k, .int .i64 u.n, v2, .int .i64 r.k, .int .i64 r.n, v3] 24)
  exact HH.mono fun e w' ⟨he, hb⟩ => ⟨he, h1.bel (hb6.trans (hb.mono (by simp))), h2.bel (hb6.trans (hb.mono (by simp))), h3'.bel (hb6.trans (hb.mono (by simp)))⟩
theorem fits_two {a b : Tm} (h : Fits a) (h2 : Fits b) : ∀ x ∈ [a, b], Fits x := fun x hx => by
  rcases List.mem_cons.1 hx with rfl | hx
  · exact h
  · rw [List.mem_singleton.1 hx]; exact h2
end Go.Proofs.Ytbfefpejcefnhaa
