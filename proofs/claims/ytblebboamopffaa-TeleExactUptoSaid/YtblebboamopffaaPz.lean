/- Facts about right terms. No conditions. -/
import Derived.Test.YtblebboamopffaaCi
namespace Go.Proofs.Ytblebboamopffaa
open Go.RowKit
set_option linter.unusedVariables false

/-- The empty term. -/
def noT : Tm := .node 0 0 []
theorem formedL_mem {l : List Tm} (h : formedL l = true) {u : Tm} (hu : u ∈ l) : formedB u = true := by
  induction l with
  | nil => cases hu
  | cons a l ih =>
    rw [formedL, Bool.and_eq_true] at h
    rcases List.mem_cons.1 hu with rfl | hu
    · exact h.1
    · exact ih h.2 hu
theorem kidsI_kind {k : Int} (h : 0 ≤ kidsI k) : 1 ≤ k ∧ k ≤ 13 := by
  unfold kidsI at h
  split at h
  · omega
  · split at h
    · omega
    · split at h
      · omega
      · split at h <;> omega
mutual
theorem fits_formed : ∀ t : Tm, formedB t = true → Fits t
  | .node k n l, h => by
    rw [formedB, Bool.and_eq_true, Bool.and_eq_true, decide_eq_true_eq] at h
    obtain ⟨⟨h1, h2⟩, h3⟩ := h
    have hk := kidsI_kind (k := k) (by omega)
    refine .mk _ _ _ (by unfold I64; omega) ?_ (fitsL_formed l h3)
    by_cases hl : l.length = 0
    · rw [if_pos hl] at h2; simp at h2; unfold I64; omega
    · rw [if_neg hl] at h2; simp at h2; unfold I64; omega
theorem fitsL_formed : ∀ l : List Tm, formedL l = true → ∀ u ∈ l, Fits u
  | [], _ => fun u hu => by cases hu
  | t :: l, h => fun u hu => by
    rw [formedL, Bool.and_eq_true] at h
    rcases List.mem_cons.1 hu with h0 | hu
    · rw [h0]; exact fits_formed t h.1
    · exact fitsL_formed l h.2 u hu
end
theorem check_size {t : Tm} (h : checkE t = 0) : size t ≤ 6000 := by
  unfold checkE at h
  by_cases h1 : 6000 < size t
  · rw [if_pos h1] at h; omega
  · omega
theorem check_fits {t : Tm} (h : checkE t = 0) : Fits t := fits_formed t (check_formed h)
theorem check_kid {t u : Tm} (h : checkE t = 0) (hu : u ∈ t.kids) : checkE u = 0 := by
  have hf := check_formed h
  have h1 := check_size h
  have h2 : ¬ 200 < depth t := fun hh => by rw [checkE, if_neg (by omega), if_pos hh] at h; cases h
  rw [formedB_eq, Bool.and_eq_true] at hf
  have h3 := formedL_mem hf.2 hu
  have h4 := size_le_of_mem hu
  have h5 := size_eq t
  have h6 : depth u ≤ depthL t.kids := by
    obtain ⟨i, hi, rfl⟩ := List.getElem_of_mem hu
    exact depth_get hi
  have h7 := depth_eq t
  rw [checkE, if_neg (by omega), if_neg (by omega), if_neg (by rw [h3]; simp)]
end Go.Proofs.Ytblebboamopffaa
