/- Each number from the base on, as many as there are, is one of the block's constants, none else is. No conditions but ranges. -/
import Derived.Test.YtcegocmndfoflaaHx
namespace Go.Proofs.Ytcegocmndfoflaa
open Go.RowKit
set_option linter.unusedVariables false

theorem decs_find (b : BlkT) : ∀ (m : Nat), m ≤ b.sorts.length → ∀ d : Int, 0 ≤ d → d < decsN b (m : Int) → ∃ k : Nat, k < m ∧ (∃ h : k < b.sorts.length, b.sorts[k].dec = true) ∧ decsN b (k : Int) = d
  | 0, _, d, h0, h1 => by simp [decsN] at h1; omega
  | m + 1, hm, d, h0, h1 => by
    rw [decsN_succ b (by omega : m < b.sorts.length)] at h1
    by_cases h : d < decsN b (m : Int)
    · obtain ⟨k, h2, h3, h4⟩ := decs_find b m (by omega) d h0 h
      exact ⟨k, by omega, h3, h4⟩
    · by_cases hd : b.sorts[m].dec = true
      · rw [if_pos hd] at h1
        exact ⟨m, by omega, ⟨by omega, hd⟩, by omega⟩
      · rw [if_neg hd] at h1
        omega
theorem decs_mono (b : BlkT) {k m : Nat} (h : k ≤ m) (hm : m ≤ b.sorts.length) : decsN b (k : Int) ≤ decsN b (m : Int) := by
  induction m with
  | zero => rw [show k = 0 by omega]; exact Int.le_refl _
  | succ m ih =>
    by_cases hk : k = m + 1
    · rw [hk]; exact Int.le_refl _
    · have := ih (by omega) (by omega)
      have h2 := decsN_succ b (by omega : m < b.sorts.length)
      rw [h2]
      split <;> omega
theorem hasDec_at (b : BlkT) {k : Nat} (h : k < b.sorts.length) : hasDec b (k : Int) = b.sorts[k].dec := by simp [hasDec, List.getElem?_eq_getElem h]
theorem decs_lt (b : BlkT) {k : Nat} (h : k < b.sorts.length) (hd : b.sorts[k].dec = true) : decsN b (k : Int) < decsN b (nsB b) := by
  have h1 := decsN_succ b h
  rw [if_pos hd] at h1
  have h2 := decs_mono b (show k + 1 ≤ b.sorts.length by omega) (Nat.le_refl _)
  unfold nsB
  omega
/-- The four numbers lie where the block's constants lie, or are -1. -/
theorem num_range (b : BlkT) {base : Int} (h0 : 0 ≤ base) (h1 : base ≤ 65535) (k : Int) :
    (formerB b base k = -1 ∨ (base ≤ formerB b base k ∧ formerB b base k < base + countB b)) ∧ (decoderB b base k = -1 ∨ (base ≤ decoderB b base k ∧ decoderB b base k < base + countB b)) ∧
    (ctorB b base k = -1 ∨ (base ≤ ctorB b base k ∧ ctorB b base k < base + countB b)) ∧ (elimB b base k = -1 ∨ (base ≤ elimB b base k ∧ elimB b base k < base + countB b)) := by
  have n0 : 0 ≤ nsB b := by unfold nsB; omega
  have c0 : 0 ≤ ncB b := by unfold ncB; omega
  have d1 := decsN_range b k
  have d2 := decsN_range b (nsB b)
  rw [former_eq b h0 h1, decoder_eq b h0 h1, ctor_eq b h0 h1, elim_eq b h0 h1]
  unfold countB
  refine ⟨?_, ?_, ?_, ?_⟩
  · split
    · rename_i h; have := inZ_iff.1 h; right; omega
    · exact .inl rfl
  · split
    · rename_i h
      rw [Bool.and_eq_true] at h
      have hk := inZ_iff.1 h.1
      obtain ⟨K, rfl⟩ : ∃ K : Nat, k = (K : Int) := ⟨k.toNat, by omega⟩
      have hK : K < b.sorts.length := by unfold nsB at hk; omega
      have := decs_lt b hK (by rw [← hasDec_at b hK]; exact h.2)
      right; omega
    · exact .inl rfl
  · split
    · rename_i h; have := inZ_iff.1 h; right; omega
    · exact .inl rfl
  · split
    · rename_i h; have := inZ_iff.1 h; right; omega
    · exact .inl rfl
/-- Of a number: the constant that bears it where the block's constants lie; none elsewhere. -/
theorem of_full (b : BlkT) {base n : Int} (h0 : 0 ≤ base) (h1 : base ≤ 65535) (hn : 0 ≤ n) :
    ((base ≤ n ∧ n < base + countB b) ∧ ∃ w : Int, (ofB b base n = (3, w) ∧ formerB b base w = n) ∨ (ofB b base n = (4, w) ∧ decoderB b base w = n) ∨ (ofB b base n = (6, w) ∧ elimB b base w = n) ∨ (ofB b base n = (5, w) ∧ ctorB b base w = n)) ∨
    (¬ (base ≤ n ∧ n < base + countB b) ∧ ofB b base n = (0, 0)) := by
  rcases ofB_spec b base n hn with ⟨w, h⟩ | ⟨he, hs, hc⟩
  · left
    obtain ⟨r1, r2, r3, r4⟩ := num_range b h0 h1 w
    refine ⟨?_, w, h⟩
    rcases h with h | h | h | h
    · have := h.2; omega
    · have := h.2; omega
    · have := h.2; omega
    · have := h.2; omega
  · right
    refine ⟨fun hr => ?_, he⟩
    have n0 : 0 ≤ nsB b := by unfold nsB; omega
    have c0 : 0 ≤ ncB b := by unfold ncB; omega
    have d2 := decsN_range b (nsB b)
    have en : nsB b = (b.sorts.length : Int) := rfl
    have ec : ncB b = (b.cons.length : Int) := rfl
    have hcnt : countB b = 2 * nsB b + decsN b (nsB b) + ncB b := rfl
    by_cases a1 : n < base + nsB b
    · have hk : (n - base).toNat < b.sorts.length := by omega
      have e : ((n - base).toNat : Int) = n - base := by omega
      have := (hs _ hk).1
      rw [former_eq b h0 h1, e, inZ_t (by omega) (by omega), if_pos rfl] at this
      omega
    · by_cases a2 : n < base + nsB b + decsN b (nsB b)
      · obtain ⟨k, hk, ⟨hk2, hd⟩, hdk⟩ := decs_find b b.sorts.length (Nat.le_refl _) (n - base - nsB b) (by omega) (by rw [← en]; omega)
        have := (hs k hk).2.1
        rw [decoder_eq b h0 h1, inZ_t (by omega) (by omega), hasDec_at b hk2, hd, Bool.and_self, if_pos rfl] at this
        omega
      · by_cases a3 : n < base + nsB b + decsN b (nsB b) + ncB b
        · have hk : (n - base - nsB b - decsN b (nsB b)).toNat < b.cons.length := by omega
          have e : ((n - base - nsB b - decsN b (nsB b)).toNat : Int) = n - base - nsB b - decsN b (nsB b) := by omega
          have := hc _ hk
          rw [ctor_eq b h0 h1, e, inZ_t (by omega) (by omega), if_pos rfl] at this
          omega
        · have hk : (n - base - nsB b - decsN b (nsB b) - ncB b).toNat < b.sorts.length := by omega
          have e : ((n - base - nsB b - decsN b (nsB b) - ncB b).toNat : Int) = n - base - nsB b - decsN b (nsB b) - ncB b := by omega
          have := (hs _ hk).2.2
          rw [elim_eq b h0 h1, e, inZ_t (by omega) (by omega), if_pos rfl] at this
          omega
end Go.Proofs.Ytcegocmndfoflaa
