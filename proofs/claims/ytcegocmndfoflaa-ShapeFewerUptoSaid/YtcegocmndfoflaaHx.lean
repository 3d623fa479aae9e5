/- The numbers of a block's constants: pure mathematics behind the laws of shape. No conditions but ranges. -/
import Derived.Test.YtcegocmndfoflaaHf
namespace Go.Proofs.Ytcegocmndfoflaa
open Go.RowKit
set_option linter.unusedVariables false

def MovesOk (a b y : Int) : Prop := (a < 0 ∧ b < 0) ∨ (0 ≤ a ∧ b = a + y ∧ I64 (a + y))
theorem inZ_t {n lo hi : Int} (h : lo ≤ n) (h2 : n ≤ hi) : inZ n lo hi = true := inZ_iff.2 ⟨h, h2⟩
theorem mv_if {base y q : Int} {c : Bool} (h0 : 0 ≤ base) (h1 : base ≤ 999) (h2 : 0 ≤ y) (h3 : y ≤ 999) (hq : c = true → 0 ≤ q) (hq2 : c = true → q ≤ 100000000) :
    MovesOk (if c = true then base + q else -1) (if c = true then base + y + q else -1) y := by
  unfold MovesOk I64
  cases c with
  | true => have a := hq rfl; have b := hq2 rfl; simp only [if_true]; omega
  | false => simp
theorem former_eq (b : BlkT) {base : Int} (h0 : 0 ≤ base) (h1 : base ≤ 65535) (k : Int) : formerB b base k = if inZ k 0 (nsB b - 1) = true then base + k else -1 := by rw [formerB, inZ_t h0 h1, Bool.true_and]
theorem decoder_eq (b : BlkT) {base : Int} (h0 : 0 ≤ base) (h1 : base ≤ 65535) (k : Int) : decoderB b base k = if (inZ k 0 (nsB b - 1) && hasDec b k) = true then base + (nsB b + decsN b k) else -1 := by rw [decoderB, inZ_t h0 h1, Bool.true_and]; split <;> omega
theorem ctor_eq (b : BlkT) {base : Int} (h0 : 0 ≤ base) (h1 : base ≤ 65535) (k : Int) : ctorB b base k = if inZ k 0 (ncB b - 1) = true then base + (nsB b + decsN b (nsB b) + k) else -1 := by rw [ctorB, inZ_t h0 h1, Bool.true_and]; split <;> omega
theorem elim_eq (b : BlkT) {base : Int} (h0 : 0 ≤ base) (h1 : base ≤ 65535) (k : Int) : elimB b base k = if inZ k 0 (nsB b - 1) = true then base + (nsB b + decsN b (nsB b) + ncB b + k) else -1 := by rw [elimB, inZ_t h0 h1, Bool.true_and]; split <;> omega
theorem mv_all (b : BlkT) (hn : nsB b ≤ 1048576) (hc : ncB b ≤ 1048576) {base y : Int} (h0 : 0 ≤ base) (h1 : base ≤ 999) (h2 : 0 ≤ y) (h3 : y ≤ 999) (k : Int) :
    MovesOk (formerB b base k) (formerB b (base + y) k) y ∧ MovesOk (decoderB b base k) (decoderB b (base + y) k) y ∧ MovesOk (ctorB b base k) (ctorB b (base + y) k) y ∧ MovesOk (elimB b base k) (elimB b (base + y) k) y := by
  have n0 : 0 ≤ nsB b := by unfold nsB; omega
  have c0 : 0 ≤ ncB b := by unfold ncB; omega
  have d1 := decsN_range b k
  have d2 := decsN_range b (nsB b)
  rw [former_eq b h0 (by omega), former_eq b (by omega) (by omega), decoder_eq b h0 (by omega), decoder_eq b (by omega) (by omega), ctor_eq b h0 (by omega), ctor_eq b (by omega) (by omega), elim_eq b h0 (by omega), elim_eq b (by omega) (by omega)]
  refine ⟨mv_if h0 h1 h2 h3 (fun h => ?_) (fun h => ?_), mv_if h0 h1 h2 h3 (fun h => ?_) (fun h => ?_), mv_if h0 h1 h2 h3 (fun h => ?_) (fun h => ?_), mv_if h0 h1 h2 h3 (fun h => ?_) (fun h => ?_)⟩
  all_goals
    try rw [Bool.and_eq_true] at h
    try replace h := h.1
    have := inZ_iff.1 h
    omega
theorem mv_hit {base y n : Int} {c : Bool} {q : Int} (hn : 0 ≤ n) (hy : 0 ≤ y) : ((if c = true then base + y + q else -1) = n + y ∧ 0 ≤ n + y) ↔ ((if c = true then base + q else -1) = n ∧ 0 ≤ n) := by
  cases c <;> simp <;> omega
theorem ofAt_mv (b : BlkT) {base y n : Int} (h0 : 0 ≤ base) (h1 : base ≤ 999) (h2 : 0 ≤ y) (h3 : y ≤ 999) (hn : 0 ≤ n) (k : Nat) : ofAt b (base + y) (n + y) k = ofAt b base n k := by
  unfold ofAt
  rw [former_eq b h0 (by omega), former_eq b (by omega) (by omega), decoder_eq b h0 (by omega), decoder_eq b (by omega) (by omega), elim_eq b h0 (by omega), elim_eq b (by omega) (by omega)]
  simp only [mv_hit hn h2]
theorem ofCt_mv (b : BlkT) {base y n : Int} (h0 : 0 ≤ base) (h1 : base ≤ 999) (h2 : 0 ≤ y) (h3 : y ≤ 999) (hn : 0 ≤ n) (k : Nat) : ofCt b (base + y) (n + y) k = ofCt b base n k := by
  unfold ofCt
  rw [ctor_eq b h0 (by omega), ctor_eq b (by omega) (by omega)]
  simp only [mv_hit hn h2]
theorem ofB_mv (b : BlkT) {base y n : Int} (h0 : 0 ≤ base) (h1 : base ≤ 999) (h2 : 0 ≤ y) (h3 : y ≤ 999) (hn : 0 ≤ n) : ofB b (base + y) (n + y) = ofB b base n := by
  unfold ofB
  rw [show ofAt b (base + y) (n + y) = ofAt b base n from funext fun k => ofAt_mv b h0 h1 h2 h3 hn k, show ofCt b (base + y) (n + y) = ofCt b base n from funext fun k => ofCt_mv b h0 h1 h2 h3 hn k]
theorem first_none {f : Nat → Option (Int × Int)} : ∀ {m : Nat}, firstOf f m = none → ∀ j, j < m → f j = none
  | 0, _, j, hj => absurd hj (Nat.not_lt_zero _)
  | m + 1, h, j, hj => by
    unfold firstOf at h
    split at h
    · cases h
    · rename_i h1
      by_cases hjm : j < m
      · exact first_none h1 j hjm
      · rw [show j = m by omega]; exact h
theorem first_some {f : Nat → Option (Int × Int)} {r : Int × Int} : ∀ {m : Nat}, firstOf f m = some r → ∃ j, j < m ∧ f j = some r
  | 0, h => by simp [firstOf] at h
  | m + 1, h => by
    unfold firstOf at h
    split at h
    · rename_i r' h1
      cases h
      obtain ⟨j, h2, h3⟩ := first_some h1
      exact ⟨j, by omega, h3⟩
    · exact ⟨m, by omega, h⟩
/-- What Of answers is the constant that bears the number; or there is none, and no numbering function answers it. -/
theorem ofB_spec (b : BlkT) (base n : Int) (hn : 0 ≤ n) :
    (∃ w : Int, (ofB b base n = (3, w) ∧ formerB b base w = n) ∨ (ofB b base n = (4, w) ∧ decoderB b base w = n) ∨ (ofB b base n = (6, w) ∧ elimB b base w = n) ∨ (ofB b base n = (5, w) ∧ ctorB b base w = n)) ∨
    (ofB b base n = (0, 0) ∧ (∀ k : Nat, k < b.sorts.length → formerB b base k ≠ n ∧ decoderB b base k ≠ n ∧ elimB b base k ≠ n) ∧ ∀ k : Nat, k < b.cons.length → ctorB b base k ≠ n) := by
  cases h1 : firstOf (ofAt b base n) b.sorts.length with
  | some r =>
    have e : ofB b base n = r := by rw [ofB, h1]
    obtain ⟨j, hj, h2⟩ := first_some h1
    left
    refine ⟨j, ?_⟩
    unfold ofAt at h2
    split at h2
    · rename_i h; cases h2; exact .inl ⟨e, h.1⟩
    · split at h2
      · rename_i h; cases h2; exact .inr (.inl ⟨e, h.1⟩)
      · split at h2
        · rename_i h; cases h2; exact .inr (.inr (.inl ⟨e, h.1⟩))
        · cases h2
  | none =>
    cases h3 : firstOf (ofCt b base n) b.cons.length with
    | some r =>
      have e : ofB b base n = r := by rw [ofB, h1]; simp only [h3]
      obtain ⟨j, hj, h2⟩ := first_some h3
      left
      refine ⟨j, ?_⟩
      unfold ofCt at h2
      split at h2
      · rename_i h; cases h2; exact .inr (.inr (.inr ⟨e, h.1⟩))
      · cases h2
    | none =>
      right
      refine ⟨by rw [ofB, h1]; simp only [h3], fun k hk => ?_, fun k hk => ?_⟩
      · have h2 := first_none h1 k hk
        unfold ofAt at h2
        split at h2
        · cases h2
        · rename_i a1
          split at h2
          · cases h2
          · rename_i a2
            split at h2
            · cases h2
            · rename_i a3
              exact ⟨fun e => a1 ⟨e, hn⟩, fun e => a2 ⟨e, hn⟩, fun e => a3 ⟨e, hn⟩⟩
      · have h2 := first_none h3 k hk
        unfold ofCt at h2
        split at h2
        · cases h2
        · rename_i a1
          exact fun e => a1 ⟨e, hn⟩
end Go.Proofs.Ytcegocmndfoflaa
