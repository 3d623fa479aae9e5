/- The numbers of a block's constants: pure mathematics behind the laws of shape. No conditions but ranges. -/
import Derived.Test.YtggefpkfikimiaaG17
namespace Go.Proofs.Ytggefpkfikimiaa
open Go.RowKit
set_option linter.unusedVariables false

def MovesOk (a b y : Int) : Prop := (a < 0 ∧ b < 0) ∨ (0 ≤ a ∧ b = a + y ∧ I64 (a + y))
theorem inZ_t {n lo hi : Int} (h : lo ≤ n) (h2 : n ≤ hi) : inZ n lo hi = true := inZ_iff.2 ⟨h, h2⟩
theorem mv_if {base y q : Int} {c : Bool} (h0 : 0 ≤ base) (h1 : base ≤ 999) (h2 : 0 ≤ y) (h3 : y ≤ 999) (hq : c = true → 0 ≤ q) (hq2 : c = true → q ≤ 100000000) :
    MovesOk (if c = true then base + q else -1) (if c = true then base + y + q else -1) y := by
  unfold MovesOk I64
  cases c with
  | true => have a := hq rfl; have b := hq2 rfl; simp only [if_true]; omega
  | false => simp
theorem former_eq (b : BlkT) {base : Int} (h0 : 0 ≤ base) (h1 : base ≤ 65535) (k : Int) : formerB b base k = if inZ k 0 (nsB b - 1) = true then base + k else -1 := by rw [formerB, inZ_t h0 h1, Bool.true_and]
theorem decoder_eq (b : BlkT) {base : Int} (h0 : 0 ≤ base) (h1 : base ≤ 65535) (k : Int) : decoderB b base k = if (inZ k 0 (nsB b - 1) && hasDec b k) = true then base + (nsB b + decsN b k) else -1 := by rw [decoderB, inZ_t h0 h1, Bool.true_and]; split <;> omega
theorem ctor_eq (b : BlkT) {base : Int} (h0 : 0 ≤ base) (h1 : base ≤ 65535) (k : Int) : ctorB b base k = if inZ k 0 (ncB b - 1) = true then base + (nsB b + decsN b (nsB b) + k) else -1 := by rw [ctorB, inZ_t h0 h1, Bool.true_and]; split <;> omega
theorem elim_eq (b : BlkT) {base : Int} (h0 : 0 ≤ base) (h1 : base ≤ 65535) (k : Int) : elimB b base k = if inZ k 0 (nsB b - 1) = true then base + (nsB b + decsN b (nsB b) + ncB b + k) else -1 := by rw [elimB, inZ_t h0 h1, Bool.true_and]; split <;> omega
theorem mv_all (b : BlkT) (hn : nsB b ≤ 1048576) (hc : ncB b ≤ 1048576) {base y : Int} (h0 : 0 ≤ base) (h1 : base ≤ 999) (h2 : 0 ≤ y) (h3 : y ≤ 999) (k : Int) :
    MovesOk (formerB b base k) (formerB b (base + y) k) y ∧ MovesOk (decoderB b base k) (decoderB b (base + y) k) y ∧ MovesOk (ctorB b base k) (ctorB b (base + y) k) y ∧ MovesOk (elimB b base k) (elimB b (base + y) k) y := by
  have n0 : 0 ≤ nsB b := by unfold nsB; omega
  have c0 : 0 ≤ ncB b := by unfold ncB; omega
  have d1 := decsN_range b k
  have d2 := decsN_range b (nsB b)
  rw [former_eq b h0 (by omega), former_eq b (by omega) (by omega), decoder_eq b h0 (by omega), decoder_eq b (by omega) (by omega), ctor_eq b h0 (by omega), ctor_eq b (by omega) (by omega), elim_eq b h0 (by omega), elim_eq b (by omega) (by omega)]
  refine ⟨mv_if h0 h1 h2 h3 (fun h => ?_) (fun h => ?_), mv_if h0 h1 h2 h3 (fun h => ?_) (fun h => ?_), mv_if h0 h1 h2 h3 (fun h => ?_) (fun h => ?_), mv_if h0 h1 h2 h3 (fun h => ?_) (fun h => ?_)⟩
  all_goals
    try rw [Bool.and_eq_true] at h
    try replace h := h.1
    have := inZ_iff.1 h
    omega
theorem mv_hit {base y n : Int} {c : Bool} {q : Int} (hn : 0 ≤ n) (hy : 0 ≤ y) : ((if c = true then base + y + q else -1) = n + y ∧ 0 ≤ n + y) ↔ ((if c = true then base + q else -1) = n ∧ 0 ≤ n) := by
  cases c <;> simp <;> omega
theorem ofAt_mv (b : BlkT) {base y n : Int} (h0 : 0 ≤ base) (h1 : base ≤ 999) (h2 : 0 ≤ y) (h3 : y ≤ 999) (hn : 0 ≤ n) (k : Nat) : ofAt b (base + y) (n + y) k = ofAt b base n k := by
  unfold ofAt
  rw [former_eq b h0 (by omega), former_eq b (by omega) (by omega), decoder_eq b h0 (by omega), decoder_eq b (by omega) (by omega), elim_eq b h0 (by omega), elim_eq b (by omega) (by omega)]
  simp only [mv_hit hn h2]
theorem ofCt_mv (b : BlkT) {base y n : Int} (h0 : 0 ≤ base) (h1 : base ≤ 999) (h2 : 0 ≤ y) (h3 : y ≤ 999) (hn : 0 ≤ n) (k : Nat) : ofCt b (base + y) (n + y) k = ofCt b base n k := by
  unfold ofCt
  rw [ctor_eq b h0 (by omega), ctor_eq b (by omega) (by omega)]
  simp only [mv_hit hn h2]
theorem ofB_mv (b : BlkT) {base y n : Int} (h0 : 0 ≤ base) (h1 : base ≤ 999) (h2 : 0 ≤ y) (h3 : y ≤ 999) (hn : 0 ≤ n) : ofB b (base + y) (n + y) = ofB b base n := by
  unfold ofB
  rw [show ofAt b (base + y) (n + y) = ofAt b base n from funext fun k => ofAt_mv b h0 h1 h2 h3 hn k, show ofCt b (base + y) (n + y) = ofCt b base n from funext fun k => ofCt_mv b h0 h1 h2 h3 hn k]
theorem first_none {f : Nat → Option (Int × Int)} : ∀ {m : Nat}, firstOf f m = none → ∀ j, j < m → f j = none
  | 0, _, j, hj => absurd hj (Nat.not_lt_zero _)
  | m + 1, h, j, hj => by
    unfold firstOf at h
    split at h
    · cases h
    · rename_i h1
      by_cases hjm : j < m
      · exact first_none h1 j hjm
      · rw [show j = m by omega]; exact h
theorem first_some {f : Nat → Option (Int × Int)} {r : Int × Int} : ∀ {m : Nat}, firstOf f m = some r → ∃ j, j < m ∧ f j = some r
  | 0, h => by simp [firstOf] at h
  | m + 1, h => by
    unfold firstOf at h
    split at h
    · rename_i r' h1
      cases h
      obtain ⟨j, h2, h3⟩ := first_some h1
      exact ⟨j, by omega, h3⟩
    · exact ⟨m, by omega, h⟩
/-- What Of answers is the constant that bears the number; or there is none, and no numbering function answers it. -/
theorem ofB_spec (b : BlkT) (base n : Int) (hn : 0 ≤ n) :
    (∃ w : Int, (ofB b base n = (3, w) ∧ formerB b base w = n) ∨ (ofB b base n = (4, w) ∧ decoderB b base w = n) ∨ (ofB b base n = (6, w) ∧ elimB b base w = n) ∨ (ofB b base n = (5, w) ∧ ctorB b base w = n)) ∨
    (ofB b base n = (0, 0) ∧ (∀ k : Nat, k < b.sorts.length → formerB b base k ≠ n ∧ decoderB b base k ≠ n ∧ elimB b base k ≠ n) ∧ ∀ k : Nat, k < b.cons.length → ctorB b base k ≠ n) := by
  cases h1 : firstOf (ofAt b base n) b.sorts.length with
  | some r =>
    have e : ofB b base n = r := by rw [ofB, h1]
    obtain ⟨j, hj, h2⟩ := first_some h1
    left
    refine ⟨j, ?_⟩
    unfold ofAt at h2
    split at h2
    · rename_i h; cases h2; exact .inl ⟨e, h.1⟩
    · split at h2
      · rename_i h; cases h2; exact .inr (.inl ⟨e, h.1⟩)
      · split at h2
        · rename_i h; cases h2; exact .inr (.inr (.inl ⟨e, h.1⟩))
        · cases h2
  | none =>
    cases h3 : firstOf (ofCt b base n) b.cons.length with
    | some r =>
      have e : ofB b base n = r := by rw [ofB, h1]; simp only [h3]
      obtain ⟨j, hj, h2⟩ := first_some h3
      left
      refine ⟨j, ?_⟩
      unfold ofCt at h2
      split at h2
      · rename_i h; cases h2; exact .inr (.inr (.inr ⟨e, h.1⟩))
      · cases h2
    | none =>
      right
      refine ⟨by rw [ofB, h1]; simp only [h3], fun k hk => ?_, fun k hk => ?_⟩
      · have h2 := first_none h1 k hk
        unfold ofAt at h2
        split at h2
        · cases h2
        · rename_i a1
          split at h2
          · cases h2
          · rename_i a2
            split at h2
            · cases h2
            · rename_i a3
              exact ⟨fun e => a1 ⟨e, hn⟩, fun e => a2 ⟨e, hn⟩, fun e => a3 ⟨e, hn⟩⟩
      · have h2 := first_none h3 k hk
        unfold ofCt at h2
        split at h2
        · cases h2
        · rename_i a1
          exact fun e => a1 ⟨e, hn⟩
end Go.Proofs.Ytggefpkfikimiaa
/- Each number from the base on, as many as there are, is one of the block's constants, none else is. No conditions but ranges. -/
namespace Go.Proofs.Ytggefpkfikimiaa
open Go.RowKit
set_option linter.unusedVariables false

theorem decs_find (b : BlkT) : ∀ (m : Nat), m ≤ b.sorts.length → ∀ d : Int, 0 ≤ d → d < decsN b (m : Int) → ∃ k : Nat, k < m ∧ (∃ h : k < b.sorts.length, b.sorts[k].dec = true) ∧ decsN b (k : Int) = d
  | 0, _, d, h0, h1 => by simp [decsN] at h1; omega
  | m + 1, hm, d, h0, h1 => by
    rw [decsN_succ b (by omega : m < b.sorts.length)] at h1
    by_cases h : d < decsN b (m : Int)
    · obtain ⟨k, h2, h3, h4⟩ := decs_find b m (by omega) d h0 h
      exact ⟨k, by omega, h3, h4⟩
    · by_cases hd : b.sorts[m].dec = true
      · rw [if_pos hd] at h1
        exact ⟨m, by omega, ⟨by omega, hd⟩, by omega⟩
      · rw [if_neg hd] at h1
        omega
theorem decs_mono (b : BlkT) {k m : Nat} (h : k ≤ m) (hm : m ≤ b.sorts.length) : decsN b (k : Int) ≤ decsN b (m : Int) := by
  induction m with
  | zero => rw [show k = 0 by omega]; exact Int.le_refl _
  | succ m ih =>
    by_cases hk : k = m + 1
    · rw [hk]; exact Int.le_refl _
    · have := ih (by omega) (by omega)
      have h2 := decsN_succ b (by omega : m < b.sorts.length)
      rw [h2]
      split <;> omega
theorem hasDec_at (b : BlkT) {k : Nat} (h : k < b.sorts.length) : hasDec b (k : Int) = b.sorts[k].dec := by simp [hasDec, List.getElem?_eq_getElem h]
theorem decs_lt (b : BlkT) {k : Nat} (h : k < b.sorts.length) (hd : b.sorts[k].dec = true) : decsN b (k : Int) < decsN b (nsB b) := by
  have h1 := decsN_succ b h
  rw [if_pos hd] at h1
  have h2 := decs_mono b (show k + 1 ≤ b.sorts.length by omega) (Nat.le_refl _)
  unfold nsB
  omega
/-- The four numbers lie where the block's constants lie, or are -1. -/
theorem num_range (b : BlkT) {base : Int} (h0 : 0 ≤ base) (h1 : base ≤ 65535) (k : Int) :
    (formerB b base k = -1 ∨ (base ≤ formerB b base k ∧ formerB b base k < base + countB b)) ∧ (decoderB b base k = -1 ∨ (base ≤ decoderB b base k ∧ decoderB b base k < base + countB b)) ∧
    (ctorB b base k = -1 ∨ (base ≤ ctorB b base k ∧ ctorB b base k < base + countB b)) ∧ (elimB b base k = -1 ∨ (base ≤ elimB b base k ∧ elimB b base k < base + countB b)) := by
  have n0 : 0 ≤ nsB b := by unfold nsB; omega
  have c0 : 0 ≤ ncB b := by unfold ncB; omega
  have d1 := decsN_range b k
  have d2 := decsN_range b (nsB b)
  rw [former_eq b h0 h1, decoder_eq b h0 h1, ctor_eq b h0 h1, elim_eq b h0 h1]
  unfold countB
  refine ⟨?_, ?_, ?_, ?_⟩
  · split
    · rename_i h; have := inZ_iff.1 h; right; omega
    · exact .inl rfl
  · split
    · rename_i h
      rw [Bool.and_eq_true] at h
      have hk := inZ_iff.1 h.1
      obtain ⟨K, rfl⟩ : ∃ K : Nat, k = (K : Int) := ⟨k.toNat, by omega⟩
      have hK : K < b.sorts.length := by unfold nsB at hk; omega
      have := decs_lt b hK (by rw [← hasDec_at b hK]; exact h.2)
      right; omega
    · exact .inl rfl
  · split
    · rename_i h; have := inZ_iff.1 h; right; omega
    · exact .inl rfl
  · split
    · rename_i h; have := inZ_iff.1 h; right; omega
    · exact .inl rfl
/-- Of a number: the constant that bears it where the block's constants lie; none elsewhere. -/
theorem of_full (b : BlkT) {base n : Int} (h0 : 0 ≤ base) (h1 : base ≤ 65535) (hn : 0 ≤ n) :
    ((base ≤ n ∧ n < base + countB b) ∧ ∃ w : Int, (ofB b base n = (3, w) ∧ formerB b base w = n) ∨ (ofB b base n = (4, w) ∧ decoderB b base w = n) ∨ (ofB b base n = (6, w) ∧ elimB b base w = n) ∨ (ofB b base n = (5, w) ∧ ctorB b base w = n)) ∨
    (¬ (base ≤ n ∧ n < base + countB b) ∧ ofB b base n = (0, 0)) := by
  rcases ofB_spec b base n hn with ⟨w, h⟩ | ⟨he, hs, hc⟩
  · left
    obtain ⟨r1, r2, r3, r4⟩ := num_range b h0 h1 w
    refine ⟨?_, w, h⟩
    rcases h with h | h | h | h
    · have := h.2; omega
    · have := h.2; omega
    · have := h.2; omega
    · have := h.2; omega
  · right
    refine ⟨fun hr => ?_, he⟩
    have n0 : 0 ≤ nsB b := by unfold nsB; omega
    have c0 : 0 ≤ ncB b := by unfold ncB; omega
    have d2 := decsN_range b (nsB b)
    have en : nsB b = (b.sorts.length : Int) := rfl
    have ec : ncB b = (b.cons.length : Int) := rfl
    have hcnt : countB b = 2 * nsB b + decsN b (nsB b) + ncB b := rfl
    by_cases a1 : n < base + nsB b
    · have hk : (n - base).toNat < b.sorts.length := by omega
      have e : ((n - base).toNat : Int) = n - base := by omega
      have := (hs _ hk).1
      rw [former_eq b h0 h1, e, inZ_t (by omega) (by omega), if_pos rfl] at this
      omega
    · by_cases a2 : n < base + nsB b + decsN b (nsB b)
      · obtain ⟨k, hk, ⟨hk2, hd⟩, hdk⟩ := decs_find b b.sorts.length (Nat.le_refl _) (n - base - nsB b) (by omega) (by rw [← en]; omega)
        have := (hs k hk).2.1
        rw [decoder_eq b h0 h1, inZ_t (by omega) (by omega), hasDec_at b hk2, hd, Bool.and_self, if_pos rfl] at this
        omega
      · by_cases a3 : n < base + nsB b + decsN b (nsB b) + ncB b
        · have hk : (n - base - nsB b - decsN b (nsB b)).toNat < b.cons.length := by omega
          have e : ((n - base - nsB b - decsN b (nsB b)).toNat : Int) = n - base - nsB b - decsN b (nsB b) := by omega
          have := hc _ hk
          rw [ctor_eq b h0 h1, e, inZ_t (by omega) (by omega), if_pos rfl] at this
          omega
        · have hk : (n - base - nsB b - decsN b (nsB b) - ncB b).toNat < b.sorts.length := by omega
          have e : ((n - base - nsB b - decsN b (nsB b) - ncB b).toNat : Int) = n - base - nsB b - decsN b (nsB b) - ncB b := by omega
          have := (hs _ hk).2.2
          rw [elim_eq b h0 h1, e, inZ_t (by omega) (by omega), if_pos rfl] at this
          omega
end Go.Proofs.Ytggefpkfikimiaa
/- A right block with its last constructors left out; a right block bent. No conditions. -/
namespace Go.Proofs.Ytggefpkfikimiaa
open Go.RowKit
set_option linter.unusedVariables false

def zTm : Tm := .node 0 0 []
/-- Blocks of the same sorts. -/
theorem argOk_sorts {b c : BlkT} (h : b.sorts = c.sorts) (a : ArgT) (i : Int) : argOk b a i = argOk c a i := by
  obtain ⟨bs, bc, be⟩ := b
  obtain ⟨cs, cc, ce⟩ := c
  obtain rfl : bs = cs := h
  rfl
theorem argsOk_sorts {b c : BlkT} (h : b.sorts = c.sorts) : ∀ (l : List ArgT) (i : Int), argsOk b l i = argsOk c l i
  | [], _ => rfl
  | a :: l, i => by rw [argsOk, argsOk, argOk_sorts h, argsOk_sorts h l]
theorem idxOk_sorts {b c : BlkT} (h : b.sorts = c.sorts) (k : Int) : ∀ (l : List ArgT) (i : Int), idxOk b k l i = idxOk c k l i
  | [], _ => rfl
  | a :: l, i => by rw [idxOk, idxOk, argOk_sorts h, idxOk_sorts h k l]
theorem sortOk_sorts {b c : BlkT} (h : b.sorts = c.sorts) (s : SortT) (k : Int) : sortOk b s k = sortOk c s k := by simp only [sortOk, idxOk_sorts h]
theorem sortsOk_sorts {b c : BlkT} (h : b.sorts = c.sorts) : ∀ (l : List SortT) (k : Int), sortsOk b l k = sortsOk c l k
  | [], _ => rfl
  | s :: l, k => by rw [sortsOk, sortsOk, sortOk_sorts h, sortsOk_sorts h l]
theorem conOk_sorts {b c : BlkT} (h : b.sorts = c.sorts) (x : ConT) : conOk b x = conOk c x := by
  have ha := argsOk_sorts h x.args 0
  obtain ⟨bs, bc, be⟩ := b
  obtain ⟨cs, cc, ce⟩ := c
  obtain rfl : bs = cs := h
  unfold conOk
  rw [ha]
  rfl
def cutB (b : BlkT) (n : Nat) : BlkT := { b with cons := b.cons.take n }
theorem cut_shape (b : BlkT) (n : Nat) (h : shapeB b = true) : shapeB (cutB b n) = true := by
  have hs : (cutB b n).sorts = b.sorts := rfl
  unfold shapeB at h ⊢
  simp only [Bool.and_eq_true] at h ⊢
  obtain ⟨⟨⟨⟨h1, h2⟩, h3⟩, h4⟩, h5⟩ := h
  refine ⟨⟨⟨⟨h1, ?_⟩, h3⟩, ?_⟩, ?_⟩
  · have h2 := of_decide_eq_true h2
    have : (b.cons.take n).length ≤ b.cons.length := by simp; omega
    exact decide_eq_true (Nat.le_trans this h2)
  · rw [sortsOk_sorts hs]; exact h4
  · rw [List.all_eq_true] at h5 ⊢
    intro x hx
    rw [conOk_sorts hs]
    exact h5 x (List.mem_of_mem_take hx)
theorem cut_numbers (b : BlkT) (n : Nat) (hn : n ≤ b.cons.length) (base k : Int) : countB (cutB b n) = countB b - (b.cons.length : Int) + n ∧ formerB (cutB b n) base k = formerB b base k ∧ decoderB (cutB b n) base k = decoderB b base k ∧
    (0 ≤ base → base ≤ 65535 → 0 ≤ k → k < nsB b → elimB (cutB b n) base k = elimB b base k - (b.cons.length : Int) + n) := by
  have hc : ncB (cutB b n) = (n : Int) := by simp [ncB, cutB]; omega
  have hd : ∀ k, decsN (cutB b n) k = decsN b k := fun _ => rfl
  have hs : nsB (cutB b n) = nsB b := rfl
  have hb : ncB b = (b.cons.length : Int) := rfl
  refine ⟨?_, rfl, rfl, fun h0 h1 h2 h3 => ?_⟩
  · unfold countB; rw [hc, hd, hs]; omega
  · rw [elim_eq _ h0 h1, elim_eq _ h0 h1, hc, hd, hs, inZ_t h2 (by omega), if_pos rfl, if_pos rfl]; omega
/-- A block with one constructor set anew. -/
def setC (b : BlkT) (k : Nat) (x : ConT) : BlkT := { b with cons := b.cons.set k x }
theorem bent_con (b : BlkT) {k : Nat} (hk : k < b.cons.length) (x : ConT) (hx : conOk b x = false) : shapeB (setC b k x) = false := by
  have hs : (setC b k x).sorts = b.sorts := rfl
  rw [Bool.eq_false_iff]
  intro h
  unfold shapeB at h
  simp only [Bool.and_eq_true] at h
  have h5 := List.all_eq_true.1 h.2 x (by
    refine List.mem_iff_getElem.2 ⟨k, by simp [setC]; omega, ?_⟩
    simp [setC])
  rw [conOk_sorts hs, hx] at h5
  cases h5
theorem con_parts {b : BlkT} {x : ConT} (h : conOk b x = true) : inZ x.sort 0 (nsB b - 1) = true ∧ x.args.length ≤ 12 ∧ (x.idx.length : Int) = idxLen b x.sort ∧ argsOk b x.args 0 = true ∧ opensAll x.idx x.args.length = true ∧ (if hasDec b x.sort then openT x.dec x.args.length else noneT x.dec) = true := by
  unfold conOk at h
  simp only [Bool.and_eq_true] at h
  obtain ⟨⟨⟨⟨⟨h1, h2⟩, h3⟩, h4⟩, h5⟩, h6⟩ := h
  exact ⟨h1, of_decide_eq_true h2, of_decide_eq_true h3, h4, h5, h6⟩
theorem shape_parts {b : BlkT} (h : shapeB b = true) : inZ (nsB b) 1 4 = true ∧ b.cons.length ≤ 8 ∧ inZ b.elim 0 6 = true ∧ sortsOk b b.sorts 0 = true ∧ ∀ x ∈ b.cons, conOk b x = true := by
  unfold shapeB at h
  simp only [Bool.and_eq_true] at h
  obtain ⟨⟨⟨⟨h1, h2⟩, h3⟩, h4⟩, h5⟩ := h
  exact ⟨h1, of_decide_eq_true h2, h3, h4, List.all_eq_true.1 h5⟩
theorem args_snoc (b : BlkT) (a : ArgT) : ∀ (l : List ArgT) (i : Int), argsOk b (l ++ [a]) i = (argsOk b l i && argOk b a (i + l.length))
  | [], i => by simp [argsOk]
  | x :: l, i => by
    rw [List.cons_append, argsOk, args_snoc b a l, argsOk, Bool.and_assoc, show i + 1 + (l.length : Int) = i + ((x :: l).length : Int) by simp; omega]
theorem bent_sort (b : BlkT) (x : ConT) : conOk b { x with sort := nsB b } = false := by
  rw [Bool.eq_false_iff]; intro h
  have := inZ_iff.1 (con_parts h).1
  simp only at this
  omega
theorem bent_idx (b : BlkT) (x : ConT) (t : Tm) (hx : conOk b x = true) : conOk b { x with idx := x.idx ++ [t] } = false := by
  rw [Bool.eq_false_iff]; intro h
  have h1 := (con_parts hx).2.2.1
  have h2 := (con_parts h).2.2.1
  simp only [List.length_append, List.length_singleton] at h2
  omega
theorem bent_arg (b : BlkT) (x : ConT) (a : ArgT) (ha : argOk b a x.args.length = false) : conOk b { x with args := x.args ++ [a] } = false := by
  rw [Bool.eq_false_iff]; intro h
  have h2 := (con_parts h).2.2.2.1
  simp only [args_snoc, Bool.and_eq_true, Int.zero_add] at h2
  rw [ha] at h2
  exact absurd h2.2 (by simp)
theorem open_var (n : Int) : openT (.node 1 n []) n = false := by
  rw [Bool.eq_false_iff]; intro h
  unfold openT scopeT at h
  simp only [Bool.and_eq_true] at h
  have := h.2
  rw [scopedT_eq] at this
  simp [Tm.k, Tm.n] at this
theorem open_zero (v : Int) : openT zTm v = false := by
  rw [Bool.eq_false_iff]; intro h
  unfold openT scopeT at h
  simp only [Bool.and_eq_true] at h
  exact absurd (of_decide_eq_true h.1.2) (by decide +kernel)
theorem bent_var (b : BlkT) (n : Int) : argOk b ⟨false, .node 1 n [], [], 0, []⟩ n = false := by
  simp [argOk, open_var]
theorem bent_rec (b : BlkT) (n : Int) : argOk b ⟨true, zTm, [], -1, []⟩ n = false := by
  have : inZ (-1) 0 (nsB b - 1) = false := by simp [inZ]
  simp [argOk, this]
theorem bent_dec (b : BlkT) (x : ConT) : conOk b { x with dec := if hasDec b x.sort then zTm else .node 2 0 [] } = false := by
  rw [Bool.eq_false_iff]; intro h
  have h2 := (con_parts h).2.2.2.2.2
  simp only at h2
  by_cases hd : hasDec b x.sort = true
  · rw [if_pos hd, if_pos hd, open_zero] at h2; cases h2
  · rw [if_neg hd, if_neg hd] at h2; simp [noneT, Tm.k] at h2
theorem bent_nosorts (b : BlkT) : shapeB { b with sorts := [] } = false := by
  rw [Bool.eq_false_iff]; intro h
  have := inZ_iff.1 (shape_parts h).1
  simp only [nsB, List.length_nil] at this
  omega
theorem bent_elim (b : BlkT) : shapeB { b with elim := 7 } = false := by
  rw [Bool.eq_false_iff]; intro h
  have := inZ_iff.1 (shape_parts h).2.2.1
  simp only at this
  omega
theorem bent_level (b : BlkT) (s : SortT) (l : List SortT) (hb : b.sorts = s :: l) : shapeB { b with sorts := { s with level := 7 } :: l } = false := by
  rw [Bool.eq_false_iff]; intro h
  have h4 := (shape_parts h).2.2.2.1
  simp only [sortsOk, Bool.and_eq_true] at h4
  have h5 := h4.1
  simp only [sortOk, Bool.and_eq_true] at h5
  have := inZ_iff.1 h5.1.1.2
  omega
end Go.Proofs.Ytggefpkfikimiaa
