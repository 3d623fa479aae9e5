/- A right block with its last constructors left out; a right block bent. No conditions. -/
import Derived.Test.YtcegocmndfoflaaHy
namespace Go.Proofs.Ytcegocmndfoflaa
open Go.RowKit
set_option linter.unusedVariables false

def zTm : Tm := .node 0 0 []
/-- Blocks of the same sorts. -/
theorem argOk_sorts {b c : BlkT} (h : b.sorts = c.sorts) (a : ArgT) (i : Int) : argOk b a i = argOk c a i := by
  obtain ⟨bs, bc, be⟩ := b
  obtain ⟨cs, cc, ce⟩ := c
  obtain rfl : bs = cs := h
  rfl
theorem argsOk_sorts {b c : BlkT} (h : b.sorts = c.sorts) : ∀ (l : List ArgT) (i : Int), argsOk b l i = argsOk c l i
  | [], _ => rfl
  | a :: l, i => by rw [argsOk, argsOk, argOk_sorts h, argsOk_sorts h l]
theorem idxOk_sorts {b c : BlkT} (h : b.sorts = c.sorts) (k : Int) : ∀ (l : List ArgT) (i : Int), idxOk b k l i = idxOk c k l i
  | [], _ => rfl
  | a :: l, i => by rw [idxOk, idxOk, argOk_sorts h, idxOk_sorts h k l]
theorem sortOk_sorts {b c : BlkT} (h : b.sorts = c.sorts) (s : SortT) (k : Int) : sortOk b s k = sortOk c s k := by simp only [sortOk, idxOk_sorts h]
theorem sortsOk_sorts {b c : BlkT} (h : b.sorts = c.sorts) : ∀ (l : List SortT) (k : Int), sortsOk b l k = sortsOk c l k
  | [], _ => rfl
  | s :: l, k => by rw [sortsOk, sortsOk, sortOk_sorts h, sortsOk_sorts h l]
theorem conOk_sorts {b c : BlkT} (h : b.sorts = c.sorts) (x : ConT) : conOk b x = conOk c x := by
  have ha := argsOk_sorts h x.args 0
  obtain ⟨bs, bc, be⟩ := b
  obtain ⟨cs, cc, ce⟩ := c
  obtain rfl : bs = cs := h
  unfold conOk
  rw [ha]
  rfl
def cutB (b : BlkT) (n : Nat) : BlkT := { b with cons := b.cons.take n }
theorem cut_shape (b : BlkT) (n : Nat) (h : shapeB b = true) : shapeB (cutB b n) = true := by
  have hs : (cutB b n).sorts = b.sorts := rfl
  unfold shapeB at h ⊢
  simp only [Bool.and_eq_true] at h ⊢
  obtain ⟨⟨⟨⟨h1, h2⟩, h3⟩, h4⟩, h5⟩ := h
  refine ⟨⟨⟨⟨h1, ?_⟩, h3⟩, ?_⟩, ?_⟩
  · have h2 := of_decide_eq_true h2
    have : (b.cons.take n).length ≤ b.cons.length := by simp; omega
    exact decide_eq_true (Nat.le_trans this h2)
  · rw [sortsOk_sorts hs]; exact h4
  · rw [List.all_eq_true] at h5 ⊢
    intro x hx
    rw [conOk_sorts hs]
    exact h5 x (List.mem_of_mem_take hx)
theorem cut_numbers (b : BlkT) (n : Nat) (hn : n ≤ b.cons.length) (base k : Int) : countB (cutB b n) = countB b - (b.cons.length : Int) + n ∧ formerB (cutB b n) base k = formerB b base k ∧ decoderB (cutB b n) base k = decoderB b base k ∧
    (0 ≤ base → base ≤ 65535 → 0 ≤ k → k < nsB b → elimB (cutB b n) base k = elimB b base k - (b.cons.length : Int) + n) := by
  have hc : ncB (cutB b n) = (n : Int) := by simp [ncB, cutB]; omega
  have hd : ∀ k, decsN (cutB b n) k = decsN b k := fun _ => rfl
  have hs : nsB (cutB b n) = nsB b := rfl
  have hb : ncB b = (b.cons.length : Int) := rfl
  refine ⟨?_, rfl, rfl, fun h0 h1 h2 h3 => ?_⟩
  · unfold countB; rw [hc, hd, hs]; omega
  · rw [elim_eq _ h0 h1, elim_eq _ h0 h1, hc, hd, hs, inZ_t h2 (by omega), if_pos rfl, if_pos rfl]; omega
/-- A block with one constructor set anew. -/
def setC (b : BlkT) (k : Nat) (x : ConT) : BlkT := { b with cons := b.cons.set k x }
theorem bent_con (b : BlkT) {k : Nat} (hk : k < b.cons.length) (x : ConT) (hx : conOk b x = false) : shapeB (setC b k x) = false := by
  have hs : (setC b k x).sorts = b.sorts := rfl
  rw [Bool.eq_false_iff]
  intro h
  unfold shapeB at h
  simp only [Bool.and_eq_true] at h
  have h5 := List.all_eq_true.1 h.2 x (by
    refine List.mem_iff_getElem.2 ⟨k, by simp [setC]; omega, ?_⟩
    simp [setC])
  rw [conOk_sorts hs, hx] at h5
  cases h5
theorem con_parts {b : BlkT} {x : ConT} (h : conOk b x = true) : inZ x.sort 0 (nsB b - 1) = true ∧ x.args.length ≤ 12 ∧ (x.idx.length : Int) = idxLen b x.sort ∧ argsOk b x.args 0 = true ∧ opensAll x.idx x.args.length = true ∧ (if hasDec b x.sort then openT x.dec x.args.length else noneT x.dec) = true := by
  unfold conOk at h
  simp only [Bool.and_eq_true] at h
  obtain ⟨⟨⟨⟨⟨h1, h2⟩, h3⟩, h4⟩, h5⟩, h6⟩ := h
  exact ⟨h1, of_decide_eq_true h2, of_decide_eq_true h3, h4, h5, h6⟩
theorem shape_parts {b : BlkT} (h : shapeB b = true) : inZ (nsB b) 1 4 = true ∧ b.cons.length ≤ 8 ∧ inZ b.elim 0 6 = true ∧ sortsOk b b.sorts 0 = true ∧ ∀ x ∈ b.cons, conOk b x = true := by
  unfold shapeB at h
  simp only [Bool.and_eq_true] at h
  obtain ⟨⟨⟨⟨h1, h2⟩, h3⟩, h4⟩, h5⟩ := h
  exact ⟨h1, of_decide_eq_true h2, h3, h4, List.all_eq_true.1 h5⟩
theorem args_snoc (b : BlkT) (a : ArgT) : ∀ (l : List ArgT) (i : Int), argsOk b (l ++ [a]) i = (argsOk b l i && argOk b a (i + l.length))
  | [], i => by simp [argsOk]
  | x :: l, i => by
    rw [List.cons_append, argsOk, args_snoc b a l, argsOk, Bool.and_assoc, show i + 1 + (l.length : Int) = i + ((x :: l).length : Int) by simp; omega]
theorem bent_sort (b : BlkT) (x : ConT) : conOk b { x with sort := nsB b } = false := by
  rw [Bool.eq_false_iff]; intro h
  have := inZ_iff.1 (con_parts h).1
  simp only at this
  omega
theorem bent_idx (b : BlkT) (x : ConT) (t : Tm) (hx : conOk b x = true) : conOk b { x with idx := x.idx ++ [t] } = false := by
  rw [Bool.eq_false_iff]; intro h
  have h1 := (con_parts hx).2.2.1
  have h2 := (con_parts h).2.2.1
  simp only [List.length_append, List.length_singleton] at h2
  omega
theorem bent_arg (b : BlkT) (x : ConT) (a : ArgT) (ha : argOk b a x.args.length = false) : conOk b { x with args := x.args ++ [a] } = false := by
  rw [Bool.eq_false_iff]; intro h
  have h2 := (con_parts h).2.2.2.1
  simp only [args_snoc, Bool.and_eq_true, Int.zero_add] at h2
  rw [ha] at h2
  exact absurd h2.2 (by simp)
theorem open_var (n : Int) : openT (.node 1 n []) n = false := by
  rw [Bool.eq_false_iff]; intro h
  unfold openT scopeT at h
  simp only [Bool.and_eq_true] at h
  have := h.2
  rw [scopedT_eq] at this
  simp [Tm.k, Tm.n] at this
theorem open_zero (v : Int) : openT zTm v = false := by
  rw [Bool.eq_false_iff]; intro h
  unfold openT scopeT at h
  simp only [Bool.and_eq_true] at h
  exact absurd (of_decide_eq_true h.1.2) (by decide +kernel)
theorem bent_var (b : BlkT) (n : Int) : argOk b ⟨false, .node 1 n [], [], 0, []⟩ n = false := by
  simp [argOk, open_var]
theorem bent_rec (b : BlkT) (n : Int) : argOk b ⟨true, zTm, [], -1, []⟩ n = false := by
  have : inZ (-1) 0 (nsB b - 1) = false := by simp [inZ]
  simp [argOk, this]
theorem bent_dec (b : BlkT) (x : ConT) : conOk b { x with dec := if hasDec b x.sort then zTm else .node 2 0 [] } = false := by
  rw [Bool.eq_false_iff]; intro h
  have h2 := (con_parts h).2.2.2.2.2
  simp only at h2
  by_cases hd : hasDec b x.sort = true
  · rw [if_pos hd, if_pos hd, open_zero] at h2; cases h2
  · rw [if_neg hd, if_neg hd] at h2; simp [noneT, Tm.k] at h2
theorem bent_nosorts (b : BlkT) : shapeB { b with sorts := [] } = false := by
  rw [Bool.eq_false_iff]; intro h
  have := inZ_iff.1 (shape_parts h).1
  simp only [nsB, List.length_nil] at this
  omega
theorem bent_elim (b : BlkT) : shapeB { b with elim := 7 } = false := by
  rw [Bool.eq_false_iff]; intro h
  have := inZ_iff.1 (shape_parts h).2.2.1
  simp only at this
  omega
theorem bent_level (b : BlkT) (s : SortT) (l : List SortT) (hb : b.sorts = s :: l) : shapeB { b with sorts := { s with level := 7 } :: l } = false := by
  rw [Bool.eq_false_iff]; intro h
  have h4 := (shape_parts h).2.2.2.1
  simp only [sortsOk, Bool.and_eq_true] at h4
  have h5 := h4.1
  simp only [sortOk, Bool.and_eq_true] at h5
  have := inZ_iff.1 h5.1.1.2
  omega
end Go.Proofs.Ytcegocmndfoflaa
