/- ShiftCounts and ShiftKids, as mathematics. -/
import Derived.Test.YtblebboamopffaaSn
import Derived.Test.YtblebboamopffaaCl
namespace Go.Proofs.Ytblebboamopffaa
open Go.RowKit
set_option linter.unusedVariables false

mutual
theorem mapT_const (g : Int → Int → Int) : ∀ (t : Tm) (d : Int), constT (mapT g t d) = constT t
  | .node k n l, d => by
    rw [mapT, constT, constT, mapL_const g l]
    congr 1
    by_cases h : k = 3
    · rw [if_pos h, if_pos h, if_neg (by omega)]
    · rw [if_neg h, if_neg h]
theorem mapL_const (g : Int → Int → Int) : ∀ (l : List Tm) (k d : Int) (i : Nat), constK (mapL g l k d i) = constK l
  | [], _, _, _ => rfl
  | t :: l, k, d, i => by rw [mapL, constK, constK, mapT_const g t, mapL_const g l]
end
/-- ShiftCounts. -/
theorem counts_ok {t : Tm} {b f n : Int} (h : shiftE t b f = 0) (hf : f ≤ 9) (hb : b ≤ 50) (hn : 0 ≤ n) (hn2 : n ≤ 19) :
    (∀ k : Int, 0 ≤ k → k < b → cntE (moveT t b f) (f + k) = 0) ∧ cntE (moveT t b f) (if f ≤ n then n + b else n) = cntE t n ∧ size (moveT t b f) = size t ∧ depth (moveT t b f) = depth t ∧ constT (moveT t b f) = constT t := by
  obtain ⟨h1, h2, h3, h4⟩ := shift_ok.1 h
  have b0 := h2.1
  have f0 := h3.1
  refine ⟨fun k k0 k1 => ?_, ?_, mapT_size _ _ _, mapT_depth _ _ _, mapT_const _ _ _⟩
  · unfold cntE
    rw [count_gap t k0 k1]
    split <;> rfl
  · unfold cntE
    rw [count_move t b0, if_pos ⟨by split <;> omega, by split <;> omega⟩, if_pos ⟨by omega, by omega⟩]
/-- ShiftKids. -/
theorem move_kids {t : Tm} {b f : Int} : (moveT t b f).k = t.k ∧ (moveT t b f).kids.length = t.kids.length ∧ ∀ (i : Nat) (hi : i < t.kids.length), (moveT t b f).kids[i]? = some (moveT t.kids[i] b (f + bindsI t.k i)) := by
  unfold moveT
  rw [mapT_eq]
  refine ⟨rfl, mapL_length _ _ _ _ _, fun i hi => ?_⟩
  have := mapL_get (mv b) t.kids t.k f 0 i hi
  rw [Nat.zero_add] at this
  exact this
theorem overL_get : ∀ {l : List Tm} {j : Nat} {u : Tm}, overL l = false → l[j]? = some u → overB u = false
  | t :: l, 0, u, h, hu => by
    rw [overL, Bool.or_eq_false_iff] at h
    simp only [List.getElem?_cons_zero, Option.some.injEq] at hu
    exact hu ▸ h.1
  | t :: l, j + 1, u, h, hu => by
    rw [overL, Bool.or_eq_false_iff] at h
    rw [List.getElem?_cons_succ] at hu
    exact overL_get h.2 hu
theorem kids_ok {t : Tm} {b f : Int} (h : shiftE t b f = 0) (hf : f ≤ 60) (i : Nat) (hi : i < t.kids.length) : shiftE t.kids[i] b (f + bindsI t.k i) = 0 := by
  obtain ⟨h1, h2, h3, h4⟩ := shift_ok.1 h
  have hr := bindsI_range t.k i
  have f0 := h3.1
  refine shift_ok.2 ⟨check_kid h1 (List.getElem_mem hi), h2, ⟨by omega, by omega⟩, ?_⟩
  rw [overB_eq, Bool.or_eq_false_iff] at h4
  exact overL_get h4.2 ((move_kids (t := t) (b := b) (f := f)).2.2 i hi)
theorem kids_count {t : Tm} {n : Int} (hf : formedB t = true) (hl : 0 < t.kids.length) : countT t n = countL t.kids t.k n 0 := by
  rw [countT_eq, if_neg, Nat.zero_add]
  rintro ⟨hk, _⟩
  rw [formedB_eq, Bool.and_eq_true, Bool.and_eq_true, decide_eq_true_eq] at hf
  have := hf.1.1
  rw [hk] at this
  have : kidsI 1 = 0 := by decide
  omega
end Go.Proofs.Ytblebboamopffaa
