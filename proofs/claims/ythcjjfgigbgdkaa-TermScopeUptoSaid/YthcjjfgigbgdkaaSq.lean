/- What the nodes of a term say of its scope, of its constants, of how often a variable is in it. No conditions. -/
import Derived.Test.YthcjjfgigbgdkaaCl
import Derived.Test.YthcjjfgigbgdkaaCi
import Derived.Test.YthcjjfgigbgdkaaRe
namespace Go.Proofs.Ythcjjfgigbgdkaa
open Go.RowKit Go
set_option linter.unusedVariables false

mutual
theorem countT_nodes : ∀ (t : Tm) (n d b : Int), 0 < countT t n ↔ ∃ x ∈ nodesT t d b, x.2.2.k = 1 ∧ x.2.2.n - x.2.1 = n - b
  | .node k m l, n, d, b => by
    have ih := countL_nodes l k n (d + 1) b 0
    rw [countT, nodesT]
    constructor
    · intro h
      by_cases hk : k = 1 ∧ m = n
      · exact ⟨_, List.mem_cons_self, hk.1, by show m - b = n - b; rw [hk.2]⟩
      · rw [if_neg hk, Nat.zero_add] at h
        obtain ⟨x, hx, h⟩ := ih.1 h
        exact ⟨x, List.mem_cons_of_mem _ hx, h⟩
    · rintro ⟨x, hx, h1, h2⟩
      rcases List.mem_cons.1 hx with rfl | hx
      · have h1 : k = 1 := h1
        have h2 : m - b = n - b := h2
        rw [if_pos ⟨h1, by omega⟩]; omega
      · have := ih.2 ⟨x, hx, h1, h2⟩; omega
theorem countL_nodes : ∀ (l : List Tm) (k n d b : Int) (i : Nat), 0 < countL l k n i ↔ ∃ x ∈ nodesL l k d b i, x.2.2.k = 1 ∧ x.2.2.n - x.2.1 = n - b
  | [], _, _, _, _, _ => by simp [countL, nodesL]
  | t :: l, k, n, d, b, i => by
    have h1 := countT_nodes t (n + bindsI k i) d (b + bindsI k i)
    have h2 := countL_nodes l k n d b (i + 1)
    rw [countL, nodesL]
    have e : n + bindsI k i - (b + bindsI k i) = n - b := by omega
    rw [e] at h1
    constructor
    · intro h
      by_cases hp : 0 < countT t (n + bindsI k i)
      · obtain ⟨x, hx, h⟩ := h1.1 hp
        exact ⟨x, List.mem_append_left _ hx, h⟩
      · obtain ⟨x, hx, h⟩ := h2.1 (by omega)
        exact ⟨x, List.mem_append_right _ hx, h⟩
    · rintro ⟨x, hx, h⟩
      rcases List.mem_append.1 hx with hx | hx
      · have := h1.2 ⟨x, hx, h⟩; omega
      · have := h2.2 ⟨x, hx, h⟩; omega
end
theorem inP_iff (v c : Int) (x : PEl) : inP v c x = true ↔ (x.2.2.k = 1 → x.2.2.n - x.2.1 < v) ∧ (x.2.2.k = 2 → x.2.2.n ≤ 6) ∧ (x.2.2.k = 3 → x.2.2.n < c) := by
  unfold inP inB
  by_cases h1 : x.2.2.k = 1
  · rw [if_pos h1]; simp [h1]
  · rw [if_neg h1]
    by_cases h2 : x.2.2.k = 2
    · rw [if_pos h2]; simp [h2]
    · rw [if_neg h2]
      by_cases h3 : x.2.2.k = 3
      · rw [if_pos h3]; simp [h3]
      · rw [if_neg h3]; simp [h1, h2, h3]
theorem scopeT_iff (t : Tm) (v c : Int) : scopeT t v c = true ↔ 0 ≤ v ∧ 0 ≤ c ∧ checkE t = 0 ∧ ∀ x ∈ nodesT t 1 0, inP v c x = true := by
  unfold scopeT
  simp only [Bool.and_eq_true, decide_eq_true_eq]
  constructor
  · rintro ⟨⟨⟨h1, h2⟩, h3⟩, h4⟩
    rw [scoped_nodes t v c (check_formed h3)] at h4
    exact ⟨h1, h2, h3, List.all_eq_true.1 h4⟩
  · rintro ⟨h1, h2, h3, h4⟩
    exact ⟨⟨⟨h1, h2⟩, h3⟩, by rw [scoped_nodes t v c (check_formed h3)]; exact List.all_eq_true.2 h4⟩
theorem scope_more {t : Tm} {v c m n : Int} (h : scopeT t v c = true) (hm : 0 ≤ m) (hn : 0 ≤ n) : scopeT t (v + m) (c + n) = true := by
  rw [scopeT_iff] at h ⊢
  obtain ⟨h1, h2, h3, h4⟩ := h
  refine ⟨by omega, by omega, h3, fun x hx => ?_⟩
  have := (inP_iff _ _ _).1 (h4 x hx)
  exact (inP_iff _ _ _).2 ⟨fun h => by have := this.1 h; omega, this.2.1, fun h => by have := this.2.2 h; omega⟩
theorem asc_last {l : List Int} (h : l.Pairwise (· < ·)) {n : Nat} (hn : l.length = n + 1) : ∀ x ∈ l, x ≤ l[n]'(by omega) := fun x hx => by
  obtain ⟨i, hi, rfl⟩ := List.mem_iff_getElem.1 hx
  by_cases e : i = n
  · subst e; exact Int.le_refl _
  · exact Int.le_of_lt (List.pairwise_iff_getElem.1 h i n hi (by omega) (by omega))
/-- The greatest constant of a term that is in scope. -/
theorem scope_last {t : Tm} {v c : Int} (h : scopeT t v c = true) {n : Nat} (hn : (consI (constT t)).length = n + 1) :
    0 ≤ (consI (constT t))[n]'(by omega) ∧ (consI (constT t))[n]'(by omega) < c ∧ scopeT t v ((consI (constT t))[n]'(by omega) + 1) = true ∧ scopeT t v ((consI (constT t))[n]'(by omega)) = false := by
  have hmem : (consI (constT t))[n]'(by omega) ∈ constT t := (consI_mem _ _).1 (List.getElem_mem _)
  have hmax := asc_last (consI_asc (constT t)) hn
  rw [scopeT_iff] at h
  obtain ⟨h1, h2, h3, h4⟩ := h
  obtain ⟨x, hx, hk, hxn⟩ := (constT_nodes t 1 0 _).1 hmem
  have hfit : ∀ x ∈ nodesT t 1 0, fitsP x = true := List.all_eq_true.1 ((formed_all t 1 0).symm.trans (check_formed h3))
  have hx0 := (fitsP_n (hfit x hx)).1
  have hin := (inP_iff _ _ _).1 (h4 x hx)
  have hlt := hin.2.2 hk
  rw [hxn] at hx0 hlt
  refine ⟨hx0, hlt, (scopeT_iff _ _ _).2 ⟨h1, by omega, h3, fun y hy => ?_⟩, ?_⟩
  · have := (inP_iff _ _ _).1 (h4 y hy)
    refine (inP_iff _ _ _).2 ⟨this.1, this.2.1, fun hk3 => ?_⟩
    have := hmax y.2.2.n ((consI_mem _ _).2 ((constT_nodes t 1 0 _).2 ⟨y, hy, hk3, rfl⟩))
    omega
  · rw [Bool.eq_false_iff]
    intro hh
    have := (inP_iff _ _ _).1 (((scopeT_iff _ _ _).1 hh).2.2.2 x hx)
    have := this.2.2 hk
    omega
/-- Of one variable less, just if the outermost one is not in it. -/
theorem scope_less {t : Tm} {v c : Int} (h : scopeT t v c = true) (hv : 0 < v) (hv2 : v ≤ 65536) : scopeT t (v - 1) c = !decide (0 < countE t (v - 1)) := by
  have hc : countE t (v - 1) = countT t (v - 1) := by rw [countE, if_pos (by omega)]
  rw [hc]
  obtain ⟨h1, h2, h3, h4⟩ := (scopeT_iff _ _ _).1 h
  by_cases hp : 0 < countT t (v - 1)
  · rw [decide_eq_true hp, Bool.not_true, Bool.eq_false_iff]
    intro hh
    obtain ⟨x, hx, hk, hn⟩ := (countT_nodes t (v - 1) 1 0).1 hp
    have := (inP_iff _ _ _).1 (((scopeT_iff _ _ _).1 hh).2.2.2 x hx)
    have := this.1 hk
    omega
  · rw [decide_eq_false hp, Bool.not_false, scopeT_iff]
    refine ⟨by omega, h2, h3, fun x hx => ?_⟩
    have := (inP_iff _ _ _).1 (h4 x hx)
    refine (inP_iff _ _ _).2 ⟨fun hk => ?_, this.2⟩
    have h5 := this.1 hk
    by_cases e : x.2.2.n - x.2.1 = v - 1
    · exact absurd ((countT_nodes t (v - 1) 1 0).2 ⟨x, hx, hk, by omega⟩) hp
    · omega
theorem scope_neg (t : Tm) (v c : Int) (h : v < 0 ∨ c < 0) : scopeT t v c = false := by
  rw [Bool.eq_false_iff]
  intro hh
  obtain ⟨h1, h2, _⟩ := (scopeT_iff _ _ _).1 hh
  omega
end Go.Proofs.Ythcjjfgigbgdkaa
