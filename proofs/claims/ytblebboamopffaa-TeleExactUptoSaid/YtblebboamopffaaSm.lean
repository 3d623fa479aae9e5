/- Terms whose variables are renumbered: mathematics alone. -/
import Derived.Test.YtblebboamopffaaCi
import Derived.Test.YtblebboamopffaaPz
namespace Go.Proofs.Ytblebboamopffaa
open Go.RowKit
set_option linter.unusedVariables false

mutual
/-- Each Var's number by what g says of it, d being one more within a binder. -/
def mapT (g : Int → Int → Int) : Tm → Int → Tm | .node k n l, d => .node k (if k = 1 then g d n else n) (mapL g l k d 0)
def mapL (g : Int → Int → Int) : List Tm → Int → Int → Nat → List Tm | [], _, _, _ => [] | t :: l, k, d, i => mapT g t (d + bindsI k i) :: mapL g l k d (i + 1)
end
mutual
def overB : Tm → Bool | .node _ n l => decide (65535 < n) || overL l
def overL : List Tm → Bool | [] => false | t :: l => overB t || overL l
end
theorem mapT_eq (g : Int → Int → Int) (t : Tm) (d : Int) : mapT g t d = .node t.k (if t.k = 1 then g d t.n else t.n) (mapL g t.kids t.k d 0) := by cases t; rfl
theorem overB_eq (t : Tm) : overB t = (decide (65535 < t.n) || overL t.kids) := by cases t; rfl
theorem mapL_length (g : Int → Int → Int) : ∀ (l : List Tm) (k d : Int) (i : Nat), (mapL g l k d i).length = l.length
  | [], _, _, _ => rfl
  | t :: l, k, d, i => by rw [mapL, List.length_cons, List.length_cons, mapL_length g l]
theorem mapL_get (g : Int → Int → Int) : ∀ (l : List Tm) (k d : Int) (i j : Nat) (h : j < l.length), (mapL g l k d i)[j]? = some (mapT g l[j] (d + bindsI k ((i + j : Nat) : Int)))
  | t :: l, k, d, i, 0, h => by simp [mapL]
  | t :: l, k, d, i, j + 1, h => by
    have := mapL_get g l k d (i + 1) j (by simpa using h)
    rw [mapL, List.getElem?_cons_succ, this]
    simp only [List.getElem_cons_succ]
    congr 4
    omega
theorem mapL_append (g : Int → Int → Int) : ∀ (a b : List Tm) (k d : Int) (i : Nat), mapL g (a ++ b) k d i = mapL g a k d i ++ mapL g b k d (i + a.length)
  | [], b, k, d, i => by simp [mapL]
  | t :: a, b, k, d, i => by
    rw [List.cons_append, mapL, mapL, mapL_append g a b, List.cons_append, List.length_cons]
    congr 3
    omega
theorem mapL_take_succ (g : Int → Int → Int) {l : List Tm} {j : Nat} (h : j < l.length) (k d : Int) : mapL g (l.take (j + 1)) k d 0 = mapL g (l.take j) k d 0 ++ [mapT g l[j] (d + bindsI k j)] := by
  rw [List.take_succ_eq_append_getElem h, mapL_append]
  simp [mapL, Nat.min_eq_left (Nat.le_of_lt h)]
theorem overL_append (a b : List Tm) : overL (a ++ b) = (overL a || overL b) := by
  induction a with
  | nil => simp [overL]
  | cons x a ih => simp [overL, ih, Bool.or_assoc]
mutual
theorem mapT_id (g : Int → Int → Int) (hg : ∀ d n, g d n = n) : ∀ (t : Tm) (d : Int), mapT g t d = t
  | .node k n l, d => by rw [mapT, mapL_id g hg l, hg]; simp
theorem mapL_id (g : Int → Int → Int) (hg : ∀ d n, g d n = n) : ∀ (l : List Tm) (k d : Int) (i : Nat), mapL g l k d i = l
  | [], _, _, _ => rfl
  | t :: l, k, d, i => by rw [mapL, mapT_id g hg t, mapL_id g hg l]
end
mutual
/-- One behind the other, from places that are c apart. -/
theorem mapT_comp (g h : Int → Int → Int) (c : Int) : ∀ (t : Tm) (d : Int), mapT g (mapT h t d) (d + c) = mapT (fun d n => g (d + c) (h d n)) t d
  | .node k n l, d => by
    rw [mapT, mapT, mapT, mapL_comp g h c l]
    congr 1
    split <;> rfl
theorem mapL_comp (g h : Int → Int → Int) (c : Int) : ∀ (l : List Tm) (k d : Int) (i : Nat), mapL g (mapL h l k d i) k (d + c) i = mapL (fun d n => g (d + c) (h d n)) l k d i
  | [], _, _, _ => rfl
  | t :: l, k, d, i => by
    rw [mapL, mapL, mapL, mapL_comp g h c l, show d + c + bindsI k i = d + bindsI k i + c by omega, mapT_comp g h c t]
end
theorem mapT_ext {g h : Int → Int → Int} (H : ∀ d n, g d n = h d n) (t : Tm) (d : Int) : mapT g t d = mapT h t d := by
  rw [show g = h from funext fun d => funext fun n => H d n]
mutual
theorem mapT_size (g : Int → Int → Int) : ∀ (t : Tm) (d : Int), size (mapT g t d) = size t
  | .node k n l, d => by rw [mapT, size, size, mapL_size g l]
theorem mapL_size (g : Int → Int → Int) : ∀ (l : List Tm) (k d : Int) (i : Nat), sizeL (mapL g l k d i) = sizeL l
  | [], _, _, _ => rfl
  | t :: l, k, d, i => by rw [mapL, sizeL, sizeL, mapT_size g t, mapL_size g l]
end
mutual
theorem mapT_depth (g : Int → Int → Int) : ∀ (t : Tm) (d : Int), depth (mapT g t d) = depth t
  | .node k n l, d => by rw [mapT, depth, depth, mapL_depth g l]
theorem mapL_depth (g : Int → Int → Int) : ∀ (l : List Tm) (k d : Int) (i : Nat), depthL (mapL g l k d i) = depthL l
  | [], _, _, _ => rfl
  | t :: l, k, d, i => by rw [mapL, depthL, depthL, mapT_depth g t, mapL_depth g l]
end
mutual
/-- Renumbered it is formed as it was, where no number is too great. -/
theorem mapT_formed (g : Int → Int → Int) (hg : ∀ d n, 0 ≤ n → 0 ≤ g d n) : ∀ (t : Tm) (d : Int), formedB t = true → overB (mapT g t d) = false → formedB (mapT g t d) = true
  | .node k n l, d, h1, h2 => by
    rw [formedB, Bool.and_eq_true, Bool.and_eq_true, decide_eq_true_eq] at h1
    obtain ⟨⟨a1, a2⟩, a3⟩ := h1
    rw [mapT, overB, Bool.or_eq_false_iff, decide_eq_false_iff_not] at h2
    rw [mapT, formedB, mapL_length, mapL_formed g hg l k d 0 a3 h2.2, Bool.and_true, Bool.and_eq_true, decide_eq_true_eq]
    refine ⟨a1, ?_⟩
    by_cases hl : l.length = 0
    · rw [if_pos hl] at a2 ⊢
      simp only [Bool.and_eq_true, decide_eq_true_eq] at a2 ⊢
      have h3 := h2.1
      by_cases hk : k = 1
      · rw [if_pos hk] at h3 ⊢
        exact ⟨hg d n a2.1, by omega⟩
      · rw [if_neg hk]; exact a2
    · rw [if_neg hl] at a2 ⊢
      have hk : k ≠ 1 := fun hk => hl (by rw [hk] at a1; have : kidsI 1 = 0 := by decide
                                          omega)
      rw [if_neg hk]; exact a2
theorem mapL_formed (g : Int → Int → Int) (hg : ∀ d n, 0 ≤ n → 0 ≤ g d n) : ∀ (l : List Tm) (k d : Int) (i : Nat), formedL l = true → overL (mapL g l k d i) = false → formedL (mapL g l k d i) = true
  | [], _, _, _, _, _ => rfl
  | t :: l, k, d, i, h1, h2 => by
    rw [formedL, Bool.and_eq_true] at h1
    rw [mapL, overL, Bool.or_eq_false_iff] at h2
    rw [mapL, formedL, mapT_formed g hg t _ h1.1 h2.1, mapL_formed g hg l k d (i + 1) h1.2 h2.2]
    rfl
end
mutual
/-- What stays below the bound where numbers are no greater. -/
theorem over_mono {g h : Int → Int → Int} (H : ∀ d n, 0 ≤ n → h d n ≤ g d n) : ∀ (t : Tm) (d : Int), formedB t = true → overB (mapT g t d) = false → overB (mapT h t d) = false
  | .node k n l, d, h1, h2 => by
    rw [formedB, Bool.and_eq_true, Bool.and_eq_true, decide_eq_true_eq] at h1
    obtain ⟨⟨a1, a2⟩, a3⟩ := h1
    rw [mapT, overB, Bool.or_eq_false_iff, decide_eq_false_iff_not] at h2
    rw [mapT, overB, overL_mono H l k d 0 a3 h2.2, Bool.or_false, decide_eq_false_iff_not]
    have h3 := h2.1
    by_cases hk : k = 1
    · rw [if_pos hk] at h3 ⊢
      have hn : 0 ≤ n := by
        split at a2
        · simp only [Bool.and_eq_true, decide_eq_true_eq] at a2; exact a2.1
        · simp only [decide_eq_true_eq] at a2; omega
      have := H d n hn
      omega
    · rw [if_neg hk] at h3 ⊢; exact h3
theorem overL_mono {g h : Int → Int → Int} (H : ∀ d n, 0 ≤ n → h d n ≤ g d n) : ∀ (l : List Tm) (k d : Int) (i : Nat), formedL l = true → overL (mapL g l k d i) = false → overL (mapL h l k d i) = false
  | [], _, _, _, _, _ => rfl
  | t :: l, k, d, i, h1, h2 => by
    rw [formedL, Bool.and_eq_true] at h1
    rw [mapL, overL, Bool.or_eq_false_iff] at h2
    rw [mapL, overL, over_mono H t _ h1.1 h2.1, overL_mono H l k d (i + 1) h1.2 h2.2]
    rfl
end
mutual
theorem over_formed : ∀ (t : Tm), formedB t = true → overB t = false
  | .node k n l, h1 => by
    rw [formedB, Bool.and_eq_true, Bool.and_eq_true, decide_eq_true_eq] at h1
    obtain ⟨⟨a1, a2⟩, a3⟩ := h1
    rw [overB, overL_formed l a3, Bool.or_false, decide_eq_false_iff_not]
    split at a2
    · simp only [Bool.and_eq_true, decide_eq_true_eq] at a2; omega
    · simp only [decide_eq_true_eq] at a2; omega
theorem overL_formed : ∀ (l : List Tm), formedL l = true → overL l = false
  | [], _ => rfl
  | t :: l, h1 => by
    rw [formedL, Bool.and_eq_true] at h1
    rw [overL, over_formed t h1.1, overL_formed l h1.2]; rfl
end
mutual
/-- A variable that none becomes. -/
theorem count_none {g : Int → Int → Int} (c : Int) (H : ∀ d n, g d n ≠ d + c) : ∀ (t : Tm) (d : Int), countT (mapT g t d) (d + c) = 0
  | .node k n l, d => by
    rw [mapT, countT, countL_none c H l, if_neg]
    rintro ⟨hk, h⟩
    rw [if_pos hk] at h
    exact H d n h
theorem countL_none {g : Int → Int → Int} (c : Int) (H : ∀ d n, g d n ≠ d + c) : ∀ (l : List Tm) (k d : Int) (i : Nat), countL (mapL g l k d i) k (d + c) i = 0
  | [], _, _, _ => rfl
  | t :: l, k, d, i => by
    rw [mapL, countL, countL_none c H l, show d + c + bindsI k i = d + bindsI k i + c by omega, count_none c H t]
end
mutual
/-- A variable that becomes another, and no third one does. -/
theorem count_same {g : Int → Int → Int} (c c' : Int) (H : ∀ d n, g d n = d + c ↔ n = d + c') : ∀ (t : Tm) (d : Int), countT (mapT g t d) (d + c) = countT t (d + c')
  | .node k n l, d => by
    rw [mapT, countT, countT, countL_same c c' H l]
    congr 1
    by_cases hk : k = 1
    · rw [if_pos hk]
      by_cases h : n = d + c'
      · rw [if_pos ⟨hk, (H d n).2 h⟩, if_pos ⟨hk, h⟩]
      · rw [if_neg fun x => h ((H d n).1 x.2), if_neg fun x => h x.2]
    · rw [if_neg fun x => hk x.1, if_neg fun x => hk x.1]
theorem countL_same {g : Int → Int → Int} (c c' : Int) (H : ∀ d n, g d n = d + c ↔ n = d + c') : ∀ (l : List Tm) (k d : Int) (i : Nat), countL (mapL g l k d i) k (d + c) i = countL l k (d + c') i
  | [], _, _, _ => rfl
  | t :: l, k, d, i => by
    rw [mapL, countL, countL, countL_same c c' H l, show d + c + bindsI k i = d + bindsI k i + c by omega, count_same c c' H t, show d + c' + bindsI k i = d + bindsI k i + c' by omega]
end
end Go.Proofs.Ytblebboamopffaa
