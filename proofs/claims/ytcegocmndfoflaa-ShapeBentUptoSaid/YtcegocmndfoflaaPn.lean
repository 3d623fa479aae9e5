/- What all the nodes of a term say of it: its depth, whether it is formed, in scope. -/
import Derived.Test.YtcegocmndfoflaaNd
import Derived.Test.YtcegocmndfoflaaPl
import Derived.Test.YtcegocmndfoflaaCf
namespace Go.Proofs.Ytcegocmndfoflaa
open Go.RowKit

mutual
theorem nodesT_deep : ∀ (t : Tm) (d b : Int), ∃ x ∈ nodesT t d b, x.1 = d + depth t - 1
  | .node k n l, d, b => by
    by_cases hl : l = []
    · subst hl; exact ⟨_, List.mem_cons_self, by simp [depth, depthL]⟩
    · obtain ⟨x, hx, he⟩ := nodesL_deep l k (d + 1) b 0 hl
      exact ⟨x, by rw [nodesT]; exact List.mem_cons_of_mem _ hx, by simp only [depth]; omega⟩
theorem nodesL_deep : ∀ (l : List Tm) (k d b : Int) (i : Nat), l ≠ [] → ∃ x ∈ nodesL l k d b i, x.1 = d + depthL l - 1
  | [], _, _, _, _, h => absurd rfl h
  | t :: l, k, d, b, i, _ => by
    by_cases hm : depthL l ≤ depth t
    · obtain ⟨x, hx, he⟩ := nodesT_deep t d (b + bindsI k i)
      exact ⟨x, by rw [nodesL]; exact List.mem_append_left _ hx, by simp only [depthL]; omega⟩
    · have hl : l ≠ [] := by rintro rfl; simp [depthL] at hm
      obtain ⟨x, hx, he⟩ := nodesL_deep l k d b (i + 1) hl
      exact ⟨x, by rw [nodesL]; exact List.mem_append_right _ hx, by simp only [depthL]; omega⟩
end

mutual
theorem nodesT_sub : ∀ (t : Tm) (d b : Int), ∀ x ∈ nodesT t d b, size x.2.2 ≤ size t
  | .node k n l, d, b => by
    intro x hx
    rw [nodesT] at hx
    rcases List.mem_cons.1 hx with rfl | hx
    · exact Nat.le_refl _
    · have := nodesL_sub l k (d + 1) b 0 x hx
      simp only [size]; omega
theorem nodesL_sub : ∀ (l : List Tm) (k d b : Int) (i : Nat), ∀ x ∈ nodesL l k d b i, size x.2.2 ≤ sizeL l
  | [], _, _, _, _ => by intro x hx; simp [nodesL] at hx
  | t :: l, k, d, b, i => by
    intro x hx
    rw [nodesL] at hx
    simp only [sizeL]
    rcases List.mem_append.1 hx with hx | hx
    · have := nodesT_sub t d _ x hx; omega
    · have := nodesL_sub l k d b (i + 1) x hx; omega
end
def fitsP (x : PEl) : Bool := fitsB x.2.2.k x.2.2.n x.2.2.kids.length
theorem fitsB_eq (k n : Int) (len : Nat) : fitsB k n len = (decide ((len : Int) = kidsI k) && (if len = 0 then decide (0 ≤ n) && decide (n ≤ 65535) else decide (n = 0))) := by
  unfold fitsB
  by_cases h : (len : Int) = kidsI k
  · rw [decide_eq_true h]
    by_cases h0 : len = 0
    · rw [if_pos h0, if_pos (by omega)]
    · rw [if_neg h0, if_neg (by omega)]
  · rw [decide_eq_false h]; rfl
mutual
theorem formed_all : ∀ (t : Tm) (d b : Int), formedB t = (nodesT t d b).all fitsP
  | .node k n l, d, b => by
    rw [nodesT, List.all_cons, ← formedL_all l k (d + 1) b 0, formedB_eq]
    show _ = (fitsB k n l.length && formedL l)
    rw [fitsB_eq]; rfl
theorem formedL_all : ∀ (l : List Tm) (k d b : Int) (i : Nat), formedL l = (nodesL l k d b i).all fitsP
  | [], _, _, _, _ => by simp [formedL, nodesL]
  | t :: l, k, d, b, i => by rw [formedL, nodesL, List.all_append, ← formed_all t d (b + bindsI k i), ← formedL_all l k d b (i + 1)]
end

def inP (v c : Int) (x : PEl) : Bool := inB x.2.2.k x.2.2.n x.2.1 v c
theorem leaf_kids {k : Int} {l : List Tm} (h : ((l.length : Int) = kidsI k)) (hk : k = 1 ∨ k = 2 ∨ k = 3) : l = [] := by
  have : kidsI k = 0 := by unfold kidsI; rw [if_pos hk]
  exact List.eq_nil_of_length_eq_zero (by omega)
mutual
theorem scoped_all : ∀ (t : Tm) (d b v c : Int), formedB t = true → scopedT t (v + b) c = (nodesT t d b).all (inP v c)
  | .node k n l, d, b, v, c => by
    intro hf
    simp only [formedB, Bool.and_eq_true, decide_eq_true_eq] at hf
    obtain ⟨⟨hlen, _⟩, hl⟩ := hf
    rw [nodesT, List.all_cons, scopedT]
    show _ = (inB k n b v c && (nodesL l k (d + 1) b 0).all (inP v c))
    unfold inB
    by_cases h1 : k = 1
    · have := leaf_kids hlen (.inl h1); subst this; rw [if_pos h1, if_pos h1]; simp [nodesL]; constructor <;> intro <;> omega
    · by_cases h2 : k = 2
      · have := leaf_kids hlen (.inr (.inl h2)); subst this; rw [if_neg h1, if_neg h1, if_pos h2, if_pos h2]; simp [nodesL]
      · by_cases h3 : k = 3
        · have := leaf_kids hlen (.inr (.inr h3)); subst this; rw [if_neg h1, if_neg h1, if_neg h2, if_neg h2, if_pos h3, if_pos h3]; simp [nodesL]
        · rw [if_neg h1, if_neg h1, if_neg h2, if_neg h2, if_neg h3, if_neg h3, scopedL_all l k (d + 1) b v c 0 hl]; rfl
theorem scopedL_all : ∀ (l : List Tm) (k d b v c : Int) (i : Nat), formedL l = true → scopedL l k (v + b) c i = (nodesL l k d b i).all (inP v c)
  | [], _, _, _, _, _, _ => by intro; simp [scopedL, nodesL]
  | t :: l, k, d, b, v, c, i => by
    intro hf
    simp only [formedL, Bool.and_eq_true] at hf
    rw [scopedL, nodesL, List.all_append, ← scopedL_all l k d b v c (i + 1) hf.2, Int.add_assoc, scoped_all t d (b + bindsI k i) v c hf.1]
end
theorem scoped_nodes (t : Tm) (v c : Int) (hf : formedB t = true) : scopedT t v c = (nodesT t 1 0).all (inP v c) := by
  have := scoped_all t 1 0 v c hf
  rwa [Int.add_zero] at this
theorem fitsP_var {x : PEl} (h : fitsP x = true) (hk : x.2.2.k = 1) : 0 ≤ x.2.2.n ∧ x.2.2.n ≤ 65535 := by
  have h0 : kidsI x.2.2.k = 0 := by rw [hk]; decide
  simp only [fitsP, fitsB, if_pos h0, Bool.and_eq_true, decide_eq_true_eq] at h
  exact h.2
theorem fitsP_n {x : PEl} (h : fitsP x = true) : 0 ≤ x.2.2.n ∧ x.2.2.n ≤ 65535 := by
  simp only [fitsP, fitsB, Bool.and_eq_true, decide_eq_true_eq] at h
  have := h.2
  split at this
  · simpa using this
  · have : x.2.2.n = 0 := by simpa using this
    omega
/-- The page's cap on the variables changes nothing of a well formed term. -/
theorem scoped_cap (t : Tm) (v c : Int) (hf : formedB t = true) : scopedT t (min v 1048576) c = scopedT t v c := by
  rw [scoped_nodes t v c hf, scoped_nodes t _ c hf]
  have ha : ∀ x ∈ nodesT t 1 0, fitsP x = true := List.all_eq_true.1 ((formed_all t 1 0).symm.trans hf)
  rw [Bool.eq_iff_iff, List.all_eq_true, List.all_eq_true]
  have one : ∀ x ∈ nodesT t 1 0, inP (min v 1048576) c x = inP v c x := fun x hx => by
    have hb := nodesT_in t 1 0 x hx
    simp only [inP, inB]
    by_cases h1 : x.2.2.k = 1
    · have := fitsP_var (ha x hx) h1
      rw [if_pos h1, if_pos h1, decide_eq_decide]; omega
    · rw [if_neg h1, if_neg h1]
  exact ⟨fun h x hx => by rw [← one x hx]; exact h x hx, fun h x hx => by rw [one x hx]; exact h x hx⟩

/-- The greatest depth that has come; whether all that have come fit; whether all are in scope. -/
def maxD (l : List El) : Int := l.foldl (fun m x => max m x.d) 0
def allF (l : List El) : Bool := l.all fun x => fitsP x.p
def allS (v c : Int) (l : List El) : Bool := l.all fun x => inP v c x.p
theorem maxD_snoc (l : List El) (x : El) : maxD (l ++ [x]) = max (maxD l) x.d := by simp [maxD]
theorem allF_snoc (l : List El) (x : El) : allF (l ++ [x]) = (allF l && fitsB x.t.k x.t.n x.t.kids.length) := by simp [allF, fitsP, El.p]
theorem foldl_max (l : List El) (m : Int) : m ≤ l.foldl (fun m x => max m x.d) m ∧ (∀ x ∈ l, x.d ≤ l.foldl (fun m x => max m x.d) m) ∧ (l.foldl (fun m x => max m x.d) m = m ∨ ∃ x ∈ l, x.d = l.foldl (fun m x => max m x.d) m) := by
  induction l generalizing m with
  | nil => simp
  | cons y l ih =>
    obtain ⟨h1, h2, h3⟩ := ih (max m y.d)
    simp only [List.foldl_cons]
    refine ⟨by omega, fun x hx => ?_, ?_⟩
    · rcases List.mem_cons.1 hx with rfl | hx
      · omega
      · exact h2 x hx
    · rcases h3 with h3 | ⟨x, hx, h3⟩
      · rcases Int.le_total y.d m with h | h
        · left; rw [h3]; omega
        · right; exact ⟨y, List.mem_cons_self, by rw [h3]; omega⟩
      · exact .inr ⟨x, List.mem_cons_of_mem _ hx, h3⟩
theorem mem_of_came {all : List PEl} {l : List El} (h : Came all l) {x : El} (hx : x ∈ l) : x.p ∈ all := by
  obtain ⟨⟨rest, hp⟩, _⟩ := h
  exact hp.subset (List.mem_append_left _ (List.mem_map_of_mem hx))
theorem maxD_all {t : Tm} {l : List El} (h : CameAll (nodesT t 1 0) l) : maxD l = depth t := by
  obtain ⟨h1, h2, h3⟩ := foldl_max l 0
  obtain ⟨x, hx, he⟩ := nodesT_deep t 1 0
  obtain ⟨y, hy, rfl⟩ := List.mem_map.1 (h.1.symm.subset hx)
  have hy2 := h2 y hy
  have hup : ∀ z ∈ l, z.d ≤ depth t := fun z hz => by
    have := nodesT_in t 1 0 z.p (h.1.subset (List.mem_map_of_mem hz))
    simp only [El.p] at this; omega
  have hd := depth_eq t
  simp only [El.p] at he
  change maxD l = _ at *
  rcases h3 with h3 | ⟨z, hz, h3⟩
  · have h3' : maxD l = 0 := h3
    have : y.d ≤ maxD l := hy2
    omega
  · have := hup z hz
    have h3' : z.d = maxD l := h3
    have : y.d ≤ maxD l := hy2
    omega
theorem maxD_range {t : Tm} {l : List El} (h : Came (nodesT t 1 0) l) : 0 ≤ maxD l ∧ maxD l ≤ depth t := by
  obtain ⟨h1, h2, h3⟩ := foldl_max l 0
  refine ⟨h1, ?_⟩
  rcases h3 with h3 | ⟨z, hz, h3⟩
  · have h3' : maxD l = 0 := h3
    omega
  · have := nodesT_in t 1 0 z.p (mem_of_came h hz)
    have h3' : z.d = maxD l := h3
    simp only [El.p] at this; omega
theorem all_perm {α : Type} {a b : List α} (h : a.Perm b) (p : α → Bool) : a.all p = b.all p := by
  rw [Bool.eq_iff_iff, List.all_eq_true, List.all_eq_true]
  exact ⟨fun hh x hx => hh x (h.symm.subset hx), fun hh x hx => hh x (h.subset hx)⟩
theorem allF_all {t : Tm} {l : List El} (h : CameAll (nodesT t 1 0) l) : allF l = formedB t := by
  rw [formed_all t 1 0, ← all_perm h.1, List.all_map]; rfl
theorem allS_all {t : Tm} {l : List El} (v c : Int) (h : CameAll (nodesT t 1 0) l) : allS v c l = (nodesT t 1 0).all (inP v c) := by
  rw [← all_perm h.1, List.all_map]; rfl
theorem Came.init {all : List PEl} {l : List El} {x : El} (h : Came all (l ++ [x])) : Came all l := by
  obtain ⟨⟨rest, hp⟩, hs⟩ := h
  exact ⟨⟨x.p :: rest, by simpa using hp⟩, fun y hy => hs y (List.mem_append_left _ hy)⟩
theorem came_of_all {all : List PEl} {l : List El} (h : CameAll all l) : Came all l := ⟨⟨[], by simpa using h.1⟩, h.2⟩
theorem allS_no {t : Tm} {l : List El} {x : El} {v c : Int} (h : Came (nodesT t 1 0) (l ++ [x])) (hx : inP v c x.p = false) : (nodesT t 1 0).all (inP v c) = false := by
  rw [Bool.eq_false_iff]
  intro hh
  rw [List.all_eq_true.1 hh _ h.mem.1] at hx
  cases hx
end Go.Proofs.Ytcegocmndfoflaa
