/- A block whose terms name none of its constants, and none of its recursive arguments, is positive. Mathematics alone. -/
import Derived.Test.YtggefpkfikimiaaG33
import Derived.Test.YtggefpkfikimiaaG38
namespace Go.Proofs.Ytggefpkfikimiaa
open Go.RowKit
set_option linter.unusedVariables false

def domsU (n : Int) : Nat → List Tm → Bool | _, [] => false | j, u :: l => decide (0 < countE u (n + (j : Int))) || domsU n (j + 1) l
def idxU (n : Int) (l : List Tm) : Bool := l.any fun u => decide (0 < countE u n)
def argU (n : Int) (a : ArgT) : Bool := decide (0 < countE a.ty n) || (domsU n 0 a.dom || idxU (n + (a.dom.length : Int)) a.idx)
def argsU (i : Int) : Int → List ArgT → Bool | _, [] => false | k, a :: l => argU (k - 1 - i) a || argsU i (k + 1) l
def usedB (x : ConT) (i : Nat) : Bool := argsU (i : Int) ((i : Int) + 1) (x.args.drop (i + 1)) || (idxU ((x.args.length : Int) - 1 - i) x.idx || decide (0 < countE x.dec ((x.args.length : Int) - 1 - i)))
theorem head_const : ∀ t : Tm, ∀ m ∈ constT (unspine t).1, m ∈ constT t := by
  refine tm_ind fun t ih m hm => ?_
  by_cases h : t.k = 6 ∧ t.kids.length = 2
  · obtain ⟨k, n, l⟩ := t
    obtain ⟨x, y, rfl⟩ := two_kids h.2
    rw [unspine_app k n x y h.1] at hm
    have := ih x (by simp [Tm.kids]) m hm
    rw [constT_eq, List.mem_append]
    right
    show m ∈ constT x ++ (constT y ++ [])
    exact List.mem_append_left _ this
  · rw [unspine_no h] at hm
    exact hm
theorem kid_const {l : List Tm} {u : Tm} (hu : u ∈ l) {m : Int} (hm : m ∈ constT u) : m ∈ constK l := by
  induction l with
  | nil => cases hu
  | cons a l ih =>
    simp only [constK, List.mem_append]
    rcases List.mem_cons.1 hu with rfl | hu
    · exact .inl hm
    · exact .inr (ih hu)
theorem guard_more {vars : List Int} {nb : Nat} {v : Int} (hv : 0 ≤ v) (h : 0 ≤ guardP (moreP vars (nb : Int)) v) : (nb : Int) ≤ v ∧ 0 ≤ guardP vars (v - nb) := by
  have hl := moreP_length vars nb
  have hlt : v < ((moreP vars (nb : Int)).length : Int) := by
    by_cases h1 : ((moreP vars (nb : Int)).length : Int) ≤ v
    · rw [guardP, if_pos h1] at h; omega
    · omega
  obtain ⟨hh, e⟩ := guard_at hv hlt
  rw [e] at h
  by_cases hn : (nb : Int) ≤ v
  · refine ⟨hn, ?_⟩
    obtain ⟨h2, e2⟩ := guard_at (vars := vars) (n := v - nb) (by omega) (by omega)
    rw [e2]
    have hi : (moreP vars (nb : Int)).length - 1 - v.toNat = vars.length - 1 - (v - (nb : Int)).toNat := by omega
    have h3 : (moreP vars (nb : Int))[(moreP vars (nb : Int)).length - 1 - v.toNat] = vars[vars.length - 1 - (v - (nb : Int)).toNat] := by
      simp only [hi]
      exact List.getElem_append_left h2
    rw [← h3]
    exact h
  · have key : ∀ (i : Nat) (hi : i < (moreP vars (nb : Int)).length), vars.length ≤ i → (moreP vars (nb : Int))[i] = -1 := by
      unfold moreP
      intro i hi h3
      rw [List.getElem_append_right h3, List.getElem_replicate]
    rw [key _ hh (by omega)] at h
    omega
theorem clean_plain (b : BlkT) (base : Int) : ∀ (N : Nat) (vars : List Int) (t : Tm), size t ≤ N → formedB t = true → (∀ m ∈ constT t, ofB b base m = (0, 0)) → (∀ v : Int, 0 ≤ v → 0 ≤ guardP vars v → countT t v = 0) → cleanB b base vars t = true
  | 0, _, t, h, _, _, _ => by have := size_pos t; omega
  | N + 1, vars, t, h, hf, hc, hv => by
    by_cases k1 : t.k = 1
    · rw [clean_var _ _ _ k1, decide_eq_true_eq]
      by_cases hg : 0 ≤ guardP vars t.n
      · have h0 := formed_leaf hf (.inl k1)
        have h1 := hv t.n h0.2.1 hg
        rw [countT_eq, if_pos ⟨k1, rfl⟩] at h1
        omega
      · omega
    by_cases k3 : t.k = 3
    · rw [clean_const _ _ _ k3, decide_eq_true_eq, hc t.n (by rw [constT_eq, if_pos k3]; simp)]
    have hd : isDecg b base t = false := by
      by_cases h3 : (unspine t).1.k = 3
      · have h4 := hc (unspine t).1.n (head_const t _ (by rw [constT_eq, if_pos h3]; simp))
        unfold isDecg
        rw [h4]
        simp
      · unfold isDecg
        rw [decide_eq_false h3]
        simp
    rw [clean_kids _ _ _ k1 k3 hd]
    have hkf : formedL t.kids = true := by
      rw [formedB_eq, Bool.and_eq_true] at hf
      exact hf.2
    have key : ∀ (l : List Tm) (i : Nat), (∀ u ∈ l, size u ≤ N ∧ formedB u = true ∧ ∀ m ∈ constT u, ofB b base m = (0, 0)) → (∀ v : Int, 0 ≤ v → 0 ≤ guardP vars v → countL l t.k v i = 0) → kidsStep (cleanB b base) vars t.k i l = true := by
      intro l
      induction l with
      | nil => intro _ _ _; rfl
      | cons u l ih =>
        intro i hl hcv
        rw [kidsStep, Bool.and_eq_true]
        obtain ⟨hs, hfu, hcu⟩ := hl u (List.mem_cons_self ..)
        obtain ⟨nb, hnb⟩ : ∃ nb : Nat, bindsI t.k i = (nb : Int) := ⟨(bindsI t.k i).toNat, by have := bindsI_range t.k i; omega⟩
        refine ⟨?_, ih (i + 1) (fun x hx => hl x (List.mem_cons_of_mem _ hx)) fun v h0 h1 => ?_⟩
        · rw [hnb]
          refine clean_plain b base N _ u hs hfu hcu fun v h0 h1 => ?_
          obtain ⟨h2, h3⟩ := guard_more h0 h1
          have h4 := hcv (v - nb) (by omega) h3
          simp only [countL] at h4
          rw [hnb, show v - (nb : Int) + nb = v by omega] at h4
          omega
        · have h4 := hcv v h0 h1
          simp only [countL] at h4
          omega
    refine key t.kids 0 (fun u hu => ⟨by have := size_le_of_mem hu; have := size_eq t; omega, formedL_all8 hkf u hu, fun m hm => hc m (by rw [constT_eq, List.mem_append]; exact .inr (kid_const hu hm))⟩) fun v h0 h1 => ?_
    have h2 := hv v h0 h1
    rw [countT_eq] at h2
    omega
/-- Where a variable of a view is guarded. -/
theorem view_where {args : List ArgT} {r : Nat} {v : Int} (hv : 0 ≤ v) (h : 0 ≤ guardP (viewP args r) v) : ∃ (i : Nat) (hi : i < args.length), args[i].r = true ∧ v = (args.length : Int) - 1 - i + r := by
  obtain ⟨h1, h2⟩ := view_guard args r v hv
  by_cases hlo : (args.length : Int) - 1 - (v - r) < 0
  · rw [h2 (.inl hlo)] at h; omega
  by_cases hhi : (args.length : Int) ≤ (args.length : Int) - 1 - (v - r)
  · rw [h2 (.inr hhi)] at h; omega
  have hk := h1 ((args.length : Int) - 1 - (v - r)).toNat (by omega) (by omega)
  refine ⟨((args.length : Int) - 1 - (v - r)).toNat, by omega, ?_, by omega⟩
  rw [hk] at h
  by_cases hr : args[((args.length : Int) - 1 - (v - r)).toNat].r = true
  · exact hr
  · rw [if_neg hr] at h; omega
theorem count_zero {t : Tm} {v : Int} (h0 : 0 ≤ v) (h1 : v ≤ 65535) (h : decide (0 < countE t v) = false) : countT t v = 0 := by
  rw [decide_eq_false_iff_not] at h
  rw [countE, if_pos ⟨h0, h1⟩] at h
  omega
/-- All that stands in a term of the block. -/
def PlainT (b : BlkT) (base : Int) (t : Tm) : Prop := formedB t = true ∧ ∀ m ∈ constT t, ofB b base m = (0, 0)
theorem plain_view (b : BlkT) (base : Int) {args : List ArgT} {r : Nat} (hr : args.length + r ≤ 60000) {t : Tm} (h : PlainT b base t) (hu : ∀ i (hi : i < args.length), args[i].r = true → decide (0 < countE t ((args.length : Int) - 1 - i + r)) = false) : cleanB b base (viewP args r) t = true := by
  refine clean_plain b base (size t) _ t (Nat.le_refl _) h.1 h.2 fun v h0 h1 => ?_
  obtain ⟨i, hi, hir, rfl⟩ := view_where h0 h1
  exact count_zero h0 (by omega) (hu i hi hir)
theorem domsU_at {n : Int} : ∀ (l : List Tm) (j : Nat), domsU n j l = false → ∀ i (h : i < l.length), decide (0 < countE l[i] (n + ((j + i : Nat) : Int))) = false
  | u :: l, j, h, 0, _ => by rw [domsU, Bool.or_eq_false_iff] at h; simpa using h.1
  | u :: l, j, h, i + 1, hi => by
    rw [domsU, Bool.or_eq_false_iff] at h
    have := domsU_at l (j + 1) h.2 i (by simpa using hi)
    rw [List.getElem_cons_succ, show j + (i + 1) = j + 1 + i by omega]
    exact this
theorem idxU_mem {n : Int} {l : List Tm} (h : idxU n l = false) : ∀ u ∈ l, decide (0 < countE u n) = false := fun u hu => by
  unfold idxU at h
  rw [List.any_eq_false] at h
  have := h u hu
  simpa using this
theorem argsU_at {i : Int} : ∀ (l : List ArgT) (k : Int), argsU i k l = false → ∀ j (h : j < l.length), argU (k + (j : Int) - 1 - i) l[j] = false
  | a :: l, k, h, 0, _ => by rw [argsU, Bool.or_eq_false_iff] at h; simpa using h.1
  | a :: l, k, h, j + 1, hj => by
    rw [argsU, Bool.or_eq_false_iff] at h
    have := argsU_at l (k + 1) h.2 j (by simpa using hj)
    rw [List.getElem_cons_succ, show k + ((j + 1 : Nat) : Int) - 1 - i = k + 1 + (j : Int) - 1 - i by omega]
    exact this
theorem idx_plain (b : BlkT) (base : Int) (vars : List Int) (args : List ArgT) (c : Int) : ∀ (m : List ArgT) (l : List Tm), (∀ a ∈ m, a.r = false) → (∀ u ∈ l, cleanB b base vars u = true) → idxStep b base vars args c m l = true
  | [], l, _, _ => by cases l <;> rfl
  | a :: m, [], _, _ => rfl
  | a :: m, u :: l, h1, h2 => by
    rw [idxStep, h1 a (List.mem_cons_self ..)]
    rw [Bool.and_eq_true]
    exact ⟨by simpa using h2 u (List.mem_cons_self ..), idx_plain b base vars args c m l (fun x hx => h1 x (List.mem_cons_of_mem _ hx)) fun x hx => h2 x (List.mem_cons_of_mem _ hx)⟩
theorem indices_plain (b : BlkT) (base : Int) (hrec : ∀ s ∈ b.sorts, ∀ a ∈ s.idx, a.r = false) (vars : List Int) (args : List ArgT) (c s : Int) (l : List Tm) (h : ∀ u ∈ l, cleanB b base vars u = true) : indicesB b base vars args c s l = true := by
  refine idx_plain b base vars args c _ l (fun a ha => ?_) h
  unfold sortIdx at ha
  cases hs : b.sorts[s.toNat]? with
  | none => rw [hs] at ha; cases ha
  | some x => rw [hs] at ha; exact hrec x (List.mem_of_getElem? hs) a ha
theorem doms_plain (b : BlkT) (base : Int) (vars : List Int) : ∀ (l : List Tm) (j : Nat), (∀ i (h : i < l.length), cleanB b base (moreP vars ((j + i : Nat) : Int)) l[i] = true) → domsB b base vars j l = true
  | [], _, _ => rfl
  | u :: l, j, h => by
    rw [domsB, Bool.and_eq_true]
    refine ⟨h 0 (by simp), doms_plain b base vars l (j + 1) fun i hi => ?_⟩
    have := h (i + 1) (by simpa using hi)
    rw [List.getElem_cons_succ, show j + (i + 1) = j + 1 + i by omega] at this
    exact this
/-- All terms of Args are plain. -/
def PlainA (b : BlkT) (base : Int) (a : ArgT) : Prop := (a.r = false → PlainT b base a.ty) ∧ (a.r = true → (∀ u ∈ a.dom, PlainT b base u) ∧ (∀ u ∈ a.idx, PlainT b base u) ∧ a.dom.length ≤ 12)
theorem tele_plain (b : BlkT) (base c : Int) (hrec : ∀ s ∈ b.sorts, ∀ a ∈ s.idx, a.r = false) : ∀ (l ahead : List ArgT), ahead.length + l.length ≤ 1000 → (∀ a ∈ l, PlainA b base a) →
    (∀ i (hi : i < (ahead ++ l).length), (ahead ++ l)[i].r = true → ∀ k (hk : k < (ahead ++ l).length), i < k → ahead.length ≤ k → argU ((k : Int) - 1 - i) (ahead ++ l)[k] = false) → teleFrom b base c ahead l = true
  | [], _, _, _, _ => rfl
  | a :: l, ahead, hlen, hp, hu => by
    rw [List.length_cons] at hlen
    rw [teleFrom, Bool.and_eq_true]
    have hpa := hp a (List.mem_cons_self ..)
    have hk0 : ahead.length < (ahead ++ a :: l).length := by simp
    have hga : (ahead ++ a :: l)[ahead.length] = a := by simp
    have hua : ∀ i (hi : i < ahead.length), ahead[i].r = true → argU ((ahead.length : Int) - 1 - i) a = false := fun i hi hr => by
      have h1 := hu i (by simp; omega) (by rw [List.getElem_append_left hi]; exact hr) ahead.length hk0 hi (Nat.le_refl _)
      rw [hga] at h1
      exact h1
    refine ⟨?_, tele_plain b base c hrec l (ahead ++ [a]) (by simp; omega) (fun x hx => hp x (List.mem_cons_of_mem _ hx)) fun i hi hr k hk hik hak => ?_⟩
    · unfold teleArg
      cases har : a.r with
      | false =>
        rw [if_pos (by simp)]
        rw [← view_zero]
        refine plain_view b base (by omega) (hpa.1 har) fun i hi hr => ?_
        have h1 := hua i hi hr
        unfold argU at h1
        rw [Bool.or_eq_false_iff] at h1
        rw [show (ahead.length : Int) - 1 - i + ((0 : Nat) : Int) = (ahead.length : Int) - 1 - i by omega]
        exact h1.1
      | true =>
        rw [if_neg (by simp)]
        obtain ⟨hd, hx, hdl⟩ := hpa.2 har
        rw [Bool.and_eq_true]
        constructor
        · refine doms_plain b base _ a.dom 0 fun j hj => ?_
          rw [Nat.zero_add]
          refine plain_view (r := j) b base (by omega) (hd _ (List.getElem_mem hj)) fun i hi hr => ?_
          have h1 := hua i hi hr
          unfold argU at h1
          rw [Bool.or_eq_false_iff, Bool.or_eq_false_iff] at h1
          have h2 := domsU_at a.dom 0 h1.2.1 j hj
          rw [Nat.zero_add] at h2
          exact h2
        · refine indices_plain b base hrec _ _ _ _ _ fun u hu2 => ?_
          refine plain_view (r := a.dom.length) b base (by omega) (hx u hu2) fun i hi hr => ?_
          have h1 := hua i hi hr
          unfold argU at h1
          rw [Bool.or_eq_false_iff, Bool.or_eq_false_iff] at h1
          exact idxU_mem h1.2.2 u hu2
    · have e : (ahead ++ [a]) ++ l = ahead ++ a :: l := by simp
      simp only [e] at hr hk ⊢
      have hi2 : i < (ahead ++ a :: l).length := by rw [← e]; exact hi
      exact hu i hi2 hr k hk hik (by rw [List.length_append] at hak; omega)
theorem names_out {b : BlkT} {base : Int} (h0 : 0 ≤ base) (h1 : base ≤ 65535) (hn : ∀ i : Nat, (i : Int) < countB b → namesB b (base + i) = false) {t : Tm} (ht : t ∈ namesL b) : ∀ m ∈ constT t, ofB b base m = (0, 0) := fun m hm => by
  refine of_out b h0 h1 ?_
  by_cases h : m < base
  · exact .inl h
  by_cases h2 : base + countB b ≤ m
  · exact .inr h2
  have h3 := hn (m - base).toNat (by omega)
  rw [show base + (((m - base).toNat : Nat) : Int) = m by omega] at h3
  unfold namesB at h3
  rw [List.any_eq_false] at h3
  exact absurd (decide_eq_true hm) (h3 t ht)
theorem mem_args {l : List ArgT} {a : ArgT} (ha : a ∈ l) : a.ty ∈ termsA l ∧ (∀ u ∈ a.dom, u ∈ termsA l) ∧ ∀ u ∈ a.idx, u ∈ termsA l := by
  refine ⟨?_, fun u hu => ?_, fun u hu => ?_⟩
  · exact List.mem_flatMap.2 ⟨a, ha, by simp⟩
  · exact List.mem_flatMap.2 ⟨a, ha, by simp [hu]⟩
  · exact List.mem_flatMap.2 ⟨a, ha, by simp [hu]⟩
theorem plainA_of {b : BlkT} {base : Int} {l : List ArgT} (hR : ∀ a ∈ l, ArgR b a) (hN : ∀ u ∈ termsA l, ∀ m ∈ constT u, ofB b base m = (0, 0)) : ∀ a ∈ l, PlainA b base a := fun a ha => by
  have h1 := hR a ha
  obtain ⟨m1, m2, m3⟩ := mem_args ha
  constructor
  · intro hr
    rw [ArgR, hr] at h1
    have h2 : TermR a.ty := by simpa using h1
    exact ⟨h2.1, hN _ m1⟩
  · intro hr
    rw [ArgR, hr, if_pos rfl] at h1
    obtain ⟨_, h3, _, h4, h5⟩ := h1
    exact ⟨fun u hu => ⟨(h4 u hu).1, hN _ (m2 u hu)⟩, fun u hu => ⟨(h5 u hu).1, hN _ (m3 u hu)⟩, h3⟩
/-- A plain block is positive. -/
theorem posit_plain (b : BlkT) (hs : blkN b ≤ 1048576) (hsh : shapeB b = true) {base : Int} (h0 : 0 ≤ base) (h1 : base ≤ 65535) (hn : ∀ i : Nat, (i : Int) < countB b → namesB b (base + i) = false)
    (hrec : ∀ s ∈ b.sorts, ∀ a ∈ s.idx, a.r = false) (hu : ∀ x ∈ b.cons, ∀ i (hi : i < x.args.length), x.args[i].r = true → usedB x i = false) : positB b base = 0 := by
  obtain ⟨hS, hC⟩ := shape_R hsh (idx_small hs)
  have hN := fun t ht => names_out (t := t) h0 h1 hn ht
  rw [positB, if_neg (by rw [hsh]; simp), if_neg (by simp [inZ]; omega), if_pos]
  rw [Bool.and_eq_true]
  constructor
  · rw [List.all_eq_true]
    intro s hs2
    obtain ⟨hsA, hsl, hsd⟩ := hS s hs2
    have hNS : ∀ u ∈ termsA s.idx, ∀ m ∈ constT u, ofB b base m = (0, 0) := fun u hu2 => hN u (List.mem_append_left _ (List.mem_flatMap.2 ⟨s, hs2, List.mem_cons_of_mem _ hu2⟩))
    have hr := hrec s hs2
    unfold sortPos teleB
    rw [Bool.and_eq_true, Bool.or_eq_true]
    constructor
    · refine tele_plain b base 0 hrec s.idx [] (by simp; omega) (plainA_of hsA hNS) fun i hi hir => ?_
      simp only [List.nil_append] at hi hir
      rw [hr _ (List.getElem_mem hi)] at hir
      exact absurd hir (by decide)
    · cases hd : s.dec with
      | false => exact .inl rfl
      | true =>
        right
        rw [← view_zero]
        refine plain_view b base (by omega) ⟨(hsd hd).1, hN _ (List.mem_append_left _ (List.mem_flatMap.2 ⟨s, hs2, List.mem_cons_self ..⟩))⟩ fun i hi hir => ?_
        rw [hr _ (List.getElem_mem hi)] at hir
        exact absurd hir (by decide)
  · have key : ∀ (l : List ConT) (c : Nat), (∀ x ∈ l, x ∈ b.cons) → consPos b base c l = true := by
      intro l
      induction l with
      | nil => intro _ _; rfl
      | cons x l ih =>
        intro c hl
        rw [consPos, Bool.and_eq_true]
        refine ⟨?_, ih (c + 1) fun y hy => hl y (List.mem_cons_of_mem _ hy)⟩
        have hx := hl x (List.mem_cons_self ..)
        obtain ⟨hA, hal, ⟨k, hk, hkl, hil, hdec⟩, _, hI⟩ := hC x hx
        have hux := hu x hx
        have hmx : ∀ u, u ∈ x.dec :: (x.idx ++ termsA x.args) → u ∈ namesL b := fun u hu2 => List.mem_append_right _ (List.mem_flatMap.2 ⟨x, hx, hu2⟩)
        have hNA : ∀ u ∈ termsA x.args, ∀ m ∈ constT u, ofB b base m = (0, 0) := fun u hu2 => hN u (hmx u (List.mem_cons_of_mem _ (List.mem_append_right _ hu2)))
        unfold conPos teleB
        rw [Bool.and_eq_true, Bool.and_eq_true, Bool.or_eq_true]
        refine ⟨⟨?_, ?_⟩, ?_⟩
        · refine tele_plain b base c hrec x.args [] (by simp; omega) (plainA_of hA hNA) fun i hi hir k hk hik _ => ?_
          simp only [List.nil_append] at hi hir hk ⊢
          have h2 := hux i hi hir
          unfold usedB at h2
          rw [Bool.or_eq_false_iff] at h2
          have h3 := argsU_at _ _ h2.1 (k - (i + 1)) (by rw [List.length_drop]; omega)
          rw [List.getElem_drop] at h3
          have e1 : i + 1 + (k - (i + 1)) = k := by omega
          have e2 : (i : Int) + 1 + ((k - (i + 1) : Nat) : Int) - 1 - i = (k : Int) - 1 - i := by omega
          simp only [e1] at h3
          rw [e2] at h3
          exact h3
        · refine indices_plain b base hrec _ _ _ _ _ fun u hu2 => ?_
          rw [← view_zero]
          refine plain_view b base (by omega) ⟨(hI u hu2).1, hN u (hmx u (List.mem_cons_of_mem _ (List.mem_append_left _ hu2)))⟩ fun i hi hir => ?_
          have h2 := hux i hi hir
          unfold usedB at h2
          rw [Bool.or_eq_false_iff, Bool.or_eq_false_iff] at h2
          rw [show (x.args.length : Int) - 1 - i + ((0 : Nat) : Int) = (x.args.length : Int) - 1 - i by omega]
          exact idxU_mem h2.2.1 u hu2
        · have hhd : hasDec b x.sort = b.sorts[k].dec := by rw [hk, hasDec, Int.toNat_natCast, List.getElem?_eq_getElem hkl]; rfl
          rw [hhd]
          cases hd : b.sorts[k].dec with
          | false => exact .inl rfl
          | true =>
            right
            rw [← view_zero]
            refine plain_view b base (by omega) ⟨(hdec hd).1, hN _ (hmx _ (List.mem_cons_self ..))⟩ fun i hi hir => ?_
            have h2 := hux i hi hir
            unfold usedB at h2
            rw [Bool.or_eq_false_iff, Bool.or_eq_false_iff] at h2
            rw [show (x.args.length : Int) - 1 - i + ((0 : Nat) : Int) = (x.args.length : Int) - 1 - i by omega]
            exact h2.2.2
    exact key b.cons 0 fun x hx => hx
end Go.Proofs.Ytggefpkfikimiaa
