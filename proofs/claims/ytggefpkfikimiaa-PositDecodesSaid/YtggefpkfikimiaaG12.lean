/- Telescopes and spines: mathematics alone. -/
import Derived.Test.YtggefpkfikimiaaG11
import Derived.Test.YtggefpkfikimiaaG10
namespace Go.Proofs.Ytggefpkfikimiaa
open Go.RowKit
set_option linter.unusedVariables false

def wrapT (k : Int) : List Tm → Tm → Tm | [], b => b | a :: l, b => .node k 0 [a, wrapT k l b]
def spineT : Tm → List Tm → Tm | f, [] => f | f, a :: l => spineT (.node 6 0 [f, a]) l
/-- The args of a spine, the last one first; its head. -/
def unspine : Tm → Tm × List Tm | .node k n l => if k = 6 then (match l with | [a, b] => ((unspine a).1, (unspine a).2 ++ [b]) | _ => (.node k n l, [])) else (.node k n l, [])
def unpis : Tm → List Tm × Tm | .node k n l => if k = 4 then (match l with | [a, b] => (a :: (unpis b).1, (unpis b).2) | _ => ([], .node k n l)) else ([], .node k n l)

theorem wrap_append (k : Int) : ∀ (l m : List Tm) (t : Tm), wrapT k (l ++ m) t = wrapT k l (wrapT k m t)
  | [], m, t => rfl
  | a :: l, m, t => by rw [List.cons_append, wrapT, wrapT, wrap_append k l m t]
theorem wrap_snoc (k : Int) (l : List Tm) (a t : Tm) : wrapT k (l ++ [a]) t = wrapT k l (.node k 0 [a, t]) := wrap_append k l [a] t
/-- One more, from the last on. -/
theorem wrap_drop (k : Int) {l : List Tm} {j : Nat} (h : j < l.length) (t : Tm) : wrapT k (l.drop j) t = .node k 0 [l[j], wrapT k (l.drop (j + 1)) t] := by
  rw [List.drop_eq_getElem_cons h, wrapT]
theorem spine_append : ∀ (l m : List Tm) (f : Tm), spineT f (l ++ m) = spineT (spineT f l) m
  | [], m, f => rfl
  | a :: l, m, f => by rw [List.cons_append, spineT, spineT, spine_append l m]
theorem spine_snoc (f : Tm) (l : List Tm) (a : Tm) : spineT f (l ++ [a]) = .node 6 0 [spineT f l, a] := spine_append l [a] f
theorem spine_take {l : List Tm} {j : Nat} (h : j < l.length) (f : Tm) : spineT f (l.take (j + 1)) = .node 6 0 [spineT f (l.take j), l[j]] := by
  rw [List.take_succ_eq_append_getElem h, spine_snoc]
theorem wrap_size (k : Int) : ∀ (l : List Tm) (t : Tm), size (wrapT k l t) = size t + sizeL l + l.length
  | [], t => rfl
  | a :: l, t => by
    have := wrap_size k l t
    rw [wrapT, size, sizeL, sizeL, sizeL, this, sizeL, List.length_cons]
    omega
theorem spine_size : ∀ (l : List Tm) (f : Tm), size (spineT f l) = size f + sizeL l + l.length
  | [], f => rfl
  | a :: l, f => by
    rw [spineT, spine_size l, size, sizeL, sizeL, sizeL, sizeL, List.length_cons]
    omega
/-- What is put together is taken apart. -/
theorem unspine_app (k n : Int) (a b : Tm) (hk : k = 6) : unspine (.node k n [a, b]) = ((unspine a).1, (unspine a).2 ++ [b]) := by rw [unspine, if_pos hk]
theorem unspine_no {t : Tm} (h : ¬ (t.k = 6 ∧ t.kids.length = 2)) : unspine t = (t, []) := by
  obtain ⟨k, n, l⟩ := t
  by_cases hl : l.length = 2
  · obtain ⟨a, b, rfl⟩ : ∃ a b, l = [a, b] := by
      match l, hl with
      | [a, b], _ => exact ⟨a, b, rfl⟩
    have hk : k ≠ 6 := fun e => h ⟨e, rfl⟩
    rw [unspine, if_neg hk]
  · rw [unspine, ite_self]
    intro a b e
    exact hl (by rw [e]; rfl)
theorem unpis_pi (k n : Int) (a b : Tm) (hk : k = 4) : unpis (.node k n [a, b]) = (a :: (unpis b).1, (unpis b).2) := by rw [unpis, if_pos hk]
theorem unpis_no {t : Tm} (h : ¬ (t.k = 4 ∧ t.kids.length = 2)) : unpis t = ([], t) := by
  obtain ⟨k, n, l⟩ := t
  by_cases hl : l.length = 2
  · obtain ⟨a, b, rfl⟩ : ∃ a b, l = [a, b] := by
      match l, hl with
      | [a, b], _ => exact ⟨a, b, rfl⟩
    have hk : k ≠ 4 := fun e => h ⟨e, rfl⟩
    rw [unpis, if_neg hk]
  · rw [unpis, ite_self]
    intro a b e
    exact hl (by rw [e]; rfl)
theorem unspine_spine : ∀ (l : List Tm) (t : Tm), unspine (spineT t l) = ((unspine t).1, (unspine t).2 ++ l)
  | [], t => by rw [spineT, List.append_nil]
  | a :: l, t => by rw [spineT, unspine_spine l, unspine_app _ _ _ _ rfl, List.append_assoc]; rfl
theorem unpis_wrap : ∀ (l : List Tm) (t : Tm), unpis (wrapT 4 l t) = (l ++ (unpis t).1, (unpis t).2)
  | [], t => rfl
  | a :: l, t => by rw [wrapT, unpis_pi _ _ _ _ rfl, unpis_wrap l t]; rfl
theorem two_kids {l : List Tm} (h : l.length = 2) : ∃ a b, l = [a, b] := by
  match l, h with
  | [a, b], _ => exact ⟨a, b, rfl⟩
theorem app_formed {k n : Int} {l : List Tm} (h : formedB (.node k n l) = true) (hk : k = 6 ∨ k = 4) : n = 0 ∧ ∃ a b, l = [a, b] ∧ formedB a = true ∧ formedB b = true := by
  rw [formedB, Bool.and_eq_true, Bool.and_eq_true, decide_eq_true_eq] at h
  obtain ⟨⟨h1, h2⟩, h3⟩ := h
  have hl : l.length = 2 := by
    have : kidsI k = 2 := by rcases hk with rfl | rfl <;> decide
    omega
  obtain ⟨a, b, rfl⟩ := two_kids hl
  rw [if_neg (by simp), decide_eq_true_eq] at h2
  simp only [formedL, Bool.and_eq_true] at h3
  exact ⟨h2, a, b, rfl, h3.1, h3.2.1⟩
/-- What is taken apart is put together again. -/
theorem spine_unspine : ∀ t : Tm, formedB t = true → spineT (unspine t).1 (unspine t).2 = t ∧ (unspine t).1.k ≠ 6 := by
  refine tm_ind fun t ih hf => ?_
  obtain ⟨k, n, l⟩ := t
  by_cases hk : k = 6
  · obtain ⟨h0, a, b, rfl, ha, hb⟩ := app_formed hf (.inl hk)
    obtain ⟨e1, e2⟩ := ih a (by simp [Tm.kids]) ha
    rw [unspine_app _ _ _ _ hk]
    refine ⟨?_, e2⟩
    show spineT (unspine a).1 ((unspine a).2 ++ [b]) = _
    rw [spine_snoc, e1, hk, h0]
  · rw [unspine_no (t := .node k n l) (fun h => hk h.1)]
    exact ⟨rfl, hk⟩
theorem pis_unpis : ∀ t : Tm, formedB t = true → wrapT 4 (unpis t).1 (unpis t).2 = t ∧ (unpis t).2.k ≠ 4 := by
  refine tm_ind fun t ih hf => ?_
  obtain ⟨k, n, l⟩ := t
  by_cases hk : k = 4
  · obtain ⟨h0, a, b, rfl, ha, hb⟩ := app_formed hf (.inr hk)
    obtain ⟨e1, e2⟩ := ih b (by simp [Tm.kids]) hb
    rw [unpis_pi _ _ _ _ hk]
    refine ⟨?_, e2⟩
    show wrapT 4 (a :: (unpis b).1) (unpis b).2 = _
    rw [wrapT, e1, hk, h0]
  · rw [unpis_no (t := .node k n l) (fun h => hk h.1)]
    exact ⟨rfl, hk⟩
theorem unspine_sizes : ∀ t : Tm, size (unspine t).1 + sizeL (unspine t).2 ≤ size t := by
  refine tm_ind fun t ih => ?_
  obtain ⟨k, n, l⟩ := t
  by_cases h : k = 6 ∧ l.length = 2
  · obtain ⟨hk, hl⟩ := h
    obtain ⟨a, b, rfl⟩ := two_kids hl
    have := ih a (by simp [Tm.kids])
    rw [unspine_app _ _ _ _ hk]
    show size (unspine a).1 + sizeL ((unspine a).2 ++ [b]) ≤ _
    rw [sizeL_append, size, sizeL, sizeL, sizeL, sizeL, sizeL]
    omega
  · rw [unspine_no (t := .node k n l) h]
    simp [sizeL]
theorem unpis_sizes : ∀ t : Tm, sizeL (unpis t).1 + size (unpis t).2 ≤ size t := by
  refine tm_ind fun t ih => ?_
  obtain ⟨k, n, l⟩ := t
  by_cases h : k = 4 ∧ l.length = 2
  · obtain ⟨hk, hl⟩ := h
    obtain ⟨a, b, rfl⟩ := two_kids hl
    have := ih b (by simp [Tm.kids])
    rw [unpis_pi _ _ _ _ hk]
    show sizeL (a :: (unpis b).1) + size (unpis b).2 ≤ _
    rw [sizeL, size, sizeL, sizeL, sizeL]
    omega
  · rw [unpis_no (t := .node k n l) h]
    simp [sizeL]
/-- Telescopes of either kind are right, or wrong, alike. -/
theorem wrap_depth (k k' : Int) : ∀ (l : List Tm) (t : Tm), depth (wrapT k l t) = depth (wrapT k' l t)
  | [], t => rfl
  | a :: l, t => by rw [wrapT, wrapT, depth, depth, depthL, depthL, depthL, depthL, depthL, depthL, wrap_depth k k' l t]
theorem wrap_formed {k : Int} (hk : k = 4 ∨ k = 5) : ∀ (l : List Tm) (t : Tm), formedB (wrapT k l t) = (formedL l && formedB t)
  | [], t => by rw [wrapT, formedL, Bool.true_and]
  | a :: l, t => by
    have h2 : kidsI k = 2 := by rcases hk with rfl | rfl <;> decide
    rw [wrapT, formedB, formedL, formedL, formedL, formedL, wrap_formed hk l t]
    simp [h2, Bool.and_assoc]
theorem wrap_check (l : List Tm) (t : Tm) : checkE (wrapT 4 l t) = checkE (wrapT 5 l t) := by
  unfold checkE
  rw [wrap_size, wrap_size, wrap_depth 4 5, wrap_formed (.inl rfl), wrap_formed (.inr rfl)]
theorem wrap_scoped {k : Int} (hk : k = 4 ∨ k = 5) {c : Int} : ∀ (l : List Tm) (t : Tm) (v : Int), (∀ i (h : i < l.length), scopedT l[i] (v + i) c = true) → scopedT t (v + l.length) c = true → scopedT (wrapT k l t) v c = true
  | [], t, v, _, h => by
    have e : v + ((([] : List Tm).length : Nat) : Int) = v := by simp
    rw [e] at h
    exact h
  | a :: l, t, v, h1, h2 => by
    have h0 := h1 0 (by simp)
    have b0 : bindsI k ((0 : Nat) : Int) = 0 := by unfold bindsI; rw [if_neg (by omega)]
    have b1 : bindsI k ((0 + 1 : Nat) : Int) = 1 := by unfold bindsI; rw [if_pos (by omega)]
    have hr := wrap_scoped hk (c := c) l t (v + 1) (fun i h => by
      have := h1 (i + 1) (by simpa using h)
      rw [List.getElem_cons_succ] at this
      rw [show v + 1 + (i : Int) = v + ((i + 1 : Nat) : Int) by omega]
      exact this) (by rw [show v + 1 + (l.length : Int) = v + (((a :: l).length : Nat) : Int) by simp; omega]; exact h2)
    have e0 : v + ((0 : Nat) : Int) = v := by omega
    rw [wrapT, scopedT, if_neg (by omega), if_neg (by omega), if_neg (by omega), scopedL, scopedL, scopedL, b0, b1, hr, Int.add_zero]
    rw [e0] at h0
    have h0' : scopedT a v c = true := h0
    rw [h0']; rfl
theorem tele_scopes {l : List Tm} {t : Tm} (h1 : ∀ i (h : i < l.length), scopeT l[i] i 65536 = true) (h2 : scopeT t l.length 65536 = true) (hc : checkE (wrapT 4 l t) = 0) : scopeT (wrapT 4 l t) 0 65536 = true ∧ scopeT (wrapT 5 l t) 0 65536 = true := by
  have s1 : ∀ i (h : i < l.length), scopedT l[i] (0 + i) 65536 = true := fun i h => by rw [Int.zero_add]; exact (scope_parts (h1 i h)).2.2.2
  have s2 : scopedT t (0 + l.length) 65536 = true := by rw [Int.zero_add]; exact (scope_parts h2).2.2.2
  exact ⟨scope_of (Int.le_refl _) (by omega) hc (wrap_scoped (.inl rfl) l t 0 s1 s2), scope_of (Int.le_refl _) (by omega) (by rw [← wrap_check]; exact hc) (wrap_scoped (.inr rfl) l t 0 s1 s2)⟩
/-- A spine on variables. -/
theorem spine_scoped (v c : Int) : ∀ (l : List Tm) (f : Tm), scopedT (spineT f l) v c = (scopedT f v c && l.all fun a => scopedT a v c)
  | [], f => by rw [spineT]; simp
  | a :: l, f => by
    rw [spineT, spine_scoped v c l, scopedT, if_neg (by omega), if_neg (by omega), if_neg (by omega), scopedL, scopedL, scopedL]
    have b0 : bindsI 6 ((0 : Nat) : Int) = 0 := by decide
    have b1 : bindsI 6 ((0 + 1 : Nat) : Int) = 0 := by decide
    rw [b0, b1, Int.add_zero, List.all_cons, Bool.and_true, Bool.and_assoc]
theorem spine_formed : ∀ (l : List Tm) (f : Tm), formedB (spineT f l) = (formedB f && formedL l)
  | [], f => by rw [spineT, formedL, Bool.and_true]
  | a :: l, f => by
    rw [spineT, spine_formed l, formedB, formedL, formedL, formedL, formedL]
    simp [show kidsI 6 = 2 from by decide, Bool.and_assoc]
theorem spine_depth (d : Nat) : ∀ (l : List Tm) (f : Tm), (∀ a ∈ l, depth a ≤ 1) → depth f ≤ d + 1 → depth (spineT f l) ≤ d + 1 + l.length
  | [], f, _, h => by rw [spineT]; simpa using h
  | a :: l, f, h1, h2 => by
    have ha := h1 a List.mem_cons_self
    have := spine_depth (d + 1) l (.node 6 0 [f, a]) (fun x hx => h1 x (List.mem_cons_of_mem _ hx)) (by rw [depth, depthL, depthL, depthL]; omega)
    rw [spineT, List.length_cons]
    omega
theorem vars_formed {N : Nat} (hN : N ≤ 60000) (j : Nat) (hj : j ≤ N) : formedL (varsT N j) = true := by
  induction j with
  | zero => rfl
  | succ j ih =>
    rw [varsT_succ, formedL_append, ih (by omega), formedL, formedL, check_formed (var_check (by omega) (by omega))]
    rfl
theorem vars_all {N : Nat} (v c : Int) (j : Nat) (hj : j ≤ N) : ((varsT N j).all fun a => scopedT a v c) = decide (j = 0 ∨ (N : Int) - 1 < v) := by
  induction j with
  | zero => simp [varsT]
  | succ j ih =>
    rw [varsT_succ, List.all_append, ih (by omega), List.all_cons, List.all_nil, Bool.and_true, scopedT, if_pos rfl, Bool.eq_iff_iff, Bool.and_eq_true, decide_eq_true_eq, decide_eq_true_eq, decide_eq_true_eq]
    omega
theorem tele_vars {N : Nat} {c : Int} (hN : N < 60) (hc : 0 ≤ c) (hc2 : c < 100) : scopeT (spineT (.node 3 c []) (varsT N N)) N (c + 1) = true ∧ (N = 0 ∨ scopeT (spineT (.node 3 c []) (varsT N N)) (N - 1) (c + 1) = false) ∧ scopeT (spineT (.node 3 c []) (varsT N N)) N c = false := by
  have hs : size (spineT (.node 3 c []) (varsT N N)) = 1 + N + N := by
    have hv : ∀ j, sizeL (varsT N j) = j := fun j => by
      induction j with
      | zero => rfl
      | succ j ih => rw [varsT_succ, sizeL_append, ih]; simp [sizeL, size]
    rw [spine_size, hv, varsT_length]; simp [size, sizeL]
  have hd : depth (spineT (.node 3 c []) (varsT N N)) ≤ 200 := by
    have := spine_depth 0 (varsT N N) (.node 3 c []) (fun a ha => by
      obtain ⟨i, hi, rfl⟩ := List.mem_map.1 ha
      simp [depth, depthL]) (by simp [depth, depthL])
    rw [varsT_length] at this
    omega
  have hf : formedB (spineT (.node 3 c []) (varsT N N)) = true := by
    rw [spine_formed, vars_formed (by omega) N (Nat.le_refl _), Bool.and_true, formedB, formedL]
    simp [show kidsI 3 = 0 from by decide]
    omega
  have hk : checkE (spineT (.node 3 c []) (varsT N N)) = 0 := check_of (by omega) hd hf
  have hsc : ∀ v d : Int, scopedT (spineT (.node 3 c []) (varsT N N)) v d = (decide (c < d) && decide (N = 0 ∨ (N : Int) - 1 < v)) := fun v d => by
    rw [spine_scoped, vars_all v d N (Nat.le_refl _), scopedT, if_neg (by omega), if_neg (by omega), if_pos rfl]
  refine ⟨scope_of (by omega) (by omega) hk ?_, ?_, ?_⟩
  · rw [hsc]; simp; omega
  · by_cases h0 : N = 0
    · exact .inl h0
    · right
      unfold scopeT
      rw [hsc]
      have : decide (N = 0 ∨ (N : Int) - 1 < (N : Int) - 1) = false := decide_eq_false (by omega)
      rw [this, Bool.and_false, Bool.and_false]
  · unfold scopeT
    rw [hsc, decide_eq_false (by omega : ¬ c < c), Bool.false_and, Bool.and_false]
end Go.Proofs.Ytggefpkfikimiaa
/- Package tele's answers: rows and terms in new memory, as spoiling them wants them said. No conditions. -/
namespace Go.Proofs.Ytggefpkfikimiaa
open Go.RowKit
set_option linter.unusedVariables false

/-- Rows of terms in blocks of a set, that may be written over. -/
inductive AtE (S : Nat → Prop) (w : World) : List Tm → Value → Prop
  | nl : AtE S w [] (.slice none 0 0)
  | em (a : Addr) (cap : Nat) : AtE S w [] (.slice (some a) 0 cap)
  | row (l : List Tm) (b off cap : Nat) (vs : Nat → Value) (cs : Array Value) (hS : S b) (hcs : w.heap[b]? = some (.cells cs 25 (0, 0))) (hlen : l.length ≤ cap) (hm : cap ≤ maxLen)
      (hk : ∀ i (_ : i < l.length), cs[off + i * 3]? = some (.int .i64 l[i].k) ∧ cs[off + i * 3 + 1]? = some (.int .i64 l[i].n) ∧ cs[off + i * 3 + 2]? = some (vs i)) (hs : ∀ i (h : i < l.length), AtE S w l[i].kids (vs i)) : AtE S w l (.slice (some ⟨b, off, none⟩) l.length cap)
theorem AtE.ats {S : Nat → Prop} {w : World} {l : List Tm} {v : Value} (h : AtE S w l v) : AtS S w l v := by
  induction h with
  | nl => exact .nl
  | em a cap => exact .em a cap
  | row l b off cap vs cs hS hcs hlen hm hk _ ih =>
    refine .row l b off cap vs (fun _ => hS) hlen hm (fun i hi => ?_) (fun i hi => ?_) (fun i hi => ?_) ih
    · simp [World.cell?, hcs, (hk i hi).1]
    · simp [World.cell?, hcs, (hk i hi).2.1]
    · simp [World.cell?, hcs, (hk i hi).2.2]
theorem AtE.at {S : Nat → Prop} {w : World} {l : List Tm} {v : Value} (h : AtE S w l v) : At w l v := h.ats.at
theorem AtE.same {S T : Nat → Prop} {w w' : World} (h : ∀ b, S b → T b ∧ w'.heap[b]? = w.heap[b]?) {l : List Tm} {v : Value} (hA : AtE S w l v) : AtE T w' l v := by
  induction hA with
  | nl => exact .nl
  | em a cap => exact .em a cap
  | row l b off cap vs cs hS hcs hlen hm hk _ ih => exact .row l b off cap vs cs (h b hS).1 ((h b hS).2.trans hcs) hlen hm hk ih
theorem AtK.ate {S : Nat → Prop} {w : World} {l : List Tm} {v : Value} (h : AtK S w l v) : AtE S w l v := by
  induction h with
  | nl => exact .nl
  | row l b vs hS hK hm _ ih =>
    obtain ⟨cs, h1, h2, h3⟩ := hK
    exact .row l b 0 l.length vs cs hS h1 (Nat.le_refl _) hm (fun i hi => by rw [Nat.zero_add]; exact h3 i hi) ih
def newS (w w' : World) : Nat → Prop := fun b => w.heap.size ≤ b ∧ b < w'.heap.size
/-- A term that is told; a term and a row beside it; a row. -/
def TellE (w : World) (r : Tm) (e : Ending) (w' : World) : Prop := ∃ a cap, e = .returned (.agg #[.int .i64 r.k, .int .i64 r.n, .slice a r.kids.length cap]) ∧ AtE (newS w w') w' r.kids (.slice a r.kids.length cap) ∧ Below w.heap.size w w'
def TellTL (w : World) (r : Tm) (l : List Tm) (e : Ending) (w' : World) : Prop := ∃ a cap a2 cap2, e = .returned (.tuple #[.agg #[.int .i64 r.k, .int .i64 r.n, .slice a r.kids.length cap], .slice a2 l.length cap2]) ∧ AtE (newS w w') w' r.kids (.slice a r.kids.length cap) ∧ AtE (newS w w') w' l (.slice a2 l.length cap2) ∧ Below w.heap.size w w'
def TellLT (w : World) (l : List Tm) (r : Tm) (e : Ending) (w' : World) : Prop := ∃ a cap a2 cap2, e = .returned (.tuple #[.slice a2 l.length cap2, .agg #[.int .i64 r.k, .int .i64 r.n, .slice a r.kids.length cap]]) ∧ AtE (newS w w') w' r.kids (.slice a r.kids.length cap) ∧ AtE (newS w w') w' l (.slice a2 l.length cap2) ∧ Below w.heap.size w w'
def TellL (w : World) (l : List Tm) (e : Ending) (w' : World) : Prop := ∃ a cap, e = .returned (.slice a l.length cap) ∧ AtE (newS w w') w' l (.slice a l.length cap) ∧ Below w.heap.size w w'
def varsL (n : Int) : List Tm := if 1 ≤ n ∧ n ≤ 65536 then varsT n.toNat n.toNat else []
/-- A term that was told is boxed. -/
theorem boxed_at {w w1 w2 : World} {r : Tm} {a : Option Addr} {cap : Nat} (hw : Below w.heap.size w w1) (hb : Below w1.heap.size w1 w2) (hA : At w2 r.kids (.slice a r.kids.length cap)) :
    One w w2.heap.size r (.slice a r.kids.length cap) (w2.alloc (.cells #[.int .i64 r.k, .int .i64 r.n, .slice a r.kids.length cap] 25)) ∧ Below w1.heap.size w1 (w2.alloc (.cells #[.int .i64 r.k, .int .i64 r.n, .slice a r.kids.length cap] 25)) := by
  obtain ⟨h1, h2, h3⟩ := one_start w2 r (.slice a r.kids.length cap) hA
  exact ⟨⟨h1, h2, hw.trans ((hb.trans (h3.mono hb.size)).mono hw.size)⟩, hb.trans (h3.mono hb.size)⟩
/-- A part of a row. -/
theorem at_drop {w : World} {l : List Tm} {b off cap j : Nat} (h : At w l (.slice (some ⟨b, off, none⟩) l.length cap)) (hj : j ≤ l.length) (h0 : 0 < l.length) : At w (l.drop j) (.slice (some ⟨b, off + j * 3, none⟩) (l.length - j) (cap - j)) := by
  obtain ⟨b', off', cap', vs, he, h1, h2, kk, kn, kv, ks⟩ := h.pos h0
  cases he
  have hl : (l.drop j).length = l.length - j := List.length_drop
  rw [← hl]
  refine .row (l.drop j) b (off + j * 3) (cap - j) (fun i => vs (j + i)) (by omega) (by omega) (fun i hi => ?_) (fun i hi => ?_) (fun i hi => ?_) (fun i hi => ?_)
  · rw [List.getElem_drop, show off + j * 3 + i * 3 = off + (j + i) * 3 by omega]; exact kk (j + i) (by omega)
  · rw [List.getElem_drop, show off + j * 3 + i * 3 = off + (j + i) * 3 by omega]; exact kn (j + i) (by omega)
  · rw [show off + j * 3 + i * 3 = off + (j + i) * 3 by omega]; exact kv (j + i) (by omega)
  · rw [List.getElem_drop]; exact ks (j + i) (by omega)
theorem at_take {w : World} {l : List Tm} {b off cap j : Nat} (h : At w l (.slice (some ⟨b, off, none⟩) l.length cap)) (hj : j ≤ l.length) (h0 : 0 < l.length) : At w (l.take j) (.slice (some ⟨b, off, none⟩) j cap) := by
  obtain ⟨b', off', cap', vs, he, h1, h2, kk, kn, kv, ks⟩ := h.pos h0
  cases he
  have hl : (l.take j).length = j := by simp; omega
  have : At w (l.take j) (.slice (some ⟨b, off, none⟩) (l.take j).length cap) := by
    refine .row (l.take j) b off cap vs (by omega) h2 (fun i hi => ?_) (fun i hi => ?_) (fun i hi => ?_) (fun i hi => ?_)
    · rw [List.getElem_take]; exact kk i (by omega)
    · rw [List.getElem_take]; exact kn i (by omega)
    · exact kv i (by omega)
    · rw [List.getElem_take]; exact ks i (by omega)
  rwa [hl] at this
theorem AtE.grw {S : Nat → Prop} {w w' : World} (hg : Below w.heap.size w w') {l : List Tm} {v : Value} (hA : AtE S w l v) : AtE S w' l v := by
  induction hA with
  | nl => exact .nl
  | em a cap => exact .em a cap
  | row l b off cap vs cs hS hcs hlen hm hk _ ih => exact .row l b off cap vs cs hS ((hg.block b (Array.getElem?_eq_some_iff.1 hcs).1).trans hcs) hlen hm hk ih
/-- In a region that draws its order: a term that is told, a box that is made for one. -/
def RT (r : Tm) : VP := fun v s e w => ∃ a cap, v = .agg #[.int .i64 r.k, .int .i64 r.n, .slice a r.kids.length cap] ∧ AtE (fun b => s ≤ b ∧ b < e) w r.kids (.slice a r.kids.length cap)
theorem RT.mono (r : Tm) : Mono (RT r) := fun v s e w w' hg ⟨a, c, h1, h2⟩ => ⟨a, c, h1, h2.grw hg⟩
def RZ : VP := fun v s e w => v = .pointer (some ⟨s, 0, none⟩) ∧ w.heap[s]? = some (.cells #[.int .i64 0, .int .i64 0, .slice none 0 0] 25 (0, 0)) ∧ s < e
theorem RZ.mono : Mono RZ := fun v s e w w' hg h => ⟨h.1, (hg.block s (Array.getElem?_eq_some_iff.1 h.2.1).1).trans h.2.1, h.2.2⟩
theorem rt_of {P : Program} {w : World} {r : Tm} {f : FuncId} {args : Array Value} (h : Calls P f args w (TellE w r)) : Calls P f args w fun e w' => ∃ v, e = .returned v ∧ Grw w w' ∧ RT r v w.heap.size w'.heap.size w' :=
  h.mono fun e w' ⟨a, c, he, hA, hb⟩ => ⟨_, he, hb, a, c, rfl, hA⟩
abbrev put3 (W : World) (s : Nat) (r : Tm) (v : Value) : World := ((W.setCell ⟨s, 0, none⟩ (.int .i64 r.k)).setCell ⟨s, 1, none⟩ (.int .i64 r.n)).setCell ⟨s, 2, none⟩ v
/-- Two terms are told, and stored into boxes. -/
theorem two_told {w w4 w5 : World} {p q : Tm} {s6 s7 : Nat} {v v2 : Value} {S S2 : Nat → Prop} (hw : Below w.heap.size w w4) (hg : Below w4.heap.size w4 w5) (h6 : w4.heap.size ≤ s6) (h7 : w4.heap.size ≤ s7) (hne : s6 ≠ s7)
    (z6 : w5.heap[s6]? = some (.cells #[.int .i64 0, .int .i64 0, .slice none 0 0] 25 (0, 0))) (z7 : w5.heap[s7]? = some (.cells #[.int .i64 0, .int .i64 0, .slice none 0 0] 25 (0, 0)))
    (hp : AtE S w5 p.kids v) (hq : AtE S2 w5 q.kids v2) (d1 : ∀ b, S b → b ≠ s6 ∧ b ≠ s7) (d2 : ∀ b, S2 b → b ≠ s6 ∧ b ≠ s7) :
    One w s6 p v (put3 (put3 w5 s6 p v) s7 q v2) ∧ One w s7 q v2 (put3 (put3 w5 s6 p v) s7 q v2) ∧ Below w4.heap.size w4 (put3 (put3 w5 s6 p v) s7 q v2) := by
  have hB : Below w4.heap.size w4 (put3 (put3 w5 s6 p v) s7 q v2) := (hg.trans (below_store3 h6 _ _ _)).trans (below_store3 h7 _ _ _)
  have hW := hw.trans (hB.mono hw.size)
  have b6 : (put3 (put3 w5 s6 p v) s7 q v2).heap[s6]? = _ := (other_store3 hne _ _ _).trans (box_store3 z6 _ _ _)
  have b7 : (put3 (put3 w5 s6 p v) s7 q v2).heap[s7]? = _ := box_store3 ((other_store3 (fun h => hne h.symm) _ _ _).trans z7) _ _ _
  have hp' := hp.same (T := fun _ => True) (w' := put3 (put3 w5 s6 p v) s7 q v2) fun b hb => ⟨trivial, (other_store3 (d1 b hb).2 _ _ _).trans (other_store3 (d1 b hb).1 _ _ _)⟩
  have hq' := hq.same (T := fun _ => True) (w' := put3 (put3 w5 s6 p v) s7 q v2) fun b hb => ⟨trivial, (other_store3 (d2 b hb).2 _ _ _).trans (other_store3 (d2 b hb).1 _ _ _)⟩
  exact ⟨⟨(boxc b6).1, hp'.at, hW⟩, ⟨(boxc b7).1, hq'.at, hW⟩, hB⟩
theorem at_cap {w : World} {l : List Tm} {a : Option Addr} {cap : Nat} (h : At w l (.slice a l.length cap)) : l.length ≤ cap := by
  by_cases h0 : 0 < l.length
  · obtain ⟨b, off, cap', vs, he, h1, _⟩ := h.pos h0
    cases he
    exact h1
  · omega
theorem at_empty {w : World} {a : Option Addr} {cap cap2 : Nat} (h : At w [] (.slice a 0 cap)) (hc : cap2 ≤ cap) (a2 : Option Addr) (h2 : a = none → a2 = none) (h3 : ∀ x, a = some x → ∃ y, a2 = some y) : At w [] (.slice a2 0 cap2) := by
  cases a with
  | none =>
    rw [h2 rfl]
    cases h with
    | nl => rw [Nat.le_zero.1 hc]; exact .nl
  | some x =>
    obtain ⟨y, rfl⟩ := h3 x rfl
    exact .em y cap2
/-- A row from a place on, as Go slices it. -/
theorem at_low {w : World} {l : List Tm} {a : Option Addr} {cap j : Nat} (h : At w l (.slice a l.length cap)) (hj : j ≤ l.length) : At w (l.drop j) (.slice (Option.map (fun x => x.add (j * 3)) a) (l.length - j) (cap - j)) := by
  by_cases h0 : 0 < l.length
  · obtain ⟨b, off, cap', vs, he, h1, _⟩ := h.pos h0
    cases he
    have hadd : (⟨b, off, none⟩ : Addr).add (j * 3) = ⟨b, off + j * 3, none⟩ := by unfold Addr.add; split <;> simp_all
    show At w _ (.slice (some ((⟨b, off, none⟩ : Addr).add (j * 3))) _ _)
    rw [hadd]
    exact at_drop h hj h0
  · have hl : l = [] := List.eq_nil_of_length_eq_zero (by omega)
    subst hl
    obtain rfl : j = 0 := by simpa using hj
    refine at_empty (a := a) (cap := cap) h (Nat.sub_le _ _) _ (fun e => by rw [e]; rfl) (fun x e => ⟨x.add (0 * 3), by rw [e]; rfl⟩)
theorem at_low_end {w : World} {l : List Tm} {a : Option Addr} {cap j : Nat} (h : At w l (.slice a l.length cap)) (hj : j ≤ l.length) (hc : cap = j) : At w (l.drop j) (.slice a (l.length - j) 0) := by
  have h1 := at_cap h
  have e1 : l.length - j = 0 := by omega
  have e2 : l.drop j = [] := List.drop_eq_nil_of_le (by omega)
  rw [e1, e2]
  by_cases h0 : 0 < l.length
  · obtain ⟨b, off, cap', vs, he, _⟩ := h.pos h0
    cases he
    exact .em _ _
  · have hl : l = [] := List.eq_nil_of_length_eq_zero (by omega)
    subst hl
    exact at_empty (a := a) (cap := cap) h (Nat.zero_le _) _ (fun e => e) (fun x e => ⟨x, e⟩)
theorem at_high {w : World} {l : List Tm} {a : Option Addr} {cap j : Nat} (h : At w l (.slice a l.length cap)) (hj : j ≤ l.length) : At w (l.take j) (.slice a j cap) := by
  by_cases h0 : 0 < l.length
  · obtain ⟨b, off, cap', vs, he, _⟩ := h.pos h0
    cases he
    exact at_take h hj h0
  · have hl : l = [] := List.eq_nil_of_length_eq_zero (by omega)
    subst hl
    obtain rfl : j = 0 := by simpa using hj
    exact h
set_option maxHeartbeats 1000000 in
theorem c3_any (n : Int) (w : World) :
    Calls Try.prog 9 #[.int .i64 n] w fun e w' => e = .returned (.agg #[.int .i64 3, .int .i64 n, .slice none 0 0]) ∧ Below w.heap.size w w' := by
  have hb := below_al w (.cells #[.int .i64 3, .int .i64 n, .slice none 0 0] 25)
  go_enter Try.func9, Try.ntmps9
  go_wp2
  exact bodyPost_ret (v := .agg #[.int .i64 3, .int .i64 n, .slice none 0 0]) (by simp [results, Try.f9, go_sem]) rfl ⟨rfl, hb⟩
theorem varsL_nat {N : Nat} (h : N ≤ 65536) : varsL (N : Int) = varsT N N := by
  unfold varsL
  by_cases h0 : N = 0
  · subst h0; rfl
  · rw [if_pos (by omega), Int.toNat_natCast]
theorem varsL_out {n : Int} (h : n < 1 ∨ 65536 < n) : varsL n = [] := if_neg (by omega)
end Go.Proofs.Ytggefpkfikimiaa
