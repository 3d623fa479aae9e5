/- Whether a node alone is as a right term's; whether it alone is in scope: package term's small functions. -/
import Derived.Test.YtggefpkfikimiaaG02
import Derived.Test.YtggefpkfikimiaaG01
import Derived.WalkKit
import Derived.Lib.Hide
import Derived.IntWalk
import Derived.Deep.QuietTactic
import Derived.BigQuiet
namespace Go.Proofs.Ytggefpkfikimiaa
set_option linter.unusedVariables false
open Go.RowKit

def fitsB (k n : Int) (len : Nat) : Bool := decide ((len : Int) = kidsI k) && (if kidsI k = 0 then decide (0 ≤ n) && decide (n ≤ 65535) else decide (n = 0))
def inB (k n b v c : Int) : Bool := if k = 1 then decide (n - b < v) else if k = 2 then decide (n ≤ 6) else if k = 3 then decide (n < c) else true

theorem q_same {P : Program} {f : FuncId} {args : Array Value} {w : World} {n : Nat} {v : Value}
    (h : Calls P f args (w.drewN n) fun e w' => e = .returned v ∧ w.drewN n = w') : Calls P f args (w.drewN n) fun e w'' => e = .returned v ∧ ∃ m, w'' = w.drewN m :=
  h.mono fun _ _ ⟨he, hm⟩ => ⟨he, n, hm.symm⟩

set_option maxRecDepth 100000 in
set_option maxHeartbeats 1000000 in
theorem fits_any (k n : Int) (a : Option Addr) (len cap : Nat) (hl : len < 2147483648) (w : World) :
    Calls Try.prog 108 #[.agg #[.int .i64 k, .int .i64 n, .slice a len cap]] w fun e w' => e = .returned (.bool (fitsB k n len)) ∧ Below w.heap.size w w' := by
  have hb0 := below_al w (.cells #[.int .i64 k, .int .i64 n, .slice a len cap] 25)
  have hK := Lib.hid (fun w => kids_any k w)
  have hL := Lib.hid (fun w => leaf_any k w)
  by_cases h : (len : Int) = kidsI k
  · have e1 : ((len : Int) != kidsI k) = false := by simpa using h
    by_cases h0 : kidsI k = 0
    · have e2 : (kidsI k == 0) = true := by simpa using h0
      have HE := Lib.hid (show fitsB k n len = (decide (0 ≤ n) && decide (n ≤ 65535)) by rw [fitsB, if_pos h0, decide_eq_true h]; rfl)
      clear h h0
      by_cases hn : 0 ≤ n
      · go_enter Try.func108, Try.ntmps108
        go_wp2_with fail
        go_quiet ((go_at_call 110; exact q_same (hK.out _)))
        go_wp2_with (go_at_call 111; refine (hL.out _).mono ?_; rintro e w' ⟨rfl, rfl⟩)
        go_ret
        exact ⟨ret_bool (by rw [HE.out]; simp [hn]), belowN hb0 _⟩
      · have hd : decide (0 ≤ n) = false := by simpa using hn
        go_enter Try.func108, Try.ntmps108
        go_wp2_with fail
        go_quiet ((go_at_call 110; exact q_same (hK.out _)))
        go_wp2_with (go_at_call 111; refine (hL.out _).mono ?_; rintro e w' ⟨rfl, rfl⟩)
        go_ret
        exact ⟨ret_bool (by rw [HE.out]; simp [hd]), belowN hb0 _⟩
    · have e2 : (kidsI k == 0) = false := by simpa using h0
      have HE := Lib.hid (show fitsB k n len = decide (n = 0) by rw [fitsB, if_neg h0, decide_eq_true h]; rfl)
      clear h h0
      go_enter Try.func108, Try.ntmps108
      go_wp2_with fail
      go_quiet ((go_at_call 110; exact q_same (hK.out _)))
      go_wp2_with (go_at_call 111; refine (hL.out _).mono ?_; rintro e w' ⟨rfl, rfl⟩)
      go_ret
      exact ⟨ret_bool (by rw [HE.out]; exact beq_dec n 0), belowN hb0 _⟩
  · have e1 : ((len : Int) != kidsI k) = true := by simpa using h
    have HE := Lib.hid (show fitsB k n len = false by rw [fitsB, decide_eq_false h]; rfl)
    clear h
    go_enter Try.func108, Try.ntmps108
    go_wp2_with fail
    go_quiet ((go_at_call 110; exact q_same (hK.out _)))
    go_wp2_with fail
    go_ret
    exact ⟨ret_bool HE.out.symm, belowN hb0 _⟩

set_option maxRecDepth 100000 in
set_option maxHeartbeats 1000000 in
theorem inscope_any (k n b v c : Int) (hn : 0 ≤ n) (hn2 : n ≤ 65535) (hb : 0 ≤ b) (hb2 : b ≤ 1099511627776) (sv : Value) (w : World) :
    Calls Try.prog 106 #[.agg #[.int .i64 k, .int .i64 n, sv], .int .i64 b, .int .i64 v, .int .i64 c] w fun e w' => e = .returned (.bool (inB k n b v c)) ∧ Below w.heap.size w w' := by
  have hb0 := below_al w (.cells #[.int .i64 k, .int .i64 n, sv] 25)
  have hw : IntKind.i64.wrap (n - b) = n - b := IntWalk.i64_in _ (by omega)
  by_cases h1 : k = 1
  · subst h1
    go_enter Try.func106, Try.ntmps106
    go_wp2
    go_ret
    exact ⟨ret_bool (by simp [inB]), hb0⟩
  · have e1 : (k == 1) = false := by simpa using h1
    by_cases h2 : k = 2
    · subst h2
      go_enter Try.func106, Try.ntmps106
      go_wp2
      go_ret
      exact ⟨ret_bool (by simp [inB]), hb0⟩
    · have e2 : (k == 2) = false := by simpa using h2
      by_cases h3 : k = 3
      · subst h3
        go_enter Try.func106, Try.ntmps106
        go_wp2
        go_ret
        exact ⟨ret_bool (by simp [inB]), hb0⟩
      · have e3 : (k == 3) = false := by simpa using h3
        have HE := Lib.hid (show inB k n b v c = true by simp [inB, h1, h2, h3])
        clear h1 h2 h3
        go_enter Try.func106, Try.ntmps106
        go_wp2
        go_ret
        exact ⟨ret_bool HE.out.symm, hb0⟩
end Go.Proofs.Ytggefpkfikimiaa
/- What all the nodes of a term say of it: its depth, whether it is formed, in scope. -/
namespace Go.Proofs.Ytggefpkfikimiaa
open Go.RowKit

mutual
theorem nodesT_deep : ∀ (t : Tm) (d b : Int), ∃ x ∈ nodesT t d b, x.1 = d + depth t - 1
  | .node k n l, d, b => by
    by_cases hl : l = []
    · subst hl; exact ⟨_, List.mem_cons_self, by simp [depth, depthL]⟩
    · obtain ⟨x, hx, he⟩ := nodesL_deep l k (d + 1) b 0 hl
      exact ⟨x, by rw [nodesT]; exact List.mem_cons_of_mem _ hx, by simp only [depth]; omega⟩
theorem nodesL_deep : ∀ (l : List Tm) (k d b : Int) (i : Nat), l ≠ [] → ∃ x ∈ nodesL l k d b i, x.1 = d + depthL l - 1
  | [], _, _, _, _, h => absurd rfl h
  | t :: l, k, d, b, i, _ => by
    by_cases hm : depthL l ≤ depth t
    · obtain ⟨x, hx, he⟩ := nodesT_deep t d (b + bindsI k i)
      exact ⟨x, by rw [nodesL]; exact List.mem_append_left _ hx, by simp only [depthL]; omega⟩
    · have hl : l ≠ [] := by rintro rfl; simp [depthL] at hm
      obtain ⟨x, hx, he⟩ := nodesL_deep l k d b (i + 1) hl
      exact ⟨x, by rw [nodesL]; exact List.mem_append_right _ hx, by simp only [depthL]; omega⟩
end

mutual
theorem nodesT_sub : ∀ (t : Tm) (d b : Int), ∀ x ∈ nodesT t d b, size x.2.2 ≤ size t
  | .node k n l, d, b => by
    intro x hx
    rw [nodesT] at hx
    rcases List.mem_cons.1 hx with rfl | hx
    · exact Nat.le_refl _
    · have := nodesL_sub l k (d + 1) b 0 x hx
      simp only [size]; omega
theorem nodesL_sub : ∀ (l : List Tm) (k d b : Int) (i : Nat), ∀ x ∈ nodesL l k d b i, size x.2.2 ≤ sizeL l
  | [], _, _, _, _ => by intro x hx; simp [nodesL] at hx
  | t :: l, k, d, b, i => by
    intro x hx
    rw [nodesL] at hx
    simp only [sizeL]
    rcases List.mem_append.1 hx with hx | hx
    · have := nodesT_sub t d _ x hx; omega
    · have := nodesL_sub l k d b (i + 1) x hx; omega
end
def fitsP (x : PEl) : Bool := fitsB x.2.2.k x.2.2.n x.2.2.kids.length
theorem fitsB_eq (k n : Int) (len : Nat) : fitsB k n len = (decide ((len : Int) = kidsI k) && (if len = 0 then decide (0 ≤ n) && decide (n ≤ 65535) else decide (n = 0))) := by
  unfold fitsB
  by_cases h : (len : Int) = kidsI k
  · rw [decide_eq_true h]
    by_cases h0 : len = 0
    · rw [if_pos h0, if_pos (by omega)]
    · rw [if_neg h0, if_neg (by omega)]
  · rw [decide_eq_false h]; rfl
mutual
theorem formed_all : ∀ (t : Tm) (d b : Int), formedB t = (nodesT t d b).all fitsP
  | .node k n l, d, b => by
    rw [nodesT, List.all_cons, ← formedL_all l k (d + 1) b 0, formedB_eq]
    show _ = (fitsB k n l.length && formedL l)
    rw [fitsB_eq]; rfl
theorem formedL_all : ∀ (l : List Tm) (k d b : Int) (i : Nat), formedL l = (nodesL l k d b i).all fitsP
  | [], _, _, _, _ => by simp [formedL, nodesL]
  | t :: l, k, d, b, i => by rw [formedL, nodesL, List.all_append, ← formed_all t d (b + bindsI k i), ← formedL_all l k d b (i + 1)]
end

def inP (v c : Int) (x : PEl) : Bool := inB x.2.2.k x.2.2.n x.2.1 v c
theorem leaf_kids {k : Int} {l : List Tm} (h : ((l.length : Int) = kidsI k)) (hk : k = 1 ∨ k = 2 ∨ k = 3) : l = [] := by
  have : kidsI k = 0 := by unfold kidsI; rw [if_pos hk]
  exact List.eq_nil_of_length_eq_zero (by omega)
mutual
theorem scoped_all : ∀ (t : Tm) (d b v c : Int), formedB t = true → scopedT t (v + b) c = (nodesT t d b).all (inP v c)
  | .node k n l, d, b, v, c => by
    intro hf
    simp only [formedB, Bool.and_eq_true, decide_eq_true_eq] at hf
    obtain ⟨⟨hlen, _⟩, hl⟩ := hf
    rw [nodesT, List.all_cons, scopedT]
    show _ = (inB k n b v c && (nodesL l k (d + 1) b 0).all (inP v c))
    unfold inB
    by_cases h1 : k = 1
    · have := leaf_kids hlen (.inl h1); subst this; rw [if_pos h1, if_pos h1]; simp [nodesL]; constructor <;> intro <;> omega
    · by_cases h2 : k = 2
      · have := leaf_kids hlen (.inr (.inl h2)); subst this; rw [if_neg h1, if_neg h1, if_pos h2, if_pos h2]; simp [nodesL]
      · by_cases h3 : k = 3
        · have := leaf_kids hlen (.inr (.inr h3)); subst this; rw [if_neg h1, if_neg h1, if_neg h2, if_neg h2, if_pos h3, if_pos h3]; simp [nodesL]
        · rw [if_neg h1, if_neg h1, if_neg h2, if_neg h2, if_neg h3, if_neg h3, scopedL_all l k (d + 1) b v c 0 hl]; rfl
theorem scopedL_all : ∀ (l : List Tm) (k d b v c : Int) (i : Nat), formedL l = true → scopedL l k (v + b) c i = (nodesL l k d b i).all (inP v c)
  | [], _, _, _, _, _, _ => by intro; simp [scopedL, nodesL]
  | t :: l, k, d, b, v, c, i => by
    intro hf
    simp only [formedL, Bool.and_eq_true] at hf
    rw [scopedL, nodesL, List.all_append, ← scopedL_all l k d b v c (i + 1) hf.2, Int.add_assoc, scoped_all t d (b + bindsI k i) v c hf.1]
end
theorem scoped_nodes (t : Tm) (v c : Int) (hf : formedB t = true) : scopedT t v c = (nodesT t 1 0).all (inP v c) := by
  have := scoped_all t 1 0 v c hf
  rwa [Int.add_zero] at this
theorem fitsP_var {x : PEl} (h : fitsP x = true) (hk : x.2.2.k = 1) : 0 ≤ x.2.2.n ∧ x.2.2.n ≤ 65535 := by
  have h0 : kidsI x.2.2.k = 0 := by rw [hk]; decide
  simp only [fitsP, fitsB, if_pos h0, Bool.and_eq_true, decide_eq_true_eq] at h
  exact h.2
theorem fitsP_n {x : PEl} (h : fitsP x = true) : 0 ≤ x.2.2.n ∧ x.2.2.n ≤ 65535 := by
  simp only [fitsP, fitsB, Bool.and_eq_true, decide_eq_true_eq] at h
  have := h.2
  split at this
  · simpa using this
  · have : x.2.2.n = 0 := by simpa using this
    omega
/-- The page's cap on the variables changes nothing of a well formed term. -/
theorem scoped_cap (t : Tm) (v c : Int) (hf : formedB t = true) : scopedT t (min v 1048576) c = scopedT t v c := by
  rw [scoped_nodes t v c hf, scoped_nodes t _ c hf]
  have ha : ∀ x ∈ nodesT t 1 0, fitsP x = true := List.all_eq_true.1 ((formed_all t 1 0).symm.trans hf)
  rw [Bool.eq_iff_iff, List.all_eq_true, List.all_eq_true]
  have one : ∀ x ∈ nodesT t 1 0, inP (min v 1048576) c x = inP v c x := fun x hx => by
    have hb := nodesT_in t 1 0 x hx
    simp only [inP, inB]
    by_cases h1 : x.2.2.k = 1
    · have := fitsP_var (ha x hx) h1
      rw [if_pos h1, if_pos h1, decide_eq_decide]; omega
    · rw [if_neg h1, if_neg h1]
  exact ⟨fun h x hx => by rw [← one x hx]; exact h x hx, fun h x hx => by rw [one x hx]; exact h x hx⟩

/-- The greatest depth that has come; whether all that have come fit; whether all are in scope. -/
def maxD (l : List El) : Int := l.foldl (fun m x => max m x.d) 0
def allF (l : List El) : Bool := l.all fun x => fitsP x.p
def allS (v c : Int) (l : List El) : Bool := l.all fun x => inP v c x.p
theorem maxD_snoc (l : List El) (x : El) : maxD (l ++ [x]) = max (maxD l) x.d := by simp [maxD]
theorem allF_snoc (l : List El) (x : El) : allF (l ++ [x]) = (allF l && fitsB x.t.k x.t.n x.t.kids.length) := by simp [allF, fitsP, El.p]
theorem foldl_max (l : List El) (m : Int) : m ≤ l.foldl (fun m x => max m x.d) m ∧ (∀ x ∈ l, x.d ≤ l.foldl (fun m x => max m x.d) m) ∧ (l.foldl (fun m x => max m x.d) m = m ∨ ∃ x ∈ l, x.d = l.foldl (fun m x => max m x.d) m) := by
  induction l generalizing m with
  | nil => simp
  | cons y l ih =>
    obtain ⟨h1, h2, h3⟩ := ih (max m y.d)
    simp only [List.foldl_cons]
    refine ⟨by omega, fun x hx => ?_, ?_⟩
    · rcases List.mem_cons.1 hx with rfl | hx
      · omega
      · exact h2 x hx
    · rcases h3 with h3 | ⟨x, hx, h3⟩
      · rcases Int.le_total y.d m with h | h
        · left; rw [h3]; omega
        · right; exact ⟨y, List.mem_cons_self, by rw [h3]; omega⟩
      · exact .inr ⟨x, List.mem_cons_of_mem _ hx, h3⟩
theorem mem_of_came {all : List PEl} {l : List El} (h : Came all l) {x : El} (hx : x ∈ l) : x.p ∈ all := by
  obtain ⟨⟨rest, hp⟩, _⟩ := h
  exact hp.subset (List.mem_append_left _ (List.mem_map_of_mem hx))
theorem maxD_all {t : Tm} {l : List El} (h : CameAll (nodesT t 1 0) l) : maxD l = depth t := by
  obtain ⟨h1, h2, h3⟩ := foldl_max l 0
  obtain ⟨x, hx, he⟩ := nodesT_deep t 1 0
  obtain ⟨y, hy, rfl⟩ := List.mem_map.1 (h.1.symm.subset hx)
  have hy2 := h2 y hy
  have hup : ∀ z ∈ l, z.d ≤ depth t := fun z hz => by
    have := nodesT_in t 1 0 z.p (h.1.subset (List.mem_map_of_mem hz))
    simp only [El.p] at this; omega
  have hd := depth_eq t
  simp only [El.p] at he
  change maxD l = _ at *
  rcases h3 with h3 | ⟨z, hz, h3⟩
  · have h3' : maxD l = 0 := h3
    have : y.d ≤ maxD l := hy2
    omega
  · have := hup z hz
    have h3' : z.d = maxD l := h3
    have : y.d ≤ maxD l := hy2
    omega
theorem maxD_range {t : Tm} {l : List El} (h : Came (nodesT t 1 0) l) : 0 ≤ maxD l ∧ maxD l ≤ depth t := by
  obtain ⟨h1, h2, h3⟩ := foldl_max l 0
  refine ⟨h1, ?_⟩
  rcases h3 with h3 | ⟨z, hz, h3⟩
  · have h3' : maxD l = 0 := h3
    omega
  · have := nodesT_in t 1 0 z.p (mem_of_came h hz)
    have h3' : z.d = maxD l := h3
    simp only [El.p] at this; omega
theorem all_perm {α : Type} {a b : List α} (h : a.Perm b) (p : α → Bool) : a.all p = b.all p := by
  rw [Bool.eq_iff_iff, List.all_eq_true, List.all_eq_true]
  exact ⟨fun hh x hx => hh x (h.symm.subset hx), fun hh x hx => hh x (h.subset hx)⟩
theorem allF_all {t : Tm} {l : List El} (h : CameAll (nodesT t 1 0) l) : allF l = formedB t := by
  rw [formed_all t 1 0, ← all_perm h.1, List.all_map]; rfl
theorem allS_all {t : Tm} {l : List El} (v c : Int) (h : CameAll (nodesT t 1 0) l) : allS v c l = (nodesT t 1 0).all (inP v c) := by
  rw [← all_perm h.1, List.all_map]; rfl
theorem Came.init {all : List PEl} {l : List El} {x : El} (h : Came all (l ++ [x])) : Came all l := by
  obtain ⟨⟨rest, hp⟩, hs⟩ := h
  exact ⟨⟨x.p :: rest, by simpa using hp⟩, fun y hy => hs y (List.mem_append_left _ hy)⟩
theorem came_of_all {all : List PEl} {l : List El} (h : CameAll all l) : Came all l := ⟨⟨[], by simpa using h.1⟩, h.2⟩
theorem allS_no {t : Tm} {l : List El} {x : El} {v c : Int} (h : Came (nodesT t 1 0) (l ++ [x])) (hx : inP v c x.p = false) : (nodesT t 1 0).all (inP v c) = false := by
  rw [Bool.eq_false_iff]
  intro hh
  rw [List.all_eq_true.1 hh _ h.mem.1] at hx
  cases hx
end Go.Proofs.Ytggefpkfikimiaa
/- Package term's Depth, Check and Scope: what they return for any term. -/
namespace Go.Proofs.Ytggefpkfikimiaa
open Go.RowKit Go.Shelf Go Go.Joins
attribute [local go_sem] Oper.semAt_some

theorem max_ite (a b : Int) : max a b = if a < b then b else a := by split <;> omega
end Go.Proofs.Ytggefpkfikimiaa
/- Package term's Depth, Check and Scope: what they return for any term. -/
namespace Go.Proofs.Ytggefpkfikimiaa
open Go.RowKit Go.Shelf Go Go.Joins
attribute [local go_sem] Oper.semAt_some

theorem KeepsOut.below' {n₀ n₁ D : Nat} {A B C : World} (h : KeepsOut n₀ n₁ A B) (hb : Below D B C) (hD : B.heap.size ≤ D) : KeepsOut n₀ n₁ A C := h.trans ⟨hb.size, fun k hk _ => hb.block k (Nat.lt_of_lt_of_le hk hD)⟩
set_option maxRecDepth 100000 in
set_option maxHeartbeats 2000000 in
theorem tcheck_in (t : Tm) (v : Value) (w : World) (hf : Fits t) (hs : size t < 2147483648) (hA : At w t.kids v) :
    CallsIn Fence.wide 6 Try.prog 104 #[tv t v] w fun e w' => e = .returned (.int .i64 (checkE t)) ∧ Below w.heap.size w w' := by
  have h1 : 1 ≤ 6 := by omega
  unfold tv
  refine callsIn_of_wp_marks Try.func104 rfl trivial ?_ rfl
  simp only [Try.ntmps104, List.size_toArray, List.length_cons, List.length_nil, Nat.reduceAdd, Nat.reduceSub, Array.replicate_succ, Array.replicate_zero, List.push_toArray, List.append_toArray, List.nil_append, List.cons_append]
  gi_wp2_with (refine ⟨trivial, ?_⟩; gi_at_call 105; refine (callsIn_wide.2 (nodes_agg t v _ (((((hA.alloc _).alloc _).alloc _).alloc _).alloc _))).mono ?_; rintro e w' ⟨rfl, rfl⟩)
  have hb3 := box3_new (((((w.alloc (.cells #[.int .i64 t.k, .int .i64 t.n, v] 25)).alloc (.cells #[.int .i64 0] 39)).alloc (.cells #[.int .i64 0] 3)).alloc (.cells #[.int .i64 0] 3)).alloc (.cells #[.bool true] 4)) t v 25
  have hb1 := ((((Boxed.new (w.alloc (.cells #[.int .i64 t.k, .int .i64 t.n, v] 25)) 39 (.int .i64 0)).alloc (.cells #[.int .i64 0] 3)).alloc (.cells #[.int .i64 0] 3)).alloc (.cells #[.bool true] 4)).alloc (.cells #[.int .i64 t.k, .int .i64 t.n, v] 25)
  have hb2 := (((Boxed.new ((w.alloc (.cells #[.int .i64 t.k, .int .i64 t.n, v] 25)).alloc (.cells #[.int .i64 0] 39)) 3 (.int .i64 0)).alloc (.cells #[.int .i64 0] 3)).alloc (.cells #[.bool true] 4)).alloc (.cells #[.int .i64 t.k, .int .i64 t.n, v] 25)
  have hb4 := ((Boxed.new (((w.alloc (.cells #[.int .i64 t.k, .int .i64 t.n, v] 25)).alloc (.cells #[.int .i64 0] 39)).alloc (.cells #[.int .i64 0] 3)) 3 (.int .i64 0)).alloc (.cells #[.bool true] 4)).alloc (.cells #[.int .i64 t.k, .int .i64 t.n, v] 25)
  have hb5 := (Boxed.new ((((w.alloc (.cells #[.int .i64 t.k, .int .i64 t.n, v] 25)).alloc (.cells #[.int .i64 0] 39)).alloc (.cells #[.int .i64 0] 3)).alloc (.cells #[.int .i64 0] 3)) 4 (.bool true)).alloc (.cells #[.int .i64 t.k, .int .i64 t.n, v] 25)
  have hB0 : Below w.heap.size w ((((((w.alloc (.cells #[.int .i64 t.k, .int .i64 t.n, v] 25)).alloc (.cells #[.int .i64 0] 39)).alloc (.cells #[.int .i64 0] 3)).alloc (.cells #[.int .i64 0] 3)).alloc (.cells #[.bool true] 4)).alloc (.cells #[.int .i64 t.k, .int .i64 t.n, v] 25)) := ((((((Below.refl _ w).alloc (Nat.le_refl _) _).alloc (by simp) _).alloc (by simp; omega) _).alloc (by simp; omega) _).alloc (by simp; omega) _).alloc (by simp; omega) _
  have hsz : ((((((w.alloc (.cells #[.int .i64 t.k, .int .i64 t.n, v] 25)).alloc (.cells #[.int .i64 0] 39)).alloc (.cells #[.int .i64 0] 3)).alloc (.cells #[.int .i64 0] 3)).alloc (.cells #[.bool true] 4)).alloc (.cells #[.int .i64 t.k, .int .i64 t.n, v] 25)).heap.size = w.heap.size + 6 := by simp
  simp only [World.size_alloc] at hb3 hb1 hb2 hb4 hb5
  revert hb3 hb1 hb2 hb4 hb5 hB0 hsz
  generalize ((((((w.alloc (.cells #[.int .i64 t.k, .int .i64 t.n, v] 25)).alloc (.cells #[.int .i64 0] 39)).alloc (.cells #[.int .i64 0] 3)).alloc (.cells #[.int .i64 0] 3)).alloc (.cells #[.bool true] 4)).alloc (.cells #[.int .i64 t.k, .int .i64 t.n, v] 25)) = W0
  intro hB0 hsz hb3 hb1 hb2 hb4 hb5
  have hz1 : W0.heap.size ≤ w.heap.size + 6 := by omega
  have hz2 : w.heap.size + 6 ≤ W0.heap.size := by omega
  clear hsz
  refine wpIn_rangeFunc_N h1 (gf := 109) (lb := #[.pointer (some ⟨w.heap.size + 1 + 1 + 1 + 1 + 1, 0, none⟩)]) rfl (enters_of Try.func109 (by kernel_rfl) rfl)
    (nodes_seq 5 (by omega) (w.heap.size + 1 + 1 + 1 + 1 + 1) w W0 t v hf hs hA (old_of hB0) hb3) (Below.refl _ _) (by omega) rfl
    (fun pre W => (Boxed W (w.heap.size + 1) 39 (.int .i64 0) ∧ Boxed W (w.heap.size + 1 + 1) 3 (.int .i64 pre.length) ∧ Boxed W (w.heap.size + 1 + 1 + 1) 3 (.int .i64 (maxD pre)) ∧ Boxed W (w.heap.size + 1 + 1 + 1 + 1) 4 (.bool (allF pre)) ∧ pre.length ≤ 6000) ∧ Below w.heap.size w W)
    (fun c pre W => c = .ret ∧ Boxed W (w.heap.size + 1) 39 (.int .i64 4) ∧ 6000 < pre.length ∧ Below w.heap.size w W)
    (fun s A B hs hb => ⟨⟨boxed_bel hs.1.1 hb (by omega), boxed_bel hs.1.2.1 hb (by omega), boxed_bel hs.1.2.2.1 hb (by omega), boxed_bel hs.1.2.2.2.1 hb (by omega), hs.1.2.2.2.2⟩, hs.2.trans (hb.mono (by omega))⟩)
    (fun c s A B hs hb => ⟨hs.1, boxed_bel hs.2.1 hb (by omega), hs.2.2.1, hs.2.2.2.trans (hb.mono (by omega))⟩)
    ⟨⟨hb1, hb2, hb4, hb5, by simp⟩, hB0⟩
    (fun x a' W => ∃ Bx, W0.heap.size + 2 ≤ Bx ∧ W.heap[Bx]? = some (.cells #[.int .i64 x.d, .int .i64 x.b] 118 (0, 0)) ∧ W.heap[Bx + 1]? = some (.cells #[.int .i64 x.t.k, .int .i64 x.t.n, x.v] 25 (0, 0)) ∧ a' = { tmps := #[.agg #[.int .i64 t.k, .int .i64 t.n, v], .pointer (some ⟨w.heap.size, 0, none⟩), .pointer (some ⟨w.heap.size + 1, 0, none⟩), .pointer (some ⟨w.heap.size + 1 + 1, 0, none⟩), .pointer (some ⟨w.heap.size + 1 + 1 + 1, 0, none⟩), .pointer (some ⟨w.heap.size + 1 + 1 + 1 + 1, 0, none⟩), .pointer (some ⟨Bx, 0, none⟩), .pointer (some ⟨Bx + 1, 0, none⟩), .agg #[.int .i64 t.k, .int .i64 t.n, v], .func (.func 109) #[] #[.pointer (some ⟨w.heap.size + 1 + 1 + 1 + 1 + 1, 0, none⟩)], .agg #[.int .i64 x.d, .int .i64 x.b], .agg #[.int .i64 x.t.k, .int .i64 x.t.n, x.v], undef, undef, undef, undef, undef, undef, undef, undef, undef, undef, undef, undef, undef, undef, undef, undef, undef], defers := [] })
    (fun x a' A l o hs hl => by obtain ⟨Bx, h1, h2, h2', h3⟩ := hs; exact ⟨Bx, h1, (World.putObj_heap_other (by omega)).trans h2, (World.putObj_heap_other (by omega)).trans h2', h3⟩)
    ?assign ?body ?done ?stop
  case assign =>
    rintro l pre x W K hc ⟨⟨g1, g2, g4, g5, g6⟩, hB⟩ hszW hK
    obtain ⟨ax, cx, hv⟩ := hc.mem.2
    obtain ⟨xd, xb, xt, xv⟩ := x
    simp only at hv
    subst hv
    simp only [El.vals, tv]
    gi_wp2
    have hnew := World.alloc_heap_new (W.alloc (.cells #[.int .i64 xd, .int .i64 xb] 118)) (.cells #[.int .i64 xt.k, .int .i64 xt.n, .slice ax xt.kids.length cx] 25)
    rw [World.size_alloc] at hnew
    exact hK _ _ (((KeepsOut.refl _ _ _).alloc _).alloc _) ⟨⟨(g1.alloc _).alloc _, (g2.alloc _).alloc _, (g4.alloc _).alloc _, (g5.alloc _).alloc _, g6⟩, (hB.alloc hB.size _).alloc (by simp; have := hB.size; omega) _⟩
      ⟨W.heap.size, by omega, (Below.heap_alloc _ _ _ (by simp)).trans (World.alloc_heap_new W _), hnew, by simp⟩
  case body =>
    rintro l pre x a' W hc ⟨⟨g1, g2, g4, g5, g6⟩, hB⟩ hszW ⟨Bx, hBx, hbx, hbt, rfl⟩
    obtain ⟨ax, cx, hv⟩ := hc.mem.2
    obtain ⟨xd, xb, xt, xv⟩ := x
    simp only at hv
    subst hv
    have hr := maxD_range hc.init
    have hdz := depth_le_size t
    have hin := hc.mem.1
    have hlk : xt.kids.length < 2147483648 := by
      have h5 := hc.length
      have h6 := nodesT_sub t 1 0 _ hin
      have h7 := length_le_sizeL xt.kids
      have h8 := size_eq xt
      simp only [El.p] at h6
      omega
    have c1 := g1.cell
    have f1 := g1.frozen
    have c2 := g2.cell
    have f2 := g2.frozen
    have c4 := g4.cell
    have f4 := g4.frozen
    have c5 := g5.cell
    have f5 := g5.frozen
    have x0 : W.cell? ⟨Bx, 0, none⟩ = some (.int .i64 xd) := by simp [World.cell?, hbx]
    obtain ⟨n0, n1, n2⟩ : W.cell? ⟨Bx + 1, 0, none⟩ = some (.int .i64 xt.k) ∧ W.cell? ⟨Bx + 1, 1, none⟩ = some (.int .i64 xt.n) ∧ W.cell? ⟨Bx + 1, 2, none⟩ = some (.slice ax xt.kids.length cx) := by
      refine ⟨?_, ?_, ?_⟩ <;> simp [World.cell?, hbt]
    have hsn := Lib.hid (maxD_snoc pre ⟨xd, xb, xt, .slice ax xt.kids.length cx⟩)
    have hsf := Lib.hid (allF_snoc pre ⟨xd, xb, xt, .slice ax xt.kids.length cx⟩)
    have HC := Lib.hid hc
    clear hbx hbt hin hdz hc
    by_cases h6 : pre.length < 6000
    · have HF := Lib.hid (fun w => fits_any xt.k xt.n ax xt.kids.length cx hlk w)
      have e6 : decide ((6000 : Int) < (pre.length : Int) + 1) = false := by simp; omega
      cases hfl : allF pre with
      | true =>
        rw [hfl] at c5
        have HFL := Lib.hid hfl
        clear hfl
        gi_wp2_with (refine ⟨trivial, ?_⟩; gi_at_call 108; refine (CallsIn.inRound l (callsIn_wide.2 (HF.out _))).mono ?_; rintro e w' ⟨rfl, hbf⟩; have g1' := boxed_bel (boxed_other (boxed_other g1 _ _ (by first | omega | (dsimp only; omega))) _ _ (by first | omega | (dsimp only; omega))) hbf (by first | omega | (simp; omega)); have g2' := boxed_bel (boxed_other (g2.set _) _ _ (by first | omega | (dsimp only; omega))) hbf (by first | omega | (simp; omega)); have g4' := boxed_bel ((boxed_other g4 _ _ (by first | omega | (dsimp only; omega))).set _) hbf (by first | omega | (simp; omega)); have g5' := boxed_bel (boxed_other (boxed_other g5 _ _ (by first | omega | (dsimp only; omega))) _ _ (by first | omega | (dsimp only; omega))) hbf (by first | omega | (simp; omega)); have hB' := ((hB.setCell (by first | omega | (dsimp only; omega)) _).setCell (by first | omega | (dsimp only; omega)) _).trans (hbf.mono (by first | omega | (simp; omega))); have hK' := (((KeepsOut.refl w.heap.size W0.heap.size W).setCell (by first | omega | (dsimp only; omega)) _).setCell (by first | omega | (dsimp only; omega)) _).below' hbf (by simp); have c5' := g5'.cell; have f5' := g5'.frozen)
        all_goals
          refine ⟨hK'.setCell (by first | omega | (dsimp only; omega)) _, ⟨boxed_other g1' _ _ (by first | omega | (dsimp only; omega)), ?_, ?_, ?_, by simp; omega⟩, hB'.setCell (by first | omega | (dsimp only; omega)) _⟩
          · have := boxed_other g2' ⟨w.heap.size + 1 + 1 + 1 + 1, 0, none⟩ (.bool (fitsB xt.k xt.n xt.kids.length)) (by first | omega | (dsimp only; omega))
            simpa using this
          · rw [hsn.out]
            show Boxed _ _ _ (.int .i64 (max (maxD pre) xd))
            first | (rw [max_ite]; exact boxed_other g4' _ _ (by first | omega | (dsimp only; omega))) | (rw [Int.max_eq_right (by omega)]; exact boxed_other g4' _ _ (by first | omega | (dsimp only; omega))) | (rw [Int.max_eq_left (by omega)]; exact boxed_other g4' _ _ (by first | omega | (dsimp only; omega)))
          · have := g5'.set (.bool (fitsB xt.k xt.n xt.kids.length))
            rw [hsf.out, HFL.out, Bool.true_and]
            exact this
      | false =>
        rw [hfl] at c5
        have HFL := Lib.hid hfl
        clear hfl HF
        gi_wp2
        all_goals (refine ⟨trivial, ?_⟩; gi_wp2)
        all_goals
          refine ⟨(((KeepsOut.refl _ _ _).setCell (by first | omega | (dsimp only; omega)) _).setCell (by first | omega | (dsimp only; omega)) _).setCell (by first | omega | (dsimp only; omega)) _, ⟨boxed_other (boxed_other (boxed_other g1 _ _ (by first | omega | (dsimp only; omega))) _ _ (by first | omega | (dsimp only; omega))) _ _ (by first | omega | (dsimp only; omega)), ?_, ?_, ?_, by simp; omega⟩, ((hB.setCell (by first | omega | (dsimp only; omega)) _).setCell (by first | omega | (dsimp only; omega)) _).setCell (by first | omega | (dsimp only; omega)) _⟩
          · rw [show ((pre ++ [(⟨xd, xb, xt, .slice ax xt.kids.length cx⟩ : El)]).length : Int) = (pre.length : Int) + 1 by simp]
            exact boxed_other (boxed_other (g2.set _) _ _ (by first | omega | (dsimp only; omega))) _ _ (by first | omega | (dsimp only; omega))
          · rw [hsn.out]
            show Boxed _ _ _ (.int .i64 (max (maxD pre) xd))
            first | (rw [Int.max_eq_right (by omega)]; exact boxed_other ((boxed_other g4 _ _ (by first | omega | (dsimp only; omega))).set _) _ _ (by first | omega | (dsimp only; omega))) | (rw [Int.max_eq_left (by omega)]; exact boxed_other ((boxed_other g4 _ _ (by first | omega | (dsimp only; omega))).set _) _ _ (by first | omega | (dsimp only; omega)))
          · rw [hsf.out, HFL.out, Bool.false_and]
            exact (boxed_other (boxed_other g5 _ _ (by first | omega | (dsimp only; omega))) _ _ (by first | omega | (dsimp only; omega))).set _
    · have e6 : decide ((6000 : Int) < (pre.length : Int) + 1) = true := by simp; omega
      gi_wp2
      exact ⟨((KeepsOut.refl _ _ _).setCell (by first | omega | (dsimp only; omega)) _).setCell (by first | omega | (dsimp only; omega)) _, rfl, (boxed_other g1 _ _ (by first | omega | (dsimp only; omega))).set _, by simp; omega, (hB.setCell (by first | omega | (dsimp only; omega)) _).setCell (by first | omega | (dsimp only; omega)) _⟩
  case done =>
    rintro D zs W hD hall ⟨⟨g1, g2, g4, g5, g6⟩, hB⟩ hK
    have hlz : zs.length = size t := by have := hall.1.length_eq; rw [nodesT_len] at this; simpa using this
    have hmd := maxD_all hall
    have haf := allF_all hall
    rw [hmd] at g4
    rw [haf] at g5
    have c1 := g1.cell
    have f1 := g1.frozen
    have c4 := g4.cell
    have c5 := g5.cell
    have hle : ¬ 6000 < size t := by omega
    have fin : ∀ x : Int, checkE t = x → (W.setCell ⟨w.heap.size + 1, 0, none⟩ (.int .i64 x)).heap[D]? = some (.deferred (some [])) ∧ Below w.heap.size w (W.setCell ⟨w.heap.size + 1, 0, none⟩ (.int .i64 x)) := fun x _ =>
      ⟨(Below.heap_setCell W _ _ D (by first | omega | (dsimp only; omega))).trans hK, hB.setCell (by first | omega | (dsimp only; omega)) _⟩
    clear hall hmd haf hlz
    by_cases h2 : 200 < depth t
    · have e2 : decide ((200 : Int) < (depth t : Int)) = true := by simp; omega
      have HE := Lib.hid (show checkE t = 5 by rw [checkE, if_neg hle, if_pos h2])
      gi_wp2
      obtain ⟨hK', hB'⟩ := fin 5 HE.out
      refine ⟨by simp, .inl ⟨_, _, rfl, run_takeDeferred hK', ?_⟩⟩
      have hc5 := cell_kept (g1.set (.int .i64 5)).cell (grownBy_putObj' _ D (.deferred none)) (fun r e => by cases e; exact ⟨_, hK', rfl⟩)
      refine ⟨.int .i64 5, ?_, by rw [HE.out], hB'.trans (belowK_b (w := w) (Nat.le_refl _) _ D _ _ (by omega) hK' rfl rfl)⟩
      simp [results, Try.f104, go_sem, hc5]
    · have e2 : decide ((200 : Int) < (depth t : Int)) = false := by simp; omega
      cases hfb : formedB t with
      | false =>
        rw [hfb] at c5
        have HE := Lib.hid (show checkE t = 1 by rw [checkE, if_neg hle, if_neg h2, if_pos hfb])
        clear hfb
        gi_wp2
        obtain ⟨hK', hB'⟩ := fin 1 HE.out
        refine ⟨by simp, .inl ⟨_, _, rfl, run_takeDeferred hK', ?_⟩⟩
        have hc5 := cell_kept (g1.set (.int .i64 1)).cell (grownBy_putObj' _ D (.deferred none)) (fun r e => by cases e; exact ⟨_, hK', rfl⟩)
        refine ⟨.int .i64 1, ?_, by rw [HE.out], hB'.trans (belowK_b (w := w) (Nat.le_refl _) _ D _ _ (by omega) hK' rfl rfl)⟩
        simp [results, Try.f104, go_sem, hc5]
      | true =>
        rw [hfb] at c5
        have HE := Lib.hid (show checkE t = 0 by rw [checkE, if_neg hle, if_neg h2, if_neg (by rw [hfb]; simp)])
        clear hfb
        gi_wp2
        obtain ⟨hK', hB'⟩ := fin 0 HE.out
        refine ⟨by simp, .inl ⟨_, _, rfl, run_takeDeferred hK', ?_⟩⟩
        have hc5 := cell_kept (g1.set (.int .i64 0)).cell (grownBy_putObj' _ D (.deferred none)) (fun r e => by cases e; exact ⟨_, hK', rfl⟩)
        refine ⟨.int .i64 0, ?_, by rw [HE.out], hB'.trans (belowK_b (w := w) (Nat.le_refl _) _ D _ _ (by omega) hK' rfl rfl)⟩
        simp [results, Try.f104, go_sem, hc5]
  case stop =>
    rintro D c pre W hD hcm ⟨rfl, g1, hlen, hB⟩ hK
    have hl := hcm.length
    rw [nodesT_len] at hl
    have HE := Lib.hid (show checkE t = 4 by rw [checkE, if_pos (by omega)])
    clear hcm hl
    gi_wp2
    refine ⟨by simp, .inl ⟨_, _, rfl, run_takeDeferred hK, ?_⟩⟩
    have hc5 := cell_kept g1.cell (grownBy_putObj' _ D (.deferred none)) (fun r e => by cases e; exact ⟨_, hK, rfl⟩)
    refine ⟨.int .i64 4, ?_, by rw [HE.out], hB.trans (belowK_b (w := w) (Nat.le_refl _) W D _ _ (by omega) hK rfl rfl)⟩
    simp [results, Try.f104, go_sem, hc5]
theorem tcheck_any (t : Tm) (v : Value) (w : World) (hf : Fits t) (hs : size t < 2147483648) (hA : At w t.kids v) :
    Calls Try.prog 104 #[tv t v] w fun e w' => e = .returned (.int .i64 (checkE t)) ∧ Below w.heap.size w w' :=
  callsIn_wide.1 (tcheck_in t v w hf hs hA)

end Go.Proofs.Ytggefpkfikimiaa
