/- What the page says of a term, as plain functions on trees: well formed, in scope, how often a variable is in it. -/
import Derived.Test.YtcegocmndfoflaaKi
import Derived.Deep.Draws
namespace Go.Proofs.Ytcegocmndfoflaa
open Go.RowKit

mutual
def formedB : Tm → Bool
  | .node k n l => decide ((l.length : Int) = kidsI k) && (if l.length = 0 then decide (0 ≤ n) && decide (n ≤ 65535) else decide (n = 0)) && formedL l
def formedL : List Tm → Bool | [] => true | t :: l => formedB t && formedL l
end
mutual
def countT : Tm → Int → Nat | .node k m l, n => (if k = 1 ∧ m = n then 1 else 0) + countL l k n 0
def countL : List Tm → Int → Int → Nat → Nat | [], _, _, _ => 0 | t :: l, k, n, i => countT t (n + bindsI k i) + countL l k n (i + 1)
end
mutual
def scopedT : Tm → Int → Int → Bool
  | .node k n l, v, c => if k = 1 then decide (n < v) else if k = 2 then decide (n ≤ 6) else if k = 3 then decide (n < c) else scopedL l k v c 0
def scopedL : List Tm → Int → Int → Int → Nat → Bool | [], _, _, _, _ => true | t :: l, k, v, c, i => scopedT t (v + bindsI k i) c && scopedL l k v c (i + 1)
end
def checkE (t : Tm) : Int := if 6000 < size t then 4 else if 200 < depth t then 5 else if formedB t = false then 1 else 0

theorem formedB_eq (t : Tm) : formedB t = (decide ((t.kids.length : Int) = kidsI t.k) && (if t.kids.length = 0 then decide (0 ≤ t.n) && decide (t.n ≤ 65535) else decide (t.n = 0)) && formedL t.kids) := by cases t; rfl
theorem countT_eq (t : Tm) (n : Int) : countT t n = (if t.k = 1 ∧ t.n = n then 1 else 0) + countL t.kids t.k n 0 := by cases t; rfl
theorem scopedT_eq (t : Tm) (v c : Int) : scopedT t v c = (if t.k = 1 then decide (t.n < v) else if t.k = 2 then decide (t.n ≤ 6) else if t.k = 3 then decide (t.n < c) else scopedL t.kids t.k v c 0) := by cases t; rfl

theorem formedL_append (a b : List Tm) : formedL (a ++ b) = (formedL a && formedL b) := by
  induction a with
  | nil => simp [formedL]
  | cons x a ih => simp [formedL, ih, Bool.and_assoc]
theorem countL_append (a b : List Tm) (k n : Int) (i : Nat) : countL (a ++ b) k n i = countL a k n i + countL b k n (i + a.length) := by
  induction a generalizing i with
  | nil => simp [countL]
  | cons x a ih => simp [countL, ih, Nat.add_assoc, Nat.add_comm 1]
theorem scopedL_append (a b : List Tm) (k v c : Int) (i : Nat) : scopedL (a ++ b) k v c i = (scopedL a k v c i && scopedL b k v c (i + a.length)) := by
  induction a generalizing i with
  | nil => simp [scopedL]
  | cons x a ih => simp [scopedL, ih, Nat.add_assoc, Nat.add_comm 1, Bool.and_assoc]
theorem take_len {l : List Tm} {j : Nat} (h : j < l.length) : (l.take j).length = j := by simp; omega
theorem formedL_take_succ {l : List Tm} {j : Nat} (h : j < l.length) : formedL (l.take (j + 1)) = (formedL (l.take j) && formedB l[j]) := by
  rw [List.take_succ_eq_append_getElem h, formedL_append]; simp [formedL]
theorem countL_take_succ {l : List Tm} {j : Nat} (h : j < l.length) (k n : Int) : countL (l.take (j + 1)) k n 0 = countL (l.take j) k n 0 + countT l[j] (n + bindsI k j) := by
  rw [List.take_succ_eq_append_getElem h, countL_append, take_len h]; simp [countL]
theorem scopedL_take_succ {l : List Tm} {j : Nat} (h : j < l.length) (k v c : Int) : scopedL (l.take (j + 1)) k v c 0 = (scopedL (l.take j) k v c 0 && scopedT l[j] (v + bindsI k j) c) := by
  rw [List.take_succ_eq_append_getElem h, scopedL_append, take_len h]; simp [scopedL]
theorem formedL_no {l : List Tm} {j : Nat} (h : j < l.length) (hf : formedB l[j] = false) : formedL l = false := by
  have e : l.take (j + 1) ++ l.drop (j + 1) = l := List.take_append_drop _ l
  rw [← e, formedL_append, formedL_take_succ h, hf]; simp
theorem scopedL_no {l : List Tm} {j : Nat} (h : j < l.length) {k v c : Int} (hf : scopedT l[j] (v + bindsI k j) c = false) : scopedL l k v c 0 = false := by
  have e : l.take (j + 1) ++ l.drop (j + 1) = l := List.take_append_drop _ l
  rw [← e, scopedL_append, scopedL_take_succ h, hf]; simp
mutual
theorem countT_le : ∀ (t : Tm) (n : Int), countT t n ≤ size t
  | .node k m l, n => by have := countL_le l k n 0; simp only [countT, size]; split <;> omega
theorem countL_le : ∀ (l : List Tm) (k n : Int) (i : Nat), countL l k n i ≤ sizeL l
  | [], _, _, _ => by simp [countL]
  | t :: l, k, n, i => by have := countT_le t (n + bindsI k i); have := countL_le l k n (i + 1); simp only [countL, sizeL]; omega
end
theorem depth_get {l : List Tm} {i : Nat} (h : i < l.length) : depth l[i] ≤ depthL l := by
  have e : l.take (i + 1) ++ l.drop (i + 1) = l := List.take_append_drop _ l
  have := depthL_append (l.take (i + 1)) (l.drop (i + 1))
  rw [e, depthL_take_succ h] at this; omega
theorem below_al (w : World) (o : Obj) : Below w.heap.size w (w.alloc o) := (Below.refl _ w).alloc (Nat.le_refl _) o
theorem beq_dec (a b : Int) : (a == b) = decide (a = b) := by rw [Bool.eq_iff_iff]; simp
theorem belowN {B : Nat} {a w : World} (h : Below B a w) (n : Nat) : Below B a (w.drewN n) := ⟨h.os, h.tape, h.output, h.size, h.block⟩
end Go.Proofs.Ytcegocmndfoflaa
