/- What the page says of a term, as plain functions on trees: well formed, in scope, how often a variable is in it. -/
import Derived.Test.YtggefpkfikimiaaG01
import Derived.Deep.Draws
import Derived.Test.YtggefpkfikimiaaChecked
import Derived.RangeFuncNested
import Derived.RangeFuncBound
import Derived.RangeFuncCalls
import Derived.RangeFuncLeaves
import Derived.Shelf.Abstract
import Derived.Shelf.RegionOpen
import Derived.WalkKit
import Derived.OwnWalkIn
import Derived.TacticsInMore
import Derived.LoopNIn
import Derived.LoopIn
import Derived.Sort.LoopGhostIn
import Derived.Maps.OwnIn
import Derived.Deep.RegionHeld3
import Derived.WalkSmall
import Derived.Lib.Hide
import Derived.Deep.AppendLies
import Derived.Lib.SmallJoins
import Derived.IntWalk
namespace Go.Proofs.Ytggefpkfikimiaa
open Go.RowKit

mutual
def formedB : Tm → Bool
  | .node k n l => decide ((l.length : Int) = kidsI k) && (if l.length = 0 then decide (0 ≤ n) && decide (n ≤ 65535) else decide (n = 0)) && formedL l
def formedL : List Tm → Bool | [] => true | t :: l => formedB t && formedL l
end
mutual
def countT : Tm → Int → Nat | .node k m l, n => (if k = 1 ∧ m = n then 1 else 0) + countL l k n 0
def countL : List Tm → Int → Int → Nat → Nat | [], _, _, _ => 0 | t :: l, k, n, i => countT t (n + bindsI k i) + countL l k n (i + 1)
end
mutual
def scopedT : Tm → Int → Int → Bool
  | .node k n l, v, c => if k = 1 then decide (n < v) else if k = 2 then decide (n ≤ 6) else if k = 3 then decide (n < c) else scopedL l k v c 0
def scopedL : List Tm → Int → Int → Int → Nat → Bool | [], _, _, _, _ => true | t :: l, k, v, c, i => scopedT t (v + bindsI k i) c && scopedL l k v c (i + 1)
end
def checkE (t : Tm) : Int := if 6000 < size t then 4 else if 200 < depth t then 5 else if formedB t = false then 1 else 0

theorem formedB_eq (t : Tm) : formedB t = (decide ((t.kids.length : Int) = kidsI t.k) && (if t.kids.length = 0 then decide (0 ≤ t.n) && decide (t.n ≤ 65535) else decide (t.n = 0)) && formedL t.kids) := by cases t; rfl
theorem countT_eq (t : Tm) (n : Int) : countT t n = (if t.k = 1 ∧ t.n = n then 1 else 0) + countL t.kids t.k n 0 := by cases t; rfl
theorem scopedT_eq (t : Tm) (v c : Int) : scopedT t v c = (if t.k = 1 then decide (t.n < v) else if t.k = 2 then decide (t.n ≤ 6) else if t.k = 3 then decide (t.n < c) else scopedL t.kids t.k v c 0) := by cases t; rfl

theorem formedL_append (a b : List Tm) : formedL (a ++ b) = (formedL a && formedL b) := by
  induction a with
  | nil => simp [formedL]
  | cons x a ih => simp [formedL, ih, Bool.and_assoc]
theorem countL_append (a b : List Tm) (k n : Int) (i : Nat) : countL (a ++ b) k n i = countL a k n i + countL b k n (i + a.length) := by
  induction a generalizing i with
  | nil => simp [countL]
  | cons x a ih => simp [countL, ih, Nat.add_assoc, Nat.add_comm 1]
theorem scopedL_append (a b : List Tm) (k v c : Int) (i : Nat) : scopedL (a ++ b) k v c i = (scopedL a k v c i && scopedL b k v c (i + a.length)) := by
  induction a generalizing i with
  | nil => simp [scopedL]
  | cons x a ih => simp [scopedL, ih, Nat.add_assoc, Nat.add_comm 1, Bool.and_assoc]
theorem take_len {l : List Tm} {j : Nat} (h : j < l.length) : (l.take j).length = j := by simp; omega
theorem formedL_take_succ {l : List Tm} {j : Nat} (h : j < l.length) : formedL (l.take (j + 1)) = (formedL (l.take j) && formedB l[j]) := by
  rw [List.take_succ_eq_append_getElem h, formedL_append]; simp [formedL]
theorem countL_take_succ {l : List Tm} {j : Nat} (h : j < l.length) (k n : Int) : countL (l.take (j + 1)) k n 0 = countL (l.take j) k n 0 + countT l[j] (n + bindsI k j) := by
  rw [List.take_succ_eq_append_getElem h, countL_append, take_len h]; simp [countL]
theorem scopedL_take_succ {l : List Tm} {j : Nat} (h : j < l.length) (k v c : Int) : scopedL (l.take (j + 1)) k v c 0 = (scopedL (l.take j) k v c 0 && scopedT l[j] (v + bindsI k j) c) := by
  rw [List.take_succ_eq_append_getElem h, scopedL_append, take_len h]; simp [scopedL]
theorem formedL_no {l : List Tm} {j : Nat} (h : j < l.length) (hf : formedB l[j] = false) : formedL l = false := by
  have e : l.take (j + 1) ++ l.drop (j + 1) = l := List.take_append_drop _ l
  rw [← e, formedL_append, formedL_take_succ h, hf]; simp
theorem scopedL_no {l : List Tm} {j : Nat} (h : j < l.length) {k v c : Int} (hf : scopedT l[j] (v + bindsI k j) c = false) : scopedL l k v c 0 = false := by
  have e : l.take (j + 1) ++ l.drop (j + 1) = l := List.take_append_drop _ l
  rw [← e, scopedL_append, scopedL_take_succ h, hf]; simp
mutual
theorem countT_le : ∀ (t : Tm) (n : Int), countT t n ≤ size t
  | .node k m l, n => by have := countL_le l k n 0; simp only [countT, size]; split <;> omega
theorem countL_le : ∀ (l : List Tm) (k n : Int) (i : Nat), countL l k n i ≤ sizeL l
  | [], _, _, _ => by simp [countL]
  | t :: l, k, n, i => by have := countT_le t (n + bindsI k i); have := countL_le l k n (i + 1); simp only [countL, sizeL]; omega
end
theorem depth_get {l : List Tm} {i : Nat} (h : i < l.length) : depth l[i] ≤ depthL l := by
  have e : l.take (i + 1) ++ l.drop (i + 1) = l := List.take_append_drop _ l
  have := depthL_append (l.take (i + 1)) (l.drop (i + 1))
  rw [e, depthL_take_succ h] at this; omega
theorem below_al (w : World) (o : Obj) : Below w.heap.size w (w.alloc o) := (Below.refl _ w).alloc (Nat.le_refl _) o
theorem beq_dec (a b : Int) : (a == b) = decide (a = b) := by rw [Bool.eq_iff_iff]; simp
theorem belowN {B : Nat} {a w : World} (h : Below B a w) (n : Nat) : Below B a (w.drewN n) := ⟨h.os, h.tape, h.output, h.size, h.block⟩
end Go.Proofs.Ytggefpkfikimiaa
/- The iterator of package term, nodes: it hands on all the nodes of a term, each once. -/
namespace Go.Proofs.Ytggefpkfikimiaa
set_option linter.unusedVariables false
open Go.RowKit Go.Shelf Go Go.Joins
attribute [local go_sem] Oper.semAt_some

/-- A group of Kids that is still to be gone through. -/
structure Gr where
  k : Int
  d : Int
  b : Int
  l : List Tm
  v : Value
def Gr.cells (g : Gr) : List Value := [.int .i64 g.k, g.v, .int .i64 g.d, .int .i64 g.b]
def Gr.pre (g : Gr) : List PEl := nodesL g.l g.k g.d g.b 0
def cellsG (gs : List Gr) : List Value := gs.flatMap Gr.cells
def preGs (gs : List Gr) : List PEl := gs.flatMap Gr.pre
theorem cellsG_len (gs : List Gr) : (cellsG gs).length = gs.length * 4 := by
  induction gs with
  | nil => rfl
  | cons g gs ih => simp [cellsG, Gr.cells] at ih ⊢; omega
theorem cellsG_snoc (gs : List Gr) (g : Gr) : cellsG (gs ++ [g]) = cellsG gs ++ g.cells := by simp [cellsG]
theorem preGs_snoc (gs : List Gr) (g : Gr) : preGs (gs ++ [g]) = preGs gs ++ g.pre := by simp [preGs]
theorem cellsG_at (gs : List Gr) (g : Gr) (j : Nat) (hj : j < 4) : (cellsG (gs ++ [g]))[gs.length * 4 + j]? = g.cells[j]? := by
  rw [cellsG_snoc, List.getElem?_append_right (by rw [cellsG_len]; omega), cellsG_len]
  congr 1; omega

/-- Below n₀ the world is as w₀ was. -/
def Old (w₀ W : World) : Prop := w₀.heap.size ≤ W.heap.size ∧ ∀ k, k < w₀.heap.size → W.heap[k]? = w₀.heap[k]?
theorem Old.at {w₀ W : World} (h : Old w₀ W) {l : List Tm} {v : Value} (hA : At w₀ l v) : At W l v :=
  hA.same fun a ha => World.cell?_of_block (w := w₀) (h.2 a.block ha)
theorem Old.keeps {w₀ W W' : World} {n₁ : Nat} (h : Old w₀ W) (k : KeepsOut w₀.heap.size n₁ W W') : Old w₀ W' :=
  ⟨Nat.le_trans h.1 k.size, fun i hi => (k.block i (Nat.lt_of_lt_of_le hi h.1) (.inl hi)).trans (h.2 i hi)⟩
theorem Old.below {w₀ W W' : World} {B : Nat} (h : Old w₀ W) (hb : Below B W W') (hB : w₀.heap.size ≤ B) : Old w₀ W' :=
  ⟨Nat.le_trans h.1 hb.size, fun i hi => (hb.block i (by omega)).trans (h.2 i hi)⟩

/-- The world as the iterator may lean on it: what lay below n₀; the block n₁ that holds the term. -/
def Good (w₀ : World) (n₁ : Nat) (t : Tm) (v : Value) (W : World) : Prop := Old w₀ W ∧ W.heap[n₁]? = some (.cells #[.int .i64 t.k, .int .i64 t.n, v] 25 (0, 0))
theorem Good.keeps {w₀ W W' : World} {n₁ : Nat} {t : Tm} {v : Value} (h : Good w₀ n₁ t v W) (k : KeepsOut w₀.heap.size n₁ W W') : Good w₀ n₁ t v W' :=
  ⟨h.1.keeps k, (k.block n₁ (Array.getElem?_eq_some_iff.1 h.2).1 (.inr (Nat.le_refl _))).trans h.2⟩
theorem Good.below {w₀ W W' : World} {n₁ : Nat} {t : Tm} {v : Value} (h : Good w₀ n₁ t v W) (hn : w₀.heap.size ≤ n₁) (hb : Below (n₁ + 1) W W') : Good w₀ n₁ t v W' :=
  ⟨h.1.below hb (by omega), (hb.block n₁ (by omega)).trans h.2⟩

/-- A group's Kids can be read in every world that is good; what lies below them lay in w₀. -/
def Gr.ok (w₀ : World) (n₁ : Nat) (t : Tm) (tvv : Value) (g : Gr) : Prop :=
  0 < g.l.length ∧ ∃ (b off cap : Nat) (vs : Nat → Value), g.v = .slice (some ⟨b, off, none⟩) g.l.length cap ∧ g.l.length ≤ cap ∧ cap ≤ maxLen ∧
    (∀ W, Good w₀ n₁ t tvv W → ∀ i (h : i < g.l.length), W.cell? ⟨b, off + i * 3, none⟩ = some (.int .i64 g.l[i].k) ∧ W.cell? ⟨b, off + i * 3 + 1, none⟩ = some (.int .i64 g.l[i].n) ∧ W.cell? ⟨b, off + i * 3 + 2, none⟩ = some (vs i)) ∧
    (∀ i (h : i < g.l.length), At w₀ g.l[i].kids (vs i))
theorem Gr.ok_of {w₀ : World} {n₁ : Nat} {t : Tm} {tvv : Value} {g : Gr} (hl : 0 < g.l.length) (hA : At w₀ g.l g.v) : g.ok w₀ n₁ t tvv := by
  obtain ⟨b, off, cap, vs, he, h1, h2, kk, kn, kv, ks⟩ := hA.pos hl
  have up : ∀ {W : World} {o : Nat} {x : Value}, Good w₀ n₁ t tvv W → w₀.cell? ⟨b, o, none⟩ = some x → W.cell? ⟨b, o, none⟩ = some x := fun {W o x} hg hx => by
    rw [World.cell?_of_block (w := w₀) (hg.1.2 b (World.block_lt_of_cell? w₀ _ hx))]; exact hx
  exact ⟨hl, b, off, cap, vs, he, h1, h2, fun W hg i hi => ⟨up hg (kk i hi), up hg (kn i hi), up hg (kv i hi)⟩, ks⟩
theorem Gr.ok_root {w₀ : World} {n₁ : Nat} {t : Tm} {tvv : Value} (hA : At w₀ t.kids tvv) : Gr.ok w₀ n₁ t tvv ⟨0, 1, 0, [t], .slice (some ⟨n₁, 0, none⟩) 1 1⟩ := by
  refine ⟨by simp, n₁, 0, 1, fun _ => tvv, rfl, by simp, by decide, fun W hg i hi => ?_, fun i hi => ?_⟩
  · obtain rfl : i = 0 := by simpa using hi
    refine ⟨?_, ?_, ?_⟩ <;> simp [World.cell?, hg.2]
  · obtain rfl : i = 0 := by simpa using hi
    exact hA

/-- Where the loop stands: the groups that wait, the nodes that have come. -/
def WInv (w₀ : World) (n₁ : Nat) (t : Tm) (tvv : Value) (J : List El → World → Prop) (m : Nat) (v : Value) (wr : World) : Prop :=
  ∃ (gs : List Gr) (pre : List El), wr.ownsRow (n₁ + 1) 126 4 v gs.length (cellsG gs) ∧ (∀ g ∈ gs, g.ok w₀ n₁ t tvv) ∧ (pre.map El.p ++ preGs gs).Perm (nodesT t 1 0) ∧ (∀ x ∈ pre, x.shape) ∧ J pre wr ∧ Good w₀ n₁ t tvv wr ∧ m = (preGs gs).length

/-- Within one group: how many of its Kids have come, which groups they left. -/
def WIn (w₀ : World) (n₁ : Nat) (t : Tm) (tvv : Value) (J : List El → World → Prop) (gs : List Gr) (g : Gr) (Bg c : Nat) (gv : Value) (v i : Value) (wr : World) : Prop :=
  ∃ (j : Nat) (gx : List Gr) (pre : List El), j ≤ g.l.length ∧ i = .int .i64 j ∧ wr.ownsRow (n₁ + 1) 126 4 v (gs ++ gx).length (cellsG (gs ++ gx)) ∧ (∀ x ∈ gx, x.ok w₀ n₁ t tvv) ∧
    (pre.map El.p ++ (nodesL (g.l.drop j) g.k g.d g.b j ++ preGs (gs ++ gx))).Perm (nodesT t 1 0) ∧ (∀ x ∈ pre, x.shape) ∧ J pre wr ∧ Good w₀ n₁ t tvv wr ∧
    wr.heap[Bg]? = some (.cells #[.int .i64 g.k, gv, .int .i64 g.d, .int .i64 g.b] 126 (0, 0)) ∧ v.ownBlock ≠ some Bg ∧ n₁ ≤ Bg ∧ pre.length = c + j
theorem perm_push {α : Type} (A C N G : List α) (x : α) (all : List α) (h : (A ++ ((x :: C ++ N) ++ G)).Perm all) : ((A ++ [x]) ++ (N ++ (G ++ C))).Perm all := by
  refine List.Perm.trans ?_ h
  simp only [List.append_assoc, List.cons_append, List.nil_append]
  refine List.Perm.append_left A (List.Perm.cons x ?_)
  have : (N ++ (G ++ C)) = (N ++ G) ++ C := by simp
  rw [this]
  exact List.perm_append_comm
theorem KeepsOut.row {n₀ n₁ B : Nat} {A W : World} (h : KeepsOut n₀ n₁ A W) (hB : n₁ ≤ B) {e : TypeId} {size n : Nat} {v : Value} {xs : List Value} (hr : A.ownsRow B e size v n xs) : W.ownsRow B e size v n xs := by
  refine ⟨hr.1, ?_⟩
  rcases hr.2 with h0 | ⟨g, cap, cur, rfl, hb, hg, rest⟩
  · exact .inl h0
  · exact .inr ⟨g, cap, cur, rfl, hb, (h.block g (Array.getElem?_eq_some_iff.1 hg).1 (.inr (Nat.le_trans hB hb))).trans hg, rest⟩
theorem preGs_len {w₀ : World} {n₁ : Nat} {t : Tm} {tvv : Value} {gs : List Gr} (h : ∀ g ∈ gs, g.ok w₀ n₁ t tvv) : gs.length ≤ (preGs gs).length := by
  induction gs with
  | nil => simp
  | cons g gs ih =>
    have h1 := (h g List.mem_cons_self).1
    have h3 := length_le_sizeL g.l
    have h4 : g.pre.length = sizeL g.l := by rw [Gr.pre, nodesL_len]
    have h2 := ih fun x hx => h x (List.mem_cons_of_mem _ hx)
    simp [preGs] at h2 ⊢; omega
theorem row_top {W : World} {B gR cap : Nat} {e : TypeId} {gs : List Gr} {g : Gr} (h : W.ownsRow B e 4 (.slice (some ⟨gR, 0, none⟩) (gs.length + 1) cap) (gs.length + 1) (cellsG (gs ++ [g]))) :
    W.cell? ⟨gR, gs.length * 4, none⟩ = some (.int .i64 g.k) ∧ W.cell? ⟨gR, gs.length * 4 + 1, none⟩ = some g.v ∧ W.cell? ⟨gR, gs.length * 4 + 2, none⟩ = some (.int .i64 g.d) ∧ W.cell? ⟨gR, gs.length * 4 + 3, none⟩ = some (.int .i64 g.b) ∧
      gs.length + 1 ≤ cap ∧ cap ≤ maxLen ∧ B ≤ gR ∧ gR < W.heap.size := by
  refine ⟨?_, ?_, ?_, ?_, ?_⟩
  · rw [h.cellAt _ (by omega)]; have := cellsG_at gs g 0 (by omega); simpa [Gr.cells] using this
  · rw [h.cellAt _ (by omega), cellsG_at gs g 1 (by omega)]; rfl
  · rw [h.cellAt _ (by omega), cellsG_at gs g 2 (by omega)]; rfl
  · rw [h.cellAt _ (by omega), cellsG_at gs g 3 (by omega)]; rfl
  · rcases h.2 with ⟨h', _⟩ | ⟨g', cap', cur, h', hb, hg, h1, h2, _⟩
    · simp at h'
    · simp only [Value.slice.injEq, Option.some.injEq, Addr.mk.injEq, and_true, true_and] at h'
      obtain ⟨rfl, rfl⟩ := h'
      exact ⟨h1, h2, hb, (Array.getElem?_eq_some_iff.1 hg).1⟩

theorem Try.infoG : (Try.prog.info? 126).map (fun i => (i.zero, i.size, i.bytes)) = some (some (.agg #[.int .i64 0, .slice none 0 0, .int .i64 0, .int .i64 0]), 4, 48) := by kernel_rfl

set_option maxRecDepth 100000 in
set_option maxHeartbeats 2000000 in
theorem nodes1_in (n : Nat) (hn : 1 ≤ n) (l Bt : Nat) (w₀ : World) (t : Tm) (tvv : Value) (hf : Fits t) (hs : size t < 2147483648) (hA0 : At w₀ t.kids tvv)
    (J Jx : List El → World → Prop) (W : World) (hO : Old w₀ W) (hB : Box3 W Bt t tvv)
    (hJ : ∀ s A B, J s A → Below W.heap.size A B → J s B) (hJx : ∀ s A B, Jx s A → Below W.heap.size A B → Jx s B)
    (hY : ∀ pre x W1, Came (nodesT t 1 0) (pre ++ [x]) → J pre W1 → W.heap.size ≤ W1.heap.size → YieldAt Fence.wide (n - 1) Try.prog l x.vals W1 fun e W' =>
      (e = .returned (.bool true) ∧ J (pre ++ [x]) W' ∧ KeepsOut w₀.heap.size W.heap.size W1 W') ∨ (e = .returned (.bool false) ∧ Jx (pre ++ [x]) W'))
    (h0 : J [] W) :
    CallsIn Fence.wide n Try.prog 109 #[.func (.yield l) #[] #[], .pointer (some ⟨Bt, 0, none⟩)] W fun e W' => (∃ v, e = .returned v) ∧
      ((∃ xs, CameAll (nodesT t 1 0) xs ∧ J xs W') ∨ (∃ pre, Came (nodesT t 1 0) pre ∧ Jx pre W')) := by
  obtain ⟨hBlt, c0, c1, c2⟩ := hB
  obtain ⟨a0, cap0, rfl⟩ := hA0.shape
  refine callsIn_of_wp Try.func109 rfl trivial ?_ rfl
  simp only [Try.ntmps109, List.size_toArray, List.length_cons, List.length_nil, Nat.reduceAdd, Nat.reduceSub, Array.replicate_succ, Array.replicate_zero, List.push_toArray, List.append_toArray, List.nil_append, List.cons_append]
  gi_wp2
  have hgood : Good w₀ W.heap.size t (.slice a0 t.kids.length cap0) ((W.alloc (.cells #[.int .i64 t.k, .int .i64 t.n, .slice a0 t.kids.length cap0] 25)).alloc (.cells #[.int .i64 0, .slice (some ⟨W.heap.size, 0, none⟩) 1 1, .int .i64 1, .int .i64 0] 126)) :=
    ⟨(hO.below (below_alloc2 _ _) hO.1).below (below_alloc2 _ _) (by simp; have := hO.1; omega), (Below.heap_alloc _ _ _ (by simp)).trans (World.alloc_heap_new W _)⟩
  have hj0 := hJ _ _ _ h0 (((Below.refl W.heap.size W).alloc (Nat.le_refl _) (.cells #[.int .i64 t.k, .int .i64 t.n, .slice a0 t.kids.length cap0] 25)).alloc (by simp) (.cells #[.int .i64 0, .slice (some ⟨W.heap.size, 0, none⟩) 1 1, .int .i64 1, .int .i64 0] 126))
  have hrow0 := World.ownsRow_lit (base := W.heap.size + 1) (e := 126) (size := 4) (W.alloc (.cells #[.int .i64 t.k, .int .i64 t.n, .slice a0 t.kids.length cap0] 25)) #[.int .i64 0, .slice (some ⟨W.heap.size, 0, none⟩) 1 1, .int .i64 1, .int .i64 0] 1 (by simp) (by decide) rfl
  rw [World.size_alloc] at hrow0
  have hok0 := Gr.ok_root (n₁ := W.heap.size) hA0
  clear c0 c1 c2 h0
  revert hgood hj0 hrow0
  generalize (W.alloc (.cells #[.int .i64 t.k, .int .i64 t.n, .slice a0 t.kids.length cap0] 25)).alloc (.cells #[.int .i64 0, .slice (some ⟨W.heap.size, 0, none⟩) 1 1, .int .i64 1, .int .i64 0] 126) = W2
  intro hgood hj0 hrow0
  gi_loopg [3] (nodesT t 1 0).length (fun m v wr => WInv w₀ W.heap.size t (.slice a0 t.kids.length cap0) J m v wr)
  case atStart => exact ⟨[⟨0, 1, 0, [t], .slice (some ⟨W.heap.size, 0, none⟩) 1 1⟩], [], hrow0, by simpa using hok0, by simp [preGs, Gr.pre, nodesL, bindsI], by simp, hj0, hgood, by simp [preGs, Gr.pre, nodesL, bindsI]⟩
  case round =>
    obtain ⟨gs, pre, hrow, hok, hperm, hsh, hj, hg, rfl⟩ := hrel
    rcases List.eq_nil_or_concat gs with rfl | ⟨gs', g, rfl⟩
    · obtain ⟨aw, capw, rfl⟩ : ∃ a c, u3 = .slice a 0 c := by
        rcases ownsRow_forms hrow with ⟨h, _⟩ | ⟨_, _, h⟩
        · exact ⟨_, _, h⟩
        · exact ⟨_, _, h⟩
      gi_wp2
      go_end0
      exact ⟨⟨_, rfl⟩, .inl ⟨pre, ⟨by simpa [preGs] using hperm, hsh⟩, hj⟩⟩
    · have hlen : (gs' ++ [g]).length = gs'.length + 1 := by simp
      simp only [List.concat_eq_append] at *
      rw [hlen] at hrow
      obtain ⟨gR, cap, rfl⟩ := ownsRow_succ hrow
      have hpl := hperm.length_eq
      have hgl := preGs_len hok
      rw [List.length_append, nodesT_len] at hpl
      rw [hlen] at hgl
      obtain ⟨r0, r1, r2, r3, hqc, hcm, hBg, hgW⟩ := row_top hrow
      unfold maxLen at hcm
      have hq : gs'.length + 1 < 2147483648 := by omega
      obtain ⟨hg0, bk, ok, ck, vs, hgv, hlc, hcm2, hread, hAk⟩ := hok g (by simp)
      unfold maxLen at hcm2
      have hrow' := ownsRow_pop (cellsG_len gs') (by rw [← cellsG_snoc]; exact hrow)
      have hok' : ∀ x ∈ gs', x.ok w₀ W.heap.size t (.slice a0 t.kids.length cap0) := fun x hx => hok x (by simp [hx])
      rw [preGs_snoc] at hperm
      have HM := Lib.hid (show (preGs (gs' ++ [g])).length = (preGs gs').length + g.pre.length by rw [preGs_snoc]; simp)
      clear hpl hgl hlen hok hrow
      have HP := Lib.hid hperm
      clear hperm
      generalize hgl : g.v = gv at *
      obtain rfl := hgv
      have hgl' := Lib.hid hgl
      clear hgl
      have HR := Lib.hid hread
      have HA := Lib.hid hAk
      have HO := Lib.hid hok'
      clear hread hAk hok'
      gi_wp2
      have hrow2 := hrow'.alloc (.cells #[.int .i64 g.k, .slice (some ⟨bk, ok, none⟩) g.l.length ck, .int .i64 g.d, .int .i64 g.b] 126)
      have hWr : W.heap.size < wr.heap.size := by omega
      have hg2 := hg.below hO.1 ((Below.refl (W.heap.size + 1) wr).alloc hWr (.cells #[.int .i64 g.k, .slice (some ⟨bk, ok, none⟩) g.l.length ck, .int .i64 g.d, .int .i64 g.b] 126))
      have hj2 := hJ _ _ _ hj ((Below.refl W.heap.size wr).alloc (by omega) (.cells #[.int .i64 g.k, .slice (some ⟨bk, ok, none⟩) g.l.length ck, .int .i64 g.d, .int .i64 g.b] 126))
      have hbox := World.alloc_heap_new wr (.cells #[.int .i64 g.k, .slice (some ⟨bk, ok, none⟩) g.l.length ck, .int .i64 g.d, .int .i64 g.b] 126)
      have hne : (Value.slice (some ⟨gR, 0, none⟩) gs'.length cap).ownBlock ≠ some wr.heap.size := by simp [Value.ownBlock]; omega
      clear r0 r1 r2 r3 hrow' hg hj
      revert hrow2 hg2 hj2 hbox
      generalize wr.alloc (.cells #[.int .i64 g.k, .slice (some ⟨bk, ok, none⟩) g.l.length ck, .int .i64 g.d, .int .i64 g.b] 126) = wb
      generalize wr.heap.size = Bg at *
      intro hrow2 hg2 hj2 hbox
      gi_loopw [3, 30] (fun v i wx => WIn w₀ W.heap.size t (.slice a0 t.kids.length cap0) J gs' g Bg pre.length (.slice (some ⟨bk, ok, none⟩) g.l.length ck) v i wx) (fun _ i _ => g.l.length - (RowKit.intOf i).toNat)
      case atStart =>
        refine ⟨0, [], pre, Nat.zero_le _, rfl, by simpa using hrow2, by simp, ?_, hsh, hj2, hg2, hbox, hne, by omega, rfl⟩
        refine List.Perm.trans ?_ HP.out
        simp only [List.append_nil, List.drop_zero]
        exact List.Perm.append_left _ List.perm_append_comm
      case round =>
        obtain ⟨j, gx, pre', hj1, rfl, hrow3, hgx, hp3, hs3, hj3, hg3, hb3, hn3, hB3, hpl3⟩ := hrel
        by_cases hlt : j < g.l.length
        · obtain ⟨k0, k1, k2⟩ := HR.out wr hg3 j hlt
          obtain ⟨ak, ck2, hvk⟩ := (HA.out j hlt).shape
          rw [hvk] at k2
          have HV := Lib.hid hvk
          clear hvk
          obtain ⟨b0, b1, b2, b3⟩ : wr.cell? ⟨Bg, 0, none⟩ = some (.int .i64 g.k) ∧ wr.cell? ⟨Bg, 1, none⟩ = some (.slice (some ⟨bk, ok, none⟩) g.l.length ck) ∧ wr.cell? ⟨Bg, 2, none⟩ = some (.int .i64 g.d) ∧ wr.cell? ⟨Bg, 3, none⟩ = some (.int .i64 g.b) := by
            refine ⟨?_, ?_, ?_, ?_⟩ <;> simp [World.cell?, hb3]
          have HB := Lib.hid hb3
          have hBW : Bg < wr.heap.size := (Array.getElem?_eq_some_iff.1 hb3).1
          have HP3 := Lib.hid hp3
          clear hb3 hp3
          gi_wp2
          refine wpIn_wide.2 ?_
          obtain ⟨hcm4, hmem⟩ : Came (nodesT t 1 0) (pre' ++ [⟨g.d, g.b + bindsI g.k j, g.l[j], .slice ak g.l[j].kids.length ck2⟩]) ∧ (g.d, g.b + bindsI g.k j, g.l[j]) ∈ nodesT t 1 0 := by
            have hp := HP3.out
            rw [nodesL_drop hlt, nodesT_eq] at hp
            have h4 : Came (nodesT t 1 0) (pre' ++ [⟨g.d, g.b + bindsI g.k j, g.l[j], .slice ak g.l[j].kids.length ck2⟩]) := by
              refine ⟨⟨nodesL g.l[j].kids g.l[j].k (g.d + 1) (g.b + bindsI g.k j) 0 ++ nodesL (g.l.drop (j + 1)) g.k g.d g.b (j + 1) ++ preGs (gs' ++ gx), ?_⟩, ?_⟩
              · refine List.Perm.trans (List.Perm.of_eq ?_) hp
                simp [El.p]
              · intro x hx
                rcases List.mem_append.1 hx with hx | hx
                · exact hs3 x hx
                · obtain rfl := List.mem_singleton.1 hx
                  exact ⟨ak, ck2, rfl⟩
            exact ⟨h4, h4.mem.1⟩
          have hin := nodesT_in t 1 0 _ hmem
          have hds := depth_le_size t
          have hbr := bindsI_range g.k j
          simp only at hin
          have hd1 : 1 ≤ g.d := by omega
          have hd2 : g.d < 2147483648 := by omega
          have hb5 : 0 ≤ g.b + bindsI g.k j := by omega
          have hb6 : g.b + bindsI g.k j < 2147483649 := by omega
          have hwr : IntKind.i64.wrap (g.b + bindsI g.k j) = g.b + bindsI g.k j := IntWalk.i64_in _ (by omega)
          have HC4 := Lib.hid hcm4
          clear hcm4 hmem hin hds hbr
          go_region_held3 (fun w' => w'.cell? ⟨Bg, 0, none⟩ = some (.int .i64 g.k) ∧ w'.cell? ⟨Bg, 2, none⟩ = some (.int .i64 g.d) ∧ w'.cell? ⟨Bg, 3, none⟩ = some (.int .i64 g.b)) (go_keep)
            (first | (go_at_call 93; refine (binds_any _ _ _).mono ?_; rintro e w' ⟨rfl, rfl⟩))
          all_goals
            try rw [hwr]
            clear hwr
            generalize hgb : g.b + bindsI g.k j = gb at *
            have HGB := Lib.hid hgb
            clear hgb
            have hsW : W.heap.size + 1 ≤ wr.heap.size := by omega
            have hb9 : Below wr.heap.size wr ((wr.alloc (.cells #[.int .i64 g.l[j].k, .int .i64 g.l[j].n, .slice ak g.l[j].kids.length ck2] 25)).alloc (.cells #[.int .i64 g.d, .int .i64 gb] 118)).drew :=
              (((Below.refl wr.heap.size wr).alloc (Nat.le_refl _) _).alloc (by simp) _).drew
            have hnb : ((wr.alloc (.cells #[.int .i64 g.l[j].k, .int .i64 g.l[j].n, .slice ak g.l[j].kids.length ck2] 25)).alloc (.cells #[.int .i64 g.d, .int .i64 gb] 118)).drew.heap[wr.heap.size]? = some (.cells #[.int .i64 g.l[j].k, .int .i64 g.l[j].n, .slice ak g.l[j].kids.length ck2] 25 (0, 0)) :=
              (Below.heap_alloc _ _ _ (by simp)).trans (World.alloc_heap_new wr _)
            have hpb : ((wr.alloc (.cells #[.int .i64 g.l[j].k, .int .i64 g.l[j].n, .slice ak g.l[j].kids.length ck2] 25)).alloc (.cells #[.int .i64 g.d, .int .i64 gb] 118)).drew.heap[wr.heap.size + 1]? = some (.cells #[.int .i64 g.d, .int .i64 gb] 118 (0, 0)) := by
              have := World.alloc_heap_new (wr.alloc (.cells #[.int .i64 g.l[j].k, .int .i64 g.l[j].n, .slice ak g.l[j].kids.length ck2] 25)) (.cells #[.int .i64 g.d, .int .i64 gb] 118)
              rwa [World.size_alloc] at this
            revert hb9 hnb hpb
            generalize ((wr.alloc (.cells #[.int .i64 g.l[j].k, .int .i64 g.l[j].n, .slice ak g.l[j].kids.length ck2] 25)).alloc (.cells #[.int .i64 g.d, .int .i64 gb] 118)).drew = Wy
            intro hb9 hnb hpb
            have hszy := hb9.size
            obtain ⟨fn, tmps, assign, body, hy, hR⟩ := hY pre' ⟨g.d, gb, g.l[j], .slice ak g.l[j].kids.length ck2⟩ Wy HC4.out (hJ _ _ _ hj3 (hb9.mono (by omega))) (by omega)
            have HRR := Lib.hid hR
            clear hR
            simp only [El.vals, tv] at hy
            obtain ⟨n0, n1, n2⟩ : Wy.cell? ⟨wr.heap.size, 0, none⟩ = some (.int .i64 g.l[j].k) ∧ Wy.cell? ⟨wr.heap.size, 1, none⟩ = some (.int .i64 g.l[j].n) ∧ Wy.cell? ⟨wr.heap.size, 2, none⟩ = some (.slice ak g.l[j].kids.length ck2) := by
              refine ⟨?_, ?_, ?_⟩ <;> simp [World.cell?, hnb]
            obtain ⟨p0, p1⟩ : Wy.cell? ⟨wr.heap.size + 1, 0, none⟩ = some (.int .i64 g.d) ∧ Wy.cell? ⟨wr.heap.size + 1, 1, none⟩ = some (.int .i64 gb) := by
              refine ⟨?_, ?_⟩ <;> simp [World.cell?, hpb]
            have hg9 := hg3.below hO.1 (hb9.mono hsW)
            have hrow9 : Wy.ownsRow (W.heap.size + 1) 126 4 u3 (gs' ++ gx).length (cellsG (gs' ++ gx)) := hrow3.kept (row := none) ⟨hb9.os, hb9.tape, hb9.output, hb9.size, fun k hk _ => hb9.block k hk⟩ (by cases u3.ownBlock <;> simp)
            have hb8 := (hb9.block Bg hBW).trans HB.out
            have HB8 := Lib.hid hb8
            have HNB := Lib.hid hnb
            have HPB := Lib.hid hpb
            clear hb8 hnb hpb k0 k1 k2 b0 b1 b2 b3 hrow3 hg3 hj3
            gi_wp2
            refine HRR.out.mono ?_
            rintro e W3 (⟨rfl, hJ3, hk3⟩ | ⟨rfl, hJx3⟩)
            · replace n0 := hk3.cell (.inr (by show W.heap.size ≤ wr.heap.size; omega)) n0
              replace n1 := hk3.cell (.inr (by show W.heap.size ≤ wr.heap.size; omega)) n1
              replace n2 := hk3.cell (.inr (by show W.heap.size ≤ wr.heap.size; omega)) n2
              replace p0 := hk3.cell (.inr (by show W.heap.size ≤ wr.heap.size + 1; omega)) p0
              replace p1 := hk3.cell (.inr (by show W.heap.size ≤ wr.heap.size + 1; omega)) p1
              have hb8 := (hk3.block Bg (by omega) (.inr hB3)).trans HB8.out
              have hrow4 := hk3.row (B := W.heap.size + 1) (by omega) hrow9
              have hg4 := hg9.keeps hk3
              have hs4 := HC4.out.2
              have hsz3 := hk3.size
              have HP4 := HP3.out
              rw [nodesL_drop hlt, nodesT_eq] at HP4
              clear hrow9 hg9 hy
              by_cases hkk : 0 < g.l[j].kids.length
              · have hql := HP3.out.length_eq
                rw [List.length_append, List.length_append, nodesT_len] at hql
                have hqg := preGs_len (w₀ := w₀) (n₁ := W.heap.size) (t := t) (tvv := .slice a0 t.kids.length cap0) (gs := gs' ++ gx) (fun y hy => by
                  rcases List.mem_append.1 hy with hy | hy
                  · exact HO.out y hy
                  · exact hgx y hy)
                have hok5 : Gr.ok w₀ W.heap.size t (.slice a0 t.kids.length cap0) ⟨g.l[j].k, g.d + 1, gb, g.l[j].kids, .slice ak g.l[j].kids.length ck2⟩ := Gr.ok_of hkk (by rw [← HV.out]; exact HA.out j hlt)
                have HP5 := Lib.hid (perm_push _ _ _ _ _ _ HP4)
                have HB5 := Lib.hid hb8
                have hq1 : (gs' ++ gx).length + 1 ≤ 2147483648 := by omega
                have hnil := hrow4.lt
                have hbs := hrow4.alloc (.cells #[.int .i64 g.l[j].k, .slice ak g.l[j].kids.length ck2, .int .i64 (g.d + 1), .int .i64 gb] 126)
                have hnews := World.news_of_block (World.alloc_heap_new W3 (.cells #[.int .i64 g.l[j].k, .slice ak g.l[j].kids.length ck2, .int .i64 (g.d + 1), .int .i64 gb] 126))
                have HNW := Lib.hid hnews
                have HBS := Lib.hid hbs
                have HNL := Lib.hid hnil
                have hi1 : (gs' ++ gx).length + 1 ≤ maxLen := by unfold maxLen; omega
                have hi2 : ((gs' ++ gx).length + 1) * 48 ≤ 140737488355328 := by omega
                clear HP4 hb8 hql hqg hnews hbs hrow4 hnil
                obtain ⟨i0, hi, hz0, hz1, hz2⟩ := info_parts Try.infoG
                gi_wp2_with (gi_at_builtin; refine wpListIn_append_own_at _ rfl (.tmp 56) (.tmp 68) 127 rfl (W.heap.size + 1) 126 i0 _ 4 48 Try.underlying127 hi hz0 hz1 hz2 rfl (by decide) u3 _ _ rfl HBS.out ⟨W3.heap.size, 0, none⟩ 1 1 [.int .i64 g.l[j].k, .slice ak g.l[j].kids.length ck2, .int .i64 (g.d + 1), .int .i64 gb] rfl rfl HNW.out (by simp [Value.oneCell']) hi1 hi2 (by simp; omega) ?_; intro v' w1 hown1 hgrow1 _ hat1)
                have hst : Below (W.heap.size + 1) W3 w1 := ((Below.refl (W.heap.size + 1) W3).alloc (by omega) _).grown hgrow1 (by simp; omega) (fun k hk => (HNL.out k hk).1)
                go_roundw
                case rel =>
                  refine ⟨j + 1, gx ++ [⟨g.l[j].k, g.d + 1, gb, g.l[j].kids, .slice ak g.l[j].kids.length ck2⟩], pre' ++ [⟨g.d, gb, g.l[j], .slice ak g.l[j].kids.length ck2⟩], by omega, by go_num, ?_, ?_, ?_, hs4, hJ _ _ _ hJ3 (hst.mono (by omega)), hg4.below hO.1 hst, ?_, ?_, hB3, by simp; omega⟩
                  · simpa [cellsG, Gr.cells, Nat.add_assoc] using hown1
                  · intro y hy
                    rcases List.mem_append.1 hy with hy | hy
                    · exact hgx y hy
                    · obtain rfl := List.mem_singleton.1 hy
                      exact hok5
                  · refine List.Perm.trans (List.Perm.of_eq ?_) HP5.out
                    simp [preGs, Gr.pre, El.p, HGB.out]
                  · refine (hgrow1.block Bg (by simp; omega) (fun e => hn3 e.symm)).trans ((Below.heap_alloc _ _ _ (by omega)).trans HB5.out)
                  · intro e
                    rcases hat1 with h | h
                    · exact hn3 (h ▸ e)
                    · rw [h] at e; simp at e; omega
                case measure => simp [RowKit.intOf]; omega
              · have hk0 : g.l[j].kids = [] := List.eq_nil_of_length_eq_zero (by omega)
                have HP5 := Lib.hid HP4
                have HK0 := Lib.hid hk0
                have HB5 := Lib.hid hb8
                clear HP4 hk0 hb8
                gi_wp2
                go_roundw
                case rel =>
                  refine ⟨j + 1, gx, pre' ++ [⟨g.d, gb, g.l[j], .slice ak g.l[j].kids.length ck2⟩], by omega, by go_num, hrow4, hgx, ?_, hs4, hJ3, hg4, HB5.out, hn3, hB3, by simp; omega⟩
                  refine List.Perm.trans (List.Perm.of_eq ?_) HP5.out
                  simp [El.p, HK0.out, nodesL, HGB.out]
                case measure => simp [RowKit.intOf]; omega
            · gi_wp2
              refine bodyPost_ret (results_none rfl _ _ _) rfl ?_
              exact ⟨⟨_, rfl⟩, .inr ⟨_, HC4.out, hJx3⟩⟩
        · obtain rfl : j = g.l.length := by omega
          have HP6 := Lib.hid hp3
          have hpl6 := hp3.length_eq
          have hpl7 := HP.out.length_eq
          have hm := HM.out
          have hgm : g.pre.length = sizeL g.l := by rw [Gr.pre, nodesL_len]
          have hgl3 := length_le_sizeL g.l
          rw [nodesL_end] at hpl6
          simp only [List.length_append, List.length_map, List.nil_append] at hpl6 hpl7
          have hless : (preGs (gs' ++ gx)).length < (preGs (gs' ++ [g])).length := by simp only [preGs_snoc, List.length_append]; omega
          have HLS := Lib.hid hless
          clear hp3 hpl6 hpl7 hm hgm hless hb3
          gi_wp2
          gi_roundg ((preGs (gs' ++ gx)).length)
          case rel =>
            refine ⟨gs' ++ gx, pre', hrow3, fun y hy => ?_, ?_, hs3, hj3, hg3, rfl⟩
            · rcases List.mem_append.1 hy with hy | hy
              · exact HO.out y hy
              · exact hgx y hy
            · have := HP6.out
              rw [nodesL_end] at this
              simpa using this
          case measure => exact HLS.out

set_option maxHeartbeats 1000000 in
theorem nodes_any (t : Tm) (v : Value) (w : World) (hA : At w t.kids v) :
    Calls Try.prog 105 #[tv t v] w fun e w' => e = .returned (.func (.func 109) #[] #[.pointer (some ⟨w.heap.size, 0, none⟩)]) ∧ w' = w.alloc (.cells #[.int .i64 t.k, .int .i64 t.n, v] 25) := by
  obtain ⟨a, cap, rfl⟩ := hA.shape
  unfold tv
  go_enter Try.func105, Try.ntmps105
  go_wp2
  go_ret
  exact ⟨rfl, rfl⟩

/-- The value that nodes returns is an iterator over all the nodes. -/
theorem nodes_seq (n : Nat) (hn : 1 ≤ n) (Bt : Nat) (w₀ w : World) (t : Tm) (v : Value) (hf : Fits t) (hs : size t < 2147483648) (hA : At w₀ t.kids v) (hO : Old w₀ w) (hB : Box3 w Bt t v) :
    SeqN n Try.prog 109 #[.pointer (some ⟨Bt, 0, none⟩)] w₀.heap.size (nodesT t 1 0) w := fun l J Jx W hW hJ hJx hY h0 =>
  nodes1_in n hn l Bt w₀ t v hf hs hA J Jx W (hO.below hW hO.1) (hB.bel hW) hJ hJx hY h0
end Go.Proofs.Ytggefpkfikimiaa
/- Package term's Size and Depth: what they return for any term. -/
namespace Go.Proofs.Ytggefpkfikimiaa
open Go.RowKit Go.Shelf Go Go.Joins
attribute [local go_sem] Oper.semAt_some

theorem old_of {w W : World} (h : Below w.heap.size w W) : Old w W := ⟨h.size, h.block⟩
theorem boxed_bel {W W' : World} {B D : Nat} {t : TypeId} {v : Value} (h : Boxed W B t v) (hb : Below D W W') (hD : B < D) : Boxed W' B t v := (hb.block B hD).trans h

theorem nodes_agg (t : Tm) (v : Value) (w : World) (hA : At w t.kids v) :
    Calls Try.prog 105 #[.agg #[.int .i64 t.k, .int .i64 t.n, v]] w fun e w' => e = .returned (.func (.func 109) #[] #[.pointer (some ⟨w.heap.size, 0, none⟩)]) ∧ w' = w.alloc (.cells #[.int .i64 t.k, .int .i64 t.n, v] 25) :=
  nodes_any t v w hA
theorem boxed_other {W : World} {B : Nat} {t : TypeId} {v : Value} (h : Boxed W B t v) (a : Addr) (u : Value) (hne : B ≠ a.block) : Boxed (W.setCell a u) B t v := (Below.heap_setCell W a u B hne).trans h

end Go.Proofs.Ytggefpkfikimiaa
