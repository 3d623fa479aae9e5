/- Terms as plain trees; when a tree lies in memory; how it is carried from world to world. No conditions. -/
import Derived.WalkKit
import Derived.Below
import Derived.Deep.Slices
import Derived.IntWalk
namespace Go.Proofs.Ytcegocmndfoflaa
set_option linter.unusedVariables false
open Go.RowKit

inductive Tm where
  | node (k n : Int) (kids : List Tm)
namespace Tm
def k : Tm → Int | .node k _ _ => k
def n : Tm → Int | .node _ n _ => n
def kids : Tm → List Tm | .node _ _ l => l
end Tm
instance : Inhabited Tm := ⟨.node 0 0 []⟩

mutual
def size : Tm → Nat | .node _ _ l => sizeL l + 1
def sizeL : List Tm → Nat | [] => 0 | t :: l => size t + sizeL l
end
mutual
def depth : Tm → Nat | .node _ _ l => depthL l + 1
def depthL : List Tm → Nat | [] => 0 | t :: l => max (depth t) (depthL l)
end

theorem size_eq (t : Tm) : size t = sizeL t.kids + 1 := by cases t; simp [size, Tm.kids]
theorem depth_eq (t : Tm) : depth t = depthL t.kids + 1 := by cases t; simp [depth, Tm.kids]
theorem size_pos (t : Tm) : 1 ≤ size t := by rw [size_eq]; exact Nat.le_add_left _ _
theorem sizeL_append (a b : List Tm) : sizeL (a ++ b) = sizeL a + sizeL b := by
  induction a with
  | nil => simp [sizeL]
  | cons x a ih => simp [sizeL, ih]; omega
theorem depthL_append (a b : List Tm) : depthL (a ++ b) = max (depthL a) (depthL b) := by
  induction a with
  | nil => simp [depthL]
  | cons x a ih => simp [depthL, ih, Nat.max_assoc]
theorem size_le_of_mem {t : Tm} {l : List Tm} (h : t ∈ l) : size t ≤ sizeL l := by
  induction l with
  | nil => cases h
  | cons x l ih =>
    simp only [sizeL]
    rcases List.mem_cons.1 h with rfl | h
    · omega
    · have := ih h; omega
theorem length_le_sizeL (l : List Tm) : l.length ≤ sizeL l := by
  induction l with
  | nil => simp [sizeL]
  | cons x l ih => have := size_pos x; simp only [sizeL, List.length_cons]; omega
theorem size_get {l : List Tm} {i : Nat} (h : i < l.length) : size l[i] ≤ sizeL l := size_le_of_mem (List.getElem_mem h)
theorem sizeL_take (l : List Tm) (i : Nat) : sizeL (l.take i) ≤ sizeL l := by
  have h : l.take i ++ l.drop i = l := List.take_append_drop i l
  have := sizeL_append (l.take i) (l.drop i)
  rw [h] at this; omega
theorem sizeL_take_succ {l : List Tm} {i : Nat} (h : i < l.length) : sizeL (l.take (i + 1)) = sizeL (l.take i) + size l[i] := by
  rw [List.take_succ_eq_append_getElem h, sizeL_append]; simp [sizeL]
theorem depthL_take_succ {l : List Tm} {i : Nat} (h : i < l.length) : depthL (l.take (i + 1)) = max (depthL (l.take i)) (depth l[i]) := by
  rw [List.take_succ_eq_append_getElem h, depthL_append]; simp [depthL]
mutual
theorem depth_le_size : ∀ t : Tm, depth t ≤ size t
  | .node _ _ l => by have := depthL_le_sizeL l; simp only [depth, size]; omega
theorem depthL_le_sizeL : ∀ l : List Tm, depthL l ≤ sizeL l
  | [] => by simp [depthL, sizeL]
  | t :: l => by have := depth_le_size t; have := depthL_le_sizeL l; simp only [depthL, sizeL]; omega
end

/-- Induction on the tree, by its size: the hypothesis serves at every Kid. -/
theorem tm_ind {p : Tm → Prop} (h : ∀ t : Tm, (∀ u ∈ t.kids, p u) → p t) : ∀ t, p t := by
  intro t
  induction hn : size t using Nat.strongRecOn generalizing t with
  | _ n ih => exact h t fun u hu => ih _ (by have := size_le_of_mem hu; have := size_eq t; omega) u rfl

def I64 (x : Int) : Prop := -9223372036854775808 ≤ x ∧ x ≤ 9223372036854775807
/-- All the numbers of the term are such as an int holds. -/
inductive Fits : Tm → Prop
  | mk (k n : Int) (l : List Tm) (hk : I64 k) (hn : I64 n) (hl : ∀ u ∈ l, Fits u) : Fits (.node k n l)
theorem Fits.k {t : Tm} (h : Fits t) : I64 t.k := by cases h; assumption
theorem Fits.n {t : Tm} (h : Fits t) : I64 t.n := by cases h; assumption
theorem Fits.kids {t : Tm} (h : Fits t) : ∀ u ∈ t.kids, Fits u := by cases h; assumption
theorem Fits.get {l : List Tm} (h : ∀ u ∈ l, Fits u) {i : Nat} (hi : i < l.length) : Fits l[i] := h _ (List.getElem_mem hi)

/-- The term's Kids lie in the world: 'v' is the slice value. -/
inductive At (w : World) : List Tm → Value → Prop
  | nl : At w [] (.slice none 0 0)
  | em (a : Addr) (cap : Nat) : At w [] (.slice (some a) 0 cap)
  | row (l : List Tm) (b off cap : Nat) (vs : Nat → Value) (hlen : l.length ≤ cap) (hcap : cap ≤ maxLen)
      (hk : ∀ i (h : i < l.length), w.cell? ⟨b, off + i * 3, none⟩ = some (.int .i64 l[i].k))
      (hn : ∀ i (h : i < l.length), w.cell? ⟨b, off + i * 3 + 1, none⟩ = some (.int .i64 l[i].n))
      (hv : ∀ i (h : i < l.length), w.cell? ⟨b, off + i * 3 + 2, none⟩ = some (vs i))
      (hs : ∀ i (h : i < l.length), At w l[i].kids (vs i)) : At w l (.slice (some ⟨b, off, none⟩) l.length cap)

/-- The value of a term by its Kids' slice. -/
def tv (t : Tm) (v : Value) : Value := .agg #[.int .i64 t.k, .int .i64 t.n, v]

theorem At.same {w w' : World} (h : ∀ a : Addr, a.block < w.heap.size → w'.cell? a = w.cell? a) {l : List Tm} {v : Value} (hA : At w l v) : At w' l v := by
  induction hA with
  | nl => exact .nl
  | em a cap => exact .em a cap
  | row l b off cap vs hlen hcap hk hn hv _ ih =>
    have g : ∀ {o : Nat} {x : Value}, w.cell? ⟨b, o, none⟩ = some x → w'.cell? ⟨b, o, none⟩ = some x := fun {o x} hx => by
      rw [h _ (World.block_lt_of_cell? w _ hx)]; exact hx
    exact .row l b off cap vs hlen hcap (fun i hi => g (hk i hi)) (fun i hi => g (hn i hi)) (fun i hi => g (hv i hi)) ih
theorem At.bel {w w' : World} {B : Nat} (hb : Below B w w') (hB : w.heap.size ≤ B) {l : List Tm} {v : Value} (hA : At w l v) : At w' l v :=
  hA.same fun _ ha => hb.cell (Nat.lt_of_lt_of_le ha hB)
theorem At.alloc {w : World} {l : List Tm} {v : Value} (hA : At w l v) (o : Obj) : At (w.alloc o) l v :=
  hA.bel ((Below.refl _ w).alloc (Nat.le_refl _) o) (Nat.le_refl _)
theorem At.drew {w : World} {l : List Tm} {v : Value} (hA : At w l v) : At w.drew l v := At.same (w := w) (w' := w.drew) (fun _ _ => rfl) hA

/-- What a slice of Kids looks like. -/
theorem At.shape {w : World} {l : List Tm} {v : Value} (hA : At w l v) : ∃ a cap, v = .slice a l.length cap := by
  cases hA with
  | nl => exact ⟨none, 0, rfl⟩
  | em a cap => exact ⟨some a, cap, rfl⟩
  | row l b off cap => exact ⟨_, _, rfl⟩
theorem At.pos {w : World} {l : List Tm} {v : Value} (hA : At w l v) (hl : 0 < l.length) : ∃ (b off cap : Nat) (vs : Nat → Value), v = .slice (some ⟨b, off, none⟩) l.length cap ∧ l.length ≤ cap ∧ cap ≤ maxLen ∧
    (∀ i (h : i < l.length), w.cell? ⟨b, off + i * 3, none⟩ = some (.int .i64 l[i].k)) ∧ (∀ i (h : i < l.length), w.cell? ⟨b, off + i * 3 + 1, none⟩ = some (.int .i64 l[i].n)) ∧
    (∀ i (h : i < l.length), w.cell? ⟨b, off + i * 3 + 2, none⟩ = some (vs i)) ∧ (∀ i (h : i < l.length), At w l[i].kids (vs i)) := by
  cases hA with
  | nl => simp at hl
  | em a cap => simp at hl
  | row l b off cap vs h1 h2 h3 h4 h5 h6 => exact ⟨b, off, cap, vs, rfl, h1, h2, h3, h4, h5, h6⟩

theorem ret_int {k : IntKind} {a b : Int} (h : a = b) : Ending.returned (.int k a) = .returned (.int k b) := by rw [h]
theorem ret_bool {a b : Bool} (h : a = b) : Ending.returned (.bool a) = .returned (.bool b) := by rw [h]
end Go.Proofs.Ytcegocmndfoflaa
