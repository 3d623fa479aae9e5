/- Terms as plain trees; when a tree lies in memory; how it is carried from world to world. No conditions. -/
import Derived.WalkKit
import Derived.Below
import Derived.Deep.Slices
import Derived.IntWalk
import Derived.Test.YtggefpkfikimiaaChecked
import Derived.Lib.Hide
import Derived.RangeFuncNested
namespace Go.Proofs.Ytggefpkfikimiaa
set_option linter.unusedVariables false
open Go.RowKit

inductive Tm where
  | node (k n : Int) (kids : List Tm)
namespace Tm
def k : Tm → Int | .node k _ _ => k
def n : Tm → Int | .node _ n _ => n
def kids : Tm → List Tm | .node _ _ l => l
end Tm
instance : Inhabited Tm := ⟨.node 0 0 []⟩

mutual
def size : Tm → Nat | .node _ _ l => sizeL l + 1
def sizeL : List Tm → Nat | [] => 0 | t :: l => size t + sizeL l
end
mutual
def depth : Tm → Nat | .node _ _ l => depthL l + 1
def depthL : List Tm → Nat | [] => 0 | t :: l => max (depth t) (depthL l)
end

theorem size_eq (t : Tm) : size t = sizeL t.kids + 1 := by cases t; simp [size, Tm.kids]
theorem depth_eq (t : Tm) : depth t = depthL t.kids + 1 := by cases t; simp [depth, Tm.kids]
theorem size_pos (t : Tm) : 1 ≤ size t := by rw [size_eq]; exact Nat.le_add_left _ _
theorem sizeL_append (a b : List Tm) : sizeL (a ++ b) = sizeL a + sizeL b := by
  induction a with
  | nil => simp [sizeL]
  | cons x a ih => simp [sizeL, ih]; omega
theorem depthL_append (a b : List Tm) : depthL (a ++ b) = max (depthL a) (depthL b) := by
  induction a with
  | nil => simp [depthL]
  | cons x a ih => simp [depthL, ih, Nat.max_assoc]
theorem size_le_of_mem {t : Tm} {l : List Tm} (h : t ∈ l) : size t ≤ sizeL l := by
  induction l with
  | nil => cases h
  | cons x l ih =>
    simp only [sizeL]
    rcases List.mem_cons.1 h with rfl | h
    · omega
    · have := ih h; omega
theorem length_le_sizeL (l : List Tm) : l.length ≤ sizeL l := by
  induction l with
  | nil => simp [sizeL]
  | cons x l ih => have := size_pos x; simp only [sizeL, List.length_cons]; omega
theorem size_get {l : List Tm} {i : Nat} (h : i < l.length) : size l[i] ≤ sizeL l := size_le_of_mem (List.getElem_mem h)
theorem sizeL_take (l : List Tm) (i : Nat) : sizeL (l.take i) ≤ sizeL l := by
  have h : l.take i ++ l.drop i = l := List.take_append_drop i l
  have := sizeL_append (l.take i) (l.drop i)
  rw [h] at this; omega
theorem sizeL_take_succ {l : List Tm} {i : Nat} (h : i < l.length) : sizeL (l.take (i + 1)) = sizeL (l.take i) + size l[i] := by
  rw [List.take_succ_eq_append_getElem h, sizeL_append]; simp [sizeL]
theorem depthL_take_succ {l : List Tm} {i : Nat} (h : i < l.length) : depthL (l.take (i + 1)) = max (depthL (l.take i)) (depth l[i]) := by
  rw [List.take_succ_eq_append_getElem h, depthL_append]; simp [depthL]
mutual
theorem depth_le_size : ∀ t : Tm, depth t ≤ size t
  | .node _ _ l => by have := depthL_le_sizeL l; simp only [depth, size]; omega
theorem depthL_le_sizeL : ∀ l : List Tm, depthL l ≤ sizeL l
  | [] => by simp [depthL, sizeL]
  | t :: l => by have := depth_le_size t; have := depthL_le_sizeL l; simp only [depthL, sizeL]; omega
end

/-- Induction on the tree, by its size: the hypothesis serves at every Kid. -/
theorem tm_ind {p : Tm → Prop} (h : ∀ t : Tm, (∀ u ∈ t.kids, p u) → p t) : ∀ t, p t := by
  intro t
  induction hn : size t using Nat.strongRecOn generalizing t with
  | _ n ih => exact h t fun u hu => ih _ (by have := size_le_of_mem hu; have := size_eq t; omega) u rfl

def I64 (x : Int) : Prop := -9223372036854775808 ≤ x ∧ x ≤ 9223372036854775807
/-- All the numbers of the term are such as an int holds. -/
inductive Fits : Tm → Prop
  | mk (k n : Int) (l : List Tm) (hk : I64 k) (hn : I64 n) (hl : ∀ u ∈ l, Fits u) : Fits (.node k n l)
theorem Fits.k {t : Tm} (h : Fits t) : I64 t.k := by cases h; assumption
theorem Fits.n {t : Tm} (h : Fits t) : I64 t.n := by cases h; assumption
theorem Fits.kids {t : Tm} (h : Fits t) : ∀ u ∈ t.kids, Fits u := by cases h; assumption
theorem Fits.get {l : List Tm} (h : ∀ u ∈ l, Fits u) {i : Nat} (hi : i < l.length) : Fits l[i] := h _ (List.getElem_mem hi)

/-- The term's Kids lie in the world: 'v' is the slice value. -/
inductive At (w : World) : List Tm → Value → Prop
  | nl : At w [] (.slice none 0 0)
  | em (a : Addr) (cap : Nat) : At w [] (.slice (some a) 0 cap)
  | row (l : List Tm) (b off cap : Nat) (vs : Nat → Value) (hlen : l.length ≤ cap) (hcap : cap ≤ maxLen)
      (hk : ∀ i (h : i < l.length), w.cell? ⟨b, off + i * 3, none⟩ = some (.int .i64 l[i].k))
      (hn : ∀ i (h : i < l.length), w.cell? ⟨b, off + i * 3 + 1, none⟩ = some (.int .i64 l[i].n))
      (hv : ∀ i (h : i < l.length), w.cell? ⟨b, off + i * 3 + 2, none⟩ = some (vs i))
      (hs : ∀ i (h : i < l.length), At w l[i].kids (vs i)) : At w l (.slice (some ⟨b, off, none⟩) l.length cap)

/-- The value of a term by its Kids' slice. -/
def tv (t : Tm) (v : Value) : Value := .agg #[.int .i64 t.k, .int .i64 t.n, v]

theorem At.same {w w' : World} (h : ∀ a : Addr, a.block < w.heap.size → w'.cell? a = w.cell? a) {l : List Tm} {v : Value} (hA : At w l v) : At w' l v := by
  induction hA with
  | nl => exact .nl
  | em a cap => exact .em a cap
  | row l b off cap vs hlen hcap hk hn hv _ ih =>
    have g : ∀ {o : Nat} {x : Value}, w.cell? ⟨b, o, none⟩ = some x → w'.cell? ⟨b, o, none⟩ = some x := fun {o x} hx => by
      rw [h _ (World.block_lt_of_cell? w _ hx)]; exact hx
    exact .row l b off cap vs hlen hcap (fun i hi => g (hk i hi)) (fun i hi => g (hn i hi)) (fun i hi => g (hv i hi)) ih
theorem At.bel {w w' : World} {B : Nat} (hb : Below B w w') (hB : w.heap.size ≤ B) {l : List Tm} {v : Value} (hA : At w l v) : At w' l v :=
  hA.same fun _ ha => hb.cell (Nat.lt_of_lt_of_le ha hB)
theorem At.alloc {w : World} {l : List Tm} {v : Value} (hA : At w l v) (o : Obj) : At (w.alloc o) l v :=
  hA.bel ((Below.refl _ w).alloc (Nat.le_refl _) o) (Nat.le_refl _)
theorem At.drew {w : World} {l : List Tm} {v : Value} (hA : At w l v) : At w.drew l v := At.same (w := w) (w' := w.drew) (fun _ _ => rfl) hA

/-- What a slice of Kids looks like. -/
theorem At.shape {w : World} {l : List Tm} {v : Value} (hA : At w l v) : ∃ a cap, v = .slice a l.length cap := by
  cases hA with
  | nl => exact ⟨none, 0, rfl⟩
  | em a cap => exact ⟨some a, cap, rfl⟩
  | row l b off cap => exact ⟨_, _, rfl⟩
theorem At.pos {w : World} {l : List Tm} {v : Value} (hA : At w l v) (hl : 0 < l.length) : ∃ (b off cap : Nat) (vs : Nat → Value), v = .slice (some ⟨b, off, none⟩) l.length cap ∧ l.length ≤ cap ∧ cap ≤ maxLen ∧
    (∀ i (h : i < l.length), w.cell? ⟨b, off + i * 3, none⟩ = some (.int .i64 l[i].k)) ∧ (∀ i (h : i < l.length), w.cell? ⟨b, off + i * 3 + 1, none⟩ = some (.int .i64 l[i].n)) ∧
    (∀ i (h : i < l.length), w.cell? ⟨b, off + i * 3 + 2, none⟩ = some (vs i)) ∧ (∀ i (h : i < l.length), At w l[i].kids (vs i)) := by
  cases hA with
  | nl => simp at hl
  | em a cap => simp at hl
  | row l b off cap vs h1 h2 h3 h4 h5 h6 => exact ⟨b, off, cap, vs, rfl, h1, h2, h3, h4, h5, h6⟩

theorem ret_int {k : IntKind} {a b : Int} (h : a = b) : Ending.returned (.int k a) = .returned (.int k b) := by rw [h]
theorem ret_bool {a b : Bool} (h : a = b) : Ending.returned (.bool a) = .returned (.bool b) := by rw [h]
end Go.Proofs.Ytggefpkfikimiaa
/- The page's size and depth of a term, as the Go text computes them. -/
namespace Go.Proofs.Ytggefpkfikimiaa
open Go.RowKit

/-- A boxed term: its three cells. -/
def Box3 (W : World) (B : Nat) (t : Tm) (v : Value) : Prop :=
  B < W.heap.size ∧ W.cell? ⟨B, 0, none⟩ = some (.int .i64 t.k) ∧ W.cell? ⟨B, 1, none⟩ = some (.int .i64 t.n) ∧ W.cell? ⟨B, 2, none⟩ = some v
theorem Box3.bel {W W' : World} {B : Nat} {t : Tm} {v : Value} (h : Box3 W B t v) (hb : Below W.heap.size W W') : Box3 W' B t v :=
  ⟨Nat.lt_of_lt_of_le h.1 hb.size, (hb.cell (p := ⟨B, 0, none⟩) h.1).trans h.2.1, (hb.cell (p := ⟨B, 1, none⟩) h.1).trans h.2.2.1, (hb.cell (p := ⟨B, 2, none⟩) h.1).trans h.2.2.2⟩
theorem box3_new (w : World) (t : Tm) (v : Value) (ty : TypeId) : Box3 (w.alloc (.cells #[.int .i64 t.k, .int .i64 t.n, v] ty)) w.heap.size t v := by
  refine ⟨by simp, ?_, ?_, ?_⟩ <;> simp [go_sem]

set_option maxRecDepth 100000 in
set_option maxHeartbeats 400000 in
theorem rsize_any : ∀ (t : Tm), size t < 2147483648 → ∀ (w : World) (v : Value), At w t.kids v →
    Calls Try.prog 58 #[tv t v] w fun e w' => e = .returned (.int .i64 (size t)) ∧ Below w.heap.size w w' := by
  refine tm_ind fun t ih => ?_
  intro hs w v hA
  obtain ⟨a, cap, rfl⟩ := hA.shape
  have hlen : t.kids.length < 2147483648 := by have := length_le_sizeL t.kids; have := size_eq t; omega
  unfold tv
  go_enter Try.func58, Try.ntmps58
  go_wp2_with fail
  have hB := box3_new w t (.slice a t.kids.length cap) 25
  have hb0 := (Below.refl _ w).alloc (Nat.le_refl _) (.cells #[.int .i64 t.k, .int .i64 t.n, .slice a t.kids.length cap] 25)
  have hA1 := hA.bel hb0 (Nat.le_refl _)
  revert hB hb0 hA1
  generalize hW : w.alloc (.cells #[.int .i64 t.k, .int .i64 t.n, .slice a t.kids.length cap] 25) = W
  clear hW
  intro hB hb0 hA1
  go_loopw [3, 4] (fun n i wr => ∃ j : Nat, j ≤ t.kids.length ∧ i = .int .i64 j ∧ n = .int .i64 ((sizeL (t.kids.take j) + 1 : Nat) : Int) ∧ Below W.heap.size W wr)
    (fun _ i _ => t.kids.length - (RowKit.intOf i).toNat)
  case atStart => exact ⟨0, Nat.zero_le _, rfl, by simp [sizeL], Below.refl _ _⟩
  case round =>
    obtain ⟨j, hj, rfl, rfl, hbw⟩ := hrel
    obtain ⟨hBlt, c0, c1, c2⟩ := hB.bel hbw
    by_cases hlt : j < t.kids.length
    · obtain ⟨b, off, cap', vs, he, h1, h2, kk, kn, kv, ks⟩ := (hA1.bel hbw (Nat.le_refl _)).pos (by omega)
      have gk := kk j hlt
      have gn := kn j hlt
      have gv := kv j hlt
      have gs := ks j hlt
      clear kk kn kv ks
      have hsz := sizeL_take_succ hlt
      have hle := sizeL_take t.kids (j + 1)
      have hse := size_eq t
      have HI := Lib.hid (ih t.kids[j] (List.getElem_mem hlt) (by omega) wr (vs j) gs)
      have HS := Lib.hid hsz
      have hb3 : sizeL (t.kids.take j) + 1 + size t.kids[j] < 2147483648 := by omega
      have hp0 : 0 ≤ size t.kids[j] := Nat.zero_le _
      clear ih hs hle hsz hse
      cases he
      go_wp2_with fail
      refine (HI.out).mono ?_
      rintro e w1 ⟨rfl, hb1⟩
      go_wp2_with fail
      go_roundw
      case rel => exact ⟨j + 1, by omega, by go_num, by rw [HS.out]; go_num, hbw.trans (hb1.mono hbw.size)⟩
      case measure => simp [RowKit.intOf]; omega
    · obtain rfl : j = t.kids.length := by omega
      have hlt : decide ((t.kids.length : Int) < (t.kids.length : Int)) = false := by simp
      go_wp2_with fail
      go_ret
      exact ⟨ret_int (by rw [List.take_length, size_eq]), hb0.trans (hbw.mono hb0.size)⟩
end Go.Proofs.Ytggefpkfikimiaa
/- What the kinds say, as plain functions on integers, and that the Go text of package kind and of the page computes them. No conditions. -/
namespace Go.Proofs.Ytggefpkfikimiaa
set_option linter.unusedVariables false
open Go.RowKit

def kidsI (k : Int) : Int :=
  if k = 1 ∨ k = 2 ∨ k = 3 then 0 else if k = 9 ∨ k = 10 then 1 else
  if k = 4 ∨ k = 5 ∨ k = 6 ∨ k = 7 ∨ k = 12 then 2 else if k = 8 ∨ k = 11 ∨ k = 13 then 3 else -1
def bindsI (k i : Int) : Int := if i = 1 ∧ (k = 4 ∨ k = 5 ∨ k = 7) then 1 else 0
set_option maxRecDepth 100000 in
theorem kids_any (k : Int) (w : World) :
    Calls Try.prog 110 #[.int .i64 k] w fun e w' => e = .returned (.int .i64 (kidsI k)) ∧ w = w' := by
  go_enter Try.func110, Try.ntmps110
  go_wp2
  all_goals go_ret
  all_goals exact ⟨ret_int (by simp only [beq_iff_eq, beq_eq_false_iff_ne, ne_eq] at *; simp [kidsI, *]), rfl⟩

theorem rkids_any (k : Int) (w : World) :
    Calls Try.prog 95 #[.int .i64 k] w fun e w' => e = .returned (.int .i64 (kidsI k)) ∧ w = w' := by
  go_enter Try.func95, Try.ntmps95
  go_wp2
  all_goals go_ret
  all_goals exact ⟨ret_int (by simp only [beq_iff_eq, beq_eq_false_iff_ne, ne_eq] at *; simp [kidsI, *]), rfl⟩

theorem binds_any (k i : Int) (w : World) :
    Calls Try.prog 93 #[.int .i64 k, .int .i64 i] w fun e w' => e = .returned (.int .i64 (bindsI k i)) ∧ w = w' := by
  by_cases h : i = 1
  · go_enter Try.func93, Try.ntmps93
    go_wp2
    all_goals go_ret
    all_goals exact ⟨ret_int (by simp only [beq_iff_eq, beq_eq_false_iff_ne, ne_eq] at *; simp [bindsI, *]), rfl⟩
  · go_enter Try.func93, Try.ntmps93
    go_wp2
    all_goals go_ret
    all_goals exact ⟨ret_int (by simp [bindsI, h]), rfl⟩

theorem rbinds_any (k i : Int) (w : World) :
    Calls Try.prog 74 #[.int .i64 k, .int .i64 i] w fun e w' => e = .returned (.int .i64 (bindsI k i)) ∧ w = w' := by
  by_cases h : i = 1
  · by_cases h4 : k = 4
    · subst h4
      go_enter Try.func74, Try.ntmps74
      go_wp2
      go_ret
      exact ⟨ret_int (by simp [bindsI, h]), rfl⟩
    · by_cases h5 : k = 5
      · subst h5
        go_enter Try.func74, Try.ntmps74
        go_wp2
        go_ret
        exact ⟨ret_int (by simp [bindsI, h]), rfl⟩
      · by_cases h7 : k = 7
        · subst h7
          go_enter Try.func74, Try.ntmps74
          go_wp2
          go_ret
          exact ⟨ret_int (by simp [bindsI, h]), rfl⟩
        · have e0 : bindsI k i = 0 := by simp [bindsI, *]
          rw [e0]
          have e4 : (k == 4) = false := by simpa using h4
          have e5 : (k == 5) = false := by simpa using h5
          have e7 : (k == 7) = false := by simpa using h7
          clear e0 h4 h5 h7
          go_enter Try.func74, Try.ntmps74
          go_wp2
          go_ret
          exact ⟨rfl, rfl⟩
  · go_enter Try.func74, Try.ntmps74
    go_wp2
    go_ret
    exact ⟨ret_int (by simp [bindsI, h]), rfl⟩

theorem leaf_any (k : Int) (w : World) :
    Calls Try.prog 111 #[.int .i64 k] w fun e w' => e = .returned (.bool (kidsI k == 0)) ∧ w = w' := by
  go_enter Try.func111, Try.ntmps111
  go_wp2_with (go_at_call 110; refine (kids_any _ _).mono ?_; rintro e w' ⟨rfl, rfl⟩)
  go_ret
  exact ⟨rfl, rfl⟩

theorem in_any (n lo hi : Int) (w : World) :
    Calls Try.prog 63 #[.int .i64 n, .int .i64 lo, .int .i64 hi] w fun e w' => e = .returned (.bool (decide (lo ≤ n) && decide (n ≤ hi))) ∧ w = w' := by
  by_cases h : lo ≤ n
  · go_enter Try.func63, Try.ntmps63
    go_wp2
    go_ret
    exact ⟨ret_bool (by simp [h]), rfl⟩
  · have hd : decide (lo ≤ n) = false := by simpa using h
    go_enter Try.func63, Try.ntmps63
    go_wp2
    go_ret
    exact ⟨ret_bool (by simp), rfl⟩
theorem bindsI_range (k i : Int) : 0 ≤ bindsI k i ∧ bindsI k i ≤ 1 := by unfold bindsI; split <;> omega
end Go.Proofs.Ytggefpkfikimiaa
/- All the nodes of a term with their depths and binders; what a loop's rounds and an iterator's steps keep; the law for a loop over an iterator that keeps a list of its own in memory. No conditions. -/
namespace Go.Proofs.Ytggefpkfikimiaa
open Go.RowKit Go

abbrev PEl := Int × Int × Tm
mutual
def nodesT : Tm → Int → Int → List PEl | .node k n l, d, b => (d, b, .node k n l) :: nodesL l k (d + 1) b 0
def nodesL : List Tm → Int → Int → Int → Nat → List PEl | [], _, _, _, _ => [] | t :: l, k, d, b, i => nodesT t d (b + bindsI k i) ++ nodesL l k d b (i + 1)
end
theorem nodesT_eq (t : Tm) (d b : Int) : nodesT t d b = (d, b, t) :: nodesL t.kids t.k (d + 1) b 0 := by cases t; rfl
theorem nodesL_drop {l : List Tm} {j : Nat} (h : j < l.length) (k d b : Int) : nodesL (l.drop j) k d b j = nodesT l[j] d (b + bindsI k j) ++ nodesL (l.drop (j + 1)) k d b (j + 1) := by
  rw [List.drop_eq_getElem_cons h]; rfl
theorem nodesL_end (l : List Tm) (k d b : Int) : nodesL (l.drop l.length) k d b l.length = [] := by simp [nodesL]
mutual
theorem nodesT_len : ∀ (t : Tm) (d b : Int), (nodesT t d b).length = size t
  | .node k n l, d, b => by simp [nodesT, size, nodesL_len l k (d + 1) b 0]
theorem nodesL_len : ∀ (l : List Tm) (k d b : Int) (i : Nat), (nodesL l k d b i).length = sizeL l
  | [], _, _, _, _ => by simp [nodesL, sizeL]
  | t :: l, k, d, b, i => by simp [nodesL, sizeL, nodesT_len t d (b + bindsI k i), nodesL_len l k d b (i + 1)]
end
mutual
theorem nodesT_in : ∀ (t : Tm) (d b : Int), ∀ x ∈ nodesT t d b, d ≤ x.1 ∧ x.1 ≤ d + depth t - 1 ∧ b ≤ x.2.1 ∧ x.2.1 ≤ b + depth t
  | .node k n l, d, b => by
    intro x hx
    rw [nodesT] at hx
    rcases List.mem_cons.1 hx with rfl | hx
    · simp only [depth]; omega
    · have := nodesL_in l k (d + 1) b 0 x hx
      simp only [depth]; omega
theorem nodesL_in : ∀ (l : List Tm) (k d b : Int) (i : Nat), ∀ x ∈ nodesL l k d b i, d ≤ x.1 ∧ x.1 ≤ d + depthL l - 1 ∧ b ≤ x.2.1 ∧ x.2.1 ≤ b + depthL l + 1
  | [], _, _, _, _ => by intro x hx; simp [nodesL] at hx
  | t :: l, k, d, b, i => by
    intro x hx
    rw [nodesL] at hx
    have hr := bindsI_range k i
    simp only [depthL]
    rcases List.mem_append.1 hx with hx | hx
    · have := nodesT_in t d (b + bindsI k i) x hx; omega
    · have := nodesL_in l k d b (i + 1) x hx; omega
end
mutual
theorem nodesT_fits : ∀ (t : Tm) (d b : Int), Fits t → ∀ x ∈ nodesT t d b, Fits x.2.2
  | .node k n l, d, b, hf => by
    intro x hx
    rw [nodesT] at hx
    rcases List.mem_cons.1 hx with rfl | hx
    · exact hf
    · exact nodesL_fits l k (d + 1) b 0 hf.kids x hx
theorem nodesL_fits : ∀ (l : List Tm) (k d b : Int) (i : Nat), (∀ u ∈ l, Fits u) → ∀ x ∈ nodesL l k d b i, Fits x.2.2
  | [], _, _, _, _, _ => by intro x hx; simp [nodesL] at hx
  | t :: l, k, d, b, i, hf => by
    intro x hx
    rw [nodesL] at hx
    rcases List.mem_append.1 hx with hx | hx
    · exact nodesT_fits t d _ (hf t List.mem_cons_self) x hx
    · exact nodesL_fits l k d b (i + 1) (fun u hu => hf u (List.mem_cons_of_mem _ hu)) x hx
end

/-- What is handed to a round: a node's depth, its binders, the node, its Kids' slice. -/
structure El where
  d : Int
  b : Int
  t : Tm
  v : Value
def El.p (x : El) : PEl := (x.d, x.b, x.t)
def El.vals (x : El) : Array Value := #[.agg #[.int .i64 x.d, .int .i64 x.b], tv x.t x.v]
def El.shape (x : El) : Prop := ∃ a cap, x.v = .slice a x.t.kids.length cap
/-- The nodes that have come are some of all, each as often as it is there. -/
def Came (all : List PEl) (pre : List El) : Prop := (∃ rest, (pre.map El.p ++ rest).Perm all) ∧ ∀ x ∈ pre, x.shape
def CameAll (all : List PEl) (pre : List El) : Prop := (pre.map El.p).Perm all ∧ ∀ x ∈ pre, x.shape
theorem Came.mem {all : List PEl} {pre : List El} {x : El} (h : Came all (pre ++ [x])) : x.p ∈ all ∧ x.shape := by
  obtain ⟨⟨rest, hp⟩, hs⟩ := h
  exact ⟨hp.subset (by simp), hs x (by simp)⟩
theorem Came.length {all : List PEl} {pre : List El} (h : Came all pre) : pre.length ≤ all.length := by
  obtain ⟨⟨rest, hp⟩, _⟩ := h
  have := hp.length_eq
  simp at this; omega

/-- Whatever lies below n₀, or at n₁ and beyond, lies as it lay. -/
structure KeepsOut (n₀ n₁ : Nat) (A B : World) : Prop where
  size : A.heap.size ≤ B.heap.size
  block : ∀ k, k < A.heap.size → (k < n₀ ∨ n₁ ≤ k) → B.heap[k]? = A.heap[k]?
theorem KeepsOut.refl (n₀ n₁ : Nat) (A : World) : KeepsOut n₀ n₁ A A := ⟨Nat.le_refl _, fun _ _ _ => rfl⟩
theorem KeepsOut.trans {n₀ n₁ : Nat} {A B C : World} (h : KeepsOut n₀ n₁ A B) (k : KeepsOut n₀ n₁ B C) : KeepsOut n₀ n₁ A C :=
  ⟨Nat.le_trans h.size k.size, fun i hi ho => (k.block i (Nat.lt_of_lt_of_le hi h.size) ho).trans (h.block i hi ho)⟩
theorem KeepsOut.mono {n₀ n₁ m₀ m₁ : Nat} {A B : World} (h : KeepsOut n₀ n₁ A B) (h0 : m₀ ≤ n₀) (h1 : n₁ ≤ m₁) : KeepsOut m₀ m₁ A B := ⟨h.size, fun k hk ho => h.block k hk (by omega)⟩
theorem KeepsOut.alloc {n₀ n₁ : Nat} {A B : World} (h : KeepsOut n₀ n₁ A B) (o : Obj) : KeepsOut n₀ n₁ A (B.alloc o) :=
  h.trans ⟨by simp, fun k hk _ => Below.heap_alloc B o k hk⟩
theorem KeepsOut.setCell {n₀ n₁ : Nat} {A B : World} (h : KeepsOut n₀ n₁ A B) {p : Addr} (hp : n₀ ≤ p.block ∧ p.block < n₁) (u : Value) : KeepsOut n₀ n₁ A (B.setCell p u) :=
  h.trans ⟨by simp [World.setCell], fun k _ ho => Below.heap_setCell B p u k (by omega)⟩
theorem KeepsOut.below {n₀ n₁ : Nat} {A B C : World} (h : KeepsOut n₀ n₁ A B) (hb : Below B.heap.size B C) : KeepsOut n₀ n₁ A C :=
  h.trans ⟨hb.size, fun k hk _ => hb.block k hk⟩
theorem KeepsOut.drew {n₀ n₁ : Nat} {A B : World} (h : KeepsOut n₀ n₁ A B) : KeepsOut n₀ n₁ A B.drew := h.trans ⟨Nat.le_refl _, fun _ _ _ => rfl⟩
theorem KeepsOut.putObj {n₀ n₁ : Nat} {A B : World} (h : KeepsOut n₀ n₁ A B) {l : Nat} (hl : n₀ ≤ l ∧ l < n₁) (o : Obj) : KeepsOut n₀ n₁ A (B.putObj l o) :=
  h.trans ⟨by simp [World.putObj], fun k _ ho => World.putObj_heap_other (by omega)⟩
theorem KeepsOut.cell {n₀ n₁ : Nat} {A B : World} (h : KeepsOut n₀ n₁ A B) {a : Addr} {v : Value} (ha : a.block < n₀ ∨ n₁ ≤ a.block) (hv : A.cell? a = some v) : B.cell? a = some v := by
  rw [World.cell?_of_block (w := A) (h.block a.block (World.block_lt_of_cell? A _ hv) ha)]; exact hv

/-- An iterator's contract: it hands on nodes, all of them or a part; between two rounds it touches nothing below the heap's end as its call began; a round must keep what lies below n₀ and at or beyond that end. -/
def SeqN (n : Nat) (P : Program) (g : Nat) (lb : Array Value) (n₀ : Nat) (all : List PEl) (w : World) : Prop :=
  ∀ (l : Nat) (J Jx : List El → World → Prop) (W : World), Below w.heap.size w W →
    (∀ s A B, J s A → Below W.heap.size A B → J s B) → (∀ s A B, Jx s A → Below W.heap.size A B → Jx s B) →
    (∀ pre x W1, Came all (pre ++ [x]) → J pre W1 → W.heap.size ≤ W1.heap.size → YieldAt Fence.wide (n - 1) P l x.vals W1 fun e W' =>
      (e = .returned (.bool true) ∧ J (pre ++ [x]) W' ∧ KeepsOut n₀ W.heap.size W1 W') ∨ (e = .returned (.bool false) ∧ Jx (pre ++ [x]) W')) →
    J [] W →
    CallsIn Fence.wide n P g (#[.func (.yield l) #[] #[]] ++ lb) W fun e W' => (∃ v, e = .returned v) ∧ ((∃ xs, CameAll all xs ∧ J xs W') ∨ (∃ pre, Came all pre ∧ Jx pre W'))

/-- How the body of a round may be left. -/
def postN (n₀ n₁ : Nat) (I : List El → World → Prop) (Ix : Code → List El → World → Prop) (xs : List El) (W : World) : Exit → Act → World → Prop
  | .normal, _, W' => KeepsOut n₀ n₁ W W' ∧ I xs W'
  | .ret, _, W' => KeepsOut n₀ n₁ W W' ∧ Ix .ret xs W'
  | .exit id, _, W' => KeepsOut n₀ n₁ W W' ∧ Ix (.exit id) xs W'
  | .goto t, _, W' => KeepsOut n₀ n₁ W W' ∧ Ix (.goto t) xs W'
  | .panic _, _, _ => False
  | .outgrown, _, _ => False

theorem below_alloc2 (w : World) (o : Obj) : Below w.heap.size w (w.alloc o) := (Below.refl _ w).alloc (Nat.le_refl _) o
theorem below_put {B : Nat} (W : World) (l : Nat) (o : Obj) (hl : B ≤ l) : Below B W (W.putObj l o) :=
  ⟨rfl, rfl, rfl, by simp [World.putObj], fun k hk => World.putObj_heap_other (by omega)⟩

theorem wpIn_rangeFunc_N {n : Nat} {P : Program} {g : Operand} {ps : Array Tmp} {assign body : Code} {Q : Exit → Act → World → Prop} {a : Act} {w : World}
    (h1 : 1 ≤ n) {gf : Nat} {lb : Array Value} (hg : a.eval g = .func (.func gf) #[] lb) (eg : ∀ args w, (callFunc gf args).run P w = .ok (.enter gf args) w)
    {n₀ : Nat} {all : List PEl} {w0 : World} (hseq : SeqN (n - 1) P gf lb n₀ all w0) (hb0 : Below w0.heap.size w0 w) (hn₀ : n₀ ≤ w.heap.size) (hps : ps.size = 2)
    (I : List El → World → Prop) (Ix : Code → List El → World → Prop) (hI : ∀ s A B, I s A → Below w.heap.size A B → I s B) (hIx : ∀ c s A B, Ix c s A → Below w.heap.size A B → Ix c s B) (h0 : I [] w)
    (Ax : El → Act → World → Prop) (hAx : ∀ x a' A l o, Ax x a' A → l < w.heap.size + 2 → Ax x a' (A.putObj l o))
    (hassign : ∀ (l : Nat) (pre : List El) (x : El) (W : World) (K : Act → World → Prop), Came all (pre ++ [x]) → I pre W → w.heap.size + 2 ≤ W.heap.size → (∀ a' W', KeepsOut n₀ w.heap.size W W' → I pre W' → Ax x a' W' → K a' W') →
      assign.wpIn (Fence.wide.inRound l) (n - 1 - 1) P (Exit.then K (fun _ _ _ => False)) { tmps := (ps.zip x.vals).foldl (fun t (p, v) => t.setIfInBounds p v) a.tmps, defers := [] } W)
    (hbody : ∀ (l : Nat) (pre : List El) (x : El) (a' : Act) (W : World), Came all (pre ++ [x]) → I pre W → w.heap.size + 2 ≤ W.heap.size → Ax x a' W → body.wpIn (Fence.wide.inRound l) (n - 1 - 1) P (postN n₀ w.heap.size I Ix (pre ++ [x]) W) a' W)
    (hdone : ∀ (D : Nat) (xs : List El) (W : World), w.heap.size ≤ D → CameAll all xs → I xs W → W.heap[D]? = some (.deferred (some [])) → Q .normal { a with defers := { target := .collected D, args := #[] } :: a.defers } W)
    (hstop : ∀ (D : Nat) (c : Code) (pre : List El) (W : World), w.heap.size ≤ D → Came all pre → Ix c pre W → W.heap[D]? = some (.deferred (some [])) → c.wpIn Fence.wide n P Q { a with defers := { target := .collected D, args := #[] } :: a.defers } W) :
    (Code.rangeFunc g ps assign body).wpIn Fence.wide n P Q a w := by
  refine wpIn_rangeFunc ?_
  intro fn hfn
  obtain ⟨rec, hrec⟩ : ∃ rec : LoopState → Option Code → Loop, rec = fun st pe => { state := st, pending := pe, fn, tmps := a.tmps, params := ps, assign, body, defers := w.heap.size } := ⟨_, rfl⟩
  obtain ⟨W1, hW1⟩ : ∃ W1, (w.alloc (.deferred (some []))).alloc (.loop (rec .ready none)) = W1 := ⟨_, rfl⟩
  have hz1 : W1.heap.size = w.heap.size + 2 := by rw [← hW1]; simp
  have hL1 : W1.heap[w.heap.size + 1]? = some (.loop (rec .ready none)) := by
    rw [← hW1]; have := World.alloc_heap_new (w.alloc (.deferred (some []))) (.loop (rec .ready none)); rwa [World.size_alloc] at this
  have hK1 : W1.heap[w.heap.size]? = some (.deferred (some [])) := by
    rw [← hW1]; exact (Below.heap_alloc _ _ _ (by simp)).trans (World.alloc_heap_new w _)
  have hbW : Below w.heap.size w W1 := by rw [← hW1]; exact ((Below.refl _ w).alloc (Nat.le_refl _) _).alloc (by simp) _
  have hI1 : I [] W1 := hI _ _ _ h0 hbW
  have hb1 : Below w0.heap.size w0 W1 := hb0.trans (hbW.mono hb0.size)
  refine ⟨w.heap.size + 1, [{ target := .collected w.heap.size, args := #[] }], W1, { target := .fn (.func gf) lb, args := #[.func (.yield (w.heap.size + 1)) #[] #[]] }, W1, gf,
    #[.func (.yield (w.heap.size + 1)) #[] #[]] ++ lb, W1, ?_, ?_, ?_, ?_, fun _ => h1, ?_⟩
  · rw [← hW1, hrec]; exact run_enterLoop_outer _ _ _ _ _
  · simp only [resolve, hg]
    simp [go_sem]
  · intro f' hf'; exact trivial
  · simp [invoke, go_sem, eg]
  · refine (hseq (w.heap.size + 1)
      (fun pre W => I pre W ∧ W.heap[w.heap.size + 1]? = some (.loop (rec .ready none)) ∧ W.heap[w.heap.size]? = some (.deferred (some [])))
      (fun pre W => ∃ c, Ix c pre W ∧ W.heap[w.heap.size + 1]? = some (.loop (rec .done (some c))) ∧ W.heap[w.heap.size]? = some (.deferred (some [])))
      W1 hb1
      (fun s A B hs hab => ⟨hI s A B hs.1 (hab.mono (by omega)), (hab.block _ (by omega)).trans hs.2.1, (hab.block _ (by omega)).trans hs.2.2⟩)
      (fun s A B hs hab => by
        obtain ⟨c, hc, hl, hk⟩ := hs
        exact ⟨c, hIx c s A B hc (hab.mono (by omega)), (hab.block _ (by omega)).trans hl, (hab.block _ (by omega)).trans hk⟩)
      ?_ ⟨hI1, hL1, hK1⟩).mono ?_
    · -- one round
      rintro pre x W hcame ⟨hi, hl, hk⟩ hsz
      have hy := run_yield (P := P) (args := x.vals) hl (by rw [hrec]; simp [El.vals, hps])
      rw [hrec] at hy
      refine ⟨fn, _, assign, body, hy, roundIn_of_wpIn hfn (hassign _ pre x W _ hcame hi (by omega) ?_)⟩
      clear hy
      intro a' Wa hka hia hax
      have hla : Wa.heap[w.heap.size + 1]? = some (.loop (rec .ready none)) := (hka.block _ (by omega) (by omega)).trans hl
      have hka2 : Wa.heap[w.heap.size]? = some (.deferred (some [])) := (hka.block _ (by omega) (by omega)).trans hk
      have hlt : w.heap.size + 1 < Wa.heap.size := (Array.getElem?_eq_some_iff.1 hla).1
      refine ⟨_, run_beginRound hla (by rw [hrec]), ?_⟩
      have hl2 : (Wa.putObj (w.heap.size + 1) (.loop { rec .ready none with state := .busy })).heap[w.heap.size + 1]? = some (.loop { rec .ready none with state := .busy }) := World.putObj_heap_same hlt
      have hk2 : (Wa.putObj (w.heap.size + 1) (.loop { rec .ready none with state := .busy })).heap[w.heap.size]? = some (.deferred (some [])) := (World.putObj_heap_other (by omega)).trans hka2
      have hsa : w.heap.size + 2 ≤ (Wa.putObj (w.heap.size + 1) (.loop { rec .ready none with state := .busy })).heap.size := by simp [World.putObj]; omega
      refine wpIn_mono (hbody _ pre x a' _ hcame (hI _ _ _ hia (below_put _ _ _ (by omega))) hsa (hAx _ _ _ _ _ hax (by omega))) ?_
      have hKW : KeepsOut n₀ W1.heap.size W (Wa.putObj (w.heap.size + 1) (.loop { rec .ready none with state := .busy })) := (hka.mono (Nat.le_refl _) (by omega)).putObj ⟨by omega, by omega⟩ _
      have fin : ∀ (jump : Option Code) (W3 : World), KeepsOut n₀ w.heap.size (Wa.putObj (w.heap.size + 1) (.loop { rec .ready none with state := .busy })) W3 →
          (Instr.endRound (w.heap.size + 1) jump).run P W3 = .ok (.bool jump.isNone) (W3.putObj (w.heap.size + 1) (.loop (rec (if jump.isNone then .ready else .done) jump))) ∧
          (W3.putObj (w.heap.size + 1) (.loop (rec (if jump.isNone then .ready else .done) jump))).heap[w.heap.size + 1]? = some (.loop (rec (if jump.isNone then .ready else .done) jump)) ∧
          (W3.putObj (w.heap.size + 1) (.loop (rec (if jump.isNone then .ready else .done) jump))).heap[w.heap.size]? = some (.deferred (some [])) := fun jump W3 hk3 => by
        have hl3 := (hk3.block _ (by omega) (by omega)).trans hl2
        have hk3' := (hk3.block _ (by omega) (by omega)).trans hk2
        have := run_endRound (P := P) jump hl3
        rw [hrec] at this ⊢
        exact ⟨this, World.putObj_heap_same (Array.getElem?_eq_some_iff.1 hl3).1, (World.putObj_heap_other (by omega)).trans hk3'⟩
      rintro e a3 W3 hp
      cases e with
      | normal =>
        obtain ⟨hk3, hi3⟩ := hp
        obtain ⟨hr, hl4, hk4⟩ := fin none W3 hk3
        exact ⟨_, _, hr, .inl ⟨rfl, ⟨hI _ _ _ hi3 (below_put _ _ _ (by omega)), hl4, hk4⟩, (hKW.trans (hk3.mono (Nat.le_refl _) (by omega))).putObj ⟨by omega, by omega⟩ _⟩⟩
      | ret =>
        obtain ⟨hk3, hi3⟩ := hp
        obtain ⟨hr, hl4, hk4⟩ := fin (some .ret) W3 hk3
        exact ⟨_, _, hr, .inr ⟨rfl, .ret, hIx _ _ _ _ hi3 (below_put _ _ _ (by omega)), hl4, hk4⟩⟩
      | exit id =>
        obtain ⟨hk3, hi3⟩ := hp
        obtain ⟨hr, hl4, hk4⟩ := fin (some (.exit id)) W3 hk3
        exact ⟨_, _, hr, .inr ⟨rfl, .exit id, hIx _ _ _ _ hi3 (below_put _ _ _ (by omega)), hl4, hk4⟩⟩
      | goto t =>
        obtain ⟨hk3, hi3⟩ := hp
        obtain ⟨hr, hl4, hk4⟩ := fin (some (.goto t)) W3 hk3
        exact ⟨_, _, hr, .inr ⟨rfl, .goto t, hIx _ _ _ _ hi3 (below_put _ _ _ (by omega)), hl4, hk4⟩⟩
      | panic ch => exact hp.elim
      | outgrown => exact hp.elim
    · -- behind the iterator
      rintro e W2 ⟨⟨v, rfl⟩, (⟨xs, hS, hi, hl, hk⟩ | ⟨pre, hSp, c, hi, hl, hk⟩)⟩
      · exact ⟨none, _, by have := run_endLoop (P := P) hl (by rw [hrec]; simp); rw [hrec] at this; exact this, hdone _ xs _ (Nat.le_refl _) hS (hI _ _ _ hi (below_put _ _ _ (by omega))) ((World.putObj_heap_other (by omega)).trans hk)⟩
      · exact ⟨some c, _, by have := run_endLoop (P := P) hl (by rw [hrec]; simp); rw [hrec] at this; exact this, hstop _ c pre _ (Nat.le_refl _) hSp (hIx c _ _ _ hi (below_put _ _ _ (by omega))) ((World.putObj_heap_other (by omega)).trans hk)⟩
end Go.Proofs.Ytggefpkfikimiaa
