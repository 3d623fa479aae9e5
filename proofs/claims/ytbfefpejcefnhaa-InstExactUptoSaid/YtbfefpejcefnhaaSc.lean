/- Package shift's Count: how often a variable is in any term. No conditions but the term's size. -/
import Derived.Test.YtbfefpejcefnhaaRk
import Derived.Deep.AppendLies
import Derived.Deep.LoopGhost
import Derived.WalkSmall
import Derived.Lib.SmallJoins
namespace Go.Proofs.Ytbfefpejcefnhaa
set_option linter.unusedVariables false
open Go.RowKit Go.Joins

/-- A group of Kids that is still to be gone through. -/
structure Cg where
  k : Int
  b : Int
  l : List Tm
  v : Value
def Cg.cells (g : Cg) : List Value := [.int .i64 g.k, g.v, .int .i64 g.b]
def cellsK (gs : List Cg) : List Value := gs.flatMap Cg.cells
def cntK (n : Int) : List Cg → Nat | [] => 0 | g :: gs => countL g.l g.k (n + g.b) 0 + cntK n gs
def sizeK : List Cg → Nat | [] => 0 | g :: gs => sizeL g.l + sizeK gs
theorem cellsK_len (gs : List Cg) : (cellsK gs).length = gs.length * 3 := by
  induction gs with
  | nil => rfl
  | cons g gs ih => simp [cellsK, Cg.cells] at ih ⊢; omega
theorem cellsK_snoc (gs : List Cg) (g : Cg) : cellsK (gs ++ [g]) = cellsK gs ++ g.cells := by simp [cellsK]
theorem cellsK_at (gs : List Cg) (g : Cg) (j : Nat) (hj : j < 3) : (cellsK (gs ++ [g]))[gs.length * 3 + j]? = g.cells[j]? := by
  rw [cellsK_snoc, List.getElem?_append_right (by rw [cellsK_len]; omega), cellsK_len]
  congr 1; omega
theorem sizeK_append (a b : List Cg) : sizeK (a ++ b) = sizeK a + sizeK b := by
  induction a with
  | nil => simp [sizeK]
  | cons x a ih => simp [sizeK, ih]; omega
theorem cntK_append (n : Int) (a b : List Cg) : cntK n (a ++ b) = cntK n a + cntK n b := by
  induction a with
  | nil => simp [cntK]
  | cons x a ih => simp [cntK, ih]; omega
theorem countL_drop {l : List Tm} {j : Nat} (h : j < l.length) (k n : Int) : countL (l.drop j) k n j = countT l[j] (n + bindsI k j) + countL (l.drop (j + 1)) k n (j + 1) := by
  rw [List.drop_eq_getElem_cons h]; rfl
theorem countL_end (l : List Tm) (k n : Int) : countL (l.drop l.length) k n l.length = 0 := by simp [countL]
theorem rowK_top {W : World} {B gR cap : Nat} {e : TypeId} {gs : List Cg} {g : Cg} (h : W.ownsRow B e 3 (.slice (some ⟨gR, 0, none⟩) (gs.length + 1) cap) (gs.length + 1) (cellsK (gs ++ [g]))) :
    W.cell? ⟨gR, gs.length * 3, none⟩ = some (.int .i64 g.k) ∧ W.cell? ⟨gR, gs.length * 3 + 1, none⟩ = some g.v ∧ W.cell? ⟨gR, gs.length * 3 + 2, none⟩ = some (.int .i64 g.b) ∧
      gs.length + 1 ≤ cap ∧ cap ≤ maxLen ∧ B ≤ gR ∧ gR < W.heap.size := by
  refine ⟨?_, ?_, ?_, ?_⟩
  · rw [h.cellAt _ (by omega)]; have := cellsK_at gs g 0 (by omega); simpa [Cg.cells] using this
  · rw [h.cellAt _ (by omega), cellsK_at gs g 1 (by omega)]; rfl
  · rw [h.cellAt _ (by omega), cellsK_at gs g 2 (by omega)]; rfl
  · rcases h.2 with ⟨h', _⟩ | ⟨g', cap', cur, h', hb, hg, h1, h2, _⟩
    · simp at h'
    · simp only [Value.slice.injEq, Option.some.injEq, Addr.mk.injEq, and_true, true_and] at h'
      obtain ⟨rfl, rfl⟩ := h'
      exact ⟨h1, h2, hb, (Array.getElem?_eq_some_iff.1 hg).1⟩

/-- The root lies in block B of the call's own; all else lay in w₀. -/
def GoodG (w₀ : World) (B : Nat) (t : Tm) (tvv : Value) (W : World) : Prop :=
  Below w₀.heap.size w₀ W ∧ W.heap[B]? = some (.cells #[.int .i64 t.k, .int .i64 t.n, tvv] 24 (0, 0))
theorem GoodG.below {w₀ W W' : World} {B : Nat} {t : Tm} {tvv : Value} (h : GoodG w₀ B t tvv W) (hn : w₀.heap.size ≤ B) (hb : Below (B + 1) W W') : GoodG w₀ B t tvv W' :=
  ⟨h.1.trans (hb.mono (by omega)), (hb.block _ (by omega)).trans h.2⟩
def CgOk (w₀ : World) (B : Nat) (t : Tm) (tvv : Value) (D : Nat) (g : Cg) : Prop :=
  0 < g.l.length ∧ 0 ≤ g.b ∧ g.b + depthL g.l ≤ D ∧ ∃ (b off cap : Nat) (vs : Nat → Value), g.v = .slice (some ⟨b, off, none⟩) g.l.length cap ∧ g.l.length ≤ cap ∧ cap ≤ maxLen ∧
    (∀ W, GoodG w₀ B t tvv W → ∀ i (h : i < g.l.length), W.cell? ⟨b, off + i * 3, none⟩ = some (.int .i64 g.l[i].k) ∧ W.cell? ⟨b, off + i * 3 + 1, none⟩ = some (.int .i64 g.l[i].n) ∧ W.cell? ⟨b, off + i * 3 + 2, none⟩ = some (vs i)) ∧
    (∀ i (h : i < g.l.length), At w₀ g.l[i].kids (vs i))
theorem CgOk_of {w₀ : World} {B : Nat} {t : Tm} {tvv : Value} {D : Nat} {g : Cg} (hl : 0 < g.l.length) (h0 : 0 ≤ g.b) (h1 : g.b + depthL g.l ≤ D) (hA : At w₀ g.l g.v) : CgOk w₀ B t tvv D g := by
  obtain ⟨b, off, cap, vs, he, h3, h2, kk, kn, kv, ks⟩ := hA.pos hl
  have up : ∀ {W : World} {o : Nat} {x : Value}, GoodG w₀ B t tvv W → w₀.cell? ⟨b, o, none⟩ = some x → W.cell? ⟨b, o, none⟩ = some x := fun {W o x} hg hx => by
    rw [hg.1.cell (World.block_lt_of_cell? w₀ _ hx)]; exact hx
  exact ⟨hl, h0, h1, b, off, cap, vs, he, h3, h2, fun W hg i hi => ⟨up hg (kk i hi), up hg (kn i hi), up hg (kv i hi)⟩, ks⟩
theorem CgOk_root {w₀ : World} {B : Nat} {t : Tm} {tvv : Value} (hA : At w₀ t.kids tvv) : CgOk w₀ B t tvv (depth t) ⟨0, 0, [t], .slice (some ⟨B, 0, none⟩) 1 1⟩ := by
  refine ⟨by simp, Int.le_refl _, by simp [depthL], B, 0, 1, fun _ => tvv, rfl, by simp, by decide, fun W hg i hi => ?_, fun i hi => ?_⟩
  · obtain rfl : i = 0 := by simpa using hi
    refine ⟨?_, ?_, ?_⟩ <;> simp [World.cell?, hg.2]
  · obtain rfl : i = 0 := by simpa using hi
    exact hA
theorem sizeK_len {w₀ : World} {B : Nat} {t : Tm} {tvv : Value} {D : Nat} {gs : List Cg} (h : ∀ g ∈ gs, CgOk w₀ B t tvv D g) : gs.length ≤ sizeK gs := by
  induction gs with
  | nil => simp
  | cons x gs ih =>
    have h1 := (h x List.mem_cons_self).1
    have h2 := length_le_sizeL x.l
    have h3 := ih fun g hg => h g (List.mem_cons_of_mem _ hg)
    simp only [sizeK, List.length_cons]; omega
/-- Where the loop stands: what is found, what waits. -/
def CInv (w₀ : World) (B : Nat) (t : Tm) (tvv : Value) (n : Int) (m : Nat) (fv v : Value) (wr : World) : Prop :=
  ∃ (gs : List Cg) (f : Nat), fv = .int .i64 (f : Int) ∧ wr.ownsRow (B + 1) 73 3 v gs.length (cellsK gs) ∧ (∀ g ∈ gs, CgOk w₀ B t tvv (depth t) g) ∧ f + cntK n gs = countT t n ∧ sizeK gs ≤ m ∧ sizeK gs ≤ size t ∧ GoodG w₀ B t tvv wr ∧ B + 1 ≤ wr.heap.size
def CIn (w₀ : World) (B : Nat) (t : Tm) (tvv : Value) (n : Int) (gs : List Cg) (g : Cg) (Bg : Nat) (fv v i : Value) (wr : World) : Prop :=
  ∃ (j f : Nat) (gx : List Cg), j ≤ g.l.length ∧ i = .int .i64 j ∧ fv = .int .i64 (f : Int) ∧ wr.ownsRow (B + 1) 73 3 v (gs ++ gx).length (cellsK (gs ++ gx)) ∧ (∀ x ∈ gx, CgOk w₀ B t tvv (depth t) x) ∧
    f + (countL (g.l.drop j) g.k (n + g.b) j + cntK n (gs ++ gx)) = countT t n ∧ sizeK gx + j ≤ sizeL (g.l.take j) ∧ GoodG w₀ B t tvv wr ∧
    wr.heap[Bg]? = some (.cells #[.int .i64 g.k, g.v, .int .i64 g.b] 73 (0, 0)) ∧ v.ownBlock ≠ some Bg ∧ B + 1 ≤ Bg
theorem Try.infoK : (Try.prog.info? 73).map (fun i => (i.zero, i.size, i.bytes)) = some (some (.agg #[.int .i64 0, .slice none 0 0, .int .i64 0]), 3, 40) := by kernel_rfl

theorem lies_any (t : Tm) (b n : Int) (hb : -1099511627776 ≤ n + b) (hb2 : n + b ≤ 1099511627776) (w : World) (v : Value) :
    Calls Try.prog 55 #[.agg #[.int .i64 t.k, .int .i64 t.n, v], .int .i64 b, .int .i64 n] w fun e w' => e = .returned (.bool (decide (t.k = 1 ∧ t.n = n + b))) ∧ Below w.heap.size w w' := by
  have hw : IntKind.i64.wrap (n + b) = n + b := IntWalk.i64_in _ (by omega)
  have hbl := below_al w (.cells #[.int .i64 t.k, .int .i64 t.n, v] 24)
  by_cases hk : t.k = 1
  · have e1 : (t.k == 1) = true := by simpa using hk
    have HE := Lib.hid (show decide (t.k = 1 ∧ t.n = n + b) = (t.n == n + b) by rw [Bool.eq_iff_iff, decide_eq_true_eq, beq_iff_eq]; exact ⟨fun h => h.2, fun h => ⟨hk, h⟩⟩)
    clear hk
    go_enter Try.func55, Try.ntmps55
    go_wp2_with fail
    go_ret
    exact ⟨ret_bool HE.out.symm, hbl⟩
  · have e1 : (t.k == 1) = false := by simpa using hk
    have HE := Lib.hid (show decide (t.k = 1 ∧ t.n = n + b) = false by rw [decide_eq_false_iff_not]; exact fun h => hk h.1)
    clear hk
    go_enter Try.func55, Try.ntmps55
    go_wp2_with fail
    go_ret
    exact ⟨ret_bool HE.out.symm, hbl⟩
end Go.Proofs.Ytbfefpejcefnhaa
