/- Package term's Equal: it returns whether two terms are the same. -/
import Derived.Test.YtblebboamopffaaKp
import Derived.Test.YtblebboamopffaaNd
import Derived.Deep.AppendLies
import Derived.Deep.LoopGhost
import Derived.WalkSmall
import Derived.Lib.SmallJoins
import Derived.BigQuiet
namespace Go.Proofs.Ytblebboamopffaa
set_option linter.unusedVariables false
open Go.RowKit Go.Joins

/-- Two lists of Kids, equally long, that are still to be compared. -/
structure Cp where
  a : List Tm
  b : List Tm
  va : Value
  vb : Value
def Cp.cells (c : Cp) : List Value := [c.va, c.vb]
def cellsC (cs : List Cp) : List Value := cs.flatMap Cp.cells
def eqC (cs : List Cp) : Bool := cs.all fun c => eqL c.a c.b
def sizeC : List Cp → Nat | [] => 0 | c :: cs => sizeL c.a + sizeC cs
theorem cellsC_len (cs : List Cp) : (cellsC cs).length = cs.length * 2 := by
  induction cs with
  | nil => rfl
  | cons c cs ih => simp [cellsC, Cp.cells] at ih ⊢; omega
theorem cellsC_snoc (cs : List Cp) (c : Cp) : cellsC (cs ++ [c]) = cellsC cs ++ c.cells := by simp [cellsC]
theorem cellsC_at (cs : List Cp) (c : Cp) (j : Nat) (hj : j < 2) : (cellsC (cs ++ [c]))[cs.length * 2 + j]? = c.cells[j]? := by
  rw [cellsC_snoc, List.getElem?_append_right (by rw [cellsC_len]; omega), cellsC_len]
  congr 1; omega
theorem sizeC_append (a b : List Cp) : sizeC (a ++ b) = sizeC a + sizeC b := by
  induction a with
  | nil => simp [sizeC]
  | cons x a ih => simp [sizeC, ih]; omega
theorem eqC_append (a b : List Cp) : eqC (a ++ b) = (eqC a && eqC b) := by simp [eqC]
theorem rowC_top {W : World} {B gR cap : Nat} {e : TypeId} {cs : List Cp} {c : Cp} (h : W.ownsRow B e 2 (.slice (some ⟨gR, 0, none⟩) (cs.length + 1) cap) (cs.length + 1) (cellsC (cs ++ [c]))) :
    W.cell? ⟨gR, cs.length * 2, none⟩ = some c.va ∧ W.cell? ⟨gR, cs.length * 2 + 1, none⟩ = some c.vb ∧
      cs.length + 1 ≤ cap ∧ cap ≤ maxLen ∧ B ≤ gR ∧ gR < W.heap.size := by
  refine ⟨?_, ?_, ?_⟩
  · rw [h.cellAt _ (by omega)]; have := cellsC_at cs c 0 (by omega); simpa [Cp.cells] using this
  · rw [h.cellAt _ (by omega), cellsC_at cs c 1 (by omega)]; rfl
  · rcases h.2 with ⟨h', _⟩ | ⟨g', cap', cur, h', hb, hg, h1, h2, _⟩
    · simp at h'
    · simp only [Value.slice.injEq, Option.some.injEq, Addr.mk.injEq, and_true, true_and] at h'
      obtain ⟨rfl, rfl⟩ := h'
      exact ⟨h1, h2, hb, (Array.getElem?_eq_some_iff.1 hg).1⟩

/-- The two roots lie in blocks B and B + 1 of the call's own; all else lay in w₀. -/
def GoodC (w₀ : World) (B : Nat) (t u : Tm) (tvv uvv : Value) (W : World) : Prop :=
  Below w₀.heap.size w₀ W ∧ W.heap[B]? = some (.cells #[.int .i64 t.k, .int .i64 t.n, tvv] 24 (0, 0)) ∧ W.heap[B + 1]? = some (.cells #[.int .i64 u.k, .int .i64 u.n, uvv] 24 (0, 0))
theorem GoodC.below {w₀ W W' : World} {B : Nat} {t u : Tm} {tvv uvv : Value} (h : GoodC w₀ B t u tvv uvv W) (hn : w₀.heap.size ≤ B) (hb : Below (B + 2) W W') : GoodC w₀ B t u tvv uvv W' :=
  ⟨h.1.trans (hb.mono (by omega)), (hb.block _ (by omega)).trans h.2.1, (hb.block _ (by omega)).trans h.2.2⟩
/-- A list of Kids that can be read in every good world. -/
def Rd (w₀ : World) (B : Nat) (t u : Tm) (tvv uvv : Value) (l : List Tm) (v : Value) : Prop :=
  ∃ (b off cap : Nat) (vs : Nat → Value), v = .slice (some ⟨b, off, none⟩) l.length cap ∧ l.length ≤ cap ∧ cap ≤ maxLen ∧
    (∀ W, GoodC w₀ B t u tvv uvv W → ∀ i (h : i < l.length), W.cell? ⟨b, off + i * 3, none⟩ = some (.int .i64 l[i].k) ∧ W.cell? ⟨b, off + i * 3 + 1, none⟩ = some (.int .i64 l[i].n) ∧ W.cell? ⟨b, off + i * 3 + 2, none⟩ = some (vs i)) ∧
    (∀ i (h : i < l.length), At w₀ l[i].kids (vs i))
theorem Rd_of {w₀ : World} {B : Nat} {t u : Tm} {tvv uvv : Value} {l : List Tm} {v : Value} (hl : 0 < l.length) (hA : At w₀ l v) : Rd w₀ B t u tvv uvv l v := by
  obtain ⟨b, off, cap, vs, he, h1, h2, kk, kn, kv, ks⟩ := hA.pos hl
  have up : ∀ {W : World} {o : Nat} {x : Value}, GoodC w₀ B t u tvv uvv W → w₀.cell? ⟨b, o, none⟩ = some x → W.cell? ⟨b, o, none⟩ = some x := fun {W o x} hg hx => by
    rw [hg.1.cell (World.block_lt_of_cell? w₀ _ hx)]; exact hx
  exact ⟨b, off, cap, vs, he, h1, h2, fun W hg i hi => ⟨up hg (kk i hi), up hg (kn i hi), up hg (kv i hi)⟩, ks⟩
theorem Rd_t {w₀ : World} {B : Nat} {t u : Tm} {tvv uvv : Value} (hA : At w₀ t.kids tvv) : Rd w₀ B t u tvv uvv [t] (.slice (some ⟨B, 0, none⟩) 1 1) := by
  refine ⟨B, 0, 1, fun _ => tvv, rfl, by simp, by decide, fun W hg i hi => ?_, fun i hi => ?_⟩
  · obtain rfl : i = 0 := by simpa using hi
    refine ⟨?_, ?_, ?_⟩ <;> simp [World.cell?, hg.2.1]
  · obtain rfl : i = 0 := by simpa using hi
    exact hA
theorem Rd_u {w₀ : World} {B : Nat} {t u : Tm} {tvv uvv : Value} (hA : At w₀ u.kids uvv) : Rd w₀ B t u tvv uvv [u] (.slice (some ⟨B + 1, 0, none⟩) 1 1) := by
  refine ⟨B + 1, 0, 1, fun _ => uvv, rfl, by simp, by decide, fun W hg i hi => ?_, fun i hi => ?_⟩
  · obtain rfl : i = 0 := by simpa using hi
    refine ⟨?_, ?_, ?_⟩ <;> simp [World.cell?, hg.2.2]
  · obtain rfl : i = 0 := by simpa using hi
    exact hA
def CpOk (w₀ : World) (B : Nat) (t u : Tm) (tvv uvv : Value) (c : Cp) : Prop := 0 < c.a.length ∧ c.a.length = c.b.length ∧ Rd w₀ B t u tvv uvv c.a c.va ∧ Rd w₀ B t u tvv uvv c.b c.vb
theorem eqL_drop {a b : List Tm} {j : Nat} (ha : j < a.length) (hb : j < b.length) : eqL (a.drop j) (b.drop j) = (eqT a[j] b[j] && eqL (a.drop (j + 1)) (b.drop (j + 1))) := by
  rw [List.drop_eq_getElem_cons ha, List.drop_eq_getElem_cons hb]; rfl
theorem ownsRow_succ' {W : World} {base : Nat} {e : TypeId} {size : Nat} {v : Value} {k : Nat} {xs : List Value} (h : W.ownsRow base e size v (k + 1) xs) : ∃ g cap, v = .slice (some ⟨g, 0, none⟩) (k + 1) cap := ownsRow_form h (by omega)
theorem sizeC_mem {c : Cp} {cs : List Cp} (h : c ∈ cs) : sizeL c.a ≤ sizeC cs := by
  induction cs with
  | nil => cases h
  | cons x cs ih =>
    simp only [sizeC]
    rcases List.mem_cons.1 h with rfl | h
    · omega
    · have := ih h; omega
theorem sizeC_len {w₀ : World} {B : Nat} {t u : Tm} {tvv uvv : Value} {cs : List Cp} (h : ∀ c ∈ cs, CpOk w₀ B t u tvv uvv c) : cs.length ≤ sizeC cs := by
  induction cs with
  | nil => simp
  | cons x cs ih =>
    have h1 := (h x List.mem_cons_self).1
    have h2 := length_le_sizeL x.a
    have h3 := ih fun c hc => h c (List.mem_cons_of_mem _ hc)
    simp only [sizeC, List.length_cons]; omega

end Go.Proofs.Ytblebboamopffaa
