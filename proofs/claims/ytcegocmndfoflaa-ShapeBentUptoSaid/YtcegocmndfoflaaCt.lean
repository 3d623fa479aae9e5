/- The contracts of package term and of the page, in the form in which the laws' walks meet them. No conditions but those on sizes. -/
import Derived.Test.YtcegocmndfoflaaTx
import Derived.Test.YtcegocmndfoflaaWk
import Derived.Test.YtcegocmndfoflaaRr
import Derived.BigQuiet
namespace Go.Proofs.Ytcegocmndfoflaa
set_option linter.unusedVariables false
open Go.RowKit

/-- Two boxed terms, and that the world has only grown. -/
def Two (w0 : World) (B1 B2 : Nat) (t u : Tm) (v v2 : Value) (W : World) : Prop :=
  (W.cell? ⟨B1, 0, none⟩ = some (.int .i64 t.k) ∧ W.cell? ⟨B1, 1, none⟩ = some (.int .i64 t.n) ∧ W.cell? ⟨B1, 2, none⟩ = some v) ∧
  (W.cell? ⟨B2, 0, none⟩ = some (.int .i64 u.k) ∧ W.cell? ⟨B2, 1, none⟩ = some (.int .i64 u.n) ∧ W.cell? ⟨B2, 2, none⟩ = some v2) ∧ At W t.kids v ∧ At W u.kids v2 ∧ Below w0.heap.size w0 W
theorem Two.bel {w0 W W' : World} {B1 B2 : Nat} {t u : Tm} {v v2 : Value} (h : Two w0 B1 B2 t u v v2 W) (hb : Below W.heap.size W W') : Two w0 B1 B2 t u v v2 W' := by
  obtain ⟨⟨a1, a2, a3⟩, ⟨b1, b2, b3⟩, h1, h2, h3⟩ := h
  exact ⟨⟨gcell hb a1, gcell hb a2, gcell hb a3⟩, ⟨gcell hb b1, gcell hb b2, gcell hb b3⟩, h1.bel hb (Nat.le_refl _), h2.bel hb (Nat.le_refl _), h3.trans (hb.mono h3.size)⟩
theorem two_start (w : World) (t u : Tm) (v v2 : Value) (hA : At w t.kids v) (hB : At w u.kids v2) :
    Two w w.heap.size (w.heap.size + 1) t u v v2 ((w.alloc (.cells #[.int .i64 t.k, .int .i64 t.n, v] 42)).alloc (.cells #[.int .i64 u.k, .int .i64 u.n, v2] 42)) := by
  have h1 := (box3_new w t v 42).bel (below_al _ (.cells #[.int .i64 u.k, .int .i64 u.n, v2] 42))
  have h2 := box3_new (w.alloc (.cells #[.int .i64 t.k, .int .i64 t.n, v] 42)) u v2 42
  rw [World.size_alloc] at h2
  exact ⟨h1.2, h2.2, (hA.alloc _).alloc _, (hB.alloc _).alloc _, ((Below.refl _ w).alloc (Nat.le_refl _) _).alloc (by simp) _⟩
/-- One boxed term. -/
def One (w0 : World) (B1 : Nat) (t : Tm) (v : Value) (W : World) : Prop :=
  (W.cell? ⟨B1, 0, none⟩ = some (.int .i64 t.k) ∧ W.cell? ⟨B1, 1, none⟩ = some (.int .i64 t.n) ∧ W.cell? ⟨B1, 2, none⟩ = some v) ∧ At W t.kids v ∧ Below w0.heap.size w0 W
theorem One.bel {w0 W W' : World} {B1 : Nat} {t : Tm} {v : Value} (h : One w0 B1 t v W) (hb : Below W.heap.size W W') : One w0 B1 t v W' := by
  obtain ⟨⟨a1, a2, a3⟩, h1, h3⟩ := h
  exact ⟨⟨gcell hb a1, gcell hb a2, gcell hb a3⟩, h1.bel hb (Nat.le_refl _), h3.trans (hb.mono h3.size)⟩
theorem one_start (w : World) (t : Tm) (v : Value) (hA : At w t.kids v) : One w w.heap.size t v (w.alloc (.cells #[.int .i64 t.k, .int .i64 t.n, v] 42)) :=
  ⟨(box3_new w t v 42).2, hA.alloc _, below_al w _⟩
theorem eqT_comm (a b : Tm) : eqT a b = eqT b a := by
  rw [Bool.eq_iff_iff, eqT_iff, eqT_iff]; exact eq_comm
theorem eqT_self (a : Tm) : eqT a a = true := (eqT_iff a a).2 rfl
theorem eqT_ne {a b : Tm} (h : a ≠ b) : eqT a b = false := by rw [Bool.eq_false_iff]; intro hh; exact h ((eqT_iff a b).1 hh)

/-- A value that is a term's twin, or any term's. -/
def TwinV (t : Tm) (v : Value) (w : World) : Prop := ∃ a cap, v = .agg #[.int .i64 t.k, .int .i64 t.n, .slice a t.kids.length cap] ∧ At w t.kids (.slice a t.kids.length cap)
theorem TwinV.mono (t : Tm) : ∀ v w w', Grw w w' → TwinV t v w → TwinV t v w' := fun v w w' hg ⟨a, c, h1, h2⟩ => ⟨a, c, h1, h2.bel hg (Nat.le_refl _)⟩
theorem c_twinV (t : Tm) (hs : size t ≤ 1048576) (W : World) (v : Value) (hA : At W t.kids v) :
    Calls Try.prog 32 #[.agg #[.int .i64 t.k, .int .i64 t.n, v]] W fun e w' => ∃ v', e = .returned v' ∧ Grw W w' ∧ TwinV t v' w' :=
  (twin_any t (by omega) W v hA).mono fun e w3 ⟨a3, c3, he, hs3, _, hb3⟩ => ⟨_, he, hb3, a3, c3, rfl, hs3.at⟩
theorem c_twin (t : Tm) (hs : size t ≤ 1048576) (W : World) (v : Value) (hA : At W t.kids v) :
    Calls Try.prog 32 #[.agg #[.int .i64 t.k, .int .i64 t.n, v]] W (TwinPost W t) := twin_any t (by omega) W v hA
theorem c_equal (x y : Tm) (h1 : size x ≤ 1048576) (h2 : size y ≤ 1048576) (W : World) (vx vy : Value) (hx : At W x.kids vx) (hy : At W y.kids vy) :
    Calls Try.prog 75 #[.agg #[.int .i64 x.k, .int .i64 x.n, vx], .agg #[.int .i64 y.k, .int .i64 y.n, vy]] W fun e w' => e = .returned (.bool (eqT x y)) ∧ Below W.heap.size W w' := equal_any x y (by omega) (by omega) W vx vy hx hy
theorem c_keep (x y : Tm) (h1 : size x ≤ 1048576) (h2 : size y ≤ 1048576) (W : World) (vx vy : Value) (hx : At W x.kids vx) (hy : At W y.kids vy) :
    Calls Try.prog 49 #[.agg #[.int .i64 x.k, .int .i64 x.n, vx], .agg #[.int .i64 y.k, .int .i64 y.n, vy]] W fun e w' => e = .returned (.bool (eqT x y)) ∧ Below W.heap.size W w' := kterm_any x y (by omega) (by omega) W vx vy hx hy
theorem c_check (t : Tm) (hF : Fits t) (hs : size t ≤ 1048576) (W : World) (v : Value) (hA : At W t.kids v) :
    Calls Try.prog 76 #[.agg #[.int .i64 t.k, .int .i64 t.n, v]] W fun e w' => e = .returned (.int .i64 (checkE t)) ∧ Below W.heap.size W w' := tcheck_any t v W hF (by omega) hA
theorem c_scope (t : Tm) (hF : Fits t) (hs : size t ≤ 1048576) (a b : Int) (W : World) (v : Value) (hA : At W t.kids v) :
    Calls Try.prog 74 #[.agg #[.int .i64 t.k, .int .i64 t.n, v], .int .i64 a, .int .i64 b] W fun e w' => e = .returned (.bool (scopeT t a b)) ∧ Below W.heap.size W w' := tscope_any t v W a b hF (by omega) hA
theorem c_rsize (t : Tm) (hs : size t ≤ 1048576) (W : World) (v : Value) (hA : At W t.kids v) :
    Calls Try.prog 53 #[.agg #[.int .i64 t.k, .int .i64 t.n, v]] W fun e w' => e = .returned (.int .i64 (size t)) ∧ Below W.heap.size W w' := rsize_any t (by omega) W v hA
theorem c_rdepth (t : Tm) (hs : size t ≤ 1048576) (W : World) (v : Value) (hA : At W t.kids v) :
    Calls Try.prog 52 #[.agg #[.int .i64 t.k, .int .i64 t.n, v]] W fun e w' => e = .returned (.int .i64 (depth t)) ∧ Below W.heap.size W w' := rdepth_any t (by omega) W v hA

/-- The heavy test of one term, of two: the world behind it. -/
theorem heavy1 (t : Tm) (hs : size t ≤ 1048576) (w : World) (v : Value) (hA : At w t.kids v) :
    Calls Try.prog 30 #[.slice (some ⟨w.heap.size + 1, 0, none⟩) 1 1] ((w.alloc (.cells #[.int .i64 t.k, .int .i64 t.n, v] 42)).alloc (.cells #[.int .i64 t.k, .int .i64 t.n, v] 42)) fun e w' => e = .returned (.bool (heavyB [t])) ∧ One w w.heap.size t v w' := by
  have hT0 := one_start w t v hA
  have HH := heavy_any [t] (by simp [sizeL]; omega) _ _ (ats_cells1 hT0.2.1.toS fun _ h => h).at
  simp only [World.size_alloc] at HH
  have hb6 := below_al (w.alloc (.cells #[.int .i64 t.k, .int .i64 t.n, v] 42)) (.cells #[.int .i64 t.k, .int .i64 t.n, v] 42)
  exact HH.mono fun e w' ⟨he, hb⟩ => ⟨he, hT0.bel (hb6.trans (hb.mono (by simp)))⟩
theorem heavy2 (t u : Tm) (hs : size t ≤ 1048576) (hs2 : size u ≤ 1048576) (w : World) (v v2 : Value) (hA : At w t.kids v) (hM : At w u.kids v2) :
    Calls Try.prog 30 #[.slice (some ⟨w.heap.size + 1 + 1, 0, none⟩) 2 2] (((w.alloc (.cells #[.int .i64 t.k, .int .i64 t.n, v] 42)).alloc (.cells #[.int .i64 u.k, .int .i64 u.n, v2] 42)).alloc (.cells #[.int .i64 t.k, .int .i64 t.n, v, .int .i64 u.k, .int .i64 u.n, v2] 42)) fun e w' => e = .returned (.bool (heavyB [t, u])) ∧ Two w w.heap.size (w.heap.size + 1) t u v v2 w' := by
  have hT0 := two_start w t u v v2 hA hM
  have HH := heavy_any [t, u] (by simp [sizeL]; omega) _ _ (ats_cells2 hT0.2.2.1.toS hT0.2.2.2.1.toS fun _ h => h).at
  have hb6 := below_al ((w.alloc (.cells #[.int .i64 t.k, .int .i64 t.n, v] 42)).alloc (.cells #[.int .i64 u.k, .int .i64 u.n, v2] 42)) (.cells #[.int .i64 t.k, .int .i64 t.n, v, .int .i64 u.k, .int .i64 u.n, v2] 42)
  simp only [World.size_alloc] at HH
  exact HH.mono fun e w' ⟨he, hb⟩ => ⟨he, hT0.bel (hb6.trans (hb.mono (by simp)))⟩
theorem boxc {W : World} {B : Nat} {ty : TypeId} {x y z : Value} (h : W.heap[B]? = some (.cells #[x, y, z] ty (0, 0))) :
    (W.cell? ⟨B, 0, none⟩ = some x ∧ W.cell? ⟨B, 1, none⟩ = some y ∧ W.cell? ⟨B, 2, none⟩ = some z) ∧ (W.frozen? ⟨B, 0, none⟩ = false ∧ W.frozen? ⟨B, 1, none⟩ = false ∧ W.frozen? ⟨B, 2, none⟩ = false) := by
  refine ⟨⟨?_, ?_, ?_⟩, ?_, ?_, ?_⟩
  · simp [World.cell?, h]
  · simp [World.cell?, h]
  · simp [World.cell?, h]
  · simp [World.frozen?, h]
  · simp [World.frozen?, h]
  · simp [World.frozen?, h]
/-- A term is stored into a box of its own: the box behind the stores, and what lay before. -/
theorem boxed_term {w w1 w2 : World} {s : Nat} {k n : Int} {l : List Tm} {v : Value} {ty : TypeId} {x y z : Value} (hw : Below w.heap.size w w1) (hbx : w2.heap[s]? = some (.cells #[x, y, z] ty (0, 0))) (hg : Grw w1 w2) (hs : w1.heap.size ≤ s) (hA : AtS (fun b => b ≠ s) w2 l v) :
    One w s (.node k n l) v (((w2.setCell ⟨s, 0, none⟩ (.int .i64 k)).setCell ⟨s, 1, none⟩ (.int .i64 n)).setCell ⟨s, 2, none⟩ v) ∧ Below w1.heap.size w1 (((w2.setCell ⟨s, 0, none⟩ (.int .i64 k)).setCell ⟨s, 1, none⟩ (.int .i64 n)).setCell ⟨s, 2, none⟩ v) := by
  have hB : Below w1.heap.size w1 (((w2.setCell ⟨s, 0, none⟩ (.int .i64 k)).setCell ⟨s, 1, none⟩ (.int .i64 n)).setCell ⟨s, 2, none⟩ v) := hg.trans (below_store3 hs _ _ _)
  exact ⟨⟨(boxc (box_store3 hbx _ _ _)).1, (hA.same (T := fun _ => True) fun b hb => ⟨trivial, other_store3 hb _ _ _⟩).at, hw.trans (hB.mono hw.size)⟩, hB⟩
end Go.Proofs.Ytcegocmndfoflaa
