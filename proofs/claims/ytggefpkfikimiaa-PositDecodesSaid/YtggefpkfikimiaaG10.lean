/- The contracts of package term and of the page, in the form in which the laws' walks meet them. No conditions but those on sizes. -/
import Derived.Test.YtggefpkfikimiaaG07
import Derived.Test.YtggefpkfikimiaaG08
import Derived.Test.YtggefpkfikimiaaG09
import Derived.BigQuiet
import Derived.Test.YtggefpkfikimiaaG05
import Derived.Test.YtggefpkfikimiaaG06
import Derived.IntWalk
import Derived.Test.YtggefpkfikimiaaG01
import Derived.Maps.Views
import Derived.Lib.SlKeysI
namespace Go.Proofs.Ytggefpkfikimiaa
set_option linter.unusedVariables false
open Go.RowKit

/-- Two boxed terms, and that the world has only grown. -/
def Two (w0 : World) (B1 B2 : Nat) (t u : Tm) (v v2 : Value) (W : World) : Prop :=
  (W.cell? ⟨B1, 0, none⟩ = some (.int .i64 t.k) ∧ W.cell? ⟨B1, 1, none⟩ = some (.int .i64 t.n) ∧ W.cell? ⟨B1, 2, none⟩ = some v) ∧
  (W.cell? ⟨B2, 0, none⟩ = some (.int .i64 u.k) ∧ W.cell? ⟨B2, 1, none⟩ = some (.int .i64 u.n) ∧ W.cell? ⟨B2, 2, none⟩ = some v2) ∧ At W t.kids v ∧ At W u.kids v2 ∧ Below w0.heap.size w0 W
theorem Two.bel {w0 W W' : World} {B1 B2 : Nat} {t u : Tm} {v v2 : Value} (h : Two w0 B1 B2 t u v v2 W) (hb : Below W.heap.size W W') : Two w0 B1 B2 t u v v2 W' := by
  obtain ⟨⟨a1, a2, a3⟩, ⟨b1, b2, b3⟩, h1, h2, h3⟩ := h
  exact ⟨⟨gcell hb a1, gcell hb a2, gcell hb a3⟩, ⟨gcell hb b1, gcell hb b2, gcell hb b3⟩, h1.bel hb (Nat.le_refl _), h2.bel hb (Nat.le_refl _), h3.trans (hb.mono h3.size)⟩
theorem two_start (w : World) (t u : Tm) (v v2 : Value) (hA : At w t.kids v) (hB : At w u.kids v2) :
    Two w w.heap.size (w.heap.size + 1) t u v v2 ((w.alloc (.cells #[.int .i64 t.k, .int .i64 t.n, v] 25)).alloc (.cells #[.int .i64 u.k, .int .i64 u.n, v2] 25)) := by
  have h1 := (box3_new w t v 25).bel (below_al _ (.cells #[.int .i64 u.k, .int .i64 u.n, v2] 25))
  have h2 := box3_new (w.alloc (.cells #[.int .i64 t.k, .int .i64 t.n, v] 25)) u v2 25
  rw [World.size_alloc] at h2
  exact ⟨h1.2, h2.2, (hA.alloc _).alloc _, (hB.alloc _).alloc _, ((Below.refl _ w).alloc (Nat.le_refl _) _).alloc (by simp) _⟩
/-- One boxed term. -/
def One (w0 : World) (B1 : Nat) (t : Tm) (v : Value) (W : World) : Prop :=
  (W.cell? ⟨B1, 0, none⟩ = some (.int .i64 t.k) ∧ W.cell? ⟨B1, 1, none⟩ = some (.int .i64 t.n) ∧ W.cell? ⟨B1, 2, none⟩ = some v) ∧ At W t.kids v ∧ Below w0.heap.size w0 W
theorem One.bel {w0 W W' : World} {B1 : Nat} {t : Tm} {v : Value} (h : One w0 B1 t v W) (hb : Below W.heap.size W W') : One w0 B1 t v W' := by
  obtain ⟨⟨a1, a2, a3⟩, h1, h3⟩ := h
  exact ⟨⟨gcell hb a1, gcell hb a2, gcell hb a3⟩, h1.bel hb (Nat.le_refl _), h3.trans (hb.mono h3.size)⟩
theorem one_start (w : World) (t : Tm) (v : Value) (hA : At w t.kids v) : One w w.heap.size t v (w.alloc (.cells #[.int .i64 t.k, .int .i64 t.n, v] 25)) :=
  ⟨(box3_new w t v 25).2, hA.alloc _, below_al w _⟩
theorem eqT_comm (a b : Tm) : eqT a b = eqT b a := by
  rw [Bool.eq_iff_iff, eqT_iff, eqT_iff]; exact eq_comm
theorem eqT_self (a : Tm) : eqT a a = true := (eqT_iff a a).2 rfl
theorem eqT_ne {a b : Tm} (h : a ≠ b) : eqT a b = false := by rw [Bool.eq_false_iff]; intro hh; exact h ((eqT_iff a b).1 hh)

/-- A value that is a term's twin, or any term's. -/
def TwinV (t : Tm) (v : Value) (w : World) : Prop := ∃ a cap, v = .agg #[.int .i64 t.k, .int .i64 t.n, .slice a t.kids.length cap] ∧ At w t.kids (.slice a t.kids.length cap)
theorem TwinV.mono (t : Tm) : ∀ v w w', Grw w w' → TwinV t v w → TwinV t v w' := fun v w w' hg ⟨a, c, h1, h2⟩ => ⟨a, c, h1, h2.bel hg (Nat.le_refl _)⟩
theorem c_twinV (t : Tm) (hs : size t ≤ 1048576) (W : World) (v : Value) (hA : At W t.kids v) :
    Calls Try.prog 38 #[.agg #[.int .i64 t.k, .int .i64 t.n, v]] W fun e w' => ∃ v', e = .returned v' ∧ Grw W w' ∧ TwinV t v' w' :=
  (twin_any t (by omega) W v hA).mono fun e w3 ⟨a3, c3, he, hs3, _, hb3⟩ => ⟨_, he, hb3, a3, c3, rfl, hs3.at⟩
theorem c_twin (t : Tm) (hs : size t ≤ 1048576) (W : World) (v : Value) (hA : At W t.kids v) :
    Calls Try.prog 38 #[.agg #[.int .i64 t.k, .int .i64 t.n, v]] W (TwinPost W t) := twin_any t (by omega) W v hA
theorem c_equal (x y : Tm) (h1 : size x ≤ 1048576) (h2 : size y ≤ 1048576) (W : World) (vx vy : Value) (hx : At W x.kids vx) (hy : At W y.kids vy) :
    Calls Try.prog 97 #[.agg #[.int .i64 x.k, .int .i64 x.n, vx], .agg #[.int .i64 y.k, .int .i64 y.n, vy]] W fun e w' => e = .returned (.bool (eqT x y)) ∧ Below W.heap.size W w' := equal_any x y (by omega) (by omega) W vx vy hx hy
theorem c_check (t : Tm) (hF : Fits t) (hs : size t ≤ 1048576) (W : World) (v : Value) (hA : At W t.kids v) :
    Calls Try.prog 104 #[.agg #[.int .i64 t.k, .int .i64 t.n, v]] W fun e w' => e = .returned (.int .i64 (checkE t)) ∧ Below W.heap.size W w' := tcheck_any t v W hF (by omega) hA
theorem c_scope (t : Tm) (hF : Fits t) (hs : size t ≤ 1048576) (a b : Int) (W : World) (v : Value) (hA : At W t.kids v) :
    Calls Try.prog 96 #[.agg #[.int .i64 t.k, .int .i64 t.n, v], .int .i64 a, .int .i64 b] W fun e w' => e = .returned (.bool (scopeT t a b)) ∧ Below W.heap.size W w' := tscope_any t v W a b hF (by omega) hA
theorem c_rsize (t : Tm) (hs : size t ≤ 1048576) (W : World) (v : Value) (hA : At W t.kids v) :
    Calls Try.prog 58 #[.agg #[.int .i64 t.k, .int .i64 t.n, v]] W fun e w' => e = .returned (.int .i64 (size t)) ∧ Below W.heap.size W w' := rsize_any t (by omega) W v hA
theorem c_rdepth (t : Tm) (hs : size t ≤ 1048576) (W : World) (v : Value) (hA : At W t.kids v) :
    Calls Try.prog 57 #[.agg #[.int .i64 t.k, .int .i64 t.n, v]] W fun e w' => e = .returned (.int .i64 (depth t)) ∧ Below W.heap.size W w' := rdepth_any t (by omega) W v hA

/-- The heavy test of one term, of two: the world behind it. -/
theorem heavy1 (t : Tm) (hs : size t ≤ 1048576) (w : World) (v : Value) (hA : At w t.kids v) :
    Calls Try.prog 29 #[.slice (some ⟨w.heap.size + 1, 0, none⟩) 1 1] ((w.alloc (.cells #[.int .i64 t.k, .int .i64 t.n, v] 25)).alloc (.cells #[.int .i64 t.k, .int .i64 t.n, v] 25)) fun e w' => e = .returned (.bool (heavyB [t])) ∧ One w w.heap.size t v w' := by
  have hT0 := one_start w t v hA
  have HH := heavy_any [t] (by simp [sizeL]; omega) _ _ (ats_cells1 hT0.2.1.toS fun _ h => h).at
  simp only [World.size_alloc] at HH
  have hb6 := below_al (w.alloc (.cells #[.int .i64 t.k, .int .i64 t.n, v] 25)) (.cells #[.int .i64 t.k, .int .i64 t.n, v] 25)
  exact HH.mono fun e w' ⟨he, hb⟩ => ⟨he, hT0.bel (hb6.trans (hb.mono (by simp)))⟩
theorem heavy2 (t u : Tm) (hs : size t ≤ 1048576) (hs2 : size u ≤ 1048576) (w : World) (v v2 : Value) (hA : At w t.kids v) (hM : At w u.kids v2) :
    Calls Try.prog 29 #[.slice (some ⟨w.heap.size + 1 + 1, 0, none⟩) 2 2] (((w.alloc (.cells #[.int .i64 t.k, .int .i64 t.n, v] 25)).alloc (.cells #[.int .i64 u.k, .int .i64 u.n, v2] 25)).alloc (.cells #[.int .i64 t.k, .int .i64 t.n, v, .int .i64 u.k, .int .i64 u.n, v2] 25)) fun e w' => e = .returned (.bool (heavyB [t, u])) ∧ Two w w.heap.size (w.heap.size + 1) t u v v2 w' := by
  have hT0 := two_start w t u v v2 hA hM
  have HH := heavy_any [t, u] (by simp [sizeL]; omega) _ _ (ats_cells2 hT0.2.2.1.toS hT0.2.2.2.1.toS fun _ h => h).at
  have hb6 := below_al ((w.alloc (.cells #[.int .i64 t.k, .int .i64 t.n, v] 25)).alloc (.cells #[.int .i64 u.k, .int .i64 u.n, v2] 25)) (.cells #[.int .i64 t.k, .int .i64 t.n, v, .int .i64 u.k, .int .i64 u.n, v2] 25)
  simp only [World.size_alloc] at HH
  exact HH.mono fun e w' ⟨he, hb⟩ => ⟨he, hT0.bel (hb6.trans (hb.mono (by simp)))⟩
theorem boxc {W : World} {B : Nat} {ty : TypeId} {x y z : Value} (h : W.heap[B]? = some (.cells #[x, y, z] ty (0, 0))) :
    (W.cell? ⟨B, 0, none⟩ = some x ∧ W.cell? ⟨B, 1, none⟩ = some y ∧ W.cell? ⟨B, 2, none⟩ = some z) ∧ (W.frozen? ⟨B, 0, none⟩ = false ∧ W.frozen? ⟨B, 1, none⟩ = false ∧ W.frozen? ⟨B, 2, none⟩ = false) := by
  refine ⟨⟨?_, ?_, ?_⟩, ?_, ?_, ?_⟩
  · simp [World.cell?, h]
  · simp [World.cell?, h]
  · simp [World.cell?, h]
  · simp [World.frozen?, h]
  · simp [World.frozen?, h]
  · simp [World.frozen?, h]
/-- A term is stored into a box of its own: the box behind the stores, and what lay before. -/
theorem boxed_term {w w1 w2 : World} {s : Nat} {k n : Int} {l : List Tm} {v : Value} {ty : TypeId} {x y z : Value} (hw : Below w.heap.size w w1) (hbx : w2.heap[s]? = some (.cells #[x, y, z] ty (0, 0))) (hg : Grw w1 w2) (hs : w1.heap.size ≤ s) (hA : AtS (fun b => b ≠ s) w2 l v) :
    One w s (.node k n l) v (((w2.setCell ⟨s, 0, none⟩ (.int .i64 k)).setCell ⟨s, 1, none⟩ (.int .i64 n)).setCell ⟨s, 2, none⟩ v) ∧ Below w1.heap.size w1 (((w2.setCell ⟨s, 0, none⟩ (.int .i64 k)).setCell ⟨s, 1, none⟩ (.int .i64 n)).setCell ⟨s, 2, none⟩ v) := by
  have hB : Below w1.heap.size w1 (((w2.setCell ⟨s, 0, none⟩ (.int .i64 k)).setCell ⟨s, 1, none⟩ (.int .i64 n)).setCell ⟨s, 2, none⟩ v) := hg.trans (below_store3 hs _ _ _)
  exact ⟨⟨(boxc (box_store3 hbx _ _ _)).1, (hA.same (T := fun _ => True) fun b hb => ⟨trivial, other_store3 hb _ _ _⟩).at, hw.trans (hB.mono hw.size)⟩, hB⟩
end Go.Proofs.Ytggefpkfikimiaa
/- Package shift: within; the functions that Shift and Lower hand to renumber; what renumber tells, as mathematics. No conditions but bounds on integers. -/
namespace Go.Proofs.Ytggefpkfikimiaa
open Go.RowKit
set_option linter.unusedVariables false

theorem below_drewN (B : Nat) (w : World) (n : Nat) : Below B w (w.drewN n) := ⟨rfl, rfl, rfl, Nat.le_refl _, fun _ _ => rfl⟩
mutual
/-- Is a number found for each Var? -/
def okT (p : Int → Int → Bool) : Tm → Int → Bool | .node k n l, b => if k = 1 then p b n else okL p l k b 0
def okL (p : Int → Int → Bool) : List Tm → Int → Int → Nat → Bool | [], _, _, _ => true | t :: l, k, b, i => okT p t (b + bindsI k i) && okL p l k b (i + 1)
end
theorem okT_eq (p : Int → Int → Bool) (t : Tm) (b : Int) : okT p t b = if t.k = 1 then p b t.n else okL p t.kids t.k b 0 := by cases t; rfl
theorem okL_drop (p : Int → Int → Bool) {l : List Tm} {j : Nat} (h : j < l.length) (k b : Int) : okL p (l.drop j) k b j = (okT p l[j] (b + bindsI k j) && okL p (l.drop (j + 1)) k b (j + 1)) := by
  rw [List.drop_eq_getElem_cons h]; rfl
theorem okL_end (p : Int → Int → Bool) (l : List Tm) (k b : Int) : okL p (l.drop l.length) k b l.length = true := by simp [okL]

def shiftP (b f : Int) : Int → Int → Bool := fun d n => if n - d < f then true else decide (inR (n + b))
def shiftG (b f : Int) : Int → Int → Int := fun d n => if n - d < f then n else n + b
def lowerP (m : Int) : Int → Int → Bool := fun d n => decide (n - d ≠ m)
def lowerG (m : Int) : Int → Int → Int := fun d n => if m < n - d then n - 1 else n
theorem mapT_at (g : Int → Int → Int) (c : Int) (t : Tm) (d : Int) : mapT g t (d + c) = mapT (fun d n => g (d + c) n) t d := by
  have := mapT_comp g (fun _ n => n) c t d
  rw [mapT_id _ (fun _ _ => rfl)] at this
  exact this
theorem shiftG_map (b f : Int) (t : Tm) : mapT (shiftG b f) t 0 = moveT t b f := by
  unfold moveT
  have := mapT_at (mv b) f t 0
  rw [Int.zero_add] at this
  rw [this]
  refine mapT_ext (fun d n => ?_) t 0
  unfold shiftG mv
  by_cases h : n - d < f
  · rw [if_pos h, if_neg (by omega)]
  · rw [if_neg h, if_pos (by omega)]
theorem lowerG_map (m : Int) (t : Tm) : mapT (lowerG m) t 0 = lessT t m := by
  unfold lessT
  have := mapT_at ls m t 0
  rw [Int.zero_add] at this
  rw [this]
  refine mapT_ext (fun d n => ?_) t 0
  unfold lowerG ls
  by_cases h : m < n - d
  · rw [if_pos h, if_pos (by omega)]
  · rw [if_neg h, if_neg (by omega)]
mutual
theorem shiftP_ok {b f : Int} (hb : 0 ≤ b) : ∀ (t : Tm) (d : Int), formedB t = true → okT (shiftP b f) t d = !overB (mapT (shiftG b f) t d)
  | .node k n l, d, h => by
    have hz : overB (.node k n l) = false := over_formed _ h
    rw [overB, Bool.or_eq_false_iff] at hz
    rw [formedB, Bool.and_eq_true, Bool.and_eq_true, decide_eq_true_eq] at h
    obtain ⟨⟨a1, a2⟩, a3⟩ := h
    rw [okT, mapT, overB]
    by_cases h1 : k = 1
    · have h0 : l = [] := List.eq_nil_of_length_eq_zero (by rw [h1] at a1; have : kidsI 1 = 0 := by decide
                                                            omega)
      rw [if_pos h1, if_pos h1, h0, mapL, overL, Bool.or_false]
      rw [h0, if_pos (show ([] : List Tm).length = 0 from rfl)] at a2
      simp only [Bool.and_eq_true, decide_eq_true_eq] at a2
      unfold shiftP shiftG
      by_cases h2 : n - d < f
      · rw [if_pos h2, if_pos h2, decide_eq_false (by omega)]; rfl
      · rw [if_neg h2, if_neg h2]
        by_cases h3 : 65535 < n + b
        · rw [decide_eq_true h3, decide_eq_false (by unfold inR; omega)]; rfl
        · rw [decide_eq_false h3, decide_eq_true (by unfold inR; omega)]; rfl
    · rw [if_neg h1, if_neg h1, hz.1, Bool.false_or, shiftP_okL hb l k d 0 a3]
theorem shiftP_okL {b f : Int} (hb : 0 ≤ b) : ∀ (l : List Tm) (k d : Int) (i : Nat), formedL l = true → okL (shiftP b f) l k d i = !overL (mapL (shiftG b f) l k d i)
  | [], _, _, _, _ => rfl
  | t :: l, k, d, i, h => by
    rw [formedL, Bool.and_eq_true] at h
    rw [okL, mapL, overL, shiftP_ok hb t _ h.1, shiftP_okL hb l k d (i + 1) h.2, Bool.not_or]
end
mutual
theorem lowerP_ok {m : Int} : ∀ (t : Tm) (d : Int), formedB t = true → okT (lowerP m) t d = decide (countT t (m + d) = 0)
  | .node k n l, d, h => by
    rw [formedB, Bool.and_eq_true, Bool.and_eq_true, decide_eq_true_eq] at h
    obtain ⟨⟨a1, a2⟩, a3⟩ := h
    rw [okT, countT]
    by_cases h1 : k = 1
    · have h0 : l = [] := List.eq_nil_of_length_eq_zero (by rw [h1] at a1; have : kidsI 1 = 0 := by decide
                                                            omega)
      rw [if_pos h1, h0, countL]
      unfold lowerP
      by_cases h2 : n - d = m
      · rw [if_pos ⟨h1, by omega⟩, decide_eq_false (by simpa using h2), decide_eq_false (by omega)]
      · rw [if_neg (fun x => h2 (by omega)), decide_eq_true h2, decide_eq_true (by omega)]
    · rw [if_neg h1, if_neg (fun x => h1 x.1), Nat.zero_add, lowerP_okL l k d 0 a3]
theorem lowerP_okL {m : Int} : ∀ (l : List Tm) (k d : Int) (i : Nat), formedL l = true → okL (lowerP m) l k d i = decide (countL l k (m + d) i = 0)
  | [], _, _, _, _ => rfl
  | t :: l, k, d, i, h => by
    rw [formedL, Bool.and_eq_true] at h
    rw [okL, countL, lowerP_ok t _ h.1, lowerP_okL l k d (i + 1) h.2, show m + d + bindsI k i = m + (d + bindsI k i) by omega, Bool.eq_iff_iff, Bool.and_eq_true, decide_eq_true_eq, decide_eq_true_eq, decide_eq_true_eq]
    omega
end

/-- Kids that lie in rows which the call made: each row is a block of its own and is written by nobody else. -/
inductive AtK (S : Nat → Prop) (w : World) : List Tm → Value → Prop
  | nl : AtK S w [] (.slice none 0 0)
  | row (l : List Tm) (b : Nat) (vs : Nat → Value) (hS : S b) (hK : KRow l.length b l vs w) (hm : l.length ≤ maxLen) (hs : ∀ i (h : i < l.length), AtK S w l[i].kids (vs i)) : AtK S w l (.slice (some ⟨b, 0, none⟩) l.length l.length)
theorem AtK.ats {S : Nat → Prop} {w : World} {l : List Tm} {v : Value} (h : AtK S w l v) : AtS S w l v := by
  induction h with
  | nl => exact .nl
  | row l b vs hS hK hm _ ih => exact hK.ats rfl hm hS ih
theorem AtK.same {S T : Nat → Prop} {w w' : World} (h : ∀ b, S b → T b ∧ w'.heap[b]? = w.heap[b]?) {l : List Tm} {v : Value} (hA : AtK S w l v) : AtK T w' l v := by
  induction hA with
  | nl => exact .nl
  | row l b vs hS hK hm _ ih => exact .row l b vs (h b hS).1 (hK.same (h b hS).2) hm ih
theorem kidsI_le (k : Int) : kidsI k ≤ 3 := by
  unfold kidsI
  split
  · omega
  · split
    · omega
    · split
      · omega
      · split <;> omega
/-- What renumber tells: nothing, or a term in new memory. -/
def RenPost (w : World) (ok : Bool) (r : Tm) (e : Ending) (w' : World) : Prop := Below w.heap.size w w' ∧ (ok = false → e = .returned (.tuple #[.agg #[.int .i64 0, .int .i64 0, .slice none 0 0], .bool false])) ∧
  (ok = true → ∃ a cap, e = .returned (.tuple #[.agg #[.int .i64 r.k, .int .i64 r.n, .slice a r.kids.length cap], .bool true]) ∧ AtK (fun b => w.heap.size ≤ b ∧ b < w'.heap.size) w' r.kids (.slice a r.kids.length cap))
end Go.Proofs.Ytggefpkfikimiaa
/- The constants of a term: a rising list, each once. No conditions. -/
namespace Go.Proofs.Ytggefpkfikimiaa
open Go.RowKit Go Go.Maps
set_option linter.unusedVariables false

mutual
def constT : Tm → List Int | .node k n l => (if k = 3 then [n] else []) ++ constK l
def constK : List Tm → List Int | [] => [] | t :: l => constT t ++ constK l
end
theorem constT_eq (t : Tm) : constT t = (if t.k = 3 then [t.n] else []) ++ constK t.kids := by cases t; rfl
theorem constK_append (a b : List Tm) : constK (a ++ b) = constK a ++ constK b := by
  induction a with
  | nil => simp [constK]
  | cons x a ih => simp [constK, ih]
theorem constK_take_succ {l : List Tm} {j : Nat} (h : j < l.length) : constK (l.take (j + 1)) = constK (l.take j) ++ constT l[j] := by
  rw [List.take_succ_eq_append_getElem h, constK_append]; simp [constK]
mutual
theorem constT_len : ∀ t : Tm, (constT t).length ≤ size t
  | .node k n l => by
    have := constK_len l
    simp only [constT, List.length_append, size]
    split <;> simp <;> omega
theorem constK_len : ∀ l : List Tm, (constK l).length ≤ sizeL l
  | [] => by simp [constK, sizeL]
  | t :: l => by have := constT_len t; have := constK_len l; simp only [constK, sizeL, List.length_append]; omega
end
mutual
theorem constT_nodes : ∀ (t : Tm) (d b n : Int), n ∈ constT t ↔ ∃ x ∈ nodesT t d b, x.2.2.k = 3 ∧ x.2.2.n = n
  | .node k m l, d, b, n => by
    rw [constT, nodesT, List.mem_append, constK_nodes l k (d + 1) b 0 n]
    constructor
    · rintro (h | ⟨x, hx, h⟩)
      · by_cases hk : k = 3
        · rw [if_pos hk] at h
          exact ⟨_, List.mem_cons_self, hk, (List.mem_singleton.1 h).symm⟩
        · rw [if_neg hk] at h; cases h
      · exact ⟨x, List.mem_cons_of_mem _ hx, h⟩
    · rintro ⟨x, hx, h1, h2⟩
      rcases List.mem_cons.1 hx with rfl | hx
      · have h1 : k = 3 := h1
        have h2 : m = n := h2
        left; rw [if_pos h1, h2]; exact List.mem_singleton.2 rfl
      · exact .inr ⟨x, hx, h1, h2⟩
theorem constK_nodes : ∀ (l : List Tm) (k d b : Int) (i : Nat) (n : Int), n ∈ constK l ↔ ∃ x ∈ nodesL l k d b i, x.2.2.k = 3 ∧ x.2.2.n = n
  | [], _, _, _, _, _ => by simp [constK, nodesL]
  | t :: l, k, d, b, i, n => by
    rw [constK, nodesL, List.mem_append, constT_nodes t d (b + bindsI k i) n, constK_nodes l k d b (i + 1) n]
    constructor
    · rintro (⟨x, hx, h⟩ | ⟨x, hx, h⟩)
      · exact ⟨x, List.mem_append_left _ hx, h⟩
      · exact ⟨x, List.mem_append_right _ hx, h⟩
    · rintro ⟨x, hx, h⟩
      rcases List.mem_append.1 hx with hx | hx
      · exact .inl ⟨x, hx, h⟩
      · exact .inr ⟨x, hx, h⟩
end

/-- A number more, at its place, once. -/
def joinI : List Int → Int → List Int
  | [], n => [n]
  | a :: l, n => if a < n then a :: joinI l n else if a = n then a :: l else n :: a :: l
theorem joinI_mem (l : List Int) (n x : Int) : x ∈ joinI l n ↔ x ∈ l ∨ x = n := by
  induction l with
  | nil => simp [joinI]
  | cons a l ih =>
    unfold joinI
    split
    · simp [ih, or_assoc]
    · split
      · rename_i h; subst h
        simp only [List.mem_cons]
        constructor
        · exact fun h => .inl h
        · rintro (h | h)
          · exact h
          · exact .inl h
      · simp only [List.mem_cons]
        constructor
        · rintro (h | h)
          · exact .inr h
          · exact .inl h
        · rintro (h | h)
          · exact .inr h
          · exact .inl h
theorem joinI_asc {l : List Int} (h : l.Pairwise (· < ·)) (n : Int) : (joinI l n).Pairwise (· < ·) := by
  induction l with
  | nil => simp [joinI]
  | cons a l ih =>
    rw [List.pairwise_cons] at h
    unfold joinI
    split
    · rename_i hlt
      rw [List.pairwise_cons]
      refine ⟨fun x hx => ?_, ih h.2⟩
      rcases (joinI_mem l n x).1 hx with hx | rfl
      · exact h.1 x hx
      · exact hlt
    · split
      · rw [List.pairwise_cons]; exact h
      · rw [List.pairwise_cons, List.pairwise_cons]
        refine ⟨fun x hx => ?_, h⟩
        rcases List.mem_cons.1 hx with rfl | hx
        · omega
        · have := h.1 x hx; omega
def consI (l : List Int) : List Int := l.foldl joinI []
theorem foldl_join_mem (l acc : List Int) (x : Int) : x ∈ l.foldl joinI acc ↔ x ∈ acc ∨ x ∈ l := by
  induction l generalizing acc with
  | nil => simp
  | cons a l ih => rw [List.foldl_cons, ih, joinI_mem]; simp [or_assoc]
theorem foldl_join_asc (l acc : List Int) (h : acc.Pairwise (· < ·)) : (l.foldl joinI acc).Pairwise (· < ·) := by
  induction l generalizing acc with
  | nil => exact h
  | cons a l ih => rw [List.foldl_cons]; exact ih _ (joinI_asc h a)
theorem consI_mem (l : List Int) (x : Int) : x ∈ consI l ↔ x ∈ l := by rw [consI, foldl_join_mem]; simp
theorem consI_asc (l : List Int) : (consI l).Pairwise (· < ·) := foldl_join_asc l [] List.Pairwise.nil
theorem joinI_len (l : List Int) (n : Int) : (joinI l n).length ≤ l.length + 1 := by
  induction l with
  | nil => simp [joinI]
  | cons a l ih =>
    unfold joinI
    split
    · simp; omega
    · split <;> simp
theorem consI_len (l : List Int) : (consI l).length ≤ l.length := by
  have : ∀ acc : List Int, (l.foldl joinI acc).length ≤ acc.length + l.length := by
    induction l with
    | nil => simp
    | cons a l ih => intro acc; have := ih (joinI acc a); have := joinI_len acc a; simp only [List.foldl_cons, List.length_cons]; omega
  have h := this []
  rw [List.length_nil, Nat.zero_add] at h
  exact h
theorem asc_unique : ∀ {a b : List Int}, a.Pairwise (· < ·) → b.Pairwise (· < ·) → (∀ x, x ∈ a ↔ x ∈ b) → a = b
  | [], [], _, _, _ => rfl
  | [], y :: b, _, _, h => by have := (h y).2 List.mem_cons_self; cases this
  | x :: a, [], _, _, h => by have := (h x).1 List.mem_cons_self; cases this
  | x :: a, y :: b, ha, hb, h => by
    rw [List.pairwise_cons] at ha hb
    have hxy : x = y := by
      rcases List.mem_cons.1 ((h x).1 List.mem_cons_self) with e | e
      · exact e
      · rcases List.mem_cons.1 ((h y).2 List.mem_cons_self) with e' | e'
        · exact e'.symm
        · have := hb.1 x e; have := ha.1 y e'; omega
    subst hxy
    rw [asc_unique ha.2 hb.2 fun z => ?_]
    constructor
    · intro hz
      rcases List.mem_cons.1 ((h z).1 (List.mem_cons_of_mem _ hz)) with e | e
      · subst e; have := ha.1 z hz; omega
      · exact e
    · intro hz
      rcases List.mem_cons.1 ((h z).2 (List.mem_cons_of_mem _ hz)) with e | e
      · subst e; have := hb.1 z hz; omega
      · exact e
/-- What the page's Join folds: the list of a list, joined. -/
theorem consI_append (a b : List Int) : consI (a ++ b) = (consI b).foldl joinI (consI a) := by
  refine asc_unique (consI_asc _) (foldl_join_asc _ _ (consI_asc a)) fun x => ?_
  rw [consI_mem, foldl_join_mem, consI_mem, consI_mem, List.mem_append]

/-- The keys of a set of ints. -/
def AllInt {H : Type} (D : DataW H) : Prop := ∃ es, D = .map es ∧ ∀ p ∈ es, ∃ x, p.1 = .int .i64 x
theorem AllInt.put {H : Type} {D : DataW H} (h : AllInt D) (x : Int) (d : DataW H) : AllInt (D.put (.int .i64 x) d) := by
  obtain ⟨es, rfl, hp⟩ := h
  refine ⟨_, rfl, fun p hm => ?_⟩
  rcases List.mem_cons.1 ((Go.WideShapes.insert_perm _ _).mem_iff.1 hm) with rfl | hm
  · exact ⟨x, rfl⟩
  · exact hp p (List.mem_filter.1 hm).1
theorem isKey (x : Int) : WideAt.IsKeyLit (.int .i64 x) := by trivial
def litOf (l : List Int) : List Lit := l.map (Lit.int .i64)
theorem litOf_key (l : List Int) : ∀ x ∈ litOf l, WideAt.IsKeyLit x := fun x hx => by
  obtain ⟨y, _, rfl⟩ := List.mem_map.1 hx; exact isKey y
theorem allInt_setOf {H : Type} (u : DataW H) (l : List Int) : AllInt (setOf u (litOf l)) := by
  have : ∀ (m : DataW H), AllInt m → AllInt ((litOf l).foldl (fun m x => m.put x u) m) := by
    induction l with
    | nil => exact fun m h => h
    | cons a l ih => intro m h; exact ih _ (h.put a u)
  exact this _ ⟨[], rfl, by simp⟩
theorem has_set {H : Type} (u : DataW H) (l : List Int) (x : Int) : has (setOf u (litOf l)) (.int .i64 x) = true ↔ x ∈ l := by
  rw [has_setOf u _ _ (litOf_key l), List.any_eq_true]
  constructor
  · rintro ⟨y, hy, hs⟩
    obtain ⟨z, hz, rfl⟩ := List.mem_map.1 hy
    have := WideAt.sameKey_eq hs
    cases this; exact hz
  · intro h; exact ⟨_, List.mem_map.2 ⟨x, h, rfl⟩, WideAt.sameKey_self (isKey x)⟩
/-- The keys, sorted, are the rising list. -/
theorem sorted_set {H : Type} (u : DataW H) (l ss : List Int) (h : ss.Perm (intKeys (setOf u (litOf l)))) : ss.mergeSort (fun x y => decide (x ≤ y)) = consI l := by
  obtain ⟨es, he, hint⟩ := allInt_setOf u l
  obtain ⟨es', he', hpw⟩ := tidy_setOf u _ (litOf_key l)
  rw [he] at he'
  cases he'
  have hmem : ∀ x, x ∈ intKeys (DataW.map es) ↔ x ∈ l := fun x => by
    rw [← has_set u l x, he]
    show x ∈ es.map (fun p => intOf p.1) ↔ es.any (fun p => p.1.sameKey (.int .i64 x)) = true
    rw [List.mem_map, List.any_eq_true]
    constructor
    · rintro ⟨p, hp, rfl⟩
      obtain ⟨y, hy⟩ := hint p hp
      exact ⟨p, hp, by rw [hy]; exact WideAt.sameKey_self (isKey y)⟩
    · rintro ⟨p, hp, hs⟩
      exact ⟨p, hp, by rw [WideAt.sameKey_eq hs]; rfl⟩
  have hnd : (intKeys (DataW.map es)).Pairwise (· ≠ ·) := by
    show (es.map (fun p => intOf p.1)).Pairwise (· ≠ ·)
    rw [List.pairwise_map]
    refine hpw.imp_of_mem fun {p q} hp hq hne e => hne ?_
    obtain ⟨x, hx⟩ := hint p hp
    obtain ⟨y, hy⟩ := hint q hq
    rw [hx, hy] at e ⊢
    have e : x = y := e
    rw [e]
  rw [he] at h
  have tr : ∀ a b c : Int, leI a b = true → leI b c = true → leI a c = true := fun a b c h1 h2 => by simp only [leI, decide_eq_true_eq] at *; exact Int.le_trans h1 h2
  have to : ∀ a b : Int, (leI a b || leI b a) = true := fun a b => by simp only [leI, Bool.or_eq_true, decide_eq_true_eq]; exact Int.le_total a b
  have hp2 := (List.mergeSort_perm ss leI).trans h
  have hle := List.pairwise_mergeSort tr to ss
  have hne : (ss.mergeSort leI).Pairwise (· ≠ ·) := (hp2.pairwise_iff (fun {a b} (h : a ≠ b) => h.symm)).2 hnd
  refine asc_unique (a := ss.mergeSort leI) ?_ (consI_asc l) fun x => ?_
  · refine (hle.and hne).imp fun {a b} hab => ?_
    have := hab.1
    simp only [leI, decide_eq_true_eq] at this
    have := hab.2
    omega
  · rw [consI_mem, hp2.mem_iff, hmem]
/-- A list of ints in memory. -/
def RowI (w : World) (l : List Int) (v : Value) : Prop := ∃ a cap, v = .slice a l.length cap ∧ l.length ≤ cap ∧ cap ≤ maxLen ∧ (0 < l.length → ∃ b off, a = some ⟨b, off, none⟩ ∧ ∀ i (_ : i < l.length), w.cell? ⟨b, off + i, none⟩ = some (.int .i64 l[i]))
theorem RowI.bel {w w' : World} {l : List Int} {v : Value} (h : RowI w l v) (hb : Below w.heap.size w w') : RowI w' l v := by
  obtain ⟨a, cap, h1, h2, h3, h4⟩ := h
  refine ⟨a, cap, h1, h2, h3, fun hl => ?_⟩
  obtain ⟨b, off, h5, h6⟩ := h4 hl
  exact ⟨b, off, h5, fun i hi => by rw [hb.cell (World.block_lt_of_cell? w _ (h6 i hi))]; exact h6 i hi⟩
theorem rowI_of_owns {w : World} {base : Nat} {e : TypeId} {v : Value} {l : List Int} (h : w.ownsRow base e 1 v l.length (l.map (Value.int .i64))) : RowI w l v := by
  rcases h.2 with ⟨rfl, h0⟩ | ⟨g, cap, cur, rfl, hb, hg, h1, h2, h3, htake⟩
  · exact ⟨none, 0, by rw [h0], by omega, by decide, fun hl => by omega⟩
  · refine ⟨_, cap, rfl, h1, h2, fun hl => ⟨g, 0, rfl, fun i hi => ?_⟩⟩
    have := h.cellAt i (by omega)
    rw [Nat.zero_add, this]
    simp [hi]
end Go.Proofs.Ytggefpkfikimiaa
/- ShiftCounts and ShiftKids, as mathematics. -/
namespace Go.Proofs.Ytggefpkfikimiaa
open Go.RowKit
set_option linter.unusedVariables false

mutual
theorem mapT_const (g : Int → Int → Int) : ∀ (t : Tm) (d : Int), constT (mapT g t d) = constT t
  | .node k n l, d => by
    rw [mapT, constT, constT, mapL_const g l]
    congr 1
    by_cases h : k = 3
    · rw [if_pos h, if_pos h, if_neg (by omega)]
    · rw [if_neg h, if_neg h]
theorem mapL_const (g : Int → Int → Int) : ∀ (l : List Tm) (k d : Int) (i : Nat), constK (mapL g l k d i) = constK l
  | [], _, _, _ => rfl
  | t :: l, k, d, i => by rw [mapL, constK, constK, mapT_const g t, mapL_const g l]
end
/-- ShiftCounts. -/
theorem counts_ok {t : Tm} {b f n : Int} (h : shiftE t b f = 0) (hf : f ≤ 9) (hb : b ≤ 50) (hn : 0 ≤ n) (hn2 : n ≤ 19) :
    (∀ k : Int, 0 ≤ k → k < b → cntE (moveT t b f) (f + k) = 0) ∧ cntE (moveT t b f) (if f ≤ n then n + b else n) = cntE t n ∧ size (moveT t b f) = size t ∧ depth (moveT t b f) = depth t ∧ constT (moveT t b f) = constT t := by
  obtain ⟨h1, h2, h3, h4⟩ := shift_ok.1 h
  have b0 := h2.1
  have f0 := h3.1
  refine ⟨fun k k0 k1 => ?_, ?_, mapT_size _ _ _, mapT_depth _ _ _, mapT_const _ _ _⟩
  · unfold cntE
    rw [count_gap t k0 k1]
    split <;> rfl
  · unfold cntE
    rw [count_move t b0, if_pos ⟨by split <;> omega, by split <;> omega⟩, if_pos ⟨by omega, by omega⟩]
/-- ShiftKids. -/
theorem move_kids {t : Tm} {b f : Int} : (moveT t b f).k = t.k ∧ (moveT t b f).kids.length = t.kids.length ∧ ∀ (i : Nat) (hi : i < t.kids.length), (moveT t b f).kids[i]? = some (moveT t.kids[i] b (f + bindsI t.k i)) := by
  unfold moveT
  rw [mapT_eq]
  refine ⟨rfl, mapL_length _ _ _ _ _, fun i hi => ?_⟩
  have := mapL_get (mv b) t.kids t.k f 0 i hi
  rw [Nat.zero_add] at this
  exact this
theorem overL_get : ∀ {l : List Tm} {j : Nat} {u : Tm}, overL l = false → l[j]? = some u → overB u = false
  | t :: l, 0, u, h, hu => by
    rw [overL, Bool.or_eq_false_iff] at h
    simp only [List.getElem?_cons_zero, Option.some.injEq] at hu
    exact hu ▸ h.1
  | t :: l, j + 1, u, h, hu => by
    rw [overL, Bool.or_eq_false_iff] at h
    rw [List.getElem?_cons_succ] at hu
    exact overL_get h.2 hu
theorem kids_ok {t : Tm} {b f : Int} (h : shiftE t b f = 0) (hf : f ≤ 60) (i : Nat) (hi : i < t.kids.length) : shiftE t.kids[i] b (f + bindsI t.k i) = 0 := by
  obtain ⟨h1, h2, h3, h4⟩ := shift_ok.1 h
  have hr := bindsI_range t.k i
  have f0 := h3.1
  refine shift_ok.2 ⟨check_kid h1 (List.getElem_mem hi), h2, ⟨by omega, by omega⟩, ?_⟩
  rw [overB_eq, Bool.or_eq_false_iff] at h4
  exact overL_get h4.2 ((move_kids (t := t) (b := b) (f := f)).2.2 i hi)
theorem kids_count {t : Tm} {n : Int} (hf : formedB t = true) (hl : 0 < t.kids.length) : countT t n = countL t.kids t.k n 0 := by
  rw [countT_eq, if_neg, Nat.zero_add]
  rintro ⟨hk, _⟩
  rw [formedB_eq, Bool.and_eq_true, Bool.and_eq_true, decide_eq_true_eq] at hf
  have := hf.1.1
  rw [hk] at this
  have : kidsI 1 = 0 := by decide
  omega
end Go.Proofs.Ytggefpkfikimiaa
