/- A row of the call's own, appended to, turned round; its terms may be written over. No conditions. -/
import Derived.Test.YtggefpkfikimiaaGreatG12
import Derived.Test.YtggefpkfikimiaaGreatG09
import Derived.Deep.DeepCutAuto
import Derived.Deep.AppendLies
import Derived.OneCell
import Derived.Deep.DrawnRows
import Derived.Deep.RegionLaw
import Derived.Lib.SmallJoins
namespace Go.Proofs.YtggefpkfikimiaaGreat
open Go.RowKit
set_option linter.unusedVariables false

def RowE (B : Nat) (L : List Tm) (v : Value) (w : World) : Prop := ∃ vs, w.ownsRow B 37 3 v L.length (cells3 L vs) ∧ ∀ i (_ : i < L.length), AtE (fun b => B ≤ b ∧ b < w.heap.size ∧ some b ≠ v.ownBlock) w L[i].kids (vs i)
theorem RowE.start (B : Nat) (w : World) : RowE B [] (.slice none 0 0) w := ⟨fun _ => .slice none 0 0, World.ownsRow_nil _ _ _ _, fun i hi => absurd hi (Nat.not_lt_zero _)⟩
theorem RowE.keep {B : Nat} {L : List Tm} {v : Value} {w w' : World} (h : RowE B L v w) (hb : Below w.heap.size w w') : RowE B L v w' := by
  obtain ⟨vs, h2, h3⟩ := h
  exact ⟨vs, h2.kept (row := none) ⟨hb.os, hb.tape, hb.output, hb.size, fun k hk _ => hb.block k hk⟩ (by cases v.ownBlock <;> simp), fun i hi => (h3 i hi).same fun b hb' => ⟨⟨hb'.1, Nat.lt_of_lt_of_le hb'.2.1 hb.size, hb'.2.2⟩, hb.block b hb'.2.1⟩⟩
theorem RowE.put {B C : Nat} {L : List Tm} {v : Value} {w : World} {x y z : Value} (h : RowE B L v w) (hC : C < B) : RowE B L v (((w.setCell ⟨C, 0, none⟩ x).setCell ⟨C, 1, none⟩ y).setCell ⟨C, 2, none⟩ z) := by
  obtain ⟨vs, h2, h3⟩ := h
  have hne : v.ownBlock ≠ some C := fun e => by have := (h2.lt C e).1; omega
  exact ⟨vs, ownsRow_setCell_other (ownsRow_setCell_other (ownsRow_setCell_other h2 (a := ⟨C, 0, none⟩) hne x) (a := ⟨C, 1, none⟩) hne y) (a := ⟨C, 2, none⟩) hne z, fun i hi => (h3 i hi).same fun b hb => ⟨⟨hb.1, by simpa using hb.2.1, hb.2.2⟩, other_store3 (by omega) _ _ _⟩⟩
theorem RowE.ate {B : Nat} {L : List Tm} {v : Value} {w : World} (h : RowE B L v w) : AtE (fun b => B ≤ b ∧ b < w.heap.size) w L v := by
  obtain ⟨vs, h2, h3⟩ := h
  have hl := h2.lt
  rcases h2.2 with ⟨rfl, h0⟩ | ⟨g, cap, cur, rfl, e1, e2, e3, e4, e5, e6⟩
  · rw [List.eq_nil_of_length_eq_zero h0]; exact .nl
  · have key : ∀ i (hi : i < L.length) r, r < 3 → cur[i * 3 + r]? = ([.int .i64 L[i].k, .int .i64 L[i].n, vs i] : List Value)[r]? := fun i hi r hr => by
      have := congrArg (fun l => l[i * 3 + r]?) e6
      simp only [List.getElem?_take] at this
      rw [if_pos (by omega)] at this
      rw [cells3_get L vs i r hi hr] at this
      simpa using this
    refine .row L g 0 cap vs cur (hl g rfl) e2 e3 e4 (fun i hi => ?_) (fun i hi => (h3 i hi).same fun b hb => ⟨⟨hb.1, hb.2.1⟩, rfl⟩)
    rw [Nat.zero_add]
    exact ⟨by have := key i hi 0 (by omega); simpa using this, by have := key i hi 1 (by omega); simpa using this, by have := key i hi 2 (by omega); simpa using this⟩
theorem rowe_beside {w w7 : World} {B g : Nat} {v : Value} {n cap : Nat} (hgrow : w.grownBy w7 v.ownBlock) (hat : v.ownBlock = some g ∨ g = w.heap.size) {l : List Tm} {x : Value} (h : AtE (fun b => B ≤ b ∧ b < w.heap.size ∧ some b ≠ v.ownBlock) w l x) :
    AtE (fun b => B ≤ b ∧ b < w7.heap.size ∧ some b ≠ (Value.slice (some ⟨g, 0, none⟩) n cap).ownBlock) w7 l x :=
  h.same fun b ⟨q1, q2, q3⟩ => ⟨⟨q1, Nat.lt_of_lt_of_le q2 hgrow.size, fun e => by
    have e2 : some b = some g := e
    cases e2
    rcases hat with h | h
    · exact q3 h.symm
    · omega⟩, hgrow.block b q2 q3⟩
theorem rowe_step {w w7 : World} {B g cap cu : Nat} {L : List Tm} {u : Tm} {v : Value} {vs : Nat → Value} {au : Option Addr}
    (hats : ∀ i (_ : i < L.length), AtE (fun b => B ≤ b ∧ b < w.heap.size ∧ some b ≠ v.ownBlock) w L[i].kids (vs i))
    (hu : AtE (fun b => B ≤ b ∧ b < w.heap.size ∧ some b ≠ v.ownBlock) w u.kids (.slice au u.kids.length cu))
    (hown7 : w7.ownsRow B 37 3 (.slice (some ⟨g, 0, none⟩) (L.length + 1) cap) (L.length + 1) (cells3 L vs ++ [.int .i64 u.k, .int .i64 u.n, .slice au u.kids.length cu]))
    (hgrow : w.grownBy w7 v.ownBlock) (hat : v.ownBlock = some g ∨ g = w.heap.size) : RowE B (L ++ [u]) (.slice (some ⟨g, 0, none⟩) (L ++ [u]).length cap) w7 := by
  have hlen : (L ++ [u]).length = L.length + 1 := by simp
  refine ⟨fun i => if i < L.length then vs i else .slice au u.kids.length cu, ?_, fun i hi => ?_⟩
  · rw [hlen, cells3_snoc L u vs _ (fun i hi => by rw [if_pos hi]), if_neg (by omega)]
    exact hown7
  · by_cases hil : i < L.length
    · simp only [if_pos hil]
      rw [List.getElem_append_left hil]
      exact rowe_beside hgrow hat (hats i hil)
    · obtain rfl : i = L.length := by omega
      simp only [if_neg hil]
      rw [List.getElem_append_right (Nat.le_refl _)]
      simp only [Nat.sub_self, List.getElem_singleton]
      exact rowe_beside hgrow hat hu
set_option maxRecDepth 100000 in
theorem reverse_empty (a : Option Addr) (c : Nat) (w : World) :
    Calls Tryz.prog 87 #[.slice a 0 c] w fun e w' => (∃ u, e = .returned u) ∧ w' = w := by
  go_enter Tryz.func87, Tryz.ntmps87
  go_wp2_with fail
  go_loopw [2, 3] (fun si sj wr => si = .int .i64 0 ∧ sj = .int .i64 (-1) ∧ wr = w) (fun _ _ _ => 0)
  case atStart => exact ⟨rfl, rfl, rfl⟩
  case round =>
    obtain ⟨rfl, rfl, rfl⟩ := hrel
    go_wp2_with fail
    go_end0
    exact ⟨⟨_, rfl⟩, rfl⟩
theorem getD_get {L : List Tm} {i : Nat} (h : i < L.length) : L[i]?.getD default = L[i] := by rw [List.getElem?_eq_getElem h]; rfl
theorem rowe_rev {B : Nat} {L : List Tm} (hL : L.length ≤ 1048576) {a : Option Addr} {c : Nat} {w : World} (h : RowE B L (.slice a L.length c) w) (hBw : B ≤ w.heap.size) :
    Calls Tryz.prog 87 #[.slice a L.length c] w fun e w' => (∃ u, e = .returned u) ∧ RowE B L.reverse (.slice a L.length c) w' ∧ Below B w w' := by
  obtain ⟨vs, h2, h3⟩ := h
  by_cases h0 : 0 < L.length
  · rcases h2.2 with ⟨e, e0⟩ | ⟨g, cap, cur, e, e1, e2, e3, e4, e5, e6⟩
    · omega
    · have he : a = some ⟨g, 0, none⟩ ∧ c = cap := by simpa using e
      obtain ⟨rfl, rfl⟩ := he
      have hvs : ∀ i, i < L.length → ∃ a m c, vs i = .slice a m c := fun i hi => by obtain ⟨a, c, e⟩ := (h3 i hi).at.shape; exact ⟨a, _, c, e⟩
      have hI : RevI g c L vs 0 w := by
        refine ⟨cur, e2, e5, fun k hk r hr => ?_⟩
        have es : sigR L.length 0 k = k := by unfold sigR; rw [if_neg (by omega)]
        have := congrArg (fun l => l[k * 3 + r]?) e6
        simp only [List.getElem?_take] at this
        rw [if_pos (by omega), cells3_get L vs k r hk hr] at this
        rw [es]; unfold trR
        rw [getD_get hk]
        simpa using this
      refine (reverse_any g c L vs hvs hL e3 w (fun _ => hI) _ (.inl rfl)).mono ?_
      rintro e w' ⟨hu, hr, hb, ho⟩
      obtain ⟨i, hi, cs, k1, k2, k3⟩ := hr h0
      refine ⟨hu, ⟨fun k => vs (L.length - 1 - k), ⟨by rw [cells3_len], .inr ⟨g, c, cs, by rw [List.length_reverse], e1, k1, by rw [List.length_reverse]; exact e3, e4, k2, ?_⟩⟩, fun k hk => ?_⟩, hb.mono e1⟩
      · apply List.ext_getElem?
        intro j
        rw [List.getElem?_take]
        by_cases hj : j < L.reverse.length * 3
        · rw [if_pos hj]
          rw [List.length_reverse] at hj
          have hq : j / 3 < L.length := by omega
          have hr3 : j % 3 < 3 := by omega
          have hjj : j / 3 * 3 + j % 3 = j := by omega
          have g1 := k3 (j / 3) hq (j % 3) hr3
          have g2 := cells3_get L.reverse (fun k => vs (L.length - 1 - k)) (j / 3) (j % 3) (by rw [List.length_reverse]; exact hq) hr3
          rw [hjj] at g1 g2
          have es : sigR L.length i (j / 3) = L.length - 1 - j / 3 := by
            unfold sigR
            by_cases hc : j / 3 < i ∨ L.length ≤ j / 3 + i
            · rw [if_pos hc]
            · rw [if_neg hc]; omega
          rw [es] at g1
          unfold trR at g1
          rw [getD_get (by omega)] at g1
          rw [List.getElem_reverse] at g2
          rw [g2]
          simpa using g1
        · rw [if_neg hj]
          symm
          rw [List.getElem?_eq_none_iff, cells3_len]; omega
      · rw [List.getElem_reverse]
        exact (h3 (L.length - 1 - k) (by rw [List.length_reverse] at hk; omega)).same fun b hb' => ⟨⟨hb'.1, Nat.lt_of_lt_of_le hb'.2.1 hb.size, hb'.2.2⟩, ho b fun e => hb'.2.2 (by rw [e]; rfl)⟩
  · have hl : L = [] := List.eq_nil_of_length_eq_zero (by omega)
    subst hl
    refine (reverse_empty a c w).mono ?_
    rintro e w' ⟨hu, rfl⟩
    exact ⟨hu, ⟨vs, h2, h3⟩, Below.refl _ _⟩
end Go.Proofs.YtggefpkfikimiaaGreat
/- The page's wrap, Pis, Lams, Spine: no conditions but sizes. -/
namespace Go.Proofs.YtggefpkfikimiaaGreat
open Go.RowKit
set_option linter.unusedVariables false

/-- A term that was made of new blocks. -/
def MadeN (w : World) (r : Tm) (e : Ending) (w' : World) : Prop := ∃ a cap, e = .returned (.agg #[.int .i64 r.k, .int .i64 r.n, .slice a r.kids.length cap]) ∧ AtS (fun b => w.heap.size ≤ b) w' r.kids (.slice a r.kids.length cap) ∧ Below w.heap.size w w'
/-- In a region that draws: a term whose Kids lie apart from a box; a row of two such; a term made of these. -/
def RA (S : Nat → Prop) (r : Tm) : VP := fun v s e w => ∃ a cap, v = .agg #[.int .i64 r.k, .int .i64 r.n, .slice a r.kids.length cap] ∧ AtS S w r.kids (.slice a r.kids.length cap)
theorem RA.mono (S : Nat → Prop) (r : Tm) : Mono (RA S r) := fun v s e w w' hg ⟨a, c, h1, h2⟩ => ⟨a, c, h1, h2.grw hg⟩
def RB (S : Nat → Prop) (x y : Tm) : VP := fun v s e w => v = .slice (some ⟨s, 0, none⟩) 2 2 ∧ s < w.heap.size ∧ ∃ vx vy, w.heap[s]? = some (.cells #[.int .i64 x.k, .int .i64 x.n, vx, .int .i64 y.k, .int .i64 y.n, vy] 37 (0, 0)) ∧ AtS S w x.kids vx ∧ AtS S w y.kids vy
theorem RB.mono (S : Nat → Prop) (x y : Tm) : Mono (RB S x y) := fun v s e w w' hg ⟨h1, h2, vx, vy, h4, h5, h6⟩ => ⟨h1, Nat.lt_of_lt_of_le h2 hg.size, vx, vy, (hg.block s (Array.getElem?_eq_some_iff.1 h4).1).trans h4, h5.grw hg, h6.grw hg⟩
theorem ra_twin {S : Nat → Prop} {r : Tm} (hs : size r ≤ 1048576) {W : World} (hB : ∀ b, W.heap.size ≤ b → S b) {v : Value} (hA : At W r.kids v) : Calls Tryz.prog 21 #[.agg #[.int .i64 r.k, .int .i64 r.n, v]] W fun e w' => ∃ v', e = .returned v' ∧ Grw W w' ∧ RA S r v' W.heap.size w'.heap.size w' :=
  (c_twin r hs W v hA).mono fun e w' ⟨a, c, he, hS, _, hb⟩ => ⟨_, he, hb, a, c, rfl, hS.same fun b h => ⟨hB b h.1, rfl⟩⟩
theorem ra_t {S : Nat → Prop} {x y : Tm} {W : World} (hB : ∀ b, W.heap.size ≤ b → S b) {k : Int} {v : Value} {s e : Nat} (h : RB S x y v s e W) : Calls Tryz.prog 15 #[.int .i64 k, v] W fun e w' => ∃ v', e = .returned v' ∧ Grw W w' ∧ RA S (.node k 0 [x, y]) v' W.heap.size w'.heap.size w' := by
  obtain ⟨rfl, h2, vx, vy, h4, h5, h6⟩ := h
  refine (t_anyR (fun b => S b ∧ b < W.heap.size) k [x, y] (by simp) (by simp) W _ (fun b h => h.2) (row_of2 h4 h5.lt h6.lt)).mono fun e w' h => ?_
  obtain ⟨a, c, he, hS, hb⟩ := h
  exact ⟨_, he, hb, a, c, rfl, hS.same fun b h => ⟨h.elim (fun h => h.1) (hB b), rfl⟩⟩
/-- The loop's boxes: the result's is untouched, the other holds what was made so far. -/
def OutB (w : World) (B R : Nat) (o : Tm) (W : World) : Prop := ∃ a c, W.heap[B]? = some (.cells #[.int .i64 o.k, .int .i64 o.n, .slice a o.kids.length c] 37 (0, 0)) ∧ W.heap[R]? = some (.cells #[.int .i64 0, .int .i64 0, .slice none 0 0] 37 (0, 0)) ∧ AtS (fun b => w.heap.size ≤ b ∧ b ≠ B ∧ b ≠ R) W o.kids (.slice a o.kids.length c) ∧ Below w.heap.size w W ∧ w.heap.size ≤ B ∧ R ≠ B ∧ w.heap.size ≤ R
end Go.Proofs.YtggefpkfikimiaaGreat
/- The page's Vars, Unspine, Unpis. -/
namespace Go.Proofs.YtggefpkfikimiaaGreat
open Go.RowKit
set_option linter.unusedVariables false

/-- A row of variables that the call appended to. -/
def VRow6 (B N j : Nat) (v : Value) (w : World) : Prop := w.ownsRow B 37 3 v j (cells3 (varsT N j) (fun _ => .slice none 0 0))
theorem VRow6.bel {B N j : Nat} {v : Value} {w w' : World} (h : VRow6 B N j v w) (hb : Below w.heap.size w w') : VRow6 B N j v w' :=
  World.ownsRow.kept (row := none) h ⟨hb.os, hb.tape, hb.output, hb.size, fun k hk _ => hb.block k hk⟩ (by cases v.ownBlock <;> simp)
theorem VRow6.at {B N j : Nat} {v : Value} {w : World} (h : VRow6 B N j v w) : At w (varsT N j) v := by
  have h2 : w.ownsRow B 37 3 v (varsT N j).length (cells3 (varsT N j) (fun _ => .slice none 0 0)) := by rw [varsT_length]; exact h
  refine (ats_of_row (S := fun _ => True) h2 (fun _ _ => trivial) fun i hi => ?_).at
  have : (varsT N j)[i].kids = [] := by simp [varsT, Tm.kids]
  rw [this]
  exact .nl
theorem vrow6_next {N j : Nat} : cells3 (varsT N (j + 1)) (fun _ => .slice none 0 0) = cells3 (varsT N j) (fun _ => .slice none 0 0) ++ [.int .i64 1, .int .i64 ((N : Int) - 1 - j), .slice none 0 0] := by
  rw [varsT_succ, cells3_snoc _ _ _ _ (fun _ _ => rfl)]; rfl
/-- A row of terms of the call's own, whose Kids lie beside it, from a block on. -/
def RowO (B : Nat) (L : List Tm) (v : Value) (w : World) : Prop := ∃ vs, w.ownsRow B 37 3 v L.length (cells3 L vs) ∧ ∀ i (_ : i < L.length), AtS (fun b => B ≤ b ∧ b < w.heap.size ∧ some b ≠ v.ownBlock) w L[i].kids (vs i)
theorem RowO.start (B : Nat) (w : World) : RowO B [] (.slice none 0 0) w := ⟨fun _ => .slice none 0 0, World.ownsRow_nil _ _ _ _, fun i hi => absurd hi (Nat.not_lt_zero _)⟩
theorem RowO.keep {B : Nat} {L : List Tm} {v : Value} {w w' : World} (h : RowO B L v w) (hb : Below w.heap.size w w') : RowO B L v w' := by
  obtain ⟨vs, h2, h3⟩ := h
  exact ⟨vs, h2.kept (row := none) ⟨hb.os, hb.tape, hb.output, hb.size, fun k hk _ => hb.block k hk⟩ (by cases v.ownBlock <;> simp), fun i hi => (h3 i hi).same fun b hb' => ⟨⟨hb'.1, Nat.lt_of_lt_of_le hb'.2.1 hb.size, hb'.2.2⟩, hb.block b hb'.2.1⟩⟩
theorem RowO.from {B D : Nat} {L : List Tm} {v : Value} {w : World} (h : RowO B L v w) (hD : D ≤ B) : RowO D L v w := by
  obtain ⟨vs, h2, h3⟩ := h
  exact ⟨vs, ⟨h2.1, h2.2.imp_right fun ⟨g, cap, cur, e1, e2, e3⟩ => ⟨g, cap, cur, e1, Nat.le_trans hD e2, e3⟩⟩, fun i hi => (h3 i hi).same fun b hb => ⟨⟨Nat.le_trans hD hb.1, hb.2⟩, rfl⟩⟩
theorem RowO.put {B C : Nat} {L : List Tm} {v : Value} {w : World} {x y z : Value} (h : RowO B L v w) (hC : C < B) : RowO B L v (((w.setCell ⟨C, 0, none⟩ x).setCell ⟨C, 1, none⟩ y).setCell ⟨C, 2, none⟩ z) := by
  obtain ⟨vs, h2, h3⟩ := h
  have hne : v.ownBlock ≠ some C := fun e => by have := (h2.lt C e).1; omega
  exact ⟨vs, ownsRow_setCell_other (ownsRow_setCell_other (ownsRow_setCell_other h2 (a := ⟨C, 0, none⟩) hne x) (a := ⟨C, 1, none⟩) hne y) (a := ⟨C, 2, none⟩) hne z, fun i hi => (h3 i hi).same fun b hb => ⟨⟨hb.1, by simpa using hb.2.1, hb.2.2⟩, other_store3 (by omega) _ _ _⟩⟩
theorem RowO.ats {B : Nat} {L : List Tm} {v : Value} {w : World} (h : RowO B L v w) : AtS (fun b => B ≤ b ∧ b < w.heap.size) w L v := by
  obtain ⟨vs, h2, h3⟩ := h
  exact ats_of_row h2 (fun b hb => h2.lt b hb) fun i hi => (h3 i hi).same fun b hb => ⟨⟨hb.1, hb.2.1⟩, rfl⟩
/-- What lies beside the row lies so behind an append. -/
theorem rowo_beside {w w7 : World} {B g : Nat} {v : Value} {n cap : Nat} (hgrow : w.grownBy w7 v.ownBlock) (hat : v.ownBlock = some g ∨ g = w.heap.size) {l : List Tm} {x : Value} (h : AtS (fun b => B ≤ b ∧ b < w.heap.size ∧ some b ≠ v.ownBlock) w l x) :
    AtS (fun b => B ≤ b ∧ b < w7.heap.size ∧ some b ≠ (Value.slice (some ⟨g, 0, none⟩) n cap).ownBlock) w7 l x :=
  h.same fun b ⟨q1, q2, q3⟩ => ⟨⟨q1, Nat.lt_of_lt_of_le q2 hgrow.size, fun e => by
    have e2 : some b = some g := e
    cases e2
    rcases hat with h | h
    · exact q3 h.symm
    · omega⟩, hgrow.block b q2 q3⟩
theorem rowo_step {w w7 : World} {B g cap cu : Nat} {L : List Tm} {u : Tm} {v : Value} {vs : Nat → Value} {au : Option Addr}
    (hats : ∀ i (_ : i < L.length), AtS (fun b => B ≤ b ∧ b < w.heap.size ∧ some b ≠ v.ownBlock) w L[i].kids (vs i))
    (hu : AtS (fun b => B ≤ b ∧ b < w.heap.size ∧ some b ≠ v.ownBlock) w u.kids (.slice au u.kids.length cu))
    (hown7 : w7.ownsRow B 37 3 (.slice (some ⟨g, 0, none⟩) (L.length + 1) cap) (L.length + 1) (cells3 L vs ++ [.int .i64 u.k, .int .i64 u.n, .slice au u.kids.length cu]))
    (hgrow : w.grownBy w7 v.ownBlock) (hat : v.ownBlock = some g ∨ g = w.heap.size) : RowO B (L ++ [u]) (.slice (some ⟨g, 0, none⟩) (L ++ [u]).length cap) w7 := by
  have hlen : (L ++ [u]).length = L.length + 1 := by simp
  refine ⟨fun i => if i < L.length then vs i else .slice au u.kids.length cu, ?_, fun i hi => ?_⟩
  · rw [hlen, cells3_snoc L u vs _ (fun i hi => by rw [if_pos hi]), if_neg (by omega)]
    exact hown7
  · by_cases hil : i < L.length
    · simp only [if_pos hil]
      rw [List.getElem_append_left hil]
      exact rowo_beside hgrow hat (hats i hil)
    · obtain rfl : i = L.length := by omega
      simp only [if_neg hil]
      rw [List.getElem_append_right (Nat.le_refl _)]
      simp only [Nat.sub_self, List.getElem_singleton]
      exact rowo_beside hgrow hat hu
theorem below_drew6 (w : World) : Below w.heap.size w w.drew := ⟨rfl, rfl, rfl, Nat.le_refl _, fun _ _ => rfl⟩
def UnsPost (w : World) (f : Tm) (X : List Tm) (e : Ending) (w' : World) : Prop := ∃ a c a2 c2, e = .returned (.tuple #[.agg #[.int .i64 f.k, .int .i64 f.n, .slice a f.kids.length c], .slice a2 X.length c2]) ∧
  AtS (fun b => w.heap.size ≤ b ∧ b < w'.heap.size ∧ some b ≠ (Value.slice a2 X.length c2).ownBlock) w' f.kids (.slice a f.kids.length c) ∧ RowO w.heap.size X (.slice a2 X.length c2) w' ∧ Below w.heap.size w w'
set_option maxRecDepth 100000 in
set_option maxHeartbeats 2000000 in
theorem runspine_no (t : Tm) (hs : size t ≤ 1048576) (h : ¬ (t.k = 6 ∧ t.kids.length = 2)) (w : World) (v : Value) (hA : At w t.kids v) :
    Calls Tryz.prog 54 #[.agg #[.int .i64 t.k, .int .i64 t.n, v]] w (UnsPost w t []) := by
  obtain ⟨a1, c1, rfl⟩ := hA.shape
  have hO := one_start w t _ hA
  have hb1 := below_al (w.alloc (.cells #[.int .i64 t.k, .int .i64 t.n, .slice a1 t.kids.length c1] 37)) (.cells #[.int .i64 0, .int .i64 0, .slice none 0 0] 37)
  have O1 := Lib.hid (hO.bel hb1)
  have Z1 := Lib.hid (World.alloc_heap_new (w.alloc (.cells #[.int .i64 t.k, .int .i64 t.n, .slice a1 t.kids.length c1] 37)) (.cells #[.int .i64 0, .int .i64 0, .slice none 0 0] 37))
  have HT := Lib.hid (fun W v hA => c_twin t hs W v hA)
  clear hA hO hb1
  go_enter Tryz.func54, Tryz.ntmps54
  obtain ⟨⟨x0, x1, x2⟩, _⟩ := O1.out
  have hk : t.k ≠ 6 ∨ (t.k = 6 ∧ t.kids.length ≠ 2) := by omega
  have fin : ∀ w1 a2 c2, w1.heap[w.heap.size + 1]? = some (.cells #[.int .i64 0, .int .i64 0, .slice none 0 0] 37 (0, 0)) → Below w.heap.size w w1 → AtS (fun b => w.heap.size + 1 + 1 ≤ b ∧ b < w1.heap.size) w1 t.kids (.slice a2 t.kids.length c2) →
      UnsPost w t [] (.returned (.tuple #[.agg #[.int .i64 t.k, .int .i64 t.n, .slice a2 t.kids.length c2], .slice none 0 0])) (put3 w1 (w.heap.size + 1) t (.slice a2 t.kids.length c2)) := fun w1 a2 c2 h1 h2 h3 =>
    ⟨a2, c2, none, 0, rfl, h3.same fun b hb => ⟨⟨by omega, by simpa using hb.2, by simp [Value.ownBlock]⟩, other_store3 (by omega) _ _ _⟩, RowO.start _ _, h2.trans (below_store3 (by omega) _ _ _)⟩
  have FIN := Lib.hid fin
  clear fin
  rcases hk with hk | hk
  · have k1 : (t.k != 6) = true := by simpa using hk
    clear h hk
    go_wp2_with fail
    refine (HT.out _ _ O1.out.2.1).mono ?_
    rintro e w1 ⟨a2, c2, rfl, hS2, _, hb2⟩
    have Z2 := Lib.hid ((hb2.block _ (by simp)).trans Z1.out)
    have O2 := Lib.hid (O1.out.bel hb2)
    simp only [World.size_alloc] at Z2 hS2
    have HS := Lib.hid hS2
    clear x0 x1 x2 hS2 hb2 O1 Z1 HT
    obtain ⟨⟨x0, x1, x2⟩, g0, g1, g2⟩ := boxc Z2.out
    go_wp2_with fail
    obtain ⟨⟨s0, s1, s2⟩, _⟩ := boxc (box_store3 Z2.out (.int .i64 t.k) (.int .i64 t.n) (.slice a2 t.kids.length c2))
    exact bodyPost_ret (v := .tuple #[.agg #[.int .i64 t.k, .int .i64 t.n, .slice a2 t.kids.length c2], .slice none 0 0]) (by simp [results, Tryz.f54, go_sem, s0, s1, s2]) rfl (FIN.out _ _ _ Z2.out O2.out.2.2 HS.out)
  · have k1 : (t.k != 6) = false := by simpa using hk.1
    have k2 : ((t.kids.length : Int) != 2) = true := by simp; omega
    have hk2 := hk.2
    clear h hk
    go_wp2_with fail
    refine (HT.out _ _ O1.out.2.1).mono ?_
    rintro e w1 ⟨a2, c2, rfl, hS2, _, hb2⟩
    have Z2 := Lib.hid ((hb2.block _ (by simp)).trans Z1.out)
    have O2 := Lib.hid (O1.out.bel hb2)
    simp only [World.size_alloc] at Z2 hS2
    have HS := Lib.hid hS2
    clear x0 x1 x2 hS2 hb2 O1 Z1 HT
    obtain ⟨⟨x0, x1, x2⟩, g0, g1, g2⟩ := boxc Z2.out
    go_wp2_with fail
    obtain ⟨⟨s0, s1, s2⟩, _⟩ := boxc (box_store3 Z2.out (.int .i64 t.k) (.int .i64 t.n) (.slice a2 t.kids.length c2))
    exact bodyPost_ret (v := .tuple #[.agg #[.int .i64 t.k, .int .i64 t.n, .slice a2 t.kids.length c2], .slice none 0 0]) (by simp [results, Tryz.f54, go_sem, s0, s1, s2]) rfl (FIN.out _ _ _ Z2.out O2.out.2.2 HS.out)
/-- A row of one term, in a block of its own. -/
def R1 (S : Nat → Prop) (y : Tm) : VP := fun v s e w => v = .slice (some ⟨s, 0, none⟩) 1 1 ∧ s < w.heap.size ∧ ∃ a c, w.heap[s]? = some (.cells #[.int .i64 y.k, .int .i64 y.n, .slice a y.kids.length c] 37 (0, 0)) ∧ AtS S w y.kids (.slice a y.kids.length c)
theorem R1.mono (S : Nat → Prop) (y : Tm) : Mono (R1 S y) := fun v s e w w' hg ⟨h1, h2, a, c, h3, h4⟩ => ⟨h1, Nat.lt_of_lt_of_le h2 hg.size, a, c, (hg.block s h2).trans h3, h4.grw hg⟩
set_option maxRecDepth 100000 in
set_option maxHeartbeats 2000000 in
theorem runspine_app (t x y f : Tm) (X : List Tm) (hs : size t ≤ 1048576) (hk : t.k = 6) (hl : t.kids = [x, y]) (hXl : X.length ≤ 1048576) (ih : ∀ (w : World) (v : Value), At w x.kids v → Calls Tryz.prog 54 #[.agg #[.int .i64 x.k, .int .i64 x.n, v]] w (UnsPost w f X)) (w : World) (v : Value) (hA : At w t.kids v) :
    Calls Tryz.prog 54 #[.agg #[.int .i64 t.k, .int .i64 t.n, v]] w (UnsPost w f (X ++ [y])) := by
  obtain ⟨a1, c1, rfl⟩ := hA.shape
  have hl2 : t.kids.length = 2 := by rw [hl]; rfl
  have hsy : size y ≤ 1048576 := by have := size_le_of_mem (l := t.kids) (t := y) (by rw [hl]; simp); have := size_eq t; omega
  have hO := one_start w t _ hA
  have hb1 := below_al (w.alloc (.cells #[.int .i64 t.k, .int .i64 t.n, .slice a1 t.kids.length c1] 37)) (.cells #[.int .i64 0, .int .i64 0, .slice none 0 0] 37)
  have O1 := Lib.hid (hO.bel hb1)
  have Z1 := Lib.hid (World.alloc_heap_new (w.alloc (.cells #[.int .i64 t.k, .int .i64 t.n, .slice a1 t.kids.length c1] 37)) (.cells #[.int .i64 0, .int .i64 0, .slice none 0 0] 37))
  clear hA hO hb1
  obtain ⟨b, off, cap', vs, he, h1, h2, kk, kn, kv, ks⟩ := O1.out.2.1.pos (by omega)
  have e0 : t.kids[0] = x := by simp [hl]
  have e1 : t.kids[1] = y := by simp [hl]
  have k0 := kk 0 (by omega)
  have k1 := kn 0 (by omega)
  have k2 := kv 0 (by omega)
  have k3 := ks 0 (by omega)
  have m0 := kk 1 (by omega)
  have m1 := kn 1 (by omega)
  have m2 := kv 1 (by omega)
  have m3 := ks 1 (by omega)
  rw [e0] at k0 k1 k3
  rw [e1] at m0 m1 m3
  obtain ⟨ax, cx, hvx⟩ := k3.shape
  obtain ⟨ay, cy, hvy⟩ := m3.shape
  rw [hvx] at k2 k3
  rw [hvy] at m2 m3
  cases he
  simp only [Nat.zero_mul, Nat.one_mul, Nat.add_zero] at k0 k1 k2 m0 m1 m2
  rw [hl2] at k0 k1 k2 k3 m0 m1 m2 m3 h1 O1 Z1
  have HM := Lib.hid (And.intro (And.intro m0 (And.intro m1 m2)) (And.intro m3 trivial))
  have HI := Lib.hid (ih _ _ k3)
  have q1 : (t.k != 6) = false := by simpa using hk
  rw [hl2]
  clear kk kn kv ks hvx hvy k3 m0 m1 m2 m3 e0 e1 h1 h2 hk hl ih
  go_enter Tryz.func54, Tryz.ntmps54
  obtain ⟨⟨x0, x1, x2⟩, _⟩ := O1.out
  go_wp2_with fail
  refine HI.out.mono ?_
  rintro e w2 ⟨af, cf, aX, cX, rfl, hf, hX, hb2⟩
  have Z2 := Lib.hid ((hb2.block _ (by simp)).trans Z1.out)
  have O2 := Lib.hid (O1.out.bel hb2)
  have M2 := Lib.hid (And.intro (And.intro (gcell hb2 HM.out.1.1) (And.intro (gcell hb2 HM.out.1.2.1) (gcell hb2 HM.out.1.2.2))) (And.intro (HM.out.2.1.bel hb2 (Nat.le_refl _)) trivial))
  have hz2 := hb2.size
  simp only [World.size_alloc] at Z2 hf hX hz2
  have HF2 := Lib.hid hf
  have HX2 := Lib.hid hX
  clear x0 x1 x2 k0 k1 k2 hb2 hf hX O1 Z1 HI HM
  obtain ⟨⟨x0, x1, x2⟩, _⟩ := O2.out
  go_wp2_with fail
  have hw3 : ∃ w3, w3 = w2.alloc (.cells #[.int .i64 f.k, .int .i64 f.n, .slice af f.kids.length cf] 37) := ⟨_, rfl⟩
  obtain ⟨w3, hw3⟩ := hw3
  have hg3 : Below w2.heap.size w2 w3 := by rw [hw3]; exact below_al _ _
  have hbx : w3.heap[w2.heap.size]? = some (.cells #[.int .i64 f.k, .int .i64 f.n, .slice af f.kids.length cf] 37 (0, 0)) := by rw [hw3]; exact World.alloc_heap_new w2 _
  have hz3 := hg3.size
  rw [← hw3]
  have O3 := Lib.hid (O2.out.bel hg3)
  have F3 := Lib.hid (HF2.out.same (T := fun b => w.heap.size + 1 + 1 ≤ b ∧ b < w3.heap.size ∧ some b ≠ (Value.slice aX X.length cX).ownBlock) (w' := w3) fun b hb => ⟨⟨hb.1, by omega, hb.2.2⟩, hg3.block b hb.2.1⟩)
  have X3 := Lib.hid (HX2.out.keep hg3)
  have Z3 := Lib.hid ((hg3.block _ (by omega)).trans Z2.out)
  have M3 := Lib.hid (And.intro (And.intro (gcell hg3 M2.out.1.1) (And.intro (gcell hg3 M2.out.1.2.1) (gcell hg3 M2.out.1.2.2))) (And.intro (M2.out.2.1.bel hg3 (Nat.le_refl _)) trivial))
  have hbx3 := hbx
  have hlt3 : w2.heap.size < w3.heap.size := (Array.getElem?_eq_some_iff.1 hbx).1
  have HBX := Lib.hid hbx3
  have HOL : Hid (∀ k, (Value.slice aX X.length cX).ownBlock = some k → w.heap.size + 1 + 1 ≤ k ∧ k < w2.heap.size) := fun k hk => by obtain ⟨vs0, hO0, _⟩ := HX2.out; exact hO0.lt k hk
  have HT := Lib.hid (c_twin y hsy w3.drew _ (M3.out.2.1.bel (below_drew6 w3) (Nat.le_refl _)))
  clear x0 x1 x2 hbx hbx3 hg3 hw3 HF2 HX2 Z2 M2 O2
  obtain ⟨⟨x0, x1, x2⟩, _⟩ := O3.out
  obtain ⟨⟨b0, b1, b2⟩, _⟩ := boxc HBX.out
  obtain ⟨m0, m1, m2⟩ := M3.out.1
  have hm1 : X.length + 1 ≤ maxLen := by unfold maxLen; omega
  have hm2 : (X.length + 1) * 40 ≤ 140737488355328 := by omega
  obtain ⟨i0, hi, hz0, hz1', hz2'⟩ := info_parts Tryz.infoT
  clear M3
  go_region_law (first
    | (refine step_append_lies _ (by rfl) (.tmp 26) (.tmp 32) 35 (by rfl) (w.heap.size + 1 + 1) 37 i0 _ 3 40 Tryz.underlying35 hi hz0 hz1' hz2' rfl (by decide) (.slice aX X.length cX) X.length _ (by rfl) (HO6.out.alloc _) ⟨w6.heap.size, 0, none⟩ 1 1 [.int .i64 y.k, .int .i64 y.n, .slice a4 y.kids.length c4] (by rfl) (by rfl) (World.news_of_block (cs := #[.int .i64 y.k, .int .i64 y.n, .slice a4 y.kids.length c4]) (World.alloc_heap_new w6 _)) (by simp [Value.oneCell']) (by decide) hm1 hm2 (by rw [World.size_alloc]; omega) (w6.heap.size + 1) (by rw [World.size_alloc]) ?_; intro g7 cp w7 hown7 hgrow7 hat7 hlt7; have hZ7 := ((hgrow7.block (w.heap.size + 1) (by simp; omega) (fun e => by have := (HOL.out _ e.symm).1; omega)).trans (Below.heap_alloc w6 _ (w.heap.size + 1) (by omega))).trans Z6.out; obtain ⟨⟨p0, p1, p2⟩, p3, p4, p5⟩ := boxc hZ7; have hB7 := ((hgrow7.block w2.heap.size (by simp; omega) (fun e => by have := (HOL.out _ e.symm).2; omega)).trans (Below.heap_alloc w6 _ w2.heap.size (by omega))).trans BX6.out; obtain ⟨⟨t0, t1, t2⟩, _⟩ := boxc hB7)
    | (go_simp; go_at_call 21; refine HT.out.mono ?_; rintro e w6 ⟨a4, c4, rfl, hK6, _, hb6⟩; have hg6 : Below w3.heap.size w3 w6 := ⟨hb6.os, hb6.tape, hb6.output, hb6.size, hb6.block⟩; have hz6 := hg6.size; obtain ⟨vs, hO6, hats6⟩ := X3.out.keep hg6; have HO6 := Lib.hid hO6; have HATS := Lib.hid hats6; have Z6 := Lib.hid ((hg6.block _ (by omega)).trans Z3.out); have BX6 := Lib.hid ((hg6.block _ (by omega)).trans HBX.out); have q0 := gcell hg6 b0; have q1 := gcell hg6 b1; have q2 := gcell hg6 b2; have q3 := gcell (below_al w6 (.cells #[.int .i64 y.k, .int .i64 y.n, .slice a4 y.kids.length c4] 37)) q0; have q4 := gcell (below_al w6 (.cells #[.int .i64 y.k, .int .i64 y.n, .slice a4 y.kids.length c4] 37)) q1; have q5 := gcell (below_al w6 (.cells #[.int .i64 y.k, .int .i64 y.n, .slice a4 y.kids.length c4] 37)) q2; clear hO6 hats6))
  all_goals
    have hlen : (X ++ [y]).length = X.length + 1 := by simp
    have hAl := below_al w6 (.cells #[.int .i64 y.k, .int .i64 y.n, .slice a4 y.kids.length c4] 37)
    have hat8 : (Value.slice aX X.length cX).ownBlock = some g7 ∨ g7 = (w6.alloc (.cells #[.int .i64 y.k, .int .i64 y.n, .slice a4 y.kids.length c4] 37)).heap.size := by rw [World.size_alloc]; exact hat7
    have hz8 : (w6.alloc (.cells #[.int .i64 y.k, .int .i64 y.n, .slice a4 y.kids.length c4] 37)).heap.size = w6.heap.size + 1 := World.size_alloc _ _
    have hHA : ∀ i (_ : i < X.length), AtS (fun b => w.heap.size + 1 + 1 ≤ b ∧ b < (w6.alloc (.cells #[.int .i64 y.k, .int .i64 y.n, .slice a4 y.kids.length c4] 37)).heap.size ∧ some b ≠ (Value.slice aX X.length cX).ownBlock) (w6.alloc (.cells #[.int .i64 y.k, .int .i64 y.n, .slice a4 y.kids.length c4] 37)) X[i].kids (vs i) := fun i hi => (HATS.out i hi).same fun b hb => ⟨⟨hb.1, by omega, hb.2.2⟩, hAl.block b hb.2.1⟩
    have hHY : AtS (fun b => w.heap.size + 1 + 1 ≤ b ∧ b < (w6.alloc (.cells #[.int .i64 y.k, .int .i64 y.n, .slice a4 y.kids.length c4] 37)).heap.size ∧ some b ≠ (Value.slice aX X.length cX).ownBlock) (w6.alloc (.cells #[.int .i64 y.k, .int .i64 y.n, .slice a4 y.kids.length c4] 37)) y.kids (.slice a4 y.kids.length c4) :=
      hK6.same fun b hb => by
        have h1 : w3.heap.size ≤ b := hb.1
        exact ⟨⟨by omega, by omega, fun e => by have := (HOL.out b e.symm).2; omega⟩, hAl.block b hb.2⟩
    have hHF : AtS (fun b => w.heap.size + 1 + 1 ≤ b ∧ b < (w6.alloc (.cells #[.int .i64 y.k, .int .i64 y.n, .slice a4 y.kids.length c4] 37)).heap.size ∧ some b ≠ (Value.slice aX X.length cX).ownBlock) (w6.alloc (.cells #[.int .i64 y.k, .int .i64 y.n, .slice a4 y.kids.length c4] 37)) f.kids (.slice af f.kids.length cf) :=
      F3.out.same fun b hb => ⟨⟨hb.1, by omega, hb.2.2⟩, (hAl.block b (by omega)).trans (hg6.block b hb.2.1)⟩
    have hR := ((rowo_step hHA hHY hown7 hgrow7 hat8).put (C := w.heap.size + 1) (x := .int .i64 f.k) (y := .int .i64 f.n) (z := .slice af f.kids.length cf) (by omega)).from (D := w.heap.size) (by omega)
    have hFF := (rowo_beside (n := (X ++ [y]).length) (cap := cp) hgrow7 hat8 hHF).same (T := fun b => w.heap.size ≤ b ∧ b < (put3 w7 (w.heap.size + 1) f (.slice af f.kids.length cf)).heap.size ∧ some b ≠ (Value.slice (some ⟨g7, 0, none⟩) (X ++ [y]).length cp).ownBlock) (w' := put3 w7 (w.heap.size + 1) f (.slice af f.kids.length cf)) fun b hb => ⟨⟨by omega, by simpa using hb.2.1, hb.2.2⟩, other_store3 (by omega) _ _ _⟩
    have hBF := (((O3.out.2.2.trans (hg6.mono O3.out.2.2.size)).trans (hAl.mono (by have := O3.out.2.2.size; omega))).grown hgrow7 (by omega) (fun k e => by have := (HOL.out k e).1; omega)).trans (below_store3 (D := w.heap.size) (B := w.heap.size + 1) (W := w7) (by omega) (.int .i64 f.k) (.int .i64 f.n) (.slice af f.kids.length cf))
    obtain ⟨⟨s0, s1, s2⟩, _⟩ := boxc (box_store3 hZ7 (.int .i64 f.k) (.int .i64 f.n) (.slice af f.kids.length cf))
    have HR := Lib.hid hR
    have HFF := Lib.hid hFF
    have HBF := Lib.hid hBF
    clear hR hFF hBF hHF hHY hHA hat8 hAl hK6 hb6 hg6 hown7 hgrow7 hat7 hlt7 hZ7 hB7
    go_wp2_with fail
    exact bodyPost_ret (v := .tuple #[.agg #[.int .i64 f.k, .int .i64 f.n, .slice af f.kids.length cf], .slice (some ⟨g7, 0, none⟩) (X.length + 1) cp]) (by simp [results, Tryz.f54, go_sem, s0, s1, s2]) rfl ⟨af, cf, some ⟨g7, 0, none⟩, cp, by rw [hlen], HFF.out, HR.out, HBF.out⟩
theorem runspine_any : ∀ (t : Tm), size t ≤ 1048576 → ∀ (w : World) (v : Value), At w t.kids v → Calls Tryz.prog 54 #[.agg #[.int .i64 t.k, .int .i64 t.n, v]] w (UnsPost w (unspine t).1 (unspine t).2) := by
  refine tm_ind fun t ih hs w v hA => ?_
  by_cases h : t.k = 6 ∧ t.kids.length = 2
  · obtain ⟨k, n, l⟩ := t
    obtain ⟨x, y, rfl⟩ := two_kids h.2
    have hu := unspine_sizes (.node k n [x, y])
    have hx : size x ≤ 1048576 := by have := size_le_of_mem (l := [x, y]) (t := x) (by simp); have := size_eq (.node k n [x, y]); simp only [Tm.kids] at *; omega
    have hux := unspine_sizes x
    have hll := length_le_sizeL (unspine x).2
    rw [unspine_app k n x y h.1]
    exact runspine_app (.node k n [x, y]) x y _ _ hs h.1 rfl (by omega) (fun w v hA => ih x (by simp [Tm.kids]) hx w v hA) w v hA
  · rw [unspine_no h]
    exact runspine_no t hs h w v hA
end Go.Proofs.YtggefpkfikimiaaGreat
