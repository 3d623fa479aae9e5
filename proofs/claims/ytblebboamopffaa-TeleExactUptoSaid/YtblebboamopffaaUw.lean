/- A list of rows still to be gone through: what is known of the rows that wait, and what their being done gives. No conditions. -/
import Derived.Test.YtblebboamopffaaUv
namespace Go.Proofs.Ytblebboamopffaa
open Go.RowKit
set_option linter.unusedVariables false

abbrev Job := Nat × List Tm
def jobV (q : Job) : Value := .slice (some ⟨q.1, 0, none⟩) q.2.length q.2.length
def muJ : List Job → Nat | [] => 0 | q :: J => sizeL q.2 + muJ J
theorem muJ_snoc (J : List Job) (q : Job) : muJ (J ++ [q]) = muJ J + sizeL q.2 := by
  induction J with
  | nil => simp [muJ]
  | cons a J ih => simp [muJ, ih]; omega
def JobOk (w0 : World) (B : Nat) (wr : World) (q : Job) : Prop := 0 < q.2.length ∧ B ≤ q.1 ∧ q.1 < wr.heap.size ∧ ∃ vs, NewRow q.1 q.2 vs wr ∧ ∀ i (_ : i < q.2.length), At w0 q.2[i].kids (vs i)
theorem JobOk.same {w0 wr w' : World} {B : Nat} {q : Job} (h : JobOk w0 B wr q) (hz : wr.heap.size ≤ w'.heap.size) (hb : w'.heap[q.1]? = wr.heap[q.1]?) : JobOk w0 B w' q := by
  obtain ⟨h1, h2, h3, vs, h4, h5⟩ := h
  exact ⟨h1, h2, by omega, vs, hb.trans h4, h5⟩
def Wk (w0 : World) (B : Nat) (J : List Job) (X : Nat → Prop) (v : Value) (wr : World) : Prop :=
  wr.ownsRow B 22 1 v J.length (J.map jobV) ∧ (∀ q ∈ J, JobOk w0 B wr q ∧ v.ownBlock ≠ some q.1 ∧ ¬ X q.1) ∧ (J.map Prod.fst).Nodup ∧ ∀ x, X x → x < wr.heap.size ∧ v.ownBlock ≠ some x
theorem Wk.len {w0 wr : World} {B : Nat} {J : List Job} {X : Nat → Prop} {v : Value} (h : Wk w0 B J X v wr) : J.length ≤ muJ J := by
  have h2 := h.2.1
  clear h
  induction J with
  | nil => simp [muJ]
  | cons q J ih =>
    have h1 := (h2 q (by simp)).1.1
    have h3 := length_le_sizeL q.2
    have := ih fun p hp => h2 p (List.mem_cons_of_mem _ hp)
    simp only [muJ, List.length_cons]; omega
theorem Wk.keep {w0 wr w' : World} {B : Nat} {J : List Job} {X : Nat → Prop} {v : Value} (h : Wk w0 B J X v wr) (hb : Below wr.heap.size wr w') : Wk w0 B J X v w' := by
  obtain ⟨h1, h2, h3, h4⟩ := h
  exact ⟨h1.kept (row := none) ⟨hb.os, hb.tape, hb.output, hb.size, fun k hk _ => hb.block k hk⟩ (by cases v.ownBlock <;> simp), fun q hq => ⟨(h2 q hq).1.same hb.size (hb.block _ (h2 q hq).1.2.2.1), (h2 q hq).2⟩, h3, fun x hx => ⟨Nat.lt_of_lt_of_le (h4 x hx).1 hb.size, (h4 x hx).2⟩⟩
theorem Wk.set {w0 wr : World} {B b o : Nat} {J : List Job} {X : Nat → Prop} {v : Value} (h : Wk w0 B J X v wr) (hX : X b) (y : Value) : Wk w0 B J X v (wr.setCell ⟨b, o, none⟩ y) := by
  obtain ⟨h1, h2, h3, h4⟩ := h
  refine ⟨ownsRow_setCell_other h1 (a := ⟨b, o, none⟩) (h4 b hX).2 y, fun q hq => ⟨(h2 q hq).1.same (by simp) (Below.heap_setCell _ _ _ _ fun e => (h2 q hq).2.2 ?_), (h2 q hq).2⟩, h3, fun x hx => ⟨by simpa using (h4 x hx).1, (h4 x hx).2⟩⟩
  have e' : q.1 = b := e
  rw [e']; exact hX
theorem Wk.pop {w0 wr : World} {B g c : Nat} {J : List Job} {q : Job} {X : Nat → Prop} (h : Wk w0 B (J ++ [q]) X (.slice (some ⟨g, 0, none⟩) (J.length + 1) c) wr) :
    Wk w0 B J (fun x => X x ∨ x = q.1) (.slice (some ⟨g, 0, none⟩) J.length c) wr := by
  obtain ⟨h1, h2, h3, h4⟩ := h
  have hnd : (J.map Prod.fst).Nodup ∧ ∀ a ∈ J.map Prod.fst, a ≠ q.1 := by
    rw [List.map_append, List.nodup_append] at h3
    exact ⟨h3.1, fun a ha => h3.2.2 a ha q.1 (by simp)⟩
  refine ⟨⟨by simp, ?_⟩, fun p hp => ?_, hnd.1, fun x hx => ?_⟩
  · rcases h1.2 with ⟨e, h0⟩ | ⟨g', cap, cur, e, e1, e2, e3, e4, e5, e6⟩
    · simp at h0
    · have he : g = g' ∧ c = cap := by simpa using e
      obtain ⟨rfl, rfl⟩ := he
      refine .inr ⟨g, c, cur, rfl, e1, e2, by simp at e3; omega, e4, e5, ?_⟩
      have := congrArg (List.take J.length) e6
      simp only [List.length_append, List.length_singleton, Nat.mul_one] at this
      rw [List.take_take, Nat.min_eq_left (by omega), List.map_append, List.take_left' (by simp)] at this
      simpa using this
  · have := h2 p (by simp [hp])
    exact ⟨this.1, this.2.1, fun hx => hx.elim this.2.2 (hnd.2 p.1 (List.mem_map_of_mem hp))⟩
  · rcases hx with hx | rfl
    · exact h4 x hx
    · have := h2 q (by simp)
      exact ⟨this.1.2.2.1, this.2.1⟩
theorem Wk.last {w0 wr : World} {B : Nat} {J : List Job} {q : Job} {X : Nat → Prop} {v : Value} (h : Wk w0 B (J ++ [q]) X v wr) :
    ∃ g c, v = .slice (some ⟨g, 0, none⟩) (J.length + 1) c ∧ wr.cell? ⟨g, J.length, none⟩ = some (jobV q) ∧ JobOk w0 B wr q ∧ J.length + 1 ≤ c ∧ c ≤ maxLen := by
  obtain ⟨h1, h2, h3, h4⟩ := h
  rcases h1.2 with ⟨e, h0⟩ | ⟨g', cap, cur, e, e1, e2, e3, e4, e5, e6⟩
  · simp at h0
  · subst e
    refine ⟨g', cap, by simp, ?_, (h2 q (by simp)).1, by simpa using e3, e4⟩
    have hc := h1.cellAt J.length (by simp)
    rw [hc]; simp
theorem Wk.push {w0 w w7 : World} {B g cap : Nat} {J : List Job} {q : Job} {X : Nat → Prop} {v : Value} (h : Wk w0 B J X v w) (hq : JobOk w0 B w q) (hne : v.ownBlock ≠ some q.1) (hX : ¬ X q.1) (hJ : ∀ p ∈ J, p.1 ≠ q.1)
    (hown7 : w7.ownsRow B 22 1 (.slice (some ⟨g, 0, none⟩) (J.length + 1) cap) (J.length + 1) (J.map jobV ++ [jobV q])) (hgrow : w.grownBy w7 v.ownBlock) (hat : v.ownBlock = some g ∨ g = w.heap.size) :
    Wk w0 B (J ++ [q]) X (.slice (some ⟨g, 0, none⟩) (J.length + 1) cap) w7 := by
  obtain ⟨h1, h2, h3, h4⟩ := h
  have hg : ∀ x, x < w.heap.size → v.ownBlock ≠ some x → (Value.slice (some ⟨g, 0, none⟩) (J.length + 1) cap).ownBlock ≠ some x := fun x hx hn e => by
    have e2 : some g = some x := e
    cases e2
    rcases hat with h | h
    · exact hn h
    · omega
  refine ⟨by simpa using hown7, fun p hp => ?_, ?_, fun x hx => ⟨Nat.lt_of_lt_of_le (h4 x hx).1 hgrow.size, hg x (h4 x hx).1 (h4 x hx).2⟩⟩
  · rcases List.mem_append.1 hp with hp | hp
    · obtain ⟨a1, a2, a3⟩ := h2 p hp
      exact ⟨a1.same hgrow.size (hgrow.block _ a1.2.2.1 fun e => a2 e.symm), hg _ a1.2.2.1 a2, a3⟩
    · obtain rfl : p = q := by simpa using hp
      exact ⟨hq.same hgrow.size (hgrow.block _ hq.2.2.1 fun e => hne e.symm), hg _ hq.2.2.1 hne, hX⟩
  · rw [List.map_append, List.nodup_append]
    refine ⟨h3, by simp, fun a ha b hb => ?_⟩
    obtain ⟨p, hp, rfl⟩ := List.mem_map.1 ha
    obtain rfl : b = q.1 := by simpa using hb
    exact hJ p hp
/-- What the rows that wait give, once they are done and what is done stays. -/
def Wand (B : Nat) (J : List Job) (D : Nat → Prop) (wr : World) (R : World → Prop) : Prop := ∀ W' : World, (∀ q ∈ J, AtE (fun b => B ≤ b) W' q.2 (jobV q)) → (∀ b, D b → W'.heap[b]? = wr.heap[b]?) → R W'
theorem Wand.same {B : Nat} {J : List Job} {D : Nat → Prop} {wr w' : World} {R : World → Prop} (h : Wand B J D wr R) (hb : ∀ b, D b → w'.heap[b]? = wr.heap[b]?) : Wand B J D w' R :=
  fun W' h1 h2 => h W' h1 fun b hd => (h2 b hd).trans (hb b hd)
def updV (vs : Nat → Value) (p : Nat) (y : Value) : Nat → Value := fun i => if i = p then y else vs i
theorem cells3_upd (l : List Tm) (vs : Nat → Value) (p : Nat) (hp : p < l.length) (y : Value) : (cells3 l vs).toArray.setIfInBounds (p * 3 + 2) y = (cells3 l (updV vs p y)).toArray := by
  apply Array.ext
  · simp [cells3_len]
  · intro j h1 h2
    have hj : j < l.length * 3 := by simpa [cells3_len] using h1
    have hq : j / 3 < l.length := by omega
    have hr : j % 3 < 3 := by omega
    have hjj : j / 3 * 3 + j % 3 = j := by omega
    have g1 := cells3_get l vs (j / 3) (j % 3) hq hr
    have g2 := cells3_get l (updV vs p y) (j / 3) (j % 3) hq hr
    rw [hjj] at g1 g2
    have e2 : ((cells3 l (updV vs p y)).toArray)[j]? = some ((cells3 l (updV vs p y)).toArray)[j] := Array.getElem?_eq_getElem h2
    have e1 : ((cells3 l vs).toArray.setIfInBounds (p * 3 + 2) y)[j]? = some ((cells3 l vs).toArray.setIfInBounds (p * 3 + 2) y)[j] := Array.getElem?_eq_getElem h1
    apply Option.some.inj
    rw [← e1, ← e2]
    have k2 : ((cells3 l (updV vs p y)).toArray)[j]? = (cells3 l (updV vs p y))[j]? := List.getElem?_toArray
    have k1 : ((cells3 l vs).toArray)[j]? = (cells3 l vs)[j]? := List.getElem?_toArray
    rw [k2, g2]
    by_cases hjp : j = p * 3 + 2
    · have e3 : j / 3 = p := by omega
      have e4 : j % 3 = 2 := by omega
      have hs : ((cells3 l vs).toArray.setIfInBounds (p * 3 + 2) y)[j]? = some y := by rw [hjp, Array.getElem?_setIfInBounds_self_of_lt (by simp [cells3_len]; omega)]
      rw [hs, e4]
      simp [updV, e3]
    · rw [Array.getElem?_setIfInBounds_ne (by omega), k1, g1]
      have : j % 3 = 0 ∨ j % 3 = 1 ∨ j % 3 = 2 := by omega
      rcases this with h | h | h
      · rw [h]; rfl
      · rw [h]; rfl
      · rw [h]
        have : j / 3 ≠ p := by omega
        simp [updV, this]
theorem NewRow.updV {b : Nat} {l : List Tm} {vs : Nat → Value} {w : World} (h : NewRow b l vs w) {p : Nat} (hp : p < l.length) (y : Value) : NewRow b l (updV vs p y) (w.setCell ⟨b, p * 3 + 2, none⟩ y) := by
  unfold NewRow
  rw [← cells3_upd l vs p hp y]
  exact heap_setCell_same w b (p * 3 + 2) _ _ y h
theorem NewRow.cell {b : Nat} {l : List Tm} {vs : Nat → Value} {w : World} (h : NewRow b l vs w) {p : Nat} (hp : p < l.length) : w.cell? ⟨b, p * 3 + 2, none⟩ = some (vs p) ∧ w.frozen? ⟨b, p * 3 + 2, none⟩ = false := by
  have h' : w.heap[b]? = some (.cells (cells3 l vs).toArray 24 (0, 0)) := h
  have g := cells3_get l vs p 2 hp (by omega)
  constructor
  · simp [World.cell?, h', g]
  · simp [World.frozen?, h']
theorem NewRow.ate {S : Nat → Prop} {b : Nat} {l : List Tm} {vs : Nat → Value} {w : World} (h : NewRow b l vs w) (hS : S b) (hl : l.length ≤ maxLen) (hs : ∀ i (_ : i < l.length), AtE S w l[i].kids (vs i)) : AtE S w l (jobV (b, l)) := by
  refine .row l b 0 l.length vs _ hS h (Nat.le_refl _) hl (fun i hi => ?_) hs
  rw [Nat.zero_add]
  refine ⟨?_, ?_, ?_⟩
  · have := cells3_get l vs i 0 hi (by omega); simpa using this
  · have := cells3_get l vs i 1 hi (by omega); simpa using this
  · have := cells3_get l vs i 2 hi (by omega); simpa using this
theorem AtE.lt {S : Nat → Prop} {w : World} {l : List Tm} {v : Value} (h : AtE S w l v) : AtE (fun b => S b ∧ b < w.heap.size) w l v := by
  induction h with
  | nl => exact .nl
  | em a cap => exact .em a cap
  | row l b off cap vs cs hS hcs hlen hm hk _ ih => exact .row l b off cap vs cs ⟨hS, (Array.getElem?_eq_some_iff.1 hcs).1⟩ hcs hlen hm hk ih
/-- What is held while one row is gone through. -/
def RowR (B : Nat) (l : List Tm) (b p : Nat) (vs : Nat → Value) (R : World → Prop) (W' : World) : Prop := (∀ i (_ : i < l.length), i < p → AtE (fun b => B ≤ b) W' l[i].kids (vs i)) ∧ (AtE (fun b => B ≤ b) W' l (jobV (b, l)) → R W')
def Inn (w0 : World) (B M : Nat) (R : World → Prop) (b : Nat) (l : List Tm) (D : Nat → Prop) (p : Nat) (J : List Job) (v : Value) (wr : World) : Prop := ∃ vs,
  Wk w0 B J (fun x => D x ∨ x = b) v wr ∧ ¬ D b ∧ NewRow b l vs wr ∧ (∀ i (_ : i < l.length), p ≤ i → At w0 l[i].kids (vs i)) ∧ Wand B J D wr (RowR B l b p vs R) ∧ muJ J + sizeL (l.drop p) + p ≤ M
theorem inn_set {w0 wr w1 : World} {B M b p : Nat} {l : List Tm} {R : World → Prop} {D : Nat → Prop} {J : List Job} {v : Value} {vs : Nat → Value} (hp : p < l.length)
    (hW : Wk w0 B J (fun x => D x ∨ x = b) v wr) (hD : ¬ D b) (hN : NewRow b l vs wr) (hA : ∀ i (_ : i < l.length), p ≤ i → At w0 l[i].kids (vs i)) (hR : Wand B J D wr (RowR B l b p vs R)) (hb : Below wr.heap.size wr w1) (y : Value) :
    Wk w0 B J (fun x => D x ∨ x = b) v (w1.setCell ⟨b, p * 3 + 2, none⟩ y) ∧ NewRow b l (updV vs p y) (w1.setCell ⟨b, p * 3 + 2, none⟩ y) ∧ (∀ i (_ : i < l.length), p + 1 ≤ i → At w0 l[i].kids (updV vs p y i)) ∧ Wand B J D (w1.setCell ⟨b, p * 3 + 2, none⟩ y) (RowR B l b p (updV vs p y) R) := by
  refine ⟨(hW.keep hb).set (.inr rfl) y, NewRow.updV (show NewRow b l vs w1 from (hb.block b (Array.getElem?_eq_some_iff.1 hN).1).trans hN) hp y, fun i hi h => ?_, fun W' h1 h2 => ?_⟩
  · simp only [updV, if_neg (show i ≠ p by omega)]; exact hA i hi (by omega)
  · obtain ⟨q1, q2⟩ := hR W' h1 fun x hx => (h2 x hx).trans ((Below.heap_setCell _ _ _ _ (fun e => hD (by have e' : x = b := e; rw [← e']; exact hx))).trans (hb.block x (hW.2.2.2 x (.inl hx)).1))
    refine ⟨fun i hi h => ?_, q2⟩
    simp only [updV, if_neg (show i ≠ p by omega)]
    exact q1 i hi h
theorem drop_size {l : List Tm} {p : Nat} (hp : p < l.length) : sizeL (l.drop p) = size l[p] + sizeL (l.drop (p + 1)) := by rw [List.drop_eq_getElem_cons hp, sizeL]
/-- A Kid without Kids: its place holds nil. -/
theorem inn_nil {w0 wr w1 : World} {B M b p : Nat} {l : List Tm} {R : World → Prop} {D : Nat → Prop} {J : List Job} {v : Value} (hp : p < l.length) (hk : l[p].kids = []) {vs : Nat → Value}
    (hW : Wk w0 B J (fun x => D x ∨ x = b) v wr) (hD : ¬ D b) (hN : NewRow b l vs wr) (hA : ∀ i (_ : i < l.length), p ≤ i → At w0 l[i].kids (vs i)) (hR : Wand B J D wr (RowR B l b p vs R)) (hM : muJ J + sizeL (l.drop p) + p ≤ M) (hb : Below wr.heap.size wr w1) :
    Inn w0 B M R b l D (p + 1) J v (w1.setCell ⟨b, p * 3 + 2, none⟩ (.slice none 0 0)) := by
  obtain ⟨h1, h2, h3, h4⟩ := inn_set (M := M) hp hW hD hN hA hR hb (.slice none 0 0)
  refine ⟨_, h1, hD, h2, h3, fun W' a1 a2 => ?_, ?_⟩
  · obtain ⟨q1, q2⟩ := h4 W' a1 a2
    refine ⟨fun i hi h => ?_, q2⟩
    by_cases hip : i = p
    · subst hip
      rw [hk]; simp only [updV, if_true]; exact .nl
    · exact q1 i hi (by omega)
  · have := drop_size hp; have := size_pos l[p]; omega
/-- A Kid with Kids: its row waits. -/
theorem inn_push {w0 wr w1 w7 : World} {B M b p g cap : Nat} {l : List Tm} {R : World → Prop} {D : Nat → Prop} {J : List Job} {v : Value} {o : Obj} (hp : p < l.length) {vs : Nat → Value} (hq : JobOk w0 B w1 (wr.heap.size, l[p].kids))
    (hW : Wk w0 B J (fun x => D x ∨ x = b) v wr) (hD : ¬ D b) (hN : NewRow b l vs wr) (hA : ∀ i (_ : i < l.length), p ≤ i → At w0 l[i].kids (vs i)) (hR : Wand B J D wr (RowR B l b p vs R)) (hM : muJ J + sizeL (l.drop p) + p ≤ M) (hb : Below wr.heap.size wr w1)
    (hown7 : w7.ownsRow B 22 1 (.slice (some ⟨g, 0, none⟩) (J.length + 1) cap) (J.length + 1) (J.map jobV ++ [jobV (wr.heap.size, l[p].kids)]))
    (hgrow : ((w1.setCell ⟨b, p * 3 + 2, none⟩ (jobV (wr.heap.size, l[p].kids))).alloc o).grownBy w7 v.ownBlock) (hat : v.ownBlock = some g ∨ g = ((w1.setCell ⟨b, p * 3 + 2, none⟩ (jobV (wr.heap.size, l[p].kids))).alloc o).heap.size) :
    Inn w0 B M R b l D (p + 1) (J ++ [(wr.heap.size, l[p].kids)]) (.slice (some ⟨g, 0, none⟩) (J.length + 1) cap) w7 := by
  obtain ⟨h1, h2, h3, h4⟩ := inn_set (M := M) hp hW hD hN hA hR hb (jobV (wr.heap.size, l[p].kids))
  have hbl := (hW.2.2.2 b (.inr rfl)).1
  have hal := below_al (w1.setCell ⟨b, p * 3 + 2, none⟩ (jobV (wr.heap.size, l[p].kids))) o
  have k1 := h1.keep hal
  have hob : v.ownBlock ≠ some wr.heap.size := fun e => by
    have := (hW.1.lt _ e).2
    omega
  have kq : JobOk w0 B ((w1.setCell ⟨b, p * 3 + 2, none⟩ (jobV (wr.heap.size, l[p].kids))).alloc o) (wr.heap.size, l[p].kids) :=
    (hq.same (w' := w1.setCell ⟨b, p * 3 + 2, none⟩ (jobV (wr.heap.size, l[p].kids))) (by simp) (Below.heap_setCell _ _ _ _ (by dsimp only; omega))).same hal.size (hal.block _ (by simpa using hq.2.2.1))
  have k2 := Wk.push (X := fun x => D x ∨ x = b) k1 kq hob (fun hx => by
    have hx' : D wr.heap.size ∨ wr.heap.size = b := hx
    rcases hx' with hx | hx
    · have := (hW.2.2.2 _ (.inl hx)).1; omega
    · omega) (fun r hr e => by have h := (hW.2.1 r hr).1.2.2.1; have e' : r.1 = wr.heap.size := e; omega) hown7 hgrow hat
  have same7 : ∀ x, (D x ∨ x = b) → w7.heap[x]? = (w1.setCell ⟨b, p * 3 + 2, none⟩ (jobV (wr.heap.size, l[p].kids))).heap[x]? := fun x hx => by
    have := h1.2.2.2 x hx
    exact (hgrow.block x (Nat.lt_of_lt_of_le this.1 hal.size) (fun e => this.2 e.symm)).trans (hal.block x this.1)
  refine ⟨_, k2, hD, (same7 b (.inr rfl)).trans h2, h3, fun W' a1 a2 => ?_, ?_⟩
  · obtain ⟨q1, q2⟩ := h4 W' (fun r hr => a1 r (by simp [hr])) fun x hx => (a2 x hx).trans (same7 x (.inl hx))
    refine ⟨fun i hi h => ?_, q2⟩
    by_cases hip : i = p
    · subst hip
      simp only [updV, if_true]
      exact a1 (wr.heap.size, l[i].kids) (by simp)
    · exact q1 i hi (by omega)
  · rw [muJ_snoc]
    have := drop_size hp; have := size_eq l[p]; dsimp only; omega
/-- Behind the row. -/
theorem inn_end {w0 wr : World} {B M b : Nat} {l : List Tm} {R : World → Prop} {D : Nat → Prop} {J : List Job} {v : Value} (h : Inn w0 B M R b l D l.length J v wr) (hB : B ≤ b) (hl : l.length ≤ maxLen) :
    Wk w0 B J (fun x => D x ∨ x = b) v wr ∧ Wand B J (fun x => D x ∨ x = b) wr R ∧ muJ J + l.length ≤ M := by
  obtain ⟨vs, h1, h2, h3, h4, h5, h6⟩ := h
  refine ⟨h1, fun W' a1 a2 => ?_, by rw [List.drop_length] at h6; simp only [sizeL] at h6; omega⟩
  obtain ⟨q1, q2⟩ := h5 W' a1 fun x hx => a2 x (.inl hx)
  exact q2 (NewRow.ate (show NewRow b l vs W' from (a2 b (.inr rfl)).trans h3) hB hl fun i hi => q1 i hi hi)
end Go.Proofs.Ytblebboamopffaa
