/- A row of the call's own, appended to, turned round; its terms may be written over. No conditions. -/
import Derived.Test.YtblebboamopffaaRv
namespace Go.Proofs.Ytblebboamopffaa
open Go.RowKit
set_option linter.unusedVariables false

def RowE (B : Nat) (L : List Tm) (v : Value) (w : World) : Prop := ∃ vs, w.ownsRow B 24 3 v L.length (cells3 L vs) ∧ ∀ i (_ : i < L.length), AtE (fun b => B ≤ b ∧ b < w.heap.size ∧ some b ≠ v.ownBlock) w L[i].kids (vs i)
theorem RowE.start (B : Nat) (w : World) : RowE B [] (.slice none 0 0) w := ⟨fun _ => .slice none 0 0, World.ownsRow_nil _ _ _ _, fun i hi => absurd hi (Nat.not_lt_zero _)⟩
theorem RowE.keep {B : Nat} {L : List Tm} {v : Value} {w w' : World} (h : RowE B L v w) (hb : Below w.heap.size w w') : RowE B L v w' := by
  obtain ⟨vs, h2, h3⟩ := h
  exact ⟨vs, h2.kept (row := none) ⟨hb.os, hb.tape, hb.output, hb.size, fun k hk _ => hb.block k hk⟩ (by cases v.ownBlock <;> simp), fun i hi => (h3 i hi).same fun b hb' => ⟨⟨hb'.1, Nat.lt_of_lt_of_le hb'.2.1 hb.size, hb'.2.2⟩, hb.block b hb'.2.1⟩⟩
theorem RowE.put {B C : Nat} {L : List Tm} {v : Value} {w : World} {x y z : Value} (h : RowE B L v w) (hC : C < B) : RowE B L v (((w.setCell ⟨C, 0, none⟩ x).setCell ⟨C, 1, none⟩ y).setCell ⟨C, 2, none⟩ z) := by
  obtain ⟨vs, h2, h3⟩ := h
  have hne : v.ownBlock ≠ some C := fun e => by have := (h2.lt C e).1; omega
  exact ⟨vs, ownsRow_setCell_other (ownsRow_setCell_other (ownsRow_setCell_other h2 (a := ⟨C, 0, none⟩) hne x) (a := ⟨C, 1, none⟩) hne y) (a := ⟨C, 2, none⟩) hne z, fun i hi => (h3 i hi).same fun b hb => ⟨⟨hb.1, by simpa using hb.2.1, hb.2.2⟩, other_store3 (by omega) _ _ _⟩⟩
theorem RowE.ate {B : Nat} {L : List Tm} {v : Value} {w : World} (h : RowE B L v w) : AtE (fun b => B ≤ b ∧ b < w.heap.size) w L v := by
  obtain ⟨vs, h2, h3⟩ := h
  have hl := h2.lt
  rcases h2.2 with ⟨rfl, h0⟩ | ⟨g, cap, cur, rfl, e1, e2, e3, e4, e5, e6⟩
  · rw [List.eq_nil_of_length_eq_zero h0]; exact .nl
  · have key : ∀ i (hi : i < L.length) r, r < 3 → cur[i * 3 + r]? = ([.int .i64 L[i].k, .int .i64 L[i].n, vs i] : List Value)[r]? := fun i hi r hr => by
      have := congrArg (fun l => l[i * 3 + r]?) e6
      simp only [List.getElem?_take] at this
      rw [if_pos (by omega)] at this
      rw [cells3_get L vs i r hi hr] at this
      simpa using this
    refine .row L g 0 cap vs cur (hl g rfl) e2 e3 e4 (fun i hi => ?_) (fun i hi => (h3 i hi).same fun b hb => ⟨⟨hb.1, hb.2.1⟩, rfl⟩)
    rw [Nat.zero_add]
    exact ⟨by have := key i hi 0 (by omega); simpa using this, by have := key i hi 1 (by omega); simpa using this, by have := key i hi 2 (by omega); simpa using this⟩
theorem rowe_beside {w w7 : World} {B g : Nat} {v : Value} {n cap : Nat} (hgrow : w.grownBy w7 v.ownBlock) (hat : v.ownBlock = some g ∨ g = w.heap.size) {l : List Tm} {x : Value} (h : AtE (fun b => B ≤ b ∧ b < w.heap.size ∧ some b ≠ v.ownBlock) w l x) :
    AtE (fun b => B ≤ b ∧ b < w7.heap.size ∧ some b ≠ (Value.slice (some ⟨g, 0, none⟩) n cap).ownBlock) w7 l x :=
  h.same fun b ⟨q1, q2, q3⟩ => ⟨⟨q1, Nat.lt_of_lt_of_le q2 hgrow.size, fun e => by
    have e2 : some b = some g := e
    cases e2
    rcases hat with h | h
    · exact q3 h.symm
    · omega⟩, hgrow.block b q2 q3⟩
theorem rowe_step {w w7 : World} {B g cap cu : Nat} {L : List Tm} {u : Tm} {v : Value} {vs : Nat → Value} {au : Option Addr}
    (hats : ∀ i (_ : i < L.length), AtE (fun b => B ≤ b ∧ b < w.heap.size ∧ some b ≠ v.ownBlock) w L[i].kids (vs i))
    (hu : AtE (fun b => B ≤ b ∧ b < w.heap.size ∧ some b ≠ v.ownBlock) w u.kids (.slice au u.kids.length cu))
    (hown7 : w7.ownsRow B 24 3 (.slice (some ⟨g, 0, none⟩) (L.length + 1) cap) (L.length + 1) (cells3 L vs ++ [.int .i64 u.k, .int .i64 u.n, .slice au u.kids.length cu]))
    (hgrow : w.grownBy w7 v.ownBlock) (hat : v.ownBlock = some g ∨ g = w.heap.size) : RowE B (L ++ [u]) (.slice (some ⟨g, 0, none⟩) (L ++ [u]).length cap) w7 := by
  have hlen : (L ++ [u]).length = L.length + 1 := by simp
  refine ⟨fun i => if i < L.length then vs i else .slice au u.kids.length cu, ?_, fun i hi => ?_⟩
  · rw [hlen, cells3_snoc L u vs _ (fun i hi => by rw [if_pos hi]), if_neg (by omega)]
    exact hown7
  · by_cases hil : i < L.length
    · simp only [if_pos hil]
      rw [List.getElem_append_left hil]
      exact rowe_beside hgrow hat (hats i hil)
    · obtain rfl : i = L.length := by omega
      simp only [if_neg hil]
      rw [List.getElem_append_right (Nat.le_refl _)]
      simp only [Nat.sub_self, List.getElem_singleton]
      exact rowe_beside hgrow hat hu
set_option maxRecDepth 100000 in
theorem reverse_empty (a : Option Addr) (c : Nat) (w : World) :
    Calls Try.prog 40 #[.slice a 0 c] w fun e w' => (∃ u, e = .returned u) ∧ w' = w := by
  go_enter Try.func40, Try.ntmps40
  go_wp2_with fail
  go_loopw [2, 3] (fun si sj wr => si = .int .i64 0 ∧ sj = .int .i64 (-1) ∧ wr = w) (fun _ _ _ => 0)
  case atStart => exact ⟨rfl, rfl, rfl⟩
  case round =>
    obtain ⟨rfl, rfl, rfl⟩ := hrel
    go_wp2_with fail
    go_end0
    exact ⟨⟨_, rfl⟩, rfl⟩
theorem getD_get {L : List Tm} {i : Nat} (h : i < L.length) : L[i]?.getD default = L[i] := by rw [List.getElem?_eq_getElem h]; rfl
theorem rowe_rev {B : Nat} {L : List Tm} (hL : L.length ≤ 1048576) {a : Option Addr} {c : Nat} {w : World} (h : RowE B L (.slice a L.length c) w) (hBw : B ≤ w.heap.size) :
    Calls Try.prog 40 #[.slice a L.length c] w fun e w' => (∃ u, e = .returned u) ∧ RowE B L.reverse (.slice a L.length c) w' ∧ Below B w w' := by
  obtain ⟨vs, h2, h3⟩ := h
  by_cases h0 : 0 < L.length
  · rcases h2.2 with ⟨e, e0⟩ | ⟨g, cap, cur, e, e1, e2, e3, e4, e5, e6⟩
    · omega
    · have he : a = some ⟨g, 0, none⟩ ∧ c = cap := by simpa using e
      obtain ⟨rfl, rfl⟩ := he
      have hvs : ∀ i, i < L.length → ∃ a m c, vs i = .slice a m c := fun i hi => by obtain ⟨a, c, e⟩ := (h3 i hi).at.shape; exact ⟨a, _, c, e⟩
      have hI : RevI g c L vs 0 w := by
        refine ⟨cur, e2, e5, fun k hk r hr => ?_⟩
        have es : sigR L.length 0 k = k := by unfold sigR; rw [if_neg (by omega)]
        have := congrArg (fun l => l[k * 3 + r]?) e6
        simp only [List.getElem?_take] at this
        rw [if_pos (by omega), cells3_get L vs k r hk hr] at this
        rw [es]; unfold trR
        rw [getD_get hk]
        simpa using this
      refine (reverse_any g c L vs hvs hL e3 w (fun _ => hI) _ (.inl rfl)).mono ?_
      rintro e w' ⟨hu, hr, hb, ho⟩
      obtain ⟨i, hi, cs, k1, k2, k3⟩ := hr h0
      refine ⟨hu, ⟨fun k => vs (L.length - 1 - k), ⟨by rw [cells3_len], .inr ⟨g, c, cs, by rw [List.length_reverse], e1, k1, by rw [List.length_reverse]; exact e3, e4, k2, ?_⟩⟩, fun k hk => ?_⟩, hb.mono e1⟩
      · apply List.ext_getElem?
        intro j
        rw [List.getElem?_take]
        by_cases hj : j < L.reverse.length * 3
        · rw [if_pos hj]
          rw [List.length_reverse] at hj
          have hq : j / 3 < L.length := by omega
          have hr3 : j % 3 < 3 := by omega
          have hjj : j / 3 * 3 + j % 3 = j := by omega
          have g1 := k3 (j / 3) hq (j % 3) hr3
          have g2 := cells3_get L.reverse (fun k => vs (L.length - 1 - k)) (j / 3) (j % 3) (by rw [List.length_reverse]; exact hq) hr3
          rw [hjj] at g1 g2
          have es : sigR L.length i (j / 3) = L.length - 1 - j / 3 := by
            unfold sigR
            by_cases hc : j / 3 < i ∨ L.length ≤ j / 3 + i
            · rw [if_pos hc]
            · rw [if_neg hc]; omega
          rw [es] at g1
          unfold trR at g1
          rw [getD_get (by omega)] at g1
          rw [List.getElem_reverse] at g2
          rw [g2]
          simpa using g1
        · rw [if_neg hj]
          symm
          rw [List.getElem?_eq_none_iff, cells3_len]; omega
      · rw [List.getElem_reverse]
        exact (h3 (L.length - 1 - k) (by rw [List.length_reverse] at hk; omega)).same fun b hb' => ⟨⟨hb'.1, Nat.lt_of_lt_of_le hb'.2.1 hb.size, hb'.2.2⟩, ho b fun e => hb'.2.2 (by rw [e]; rfl)⟩
  · have hl : L = [] := List.eq_nil_of_length_eq_zero (by omega)
    subst hl
    refine (reverse_empty a c w).mono ?_
    rintro e w' ⟨hu, rfl⟩
    exact ⟨hu, ⟨vs, h2, h3⟩, Below.refl _ _⟩
end Go.Proofs.Ytblebboamopffaa
