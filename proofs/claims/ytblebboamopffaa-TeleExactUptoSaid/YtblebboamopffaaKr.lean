/- A block of terms that the call makes: rows that are written Kid by Kid. No conditions. -/
import Derived.Test.YtblebboamopffaaTw
import Derived.Laws.MakeOwn
import Derived.Laws.OwnMore
namespace Go.Proofs.Ytblebboamopffaa
open Go.RowKit Go Go.Joins
set_option linter.unusedVariables false
/-- A block of c terms, the first of which are known. -/
def KRow (c : Nat) (B : Nat) (L : List Tm) (vs : Nat → Value) (w : World) : Prop := ∃ cs : Array Value, w.heap[B]? = some (.cells cs 24 (0, 0)) ∧ cs.size = c * 3 ∧
  ∀ i (_ : i < L.length), cs[i * 3]? = some (.int .i64 L[i].k) ∧ cs[i * 3 + 1]? = some (.int .i64 L[i].n) ∧ cs[i * 3 + 2]? = some (vs i)
theorem KRow.same {c B : Nat} {L : List Tm} {vs : Nat → Value} {w w' : World} (h : KRow c B L vs w) (hb : w'.heap[B]? = w.heap[B]?) : KRow c B L vs w' := by
  obtain ⟨cs, h1, h2⟩ := h
  exact ⟨cs, hb.trans h1, h2⟩
theorem KRow.slots {c B : Nat} {L : List Tm} {vs : Nat → Value} {w : World} (h : KRow c B L vs w) {j : Nat} (hj : j < c) :
    (∃ x y z, w.cell? ⟨B, j * 3, none⟩ = some x ∧ w.cell? ⟨B, j * 3 + 1, none⟩ = some y ∧ w.cell? ⟨B, j * 3 + 2, none⟩ = some z) ∧ w.frozen? ⟨B, j * 3, none⟩ = false ∧ w.frozen? ⟨B, j * 3 + 1, none⟩ = false ∧ w.frozen? ⟨B, j * 3 + 2, none⟩ = false := by
  obtain ⟨cs, h1, h2, _⟩ := h
  refine ⟨⟨cs[j * 3]'(by omega), cs[j * 3 + 1]'(by omega), cs[j * 3 + 2]'(by omega), ?_, ?_, ?_⟩, ?_, ?_, ?_⟩
  all_goals first
    | (simp [World.frozen?, h1]; done)
    | (simp only [World.cell?, h1]; simp [*]; done)
    | (simp [World.cell?, h1]; omega)
theorem row_store3 {W : World} {B : Nat} {ty : TypeId} {cs : Array Value} (h : W.heap[B]? = some (.cells cs ty (0, 0))) (o : Nat) (x y z : Value) :
    (((W.setCell ⟨B, o, none⟩ x).setCell ⟨B, o + 1, none⟩ y).setCell ⟨B, o + 2, none⟩ z).heap[B]? = some (.cells (((cs.setIfInBounds o x).setIfInBounds (o + 1) y).setIfInBounds (o + 2) z) ty (0, 0)) := by
  have h1 := heap_setCell_same W B o cs ty x h
  have h2 := heap_setCell_same _ B (o + 1) _ ty y h1
  exact heap_setCell_same _ B (o + 2) _ ty z h2
theorem other_row3 {W : World} {B o b : Nat} (hb : b ≠ B) (x' y' z' : Value) : (((W.setCell ⟨B, o, none⟩ x').setCell ⟨B, o + 1, none⟩ y').setCell ⟨B, o + 2, none⟩ z').heap[b]? = W.heap[b]? := by
  rw [Below.heap_setCell _ _ _ _ hb, Below.heap_setCell _ _ _ _ hb, Below.heap_setCell _ _ _ _ hb]
theorem below_row3 {W : World} {B D o : Nat} (hD : D ≤ B) (x' y' z' : Value) : Below D W (((W.setCell ⟨B, o, none⟩ x').setCell ⟨B, o + 1, none⟩ y').setCell ⟨B, o + 2, none⟩ z') :=
  (((Below.refl D W).setCell (p := ⟨B, o, none⟩) hD x').setCell (p := ⟨B, o + 1, none⟩) hD y').setCell (p := ⟨B, o + 2, none⟩) hD z'
theorem KRow.put {c B : Nat} {L : List Tm} {vs : Nat → Value} {w : World} (h : KRow c B L vs w) (hj : L.length < c) (t : Tm) (v : Value) :
    KRow c B (L ++ [t]) (fun i => if i < L.length then vs i else v) (((w.setCell ⟨B, L.length * 3, none⟩ (.int .i64 t.k)).setCell ⟨B, L.length * 3 + 1, none⟩ (.int .i64 t.n)).setCell ⟨B, L.length * 3 + 2, none⟩ v) := by
  obtain ⟨cs, h1, h2, h3⟩ := h
  refine ⟨_, row_store3 h1 _ _ _ _, by simpa using h2, fun i hi => ?_⟩
  simp only [List.length_append, List.length_singleton] at hi
  by_cases hil : i < L.length
  · obtain ⟨a1, a2, a3⟩ := h3 i hil
    simp only [if_pos hil]
    rw [List.getElem_append_left hil]
    refine ⟨?_, ?_, ?_⟩
    · rw [Array.getElem?_setIfInBounds_ne (by omega), Array.getElem?_setIfInBounds_ne (by omega), Array.getElem?_setIfInBounds_ne (by omega)]; exact a1
    · rw [Array.getElem?_setIfInBounds_ne (by omega), Array.getElem?_setIfInBounds_ne (by omega), Array.getElem?_setIfInBounds_ne (by omega)]; exact a2
    · rw [Array.getElem?_setIfInBounds_ne (by omega), Array.getElem?_setIfInBounds_ne (by omega), Array.getElem?_setIfInBounds_ne (by omega)]; exact a3
  · obtain rfl : i = L.length := by omega
    rw [List.getElem_append_right (Nat.le_refl _)]
    simp only [if_neg hil, Nat.sub_self, List.getElem_singleton]
    refine ⟨?_, ?_, ?_⟩
    · rw [Array.getElem?_setIfInBounds_ne (by omega), Array.getElem?_setIfInBounds_ne (by omega), Array.getElem?_setIfInBounds_self_of_lt (by omega)]
    · rw [Array.getElem?_setIfInBounds_ne (by omega), Array.getElem?_setIfInBounds_self_of_lt (by simp; omega)]
    · rw [Array.getElem?_setIfInBounds_self_of_lt (by simp; omega)]
theorem KRow.ats {S : Nat → Prop} {c B : Nat} {L : List Tm} {vs : Nat → Value} {w : World} (h : KRow c B L vs w) (hL : L.length = c) (hc : c ≤ maxLen) (hS : S B) (hs : ∀ i (h : i < L.length), AtS S w L[i].kids (vs i)) : AtS S w L (.slice (some ⟨B, 0, none⟩) c c) := by
  obtain ⟨cs, h1, h2, h3⟩ := h
  subst hL
  refine .row L B 0 L.length vs (fun _ => hS) (Nat.le_refl _) hc (fun i hi => ?_) (fun i hi => ?_) (fun i hi => ?_) hs
  · rw [Nat.zero_add]; simp [World.cell?, h1, (h3 i hi).1]
  · rw [Nat.zero_add]; simp [World.cell?, h1, (h3 i hi).2.1]
  · rw [Nat.zero_add]; simp [World.cell?, h1, (h3 i hi).2.2]
def zerosC (c : Nat) : Array Value := madeCells (Value.agg #[.int .i64 0, .int .i64 0, .slice none 0 0]).cells (c * 3)
theorem run_makeT (c : Nat) (hc : c ≤ 1099511627776) (w : World) : (Instr.makeSlice 22 (.int .i64 (c : Int)) (.int .i64 (c : Int))).run Try.prog w = .ok (.slice (some ⟨w.heap.size, 0, none⟩) c c) (w.alloc (.cells (zerosC c) 24)) := by
  obtain ⟨i0, hi, hz0, hz1, hz2⟩ := info_parts Try.infoT
  have := run_make (P := Try.prog) w 22 24 i0 _ Try.underlying22 hi hz0 .i64 .i64 (c : Int) (c : Int) (by omega) (Int.le_refl _) (by rw [hz2]; omega) (by omega)
  rw [hz1] at this
  exact this
theorem krow_new (w : World) (c : Nat) (vs : Nat → Value) : KRow c w.heap.size [] vs (w.alloc (.cells (zerosC c) 24)) :=
  ⟨zerosC c, World.alloc_heap_new w _, size_madeCells _ _, fun i hi => absurd hi (Nat.not_lt_zero _)⟩
end Go.Proofs.Ytblebboamopffaa
