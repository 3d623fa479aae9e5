/- A term that is built in a box: its Kids are appended one by one to a row of the call's own. No conditions. -/
import Derived.Test.YtbfefpejcefnhaaCt
import Derived.Test.YtbfefpejcefnhaaKr
import Derived.Test.YtbfefpejcefnhaaSn
import Derived.Deep.AppendLies
import Derived.Lib.SmallJoins
import Derived.OneCell
namespace Go.Proofs.Ytbfefpejcefnhaa
open Go.RowKit Go Go.Joins
set_option linter.unusedVariables false

/-- A term that is told, its Kids in new memory, alone or beside something. -/
def TellA (w : World) (r : Tm) (e : Ending) (w' : World) : Prop := ∃ a cap, e = .returned (.agg #[.int .i64 r.k, .int .i64 r.n, .slice a r.kids.length cap]) ∧ AtS (fun b => w.heap.size ≤ b ∧ b < w'.heap.size) w' r.kids (.slice a r.kids.length cap) ∧ Below w.heap.size w w'
def TellS (w : World) (r : Tm) (x : Value) (e : Ending) (w' : World) : Prop := ∃ a cap, e = .returned (.tuple #[.agg #[.int .i64 r.k, .int .i64 r.n, .slice a r.kids.length cap], x]) ∧ AtS (fun b => w.heap.size ≤ b ∧ b < w'.heap.size) w' r.kids (.slice a r.kids.length cap) ∧ Below w.heap.size w w'

/-- Box B holds a term whose Kids so far are L, in a row behind it. -/
def AppInv (B : Nat) (k n : Int) (L : List Tm) (wr : World) : Prop := ∃ (vs : Nat → Value) (aK : Option Addr) (cK : Nat), wr.heap[B]? = some (.cells #[.int .i64 k, .int .i64 n, .slice aK L.length cK] 24 (0, 0)) ∧
  wr.ownsRow (B + 1) 24 3 (.slice aK L.length cK) L.length (cells3 L vs) ∧ ∀ i (_ : i < L.length), AtS (fun b => B + 1 ≤ b ∧ b < wr.heap.size ∧ some b ≠ (Value.slice aK L.length cK).ownBlock) wr L[i].kids (vs i)
theorem AppInv.start {B : Nat} {k n : Int} {w : World} (h : w.heap[B]? = some (.cells #[.int .i64 k, .int .i64 n, .slice none 0 0] 24 (0, 0))) : AppInv B k n [] w :=
  ⟨fun _ => .slice none 0 0, none, 0, h, World.ownsRow_nil _ _ _ _, fun i hi => absurd hi (Nat.not_lt_zero _)⟩
theorem AppInv.keep {B : Nat} {k n : Int} {L : List Tm} {w w' : World} (h : AppInv B k n L w) (hb : Below w.heap.size w w') : AppInv B k n L w' := by
  obtain ⟨vs, aK, cK, h1, h2, h3⟩ := h
  refine ⟨vs, aK, cK, (hb.block B (Array.getElem?_eq_some_iff.1 h1).1).trans h1, h2.kept (row := none) ⟨hb.os, hb.tape, hb.output, hb.size, fun k hk _ => hb.block k hk⟩ (by cases (Value.slice aK L.length cK).ownBlock <;> simp), fun i hi => (h3 i hi).same fun b hb' => ⟨⟨hb'.1, Nat.lt_of_lt_of_le hb'.2.1 hb.size, hb'.2.2⟩, hb.block b hb'.2.1⟩⟩
/-- The Kids of the box are read off as a term's Kids. -/
theorem AppInv.ats {B : Nat} {k n : Int} {L : List Tm} {w : World} {vs : Nat → Value} {aK : Option Addr} {cK : Nat} (h2 : w.ownsRow (B + 1) 24 3 (.slice aK L.length cK) L.length (cells3 L vs)) (h3 : ∀ i (_ : i < L.length), AtS (fun b => B + 1 ≤ b ∧ b < w.heap.size ∧ some b ≠ (Value.slice aK L.length cK).ownBlock) w L[i].kids (vs i)) :
    AtS (fun b => B + 1 ≤ b ∧ b < w.heap.size) w L (.slice aK L.length cK) :=
  ats_of_row h2 (fun b hb => h2.lt b hb) fun i hi => (h3 i hi).same fun b hb => ⟨⟨hb.1, hb.2.1⟩, rfl⟩
/-- One Kid more: it was boxed anew (o), appended, and the row stored into the box. -/
theorem app_step {w5 w7 : World} {B g cap cu : Nat} {k n : Int} {L : List Tm} {u : Tm} {vs : Nat → Value} {aK au : Option Addr} {cK : Nat} {o : Obj}
    (hbx : w5.heap[B]? = some (.cells #[.int .i64 k, .int .i64 n, .slice aK L.length cK] 24 (0, 0)))
    (hO : w5.ownsRow (B + 1) 24 3 (.slice aK L.length cK) L.length (cells3 L vs)) (hats : ∀ i (_ : i < L.length), AtS (fun b => B + 1 ≤ b ∧ b < w5.heap.size ∧ some b ≠ (Value.slice aK L.length cK).ownBlock) w5 L[i].kids (vs i))
    (hu : AtS (fun b => B + 1 ≤ b ∧ b < w5.heap.size ∧ some b ≠ (Value.slice aK L.length cK).ownBlock) w5 u.kids (.slice au u.kids.length cu))
    (hown7 : w7.ownsRow (B + 1) 24 3 (.slice (some ⟨g, 0, none⟩) (L.length + 1) cap) (L.length + 1) (cells3 L vs ++ [.int .i64 u.k, .int .i64 u.n, .slice au u.kids.length cu]))
    (hgrow : (w5.alloc o).grownBy w7 (Value.slice aK L.length cK).ownBlock) (hat : (Value.slice aK L.length cK).ownBlock = some g ∨ g = w5.heap.size + 1) :
    AppInv B k n (L ++ [u]) (w7.setCell ⟨B, 2, none⟩ (.slice (some ⟨g, 0, none⟩) (L.length + 1) cap)) ∧ Below B w5 (w7.setCell ⟨B, 2, none⟩ (.slice (some ⟨g, 0, none⟩) (L.length + 1) cap)) := by
  have hBl : B < w5.heap.size := (Array.getElem?_eq_some_iff.1 hbx).1
  have hol := hO.lt
  have hz7 := hgrow.size
  simp only [World.size_alloc] at hz7
  have hnow : ∀ b, b ≤ B → some b ≠ (Value.slice aK L.length cK).ownBlock := fun b hb e => by have := (hol b e.symm).1; omega
  have hl7 := hown7.lt g rfl
  have blk : ∀ b, b < w5.heap.size → some b ≠ (Value.slice aK L.length cK).ownBlock → w7.heap[b]? = w5.heap[b]? := fun b hb hne => (hgrow.block b (by simp; omega) hne).trans (Below.heap_alloc w5 _ b hb)
  have hgne : ∀ b, b < w5.heap.size → some b ≠ (Value.slice aK L.length cK).ownBlock → b ≠ g := fun b hb hne e => by
    rcases hat with h | h
    · exact hne (by rw [h, e])
    · omega
  have hb7 : Below (B + 1) w5 w7 := ((Below.refl (B + 1) w5).alloc (by omega) o).grown hgrow (by simp; omega) (fun k hk => (hol k hk).1)
  have hs7 := (hb7.block B (by omega)).trans hbx
  have hlen : (L ++ [u]).length = L.length + 1 := by simp
  refine ⟨⟨fun i => if i < L.length then vs i else .slice au u.kids.length cu, some ⟨g, 0, none⟩, cap, ?_, ?_, fun i hi => ?_⟩, (hb7.mono (Nat.le_succ B)).setCell (Nat.le_refl _) _⟩
  · rw [hlen]; exact heap_setCell_same w7 B 2 _ _ _ hs7
  · rw [hlen, cells3_snoc L u vs _ (fun i hi => by rw [if_pos hi]), if_neg (by omega)]
    exact ownsRow_setCell_other hown7 (by simp [Value.ownBlock]; omega) _
  · have fin : ∀ b, (B + 1 ≤ b ∧ b < w5.heap.size ∧ some b ≠ (Value.slice aK L.length cK).ownBlock) → (B + 1 ≤ b ∧ b < (w7.setCell ⟨B, 2, none⟩ (.slice (some ⟨g, 0, none⟩) (L.length + 1) cap)).heap.size ∧ some b ≠ (Value.slice (some ⟨g, 0, none⟩) (L ++ [u]).length cap).ownBlock) ∧ (w7.setCell ⟨B, 2, none⟩ (.slice (some ⟨g, 0, none⟩) (L.length + 1) cap)).heap[b]? = w5.heap[b]? := fun b ⟨q1, q2, q3⟩ =>
      ⟨⟨q1, by simp; omega, by simpa [Value.ownBlock] using hgne b q2 q3⟩, (Below.heap_setCell _ _ _ _ (by dsimp only; omega)).trans (blk b q2 q3)⟩
    by_cases hil : i < L.length
    · simp only [if_pos hil]
      rw [List.getElem_append_left hil]
      exact (hats i hil).same fin
    · obtain rfl : i = L.length := by omega
      simp only [if_neg hil]
      rw [List.getElem_append_right (Nat.le_refl _)]
      simp only [Nat.sub_self, List.getElem_singleton]
      exact hu.same fin
end Go.Proofs.Ytbfefpejcefnhaa
