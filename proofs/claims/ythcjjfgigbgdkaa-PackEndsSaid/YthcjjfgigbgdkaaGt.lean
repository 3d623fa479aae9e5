/- Package pack's reader: take, leaf. -/
import Derived.Test.YthcjjfgigbgdkaaPt
namespace Go.Proofs.Ythcjjfgigbgdkaa
open Go.RowKit Go Go.Joins
set_option linter.unusedVariables false

/-- Bytes that can be read, in another block than rb, below D. -/
def RdN (rb D : Nat) (l : List Int) (v : Value) (w : World) : Prop := ∃ a cap, v = .slice a l.length cap ∧ l.length ≤ cap ∧ cap ≤ maxLen ∧ (a = none → l.length = 0 ∧ cap = 0) ∧
  (0 < l.length → ∃ b off, b ≠ rb ∧ b < D ∧ a = some ⟨b, off, none⟩ ∧ ∀ i (_ : i < l.length), w.cell? ⟨b, off + i, none⟩ = some (.int .u8 l[i]))
/-- All but the block rb stays. -/
def KeepR (rb : Nat) (w w' : World) : Prop := w.heap.size ≤ w'.heap.size ∧ w'.os = w.os ∧ w'.tape = w.tape ∧ w'.output = w.output ∧ ∀ b, b < w.heap.size → b ≠ rb → w'.heap[b]? = w.heap[b]?
theorem KeepR.rfl' (rb : Nat) (w : World) : KeepR rb w w := ⟨Nat.le_refl _, rfl, rfl, rfl, fun _ _ _ => rfl⟩
theorem KeepR.trans {rb : Nat} {a b c : World} (h : KeepR rb a b) (k : KeepR rb b c) : KeepR rb a c :=
  ⟨Nat.le_trans h.1 k.1, k.2.1.trans h.2.1, k.2.2.1.trans h.2.2.1, k.2.2.2.1.trans h.2.2.2.1, fun x hx hn => (k.2.2.2.2 x (Nat.lt_of_lt_of_le hx h.1) hn).trans (h.2.2.2.2 x hx hn)⟩
theorem KeepR.of {rb : Nat} {a b : World} (h : Below a.heap.size a b) : KeepR rb a b := ⟨h.size, h.os, h.tape, h.output, fun x hx _ => h.block x hx⟩
theorem KeepR.trans' {rb : Nat} {a b c : World} (h : KeepR rb a b) (k : Below a.heap.size b c) : KeepR rb a c :=
  ⟨Nat.le_trans h.1 k.size, k.os.trans h.2.1, k.tape.trans h.2.2.1, k.output.trans h.2.2.2.1, fun x hx hn => (k.block x hx).trans (h.2.2.2.2 x hx hn)⟩
theorem KeepR.cell {rb : Nat} {w w' : World} (h : KeepR rb w w') {a : Addr} {v : Value} (hn : a.block ≠ rb) (hc : w.cell? a = some v) : w'.cell? a = some v := by
  have hb := h.2.2.2.2 a.block (World.block_lt_of_cell? w _ hc) hn
  unfold World.cell? at hc ⊢
  rw [hb]; exact hc
theorem RdN.keep {rb D : Nat} {l : List Int} {v : Value} {w w' : World} (h : RdN rb D l v w) (hk : KeepR rb w w') : RdN rb D l v w' := by
  obtain ⟨a, cap, h1, h2, h3, h4, h5⟩ := h
  refine ⟨a, cap, h1, h2, h3, h4, fun hl => ?_⟩
  obtain ⟨b, off, h6, hD, h7, h8⟩ := h5 hl
  exact ⟨b, off, h6, hD, h7, fun i hi => hk.cell h6 (h8 i hi)⟩
theorem RdN.rd {rb D : Nat} {l : List Int} {v : Value} {w : World} (h : RdN rb D l v w) : RdBy l v w := by
  obtain ⟨a, cap, h1, h2, h3, h4, h5⟩ := h
  refine ⟨a, cap, h1, h2, h3, h4, fun hl => ?_⟩
  obtain ⟨b, off, _, _, h7, h8⟩ := h5 hl
  exact ⟨b, off, h7, h8⟩
/-- The reader: its two fields. -/
def Rdr (rb D : Nat) (l : List Int) (n : Int) (w : World) : Prop := ∃ v, w.heap[rb]? = some (.cells #[v, .int .i64 n] 80 (0, 0)) ∧ RdN rb D l v w
theorem RdN.same {rb D : Nat} {l : List Int} {v : Value} {w w' : World} (h : RdN rb D l v w) (hk : ∀ b, b < D → b ≠ rb → w'.heap[b]? = w.heap[b]?) : RdN rb D l v w' := by
  obtain ⟨a, cap, h1, h2, h3, h4, h5⟩ := h
  refine ⟨a, cap, h1, h2, h3, h4, fun hl => ?_⟩
  obtain ⟨b, off, h6, hD, h7, h8⟩ := h5 hl
  exact ⟨b, off, h6, hD, h7, fun i hi => by rw [World.cell?_of_block (w := w) (hk b hD h6)]; exact h8 i hi⟩
theorem Rdr.same {rb D : Nat} {l : List Int} {n : Int} {w w' : World} (h : Rdr rb D l n w) (hr : rb < D) (hk : ∀ b, b < D → w'.heap[b]? = w.heap[b]?) : Rdr rb D l n w' := by
  obtain ⟨v, h1, h2⟩ := h
  exact ⟨v, (hk rb hr).trans h1, h2.same fun b hb _ => hk b hb⟩
theorem Rdr.lt {rb D : Nat} {l : List Int} {n : Int} {w : World} (h : Rdr rb D l n w) : rb < w.heap.size := by
  obtain ⟨v, h1, _⟩ := h
  exact (Array.getElem?_eq_some_iff.1 h1).1
theorem cell2 {W : World} {B : Nat} {ty : TypeId} {x y : Value} (h : W.heap[B]? = some (.cells #[x, y] ty (0, 0))) :
    (W.cell? ⟨B, 0, none⟩ = some x ∧ W.cell? ⟨B, 1, none⟩ = some y) ∧ (W.frozen? ⟨B, 0, none⟩ = false ∧ W.frozen? ⟨B, 1, none⟩ = false) := by
  refine ⟨⟨?_, ?_⟩, ?_, ?_⟩
  · simp [World.cell?, h]
  · simp [World.cell?, h]
  · simp [World.frozen?, h]
  · simp [World.frozen?, h]

theorem KeepR.set (rb : Nat) (w : World) (o : Nat) (v : Value) : KeepR rb w (w.setCell ⟨rb, o, none⟩ v) :=
  ⟨by simp, by simp [World.setCell], by simp [World.setCell], by simp [World.setCell], fun b hb hn => Below.heap_setCell _ _ _ _ (by simpa using hn)⟩
theorem RdN.head {rb D b off c cap : Nat} {l : List Int} {w : World} (hbr : b ≠ rb) (hD : b < D) (h2 : l.length ≤ cap) (h3 : cap ≤ maxLen) (hc : c ≤ l.length) (hcell : ∀ i (_ : i < l.length), w.cell? ⟨b, off + i, none⟩ = some (.int .u8 l[i])) : RdN rb D (l.take c) (.slice (some ⟨b, off, none⟩) c cap) w := by
  have hl : (l.take c).length = c := by simp; omega
  refine ⟨_, cap, by rw [hl], by omega, h3, (fun h => by cases h), fun _ => ⟨b, off, hbr, hD, rfl, fun i hi => ?_⟩⟩
  rw [hcell i (by omega)]
  simp
theorem RdN.tail {rb D b off c cap : Nat} {l : List Int} {w : World} (hbr : b ≠ rb) (hD : b < D) (h2 : l.length ≤ cap) (h3 : cap ≤ maxLen) (hc : c ≤ l.length) (hcell : ∀ i (_ : i < l.length), w.cell? ⟨b, off + i, none⟩ = some (.int .u8 l[i])) : RdN rb D (l.drop c) (.slice (some ⟨b, off + c, none⟩) (l.length - c) (cap - c)) w := by
  have hl : (l.drop c).length = l.length - c := by simp
  refine ⟨_, cap - c, by rw [hl], by omega, by omega, (fun h => by cases h), fun _ => ⟨b, off + c, hbr, hD, rfl, fun i hi => ?_⟩⟩
  rw [Nat.add_assoc, hcell (c + i) (by omega)]
  simp
theorem RdN.tail0 {rb D b off c : Nat} {l : List Int} {w : World} (hbr : b ≠ rb) (hc : l.length = c) : RdN rb D (l.drop c) (.slice (some ⟨b, off, none⟩) (l.length - c) 0) w := by
  have hl : (l.drop c).length = l.length - c := by simp
  exact ⟨_, 0, by rw [hl], by omega, by decide, (fun h => by cases h), fun _ => by omega⟩

set_option maxRecDepth 100000 in
set_option maxHeartbeats 1600000 in
theorem take_any (rb D : Nat) (l : List Int) (n : Int) (c : Nat) (hc : c ≤ 2) (hc0 : 0 < c) (w : World) (hR : Rdr rb D l n w) (hl : l.length ≤ 1099511627776) :
    Calls Try.prog 71 #[.pointer (some ⟨rb, 0, none⟩), .int .i64 c] w fun e w' => KeepR rb w w' ∧ (l.length < c → e = .returned (.tuple #[.slice none 0 0, .bool false]) ∧ w' = w) ∧
      (c ≤ l.length → ∃ v', e = .returned (.tuple #[v', .bool true]) ∧ RdN rb D (l.take c) v' w' ∧ Rdr rb D (l.drop c) n w') := by
  obtain ⟨v, hb, a, cap, rfl, h2, h3, h4, h5⟩ := hR
  obtain ⟨⟨x0, x1⟩, y0, y1⟩ := cell2 hb
  have HB := Lib.hid hb
  have H5 := Lib.hid h5
  by_cases hlt : l.length < c
  · have e1 : (l.length : Int) < (c : Int) := by omega
    clear hb h4 h5
    go_enter Try.func71, Try.ntmps71
    go_wp2_with fail
    go_ret2
    exact ⟨KeepR.rfl' _ _, fun _ => ⟨rfl, rfl⟩, fun h => by omega⟩
  · have e1 : decide ((l.length : Int) < (c : Int)) = false := by simp; omega
    obtain ⟨b, off, hbr, hD, rfl, hcell⟩ := h5 (by omega)
    have HC := Lib.hid hcell
    have hc1 : (c : Int) ≤ (l.length : Int) := by omega
    have hc2 : (c : Int) ≤ (cap : Int) := by omega
    have hc3 : (0 : Int) ≤ (c : Int) := by omega
    clear hb h4 h5 hcell H5
    go_enter Try.func71, Try.ntmps71
    go_wp2_with fail
    · have hcc : cap = c := by omega
      rw [hcc] at h2 h3
      go_ret2
      have hk := KeepR.set rb w 0 (.slice (some ⟨b, off, none⟩) (l.length - c) 0)
      exact ⟨hk, fun _ => ⟨_, rfl, (RdN.head hbr hD h2 h3 (by omega) HC.out).keep hk, _, heap_setCell_same w rb 0 _ _ _ HB.out, (RdN.tail0 hbr (by omega)).keep hk⟩⟩
    · go_ret2
      have hk := KeepR.set rb w 0 (.slice (some ⟨b, off + c, none⟩) (l.length - c) (cap - c))
      exact ⟨hk, fun _ => ⟨_, rfl, (RdN.head hbr hD h2 h3 (by omega) HC.out).keep hk, _, heap_setCell_same w rb 0 _ _ _ HB.out, (RdN.tail hbr hD h2 h3 (by omega) HC.out).keep hk⟩⟩
end Go.Proofs.Ythcjjfgigbgdkaa
