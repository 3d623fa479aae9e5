/- A twin of a term is that term, in new memory. -/
import Derived.Test.YtcegocmndfoflaaTw
import Derived.Test.YtcegocmndfoflaaRefD
import Derived.Deep.RegionWith
namespace Go.Proofs.Ytcegocmndfoflaa
open Go.RowKit Go.Joins

theorem twin_end {w w1 W2 : World} {t : Tm} {a1 : Option Addr} {cap1 : Nat} (hz : w.heap.size + 2 ≤ W2.heap.size) (hBw : Below w.heap.size w w1)
    (hs1 : AtS (fun b => W2.heap.size ≤ b ∧ b < w1.heap.size) w1 t.kids (.slice a1 t.kids.length cap1)) (hr1 : ∃ vs, w1.ownsRow W2.heap.size 42 3 (.slice a1 t.kids.length cap1) t.kids.length (cells3 t.kids vs) ∧ ∀ i (_ : i < t.kids.length), AtS (fun b => W2.heap.size ≤ b ∧ b < w1.heap.size ∧ some b ≠ (Value.slice a1 t.kids.length cap1).ownBlock) w1 t.kids[i].kids (vs i)) (x y z : Value) :
    TwinPost w t (.returned (.agg #[.int .i64 t.k, .int .i64 t.n, .slice a1 t.kids.length cap1])) (((w1.setCell ⟨w.heap.size + 1, 0, none⟩ x).setCell ⟨w.heap.size + 1, 1, none⟩ y).setCell ⟨w.heap.size + 1, 2, none⟩ z) := by
  obtain ⟨vs, hr, hk⟩ := hr1
  have hne : (Value.slice a1 t.kids.length cap1).ownBlock ≠ some (w.heap.size + 1) := fun e => by have := (hr.lt _ e).1; omega
  have h1 := ownsRow_setCell_other (ownsRow_setCell_other (ownsRow_setCell_other hr (a := ⟨w.heap.size + 1, 0, none⟩) hne x) (a := ⟨w.heap.size + 1, 1, none⟩) hne y) (a := ⟨w.heap.size + 1, 2, none⟩) hne z
  refine ⟨a1, cap1, rfl, hs1.same fun b hb => ⟨⟨by omega, by simpa [World.setCell] using hb.2⟩, ?_⟩, ⟨vs, ownsRow_le h1 (by omega), fun i hi => (hk i hi).same fun b hb => ⟨⟨by omega, by simpa [World.setCell] using hb.2.1, hb.2.2⟩, by rw [Below.heap_setCell _ _ _ _ (by dsimp only; omega), Below.heap_setCell _ _ _ _ (by dsimp only; omega), Below.heap_setCell _ _ _ _ (by dsimp only; omega)]⟩⟩, ((hBw.setCell (by dsimp only; omega) _).setCell (by dsimp only; omega) _).setCell (by dsimp only; omega) _⟩
  rw [Below.heap_setCell _ _ _ _ (by dsimp only; omega), Below.heap_setCell _ _ _ _ (by dsimp only; omega), Below.heap_setCell _ _ _ _ (by dsimp only; omega)]

set_option maxRecDepth 100000 in
set_option maxHeartbeats 3000000 in
theorem twin_any : ∀ (t : Tm), size t < 2147483648 → TwinOk t := by
  refine tm_ind fun t ih => ?_
  intro hs w v hA
  have hse := size_eq t
  have hle := length_le_sizeL t.kids
  obtain ⟨a, cap, rfl⟩ := hA.shape
  have HI := Lib.hid (fun w hA => twins_any t.kids (by omega) (fun u hu => ih u hu (by have := size_le_of_mem hu; omega)) w (.slice a t.kids.length cap) hA)
  have hX := Lib.hid (start3 w t (.slice a t.kids.length cap) 42 hA)
  have hA2 := ((hA.alloc (.cells #[.int .i64 t.k, .int .i64 t.n, .slice a t.kids.length cap] 42)).alloc (.cells #[.int .i64 0, .int .i64 0, .slice none 0 0] 42)).drew
  have HB : Hid (∀ w1, Below (((w.alloc (.cells #[.int .i64 t.k, .int .i64 t.n, .slice a t.kids.length cap] 42)).alloc (.cells #[.int .i64 0, .int .i64 0, .slice none 0 0] 42)).drew).heap.size (((w.alloc (.cells #[.int .i64 t.k, .int .i64 t.n, .slice a t.kids.length cap] 42)).alloc (.cells #[.int .i64 0, .int .i64 0, .slice none 0 0] 42)).drew) w1 →
      (w1.cell? ⟨w.heap.size, 0, none⟩ = some (.int .i64 t.k) ∧ w1.cell? ⟨w.heap.size, 1, none⟩ = some (.int .i64 t.n)) ∧ (w1.cell? ⟨w.heap.size + 1, 0, none⟩ = some (.int .i64 0) ∧ w1.cell? ⟨w.heap.size + 1, 1, none⟩ = some (.int .i64 0) ∧ w1.cell? ⟨w.heap.size + 1, 2, none⟩ = some (.slice none 0 0)) ∧
      (w1.frozen? ⟨w.heap.size + 1, 0, none⟩ = false ∧ w1.frozen? ⟨w.heap.size + 1, 1, none⟩ = false ∧ w1.frozen? ⟨w.heap.size + 1, 2, none⟩ = false) ∧ Below w.heap.size w w1 ∧ w.heap.size + 2 ≤ w1.heap.size) := by
    intro w1 hb
    have h0 := ((box3_new w t (.slice a t.kids.length cap) 42).bel (below_al _ (.cells #[.int .i64 0, .int .i64 0, .slice none 0 0] 42))).bel ((Below.refl _ _).drew)
    have h1 := h0.bel hb
    have hn := World.alloc_heap_new (w.alloc (.cells #[.int .i64 t.k, .int .i64 t.n, .slice a t.kids.length cap] 42)) (.cells #[.int .i64 0, .int .i64 0, .slice none 0 0] 42)
    rw [World.size_alloc] at hn
    have hn1 : w1.heap[w.heap.size + 1]? = _ := (hb.block (w.heap.size + 1) (by show _ < ((w.alloc _).alloc _).heap.size; simp)).trans hn
    refine ⟨⟨h1.2.1, h1.2.2.1⟩, ?_, ?_, ?_, ?_⟩
    · refine ⟨?_, ?_, ?_⟩ <;> simp [World.cell?, hn1]
    · refine ⟨?_, ?_, ?_⟩ <;> simp [World.frozen?, hn1]
    · exact ((((Below.refl _ w).alloc (Nat.le_refl _) _).alloc (by simp) _).drew).trans (hb.mono (by show _ ≤ ((w.alloc _).alloc _).heap.size; simp; omega))
    · have := hb.size
      have e : (((w.alloc (.cells #[.int .i64 t.k, .int .i64 t.n, .slice a t.kids.length cap] 42)).alloc (.cells #[.int .i64 0, .int .i64 0, .slice none 0 0] 42)).drew).heap.size = w.heap.size + 2 := by show ((w.alloc _).alloc _).heap.size = _; simp
      omega
  clear ih hs hse hle hA hX
  have HI := Lib.hid (HI.out _ hA2)
  clear hA2
  go_enter Try.func32, Try.ntmps32
  go_wp2_with fail
  go_region_with ((go_at_call 54; refine HI.out.mono ?_; rintro e w1 ⟨a1, cap1, rfl, hs1, hr1, hb1⟩; obtain ⟨⟨x0, x1⟩, ⟨z0, z1, z2⟩, ⟨y0, y1, y2⟩, hBw, hsw⟩ := HB.out w1 hb1))
  all_goals
    go_wp2_with fail
    exact bodyPost_ret (v := .agg #[.int .i64 t.k, .int .i64 t.n, .slice a1 t.kids.length cap1]) (by simp [results, Try.f32, go_sem, z0, z1, z2]) rfl (twin_end (by show _ ≤ ((w.alloc _).alloc _).heap.size; simp) hBw hs1 hr1 _ _ _)
end Go.Proofs.Ytcegocmndfoflaa
