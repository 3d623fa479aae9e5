/- Package tele's couple, isCouple, bind, Pis, Lams. No conditions but sizes. -/
import Derived.Test.YtblebboamopffaaBq
import Derived.Test.YtblebboamopffaaUy
import Derived.Test.YtblebboamopffaaCt
import Derived.Deep.Cut
namespace Go.Proofs.Ytblebboamopffaa
open Go.RowKit Go.Shelf Go Go.Joins
set_option linter.unusedVariables false

set_option maxRecDepth 100000 in
set_option maxHeartbeats 1000000 in
theorem couple_any (k k1 n1 k2 n2 : Int) (a1 a2 : Option Addr) (l1 l2 c1 c2 : Nat) (w : World) :
    Calls Try.prog 38 #[.int .i64 k, .agg #[.int .i64 k1, .int .i64 n1, .slice a1 l1 c1], .agg #[.int .i64 k2, .int .i64 n2, .slice a2 l2 c2]] w fun e w' =>
      e = .returned (.agg #[.int .i64 k, .int .i64 0, .slice (some ⟨w.heap.size + 3, 0, none⟩) 2 2]) ∧ w'.heap[w.heap.size + 3]? = some (.cells #[.int .i64 k1, .int .i64 n1, .slice a1 l1 c1, .int .i64 k2, .int .i64 n2, .slice a2 l2 c2] 24 (0, 0)) ∧ Below w.heap.size w w' := by
  obtain ⟨W3, hW3⟩ : ∃ W3, W3 = ((w.alloc (.cells #[.int .i64 k1, .int .i64 n1, .slice a1 l1 c1] 24)).alloc (.cells #[.int .i64 k2, .int .i64 n2, .slice a2 l2 c2] 24)).alloc (.cells #[.int .i64 0, .int .i64 0, .slice none 0 0] 24) := ⟨_, rfl⟩
  have hB3 : Below w.heap.size w W3 := by rw [hW3]; exact (((Below.refl _ w).alloc (Nat.le_refl _) _).alloc (by simp) _).alloc (by simp; omega) _
  have hz3 : W3.heap.size = w.heap.size + 3 := by rw [hW3]; simp
  have hbx : W3.heap[w.heap.size + 2]? = some (.cells #[.int .i64 0, .int .i64 0, .slice none 0 0] 24 (0, 0)) := by
    rw [hW3]
    have := World.alloc_heap_new ((w.alloc (.cells #[.int .i64 k1, .int .i64 n1, .slice a1 l1 c1] 24)).alloc (.cells #[.int .i64 k2, .int .i64 n2, .slice a2 l2 c2] 24)) (.cells #[.int .i64 0, .int .i64 0, .slice none 0 0] 24)
    simp only [World.size_alloc] at this
    exact this
  obtain ⟨W4, hW4⟩ : ∃ W4, W4 = ((W3.setCell ⟨w.heap.size + 1 + 1, 0, none⟩ (.int .i64 k)).setCell ⟨w.heap.size + 1 + 1, 1, none⟩ (.int .i64 0)).setCell ⟨w.heap.size + 1 + 1, 2, none⟩ (.slice (some ⟨w.heap.size + 3, 0, none⟩) 2 2) := ⟨_, rfl⟩
  have hf4 : W4.heap[w.heap.size + 2]? = some (.cells #[.int .i64 k, .int .i64 0, .slice (some ⟨w.heap.size + 3, 0, none⟩) 2 2] 24 (0, 0)) := by rw [hW4]; exact box_store3 hbx _ _ _
  have hz4 : W4.heap.size = w.heap.size + 3 := by rw [hW4]; simpa using hz3
  have hb4 : Below w.heap.size w W4 := by rw [hW4]; exact hB3.trans (below_store3 (D := w.heap.size) (B := w.heap.size + 2) (W := W3) (by omega) _ _ _)
  have hb5 := below_al W4 (.cells #[.int .i64 k1, .int .i64 n1, .slice a1 l1 c1, .int .i64 k2, .int .i64 n2, .slice a2 l2 c2] 24)
  have hfin := (hb5.block (w.heap.size + 2) (by omega)).trans hf4
  have hn2 := World.alloc_heap_new W4 (.cells #[.int .i64 k1, .int .i64 n1, .slice a1 l1 c1, .int .i64 k2, .int .i64 n2, .slice a2 l2 c2] 24)
  rw [hz4] at hn2
  have hbf := hb4.trans (hb5.mono (by omega))
  have HW4 := Lib.hid hW4
  have HF := Lib.hid hfin
  have HN := Lib.hid hn2
  have HB := Lib.hid hbf
  have hA1 : W3.heap[w.heap.size]? = some (.cells #[.int .i64 k1, .int .i64 n1, .slice a1 l1 c1] 24 (0, 0)) := by
    rw [hW3]
    exact (Below.heap_alloc _ _ _ (by simp; omega)).trans ((Below.heap_alloc _ _ _ (by simp)).trans (World.alloc_heap_new w _))
  have hA2 : W3.heap[w.heap.size + 1]? = some (.cells #[.int .i64 k2, .int .i64 n2, .slice a2 l2 c2] 24 (0, 0)) := by
    rw [hW3]
    have := World.alloc_heap_new (w.alloc (.cells #[.int .i64 k1, .int .i64 n1, .slice a1 l1 c1] 24)) (.cells #[.int .i64 k2, .int .i64 n2, .slice a2 l2 c2] 24)
    simp only [World.size_alloc] at this
    exact (Below.heap_alloc _ _ _ (by simp)).trans this
  have HA1 := Lib.hid hA1
  have HA2 := Lib.hid hA2
  have HBX := Lib.hid hbx
  have HW3 := Lib.hid hW3
  have HZ3 := Lib.hid hz3
  clear hW3 hB3 hz3 hbx hb4 hf4 hz4 hb5 hW4 hfin hn2 hbf hA1 hA2
  go_enter Try.func38, Try.ntmps38
  go_upto_region 1 with (fail)
  rw [← HW3.out]
  obtain ⟨⟨u0, u1, u2⟩, _⟩ := boxc HA1.out
  obtain ⟨⟨v0, v1, v2⟩, _⟩ := boxc HA2.out
  obtain ⟨⟨z0, z1, z2⟩, g0, g1, g2⟩ := boxc HBX.out
  have hz3 := HZ3.out
  go_wp2_with fail
  rw [← HW4.out]
  obtain ⟨⟨s0, s1, s2⟩, _⟩ := boxc HF.out
  exact bodyPost_ret (v := .agg #[.int .i64 k, .int .i64 0, .slice (some ⟨w.heap.size + 3, 0, none⟩) 2 2]) (by simp [results, Try.f38, go_sem, s0, s1, s2]) rfl ⟨rfl, HN.out, HB.out⟩
set_option maxRecDepth 100000 in
set_option maxHeartbeats 1000000 in
theorem iscouple_any (k k1 n1 : Int) (a1 : Option Addr) (l1 c1 : Nat) (w : World) :
    Calls Try.prog 39 #[.int .i64 k, .agg #[.int .i64 k1, .int .i64 n1, .slice a1 l1 c1]] w fun e w' => e = .returned (.bool (decide (k1 = k) && decide (l1 = 2))) ∧ Below w.heap.size w w' := by
  have hb := below_al w (.cells #[.int .i64 k1, .int .i64 n1, .slice a1 l1 c1] 24)
  have HB := Lib.hid hb
  clear hb
  by_cases h1 : k1 = k
  · subst h1
    by_cases h2 : l1 = 2
    · subst h2
      go_enter Try.func39, Try.ntmps39
      go_wp2_with fail
      exact bodyPost_ret (v := .bool true) (by simp [results, Try.f39, go_sem]) rfl ⟨by simp, HB.out⟩
    · have h3 : ((l1 : Int) == 2) = false := by rw [beq_eq_false_iff_ne]; omega
      go_enter Try.func39, Try.ntmps39
      go_wp2_with fail
      exact bodyPost_ret (v := .bool false) (by simp [results, Try.f39, go_sem]) rfl ⟨by simp [h2], HB.out⟩
  · have h3 : (k1 == k) = false := by rw [beq_eq_false_iff_ne]; exact h1
    go_enter Try.func39, Try.ntmps39
    go_wp2_with fail
    exact bodyPost_ret (v := .bool false) (by simp [results, Try.f39, go_sem]) rfl ⟨by simp [h1], HB.out⟩
set_option maxRecDepth 100000 in
theorem backward_any (v : Value) (hv : ∃ a n c, v = .slice a n c) (w : World) :
    Calls Try.prog 49 #[v] w fun e w' => e = .returned (.func (.func 57) #[] #[.pointer (some ⟨w.heap.size, 0, none⟩)]) ∧ w' = w.alloc (.cells #[v] 22) := by
  obtain ⟨a, n, c, rfl⟩ := hv
  go_enter Try.func49, Try.ntmps49
  go_wp2_with fail
  exact bodyPost_ret (v := .func (.func 57) #[] #[.pointer (some ⟨w.heap.size, 0, none⟩)]) (by simp [results, Try.f49, go_sem]) rfl ⟨rfl, rfl⟩
end Go.Proofs.Ytblebboamopffaa
