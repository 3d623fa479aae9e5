/- The page's Nat: its block, in new memory. No conditions. -/
import Derived.Test.YtcegocmndfoflaaHt
namespace Go.Proofs.Ytcegocmndfoflaa
open Go.RowKit
set_option linter.unusedVariables false

def zT : Tm := .node 0 0 []
def natB : BlkT := ⟨[⟨[], 0, false, zT⟩], [⟨0, [], [], zT⟩, ⟨0, [⟨true, zT, [], 0, []⟩], [], zT⟩], 0⟩
set_option maxRecDepth 100000 in
set_option maxHeartbeats 1000000 in
theorem nrec_any (w : World) :
    Calls Try.prog 62 #[.int .i64 0, .slice none 0 0] w fun e w' => e = .returned (.agg #[.bool true, .int .i64 0, .int .i64 0, .slice none 0 0, .slice none 0 0, .int .i64 0, .slice none 0 0]) ∧ Below w.heap.size w w' := by
  have hb := Lib.hid (below_al w (.cells #[.bool false, .int .i64 0, .int .i64 0, .slice none 0 0, .slice none 0 0, .int .i64 0, .slice none 0 0] 49))
  go_enter Try.func62, Try.ntmps62
  go_wp2_with fail
  exact bodyPost_ret (v := .agg #[.bool true, .int .i64 0, .int .i64 0, .slice none 0 0, .slice none 0 0, .int .i64 0, .slice none 0 0]) (by simp [results, Try.f62, go_sem]) rfl ⟨rfl, below_al w _⟩
set_option maxRecDepth 100000 in
set_option maxHeartbeats 1000000 in
theorem ndecl_any (w : World) (vs vc : Value) (el : Int) (h1 : ∃ a n c, vs = .slice a n c) (h2 : ∃ a n c, vc = .slice a n c) :
    Calls Try.prog 61 #[.agg #[vs, vc, .int .i64 el]] w fun e w' => e = .returned (.agg #[.int .i64 3, .int .i64 0, .int .i64 0, .slice none 0 0, .int .i64 0, .int .i64 0, .slice none 0 0, vs, vc, .int .i64 el]) ∧ Below w.heap.size w w' := by
  obtain ⟨a1, n1, c1, rfl⟩ := h1
  obtain ⟨a2, n2, c2, rfl⟩ := h2
  go_enter Try.func61, Try.ntmps61
  go_wp2_with fail
  have hb1 := below_al w (.cells #[.slice a1 n1 c1, .slice a2 n2 c2, .int .i64 el] 25)
  exact bodyPost_ret (v := .agg #[.int .i64 3, .int .i64 0, .int .i64 0, .slice none 0 0, .int .i64 0, .int .i64 0, .slice none 0 0, .slice a1 n1 c1, .slice a2 n2 c2, .int .i64 el]) (by simp [results, Try.f61, go_sem]) rfl ⟨rfl, hb1.trans ((below_al _ _).mono hb1.size)⟩
theorem nat_at {W : World} {S A C : Nat} (hS : W.heap[S]? = some (.cells #[.slice none 0 0, .int .i64 0, .bool false, .int .i64 0, .int .i64 0, .slice none 0 0] 44)) (hA : W.heap[A]? = some (.cells #[.bool true, .int .i64 0, .int .i64 0, .slice none 0 0, .slice none 0 0, .int .i64 0, .slice none 0 0] 49)) (hC : W.heap[C]? = some (.cells #[.int .i64 0, .slice none 0 0, .slice none 0 0, .int .i64 0, .int .i64 0, .slice none 0 0, .int .i64 0, .slice (some ⟨A, 0, none⟩) 1 1, .slice none 0 0, .int .i64 0, .int .i64 0, .slice none 0 0] 46)) : BAt W natB (.slice (some ⟨S, 0, none⟩) 1 1) (.slice (some ⟨C, 0, none⟩) 2 2) := by
  have hAr : ARow W [⟨true, zT, [], 0, []⟩] (.slice (some ⟨A, 0, none⟩) 1 1) := by
    refine GAt.row [(⟨true, zT, [], 0, []⟩ : ArgT)] A 0 1 (fun _ => [.bool true, .int .i64 0, .int .i64 0, .slice none 0 0, .slice none 0 0, .int .i64 0, .slice none 0 0]) (by decide) (by decide) (by decide) (fun i hi => ?_) (fun i hi r hr => ?_)
    · obtain rfl : i = 0 := by simpa using hi
      exact ⟨⟨.slice none 0 0, .slice none 0 0, .slice none 0 0, rfl, .nl, .nl, .nl⟩, rfl⟩
    · obtain rfl : i = 0 := by simpa using hi
      simp [World.cell?, hA]
  refine ⟨?_, ?_⟩
  · refine GAt.row [(⟨[], 0, false, zT⟩ : SortT)] S 0 1 (fun _ => [.slice none 0 0, .int .i64 0, .bool false, .int .i64 0, .int .i64 0, .slice none 0 0]) (by decide) (by decide) (by decide) (fun i hi => ?_) (fun i hi r hr => ?_)
    · obtain rfl : i = 0 := by simpa using hi
      exact ⟨⟨.slice none 0 0, .slice none 0 0, rfl, .nl, .nl⟩, rfl⟩
    · obtain rfl : i = 0 := by simpa using hi
      simp [World.cell?, hS]
  · refine GAt.row [(⟨0, [], [], zT⟩ : ConT), ⟨0, [⟨true, zT, [], 0, []⟩], [], zT⟩] C 0 2 (fun i => if i = 0 then [.int .i64 0, .slice none 0 0, .slice none 0 0, .int .i64 0, .int .i64 0, .slice none 0 0] else [.int .i64 0, .slice (some ⟨A, 0, none⟩) 1 1, .slice none 0 0, .int .i64 0, .int .i64 0, .slice none 0 0]) (by decide) (by decide) (by decide) (fun i hi => ?_) (fun i hi r hr => ?_)
    · have h2 : i < 2 := hi
      have : i = 0 ∨ i = 1 := by omega
      rcases this with rfl | rfl
      · exact ⟨⟨.slice none 0 0, .slice none 0 0, .slice none 0 0, rfl, .nl, .nl, .nl⟩, rfl⟩
      · exact ⟨⟨.slice (some ⟨A, 0, none⟩) 1 1, .slice none 0 0, .slice none 0 0, rfl, hAr, .nl, .nl⟩, rfl⟩
    · have h2 : i < 2 := hi
      have : i = 0 ∨ i = 1 := by omega
      have hr6 : r = 0 ∨ r = 1 ∨ r = 2 ∨ r = 3 ∨ r = 4 ∨ r = 5 := by omega
      rcases this with rfl | rfl <;> rcases hr6 with rfl | rfl | rfl | rfl | rfl | rfl <;> simp [World.cell?, hC]
theorem below_store10 {W : World} {B D : Nat} (hD : D ≤ B) (x0 x1 x2 x3 x4 x5 x6 x7 x8 x9 : Value) : Below D W ((((((((((W.setCell ⟨B, 0, none⟩ x0).setCell ⟨B, 1, none⟩ x1).setCell ⟨B, 2, none⟩ x2).setCell ⟨B, 3, none⟩ x3).setCell ⟨B, 4, none⟩ x4).setCell ⟨B, 5, none⟩ x5).setCell ⟨B, 6, none⟩ x6).setCell ⟨B, 7, none⟩ x7).setCell ⟨B, 8, none⟩ x8).setCell ⟨B, 9, none⟩ x9) := (((((((((((Below.refl D W).setCell (p := ⟨B, 0, none⟩) hD x0).setCell (p := ⟨B, 1, none⟩) hD x1).setCell (p := ⟨B, 2, none⟩) hD x2).setCell (p := ⟨B, 3, none⟩) hD x3).setCell (p := ⟨B, 4, none⟩) hD x4).setCell (p := ⟨B, 5, none⟩) hD x5).setCell (p := ⟨B, 6, none⟩) hD x6).setCell (p := ⟨B, 7, none⟩) hD x7).setCell (p := ⟨B, 8, none⟩) hD x8).setCell (p := ⟨B, 9, none⟩) hD x9)
theorem other_store10 {W : World} {B b : Nat} (hb : b ≠ B) (x0 x1 x2 x3 x4 x5 x6 x7 x8 x9 : Value) : ((((((((((W.setCell ⟨B, 0, none⟩ x0).setCell ⟨B, 1, none⟩ x1).setCell ⟨B, 2, none⟩ x2).setCell ⟨B, 3, none⟩ x3).setCell ⟨B, 4, none⟩ x4).setCell ⟨B, 5, none⟩ x5).setCell ⟨B, 6, none⟩ x6).setCell ⟨B, 7, none⟩ x7).setCell ⟨B, 8, none⟩ x8).setCell ⟨B, 9, none⟩ x9).heap[b]? = W.heap[b]? := by
  rw [Below.heap_setCell _ _ _ _ (by simpa using hb), Below.heap_setCell _ _ _ _ (by simpa using hb), Below.heap_setCell _ _ _ _ (by simpa using hb), Below.heap_setCell _ _ _ _ (by simpa using hb), Below.heap_setCell _ _ _ _ (by simpa using hb), Below.heap_setCell _ _ _ _ (by simpa using hb), Below.heap_setCell _ _ _ _ (by simpa using hb), Below.heap_setCell _ _ _ _ (by simpa using hb), Below.heap_setCell _ _ _ _ (by simpa using hb), Below.heap_setCell _ _ _ _ (by simpa using hb)]
set_option maxRecDepth 100000 in
set_option maxHeartbeats 2000000 in
theorem nat_any (w : World) :
    Calls Try.prog 51 #[] w fun e w' => ∃ vs vc, e = .returned (.agg #[.int .i64 3, .int .i64 0, .int .i64 0, .slice none 0 0, .int .i64 0, .int .i64 0, .slice none 0 0, vs, vc, .int .i64 0]) ∧ BAt w' natB vs vc ∧ Below w.heap.size w w' := by
  have HR := Lib.hid (fun W => nrec_any W)
  have HD := Lib.hid (fun W vs vc h1 h2 => ndecl_any W vs vc 0 h1 h2)
  have b1 := below_al w (.cells #[.int .i64 0, .int .i64 0, .int .i64 0, .slice none 0 0, .int .i64 0, .int .i64 0, .slice none 0 0, .slice none 0 0, .slice none 0 0, .int .i64 0] 69)
  have b2 := below_al (w.alloc (.cells #[.int .i64 0, .int .i64 0, .int .i64 0, .slice none 0 0, .int .i64 0, .int .i64 0, .slice none 0 0, .slice none 0 0, .slice none 0 0, .int .i64 0] 69)) (.cells #[.slice none 0 0, .int .i64 0, .bool false, .int .i64 0, .int .i64 0, .slice none 0 0] 44)
  have hbD := Lib.hid ((b2.block w.heap.size (by simp)).trans (World.alloc_heap_new w (.cells #[.int .i64 0, .int .i64 0, .int .i64 0, .slice none 0 0, .int .i64 0, .int .i64 0, .slice none 0 0, .slice none 0 0, .slice none 0 0, .int .i64 0] 69)))
  have hbS := World.alloc_heap_new (w.alloc (.cells #[.int .i64 0, .int .i64 0, .int .i64 0, .slice none 0 0, .int .i64 0, .int .i64 0, .slice none 0 0, .slice none 0 0, .slice none 0 0, .int .i64 0] 69)) (.cells #[.slice none 0 0, .int .i64 0, .bool false, .int .i64 0, .int .i64 0, .slice none 0 0] 44)
  rw [World.size_alloc] at hbS
  have hbS := Lib.hid hbS
  have hb0 := Lib.hid (b1.trans (b2.mono b1.size))
  have hz0 := Lib.hid (show ((w.alloc (.cells #[.int .i64 0, .int .i64 0, .int .i64 0, .slice none 0 0, .int .i64 0, .int .i64 0, .slice none 0 0, .slice none 0 0, .slice none 0 0, .int .i64 0] 69)).alloc (.cells #[.slice none 0 0, .int .i64 0, .bool false, .int .i64 0, .int .i64 0, .slice none 0 0] 44)).heap.size = w.heap.size + 2 by simp)
  clear b1 b2
  go_enter Try.func51, Try.ntmps51
  go_wp2_with fail
  refine (HR.out _).mono ?_
  rintro e w1 ⟨rfl, hb1⟩
  have hD1 := Lib.hid ((hb1.block w.heap.size (by rw [hz0.out]; omega)).trans hbD.out)
  have hS1 := Lib.hid ((hb1.block (w.heap.size + 1) (by rw [hz0.out]; omega)).trans hbS.out)
  have hG1 := Lib.hid (hb0.out.trans (hb1.mono hb0.out.size))
  have hz1 := Lib.hid (show w.heap.size + 2 ≤ w1.heap.size by rw [← hz0.out]; exact hb1.size)
  clear hbD hbS hb0 hz0 hb1
  have c1 := below_al w1 (.cells #[.bool true, .int .i64 0, .int .i64 0, .slice none 0 0, .slice none 0 0, .int .i64 0, .slice none 0 0] 49)
  have c2 := below_al (w1.alloc (.cells #[.bool true, .int .i64 0, .int .i64 0, .slice none 0 0, .slice none 0 0, .int .i64 0, .slice none 0 0] 49)) (.cells #[.int .i64 0, .slice none 0 0, .slice none 0 0, .int .i64 0, .int .i64 0, .slice none 0 0, .int .i64 0, .slice (some ⟨w1.heap.size, 0, none⟩) 1 1, .slice none 0 0, .int .i64 0, .int .i64 0, .slice none 0 0] 46)
  have hA2 := Lib.hid ((c2.block w1.heap.size (by simp)).trans (World.alloc_heap_new w1 (.cells #[.bool true, .int .i64 0, .int .i64 0, .slice none 0 0, .slice none 0 0, .int .i64 0, .slice none 0 0] 49)))
  have hC2 := World.alloc_heap_new (w1.alloc (.cells #[.bool true, .int .i64 0, .int .i64 0, .slice none 0 0, .slice none 0 0, .int .i64 0, .slice none 0 0] 49)) (.cells #[.int .i64 0, .slice none 0 0, .slice none 0 0, .int .i64 0, .int .i64 0, .slice none 0 0, .int .i64 0, .slice (some ⟨w1.heap.size, 0, none⟩) 1 1, .slice none 0 0, .int .i64 0, .int .i64 0, .slice none 0 0] 46)
  rw [World.size_alloc] at hC2
  have hC2 := Lib.hid hC2
  have hc := Lib.hid (c1.trans (c2.mono c1.size))
  have hzc := Lib.hid (show ((w1.alloc (.cells #[.bool true, .int .i64 0, .int .i64 0, .slice none 0 0, .slice none 0 0, .int .i64 0, .slice none 0 0] 49)).alloc (.cells #[.int .i64 0, .slice none 0 0, .slice none 0 0, .int .i64 0, .int .i64 0, .slice none 0 0, .int .i64 0, .slice (some ⟨w1.heap.size, 0, none⟩) 1 1, .slice none 0 0, .int .i64 0, .int .i64 0, .slice none 0 0] 46)).heap.size = w1.heap.size + 2 by simp)
  clear c1 c2
  go_wp2_with fail
  refine (HD.out _ _ _ ⟨_, _, _, rfl⟩ ⟨_, _, _, rfl⟩).mono ?_
  rintro e w2 ⟨rfl, hb2⟩
  have hs1 := hz1.out
  have HD2 := Lib.hid ((hb2.block w.heap.size (by rw [hzc.out]; omega)).trans ((hc.out.block w.heap.size (by omega)).trans hD1.out))
  have HS2 := Lib.hid ((hb2.block (w.heap.size + 1) (by rw [hzc.out]; omega)).trans ((hc.out.block (w.heap.size + 1) (by omega)).trans hS1.out))
  have HA2 := Lib.hid ((hb2.block w1.heap.size (by rw [hzc.out]; omega)).trans hA2.out)
  have HC2 := Lib.hid ((hb2.block (w1.heap.size + 1) (by rw [hzc.out]; omega)).trans hC2.out)
  have G2 := Lib.hid ((hG1.out.trans (hc.out.mono hG1.out.size)).trans (hb2.mono (hG1.out.trans (hc.out.mono hG1.out.size)).size))
  clear hb2 hc hzc hA2 hC2 hD1 hS1 hG1 hz1 HR HD
  have z0 : w2.cell? ⟨w.heap.size, 0, none⟩ = some (.int .i64 0) := by simp [World.cell?, HD2.out]
  have y0 : w2.frozen? ⟨w.heap.size, 0, none⟩ = false := by simp [World.frozen?, HD2.out]
  have z1 : w2.cell? ⟨w.heap.size, 1, none⟩ = some (.int .i64 0) := by simp [World.cell?, HD2.out]
  have y1 : w2.frozen? ⟨w.heap.size, 1, none⟩ = false := by simp [World.frozen?, HD2.out]
  have z2 : w2.cell? ⟨w.heap.size, 2, none⟩ = some (.int .i64 0) := by simp [World.cell?, HD2.out]
  have y2 : w2.frozen? ⟨w.heap.size, 2, none⟩ = false := by simp [World.frozen?, HD2.out]
  have z3 : w2.cell? ⟨w.heap.size, 3, none⟩ = some (.slice none 0 0) := by simp [World.cell?, HD2.out]
  have y3 : w2.frozen? ⟨w.heap.size, 3, none⟩ = false := by simp [World.frozen?, HD2.out]
  have z4 : w2.cell? ⟨w.heap.size, 4, none⟩ = some (.int .i64 0) := by simp [World.cell?, HD2.out]
  have y4 : w2.frozen? ⟨w.heap.size, 4, none⟩ = false := by simp [World.frozen?, HD2.out]
  have z5 : w2.cell? ⟨w.heap.size, 5, none⟩ = some (.int .i64 0) := by simp [World.cell?, HD2.out]
  have y5 : w2.frozen? ⟨w.heap.size, 5, none⟩ = false := by simp [World.frozen?, HD2.out]
  have z6 : w2.cell? ⟨w.heap.size, 6, none⟩ = some (.slice none 0 0) := by simp [World.cell?, HD2.out]
  have y6 : w2.frozen? ⟨w.heap.size, 6, none⟩ = false := by simp [World.frozen?, HD2.out]
  have z7 : w2.cell? ⟨w.heap.size, 7, none⟩ = some (.slice none 0 0) := by simp [World.cell?, HD2.out]
  have y7 : w2.frozen? ⟨w.heap.size, 7, none⟩ = false := by simp [World.frozen?, HD2.out]
  have z8 : w2.cell? ⟨w.heap.size, 8, none⟩ = some (.slice none 0 0) := by simp [World.cell?, HD2.out]
  have y8 : w2.frozen? ⟨w.heap.size, 8, none⟩ = false := by simp [World.frozen?, HD2.out]
  have z9 : w2.cell? ⟨w.heap.size, 9, none⟩ = some (.int .i64 0) := by simp [World.cell?, HD2.out]
  have y9 : w2.frozen? ⟨w.heap.size, 9, none⟩ = false := by simp [World.frozen?, HD2.out]
  go_wp2_with fail
  exact bodyPost_ret (v := .agg #[.int .i64 3, .int .i64 0, .int .i64 0, .slice none 0 0, .int .i64 0, .int .i64 0, .slice none 0 0, .slice (some ⟨w.heap.size + 1, 0, none⟩) 1 1, .slice (some ⟨w1.heap.size + 1, 0, none⟩) 2 2, .int .i64 0]) (by simp [results, Try.f51, go_sem, z0, z1, z2, z3, z4, z5, z6, z7, z8, z9]) rfl
    ⟨_, _, rfl, nat_at ((other_store10 (by omega) _ _ _ _ _ _ _ _ _ _).trans HS2.out) ((other_store10 (by omega) _ _ _ _ _ _ _ _ _ _).trans HA2.out) ((other_store10 (by omega) _ _ _ _ _ _ _ _ _ _).trans HC2.out), G2.out.trans (below_store10 (Nat.le_refl _) _ _ _ _ _ _ _ _ _ _)⟩
end Go.Proofs.Ytcegocmndfoflaa
