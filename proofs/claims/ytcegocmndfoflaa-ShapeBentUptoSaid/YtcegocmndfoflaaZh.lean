/- The numbers' wakes of layer 7. No conditions. -/
import Derived.Test.YtcegocmndfoflaaZg
import Derived.Test.YtcegocmndfoflaaHv
namespace Go.Proofs.Ytcegocmndfoflaa
open Go.RowKit
set_option linter.unusedVariables false

theorem zT_fits : Fits zT := .mk 0 0 [] (by unfold I64; omega) (by unfold I64; omega) fun x hx => nomatch hx
theorem natB_fits : natB.fits := by
  have e : ∀ u ∈ ([] : List Tm), Fits u := fun u h => nomatch h
  have i0 : I64 0 := by unfold I64; omega
  have ha : (⟨true, zT, [], 0, []⟩ : ArgT).fits := ⟨zT_fits, e, i0, e⟩
  refine ⟨fun s h => ?_, fun c h => ?_, i0⟩
  · simp only [natB, List.mem_singleton] at h
    subst h
    exact ⟨(fun a h => nomatch h), i0, zT_fits⟩
  · simp only [natB, List.mem_cons, List.not_mem_nil, or_false] at h
    rcases h with rfl | rfl
    · exact ⟨i0, (fun a h => nomatch h), e, zT_fits⟩
    · exact ⟨i0, (fun a h => by simp only [List.mem_singleton] at h; subst h; exact ha), e, zT_fits⟩
theorem natB_shape : shapeB natB = true := by decide
theorem natB_n : blkN natB ≤ 1048576 := by decide
theorem natB_count : countB natB = 4 := by decide
theorem natB_f : formerB natB 5 0 = 5 := by decide
theorem natB_c : ctorB natB 5 1 = 7 := by decide
theorem natB_e : elimB natB 5 0 = 8 := by decide
set_option maxRecDepth 100000 in
set_option maxHeartbeats 2000000 in
theorem wakes7_any (w : World) : Calls Try.prog 25 #[] w fun e w' => e = .returned (.bool true) ∧ Below w.heap.size w w' := by
  have C0 := Lib.hid (fun W vs vc (hA : BAt W natB vs vc) => (s7check_any natB natB_n natB_fits W vs vc hA).mono fun e w' (h : e = .returned (.int .i64 (if shapeB natB then 0 else 12)) ∧ _) => (⟨by rw [h.1, natB_shape]; rfl, h.2⟩ : e = .returned (.int .i64 0) ∧ Below W.heap.size W w'))
  have C1 := fun W vs vc (hA : BAt W natB vs vc) => scount7_any natB natB_n W vs vc hA
  have C2 := fun W vs vc (hA : BAt W natB vs vc) => sformer_any natB natB_n 5 0 W vs vc hA
  have C3 := fun W vs vc (hA : BAt W natB vs vc) => sctor_any natB natB_n 5 1 W vs vc hA
  have C4 := fun W vs vc (hA : BAt W natB vs vc) => selim_any natB natB_n 5 0 W vs vc hA
  rw [natB_count] at C1
  rw [natB_f] at C2
  rw [natB_c] at C3
  rw [natB_e] at C4
  have C1 := Lib.hid C1
  have C2 := Lib.hid C2
  have C3 := Lib.hid C3
  have C4 := Lib.hid C4
  go_enter Try.func25, Try.ntmps25
  go_wp2_with fail
  refine (nat_any _).mono ?_
  rintro e w1 ⟨vs, vc, rfl, hA, hb1⟩
  obtain ⟨ps, cs, pc, cc, rfl, rfl⟩ := hA.shape
  have h0 := oneb_start w1 natB _ _ hA
  have O1 : Hid (OneB w w1.heap.size natB (.slice ps natB.sorts.length cs) (.slice pc natB.cons.length cc) (w1.alloc (.cells #[.slice ps natB.sorts.length cs, .slice pc natB.cons.length cc, .int .i64 0] 25))) := ⟨h0.1, h0.2.1, hb1.trans (h0.2.2.mono hb1.size)⟩
  have hfd : ∀ W : World, (Instr.field 69 (.agg #[.int .i64 3, .int .i64 0, .int .i64 0, .slice none 0 0, .int .i64 0, .int .i64 0, .slice none 0 0, .slice ps natB.sorts.length cs, .slice pc natB.cons.length cc, .int .i64 0]) 3).run Try.prog W = .ok (.agg #[.slice ps natB.sorts.length cs, .slice pc natB.cons.length cc, .int .i64 0]) W := fun _ => by kernel_rfl
  clear h0 hA hb1
  go_wp2_with fail
  refine (C0.out _ _ _ O1.out.2.1).mono ?_
  rintro e w2 ⟨rfl, hb⟩
  have O2 := Lib.hid (O1.out.bel hb)
  obtain ⟨y0, y1, y2⟩ := O2.out.cells
  clear hb
  go_wp2_with fail
  refine (C1.out _ _ _ O2.out.2.1).mono ?_
  rintro e w3 ⟨rfl, hb⟩
  have O3 := Lib.hid (O2.out.bel hb)
  clear y0 y1 y2
  obtain ⟨y0, y1, y2⟩ := O3.out.cells
  clear hb
  go_wp2_with fail
  refine (C2.out _ _ _ O3.out.2.1).mono ?_
  rintro e w4 ⟨rfl, hb⟩
  have O4 := Lib.hid (O3.out.bel hb)
  clear y0 y1 y2
  obtain ⟨y0, y1, y2⟩ := O4.out.cells
  clear hb
  go_wp2_with fail
  refine (C3.out _ _ _ O4.out.2.1).mono ?_
  rintro e w5 ⟨rfl, hb⟩
  have O5 := Lib.hid (O4.out.bel hb)
  clear y0 y1 y2
  obtain ⟨y0, y1, y2⟩ := O5.out.cells
  clear hb
  go_wp2_with fail
  refine (C4.out _ _ _ O5.out.2.1).mono ?_
  rintro e w6 ⟨rfl, hb⟩
  have O6 := Lib.hid (O5.out.bel hb)
  clear y0 y1 y2
  obtain ⟨y0, y1, y2⟩ := O6.out.cells
  clear hb
  go_wp2_with fail
  go_ret
  exact ⟨ret_bool rfl, O6.out.2.2⟩
end Go.Proofs.Ytcegocmndfoflaa
