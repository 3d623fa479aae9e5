/- What the statements of layer 4 wake up. No conditions. -/
import Derived.Test.YtfbinoifhabgoaaSl
import Derived.Test.YtfbinoifhabgoaaSd
namespace Go.Proofs.Ytfbinoifhabgoaa
open Go.RowKit
set_option linter.unusedVariables false

def lam1T : Tm := .node 5 0 [.node 1 0 [], .node 1 1 []]
def lam2T : Tm := .node 5 0 [.node 1 2 [], .node 1 3 []]
theorem lam_facts : shiftE lam1T 2 0 = 0 ∧ shiftT lam1T 2 0 = lam2T ∧ cntE lam1T 0 = 2 ∧ eqT lam2T lam2T = true ∧ size lam1T = 3 ∧ size lam2T = 3 := by
  have h : shiftE lam1T 2 0 = 0 := by decide +kernel
  refine ⟨h, by rw [shiftT, if_pos h]; rfl, ?_⟩
  decide +kernel
theorem lam_fits : Fits lam1T := fits_formed _ (by decide +kernel)
theorem at_vars (w : World) (a b : Int) : At (w.alloc (.cells #[.int .i64 1, .int .i64 a, .slice none 0 0, .int .i64 1, .int .i64 b, .slice none 0 0] 24)) [.node 1 a [], .node 1 b []] (.slice (some ⟨w.heap.size, 0, none⟩) 2 2) := by
  have hn := World.alloc_heap_new w (.cells #[.int .i64 1, .int .i64 a, .slice none 0 0, .int .i64 1, .int .i64 b, .slice none 0 0] 24)
  revert hn
  generalize w.alloc (.cells #[.int .i64 1, .int .i64 a, .slice none 0 0, .int .i64 1, .int .i64 b, .slice none 0 0] 24) = W
  intro hn
  refine .row _ w.heap.size 0 2 (fun _ => .slice none 0 0) (by simp) (by decide) (fun i hi => ?_) (fun i hi => ?_) (fun i hi => ?_) (fun i hi => ?_)
  all_goals
    have hi2 : i < 2 := hi
    have : i = 0 ∨ i = 1 := by omega
    rcases this with rfl | rfl
  all_goals first | exact .nl | simp [World.cell?, hn, Tm.k, Tm.n]

set_option maxRecDepth 100000 in
set_option maxHeartbeats 2000000 in
theorem wakes4_any (w : World) :
    Calls Try.prog 19 #[] w fun e w' => e = .returned (.bool true) ∧ Below w.heap.size w w' := by
  obtain ⟨i1, i2, i3, i4, i5, i6⟩ := lam_facts
  have HV := Lib.hid (fun n w => v_any n w)
  have HT := Lib.hid (fun w => t_any 5 _ (by simp) (by simp) _ _ (at_vars w 0 1))
  have HS : Hid (∀ W a cap, At W lam1T.kids (.slice a 2 cap) → Calls Try.prog 11 #[.agg #[.int .i64 5, .int .i64 0, .slice a 2 cap], .int .i64 2, .int .i64 0] W (TellK W lam2T (.int .i64 0))) := fun W a cap hA => by
    have := shift_any lam1T lam_fits (by rw [i5]; omega) 2 0 W _ hA
    rw [i1, i2] at this; exact this
  clear i1 i2 i5
  go_enter Try.func19, Try.ntmps19
  go_wp2_with fail
  refine (HV.out _ _).mono ?_
  rintro e w1 ⟨rfl, hb1⟩
  go_wp2_with fail
  refine (HV.out _ _).mono ?_
  rintro e w2 ⟨rfl, hb2⟩
  have B2 := Lib.hid (hb1.trans (hb2.mono hb1.size))
  clear hb1 hb2
  go_wp2_with fail
  refine (HT.out _).mono ?_
  rintro e w3 ⟨a3, c3, rfl, hA3, hb3⟩
  have O3 := Lib.hid (one_start w3 lam1T (.slice a3 2 c3) hA3)
  have B3 := Lib.hid ((B2.out.trans ((below_al w2 _).mono B2.out.size)).trans (hb3.mono (by have := B2.out.size; simp; omega)))
  clear hb3 hA3 B2
  go_wp2_with fail
  refine (HS.out _ _ _ O3.out.2.1).mono ?_
  rintro e w4 ⟨a4, c4, rfl, hK4, hb4⟩
  have O4 := Lib.hid (O3.out.bel hb4)
  have A4 := Lib.hid hK4.ats.at
  have B4 := Lib.hid ((B3.out.trans ((below_al w3 _).mono B3.out.size)).trans (hb4.mono (by have := B3.out.size; simp; omega)))
  clear hb4 hK4 O3 B3 HS HT
  go_wp2_with fail
  have O5 := Lib.hid (O4.out.bel (below_al w4 (.cells #[.int .i64 lam2T.k, .int .i64 lam2T.n, .slice a4 lam2T.kids.length c4] 24)))
  have P5 := Lib.hid (one_start w4 lam2T _ A4.out)
  have B5 := Lib.hid (B4.out.trans ((below_al w4 (.cells #[.int .i64 lam2T.k, .int .i64 lam2T.n, .slice a4 lam2T.kids.length c4] 24)).mono B4.out.size))
  clear O4 A4 B4
  revert O5 P5 B5
  generalize w4.alloc (.cells #[.int .i64 lam2T.k, .int .i64 lam2T.n, .slice a4 lam2T.kids.length c4] 24) = w5
  intro O5 P5 B5
  have HCN : Hid (∀ W a cap, At W lam1T.kids (.slice a 2 cap) → Calls Try.prog 16 #[.agg #[.int .i64 5, .int .i64 0, .slice a 2 cap], .int .i64 0] W fun e w' => e = .returned (.int .i64 2) ∧ Below W.heap.size W w') := fun W a cap hA => by
    have := scount_any lam1T (by decide +kernel) 0 W _ hA
    rw [i3] at this; exact this
  have HKT : Hid (∀ W va vb, At W lam2T.kids va → At W lam2T.kids vb → Calls Try.prog 15 #[.agg #[.int .i64 5, .int .i64 0, va], .agg #[.int .i64 5, .int .i64 0, vb]] W fun e w' => e = .returned (.bool true) ∧ Below W.heap.size W w') := fun W va vb hA hB => by
    have := c_keep lam2T lam2T (by rw [i6]; omega) (by rw [i6]; omega) W va vb hA hB
    rw [i4] at this; exact this
  refine wp_region_rel (by kernel_rfl) (by kernel_rfl) (by kernel_rfl) ?_
  apply RelWalk.next 6
  · kernel_rfl
  · intro X _ W hW hcl
    simp only [List.take_succ_cons, List.take_zero]
    obtain ⟨⟨x0, x1, x2⟩, hX, _⟩ := P5.out
    have k0 := fun q => gcell (hW q) x0
    have k1 := fun q => gcell (hW q) x1
    have k2 := fun q => gcell (hW q) x2
    have cV : Hid (∀ n q, Calls Try.prog 43 #[.int .i64 n] (W q) fun e w'' => e = .returned (.agg #[.int .i64 1, .int .i64 n, .slice none 0 0]) ∧ ∃ q', w'' = W q') := fun n q => into hcl (HV.out n (W q))
    clear x0 x1 x2
    repeat (go_big_quiet_step (first | (with_reducible exact cV.out _ _)))
    exact wpQuiet_nil rfl
  simp only [List.drop_succ_cons, List.drop_zero]
  refine RelWalk.made0 (fun v s e w => v = .slice (some ⟨s, 0, none⟩) 2 2 ∧ w.heap[s]? = some (.cells #[.int .i64 1, .int .i64 2, .slice none 0 0, .int .i64 1, .int .i64 3, .slice none 0 0] 24 (0, 0)) ∧ s < w.heap.size) rfl (by kernel_rfl) (by kernel_rfl) rfl (fun v s e w w' hg h => ⟨h.1, (hg.block s h.2.2).trans h.2.1, Nat.lt_of_lt_of_le h.2.2 hg.size⟩) (fun w2 hg => ?_) ?_
  · go_simp
    exact ⟨below_al w2 _, rfl, World.alloc_heap_new w2 _, by simp⟩
  simp only [Act.put, List.setIfInBounds_toArray, List.set_cons_zero, List.set_cons_succ]
  refine RelWalk.made1 (plain fun v w => ∃ a cap, v = .agg #[.int .i64 5, .int .i64 0, .slice a 2 cap] ∧ At w lam2T.kids (.slice a 2 cap)) rfl (by kernel_rfl) (by kernel_rfl) rfl (mono_plain fun v w w' hg ⟨a, c, h1, h2⟩ => ⟨a, c, h1, h2.bel hg (Nat.le_refl _)⟩) (fun g w2 hg v1 hv1 => ?_) ?_
  · obtain ⟨rfl, hb, _⟩ := hv1
    have hR : RowS (fun b => b < w2.heap.size) w2 lam2T.kids (.slice (some ⟨(g 19).1, 0, none⟩) 2 2) := row_of2 (t := .node 1 2 []) (u := .node 1 3 []) hb .nl .nl
    have hc := Lib.hid (t_anyR _ 5 lam2T.kids (by decide) (by decide) w2 _ (fun b hb => hb) hR)
    clear hR hb
    go_simp
    exact rel_enter (hc.out.mono fun e w3 ⟨a3, c3, he, hA3, hb3⟩ => ⟨_, he, hb3, a3, c3, rfl, hA3.at⟩)
  simp only [Act.put, List.setIfInBounds_toArray, List.set_cons_zero, List.set_cons_succ]
  refine RelWalk.used1 (.bool true) rfl (by kernel_rfl) (by kernel_rfl) rfl (fun g w2 hg v1 hv1 => ?_) ?_
  · obtain ⟨a, c, rfl, hA⟩ := hv1
    have hc := Lib.hid (HKT.out w2 _ _ (P5.out.2.1.bel hg (Nat.le_refl _)) hA)
    clear hA
    go_simp
    exact rel_enter_c hc.out
  simp only [Act.put, List.setIfInBounds_toArray, List.set_cons_zero, List.set_cons_succ]
  apply RelWalk.rest
  · kernel_rfl
  · intro X _ W hW hcl
    obtain ⟨⟨x0, x1, x2⟩, hX, _⟩ := O5.out
    have k0 := fun q => gcell (hW q) x0
    have k1 := fun q => gcell (hW q) x1
    have k2 := fun q => gcell (hW q) x2
    have cC : Hid (∀ q, Calls Try.prog 16 #[.agg #[.int .i64 lam1T.k, .int .i64 lam1T.n, .slice a3 2 c3], .int .i64 0] (W q) fun e w'' => e = .returned (.int .i64 2) ∧ ∃ q', w'' = W q') := fun q => into hcl (HCN.out (W q) _ _ (hX.bel (hW q) (Nat.le_refl _)))
    clear x0 x1 x2
    repeat (go_big_quiet_step (with_reducible exact cC.out _))
    exact wpQuiet_nil rfl
  intro gq w6 hg _
  have HG := Lib.hid hg
  clear hg
  simp only [Spread]
  rintro v20 ⟨a, c, rfl, hA⟩ v19 ⟨rfl, _⟩
  have B6 := Lib.hid (B5.out.trans (HG.out.mono B5.out.size))
  clear hA
  go_wp2_with fail
  go_ret
  exact ⟨rfl, B6.out⟩
end Go.Proofs.Ytfbinoifhabgoaa
