/- TermExact: the Go text returns true for any two terms that are not greater than the second form's bound, and any numbers. -/
import Derived.Test.YthcjjfgigbgdkaaCo
import Derived.Test.YthcjjfgigbgdkaaRc
import Derived.Test.YthcjjfgigbgdkaaRe
namespace Go.Proofs.Ythcjjfgigbgdkaa
open Go.RowKit
set_option linter.unusedVariables false

set_option maxRecDepth 100000 in
set_option maxHeartbeats 2000000 in
theorem lexact_any (t u : Tm) (vars consts : Int) (hF : Fits t) (hF2 : Fits u) (hs : size t ≤ 1048576) (hs2 : size u ≤ 1048576) (w : World) (v v2 : Value) (hA : At w t.kids v) (hM : At w u.kids v2) :
    Calls Try.prog 3 #[tv t v, tv u v2, .int .i64 vars, .int .i64 consts] w fun e w' => e = .returned (.bool true) ∧ Below w.heap.size w w' := by
  have HH := heavy2 t u hs hs2 w v v2 hA hM
  obtain ⟨a1, c1, rfl⟩ := hA.shape
  obtain ⟨a2, c2, rfl⟩ := hM.shape
  clear hA hM
  unfold tv
  by_cases hh : heavyB [t, u] = true
  · rw [hh] at HH
    have HH := Lib.hid HH
    clear hh
    go_enter Try.func3, Try.ntmps3
    go_wp2_with fail
    refine HH.out.mono ?_
    rintro e w1 ⟨rfl, hb1⟩
    have T1 := Lib.hid hb1
    clear hb1
    go_wp2_with fail
    go_ret
    exact ⟨rfl, T1.out.2.2.2.2⟩
  rw [Bool.eq_false_iff.2 hh] at HH
  have HI := Lib.hid HH
  clear hh HH
  go_enter Try.func3, Try.ntmps3
  go_wp2_with fail
  refine HI.out.mono ?_
  rintro e w1 ⟨rfl, hb1⟩
  have T1 := Lib.hid hb1
  clear hb1 HI
  obtain ⟨⟨x0, x1, x2⟩, _⟩ := T1.out
  have cT := Lib.hid (c_twin t hs w1 _ T1.out.2.2.1)
  go_wp2_with (go_at_call 16; refine cT.out.mono ?_; rintro e w4 ⟨a4, c4, rfl, hs4, _, hb4⟩; have HS4 := Lib.hid hs4.at; have T4 := Lib.hid (T1.out.bel hb4); clear hs4 hb4 x0 x1 x2 T1 cT)
  have T5 := Lib.hid (T4.out.bel (below_al w4 (.cells #[.int .i64 t.k, .int .i64 t.n, .slice a4 t.kids.length c4] 24)))
  have I5 := Lib.hid (one_start w4 t _ HS4.out)
  clear T4 HS4
  revert T5 I5
  generalize w4.alloc (.cells #[.int .i64 t.k, .int .i64 t.n, .slice a4 t.kids.length c4] 24) = w5
  intro T5 I5
  refine wp_region_rel (by kernel_rfl) (by kernel_rfl) (by kernel_rfl) ?_
  apply RelWalk.next 41
  · kernel_rfl
  · intro X _ W hW hcl
    simp only [List.take_succ_cons, List.take_zero]
    obtain ⟨⟨x0, x1, x2⟩, ⟨y0, y1, y2⟩, _⟩ := T5.out
    obtain ⟨⟨z0, z1, z2⟩, _⟩ := I5.out
    have k0 := fun q => gcell (hW q) x0
    have k1 := fun q => gcell (hW q) x1
    have k2 := fun q => gcell (hW q) x2
    have k3 := fun q => gcell (hW q) y0
    have k4 := fun q => gcell (hW q) y1
    have k5 := fun q => gcell (hW q) y2
    have k6 := fun q => gcell (hW q) z0
    have k7 := fun q => gcell (hW q) z1
    have k8 := fun q => gcell (hW q) z2
    have cC1 := Lib.hid (fun q => into hcl (c_check t hF hs (W q) _ (I5.out.bel (hW q)).2.1))
    have cC2 := Lib.hid (fun q => into hcl (c_rcheck t hs (W q) _ (T5.out.bel (hW q)).2.2.1))
    have cS1 := Lib.hid (fun q => into hcl (c_size t hF hs (W q) _ (I5.out.bel (hW q)).2.1))
    have cS2 := Lib.hid (fun q => into hcl (c_rsize t hs (W q) _ (T5.out.bel (hW q)).2.2.1))
    have cD1 := Lib.hid (fun q => into hcl (c_depth t hF hs (W q) _ (I5.out.bel (hW q)).2.1))
    have cD2 := Lib.hid (fun q => into hcl (c_rdepth t hs (W q) _ (T5.out.bel (hW q)).2.2.1))
    have cE1 := Lib.hid (fun q => into hcl (c_equal t u hs hs2 (W q) _ _ (I5.out.bel (hW q)).2.1 (T5.out.bel (hW q)).2.2.2.1))
    have cE2 := Lib.hid (fun q => into hcl (c_keep t u hs hs2 (W q) _ _ (T5.out.bel (hW q)).2.2.1 (T5.out.bel (hW q)).2.2.2.1))
    have cV1 := Lib.hid (fun q => into hcl (c_scope t hF hs vars consts (W q) _ (I5.out.bel (hW q)).2.1))
    have cV2 := Lib.hid (fun q => into hcl (c_rscope t hF hs vars consts (W q) _ (T5.out.bel (hW q)).2.2.1))
    clear x0 x1 x2 y0 y1 y2 z0 z1 z2
    repeat (go_big_quiet_step (first | (with_reducible exact cC1.out _) | (with_reducible exact cC2.out _) | (with_reducible exact cS1.out _) | (with_reducible exact cS2.out _) | (with_reducible exact cD1.out _) | (with_reducible exact cD2.out _) | (with_reducible exact cE1.out _) | (with_reducible exact cE2.out _) | (with_reducible exact cV1.out _) | (with_reducible exact cV2.out _)))
    exact wpQuiet_nil rfl
  simp only [List.drop_succ_cons, List.drop_zero]
  refine RelWalk.made0 (plain (RowV (consI (constT t)))) rfl (by kernel_rfl) (by kernel_rfl) rfl (mono_plain (RowV.mono _)) (fun w6 hg => ?_) ?_
  · have hc := Lib.hid (c_consts t hF hs w6 _ (I5.out.bel hg).2.1)
    go_simp
    exact rel_enter hc.out
  simp only [Act.put, List.setIfInBounds_toArray, List.set_cons_zero, List.set_cons_succ]
  apply RelWalk.next 1
  · kernel_rfl
  · intro X _ W hW hcl
    simp only [List.take_succ_cons, List.take_zero]
    obtain ⟨⟨x0, x1, x2⟩, _⟩ := T5.out
    have k0 := fun q => gcell (hW q) x0
    have k1 := fun q => gcell (hW q) x1
    have k2 := fun q => gcell (hW q) x2
    clear x0 x1 x2
    repeat (go_big_quiet_step (fail))
    exact wpQuiet_nil rfl
  simp only [List.drop_succ_cons, List.drop_zero]
  refine RelWalk.made0 (plain (RowV (consI (constT t)))) rfl (by kernel_rfl) (by kernel_rfl) rfl (mono_plain (RowV.mono _)) (fun w6 hg => ?_) ?_
  · have hc := Lib.hid (rconsts_any t hs w6 _ (T5.out.bel hg).2.2.1)
    go_simp
    exact rel_enter hc.out
  simp only [Act.put, List.setIfInBounds_toArray, List.set_cons_zero, List.set_cons_succ]
  have hLl : (consI (constT t)).length ≤ 1048576 := Nat.le_trans (consI_len _) (Nat.le_trans (constT_len t) hs)
  refine RelWalk.used2 (.bool true) rfl (by kernel_rfl) (by kernel_rfl) rfl (fun g w6 hg v1 hv1 v2 hv2 => ?_) ?_
  · have hc := ints_any _ _ hLl hLl w6 _ _ hv2 hv1
    rw [decide_eq_true rfl] at hc
    have hc := Lib.hid hc
    clear hv1 hv2
    go_simp
    exact rel_enter_c hc.out
  simp only [Act.put, List.setIfInBounds_toArray, List.set_cons_zero, List.set_cons_succ]
  apply RelWalk.rest
  · kernel_rfl
  · intro X _ W hW hcl
    obtain ⟨⟨x0, x1, x2⟩, _⟩ := T5.out
    obtain ⟨⟨z0, z1, z2⟩, _⟩ := I5.out
    have k0 := fun q => gcell (hW q) x0
    have k1 := fun q => gcell (hW q) x1
    have k2 := fun q => gcell (hW q) x2
    have k6 := fun q => gcell (hW q) z0
    have k7 := fun q => gcell (hW q) z1
    have k8 := fun q => gcell (hW q) z2
    have cE := fun q => into hcl (c_keep t t hs hs (W q) _ _ (I5.out.bel (hW q)).2.1 (T5.out.bel (hW q)).2.2.1)
    rw [eqT_self] at cE
    have cE := Lib.hid cE
    have cW := Lib.hid (fun q => into hcl (wakes_any (W q)))
    clear x0 x1 x2 z0 z1 z2
    repeat (go_big_quiet_step (first | (with_reducible exact cE.out _) | (with_reducible exact cW.out _)))
    exact wpQuiet_nil rfl
  intro g w7 hg _
  have T7 := Lib.hid (T5.out.bel hg)
  clear T5 I5 hg
  simp only [Spread]
  rintro v59 _ v57 _
  simp only [Act.put, List.setIfInBounds_toArray, List.set_cons_zero, List.set_cons_succ]
  go_wp2_with fail
  go_ret
  exact ⟨rfl, T7.out.2.2.2.2⟩
end Go.Proofs.Ythcjjfgigbgdkaa
