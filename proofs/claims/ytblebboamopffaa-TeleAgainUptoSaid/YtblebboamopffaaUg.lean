/- TeleAgain: the Go text returns true for any term that is not greater than the second form's bound. -/
import Derived.Test.YtblebboamopffaaUc
import Derived.Deep.DeepCutAuto
import Derived.Test.YtblebboamopffaaRe
namespace Go.Proofs.Ytblebboamopffaa
open Go.RowKit
set_option linter.unusedVariables false

set_option maxRecDepth 100000 in
set_option maxHeartbeats 5000000 in
theorem ltagain_any (t : Tm) (hF : Fits t) (hs : size t ≤ 1048576) (w : World) (v : Value) (hA : At w t.kids v) :
    Calls Try.prog 5 #[.agg #[.int .i64 t.k, .int .i64 t.n, v]] w fun e w' => e = .returned (.bool true) ∧ Below w.heap.size w w' := by
  obtain ⟨a1, c1, rfl⟩ := hA.shape
  have HH := heavy1 t hs w _ hA
  clear hA
  cases hh : heavyB [t] with
  | true =>
    rw [hh] at HH
    have HH := Lib.hid HH
    clear hh
    go_enter Try.func5, Try.ntmps5
    go_wp2_with fail
    refine HH.out.mono ?_
    rintro e w1 ⟨rfl, hb1⟩
    have T1 := Lib.hid hb1
    clear hb1
    go_wp2_with fail
    go_ret
    exact ⟨rfl, T1.out.2.2⟩
  | false =>
    rw [hh] at HH
    have HH := Lib.hid HH
    clear hh
    have HWK := Lib.hid (fun w => wakes6_any w)
    have HR := Lib.hid (fun W v hA => c_rcheck t hs W v hA)
    go_enter Try.func5, Try.ntmps5
    go_wp2_with fail
    refine HH.out.mono ?_
    rintro e w1 ⟨rfl, hb1⟩
    have T1 := Lib.hid hb1
    clear hb1 HH
    obtain ⟨⟨x0, x1, x2⟩, _⟩ := T1.out
    by_cases hc : checkE t = 0
    rotate_left
    · have q1 : (checkE t != 0) = true := by simpa using hc
      generalize checkE t = ce at *
      clear hc
      go_wp2_with fail
      refine (HR.out _ _ T1.out.2.1).mono ?_
      rintro e w3 ⟨rfl, hb3⟩
      have T3 := Lib.hid (T1.out.bel hb3)
      clear hb3 x0 x1 x2 T1
      go_wp2_with fail
      go_ret
      exact ⟨rfl, T3.out.2.2⟩
    rw [hc] at HR
    have hf := check_formed hc
    obtain ⟨e1, e2⟩ := spine_unspine t hf
    obtain ⟨e3, e4⟩ := pis_unpis t hf
    have hu1 := unspine_sizes t
    have hu2 := unpis_sizes t
    obtain ⟨f1, f2⟩ := unspine_fits t hF
    obtain ⟨f3, f4⟩ := unpis_fits t hF
    have U1 := Lib.hid (fun W v hA => sunspine_any t hF hs W v hA)
    have U2 := Lib.hid (fun W v hA => sunpis_any t hF hs W v hA)
    have C6 := fun W v vl hA hL => sspine_any (unspine t).1 f1 (by omega) (unspine t).2 f2 (by omega) W v vl hA hL
    have C4 := fun W vl v hL hA => spis_any (unpis t).1 f4 (by omega) (unpis t).2 f3 (by omega) W vl v hL hA
    rw [e1] at C6
    rw [e3] at C4
    have C6 := Lib.hid C6
    have C4 := Lib.hid C4
    have HK := Lib.hid (fun W va vb hA hB => c_same6 hs W va vb hA hB)
    generalize (unspine t).1 = F at *
    generalize (unspine t).2 = X at *
    generalize (unpis t).1 = D at *
    generalize (unpis t).2 = B at *
    have k1 : (F.k != 6) = true := by simpa using e2
    have k2 : (B.k != 4) = true := by simpa using e4
    clear e1 e2 e3 e4 hu1 hu2 f1 f2 f3 f4 hf hc
    go_wp2_with fail
    refine (HR.out _ _ T1.out.2.1).mono ?_
    rintro e w3 ⟨rfl, hb3⟩
    have T3 := Lib.hid (T1.out.bel hb3)
    clear hb3 x0 x1 x2 T1 HR
    obtain ⟨⟨x0, x1, x2⟩, _⟩ := T3.out
    go_wp2_with fail
    clear x0 x1 x2
    refine (U1.out _ _ T3.out.2.1).mono ?_
    rintro e w11 ⟨a11, c11, a12, c12, rfl, hF11, hX11, hb11⟩
    obtain ⟨hO11, hg11⟩ := boxed_at T3.out.2.2 hb11 hF11.at
    have F11 := Lib.hid hO11
    have X11 := Lib.hid (hX11.at.bel (below_al w11 (.cells #[.int .i64 F.k, .int .i64 F.n, .slice a11 F.kids.length c11] 24)) (Nat.le_refl _))
    have T11 := Lib.hid (T3.out.bel hg11)
    clear hO11 hg11 hF11 hX11 hb11 T3 U1
    obtain ⟨⟨x0, x1, x2⟩, _⟩ := T11.out
    go_wp2_with fail
    clear x0 x1 x2
    refine (U2.out _ _ T11.out.2.1).mono ?_
    rintro e w13 ⟨a13, c13, a14, c14, rfl, hF13, hX13, hb13⟩
    obtain ⟨hO13, hg13⟩ := boxed_at T11.out.2.2 hb13 hF13.at
    have B13 := Lib.hid hO13
    have D13 := Lib.hid (hX13.at.bel (below_al w13 (.cells #[.int .i64 B.k, .int .i64 B.n, .slice a13 B.kids.length c13] 24)) (Nat.le_refl _))
    have F13 := Lib.hid (F11.out.bel hg13)
    have X13 := Lib.hid (X11.out.bel hg13 (Nat.le_refl _))
    have T13 := Lib.hid (T11.out.bel hg13)
    clear hO13 hg13 hF13 hX13 hb13 T11 F11 X11 U2
    go_wp2_with fail
    obtain ⟨w14, hw14⟩ : ∃ w14, w14 = w13.alloc (.cells #[.int .i64 B.k, .int .i64 B.n, .slice a13 B.kids.length c13] 24) := ⟨_, rfl⟩
    rw [← hw14] at B13 D13 F13 X13 T13 ⊢
    clear hw14
    refine wp_region_rel (by kernel_rfl) (by kernel_rfl) (by kernel_rfl) ?_
    apply RelWalk.next 2
    · kernel_rfl
    · intro X _ W hW hcl
      simp only [List.take_succ_cons, List.take_zero]
      obtain ⟨⟨z0, z1, z2⟩, hF, _⟩ := F13.out
      have rF0 := fun q => gcell (hW q) z0
      have rF1 := fun q => gcell (hW q) z1
      have rF2 := fun q => gcell (hW q) z2
      clear z0 z1 z2
      repeat (go_big_quiet_step (fail))
      exact wpQuiet_nil rfl
    simp only [List.drop_succ_cons, List.drop_zero]
    refine RelWalk.made0 (RT t) rfl (by kernel_rfl) (by kernel_rfl) rfl (RT.mono t) (fun w2 hg => ?_) ?_
    · have hc := Lib.hid (C6.out w2 _ _ (F13.out.2.1.bel hg (Nat.le_refl _)) (X13.out.bel hg (Nat.le_refl _)))
      go_simp
      exact rel_enter (rt_of hc.out)
    simp only [Act.put, List.setIfInBounds_toArray, List.set_cons_zero, List.set_cons_succ]
    apply RelWalk.next 1
    · kernel_rfl
    · intro X _ W hW hcl
      simp only [List.take_succ_cons, List.take_zero]
      obtain ⟨⟨z0, z1, z2⟩, hT, _⟩ := T13.out
      have rT0 := fun q => gcell (hW q) z0
      have rT1 := fun q => gcell (hW q) z1
      have rT2 := fun q => gcell (hW q) z2
      clear z0 z1 z2
      repeat (go_big_quiet_step (fail))
      exact wpQuiet_nil rfl
    simp only [List.drop_succ_cons, List.drop_zero]
    refine RelWalk.used1 (.bool true) rfl (by kernel_rfl) (by kernel_rfl) rfl (fun g w2 hg v1 hv1 => ?_) ?_
    · obtain ⟨a, c, rfl, hA⟩ := hv1
      have hc := Lib.hid (HK.out w2 _ _ hA.at (T13.out.2.1.bel hg (Nat.le_refl _)))
      clear hA
      go_simp
      exact rel_enter_c hc.out
    simp only [Act.put, List.setIfInBounds_toArray, List.set_cons_zero, List.set_cons_succ]
    apply RelWalk.next 3
    · kernel_rfl
    · intro X _ W hW hcl
      simp only [List.take_succ_cons, List.take_zero]
      obtain ⟨⟨z0, z1, z2⟩, hB, _⟩ := B13.out
      have rB0 := fun q => gcell (hW q) z0
      have rB1 := fun q => gcell (hW q) z1
      have rB2 := fun q => gcell (hW q) z2
      clear z0 z1 z2
      repeat (go_big_quiet_step (fail))
      exact wpQuiet_nil rfl
    simp only [List.drop_succ_cons, List.drop_zero]
    refine RelWalk.made0 (RT t) rfl (by kernel_rfl) (by kernel_rfl) rfl (RT.mono t) (fun w2 hg => ?_) ?_
    · have hc := Lib.hid (C4.out w2 _ _ (D13.out.bel hg (Nat.le_refl _)) (B13.out.2.1.bel hg (Nat.le_refl _)))
      go_simp
      exact rel_enter (rt_of hc.out)
    simp only [Act.put, List.setIfInBounds_toArray, List.set_cons_zero, List.set_cons_succ]
    apply RelWalk.next 1
    · kernel_rfl
    · intro X _ W hW hcl
      simp only [List.take_succ_cons, List.take_zero]
      obtain ⟨⟨z0, z1, z2⟩, hT, _⟩ := T13.out
      have rT0 := fun q => gcell (hW q) z0
      have rT1 := fun q => gcell (hW q) z1
      have rT2 := fun q => gcell (hW q) z2
      clear z0 z1 z2
      repeat (go_big_quiet_step (fail))
      exact wpQuiet_nil rfl
    simp only [List.drop_succ_cons, List.drop_zero]
    refine RelWalk.used1 (.bool true) rfl (by kernel_rfl) (by kernel_rfl) rfl (fun g w2 hg v1 hv1 => ?_) ?_
    · obtain ⟨a, c, rfl, hA⟩ := hv1
      have hc := Lib.hid (HK.out w2 _ _ hA.at (T13.out.2.1.bel hg (Nat.le_refl _)))
      clear hA
      go_simp
      exact rel_enter_c hc.out
    simp only [Act.put, List.setIfInBounds_toArray, List.set_cons_zero, List.set_cons_succ]
    apply RelWalk.rest
    · kernel_rfl
    · intro X _ W hW hcl
      obtain ⟨⟨z0, z1, z2⟩, hF, _⟩ := F13.out
      have rF0 := fun q => gcell (hW q) z0
      have rF1 := fun q => gcell (hW q) z1
      have rF2 := fun q => gcell (hW q) z2
      clear z0 z1 z2
      obtain ⟨⟨z0, z1, z2⟩, hB, _⟩ := B13.out
      have rB0 := fun q => gcell (hW q) z0
      have rB1 := fun q => gcell (hW q) z1
      have rB2 := fun q => gcell (hW q) z2
      clear z0 z1 z2
      have d0 := Lib.hid (fun q => into hcl (HWK.out (W q)))
      repeat (go_big_quiet_step (first | (with_reducible exact d0.out _)))
      exact wpQuiet_nil rfl
    intro gq w6 hg _
    have HG := Lib.hid hg
    clear hg
    simp only [Spread]
    rintro v33 ⟨a5, c5, rfl, _⟩ v27 ⟨a4, c4, rfl, _⟩
    have T15 := Lib.hid (T13.out.bel HG.out)
    go_wp2_with fail
    go_ret
    exact ⟨rfl, T15.out.2.2⟩
end Go.Proofs.Ytblebboamopffaa
