/- TeleParts: the Go text returns true for any terms that are not greater than the second form's bound. -/
import Derived.Test.YtblebboamopffaaUd
import Derived.Deep.DeepCutAuto
namespace Go.Proofs.Ytblebboamopffaa
open Go.RowKit
set_option linter.unusedVariables false

set_option maxRecDepth 100000 in
set_option maxHeartbeats 2000000 in
theorem ltparts_any (A B : List Tm) (t : Tm) (hFA : ∀ a ∈ A, Fits a) (hFB : ∀ a ∈ B, Fits a) (hF : Fits t) (hsA : sizeL A ≤ 1048576) (hsB : sizeL B ≤ 1048576) (hs : size t ≤ 1048576) (w : World) (va vb v : Value) (hAA : At w A va) (hAB : At w B vb) (hA : At w t.kids v) :
    Calls Try.prog 6 #[va, vb, .agg #[.int .i64 t.k, .int .i64 t.n, v]] w fun e w' => e = .returned (.bool true) ∧ Below w.heap.size w w' := by
  obtain ⟨a1, c1, rfl⟩ := hA.shape
  obtain ⟨pa, cpa, rfl⟩ := hAA.shape
  obtain ⟨pb, cpb, rfl⟩ := hAB.shape
  have hAl : A.length ≤ 1048576 := Nat.le_trans (length_le_sizeL A) hsA
  have hBl : B.length ≤ 1048576 := Nat.le_trans (length_le_sizeL B) hsB
  have HH := heavy1 t hs w _ hA
  have HAA := Lib.hid hAA
  have HAB := Lib.hid hAB
  have HH2 : Hid (∀ W, Below w.heap.size w W → Calls Try.prog 9 #[.slice pa A.length cpa] W fun e w' => e = .returned (.bool (heavyB A)) ∧ Below W.heap.size W w') := fun W hW => heavy_any A (by omega) W _ (hAA.bel hW (Nat.le_refl _))
  have HH3 : Hid (∀ W, Below w.heap.size w W → Calls Try.prog 9 #[.slice pb B.length cpb] W fun e w' => e = .returned (.bool (heavyB B)) ∧ Below W.heap.size W w') := fun W hW => heavy_any B (by omega) W _ (hAB.bel hW (Nat.le_refl _))
  clear hA hAA hAB
  cases hh : heavyB [t] with
  | true =>
    rw [hh] at HH
    have HH := Lib.hid HH
    clear hh HH2 HH3
    go_enter Try.func6, Try.ntmps6
    go_wp2_with fail
    refine (HH.out).mono ?_
    rintro e w1 ⟨rfl, hb1⟩
    have T1 := Lib.hid (hb1)
    clear hb1
    go_wp2_with fail
    go_ret
    exact ⟨rfl, T1.out.2.2⟩
  | false =>
    rw [hh] at HH
    have HH := Lib.hid HH
    have hz1 := heavy_size1 hh
    clear hh
    cases hh2 : heavyB A with
    | true =>
      rw [hh2] at HH2
      clear hh2 HH3
      go_enter Try.func6, Try.ntmps6
      go_wp2_with fail
      refine (HH.out).mono ?_
      rintro e w1 ⟨rfl, hb1⟩
      have T1 := Lib.hid (hb1)
      clear hb1
      go_wp2_with fail
      refine (HH2.out _ T1.out.2.2).mono ?_
      rintro e w2 ⟨rfl, hb2⟩
      have T2 := Lib.hid (T1.out.bel hb2)
      clear hb2
      go_wp2_with fail
      go_ret
      exact ⟨rfl, T2.out.2.2⟩
    | false =>
      rw [hh2] at HH2
      have hz2 := heavy_size hh2
      have hp2 := heavy_len hh2
      clear hh2
      cases hh3 : heavyB B with
      | true =>
        rw [hh3] at HH3
        clear hh3
        go_enter Try.func6, Try.ntmps6
        go_wp2_with fail
        refine (HH.out).mono ?_
        rintro e w1 ⟨rfl, hb1⟩
        have T1 := Lib.hid (hb1)
        clear hb1
        go_wp2_with fail
        refine (HH2.out _ T1.out.2.2).mono ?_
        rintro e w2 ⟨rfl, hb2⟩
        have T2 := Lib.hid (T1.out.bel hb2)
        clear hb2
        go_wp2_with fail
        refine (HH3.out _ T2.out.2.2).mono ?_
        rintro e w3 ⟨rfl, hb3⟩
        have T3 := Lib.hid (T2.out.bel hb3)
        clear hb3
        go_wp2_with fail
        go_ret
        exact ⟨rfl, T3.out.2.2⟩
      | false =>
        rw [hh3] at HH3
        have hz3 := heavy_size hh3
        have hp3 := heavy_len hh3
        clear hh3
        have HWK := Lib.hid (fun w => wakes6_any w)
        have HTW := Lib.hid (fun W v hA => c_twins6 A hsA W v hA)
        obtain ⟨C, hC⟩ : ∃ C, C = A ++ B := ⟨_, rfl⟩
        have hFC : ∀ a ∈ C, Fits a := fun a ha => by rw [hC] at ha; exact (List.mem_append.1 ha).elim (hFA a) (hFB a)
        have hsC : sizeL C = sizeL A + sizeL B := by rw [hC, sizeL_append]
        have hlC : C.length = A.length + B.length := by rw [hC, List.length_append]
        have f1 := wrap_fits (.inl rfl) B t hFB hF
        have f2 := wrap_fits (.inr rfl) B t hFB hF
        have f3 := spine_fits A t hFA hF
        have y1 : size (wrapT 4 B t) = size t + sizeL B + B.length := wrap_size 4 B t
        have y2 : size (wrapT 5 B t) = size t + sizeL B + B.length := wrap_size 5 B t
        have y3 : size (spineT t A) = size t + sizeL A + A.length := spine_size A t
        have y4 : size (wrapT 4 C t) = size t + sizeL C + C.length := wrap_size 4 C t
        have y5 : size (wrapT 5 C t) = size t + sizeL C + C.length := wrap_size 5 C t
        have y6 : size (spineT t C) = size t + sizeL C + C.length := spine_size C t
        have P1 := Lib.hid (fun W vl v hL hA => spis_any C hFC (by omega) t hF hs W vl v hL hA)
        have P2 := Lib.hid (fun W vl v hL hA => spis_any B hFB hsB t hF hs W vl v hL hA)
        have P30 := fun W vl v hL hA => spis_any A hFA hsA (wrapT 4 B t) f1 (by omega) W vl v hL hA
        have L1 := Lib.hid (fun W vl v hL hA => slams_any C hFC (by omega) t hF hs W vl v hL hA)
        have L2 := Lib.hid (fun W vl v hL hA => slams_any B hFB hsB t hF hs W vl v hL hA)
        have L30 := fun W vl v hL hA => slams_any A hFA hsA (wrapT 5 B t) f2 (by omega) W vl v hL hA
        have S1 := Lib.hid (fun W v vl hA hL => sspine_any t hF hs C hFC (by omega) W v vl hA hL)
        have S2 := Lib.hid (fun W v vl hA hL => sspine_any t hF hs A hFA hsA W v vl hA hL)
        have S30 := fun W v vl hA hL => sspine_any (spineT t A) f3 (by omega) B hFB hsB W v vl hA hL
        have N10 := fun W v hA => spis_any [] (fun a h => nomatch h) (by decide) t hF hs W (.slice none 0 0) v .nl hA
        rw [← wrap_append, ← hC] at P30 L30
        rw [← spine_append, ← hC] at S30
        have P3 := Lib.hid P30
        have L3 := Lib.hid L30
        have S3 := Lib.hid S30
        rw [show wrapT 4 [] t = t from rfl] at N10
        have N1 := Lib.hid N10
        clear P30 L30 S30 N10
        have K1 := Lib.hid (fun W va vb hA hB => c_same6 (t := wrapT 4 C t) (by omega) W va vb hA hB)
        have K2 := Lib.hid (fun W va vb hA hB => c_same6 (t := wrapT 5 C t) (by omega) W va vb hA hB)
        have K3 := Lib.hid (fun W va vb hA hB => c_same6 (t := spineT t C) (by omega) W va vb hA hB)
        have K4 := Lib.hid (fun W va vb hA hB => c_same6 hs W va vb hA hB)
        generalize wrapT 4 C t = X1 at *
        generalize wrapT 4 B t = X2 at *
        generalize wrapT 5 C t = Y1 at *
        generalize wrapT 5 B t = Y2 at *
        generalize spineT t C = Z1 at *
        generalize spineT t A = Z2 at *
        have hn : A.length + B.length ≤ 1000000 := by omega
        have HLC := Lib.hid hlC
        clear f1 f2 f3 y1 y2 y3 y4 y5 y6 hFC hsC hlC hp2 hp3 hAl hBl
        go_enter Try.func6, Try.ntmps6
        go_wp2_with fail
        refine (HH.out).mono ?_
        rintro e w1 ⟨rfl, hb1⟩
        have T1 := Lib.hid (hb1)
        clear hb1
        go_wp2_with fail
        refine (HH2.out _ T1.out.2.2).mono ?_
        rintro e w2 ⟨rfl, hb2⟩
        have T2 := Lib.hid (T1.out.bel hb2)
        clear hb2
        go_wp2_with fail
        refine (HH3.out _ T2.out.2.2).mono ?_
        rintro e w3 ⟨rfl, hb3⟩
        have T3 := Lib.hid (T2.out.bel hb3)
        clear hb3
        clear T1 T2 HH HH2 HH3
        go_wp2_with fail
        refine (HTW.out _ _ (HAA.out.bel T3.out.2.2 (Nat.le_refl _))).mono ?_
        rintro e w4 ⟨a4, c4, rfl, _, hO4, hb4⟩
        have O4 := Lib.hid hO4
        have G4 := Lib.hid hb4
        have B3 := Lib.hid (HAB.out.bel T3.out.2.2 (Nat.le_refl _))
        clear hO4 hb4 HTW
        go_wp2_with (at_builtin; refine wpList_append_rows rfl (.tmp 20) (.tmp 21) rfl rfl rfl hn O4.out G4.out B3.out ?_; intro a5 c5 w5 hAB5 hb5)
        rw [← hC, HLC.out] at hAB5
        have C5 := Lib.hid hAB5
        have T5 := Lib.hid (T3.out.bel hb5)
        have A5 := Lib.hid (HAA.out.bel T5.out.2.2 (Nat.le_refl _))
        have B5 := Lib.hid (HAB.out.bel T5.out.2.2 (Nat.le_refl _))
        clear hAB5 hb5 O4 G4 B3 T3 HAA HAB hC hn
        go_wp2_with fail
        refine wp_region_rel (by kernel_rfl) (by kernel_rfl) (by kernel_rfl) ?_
        apply RelWalk.next 2
        · kernel_rfl
        · intro X _ W hW hcl
          simp only [List.take_succ_cons, List.take_zero]
          obtain ⟨⟨z0, z1, z2⟩, hT, _⟩ := T5.out
          have rT0 := fun q => gcell (hW q) z0
          have rT1 := fun q => gcell (hW q) z1
          have rT2 := fun q => gcell (hW q) z2
          clear z0 z1 z2
          repeat (go_big_quiet_step (fail))
          exact wpQuiet_nil rfl
        simp only [List.drop_succ_cons, List.drop_zero]
        refine RelWalk.made0 (RT X1) rfl (by kernel_rfl) (by kernel_rfl) rfl (RT.mono X1) (fun w2 hg => ?_) ?_
        · have hc := Lib.hid (P1.out w2 _ _ (C5.out.bel hg (Nat.le_refl _)) (T5.out.2.1.bel hg (Nat.le_refl _)))
          go_simp
          exact rel_enter (rt_of hc.out)
        simp only [Act.put, List.setIfInBounds_toArray, List.set_cons_zero, List.set_cons_succ]
        apply RelWalk.next 3
        · kernel_rfl
        · intro X _ W hW hcl
          simp only [List.take_succ_cons, List.take_zero]
          obtain ⟨⟨z0, z1, z2⟩, hT, _⟩ := T5.out
          have rT0 := fun q => gcell (hW q) z0
          have rT1 := fun q => gcell (hW q) z1
          have rT2 := fun q => gcell (hW q) z2
          clear z0 z1 z2
          repeat (go_big_quiet_step (fail))
          exact wpQuiet_nil rfl
        simp only [List.drop_succ_cons, List.drop_zero]
        refine RelWalk.made0 (RT X2) rfl (by kernel_rfl) (by kernel_rfl) rfl (RT.mono X2) (fun w2 hg => ?_) ?_
        · have hc := Lib.hid (P2.out w2 _ _ (B5.out.bel hg (Nat.le_refl _)) (T5.out.2.1.bel hg (Nat.le_refl _)))
          go_simp
          exact rel_enter (rt_of hc.out)
        simp only [Act.put, List.setIfInBounds_toArray, List.set_cons_zero, List.set_cons_succ]
        refine RelWalk.made1 (RT X1) rfl (by kernel_rfl) (by kernel_rfl) rfl (RT.mono X1) (fun g w2 hg v1 hv1 => ?_) ?_
        · obtain ⟨a, c, rfl, hA⟩ := hv1
          have hc := Lib.hid (P3.out w2 _ _ (A5.out.bel hg (Nat.le_refl _)) hA.at)
          clear hA
          go_simp
          exact rel_enter (rt_of hc.out)
        simp only [Act.put, List.setIfInBounds_toArray, List.set_cons_zero, List.set_cons_succ]
        refine RelWalk.used2 (.bool true) rfl (by kernel_rfl) (by kernel_rfl) rfl (fun g w2 hg v1 hv1 v2 hv2 => ?_) ?_
        · obtain ⟨a, c, rfl, hA⟩ := hv1
          obtain ⟨a2, c2, rfl, hA2⟩ := hv2
          have hc := Lib.hid (K1.out w2 _ _ hA2.at hA.at)
          clear hA hA2
          go_simp
          exact rel_enter_c hc.out
        simp only [Act.put, List.setIfInBounds_toArray, List.set_cons_zero, List.set_cons_succ]
        apply RelWalk.next 3
        · kernel_rfl
        · intro X _ W hW hcl
          simp only [List.take_succ_cons, List.take_zero]
          obtain ⟨⟨z0, z1, z2⟩, hT, _⟩ := T5.out
          have rT0 := fun q => gcell (hW q) z0
          have rT1 := fun q => gcell (hW q) z1
          have rT2 := fun q => gcell (hW q) z2
          clear z0 z1 z2
          repeat (go_big_quiet_step (fail))
          exact wpQuiet_nil rfl
        simp only [List.drop_succ_cons, List.drop_zero]
        refine RelWalk.made0 (RT Y1) rfl (by kernel_rfl) (by kernel_rfl) rfl (RT.mono Y1) (fun w2 hg => ?_) ?_
        · have hc := Lib.hid (L1.out w2 _ _ (C5.out.bel hg (Nat.le_refl _)) (T5.out.2.1.bel hg (Nat.le_refl _)))
          go_simp
          exact rel_enter (rt_of hc.out)
        simp only [Act.put, List.setIfInBounds_toArray, List.set_cons_zero, List.set_cons_succ]
        apply RelWalk.next 3
        · kernel_rfl
        · intro X _ W hW hcl
          simp only [List.take_succ_cons, List.take_zero]
          obtain ⟨⟨z0, z1, z2⟩, hT, _⟩ := T5.out
          have rT0 := fun q => gcell (hW q) z0
          have rT1 := fun q => gcell (hW q) z1
          have rT2 := fun q => gcell (hW q) z2
          clear z0 z1 z2
          repeat (go_big_quiet_step (fail))
          exact wpQuiet_nil rfl
        simp only [List.drop_succ_cons, List.drop_zero]
        refine RelWalk.made0 (RT Y2) rfl (by kernel_rfl) (by kernel_rfl) rfl (RT.mono Y2) (fun w2 hg => ?_) ?_
        · have hc := Lib.hid (L2.out w2 _ _ (B5.out.bel hg (Nat.le_refl _)) (T5.out.2.1.bel hg (Nat.le_refl _)))
          go_simp
          exact rel_enter (rt_of hc.out)
        simp only [Act.put, List.setIfInBounds_toArray, List.set_cons_zero, List.set_cons_succ]
        refine RelWalk.made1 (RT Y1) rfl (by kernel_rfl) (by kernel_rfl) rfl (RT.mono Y1) (fun g w2 hg v1 hv1 => ?_) ?_
        · obtain ⟨a, c, rfl, hA⟩ := hv1
          have hc := Lib.hid (L3.out w2 _ _ (A5.out.bel hg (Nat.le_refl _)) hA.at)
          clear hA
          go_simp
          exact rel_enter (rt_of hc.out)
        simp only [Act.put, List.setIfInBounds_toArray, List.set_cons_zero, List.set_cons_succ]
        refine RelWalk.used2 (.bool true) rfl (by kernel_rfl) (by kernel_rfl) rfl (fun g w2 hg v1 hv1 v2 hv2 => ?_) ?_
        · obtain ⟨a, c, rfl, hA⟩ := hv1
          obtain ⟨a2, c2, rfl, hA2⟩ := hv2
          have hc := Lib.hid (K2.out w2 _ _ hA2.at hA.at)
          clear hA hA2
          go_simp
          exact rel_enter_c hc.out
        simp only [Act.put, List.setIfInBounds_toArray, List.set_cons_zero, List.set_cons_succ]
        apply RelWalk.next 4
        · kernel_rfl
        · intro X _ W hW hcl
          simp only [List.take_succ_cons, List.take_zero]
          obtain ⟨⟨z0, z1, z2⟩, hT, _⟩ := T5.out
          have rT0 := fun q => gcell (hW q) z0
          have rT1 := fun q => gcell (hW q) z1
          have rT2 := fun q => gcell (hW q) z2
          clear z0 z1 z2
          repeat (go_big_quiet_step (fail))
          exact wpQuiet_nil rfl
        simp only [List.drop_succ_cons, List.drop_zero]
        refine RelWalk.made0 (RT Z1) rfl (by kernel_rfl) (by kernel_rfl) rfl (RT.mono Z1) (fun w2 hg => ?_) ?_
        · have hc := Lib.hid (S1.out w2 _ _ (T5.out.2.1.bel hg (Nat.le_refl _)) (C5.out.bel hg (Nat.le_refl _)))
          go_simp
          exact rel_enter (rt_of hc.out)
        simp only [Act.put, List.setIfInBounds_toArray, List.set_cons_zero, List.set_cons_succ]
        apply RelWalk.next 2
        · kernel_rfl
        · intro X _ W hW hcl
          simp only [List.take_succ_cons, List.take_zero]
          obtain ⟨⟨z0, z1, z2⟩, hT, _⟩ := T5.out
          have rT0 := fun q => gcell (hW q) z0
          have rT1 := fun q => gcell (hW q) z1
          have rT2 := fun q => gcell (hW q) z2
          clear z0 z1 z2
          repeat (go_big_quiet_step (fail))
          exact wpQuiet_nil rfl
        simp only [List.drop_succ_cons, List.drop_zero]
        refine RelWalk.made0 (RT Z2) rfl (by kernel_rfl) (by kernel_rfl) rfl (RT.mono Z2) (fun w2 hg => ?_) ?_
        · have hc := Lib.hid (S2.out w2 _ _ (T5.out.2.1.bel hg (Nat.le_refl _)) (A5.out.bel hg (Nat.le_refl _)))
          go_simp
          exact rel_enter (rt_of hc.out)
        simp only [Act.put, List.setIfInBounds_toArray, List.set_cons_zero, List.set_cons_succ]
        apply RelWalk.next 1
        · kernel_rfl
        · intro X _ W hW hcl
          simp only [List.take_succ_cons, List.take_zero]
          obtain ⟨⟨z0, z1, z2⟩, hT, _⟩ := T5.out
          have rT0 := fun q => gcell (hW q) z0
          have rT1 := fun q => gcell (hW q) z1
          have rT2 := fun q => gcell (hW q) z2
          clear z0 z1 z2
          repeat (go_big_quiet_step (fail))
          exact wpQuiet_nil rfl
        simp only [List.drop_succ_cons, List.drop_zero]
        refine RelWalk.made1 (RT Z1) rfl (by kernel_rfl) (by kernel_rfl) rfl (RT.mono Z1) (fun g w2 hg v1 hv1 => ?_) ?_
        · obtain ⟨a, c, rfl, hA⟩ := hv1
          have hc := Lib.hid (S3.out w2 _ _ hA.at (B5.out.bel hg (Nat.le_refl _)))
          clear hA
          go_simp
          exact rel_enter (rt_of hc.out)
        simp only [Act.put, List.setIfInBounds_toArray, List.set_cons_zero, List.set_cons_succ]
        refine RelWalk.used2 (.bool true) rfl (by kernel_rfl) (by kernel_rfl) rfl (fun g w2 hg v1 hv1 v2 hv2 => ?_) ?_
        · obtain ⟨a, c, rfl, hA⟩ := hv1
          obtain ⟨a2, c2, rfl, hA2⟩ := hv2
          have hc := Lib.hid (K3.out w2 _ _ hA2.at hA.at)
          clear hA hA2
          go_simp
          exact rel_enter_c hc.out
        simp only [Act.put, List.setIfInBounds_toArray, List.set_cons_zero, List.set_cons_succ]
        apply RelWalk.next 3
        · kernel_rfl
        · intro X _ W hW hcl
          simp only [List.take_succ_cons, List.take_zero]
          obtain ⟨⟨z0, z1, z2⟩, hT, _⟩ := T5.out
          have rT0 := fun q => gcell (hW q) z0
          have rT1 := fun q => gcell (hW q) z1
          have rT2 := fun q => gcell (hW q) z2
          clear z0 z1 z2
          repeat (go_big_quiet_step (fail))
          exact wpQuiet_nil rfl
        simp only [List.drop_succ_cons, List.drop_zero]
        refine RelWalk.made0 (RT t) rfl (by kernel_rfl) (by kernel_rfl) rfl (RT.mono t) (fun w2 hg => ?_) ?_
        · have hc := Lib.hid (N1.out w2 _ (T5.out.2.1.bel hg (Nat.le_refl _)))
          go_simp
          exact rel_enter (rt_of hc.out)
        simp only [Act.put, List.setIfInBounds_toArray, List.set_cons_zero, List.set_cons_succ]
        apply RelWalk.next 1
        · kernel_rfl
        · intro X _ W hW hcl
          simp only [List.take_succ_cons, List.take_zero]
          obtain ⟨⟨z0, z1, z2⟩, hT, _⟩ := T5.out
          have rT0 := fun q => gcell (hW q) z0
          have rT1 := fun q => gcell (hW q) z1
          have rT2 := fun q => gcell (hW q) z2
          clear z0 z1 z2
          repeat (go_big_quiet_step (fail))
          exact wpQuiet_nil rfl
        simp only [List.drop_succ_cons, List.drop_zero]
        refine RelWalk.used1 (.bool true) rfl (by kernel_rfl) (by kernel_rfl) rfl (fun g w2 hg v1 hv1 => ?_) ?_
        · obtain ⟨a, c, rfl, hA⟩ := hv1
          have hc := Lib.hid (K4.out w2 _ _ hA.at (T5.out.2.1.bel hg (Nat.le_refl _)))
          clear hA
          go_simp
          exact rel_enter_c hc.out
        simp only [Act.put, List.setIfInBounds_toArray, List.set_cons_zero, List.set_cons_succ]
        apply RelWalk.rest
        · kernel_rfl
        · intro X _ W hW hcl
          obtain ⟨⟨z0, z1, z2⟩, hT, _⟩ := T5.out
          have rT0 := fun q => gcell (hW q) z0
          have rT1 := fun q => gcell (hW q) z1
          have rT2 := fun q => gcell (hW q) z2
          clear z0 z1 z2
          have d0 := Lib.hid (fun q => into hcl (HWK.out (W q)))
          repeat (go_big_quiet_step (first | (with_reducible exact d0.out _)))
          exact wpQuiet_nil rfl
        intro gq w6 hg _
        have HG := Lib.hid hg
        clear hg
        simp only [Spread]
        rintro v56 ⟨b1, d1, rfl, _⟩ v51 ⟨b2, d2, rfl, _⟩ v49 ⟨b3, d3, rfl, _⟩ v46 ⟨b4, d4, rfl, _⟩ v40 ⟨b5, d5, rfl, _⟩ v39 ⟨b6, d6, rfl, _⟩ v35 ⟨b7, d7, rfl, _⟩ v30 ⟨b8, d8, rfl, _⟩ v29 ⟨b9, d9, rfl, _⟩ v25 ⟨b10, d10, rfl, _⟩
        simp only [Act.put, List.setIfInBounds_toArray, List.set_cons_zero, List.set_cons_succ]
        have T15 := Lib.hid (T5.out.bel HG.out)
        go_wp2_with fail
        go_ret
        exact ⟨rfl, T15.out.2.2⟩
end Go.Proofs.Ytblebboamopffaa
