/- TeleBack: the Go text returns true for any terms that are not greater than the second form's bound. -/
import Derived.Test.YtblebboamopffaaUc
import Derived.Deep.DeepCutAuto
namespace Go.Proofs.Ytblebboamopffaa
open Go.RowKit
set_option linter.unusedVariables false

set_option maxRecDepth 100000 in
set_option maxHeartbeats 6000000 in
theorem ltback_any (t : Tm) (A : List Tm) (hF : Fits t) (hFA : ∀ a ∈ A, Fits a) (hs : size t ≤ 1048576) (hsA : sizeL A ≤ 1048576) (w : World) (v va : Value) (hA : At w t.kids v) (hAA : At w A va) :
    Calls Try.prog 4 #[va, .agg #[.int .i64 t.k, .int .i64 t.n, v]] w fun e w' => e = .returned (.bool true) ∧ Below w.heap.size w w' := by
  obtain ⟨a1, c1, rfl⟩ := hA.shape
  obtain ⟨pa, cp, rfl⟩ := hAA.shape
  have hAl : A.length ≤ 1048576 := Nat.le_trans (length_le_sizeL A) hsA
  have HH := heavy1 t hs w _ hA
  have HAA := Lib.hid hAA
  have HH2 : Hid (∀ W, Below w.heap.size w W → Calls Try.prog 9 #[.slice pa A.length cp] W fun e w' => e = .returned (.bool (heavyB A)) ∧ Below W.heap.size W w') := fun W hW => heavy_any A (by omega) W _ (hAA.bel hW (Nat.le_refl _))
  clear hA hAA
  cases hh : heavyB [t] with
  | true =>
    rw [hh] at HH
    have HH := Lib.hid HH
    clear hh HH2
    go_enter Try.func4, Try.ntmps4
    go_wp2_with fail
    refine HH.out.mono ?_
    rintro e w1 ⟨rfl, hb1⟩
    have T1 := Lib.hid hb1
    clear hb1
    go_wp2_with fail
    go_ret
    exact ⟨rfl, T1.out.2.2⟩
  | false =>
    rw [hh] at HH
    have HH := Lib.hid HH
    have hz1 := heavy_size1 hh
    clear hh
    cases hh2 : heavyB A with
    | true =>
      rw [hh2] at HH2
      clear hh2
      go_enter Try.func4, Try.ntmps4
      go_wp2_with fail
      refine HH.out.mono ?_
      rintro e w1 ⟨rfl, hb1⟩
      have T1 := Lib.hid hb1
      clear hb1
      go_wp2_with fail
      refine (HH2.out _ T1.out.2.2).mono ?_
      rintro e w2 ⟨rfl, hb2⟩
      have T2 := Lib.hid (T1.out.bel hb2)
      clear hb2
      go_wp2_with fail
      go_ret
      exact ⟨rfl, T2.out.2.2⟩
    | false =>
      rw [hh2] at HH2
      have hp : A.length ≤ 60 := by
        have := hh2
        simp only [heavyB, Bool.or_eq_false_iff, decide_eq_false_iff_not] at this
        omega
      have hz2 := heavy_size hh2
      clear hh2
      have HWK := Lib.hid (fun w => wakes6_any w)
      go_enter Try.func4, Try.ntmps4
      go_wp2_with fail
      refine HH.out.mono ?_
      rintro e w1 ⟨rfl, hb1⟩
      have T1 := Lib.hid hb1
      clear hb1 HH
      go_wp2_with fail
      refine (HH2.out _ T1.out.2.2).mono ?_
      rintro e w2 ⟨rfl, hb2⟩
      have T2 := Lib.hid (T1.out.bel hb2)
      clear hb2 T1 HH2
      have HSZ := Lib.hid (fun W v hA => c_size t hF hs W v hA)
      obtain ⟨⟨x0, x1, x2⟩, _⟩ := T2.out
      go_wp2_with fail
      refine (HSZ.out _ _ T2.out.2.1).mono ?_
      rintro e w3 ⟨rfl, hb3⟩
      have T3 := Lib.hid (T2.out.bel hb3)
      clear hb3 x0 x1 x2 T2 HSZ
      go_wp2_with fail
      go_loopw [5, 6] (fun n i wr => ∃ j : Nat, j ≤ A.length ∧ i = .int .i64 j ∧ n = .int .i64 ((size t + sizeL (A.take j) + j : Nat) : Int) ∧ One w w.heap.size t (.slice a1 t.kids.length c1) wr) (fun _ i _ => A.length - (RowKit.intOf i).toNat)
      case atStart => exact ⟨0, Nat.zero_le _, rfl, by simp [sizeL], T3.out⟩
      case round =>
        obtain ⟨j, hj, rfl, rfl, hT⟩ := hrel
        clear T3
        have T4 := Lib.hid hT
        clear hT
        have hst := sizeL_take A j
        by_cases hlt : j < A.length
        · obtain ⟨b, off, cap', vs', he, h1, h2, kk, kn, kv, ks⟩ := (HAA.out.bel T4.out.2.2 (Nat.le_refl _)).pos (by omega)
          have gk := kk j hlt
          have gn := kn j hlt
          have gv := kv j hlt
          have gs := ks j hlt
          obtain ⟨au, cu, hvu⟩ := gs.shape
          rw [hvu] at gv gs
          have hsz := size_get hlt
          have HC := Lib.hid (c_size A[j] (hFA _ (List.getElem_mem hlt)) (by omega) wr _ gs)
          have hl1 : (j : Int) < (A.length : Int) := by omega
          have hl0 : (0 : Int) ≤ (j : Int) := by omega
          have hss := sizeL_take_succ hlt
          have hw1 : IntKind.i64.wrap (((size t + sizeL (A.take j) + j : Nat) : Int) + (size A[j] : Int)) = ((size t + sizeL (A.take j) + j : Nat) : Int) + (size A[j] : Int) := IntWalk.i64_in _ (by omega)
          have hw2 : IntKind.i64.wrap ((((size t + sizeL (A.take j) + j : Nat) : Int) + (size A[j] : Int)) + 1) = ((size t + sizeL (A.take (j + 1)) + (j + 1) : Nat) : Int) := by rw [IntWalk.i64_in _ (by omega)]; omega
          obtain ⟨S1, HS1⟩ : ∃ S1, Hid (S1 = size t + sizeL (A.take (j + 1)) + (j + 1)) := ⟨_, rfl⟩
          rw [← HS1.out] at hw2
          generalize size t + sizeL (A.take j) + j = S0 at *
          cases he
          clear kk kn kv ks gs hvu h1 h2 hss hst
          go_wp2_with fail
          refine HC.out.mono ?_
          rintro e w5 ⟨rfl, hb5⟩
          have T5 := Lib.hid (T4.out.bel hb5)
          clear hb5 gk gn gv
          go_wp2_with fail
          go_roundw
          case rel => exact ⟨j + 1, by omega, by go_num, by rw [← HS1.out, ← hw2], T5.out⟩
          case measure => simp [RowKit.intOf]; omega
        · obtain rfl : j = A.length := by omega
          have hlt1 : decide ((A.length : Int) < (A.length : Int)) = false := by simp
          rw [List.take_length]
          have f4 := wrap_fits (.inl rfl) A t hFA hF
          have f5 := wrap_fits (.inr rfl) A t hFA hF
          have f6 := spine_fits A t hFA hF
          have y4 : size (wrapT 4 A t) = size t + sizeL A + A.length := wrap_size 4 A t
          have y5 : size (wrapT 5 A t) = size t + sizeL A + A.length := wrap_size 5 A t
          have y6 : size (spineT t A) = size t + sizeL A + A.length := spine_size A t
          have C4 := Lib.hid (fun W vl v hL hA => spis_any A hFA hsA t hF hs W vl v hL hA)
          have C5 := Lib.hid (fun W vl v hL hA => slams_any A hFA hsA t hF hs W vl v hL hA)
          have C6 := Lib.hid (fun W v vl hA hL => sspine_any t hF hs A hFA hsA W v vl hA hL)
          have Z4 := Lib.hid (fun W v hA => c_size _ f4 (by omega) W v hA)
          have Z5 := Lib.hid (fun W v hA => c_size _ f5 (by omega) W v hA)
          have Z6 := Lib.hid (fun W v hA => c_size _ f6 (by omega) W v hA)
          rw [y4] at Z4
          rw [y5] at Z5
          rw [y6] at Z6
          have U1 := Lib.hid (fun W v hA => sunspine_any _ f6 (by omega) W v hA)
          have U2 := Lib.hid (fun W v hA => sunpis_any _ f4 (by omega) W v hA)
          rw [unspine_spine] at U1
          rw [unpis_wrap] at U2
          dsimp only at U1 U2
          have hu1 := unspine_sizes t
          have hu2 := unpis_sizes t
          obtain ⟨X, hX⟩ : ∃ X, X = (unspine t).2 ++ A := ⟨_, rfl⟩
          obtain ⟨D, hD⟩ : ∃ D, D = A ++ (unpis t).1 := ⟨_, rfl⟩
          rw [← hX] at U1
          rw [← hD] at U2
          have hXn : X.length ≤ 10000 := by rw [hX, List.length_append]; have := length_le_sizeL (unspine t).2; omega
          have hDn : D.length ≤ 10000 := by rw [hD, List.length_append]; have := length_le_sizeL (unpis t).1; omega
          have hXl : A.length ≤ X.length := by rw [hX, List.length_append]; omega
          have hDl : A.length ≤ D.length := by rw [hD, List.length_append]; omega
          have HXD := Lib.hid (show X.drop (X.length - A.length) = A by rw [hX, List.length_append, Nat.add_sub_cancel, List.drop_left])
          have HDD := Lib.hid (show D.take A.length = A by rw [hD, List.take_left])
          have he1 : t.k ≠ 6 → t = (unspine t).1 ∧ X = A := fun h => by have e := unspine_no (t := t) (fun x => h x.1); rw [hX, e]; exact ⟨rfl, rfl⟩
          have he2 : t.k ≠ 4 → t = (unpis t).2 ∧ D = A := fun h => by have e := unpis_no (t := t) (fun x => h x.1); rw [hD, e]; exact ⟨rfl, List.append_nil A⟩
          generalize (unspine t).1 = F at *
          generalize (unspine t).2 = X0 at *
          generalize (unpis t).1 = D0 at *
          generalize (unpis t).2 = B at *
          have KX : Hid (t.k ≠ 6 → ∀ W va vb, At W X va → At W A vb → Calls Try.prog 23 #[va, vb] W fun e w' => e = .returned (.bool true) ∧ Below W.heap.size W w') := fun h W va vb hA hB => by
            rw [(he1 h).2] at hA
            exact c_sameL6 hsA W va vb hA hB
          have KD : Hid (t.k ≠ 4 → ∀ W va vb, At W D va → At W A vb → Calls Try.prog 23 #[va, vb] W fun e w' => e = .returned (.bool true) ∧ Below W.heap.size W w') := fun h W va vb hA hB => by
            rw [(he2 h).2] at hA
            exact c_sameL6 hsA W va vb hA hB
          have HE1 : Hid (t.k ≠ 6 → t = F) := fun h => (he1 h).1
          have HE2 : Hid (t.k ≠ 4 → t = B) := fun h => (he2 h).1
          clear hX hD he1 he2 hu1 hu2
          have hq1 : (((size t + sizeL A + A.length : Nat) : Int) != ((size t + sizeL A + A.length : Nat) : Int)) = false := by simp
          generalize spineT t A = p at *
          generalize wrapT 4 A t = q at *
          generalize wrapT 5 A t = r at *
          generalize size t + sizeL A + A.length = N at *
          clear f4 f5 f6 y4 y5 y6 hlt hj hst
          have A4 := Lib.hid (HAA.out.bel T4.out.2.2 (Nat.le_refl _))
          go_wp2_with fail
          refine wp_region_rel_tail 8 (by kernel_rfl) (by kernel_rfl) (by kernel_rfl) ?_
          simp only [List.take_succ_cons, List.take_zero]
          simp only [List.drop_succ_cons, List.drop_zero]
          apply RelWalk.next 2
          · kernel_rfl
          · intro X _ W hW hcl
            simp only [List.take_succ_cons, List.take_zero]
            obtain ⟨⟨z0, z1, z2⟩, hT, _⟩ := T4.out
            have rT0 := fun q => gcell (hW q) z0
            have rT1 := fun q => gcell (hW q) z1
            have rT2 := fun q => gcell (hW q) z2
            clear z0 z1 z2
            repeat (go_big_quiet_step (fail))
            exact wpQuiet_nil rfl
          simp only [List.drop_succ_cons, List.drop_zero]
          refine RelWalk.made0 (RT p) rfl (by kernel_rfl) (by kernel_rfl) rfl (RT.mono p) (fun w2 hg => ?_) ?_
          · have hc := Lib.hid (C6.out w2 _ _ (T4.out.2.1.bel hg (Nat.le_refl _)) (A4.out.bel hg (Nat.le_refl _)))
            go_simp
            exact rel_enter (rt_of hc.out)
          simp only [Act.put, List.setIfInBounds_toArray, List.set_cons_zero, List.set_cons_succ]
          apply RelWalk.next 2
          · kernel_rfl
          · intro X _ W hW hcl
            simp only [List.take_succ_cons, List.take_zero]
            obtain ⟨⟨z0, z1, z2⟩, hT, _⟩ := T4.out
            have rT0 := fun q => gcell (hW q) z0
            have rT1 := fun q => gcell (hW q) z1
            have rT2 := fun q => gcell (hW q) z2
            clear z0 z1 z2
            repeat (go_big_quiet_step (fail))
            exact wpQuiet_nil rfl
          simp only [List.drop_succ_cons, List.drop_zero]
          refine RelWalk.made0 (RT q) rfl (by kernel_rfl) (by kernel_rfl) rfl (RT.mono q) (fun w2 hg => ?_) ?_
          · have hc := Lib.hid (C4.out w2 _ _ (A4.out.bel hg (Nat.le_refl _)) (T4.out.2.1.bel hg (Nat.le_refl _)))
            go_simp
            exact rel_enter (rt_of hc.out)
          simp only [Act.put, List.setIfInBounds_toArray, List.set_cons_zero, List.set_cons_succ]
          refine RelWalk.made0 RZ rfl (by kernel_rfl) (by kernel_rfl) rfl RZ.mono (fun w2 hg => ?_) ?_
          · go_simp
            exact ⟨below_al w2 _, rfl, World.alloc_heap_new w2 _, by simp⟩
          simp only [Act.put, List.setIfInBounds_toArray, List.set_cons_zero, List.set_cons_succ]
          refine RelWalk.made0 RZ rfl (by kernel_rfl) (by kernel_rfl) rfl RZ.mono (fun w2 hg => ?_) ?_
          · go_simp
            exact ⟨below_al w2 _, rfl, World.alloc_heap_new w2 _, by simp⟩
          simp only [Act.put, List.setIfInBounds_toArray, List.set_cons_zero, List.set_cons_succ]
          refine RelWalk.done fun g w5 hg hP => ?_
          simp only [Spread]
          rintro v8 ⟨rfl, z7, _⟩ v7 ⟨rfl, z6, _⟩ v41 ⟨a5, c5, rfl, hq⟩ v38 ⟨a4, c4, rfl, hp4⟩
          obtain ⟨hP1, hP2⟩ := hP
          have m6 := hP1 7 (by simp)
          have m7 := hP1 8 (by simp)
          have r1 := hP2 7 (by simp) 8 (by simp) (by decide)
          have r2 := hP2 7 (by simp) 38 (by simp) (by decide)
          have r3 := hP2 7 (by simp) 41 (by simp) (by decide)
          have r4 := hP2 8 (by simp) 38 (by simp) (by decide)
          have r5 := hP2 8 (by simp) 41 (by simp) (by decide)
          clear hP1 hP2
          generalize g 7 = g6 at *
          generalize g 8 = g7 at *
          generalize g 38 = g37 at *
          generalize g 41 = g40 at *
          obtain ⟨s6, e6⟩ := g6
          obtain ⟨s7, e7⟩ := g7
          obtain ⟨s37, e37⟩ := g37
          obtain ⟨s40, e40⟩ := g40
          simp only at *
          have hne : s6 ≠ s7 := by omega
          have HTT := two_told T4.out.2.2 hg (by omega : wr.heap.size ≤ s6) (by omega : wr.heap.size ≤ s7) hne z6 z7 hp4 hq (fun b hb => by omega) (fun b hb => by omega)
          have P6 := Lib.hid HTT.1
          have Q6 := Lib.hid HTT.2.1
          have G6 := Lib.hid HTT.2.2
          obtain ⟨⟨n0, n1, n2⟩, f0, f1, f2⟩ := boxc z6
          obtain ⟨⟨l0, l1, l2⟩, o0, o1, o2⟩ := boxc z7
          have hn1 : ¬ (s6 = s7) := hne
          have hn2 : ¬ (s7 = s6) := fun h => hne h.symm
          clear HTT hne m6 m7 r1 r2 r3 r4 r5 hp4 hq z6 z7 hg
          go_wp2_with fail
          have T6 := Lib.hid (T4.out.bel G6.out)
          refine (Z6.out _ _ P6.out.2.1).mono ?_
          rintro e w7 ⟨rfl, hb7⟩
          have P7 := Lib.hid (P6.out.bel hb7)
          have Q7 := Lib.hid (Q6.out.bel hb7)
          have T7 := Lib.hid (T6.out.bel hb7)
          clear hb7 n0 n1 n2 l0 l1 l2 f0 f1 f2 o0 o1 o2 P6 Q6 G6 T6 A4
          obtain ⟨⟨q0, q1, q2⟩, _⟩ := Q7.out
          go_wp2_with fail
          clear q0 q1 q2
          refine (Z4.out _ _ Q7.out.2.1).mono ?_
          rintro e w8 ⟨rfl, hb8⟩
          have P8 := Lib.hid (P7.out.bel hb8)
          have Q8 := Lib.hid (Q7.out.bel hb8)
          have T8 := Lib.hid (T7.out.bel hb8)
          clear hb8 P7 Q7 T7
          obtain ⟨⟨q0, q1, q2⟩, _⟩ := T8.out
          go_wp2_with fail
          clear q0 q1 q2
          refine (C5.out _ _ _ (HAA.out.bel T8.out.2.2 (Nat.le_refl _)) T8.out.2.1).mono ?_
          rintro e w9 ⟨a9, c9, rfl, hK9, hb9⟩
          have R9 := Lib.hid hK9.at
          have P9 := Lib.hid (P8.out.bel hb9)
          have Q9 := Lib.hid (Q8.out.bel hb9)
          have T9 := Lib.hid (T8.out.bel hb9)
          clear hb9 hK9 P8 Q8 T8
          go_wp2_with fail
          refine (Z5.out _ _ R9.out).mono ?_
          rintro e w10 ⟨rfl, hb10⟩
          have P10 := Lib.hid (P9.out.bel hb10)
          have Q10 := Lib.hid (Q9.out.bel hb10)
          have T10 := Lib.hid (T9.out.bel hb10)
          clear hb10 P9 Q9 T9 R9 Z4 Z5 Z6 C4 C5 C6
          obtain ⟨⟨q0, q1, q2⟩, _⟩ := P10.out
          go_wp2_with fail
          clear q0 q1 q2
          refine (U1.out _ _ P10.out.2.1).mono ?_
          rintro e w11 ⟨a11, c11, a12, c12, rfl, hF11, hX11, hb11⟩
          obtain ⟨hO11, hg11⟩ := boxed_at P10.out.2.2 hb11 hF11.at
          have F11 := Lib.hid hO11
          have X11 := Lib.hid (hX11.at.bel (below_al w11 (.cells #[.int .i64 F.k, .int .i64 F.n, .slice a11 F.kids.length c11] 24)) (Nat.le_refl _))
          have Q11 := Lib.hid (Q10.out.bel hg11)
          have T11 := Lib.hid (T10.out.bel hg11)
          clear hO11 hg11 hF11 hX11 hb11 P10 Q10 T10 U1
          obtain ⟨⟨q0, q1, q2⟩, _⟩ := Q11.out
          go_wp2_with fail
          clear q0 q1 q2
          refine (U2.out _ _ Q11.out.2.1).mono ?_
          rintro e w13 ⟨a13, c13, a14, c14, rfl, hF13, hX13, hb13⟩
          obtain ⟨hO13, hg13⟩ := boxed_at Q11.out.2.2 hb13 hF13.at
          have B13 := Lib.hid hO13
          have D13 := Lib.hid (hX13.at.bel (below_al w13 (.cells #[.int .i64 B.k, .int .i64 B.n, .slice a13 B.kids.length c13] 24)) (Nat.le_refl _))
          have F13 := Lib.hid (F11.out.bel hg13)
          have X13 := Lib.hid (X11.out.bel hg13 (Nat.le_refl _))
          have T13 := Lib.hid (T11.out.bel hg13)
          clear hO13 hg13 hF13 hX13 hb13 Q11 T11 F11 X11 U2
          go_upto_region 13 with (fail)
          obtain ⟨w14, hw14⟩ : ∃ w14, w14 = w13.alloc (.cells #[.int .i64 B.k, .int .i64 B.n, .slice a13 B.kids.length c13] 24) := ⟨_, rfl⟩
          rw [← hw14] at B13 D13 F13 X13 T13 ⊢
          clear hw14
          have HK := Lib.hid (fun W va vb hA hB => c_same6 hs W va vb hA hB)
          have HKL := Lib.hid (fun W va vb hA hB => c_sameL6 hsA W va vb hA hB)
          obtain ⟨⟨q0, q1, q2⟩, _⟩ := F13.out
          obtain ⟨⟨b0, b1, b2⟩, _⟩ := B13.out
          obtain ⟨⟨x0, x1, x2⟩, _⟩ := T13.out
          have hk : t.k = 6 ∨ t.k = 4 ∨ (t.k ≠ 6 ∧ t.k ≠ 4) := by omega
          rcases hk with hk | hk | hk
          · have hk6 : True := trivial
            have k1 : (t.k != 6) = false := by simp [hk]
            have k2 : (t.k != 4) = true := by simp [hk]
            have hk4 : t.k ≠ 4 := by omega
            obtain rfl := HE2.out hk4
            have K6 := Lib.hid hk6
            have K4 := Lib.hid hk4
            clear hk6 hk4 hk q0 q1 q2 b0 b1 b2 x0 x1 x2
            obtain ⟨⟨b0, b1, b2⟩, _⟩ := B13.out
            obtain ⟨⟨x0, x1, x2⟩, _⟩ := T13.out
            go_wp2_with fail
            clear b0 b1 b2
            clear x0 x1 x2
            refine (HK.out _ _ _ B13.out.2.1 T13.out.2.1).mono ?_
            rintro e w20 ⟨rfl, hb20⟩
            have T20 := Lib.hid (T13.out.bel hb20)
            have F20 := Lib.hid (F13.out.bel hb20)
            have B20 := Lib.hid (B13.out.bel hb20)
            have X20 := Lib.hid (X13.out.bel hb20 (Nat.le_refl _))
            have D20 := Lib.hid (D13.out.bel hb20 (Nat.le_refl _))
            clear hb20 T13 F13 B13 X13 D13
            obtain ⟨⟨x0, x1, x2⟩, _⟩ := T20.out
            go_wp2_with fail
            clear x0 x1 x2
            refine (KD.out K4.out _ _ _ D20.out (HAA.out.bel T20.out.2.2 (Nat.le_refl _))).mono ?_
            rintro e w21 ⟨rfl, hb21⟩
            have T21 := Lib.hid (T20.out.bel hb21)
            have F21 := Lib.hid (F20.out.bel hb21)
            have B21 := Lib.hid (B20.out.bel hb21)
            have X21 := Lib.hid (X20.out.bel hb21 (Nat.le_refl _))
            have D21 := Lib.hid (D20.out.bel hb21 (Nat.le_refl _))
            clear hb21 T20 F20 B20 X20 D20
            have XF := X21
            have DF := D21
            have TF := T21
            clear X21 D21 T21 F21 B21
            obtain ⟨⟨x0, x1, x2⟩, _⟩ := TF.out
            go_upto_region 15 with (fail)
            clear x0 x1 x2 k1 k2
            have hw3 : IntKind.i64.wrap ((X.length : Int) - (A.length : Int)) = ((X.length - A.length : Nat) : Int) := by rw [IntWalk.i64_in _ (by omega)]; omega
            have hcap := at_cap XF.out
            have hcap2 := at_cap DF.out
            by_cases hcj : c12 = X.length - A.length
            · have hv := at_low_end XF.out (Nat.sub_le X.length A.length) hcj
              rw [HXD.out] at hv
              go_wp2_with fail
              have hAF := HAA.out.bel TF.out.2.2 (Nat.le_refl _)
              with_reducible refine (HKL.out _ _ _ hv hAF).mono ?_
              rintro e w30 ⟨rfl, hb30⟩
              have T30 := Lib.hid (TF.out.bel hb30)
              have D30 := Lib.hid (DF.out.bel hb30 (Nat.le_refl _))
              clear hb30 TF DF hv
              have hv2 := at_high D30.out hDl
              rw [HDD.out] at hv2
              have hAF2 := HAA.out.bel T30.out.2.2 (Nat.le_refl _)
              go_wp2_with fail
              with_reducible refine (HKL.out _ _ _ hv2 hAF2).mono ?_
              rintro e w31 ⟨rfl, hb31⟩
              have T31 := Lib.hid (T30.out.bel hb31)
              clear hb31 T30 D30 hv2
              go_wp2_with fail
              refine (HWK.out _).mono ?_
              rintro e w32 ⟨rfl, hb32⟩
              have T32 := Lib.hid (T31.out.bel hb32)
              clear hb32 T31
              go_wp2_with fail
              go_ret
              exact ⟨rfl, T32.out.2.2⟩
            · have hv := at_low XF.out (Nat.sub_le X.length A.length)
              rw [HXD.out] at hv
              go_wp2_with fail
              have hAF := HAA.out.bel TF.out.2.2 (Nat.le_refl _)
              with_reducible refine (HKL.out _ _ _ hv hAF).mono ?_
              rintro e w30 ⟨rfl, hb30⟩
              have T30 := Lib.hid (TF.out.bel hb30)
              have D30 := Lib.hid (DF.out.bel hb30 (Nat.le_refl _))
              clear hb30 TF DF hv
              have hv2 := at_high D30.out hDl
              rw [HDD.out] at hv2
              have hAF2 := HAA.out.bel T30.out.2.2 (Nat.le_refl _)
              go_wp2_with fail
              with_reducible refine (HKL.out _ _ _ hv2 hAF2).mono ?_
              rintro e w31 ⟨rfl, hb31⟩
              have T31 := Lib.hid (T30.out.bel hb31)
              clear hb31 T30 D30 hv2
              go_wp2_with fail
              refine (HWK.out _).mono ?_
              rintro e w32 ⟨rfl, hb32⟩
              have T32 := Lib.hid (T31.out.bel hb32)
              clear hb32 T31
              go_wp2_with fail
              go_ret
              exact ⟨rfl, T32.out.2.2⟩
          · have hk4 : True := trivial
            have k1 : (t.k != 6) = true := by simp [hk]
            have k2 : (t.k != 4) = false := by simp [hk]
            have hk6 : t.k ≠ 6 := by omega
            obtain rfl := HE1.out hk6
            have K6 := Lib.hid hk6
            have K4 := Lib.hid hk4
            clear hk6 hk4 hk q0 q1 q2 b0 b1 b2 x0 x1 x2
            obtain ⟨⟨q0, q1, q2⟩, _⟩ := F13.out
            obtain ⟨⟨x0, x1, x2⟩, _⟩ := T13.out
            go_wp2_with fail
            clear q0 q1 q2
            clear x0 x1 x2
            refine (HK.out _ _ _ F13.out.2.1 T13.out.2.1).mono ?_
            rintro e w20 ⟨rfl, hb20⟩
            have T20 := Lib.hid (T13.out.bel hb20)
            have F20 := Lib.hid (F13.out.bel hb20)
            have B20 := Lib.hid (B13.out.bel hb20)
            have X20 := Lib.hid (X13.out.bel hb20 (Nat.le_refl _))
            have D20 := Lib.hid (D13.out.bel hb20 (Nat.le_refl _))
            clear hb20 T13 F13 B13 X13 D13
            obtain ⟨⟨x0, x1, x2⟩, _⟩ := T20.out
            go_wp2_with fail
            clear x0 x1 x2
            refine (KX.out K6.out _ _ _ X20.out (HAA.out.bel T20.out.2.2 (Nat.le_refl _))).mono ?_
            rintro e w21 ⟨rfl, hb21⟩
            have T21 := Lib.hid (T20.out.bel hb21)
            have F21 := Lib.hid (F20.out.bel hb21)
            have B21 := Lib.hid (B20.out.bel hb21)
            have X21 := Lib.hid (X20.out.bel hb21 (Nat.le_refl _))
            have D21 := Lib.hid (D20.out.bel hb21 (Nat.le_refl _))
            clear hb21 T20 F20 B20 X20 D20
            have XF := X21
            have DF := D21
            have TF := T21
            clear X21 D21 T21 F21 B21
            obtain ⟨⟨x0, x1, x2⟩, _⟩ := TF.out
            go_upto_region 15 with (fail)
            clear x0 x1 x2 k1 k2
            have hw3 : IntKind.i64.wrap ((X.length : Int) - (A.length : Int)) = ((X.length - A.length : Nat) : Int) := by rw [IntWalk.i64_in _ (by omega)]; omega
            have hcap := at_cap XF.out
            have hcap2 := at_cap DF.out
            by_cases hcj : c12 = X.length - A.length
            · have hv := at_low_end XF.out (Nat.sub_le X.length A.length) hcj
              rw [HXD.out] at hv
              go_wp2_with fail
              have hAF := HAA.out.bel TF.out.2.2 (Nat.le_refl _)
              with_reducible refine (HKL.out _ _ _ hv hAF).mono ?_
              rintro e w30 ⟨rfl, hb30⟩
              have T30 := Lib.hid (TF.out.bel hb30)
              have D30 := Lib.hid (DF.out.bel hb30 (Nat.le_refl _))
              clear hb30 TF DF hv
              have hv2 := at_high D30.out hDl
              rw [HDD.out] at hv2
              have hAF2 := HAA.out.bel T30.out.2.2 (Nat.le_refl _)
              go_wp2_with fail
              with_reducible refine (HKL.out _ _ _ hv2 hAF2).mono ?_
              rintro e w31 ⟨rfl, hb31⟩
              have T31 := Lib.hid (T30.out.bel hb31)
              clear hb31 T30 D30 hv2
              go_wp2_with fail
              refine (HWK.out _).mono ?_
              rintro e w32 ⟨rfl, hb32⟩
              have T32 := Lib.hid (T31.out.bel hb32)
              clear hb32 T31
              go_wp2_with fail
              go_ret
              exact ⟨rfl, T32.out.2.2⟩
            · have hv := at_low XF.out (Nat.sub_le X.length A.length)
              rw [HXD.out] at hv
              go_wp2_with fail
              have hAF := HAA.out.bel TF.out.2.2 (Nat.le_refl _)
              with_reducible refine (HKL.out _ _ _ hv hAF).mono ?_
              rintro e w30 ⟨rfl, hb30⟩
              have T30 := Lib.hid (TF.out.bel hb30)
              have D30 := Lib.hid (DF.out.bel hb30 (Nat.le_refl _))
              clear hb30 TF DF hv
              have hv2 := at_high D30.out hDl
              rw [HDD.out] at hv2
              have hAF2 := HAA.out.bel T30.out.2.2 (Nat.le_refl _)
              go_wp2_with fail
              with_reducible refine (HKL.out _ _ _ hv2 hAF2).mono ?_
              rintro e w31 ⟨rfl, hb31⟩
              have T31 := Lib.hid (T30.out.bel hb31)
              clear hb31 T30 D30 hv2
              go_wp2_with fail
              refine (HWK.out _).mono ?_
              rintro e w32 ⟨rfl, hb32⟩
              have T32 := Lib.hid (T31.out.bel hb32)
              clear hb32 T31
              go_wp2_with fail
              go_ret
              exact ⟨rfl, T32.out.2.2⟩
          · have k1 : (t.k != 6) = true := by simp [hk.1]
            have k2 : (t.k != 4) = true := by simp [hk.2]
            have hk6 := hk.1
            have hk4 := hk.2
            obtain rfl := HE1.out hk6
            obtain rfl := HE2.out hk4
            have K6 := Lib.hid hk6
            have K4 := Lib.hid hk4
            clear hk6 hk4 hk q0 q1 q2 b0 b1 b2 x0 x1 x2
            obtain ⟨⟨q0, q1, q2⟩, _⟩ := F13.out
            obtain ⟨⟨x0, x1, x2⟩, _⟩ := T13.out
            go_wp2_with fail
            clear q0 q1 q2
            clear x0 x1 x2
            refine (HK.out _ _ _ F13.out.2.1 T13.out.2.1).mono ?_
            rintro e w20 ⟨rfl, hb20⟩
            have T20 := Lib.hid (T13.out.bel hb20)
            have F20 := Lib.hid (F13.out.bel hb20)
            have B20 := Lib.hid (B13.out.bel hb20)
            have X20 := Lib.hid (X13.out.bel hb20 (Nat.le_refl _))
            have D20 := Lib.hid (D13.out.bel hb20 (Nat.le_refl _))
            clear hb20 T13 F13 B13 X13 D13
            obtain ⟨⟨x0, x1, x2⟩, _⟩ := T20.out
            go_wp2_with fail
            clear x0 x1 x2
            refine (KX.out K6.out _ _ _ X20.out (HAA.out.bel T20.out.2.2 (Nat.le_refl _))).mono ?_
            rintro e w21 ⟨rfl, hb21⟩
            have T21 := Lib.hid (T20.out.bel hb21)
            have F21 := Lib.hid (F20.out.bel hb21)
            have B21 := Lib.hid (B20.out.bel hb21)
            have X21 := Lib.hid (X20.out.bel hb21 (Nat.le_refl _))
            have D21 := Lib.hid (D20.out.bel hb21 (Nat.le_refl _))
            clear hb21 T20 F20 B20 X20 D20
            obtain ⟨⟨b0, b1, b2⟩, _⟩ := B21.out
            obtain ⟨⟨x0, x1, x2⟩, _⟩ := T21.out
            go_wp2_with fail
            clear b0 b1 b2
            clear x0 x1 x2
            refine (HK.out _ _ _ B21.out.2.1 T21.out.2.1).mono ?_
            rintro e w22 ⟨rfl, hb22⟩
            have T22 := Lib.hid (T21.out.bel hb22)
            have F22 := Lib.hid (F21.out.bel hb22)
            have B22 := Lib.hid (B21.out.bel hb22)
            have X22 := Lib.hid (X21.out.bel hb22 (Nat.le_refl _))
            have D22 := Lib.hid (D21.out.bel hb22 (Nat.le_refl _))
            clear hb22 T21 F21 B21 X21 D21
            obtain ⟨⟨x0, x1, x2⟩, _⟩ := T22.out
            go_wp2_with fail
            clear x0 x1 x2
            refine (KD.out K4.out _ _ _ D22.out (HAA.out.bel T22.out.2.2 (Nat.le_refl _))).mono ?_
            rintro e w23 ⟨rfl, hb23⟩
            have T23 := Lib.hid (T22.out.bel hb23)
            have F23 := Lib.hid (F22.out.bel hb23)
            have B23 := Lib.hid (B22.out.bel hb23)
            have X23 := Lib.hid (X22.out.bel hb23 (Nat.le_refl _))
            have D23 := Lib.hid (D22.out.bel hb23 (Nat.le_refl _))
            clear hb23 T22 F22 B22 X22 D22
            have XF := X23
            have DF := D23
            have TF := T23
            clear X23 D23 T23 F23 B23
            obtain ⟨⟨x0, x1, x2⟩, _⟩ := TF.out
            go_upto_region 15 with (fail)
            clear x0 x1 x2 k1 k2
            have hw3 : IntKind.i64.wrap ((X.length : Int) - (A.length : Int)) = ((X.length - A.length : Nat) : Int) := by rw [IntWalk.i64_in _ (by omega)]; omega
            have hcap := at_cap XF.out
            have hcap2 := at_cap DF.out
            by_cases hcj : c12 = X.length - A.length
            · have hv := at_low_end XF.out (Nat.sub_le X.length A.length) hcj
              rw [HXD.out] at hv
              go_wp2_with fail
              have hAF := HAA.out.bel TF.out.2.2 (Nat.le_refl _)
              with_reducible refine (HKL.out _ _ _ hv hAF).mono ?_
              rintro e w30 ⟨rfl, hb30⟩
              have T30 := Lib.hid (TF.out.bel hb30)
              have D30 := Lib.hid (DF.out.bel hb30 (Nat.le_refl _))
              clear hb30 TF DF hv
              have hv2 := at_high D30.out hDl
              rw [HDD.out] at hv2
              have hAF2 := HAA.out.bel T30.out.2.2 (Nat.le_refl _)
              go_wp2_with fail
              with_reducible refine (HKL.out _ _ _ hv2 hAF2).mono ?_
              rintro e w31 ⟨rfl, hb31⟩
              have T31 := Lib.hid (T30.out.bel hb31)
              clear hb31 T30 D30 hv2
              go_wp2_with fail
              refine (HWK.out _).mono ?_
              rintro e w32 ⟨rfl, hb32⟩
              have T32 := Lib.hid (T31.out.bel hb32)
              clear hb32 T31
              go_wp2_with fail
              go_ret
              exact ⟨rfl, T32.out.2.2⟩
            · have hv := at_low XF.out (Nat.sub_le X.length A.length)
              rw [HXD.out] at hv
              go_wp2_with fail
              have hAF := HAA.out.bel TF.out.2.2 (Nat.le_refl _)
              with_reducible refine (HKL.out _ _ _ hv hAF).mono ?_
              rintro e w30 ⟨rfl, hb30⟩
              have T30 := Lib.hid (TF.out.bel hb30)
              have D30 := Lib.hid (DF.out.bel hb30 (Nat.le_refl _))
              clear hb30 TF DF hv
              have hv2 := at_high D30.out hDl
              rw [HDD.out] at hv2
              have hAF2 := HAA.out.bel T30.out.2.2 (Nat.le_refl _)
              go_wp2_with fail
              with_reducible refine (HKL.out _ _ _ hv2 hAF2).mono ?_
              rintro e w31 ⟨rfl, hb31⟩
              have T31 := Lib.hid (T30.out.bel hb31)
              clear hb31 T30 D30 hv2
              go_wp2_with fail
              refine (HWK.out _).mono ?_
              rintro e w32 ⟨rfl, hb32⟩
              have T32 := Lib.hid (T31.out.bel hb32)
              clear hb32 T31
              go_wp2_with fail
              go_ret
              exact ⟨rfl, T32.out.2.2⟩
end Go.Proofs.Ytblebboamopffaa
