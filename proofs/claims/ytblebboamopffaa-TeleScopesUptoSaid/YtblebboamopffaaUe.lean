/- TeleScopes: the Go text returns true for any terms that are not greater than the second form's bound. -/
import Derived.Test.YtblebboamopffaaUc
import Derived.Deep.DeepCutAuto
import Derived.Deep.RegionHeld3
import Derived.Deep.DrawnRows
namespace Go.Proofs.Ytblebboamopffaa
open Go.RowKit
set_option linter.unusedVariables false

set_option maxRecDepth 100000 in
set_option maxHeartbeats 5000000 in
theorem ltscopes_any (t : Tm) (A : List Tm) (hF : Fits t) (hFA : ∀ a ∈ A, Fits a) (hs : size t ≤ 1048576) (hsA : sizeL A ≤ 1048576) (w : World) (v va : Value) (hA : At w t.kids v) (hAA : At w A va) :
    Calls Try.prog 8 #[va, .agg #[.int .i64 t.k, .int .i64 t.n, v]] w fun e w' => e = .returned (.bool true) ∧ Below w.heap.size w w' := by
  obtain ⟨a1, c1, rfl⟩ := hA.shape
  obtain ⟨pa, cp, rfl⟩ := hAA.shape
  have hAl : A.length ≤ 1048576 := Nat.le_trans (length_le_sizeL A) hsA
  have HH := heavy1 t hs w _ hA
  have HAA := Lib.hid hAA
  have HH2 : Hid (∀ W, Below w.heap.size w W → Calls Try.prog 9 #[.slice pa A.length cp] W fun e w' => e = .returned (.bool (heavyB A)) ∧ Below W.heap.size W w') := fun W hW => heavy_any A (by omega) W _ (hAA.bel hW (Nat.le_refl _))
  clear hA hAA
  cases hh : heavyB [t] with
  | true =>
    rw [hh] at HH
    have HH := Lib.hid HH
    clear hh HH2
    go_enter Try.func8, Try.ntmps8
    go_wp2_with fail
    refine HH.out.mono ?_
    rintro e w1 ⟨rfl, hb1⟩
    have T1 := Lib.hid hb1
    clear hb1
    go_wp2_with fail
    go_ret
    exact ⟨rfl, T1.out.2.2⟩
  | false =>
    rw [hh] at HH
    have HH := Lib.hid HH
    have hz1 := heavy_size1 hh
    clear hh
    cases hh2 : heavyB A with
    | true =>
      rw [hh2] at HH2
      clear hh2
      go_enter Try.func8, Try.ntmps8
      go_wp2_with fail
      refine HH.out.mono ?_
      rintro e w1 ⟨rfl, hb1⟩
      have T1 := Lib.hid hb1
      clear hb1
      go_wp2_with fail
      refine (HH2.out _ T1.out.2.2).mono ?_
      rintro e w2 ⟨rfl, hb2⟩
      have T2 := Lib.hid (T1.out.bel hb2)
      clear hb2
      go_wp2_with fail
      go_ret
      exact ⟨rfl, T2.out.2.2⟩
    | false =>
      rw [hh2] at HH2
      have hp : A.length ≤ 60 := by
        have := hh2
        simp only [heavyB, Bool.or_eq_false_iff, decide_eq_false_iff_not] at this
        omega
      have hz2 := heavy_size hh2
      clear hh2
      have HWK := Lib.hid (fun w => wakes6_any w)
      go_enter Try.func8, Try.ntmps8
      go_wp2_with fail
      refine HH.out.mono ?_
      rintro e w1 ⟨rfl, hb1⟩
      have T1 := Lib.hid hb1
      clear hb1 HH
      go_wp2_with fail
      refine (HH2.out _ T1.out.2.2).mono ?_
      rintro e w2 ⟨rfl, hb2⟩
      have T2 := Lib.hid (T1.out.bel hb2)
      clear hb2 T1 HH2
      go_wp2_with fail
      go_loopw [5] (fun i wr => ∃ j : Nat, j ≤ A.length ∧ i = .int .i64 j ∧ (∀ q (hq : q < A.length), q < j → scopeT A[q] q 65536 = true) ∧ One w w.heap.size t (.slice a1 t.kids.length c1) wr) (fun i _ => A.length - (RowKit.intOf i).toNat)
      case atStart => exact ⟨0, Nat.zero_le _, rfl, fun q hq h => absurd h (Nat.not_lt_zero _), T2.out⟩
      case round =>
        obtain ⟨j, hj, rfl, hsc, hT⟩ := hrel
        clear T2
        have T3 := Lib.hid hT
        have HSC := Lib.hid hsc
        clear hT hsc
        by_cases hlt : j < A.length
        · obtain ⟨b, off, cap', vs', he, h1, h2, kk, kn, kv, ks⟩ := (HAA.out.bel T3.out.2.2 (Nat.le_refl _)).pos (by omega)
          have gk := kk j hlt
          have gn := kn j hlt
          have gv := kv j hlt
          have gs := ks j hlt
          obtain ⟨au, cu, hvu⟩ := gs.shape
          rw [hvu] at gv gs
          have hsz := size_get hlt
          have HC := Lib.hid (c_scope A[j] (hFA _ (List.getElem_mem hlt)) (by omega) j 65536 wr _ gs)
          have hl1 : (j : Int) < (A.length : Int) := by omega
          have hl0 : (0 : Int) ≤ (j : Int) := by omega
          cases he
          clear kk kn kv ks gs hvu h1 h2
          cases hb : scopeT A[j] j 65536 with
          | true =>
            rw [hb] at HC
            have HB := Lib.hid hb
            clear hb
            go_wp2_with fail
            refine HC.out.mono ?_
            rintro e w4 ⟨rfl, hb4⟩
            have T4 := Lib.hid (T3.out.bel hb4)
            clear hb4 gk gn gv
            go_wp2_with fail
            go_roundw
            case rel =>
              refine ⟨j + 1, by omega, by go_num, fun q hq h => ?_, T4.out⟩
              by_cases hqj : q < j
              · exact HSC.out q hq hqj
              · obtain rfl : q = j := by omega
                exact HB.out
            case measure => simp [RowKit.intOf]; omega
          | false =>
            rw [hb] at HC
            clear hb
            go_wp2_with fail
            refine HC.out.mono ?_
            rintro e w4 ⟨rfl, hb4⟩
            have T4 := Lib.hid (T3.out.bel hb4)
            clear hb4 gk gn gv T3
            go_wp2_with fail
            refine (HWK.out _).mono ?_
            rintro e w105 ⟨rfl, hb5⟩
            have T5 := Lib.hid (T4.out.bel hb5)
            clear hb5 T4
            go_wp2_with fail
            go_ret
            exact ⟨rfl, T5.out.2.2⟩
        · obtain rfl : j = A.length := by omega
          have hlt1 : decide ((A.length : Int) < (A.length : Int)) = false := by simp
          have HC := Lib.hid (fun W v hA => c_scope t hF hs A.length 65536 W v hA)
          clear hlt hj
          obtain ⟨⟨x0, x1, x2⟩, _⟩ := T3.out
          cases hb : scopeT t A.length 65536 with
          | false =>
            rw [hb] at HC
            clear hb
            go_wp2_with fail
            refine (HC.out _ _ T3.out.2.1).mono ?_
            rintro e w4 ⟨rfl, hb4⟩
            have T4 := Lib.hid (T3.out.bel hb4)
            clear hb4 x0 x1 x2 T3
            go_wp2_with fail
            refine (HWK.out _).mono ?_
            rintro e w105 ⟨rfl, hb5⟩
            have T5 := Lib.hid (T4.out.bel hb5)
            clear hb5 T4
            go_wp2_with fail
            go_ret
            exact ⟨rfl, T5.out.2.2⟩
          | true =>
            rw [hb] at HC
            have HTS : Hid (checkE (wrapT 4 A t) = 0 → scopeT (wrapT 4 A t) 0 65536 = true ∧ scopeT (wrapT 5 A t) 0 65536 = true) := fun hc => tele_scopes (fun i h => HSC.out i h h) hb hc
            have HEQ := Lib.hid (wrap_check A t)
            have f4 := wrap_fits (.inl rfl) A t hFA hF
            have f5 := wrap_fits (.inr rfl) A t hFA hF
            have z4 : size (wrapT 4 A t) ≤ 1048576 := by rw [wrap_size]; omega
            have z5 : size (wrapT 5 A t) ≤ 1048576 := by rw [wrap_size]; omega
            have C4 := Lib.hid (fun W vl v hL hA => spis_any A hFA hsA t hF hs W vl v hL hA)
            have C5 := Lib.hid (fun W vl v hL hA => slams_any A hFA hsA t hF hs W vl v hL hA)
            have K4 := Lib.hid (fun W v hA => c_check _ f4 z4 W v hA)
            have K5 := Lib.hid (fun W v hA => c_check _ f5 z5 W v hA)
            have S4 := Lib.hid (fun W v hA => c_scope _ f4 z4 0 65536 W v hA)
            have S5 := Lib.hid (fun W v hA => c_scope _ f5 z5 0 65536 W v hA)
            generalize wrapT 4 A t = p at *
            generalize wrapT 5 A t = q at *
            clear hb f4 f5 z4 z5 HSC
            go_wp2_with fail
            refine (HC.out _ _ T3.out.2.1).mono ?_
            rintro e w4 ⟨rfl, hb4⟩
            have T4 := Lib.hid (T3.out.bel hb4)
            clear hb4 x0 x1 x2 T3 HC
            have A4 := Lib.hid (HAA.out.bel T4.out.2.2 (Nat.le_refl _))
            go_wp2_with fail
            refine wp_region_rel_tail 8 (by kernel_rfl) (by kernel_rfl) (by kernel_rfl) ?_
            simp only [List.take_succ_cons, List.take_zero]
            simp only [List.drop_succ_cons, List.drop_zero]
            apply RelWalk.next 2
            · kernel_rfl
            · intro X _ W hW hcl
              simp only [List.take_succ_cons, List.take_zero]
              obtain ⟨⟨x0, x1, x2⟩, _⟩ := T4.out
              have k0 := fun q => gcell (hW q) x0
              have k1 := fun q => gcell (hW q) x1
              have k2 := fun q => gcell (hW q) x2
              clear x0 x1 x2
              repeat (go_big_quiet_step (fail))
              exact wpQuiet_nil rfl
            simp only [List.drop_succ_cons, List.drop_zero]
            refine RelWalk.made0 (RT p) rfl (by kernel_rfl) (by kernel_rfl) rfl (RT.mono p) (fun w2 hg => ?_) ?_
            · have hc := Lib.hid (C4.out w2 _ _ (A4.out.bel hg (Nat.le_refl _)) (T4.out.2.1.bel hg (Nat.le_refl _)))
              go_simp
              exact rel_enter (rt_of hc.out)
            simp only [Act.put, List.setIfInBounds_toArray, List.set_cons_zero, List.set_cons_succ]
            apply RelWalk.next 2
            · kernel_rfl
            · intro X _ W hW hcl
              simp only [List.take_succ_cons, List.take_zero]
              obtain ⟨⟨x0, x1, x2⟩, _⟩ := T4.out
              have k0 := fun q => gcell (hW q) x0
              have k1 := fun q => gcell (hW q) x1
              have k2 := fun q => gcell (hW q) x2
              clear x0 x1 x2
              repeat (go_big_quiet_step (fail))
              exact wpQuiet_nil rfl
            simp only [List.drop_succ_cons, List.drop_zero]
            refine RelWalk.made0 (RT q) rfl (by kernel_rfl) (by kernel_rfl) rfl (RT.mono q) (fun w2 hg => ?_) ?_
            · have hc := Lib.hid (C5.out w2 _ _ (A4.out.bel hg (Nat.le_refl _)) (T4.out.2.1.bel hg (Nat.le_refl _)))
              go_simp
              exact rel_enter (rt_of hc.out)
            simp only [Act.put, List.setIfInBounds_toArray, List.set_cons_zero, List.set_cons_succ]
            refine RelWalk.made0 RZ rfl (by kernel_rfl) (by kernel_rfl) rfl RZ.mono (fun w2 hg => ?_) ?_
            · go_simp
              exact ⟨below_al w2 _, rfl, World.alloc_heap_new w2 _, by simp⟩
            simp only [Act.put, List.setIfInBounds_toArray, List.set_cons_zero, List.set_cons_succ]
            refine RelWalk.made0 RZ rfl (by kernel_rfl) (by kernel_rfl) rfl RZ.mono (fun w2 hg => ?_) ?_
            · go_simp
              exact ⟨below_al w2 _, rfl, World.alloc_heap_new w2 _, by simp⟩
            simp only [Act.put, List.setIfInBounds_toArray, List.set_cons_zero, List.set_cons_succ]
            refine RelWalk.done fun g w5 hg hP => ?_
            simp only [Spread]
            rintro v7 ⟨rfl, z7, _⟩ v6 ⟨rfl, z6, _⟩ v40 ⟨a5, c5, rfl, hq⟩ v37 ⟨a4, c4, rfl, hp4⟩
            obtain ⟨hP1, hP2⟩ := hP
            have m6 := hP1 6 (by simp)
            have m7 := hP1 7 (by simp)
            have r1 := hP2 6 (by simp) 7 (by simp) (by decide)
            have r2 := hP2 6 (by simp) 37 (by simp) (by decide)
            have r3 := hP2 6 (by simp) 40 (by simp) (by decide)
            have r4 := hP2 7 (by simp) 37 (by simp) (by decide)
            have r5 := hP2 7 (by simp) 40 (by simp) (by decide)
            clear hP1 hP2
            generalize g 6 = g6 at *
            generalize g 7 = g7 at *
            generalize g 37 = g37 at *
            generalize g 40 = g40 at *
            obtain ⟨s6, e6⟩ := g6
            obtain ⟨s7, e7⟩ := g7
            obtain ⟨s37, e37⟩ := g37
            obtain ⟨s40, e40⟩ := g40
            simp only at *
            have hne : s6 ≠ s7 := by omega
            have HTT := two_told T4.out.2.2 hg (by omega : w4.heap.size ≤ s6) (by omega : w4.heap.size ≤ s7) hne z6 z7 hp4 hq (fun b hb => by omega) (fun b hb => by omega)
            have P6 := Lib.hid HTT.1
            have Q6 := Lib.hid HTT.2.1
            have G6 := Lib.hid HTT.2.2
            obtain ⟨⟨n0, n1, n2⟩, f0, f1, f2⟩ := boxc z6
            obtain ⟨⟨l0, l1, l2⟩, o0, o1, o2⟩ := boxc z7
            have hn1 : ¬ (s6 = s7) := hne
            have hn2 : ¬ (s7 = s6) := fun h => hne h.symm
            clear HTT hne m6 m7 r1 r2 r3 r4 r5 hp4 hq z6 z7 hg
            go_wp2_with fail
            by_cases hc : checkE p = 0
            rotate_left
            · have q1 : (checkE p != 0) = true := by simpa using hc
              rw [← HEQ.out] at K5
              clear HEQ HTS S4 S5 hc
              generalize checkE p = ce at *
              refine (K4.out _ _ P6.out.2.1).mono ?_
              rintro e w7 ⟨rfl, hb7⟩
              have P7 := Lib.hid (P6.out.bel hb7)
              have Q7 := Lib.hid (Q6.out.bel hb7)
              clear hb7 n0 n1 n2 l0 l1 l2 f0 f1 f2 o0 o1 o2 P6 Q6 G6
              have q2 : (ce == ce) = true := by simp
              go_wp2_with fail
              refine wp_region_rel (by kernel_rfl) (by kernel_rfl) (by kernel_rfl) ?_
              apply RelWalk.rest
              · kernel_rfl
              · intro X _ W hW hcl
                obtain ⟨⟨y0, y1, y2⟩, hP, _⟩ := P7.out
                have rP0 := fun q => gcell (hW q) y0
                have rP1 := fun q => gcell (hW q) y1
                have rP2 := fun q => gcell (hW q) y2
                clear y0 y1 y2
                obtain ⟨⟨y0, y1, y2⟩, hQ, _⟩ := Q7.out
                have rQ0 := fun q => gcell (hW q) y0
                have rQ1 := fun q => gcell (hW q) y1
                have rQ2 := fun q => gcell (hW q) y2
                clear y0 y1 y2
                have d1 := Lib.hid (fun q => into hcl (K4.out (W q) _ (hP.bel (hW q) (Nat.le_refl _))))
                have d2 := Lib.hid (fun q => into hcl (K5.out (W q) _ (hQ.bel (hW q) (Nat.le_refl _))))
                have d3 := Lib.hid (fun q => into hcl (HWK.out (W q)))
                clear hP hQ
                repeat (go_big_quiet_step (first | (with_reducible exact d1.out _) | (with_reducible exact d2.out _) | (with_reducible exact d3.out _)))
                exact wpQuiet_nil rfl
              intro gq w8 hg8 _
              simp only [Spread]
              have P8 := Lib.hid (P7.out.bel hg8)
              clear hg8
              go_wp2_with fail
              go_ret
              exact ⟨rfl, P8.out.2.2⟩
            · obtain ⟨t1, t2⟩ := HTS.out hc
              rw [t1] at S4
              rw [t2] at S5
              rw [hc] at K4
              clear HEQ HTS t1 t2 hc
              refine (K4.out _ _ P6.out.2.1).mono ?_
              rintro e w7 ⟨rfl, hb7⟩
              have P7 := Lib.hid (P6.out.bel hb7)
              have Q7 := Lib.hid (Q6.out.bel hb7)
              clear hb7 n0 n1 n2 l0 l1 l2 f0 f1 f2 o0 o1 o2 P6 Q6 G6
              obtain ⟨⟨y0, y1, y2⟩, _⟩ := P7.out
              go_wp2_with fail
              refine (S4.out _ _ P7.out.2.1).mono ?_
              rintro e w8 ⟨rfl, hb8⟩
              have Q8 := Lib.hid (Q7.out.bel hb8)
              clear hb8 y0 y1 y2 P7 Q7
              obtain ⟨⟨y0, y1, y2⟩, _⟩ := Q8.out
              go_wp2_with fail
              refine (S5.out _ _ Q8.out.2.1).mono ?_
              rintro e w9 ⟨rfl, hb9⟩
              have Q9 := Lib.hid (Q8.out.bel hb9)
              clear hb9 y0 y1 y2 Q8
              go_wp2_with fail
              refine (HWK.out _).mono ?_
              rintro e w110 ⟨rfl, hb10⟩
              have T10 := Lib.hid (Q9.out.bel hb10)
              clear hb10 Q9
              go_wp2_with fail
              go_ret
              exact ⟨rfl, T10.out.2.2⟩
end Go.Proofs.Ytblebboamopffaa
