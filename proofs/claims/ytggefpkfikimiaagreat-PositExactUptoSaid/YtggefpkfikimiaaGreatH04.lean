/- The page's Posit. No conditions but sizes. -/
import Derived.Test.YtggefpkfikimiaaGreatH03
import Derived.Test.YtggefpkfikimiaaGreatG34
import Derived.Test.YtggefpkfikimiaaGreatG20
namespace Go.Proofs.YtggefpkfikimiaaGreat
open Go.RowKit
set_option linter.unusedVariables false

set_option maxRecDepth 100000 in
set_option maxHeartbeats 8000000 in
theorem rposit_any (b : BlkT) (hs : blkN b ≤ 1048576) (hF : b.fits) (base : Int) (hN1 : ∀ s ∈ b.sorts, ∀ a ∈ s.idx, argN a ≤ 1000000) (hN2 : ∀ x ∈ b.cons, ∀ a ∈ x.args, argN a ≤ 1000000) (w : World) (vs vc : Value) (hA : BAt w b vs vc) :
    Calls Tryz.prog 8 #[.agg #[vs, vc, .int .i64 b.elim], .int .i64 base] w fun e w' => e = .returned (.int .i64 (positB b base)) ∧ Below w.heap.size w w' := by
  obtain ⟨ps, cs, pc, cc, rfl, rfl⟩ := hA.shape
  have O0 := Lib.hid (oneb_start w b _ _ hA)
  have HSH := Lib.hid (rshape_any b hs hF _ _ _ O0.out.2.1)
  have HIN := Lib.hid (fun W => rin7_any base 0 65535 W)
  have hls := sortsN_len b.sorts
  have hlc := consN_len b.cons
  have hls2 : b.sorts.length ≤ 1048576 := by unfold blkN at hs; omega
  have hlc2 : b.cons.length ≤ 1048576 := by unfold blkN at hs; omega
  clear hA hls hlc hF
  obtain ⟨x0, x1, x2⟩ := O0.out.cells
  cases hsh : shapeB b with
  | false =>
    have HE := Lib.hid (show positB b base = 12 by rw [positB, if_pos hsh])
    rw [hsh] at HSH
    clear hsh
    go_enter Tryz.func8, Tryz.ntmps8
    go_wp2_with fail
    refine HSH.out.mono ?_
    rintro e w1 ⟨rfl, hb⟩
    have O1 := Lib.hid (O0.out.bel hb)
    clear hb x0 x1 x2
    go_wp2_with fail
    go_ret
    exact ⟨ret_int HE.out.symm, O1.out.2.2⟩
  | true =>
  have hR := shape_R hsh (idx_small hs)
  have HS := Lib.hid hR.1
  have HC := Lib.hid hR.2
  have HN1 := Lib.hid hN1
  have HSL : Hid (∀ k (h : k < b.sorts.length), b.sorts[k].idx.length ≤ 12) := fun k h => (HS.out _ (List.getElem_mem h)).2.1
  have HN2 := Lib.hid hN2
  have HE0 : Hid (positB b base = if inZ base 0 65535 = false then 1 else if posB b base then 0 else 11) := by unfold Hid; rw [positB, if_neg (by rw [hsh]; simp)]; rfl
  rw [hsh] at HSH
  clear hsh hR hN1 hN2
  cases hin : inZ base 0 65535 with
  | false =>
    have HE := Lib.hid (HE0.out.trans (show _ = 1 by rw [if_pos hin]))
    rw [hin] at HIN
    clear hin HE0
    go_enter Tryz.func8, Tryz.ntmps8
    go_wp2_with fail
    refine HSH.out.mono ?_
    rintro e w1 ⟨rfl, hb⟩
    have O1 := Lib.hid (O0.out.bel hb)
    clear hb x0 x1 x2
    go_wp2_with fail
    refine (HIN.out _).mono ?_
    rintro e w2 ⟨rfl, rfl⟩
    go_wp2_with fail
    go_ret
    exact ⟨ret_int HE.out.symm, O1.out.2.2⟩
  | true =>
  have HE1 := Lib.hid (HE0.out.trans (show _ = (if posB b base then 0 else 11) by rw [if_neg (by rw [hin]; simp)]))
  rw [hin] at HIN
  clear hin HE0
  have HP0 := Lib.hid (show posB b base = ((b.sorts.drop 0).all (sortPos b base) && consPos b base 0 b.cons) from rfl)
  go_enter Tryz.func8, Tryz.ntmps8
  go_wp2_with fail
  refine HSH.out.mono ?_
  rintro e w1 ⟨rfl, hb⟩
  have O1 := Lib.hid (O0.out.bel hb)
  clear hb x0 x1 x2
  go_wp2_with fail
  refine (HIN.out _).mono ?_
  rintro e w2 ⟨rfl, rfl⟩
  clear HSH HIN O0
  go_wp2_with fail
  go_loopw [5] (fun i wr => ∃ j : Nat, j ≤ b.sorts.length ∧ i = .int .i64 j ∧ posB b base = ((b.sorts.drop j).all (sortPos b base) && consPos b base 0 b.cons) ∧ OneB w w.heap.size b (.slice ps b.sorts.length cs) (.slice pc b.cons.length cc) wr) (fun i _ => b.sorts.length - (RowKit.intOf i).toNat)
  case atStart => exact ⟨0, Nat.zero_le _, rfl, HP0.out, O1.out⟩
  case round =>
    clear O1 HP0
    obtain ⟨j, hj, rfl, hE, hO⟩ := hrel
    have OJ := Lib.hid hO
    have HE := Lib.hid hE
    clear hE hO
    obtain ⟨x0, x1, x2⟩ := OJ.out.cells
    by_cases hlt : j < b.sorts.length
    · have hj1 : (j : Int) < (b.sorts.length : Int) := by omega
      have hj0 : (0 : Int) ≤ (j : Int) := by omega
      have hw1 : IntKind.i64.wrap ((j : Int) + 1) = ((j + 1 : Nat) : Int) := by rw [IntWalk.i64_in _ (by omega)]; omega
      have HDA := Lib.hid (show (b.sorts.drop j).all (sortPos b base) = (sortPos b base b.sorts[j] && (b.sorts.drop (j + 1)).all (sortPos b base)) by rw [List.drop_eq_getElem_cons hlt, List.all_cons])
      obtain ⟨bS, oS, vx, vt, he, gA, gT, s0, s1, s2, s3, s4, s5⟩ := SRow.at OJ.out.2.1.1 hlt
      cases he
      obtain ⟨pi, ci, rfl⟩ := gA.shape
      obtain ⟨pt, ct, rfl⟩ := gT.shape
      have GA := Lib.hid gA
      have GT := Lib.hid gT
      have hSR := HS.out _ (List.getElem_mem hlt)
      have hSN := HN1.out _ (List.getElem_mem hlt)
      clear gA gT
      go_upto_region 9 with (fail)
      obtain ⟨w4, hw4⟩ : ∃ w4, w4 = wr.alloc (.cells #[.slice pi b.sorts[j].idx.length ci, .int .i64 b.sorts[j].level, .bool b.sorts[j].dec, .int .i64 b.sorts[j].decT.k, .int .i64 b.sorts[j].decT.n, .slice pt b.sorts[j].decT.kids.length ct] 49) := ⟨_, rfl⟩
      have Z4 : Hid (w4.heap[wr.heap.size]? = some (.cells #[.slice pi b.sorts[j].idx.length ci, .int .i64 b.sorts[j].level, .bool b.sorts[j].dec, .int .i64 b.sorts[j].decT.k, .int .i64 b.sorts[j].decT.n, .slice pt b.sorts[j].decT.kids.length ct] 49 (0, 0))) := by unfold Hid; rw [hw4]; exact World.alloc_heap_new wr _
      have B4 : Below wr.heap.size wr w4 := by rw [hw4]; exact below_al _ _
      rw [← hw4]
      have O4 := Lib.hid (OJ.out.bel B4)
      have HA4 := Lib.hid (ARow.bel B4 GA.out)
      have HT4 := Lib.hid (GT.out.bel B4 (Nat.le_refl _))
      have HTL := Lib.hid (fun W (hW : Below w4.heap.size w4 W) => rtele_any b base hs 0 b.sorts[j].idx (by have := hSR.2.1; omega) hSR.1 hSN W _ _ _ (O4.out.2.1.bel hW) (ARow.bel hW HA4.out))
      have HRT := Lib.hid (fun W (hW : Below w4.heap.size w4 W) => rat_any b base b.sorts[j].idx (by have := hSR.2.1; omega) W _ _ _ (O4.out.2.1.bel hW) (ARow.bel hW HA4.out))
      have HSP := Lib.hid (show sortPos b base b.sorts[j] = (teleB b base b.sorts[j].idx 0 && (!b.sorts[j].dec || cleanB b base (atP b.sorts[j].idx) b.sorts[j].decT)) from rfl)
      have HSR := Lib.hid hSR
      clear hw4 B4 OJ GA GT s0 s1 s2 s3 s4 s5 x0 x1 x2 hSR hSN
      cases ht : teleB b base b.sorts[j].idx 0 with
      | false =>
        have HE2 := Lib.hid (HE1.out.trans (show _ = 11 by rw [HE.out, HDA.out, HSP.out, ht]; rfl))
        rw [ht] at HTL
        clear ht HE HDA HSP HRT HSR
        go_wp2_with fail
        refine wp_region_rel (by kernel_rfl) (by kernel_rfl) (by kernel_rfl) ?_
        apply RelWalk.rest
        · kernel_rfl
        · intro X0 _ W hW hcl
          obtain ⟨x0, x1, x2⟩ := O4.out.cells
          obtain ⟨a0, a1, a2, a3, a4, a5⟩ := boxc6 Z4.out
          have r0 := fun q => gcell (hW q) x0
          have r1 := fun q => gcell (hW q) x1
          have r2 := fun q => gcell (hW q) x2
          have q0 := fun q => gcell (hW q) a0
          have q1 := fun q => gcell (hW q) a1
          have q2 := fun q => gcell (hW q) a2
          have q3 := fun q => gcell (hW q) a3
          have q4 := fun q => gcell (hW q) a4
          have q5 := fun q => gcell (hW q) a5
          have dT := Lib.hid (fun q => into hcl (HTL.out (W q) (hW q)))
          clear x0 x1 x2 a0 a1 a2 a3 a4 a5
          repeat (go_big_quiet_step (with_reducible exact dT.out _))
          exact wpQuiet_nil rfl
        intro gq w8 hg8 _
        simp only [Spread]
        have O8 := Lib.hid (O4.out.bel hg8)
        clear hg8
        go_wp2_with fail
        go_ret
        exact ⟨ret_int HE2.out.symm, O8.out.2.2⟩
      | true =>
        rw [ht] at HTL
        cases hd : b.sorts[j].dec with
        | false =>
          have HE2 := Lib.hid (HE.out.trans (show _ = ((b.sorts.drop (j + 1)).all (sortPos b base) && consPos b base 0 b.cons) by rw [HDA.out, HSP.out, ht, hd]; rfl))
          rw [hd] at Z4
          clear ht hd HE HDA HSP HRT HSR
          go_wp2_with fail
          refine wp_region_rel (by kernel_rfl) (by kernel_rfl) (by kernel_rfl) ?_
          apply RelWalk.rest
          · kernel_rfl
          · intro X0 _ W hW hcl
            obtain ⟨x0, x1, x2⟩ := O4.out.cells
            obtain ⟨a0, a1, a2, a3, a4, a5⟩ := boxc6 Z4.out
            have r0 := fun q => gcell (hW q) x0
            have r1 := fun q => gcell (hW q) x1
            have r2 := fun q => gcell (hW q) x2
            have q0 := fun q => gcell (hW q) a0
            have q1 := fun q => gcell (hW q) a1
            have q2 := fun q => gcell (hW q) a2
            have q3 := fun q => gcell (hW q) a3
            have q4 := fun q => gcell (hW q) a4
            have q5 := fun q => gcell (hW q) a5
            have dT := Lib.hid (fun q => into hcl (HTL.out (W q) (hW q)))
            clear x0 x1 x2 a0 a1 a2 a3 a4 a5
            repeat (go_big_quiet_step (with_reducible exact dT.out _))
            exact wpQuiet_nil rfl
          intro gq w8 hg8 _
          simp only [Spread]
          have O8 := Lib.hid (O4.out.bel hg8)
          clear hg8
          go_wp2_with fail
          go_roundw
          case rel => exact ⟨j + 1, by omega, by go_num, HE2.out, O8.out⟩
          case measure => simp [RowKit.intOf] <;> omega
        | true =>
          have HI := Lib.hid (rclean_any b base hs b.sorts[j].idx (size b.sorts[j].decT) b.sorts[j].decT (Nat.le_refl _) (HSR.out.2.2 hd).1 (atP b.sorts[j].idx) (by rw [atP_length]; have := (HSR.out.2.2 hd).2; have := HSR.out.2.1; omega) (varsOk_at _))
          rw [hd] at Z4
          cases hc : cleanB b base (atP b.sorts[j].idx) b.sorts[j].decT with
          | true =>
            have HE2 := Lib.hid (HE.out.trans (show _ = ((b.sorts.drop (j + 1)).all (sortPos b base) && consPos b base 0 b.cons) by rw [HDA.out, HSP.out, ht, hd, hc]; rfl))
            have HI2 := Lib.hid (fun W vs vc vv va v h1 h2 => by have h := HI.out W vs vc vv va v h1 h2; rw [hc] at h; exact h)
            clear ht hd hc HE HDA HSP HSR HI
            go_wp2_with fail
            refine wp_region_rel (by kernel_rfl) (by kernel_rfl) (by kernel_rfl) ?_
            apply RelWalk.next 14
            · kernel_rfl
            · intro X0 _ W hW hcl
              simp only [List.take_succ_cons, List.take_zero]
              obtain ⟨x0, x1, x2⟩ := O4.out.cells
              obtain ⟨a0, a1, a2, a3, a4, a5⟩ := boxc6 Z4.out
              have r0 := fun q => gcell (hW q) x0
              have r1 := fun q => gcell (hW q) x1
              have r2 := fun q => gcell (hW q) x2
              have q0 := fun q => gcell (hW q) a0
              have q1 := fun q => gcell (hW q) a1
              have q2 := fun q => gcell (hW q) a2
              have q3 := fun q => gcell (hW q) a3
              have q4 := fun q => gcell (hW q) a4
              have q5 := fun q => gcell (hW q) a5
              have dT := Lib.hid (fun q => into hcl (HTL.out (W q) (hW q)))
              clear x0 x1 x2 a0 a1 a2 a3 a4 a5
              repeat (go_big_quiet_step (with_reducible exact dT.out _))
              exact wpQuiet_nil rfl
            simp only [List.drop_succ_cons, List.drop_zero]
            refine RelWalk.made0 (fun v s e W => ∃ a c, v = .agg #[.slice (some ⟨bS, oS, none⟩) b.sorts.length cs, .slice pc b.cons.length cc, .int .i64 b.elim, .int .i64 base, .slice a (atP b.sorts[j].idx).length c, .slice pi b.sorts[j].idx.length ci] ∧ PAt W b (atP b.sorts[j].idx) b.sorts[j].idx (.slice (some ⟨bS, oS, none⟩) b.sorts.length cs) (.slice pc b.cons.length cc) (.slice a (atP b.sorts[j].idx).length c) (.slice pi b.sorts[j].idx.length ci)) rfl (by kernel_rfl) (by kernel_rfl) rfl (fun v s e W W' hg ⟨a, c, h1, h2⟩ => ⟨a, c, h1, h2.bel hg⟩) (fun w2 hg => ?_) ?_
            · have hc := Lib.hid (HRT.out w2 hg)
              go_simp
              exact rel_enter (hc.out.mono fun e w3 ⟨a3, c3, he, hP3, hb3⟩ => ⟨_, he, hb3, a3, c3, rfl, hP3⟩)
            simp only [Act.put, List.setIfInBounds_toArray, List.set_cons_zero, List.set_cons_succ]
            apply RelWalk.next 2
            · kernel_rfl
            · intro X0 _ W hW hcl
              simp only [List.take_succ_cons, List.take_zero]
              obtain ⟨x0, x1, x2⟩ := O4.out.cells
              obtain ⟨a0, a1, a2, a3, a4, a5⟩ := boxc6 Z4.out
              have r0 := fun q => gcell (hW q) x0
              have r1 := fun q => gcell (hW q) x1
              have r2 := fun q => gcell (hW q) x2
              have q0 := fun q => gcell (hW q) a0
              have q1 := fun q => gcell (hW q) a1
              have q2 := fun q => gcell (hW q) a2
              have q3 := fun q => gcell (hW q) a3
              have q4 := fun q => gcell (hW q) a4
              have q5 := fun q => gcell (hW q) a5
              have dT := Lib.hid (fun q => into hcl (HTL.out (W q) (hW q)))
              clear x0 x1 x2 a0 a1 a2 a3 a4 a5
              repeat (go_big_quiet_step (fail))
              exact wpQuiet_nil rfl
            simp only [List.drop_succ_cons, List.drop_zero]
            refine RelWalk.used1 (.bool true) rfl (by kernel_rfl) (by kernel_rfl) rfl (fun g w2 hg v1 hv1 => ?_) ?_
            · obtain ⟨a3, c3, rfl, hP3⟩ := hv1
              have hc := Lib.hid (HI2.out w2 _ _ _ _ _ hP3 (HT4.out.bel hg (Nat.le_refl _)))
              clear hP3
              go_simp
              exact rel_enter_c hc.out
            simp only [Act.put, List.setIfInBounds_toArray, List.set_cons_zero, List.set_cons_succ]
            apply RelWalk.rest
            · kernel_rfl
            · intro X0 _ W hW hcl
              repeat (go_big_quiet_step (fail))
              exact wpQuiet_nil rfl
            intro gq w8 hg8 _
            simp only [Spread]
            intro vM _
            simp only [Act.put, List.setIfInBounds_toArray, List.set_cons_zero, List.set_cons_succ]
            have O8 := Lib.hid (O4.out.bel hg8)
            clear hg8
            go_wp2_with fail
            go_roundw
            case rel => exact ⟨j + 1, by omega, by go_num, HE2.out, O8.out⟩
            case measure => simp [RowKit.intOf] <;> omega
          | false =>
            have HE2 := Lib.hid (HE1.out.trans (show _ = 11 by rw [HE.out, HDA.out, HSP.out, ht, hd, hc]; rfl))
            have HI2 := Lib.hid (fun W vs vc vv va v h1 h2 => by have h := HI.out W vs vc vv va v h1 h2; rw [hc] at h; exact h)
            clear ht hd hc HE HDA HSP HSR HI
            go_wp2_with fail
            refine wp_region_rel (by kernel_rfl) (by kernel_rfl) (by kernel_rfl) ?_
            apply RelWalk.next 14
            · kernel_rfl
            · intro X0 _ W hW hcl
              simp only [List.take_succ_cons, List.take_zero]
              obtain ⟨x0, x1, x2⟩ := O4.out.cells
              obtain ⟨a0, a1, a2, a3, a4, a5⟩ := boxc6 Z4.out
              have r0 := fun q => gcell (hW q) x0
              have r1 := fun q => gcell (hW q) x1
              have r2 := fun q => gcell (hW q) x2
              have q0 := fun q => gcell (hW q) a0
              have q1 := fun q => gcell (hW q) a1
              have q2 := fun q => gcell (hW q) a2
              have q3 := fun q => gcell (hW q) a3
              have q4 := fun q => gcell (hW q) a4
              have q5 := fun q => gcell (hW q) a5
              have dT := Lib.hid (fun q => into hcl (HTL.out (W q) (hW q)))
              clear x0 x1 x2 a0 a1 a2 a3 a4 a5
              repeat (go_big_quiet_step (with_reducible exact dT.out _))
              exact wpQuiet_nil rfl
            simp only [List.drop_succ_cons, List.drop_zero]
            refine RelWalk.made0 (fun v s e W => ∃ a c, v = .agg #[.slice (some ⟨bS, oS, none⟩) b.sorts.length cs, .slice pc b.cons.length cc, .int .i64 b.elim, .int .i64 base, .slice a (atP b.sorts[j].idx).length c, .slice pi b.sorts[j].idx.length ci] ∧ PAt W b (atP b.sorts[j].idx) b.sorts[j].idx (.slice (some ⟨bS, oS, none⟩) b.sorts.length cs) (.slice pc b.cons.length cc) (.slice a (atP b.sorts[j].idx).length c) (.slice pi b.sorts[j].idx.length ci)) rfl (by kernel_rfl) (by kernel_rfl) rfl (fun v s e W W' hg ⟨a, c, h1, h2⟩ => ⟨a, c, h1, h2.bel hg⟩) (fun w2 hg => ?_) ?_
            · have hc := Lib.hid (HRT.out w2 hg)
              go_simp
              exact rel_enter (hc.out.mono fun e w3 ⟨a3, c3, he, hP3, hb3⟩ => ⟨_, he, hb3, a3, c3, rfl, hP3⟩)
            simp only [Act.put, List.setIfInBounds_toArray, List.set_cons_zero, List.set_cons_succ]
            apply RelWalk.next 2
            · kernel_rfl
            · intro X0 _ W hW hcl
              simp only [List.take_succ_cons, List.take_zero]
              obtain ⟨x0, x1, x2⟩ := O4.out.cells
              obtain ⟨a0, a1, a2, a3, a4, a5⟩ := boxc6 Z4.out
              have r0 := fun q => gcell (hW q) x0
              have r1 := fun q => gcell (hW q) x1
              have r2 := fun q => gcell (hW q) x2
              have q0 := fun q => gcell (hW q) a0
              have q1 := fun q => gcell (hW q) a1
              have q2 := fun q => gcell (hW q) a2
              have q3 := fun q => gcell (hW q) a3
              have q4 := fun q => gcell (hW q) a4
              have q5 := fun q => gcell (hW q) a5
              have dT := Lib.hid (fun q => into hcl (HTL.out (W q) (hW q)))
              clear x0 x1 x2 a0 a1 a2 a3 a4 a5
              repeat (go_big_quiet_step (fail))
              exact wpQuiet_nil rfl
            simp only [List.drop_succ_cons, List.drop_zero]
            refine RelWalk.used1 (.bool false) rfl (by kernel_rfl) (by kernel_rfl) rfl (fun g w2 hg v1 hv1 => ?_) ?_
            · obtain ⟨a3, c3, rfl, hP3⟩ := hv1
              have hc := Lib.hid (HI2.out w2 _ _ _ _ _ hP3 (HT4.out.bel hg (Nat.le_refl _)))
              clear hP3
              go_simp
              exact rel_enter_c hc.out
            simp only [Act.put, List.setIfInBounds_toArray, List.set_cons_zero, List.set_cons_succ]
            apply RelWalk.rest
            · kernel_rfl
            · intro X0 _ W hW hcl
              repeat (go_big_quiet_step (fail))
              exact wpQuiet_nil rfl
            intro gq w8 hg8 _
            simp only [Spread]
            intro vM _
            simp only [Act.put, List.setIfInBounds_toArray, List.set_cons_zero, List.set_cons_succ]
            have O8 := Lib.hid (O4.out.bel hg8)
            clear hg8
            go_wp2_with fail
            go_ret
            exact ⟨ret_int HE2.out.symm, O8.out.2.2⟩
    · obtain rfl : j = b.sorts.length := by omega
      have HEC := Lib.hid (HE.out.trans (show _ = consPos b base 0 (b.cons.drop 0) by rw [List.drop_length]; rfl))
      clear HE HS HN1
      go_wp2_with fail
      clear x0 x1 x2
      go_loopw [7] (fun i ws => ∃ j : Nat, j ≤ b.cons.length ∧ i = .int .i64 j ∧ posB b base = consPos b base j (b.cons.drop j) ∧ OneB w w.heap.size b (.slice ps b.sorts.length cs) (.slice pc b.cons.length cc) ws) (fun i _ => b.cons.length - (RowKit.intOf i).toNat)
      case atStart => exact ⟨0, Nat.zero_le _, rfl, HEC.out, OJ.out⟩
      case round =>
        clear OJ HEC
        obtain ⟨j, hj, rfl, hE, hO⟩ := hrel
        have OJ := Lib.hid hO
        have HE := Lib.hid hE
        clear hE hO
        obtain ⟨x0, x1, x2⟩ := OJ.out.cells
        by_cases hlt : j < b.cons.length
        · have hj1 : (j : Int) < (b.cons.length : Int) := by omega
          have hj0 : (0 : Int) ≤ (j : Int) := by omega
          have hw1 : IntKind.i64.wrap ((j : Int) + 1) = ((j + 1 : Nat) : Int) := by rw [IntWalk.i64_in _ (by omega)]; omega
          have HDA := Lib.hid (cons_at (b := b) (base := base) hlt)
          obtain ⟨bS, oS, vx, vy, vt, he, gA, gI, gT, s0, s1, s2, s3, s4, s5⟩ := CRow.at OJ.out.2.1.2 hlt
          cases he
          obtain ⟨pi, ci, rfl⟩ := gA.shape
          obtain ⟨pj, cj, rfl⟩ := gI.shape
          obtain ⟨pt, ct, rfl⟩ := gT.shape
          have GA := Lib.hid gA
          have GI := Lib.hid gI
          have GT := Lib.hid gT
          obtain ⟨hCA, hCL, ⟨k, hks, hk, hil, hdR⟩, hil2, hIR⟩ := HC.out _ (List.getElem_mem hlt)
          have hCN := HN2.out _ (List.getElem_mem hlt)
          rw [hks] at s0
          have HCP : Hid (conPos b base (j : Int) b.cons[j] = (teleB b base b.cons[j].args (j : Int) && indicesB b base (atP b.cons[j].args) b.cons[j].args (j : Int) (k : Int) b.cons[j].idx && (!b.sorts[k].dec || cleanB b base (atP b.cons[j].args) b.cons[j].dec))) := by
            unfold Hid
            rw [conPos, hks, hasDec, Int.toNat_natCast, List.getElem?_eq_getElem hk]; rfl
          have HIL := Lib.hid hil
          clear gA gI gT hks hil
          go_upto_region 15 with (fail)
          obtain ⟨w4, hw4⟩ : ∃ w4, w4 = wr.alloc (.cells #[.int .i64 (k : Int), .slice pi b.cons[j].args.length ci, .slice pj b.cons[j].idx.length cj, .int .i64 b.cons[j].dec.k, .int .i64 b.cons[j].dec.n, .slice pt b.cons[j].dec.kids.length ct] 39) := ⟨_, rfl⟩
          have Z4 : Hid (w4.heap[wr.heap.size]? = some (.cells #[.int .i64 (k : Int), .slice pi b.cons[j].args.length ci, .slice pj b.cons[j].idx.length cj, .int .i64 b.cons[j].dec.k, .int .i64 b.cons[j].dec.n, .slice pt b.cons[j].dec.kids.length ct] 39 (0, 0))) := by unfold Hid; rw [hw4]; exact World.alloc_heap_new wr _
          have B4 : Below wr.heap.size wr w4 := by rw [hw4]; exact below_al _ _
          rw [← hw4]
          have O4 := Lib.hid (OJ.out.bel B4)
          have HA4 := Lib.hid (ARow.bel B4 GA.out)
          have HI4 := Lib.hid (GI.out.bel B4 (Nat.le_refl _))
          have HT4 := Lib.hid (GT.out.bel B4 (Nat.le_refl _))
          have hla : (atP b.cons[j].args).length = b.cons[j].args.length := atP_length _
          have HCL : ∀ u ∈ b.cons[j].idx, ClOk b base (atP b.cons[j].args) b.cons[j].args u := fun u hu => rclean_any b base hs b.cons[j].args (size u) u (Nat.le_refl _) (hIR u hu).1 _ (by have := (hIR u hu).2; omega) (varsOk_at _)
          have HGD : ∀ u ∈ b.cons[j].idx, GoOk b base (atP b.cons[j].args) b.cons[j].args (j : Int) u := fun u hu => rgood_any b base hs _ b.cons[j].args (by omega) (varsOk_at _) hCN (j : Int) (size u) u (Nat.le_refl _) (hIR u hu).1 (by have := (hIR u hu).2; omega)
          have hil6 : b.cons[j].idx.length ≤ 1000000 := by have h2 := HSL.out k hk; have h3 := HIL.out; omega
          have HIX := Lib.hid (fun W vs vc vv va v (h1 : PAt W b (atP b.cons[j].args) b.cons[j].args vs vc vv va) (h2 : At W b.cons[j].idx v) => rindices_any b base (atP b.cons[j].args) b.cons[j].args (j : Int) k hk b.cons[j].idx HIL.out hil6 HCL HGD W vs vc vv va v h1 h2)
          have HTL := Lib.hid (fun W vs vc vl (h1 : BAt W b vs vc) (h2 : ARow W b.cons[j].args vl) => rtele_any b base hs (j : Int) b.cons[j].args (by omega) hCA hCN W vs vc vl h1 h2)
          have HAT := Lib.hid (rat_any b base b.cons[j].args (by omega) w4 _ _ _ O4.out.2.1 HA4.out)
          have HCD := Lib.hid (fun hd => rclean_any b base hs b.cons[j].args (size b.cons[j].dec) b.cons[j].dec (Nat.le_refl _) (hdR hd).1 (atP b.cons[j].args) (by have := (hdR hd).2; omega) (varsOk_at _))
          clear hw4 B4 OJ GA GI GT s0 s1 s2 s3 s4 s5 x0 x1 x2 HCL HGD hil6 hCA hCN hIR hdR hla
          obtain ⟨x0, x1, x2⟩ := O4.out.cells
          obtain ⟨a0, a1, a2, a3, a4, a5⟩ := boxc6 Z4.out
          go_wp2_with fail
          refine HAT.out.mono ?_
          rintro e w5 ⟨av, cv, rfl, hP5, hb5⟩
          have O5 := Lib.hid (O4.out.bel hb5)
          have Z5 := Lib.hid ((hb5.block _ (Array.getElem?_eq_some_iff.1 Z4.out).1).trans Z4.out)
          have HI5 := Lib.hid (HI4.out.bel hb5 (Nat.le_refl _))
          have HT5 := Lib.hid (HT4.out.bel hb5 (Nat.le_refl _))
          have PS := Lib.hid (onep_start w5 b base (atP b.cons[j].args) b.cons[j].args _ _ _ _ hP5)
          clear x0 x1 x2 a0 a1 a2 a3 a4 a5 O4 Z4 HI4 HT4 HA4 hP5 hb5 HAT
          go_upto_region 16 with (fail)
          obtain ⟨w6, hw6⟩ : ∃ w6, w6 = w5.alloc (.cells #[.slice ps b.sorts.length cs, .slice (some ⟨bS, oS, none⟩) b.cons.length cc, .int .i64 b.elim, .int .i64 base, .slice av (atP b.cons[j].args).length cv, .slice pi b.cons[j].args.length ci] 61) := ⟨_, rfl⟩
          have B6 : Below w5.heap.size w5 w6 := by rw [hw6]; exact below_al _ _
          rw [← hw6] at PS ⊢
          have O6 := Lib.hid (O5.out.bel B6)
          have Z6 := Lib.hid ((B6.block _ (Array.getElem?_eq_some_iff.1 Z5.out).1).trans Z5.out)
          have HI6 := Lib.hid (HI5.out.bel B6 (Nat.le_refl _))
          have HT6 := Lib.hid (HT5.out.bel B6 (Nat.le_refl _))
          have HTL6 := Lib.hid (HTL.out w6 _ _ _ O6.out.2.1 PS.out.2.1.2.2)
          clear hw6 B6 O5 Z5 HI5 HT5 HTL
          generalize w5.heap.size = BP at *
          obtain ⟨x0, x1, x2⟩ := O6.out.cells
          obtain ⟨a0, a1, a2, a3, a4, a5⟩ := boxc6 Z6.out
          cases ht : teleB b base b.cons[j].args (j : Int) with
          | false =>
            have HE2 := Lib.hid (HE1.out.trans (show _ = 11 by rw [HE.out, HDA.out, HCP.out, ht]; rfl))
            rw [ht] at HTL6
            clear ht HE HDA HCP HIX HCD
            go_wp2_with fail
            refine HTL6.out.mono ?_
            rintro e w7 ⟨rfl, hb7⟩
            have O7 := Lib.hid (O6.out.bel hb7)
            clear hb7 x0 x1 x2 a0 a1 a2 a3 a4 a5
            go_wp2_with fail
            go_ret
            exact ⟨ret_int HE2.out.symm, O7.out.2.2⟩
          | true =>
          rw [ht] at HTL6
          cases hi : indicesB b base (atP b.cons[j].args) b.cons[j].args (j : Int) (k : Int) b.cons[j].idx with
          | false =>
            have HE2 := Lib.hid (HE1.out.trans (show _ = 11 by rw [HE.out, HDA.out, HCP.out, ht, hi]; rfl))
            rw [hi] at HIX
            clear ht hi HE HDA HCP HCD
            go_wp2_with fail
            refine HTL6.out.mono ?_
            rintro e w7 ⟨rfl, hb7⟩
            have O7 := Lib.hid (O6.out.bel hb7)
            have Z7 := Lib.hid ((hb7.block _ (Array.getElem?_eq_some_iff.1 Z6.out).1).trans Z6.out)
            have P7 := Lib.hid (PS.out.bel hb7)
            have HI7 := Lib.hid (HI6.out.bel hb7 (Nat.le_refl _))
            have HT7 := Lib.hid (HT6.out.bel hb7 (Nat.le_refl _))
            clear hb7 x0 x1 x2 a0 a1 a2 a3 a4 a5 O6 Z6 PS HI6 HT6 HTL6
            obtain ⟨x0, x1, x2⟩ := O7.out.cells
            obtain ⟨a0, a1, a2, a3, a4, a5⟩ := boxc6 Z7.out
            obtain ⟨y0, y1, y2, y3, y4, y5⟩ := P7.out.cells
            go_wp2_with fail
            refine (HIX.out w7 _ _ _ _ _ P7.out.2.1 HI7.out).mono ?_
            rintro e w8 ⟨rfl, hb8⟩
            have O8 := Lib.hid (O7.out.bel hb8)
            clear hb8 x0 x1 x2 a0 a1 a2 a3 a4 a5 y0 y1 y2 y3 y4 y5
            go_wp2_with fail
            go_ret
            exact ⟨ret_int HE2.out.symm, O8.out.2.2⟩
          | true =>
          rw [hi] at HIX
          go_wp2_with fail
          refine HTL6.out.mono ?_
          rintro e w7 ⟨rfl, hb7⟩
          have O7 := Lib.hid (O6.out.bel hb7)
          have Z7 := Lib.hid ((hb7.block _ (Array.getElem?_eq_some_iff.1 Z6.out).1).trans Z6.out)
          have P7 := Lib.hid (PS.out.bel hb7)
          have HI7 := Lib.hid (HI6.out.bel hb7 (Nat.le_refl _))
          have HT7 := Lib.hid (HT6.out.bel hb7 (Nat.le_refl _))
          clear hb7 x0 x1 x2 a0 a1 a2 a3 a4 a5 O6 Z6 PS HI6 HT6 HTL6
          obtain ⟨x0, x1, x2⟩ := O7.out.cells
          obtain ⟨a0, a1, a2, a3, a4, a5⟩ := boxc6 Z7.out
          obtain ⟨y0, y1, y2, y3, y4, y5⟩ := P7.out.cells
          go_wp2_with fail
          refine (HIX.out w7 _ _ _ _ _ P7.out.2.1 HI7.out).mono ?_
          rintro e w8 ⟨rfl, hb8⟩
          have O8 := Lib.hid (O7.out.bel hb8)
          have Z8 := Lib.hid ((hb8.block _ (Array.getElem?_eq_some_iff.1 Z7.out).1).trans Z7.out)
          have P8 := Lib.hid (P7.out.bel hb8)
          have HT8 := Lib.hid (HT7.out.bel hb8 (Nat.le_refl _))
          clear hb8 x0 x1 x2 a0 a1 a2 a3 a4 a5 y0 y1 y2 y3 y4 y5 O7 Z7 P7 HI7 HT7 HIX
          obtain ⟨x0, x1, x2⟩ := O8.out.cells
          obtain ⟨a0, a1, a2, a3, a4, a5⟩ := boxc6 Z8.out
          obtain ⟨y0, y1, y2, y3, y4, y5⟩ := P8.out.cells
          obtain ⟨bT, oT, vx2, vt2, he2, gA2, gT2, s0, s1, s2, s3, s4, s5⟩ := SRow.at O8.out.2.1.1 hk
          cases he2
          have hk1 : (k : Int) < (b.sorts.length : Int) := by omega
          have hk0 : (0 : Int) ≤ (k : Int) := by omega
          clear s0 s1 s3 s4 s5 gA2 gT2
          cases hd : b.sorts[k].dec with
          | false =>
            have HE2 := Lib.hid (HE.out.trans (show _ = consPos b base (j + 1) (b.cons.drop (j + 1)) by rw [HDA.out, HCP.out, ht, hi, hd]; rfl))
            rw [hd] at s2
            clear ht hi hd HE HDA HCP HCD
            go_wp2_with fail
            go_roundw
            case rel => exact ⟨j + 1, by omega, by go_num, HE2.out, O8.out⟩
            case measure => simp [RowKit.intOf] <;> omega
          | true =>
          rw [hd] at s2
          have HCC := Lib.hid ((HCD.out hd) w8 _ _ _ _ _ P8.out.2.1 HT8.out)
          cases hc : cleanB b base (atP b.cons[j].args) b.cons[j].dec with
          | true =>
            have HE2 := Lib.hid (HE.out.trans (show _ = consPos b base (j + 1) (b.cons.drop (j + 1)) by rw [HDA.out, HCP.out, ht, hi, hd, hc]; rfl))
            rw [hc] at HCC
            clear ht hi hd hc HE HDA HCP HCD
            go_wp2_with fail
            refine HCC.out.mono ?_
            rintro e w9 ⟨rfl, hb9⟩
            have O9 := Lib.hid (O8.out.bel hb9)
            clear hb9 x0 x1 x2 a0 a1 a2 a3 a4 a5 y0 y1 y2 y3 y4 y5 s2
            go_wp2_with fail
            go_roundw
            case rel => exact ⟨j + 1, by omega, by go_num, HE2.out, O9.out⟩
            case measure => simp [RowKit.intOf] <;> omega
          | false =>
            have HE2 := Lib.hid (HE1.out.trans (show _ = 11 by rw [HE.out, HDA.out, HCP.out, ht, hi, hd, hc]; rfl))
            rw [hc] at HCC
            clear ht hi hd hc HE HDA HCP HCD
            go_wp2_with fail
            refine HCC.out.mono ?_
            rintro e w9 ⟨rfl, hb9⟩
            have O9 := Lib.hid (O8.out.bel hb9)
            clear hb9 x0 x1 x2 a0 a1 a2 a3 a4 a5 y0 y1 y2 y3 y4 y5 s2
            go_wp2_with fail
            go_ret
            exact ⟨ret_int HE2.out.symm, O9.out.2.2⟩
        · obtain rfl : j = b.cons.length := by omega
          go_wp2_with fail
          go_ret
          exact ⟨ret_int (by rw [HE1.out, HE.out, List.drop_length]; rfl), OJ.out.2.2⟩
end Go.Proofs.YtggefpkfikimiaaGreat
