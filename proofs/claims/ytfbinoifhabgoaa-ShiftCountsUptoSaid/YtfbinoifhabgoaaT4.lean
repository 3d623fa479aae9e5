/- ShiftCounts: the Go text returns true for any term that is not greater than the second form's bound, and any integers. -/
import Derived.Test.YtfbinoifhabgoaaT0
import Derived.Test.YtfbinoifhabgoaaCo
import Derived.Test.YtfbinoifhabgoaaRc
import Derived.Deep.DeepCutAuto
namespace Go.Proofs.Ytfbinoifhabgoaa
open Go.RowKit
set_option linter.unusedVariables false

set_option maxRecDepth 100000 in
set_option maxHeartbeats 3000000 in
theorem lcounts_any (t : Tm) (hF : Fits t) (hs : size t ≤ 1048576) (b f n : Int) (w : World) (v : Value) (hA : At w t.kids v) :
    Calls Try.prog 5 #[.agg #[.int .i64 t.k, .int .i64 t.n, v], .int .i64 b, .int .i64 f, .int .i64 n] w fun e w' => e = .returned (.bool true) ∧ Below w.heap.size w w' := by
  obtain ⟨a1, c1, rfl⟩ := hA.shape
  have HH := heavy1 t hs w _ hA
  clear hA
  cases hh : heavyB [t] with
  | true =>
    rw [hh] at HH
    have HH := Lib.hid HH
    clear hh
    go_enter Try.func5, Try.ntmps5
    go_wp2_with fail
    refine HH.out.mono ?_
    rintro e w1 ⟨rfl, hb1⟩
    have T1 := Lib.hid hb1
    clear hb1
    go_wp2_with fail
    go_ret
    exact ⟨rfl, T1.out.2.2⟩
  | false =>
    rw [hh] at HH
    have HH := Lib.hid HH
    clear hh
    have hrbq := mod_range b 50 (by omega) (by omega)
    have hrff := mod_range f 10 (by omega) (by omega)
    have hrnn := mod_range n 20 (by omega) (by omega)
    go_enter Try.func5, Try.ntmps5
    go_wp2_with fail
    refine HH.out.mono ?_
    rintro e w1 ⟨rfl, hb1⟩
    have T1 := Lib.hid hb1
    clear HH hb1
    go_upto_region 4 with (fail)
    generalize wrap64 ((IntKind.u64.wrap b).tmod 50) = bq at *
    generalize wrap64 ((IntKind.u64.wrap f).tmod 10) = ff at *
    generalize wrap64 ((IntKind.u64.wrap n).tmod 20) = nn at *
    obtain ⟨bq0, bq1⟩ := hrbq
    obtain ⟨ff0, ff1⟩ := hrff
    obtain ⟨nn0, nn1⟩ := hrnn
    obtain ⟨bb, hbb⟩ : ∃ bb, 1 + bq = bb := ⟨_, rfl⟩
    rw [hbb]
    have hb0 : 1 ≤ bb := by omega
    have hb1 : bb ≤ 50 := by omega
    clear hbb bq0 bq1
    have HWK := Lib.hid (fun w => wakes4_any w)
    by_cases hok : shiftE t bb ff = 0
    rotate_left
    · have C1 := Lib.hid (fun W v hA => c_shift (b := bb) (f := ff) hF hs rfl rfl W v hA)
      generalize shiftT t bb ff = x at *
      generalize shiftE t bb ff = e1 at *
      have q0 : (e1 != 0) = true := by simpa using hok
      clear hok
      obtain ⟨⟨qT0, qT1, qT2⟩, _, _⟩ := T1.out
      go_wp2_with fail
      clear qT0 qT1 qT2
      refine (C1.out _ _ T1.out.2.1).mono ?_
      rintro e w102 ⟨a102, c102, rfl, hK2, hb2⟩
      obtain ⟨hO2, hg2⟩ := boxed_tell T1.out.2.2 hb2 hK2
      have T2 := Lib.hid (T1.out.bel hg2)
      clear hK2 hO2 hg2 hb2 T1
      go_wp2_with fail
      refine (HWK.out _).mono ?_
      rintro e w103 ⟨rfl, hb3⟩
      have T3 := Lib.hid (T2.out.bel hb3)
      clear hb3 T2
      go_wp2_with fail
      go_ret
      exact ⟨rfl, T3.out.2.2⟩
    · obtain ⟨r1, r2, r3, r4, r5⟩ := counts_ok (n := nn) hok (by omega) hb1 nn0 (by omega)
      have hx := move_size t bb ff
      have hxF := move_fits hok
      have C1 := Lib.hid (fun W v hA => c_shift hF hs hok (shiftT_ok hok) W v hA)
      generalize moveT t bb ff = x at *
      have hxs : size x ≤ 1048576 := by omega
      have CK : Hid (∀ k : Int, 0 ≤ k → k < bb → ∀ W v, At W x.kids v → Calls Try.prog 16 #[.agg #[.int .i64 x.k, .int .i64 x.n, v], .int .i64 (ff + k)] W fun e w' => e = .returned (.int .i64 0) ∧ Below W.heap.size W w') := fun k k0 k1 W v hA => c_count (c := 0) hxs (r1 k k0 k1) W v hA
      obtain ⟨cn, hcn⟩ : ∃ cn, cntE t nn = cn := ⟨_, rfl⟩
      rw [hcn] at r2
      have K1 := Lib.hid (fun W v hA => c_count hxs r2 W v hA)
      have K2 := Lib.hid (fun W v hA => c_count hs hcn W v hA)
      have K3 := Lib.hid (fun W v hA => c_size x hxF hxs W v hA)
      have K4 := Lib.hid (fun W v hA => c_size t hF hs W v hA)
      have K5 := Lib.hid (fun W v hA => c_depth x hxF hxs W v hA)
      have K6 := Lib.hid (fun W v hA => c_depth t hF hs W v hA)
      have K7 := Lib.hid (fun W v hA => c_consts x hxF hxs W v hA)
      have K8 := Lib.hid (fun W v hA => c_consts t hF hs W v hA)
      rw [r3] at K3
      rw [r4] at K5
      rw [r5] at K7
      have hLl : (consI (constT t)).length ≤ 1048576 := Nat.le_trans (consI_len _) (Nat.le_trans (constT_len t) hs)
      have HLL := Lib.hid hLl
      clear r1 r2 r3 r4 r5 hcn hok hLl
      obtain ⟨⟨qT0, qT1, qT2⟩, _, _⟩ := T1.out
      go_wp2_with fail
      clear qT0 qT1 qT2
      refine (C1.out _ _ T1.out.2.1).mono ?_
      rintro e w102 ⟨a102, c102, rfl, hK2, hb2⟩
      obtain ⟨hO2, hg2⟩ := boxed_tell T1.out.2.2 hb2 hK2
      have T2 := Lib.hid (T1.out.bel hg2)
      have X2 := Lib.hid hO2
      clear hK2 hO2 hg2 hb2 T1
      go_wp2_with fail
      revert T2 X2
      generalize w102.alloc (.cells #[.int .i64 x.k, .int .i64 x.n, .slice a102 x.kids.length c102] 24) = W2
      intro T2 X2
      go_loopw [11] (fun i wr => ∃ k : Nat, (k : Int) ≤ bb ∧ i = .int .i64 k ∧ Below W2.heap.size W2 wr) (fun i _ => bb.toNat - (RowKit.intOf i).toNat)
      case atStart => exact ⟨0, by omega, rfl, Below.refl _ _⟩
      case round =>
        obtain ⟨k, hk, rfl, hbw⟩ := hrel
        by_cases hlt : (k : Int) < bb
        · have CK1 := Lib.hid (CK.out k (by omega) hlt)
          have X3 := Lib.hid (X2.out.bel hbw)
          have HBW := Lib.hid hbw
          obtain ⟨⟨q0, q1, q2⟩, _, _⟩ := X3.out
          clear hbw
          go_wp2_with fail
          refine (CK1.out _ _ X3.out.2.1).mono ?_
          rintro e w4 ⟨rfl, hb4⟩
          have HB4 := Lib.hid (HBW.out.trans (hb4.mono HBW.out.size))
          clear hb4 q0 q1 q2
          go_wp2_with fail
          go_roundw
          case rel => exact ⟨k + 1, by omega, by go_num, HB4.out⟩
          case measure => simp [RowKit.intOf]; omega
        · have hlt2 : decide ((k : Int) < bb) = false := decide_eq_false hlt
          have T3 := Lib.hid (T2.out.bel hbw)
          have X3 := Lib.hid (X2.out.bel hbw)
          clear hbw T2 X2 hlt hk CK C1
          obtain ⟨wn, hwn⟩ : ∃ wn, (if ff ≤ nn then nn + bb else nn) = wn := ⟨_, rfl⟩
          rw [hwn] at K1
          by_cases hfn : ff ≤ nn
          · rw [if_pos hfn] at hwn
            subst hwn
            have hd : nn + bb ≤ 1000 := by omega
            go_wp2_with fail
            refine wp_region_rel (by kernel_rfl) (by kernel_rfl) (by kernel_rfl) ?_
            apply RelWalk.next 23
            · kernel_rfl
            · intro X _ W hW hcl
              simp only [List.take_succ_cons, List.take_zero]
              obtain ⟨⟨x0, x1, x2⟩, _⟩ := T3.out
              obtain ⟨⟨z0, z1, z2⟩, _⟩ := X3.out
              have k0 := fun q => gcell (hW q) x0
              have k1 := fun q => gcell (hW q) x1
              have k2 := fun q => gcell (hW q) x2
              have k6 := fun q => gcell (hW q) z0
              have k7 := fun q => gcell (hW q) z1
              have k8 := fun q => gcell (hW q) z2
              have c1 := Lib.hid (fun q => into hcl (K1.out (W q) _ (X3.out.bel (hW q)).2.1))
              have c2 := Lib.hid (fun q => into hcl (K2.out (W q) _ (T3.out.bel (hW q)).2.1))
              have c3 := Lib.hid (fun q => into hcl (K3.out (W q) _ (X3.out.bel (hW q)).2.1))
              have c4 := Lib.hid (fun q => into hcl (K4.out (W q) _ (T3.out.bel (hW q)).2.1))
              have c5 := Lib.hid (fun q => into hcl (K5.out (W q) _ (X3.out.bel (hW q)).2.1))
              have c6 := Lib.hid (fun q => into hcl (K6.out (W q) _ (T3.out.bel (hW q)).2.1))
              clear x0 x1 x2 z0 z1 z2
              repeat (go_big_quiet_step (first | (with_reducible exact c1.out _) | (with_reducible exact c2.out _) | (with_reducible exact c3.out _) | (with_reducible exact c4.out _) | (with_reducible exact c5.out _) | (with_reducible exact c6.out _)))
              exact wpQuiet_nil rfl
            simp only [List.drop_succ_cons, List.drop_zero]
            refine RelWalk.made0 (plain (RowV (consI (constT t)))) rfl (by kernel_rfl) (by kernel_rfl) rfl (mono_plain (RowV.mono _)) (fun w6 hg => ?_) ?_
            · have hc := Lib.hid (K7.out w6 _ (X3.out.bel hg).2.1)
              go_simp
              exact rel_enter hc.out
            simp only [Act.put, List.setIfInBounds_toArray, List.set_cons_zero, List.set_cons_succ]
            apply RelWalk.next 1
            · kernel_rfl
            · intro X _ W hW hcl
              simp only [List.take_succ_cons, List.take_zero]
              obtain ⟨⟨x0, x1, x2⟩, _⟩ := T3.out
              have k0 := fun q => gcell (hW q) x0
              have k1 := fun q => gcell (hW q) x1
              have k2 := fun q => gcell (hW q) x2
              clear x0 x1 x2
              repeat (go_big_quiet_step (fail))
              exact wpQuiet_nil rfl
            simp only [List.drop_succ_cons, List.drop_zero]
            refine RelWalk.made0 (plain (RowV (consI (constT t)))) rfl (by kernel_rfl) (by kernel_rfl) rfl (mono_plain (RowV.mono _)) (fun w6 hg => ?_) ?_
            · have hc := Lib.hid (K8.out w6 _ (T3.out.bel hg).2.1)
              go_simp
              exact rel_enter hc.out
            simp only [Act.put, List.setIfInBounds_toArray, List.set_cons_zero, List.set_cons_succ]
            refine RelWalk.used2 (.bool true) rfl (by kernel_rfl) (by kernel_rfl) rfl (fun g w6 hg v1 hv1 v2 hv2 => ?_) ?_
            · have hc := ints_any _ _ HLL.out HLL.out w6 _ _ hv2 hv1
              rw [decide_eq_true rfl] at hc
              have hc := Lib.hid hc
              clear hv1 hv2
              go_simp
              exact rel_enter_c hc.out
            simp only [Act.put, List.setIfInBounds_toArray, List.set_cons_zero, List.set_cons_succ]
            apply RelWalk.rest
            · kernel_rfl
            · intro X _ W hW hcl
              have cW := Lib.hid (fun q => into hcl (HWK.out (W q)))
              repeat (go_big_quiet_step (with_reducible exact cW.out _))
              exact wpQuiet_nil rfl
            intro gq w6 hg _
            have T6 := Lib.hid (T3.out.bel hg)
            clear hg
            simp only [Spread]
            rintro v1 _ v2 _
            go_wp2_with fail
            go_ret
            exact ⟨rfl, T6.out.2.2⟩
          · rw [if_neg hfn] at hwn
            subst hwn
            have hfn2 : decide (ff ≤ nn) = false := decide_eq_false hfn
            go_wp2_with fail
            refine wp_region_rel (by kernel_rfl) (by kernel_rfl) (by kernel_rfl) ?_
            apply RelWalk.next 23
            · kernel_rfl
            · intro X _ W hW hcl
              simp only [List.take_succ_cons, List.take_zero]
              obtain ⟨⟨x0, x1, x2⟩, _⟩ := T3.out
              obtain ⟨⟨z0, z1, z2⟩, _⟩ := X3.out
              have k0 := fun q => gcell (hW q) x0
              have k1 := fun q => gcell (hW q) x1
              have k2 := fun q => gcell (hW q) x2
              have k6 := fun q => gcell (hW q) z0
              have k7 := fun q => gcell (hW q) z1
              have k8 := fun q => gcell (hW q) z2
              have c1 := Lib.hid (fun q => into hcl (K1.out (W q) _ (X3.out.bel (hW q)).2.1))
              have c2 := Lib.hid (fun q => into hcl (K2.out (W q) _ (T3.out.bel (hW q)).2.1))
              have c3 := Lib.hid (fun q => into hcl (K3.out (W q) _ (X3.out.bel (hW q)).2.1))
              have c4 := Lib.hid (fun q => into hcl (K4.out (W q) _ (T3.out.bel (hW q)).2.1))
              have c5 := Lib.hid (fun q => into hcl (K5.out (W q) _ (X3.out.bel (hW q)).2.1))
              have c6 := Lib.hid (fun q => into hcl (K6.out (W q) _ (T3.out.bel (hW q)).2.1))
              clear x0 x1 x2 z0 z1 z2
              repeat (go_big_quiet_step (first | (with_reducible exact c1.out _) | (with_reducible exact c2.out _) | (with_reducible exact c3.out _) | (with_reducible exact c4.out _) | (with_reducible exact c5.out _) | (with_reducible exact c6.out _)))
              exact wpQuiet_nil rfl
            simp only [List.drop_succ_cons, List.drop_zero]
            refine RelWalk.made0 (plain (RowV (consI (constT t)))) rfl (by kernel_rfl) (by kernel_rfl) rfl (mono_plain (RowV.mono _)) (fun w6 hg => ?_) ?_
            · have hc := Lib.hid (K7.out w6 _ (X3.out.bel hg).2.1)
              go_simp
              exact rel_enter hc.out
            simp only [Act.put, List.setIfInBounds_toArray, List.set_cons_zero, List.set_cons_succ]
            apply RelWalk.next 1
            · kernel_rfl
            · intro X _ W hW hcl
              simp only [List.take_succ_cons, List.take_zero]
              obtain ⟨⟨x0, x1, x2⟩, _⟩ := T3.out
              have k0 := fun q => gcell (hW q) x0
              have k1 := fun q => gcell (hW q) x1
              have k2 := fun q => gcell (hW q) x2
              clear x0 x1 x2
              repeat (go_big_quiet_step (fail))
              exact wpQuiet_nil rfl
            simp only [List.drop_succ_cons, List.drop_zero]
            refine RelWalk.made0 (plain (RowV (consI (constT t)))) rfl (by kernel_rfl) (by kernel_rfl) rfl (mono_plain (RowV.mono _)) (fun w6 hg => ?_) ?_
            · have hc := Lib.hid (K8.out w6 _ (T3.out.bel hg).2.1)
              go_simp
              exact rel_enter hc.out
            simp only [Act.put, List.setIfInBounds_toArray, List.set_cons_zero, List.set_cons_succ]
            refine RelWalk.used2 (.bool true) rfl (by kernel_rfl) (by kernel_rfl) rfl (fun g w6 hg v1 hv1 v2 hv2 => ?_) ?_
            · have hc := ints_any _ _ HLL.out HLL.out w6 _ _ hv2 hv1
              rw [decide_eq_true rfl] at hc
              have hc := Lib.hid hc
              clear hv1 hv2
              go_simp
              exact rel_enter_c hc.out
            simp only [Act.put, List.setIfInBounds_toArray, List.set_cons_zero, List.set_cons_succ]
            apply RelWalk.rest
            · kernel_rfl
            · intro X _ W hW hcl
              have cW := Lib.hid (fun q => into hcl (HWK.out (W q)))
              repeat (go_big_quiet_step (with_reducible exact cW.out _))
              exact wpQuiet_nil rfl
            intro gq w6 hg _
            have T6 := Lib.hid (T3.out.bel hg)
            clear hg
            simp only [Spread]
            rintro v1 _ v2 _
            go_wp2_with fail
            go_ret
            exact ⟨rfl, T6.out.2.2⟩
end Go.Proofs.Ytfbinoifhabgoaa
