/- TermScope: the Go text returns true for any term that is not greater than the second form's bound, and any numbers. -/
import Derived.Test.YthcjjfgigbgdkaaCo
import Derived.Test.YthcjjfgigbgdkaaSq
import Derived.Test.YthcjjfgigbgdkaaLb
import Derived.IntWalk
namespace Go.Proofs.Ythcjjfgigbgdkaa
open Go.RowKit
set_option linter.unusedVariables false

set_option maxRecDepth 100000 in
set_option maxHeartbeats 2000000 in
theorem lscope_any (t : Tm) (vars consts more : Int) (hF : Fits t) (hs : size t ≤ 1048576) (w : World) (v : Value) (hA : At w t.kids v) :
    Calls Try.prog 4 #[tv t v, .int .i64 vars, .int .i64 consts, .int .i64 more] w fun e w' => e = .returned (.bool true) ∧ Below w.heap.size w w' := by
  have HH := heavy1 t hs w v hA
  obtain ⟨a1, c1, rfl⟩ := hA.shape
  clear hA
  unfold tv
  by_cases hh : heavyB [t] = true
  · rw [hh] at HH
    have HH := Lib.hid HH
    clear hh
    go_enter Try.func4, Try.ntmps4
    go_wp2_with (go_at_call 15; refine HH.out.mono ?_; rintro e w1 ⟨rfl, hb1⟩; have T1 := Lib.hid hb1; clear hb1)
    go_ret
    exact ⟨rfl, T1.out.2.2⟩
  rw [Bool.eq_false_iff.2 hh] at HH
  have HH := Lib.hid HH
  clear hh
  have hr1 := mod_range vars 100 (by omega) (by omega)
  have hr2 := mod_range consts 100 (by omega) (by omega)
  have hr3 := mod_range more 100 (by omega) (by omega)
  go_enter Try.func4, Try.ntmps4
  go_wp2_with fail
  refine HH.out.mono ?_
  rintro e w1 ⟨rfl, hb1⟩
  have O1 := Lib.hid hb1
  obtain ⟨⟨x0, x1, x2⟩, _⟩ := O1.out
  clear hb1 HH
  go_wp2_with fail
  generalize wrap64 ((IntKind.u64.wrap vars).tmod 100) = vv at *
  generalize wrap64 ((IntKind.u64.wrap consts).tmod 100) = cc at *
  generalize wrap64 ((IntKind.u64.wrap more).tmod 100) = mm at *
  obtain ⟨g1, g2⟩ := hr1
  obtain ⟨g3, g4⟩ := hr2
  obtain ⟨g5, g6⟩ := hr3
  refine (c_scope t hF hs vv cc w1 _ O1.out.2.1).mono ?_
  rintro e w2 ⟨rfl, hb2⟩
  have O2 := Lib.hid (O1.out.bel hb2)
  clear hb2 x0 x1 x2 O1
  have N1 : Hid (∀ W v, At W t.kids v → Calls Try.prog 25 #[.agg #[.int .i64 t.k, .int .i64 t.n, v], .int .i64 (-1), .int .i64 cc] W fun e w' => e = .returned (.bool false) ∧ Below W.heap.size W w') := fun W v hA => by
    have := c_scope t hF hs (-1) cc W v hA
    rw [scope_neg t _ _ (.inl (by omega))] at this; exact this
  have N2 : Hid (∀ W v, At W t.kids v → Calls Try.prog 25 #[.agg #[.int .i64 t.k, .int .i64 t.n, v], .int .i64 vv, .int .i64 (-1)] W fun e w' => e = .returned (.bool false) ∧ Below W.heap.size W w') := fun W v hA => by
    have := c_scope t hF hs vv (-1) W v hA
    rw [scope_neg t _ _ (.inr (by omega))] at this; exact this
  cases hsc : scopeT t vv cc with
  | false =>
    clear hsc
    have A2 := Lib.hid O2.out.2.1
    obtain ⟨⟨y0, y1, y2⟩, _⟩ := O2.out
    go_wp2_with (go_at_call 28; refine (c_consts t hF hs _ _ A2.out).mono ?_; rintro e w3 ⟨v3, rfl, hb3, _⟩; have O3 := Lib.hid (O2.out.bel hb3); clear hb3 O2 A2 y0 y1 y2)
    refine wp_region_rel (by kernel_rfl) (by kernel_rfl) (by kernel_rfl) ?_
    apply RelWalk.rest
    · kernel_rfl
    · intro X _ W hW hcl
      obtain ⟨⟨x0, x1, x2⟩, _⟩ := O3.out
      have k0 := fun q => gcell (hW q) x0
      have k1 := fun q => gcell (hW q) x1
      have k2 := fun q => gcell (hW q) x2
      clear x0 x1 x2
      repeat (go_big_quiet_step (fail))
      exact wpQuiet_nil rfl
    intro g o4 hg _
    have O4 := Lib.hid (O3.out.bel hg)
    clear O3 hg
    simp only [Spread]
    go_wp2_with fail
    refine wp_region_rel (by kernel_rfl) (by kernel_rfl) (by kernel_rfl) ?_
    apply RelWalk.rest
    · kernel_rfl
    · intro X _ W hW hcl
      obtain ⟨⟨x0, x1, x2⟩, _⟩ := O4.out
      have k0 := fun q => gcell (hW q) x0
      have k1 := fun q => gcell (hW q) x1
      have k2 := fun q => gcell (hW q) x2
      clear x0 x1 x2
      repeat (go_big_quiet_step (fail))
      exact wpQuiet_nil rfl
    intro g o9 hg _
    have O9 := Lib.hid (O4.out.bel hg)
    clear O4 hg
    simp only [Spread]
    have A9 := Lib.hid O9.out.2.1
    obtain ⟨⟨s0, s1, s2⟩, _⟩ := O9.out
    go_wp2_with (first | (go_at_call 25; (with_reducible refine (N1.out _ _ A9.out).mono ?_); rintro e w10 ⟨rfl, hb10⟩; have O10 := Lib.hid (O9.out.bel hb10); have A10 := Lib.hid O10.out.2.1; obtain ⟨⟨r0, r1, r2⟩, _⟩ := O10.out; clear hb10 O9 A9) | (go_at_call 25; (with_reducible refine (N2.out _ _ A10.out).mono ?_); rintro e w11 ⟨rfl, hb11⟩; have O11 := Lib.hid (O10.out.bel hb11); clear hb11 r0 r1 r2 O10 A10) | (go_at_call 30; refine (wakes_any _).mono ?_; rintro e w12 ⟨rfl, hb12⟩; have O12 := Lib.hid (O11.out.bel hb12); clear hb12 O11))
    go_ret
    exact ⟨rfl, O12.out.2.2⟩
  | true =>
    have M1 := Lib.hid (scope_more (m := mm) (n := 0) hsc g5 (by omega))
    have M2 := Lib.hid (scope_more (m := 0) (n := mm) hsc (by omega) g5)
    have M3 := Lib.hid ((scopeT_iff _ _ _).1 hsc).2.2.1
    rw [Int.add_zero] at M1 M2
    have ML := Lib.hid (fun n hn => scope_last (n := n) hsc hn)
    have MV := Lib.hid (fun hv => scope_less hsc hv (by omega))
    clear hsc
    have S1 : Hid (∀ W v, At W t.kids v → Calls Try.prog 25 #[.agg #[.int .i64 t.k, .int .i64 t.n, v], .int .i64 (vv + mm), .int .i64 cc] W fun e w' => e = .returned (.bool true) ∧ Below W.heap.size W w') := fun W v hA => by
      have := c_scope t hF hs (vv + mm) cc W v hA
      rw [M1.out] at this; exact this
    have S2 : Hid (∀ W v, At W t.kids v → Calls Try.prog 25 #[.agg #[.int .i64 t.k, .int .i64 t.n, v], .int .i64 vv, .int .i64 (cc + mm)] W fun e w' => e = .returned (.bool true) ∧ Below W.heap.size W w') := fun W v hA => by
      have := c_scope t hF hs vv (cc + mm) W v hA
      rw [M2.out] at this; exact this
    have S3 : Hid (∀ W v, At W t.kids v → Calls Try.prog 17 #[.agg #[.int .i64 t.k, .int .i64 t.n, v]] W fun e w' => e = .returned (.int .i64 0) ∧ Below W.heap.size W w') := fun W v hA => by
      have := c_check t hF hs W v hA
      rw [M3.out] at this; exact this
    have A2 := Lib.hid O2.out.2.1
    obtain ⟨⟨y0, y1, y2⟩, _⟩ := O2.out
    go_wp2_with (first | (go_at_call 25; (with_reducible refine (S1.out _ _ A2.out).mono ?_); rintro e w3 ⟨rfl, hb3⟩; have O3 := Lib.hid (O2.out.bel hb3); have A3 := Lib.hid O3.out.2.1; obtain ⟨⟨z0, z1, z2⟩, _⟩ := O3.out; clear hb3 O2 A2 y0 y1 y2) | (go_at_call 25; (with_reducible refine (S2.out _ _ A3.out).mono ?_); rintro e w4 ⟨rfl, hb4⟩; have O4 := Lib.hid (O3.out.bel hb4); have A4 := Lib.hid O4.out.2.1; obtain ⟨⟨u0, u1, u2⟩, _⟩ := O4.out; clear hb4 O3 A3 z0 z1 z2) | (go_at_call 17; (with_reducible refine (S3.out _ _ A4.out).mono ?_); rintro e w5 ⟨rfl, hb5⟩; have O5 := Lib.hid (O4.out.bel hb5); have A5 := Lib.hid O5.out.2.1; obtain ⟨⟨p0, p1, p2⟩, _⟩ := O5.out; clear hb5 O4 A4 u0 u1 u2))
    refine (c_consts t hF hs _ _ A5.out).mono ?_
    rintro e w6 ⟨v6, rfl, hb6, hr6⟩
    have O6 := Lib.hid (O5.out.bel hb6)
    clear hb6 O5 A5 p0 p1 p2
    obtain ⟨a6, c6, rfl, h61, h62, hr6⟩ := hr6
    have HR := Lib.hid hr6
    clear hr6
    cases hL : (consI (constT t)).length with
    | zero =>
      clear HR h61 h62
      go_wp2_with fail
      refine wp_region_rel (by kernel_rfl) (by kernel_rfl) (by kernel_rfl) ?_
      apply RelWalk.rest
      · kernel_rfl
      · intro X _ W hW hcl
        obtain ⟨⟨x0, x1, x2⟩, _⟩ := O6.out
        have k0 := fun q => gcell (hW q) x0
        have k1 := fun q => gcell (hW q) x1
        have k2 := fun q => gcell (hW q) x2
        clear x0 x1 x2
        repeat (go_big_quiet_step (fail))
        exact wpQuiet_nil rfl
      intro g o8 hg _
      have O8 := Lib.hid (O6.out.bel hg)
      clear O6 hg
      simp only [Spread]
      by_cases hv0 : vv = 0
      · subst hv0
        go_wp2_with fail
        refine wp_region_rel (by kernel_rfl) (by kernel_rfl) (by kernel_rfl) ?_
        apply RelWalk.rest
        · kernel_rfl
        · intro X _ W hW hcl
          obtain ⟨⟨x0, x1, x2⟩, _⟩ := O8.out
          have k0 := fun q => gcell (hW q) x0
          have k1 := fun q => gcell (hW q) x1
          have k2 := fun q => gcell (hW q) x2
          clear x0 x1 x2
          repeat (go_big_quiet_step (fail))
          exact wpQuiet_nil rfl
        intro g o9 hg _
        have O9 := Lib.hid (O8.out.bel hg)
        clear O8 hg
        simp only [Spread]
        have A9 := Lib.hid O9.out.2.1
        obtain ⟨⟨s0, s1, s2⟩, _⟩ := O9.out
        go_wp2_with (first | (go_at_call 25; (with_reducible refine (N1.out _ _ A9.out).mono ?_); rintro e w10 ⟨rfl, hb10⟩; have O10 := Lib.hid (O9.out.bel hb10); have A10 := Lib.hid O10.out.2.1; obtain ⟨⟨r0, r1, r2⟩, _⟩ := O10.out; clear hb10 O9 A9) | (go_at_call 25; (with_reducible refine (N2.out _ _ A10.out).mono ?_); rintro e w11 ⟨rfl, hb11⟩; have O11 := Lib.hid (O10.out.bel hb11); clear hb11 r0 r1 r2 O10 A10) | (go_at_call 30; refine (wakes_any _).mono ?_; rintro e w12 ⟨rfl, hb12⟩; have O12 := Lib.hid (O11.out.bel hb12); clear hb12 O11))
        go_ret
        exact ⟨rfl, O12.out.2.2⟩
      · have hv1 : 0 < vv := by omega
        have hMV := MV.out hv1
        by_cases hp : 0 < countE t (vv - 1)
        · rw [decide_eq_true hp, Bool.not_true] at hMV
          have hp1 : (0 : Int) < (countE t (vv - 1) : Int) := by omega
          have HMV := Lib.hid hMV
          clear hMV hv0
          have hwr : IntKind.i64.wrap (vv - 1) = vv - 1 := IntWalk.i64_in _ (by omega)
          clear hp
          have HCT := Lib.hid (fun W v hA => c_rcount t hs (vv - 1) W v hA)
          generalize (countE t (vv - 1) : Int) = cnt at hp1 HCT
          go_wp2_with fail
          refine wp_region_rel (by kernel_rfl) (by kernel_rfl) (by kernel_rfl) ?_
          apply RelWalk.rest
          · kernel_rfl
          · intro X _ W hW hcl
            obtain ⟨⟨x0, x1, x2⟩, _⟩ := O8.out
            have k0 := fun q => gcell (hW q) x0
            have k1 := fun q => gcell (hW q) x1
            have k2 := fun q => gcell (hW q) x2
            clear x0 x1 x2
            have cS := Lib.hid (fun q => into hcl (c_scope t hF hs (vv - 1) cc (W q) _ (O8.out.bel (hW q)).2.1))
            rw [HMV.out] at cS
            have cC := Lib.hid (fun q => into hcl (HCT.out (W q) _ (O8.out.bel (hW q)).2.1))
            repeat (go_big_quiet_step (first | (with_reducible exact cS.out _) | (with_reducible exact cC.out _)))
            exact wpQuiet_nil rfl
          intro g o9 hg _
          have O9 := Lib.hid (O8.out.bel hg)
          clear O8 hg
          simp only [Spread]
          have A9 := Lib.hid O9.out.2.1
          obtain ⟨⟨s0, s1, s2⟩, _⟩ := O9.out
          go_wp2_with (first | (go_at_call 25; (with_reducible refine (N1.out _ _ A9.out).mono ?_); rintro e w10 ⟨rfl, hb10⟩; have O10 := Lib.hid (O9.out.bel hb10); have A10 := Lib.hid O10.out.2.1; obtain ⟨⟨r0, r1, r2⟩, _⟩ := O10.out; clear hb10 O9 A9) | (go_at_call 25; (with_reducible refine (N2.out _ _ A10.out).mono ?_); rintro e w11 ⟨rfl, hb11⟩; have O11 := Lib.hid (O10.out.bel hb11); clear hb11 r0 r1 r2 O10 A10) | (go_at_call 30; refine (wakes_any _).mono ?_; rintro e w12 ⟨rfl, hb12⟩; have O12 := Lib.hid (O11.out.bel hb12); clear hb12 O11))
          go_ret
          exact ⟨rfl, O12.out.2.2⟩
        · rw [decide_eq_false hp, Bool.not_false] at hMV
          have hp1 : (countE t (vv - 1) : Int) = 0 := by omega
          have HMV := Lib.hid hMV
          clear hMV hv0
          have hwr : IntKind.i64.wrap (vv - 1) = vv - 1 := IntWalk.i64_in _ (by omega)
          clear hp
          have HCT := Lib.hid (fun W v hA => c_rcount t hs (vv - 1) W v hA)
          generalize (countE t (vv - 1) : Int) = cnt at hp1 HCT
          subst hp1
          go_wp2_with fail
          refine wp_region_rel (by kernel_rfl) (by kernel_rfl) (by kernel_rfl) ?_
          apply RelWalk.rest
          · kernel_rfl
          · intro X _ W hW hcl
            obtain ⟨⟨x0, x1, x2⟩, _⟩ := O8.out
            have k0 := fun q => gcell (hW q) x0
            have k1 := fun q => gcell (hW q) x1
            have k2 := fun q => gcell (hW q) x2
            clear x0 x1 x2
            have cS := Lib.hid (fun q => into hcl (c_scope t hF hs (vv - 1) cc (W q) _ (O8.out.bel (hW q)).2.1))
            rw [HMV.out] at cS
            have cC := Lib.hid (fun q => into hcl (HCT.out (W q) _ (O8.out.bel (hW q)).2.1))
            repeat (go_big_quiet_step (first | (with_reducible exact cS.out _) | (with_reducible exact cC.out _)))
            exact wpQuiet_nil rfl
          intro g o9 hg _
          have O9 := Lib.hid (O8.out.bel hg)
          clear O8 hg
          simp only [Spread]
          have A9 := Lib.hid O9.out.2.1
          obtain ⟨⟨s0, s1, s2⟩, _⟩ := O9.out
          go_wp2_with (first | (go_at_call 25; (with_reducible refine (N1.out _ _ A9.out).mono ?_); rintro e w10 ⟨rfl, hb10⟩; have O10 := Lib.hid (O9.out.bel hb10); have A10 := Lib.hid O10.out.2.1; obtain ⟨⟨r0, r1, r2⟩, _⟩ := O10.out; clear hb10 O9 A9) | (go_at_call 25; (with_reducible refine (N2.out _ _ A10.out).mono ?_); rintro e w11 ⟨rfl, hb11⟩; have O11 := Lib.hid (O10.out.bel hb11); clear hb11 r0 r1 r2 O10 A10) | (go_at_call 30; refine (wakes_any _).mono ?_; rintro e w12 ⟨rfl, hb12⟩; have O12 := Lib.hid (O11.out.bel hb12); clear hb12 O11))
          go_ret
          exact ⟨rfl, O12.out.2.2⟩
    | succ n =>
      have hML := ML.out n hL
      obtain ⟨b6, off6, rfl, hc6⟩ := HR.out (by omega)
      have hcn := hc6 n (by omega)
      have hbd : (consI (constT t)).length ≤ maxLen := Nat.le_trans h61 h62
      unfold maxLen at hbd
      rw [hL] at hbd
      revert hML hcn
      generalize (consI (constT t))[n]'(by omega) = lst
      rintro ⟨m1, m2, m3, m4⟩ hcn
      have HCN := Lib.hid hcn
      have M3' := Lib.hid m3
      have M4' := Lib.hid m4
      have hge : ¬ cc ≤ lst := by omega
      have hge1 : decide (cc ≤ lst) = false := decide_eq_false hge
      have hlw : IntKind.i64.wrap (lst + 1) = lst + 1 := IntWalk.i64_in _ (by omega)
      clear HR hc6 h61 h62 hcn m3 m4 ML
      go_wp2_with fail
      refine wp_region_rel (by kernel_rfl) (by kernel_rfl) (by kernel_rfl) ?_
      apply RelWalk.rest
      · kernel_rfl
      · intro X _ W hW hcl
        obtain ⟨⟨x0, x1, x2⟩, _⟩ := O6.out
        have k0 := fun q => gcell (hW q) x0
        have k1 := fun q => gcell (hW q) x1
        have k2 := fun q => gcell (hW q) x2
        clear x0 x1 x2
        have hcn := HCN.out
        have k3 := fun q => gcell (hW q) hcn
        clear hcn
        have cA := Lib.hid (fun q => into hcl (c_scope t hF hs vv (lst + 1) (W q) _ (O6.out.bel (hW q)).2.1))
        rw [M3'.out] at cA
        have cB := Lib.hid (fun q => into hcl (c_scope t hF hs vv lst (W q) _ (O6.out.bel (hW q)).2.1))
        rw [M4'.out] at cB
        repeat (go_big_quiet_step (first | (with_reducible exact cA.out _) | (with_reducible exact cB.out _)))
        exact wpQuiet_nil rfl
      intro g o8 hg _
      have O8 := Lib.hid (O6.out.bel hg)
      clear O6 hg
      simp only [Spread]
      by_cases hv0 : vv = 0
      · subst hv0
        go_wp2_with fail
        refine wp_region_rel (by kernel_rfl) (by kernel_rfl) (by kernel_rfl) ?_
        apply RelWalk.rest
        · kernel_rfl
        · intro X _ W hW hcl
          obtain ⟨⟨x0, x1, x2⟩, _⟩ := O8.out
          have k0 := fun q => gcell (hW q) x0
          have k1 := fun q => gcell (hW q) x1
          have k2 := fun q => gcell (hW q) x2
          clear x0 x1 x2
          repeat (go_big_quiet_step (fail))
          exact wpQuiet_nil rfl
        intro g o9 hg _
        have O9 := Lib.hid (O8.out.bel hg)
        clear O8 hg
        simp only [Spread]
        have A9 := Lib.hid O9.out.2.1
        obtain ⟨⟨s0, s1, s2⟩, _⟩ := O9.out
        go_wp2_with (first | (go_at_call 25; (with_reducible refine (N1.out _ _ A9.out).mono ?_); rintro e w10 ⟨rfl, hb10⟩; have O10 := Lib.hid (O9.out.bel hb10); have A10 := Lib.hid O10.out.2.1; obtain ⟨⟨r0, r1, r2⟩, _⟩ := O10.out; clear hb10 O9 A9) | (go_at_call 25; (with_reducible refine (N2.out _ _ A10.out).mono ?_); rintro e w11 ⟨rfl, hb11⟩; have O11 := Lib.hid (O10.out.bel hb11); clear hb11 r0 r1 r2 O10 A10) | (go_at_call 30; refine (wakes_any _).mono ?_; rintro e w12 ⟨rfl, hb12⟩; have O12 := Lib.hid (O11.out.bel hb12); clear hb12 O11))
        go_ret
        exact ⟨rfl, O12.out.2.2⟩
      · have hv1 : 0 < vv := by omega
        have hMV := MV.out hv1
        by_cases hp : 0 < countE t (vv - 1)
        · rw [decide_eq_true hp, Bool.not_true] at hMV
          have hp1 : (0 : Int) < (countE t (vv - 1) : Int) := by omega
          have HMV := Lib.hid hMV
          clear hMV hv0
          have hwr : IntKind.i64.wrap (vv - 1) = vv - 1 := IntWalk.i64_in _ (by omega)
          clear hp
          have HCT := Lib.hid (fun W v hA => c_rcount t hs (vv - 1) W v hA)
          generalize (countE t (vv - 1) : Int) = cnt at hp1 HCT
          go_wp2_with fail
          refine wp_region_rel (by kernel_rfl) (by kernel_rfl) (by kernel_rfl) ?_
          apply RelWalk.rest
          · kernel_rfl
          · intro X _ W hW hcl
            obtain ⟨⟨x0, x1, x2⟩, _⟩ := O8.out
            have k0 := fun q => gcell (hW q) x0
            have k1 := fun q => gcell (hW q) x1
            have k2 := fun q => gcell (hW q) x2
            clear x0 x1 x2
            have cS := Lib.hid (fun q => into hcl (c_scope t hF hs (vv - 1) cc (W q) _ (O8.out.bel (hW q)).2.1))
            rw [HMV.out] at cS
            have cC := Lib.hid (fun q => into hcl (HCT.out (W q) _ (O8.out.bel (hW q)).2.1))
            repeat (go_big_quiet_step (first | (with_reducible exact cS.out _) | (with_reducible exact cC.out _)))
            exact wpQuiet_nil rfl
          intro g o9 hg _
          have O9 := Lib.hid (O8.out.bel hg)
          clear O8 hg
          simp only [Spread]
          have A9 := Lib.hid O9.out.2.1
          obtain ⟨⟨s0, s1, s2⟩, _⟩ := O9.out
          go_wp2_with (first | (go_at_call 25; (with_reducible refine (N1.out _ _ A9.out).mono ?_); rintro e w10 ⟨rfl, hb10⟩; have O10 := Lib.hid (O9.out.bel hb10); have A10 := Lib.hid O10.out.2.1; obtain ⟨⟨r0, r1, r2⟩, _⟩ := O10.out; clear hb10 O9 A9) | (go_at_call 25; (with_reducible refine (N2.out _ _ A10.out).mono ?_); rintro e w11 ⟨rfl, hb11⟩; have O11 := Lib.hid (O10.out.bel hb11); clear hb11 r0 r1 r2 O10 A10) | (go_at_call 30; refine (wakes_any _).mono ?_; rintro e w12 ⟨rfl, hb12⟩; have O12 := Lib.hid (O11.out.bel hb12); clear hb12 O11))
          go_ret
          exact ⟨rfl, O12.out.2.2⟩
        · rw [decide_eq_false hp, Bool.not_false] at hMV
          have hp1 : (countE t (vv - 1) : Int) = 0 := by omega
          have HMV := Lib.hid hMV
          clear hMV hv0
          have hwr : IntKind.i64.wrap (vv - 1) = vv - 1 := IntWalk.i64_in _ (by omega)
          clear hp
          have HCT := Lib.hid (fun W v hA => c_rcount t hs (vv - 1) W v hA)
          generalize (countE t (vv - 1) : Int) = cnt at hp1 HCT
          subst hp1
          go_wp2_with fail
          refine wp_region_rel (by kernel_rfl) (by kernel_rfl) (by kernel_rfl) ?_
          apply RelWalk.rest
          · kernel_rfl
          · intro X _ W hW hcl
            obtain ⟨⟨x0, x1, x2⟩, _⟩ := O8.out
            have k0 := fun q => gcell (hW q) x0
            have k1 := fun q => gcell (hW q) x1
            have k2 := fun q => gcell (hW q) x2
            clear x0 x1 x2
            have cS := Lib.hid (fun q => into hcl (c_scope t hF hs (vv - 1) cc (W q) _ (O8.out.bel (hW q)).2.1))
            rw [HMV.out] at cS
            have cC := Lib.hid (fun q => into hcl (HCT.out (W q) _ (O8.out.bel (hW q)).2.1))
            repeat (go_big_quiet_step (first | (with_reducible exact cS.out _) | (with_reducible exact cC.out _)))
            exact wpQuiet_nil rfl
          intro g o9 hg _
          have O9 := Lib.hid (O8.out.bel hg)
          clear O8 hg
          simp only [Spread]
          have A9 := Lib.hid O9.out.2.1
          obtain ⟨⟨s0, s1, s2⟩, _⟩ := O9.out
          go_wp2_with (first | (go_at_call 25; (with_reducible refine (N1.out _ _ A9.out).mono ?_); rintro e w10 ⟨rfl, hb10⟩; have O10 := Lib.hid (O9.out.bel hb10); have A10 := Lib.hid O10.out.2.1; obtain ⟨⟨r0, r1, r2⟩, _⟩ := O10.out; clear hb10 O9 A9) | (go_at_call 25; (with_reducible refine (N2.out _ _ A10.out).mono ?_); rintro e w11 ⟨rfl, hb11⟩; have O11 := Lib.hid (O10.out.bel hb11); clear hb11 r0 r1 r2 O10 A10) | (go_at_call 30; refine (wakes_any _).mono ?_; rintro e w12 ⟨rfl, hb12⟩; have O12 := Lib.hid (O11.out.bel hb12); clear hb12 O11))
          go_ret
          exact ⟨rfl, O12.out.2.2⟩
end Go.Proofs.Ythcjjfgigbgdkaa
