/- TermEqual: the Go text returns true for any two terms that are not greater than the second form's bound. -/
import Derived.Test.YthcjjfgigbgdkaaCt
namespace Go.Proofs.Ythcjjfgigbgdkaa
open Go.RowKit

theorem n_wraps (t : Tm) (hF : Fits t) : t ≠ .node t.k (wrap64 (t.n + 1)) t.kids := fun h => by
  have h1 : t.n = wrap64 (t.n + 1) := congrArg Tm.n h
  have := hF.n
  unfold I64 at this
  by_cases hm : t.n = 9223372036854775807
  · rw [hm] at h1
    have : wrap64 (9223372036854775807 + 1) = -9223372036854775808 := by decide +kernel
    omega
  · rw [IntWalk.wrap64_in _ (by omega)] at h1; omega

set_option maxRecDepth 100000 in
set_option maxHeartbeats 1000000 in
theorem lequal_any (t u : Tm) (hF : Fits t) (hF2 : Fits u) (hs : size t ≤ 1048576) (hs2 : size u ≤ 1048576) (w : World) (v v2 : Value) (hA : At w t.kids v) (hM : At w u.kids v2) :
    Calls Try.prog 5 #[tv t v, tv u v2] w fun e w' => e = .returned (.bool true) ∧ Below w.heap.size w w' := by
  have HH := heavy2 t u hs hs2 w v v2 hA hM
  obtain ⟨a1, c1, rfl⟩ := hA.shape
  obtain ⟨a2, c2, rfl⟩ := hM.shape
  clear hA hM
  unfold tv
  cases hh : heavyB [t, u] with
  | true =>
    rw [hh] at HH
    have HH := Lib.hid HH
    clear hh
    go_enter Try.func5, Try.ntmps5
    go_wp2_with fail
    refine HH.out.mono ?_
    rintro e w1 ⟨rfl, hb1⟩
    have T1 := Lib.hid hb1
    clear hb1
    go_wp2_with fail
    go_ret
    exact ⟨rfl, T1.out.2.2.2.2⟩
  | false =>
    rw [hh] at HH
    have HH := Lib.hid HH
    clear hh
    go_enter Try.func5, Try.ntmps5
    go_wp2_with fail
    refine HH.out.mono ?_
    rintro e w1 ⟨rfl, hb1⟩
    have T1 := Lib.hid hb1
    clear HH hb1
    go_wp2_with fail
    refine wp_region_rel (by kernel_rfl) (by kernel_rfl) ?_
    apply RelWalk.next 2
    · kernel_rfl
    · intro X _ W hW hcl
      simp only [List.take_succ_cons, List.take_zero]
      obtain ⟨⟨x0, x1, x2⟩, ⟨y0, y1, y2⟩, _⟩ := T1.out
      have k0 := fun q => gcell (hW q) x0
      have k1 := fun q => gcell (hW q) x1
      have k2 := fun q => gcell (hW q) x2
      clear x0 x1 x2 y0 y1 y2
      repeat (go_big_quiet_step (fail))
      exact wpQuiet_nil rfl
    simp only [List.drop_succ_cons, List.drop_zero]
    refine RelWalk.made0 (TwinV t) rfl (by kernel_rfl) (by kernel_rfl) rfl (TwinV.mono t) (fun w2 hg => ?_) ?_
    · have hc := Lib.hid (c_twinV t hs w2 _ (T1.out.bel hg).2.2.1)
      go_simp
      exact rel_enter hc.out
    simp only [Act.put, List.setIfInBounds_toArray, List.set_cons_zero, List.set_cons_succ]
    refine RelWalk.used1 (.bool true) rfl (by kernel_rfl) (by kernel_rfl) rfl (fun w2 hg v1 hv1 => ?_) ?_
    · obtain ⟨a3, c3, rfl, hA3⟩ := hv1
      have hc := Lib.hid (c_equal t t hs hs w2 _ _ (T1.out.bel hg).2.2.1 hA3)
      rw [eqT_self] at hc
      clear hA3
      go_simp
      exact rel_enter_c hc.out
    simp only [Act.put, List.setIfInBounds_toArray, List.set_cons_zero, List.set_cons_succ]
    apply RelWalk.rest
    · kernel_rfl
    · intro X _ W hW hcl
      obtain ⟨⟨x0, x1, x2⟩, ⟨y0, y1, y2⟩, _⟩ := T1.out
      have k0 := fun q => gcell (hW q) x0
      have k1 := fun q => gcell (hW q) x1
      have k2 := fun q => gcell (hW q) x2
      have k3 := fun q => gcell (hW q) y0
      have k4 := fun q => gcell (hW q) y1
      have k5 := fun q => gcell (hW q) y2
      have hcomm := eqT_comm u t
      have cE1 := Lib.hid (fun q => into hcl (c_equal t u hs hs2 (W q) _ _ (T1.out.bel (hW q)).2.2.1 (T1.out.bel (hW q)).2.2.2.1))
      have cE2 := Lib.hid (fun q => into hcl (c_equal u t hs2 hs (W q) _ _ (T1.out.bel (hW q)).2.2.2.1 (T1.out.bel (hW q)).2.2.1))
      clear x0 x1 x2 y0 y1 y2
      repeat (go_big_quiet_step (first | (with_reducible exact cE1.out _) | (with_reducible exact cE2.out _)))
      exact wpQuiet_nil rfl
    intro w2 hg
    have T2 := Lib.hid (T1.out.bel hg)
    clear T1 hg
    simp only [Spread]
    rintro v12 ⟨a3, c3, rfl, _⟩
    simp only [Act.put, List.setIfInBounds_toArray, List.set_cons_zero, List.set_cons_succ]
    go_wp2_with fail
    refine wp_region_rel (by kernel_rfl) (by kernel_rfl) ?_
    by_cases htu : t = u
    · subst htu
      apply RelWalk.rest
      · kernel_rfl
      · intro X _ W hW hcl
        obtain ⟨⟨x0, x1, x2⟩, ⟨y0, y1, y2⟩, _⟩ := T2.out
        have k0 := fun q => gcell (hW q) x0
        have k1 := fun q => gcell (hW q) x1
        have k2 := fun q => gcell (hW q) x2
        have k3 := fun q => gcell (hW q) y0
        have k4 := fun q => gcell (hW q) y1
        have k5 := fun q => gcell (hW q) y2
        have cE := Lib.hid (fun q => into hcl (c_equal t t hs hs2 (W q) _ _ (T2.out.bel (hW q)).2.2.1 (T2.out.bel (hW q)).2.2.2.1))
        rw [eqT_self] at cE
        have cS1 := Lib.hid (fun q => into hcl (c_size t hF hs (W q) _ (T2.out.bel (hW q)).2.2.1))
        have cS2 := Lib.hid (fun q => into hcl (c_size t hF hs (W q) _ (T2.out.bel (hW q)).2.2.2.1))
        have cD1 := Lib.hid (fun q => into hcl (c_depth t hF hs (W q) _ (T2.out.bel (hW q)).2.2.1))
        have cD2 := Lib.hid (fun q => into hcl (c_depth t hF hs (W q) _ (T2.out.bel (hW q)).2.2.2.1))
        have cC1 := Lib.hid (fun q => into hcl (c_check t hF hs (W q) _ (T2.out.bel (hW q)).2.2.1))
        have cC2 := Lib.hid (fun q => into hcl (c_check t hF hs (W q) _ (T2.out.bel (hW q)).2.2.2.1))
        clear x0 x1 x2 y0 y1 y2
        repeat (go_big_quiet_step (first | (with_reducible exact cE.out _) | (with_reducible exact cS1.out _) | (with_reducible exact cS2.out _) | (with_reducible exact cD1.out _) | (with_reducible exact cD2.out _) | (with_reducible exact cC1.out _) | (with_reducible exact cC2.out _)))
        exact wpQuiet_nil rfl
      intro w3 hg
      have T3 := Lib.hid (T2.out.bel hg)
      clear T2 hg
      simp only [Spread]
      have hA3 := T3.out.2.2.1
      have x0 := T3.out.1.1
      have x1 := T3.out.1.2.1
      have x2 := T3.out.1.2.2
      have cT := Lib.hid (c_twin t hs w3 _ hA3)
      have CE := Lib.hid (fun W vx vy => c_equal t (.node t.k (wrap64 (t.n + 1)) t.kids) hs (by rw [size_eq] at hs ⊢; exact hs) W vx vy)
      rw [eqT_ne (n_wraps t hF)] at CE
      simp only [Tm.k, Tm.n, Tm.kids] at CE
      clear hA3
      go_wp2_with (first | (go_at_call 16; refine cT.out.mono ?_; rintro e w4 ⟨a4, c4, rfl, hs4, _, hb4⟩; have q0 := gcell hb4 x0; have q1 := gcell hb4 x1; have q2 := gcell hb4 x2; have hlt4 : w.heap.size < w4.heap.size := (World.block_lt_of_cell? w4 ⟨w.heap.size, 0, none⟩ q0); have HS4 := Lib.hid hs4.at; have T4 := Lib.hid (T3.out.bel hb4); clear hs4 hb4 x0 x1 x2) | (go_at_call 23; refine (CE.out _ _ _ (T4.out.2.2.1.alloc _) (HS4.out.alloc _)).mono ?_; rintro e w5 ⟨rfl, hb5⟩; have T5 := Lib.hid (T4.out.2.2.2.2.trans ((below_al w4 _).trans (hb5.mono (by simp)) |>.mono T4.out.2.2.2.2.size)); clear hb5) | (go_at_call 30; refine (wakes_any _).mono ?_; rintro e w6 ⟨rfl, hb6⟩))
      go_ret
      exact ⟨rfl, T5.out.trans (hb6.mono T5.out.size)⟩
    · have hne := Lib.hid (eqT_ne htu)
      clear htu
      apply RelWalk.rest
      · kernel_rfl
      · intro X _ W hW hcl
        obtain ⟨⟨x0, x1, x2⟩, ⟨y0, y1, y2⟩, _⟩ := T2.out
        have k0 := fun q => gcell (hW q) x0
        have k1 := fun q => gcell (hW q) x1
        have k2 := fun q => gcell (hW q) x2
        have k3 := fun q => gcell (hW q) y0
        have k4 := fun q => gcell (hW q) y1
        have k5 := fun q => gcell (hW q) y2
        have cE := Lib.hid (fun q => into hcl (c_equal t u hs hs2 (W q) _ _ (T2.out.bel (hW q)).2.2.1 (T2.out.bel (hW q)).2.2.2.1))
        rw [hne.out] at cE
        clear x0 x1 x2 y0 y1 y2
        repeat (go_big_quiet_step (with_reducible exact cE.out _))
        exact wpQuiet_nil rfl
      intro w3 hg
      have T3 := Lib.hid (T2.out.bel hg)
      clear T2 hg
      simp only [Spread]
      have hA3 := T3.out.2.2.1
      have x0 := T3.out.1.1
      have x1 := T3.out.1.2.1
      have x2 := T3.out.1.2.2
      have cT := Lib.hid (c_twin t hs w3 _ hA3)
      have CE := Lib.hid (fun W vx vy => c_equal t (.node t.k (wrap64 (t.n + 1)) t.kids) hs (by rw [size_eq] at hs ⊢; exact hs) W vx vy)
      rw [eqT_ne (n_wraps t hF)] at CE
      simp only [Tm.k, Tm.n, Tm.kids] at CE
      clear hA3
      go_wp2_with (first | (go_at_call 16; refine cT.out.mono ?_; rintro e w4 ⟨a4, c4, rfl, hs4, _, hb4⟩; have q0 := gcell hb4 x0; have q1 := gcell hb4 x1; have q2 := gcell hb4 x2; have hlt4 : w.heap.size < w4.heap.size := (World.block_lt_of_cell? w4 ⟨w.heap.size, 0, none⟩ q0); have HS4 := Lib.hid hs4.at; have T4 := Lib.hid (T3.out.bel hb4); clear hs4 hb4 x0 x1 x2) | (go_at_call 23; refine (CE.out _ _ _ (T4.out.2.2.1.alloc _) (HS4.out.alloc _)).mono ?_; rintro e w5 ⟨rfl, hb5⟩; have T5 := Lib.hid (T4.out.2.2.2.2.trans ((below_al w4 _).trans (hb5.mono (by simp)) |>.mono T4.out.2.2.2.2.size)); clear hb5) | (go_at_call 30; refine (wakes_any _).mono ?_; rintro e w6 ⟨rfl, hb6⟩))
      go_ret
      exact ⟨rfl, T5.out.trans (hb6.mono T5.out.size)⟩
end Go.Proofs.Ythcjjfgigbgdkaa
