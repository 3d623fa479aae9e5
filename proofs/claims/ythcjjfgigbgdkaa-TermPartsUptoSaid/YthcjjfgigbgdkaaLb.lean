/- TermBinds: the Go text returns true for any two terms that are not greater than the second form's bound, and any numbers. -/
import Derived.Test.YthcjjfgigbgdkaaCt
import Derived.IntWalk
namespace Go.Proofs.Ythcjjfgigbgdkaa
open Go.RowKit

theorem u64_nonneg' (a : Int) : 0 ≤ IntKind.u64.wrap a := by
  simp [IntKind.wrap, IntKind.signed, IntKind.bits]
  omega
theorem mod_range (a : Int) (n : Int) (h : 0 < n) (h2 : n ≤ 1000000) : 0 ≤ wrap64 ((IntKind.u64.wrap a).tmod n) ∧ wrap64 ((IntKind.u64.wrap a).tmod n) < n := by
  have hh : 0 ≤ (IntKind.u64.wrap a).tmod n ∧ (IntKind.u64.wrap a).tmod n < n := by
    rw [Int.tmod_eq_emod_of_nonneg (u64_nonneg' a)]
    exact ⟨Int.emod_nonneg _ (by omega), Int.emod_lt_of_pos _ h⟩
  rw [IntWalk.wrap64_in _ (by omega)]; exact hh
def kindAt (k : Nat) : Int := if k = 0 then 4 else if k = 1 then 5 else if k = 2 then 7 else if k = 3 then 6 else 12

theorem heavy_size {l : List Tm} (h : heavyB l = false) : sizeL l ≤ 9000 := by
  simp only [heavyB, Bool.or_eq_false_iff, decide_eq_false_iff_not] at h
  omega
/-- Of two Kids that are checked as one: what is in scope of the whole. -/
theorem binds_scope (k : Int) (a b : Tm) (v : Int) (hv : 0 ≤ v) (hk : k = 4 ∨ k = 5 ∨ k = 7 ∨ k = 6 ∨ k = 12) (hc : checkE (.node k 0 [a, b]) = 0) :
    scopeT (.node k 0 [a, b]) v 65536 = (scopeT a v 65536 && scopeT b (v + bindsI k 1) 65536) := by
  have hf := check_formed hc
  have hr := bindsI_range k 1
  have hsz : ¬ 6000 < size (.node k 0 [a, b]) := by intro h; rw [checkE, if_pos h] at hc; cases hc
  have hdp : ¬ 200 < depth (.node k 0 [a, b]) := by intro h; rw [checkE, if_neg hsz, if_pos h] at hc; cases hc
  simp only [size, sizeL, depth, depthL] at hsz hdp
  simp only [formedB, formedL, Bool.and_eq_true] at hf
  have ha : checkE a = 0 := by rw [checkE, if_neg (by omega), if_neg (by omega), if_neg (by rw [hf.2.1]; simp)]
  have hb : checkE b = 0 := by rw [checkE, if_neg (by omega), if_neg (by omega), if_neg (by rw [hf.2.2.1]; simp)]
  have h0 : bindsI k 0 = 0 := by unfold bindsI; rw [if_neg (by omega)]
  have h0' : bindsI k ((0 : Nat) : Int) = 0 := h0
  unfold scopeT
  rw [ha, hb, hc, scopedT, if_neg (by omega), if_neg (by omega), if_neg (by omega)]
  simp only [scopedL, h0', Int.add_zero, Bool.and_true]
  have h1 : decide (0 ≤ v) = true := by simpa using hv
  have h2 : decide (0 ≤ v + bindsI k 1) = true := by simp; omega
  simp [h1, h2]

theorem kindAt_in (k : Nat) : kindAt k = 4 ∨ kindAt k = 5 ∨ kindAt k = 7 ∨ kindAt k = 6 ∨ kindAt k = 12 := by
  unfold kindAt
  split
  · omega
  · split
    · omega
    · split
      · omega
      · split <;> omega
theorem kind_cell {w : World} {s kn : Nat} {ty : TypeId} (h : w.heap[s]? = some (.cells #[.int .i64 4, .int .i64 5, .int .i64 7, .int .i64 6, .int .i64 12] ty (0, 0))) (hk : kn < 5) : w.cell? ⟨s, kn, none⟩ = some (.int .i64 (kindAt kn)) := by
  have : kn = 0 ∨ kn = 1 ∨ kn = 2 ∨ kn = 3 ∨ kn = 4 := by omega
  rcases this with rfl | rfl | rfl | rfl | rfl <;> simp [World.cell?, h, kindAt]

set_option maxRecDepth 100000 in
set_option maxHeartbeats 1000000 in
theorem lbinds_any (t u : Tm) (k vars : Int) (hF : Fits t) (hF2 : Fits u) (hs : size t ≤ 1048576) (hs2 : size u ≤ 1048576) (w : World) (v v2 : Value) (hA : At w t.kids v) (hM : At w u.kids v2) :
    Calls Try.prog 9 #[tv t v, tv u v2, .int .i64 k, .int .i64 vars] w fun e w' => e = .returned (.bool true) ∧ Below w.heap.size w w' := by
  have HH := heavy2 t u hs hs2 w v v2 hA hM
  obtain ⟨a1, c1, rfl⟩ := hA.shape
  obtain ⟨a2, c2, rfl⟩ := hM.shape
  clear hA hM
  unfold tv
  cases hh : heavyB [t, u] with
  | true =>
    rw [hh] at HH
    have HH := Lib.hid HH
    clear hh
    go_enter Try.func9, Try.ntmps9
    go_wp2_with fail
    refine HH.out.mono ?_
    rintro e w1 ⟨rfl, hb1⟩
    have T1 := Lib.hid hb1
    clear hb1
    go_wp2_with fail
    go_ret
    exact ⟨rfl, T1.out.2.2.2.2⟩
  | false =>
    have HSZ := heavy_size hh
    simp only [sizeL] at HSZ
    rw [hh] at HH
    have HH := Lib.hid HH
    clear hh
    have hr1 := mod_range vars 10 (by omega) (by omega)
    have hr2 := mod_range k 5 (by omega) (by omega)
    go_enter Try.func9, Try.ntmps9
    go_wp2_with fail
    refine HH.out.mono ?_
    rintro e w1 ⟨rfl, hb1⟩
    have T1 := Lib.hid hb1
    clear HH hb1
    go_wp2_with fail
    generalize wrap64 ((IntKind.u64.wrap vars).tmod 10) = vv at *
    obtain ⟨kk, hkk⟩ : ∃ kk, wrap64 ((IntKind.u64.wrap k).tmod 5) = kk := ⟨_, rfl⟩
    rw [hkk] at hr2
    obtain ⟨kn, rfl⟩ : ∃ kn : Nat, kk = kn := ⟨kk.toNat, by omega⟩
    obtain ⟨g1, g2⟩ := hr2
    obtain ⟨g3, g4⟩ := hr1
    have hK := kindAt_in kn
    refine wp_region_rel_tail 12 (by kernel_rfl) (by kernel_rfl) (by kernel_rfl) ?_
    simp only [List.take_succ_cons, List.take_zero]
    simp only [List.drop_succ_cons, List.drop_zero]
    refine RelWalk.made0 (fun v s e w => v = .slice (some ⟨s, 0, none⟩) 5 5 ∧ w.heap[s]? = some (.cells #[.int .i64 4, .int .i64 5, .int .i64 7, .int .i64 6, .int .i64 12] 3 (0, 0)) ∧ s < w.heap.size) rfl (by kernel_rfl) (by kernel_rfl) rfl (fun v s e w w' hg h => ⟨h.1, (hg.block s h.2.2).trans h.2.1, Nat.lt_of_lt_of_le h.2.2 hg.size⟩) (fun w2 hg => ?_) ?_
    · go_simp
      exact ⟨below_al w2 _, rfl, World.alloc_heap_new w2 _, by simp⟩
    simp only [Act.put, List.setIfInBounds_toArray, List.set_cons_zero, List.set_cons_succ]
    apply RelWalk.next 4
    · kernel_rfl
    · intro X _ W hW hcl
      simp only [List.take_succ_cons, List.take_zero]
      repeat (go_big_quiet_step (fail))
      exact wpQuiet_nil rfl
    simp only [List.drop_succ_cons, List.drop_zero]
    refine RelWalk.made1 (plain fun v w => ∃ b, v = .pointer (some ⟨b, kn, none⟩) ∧ w.cell? ⟨b, kn, none⟩ = some (.int .i64 (kindAt kn))) rfl (by kernel_rfl) (by kernel_rfl) rfl (mono_plain fun v w w' hg ⟨b, h1, h2⟩ => ⟨b, h1, gcell hg h2⟩) (fun g w2 hg v1 hv1 => ?_) ?_
    · obtain ⟨rfl, hb, _⟩ := hv1
      have hcell : w2.cell? ⟨(g 19).1, kn, none⟩ = some (.int .i64 (kindAt kn)) := kind_cell hb (by omega)
      go_simp
      exact ⟨Grw.rfl w2, _, rfl, hcell⟩
    simp only [Act.put, List.setIfInBounds_toArray, List.set_cons_zero, List.set_cons_succ]
    refine RelWalk.used1 (.int .i64 (kindAt kn)) rfl (by kernel_rfl) (by kernel_rfl) rfl (fun g w2 hg v1 hv1 => ?_) ?_
    · obtain ⟨b, rfl, hb⟩ := hv1
      go_simp
      exact ⟨Grw.rfl w2, rfl⟩
    simp only [Act.put, List.setIfInBounds_toArray, List.set_cons_zero, List.set_cons_succ]
    apply RelWalk.next 2
    · kernel_rfl
    · intro X _ W hW hcl
      simp only [List.take_succ_cons, List.take_zero]
      obtain ⟨⟨x0, x1, x2⟩, ⟨y0, y1, y2⟩, _⟩ := T1.out
      have k0 := fun q => gcell (hW q) x0
      have k1 := fun q => gcell (hW q) x1
      have k2 := fun q => gcell (hW q) x2
      have k3 := fun q => gcell (hW q) y0
      have k4 := fun q => gcell (hW q) y1
      have k5 := fun q => gcell (hW q) y2
      clear x0 x1 x2 y0 y1 y2
      repeat (go_big_quiet_step (fail))
      exact wpQuiet_nil rfl
    simp only [List.drop_succ_cons, List.drop_zero]
    refine RelWalk.made0 (fun v s e w => v = .slice (some ⟨s, 0, none⟩) 2 2 ∧ w.heap[s]? = some (.cells #[.int .i64 t.k, .int .i64 t.n, .slice a1 t.kids.length c1, .int .i64 u.k, .int .i64 u.n, .slice a2 u.kids.length c2] 24 (0, 0)) ∧ s < w.heap.size) rfl (by kernel_rfl) (by kernel_rfl) rfl (fun v s e w w' hg h => ⟨h.1, (hg.block s h.2.2).trans h.2.1, Nat.lt_of_lt_of_le h.2.2 hg.size⟩) (fun w2 hg => ?_) ?_
    · go_simp
      exact ⟨below_al w2 _, rfl, World.alloc_heap_new w2 _, by simp⟩
    simp only [Act.put, List.setIfInBounds_toArray, List.set_cons_zero, List.set_cons_succ]
    refine RelWalk.made1 (fun v s e w => ∃ a cap, v = .agg #[.int .i64 (kindAt kn), .int .i64 0, .slice a 2 cap] ∧ AtS (fun b => b < w1.heap.size ∨ (s ≤ b ∧ b < e)) w [t, u] (.slice a 2 cap)) rfl (by kernel_rfl) (by kernel_rfl) rfl (fun v s e w w' hg ⟨a, c, h1, h2⟩ => ⟨a, c, h1, h2.grw hg⟩) (fun g w2 hg v1 hv1 => ?_) ?_
    · obtain ⟨rfl, hb, _⟩ := hv1
      have hR := row_of2 (S := fun b => b < w1.heap.size) hb ((T1.out.2.2.1.toS).same fun b hb => ⟨hb, hg.block b hb⟩) ((T1.out.2.2.2.1.toS).same fun b hb => ⟨hb, hg.block b hb⟩)
      have hc := Lib.hid (t_anyR _ (kindAt kn) [t, u] (by simp) (by simp) w2 _ (fun b hb => Nat.lt_of_lt_of_le hb hg.size) hR)
      clear hR hb
      go_simp
      refine rel_enter (hc.out.mono fun e w3 ⟨a3, c3, he, hA3, hb3⟩ => ⟨_, he, hb3, a3, c3, rfl, hA3.lt.same fun b hb => ⟨?_, rfl⟩⟩)
      rcases hb.1 with h | h
      · exact .inl h
      · exact .inr ⟨h, hb.2⟩
    simp only [Act.put, List.setIfInBounds_toArray, List.set_cons_zero, List.set_cons_succ]
    refine RelWalk.made0 (fun v s e w => v = .pointer (some ⟨s, 0, none⟩) ∧ w.heap[s]? = some (.cells #[.int .i64 0, .int .i64 0, .slice none 0 0] 24 (0, 0)) ∧ s < e ∧ s < w.heap.size) rfl (by kernel_rfl) (by kernel_rfl) rfl (fun v s e w w' hg h => ⟨h.1, (hg.block s h.2.2.2).trans h.2.1, h.2.2.1, Nat.lt_of_lt_of_le h.2.2.2 hg.size⟩) (fun w2 hg => ?_) ?_
    · go_simp
      exact ⟨below_al w2 _, rfl, World.alloc_heap_new w2 _, by simp, by simp⟩
    simp only [Act.put, List.setIfInBounds_toArray, List.set_cons_zero, List.set_cons_succ]
    refine .done fun g w2 hg hpt => ?_
    simp only [Spread]
    rintro v9 ⟨rfl, hbx, hse, hlt⟩ v29 ⟨a3, c3, rfl, hA3⟩ v28 ⟨rfl, _⟩ v24 ⟨b4, rfl, _⟩ v19 ⟨rfl, _⟩
    simp only [Act.put, List.setIfInBounds_toArray, List.set_cons_zero, List.set_cons_succ]
    have hp9 := (hpt.1 9 (List.mem_of_elem_eq_true (by kernel_rfl))).1
    have hpp := hpt.2 9 (List.mem_of_elem_eq_true (by kernel_rfl)) 29 (List.mem_of_elem_eq_true (by kernel_rfl)) (by decide)
    clear hpt
    obtain ⟨s9, h9⟩ : ∃ s, (g 9).1 = s := ⟨_, rfl⟩
    rw [h9] at hbx hlt hp9 hpp hse ⊢
    have hA4 : AtS (fun b => b ≠ s9) w2 [t, u] (.slice a3 2 c3) := hA3.same fun b hb => ⟨by omega, rfl⟩
    clear hA3 hpp hse
    obtain ⟨⟨z0, z1, z2⟩, ⟨y0, y1, y2⟩⟩ := boxc hbx
    have HBX := Lib.hid hbx
    have HA4 := Lib.hid hA4
    have HG := Lib.hid hg
    clear hbx hA4 hg h9
    have HX := Lib.hid (boxed_term (k := kindAt kn) (n := 0) T1.out.2.2.2.2 HBX.out HG.out hp9 HA4.out)
    clear HBX HG HA4
    go_wp2_with fail
    revert HX
    generalize ((w2.setCell ⟨s9, 0, none⟩ (.int .i64 (kindAt kn))).setCell ⟨s9, 1, none⟩ (.int .i64 0)).setCell ⟨s9, 2, none⟩ (.slice a3 2 c3) = w3
    intro HX
    have T3 := Lib.hid (T1.out.bel HX.out.2)
    have O3 := Lib.hid HX.out.1
    clear HX T1 z0 z1 z2 y0 y1 y2
    have hFt : Fits (.node (kindAt kn) 0 [t, u]) := .mk _ _ _ (by unfold I64; omega) (by unfold I64; omega) (by simp [hF, hF2])
    have hst : size (.node (kindAt kn) 0 [t, u]) ≤ 1048576 := by simp only [size, sizeL]; omega
    refine (c_check (.node (kindAt kn) 0 [t, u]) hFt hst w3 _ O3.out.2.1).mono ?_
    rintro e w4 ⟨rfl, hb4⟩
    have T4 := Lib.hid (T3.out.bel hb4)
    have O4 := Lib.hid (O3.out.bel hb4)
    clear T3 O3 hb4
    by_cases hc : checkE (.node (kindAt kn) 0 [t, u]) = 0
    rotate_left
    · have e1 : (checkE (.node (kindAt kn) 0 [t, u]) != 0) = true := by simpa using hc
      clear hc
      revert e1
      generalize checkE (.node (kindAt kn) 0 [t, u]) = ck
      intro e1
      go_wp2_with (go_at_call 30; refine (wakes_any _).mono ?_; rintro e w5 ⟨rfl, hb5⟩)
      go_ret
      exact ⟨rfl, T4.out.2.2.2.2.trans (hb5.mono T4.out.2.2.2.2.size)⟩
    have hsw0 := binds_scope (kindAt kn) t u vv g3 hK hc
    have hbr := bindsI_range (kindAt kn) 1
    rw [hc]
    clear hc hK
    go_wp2_with fail
    cases hsa0 : scopeT t vv 65536 with
    | true =>
      rw [hsa0, Bool.true_and] at hsw0
      have hsa := Lib.hid hsa0
      have hsw := Lib.hid hsw0
      clear hsa0 hsw0
      refine wp_region_rel (by kernel_rfl) (by kernel_rfl) (by kernel_rfl) ?_
      apply RelWalk.rest
      · kernel_rfl
      · intro X _ W hW hcl
        obtain ⟨⟨x0, x1, x2⟩, ⟨y0, y1, y2⟩, _⟩ := T4.out
        obtain ⟨⟨z0, z1, z2⟩, _⟩ := O4.out
        have k0 := fun q => gcell (hW q) x0
        have k1 := fun q => gcell (hW q) x1
        have k2 := fun q => gcell (hW q) x2
        have k3 := fun q => gcell (hW q) y0
        have k4 := fun q => gcell (hW q) y1
        have k5 := fun q => gcell (hW q) y2
        have k6 := fun q => gcell (hW q) z0
        have k7 := fun q => gcell (hW q) z1
        have k8 := fun q => gcell (hW q) z2
        simp only [Tm.k, Tm.n] at k6 k7
        clear x0 x1 x2 y0 y1 y2 z0 z1 z2
        have cA := Lib.hid (fun q => into hcl (c_scope t hF hs vv 65536 (W q) _ (T4.out.bel (hW q)).2.2.1))
        rw [hsa.out] at cA
        have cB := Lib.hid (fun q => into hcl (c_scope u hF2 hs2 (vv + bindsI (kindAt kn) 1) 65536 (W q) _ (T4.out.bel (hW q)).2.2.2.1))
        have cK := Lib.hid (fun q => intoSame (W := W) (q := q) (binds_any (kindAt kn) 1 (W q)))
        have hwr : IntKind.i64.wrap (vv + bindsI (kindAt kn) 1) = vv + bindsI (kindAt kn) 1 := IntWalk.i64_in _ (by omega)
        repeat (go_big_quiet_step (first | (with_reducible exact cA.out _) | (with_reducible exact cB.out _) | (with_reducible exact cK.out _)))
        exact wpQuiet_nil rfl
      intro g w5 hg _
      have T5 := Lib.hid (T4.out.bel hg)
      have O5 := Lib.hid (O4.out.bel hg)
      clear T4 O4 hg
      simp only [Spread]
      go_wp2_with fail
      refine wp_region_rel (by kernel_rfl) (by kernel_rfl) (by kernel_rfl) ?_
      apply RelWalk.next 8
      · kernel_rfl
      · intro X _ W hW hcl
        simp only [List.take_succ_cons, List.take_zero]
        obtain ⟨⟨x0, x1, x2⟩, ⟨y0, y1, y2⟩, _⟩ := T5.out
        obtain ⟨⟨z0, z1, z2⟩, _⟩ := O5.out
        have k0 := fun q => gcell (hW q) x0
        have k1 := fun q => gcell (hW q) x1
        have k2 := fun q => gcell (hW q) x2
        have k3 := fun q => gcell (hW q) y0
        have k4 := fun q => gcell (hW q) y1
        have k5 := fun q => gcell (hW q) y2
        have k6 := fun q => gcell (hW q) z0
        have k7 := fun q => gcell (hW q) z1
        have k8 := fun q => gcell (hW q) z2
        simp only [Tm.k, Tm.n] at k6 k7
        clear x0 x1 x2 y0 y1 y2 z0 z1 z2
        have cS := Lib.hid (fun q => into hcl (c_scope (.node (kindAt kn) 0 [t, u]) hFt hst vv 65536 (W q) _ (O5.out.bel (hW q)).2.1))
        rw [hsw.out] at cS
        simp only [Tm.k, Tm.n] at cS
        repeat (go_big_quiet_step (with_reducible exact cS.out _))
        exact wpQuiet_nil rfl
      simp only [List.drop_succ_cons, List.drop_zero]
      refine RelWalk.made0 (plain (TwinV (.node (kindAt kn) 0 [t, u]))) rfl (by kernel_rfl) (by kernel_rfl) rfl (mono_plain (TwinV.mono _)) (fun w6 hg => ?_) ?_
      · have hc := Lib.hid (c_twinV (.node (kindAt kn) 0 [t, u]) hst w6 _ (O5.out.bel hg).2.1)
        go_simp
        exact rel_enter hc.out
      simp only [Act.put, List.setIfInBounds_toArray, List.set_cons_zero, List.set_cons_succ]
      refine RelWalk.used1 (.bool true) rfl (by kernel_rfl) (by kernel_rfl) rfl (fun g w6 hg v1 hv1 => ?_) ?_
      · obtain ⟨a5, c5, rfl, hA5⟩ := hv1
        have hc := Lib.hid (c_equal (.node (kindAt kn) 0 [t, u]) (.node (kindAt kn) 0 [t, u]) hst hst w6 _ _ (O5.out.bel hg).2.1 hA5)
        rw [eqT_self] at hc
        clear hA5
        go_simp
        exact rel_enter_c hc.out
      simp only [Act.put, List.setIfInBounds_toArray, List.set_cons_zero, List.set_cons_succ]
      apply RelWalk.rest
      · kernel_rfl
      · intro X _ W hW hcl
        have cW := Lib.hid (fun q => into hcl (wakes_any (W q)))
        repeat (go_big_quiet_step (with_reducible exact cW.out _))
        exact wpQuiet_nil rfl
      intro g w6 hg _
      have HF := Lib.hid (T5.out.bel hg).2.2.2.2
      clear T5 O5 hg
      simp only [Spread]
      rintro v12 ⟨a6, c6, rfl, _⟩
      simp only [Act.put, List.setIfInBounds_toArray, List.set_cons_zero, List.set_cons_succ]
      go_wp2_with fail
      go_ret
      exact ⟨rfl, HF.out⟩
    | false =>
      rw [hsa0, Bool.false_and] at hsw0
      have hsa := Lib.hid hsa0
      have hsw := Lib.hid hsw0
      clear hsa0 hsw0
      refine wp_region_rel (by kernel_rfl) (by kernel_rfl) (by kernel_rfl) ?_
      apply RelWalk.rest
      · kernel_rfl
      · intro X _ W hW hcl
        obtain ⟨⟨x0, x1, x2⟩, ⟨y0, y1, y2⟩, _⟩ := T4.out
        obtain ⟨⟨z0, z1, z2⟩, _⟩ := O4.out
        have k0 := fun q => gcell (hW q) x0
        have k1 := fun q => gcell (hW q) x1
        have k2 := fun q => gcell (hW q) x2
        have k3 := fun q => gcell (hW q) y0
        have k4 := fun q => gcell (hW q) y1
        have k5 := fun q => gcell (hW q) y2
        have k6 := fun q => gcell (hW q) z0
        have k7 := fun q => gcell (hW q) z1
        have k8 := fun q => gcell (hW q) z2
        simp only [Tm.k, Tm.n] at k6 k7
        clear x0 x1 x2 y0 y1 y2 z0 z1 z2
        have cA := Lib.hid (fun q => into hcl (c_scope t hF hs vv 65536 (W q) _ (T4.out.bel (hW q)).2.2.1))
        rw [hsa.out] at cA
        have cB := Lib.hid (fun q => into hcl (c_scope u hF2 hs2 (vv + bindsI (kindAt kn) 1) 65536 (W q) _ (T4.out.bel (hW q)).2.2.2.1))
        have cK := Lib.hid (fun q => intoSame (W := W) (q := q) (binds_any (kindAt kn) 1 (W q)))
        have hwr : IntKind.i64.wrap (vv + bindsI (kindAt kn) 1) = vv + bindsI (kindAt kn) 1 := IntWalk.i64_in _ (by omega)
        repeat (go_big_quiet_step (first | (with_reducible exact cA.out _) | (with_reducible exact cB.out _) | (with_reducible exact cK.out _)))
        exact wpQuiet_nil rfl
      intro g w5 hg _
      have T5 := Lib.hid (T4.out.bel hg)
      have O5 := Lib.hid (O4.out.bel hg)
      clear T4 O4 hg
      simp only [Spread]
      go_wp2_with fail
      refine wp_region_rel (by kernel_rfl) (by kernel_rfl) (by kernel_rfl) ?_
      apply RelWalk.next 8
      · kernel_rfl
      · intro X _ W hW hcl
        simp only [List.take_succ_cons, List.take_zero]
        obtain ⟨⟨x0, x1, x2⟩, ⟨y0, y1, y2⟩, _⟩ := T5.out
        obtain ⟨⟨z0, z1, z2⟩, _⟩ := O5.out
        have k0 := fun q => gcell (hW q) x0
        have k1 := fun q => gcell (hW q) x1
        have k2 := fun q => gcell (hW q) x2
        have k3 := fun q => gcell (hW q) y0
        have k4 := fun q => gcell (hW q) y1
        have k5 := fun q => gcell (hW q) y2
        have k6 := fun q => gcell (hW q) z0
        have k7 := fun q => gcell (hW q) z1
        have k8 := fun q => gcell (hW q) z2
        simp only [Tm.k, Tm.n] at k6 k7
        clear x0 x1 x2 y0 y1 y2 z0 z1 z2
        have cS := Lib.hid (fun q => into hcl (c_scope (.node (kindAt kn) 0 [t, u]) hFt hst vv 65536 (W q) _ (O5.out.bel (hW q)).2.1))
        rw [hsw.out] at cS
        simp only [Tm.k, Tm.n] at cS
        repeat (go_big_quiet_step (with_reducible exact cS.out _))
        exact wpQuiet_nil rfl
      simp only [List.drop_succ_cons, List.drop_zero]
      refine RelWalk.made0 (plain (TwinV (.node (kindAt kn) 0 [t, u]))) rfl (by kernel_rfl) (by kernel_rfl) rfl (mono_plain (TwinV.mono _)) (fun w6 hg => ?_) ?_
      · have hc := Lib.hid (c_twinV (.node (kindAt kn) 0 [t, u]) hst w6 _ (O5.out.bel hg).2.1)
        go_simp
        exact rel_enter hc.out
      simp only [Act.put, List.setIfInBounds_toArray, List.set_cons_zero, List.set_cons_succ]
      refine RelWalk.used1 (.bool true) rfl (by kernel_rfl) (by kernel_rfl) rfl (fun g w6 hg v1 hv1 => ?_) ?_
      · obtain ⟨a5, c5, rfl, hA5⟩ := hv1
        have hc := Lib.hid (c_equal (.node (kindAt kn) 0 [t, u]) (.node (kindAt kn) 0 [t, u]) hst hst w6 _ _ (O5.out.bel hg).2.1 hA5)
        rw [eqT_self] at hc
        clear hA5
        go_simp
        exact rel_enter_c hc.out
      simp only [Act.put, List.setIfInBounds_toArray, List.set_cons_zero, List.set_cons_succ]
      apply RelWalk.rest
      · kernel_rfl
      · intro X _ W hW hcl
        have cW := Lib.hid (fun q => into hcl (wakes_any (W q)))
        repeat (go_big_quiet_step (with_reducible exact cW.out _))
        exact wpQuiet_nil rfl
      intro g w6 hg _
      have HF := Lib.hid (T5.out.bel hg).2.2.2.2
      clear T5 O5 hg
      simp only [Spread]
      rintro v12 ⟨a6, c6, rfl, _⟩
      simp only [Act.put, List.setIfInBounds_toArray, List.set_cons_zero, List.set_cons_succ]
      go_wp2_with fail
      go_ret
      exact ⟨rfl, HF.out⟩
end Go.Proofs.Ythcjjfgigbgdkaa
