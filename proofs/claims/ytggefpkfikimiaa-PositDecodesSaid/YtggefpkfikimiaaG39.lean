/- The wakes of layer 8: numbers are positive; a former left of an arrow is not. No conditions. -/
import Derived.Test.YtggefpkfikimiaaG33
import Derived.Test.YtggefpkfikimiaaG34
import Derived.Test.YtggefpkfikimiaaG22
import Derived.Test.YtggefpkfikimiaaG35
import Derived.Test.YtggefpkfikimiaaG10
import Derived.IntWalk
namespace Go.Proofs.Ytggefpkfikimiaa
open Go.RowKit
set_option linter.unusedVariables false

theorem zT_fits8 : Fits zT := .mk 0 0 [] (by unfold I64; omega) (by unfold I64; omega) fun x hx => nomatch hx
theorem nat8_fits : natB.fits := by
  have e : ∀ u ∈ ([] : List Tm), Fits u := fun u h => nomatch h
  have i0 : I64 0 := by unfold I64; omega
  have ha : (⟨true, zT, [], 0, []⟩ : ArgT).fits := ⟨zT_fits8, e, i0, e⟩
  refine ⟨fun s h => ?_, fun c h => ?_, i0⟩
  · simp only [natB, List.mem_singleton] at h
    subst h
    exact ⟨(fun a h => nomatch h), i0, zT_fits8⟩
  · simp only [natB, List.mem_cons, List.not_mem_nil, or_false] at h
    rcases h with rfl | rfl
    · exact ⟨i0, (fun a h => nomatch h), e, zT_fits8⟩
    · exact ⟨i0, (fun a h => by simp only [List.mem_singleton] at h; subst h; exact ha), e, zT_fits8⟩
def c0T : Tm := .node 3 0 []
def piT : Tm := .node 4 0 [c0T, c0T]
def badC : ConT := ⟨0, [⟨false, piT, [], 0, []⟩], [], zT⟩
def badB : BlkT := setC natB 0 badC
theorem badB_eq : badB = ⟨[⟨[], 0, false, zT⟩], [badC, ⟨0, [⟨true, zT, [], 0, []⟩], [], zT⟩], 0⟩ := rfl
theorem nat_posit : positB natB 0 = 0 := by decide +kernel
theorem bad_posit : positB badB 0 = 11 := by decide +kernel
theorem c0_fits : Fits c0T := .mk 3 0 [] (by unfold I64; omega) (by unfold I64; omega) fun x hx => nomatch hx
theorem bad_fits : badB.fits := by
  have e : ∀ u ∈ ([] : List Tm), Fits u := fun u h => nomatch h
  have i0 : I64 0 := by unfold I64; omega
  have hp : Fits piT := .mk 4 0 _ (by unfold I64; omega) (by unfold I64; omega) (by simp [c0_fits])
  have hn := nat8_fits
  rw [badB_eq]
  refine ⟨hn.1, fun c h => ?_, i0⟩
  rcases List.mem_cons.1 h with rfl | h
  · exact ⟨i0, fun a ha => by simp only [badC, List.mem_singleton] at ha; subst ha; exact ⟨hp, e, i0, e⟩, e, zT_fits8⟩
  · exact hn.2.1 c (by simp only [natB]; exact List.mem_cons_of_mem _ h)
set_option maxRecDepth 100000 in
set_option maxHeartbeats 600000 in
theorem wakes8_any (w : World) : Calls Try.prog 13 #[] w fun e w' => e = .returned (.bool true) ∧ Below w.heap.size w w' := by
  have C0 := Lib.hid (fun W vs vc (hA : BAt W natB vs vc) => (s8check_any natB (by decide) nat8_fits 0 W vs vc hA).mono fun e w' (h : e = .returned (.int .i64 (positB natB 0)) ∧ _) => (⟨by rw [h.1, nat_posit], h.2⟩ : e = .returned (.int .i64 0) ∧ Below W.heap.size W w'))
  have C1 := Lib.hid (fun W vs vc (hA : BAt W badB vs vc) => (s8check_any badB (by decide) bad_fits 0 W vs vc hA).mono fun e w' (h : e = .returned (.int .i64 (positB badB 0)) ∧ _) => (⟨by rw [h.1, bad_posit], h.2⟩ : e = .returned (.int .i64 11) ∧ Below W.heap.size W w'))
  go_enter Try.func13, Try.ntmps13
  go_wp2_with fail
  refine (nat_any _).mono ?_
  rintro e w1 ⟨vs, vc, rfl, hA, hb1⟩
  obtain ⟨ps, cs, pc, cc, rfl, rfl⟩ := hA.shape
  have h0 := oneb_start w1 natB _ _ hA
  have O1 : Hid (OneB w w1.heap.size natB (.slice ps natB.sorts.length cs) (.slice pc natB.cons.length cc) (w1.alloc (.cells #[.slice ps natB.sorts.length cs, .slice pc natB.cons.length cc, .int .i64 0] 33))) := ⟨h0.1, h0.2.1, hb1.trans (h0.2.2.mono hb1.size)⟩
  have hfd : ∀ W : World, (Instr.field 53 (.agg #[.int .i64 3, .int .i64 0, .int .i64 0, .slice none 0 0, .int .i64 0, .int .i64 0, .slice none 0 0, .slice ps natB.sorts.length cs, .slice pc natB.cons.length cc, .int .i64 0]) 3).run Try.prog W = .ok (.agg #[.slice ps natB.sorts.length cs, .slice pc natB.cons.length cc, .int .i64 0]) W := fun _ => by kernel_rfl
  clear h0 hA hb1
  go_upto_region 2 with (fail)
  obtain ⟨w2, hw2⟩ : ∃ w2, w2 = w1.alloc (.cells #[.slice ps natB.sorts.length cs, .slice pc natB.cons.length cc, .int .i64 0] 33) := ⟨_, rfl⟩
  rw [← hw2] at O1 ⊢
  clear hw2 hfd
  obtain ⟨x0, x1, x2⟩ := O1.out.cells
  have HT := Lib.hid (twinblk_any natB (by decide) w2 _ _ O1.out.2.1)
  go_wp2_with fail
  refine HT.out.mono ?_
  rintro e w3 ⟨a1, d1, a2, d2, rfl, hB, hb3⟩
  have O3 := Lib.hid (O1.out.bel hb3)
  have O2 := Lib.hid O1.out
  clear x0 x1 x2 HT O1
  go_upto_region 3 with (fail)
  obtain ⟨w4, hw4⟩ : ∃ w4, w4 = w3.alloc (.cells #[.slice a1 natB.sorts.length d1, .slice a2 natB.cons.length d2, .int .i64 natB.elim] 33) := ⟨_, rfl⟩
  have Z4 : Hid (w4.heap[w3.heap.size]? = some (.cells #[.slice a1 natB.sorts.length d1, .slice a2 natB.cons.length d2, .int .i64 natB.elim] 33 (0, 0))) := by unfold Hid; rw [hw4]; exact World.alloc_heap_new w3 _
  have B4 : Below w3.heap.size w3 w4 := by rw [hw4]; exact below_al _ _
  rw [← hw4]
  have O4 := Lib.hid (O3.out.bel B4)
  obtain ⟨g, cap, cur, ty, lo, hi, t1, e1, t2, e2, t3, e3, va, vi, vt, huc, hg, hgs, hap, hlo, hhi, hgo, hgN, hgz, hPA, hPI, hPD, ⟨p0, p1, p2, p3, p4, p5⟩, hbat⟩ := hB.con (k := 0) (by decide)
  cases huc
  have G4 := Lib.hid ((B4.block g hgz).trans hg)
  have HZ3 : Hid (w4.heap.size = w3.heap.size + 1) := by unfold Hid; rw [hw4]; exact World.size_alloc _ _
  have hb24 : Below w2.heap.size w2 w4 := hb3.trans (B4.mono hb3.size)
  have HB24 := Lib.hid hb24
  have HB4 := Lib.hid B4
  have HPI := Lib.hid hPI
  have HPD := Lib.hid hPD
  have HAT := Lib.hid hbat
  have HP := Lib.hid (And.intro p0 (And.intro p1 (And.intro p2 (And.intro p3 (And.intro p4 p5)))))
  have HAP := Lib.hid hap
  have hn1 : (0 : Int) < (natB.cons.length : Int) := by decide
  have HC := Lib.hid (fun W => c3_any 0 W)
  clear hw4 B4 hB hb3 hg hPA hPI hPD hbat p0 p1 p2 p3 p4 p5 hap hb24
  go_wp2_with fail
  refine wp_region_rel_tail 10 (by kernel_rfl) (by kernel_rfl) (by kernel_rfl) ?_
  simp only [List.take_succ_cons, List.take_zero]
  simp only [List.drop_succ_cons, List.drop_zero]
  apply RelWalk.next 4
  · kernel_rfl
  · intro X _ W hW hcl
    simp only [List.take_succ_cons, List.take_zero]
    obtain ⟨⟨z0, z1, z2⟩, _⟩ := boxc Z4.out
    have k0 := fun q => gcell (hW q) z0
    have k1 := fun q => gcell (hW q) z1
    have k2 := fun q => gcell (hW q) z2
    have dC := Lib.hid (fun q => into hcl (HC.out (W q)))
    clear z0 z1 z2
    repeat (go_big_quiet_step (with_reducible exact dC.out _))
    exact wpQuiet_nil rfl
  simp only [List.drop_succ_cons, List.drop_zero]
  refine RelWalk.made0 (fun v s e w => v = .slice (some ⟨s, 0, none⟩) 2 2 ∧ w.heap[s]? = some (.cells #[.int .i64 c0T.k, .int .i64 c0T.n, .slice none 0 0, .int .i64 c0T.k, .int .i64 c0T.n, .slice none 0 0] 25 (0, 0)) ∧ s < w.heap.size) rfl (by kernel_rfl) (by kernel_rfl) rfl (fun v s e w w' hg h => ⟨h.1, (hg.block s h.2.2).trans h.2.1, Nat.lt_of_lt_of_le h.2.2 hg.size⟩) (fun w2 hg => ?_) ?_
  · go_simp
    exact ⟨below_al w2 _, rfl, World.alloc_heap_new w2 _, by simp⟩
  simp only [Act.put, List.setIfInBounds_toArray, List.set_cons_zero, List.set_cons_succ]
  refine RelWalk.made1 (fun v s e w => ∃ a cap, v = .agg #[.int .i64 4, .int .i64 0, .slice a 2 cap] ∧ AtS (fun b => w4.heap.size ≤ b) w [c0T, c0T] (.slice a 2 cap)) rfl (by kernel_rfl) (by kernel_rfl) rfl (fun v s e w w' hg ⟨a, c, h1, h2⟩ => ⟨a, c, h1, h2.grw hg⟩) (fun g w2 hg v1 hv1 => ?_) ?_
  · obtain ⟨rfl, hb, _⟩ := hv1
    have hR := row_of2 (S := fun _ => False) (t := c0T) (u := c0T) hb .nl .nl
    have hc := Lib.hid (t_anyR _ 4 [c0T, c0T] (by simp) (by simp) w2 _ (fun b hb => hb.elim) hR)
    clear hR hb
    go_simp
    refine rel_enter (hc.out.mono fun e w3 ⟨a3, c3, he, hA3, hb3⟩ => ⟨_, he, hb3, a3, c3, rfl, hA3.same fun b hb => ⟨?_, rfl⟩⟩)
    rcases hb with h | h
    · exact h.elim
    · exact Nat.le_trans hg.size h
  simp only [Act.put, List.setIfInBounds_toArray, List.set_cons_zero, List.set_cons_succ]
  refine RelWalk.made1 (fun v s e w => ∃ a cap, v = .agg #[.bool false, .int .i64 4, .int .i64 0, .slice a 2 cap, .slice none 0 0, .int .i64 0, .slice none 0 0] ∧ AtS (fun b => w4.heap.size ≤ b) w [c0T, c0T] (.slice a 2 cap)) rfl (by kernel_rfl) (by kernel_rfl) rfl (fun v s e w w' hg ⟨a, c, h1, h2⟩ => ⟨a, c, h1, h2.grw hg⟩) (fun g w2 hg v1 hv1 => ?_) ?_
  · obtain ⟨a3, c3, rfl, hA3⟩ := hv1
    go_simp
    exact ⟨Grw.rfl w2, a3, c3, rfl, hA3⟩
  simp only [Act.put, List.setIfInBounds_toArray, List.set_cons_zero, List.set_cons_succ]
  refine RelWalk.made1 (fun v s e w => v = .slice (some ⟨s, 0, none⟩) 1 1 ∧ s < w.heap.size ∧ w4.heap.size ≤ s ∧ ∃ a cap, w.heap[s]? = some (.cells #[.bool false, .int .i64 4, .int .i64 0, .slice a 2 cap, .slice none 0 0, .int .i64 0, .slice none 0 0] 38 (0, 0)) ∧ AtS (fun b => w4.heap.size ≤ b) w [c0T, c0T] (.slice a 2 cap)) rfl (by kernel_rfl) (by kernel_rfl) rfl (fun v s e w w' hg ⟨h1, h2, h3, a, c, h4, h5⟩ => ⟨h1, Nat.lt_of_lt_of_le h2 hg.size, h3, a, c, (hg.block s h2).trans h4, h5.grw hg⟩) (fun g w2 hg v1 hv1 => ?_) ?_
  · obtain ⟨a3, c3, rfl, hA3⟩ := hv1
    go_simp
    exact ⟨below_al w2 _, rfl, by simp, hg.size, a3, c3, World.alloc_heap_new w2 _, hA3.grw (below_al w2 _)⟩
  simp only [Act.put, List.setIfInBounds_toArray, List.set_cons_zero, List.set_cons_succ]
  apply RelWalk.next 2
  · kernel_rfl
  · intro X _ W hW hcl
    simp only [List.take_succ_cons, List.take_zero]
    repeat (go_big_quiet_step (fail))
    exact wpQuiet_nil rfl
  simp only [List.drop_succ_cons, List.drop_zero]
  refine .done fun gg w5 hg hpt => ?_
  simp only [Spread]
  rintro v14 ⟨rfl, hs1, hs2, a3, c3, hbx, hA3⟩ v13 ⟨_, _, rfl, _⟩ v12 ⟨_, _, rfl, _⟩ v11 ⟨rfl, _⟩
  simp only [Act.put, List.setIfInBounds_toArray, List.set_cons_zero, List.set_cons_succ]
  clear hpt
  have hz3 := HZ3.out
  obtain ⟨s14, h14⟩ : ∃ s, (gg 14).1 = s := ⟨_, rfl⟩
  rw [h14] at hs1 hs2 hbx ⊢
  have G5 := Lib.hid ((hg.block g (by omega)).trans G4.out)
  have HG := Lib.hid hg
  have HA3 := Lib.hid hA3
  have HBX := Lib.hid hbx
  have q1 := cellOf G5.out 1
  rw [show cur[1]? = some va from HP.out.2.1] at q1
  have q2 := frozenOf G5.out 1
  clear hg hA3 hbx h14 hz3
  go_upto_region 4 with (fail)
  obtain ⟨w6, hw6⟩ : ∃ w6, w6 = w5.setCell ⟨g, 1, none⟩ (.slice (some ⟨s14, 0, none⟩) 1 1) := ⟨_, rfl⟩
  rw [← hw6]
  have hz3 := HZ3.out
  have far : ∀ b, b ≠ g → w6.heap[b]? = w5.heap[b]? := fun b hb => by rw [hw6]; exact Below.heap_setCell _ _ _ _ hb
  have hb26 : Below w2.heap.size w2 w6 := by
    rw [hw6]
    exact (HB24.out.trans (HG.out.mono (by have := HB24.out.size; omega))).setCell (p := ⟨g, 1, none⟩) hgN _
  have O6 := Lib.hid (O2.out.bel hb26)
  have Z6 := Lib.hid ((far w3.heap.size (by omega)).trans ((HG.out.block w3.heap.size (by omega)).trans Z4.out))
  have G6 := heap_setCell_same w5 g 1 _ _ (.slice (some ⟨s14, 0, none⟩) 1 1) G5.out
  rw [← hw6] at G6
  have hap2 := HAP.out
  unfold Apart3 at hap2
  have hfar3 : ∀ b, b < w3.heap.size → b ≠ g → w6.heap[b]? = w3.heap[b]? := fun b hb1 hb2 => (far b hb2).trans ((HG.out.block b (by omega)).trans (HB4.out.block b hb1))
  obtain ⟨p0, p1, p2, p3, p4, p5⟩ := HP.out
  have hsz : 2 * 6 ≤ cur.size := hgs
  have hbad : BAt w6 badB (.slice a1 natB.sorts.length d1) (.slice (some ⟨g, 0, none⟩) natB.cons.length d2) := by
    refine HAT.out w6 (cur.setIfInBounds 1 (.slice (some ⟨s14, 0, none⟩) 1 1)) badC [.int .i64 0, .slice (some ⟨s14, 0, none⟩) 1 1, vi, .int .i64 0, .int .i64 0, vt] (fun j hj hjg _ => hfar3 j hj hjg) G6 (fun i hi hik r hr => ?_) (fun r hr => ?_) ⟨_, _, _, rfl, ?_, ?_, ?_⟩ rfl
    · rw [Array.getElem?_setIfInBounds_ne (by omega)]
    · have : r = 0 ∨ r = 1 ∨ r = 2 ∨ r = 3 ∨ r = 4 ∨ r = 5 := by omega
      rcases this with rfl | rfl | rfl | rfl | rfl | rfl
      · rw [Array.getElem?_setIfInBounds_ne (by omega)]; exact p0
      · rw [Array.getElem?_setIfInBounds_self_of_lt (by omega)]; rfl
      · rw [Array.getElem?_setIfInBounds_ne (by omega)]; exact p2
      · rw [Array.getElem?_setIfInBounds_ne (by omega)]; exact p3
      · rw [Array.getElem?_setIfInBounds_ne (by omega)]; exact p4
      · rw [Array.getElem?_setIfInBounds_ne (by omega)]; exact p5
    · have hk6 : At w6 [c0T, c0T] (.slice a3 2 c3) := (HA3.out.same (T := fun _ => True) fun b hb => ⟨trivial, far b (by omega)⟩).at
      have hx6 := (far s14 (by omega)).trans HBX.out
      refine GAt.row [(⟨false, piT, [], 0, []⟩ : ArgT)] s14 0 1 (fun _ => [.bool false, .int .i64 4, .int .i64 0, .slice a3 2 c3, .slice none 0 0, .int .i64 0, .slice none 0 0]) (by decide) (by decide) (by decide) (fun i hi => ?_) (fun i hi r hr => ?_)
      · obtain rfl : i = 0 := by simpa using hi
        exact ⟨⟨.slice a3 2 c3, .slice none 0 0, .slice none 0 0, rfl, hk6, .nl, .nl⟩, rfl⟩
      · obtain rfl : i = 0 := by simpa using hi
        simp [World.cell?, hx6]
    · exact (HPI.out.same (T := fun _ => True) fun b hb => by have h1 := hb.1; have h2 := hb.2; exact ⟨trivial, hfar3 b (by omega) (by omega)⟩).at
    · exact (HPD.out.same (T := fun _ => True) fun b hb => by have h1 := hb.1; have h2 := hb.2; exact ⟨trivial, hfar3 b (by omega) (by omega)⟩).at
  have HBAD := Lib.hid hbad
  clear hbad hz3 hw6 q1 q2 G5 G6 p0 p1 p2 p3 p4 p5 hap2 far hb26 hfar3 O4 Z4
  obtain ⟨x0, x1, x2⟩ := O6.out.cells
  go_wp2_with fail
  refine (C0.out _ _ _ O6.out.2.1).mono ?_
  rintro e w7 ⟨rfl, hb7⟩
  have O7 := Lib.hid (O6.out.bel hb7)
  have Z7 := Lib.hid ((hb7.block _ (Array.getElem?_eq_some_iff.1 Z6.out).1).trans Z6.out)
  have BD7 := Lib.hid (HBAD.out.bel hb7)
  clear hb7 x0 x1 x2
  obtain ⟨⟨z0, z1, z2⟩, _⟩ := boxc Z7.out
  go_wp2_with fail
  refine (C1.out _ _ _ BD7.out).mono ?_
  rintro e w8 ⟨rfl, hb8⟩
  have O8 := Lib.hid (O7.out.bel hb8)
  clear hb8 z0 z1 z2
  go_wp2_with fail
  go_ret
  exact ⟨ret_bool rfl, O8.out.2.2⟩
end Go.Proofs.Ytggefpkfikimiaa
/- TermBinds: the Go text returns true for any two terms that are not greater than the second form's bound, and any numbers. -/
namespace Go.Proofs.Ytggefpkfikimiaa
open Go.RowKit

theorem u64_nonneg' (a : Int) : 0 ≤ IntKind.u64.wrap a := by
  simp [IntKind.wrap, IntKind.signed, IntKind.bits]
  omega
theorem mod_range (a : Int) (n : Int) (h : 0 < n) (h2 : n ≤ 1000000) : 0 ≤ wrap64 ((IntKind.u64.wrap a).tmod n) ∧ wrap64 ((IntKind.u64.wrap a).tmod n) < n := by
  have hh : 0 ≤ (IntKind.u64.wrap a).tmod n ∧ (IntKind.u64.wrap a).tmod n < n := by
    rw [Int.tmod_eq_emod_of_nonneg (u64_nonneg' a)]
    exact ⟨Int.emod_nonneg _ (by omega), Int.emod_lt_of_pos _ h⟩
  rw [IntWalk.wrap64_in _ (by omega)]; exact hh
def kindAt (k : Nat) : Int := if k = 0 then 4 else if k = 1 then 5 else if k = 2 then 7 else if k = 3 then 6 else 12

theorem heavy_size {l : List Tm} (h : heavyB l = false) : sizeL l ≤ 9000 := by
  simp only [heavyB, Bool.or_eq_false_iff, decide_eq_false_iff_not] at h
  omega
/-- Of two Kids that are checked as one: what is in scope of the whole. -/
theorem binds_scope (k : Int) (a b : Tm) (v : Int) (hv : 0 ≤ v) (hk : k = 4 ∨ k = 5 ∨ k = 7 ∨ k = 6 ∨ k = 12) (hc : checkE (.node k 0 [a, b]) = 0) :
    scopeT (.node k 0 [a, b]) v 65536 = (scopeT a v 65536 && scopeT b (v + bindsI k 1) 65536) := by
  have hf := check_formed hc
  have hr := bindsI_range k 1
  have hsz : ¬ 6000 < size (.node k 0 [a, b]) := by intro h; rw [checkE, if_pos h] at hc; cases hc
  have hdp : ¬ 200 < depth (.node k 0 [a, b]) := by intro h; rw [checkE, if_neg hsz, if_pos h] at hc; cases hc
  simp only [size, sizeL, depth, depthL] at hsz hdp
  simp only [formedB, formedL, Bool.and_eq_true] at hf
  have ha : checkE a = 0 := by rw [checkE, if_neg (by omega), if_neg (by omega), if_neg (by rw [hf.2.1]; simp)]
  have hb : checkE b = 0 := by rw [checkE, if_neg (by omega), if_neg (by omega), if_neg (by rw [hf.2.2.1]; simp)]
  have h0 : bindsI k 0 = 0 := by unfold bindsI; rw [if_neg (by omega)]
  have h0' : bindsI k ((0 : Nat) : Int) = 0 := h0
  unfold scopeT
  rw [ha, hb, hc, scopedT, if_neg (by omega), if_neg (by omega), if_neg (by omega)]
  simp only [scopedL, h0', Int.add_zero, Bool.and_true]
  have h1 : decide (0 ≤ v) = true := by simpa using hv
  have h2 : decide (0 ≤ v + bindsI k 1) = true := by simp; omega
  simp [h1, h2]

theorem kindAt_in (k : Nat) : kindAt k = 4 ∨ kindAt k = 5 ∨ kindAt k = 7 ∨ kindAt k = 6 ∨ kindAt k = 12 := by
  unfold kindAt
  split
  · omega
  · split
    · omega
    · split
      · omega
      · split <;> omega
theorem kind_cell {w : World} {s kn : Nat} {ty : TypeId} (h : w.heap[s]? = some (.cells #[.int .i64 4, .int .i64 5, .int .i64 7, .int .i64 6, .int .i64 12] ty (0, 0))) (hk : kn < 5) : w.cell? ⟨s, kn, none⟩ = some (.int .i64 (kindAt kn)) := by
  have : kn = 0 ∨ kn = 1 ∨ kn = 2 ∨ kn = 3 ∨ kn = 4 := by omega
  rcases this with rfl | rfl | rfl | rfl | rfl <;> simp [World.cell?, h, kindAt]

end Go.Proofs.Ytggefpkfikimiaa
