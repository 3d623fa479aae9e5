/- TeleExact: the Go text returns true for any terms that are not greater than the second form's bound, and any integer. -/
import Derived.Test.YtblebboamopffaaUc
import Derived.Deep.DeepCutAuto
import Derived.Test.YtblebboamopffaaUq
import Derived.Test.YtblebboamopffaaUl
namespace Go.Proofs.Ytblebboamopffaa
open Go.RowKit
set_option linter.unusedVariables false

theorem tmod_range6 (n : Int) : -2000 < n.tmod 2000 ∧ n.tmod 2000 < 2000 := by
  by_cases h : 0 ≤ n
  · rw [Int.tmod_eq_emod_of_nonneg h]; omega
  · have e : n = -(-n) := by omega
    rw [e, Int.neg_tmod, Int.tmod_eq_emod_of_nonneg (by omega)]; omega
theorem vt_size7 (N : Nat) : ∀ m, sizeL (varsT N m) = m
  | 0 => rfl
  | m + 1 => by rw [varsT_succ, sizeL_append, vt_size7 N m]; simp [sizeL, size]
theorem varsL_size6 {n : Int} (h : n ≤ 60000) : sizeL (varsL n) ≤ 1048576 := by
  by_cases h1 : 1 ≤ n
  · obtain ⟨N, rfl⟩ : ∃ N : Nat, n = (N : Int) := ⟨n.toNat, by omega⟩
    rw [varsL_nat (by omega), vt_size7]; omega
  · rw [varsL_out (by omega)]; simp [sizeL]
def RQ (r : Tm) : VP := fun v s e w => ∃ a cap, v = .agg #[.int .i64 r.k, .int .i64 r.n, .slice a r.kids.length cap] ∧ At w r.kids (.slice a r.kids.length cap)
theorem RQ.mono (r : Tm) : Mono (RQ r) := fun v s e w w' hg ⟨a, c, h1, h2⟩ => ⟨a, c, h1, h2.bel hg (Nat.le_refl _)⟩
def RV (l : List Tm) : VP := fun v s e w => ∃ a cap, v = .slice a l.length cap ∧ At w l (.slice a l.length cap)
theorem RV.mono (l : List Tm) : Mono (RV l) := fun v s e w w' hg ⟨a, c, h1, h2⟩ => ⟨a, c, h1, h2.bel hg (Nat.le_refl _)⟩
theorem telll_at {W w' : World} {l : List Tm} {e : Ending} (h : TellL W l e w') : ∃ a cap, e = .returned (.slice a l.length cap) ∧ At w' l (.slice a l.length cap) ∧ Below W.heap.size W w' := by
  obtain ⟨a, c, he, hA, hb⟩ := h
  exact ⟨a, c, he, hA.at, hb⟩
theorem rq_of {W : World} {r : Tm} {P : Program} {f : FuncId} {args : Array Value} (h : Calls P f args W (MadeN W r)) : Calls P f args W fun e w' => ∃ v, e = .returned v ∧ Grw W w' ∧ RQ r v W.heap.size w'.heap.size w' := h.mono fun e w' ⟨a, c, he, hS, hb⟩ => ⟨_, he, hb, a, c, rfl, hS.at⟩
theorem rv_of {W : World} {l : List Tm} {P : Program} {f : FuncId} {args : Array Value} (h : Calls P f args W fun e w' => ∃ a cap, e = .returned (.slice a l.length cap) ∧ At w' l (.slice a l.length cap) ∧ Below W.heap.size W w') : Calls P f args W fun e w' => ∃ v, e = .returned v ∧ Grw W w' ∧ RV l v W.heap.size w'.heap.size w' := h.mono fun e w' ⟨a, c, he, hS, hb⟩ => ⟨_, he, hb, a, c, rfl, hS⟩
theorem apart6 {s e s' e' b : Nat} (h : e ≤ s' ∨ e' ≤ s) (l : s < e) (hb : s' ≤ b ∧ b < e') : b ≠ s := by omega
theorem apart7 {s e s' e' : Nat} (h : e ≤ s' ∨ e' ≤ s) (l : s < e) (l' : s' < e') : s ≠ s' := by omega
def RL (l : List Tm) : VP := fun v s e w => ∃ a cap, v = .slice a l.length cap ∧ AtS (fun b => s ≤ b ∧ b < e) w l (.slice a l.length cap)
theorem RL.mono (l : List Tm) : Mono (RL l) := fun v s e w w' hg ⟨a, c, h1, h2⟩ => ⟨a, c, h1, h2.grw hg⟩
def RW (t : Tm) : VP := fun v s e w => ∃ a cap, v = .agg #[.int .i64 t.k, .int .i64 t.n, .slice a t.kids.length cap] ∧ AtS (fun b => s ≤ b ∧ b < e) w t.kids (.slice a t.kids.length cap)
theorem RW.mono (t : Tm) : Mono (RW t) := fun v s e w w' hg ⟨a, c, h1, h2⟩ => ⟨a, c, h1, h2.grw hg⟩
theorem rl_of {W : World} {l : List Tm} {P : Program} {f : FuncId} {args : Array Value} (h : Calls P f args W (TwinsPost W l)) : Calls P f args W fun e w' => ∃ v, e = .returned v ∧ Grw W w' ∧ RL l v W.heap.size w'.heap.size w' := h.mono fun e w' ⟨a, c, he, hS, _, hb⟩ => ⟨_, he, hb, a, c, rfl, hS⟩
theorem rw_of {W : World} {t : Tm} {P : Program} {f : FuncId} {args : Array Value} (h : Calls P f args W (TwinPost W t)) : Calls P f args W fun e w' => ∃ v, e = .returned v ∧ Grw W w' ∧ RW t v W.heap.size w'.heap.size w' := h.mono fun e w' ⟨a, c, he, hS, _, hb⟩ => ⟨_, he, hb, a, c, rfl, hS⟩
set_option maxRecDepth 100000 in
set_option maxHeartbeats 6000000 in
theorem ltexact_any (t : Tm) (A : List Tm) (hF : Fits t) (hFA : ∀ a ∈ A, Fits a) (hs : size t ≤ 1048576) (hsA : sizeL A ≤ 1048576) (ns : Int) (w : World) (v va : Value) (hA : At w t.kids v) (hAA : At w A va) :
    Calls Try.prog 3 #[va, .agg #[.int .i64 t.k, .int .i64 t.n, v], .int .i64 ns] w fun e w' => e = .returned (.bool true) ∧ Below w.heap.size w w' := by
  obtain ⟨a1, c1, rfl⟩ := hA.shape
  obtain ⟨pa, cp, rfl⟩ := hAA.shape
  have hAl : A.length ≤ 1048576 := Nat.le_trans (length_le_sizeL A) hsA
  have HH := heavy1 t hs w _ hA
  have HAA := Lib.hid hAA
  have HH2 : Hid (∀ W, Below w.heap.size w W → Calls Try.prog 9 #[.slice pa A.length cp] W fun e w' => e = .returned (.bool (heavyB A)) ∧ Below W.heap.size W w') := fun W hW => heavy_any A (by omega) W _ (hAA.bel hW (Nat.le_refl _))
  clear hA hAA
  cases hh : heavyB [t] with
  | true =>
    rw [hh] at HH
    have HH := Lib.hid HH
    clear hh HH2
    go_enter Try.func3, Try.ntmps3
    go_wp2_with fail
    refine HH.out.mono ?_
    rintro e w1 ⟨rfl, hb1⟩
    have T1 := Lib.hid hb1
    clear hb1
    go_wp2_with fail
    go_ret
    exact ⟨rfl, T1.out.2.2⟩
  | false =>
    rw [hh] at HH
    have HH := Lib.hid HH
    have hz1 := heavy_size1 hh
    clear hh
    cases hh2 : heavyB A with
    | true =>
      rw [hh2] at HH2
      clear hh2
      go_enter Try.func3, Try.ntmps3
      go_wp2_with fail
      refine HH.out.mono ?_
      rintro e w1 ⟨rfl, hb1⟩
      have T1 := Lib.hid hb1
      clear hb1
      go_wp2_with fail
      refine (HH2.out _ T1.out.2.2).mono ?_
      rintro e w2 ⟨rfl, hb2⟩
      have T2 := Lib.hid (T1.out.bel hb2)
      clear hb2
      go_wp2_with fail
      go_ret
      exact ⟨rfl, T2.out.2.2⟩
    | false =>
      rw [hh2] at HH2
      have hp : A.length ≤ 60 := by
        have := hh2
        simp only [heavyB, Bool.or_eq_false_iff, decide_eq_false_iff_not] at this
        omega
      have hz2 := heavy_size hh2
      clear hh2
      have HWK := Lib.hid (fun w => wakes6_any w)
      go_enter Try.func3, Try.ntmps3
      go_wp2_with fail
      refine HH.out.mono ?_
      rintro e w1 ⟨rfl, hb1⟩
      have T1 := Lib.hid hb1
      clear hb1 HH
      go_wp2_with fail
      refine (HH2.out _ T1.out.2.2).mono ?_
      rintro e w2 ⟨rfl, hb2⟩
      have T2 := Lib.hid (T1.out.bel hb2)
      clear hb2 T1 HH2
      have hr1 := tmod_range6 ns
      have hwr : IntKind.i64.wrap (ns.tmod 2000) = ns.tmod 2000 := IntWalk.i64_in _ (by omega)
      have HTW := Lib.hid (fun W v hA => c_twin t hs W v hA)
      have HTS := Lib.hid (fun W v hA => c_twins6 A hsA W v hA)
      obtain ⟨⟨x0, x1, x2⟩, _⟩ := T2.out
      go_wp2_with fail
      generalize ns.tmod 2000 = nn at *
      obtain ⟨n0, n1⟩ := hr1
      clear x0 x1 x2
      have A2 := Lib.hid (HAA.out.bel T2.out.2.2 (Nat.le_refl _))
      refine wp_region_rel_tail 5 (by kernel_rfl) (by kernel_rfl) (by kernel_rfl) ?_
      simp only [List.take_succ_cons, List.take_zero]
      simp only [List.drop_succ_cons, List.drop_zero]
      apply RelWalk.next 1
      · kernel_rfl
      · intro X _ W hW hcl
        simp only [List.take_succ_cons, List.take_zero]
        repeat (go_big_quiet_step (fail))
        exact wpQuiet_nil rfl
      simp only [List.drop_succ_cons, List.drop_zero]
      refine RelWalk.made0 (RL A) rfl (by kernel_rfl) (by kernel_rfl) rfl (RL.mono A) (fun w3 hg => ?_) ?_
      · have hc := Lib.hid (HTS.out w3 _ (A2.out.bel hg (Nat.le_refl _)))
        go_simp
        exact rel_enter (rl_of hc.out)
      simp only [Act.put, List.setIfInBounds_toArray, List.set_cons_zero, List.set_cons_succ]
      apply RelWalk.next 1
      · kernel_rfl
      · intro X _ W hW hcl
        simp only [List.take_succ_cons, List.take_zero]
        obtain ⟨⟨z0, z1, z2⟩, hT, _⟩ := T2.out
        have rT0 := fun q => gcell (hW q) z0
        have rT1 := fun q => gcell (hW q) z1
        have rT2 := fun q => gcell (hW q) z2
        clear z0 z1 z2
        repeat (go_big_quiet_step (fail))
        exact wpQuiet_nil rfl
      simp only [List.drop_succ_cons, List.drop_zero]
      refine RelWalk.made0 (RW t) rfl (by kernel_rfl) (by kernel_rfl) rfl (RW.mono t) (fun w3 hg => ?_) ?_
      · have hc := Lib.hid (HTW.out w3 _ (T2.out.2.1.bel hg (Nat.le_refl _)))
        go_simp
        exact rel_enter (rw_of hc.out)
      simp only [Act.put, List.setIfInBounds_toArray, List.set_cons_zero, List.set_cons_succ]
      refine RelWalk.made0 RZ rfl (by kernel_rfl) (by kernel_rfl) rfl RZ.mono (fun w2 hg => ?_) ?_
      · go_simp
        exact ⟨below_al w2 _, rfl, World.alloc_heap_new w2 _, by simp⟩
      simp only [Act.put, List.setIfInBounds_toArray, List.set_cons_zero, List.set_cons_succ]
      refine .done fun g w3 hg hP => ?_
      simp only [Spread]
      rintro v8 ⟨rfl, z8, _⟩ v32 ⟨a32, c32, rfl, h32⟩ v30 ⟨a30, c30, rfl, h30⟩
      simp only [Act.put, List.setIfInBounds_toArray, List.set_cons_zero, List.set_cons_succ]
      obtain ⟨hP1, hP2⟩ := hP
      have m8 := hP1 8 (by simp)
      have r1 := hP2 8 (by simp) 30 (by simp) (by decide)
      have r2 := hP2 8 (by simp) 32 (by simp) (by decide)
      clear hP1 hP2
      generalize g 8 = g8 at *
      generalize g 30 = g30 at *
      generalize g 32 = g32 at *
      obtain ⟨s8, e8⟩ := g8
      obtain ⟨s30, e30⟩ := g30
      obtain ⟨s32, e32⟩ := g32
      simp only at *
      obtain ⟨w4, hw4⟩ : ∃ w4, w4 = ((w3.setCell ⟨s8, 0, none⟩ (.int .i64 t.k)).setCell ⟨s8, 1, none⟩ (.int .i64 t.n)).setCell ⟨s8, 2, none⟩ (.slice a32 t.kids.length c32) := ⟨_, rfl⟩
      have hg4 : Below w2.heap.size w2 w4 := by rw [hw4]; exact hg.trans (below_store3 (W := w3) m8.1 (.int .i64 t.k) (.int .i64 t.n) (.slice a32 t.kids.length c32))
      have U4 : Hid (One w s8 t (.slice a32 t.kids.length c32) w4) :=
        ⟨by rw [hw4]; exact (boxc (box_store3 z8 _ _ _)).1, by rw [hw4]; exact (h32.same (T := fun _ => True) fun b hb => ⟨trivial, other_store3 (by omega) _ _ _⟩).at, T2.out.2.2.trans (hg4.mono T2.out.2.2.size)⟩
      have I4 : Hid (At w4 A (.slice a30 A.length c30)) := by rw [hw4]; exact (h30.same (T := fun _ => True) fun b hb => ⟨trivial, other_store3 (by omega) _ _ _⟩).at
      have HW4 := Lib.hid hw4
      have T4 := Lib.hid (T2.out.bel hg4)
      obtain ⟨⟨y0, y1, y2⟩, f0, f1, f2⟩ := boxc z8
      clear hg hg4 hw4 h30 h32 T2 A2 HTW HTS m8 r1 r2
      have C4 := Lib.hid (fun W vl v hL hA => spis_any A hFA hsA t hF hs W vl v hL hA)
      have C5 := Lib.hid (fun W vl v hL hA => slams_any A hFA hsA t hF hs W vl v hL hA)
      have C6 := Lib.hid (fun W v vl hA hL => sspine_any t hF hs A hFA hsA W v vl hA hL)
      have U1 := Lib.hid (fun W v hA => sunspine_any t hF hs W v hA)
      have U2 := Lib.hid (fun W v hA => sunpis_any t hF hs W v hA)
      have hszs : size (wrapT 4 A t) ≤ 1048576 ∧ size (wrapT 5 A t) ≤ 1048576 ∧ size (spineT t A) ≤ 1048576 := by rw [wrap_size, wrap_size, spine_size]; omega
      have hu1 := unspine_sizes t
      have hu2 := unpis_sizes t
      have R4 := Lib.hid (fun W vl v hL hA => rpis_any A hsA t hs W vl v hL hA)
      have R5 := Lib.hid (fun W vl v hL hA => rlams_any A hsA t hs W vl v hL hA)
      have R6 := Lib.hid (fun W v vl hA hL => rspine_any t hs A hsA W v vl hA hL)
      have R7 := Lib.hid (fun W v hA => runspine_any t hs W v hA)
      have R8 := Lib.hid (fun W v hA => runpis_any t hs W v hA)
      generalize wrapT 4 A t = p at *
      generalize wrapT 5 A t = q at *
      generalize spineT t A = r at *
      generalize (unspine t).1 = F at *
      generalize (unspine t).2 = X at *
      generalize (unpis t).1 = D at *
      generalize (unpis t).2 = Y at *
      go_wp2_with fail
      rw [← HW4.out]
      clear HW4 y0 y1 y2 f0 f1 f2 z8
      refine wp_region_rel_tail 12 (by kernel_rfl) (by kernel_rfl) (by kernel_rfl) ?_
      simp only [List.take_succ_cons, List.take_zero]
      simp only [List.drop_succ_cons, List.drop_zero]
      apply RelWalk.next 2
      · kernel_rfl
      · intro X _ W hW hcl
        simp only [List.take_succ_cons, List.take_zero]
        obtain ⟨⟨z0, z1, z2⟩, hU, _⟩ := U4.out
        have rU0 := fun q => gcell (hW q) z0
        have rU1 := fun q => gcell (hW q) z1
        have rU2 := fun q => gcell (hW q) z2
        clear z0 z1 z2
        repeat (go_big_quiet_step (fail))
        exact wpQuiet_nil rfl
      simp only [List.drop_succ_cons, List.drop_zero]
      refine RelWalk.made0 (RT p) rfl (by kernel_rfl) (by kernel_rfl) rfl (RT.mono p) (fun w2 hg => ?_) ?_
      · have hc := Lib.hid (C4.out w2 _ _ (I4.out.bel hg (Nat.le_refl _)) (U4.out.2.1.bel hg (Nat.le_refl _)))
        go_simp
        exact rel_enter (rt_of hc.out)
      simp only [Act.put, List.setIfInBounds_toArray, List.set_cons_zero, List.set_cons_succ]
      apply RelWalk.next 2
      · kernel_rfl
      · intro X _ W hW hcl
        simp only [List.take_succ_cons, List.take_zero]
        obtain ⟨⟨z0, z1, z2⟩, hU, _⟩ := U4.out
        have rU0 := fun q => gcell (hW q) z0
        have rU1 := fun q => gcell (hW q) z1
        have rU2 := fun q => gcell (hW q) z2
        clear z0 z1 z2
        repeat (go_big_quiet_step (fail))
        exact wpQuiet_nil rfl
      simp only [List.drop_succ_cons, List.drop_zero]
      refine RelWalk.made0 (RT q) rfl (by kernel_rfl) (by kernel_rfl) rfl (RT.mono q) (fun w2 hg => ?_) ?_
      · have hc := Lib.hid (C5.out w2 _ _ (I4.out.bel hg (Nat.le_refl _)) (U4.out.2.1.bel hg (Nat.le_refl _)))
        go_simp
        exact rel_enter (rt_of hc.out)
      simp only [Act.put, List.setIfInBounds_toArray, List.set_cons_zero, List.set_cons_succ]
      apply RelWalk.next 2
      · kernel_rfl
      · intro X _ W hW hcl
        simp only [List.take_succ_cons, List.take_zero]
        obtain ⟨⟨z0, z1, z2⟩, hU, _⟩ := U4.out
        have rU0 := fun q => gcell (hW q) z0
        have rU1 := fun q => gcell (hW q) z1
        have rU2 := fun q => gcell (hW q) z2
        clear z0 z1 z2
        repeat (go_big_quiet_step (fail))
        exact wpQuiet_nil rfl
      simp only [List.drop_succ_cons, List.drop_zero]
      refine RelWalk.made0 (RT r) rfl (by kernel_rfl) (by kernel_rfl) rfl (RT.mono r) (fun w2 hg => ?_) ?_
      · have hc := Lib.hid (C6.out w2 _ _ (U4.out.2.1.bel hg (Nat.le_refl _)) (I4.out.bel hg (Nat.le_refl _)))
        go_simp
        exact rel_enter (rt_of hc.out)
      simp only [Act.put, List.setIfInBounds_toArray, List.set_cons_zero, List.set_cons_succ]
      refine RelWalk.made0 RZ rfl (by kernel_rfl) (by kernel_rfl) rfl RZ.mono (fun w2 hg => ?_) ?_
      · go_simp
        exact ⟨below_al w2 _, rfl, World.alloc_heap_new w2 _, by simp⟩
      simp only [Act.put, List.setIfInBounds_toArray, List.set_cons_zero, List.set_cons_succ]
      refine RelWalk.made0 RZ rfl (by kernel_rfl) (by kernel_rfl) rfl RZ.mono (fun w2 hg => ?_) ?_
      · go_simp
        exact ⟨below_al w2 _, rfl, World.alloc_heap_new w2 _, by simp⟩
      simp only [Act.put, List.setIfInBounds_toArray, List.set_cons_zero, List.set_cons_succ]
      refine RelWalk.made0 RZ rfl (by kernel_rfl) (by kernel_rfl) rfl RZ.mono (fun w2 hg => ?_) ?_
      · go_simp
        exact ⟨below_al w2 _, rfl, World.alloc_heap_new w2 _, by simp⟩
      simp only [Act.put, List.setIfInBounds_toArray, List.set_cons_zero, List.set_cons_succ]
      refine .done fun g w5 hg hP => ?_
      simp only [Spread]
      rintro v11 ⟨rfl, z11, l11⟩ v10 ⟨rfl, z10, l10⟩ v9 ⟨rfl, z9, l9⟩ v41 ⟨a41, c41, rfl, h41⟩ v38 ⟨a38, c38, rfl, h38⟩ v35 ⟨a35, c35, rfl, h35⟩
      simp only [Act.put, List.setIfInBounds_toArray, List.set_cons_zero, List.set_cons_succ]
      obtain ⟨hP1, hP2⟩ := hP
      have m9 := hP1 9 (by simp)
      have m10 := hP1 10 (by simp)
      have m11 := hP1 11 (by simp)
      have m35 := hP1 35 (by simp)
      have m38 := hP1 38 (by simp)
      have m41 := hP1 41 (by simp)
      have r1 := hP2 9 (by simp) 10 (by simp) (by decide)
      have r2 := hP2 9 (by simp) 11 (by simp) (by decide)
      have r3 := hP2 10 (by simp) 11 (by simp) (by decide)
      have r4 := hP2 9 (by simp) 35 (by simp) (by decide)
      have r5 := hP2 9 (by simp) 38 (by simp) (by decide)
      have r6 := hP2 9 (by simp) 41 (by simp) (by decide)
      have r7 := hP2 10 (by simp) 35 (by simp) (by decide)
      have r8 := hP2 10 (by simp) 38 (by simp) (by decide)
      have r9 := hP2 10 (by simp) 41 (by simp) (by decide)
      have r10 := hP2 11 (by simp) 35 (by simp) (by decide)
      have r11 := hP2 11 (by simp) 38 (by simp) (by decide)
      have r12 := hP2 11 (by simp) 41 (by simp) (by decide)
      have r13 := hP2 35 (by simp) 38 (by simp) (by decide)
      have r14 := hP2 35 (by simp) 41 (by simp) (by decide)
      have r15 := hP2 38 (by simp) 41 (by simp) (by decide)
      clear hP1 hP2
      generalize g 9 = g9 at *
      generalize g 10 = g10 at *
      generalize g 11 = g11 at *
      generalize g 35 = g35 at *
      generalize g 38 = g38 at *
      generalize g 41 = g41 at *
      obtain ⟨s9, e9⟩ := g9
      obtain ⟨s10, e10⟩ := g10
      obtain ⟨s11, e11⟩ := g11
      obtain ⟨s35, e35⟩ := g35
      obtain ⟨s38, e38⟩ := g38
      obtain ⟨s41, e41⟩ := g41
      simp only at *
      have k1 : s9 ≠ s10 := apart7 r1 l9 l10
      have k2 : s9 ≠ s11 := apart7 r2 l9 l11
      have k3 : s10 ≠ s11 := apart7 r3 l10 l11
      have HTT := three_told (w4 := w4) hg m9.1 m10.1 m11.1 k1 k2 k3 z9 z10 z11 h35 h38 h41 (fun b hb => ⟨apart6 r4 l9 hb, apart6 r7 l10 hb, apart6 r10 l11 hb⟩) (fun b hb => ⟨apart6 r5 l9 hb, apart6 r8 l10 hb, apart6 r11 l11 hb⟩) (fun b hb => ⟨apart6 r6 l9 hb, apart6 r9 l10 hb, apart6 r12 l11 hb⟩)
      unfold put3 at HTT
      have P6 := Lib.hid HTT.1
      have Q6 := Lib.hid HTT.2.1
      have S6 := Lib.hid HTT.2.2.1
      have G6 := Lib.hid HTT.2.2.2
      have AP := Lib.hid (And.intro (And.intro r4 (And.intro r5 r6)) (And.intro (And.intro r7 (And.intro r8 r9)) (And.intro (And.intro r10 (And.intro r11 r12)) (And.intro r13 (And.intro r14 r15)))))
      have MP := Lib.hid (And.intro m9 (And.intro m10 (And.intro m11 (And.intro m35 (And.intro m38 m41)))))
      have LP := Lib.hid (And.intro l9 (And.intro l10 l11))
      clear HTT hg h35 h38 h41 r1 r2 r3 r4 r5 r6 r7 r8 r9 r10 r11 r12 r13 r14 r15 m9 m10 m11 m35 m38 m41 l9 l10 l11 C4 C5 C6
      refine wpList_store3 rfl (.tmp 9) (.tmp 35) rfl rfl rfl z9 rfl ?_
      refine wpList_store3 rfl (.tmp 10) (.tmp 38) rfl rfl rfl ((other_store3 (fun h => k1 h.symm) _ _ _).trans z10) rfl ?_
      refine wpList_store3 rfl (.tmp 11) (.tmp 41) rfl rfl rfl ((other_store3 (fun h => k3 h.symm) _ _ _).trans ((other_store3 (fun h => k2 h.symm) _ _ _).trans z11)) rfl ?_
      obtain ⟨w6, hw6⟩ : ∃ w6, w6 = (((((((((w5.setCell ⟨s9, 0, none⟩ (.int .i64 p.k)).setCell ⟨s9, 1, none⟩ (.int .i64 p.n)).setCell ⟨s9, 2, none⟩ (.slice a35 p.kids.length c35)).setCell ⟨s10, 0, none⟩ (.int .i64 q.k)).setCell ⟨s10, 1, none⟩ (.int .i64 q.n)).setCell ⟨s10, 2, none⟩ (.slice a38 q.kids.length c38)).setCell ⟨s11, 0, none⟩ (.int .i64 r.k)).setCell ⟨s11, 1, none⟩ (.int .i64 r.n)).setCell ⟨s11, 2, none⟩ (.slice a41 r.kids.length c41)) := ⟨_, rfl⟩
      rw [← hw6] at P6 Q6 S6 G6 ⊢
      have hz6 : w6.heap.size = w5.heap.size := by rw [hw6]; simp
      clear hw6 z9 z10 z11
      have H4 := Lib.hid (T4.out.2.2)
      obtain ⟨x0, x1, x2⟩ := (U4.out.bel G6.out).1
      go_wp2_with fail
      refine (U1.out w6 _ (U4.out.bel G6.out).2.1).mono ?_
      rintro e w7 ⟨aF, cF, aX, cX, rfl, hF7, hX7, hb7⟩
      obtain ⟨w8, hw8⟩ : ∃ w8, w8 = w7.alloc (.cells #[.int .i64 F.k, .int .i64 F.n, .slice aF F.kids.length cF] 24) := ⟨_, rfl⟩
      have hb8 := below_al w7 (.cells #[.int .i64 F.k, .int .i64 F.n, .slice aF F.kids.length cF] 24)
      have F8 := Lib.hid (boxe_new (w6 := w6) (F := F) hF7)
      have X8 := Lib.hid (hX7.grw hb8)
      have B8 := Lib.hid (hb7.trans (hb8.mono hb7.size))
      have Z8 := Lib.hid (And.intro hb7.size (show w7.heap.size < (w7.alloc (.cells #[.int .i64 F.k, .int .i64 F.n, .slice aF F.kids.length cF] 24)).heap.size by simp))
      rw [← hw8] at F8 X8 B8 Z8
      have G8 := Lib.hid (G6.out.trans (B8.out.mono G6.out.size))
      have W8 := Lib.hid hw8
      have x0 := gcell hb8 (gcell hb7 x0)
      have x1 := gcell hb8 (gcell hb7 x1)
      have x2 := gcell hb8 (gcell hb7 x2)
      clear hF7 hX7 hb7 hb8 hw8
      go_wp2_with fail
      rw [← W8.out]
      refine (U2.out w8 _ (U4.out.bel G8.out).2.1).mono ?_
      rintro e w9 ⟨aY, cY, aD, cD, rfl, hY9, hD9, hb9⟩
      obtain ⟨w10, hw10⟩ : ∃ w10, w10 = w9.alloc (.cells #[.int .i64 Y.k, .int .i64 Y.n, .slice aY Y.kids.length cY] 24) := ⟨_, rfl⟩
      have hb10 := below_al w9 (.cells #[.int .i64 Y.k, .int .i64 Y.n, .slice aY Y.kids.length cY] 24)
      have Y10 := Lib.hid (boxe_new (w6 := w6) (F := Y) hY9)
      have D10 := Lib.hid (hD9.grw hb10)
      have B10 := Lib.hid (hb9.trans (hb10.mono hb9.size))
      have Z10 := Lib.hid (And.intro hb9.size (show w9.heap.size < (w9.alloc (.cells #[.int .i64 Y.k, .int .i64 Y.n, .slice aY Y.kids.length cY] 24)).heap.size by simp))
      rw [← hw10] at Y10 D10 B10 Z10
      have G10 := Lib.hid (G8.out.trans (B10.out.mono G8.out.size))
      have W10 := Lib.hid hw10
      obtain ⟨t0, t1, t2⟩ := (T4.out.bel G8.out).1
      have x0 := gcell hb10 (gcell hb9 t0)
      have x1 := gcell hb10 (gcell hb9 t1)
      have x2 := gcell hb10 (gcell hb9 t2)
      clear hY9 hD9 hb9 hb10 hw10 t0 t1 t2
      go_wp2_with fail
      rw [← W10.out]
      refine (R7.out w10 _ (T4.out.bel G10.out).2.1).mono ?_
      rintro e w11 ⟨aG, cG, aZ, cZ, rfl, hG11, hZ11, hb11⟩
      obtain ⟨w12, hw12⟩ : ∃ w12, w12 = w11.alloc (.cells #[.int .i64 F.k, .int .i64 F.n, .slice aG F.kids.length cG] 24) := ⟨_, rfl⟩
      have hb12 := below_al w11 (.cells #[.int .i64 F.k, .int .i64 F.n, .slice aG F.kids.length cG] 24)
      have O12 := Lib.hid (one_new (w := w) (w6 := w6) (F := F) hG11.at ((H4.out.trans (G10.out.mono H4.out.size)).trans (hb11.mono (Nat.le_trans H4.out.size G10.out.size))))
      have X12 := Lib.hid (hZ11.ats.at.bel hb12 (Nat.le_refl _))
      have B12 := Lib.hid (hb11.trans (hb12.mono hb11.size))
      rw [← hw12] at O12 X12 B12
      have G12 := Lib.hid (G10.out.trans (B12.out.mono G10.out.size))
      have W12 := Lib.hid hw12
      obtain ⟨t0, t1, t2⟩ := (T4.out.bel G10.out).1
      have x0 := gcell hb12 (gcell hb11 t0)
      have x1 := gcell hb12 (gcell hb11 t1)
      have x2 := gcell hb12 (gcell hb11 t2)
      clear hG11 hZ11 hb11 hb12 hw12 t0 t1 t2
      go_wp2_with fail
      rw [← W12.out]
      refine (R8.out w12 _ (T4.out.bel G12.out).2.1).mono ?_
      rintro e w13 ⟨aV, cV, aE, cE, rfl, hV13, hE13, hb13⟩
      obtain ⟨w14, hw14⟩ : ∃ w14, w14 = w13.alloc (.cells #[.int .i64 Y.k, .int .i64 Y.n, .slice aV Y.kids.length cV] 24) := ⟨_, rfl⟩
      have hb14 := below_al w13 (.cells #[.int .i64 Y.k, .int .i64 Y.n, .slice aV Y.kids.length cV] 24)
      have hWW := (H4.out.trans (G12.out.mono H4.out.size)).trans (hb13.mono (Nat.le_trans H4.out.size G12.out.size))
      have V14 := Lib.hid (one_new (w := w) (w6 := w6) (F := Y) hV13 hWW)
      have E14 := Lib.hid (hE13.bel hb14 (Nat.le_refl _))
      have B14 := Lib.hid (hb13.trans (hb14.mono hb13.size))
      rw [← hw14] at V14 E14 B14
      have G14 := Lib.hid (G12.out.trans (B14.out.mono G12.out.size))
      have W14 := Lib.hid hw14
      clear hV13 hE13 hb13 hb14 hw14 hWW x0 x1 x2
      go_wp2_with fail
      rw [← W14.out]
      clear W8 W10 W12 W14
      have b12 := B8.out
      have b13 := B10.out
      have b14 := B12.out.trans (B14.out.mono B12.out.size)
      have b10 := b13.trans (b14.mono b13.size)
      have b8 := B8.out.trans (b10.mono B8.out.size)
      have HWW := Lib.hid (H4.out.trans (G14.out.mono H4.out.size))
      have PA := Lib.hid ((P6.out.bel b8).one HWW.out)
      have QA := Lib.hid ((Q6.out.bel b8).one HWW.out)
      have SA := Lib.hid ((S6.out.bel b8).one HWW.out)
      have FA := Lib.hid ((F8.out.bel b10).one HWW.out)
      have YA := Lib.hid ((Y10.out.bel b14).one HWW.out)
      have FB := Lib.hid (O12.out.bel B14.out)
      have YB := Lib.hid V14.out
      have TA := Lib.hid (T4.out.bel G14.out)
      have XA := Lib.hid ((X8.out.grw b10).at)
      have DA := Lib.hid ((D10.out.grw b14).at)
      have XB := Lib.hid (X12.out.bel B14.out (Nat.le_refl _))
      have DB := Lib.hid E14.out
      have A14 := Lib.hid (HAA.out.bel HWW.out (Nat.le_refl _))
      have BB6 := Lib.hid b8
      have BB8 := Lib.hid b10
      have BB10 := Lib.hid b14
      have NUM := Lib.hid (And.intro AP.out (And.intro MP.out (And.intro LP.out (And.intro hz6 (And.intro Z8.out (And.intro Z10.out b14.size))))))
      clear b8 b10 b12 b13 b14 O12 X12 V14 E14 AP MP LP hz6 Z8 Z10
      have K1 := Lib.hid (fun W va vb hA hB => c_same6 (t := p) hszs.1 W va vb hA hB)
      have K2 := Lib.hid (fun W va vb hA hB => c_same6 (t := q) hszs.2.1 W va vb hA hB)
      have K3 := Lib.hid (fun W va vb hA hB => c_same6 (t := r) hszs.2.2 W va vb hA hB)
      have K4 := Lib.hid (fun W va vb hA hB => c_same6 (t := F) (by omega) W va vb hA hB)
      have K5 := Lib.hid (fun W va vb hA hB => c_same6 (t := Y) (by omega) W va vb hA hB)
      have K6 := Lib.hid (fun W va vb hA hB => c_sameL6 (A := X) (by omega) W va vb hA hB)
      have K7 := Lib.hid (fun W va vb hA hB => c_sameL6 (A := D) (by omega) W va vb hA hB)
      have hvs : sizeL (varsL nn) ≤ 1048576 := varsL_size6 (by omega)
      have K8 := Lib.hid (fun W va vb hA hB => c_sameL6 (A := varsL nn) hvs W va vb hA hB)
      have N1 := Lib.hid (fun W => (svars_any nn W).mono fun e w' => telll_at)
      have N2 := Lib.hid (fun W => rvars_any nn (by omega) (by omega) W)
      generalize varsL nn = VL at *
      refine wp_region_rel (by kernel_rfl) (by kernel_rfl) (by kernel_rfl) ?_
      apply RelWalk.next 3
      · kernel_rfl
      · intro X _ W hW hcl
        simp only [List.take_succ_cons, List.take_zero]
        obtain ⟨⟨z0, z1, z2⟩, hP, _⟩ := PA.out
        have rP0 := fun q => gcell (hW q) z0
        have rP1 := fun q => gcell (hW q) z1
        have rP2 := fun q => gcell (hW q) z2
        clear z0 z1 z2
        obtain ⟨⟨z0, z1, z2⟩, hT, _⟩ := TA.out
        have rT0 := fun q => gcell (hW q) z0
        have rT1 := fun q => gcell (hW q) z1
        have rT2 := fun q => gcell (hW q) z2
        clear z0 z1 z2
        repeat (go_big_quiet_step (fail))
        exact wpQuiet_nil rfl
      simp only [List.drop_succ_cons, List.drop_zero]
      refine RelWalk.made0 (RQ p) rfl (by kernel_rfl) (by kernel_rfl) rfl (RQ.mono p) (fun w2 hg => ?_) ?_
      · have hc := Lib.hid (R4.out w2 _ _ (A14.out.bel hg (Nat.le_refl _)) (TA.out.2.1.bel hg (Nat.le_refl _)))
        go_simp
        exact rel_enter (rq_of hc.out)
      simp only [Act.put, List.setIfInBounds_toArray, List.set_cons_zero, List.set_cons_succ]
      refine RelWalk.used1 (.bool true) rfl (by kernel_rfl) (by kernel_rfl) rfl (fun g w2 hg v1 hv1 => ?_) ?_
      · obtain ⟨a, c, rfl, hA⟩ := hv1
        have hc := Lib.hid (K1.out w2 _ _ (PA.out.2.1.bel hg (Nat.le_refl _)) hA)
        clear hA
        go_simp
        exact rel_enter_c hc.out
      simp only [Act.put, List.setIfInBounds_toArray, List.set_cons_zero, List.set_cons_succ]
      apply RelWalk.next 5
      · kernel_rfl
      · intro X _ W hW hcl
        simp only [List.take_succ_cons, List.take_zero]
        obtain ⟨⟨z0, z1, z2⟩, hP, _⟩ := QA.out
        have rP0 := fun q => gcell (hW q) z0
        have rP1 := fun q => gcell (hW q) z1
        have rP2 := fun q => gcell (hW q) z2
        clear z0 z1 z2
        obtain ⟨⟨z0, z1, z2⟩, hT, _⟩ := TA.out
        have rT0 := fun q => gcell (hW q) z0
        have rT1 := fun q => gcell (hW q) z1
        have rT2 := fun q => gcell (hW q) z2
        clear z0 z1 z2
        repeat (go_big_quiet_step (fail))
        exact wpQuiet_nil rfl
      simp only [List.drop_succ_cons, List.drop_zero]
      refine RelWalk.made0 (RQ q) rfl (by kernel_rfl) (by kernel_rfl) rfl (RQ.mono q) (fun w2 hg => ?_) ?_
      · have hc := Lib.hid (R5.out w2 _ _ (A14.out.bel hg (Nat.le_refl _)) (TA.out.2.1.bel hg (Nat.le_refl _)))
        go_simp
        exact rel_enter (rq_of hc.out)
      simp only [Act.put, List.setIfInBounds_toArray, List.set_cons_zero, List.set_cons_succ]
      refine RelWalk.used1 (.bool true) rfl (by kernel_rfl) (by kernel_rfl) rfl (fun g w2 hg v1 hv1 => ?_) ?_
      · obtain ⟨a, c, rfl, hA⟩ := hv1
        have hc := Lib.hid (K2.out w2 _ _ (QA.out.2.1.bel hg (Nat.le_refl _)) hA)
        clear hA
        go_simp
        exact rel_enter_c hc.out
      simp only [Act.put, List.setIfInBounds_toArray, List.set_cons_zero, List.set_cons_succ]
      apply RelWalk.next 6
      · kernel_rfl
      · intro X _ W hW hcl
        simp only [List.take_succ_cons, List.take_zero]
        obtain ⟨⟨z0, z1, z2⟩, hP, _⟩ := SA.out
        have rP0 := fun q => gcell (hW q) z0
        have rP1 := fun q => gcell (hW q) z1
        have rP2 := fun q => gcell (hW q) z2
        clear z0 z1 z2
        obtain ⟨⟨z0, z1, z2⟩, hT, _⟩ := TA.out
        have rT0 := fun q => gcell (hW q) z0
        have rT1 := fun q => gcell (hW q) z1
        have rT2 := fun q => gcell (hW q) z2
        clear z0 z1 z2
        repeat (go_big_quiet_step (fail))
        exact wpQuiet_nil rfl
      simp only [List.drop_succ_cons, List.drop_zero]
      refine RelWalk.made0 (RQ r) rfl (by kernel_rfl) (by kernel_rfl) rfl (RQ.mono r) (fun w2 hg => ?_) ?_
      · have hc := Lib.hid (R6.out w2 _ _ (TA.out.2.1.bel hg (Nat.le_refl _)) (A14.out.bel hg (Nat.le_refl _)))
        go_simp
        exact rel_enter (rq_of hc.out)
      simp only [Act.put, List.setIfInBounds_toArray, List.set_cons_zero, List.set_cons_succ]
      refine RelWalk.used1 (.bool true) rfl (by kernel_rfl) (by kernel_rfl) rfl (fun g w2 hg v1 hv1 => ?_) ?_
      · obtain ⟨a, c, rfl, hA⟩ := hv1
        have hc := Lib.hid (K3.out w2 _ _ (SA.out.2.1.bel hg (Nat.le_refl _)) hA)
        clear hA
        go_simp
        exact rel_enter_c hc.out
      simp only [Act.put, List.setIfInBounds_toArray, List.set_cons_zero, List.set_cons_succ]
      apply RelWalk.next 28
      · kernel_rfl
      · intro X _ W hW hcl
        simp only [List.take_succ_cons, List.take_zero]
        obtain ⟨⟨z0, z1, z2⟩, hP, _⟩ := FA.out
        have rP0 := fun q => gcell (hW q) z0
        have rP1 := fun q => gcell (hW q) z1
        have rP2 := fun q => gcell (hW q) z2
        clear z0 z1 z2
        obtain ⟨⟨z0, z1, z2⟩, hQ, _⟩ := FB.out
        have rQ0 := fun q => gcell (hW q) z0
        have rQ1 := fun q => gcell (hW q) z1
        have rQ2 := fun q => gcell (hW q) z2
        clear z0 z1 z2
        obtain ⟨⟨z0, z1, z2⟩, hR, _⟩ := YA.out
        have rR0 := fun q => gcell (hW q) z0
        have rR1 := fun q => gcell (hW q) z1
        have rR2 := fun q => gcell (hW q) z2
        clear z0 z1 z2
        obtain ⟨⟨z0, z1, z2⟩, hS, _⟩ := YB.out
        have rS0 := fun q => gcell (hW q) z0
        have rS1 := fun q => gcell (hW q) z1
        have rS2 := fun q => gcell (hW q) z2
        clear z0 z1 z2
        have d0 := Lib.hid (fun q => into hcl (K4.out (W q) _ _ (FA.out.2.1.bel (hW q) (Nat.le_refl _)) (FB.out.2.1.bel (hW q) (Nat.le_refl _))))
        have d1 := Lib.hid (fun q => into hcl (K6.out (W q) _ _ (XA.out.bel (hW q) (Nat.le_refl _)) (XB.out.bel (hW q) (Nat.le_refl _))))
        have d2 := Lib.hid (fun q => into hcl (K7.out (W q) _ _ (DA.out.bel (hW q) (Nat.le_refl _)) (DB.out.bel (hW q) (Nat.le_refl _))))
        have d3 := Lib.hid (fun q => into hcl (K5.out (W q) _ _ (YA.out.2.1.bel (hW q) (Nat.le_refl _)) (YB.out.2.1.bel (hW q) (Nat.le_refl _))))
        repeat (go_big_quiet_step (first | (with_reducible exact d0.out _) | (with_reducible exact d1.out _) | (with_reducible exact d2.out _) | (with_reducible exact d3.out _)))
        exact wpQuiet_nil rfl
      simp only [List.drop_succ_cons, List.drop_zero]
      refine RelWalk.made0 (RV VL) rfl (by kernel_rfl) (by kernel_rfl) rfl (RV.mono VL) (fun w2 hg => ?_) ?_
      · have hc := Lib.hid (N1.out w2)
        go_simp
        exact rel_enter (rv_of hc.out)
      simp only [Act.put, List.setIfInBounds_toArray, List.set_cons_zero, List.set_cons_succ]
      apply RelWalk.next 1
      · kernel_rfl
      · intro X _ W hW hcl
        simp only [List.take_succ_cons, List.take_zero]
        repeat (go_big_quiet_step (fail))
        exact wpQuiet_nil rfl
      simp only [List.drop_succ_cons, List.drop_zero]
      refine RelWalk.made0 (RV VL) rfl (by kernel_rfl) (by kernel_rfl) rfl (RV.mono VL) (fun w2 hg => ?_) ?_
      · have hc := Lib.hid (N2.out w2)
        go_simp
        exact rel_enter (rv_of hc.out)
      simp only [Act.put, List.setIfInBounds_toArray, List.set_cons_zero, List.set_cons_succ]
      refine RelWalk.used2 (.bool true) rfl (by kernel_rfl) (by kernel_rfl) rfl (fun g w2 hg v1 hv1 v2 hv2 => ?_) ?_
      · obtain ⟨a, c, rfl, hA⟩ := hv1
        obtain ⟨a2, c2, rfl, hA2⟩ := hv2
        have hc := Lib.hid (K8.out w2 _ _ hA2 hA)
        clear hA hA2
        go_simp
        exact rel_enter_c hc.out
      simp only [Act.put, List.setIfInBounds_toArray, List.set_cons_zero, List.set_cons_succ]
      apply RelWalk.rest
      · kernel_rfl
      · intro X _ W hW hcl
        repeat (go_big_quiet_step (fail))
        exact wpQuiet_nil rfl
      intro gq w15 hg _
      have HG := Lib.hid hg
      clear hg
      simp only [Spread]
      rintro v112 ⟨b1, d1, rfl, _⟩ v110 ⟨b2, d2, rfl, _⟩ v80 ⟨b3, d3, rfl, _⟩ v72 ⟨b4, d4, rfl, _⟩ v65 ⟨b5, d5, rfl, _⟩
      simp only [Act.put, List.setIfInBounds_toArray, List.set_cons_zero, List.set_cons_succ]
      have P15 : Hid (BoxK (fun b => s35 ≤ b ∧ b < e35) s9 p (.slice a35 p.kids.length c35) w15) := ((P6.out.bel BB6.out).bel HG.out).k
      have Q15 : Hid (BoxK (fun b => s38 ≤ b ∧ b < e38) s10 q (.slice a38 q.kids.length c38) w15) := ((Q6.out.bel BB6.out).bel HG.out).k
      have S15 : Hid (BoxK (fun b => s41 ≤ b ∧ b < e41) s11 r (.slice a41 r.kids.length c41) w15) := ((S6.out.bel BB6.out).bel HG.out).k
      have F15 : Hid (BoxK (fun b => w6.heap.size ≤ b ∧ b < w7.heap.size) w7.heap.size F (.slice aF F.kids.length cF) w15) := ((F8.out.bel BB8.out).bel HG.out).k
      have X15 : Hid (SkE (fun b => w6.heap.size ≤ b ∧ b < w7.heap.size) w15 X (.slice aX X.length cX)) := ((X8.out.grw BB8.out).grw HG.out).ske
      have Y15 : Hid (BoxK (fun b => w8.heap.size ≤ b ∧ b < w9.heap.size) w9.heap.size Y (.slice aY Y.kids.length cY) w15) := ((Y10.out.bel BB10.out).bel HG.out).k
      have D15 : Hid (SkE (fun b => w8.heap.size ≤ b ∧ b < w9.heap.size) w15 D (.slice aD D.length cD)) := ((D10.out.grw BB10.out).grw HG.out).ske
      have G15 := Lib.hid (G14.out.trans (HG.out.mono G14.out.size))
      have L15 : Hid (w14.heap.size ≤ w15.heap.size) := HG.out.size
      have A4 := Lib.hid (HAA.out.bel H4.out (Nat.le_refl _))
      clear P6 Q6 S6 F8 X8 Y10 D10 PA QA SA FA YA FB YB TA XA DA XB DB A14 BB6 BB8 BB10 HG G14 G12 G10 G8 G6 HWW K1 K2 K3 K4 K5 K6 K7 K8 N1 N2 R4 R5 R6 R7 R8 U1 U2 B8 B10 B12 B14 HAA
      obtain ⟨⟨x0, x1, x2⟩, _⟩ := boxc P15.out.1
      go_wp2_with fail
      refine (spoilE_any (fun b => s35 ≤ b ∧ b < e35) p hszs.1 p.k p.n w15 _ (fun b hb => (by obtain ⟨⟨⟨r4, r5, r6⟩, ⟨r7, r8, r9⟩, ⟨r10, r11, r12⟩, r13, r14, r15⟩, ⟨m9, m10, m11, m35, m38, m41⟩, ⟨l9, l10, l11⟩, hz6, z8, z10, z14⟩ := NUM.out; have := L15.out; have := G15.out.size; omega)) P15.out.2).mono ?_
      rintro e w16 ⟨⟨rr16, rfl⟩, hp16⟩
      have Q16 := Lib.hid (Q15.out.far hp16 (fun hb => (by obtain ⟨⟨⟨r4, r5, r6⟩, ⟨r7, r8, r9⟩, ⟨r10, r11, r12⟩, r13, r14, r15⟩, ⟨m9, m10, m11, m35, m38, m41⟩, ⟨l9, l10, l11⟩, hz6, z8, z10, z14⟩ := NUM.out; have := L15.out; have := G15.out.size; omega)) (fun b hb hb2 => (by obtain ⟨⟨⟨r4, r5, r6⟩, ⟨r7, r8, r9⟩, ⟨r10, r11, r12⟩, r13, r14, r15⟩, ⟨m9, m10, m11, m35, m38, m41⟩, ⟨l9, l10, l11⟩, hz6, z8, z10, z14⟩ := NUM.out; have := L15.out; have := G15.out.size; omega)))
      have S16 := Lib.hid (S15.out.far hp16 (fun hb => (by obtain ⟨⟨⟨r4, r5, r6⟩, ⟨r7, r8, r9⟩, ⟨r10, r11, r12⟩, r13, r14, r15⟩, ⟨m9, m10, m11, m35, m38, m41⟩, ⟨l9, l10, l11⟩, hz6, z8, z10, z14⟩ := NUM.out; have := L15.out; have := G15.out.size; omega)) (fun b hb hb2 => (by obtain ⟨⟨⟨r4, r5, r6⟩, ⟨r7, r8, r9⟩, ⟨r10, r11, r12⟩, r13, r14, r15⟩, ⟨m9, m10, m11, m35, m38, m41⟩, ⟨l9, l10, l11⟩, hz6, z8, z10, z14⟩ := NUM.out; have := L15.out; have := G15.out.size; omega)))
      have F16 := Lib.hid (F15.out.far hp16 (fun hb => (by obtain ⟨⟨⟨r4, r5, r6⟩, ⟨r7, r8, r9⟩, ⟨r10, r11, r12⟩, r13, r14, r15⟩, ⟨m9, m10, m11, m35, m38, m41⟩, ⟨l9, l10, l11⟩, hz6, z8, z10, z14⟩ := NUM.out; have := L15.out; have := G15.out.size; omega)) (fun b hb hb2 => (by obtain ⟨⟨⟨r4, r5, r6⟩, ⟨r7, r8, r9⟩, ⟨r10, r11, r12⟩, r13, r14, r15⟩, ⟨m9, m10, m11, m35, m38, m41⟩, ⟨l9, l10, l11⟩, hz6, z8, z10, z14⟩ := NUM.out; have := L15.out; have := G15.out.size; omega)))
      have X16 := Lib.hid (X15.out.far hp16 (fun b hb hb2 => (by obtain ⟨⟨⟨r4, r5, r6⟩, ⟨r7, r8, r9⟩, ⟨r10, r11, r12⟩, r13, r14, r15⟩, ⟨m9, m10, m11, m35, m38, m41⟩, ⟨l9, l10, l11⟩, hz6, z8, z10, z14⟩ := NUM.out; have := L15.out; have := G15.out.size; omega)))
      have D16 := Lib.hid (D15.out.far hp16 (fun b hb hb2 => (by obtain ⟨⟨⟨r4, r5, r6⟩, ⟨r7, r8, r9⟩, ⟨r10, r11, r12⟩, r13, r14, r15⟩, ⟨m9, m10, m11, m35, m38, m41⟩, ⟨l9, l10, l11⟩, hz6, z8, z10, z14⟩ := NUM.out; have := L15.out; have := G15.out.size; omega)))
      have Y16 := Lib.hid (Y15.out.far hp16 (fun hb => (by obtain ⟨⟨⟨r4, r5, r6⟩, ⟨r7, r8, r9⟩, ⟨r10, r11, r12⟩, r13, r14, r15⟩, ⟨m9, m10, m11, m35, m38, m41⟩, ⟨l9, l10, l11⟩, hz6, z8, z10, z14⟩ := NUM.out; have := L15.out; have := G15.out.size; omega)) (fun b hb hb2 => (by obtain ⟨⟨⟨r4, r5, r6⟩, ⟨r7, r8, r9⟩, ⟨r10, r11, r12⟩, r13, r14, r15⟩, ⟨m9, m10, m11, m35, m38, m41⟩, ⟨l9, l10, l11⟩, hz6, z8, z10, z14⟩ := NUM.out; have := L15.out; have := G15.out.size; omega)))
      have V16 := Lib.hid (G15.out.trans (hp16.below (N := w4.heap.size) (fun b hb => (by obtain ⟨⟨⟨r4, r5, r6⟩, ⟨r7, r8, r9⟩, ⟨r10, r11, r12⟩, r13, r14, r15⟩, ⟨m9, m10, m11, m35, m38, m41⟩, ⟨l9, l10, l11⟩, hz6, z8, z10, z14⟩ := NUM.out; have := L15.out; have := G15.out.size; omega)) (by obtain ⟨⟨⟨r4, r5, r6⟩, ⟨r7, r8, r9⟩, ⟨r10, r11, r12⟩, r13, r14, r15⟩, ⟨m9, m10, m11, m35, m38, m41⟩, ⟨l9, l10, l11⟩, hz6, z8, z10, z14⟩ := NUM.out; have := L15.out; have := G15.out.size; omega)))
      have L16 : Hid (w14.heap.size ≤ w16.heap.size) := Nat.le_trans L15.out hp16.size
      clear hp16 P15 Q15 S15 F15 X15 D15 Y15 x0 x1 x2
      obtain ⟨⟨x0, x1, x2⟩, _⟩ := boxc Q16.out.1
      go_wp2_with fail
      refine (spoilE_any (fun b => s38 ≤ b ∧ b < e38) q hszs.2.1 q.k q.n w16 _ (fun b hb => (by obtain ⟨⟨⟨r4, r5, r6⟩, ⟨r7, r8, r9⟩, ⟨r10, r11, r12⟩, r13, r14, r15⟩, ⟨m9, m10, m11, m35, m38, m41⟩, ⟨l9, l10, l11⟩, hz6, z8, z10, z14⟩ := NUM.out; have := L16.out; have := G15.out.size; omega)) Q16.out.2).mono ?_
      rintro e w17 ⟨⟨rr17, rfl⟩, hp17⟩
      have S17 := Lib.hid (S16.out.far hp17 (fun hb => (by obtain ⟨⟨⟨r4, r5, r6⟩, ⟨r7, r8, r9⟩, ⟨r10, r11, r12⟩, r13, r14, r15⟩, ⟨m9, m10, m11, m35, m38, m41⟩, ⟨l9, l10, l11⟩, hz6, z8, z10, z14⟩ := NUM.out; have := L16.out; have := G15.out.size; omega)) (fun b hb hb2 => (by obtain ⟨⟨⟨r4, r5, r6⟩, ⟨r7, r8, r9⟩, ⟨r10, r11, r12⟩, r13, r14, r15⟩, ⟨m9, m10, m11, m35, m38, m41⟩, ⟨l9, l10, l11⟩, hz6, z8, z10, z14⟩ := NUM.out; have := L16.out; have := G15.out.size; omega)))
      have F17 := Lib.hid (F16.out.far hp17 (fun hb => (by obtain ⟨⟨⟨r4, r5, r6⟩, ⟨r7, r8, r9⟩, ⟨r10, r11, r12⟩, r13, r14, r15⟩, ⟨m9, m10, m11, m35, m38, m41⟩, ⟨l9, l10, l11⟩, hz6, z8, z10, z14⟩ := NUM.out; have := L16.out; have := G15.out.size; omega)) (fun b hb hb2 => (by obtain ⟨⟨⟨r4, r5, r6⟩, ⟨r7, r8, r9⟩, ⟨r10, r11, r12⟩, r13, r14, r15⟩, ⟨m9, m10, m11, m35, m38, m41⟩, ⟨l9, l10, l11⟩, hz6, z8, z10, z14⟩ := NUM.out; have := L16.out; have := G15.out.size; omega)))
      have X17 := Lib.hid (X16.out.far hp17 (fun b hb hb2 => (by obtain ⟨⟨⟨r4, r5, r6⟩, ⟨r7, r8, r9⟩, ⟨r10, r11, r12⟩, r13, r14, r15⟩, ⟨m9, m10, m11, m35, m38, m41⟩, ⟨l9, l10, l11⟩, hz6, z8, z10, z14⟩ := NUM.out; have := L16.out; have := G15.out.size; omega)))
      have D17 := Lib.hid (D16.out.far hp17 (fun b hb hb2 => (by obtain ⟨⟨⟨r4, r5, r6⟩, ⟨r7, r8, r9⟩, ⟨r10, r11, r12⟩, r13, r14, r15⟩, ⟨m9, m10, m11, m35, m38, m41⟩, ⟨l9, l10, l11⟩, hz6, z8, z10, z14⟩ := NUM.out; have := L16.out; have := G15.out.size; omega)))
      have Y17 := Lib.hid (Y16.out.far hp17 (fun hb => (by obtain ⟨⟨⟨r4, r5, r6⟩, ⟨r7, r8, r9⟩, ⟨r10, r11, r12⟩, r13, r14, r15⟩, ⟨m9, m10, m11, m35, m38, m41⟩, ⟨l9, l10, l11⟩, hz6, z8, z10, z14⟩ := NUM.out; have := L16.out; have := G15.out.size; omega)) (fun b hb hb2 => (by obtain ⟨⟨⟨r4, r5, r6⟩, ⟨r7, r8, r9⟩, ⟨r10, r11, r12⟩, r13, r14, r15⟩, ⟨m9, m10, m11, m35, m38, m41⟩, ⟨l9, l10, l11⟩, hz6, z8, z10, z14⟩ := NUM.out; have := L16.out; have := G15.out.size; omega)))
      have V17 := Lib.hid (V16.out.trans (hp17.below (N := w4.heap.size) (fun b hb => (by obtain ⟨⟨⟨r4, r5, r6⟩, ⟨r7, r8, r9⟩, ⟨r10, r11, r12⟩, r13, r14, r15⟩, ⟨m9, m10, m11, m35, m38, m41⟩, ⟨l9, l10, l11⟩, hz6, z8, z10, z14⟩ := NUM.out; have := L16.out; have := G15.out.size; omega)) (by obtain ⟨⟨⟨r4, r5, r6⟩, ⟨r7, r8, r9⟩, ⟨r10, r11, r12⟩, r13, r14, r15⟩, ⟨m9, m10, m11, m35, m38, m41⟩, ⟨l9, l10, l11⟩, hz6, z8, z10, z14⟩ := NUM.out; have := L16.out; have := G15.out.size; omega)))
      have L17 : Hid (w14.heap.size ≤ w17.heap.size) := Nat.le_trans L16.out hp17.size
      clear hp17 Q16 S16 F16 X16 D16 Y16 x0 x1 x2
      obtain ⟨⟨x0, x1, x2⟩, _⟩ := boxc S17.out.1
      go_wp2_with fail
      refine (spoilE_any (fun b => s41 ≤ b ∧ b < e41) r hszs.2.2 r.k r.n w17 _ (fun b hb => (by obtain ⟨⟨⟨r4, r5, r6⟩, ⟨r7, r8, r9⟩, ⟨r10, r11, r12⟩, r13, r14, r15⟩, ⟨m9, m10, m11, m35, m38, m41⟩, ⟨l9, l10, l11⟩, hz6, z8, z10, z14⟩ := NUM.out; have := L17.out; have := G15.out.size; omega)) S17.out.2).mono ?_
      rintro e w18 ⟨⟨rr18, rfl⟩, hp18⟩
      have F18 := Lib.hid (F17.out.far hp18 (fun hb => (by obtain ⟨⟨⟨r4, r5, r6⟩, ⟨r7, r8, r9⟩, ⟨r10, r11, r12⟩, r13, r14, r15⟩, ⟨m9, m10, m11, m35, m38, m41⟩, ⟨l9, l10, l11⟩, hz6, z8, z10, z14⟩ := NUM.out; have := L17.out; have := G15.out.size; omega)) (fun b hb hb2 => (by obtain ⟨⟨⟨r4, r5, r6⟩, ⟨r7, r8, r9⟩, ⟨r10, r11, r12⟩, r13, r14, r15⟩, ⟨m9, m10, m11, m35, m38, m41⟩, ⟨l9, l10, l11⟩, hz6, z8, z10, z14⟩ := NUM.out; have := L17.out; have := G15.out.size; omega)))
      have X18 := Lib.hid (X17.out.far hp18 (fun b hb hb2 => (by obtain ⟨⟨⟨r4, r5, r6⟩, ⟨r7, r8, r9⟩, ⟨r10, r11, r12⟩, r13, r14, r15⟩, ⟨m9, m10, m11, m35, m38, m41⟩, ⟨l9, l10, l11⟩, hz6, z8, z10, z14⟩ := NUM.out; have := L17.out; have := G15.out.size; omega)))
      have D18 := Lib.hid (D17.out.far hp18 (fun b hb hb2 => (by obtain ⟨⟨⟨r4, r5, r6⟩, ⟨r7, r8, r9⟩, ⟨r10, r11, r12⟩, r13, r14, r15⟩, ⟨m9, m10, m11, m35, m38, m41⟩, ⟨l9, l10, l11⟩, hz6, z8, z10, z14⟩ := NUM.out; have := L17.out; have := G15.out.size; omega)))
      have Y18 := Lib.hid (Y17.out.far hp18 (fun hb => (by obtain ⟨⟨⟨r4, r5, r6⟩, ⟨r7, r8, r9⟩, ⟨r10, r11, r12⟩, r13, r14, r15⟩, ⟨m9, m10, m11, m35, m38, m41⟩, ⟨l9, l10, l11⟩, hz6, z8, z10, z14⟩ := NUM.out; have := L17.out; have := G15.out.size; omega)) (fun b hb hb2 => (by obtain ⟨⟨⟨r4, r5, r6⟩, ⟨r7, r8, r9⟩, ⟨r10, r11, r12⟩, r13, r14, r15⟩, ⟨m9, m10, m11, m35, m38, m41⟩, ⟨l9, l10, l11⟩, hz6, z8, z10, z14⟩ := NUM.out; have := L17.out; have := G15.out.size; omega)))
      have V18 := Lib.hid (V17.out.trans (hp18.below (N := w4.heap.size) (fun b hb => (by obtain ⟨⟨⟨r4, r5, r6⟩, ⟨r7, r8, r9⟩, ⟨r10, r11, r12⟩, r13, r14, r15⟩, ⟨m9, m10, m11, m35, m38, m41⟩, ⟨l9, l10, l11⟩, hz6, z8, z10, z14⟩ := NUM.out; have := L17.out; have := G15.out.size; omega)) (by obtain ⟨⟨⟨r4, r5, r6⟩, ⟨r7, r8, r9⟩, ⟨r10, r11, r12⟩, r13, r14, r15⟩, ⟨m9, m10, m11, m35, m38, m41⟩, ⟨l9, l10, l11⟩, hz6, z8, z10, z14⟩ := NUM.out; have := L17.out; have := G15.out.size; omega)))
      have L18 : Hid (w14.heap.size ≤ w18.heap.size) := Nat.le_trans L17.out hp18.size
      clear hp18 S17 F17 X17 D17 Y17 x0 x1 x2
      obtain ⟨⟨x0, x1, x2⟩, _⟩ := boxc F18.out.1
      go_wp2_with fail
      refine (spoilE_any (fun b => w6.heap.size ≤ b ∧ b < w7.heap.size) F (by omega) F.k F.n w18 _ (fun b hb => (by obtain ⟨⟨⟨r4, r5, r6⟩, ⟨r7, r8, r9⟩, ⟨r10, r11, r12⟩, r13, r14, r15⟩, ⟨m9, m10, m11, m35, m38, m41⟩, ⟨l9, l10, l11⟩, hz6, z8, z10, z14⟩ := NUM.out; have := L18.out; have := G15.out.size; omega)) F18.out.2).mono ?_
      rintro e w19 ⟨⟨rr19, rfl⟩, hp19⟩
      have X19 := Lib.hid (X18.out.spd hp19)
      have D19 := Lib.hid (D18.out.far hp19 (fun b hb hb2 => (by obtain ⟨⟨⟨r4, r5, r6⟩, ⟨r7, r8, r9⟩, ⟨r10, r11, r12⟩, r13, r14, r15⟩, ⟨m9, m10, m11, m35, m38, m41⟩, ⟨l9, l10, l11⟩, hz6, z8, z10, z14⟩ := NUM.out; have := L18.out; have := G15.out.size; omega)))
      have Y19 := Lib.hid (Y18.out.far hp19 (fun hb => (by obtain ⟨⟨⟨r4, r5, r6⟩, ⟨r7, r8, r9⟩, ⟨r10, r11, r12⟩, r13, r14, r15⟩, ⟨m9, m10, m11, m35, m38, m41⟩, ⟨l9, l10, l11⟩, hz6, z8, z10, z14⟩ := NUM.out; have := L18.out; have := G15.out.size; omega)) (fun b hb hb2 => (by obtain ⟨⟨⟨r4, r5, r6⟩, ⟨r7, r8, r9⟩, ⟨r10, r11, r12⟩, r13, r14, r15⟩, ⟨m9, m10, m11, m35, m38, m41⟩, ⟨l9, l10, l11⟩, hz6, z8, z10, z14⟩ := NUM.out; have := L18.out; have := G15.out.size; omega)))
      have V19 := Lib.hid (V18.out.trans (hp19.below (N := w4.heap.size) (fun b hb => (by obtain ⟨⟨⟨r4, r5, r6⟩, ⟨r7, r8, r9⟩, ⟨r10, r11, r12⟩, r13, r14, r15⟩, ⟨m9, m10, m11, m35, m38, m41⟩, ⟨l9, l10, l11⟩, hz6, z8, z10, z14⟩ := NUM.out; have := L18.out; have := G15.out.size; omega)) (by obtain ⟨⟨⟨r4, r5, r6⟩, ⟨r7, r8, r9⟩, ⟨r10, r11, r12⟩, r13, r14, r15⟩, ⟨m9, m10, m11, m35, m38, m41⟩, ⟨l9, l10, l11⟩, hz6, z8, z10, z14⟩ := NUM.out; have := L18.out; have := G15.out.size; omega)))
      have L19 : Hid (w14.heap.size ≤ w19.heap.size) := Nat.le_trans L18.out hp19.size
      clear hp19 F18 X18 D18 Y18 x0 x1 x2
      go_wp2_with fail
      refine (spoils_any (fun b => w6.heap.size ≤ b ∧ b < w7.heap.size) X (by omega) w19 _ (fun b hb => (by obtain ⟨⟨⟨r4, r5, r6⟩, ⟨r7, r8, r9⟩, ⟨r10, r11, r12⟩, r13, r14, r15⟩, ⟨m9, m10, m11, m35, m38, m41⟩, ⟨l9, l10, l11⟩, hz6, z8, z10, z14⟩ := NUM.out; have := L19.out; have := G15.out.size; omega)) X19.out).mono ?_
      rintro e w20 ⟨⟨rr20, rfl⟩, hp20⟩
      have D20 := Lib.hid (D19.out.far hp20 (fun b hb hb2 => (by obtain ⟨⟨⟨r4, r5, r6⟩, ⟨r7, r8, r9⟩, ⟨r10, r11, r12⟩, r13, r14, r15⟩, ⟨m9, m10, m11, m35, m38, m41⟩, ⟨l9, l10, l11⟩, hz6, z8, z10, z14⟩ := NUM.out; have := L19.out; have := G15.out.size; omega)))
      have Y20 := Lib.hid (Y19.out.far hp20 (fun hb => (by obtain ⟨⟨⟨r4, r5, r6⟩, ⟨r7, r8, r9⟩, ⟨r10, r11, r12⟩, r13, r14, r15⟩, ⟨m9, m10, m11, m35, m38, m41⟩, ⟨l9, l10, l11⟩, hz6, z8, z10, z14⟩ := NUM.out; have := L19.out; have := G15.out.size; omega)) (fun b hb hb2 => (by obtain ⟨⟨⟨r4, r5, r6⟩, ⟨r7, r8, r9⟩, ⟨r10, r11, r12⟩, r13, r14, r15⟩, ⟨m9, m10, m11, m35, m38, m41⟩, ⟨l9, l10, l11⟩, hz6, z8, z10, z14⟩ := NUM.out; have := L19.out; have := G15.out.size; omega)))
      have V20 := Lib.hid (V19.out.trans (hp20.below (N := w4.heap.size) (fun b hb => (by obtain ⟨⟨⟨r4, r5, r6⟩, ⟨r7, r8, r9⟩, ⟨r10, r11, r12⟩, r13, r14, r15⟩, ⟨m9, m10, m11, m35, m38, m41⟩, ⟨l9, l10, l11⟩, hz6, z8, z10, z14⟩ := NUM.out; have := L19.out; have := G15.out.size; omega)) (by obtain ⟨⟨⟨r4, r5, r6⟩, ⟨r7, r8, r9⟩, ⟨r10, r11, r12⟩, r13, r14, r15⟩, ⟨m9, m10, m11, m35, m38, m41⟩, ⟨l9, l10, l11⟩, hz6, z8, z10, z14⟩ := NUM.out; have := L19.out; have := G15.out.size; omega)))
      have L20 : Hid (w14.heap.size ≤ w20.heap.size) := Nat.le_trans L19.out hp20.size
      clear hp20 X19 D19 Y19
      go_wp2_with fail
      refine (spoils_any (fun b => w8.heap.size ≤ b ∧ b < w9.heap.size) D (by omega) w20 _ (fun b hb => (by obtain ⟨⟨⟨r4, r5, r6⟩, ⟨r7, r8, r9⟩, ⟨r10, r11, r12⟩, r13, r14, r15⟩, ⟨m9, m10, m11, m35, m38, m41⟩, ⟨l9, l10, l11⟩, hz6, z8, z10, z14⟩ := NUM.out; have := L20.out; have := G15.out.size; omega)) D20.out).mono ?_
      rintro e w21 ⟨⟨rr21, rfl⟩, hp21⟩
      have Y21 := Lib.hid (Y20.out.spd hp21 (fun hb => (by obtain ⟨⟨⟨r4, r5, r6⟩, ⟨r7, r8, r9⟩, ⟨r10, r11, r12⟩, r13, r14, r15⟩, ⟨m9, m10, m11, m35, m38, m41⟩, ⟨l9, l10, l11⟩, hz6, z8, z10, z14⟩ := NUM.out; have := L20.out; have := G15.out.size; omega)))
      have V21 := Lib.hid (V20.out.trans (hp21.below (N := w4.heap.size) (fun b hb => (by obtain ⟨⟨⟨r4, r5, r6⟩, ⟨r7, r8, r9⟩, ⟨r10, r11, r12⟩, r13, r14, r15⟩, ⟨m9, m10, m11, m35, m38, m41⟩, ⟨l9, l10, l11⟩, hz6, z8, z10, z14⟩ := NUM.out; have := L20.out; have := G15.out.size; omega)) (by obtain ⟨⟨⟨r4, r5, r6⟩, ⟨r7, r8, r9⟩, ⟨r10, r11, r12⟩, r13, r14, r15⟩, ⟨m9, m10, m11, m35, m38, m41⟩, ⟨l9, l10, l11⟩, hz6, z8, z10, z14⟩ := NUM.out; have := L20.out; have := G15.out.size; omega)))
      have L21 : Hid (w14.heap.size ≤ w21.heap.size) := Nat.le_trans L20.out hp21.size
      clear hp21 D20 Y20
      obtain ⟨⟨x0, x1, x2⟩, _⟩ := boxc Y21.out.1
      go_wp2_with fail
      refine (spoilE_any (fun b => w8.heap.size ≤ b ∧ b < w9.heap.size) Y (by omega) Y.k Y.n w21 _ (fun b hb => (by obtain ⟨⟨⟨r4, r5, r6⟩, ⟨r7, r8, r9⟩, ⟨r10, r11, r12⟩, r13, r14, r15⟩, ⟨m9, m10, m11, m35, m38, m41⟩, ⟨l9, l10, l11⟩, hz6, z8, z10, z14⟩ := NUM.out; have := L21.out; have := G15.out.size; omega)) Y21.out.2).mono ?_
      rintro e w22 ⟨⟨rr22, rfl⟩, hp22⟩
      have V22 := Lib.hid (V21.out.trans (hp22.below (N := w4.heap.size) (fun b hb => (by obtain ⟨⟨⟨r4, r5, r6⟩, ⟨r7, r8, r9⟩, ⟨r10, r11, r12⟩, r13, r14, r15⟩, ⟨m9, m10, m11, m35, m38, m41⟩, ⟨l9, l10, l11⟩, hz6, z8, z10, z14⟩ := NUM.out; have := L21.out; have := G15.out.size; omega)) (by obtain ⟨⟨⟨r4, r5, r6⟩, ⟨r7, r8, r9⟩, ⟨r10, r11, r12⟩, r13, r14, r15⟩, ⟨m9, m10, m11, m35, m38, m41⟩, ⟨l9, l10, l11⟩, hz6, z8, z10, z14⟩ := NUM.out; have := L21.out; have := G15.out.size; omega)))
      have L22 : Hid (w14.heap.size ≤ w22.heap.size) := Nat.le_trans L21.out hp22.size
      clear hp22 Y21 x0 x1 x2
      go_wp2_with fail
      refine (c_sameL6 hsA w22 _ _ (I4.out.bel V22.out (Nat.le_refl _)) (A4.out.bel V22.out (Nat.le_refl _))).mono ?_
      rintro e w23 ⟨rfl, hb23⟩
      have V23 := Lib.hid (V22.out.trans (hb23.mono V22.out.size))
      obtain ⟨u0, u1, u2⟩ := (U4.out.bel V23.out).1
      obtain ⟨t0, t1, t2⟩ := (T4.out.bel V23.out).1
      clear hb23
      go_wp2_with fail
      refine (c_same6 hs w23 _ _ (U4.out.bel V23.out).2.1 (T4.out.bel V23.out).2.1).mono ?_
      rintro e w24 ⟨rfl, hb24⟩
      have V24 := Lib.hid (V23.out.trans (hb24.mono V23.out.size))
      clear hb24 u0 u1 u2 t0 t1 t2
      go_wp2_with fail
      refine (HWK.out w24).mono ?_
      rintro e w25 ⟨rfl, hb25⟩
      have V25 := Lib.hid (H4.out.trans ((V24.out.trans (hb25.mono V24.out.size)).mono H4.out.size))
      clear hb25
      go_wp2_with fail
      go_ret
      exact ⟨rfl, V25.out⟩
end Go.Proofs.Ytblebboamopffaa
