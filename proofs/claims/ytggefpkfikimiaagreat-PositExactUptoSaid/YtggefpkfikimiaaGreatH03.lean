/- The page's telescope. No conditions but sizes. -/
import Derived.Test.YtggefpkfikimiaaGreatH01
import Derived.Test.YtggefpkfikimiaaGreatH02
import Derived.Test.YtggefpkfikimiaaGreatG33
namespace Go.Proofs.YtggefpkfikimiaaGreat
open Go.RowKit
set_option linter.unusedVariables false

theorem teleFrom_at {b : BlkT} {base c : Int} {l : List ArgT} {j : Nat} (h : j < l.length) : teleFrom b base c (l.take j) (l.drop j) = (teleArg b base c (l.take j) l[j] && teleFrom b base c (l.take (j + 1)) (l.drop (j + 1))) := by
  rw [List.drop_eq_getElem_cons h, teleFrom, List.take_succ_eq_append_getElem h]
theorem doms_at8 {b : BlkT} {base : Int} {vars : List Int} {l : List Tm} {j : Nat} (h : j < l.length) : domsB b base vars j (l.drop j) = (cleanB b base (moreP vars (j : Int)) l[j] && domsB b base vars (j + 1) (l.drop (j + 1))) := by
  rw [List.drop_eq_getElem_cons h, domsB]
set_option maxRecDepth 100000 in
set_option maxHeartbeats 8000000 in
theorem rtele_any (b : BlkT) (base : Int) (hb : blkN b ≤ 1048576) (c : Int) (l : List ArgT) (hl : l.length ≤ 1000) (hR : ∀ a ∈ l, ArgR b a) (hN : ∀ a ∈ l, argN a ≤ 1000000) (w : World) (vs vc vl : Value) (hA : BAt w b vs vc) (hL : ARow w l vl) :
    Calls Tryz.prog 27 #[.agg #[vs, vc, .int .i64 b.elim], .int .i64 base, vl, .int .i64 c] w fun e w' => e = .returned (.bool (teleB b base l c)) ∧ Below w.heap.size w w' := by
  obtain ⟨ps, cs, pc, cc, rfl, rfl⟩ := hA.shape
  obtain ⟨aL, cL, rfl⟩ := hL.shape
  have O0 := Lib.hid (oneb_start w b _ _ hA)
  have A0 := Lib.hid (ARow.bel O0.out.2.2 hL)
  have HR := Lib.hid hR
  have HN := Lib.hid hN
  have HE0 := Lib.hid (show teleB b base l c = teleFrom b base c (l.take 0) (l.drop 0) from rfl)
  clear hA hL hR hN
  go_enter Tryz.func27, Tryz.ntmps27
  obtain ⟨x0, x1, x2⟩ := O0.out.cells
  go_wp2_with fail
  clear x0 x1 x2
  revert O0 A0
  generalize w.alloc (.cells #[.slice ps b.sorts.length cs, .slice pc b.cons.length cc, .int .i64 b.elim] 25) = W0
  intro O0 A0
  go_loopw [9] (fun si wr => ∃ j : Nat, si = .int .i64 (j : Int) ∧ j ≤ l.length ∧ teleB b base l c = teleFrom b base c (l.take j) (l.drop j) ∧ OneB w w.heap.size b (.slice ps b.sorts.length cs) (.slice pc b.cons.length cc) wr ∧ ARow wr l (.slice aL l.length cL)) (fun si _ => l.length - (RowKit.intOf si).toNat)
  case atStart => exact ⟨0, rfl, Nat.zero_le _, HE0.out, O0.out, A0.out⟩
  case round =>
    clear O0 A0 HE0
    obtain ⟨j, rfl, hj, hE, hO, hAX⟩ := hrel
    have OJ := Lib.hid hO
    have AJ := Lib.hid hAX
    have HE := Lib.hid hE
    clear hE hO hAX
    obtain ⟨x0, x1, x2⟩ := OJ.out.cells
    by_cases hlt : j < l.length
    · have hj1 : (j : Int) < (l.length : Int) := by omega
      have hj0 : (0 : Int) ≤ (j : Int) := by omega
      have hj2 : (j : Int) ≤ (cL : Int) := by have := ARow.cap AJ.out; omega
      have hj3 : (j : Int) ≤ (l.length : Int) := by omega
      have hwj : IntKind.i64.wrap ((j : Int) + 1) = ((j + 1 : Nat) : Int) := by rw [IntWalk.i64_in _ (by omega)]; omega
      have hltk : (l.take j).length = j := by rw [List.length_take]; omega
      have HDA := Lib.hid (teleFrom_at (b := b) (base := base) (c := c) hlt)
      have HAR := Lib.hid (HR.out _ (List.getElem_mem hlt))
      have HAN : Hid (∀ a ∈ l.take j, argN a ≤ 1000000) := fun a ha => HN.out a (List.mem_of_mem_take ha)
      have HAT := Lib.hid (fun W (hbw : Below wr.heap.size wr W) => rat_own b base (l.take j) (by omega) W _ _ _ (OJ.out.2.1.bel hbw) (ARow.bel hbw (ARow.high AJ.out (k := j) (by omega))))
      have hvl : (atP (l.take j)).length = j := by rw [atP_length, hltk]
      have HVL := Lib.hid hvl
      have HVO := Lib.hid (varsOk_at (l.take j))
      clear hltk hvl
      go_wp2_with fail
      clear x0 x1 x2
      refine wp_region_rel_tail 7 (by kernel_rfl) (by kernel_rfl) (by kernel_rfl) ?_
      simp only [List.take_succ_cons, List.take_zero]
      simp only [List.drop_succ_cons, List.drop_zero]
      apply RelWalk.next 5
      · kernel_rfl
      · intro X0 _ W hW hcl
        simp only [List.take_succ_cons, List.take_zero]
        obtain ⟨x0, x1, x2⟩ := OJ.out.cells
        have r0 := fun q => gcell (hW q) x0
        have r1 := fun q => gcell (hW q) x1
        have r2 := fun q => gcell (hW q) x2
        clear x0 x1 x2
        repeat (go_big_quiet_step (fail))
        exact wpQuiet_nil rfl
      simp only [List.drop_succ_cons, List.drop_zero]
      refine RelWalk.made0 (fun v s e W => ∃ a c, v = .agg #[.slice ps b.sorts.length cs, .slice pc b.cons.length cc, .int .i64 b.elim, .int .i64 base, .slice a (atP (l.take j)).length c, .slice aL j cL] ∧ IOwn s (atP (l.take j)) (.slice a (atP (l.take j)).length c) W ∧ ∀ k, (Value.slice a (atP (l.take j)).length c).ownBlock = some k → k < e) rfl (by kernel_rfl) (by kernel_rfl) rfl (fun v s e W W' hg ⟨a, c, h1, h2, h3⟩ => ⟨a, c, h1, h2.keep hg, h3⟩) (fun w2 hg => ?_) ?_
      · have hc := Lib.hid (HAT.out w2 hg)
        go_simp
        exact rel_enter (hc.out.mono fun e w3 ⟨a3, c3, he, hI3, hb3⟩ => ⟨_, he, hb3, a3, c3, rfl, hI3, fun k hk => (hI3.lt k hk).2⟩)
      simp only [Act.put, List.setIfInBounds_toArray, List.set_cons_zero, List.set_cons_succ]
      refine RelWalk.made0 (fun v s e W => v = .pointer (some ⟨s, 0, none⟩) ∧ W.heap[s]? = some (.cells #[.slice none 0 0, .slice none 0 0, .int .i64 0, .int .i64 0, .slice none 0 0, .slice none 0 0] 61 (0, 0)) ∧ s < e ∧ s < W.heap.size) rfl (by kernel_rfl) (by kernel_rfl) rfl (fun v s e W W' hg h => ⟨h.1, (hg.block s h.2.2.2).trans h.2.1, h.2.2.1, Nat.lt_of_lt_of_le h.2.2.2 hg.size⟩) (fun w2 hg => ?_) ?_
      · go_simp
        exact ⟨below_al w2 _, rfl, World.alloc_heap_new w2 _, by simp, by simp⟩
      simp only [Act.put, List.setIfInBounds_toArray, List.set_cons_zero, List.set_cons_succ]
      refine .done fun g w3 hg hpt => ?_
      simp only [Spread]
      rintro v10 ⟨rfl, hbx, hse, hlt10⟩ v23 ⟨pv, cv, rfl, hI3, hIe⟩
      simp only [Act.put, List.setIfInBounds_toArray, List.set_cons_zero, List.set_cons_succ]
      have hp10 := (hpt.1 10 (List.mem_of_elem_eq_true (by kernel_rfl))).1
      have hpp := hpt.2 10 (List.mem_of_elem_eq_true (by kernel_rfl)) 23 (List.mem_of_elem_eq_true (by kernel_rfl)) (by decide)
      clear hpt
      have hne : (Value.slice pv (atP (l.take j)).length cv).ownBlock ≠ some (g 10).1 := fun e => by have h1 := (hI3.lt _ e).1; have h2 := hIe _ e; omega
      obtain ⟨BP, hBP⟩ : ∃ s, (g 10).1 = s := ⟨_, rfl⟩
      rw [hBP] at hbx hlt10 hp10 hne ⊢
      clear hpp hse hIe hBP
      obtain ⟨⟨y0, y1, y2, y3, y4, y5⟩, f0, f1, f2, f3, f4, f5⟩ := cells6 hbx
      have HBX := Lib.hid hbx
      have HG := Lib.hid hg
      have HI3 := Lib.hid hI3
      have HNE := Lib.hid hne
      clear hbx hg hI3 hne
      go_upto_region 5 with (fail)
      obtain ⟨w4, hw4⟩ : ∃ w4, w4 = (((((w3.setCell ⟨BP, 0, none⟩ (.slice ps b.sorts.length cs)).setCell ⟨BP, 1, none⟩ (.slice pc b.cons.length cc)).setCell ⟨BP, 2, none⟩ (.int .i64 b.elim)).setCell ⟨BP, 3, none⟩ (.int .i64 base)).setCell ⟨BP, 4, none⟩ (.slice pv (atP (l.take j)).length cv)).setCell ⟨BP, 5, none⟩ (.slice aL j cL) := ⟨_, rfl⟩
      have hbw4 : Below wr.heap.size wr w4 := by rw [hw4]; exact HG.out.trans (below_tc6 (D := wr.heap.size) (B := BP) hp10 _ _ _ _ _ _)
      have hcell := box_tc6 HBX.out (.slice ps b.sorts.length cs) (.slice pc b.cons.length cc) (.int .i64 b.elim) (.int .i64 base) (.slice pv (atP (l.take j)).length cv) (.slice aL j cL)
      have hR6 : IOwn (g 23).1 (atP (l.take j)) (.slice pv (atP (l.take j)).length cv) w4 := by rw [hw4]; exact ownsRow_setCell_other (ownsRow_setCell_other (ownsRow_setCell_other (ownsRow_setCell_other (ownsRow_setCell_other (ownsRow_setCell_other HI3.out (a := ⟨BP, 0, none⟩) HNE.out (.slice ps b.sorts.length cs)) (a := ⟨BP, 1, none⟩) HNE.out (.slice pc b.cons.length cc)) (a := ⟨BP, 2, none⟩) HNE.out (.int .i64 b.elim)) (a := ⟨BP, 3, none⟩) HNE.out (.int .i64 base)) (a := ⟨BP, 4, none⟩) HNE.out (.slice pv (atP (l.take j)).length cv)) (a := ⟨BP, 5, none⟩) HNE.out (.slice aL j cL)
      rw [← hw4] at hcell ⊢
      have O4 := Lib.hid (OJ.out.bel hbw4)
      have A4 := Lib.hid (ARow.bel hbw4 AJ.out)
      have P4 : Hid (OneP w BP b base (atP (l.take j)) (l.take j) (.slice ps b.sorts.length cs) (.slice pc b.cons.length cc) (.slice pv (atP (l.take j)).length cv) (.slice aL j cL) w4) := ⟨hcell, ⟨O4.out.2.1, hR6.row, ARow.high A4.out (by omega)⟩, O4.out.2.2⟩
      clear hw4 hbw4 hcell hR6 y0 y1 y2 y3 y4 y5 f0 f1 f2 f3 f4 f5 HBX HG HI3 HNE OJ AJ hlt10 hp10
      obtain ⟨bA, oA, vt, vd, vi, he, t1, t2, t3, m0, m1, m2, m3, m4, m5, m6⟩ := ARow.at A4.out hlt
      cases he
      obtain ⟨p1, c1, rfl⟩ := t1.shape
      obtain ⟨p2, c2, rfl⟩ := t2.shape
      obtain ⟨p3, c3, rfl⟩ := t3.shape
      have TT := Lib.hid (And.intro t1 (And.intro t2 t3))
      have HM := Lib.hid (And.intro m0 (And.intro m1 (And.intro m2 (And.intro m3 (And.intro m4 (And.intro m5 m6))))))
      clear t1 t2 t3
      cases hrec : l[j].r with
      | false =>
        rw [hrec] at m0
        have hta : teleArg b base c (l.take j) l[j] = cleanB b base (atP (l.take j)) l[j].ty := by rw [teleArg, hrec]; rfl
        have hRA := HAR.out
        rw [ArgR, hrec] at hRA
        have hTR : TermR l[j].ty := by simpa using hRA
        have HI := Lib.hid (rclean_any b base hb (l.take j) (size l[j].ty) l[j].ty (Nat.le_refl _) hTR.1 (atP (l.take j)) (by rw [HVL.out]; have := hTR.2; omega) HVO.out)
        have HTA := Lib.hid hta
        clear hrec hRA hTR hta
        cases hc : cleanB b base (atP (l.take j)) l[j].ty with
        | true =>
          have HI2 := Lib.hid (fun W vs vc vv va v h1 h2 => by have h := HI.out W vs vc vv va v h1 h2; rw [hc] at h; exact h)
          have HE2 := Lib.hid (HE.out.trans (show _ = teleFrom b base c (l.take (j + 1)) (l.drop (j + 1)) by rw [HDA.out, HTA.out, hc, Bool.true_and]))
          clear hc HE HDA HI HTA
          go_wp2_with fail
          clear m0 m1 m2 m3 m4 m5 m6
          refine wp_region_rel (by kernel_rfl) (by kernel_rfl) (by kernel_rfl) ?_
          apply RelWalk.rest
          · kernel_rfl
          · intro X0 _ W hW hcl
            obtain ⟨⟨y0, y1, y2, y3, y4, y5⟩, _⟩ := cells6 P4.out.1
            obtain ⟨m0, m1, m2, m3, m4, m5, m6⟩ := HM.out
            have r0 := fun q => gcell (hW q) y0
            have r1 := fun q => gcell (hW q) y1
            have r2 := fun q => gcell (hW q) y2
            have r3 := fun q => gcell (hW q) y3
            have r4 := fun q => gcell (hW q) y4
            have r5 := fun q => gcell (hW q) y5
            have q1 := fun q => gcell (hW q) m1
            have q2 := fun q => gcell (hW q) m2
            have q3 := fun q => gcell (hW q) m3
            have dC := Lib.hid (fun q => into hcl (HI2.out (W q) _ _ _ _ _ (P4.out.2.1.bel (hW q)) (TT.out.1.bel (hW q) (Nat.le_refl _))))
            clear y0 y1 y2 y3 y4 y5 m0 m1 m2 m3 m4 m5 m6
            repeat (go_big_quiet_step (with_reducible exact dC.out _))
            exact wpQuiet_nil rfl
          intro gq w8 hg8 _
          simp only [Spread]
          have O8 := Lib.hid (O4.out.bel hg8)
          have A8 := Lib.hid (ARow.bel hg8 A4.out)
          clear hg8
          go_wp2_with fail
          go_roundw
          case rel => exact ⟨j + 1, by go_num, by omega, HE2.out, O8.out, A8.out⟩
          case measure => simp [RowKit.intOf] <;> omega
        | false =>
          have HI2 := Lib.hid (fun W vs vc vv va v h1 h2 => by have h := HI.out W vs vc vv va v h1 h2; rw [hc] at h; exact h)
          have HE2 := Lib.hid (HE.out.trans (show _ = false by rw [HDA.out, HTA.out, hc, Bool.false_and]))
          clear hc HE HDA HI HTA
          go_wp2_with fail
          clear m0 m1 m2 m3 m4 m5 m6
          refine wp_region_rel (by kernel_rfl) (by kernel_rfl) (by kernel_rfl) ?_
          apply RelWalk.rest
          · kernel_rfl
          · intro X0 _ W hW hcl
            obtain ⟨⟨y0, y1, y2, y3, y4, y5⟩, _⟩ := cells6 P4.out.1
            obtain ⟨m0, m1, m2, m3, m4, m5, m6⟩ := HM.out
            have r0 := fun q => gcell (hW q) y0
            have r1 := fun q => gcell (hW q) y1
            have r2 := fun q => gcell (hW q) y2
            have r3 := fun q => gcell (hW q) y3
            have r4 := fun q => gcell (hW q) y4
            have r5 := fun q => gcell (hW q) y5
            have q1 := fun q => gcell (hW q) m1
            have q2 := fun q => gcell (hW q) m2
            have q3 := fun q => gcell (hW q) m3
            have dC := Lib.hid (fun q => into hcl (HI2.out (W q) _ _ _ _ _ (P4.out.2.1.bel (hW q)) (TT.out.1.bel (hW q) (Nat.le_refl _))))
            clear y0 y1 y2 y3 y4 y5 m0 m1 m2 m3 m4 m5 m6
            repeat (go_big_quiet_step (with_reducible exact dC.out _))
            exact wpQuiet_nil rfl
          intro gq w8 hg8 _
          simp only [Spread]
          have O8 := Lib.hid (O4.out.bel hg8)
          clear hg8
          go_wp2_with fail
          go_ret
          exact ⟨ret_bool HE2.out.symm, O8.out.2.2⟩
      | true =>
        rw [hrec] at m0
        have hRA := HAR.out
        rw [ArgR, hrec, if_pos rfl] at hRA
        obtain ⟨⟨k, hks, hk, hil⟩, hdl, hil2, hdR, hiR⟩ := hRA
        have hta : teleArg b base c (l.take j) l[j] = (domsB b base (atP (l.take j)) 0 (l[j].dom.drop 0) && indicesB b base (moreP (atP (l.take j)) (l[j].dom.length : Int)) (l.take j) c (k : Int) l[j].idx) := by rw [teleArg, hrec, hks]; rfl
        have HE1 := Lib.hid (HE.out.trans (show _ = ((domsB b base (atP (l.take j)) 0 (l[j].dom.drop 0) && indicesB b base (moreP (atP (l.take j)) (l[j].dom.length : Int)) (l.take j) c (k : Int) l[j].idx) && teleFrom b base c (l.take (j + 1)) (l.drop (j + 1))) by rw [HDA.out, hta]))
        have HKS := Lib.hid hks
        have HD := Lib.hid hdR
        have HIR := Lib.hid hiR
        have HIL := Lib.hid (And.intro hil hil2)
        clear hrec hta hdR hiR hil hil2 hks HE HDA
        obtain ⟨RESTT, hRT⟩ : ∃ RESTT, teleFrom b base c (l.take (j + 1)) (l.drop (j + 1)) = RESTT := ⟨_, rfl⟩
        rw [hRT] at HE1
        have HRT := Lib.hid hRT
        clear hRT
        obtain ⟨IDX, hIDX⟩ : ∃ IDX, indicesB b base (moreP (atP (l.take j)) (l[j].dom.length : Int)) (l.take j) c (k : Int) l[j].idx = IDX := ⟨_, rfl⟩
        rw [hIDX] at HE1
        have HIDX := Lib.hid hIDX
        clear hIDX
        have HL0 := Lib.hid (show OneP w BP b base (atP (l.take j)) (l.take j) (.slice ps b.sorts.length cs) (.slice pc b.cons.length cc) (.slice pv (atP (l.take j)).length cv) (.slice (some ⟨bA, oA, none⟩) j cL) w4 from P4.out)
        go_wp2_with fail
        clear m0 m1 m2 m3 m4 m5 m6
        go_loopw [11] (fun si ws => ∃ q : Nat, si = .int .i64 (q : Int) ∧ q ≤ l[j].dom.length ∧ teleB b base l c = ((domsB b base (atP (l.take j)) q (l[j].dom.drop q) && IDX) && RESTT) ∧ OneB w w.heap.size b (.slice ps b.sorts.length cs) (.slice pc b.cons.length cc) ws ∧ ARow ws l (.slice (some ⟨bA, oA, none⟩) l.length cL) ∧ OneP w BP b base (atP (l.take j)) (l.take j) (.slice ps b.sorts.length cs) (.slice pc b.cons.length cc) (.slice pv (atP (l.take j)).length cv) (.slice (some ⟨bA, oA, none⟩) j cL) ws) (fun si _ => l[j].dom.length - (RowKit.intOf si).toNat)
        case atStart => exact ⟨0, rfl, Nat.zero_le _, HE1.out, O4.out, A4.out, HL0.out⟩
        case round =>
          clear HE1 O4 A4 P4 HL0 TT HM
          obtain ⟨q, rfl, hq, hE, hO, hAX, hP⟩ := hrel
          have OQ := Lib.hid hO
          have AQ := Lib.hid hAX
          have PQ := Lib.hid hP
          have HE := Lib.hid hE
          clear hE hO hAX hP
          obtain ⟨bA2, oA2, vt, vd, vi, he, t1, t2, t3, m0, m1, m2, m3, m4, m5, m6⟩ := ARow.at AQ.out hlt
          cases he
          obtain ⟨p1, c1, rfl⟩ := t1.shape
          obtain ⟨p2, c2, rfl⟩ := t2.shape
          obtain ⟨p3, c3, rfl⟩ := t3.shape
          rw [HKS.out] at m5
          have TT := Lib.hid (And.intro t1 (And.intro t2 t3))
          have HM := Lib.hid (And.intro m4 (And.intro m5 m6))
          clear t1 t2 t3
          by_cases hqt : q < l[j].dom.length
          · have hq1 : (q : Int) < (l[j].dom.length : Int) := by omega
            have hq0 : (0 : Int) ≤ (q : Int) := by omega
            have hwq : IntKind.i64.wrap ((q : Int) + 1) = ((q + 1 : Nat) : Int) := by rw [IntWalk.i64_in _ (by omega)]; omega
            have HDQ := Lib.hid (doms_at8 (b := b) (base := base) (vars := atP (l.take j)) hqt)
            have hTR := HD.out _ (List.getElem_mem hqt)
            have HMR := Lib.hid (fun W vs vc vv va h => rmore_any b base (atP (l.take j)) (l.take j) (by rw [HVL.out]; omega) q (by omega) W vs vc vv va h)
            have HI := Lib.hid (rclean_any b base hb (l.take j) (size l[j].dom[q]) l[j].dom[q] (Nat.le_refl _) hTR.1 (moreP (atP (l.take j)) (q : Int)) (by rw [moreP_length, HVL.out]; have := hTR.2; omega) (varsOk_more HVO.out _))
            obtain ⟨bX, oX, kX, us, he, hcapX, hcmX, g0, g1, g2, g3⟩ := TT.out.2.1.pos (by omega)
            cases he
            obtain ⟨y0, y1, y2, y3⟩ := And.intro (g0 q hqt) (And.intro (g1 q hqt) (And.intro (g2 q hqt) (g3 q hqt)))
            obtain ⟨au, cu, hau⟩ := y3.shape
            rw [hau] at y2 y3
            have HY := Lib.hid (And.intro y0 (And.intro y1 (And.intro y2 y3)))
            clear g0 g1 g2 g3 hcapX hcmX y0 y1 y2 y3 hau hTR
            cases hc : cleanB b base (moreP (atP (l.take j)) (q : Int)) l[j].dom[q] with
            | true =>
              have HI2 := Lib.hid (fun W vs vc vv va v h1 h2 => by have h := HI.out W vs vc vv va v h1 h2; rw [hc] at h; exact h)
              have HE2 := Lib.hid (HE.out.trans (show _ = ((domsB b base (atP (l.take j)) (q + 1) (l[j].dom.drop (q + 1)) && IDX) && RESTT) by rw [HDQ.out, hc, Bool.true_and]))
              clear hc HE HDQ HI
              go_wp2_with fail
              clear m0 m1 m2 m3 m4 m5 m6
              refine wp_region_rel (by kernel_rfl) (by kernel_rfl) (by kernel_rfl) ?_
              apply RelWalk.next 2
              · kernel_rfl
              · intro X0 _ W hW hcl
                simp only [List.take_succ_cons, List.take_zero]
                obtain ⟨⟨x0, x1, x2, x3, x4, x5⟩, _⟩ := cells6 PQ.out.1
                have r0 := fun q => gcell (hW q) x0
                have r1 := fun q => gcell (hW q) x1
                have r2 := fun q => gcell (hW q) x2
                have r3 := fun q => gcell (hW q) x3
                have r4 := fun q => gcell (hW q) x4
                have r5 := fun q => gcell (hW q) x5
                have q4 := fun q => gcell (hW q) HM.out.1
                clear x0 x1 x2 x3 x4 x5
                repeat (go_big_quiet_step (fail))
                exact wpQuiet_nil rfl
              simp only [List.drop_succ_cons, List.drop_zero]
              refine RelWalk.made0 (fun v s e W => ∃ a c, v = .agg #[.slice ps b.sorts.length cs, .slice pc b.cons.length cc, .int .i64 b.elim, .int .i64 base, .slice a (moreP (atP (l.take j)) ((q : Int))).length c, .slice (some ⟨bA, oA, none⟩) j cL] ∧ IRow W (moreP (atP (l.take j)) ((q : Int))) (.slice a (moreP (atP (l.take j)) ((q : Int))).length c)) rfl (by kernel_rfl) (by kernel_rfl) rfl (fun v s e W W' hg ⟨a, c, h1, h2⟩ => ⟨a, c, h1, h2.bel hg⟩) (fun w2 hg => ?_) ?_
              · have hc := Lib.hid (HMR.out w2 _ _ _ _ (PQ.out.2.1.bel hg))
                go_simp
                exact rel_enter (hc.out.mono fun e w3 ⟨a3, c3, he, hP3, hb3⟩ => ⟨_, he, hb3, a3, c3, rfl, hP3.2.1⟩)
              simp only [Act.put, List.setIfInBounds_toArray, List.set_cons_zero, List.set_cons_succ]
              apply RelWalk.next 8
              · kernel_rfl
              · intro X0 _ W hW hcl
                simp only [List.take_succ_cons, List.take_zero]
                have q4 := fun q => gcell (hW q) HM.out.1
                have q5 := fun q => gcell (hW q) HM.out.2.1
                have q6 := fun q => gcell (hW q) HM.out.2.2
                have p0 := fun q => gcell (hW q) HY.out.1
                have p1 := fun q => gcell (hW q) HY.out.2.1
                have p2 := fun q => gcell (hW q) HY.out.2.2.1
                repeat (go_big_quiet_step (fail))
                exact wpQuiet_nil rfl
              simp only [List.drop_succ_cons, List.drop_zero]
              refine RelWalk.used1 (.bool true) rfl (by kernel_rfl) (by kernel_rfl) rfl (fun g w2 hg v1 hv1 => ?_) ?_
              · obtain ⟨a3, c3, rfl, hR3⟩ := hv1
                have hc := Lib.hid (HI2.out w2 _ _ _ _ _ ⟨(PQ.out.2.1.bel hg).1, hR3, (PQ.out.2.1.bel hg).2.2⟩ (HY.out.2.2.2.bel hg (Nat.le_refl _)))
                clear hR3
                go_simp
                exact rel_enter_c hc.out
              simp only [Act.put, List.setIfInBounds_toArray, List.set_cons_zero, List.set_cons_succ]
              apply RelWalk.rest
              · kernel_rfl
              · intro X0 _ W hW hcl
                repeat (go_big_quiet_step (fail))
                exact wpQuiet_nil rfl
              intro gq w8 hg8 _
              simp only [Spread]
              intro vM _
              simp only [Act.put, List.setIfInBounds_toArray, List.set_cons_zero, List.set_cons_succ]
              have O8 := Lib.hid (OQ.out.bel hg8)
              have A8 := Lib.hid (ARow.bel hg8 AQ.out)
              have P8 := Lib.hid (PQ.out.bel hg8)
              clear hg8
              go_wp2_with fail
              go_roundw
              case rel => exact ⟨q + 1, by go_num, by omega, HE2.out, O8.out, A8.out, P8.out⟩
              case measure => simp [RowKit.intOf] <;> omega
            | false =>
              have HI2 := Lib.hid (fun W vs vc vv va v h1 h2 => by have h := HI.out W vs vc vv va v h1 h2; rw [hc] at h; exact h)
              have HE2 := Lib.hid (HE.out.trans (show _ = false by rw [HDQ.out, hc, Bool.false_and, Bool.false_and, Bool.false_and]))
              clear hc HE HDQ HI
              go_wp2_with fail
              clear m0 m1 m2 m3 m4 m5 m6
              refine wp_region_rel (by kernel_rfl) (by kernel_rfl) (by kernel_rfl) ?_
              apply RelWalk.next 2
              · kernel_rfl
              · intro X0 _ W hW hcl
                simp only [List.take_succ_cons, List.take_zero]
                obtain ⟨⟨x0, x1, x2, x3, x4, x5⟩, _⟩ := cells6 PQ.out.1
                have r0 := fun q => gcell (hW q) x0
                have r1 := fun q => gcell (hW q) x1
                have r2 := fun q => gcell (hW q) x2
                have r3 := fun q => gcell (hW q) x3
                have r4 := fun q => gcell (hW q) x4
                have r5 := fun q => gcell (hW q) x5
                have q4 := fun q => gcell (hW q) HM.out.1
                clear x0 x1 x2 x3 x4 x5
                repeat (go_big_quiet_step (fail))
                exact wpQuiet_nil rfl
              simp only [List.drop_succ_cons, List.drop_zero]
              refine RelWalk.made0 (fun v s e W => ∃ a c, v = .agg #[.slice ps b.sorts.length cs, .slice pc b.cons.length cc, .int .i64 b.elim, .int .i64 base, .slice a (moreP (atP (l.take j)) ((q : Int))).length c, .slice (some ⟨bA, oA, none⟩) j cL] ∧ IRow W (moreP (atP (l.take j)) ((q : Int))) (.slice a (moreP (atP (l.take j)) ((q : Int))).length c)) rfl (by kernel_rfl) (by kernel_rfl) rfl (fun v s e W W' hg ⟨a, c, h1, h2⟩ => ⟨a, c, h1, h2.bel hg⟩) (fun w2 hg => ?_) ?_
              · have hc := Lib.hid (HMR.out w2 _ _ _ _ (PQ.out.2.1.bel hg))
                go_simp
                exact rel_enter (hc.out.mono fun e w3 ⟨a3, c3, he, hP3, hb3⟩ => ⟨_, he, hb3, a3, c3, rfl, hP3.2.1⟩)
              simp only [Act.put, List.setIfInBounds_toArray, List.set_cons_zero, List.set_cons_succ]
              apply RelWalk.next 8
              · kernel_rfl
              · intro X0 _ W hW hcl
                simp only [List.take_succ_cons, List.take_zero]
                have q4 := fun q => gcell (hW q) HM.out.1
                have q5 := fun q => gcell (hW q) HM.out.2.1
                have q6 := fun q => gcell (hW q) HM.out.2.2
                have p0 := fun q => gcell (hW q) HY.out.1
                have p1 := fun q => gcell (hW q) HY.out.2.1
                have p2 := fun q => gcell (hW q) HY.out.2.2.1
                repeat (go_big_quiet_step (fail))
                exact wpQuiet_nil rfl
              simp only [List.drop_succ_cons, List.drop_zero]
              refine RelWalk.used1 (.bool false) rfl (by kernel_rfl) (by kernel_rfl) rfl (fun g w2 hg v1 hv1 => ?_) ?_
              · obtain ⟨a3, c3, rfl, hR3⟩ := hv1
                have hc := Lib.hid (HI2.out w2 _ _ _ _ _ ⟨(PQ.out.2.1.bel hg).1, hR3, (PQ.out.2.1.bel hg).2.2⟩ (HY.out.2.2.2.bel hg (Nat.le_refl _)))
                clear hR3
                go_simp
                exact rel_enter_c hc.out
              simp only [Act.put, List.setIfInBounds_toArray, List.set_cons_zero, List.set_cons_succ]
              apply RelWalk.rest
              · kernel_rfl
              · intro X0 _ W hW hcl
                repeat (go_big_quiet_step (fail))
                exact wpQuiet_nil rfl
              intro gq w8 hg8 _
              simp only [Spread]
              intro vM _
              simp only [Act.put, List.setIfInBounds_toArray, List.set_cons_zero, List.set_cons_succ]
              have O8 := Lib.hid (OQ.out.bel hg8)
              clear hg8
              go_wp2_with fail
              go_ret
              exact ⟨ret_bool HE2.out.symm, O8.out.2.2⟩
          · obtain rfl : q = l[j].dom.length := by omega
            have HE2 := Lib.hid (HE.out.trans (show _ = (IDX && RESTT) by rw [List.drop_length]; rfl))
            have hdl16 : l[j].dom.length ≤ 20000 := by omega
            have HMR := Lib.hid (fun W vs vc vv va h => rmore_any b base (atP (l.take j)) (l.take j) (by rw [HVL.out]; omega) l[j].dom.length hdl16 W vs vc vv va h)
            have HVL2 : (moreP (atP (l.take j)) (l[j].dom.length : Int)).length ≤ 20000 := by rw [moreP_length, HVL.out]; omega
            have HCL : ∀ u ∈ l[j].idx, ClOk b base (moreP (atP (l.take j)) (l[j].dom.length : Int)) (l.take j) u := fun u hu => rclean_any b base hb (l.take j) (size u) u (Nat.le_refl _) (HIR.out u hu).1 _ (by have := (HIR.out u hu).2; omega) (varsOk_more HVO.out _)
            have HGD : ∀ u ∈ l[j].idx, GoOk b base (moreP (atP (l.take j)) (l[j].dom.length : Int)) (l.take j) c u := fun u hu => rgood_any b base hb _ (l.take j) (by omega) (varsOk_more HVO.out _) HAN.out c (size u) u (Nat.le_refl _) (HIR.out u hu).1 (by have := (HIR.out u hu).2; omega)
            have hil6 : l[j].idx.length ≤ 1000000 := by have h1 := length_le_sizeL l[j].idx; have h2 := HN.out _ (List.getElem_mem hlt); unfold argN at h2; omega
            have HI := Lib.hid (fun W vs vc vv va v (h1 : PAt W b (moreP (atP (l.take j)) (l[j].dom.length : Int)) (l.take j) vs vc vv va) (h2 : At W l[j].idx v) => by have h := rindices_any b base (moreP (atP (l.take j)) (l[j].dom.length : Int)) (l.take j) c k hk l[j].idx HIL.out.1 hil6 HCL HGD W vs vc vv va v h1 h2; rw [HIDX.out] at h; exact h)
            clear HE HVL2 HCL HGD hil6 hdl16
            cases IDX with
            | true =>
              have HE3 := Lib.hid (HE2.out.trans (show _ = RESTT from Bool.true_and _))
              clear HE2
              go_wp2_with fail
              clear m0 m1 m2 m3 m4 m5 m6
              refine wp_region_rel (by kernel_rfl) (by kernel_rfl) (by kernel_rfl) ?_
              apply RelWalk.next 7
              · kernel_rfl
              · intro X0 _ W hW hcl
                simp only [List.take_succ_cons, List.take_zero]
                obtain ⟨⟨x0, x1, x2, x3, x4, x5⟩, _⟩ := cells6 PQ.out.1
                have r0 := fun q => gcell (hW q) x0
                have r1 := fun q => gcell (hW q) x1
                have r2 := fun q => gcell (hW q) x2
                have r3 := fun q => gcell (hW q) x3
                have r4 := fun q => gcell (hW q) x4
                have r5 := fun q => gcell (hW q) x5
                have q4 := fun q => gcell (hW q) HM.out.1
                clear x0 x1 x2 x3 x4 x5
                repeat (go_big_quiet_step (fail))
                exact wpQuiet_nil rfl
              simp only [List.drop_succ_cons, List.drop_zero]
              refine RelWalk.made0 (fun v s e W => ∃ a c, v = .agg #[.slice ps b.sorts.length cs, .slice pc b.cons.length cc, .int .i64 b.elim, .int .i64 base, .slice a (moreP (atP (l.take j)) ((l[j].dom.length : Int))).length c, .slice (some ⟨bA, oA, none⟩) j cL] ∧ IRow W (moreP (atP (l.take j)) ((l[j].dom.length : Int))) (.slice a (moreP (atP (l.take j)) ((l[j].dom.length : Int))).length c)) rfl (by kernel_rfl) (by kernel_rfl) rfl (fun v s e W W' hg ⟨a, c, h1, h2⟩ => ⟨a, c, h1, h2.bel hg⟩) (fun w2 hg => ?_) ?_
              · have hc := Lib.hid (HMR.out w2 _ _ _ _ (PQ.out.2.1.bel hg))
                go_simp
                exact rel_enter (hc.out.mono fun e w3 ⟨a3, c3, he, hP3, hb3⟩ => ⟨_, he, hb3, a3, c3, rfl, hP3.2.1⟩)
              simp only [Act.put, List.setIfInBounds_toArray, List.set_cons_zero, List.set_cons_succ]
              apply RelWalk.next 11
              · kernel_rfl
              · intro X0 _ W hW hcl
                simp only [List.take_succ_cons, List.take_zero]
                have q4 := fun q => gcell (hW q) HM.out.1
                have q5 := fun q => gcell (hW q) HM.out.2.1
                have q6 := fun q => gcell (hW q) HM.out.2.2
                repeat (go_big_quiet_step (fail))
                exact wpQuiet_nil rfl
              simp only [List.drop_succ_cons, List.drop_zero]
              refine RelWalk.used1 (.bool true) rfl (by kernel_rfl) (by kernel_rfl) rfl (fun g w2 hg v1 hv1 => ?_) ?_
              · obtain ⟨a3, c3, rfl, hR3⟩ := hv1
                have hc := Lib.hid (HI.out w2 _ _ _ _ _ ⟨(PQ.out.2.1.bel hg).1, hR3, (PQ.out.2.1.bel hg).2.2⟩ (TT.out.2.2.bel hg (Nat.le_refl _)))
                clear hR3
                go_simp
                exact rel_enter_c hc.out
              simp only [Act.put, List.setIfInBounds_toArray, List.set_cons_zero, List.set_cons_succ]
              apply RelWalk.rest
              · kernel_rfl
              · intro X0 _ W hW hcl
                repeat (go_big_quiet_step (fail))
                exact wpQuiet_nil rfl
              intro gq w8 hg8 _
              simp only [Spread]
              intro vM _
              simp only [Act.put, List.setIfInBounds_toArray, List.set_cons_zero, List.set_cons_succ]
              have O8 := Lib.hid (OQ.out.bel hg8)
              have A8 := Lib.hid (ARow.bel hg8 AQ.out)
              clear hg8
              go_wp2_with fail
              go_roundw
              case rel => exact ⟨j + 1, by go_num, by omega, HE3.out.trans HRT.out.symm, O8.out, A8.out⟩
              case measure => simp [RowKit.intOf] <;> omega
            | false =>
              have HE3 := Lib.hid (HE2.out.trans (show _ = false from Bool.false_and _))
              clear HE2
              go_wp2_with fail
              clear m0 m1 m2 m3 m4 m5 m6
              refine wp_region_rel (by kernel_rfl) (by kernel_rfl) (by kernel_rfl) ?_
              apply RelWalk.next 7
              · kernel_rfl
              · intro X0 _ W hW hcl
                simp only [List.take_succ_cons, List.take_zero]
                obtain ⟨⟨x0, x1, x2, x3, x4, x5⟩, _⟩ := cells6 PQ.out.1
                have r0 := fun q => gcell (hW q) x0
                have r1 := fun q => gcell (hW q) x1
                have r2 := fun q => gcell (hW q) x2
                have r3 := fun q => gcell (hW q) x3
                have r4 := fun q => gcell (hW q) x4
                have r5 := fun q => gcell (hW q) x5
                have q4 := fun q => gcell (hW q) HM.out.1
                clear x0 x1 x2 x3 x4 x5
                repeat (go_big_quiet_step (fail))
                exact wpQuiet_nil rfl
              simp only [List.drop_succ_cons, List.drop_zero]
              refine RelWalk.made0 (fun v s e W => ∃ a c, v = .agg #[.slice ps b.sorts.length cs, .slice pc b.cons.length cc, .int .i64 b.elim, .int .i64 base, .slice a (moreP (atP (l.take j)) ((l[j].dom.length : Int))).length c, .slice (some ⟨bA, oA, none⟩) j cL] ∧ IRow W (moreP (atP (l.take j)) ((l[j].dom.length : Int))) (.slice a (moreP (atP (l.take j)) ((l[j].dom.length : Int))).length c)) rfl (by kernel_rfl) (by kernel_rfl) rfl (fun v s e W W' hg ⟨a, c, h1, h2⟩ => ⟨a, c, h1, h2.bel hg⟩) (fun w2 hg => ?_) ?_
              · have hc := Lib.hid (HMR.out w2 _ _ _ _ (PQ.out.2.1.bel hg))
                go_simp
                exact rel_enter (hc.out.mono fun e w3 ⟨a3, c3, he, hP3, hb3⟩ => ⟨_, he, hb3, a3, c3, rfl, hP3.2.1⟩)
              simp only [Act.put, List.setIfInBounds_toArray, List.set_cons_zero, List.set_cons_succ]
              apply RelWalk.next 11
              · kernel_rfl
              · intro X0 _ W hW hcl
                simp only [List.take_succ_cons, List.take_zero]
                have q4 := fun q => gcell (hW q) HM.out.1
                have q5 := fun q => gcell (hW q) HM.out.2.1
                have q6 := fun q => gcell (hW q) HM.out.2.2
                repeat (go_big_quiet_step (fail))
                exact wpQuiet_nil rfl
              simp only [List.drop_succ_cons, List.drop_zero]
              refine RelWalk.used1 (.bool false) rfl (by kernel_rfl) (by kernel_rfl) rfl (fun g w2 hg v1 hv1 => ?_) ?_
              · obtain ⟨a3, c3, rfl, hR3⟩ := hv1
                have hc := Lib.hid (HI.out w2 _ _ _ _ _ ⟨(PQ.out.2.1.bel hg).1, hR3, (PQ.out.2.1.bel hg).2.2⟩ (TT.out.2.2.bel hg (Nat.le_refl _)))
                clear hR3
                go_simp
                exact rel_enter_c hc.out
              simp only [Act.put, List.setIfInBounds_toArray, List.set_cons_zero, List.set_cons_succ]
              apply RelWalk.rest
              · kernel_rfl
              · intro X0 _ W hW hcl
                repeat (go_big_quiet_step (fail))
                exact wpQuiet_nil rfl
              intro gq w8 hg8 _
              simp only [Spread]
              intro vM _
              simp only [Act.put, List.setIfInBounds_toArray, List.set_cons_zero, List.set_cons_succ]
              have O8 := Lib.hid (OQ.out.bel hg8)
              clear hg8
              go_wp2_with fail
              go_ret
              exact ⟨ret_bool HE3.out.symm, O8.out.2.2⟩
    · obtain rfl : j = l.length := by omega
      go_wp2_with fail
      go_ret
      exact ⟨ret_bool (by rw [HE.out, List.drop_length]; rfl), OJ.out.2.2⟩
end Go.Proofs.YtggefpkfikimiaaGreat
