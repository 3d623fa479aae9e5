/- The program's isBlock and Check of package shape. No conditions but sizes. -/
import Derived.Test.YtcegocmndfoflaaZd
namespace Go.Proofs.Ytcegocmndfoflaa
open Go.RowKit
set_option linter.unusedVariables false

theorem GAt.take {α : Type} {sz : Nat} {C : α → List Value → Prop} {w : World} {l : List α} {a : Addr} {cap : Nat} (h : GAt sz C w l (.slice (some a) l.length cap)) {k : Nat} (hk : k ≤ l.length) : GAt sz C w (l.take k) (.slice (some a) k cap) := by
  by_cases h0 : k = 0
  · subst h0; exact .em a cap
  · obtain ⟨b, off, cap', cs, e, h1, h2, h3, h4⟩ := h.pos (by omega)
    cases e
    have hl : (l.take k).length = k := by simp; omega
    have := GAt.row (sz := sz) (C := C) (w := w) (l.take k) b off cap cs (by omega) (by omega) h2 (fun i hi => by rw [List.getElem_take]; exact h3 i (by omega)) (fun i hi r hr => h4 i (by omega) r hr)
    rwa [hl] at this
theorem step_eq {b : BlkT} {k : Nat} (hk : k ≤ b.sorts.length) (d : Bool) (a : ArgT) (i : Int) : stepE (b.sorts.take k) d a i = (stepOk b (k : Int) a i && !(d && a.r)) := by
  unfold stepE stepOk argOkS argOk
  cases hr : a.r with
  | false => simp
  | true =>
    cases d with
    | true => simp
    | false =>
      simp only [Bool.true_and, Bool.false_or, Bool.not_true, if_true, Bool.not_false, Bool.and_true]
      have hl : nsB ⟨b.sorts.take k, [], 0⟩ = (k : Int) := by simp [nsB]; omega
      have hn : nsB b = (b.sorts.length : Int) := rfl
      by_cases hz : inZ a.sort 0 ((k : Int) - 1) = true
      · obtain ⟨z1, z2⟩ := inZ_iff.1 hz
        have hz2 : inZ a.sort 0 (nsB b - 1) = true := by rw [inZ_iff, hn]; omega
        have hi : idxLen ⟨b.sorts.take k, [], 0⟩ a.sort = idxLen b a.sort := by
          unfold idxLen
          rw [List.getElem?_take, if_pos (by omega)]
        have hs : decide (a.sort < (k : Int)) = true := by simp; omega
        rw [hl, hz, hz2, hi, hs]
        generalize opensFrom a.dom i = A
        generalize opensAll a.idx (i + a.dom.length) = B
        generalize decide ((a.idx.length : Int) = idxLen b a.sort) = C
        generalize noneT a.ty = D
        by_cases h0 : a.dom.length = 0
        · have h1 : decide (0 < a.dom.length) = false := decide_eq_false (by omega)
          rw [h1, decide_eq_true h0]
          simp
        · have h1 : decide (0 < a.dom.length) = true := by rw [decide_eq_true_iff]; omega
          rw [h1, decide_eq_false h0]
          simp
      · have hz' : inZ a.sort 0 ((k : Int) - 1) = false := by simpa using hz
        rw [hl, hz']
        by_cases hs : a.sort < (k : Int)
        · have hz2 : inZ a.sort 0 (nsB b - 1) = false := by
            rw [Bool.eq_false_iff]; intro h; rw [inZ_iff] at h; apply hz; rw [inZ_iff]; omega
          rw [hz2]; simp
        · rw [decide_eq_false hs]; simp
theorem idx_eq {b : BlkT} {k : Nat} (hk : k ≤ b.sorts.length) (d : Bool) : ∀ (l : List ArgT) (i : Int), idxOkE (b.sorts.take k) d l i = (idxOk b (k : Int) l i && !(d && l.any (·.r)))
  | [], i => by simp [idxOkE, idxOk]
  | a :: l, i => by
    have h2 : idxOk b (k : Int) (a :: l) i = (stepOk b (k : Int) a i && idxOk b (k : Int) l (i + 1)) := rfl
    rw [idxOkE, idx_eq hk d l, step_eq hk, h2, List.any_cons]
    generalize stepOk b (k : Int) a i = A
    generalize idxOk b (k : Int) l (i + 1) = B
    generalize l.any (·.r) = C
    cases A <;> cases B <;> cases C <;> cases d <;> cases a.r <;> rfl
theorem sortOk_eq (b : BlkT) {k : Nat} (hk : k ≤ b.sorts.length) (s : SortT) : sortOk b s (k : Int) = sortOkE (b.sorts.take k) s := by
  unfold sortOk sortOkE decT?
  rw [idx_eq hk]
  generalize decide (s.idx.length ≤ 12) = A
  generalize inZ s.level 0 6 = B
  generalize idxOk b (k : Int) s.idx 0 = C
  generalize s.idx.any (·.r) = D
  generalize openT s.decT s.idx.length = E
  generalize noneT s.decT = F
  cases s.dec <;> cases A <;> cases B <;> cases C <;> cases D <;> cases E <;> cases F <;> rfl
set_option maxRecDepth 100000 in
set_option maxHeartbeats 2000000 in
theorem sisblock_any (b : BlkT) (hsb : blkN b ≤ 1048576) (hF : b.fits) (w : World) (vs vc : Value) (hB : BAt w b vs vc) :
    Calls Try.prog 44 #[.agg #[vs, vc, .int .i64 b.elim]] w fun e w' => e = .returned (.bool (shapeB b)) ∧ Below w.heap.size w w' := by
  obtain ⟨ps, cs, pc, cc, rfl, rfl⟩ := hB.shape
  have hls := sortsN_len b.sorts
  have hlc := consN_len b.cons
  have hbn : blkN b = sortsN b.sorts + consN b.cons + 1 := rfl
  obtain ⟨hFs, hFc, hFe⟩ := hF
  have O0 := Lib.hid (oneb_start w b _ _ hB)
  clear hB
  have hnl : b.sorts.length ≤ 1048576 := by omega
  have hcl : b.cons.length ≤ 1048576 := by omega
  have RL := Lib.hid (fun W => slevel_any b.elim W)
  have RS : Hid (∀ k (h : k < b.sorts.length) W v0 v1 v2, SRow W (b.sorts.take k) v0 → ARow W b.sorts[k].idx v1 → At W b.sorts[k].decT.kids v2 → Calls Try.prog 57 #[v0, .agg #[v1, .int .i64 b.sorts[k].level, .bool b.sorts[k].dec, .int .i64 b.sorts[k].decT.k, .int .i64 b.sorts[k].decT.n, v2]] W fun e w' => e = .returned (.bool (sortOk b b.sorts[k] (k : Int))) ∧ Below W.heap.size W w') :=
    fun k h W v0 v1 v2 g0 g1 g2 => by
      rw [sortOk_eq b (by omega) b.sorts[k]]
      exact ssort_any (b.sorts.take k) (by simp; omega) b.sorts[k] (by have := sortN_le (List.getElem_mem h); omega) (hFs _ (List.getElem_mem h)) W v0 v1 v2 g0 g1 g2
  have RC : Hid (∀ k (h : k < b.cons.length) W v0 v1 v2 v3, SRow W b.sorts v0 → ARow W b.cons[k].args v1 → At W b.cons[k].idx v2 → At W b.cons[k].dec.kids v3 → Calls Try.prog 58 #[v0, .agg #[.int .i64 b.cons[k].sort, v1, v2, .int .i64 b.cons[k].dec.k, .int .i64 b.cons[k].dec.n, v3]] W fun e w' => e = .returned (.bool (conOk b b.cons[k])) ∧ Below W.heap.size W w') :=
    fun k h W v0 v1 v2 v3 g0 g1 g2 g3 => by
      rw [conOkS_eq b b.cons[k]]
      exact scon_any b.sorts hnl b.cons[k] (by have := conN_le (List.getElem_mem h); omega) (hFc _ (List.getElem_mem h)) W v0 v1 v2 v3 g0 g1 g2 g3
  have HX : Hid (shapeB b = (inZ (nsB b) 1 4 && decide (b.cons.length ≤ 8) && inZ b.elim 0 6 && sortsOk b b.sorts 0 && b.cons.all (conOk b))) := rfl
  have hnn : nsB b = (b.sorts.length : Int) := rfl
  clear hls hlc hbn hFs hFc hFe
  by_cases h1 : b.sorts.length < 1
  · have q1 : decide ((b.sorts.length : Int) < 1) = true := by rw [decide_eq_true_iff]; omega
    have HE : Hid (shapeB b = false) := by unfold Hid; rw [HX.out, show inZ (nsB b) 1 4 = false by rw [Bool.eq_false_iff]; intro h; rw [inZ_iff] at h; omega]; rfl
    obtain ⟨n, hn⟩ : ∃ n : Nat, b.sorts.length = n := ⟨_, rfl⟩
    rw [hn] at q1 O0
    have q0 : ((n : Int) < 1) = True := eq_true (by simpa using q1)
    go_enter Try.func44, Try.ntmps44
    rw [hn]
    clear hn
    go_wp2_with fail
    go_ret
    exact ⟨ret_bool HE.out.symm, O0.out.2.2⟩
  have q1 : decide ((b.sorts.length : Int) < 1) = false := decide_eq_false (by omega)
  have q1b : ((b.sorts.length : Int) < 1) = False := eq_false (by omega)
  by_cases h2 : b.sorts.length ≤ 4
  rotate_left
  · have q2 : decide ((4 : Int) < (b.sorts.length : Int)) = true := by simp; omega
    have HE : Hid (shapeB b = false) := by unfold Hid; rw [HX.out, show inZ (nsB b) 1 4 = false by rw [Bool.eq_false_iff]; intro h; rw [inZ_iff] at h; omega]; rfl
    clear h1 h2
    go_enter Try.func44, Try.ntmps44
    go_wp2_with fail
    go_ret
    exact ⟨ret_bool HE.out.symm, O0.out.2.2⟩
  have q2 : decide ((4 : Int) < (b.sorts.length : Int)) = false := by simp; omega
  by_cases h3 : b.cons.length ≤ 8
  rotate_left
  · have q3 : decide ((8 : Int) < (b.cons.length : Int)) = true := by simp; omega
    have HE : Hid (shapeB b = false) := by unfold Hid; rw [HX.out, decide_eq_false h3]; simp
    clear h1 h2 h3
    go_enter Try.func44, Try.ntmps44
    go_wp2_with fail
    go_ret
    exact ⟨ret_bool HE.out.symm, O0.out.2.2⟩
  have q3 : decide ((8 : Int) < (b.cons.length : Int)) = false := by simp; omega
  cases h4 : inZ b.elim 0 6 with
  | false =>
    rw [h4] at RL
    have HE : Hid (shapeB b = false) := by unfold Hid; rw [HX.out, h4]; simp
    clear h1 h2 h3 h4
    go_enter Try.func44, Try.ntmps44
    go_wp2_with fail
    refine (RL.out _).mono ?_
    rintro e w1 ⟨rfl, rfl⟩
    go_wp2_with fail
    go_ret
    exact ⟨ret_bool HE.out.symm, O0.out.2.2⟩
  | true =>
  rw [h4] at RL
  have HE : Hid (shapeB b = (sortsOk b b.sorts 0 && b.cons.all (conOk b))) := by unfold Hid; rw [HX.out, h4, decide_eq_true h3, show inZ (nsB b) 1 4 = true by rw [inZ_iff]; omega]; rfl
  clear h1 h2 h3 h4 HX
  go_enter Try.func44, Try.ntmps44
  go_wp2_with fail
  refine (RL.out _).mono ?_
  rintro e w1 ⟨rfl, rfl⟩
  go_wp2_with fail
  clear RL q1 q2 q3 q1b
  go_loopw [32] (fun x wr => ∃ j : Nat, j ≤ b.sorts.length ∧ x = .int .i64 j ∧ shapeB b = (sortsOk b (b.sorts.drop j) (j : Int) && b.cons.all (conOk b)) ∧ OneB w w.heap.size b (.slice ps b.sorts.length cs) (.slice pc b.cons.length cc) wr) (fun x _ => b.sorts.length - (RowKit.intOf x).toNat)
  case atStart => exact ⟨0, Nat.zero_le _, rfl, by rw [List.drop_zero, HE.out]; rfl, O0.out⟩
  case round =>
    clear HE O0
    obtain ⟨j, hj, rfl, he, hO⟩ := hrel
    by_cases hlt : j < b.sorts.length
    · have hsr := hO.2.1.1
      obtain ⟨B, off, ua, ut, rfl, ga, gt, k0, k1, k2, k3, k4, k5⟩ := SRow.at hsr hlt
      have hjc : j ≤ cs := by
        obtain ⟨_, _, c', _, e, h1, _⟩ := hsr.pos (by omega)
        cases e; omega
      have hjci : (j : Int) ≤ (cs : Int) := by omega
      obtain ⟨p1, c1, e1⟩ := ga.shape
      obtain ⟨p2, c2, e2⟩ := gt.shape
      subst e1 e2
      have hji : (j : Int) < (b.sorts.length : Int) := by omega
      have hj0 : (0 : Int) ≤ (j : Int) := by omega
      have hO2 := sts_start wr b.sorts b.sorts[j] _ _ _ hsr ga gt
      have hO3 := hO.bel hO2.2.2
      obtain ⟨w1, hw1⟩ : ∃ w1, w1 = wr.alloc (.cells #[.slice p1 b.sorts[j].idx.length c1, .int .i64 b.sorts[j].level, .bool b.sorts[j].dec, .int .i64 b.sorts[j].decT.k, .int .i64 b.sorts[j].decT.n, .slice p2 b.sorts[j].decT.kids.length c2] 44) := ⟨_, rfl⟩
      rw [← hw1] at hO2 hO3
      have CO := Lib.hid (fun W (hW : Below w1.heap.size w1 W) => RS.out j hlt W _ _ _ (GAt.bel hW (sortC_bel hW) (GAt.take hO2.2.1 (k := j) (by omega))) (ARow.bel hW hO2.1.2.1) (hO2.1.2.2.bel hW (Nat.le_refl _)))
      have OS := Lib.hid hO2
      have OB := Lib.hid hO3
      have HW := Lib.hid hw1
      rw [sortsOk_drop hlt] at he
      have HEE := Lib.hid he
      have HSR := Lib.hid hsr
      clear ga gt hO hO2 hO3 hw1 he hsr
      cases h5 : sortOk b b.sorts[j] (j : Int) with
      | false =>
        rw [h5] at CO HEE
        have HE : Hid (shapeB b = false) := by unfold Hid; rw [HEE.out]; rfl
        clear h5
        go_upto_region 6 with (fail)
        rw [← HW.out]
        clear k0 k1 k2 k3 k4 k5
        refine wp_region_rel (by kernel_rfl) (by kernel_rfl) (by kernel_rfl) ?_
        apply RelWalk.rest
        · kernel_rfl
        · intro X _ W hW hcl
          obtain ⟨s0, s1, s2, s3, s4, s5⟩ := OS.out.1.cells
          obtain ⟨y0, y1, y2⟩ := OB.out.cells
          have rS0 := fun q => gcell (hW q) s0
          have rS1 := fun q => gcell (hW q) s1
          have rS2 := fun q => gcell (hW q) s2
          have rS3 := fun q => gcell (hW q) s3
          have rS4 := fun q => gcell (hW q) s4
          have rS5 := fun q => gcell (hW q) s5
          have rB0 := fun q => gcell (hW q) y0
          clear s0 s1 s2 s3 s4 s5 y0 y1 y2
          have d0 := Lib.hid (fun q => into hcl (CO.out (W q) (hW q)))
          repeat (go_big_quiet_step (first | (with_reducible exact d0.out _)))
          exact wpQuiet_nil rfl
        intro gq w6 hg _
        have O6 := Lib.hid (OB.out.bel hg)
        clear hg
        simp only [Spread]
        go_wp2_with fail
        go_ret
        exact ⟨ret_bool HE.out.symm, O6.out.2.2⟩
      | true =>
        rw [h5] at CO HEE
        have HE : Hid (shapeB b = (sortsOk b (b.sorts.drop (j + 1)) ((j + 1 : Nat) : Int) && b.cons.all (conOk b))) := by unfold Hid; rw [HEE.out, Bool.true_and]
        clear h5
        go_upto_region 6 with (fail)
        rw [← HW.out]
        clear k0 k1 k2 k3 k4 k5
        refine wp_region_rel (by kernel_rfl) (by kernel_rfl) (by kernel_rfl) ?_
        apply RelWalk.rest
        · kernel_rfl
        · intro X _ W hW hcl
          obtain ⟨s0, s1, s2, s3, s4, s5⟩ := OS.out.1.cells
          obtain ⟨y0, y1, y2⟩ := OB.out.cells
          have rS0 := fun q => gcell (hW q) s0
          have rS1 := fun q => gcell (hW q) s1
          have rS2 := fun q => gcell (hW q) s2
          have rS3 := fun q => gcell (hW q) s3
          have rS4 := fun q => gcell (hW q) s4
          have rS5 := fun q => gcell (hW q) s5
          have rB0 := fun q => gcell (hW q) y0
          clear s0 s1 s2 s3 s4 s5 y0 y1 y2
          have d0 := Lib.hid (fun q => into hcl (CO.out (W q) (hW q)))
          repeat (go_big_quiet_step (first | (with_reducible exact d0.out _)))
          exact wpQuiet_nil rfl
        intro gq w6 hg _
        have O6 := Lib.hid (OB.out.bel hg)
        clear hg
        simp only [Spread]
        go_wp2_with fail
        go_roundw
        case rel => exact ⟨j + 1, hlt, by go_num, HE.out, O6.out⟩
        case measure => simp [RowKit.intOf]; omega
    · obtain rfl : j = b.sorts.length := by omega
      have hnl2 : ¬ (b.sorts.length : Int) < (b.sorts.length : Int) := by omega
      have HE : Hid (shapeB b = b.cons.all (conOk b)) := by unfold Hid; rw [he, List.drop_length]; rfl
      have O1 := Lib.hid hO
      obtain ⟨y0, y1, y2⟩ := O1.out.cells
      clear he hO RS hlt hj
      go_wp2_with fail
      clear y0 y1 y2 hnl2
      go_loopw [48] (fun x wr => ∃ j : Nat, j ≤ b.cons.length ∧ x = .int .i64 j ∧ shapeB b = (b.cons.drop j).all (conOk b) ∧ OneB w w.heap.size b (.slice ps b.sorts.length cs) (.slice pc b.cons.length cc) wr) (fun x _ => b.cons.length - (RowKit.intOf x).toNat)
      case atStart => exact ⟨0, Nat.zero_le _, rfl, by rw [List.drop_zero, HE.out], O1.out⟩
      case round =>
        clear HE O1
        obtain ⟨j, hj, rfl, he, hO⟩ := hrel
        by_cases hlt : j < b.cons.length
        · obtain ⟨B, off, ua, ui, ut, rfl, ga, gi, gt, k0, k1, k2, k3, k4, k5⟩ := CRow.at hO.2.1.2 hlt
          obtain ⟨p1, c1, e1⟩ := ga.shape
          obtain ⟨p2, c2, e2⟩ := gi.shape
          obtain ⟨p3, c3, e3⟩ := gt.shape
          subst e1 e2 e3
          have hji : (j : Int) < (b.cons.length : Int) := by omega
          have hj0 : (0 : Int) ≤ (j : Int) := by omega
          have hO2 := stc_start wr b.sorts b.cons[j] _ _ _ _ hO.2.1.1 ga gi gt
          have hO3 := hO.bel hO2.2.2
          obtain ⟨w1, hw1⟩ : ∃ w1, w1 = wr.alloc (.cells #[.int .i64 b.cons[j].sort, .slice p1 b.cons[j].args.length c1, .slice p2 b.cons[j].idx.length c2, .int .i64 b.cons[j].dec.k, .int .i64 b.cons[j].dec.n, .slice p3 b.cons[j].dec.kids.length c3] 46) := ⟨_, rfl⟩
          rw [← hw1] at hO2 hO3
          have CO := Lib.hid (RC.out j hlt w1 _ _ _ _ hO2.2.1 hO2.1.2.1 hO2.1.2.2.1 hO2.1.2.2.2)
          have OS := Lib.hid hO2
          have OB := Lib.hid hO3
          have HW := Lib.hid hw1
          rw [all_dropA hlt] at he
          have HEE := Lib.hid he
          clear ga gi gt hO hO2 hO3 hw1 he
          cases h5 : conOk b b.cons[j] with
          | false =>
            rw [h5] at CO HEE
            have HE : Hid (shapeB b = false) := by unfold Hid; rw [HEE.out]; rfl
            clear h5
            go_upto_region 12 with (fail)
            rw [← HW.out]
            clear k0 k1 k2 k3 k4 k5
            obtain ⟨s0, s1, s2, s3, s4, s5⟩ := OS.out.1.cells
            obtain ⟨y0, y1, y2⟩ := OB.out.cells
            go_wp2_with fail
            refine CO.out.mono ?_
            rintro e w6 ⟨rfl, hb6⟩
            have O6 := Lib.hid (OB.out.bel hb6)
            clear hb6 s0 s1 s2 s3 s4 s5 y0 y1 y2
            go_wp2_with fail
            go_ret
            exact ⟨ret_bool HE.out.symm, O6.out.2.2⟩
          | true =>
            rw [h5] at CO HEE
            have HE : Hid (shapeB b = (b.cons.drop (j + 1)).all (conOk b)) := by unfold Hid; rw [HEE.out, Bool.true_and]
            clear h5
            go_upto_region 12 with (fail)
            rw [← HW.out]
            clear k0 k1 k2 k3 k4 k5
            obtain ⟨s0, s1, s2, s3, s4, s5⟩ := OS.out.1.cells
            obtain ⟨y0, y1, y2⟩ := OB.out.cells
            go_wp2_with fail
            refine CO.out.mono ?_
            rintro e w6 ⟨rfl, hb6⟩
            have O6 := Lib.hid (OB.out.bel hb6)
            clear hb6 s0 s1 s2 s3 s4 s5 y0 y1 y2
            go_wp2_with fail
            go_roundw
            case rel => exact ⟨j + 1, hlt, by go_num, HE.out, O6.out⟩
            case measure => simp [RowKit.intOf]; omega
        · obtain rfl : j = b.cons.length := by omega
          have hnl2 : ¬ (b.cons.length : Int) < (b.cons.length : Int) := by omega
          have HE : Hid (shapeB b = true) := by unfold Hid; rw [he, List.drop_length]; rfl
          have O1 := Lib.hid hO
          clear he hO
          go_wp2_with fail
          go_ret
          exact ⟨ret_bool HE.out.symm, O1.out.2.2⟩
set_option maxRecDepth 100000 in
set_option maxHeartbeats 1000000 in
theorem scheck_any (b : BlkT) (hsb : blkN b ≤ 1048576) (hF : b.fits) (w : World) (vs vc : Value) (hB : BAt w b vs vc) :
    Calls Try.prog 13 #[.agg #[vs, vc, .int .i64 b.elim]] w fun e w' => e = .returned (.int .i64 (if shapeB b then 0 else 12)) ∧ Below w.heap.size w w' := by
  obtain ⟨ps, cs, pc, cc, rfl, rfl⟩ := hB.shape
  have O0 := Lib.hid (oneb_start w b _ _ hB)
  have C := Lib.hid (sisblock_any b hsb hF _ _ _ O0.out.2.1)
  clear hB
  cases h : shapeB b with
  | true =>
    rw [h] at C
    go_enter Try.func13, Try.ntmps13
    go_wp2_with fail
    refine C.out.mono ?_
    rintro e w1 ⟨rfl, hb1⟩
    have O1 := Lib.hid (O0.out.bel hb1)
    clear hb1
    go_wp2_with fail
    go_ret
    exact ⟨ret_int rfl, O1.out.2.2⟩
  | false =>
    rw [h] at C
    go_enter Try.func13, Try.ntmps13
    go_wp2_with fail
    refine C.out.mono ?_
    rintro e w1 ⟨rfl, hb1⟩
    have O1 := Lib.hid (O0.out.bel hb1)
    clear hb1
    go_wp2_with fail
    go_ret
    exact ⟨ret_int rfl, O1.out.2.2⟩
end Go.Proofs.Ytcegocmndfoflaa
