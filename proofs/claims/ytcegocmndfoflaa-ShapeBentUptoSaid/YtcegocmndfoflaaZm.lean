/- ShapeBent: the Go text returns true for any block and numbers. No conditions but sizes. -/
import Derived.Test.YtcegocmndfoflaaZh
import Derived.Test.YtcegocmndfoflaaZo
import Derived.Test.YtcegocmndfoflaaLb
namespace Go.Proofs.Ytcegocmndfoflaa
open Go.RowKit Go.Joins
set_option linter.unusedVariables false

theorem mod8 (a : Int) : (IntKind.u64.wrap a).tmod 8 = 0 ∨ (IntKind.u64.wrap a).tmod 8 = 1 ∨ (IntKind.u64.wrap a).tmod 8 = 2 ∨ (IntKind.u64.wrap a).tmod 8 = 3 ∨ (IntKind.u64.wrap a).tmod 8 = 4 ∨ (IntKind.u64.wrap a).tmod 8 = 5 ∨ (IntKind.u64.wrap a).tmod 8 = 6 ∨ (IntKind.u64.wrap a).tmod 8 = 7 := by
  have hu := u64_nonneg' a
  rw [Int.tmod_eq_emod_of_nonneg hu]
  omega
set_option maxRecDepth 100000 in
set_option maxHeartbeats 8000000 in
theorem lsbent_any (b : BlkT) (hs : blkN b ≤ 1048576) (hF : b.fits) (what k : Int) (w : World) (vs vc : Value) (hA : BAt w b vs vc) :
    Calls Try.prog 5 #[.agg #[vs, vc, .int .i64 b.elim], .int .i64 what, .int .i64 k] w fun e w' => e = .returned (.bool true) ∧ Below w.heap.size w w' := by
  obtain ⟨ps, cs, pc, cc, rfl, rfl⟩ := hA.shape
  have hls := sortsN_len b.sorts
  have hlc := consN_len b.cons
  have hbn : blkN b = sortsN b.sorts + consN b.cons + 1 := rfl
  have O0 := Lib.hid (oneb_start w b _ _ hA)
  have HV := Lib.hid (heavyblk_any b hs _ _ _ O0.out.2.1)
  have HWK := Lib.hid (fun w => wakes7_any w)
  have RS := Lib.hid (fun W hA => rshape_any b hs hF W (.slice ps b.sorts.length cs) (.slice pc b.cons.length cc) hA)
  have HA0 := Lib.hid hA
  clear hA
  cases hh : heavyBlk b with
  | true =>
    rw [hh] at HV
    clear hh
    go_enter Try.func5, Try.ntmps5
    go_wp2_with fail
    refine HV.out.mono ?_
    rintro e w1 ⟨rfl, hb⟩
    have O1 := Lib.hid (O0.out.bel hb)
    clear hb
    go_wp2_with fail
    go_ret
    exact ⟨ret_bool rfl, O1.out.2.2⟩
  | false =>
  rw [hh] at HV
  clear hh
  cases hsh : shapeB b with
  | false =>
    rw [hsh] at RS
    clear hsh
    go_enter Try.func5, Try.ntmps5
    go_wp2_with fail
    refine HV.out.mono ?_
    rintro e w1 ⟨rfl, hb⟩
    have O1 := Lib.hid (O0.out.bel hb)
    clear hb
    obtain ⟨x0, x1, x2⟩ := O1.out.cells
    go_wp2_with fail
    refine (RS.out _ O1.out.2.1).mono ?_
    rintro e w2 ⟨rfl, hb⟩
    have O2 := Lib.hid (O1.out.bel hb)
    clear hb x0 x1 x2
    go_wp2_with fail
    go_ret
    exact ⟨ret_bool rfl, O2.out.2.2⟩
  | true =>
  rw [hsh] at RS
  by_cases hc0 : b.cons.length = 0
  · have q0 : ((b.cons.length : Int) == 0) = true := by rw [beq_iff_eq]; omega
    have q1 : ((b.cons.length : Int) = 0) = True := eq_true (by omega)
    clear hsh hc0
    go_enter Try.func5, Try.ntmps5
    go_wp2_with fail
    refine HV.out.mono ?_
    rintro e w1 ⟨rfl, hb⟩
    have O1 := Lib.hid (O0.out.bel hb)
    clear hb
    obtain ⟨x0, x1, x2⟩ := O1.out.cells
    go_wp2_with fail
    refine (RS.out _ O1.out.2.1).mono ?_
    rintro e w2 ⟨rfl, hb⟩
    have O2 := Lib.hid (O1.out.bel hb)
    clear hb x0 x1 x2
    obtain ⟨x0, x1, x2⟩ := O2.out.cells
    go_wp2_with fail
    go_ret
    exact ⟨ret_bool rfl, O2.out.2.2⟩
  have HSH := Lib.hid hsh
  have hparts := shape_parts hsh
  obtain ⟨s1, s2, s3, s4, s5⟩ := hparts
  obtain ⟨n1, n4⟩ := inZ_iff.1 s1
  have hnn : nsB b = (b.sorts.length : Int) := rfl
  have SB : Hid (∀ W, BAt W b (.slice ps b.sorts.length cs) (.slice pc b.cons.length cc) → Calls Try.prog 13 #[.agg #[(.slice ps b.sorts.length cs), (.slice pc b.cons.length cc), .int .i64 b.elim]] W fun e w' => e = .returned (.int .i64 0) ∧ Below W.heap.size W w') := fun W hA => by
    have hc := s7check_any b hs hF W (.slice ps b.sorts.length cs) (.slice pc b.cons.length cc) hA
    rw [hsh] at hc
    exact hc
  have hr3 := mod_range k (b.cons.length : Int) (by omega) (by omega)
  have hq2 : IntKind.u64.wrap (b.cons.length : Int) = (b.cons.length : Int) := by rw [IntKind.wrap_u64]; omega
  have hq5 : ((b.cons.length : Int) == 0) = false := by rw [beq_eq_false_iff_ne]; omega
  have hq7 : ((b.cons.length : Int) = 0) = False := eq_false (by omega)
  have hns : 0 < b.sorts.length := by omega
  have hns4 : b.sorts.length ≤ 4 := by omega
  have hm8 := mod8 what
  clear hsh s1 s3 s4 n1 n4 hls hlc hbn hc0
  go_enter Try.func5, Try.ntmps5
  go_wp2_with fail
  refine HV.out.mono ?_
  rintro e w1 ⟨rfl, hb⟩
  have O1 := Lib.hid (O0.out.bel hb)
  clear hb O0 HV
  obtain ⟨x0, x1, x2⟩ := O1.out.cells
  go_wp2_with fail
  refine (RS.out _ O1.out.2.1).mono ?_
  rintro e w2 ⟨rfl, hb⟩
  have O2 := Lib.hid (O1.out.bel hb)
  clear hb x0 x1 x2 O1 RS
  obtain ⟨x0, x1, x2⟩ := O2.out.cells
  go_wp2_with fail
  refine (twinblk_any b hs _ _ _ O2.out.2.1).mono ?_
  rintro e w3 ⟨a1, d1, a2, d2, rfl, hT, hb⟩
  have O3 := Lib.hid (O2.out.bel hb)
  have HT := Lib.hid hT
  have hz2 : w.heap.size < w2.heap.size := (Array.getElem?_eq_some_iff.1 O2.out.1).1
  have hz3 := hb.size
  have ha4 := below_al w3 (.cells #[.slice a1 b.sorts.length d1, .slice a2 b.cons.length d2, .int .i64 b.elim] 25)
  have hn4 := World.alloc_heap_new w3 (.cells #[.slice a1 b.sorts.length d1, .slice a2 b.cons.length d2, .int .i64 b.elim] 25)
  have hz4 := World.size_alloc w3 (.cells #[.slice a1 b.sorts.length d1, .slice a2 b.cons.length d2, .int .i64 b.elim] 25)
  have h5 := O3.out.bel ha4
  obtain ⟨w4, hw4⟩ : ∃ w4, w4 = w3.alloc (.cells #[.slice a1 b.sorts.length d1, .slice a2 b.cons.length d2, .int .i64 b.elim] 25) := ⟨_, rfl⟩
  rw [← hw4] at h5 hn4 hz4 ha4
  have H5 := Lib.hid h5
  have HN4 := Lib.hid hn4
  have HBO := Lib.hid (hT.grw ha4)
  have HW := Lib.hid hw4
  have HA4 := Lib.hid ha4
  clear x0 x1 x2 hb hT O2 h5 hn4 hw4 ha4
  obtain ⟨x0, x1, x2⟩ := H5.out.cells
  rw [HW.out] at x0 x1 x2
  go_upto_region 7 with (fail)
  clear x0 x1 x2
  generalize wrap64 ((IntKind.u64.wrap k).tmod (b.cons.length : Int)) = kk at *
  obtain ⟨k0, k1⟩ := hr3
  obtain ⟨K, rfl⟩ : ∃ K : Nat, kk = (K : Int) := ⟨kk.toNat, by omega⟩
  have hK : K < b.cons.length := by omega
  have hKi : (K : Int) < (b.cons.length : Int) := by omega
  have hK0 : (0 : Int) ≤ (K : Int) := by omega
  clear hq2 hq5 hq7 k0 k1
  generalize (IntKind.u64.wrap what).tmod 8 = mm at *
  rcases hm8 with hm | hm | hm | hm | hm | hm | hm | hm
  · skip
    subst hm
    obtain ⟨x, hx⟩ : ∃ x : BlkT, x = { b with sorts := [] } := ⟨_, rfl⟩
    have hxb : BAt w3 x (.slice none 0 0) (.slice a2 b.cons.length d2) := by rw [hx]; exact ⟨.nl, HT.out.at.2⟩
    have h6 := oneb_start w3 x _ _ hxb
    have h7 := O3.out.bel h6.2.2
    rw [show x.elim = b.elim by rw [hx]] at h6 h7
    obtain ⟨w5, hw5⟩ : ∃ w5, w5 = w3.alloc (.cells #[.slice none 0 0, .slice a2 b.cons.length d2, .int .i64 b.elim] 25) := ⟨_, rfl⟩
    rw [← hw5] at h6 h7
    have HB := Lib.hid h7
    have HX : Hid (OneB w w3.heap.size x (.slice none 0 0) (.slice a2 b.cons.length d2) w5) := ⟨h6.1, h6.2.1, h7.2.2⟩
    have HW5 := Lib.hid hw5
    clear h6 h7 hw5 hxb
    have SX : Hid (∀ W, BAt W x (.slice none 0 0) (.slice a2 b.cons.length d2) → Calls Try.prog 13 #[.agg #[(.slice none 0 0), (.slice a2 b.cons.length d2), .int .i64 x.elim]] W fun e w' => e = .returned (.int .i64 12) ∧ Below W.heap.size W w') := fun W hA => by
      have hc := scheckG_any x (by rw [hx]; exact small_nosorts hs) (by rw [hx]; exact ⟨(fun s h => by cases h), hF.2.1, hF.2.2⟩) W (.slice none 0 0) (.slice a2 b.cons.length d2) hA
      rw [show shapeB x = false by rw [hx]; exact bent_nosorts b] at hc
      exact hc
    clear hx
    go_upto_region 26 with (fail)
    rw [← HW5.out]
    clear HW5
    obtain ⟨x0, x1, x2⟩ := HB.out.cells
    obtain ⟨y0, y1, y2⟩ := HX.out.cells
    go_wp2_with fail
    refine (SB.out _ HB.out.2.1).mono ?_
    rintro e wa ⟨rfl, hb⟩
    have HB1 := Lib.hid (HB.out.bel hb)
    have HX1 := Lib.hid (HX.out.bel hb)
    clear hb x0 x1 x2 y0 y1 y2 HB HX
    obtain ⟨y0, y1, y2⟩ := HX1.out.cells
    go_wp2_with fail
    refine (SX.out _ HX1.out.2.1).mono ?_
    rintro e wb ⟨rfl, hb⟩
    have HB2 := Lib.hid (HB1.out.bel hb)
    clear hb y0 y1 y2 HB1 HX1
    go_wp2_with fail
    refine (HWK.out _).mono ?_
    rintro e wc ⟨rfl, hb⟩
    have HB3 := Lib.hid (HB2.out.bel hb)
    clear hb
    go_wp2_with fail
    go_ret
    exact ⟨ret_bool rfl, HB3.out.2.2⟩
  · skip
    subst hm
    rw [← HW.out]
    clear HW
    obtain ⟨s, l, hbs⟩ : ∃ s l, b.sorts = s :: l := by cases h : b.sorts with | nil => rw [h] at hns; simp at hns | cons s l => exact ⟨s, l, rfl⟩
    obtain ⟨g, cap, hus, hg1, hg2, gc, gf, hbat⟩ := HBO.out.sort0 hbs
    cases hus
    obtain ⟨x, hx⟩ : ∃ x : BlkT, x = { b with sorts := { s with level := 7 } :: l } := ⟨_, rfl⟩
    have hxe : x.elim = b.elim := by rw [hx]
    have hbx := hbat 7
    rw [← hx] at hbx
    have hgM : g ≠ w3.heap.size := fun e => by have h1 := cellOf HN4.out 1; rw [← e] at h1; rw [gc] at h1; cases h1
    obtain ⟨⟨y0, y1, y2⟩, v0, v1, v2⟩ := boxc HN4.out
    have hnsi : (0 : Int) < (b.sorts.length : Int) := by omega
    have blk0 : (w4.setCell ⟨g, 1, none⟩ (.int .i64 7)).heap[w.heap.size]? = w4.heap[w.heap.size]? := Below.heap_setCell _ _ _ _ (by simp; omega)
    have hbM : (w4.setCell ⟨g, 1, none⟩ (.int .i64 7)).heap[w3.heap.size]? = w4.heap[w3.heap.size]? := Below.heap_setCell _ _ _ _ (by simp; omega)
    have SX : Hid (∀ W, BAt W x (.slice (some ⟨g, 0, none⟩) b.sorts.length d1) (.slice a2 b.cons.length d2) → Calls Try.prog 13 #[.agg #[(.slice (some ⟨g, 0, none⟩) b.sorts.length d1), (.slice a2 b.cons.length d2), .int .i64 x.elim]] W fun e w' => e = .returned (.int .i64 12) ∧ Below W.heap.size W w') := fun W hA => by
      have hc := scheckG_any x (by rw [hx]; exact small_level hs hbs 7) (by rw [hx]; exact fits_level hF hbs (by unfold I64; decide)) W (.slice (some ⟨g, 0, none⟩) b.sorts.length d1) (.slice a2 b.cons.length d2) hA
      rw [show shapeB x = false by rw [hx]; exact bent_level b s l hbs] at hc
      exact hc
    have hbel : Below w.heap.size w (w4.setCell ⟨g, 1, none⟩ (.int .i64 7)) := H5.out.2.2.trans ((Below.refl w.heap.size w4).setCell (p := ⟨g, 1, none⟩) (by simp; omega) _)
    have HB : Hid (OneB w w.heap.size b (.slice ps b.sorts.length cs) (.slice pc b.cons.length cc) (w4.setCell ⟨g, 1, none⟩ (.int .i64 7))) := ⟨blk0.trans H5.out.1, HA0.out.bel hbel, hbel⟩
    have HX : Hid (OneB w w3.heap.size x (.slice (some ⟨g, 0, none⟩) b.sorts.length d1) (.slice a2 b.cons.length d2) (w4.setCell ⟨g, 1, none⟩ (.int .i64 7))) := ⟨by rw [hxe]; exact hbM.trans HN4.out, hbx, hbel⟩
    have HBS := Lib.hid hbs
    clear hx hbx hbel blk0 hbM hbat hbs hxe
    go_upto_region 26 with (fail)
    clear y0 y1 y2 v0 v1 v2 gc gf
    revert HB HX
    generalize w4.setCell ⟨g, 1, none⟩ (.int .i64 7) = w5
    intro HB HX
    obtain ⟨x0, x1, x2⟩ := HB.out.cells
    obtain ⟨y0, y1, y2⟩ := HX.out.cells
    go_wp2_with fail
    refine (SB.out _ HB.out.2.1).mono ?_
    rintro e wa ⟨rfl, hb⟩
    have HB1 := Lib.hid (HB.out.bel hb)
    have HX1 := Lib.hid (HX.out.bel hb)
    clear hb x0 x1 x2 y0 y1 y2 HB HX
    obtain ⟨y0, y1, y2⟩ := HX1.out.cells
    go_wp2_with fail
    refine (SX.out _ HX1.out.2.1).mono ?_
    rintro e wb ⟨rfl, hb⟩
    have HB2 := Lib.hid (HB1.out.bel hb)
    clear hb y0 y1 y2 HB1 HX1
    go_wp2_with fail
    refine (HWK.out _).mono ?_
    rintro e wc ⟨rfl, hb⟩
    have HB3 := Lib.hid (HB2.out.bel hb)
    clear hb
    go_wp2_with fail
    go_ret
    exact ⟨ret_bool rfl, HB3.out.2.2⟩
  · skip
    subst hm
    rw [← HW.out]
    clear HW
    obtain ⟨g, cap, cur, ty, lo, hi, t1, e1, t2, e2, t3, e3, va, vi, vt, huc, hg, hgs, hap, hlo, hhi, hgo, hgN, hgz, hPA, hPI, hPD, ⟨p0, p1, p2, p3, p4, p5⟩, hbat⟩ := HBO.out.con hK
    cases huc
    obtain ⟨c, hc⟩ : ∃ c, b.cons[K] = c := ⟨_, rfl⟩
    have hcm : c ∈ b.cons := by rw [← hc]; exact List.getElem_mem hK
    rw [hc] at hPA hPI hPD p0 p3 p4
    unfold Apart3 at hap
    obtain ⟨x, hx⟩ : ∃ x : BlkT, x = setC b K { c with sort := nsB b } := ⟨_, rfl⟩
    have hxe : x.elim = b.elim := by rw [hx]; rfl
    have hgM : g ≠ w3.heap.size := fun e => by rw [e, HN4.out] at hg; cases hg; simp at hgs; omega
    obtain ⟨⟨y0, y1, y2⟩, v0, v1, v2⟩ := boxc HN4.out
    have hg5 := heap_setCell_same w4 g (K * 6) cur ty (.int .i64 (b.sorts.length : Int)) hg
    have hoth : ∀ j, j ≠ g → (w4.setCell ⟨g, K * 6, none⟩ (.int .i64 (b.sorts.length : Int))).heap[j]? = w4.heap[j]? := fun j hj => Below.heap_setCell _ _ _ _ (by simpa using hj)
    have sm : ∀ (S : Nat → Prop), (∀ j, S j → lo ≤ j ∧ j < hi) → ∀ j, S j → True ∧ (w4.setCell ⟨g, K * 6, none⟩ (.int .i64 (b.sorts.length : Int))).heap[j]? = w4.heap[j]? := fun S hS j hj => ⟨trivial, hoth j (fun e => by have := hS j hj; omega)⟩
    have hbx := hbat (w4.setCell ⟨g, K * 6, none⟩ (.int .i64 (b.sorts.length : Int))) _ { c with sort := nsB b } [.int .i64 (nsB b), va, vi, .int .i64 c.dec.k, .int .i64 c.dec.n, vt] (fun j _ hj _ => hoth j hj) hg5
      (fun i hi1 hi2 r hr => by rw [Array.getElem?_setIfInBounds, if_neg (by omega)])
      (fun r hr => by
        rw [Array.getElem?_setIfInBounds]
        match r, hr with
        | 0, _ => rw [if_pos (by omega), if_pos (by omega)]; rfl
        | 1, _ => rw [if_neg (by omega), p1]; rfl
        | 2, _ => rw [if_neg (by omega), p2]; rfl
        | 3, _ => rw [if_neg (by omega), p3]; rfl
        | 4, _ => rw [if_neg (by omega), p4]; rfl
        | 5, _ => rw [if_neg (by omega), p5]; rfl
      )
      ⟨va, vi, vt, rfl, ArgsOwn.row (hPA.same (T := fun _ => True) (sm _ fun j hj => by have h1 := hj.1; have h2 := hj.2; omega)) |>.at, (hPI.same (T := fun _ => True) (sm _ fun j hj => by have h1 := hj.1; have h2 := hj.2; omega)).at, (hPD.same (T := fun _ => True) (sm _ fun j hj => by have h1 := hj.1; have h2 := hj.2; omega)).at⟩ rfl
    rw [← hx] at hbx
    have blk0 := hoth w.heap.size (by omega)
    have hbM := hoth w3.heap.size (Ne.symm hgM)
    have gc := cellOf hg (K * 6)
    rw [p0] at gc
    have gf := frozenOf hg (K * 6)
    have SX : Hid (∀ W, BAt W x (.slice a1 b.sorts.length d1) (.slice (some ⟨g, 0, none⟩) b.cons.length d2) → Calls Try.prog 13 #[.agg #[(.slice a1 b.sorts.length d1), (.slice (some ⟨g, 0, none⟩) b.cons.length d2), .int .i64 x.elim]] W fun e w' => e = .returned (.int .i64 12) ∧ Below W.heap.size W w') := fun W hA => by
      have hc := scheckG_any x (by rw [hx]; exact small_set hs K (show conN { c with sort := nsB b } ≤ 1048576 by have h1 := con_room hs hns hcm; have h2 : conN { c with sort := nsB b } = conN c := rfl; omega)) (by rw [hx]; exact fits_set hF K (show ({ c with sort := nsB b } : ConT).fits from ⟨by show -9223372036854775808 ≤ (b.sorts.length : Int) ∧ (b.sorts.length : Int) ≤ 9223372036854775807; omega, (hF.2.1 c hcm).2⟩)) W (.slice a1 b.sorts.length d1) (.slice (some ⟨g, 0, none⟩) b.cons.length d2) hA
      rw [show shapeB x = false by rw [hx]; exact bent_con b hK _ (bent_sort b c)] at hc
      exact hc
    have hbel : Below w.heap.size w (w4.setCell ⟨g, K * 6, none⟩ (.int .i64 (b.sorts.length : Int))) := H5.out.2.2.trans ((Below.refl w.heap.size w4).setCell (p := ⟨g, K * 6, none⟩) (by simp; omega) _)
    have HB : Hid (OneB w w.heap.size b (.slice ps b.sorts.length cs) (.slice pc b.cons.length cc) (w4.setCell ⟨g, K * 6, none⟩ (.int .i64 (b.sorts.length : Int)))) := ⟨blk0.trans H5.out.1, HA0.out.bel hbel, hbel⟩
    have HX : Hid (OneB w w3.heap.size x (.slice a1 b.sorts.length d1) (.slice (some ⟨g, 0, none⟩) b.cons.length d2) (w4.setCell ⟨g, K * 6, none⟩ (.int .i64 (b.sorts.length : Int)))) := ⟨by rw [hxe]; exact hbM.trans HN4.out, hbx, hbel⟩
    clear hx hbx hbel blk0 hbM hbat hxe hg5 hoth sm hPA hPI hPD p0 p1 p2 p3 p4 p5 hg hgs
    go_upto_region 26 with (fail)
    clear y0 y1 y2 v0 v1 v2 gc gf
    revert HB HX
    generalize w4.setCell ⟨g, K * 6, none⟩ (.int .i64 (b.sorts.length : Int)) = w5
    intro HB HX
    obtain ⟨x0, x1, x2⟩ := HB.out.cells
    obtain ⟨y0, y1, y2⟩ := HX.out.cells
    go_wp2_with fail
    refine (SB.out _ HB.out.2.1).mono ?_
    rintro e wa ⟨rfl, hb⟩
    have HB1 := Lib.hid (HB.out.bel hb)
    have HX1 := Lib.hid (HX.out.bel hb)
    clear hb x0 x1 x2 y0 y1 y2 HB HX
    obtain ⟨y0, y1, y2⟩ := HX1.out.cells
    go_wp2_with fail
    refine (SX.out _ HX1.out.2.1).mono ?_
    rintro e wb ⟨rfl, hb⟩
    have HB2 := Lib.hid (HB1.out.bel hb)
    clear hb y0 y1 y2 HB1 HX1
    go_wp2_with fail
    refine (HWK.out _).mono ?_
    rintro e wc ⟨rfl, hb⟩
    have HB3 := Lib.hid (HB2.out.bel hb)
    clear hb
    go_wp2_with fail
    go_ret
    exact ⟨ret_bool rfl, HB3.out.2.2⟩
  · skip
    subst hm
    rw [← HW.out]
    clear HW
    obtain ⟨g, cap, cur, ty, lo, hi, t1, e1, t2, e2, t3, e3, va, vi, vt, huc, hg, hgs, hap, hlo, hhi, hgo, hgN, hgz, hPA, hPI, hPD, ⟨p0, p1, p2, p3, p4, p5⟩, hbat⟩ := HT.out.con hK
    cases huc
    obtain ⟨c, hc⟩ : ∃ c, b.cons[K] = c := ⟨_, rfl⟩
    have hcm : c ∈ b.cons := by rw [← hc]; exact List.getElem_mem hK
    rw [hc] at hPA hPI hPD p0 p3 p4
    have HAP := Lib.hid hap
    unfold Apart3 at hap
    have hgs6 : K * 6 + 6 ≤ cur.size := by omega
    obtain ⟨ho1, us, ho2, ho3⟩ := hPI
    obtain ⟨q1, r1, rfl⟩ : ∃ q1 r1, vi = .slice q1 c.idx.length r1 := by
      rcases ownsRow_forms ho2 with ⟨h, h0⟩ | ⟨_, _, h⟩
      · exact ⟨none, 0, by rw [h, h0]⟩
      · exact ⟨_, _, h⟩
    have hclen := conN_le hcm
    have hilen : c.idx.length ≤ 1048576 := by
      have h1 := length_le_sizeL c.idx
      have h2 : conN c = argsN c.args + sizeL c.idx + size c.dec + 1 := rfl
      have h3 : blkN b = sortsN b.sorts + consN b.cons + 1 := rfl
      omega
    clear hclen
    have HG := Lib.hid hg
    have HP := Lib.hid p2
    have HO1 := Lib.hid ho1
    have HO2 := Lib.hid ho2
    have HO3 := Lib.hid ho3
    have HPA := Lib.hid hPA
    have HPD := Lib.hid hPD
    have HAT := Lib.hid hbat
    have HCM := Lib.hid hcm
    have HQ := Lib.hid (And.intro p0 (And.intro p1 (And.intro p3 (And.intro p4 p5))))
    have HN0 := Lib.hid O3.out.1
    have HIN : Hid (∀ j, (Value.slice q1 c.idx.length r1).ownBlock = some j → In lo hi j) := fun j hj => by have h1 := ho1 j hj; have h2 := h1.1; have h3 := h1.2; exact ⟨by omega, by omega⟩
    have hcok := Lib.hid (s5 c hcm)
    have hm1 : c.idx.length + 1 ≤ maxLen := by unfold maxLen; omega
    have hm2 : (c.idx.length + 1) * 40 ≤ 140737488355328 := by omega
    obtain ⟨i0, hi0, hy0, hy1, hy2⟩ := info_parts Try.infoT
    have HNN := Lib.hid hnn
    have hgl4 : g < w4.heap.size := by omega
    have HS5L := Lib.hid s5
    clear hg p0 p1 p2 p3 p4 p5 ho1 ho2 ho3 hPA hPD hbat hc hcm hnn s5
    go_wp2_with fail
    go_region
    · skip
      have hbb : Below w4.heap.size w4 (w4.alloc (.cells #[.bool false] 4)).drew := (below_al w4 _).drew
      obtain ⟨wq, hwq⟩ : ∃ wq, wq = (w4.alloc (.cells #[.bool false] 4)).drew := ⟨_, rfl⟩
      rw [← hwq] at hbb ⊢
      have HAq := Lib.hid (HA4.out.trans (hbb.mono HA4.out.size))
      have HNq := Lib.hid ((hbb.block w3.heap.size (by omega)).trans HN4.out)
      have hzq := hbb.size
      clear hbb hwq
      go_wp2_with fail
      refine wp_region_F (fun W => W.cell? ⟨w3.heap.size, 1, none⟩ = some (.slice (some ⟨g, 0, none⟩) b.cons.length d2) ∧ W.cell? ⟨g, K * 6 + 2, none⟩ = some (.slice q1 c.idx.length r1)) 14 (by kernel_rfl) ?_
      have hb5 : Below wq.heap.size wq wq.drew := (Below.refl _ wq).drew
      obtain ⟨w5, hw5⟩ : ∃ w5, w5 = wq.drew := ⟨_, rfl⟩
      rw [← hw5] at hb5 ⊢
      have HB5 := Lib.hid (HAq.out.trans (hb5.mono HAq.out.size))
      have hz5 := hb5.size
      have HM5 := Lib.hid ((hb5.block w3.heap.size (by omega)).trans HNq.out)
      have HG5 := Lib.hid ((HB5.out.block g hgz).trans HG.out)
      have HS5 : Hid (w5.cell? ⟨w3.heap.size, 1, none⟩ = some (.slice (some ⟨g, 0, none⟩) b.cons.length d2) ∧ w5.cell? ⟨g, K * 6 + 2, none⟩ = some (.slice q1 c.idx.length r1)) := ⟨(boxc HM5.out).1.2.1, (cellOf HG5.out _).trans HP.out⟩
      clear hb5 hw5
      refine wpAnyF_take (i := 0) (v := (.pointer (some ⟨w3.heap.size, 1, none⟩))) rfl (by kernel_rfl) (by kernel_rfl) (by kernel_rfl) (by kernel_rfl) (by kernel_rfl) (fun _ _ _ h => h) (Or.inl ⟨by rfl, fun W hS => by obtain ⟨q1, q2⟩ := hS; go_simp⟩) HS5.out ?_
      change wpAnyF _ _ _ _ _ _ _ (Act.put _ (some 84) _) _
      simp only [Act.put, List.setIfInBounds_toArray, List.set_cons_zero, List.set_cons_succ]
      refine wpAnyF_take (i := 1) (v := (.slice (some ⟨g, 0, none⟩) b.cons.length d2)) rfl (by kernel_rfl) (by kernel_rfl) (by kernel_rfl) (by kernel_rfl) (by kernel_rfl) (fun _ _ _ h => h) (Or.inl ⟨by rfl, fun W hS => by obtain ⟨q1, q2⟩ := hS; go_simp⟩) HS5.out ?_
      change wpAnyF _ _ _ _ _ _ _ (Act.put _ (some 85) _) _
      simp only [Act.put, List.setIfInBounds_toArray, List.set_cons_zero, List.set_cons_succ]
      refine wpAnyF_take (i := 2) (v := (.int .i64 (K : Int))) rfl (by kernel_rfl) (by kernel_rfl) (by kernel_rfl) (by kernel_rfl) (by kernel_rfl) (fun _ _ _ h => h) (Or.inl ⟨by rfl, fun W hS => by obtain ⟨q1, q2⟩ := hS; go_simp⟩) HS5.out ?_
      change wpAnyF _ _ _ _ _ _ _ (Act.put _ (some 86) _) _
      simp only [Act.put, List.setIfInBounds_toArray, List.set_cons_zero, List.set_cons_succ]
      refine wpAnyF_take (i := 3) (v := (.pointer (some ⟨w3.heap.size, 1, none⟩))) rfl (by kernel_rfl) (by kernel_rfl) (by kernel_rfl) (by kernel_rfl) (by kernel_rfl) (fun _ _ _ h => h) (Or.inl ⟨by rfl, fun W hS => by obtain ⟨q1, q2⟩ := hS; go_simp⟩) HS5.out ?_
      change wpAnyF _ _ _ _ _ _ _ (Act.put _ (some 87) _) _
      simp only [Act.put, List.setIfInBounds_toArray, List.set_cons_zero, List.set_cons_succ]
      refine wpAnyF_take (i := 4) (v := (.slice (some ⟨g, 0, none⟩) b.cons.length d2)) rfl (by kernel_rfl) (by kernel_rfl) (by kernel_rfl) (by kernel_rfl) (by kernel_rfl) (fun _ _ _ h => h) (Or.inl ⟨by rfl, fun W hS => by obtain ⟨q1, q2⟩ := hS; go_simp⟩) HS5.out ?_
      change wpAnyF _ _ _ _ _ _ _ (Act.put _ (some 88) _) _
      simp only [Act.put, List.setIfInBounds_toArray, List.set_cons_zero, List.set_cons_succ]
      refine wpAnyF_take (i := 5) (v := (.int .i64 (K : Int))) rfl (by kernel_rfl) (by kernel_rfl) (by kernel_rfl) (by kernel_rfl) (by kernel_rfl) (fun _ _ _ h => h) (Or.inl ⟨by rfl, fun W hS => by obtain ⟨q1, q2⟩ := hS; go_simp⟩) HS5.out ?_
      change wpAnyF _ _ _ _ _ _ _ (Act.put _ (some 89) _) _
      simp only [Act.put, List.setIfInBounds_toArray, List.set_cons_zero, List.set_cons_succ]
      refine wpAnyF_take (i := 6) (v := (.pointer (some ⟨g, K * 6, none⟩))) rfl (by kernel_rfl) (by kernel_rfl) (by kernel_rfl) (by kernel_rfl) (by kernel_rfl) (fun _ _ _ h => h) (Or.inl ⟨by rfl, fun W hS => by obtain ⟨q1, q2⟩ := hS; go_simp⟩) HS5.out ?_
      change wpAnyF _ _ _ _ _ _ _ (Act.put _ (some 90) _) _
      simp only [Act.put, List.setIfInBounds_toArray, List.set_cons_zero, List.set_cons_succ]
      refine wpAnyF_take (i := 7) (v := (.pointer (some ⟨g, K * 6 + 2, none⟩))) rfl (by kernel_rfl) (by kernel_rfl) (by kernel_rfl) (by kernel_rfl) (by kernel_rfl) (fun _ _ _ h => h) (Or.inl ⟨by rfl, fun W hS => by obtain ⟨q1, q2⟩ := hS; go_simp⟩) HS5.out ?_
      change wpAnyF _ _ _ _ _ _ _ (Act.put _ (some 91) _) _
      simp only [Act.put, List.setIfInBounds_toArray, List.set_cons_zero, List.set_cons_succ]
      refine wpAnyF_take (i := 8) (v := (.slice q1 c.idx.length r1)) rfl (by kernel_rfl) (by kernel_rfl) (by kernel_rfl) (by kernel_rfl) (by kernel_rfl) (fun _ _ _ h => h) (Or.inl ⟨by rfl, fun W hS => by obtain ⟨q1, q2⟩ := hS; go_simp⟩) HS5.out ?_
      change wpAnyF _ _ _ _ _ _ _ (Act.put _ (some 92) _) _
      simp only [Act.put, List.setIfInBounds_toArray, List.set_cons_zero, List.set_cons_succ]
      refine wpAnyF_one (i := 9) (by kernel_rfl) rfl (by rfl) fun K' hK => ?_
      go_simp
      refine (u_any 0 _).mono ?_
      rintro e w6 ⟨rfl, hb⟩
      have HBw6 := Lib.hid (HB5.out.trans (hb.mono HB5.out.size))
      have HMw6 := Lib.hid ((hb.block w3.heap.size (by omega)).trans HM5.out)
      have HGw6 := Lib.hid ((hb.block g (by omega)).trans HG5.out)
      have hzw6 := hb.size
      have HSw6 : Hid (w6.cell? ⟨w3.heap.size, 1, none⟩ = some (.slice (some ⟨g, 0, none⟩) b.cons.length d2) ∧ w6.cell? ⟨g, K * 6 + 2, none⟩ = some (.slice q1 c.idx.length r1)) := ⟨(boxc HMw6.out).1.2.1, (cellOf HGw6.out _).trans HP.out⟩
      clear hb
      go_simp
      refine hK _ _ (fun _ => HSw6.out) ?_
      clear hK K'
      try change wpAnyF _ _ _ _ _ _ _ (Act.put _ (some 93) _) _
      try simp only [Act.put, List.setIfInBounds_toArray, List.set_cons_zero, List.set_cons_succ]
      have hal := below_al w6 (.cells #[.int .i64 2, .int .i64 0, .slice none 0 0] 42)
      have hn7 := World.alloc_heap_new w6 (.cells #[.int .i64 2, .int .i64 0, .slice none 0 0] 42)
      have hz7 := World.size_alloc w6 (.cells #[.int .i64 2, .int .i64 0, .slice none 0 0] 42)
      refine wpAnyF_one (i := 10) (by kernel_rfl) rfl (by rfl) fun K' hK => ?_
      go_simp
      obtain ⟨w7, hw7⟩ : ∃ w7, w7 = w6.alloc (.cells #[.int .i64 2, .int .i64 0, .slice none 0 0] 42) := ⟨_, rfl⟩
      rw [← hw7] at hal hn7 hz7 ⊢
      have HB7 := Lib.hid (HBw6.out.trans (hal.mono HBw6.out.size))
      have HM7 := Lib.hid ((hal.block w3.heap.size (by omega)).trans HMw6.out)
      have HG7 := Lib.hid ((hal.block g (by omega)).trans HGw6.out)
      have HN7 := Lib.hid hn7
      have HS7 : Hid (w7.cell? ⟨w3.heap.size, 1, none⟩ = some (.slice (some ⟨g, 0, none⟩) b.cons.length d2) ∧ w7.cell? ⟨g, K * 6 + 2, none⟩ = some (.slice q1 c.idx.length r1)) := ⟨(boxc HM7.out).1.2.1, (cellOf HG7.out _).trans HP.out⟩
      have HR7 := Lib.hid (show w7.ownsRow w2.heap.size 42 3 (.slice q1 c.idx.length r1) c.idx.length (cells3 c.idx us) from ownsRow_same HO2.out fun j hj => HB7.out.block j (by have h1 := HIN.out j hj; have h2 := h1.2; omega))
      clear hal hn7 hw7
      refine hK _ _ (fun _ => HS7.out) ?_
      clear hK K'
      try change wpAnyF _ _ _ _ _ _ _ (Act.put _ (some 94) _) _
      try simp only [Act.put, List.setIfInBounds_toArray, List.set_cons_zero, List.set_cons_succ]
      refine wpAnyF_one (i := 11) (by kernel_rfl) rfl (by rfl) fun K' hK => ?_
      refine wp_append_lies _ (.tmp 92) (.tmp 94) 40 (by rfl) w2.heap.size 42 i0 _ 3 40 Try.underlying40 hi0 hy0 hy1 hy2 rfl (by decide) (.slice q1 c.idx.length r1) c.idx.length _ (by rfl) HR7.out ⟨w6.heap.size, 0, none⟩ 1 1 [.int .i64 2, .int .i64 0, .slice none 0 0] (by rfl) (by simp) (World.news_of_block (cs := #[.int .i64 2, .int .i64 0, .slice none 0 0]) HN7.out) (by simp [Value.oneCell']) (by decide) hm1 hm2 (by omega) w7.heap.size rfl ?_
      intro gg cp w8 hown8 hgrow8 hat8 hlt8
      have hz8 := hgrow8.size
      have hgno : some g ≠ (Value.slice q1 c.idx.length r1).ownBlock := fun e => by have h1 := HIN.out g e.symm; have h2 := h1.1; have h3 := h1.2; omega
      have hMno : some w3.heap.size ≠ (Value.slice q1 c.idx.length r1).ownBlock := fun e => by have h1 := HIN.out _ e.symm; have h3 := h1.2; omega
      have hgg : gg ≠ g := fun e => by subst e; rcases hat8 with h | h; exact hgno h.symm; omega
      have HM8 := Lib.hid ((hgrow8.block w3.heap.size (by omega) hMno).trans HM7.out)
      have HG8 := Lib.hid ((hgrow8.block g (by omega) hgno).trans HG7.out)
      have HS8 : Hid (w8.cell? ⟨w3.heap.size, 1, none⟩ = some (.slice (some ⟨g, 0, none⟩) b.cons.length d2) ∧ w8.cell? ⟨g, K * 6 + 2, none⟩ = some (.slice q1 c.idx.length r1)) := ⟨(boxc HM8.out).1.2.1, (cellOf HG8.out _).trans HP.out⟩
      refine hK _ _ (fun _ => HS8.out) ?_
      clear hK K'
      try change wpAnyF _ _ _ _ _ _ _ (Act.put _ (some 95) _) _
      try simp only [Act.put, List.setIfInBounds_toArray, List.set_cons_zero, List.set_cons_succ]
      refine wpAnyF_one (i := 12) (by kernel_rfl) rfl (by rfl) fun K' hK => ?_
      go_simp
      refine hK _ _ (fun _ => HS8.out) ?_
      clear hK K'
      try change wpAnyF _ _ _ _ _ _ _ (Act.put _ (some 96) _) _
      try simp only [Act.put, List.setIfInBounds_toArray, List.set_cons_zero, List.set_cons_succ]
      refine wpAnyF_one (i := 13) (by kernel_rfl) rfl (by rfl) fun K' hK => ?_
      go_simp
      refine hK _ _ (fun _ => HS8.out) ?_
      clear hK K'
      try change wpAnyF _ _ _ _ _ _ _ (Act.put _ (some 97) _) _
      try simp only [Act.put, List.setIfInBounds_toArray, List.set_cons_zero, List.set_cons_succ]
      have gc := HS8.out.2
      have gf := frozenOf HG8.out (K * 6 + 2)
      refine wpAnyF_one (i := 14) (by kernel_rfl) rfl (by rfl) fun K' hK => ?_
      go_simp
      refine hK _ _ (fun h => absurd h (by simp)) ?_
      clear hK K'
      refine wpAnyF_done (by kernel_rfl) ?_ _
      try simp only [Act.put]
      have HONE := Lib.hid (one_own2 hgs6 HQ.out.1 HQ.out.2.1 HQ.out.2.2.1 HQ.out.2.2.2.1 HQ.out.2.2.2.2 (.slice (some ⟨gg, 0, none⟩) (c.idx.length + 1) cp))
      have hcb := bent_idx b c (.node 2 0 []) hcok.out
      obtain ⟨x, hx⟩ : ∃ x : BlkT, x = setC b K { c with idx := c.idx ++ [.node 2 0 []] } := ⟨_, rfl⟩
      have hxe : x.elim = b.elim := by rw [hx]; rfl
      have hWb : ∀ j, j < w3.heap.size → j ≠ g → some j ≠ (Value.slice q1 c.idx.length r1).ownBlock → (w8.setCell ⟨g, K * 6 + 2, none⟩ (.slice (some ⟨gg, 0, none⟩) (c.idx.length + 1) cp)).heap[j]? = w3.heap[j]? := fun j hj hjg hne => ((Below.heap_setCell _ _ _ _ (by simpa using hjg)).trans (hgrow8.block j (by omega) hne)).trans (HB7.out.block j hj)
      have hgP := heap_setCell_same w8 g (K * 6 + 2) cur ty (.slice (some ⟨gg, 0, none⟩) (c.idx.length + 1) cp) HG8.out
      have hownW := (show (w8.setCell ⟨g, K * 6 + 2, none⟩ (.slice (some ⟨gg, 0, none⟩) (c.idx.length + 1) cp)).ownsRow w2.heap.size 42 3 (.slice (some ⟨gg, 0, none⟩) (c.idx.length + 1) cp) (c.idx.length + 1) (cells3 c.idx us ++ [.int .i64 (Tm.node 2 0 []).k, .int .i64 (Tm.node 2 0 []).n, .slice none 0 0]) from ownsRow_same hown8 fun j hj => by cases hj; exact Below.heap_setCell _ _ _ _ (by simpa using hgg))
      have hcon := con_terms (t := .node 2 0 []) (N := w2.heap.size) HAP.out hhi hgo HO1.out HO3.out HPA.out HPD.out hWb hownW rfl
      have hbx := HAT.out (w8.setCell ⟨g, K * 6 + 2, none⟩ (.slice (some ⟨gg, 0, none⟩) (c.idx.length + 1) cp)) _ { c with idx := c.idx ++ [.node 2 0 []] } [.int .i64 c.sort, va, .slice (some ⟨gg, 0, none⟩) (c.idx.length + 1) cp, .int .i64 c.dec.k, .int .i64 c.dec.n, vt] (fun j hj hjg hin => hWb j hj hjg (fun e => hin (HIN.out j e.symm))) hgP (fun i hi1 hi2 r hr => one_row (by omega) hi2 hr _) HONE.out hcon rfl
      rw [← hx] at hbx
      have hbel : Below w.heap.size w (w8.setCell ⟨g, K * 6 + 2, none⟩ (.slice (some ⟨gg, 0, none⟩) (c.idx.length + 1) cp)) := ((O3.out.2.2.trans (HB7.out.mono O3.out.2.2.size)).trans ((Below.refl w.heap.size w7).grown hgrow8 (by omega) (fun j hj => by have h1 := HIN.out j hj; have h2 := h1.1; omega))).trans ((Below.refl w.heap.size w8).setCell (p := ⟨g, K * 6 + 2, none⟩) (by simp; omega) _)
      have HB : Hid (OneB w w.heap.size b (.slice ps b.sorts.length cs) (.slice pc b.cons.length cc) (w8.setCell ⟨g, K * 6 + 2, none⟩ (.slice (some ⟨gg, 0, none⟩) (c.idx.length + 1) cp))) := ⟨((hWb w.heap.size (by omega) (by omega) (fun e => by have h1 := HIN.out _ e.symm; have h2 := h1.1; omega)).trans HN0.out), HA0.out.bel hbel, hbel⟩
      have HX : Hid (OneB w w3.heap.size x (.slice a1 b.sorts.length d1) (.slice (some ⟨g, 0, none⟩) b.cons.length d2) (w8.setCell ⟨g, K * 6 + 2, none⟩ (.slice (some ⟨gg, 0, none⟩) (c.idx.length + 1) cp))) := ⟨by rw [hxe]; exact (Below.heap_setCell _ _ _ _ (by simp; omega)).trans HM8.out, hbx, hbel⟩
      have SX : Hid (∀ W, BAt W x (.slice a1 b.sorts.length d1) (.slice (some ⟨g, 0, none⟩) b.cons.length d2) → Calls Try.prog 13 #[.agg #[(.slice a1 b.sorts.length d1), (.slice (some ⟨g, 0, none⟩) b.cons.length d2), .int .i64 x.elim]] W fun e w' => e = .returned (.int .i64 12) ∧ Below W.heap.size W w') := fun W hA => by
        have hc := scheckG_any x (by rw [hx]; exact small_set hs K (show conN { c with idx := c.idx ++ [.node 2 0 []] } ≤ 1048576 by have h1 := con_room hs hns HCM.out; have h2 : conN { c with idx := c.idx ++ [.node 2 0 []] } = argsN c.args + sizeL (c.idx ++ [.node 2 0 []]) + size c.dec + 1 := rfl; have h3 : conN c = argsN c.args + sizeL c.idx + size c.dec + 1 := rfl; have h4 := sizeL_snoc (.node 2 0 []) c.idx; have h5 : size (.node 2 0 []) = 1 := rfl; omega)) (by rw [hx]; exact fits_set hF K (show ({ c with idx := c.idx ++ [.node 2 0 []] } : ConT).fits from ⟨(hF.2.1 c HCM.out).1, (hF.2.1 c HCM.out).2.1, fun y hy => (List.mem_append.1 hy).elim (fun h => (hF.2.1 c HCM.out).2.2.1 y h) (fun h => by rw [List.mem_singleton] at h; subst h; exact leaf_fits 2 0 (by unfold I64; decide) (by unfold I64; decide)), (hF.2.1 c HCM.out).2.2.2⟩)) W (.slice a1 b.sorts.length d1) (.slice (some ⟨g, 0, none⟩) b.cons.length d2) hA
        rw [show shapeB x = false by rw [hx]; exact bent_con b hK _ hcb] at hc
        exact hc
      clear hx hbx hbel hxe hWb hgP hownW hcon
      clear gc gf
      revert HB HX
      generalize (w8.setCell ⟨g, K * 6 + 2, none⟩ (.slice (some ⟨gg, 0, none⟩) (c.idx.length + 1) cp)) = wz
      intro HB HX
      obtain ⟨x0, x1, x2⟩ := HB.out.cells
      obtain ⟨y0, y1, y2⟩ := HX.out.cells
      go_wp2_with fail
      refine (SB.out _ HB.out.2.1).mono ?_
      rintro e wa ⟨rfl, hb⟩
      have HB1 := Lib.hid (HB.out.bel hb)
      have HX1 := Lib.hid (HX.out.bel hb)
      clear hb x0 x1 x2 y0 y1 y2 HB HX
      obtain ⟨y0, y1, y2⟩ := HX1.out.cells
      go_wp2_with fail
      refine (SX.out _ HX1.out.2.1).mono ?_
      rintro e wb ⟨rfl, hb⟩
      have HB2 := Lib.hid (HB1.out.bel hb)
      clear hb y0 y1 y2 HB1 HX1
      go_wp2_with fail
      refine (HWK.out _).mono ?_
      rintro e wc ⟨rfl, hb⟩
      have HB3 := Lib.hid (HB2.out.bel hb)
      clear hb
      go_wp2_with fail
      go_ret
      exact ⟨ret_bool rfl, HB3.out.2.2⟩
    · skip
      have hbb : Below w4.heap.size w4 (w4.alloc (.cells #[.bool true] 4)).drew := (below_al w4 _).drew
      obtain ⟨wq, hwq⟩ : ∃ wq, wq = (w4.alloc (.cells #[.bool true] 4)).drew := ⟨_, rfl⟩
      rw [← hwq] at hbb ⊢
      have HAq := Lib.hid (HA4.out.trans (hbb.mono HA4.out.size))
      have HNq := Lib.hid ((hbb.block w3.heap.size (by omega)).trans HN4.out)
      have hzq := hbb.size
      clear hbb hwq
      go_wp2_with fail
      have HGq := Lib.hid ((HAq.out.block g hgz).trans HG.out)
      refine wp_region_rel_tail 9 (by kernel_rfl) (by kernel_rfl) (by kernel_rfl) ?_
      simp only [List.take_succ_cons, List.take_zero]
      simp only [List.drop_succ_cons, List.drop_zero]
      apply RelWalk.next 8
      · kernel_rfl
      · intro X _ W hW hcl
        simp only [List.take_succ_cons, List.take_zero]
        have y1 := (boxc HNq.out).1.2.1
        have gg2 := (cellOf HGq.out (K * 6 + 2)).trans HP.out
        have ry1 := fun q => gcell (hW q) y1
        have rg2 := fun q => gcell (hW q) gg2
        clear y1 gg2
        have d0 := Lib.hid (fun q => into hcl (u_any 0 (W q)))
        repeat (go_big_quiet_step (first | (with_reducible exact d0.out _)))
        exact wpQuiet_nil rfl
      simp only [List.drop_succ_cons, List.drop_zero]
      refine RelWalk.made0 (fun v s e W => v = .slice (some ⟨s, 0, none⟩) 1 1 ∧ s < W.heap.size ∧ W.heap[s]? = some (.cells #[.int .i64 0, .int .i64 0, .slice none 0 0] 42 (0, 0))) rfl (by kernel_rfl) (by kernel_rfl) rfl (fun v s e W W' hg ⟨h1, h2, h3⟩ => ⟨h1, Nat.lt_of_lt_of_le h2 hg.size, (hg.block s h2).trans h3⟩) (fun w2 hg => ?_) ?_
      · go_simp
        exact ⟨below_al w2 _, rfl, by simp, World.alloc_heap_new w2 _⟩
      simp only [Act.put, List.setIfInBounds_toArray, List.set_cons_zero, List.set_cons_succ]
      refine .done fun gw w7 hg7 hpt => ?_
      simp only [Spread]
      rintro v79 ⟨rfl, hs6, hn6⟩
      simp only [Act.put, List.setIfInBounds_toArray, List.set_cons_zero, List.set_cons_succ]
      obtain ⟨s6, h6⟩ : ∃ s, (gw 79).1 = s := ⟨_, rfl⟩
      rw [h6] at hs6 hn6 ⊢
      clear hpt h6
      have hz7 := hg7.size
      have HB7 := Lib.hid (HAq.out.trans (hg7.mono HAq.out.size))
      have HM7 := Lib.hid ((hg7.block w3.heap.size (by omega)).trans HNq.out)
      have HG7 := Lib.hid ((hg7.block g (by omega)).trans HGq.out)
      have HN7 := Lib.hid hn6
      have HR7 := Lib.hid (show w7.ownsRow w2.heap.size 42 3 (.slice q1 c.idx.length r1) c.idx.length (cells3 c.idx us) from ownsRow_same HO2.out fun j hj => HB7.out.block j (by have h1 := HIN.out j hj; have h2 := h1.2; omega))
      clear hn6 hg7
      have hgno : some g ≠ (Value.slice q1 c.idx.length r1).ownBlock := fun e => by have h1 := HIN.out g e.symm; have h2 := h1.1; have h3 := h1.2; omega
      have hMno : some w3.heap.size ≠ (Value.slice q1 c.idx.length r1).ownBlock := fun e => by have h1 := HIN.out _ e.symm; have h3 := h1.2; omega
      have hHG : g < w7.heap.size := by omega
      have hHM : w3.heap.size < w7.heap.size := by omega
      go_upto_region 16 with (at_builtin; refine wpList_append_lies _ rfl (.tmp 76) (.tmp 79) 40 rfl w2.heap.size 42 i0 _ 3 40 Try.underlying40 hi0 hy0 hy1 hy2 rfl (by decide) (.slice q1 c.idx.length r1) c.idx.length _ rfl HR7.out ⟨s6, 0, none⟩ 1 1 [.int .i64 0, .int .i64 0, .slice none 0 0] rfl rfl (by have := World.news_of_block HN7.out; simpa using this) (by simp [Value.oneCell']) (by decide) hm1 hm2 (by omega) w7.heap.size rfl ?_; intro gg cp w8 hown8 hgrow8 hat8 hlt8; have HG8 := Lib.hid ((hgrow8.block g hHG hgno).trans HG7.out); have gc := (cellOf HG8.out (K * 6 + 2)).trans HP.out; have gf := frozenOf HG8.out (K * 6 + 2))
      have hz8 := hgrow8.size
      have hgg : gg ≠ g := fun e => by subst e; rcases hat8 with h | h; exact hgno h.symm; omega
      have HM8 := Lib.hid ((hgrow8.block w3.heap.size hHM hMno).trans HM7.out)
      clear gc gf
      have hgP9 := heap_setCell_same w8 g (K * 6 + 2) cur ty (.slice (some ⟨gg, 0, none⟩) (c.idx.length + 1) cp) HG8.out
      have hoth9 : ∀ j, j ≠ g → (w8.setCell ⟨g, K * 6 + 2, none⟩ (.slice (some ⟨gg, 0, none⟩) (c.idx.length + 1) cp)).heap[j]? = w8.heap[j]? := fun j hj => Below.heap_setCell _ _ _ _ (by simpa using hj)
      have hbel9 : Below w.heap.size w (w8.setCell ⟨g, K * 6 + 2, none⟩ (.slice (some ⟨gg, 0, none⟩) (c.idx.length + 1) cp)) := ((O3.out.2.2.trans (HB7.out.mono O3.out.2.2.size)).trans ((Below.refl w.heap.size w7).grown hgrow8 (by omega) (fun j hj => by have h1 := HIN.out j hj; have h2 := h1.1; omega))).trans ((Below.refl w.heap.size w8).setCell (p := ⟨g, K * 6 + 2, none⟩) (by simp; omega) _)
      have hown9 : (w8.setCell ⟨g, K * 6 + 2, none⟩ (.slice (some ⟨gg, 0, none⟩) (c.idx.length + 1) cp)).ownsRow w2.heap.size 42 3 (.slice (some ⟨gg, 0, none⟩) (c.idx.length + 1) cp) (c.idx.length + 1) (cells3 c.idx us ++ [.int .i64 0, .int .i64 0, .slice none 0 0]) := ownsRow_same hown8 fun j hj => by cases hj; exact hoth9 _ hgg
      generalize w8.setCell ⟨g, K * 6 + 2, none⟩ (.slice (some ⟨gg, 0, none⟩) (c.idx.length + 1) cp) = w9 at *
      have hcl := cells3_len c.idx us
      have hk0 : w9.cell? ⟨gg, c.idx.length * 3, none⟩ = some (.int .i64 0) := (hown9.cellAt (c.idx.length * 3) (by omega)).trans (by rw [List.getElem?_append_right (by omega), hcl]; simp)
      have hk1 : w9.cell? ⟨gg, c.idx.length * 3 + 1, none⟩ = some (.int .i64 0) := (hown9.cellAt (c.idx.length * 3 + 1) (by omega)).trans (by rw [List.getElem?_append_right (by omega), hcl]; simp)
      have hk2 : w9.cell? ⟨gg, c.idx.length * 3 + 2, none⟩ = some (.slice none 0 0) := (hown9.cellAt (c.idx.length * 3 + 2) (by omega)).trans (by rw [List.getElem?_append_right (by omega), hcl]; simp)
      have hf0 := hown9.frozenAt (c.idx.length * 3)
      have hf1 := hown9.frozenAt (c.idx.length * 3 + 1)
      have hf2 := hown9.frozenAt (c.idx.length * 3 + 2)
      have hst := ((((hown9.stored (c.idx.length * 3) (.int .i64 2)).1.stored (c.idx.length * 3 + 1) (.int .i64 0)).1.stored (c.idx.length * 3 + 2) (.slice none 0 0)).1)
      rw [set_tail3 hcl] at hst
      have hli : (c.idx.length : Int) < (c.idx.length : Int) + 1 := by omega
      have hl0 : (0 : Int) ≤ (c.idx.length : Int) := by omega
      have HST := Lib.hid hst
      have HW9 := Lib.hid hoth9
      have HP9 := Lib.hid hgP9
      have HBL := Lib.hid hbel9
      clear hst hoth9 hgP9 hbel9 hown9 hcl
      go_upto_region 26 with (fail)
      clear hk0 hk1 hk2 hf0 hf1 hf2 hli hl0
      have HONE := Lib.hid (one_own2 hgs6 HQ.out.1 HQ.out.2.1 HQ.out.2.2.1 HQ.out.2.2.2.1 HQ.out.2.2.2.2 (.slice (some ⟨gg, 0, none⟩) (c.idx.length + 1) cp))
      have hcb := bent_idx b c (.node 2 0 []) hcok.out
      have hgN2 : w2.heap.size ≤ gg := by rcases hat8 with h | h; have h1 := HIN.out gg h; have h2 := h1.1; omega; omega
      have hgM2 : w3.heap.size ≠ gg := fun e => by rcases hat8 with h | h; have h1 := HIN.out gg h; have h2 := h1.2; omega; omega
      obtain ⟨x, hx⟩ : ∃ x : BlkT, x = setC b K { c with idx := c.idx ++ [.node 2 0 []] } := ⟨_, rfl⟩
      have hxe : x.elim = b.elim := by rw [hx]; rfl
      have hWb : ∀ j, j < w3.heap.size → j ≠ g → some j ≠ (Value.slice q1 c.idx.length r1).ownBlock → (((w9.setCell ⟨gg, c.idx.length * 3, none⟩ (.int .i64 2)).setCell ⟨gg, c.idx.length * 3 + 1, none⟩ (.int .i64 0)).setCell ⟨gg, c.idx.length * 3 + 2, none⟩ (.slice none 0 0)).heap[j]? = w3.heap[j]? := fun j hj hjg hne => ((oth3 (fun e => by subst e; rcases hat8 with h | h; exact hne h.symm; omega) _ _ _).trans (HW9.out j hjg)).trans ((hgrow8.block j (by omega) hne).trans (HB7.out.block j hj))
      have hgP := (oth3 (n := c.idx.length * 3) (Ne.symm hgg) (.int .i64 2) (.int .i64 0) (.slice none 0 0)).trans HP9.out
      have hownW := (show (((w9.setCell ⟨gg, c.idx.length * 3, none⟩ (.int .i64 2)).setCell ⟨gg, c.idx.length * 3 + 1, none⟩ (.int .i64 0)).setCell ⟨gg, c.idx.length * 3 + 2, none⟩ (.slice none 0 0)).ownsRow w2.heap.size 42 3 (.slice (some ⟨gg, 0, none⟩) (c.idx.length + 1) cp) (c.idx.length + 1) (cells3 c.idx us ++ [.int .i64 (Tm.node 2 0 []).k, .int .i64 (Tm.node 2 0 []).n, .slice none 0 0]) from HST.out)
      have hcon := con_terms (t := .node 2 0 []) (N := w2.heap.size) HAP.out hhi hgo HO1.out HO3.out HPA.out HPD.out hWb hownW rfl
      have hbx := HAT.out (((w9.setCell ⟨gg, c.idx.length * 3, none⟩ (.int .i64 2)).setCell ⟨gg, c.idx.length * 3 + 1, none⟩ (.int .i64 0)).setCell ⟨gg, c.idx.length * 3 + 2, none⟩ (.slice none 0 0)) _ { c with idx := c.idx ++ [.node 2 0 []] } [.int .i64 c.sort, va, .slice (some ⟨gg, 0, none⟩) (c.idx.length + 1) cp, .int .i64 c.dec.k, .int .i64 c.dec.n, vt] (fun j hj hjg hin => hWb j hj hjg (fun e => hin (HIN.out j e.symm))) hgP (fun i hi1 hi2 r hr => one_row (by omega) hi2 hr _) HONE.out hcon rfl
      rw [← hx] at hbx
      have hbel : Below w.heap.size w (((w9.setCell ⟨gg, c.idx.length * 3, none⟩ (.int .i64 2)).setCell ⟨gg, c.idx.length * 3 + 1, none⟩ (.int .i64 0)).setCell ⟨gg, c.idx.length * 3 + 2, none⟩ (.slice none 0 0)) := HBL.out.trans (bel3 (by omega) _ _ _)
      have HB : Hid (OneB w w.heap.size b (.slice ps b.sorts.length cs) (.slice pc b.cons.length cc) (((w9.setCell ⟨gg, c.idx.length * 3, none⟩ (.int .i64 2)).setCell ⟨gg, c.idx.length * 3 + 1, none⟩ (.int .i64 0)).setCell ⟨gg, c.idx.length * 3 + 2, none⟩ (.slice none 0 0))) := ⟨((hWb w.heap.size (by omega) (by omega) (fun e => by have h1 := HIN.out _ e.symm; have h2 := h1.1; omega)).trans HN0.out), HA0.out.bel hbel, hbel⟩
      have HX : Hid (OneB w w3.heap.size x (.slice a1 b.sorts.length d1) (.slice (some ⟨g, 0, none⟩) b.cons.length d2) (((w9.setCell ⟨gg, c.idx.length * 3, none⟩ (.int .i64 2)).setCell ⟨gg, c.idx.length * 3 + 1, none⟩ (.int .i64 0)).setCell ⟨gg, c.idx.length * 3 + 2, none⟩ (.slice none 0 0))) := ⟨by rw [hxe]; exact (oth3 hgM2 _ _ _).trans ((HW9.out _ (by omega)).trans HM8.out), hbx, hbel⟩
      have SX : Hid (∀ W, BAt W x (.slice a1 b.sorts.length d1) (.slice (some ⟨g, 0, none⟩) b.cons.length d2) → Calls Try.prog 13 #[.agg #[(.slice a1 b.sorts.length d1), (.slice (some ⟨g, 0, none⟩) b.cons.length d2), .int .i64 x.elim]] W fun e w' => e = .returned (.int .i64 12) ∧ Below W.heap.size W w') := fun W hA => by
        have hc := scheckG_any x (by rw [hx]; exact small_set hs K (show conN { c with idx := c.idx ++ [.node 2 0 []] } ≤ 1048576 by have h1 := con_room hs hns HCM.out; have h2 : conN { c with idx := c.idx ++ [.node 2 0 []] } = argsN c.args + sizeL (c.idx ++ [.node 2 0 []]) + size c.dec + 1 := rfl; have h3 : conN c = argsN c.args + sizeL c.idx + size c.dec + 1 := rfl; have h4 := sizeL_snoc (.node 2 0 []) c.idx; have h5 : size (.node 2 0 []) = 1 := rfl; omega)) (by rw [hx]; exact fits_set hF K (show ({ c with idx := c.idx ++ [.node 2 0 []] } : ConT).fits from ⟨(hF.2.1 c HCM.out).1, (hF.2.1 c HCM.out).2.1, fun y hy => (List.mem_append.1 hy).elim (fun h => (hF.2.1 c HCM.out).2.2.1 y h) (fun h => by rw [List.mem_singleton] at h; subst h; exact leaf_fits 2 0 (by unfold I64; decide) (by unfold I64; decide)), (hF.2.1 c HCM.out).2.2.2⟩)) W (.slice a1 b.sorts.length d1) (.slice (some ⟨g, 0, none⟩) b.cons.length d2) hA
        rw [show shapeB x = false by rw [hx]; exact bent_con b hK _ hcb] at hc
        exact hc
      clear hx hbx hbel hxe hWb hgP hownW hcon
      revert HB HX
      generalize (((w9.setCell ⟨gg, c.idx.length * 3, none⟩ (.int .i64 2)).setCell ⟨gg, c.idx.length * 3 + 1, none⟩ (.int .i64 0)).setCell ⟨gg, c.idx.length * 3 + 2, none⟩ (.slice none 0 0)) = wz
      intro HB HX
      obtain ⟨x0, x1, x2⟩ := HB.out.cells
      obtain ⟨y0, y1, y2⟩ := HX.out.cells
      go_wp2_with fail
      refine (SB.out _ HB.out.2.1).mono ?_
      rintro e wa ⟨rfl, hb⟩
      have HB1 := Lib.hid (HB.out.bel hb)
      have HX1 := Lib.hid (HX.out.bel hb)
      clear hb x0 x1 x2 y0 y1 y2 HB HX
      obtain ⟨y0, y1, y2⟩ := HX1.out.cells
      go_wp2_with fail
      refine (SX.out _ HX1.out.2.1).mono ?_
      rintro e wb ⟨rfl, hb⟩
      have HB2 := Lib.hid (HB1.out.bel hb)
      clear hb y0 y1 y2 HB1 HX1
      go_wp2_with fail
      refine (HWK.out _).mono ?_
      rintro e wc ⟨rfl, hb⟩
      have HB3 := Lib.hid (HB2.out.bel hb)
      clear hb
      go_wp2_with fail
      go_ret
      exact ⟨ret_bool rfl, HB3.out.2.2⟩
  · skip
    subst hm
    rw [← HW.out]
    clear HW
    obtain ⟨g, cap, cur, ty, lo, hi, t1, e1, t2, e2, t3, e3, va, vi, vt, huc, hg, hgs, hap, hlo, hhi, hgo, hgN, hgz, hPA, hPI, hPD, ⟨p0, p1, p2, p3, p4, p5⟩, hbat⟩ := HT.out.con hK
    cases huc
    obtain ⟨c, hc⟩ : ∃ c, b.cons[K] = c := ⟨_, rfl⟩
    have hcm : c ∈ b.cons := by rw [← hc]; exact List.getElem_mem hK
    rw [hc] at hPA hPI hPD p0 p3 p4
    have HAP := Lib.hid hap
    unfold Apart3 at hap
    have hgs6 : K * 6 + 6 ≤ cur.size := by omega
    obtain ⟨ho1, f, ho2, ho3⟩ := hPA
    obtain ⟨q1, r1, rfl⟩ : ∃ q1 r1, va = .slice q1 c.args.length r1 := by
      rcases ownsRow_forms ho2 with ⟨h, h0⟩ | ⟨_, _, h⟩
      · exact ⟨none, 0, by rw [h, h0]⟩
      · exact ⟨_, _, h⟩
    have hlen12 : c.args.length ≤ 12 := (con_parts (s5 c hcm)).2.1
    have HG := Lib.hid hg
    have HP := Lib.hid p1
    have HO1 := Lib.hid ho1
    have HO2 := Lib.hid ho2
    have HO3 := Lib.hid ho3
    have HPI := Lib.hid hPI
    have HPD := Lib.hid hPD
    have HAT := Lib.hid hbat
    have HCM := Lib.hid hcm
    have HQ := Lib.hid (And.intro p0 (And.intro p2 (And.intro p3 (And.intro p4 p5))))
    have HN0 := Lib.hid O3.out.1
    have HIN : Hid (∀ j, (Value.slice q1 c.args.length r1).ownBlock = some j → In lo hi j) := fun j hj => by have h1 := ho1 j hj; have h2 := h1.1; have h3 := h1.2; exact ⟨by omega, by omega⟩
    have hm1 : c.args.length + 1 ≤ maxLen := by unfold maxLen; omega
    have hm2 : (c.args.length + 1) * 104 ≤ 140737488355328 := by omega
    obtain ⟨i0, hi0, hy0, hy1, hy2⟩ := info_parts Try.infoA
    have HNN := Lib.hid hnn
    have hgl4 : g < w4.heap.size := by omega
    have HS5L := Lib.hid s5
    clear hg p0 p1 p2 p3 p4 p5 ho1 ho2 ho3 hPI hPD hbat hc hcm hnn s5
    go_wp2_with fail
    refine wp_region_F (fun W => W.cell? ⟨w3.heap.size, 1, none⟩ = some (.slice (some ⟨g, 0, none⟩) b.cons.length d2) ∧ W.cell? ⟨g, K * 6 + 1, none⟩ = some (.slice q1 c.args.length r1)) 22 (by kernel_rfl) ?_
    have hb5 : Below w4.heap.size w4 w4.drew := (Below.refl _ w4).drew
    obtain ⟨w5, hw5⟩ : ∃ w5, w5 = w4.drew := ⟨_, rfl⟩
    rw [← hw5] at hb5 ⊢
    have HB5 := Lib.hid (HA4.out.trans (hb5.mono HA4.out.size))
    have hz5 := hb5.size
    have HM5 := Lib.hid ((hb5.block w3.heap.size (by omega)).trans HN4.out)
    have HG5 := Lib.hid ((HB5.out.block g hgz).trans HG.out)
    have HS5 : Hid (w5.cell? ⟨w3.heap.size, 1, none⟩ = some (.slice (some ⟨g, 0, none⟩) b.cons.length d2) ∧ w5.cell? ⟨g, K * 6 + 1, none⟩ = some (.slice q1 c.args.length r1)) := ⟨(boxc HM5.out).1.2.1, (cellOf HG5.out _).trans HP.out⟩
    clear hb5 hw5
    refine wpAnyF_take (i := 0) (v := (.pointer (some ⟨w3.heap.size, 1, none⟩))) rfl (by kernel_rfl) (by kernel_rfl) (by kernel_rfl) (by kernel_rfl) (by kernel_rfl) (fun _ _ _ h => h) (Or.inl ⟨by rfl, fun W hS => by obtain ⟨q1, q2⟩ := hS; go_simp⟩) HS5.out ?_
    change wpAnyF _ _ _ _ _ _ _ (Act.put _ (some 100) _) _
    simp only [Act.put, List.setIfInBounds_toArray, List.set_cons_zero, List.set_cons_succ]
    refine wpAnyF_take (i := 1) (v := (.slice (some ⟨g, 0, none⟩) b.cons.length d2)) rfl (by kernel_rfl) (by kernel_rfl) (by kernel_rfl) (by kernel_rfl) (by kernel_rfl) (fun _ _ _ h => h) (Or.inl ⟨by rfl, fun W hS => by obtain ⟨q1, q2⟩ := hS; go_simp⟩) HS5.out ?_
    change wpAnyF _ _ _ _ _ _ _ (Act.put _ (some 101) _) _
    simp only [Act.put, List.setIfInBounds_toArray, List.set_cons_zero, List.set_cons_succ]
    refine wpAnyF_take (i := 2) (v := (.int .i64 (K : Int))) rfl (by kernel_rfl) (by kernel_rfl) (by kernel_rfl) (by kernel_rfl) (by kernel_rfl) (fun _ _ _ h => h) (Or.inl ⟨by rfl, fun W hS => by obtain ⟨q1, q2⟩ := hS; go_simp⟩) HS5.out ?_
    change wpAnyF _ _ _ _ _ _ _ (Act.put _ (some 102) _) _
    simp only [Act.put, List.setIfInBounds_toArray, List.set_cons_zero, List.set_cons_succ]
    refine wpAnyF_take (i := 3) (v := (.pointer (some ⟨w3.heap.size, 1, none⟩))) rfl (by kernel_rfl) (by kernel_rfl) (by kernel_rfl) (by kernel_rfl) (by kernel_rfl) (fun _ _ _ h => h) (Or.inl ⟨by rfl, fun W hS => by obtain ⟨q1, q2⟩ := hS; go_simp⟩) HS5.out ?_
    change wpAnyF _ _ _ _ _ _ _ (Act.put _ (some 103) _) _
    simp only [Act.put, List.setIfInBounds_toArray, List.set_cons_zero, List.set_cons_succ]
    refine wpAnyF_take (i := 4) (v := (.slice (some ⟨g, 0, none⟩) b.cons.length d2)) rfl (by kernel_rfl) (by kernel_rfl) (by kernel_rfl) (by kernel_rfl) (by kernel_rfl) (fun _ _ _ h => h) (Or.inl ⟨by rfl, fun W hS => by obtain ⟨q1, q2⟩ := hS; go_simp⟩) HS5.out ?_
    change wpAnyF _ _ _ _ _ _ _ (Act.put _ (some 104) _) _
    simp only [Act.put, List.setIfInBounds_toArray, List.set_cons_zero, List.set_cons_succ]
    refine wpAnyF_take (i := 5) (v := (.int .i64 (K : Int))) rfl (by kernel_rfl) (by kernel_rfl) (by kernel_rfl) (by kernel_rfl) (by kernel_rfl) (fun _ _ _ h => h) (Or.inl ⟨by rfl, fun W hS => by obtain ⟨q1, q2⟩ := hS; go_simp⟩) HS5.out ?_
    change wpAnyF _ _ _ _ _ _ _ (Act.put _ (some 105) _) _
    simp only [Act.put, List.setIfInBounds_toArray, List.set_cons_zero, List.set_cons_succ]
    refine wpAnyF_take (i := 6) (v := (.pointer (some ⟨g, K * 6, none⟩))) rfl (by kernel_rfl) (by kernel_rfl) (by kernel_rfl) (by kernel_rfl) (by kernel_rfl) (fun _ _ _ h => h) (Or.inl ⟨by rfl, fun W hS => by obtain ⟨q1, q2⟩ := hS; go_simp⟩) HS5.out ?_
    change wpAnyF _ _ _ _ _ _ _ (Act.put _ (some 106) _) _
    simp only [Act.put, List.setIfInBounds_toArray, List.set_cons_zero, List.set_cons_succ]
    refine wpAnyF_take (i := 7) (v := (.pointer (some ⟨g, K * 6 + 1, none⟩))) rfl (by kernel_rfl) (by kernel_rfl) (by kernel_rfl) (by kernel_rfl) (by kernel_rfl) (fun _ _ _ h => h) (Or.inl ⟨by rfl, fun W hS => by obtain ⟨q1, q2⟩ := hS; go_simp⟩) HS5.out ?_
    change wpAnyF _ _ _ _ _ _ _ (Act.put _ (some 107) _) _
    simp only [Act.put, List.setIfInBounds_toArray, List.set_cons_zero, List.set_cons_succ]
    refine wpAnyF_take (i := 8) (v := (.slice q1 c.args.length r1)) rfl (by kernel_rfl) (by kernel_rfl) (by kernel_rfl) (by kernel_rfl) (by kernel_rfl) (fun _ _ _ h => h) (Or.inl ⟨by rfl, fun W hS => by obtain ⟨q1, q2⟩ := hS; go_simp⟩) HS5.out ?_
    change wpAnyF _ _ _ _ _ _ _ (Act.put _ (some 108) _) _
    simp only [Act.put, List.setIfInBounds_toArray, List.set_cons_zero, List.set_cons_succ]
    refine wpAnyF_take (i := 9) (v := (.pointer (some ⟨w3.heap.size, 1, none⟩))) rfl (by kernel_rfl) (by kernel_rfl) (by kernel_rfl) (by kernel_rfl) (by kernel_rfl) (fun _ _ _ h => h) (Or.inl ⟨by rfl, fun W hS => by obtain ⟨q1, q2⟩ := hS; go_simp⟩) HS5.out ?_
    change wpAnyF _ _ _ _ _ _ _ (Act.put _ (some 109) _) _
    simp only [Act.put, List.setIfInBounds_toArray, List.set_cons_zero, List.set_cons_succ]
    refine wpAnyF_take (i := 10) (v := (.slice (some ⟨g, 0, none⟩) b.cons.length d2)) rfl (by kernel_rfl) (by kernel_rfl) (by kernel_rfl) (by kernel_rfl) (by kernel_rfl) (fun _ _ _ h => h) (Or.inl ⟨by rfl, fun W hS => by obtain ⟨q1, q2⟩ := hS; go_simp⟩) HS5.out ?_
    change wpAnyF _ _ _ _ _ _ _ (Act.put _ (some 110) _) _
    simp only [Act.put, List.setIfInBounds_toArray, List.set_cons_zero, List.set_cons_succ]
    refine wpAnyF_take (i := 11) (v := (.int .i64 (K : Int))) rfl (by kernel_rfl) (by kernel_rfl) (by kernel_rfl) (by kernel_rfl) (by kernel_rfl) (fun _ _ _ h => h) (Or.inl ⟨by rfl, fun W hS => by obtain ⟨q1, q2⟩ := hS; go_simp⟩) HS5.out ?_
    change wpAnyF _ _ _ _ _ _ _ (Act.put _ (some 111) _) _
    simp only [Act.put, List.setIfInBounds_toArray, List.set_cons_zero, List.set_cons_succ]
    refine wpAnyF_take (i := 12) (v := (.pointer (some ⟨g, K * 6, none⟩))) rfl (by kernel_rfl) (by kernel_rfl) (by kernel_rfl) (by kernel_rfl) (by kernel_rfl) (fun _ _ _ h => h) (Or.inl ⟨by rfl, fun W hS => by obtain ⟨q1, q2⟩ := hS; go_simp⟩) HS5.out ?_
    change wpAnyF _ _ _ _ _ _ _ (Act.put _ (some 112) _) _
    simp only [Act.put, List.setIfInBounds_toArray, List.set_cons_zero, List.set_cons_succ]
    refine wpAnyF_take (i := 13) (v := (.pointer (some ⟨g, K * 6 + 1, none⟩))) rfl (by kernel_rfl) (by kernel_rfl) (by kernel_rfl) (by kernel_rfl) (by kernel_rfl) (fun _ _ _ h => h) (Or.inl ⟨by rfl, fun W hS => by obtain ⟨q1, q2⟩ := hS; go_simp⟩) HS5.out ?_
    change wpAnyF _ _ _ _ _ _ _ (Act.put _ (some 113) _) _
    simp only [Act.put, List.setIfInBounds_toArray, List.set_cons_zero, List.set_cons_succ]
    refine wpAnyF_take (i := 14) (v := (.slice q1 c.args.length r1)) rfl (by kernel_rfl) (by kernel_rfl) (by kernel_rfl) (by kernel_rfl) (by kernel_rfl) (fun _ _ _ h => h) (Or.inl ⟨by rfl, fun W hS => by obtain ⟨q1, q2⟩ := hS; go_simp⟩) HS5.out ?_
    change wpAnyF _ _ _ _ _ _ _ (Act.put _ (some 114) _) _
    simp only [Act.put, List.setIfInBounds_toArray, List.set_cons_zero, List.set_cons_succ]
    refine wpAnyF_take (i := 15) (v := (.int .i64 (c.args.length : Int))) rfl (by kernel_rfl) (by kernel_rfl) (by kernel_rfl) (by kernel_rfl) (by kernel_rfl) (fun _ _ _ h => h) (Or.inl ⟨by rfl, fun W hS => by obtain ⟨q1, q2⟩ := hS; go_simp⟩) HS5.out ?_
    change wpAnyF _ _ _ _ _ _ _ (Act.put _ (some 115) _) _
    simp only [Act.put, List.setIfInBounds_toArray, List.set_cons_zero, List.set_cons_succ]
    refine wpAnyF_one (i := 16) (by kernel_rfl) rfl (by rfl) fun K' hK => ?_
    go_simp
    refine (v_any (c.args.length : Int) _).mono ?_
    rintro e w6 ⟨rfl, hb⟩
    have HBw6 := Lib.hid (HB5.out.trans (hb.mono HB5.out.size))
    have HMw6 := Lib.hid ((hb.block w3.heap.size (by omega)).trans HM5.out)
    have HGw6 := Lib.hid ((hb.block g (by omega)).trans HG5.out)
    have hzw6 := hb.size
    have HSw6 : Hid (w6.cell? ⟨w3.heap.size, 1, none⟩ = some (.slice (some ⟨g, 0, none⟩) b.cons.length d2) ∧ w6.cell? ⟨g, K * 6 + 1, none⟩ = some (.slice q1 c.args.length r1)) := ⟨(boxc HMw6.out).1.2.1, (cellOf HGw6.out _).trans HP.out⟩
    clear hb
    go_simp
    refine hK _ _ (fun _ => HSw6.out) ?_
    clear hK K'
    try change wpAnyF _ _ _ _ _ _ _ (Act.put _ (some 116) _) _
    try simp only [Act.put, List.setIfInBounds_toArray, List.set_cons_zero, List.set_cons_succ]
    refine wpAnyF_take (i := 17) (v := (.agg #[.bool false, .int .i64 1, .int .i64 (c.args.length : Int), .slice none 0 0, .slice none 0 0, .int .i64 0, .slice none 0 0])) rfl (by kernel_rfl) (by kernel_rfl) (by kernel_rfl) (by kernel_rfl) (by kernel_rfl) (fun _ _ _ h => h) (Or.inl ⟨by rfl, fun W hS => by obtain ⟨q1, q2⟩ := hS; go_simp⟩) HSw6.out ?_
    change wpAnyF _ _ _ _ _ _ _ (Act.put _ (some 117) _) _
    simp only [Act.put, List.setIfInBounds_toArray, List.set_cons_zero, List.set_cons_succ]
    have hal := below_al w6 (.cells #[.bool false, .int .i64 1, .int .i64 (c.args.length : Int), .slice none 0 0, .slice none 0 0, .int .i64 0, .slice none 0 0] 49)
    have hn7 := World.alloc_heap_new w6 (.cells #[.bool false, .int .i64 1, .int .i64 (c.args.length : Int), .slice none 0 0, .slice none 0 0, .int .i64 0, .slice none 0 0] 49)
    have hz7 := World.size_alloc w6 (.cells #[.bool false, .int .i64 1, .int .i64 (c.args.length : Int), .slice none 0 0, .slice none 0 0, .int .i64 0, .slice none 0 0] 49)
    refine wpAnyF_one (i := 18) (by kernel_rfl) rfl (by rfl) fun K' hK => ?_
    go_simp
    obtain ⟨w7, hw7⟩ : ∃ w7, w7 = w6.alloc (.cells #[.bool false, .int .i64 1, .int .i64 (c.args.length : Int), .slice none 0 0, .slice none 0 0, .int .i64 0, .slice none 0 0] 49) := ⟨_, rfl⟩
    rw [← hw7] at hal hn7 hz7 ⊢
    have HB7 := Lib.hid (HBw6.out.trans (hal.mono HBw6.out.size))
    have HM7 := Lib.hid ((hal.block w3.heap.size (by omega)).trans HMw6.out)
    have HG7 := Lib.hid ((hal.block g (by omega)).trans HGw6.out)
    have HN7 := Lib.hid hn7
    have HS7 : Hid (w7.cell? ⟨w3.heap.size, 1, none⟩ = some (.slice (some ⟨g, 0, none⟩) b.cons.length d2) ∧ w7.cell? ⟨g, K * 6 + 1, none⟩ = some (.slice q1 c.args.length r1)) := ⟨(boxc HM7.out).1.2.1, (cellOf HG7.out _).trans HP.out⟩
    have HR7 := Lib.hid (show w7.ownsRow w2.heap.size 49 7 (.slice q1 c.args.length r1) c.args.length ((List.range c.args.length).flatMap f) from ownsRow_same HO2.out fun j hj => HB7.out.block j (by have h1 := HIN.out j hj; have h2 := h1.2; omega))
    clear hal hn7 hw7
    refine hK _ _ (fun _ => HS7.out) ?_
    clear hK K'
    try change wpAnyF _ _ _ _ _ _ _ (Act.put _ (some 118) _) _
    try simp only [Act.put, List.setIfInBounds_toArray, List.set_cons_zero, List.set_cons_succ]
    refine wpAnyF_one (i := 19) (by kernel_rfl) rfl (by rfl) fun K' hK => ?_
    refine wp_append_lies _ (.tmp 108) (.tmp 118) 39 (by rfl) w2.heap.size 49 i0 _ 7 104 Try.underlying39 hi0 hy0 hy1 hy2 rfl (by decide) (.slice q1 c.args.length r1) c.args.length _ (by rfl) HR7.out ⟨w6.heap.size, 0, none⟩ 1 1 [.bool false, .int .i64 1, .int .i64 (c.args.length : Int), .slice none 0 0, .slice none 0 0, .int .i64 0, .slice none 0 0] (by rfl) (by simp) (World.news_of_block (cs := #[.bool false, .int .i64 1, .int .i64 (c.args.length : Int), .slice none 0 0, .slice none 0 0, .int .i64 0, .slice none 0 0]) HN7.out) (by simp [Value.oneCell']) (by decide) hm1 hm2 (by omega) w7.heap.size rfl ?_
    intro gg cp w8 hown8 hgrow8 hat8 hlt8
    have hz8 := hgrow8.size
    have hgno : some g ≠ (Value.slice q1 c.args.length r1).ownBlock := fun e => by have h1 := HIN.out g e.symm; have h2 := h1.1; have h3 := h1.2; omega
    have hMno : some w3.heap.size ≠ (Value.slice q1 c.args.length r1).ownBlock := fun e => by have h1 := HIN.out _ e.symm; have h3 := h1.2; omega
    have hgg : gg ≠ g := fun e => by subst e; rcases hat8 with h | h; exact hgno h.symm; omega
    have HM8 := Lib.hid ((hgrow8.block w3.heap.size (by omega) hMno).trans HM7.out)
    have HG8 := Lib.hid ((hgrow8.block g (by omega) hgno).trans HG7.out)
    have HS8 : Hid (w8.cell? ⟨w3.heap.size, 1, none⟩ = some (.slice (some ⟨g, 0, none⟩) b.cons.length d2) ∧ w8.cell? ⟨g, K * 6 + 1, none⟩ = some (.slice q1 c.args.length r1)) := ⟨(boxc HM8.out).1.2.1, (cellOf HG8.out _).trans HP.out⟩
    refine hK _ _ (fun _ => HS8.out) ?_
    clear hK K'
    try change wpAnyF _ _ _ _ _ _ _ (Act.put _ (some 119) _) _
    try simp only [Act.put, List.setIfInBounds_toArray, List.set_cons_zero, List.set_cons_succ]
    refine wpAnyF_one (i := 20) (by kernel_rfl) rfl (by rfl) fun K' hK => ?_
    go_simp
    refine hK _ _ (fun _ => HS8.out) ?_
    clear hK K'
    try change wpAnyF _ _ _ _ _ _ _ (Act.put _ (some 120) _) _
    try simp only [Act.put, List.setIfInBounds_toArray, List.set_cons_zero, List.set_cons_succ]
    refine wpAnyF_one (i := 21) (by kernel_rfl) rfl (by rfl) fun K' hK => ?_
    go_simp
    refine hK _ _ (fun _ => HS8.out) ?_
    clear hK K'
    try change wpAnyF _ _ _ _ _ _ _ (Act.put _ (some 121) _) _
    try simp only [Act.put, List.setIfInBounds_toArray, List.set_cons_zero, List.set_cons_succ]
    have gc := HS8.out.2
    have gf := frozenOf HG8.out (K * 6 + 1)
    refine wpAnyF_one (i := 22) (by kernel_rfl) rfl (by rfl) fun K' hK => ?_
    go_simp
    refine hK _ _ (fun h => absurd h (by simp)) ?_
    clear hK K'
    refine wpAnyF_done (by kernel_rfl) ?_ _
    try simp only [Act.put]
    have HONE := Lib.hid (one_own1 hgs6 HQ.out.1 HQ.out.2.1 HQ.out.2.2.1 HQ.out.2.2.2.1 HQ.out.2.2.2.2 (.slice (some ⟨gg, 0, none⟩) (c.args.length + 1) cp))
    have hcb := bent_arg b c ⟨false, .node 1 (c.args.length : Int) [], [], 0, []⟩ (bent_var b _)
    obtain ⟨x, hx⟩ : ∃ x : BlkT, x = setC b K { c with args := c.args ++ [⟨false, .node 1 (c.args.length : Int) [], [], 0, []⟩] } := ⟨_, rfl⟩
    have hxe : x.elim = b.elim := by rw [hx]; rfl
    have hWb : ∀ j, j < w3.heap.size → j ≠ g → some j ≠ (Value.slice q1 c.args.length r1).ownBlock → (w8.setCell ⟨g, K * 6 + 1, none⟩ (.slice (some ⟨gg, 0, none⟩) (c.args.length + 1) cp)).heap[j]? = w3.heap[j]? := fun j hj hjg hne => ((Below.heap_setCell _ _ _ _ (by simpa using hjg)).trans (hgrow8.block j (by omega) hne)).trans (HB7.out.block j hj)
    have hgP := heap_setCell_same w8 g (K * 6 + 1) cur ty (.slice (some ⟨gg, 0, none⟩) (c.args.length + 1) cp) HG8.out
    have hownW := (show (w8.setCell ⟨g, K * 6 + 1, none⟩ (.slice (some ⟨gg, 0, none⟩) (c.args.length + 1) cp)).ownsRow w2.heap.size 49 7 (.slice (some ⟨gg, 0, none⟩) (c.args.length + 1) cp) (c.args.length + 1) ((List.range c.args.length).flatMap f ++ bareC ⟨false, .node 1 (c.args.length : Int) [], [], 0, []⟩) from ownsRow_same hown8 fun j hj => by cases hj; exact Below.heap_setCell _ _ _ _ (by simpa using hgg))
    have hcon := con_args (a := ⟨false, .node 1 (c.args.length : Int) [], [], 0, []⟩) HAP.out hhi hgo HO1.out HO2.out HO3.out HPI.out HPD.out hWb hownW rfl rfl rfl
    have hbx := HAT.out (w8.setCell ⟨g, K * 6 + 1, none⟩ (.slice (some ⟨gg, 0, none⟩) (c.args.length + 1) cp)) _ { c with args := c.args ++ [⟨false, .node 1 (c.args.length : Int) [], [], 0, []⟩] } [.int .i64 c.sort, .slice (some ⟨gg, 0, none⟩) (c.args.length + 1) cp, vi, .int .i64 c.dec.k, .int .i64 c.dec.n, vt] (fun j hj hjg hin => hWb j hj hjg (fun e => hin (HIN.out j e.symm))) hgP (fun i hi1 hi2 r hr => one_row (by omega) hi2 hr _) HONE.out hcon rfl
    rw [← hx] at hbx
    have hbel : Below w.heap.size w (w8.setCell ⟨g, K * 6 + 1, none⟩ (.slice (some ⟨gg, 0, none⟩) (c.args.length + 1) cp)) := ((O3.out.2.2.trans (HB7.out.mono O3.out.2.2.size)).trans ((Below.refl w.heap.size w7).grown hgrow8 (by omega) (fun j hj => by have h1 := HIN.out j hj; have h2 := h1.1; omega))).trans ((Below.refl w.heap.size w8).setCell (p := ⟨g, K * 6 + 1, none⟩) (by simp; omega) _)
    have HB : Hid (OneB w w.heap.size b (.slice ps b.sorts.length cs) (.slice pc b.cons.length cc) (w8.setCell ⟨g, K * 6 + 1, none⟩ (.slice (some ⟨gg, 0, none⟩) (c.args.length + 1) cp))) := ⟨((hWb w.heap.size (by omega) (by omega) (fun e => by have h1 := HIN.out _ e.symm; have h2 := h1.1; omega)).trans HN0.out), HA0.out.bel hbel, hbel⟩
    have HX : Hid (OneB w w3.heap.size x (.slice a1 b.sorts.length d1) (.slice (some ⟨g, 0, none⟩) b.cons.length d2) (w8.setCell ⟨g, K * 6 + 1, none⟩ (.slice (some ⟨gg, 0, none⟩) (c.args.length + 1) cp))) := ⟨by rw [hxe]; exact (Below.heap_setCell _ _ _ _ (by simp; omega)).trans HM8.out, hbx, hbel⟩
    have SX : Hid (∀ W, BAt W x (.slice a1 b.sorts.length d1) (.slice (some ⟨g, 0, none⟩) b.cons.length d2) → Calls Try.prog 13 #[.agg #[(.slice a1 b.sorts.length d1), (.slice (some ⟨g, 0, none⟩) b.cons.length d2), .int .i64 x.elim]] W fun e w' => e = .returned (.int .i64 12) ∧ Below W.heap.size W w') := fun W hA => by
      have hc := scheckG_any x (by rw [hx]; exact small_set hs K (show conN { c with args := c.args ++ [⟨false, .node 1 (c.args.length : Int) [], [], 0, []⟩] } ≤ 1048576 by have h1 := con_room hs hns HCM.out; have h2 : conN { c with args := c.args ++ [⟨false, .node 1 (c.args.length : Int) [], [], 0, []⟩] } = argsN (c.args ++ [⟨false, .node 1 (c.args.length : Int) [], [], 0, []⟩]) + sizeL c.idx + size c.dec + 1 := rfl; have h3 : conN c = argsN c.args + sizeL c.idx + size c.dec + 1 := rfl; have h4 := argsN_snoc ⟨false, .node 1 (c.args.length : Int) [], [], 0, []⟩ c.args; have h5 : argN ⟨false, .node 1 (c.args.length : Int) [], [], 0, []⟩ = 2 := rfl; omega)) (by rw [hx]; exact fits_set hF K (show ({ c with args := c.args ++ [⟨false, .node 1 (c.args.length : Int) [], [], 0, []⟩] } : ConT).fits from ⟨(hF.2.1 c HCM.out).1, fun y hy => (List.mem_append.1 hy).elim (fun h => (hF.2.1 c HCM.out).2.1 y h) (fun h => by rw [List.mem_singleton] at h; subst h; exact ⟨leaf_fits 1 _ (by unfold I64; decide) (by unfold I64; omega), (fun u hu => nomatch hu), (show I64 0 by unfold I64; decide), (fun u hu => nomatch hu)⟩), (hF.2.1 c HCM.out).2.2⟩)) W (.slice a1 b.sorts.length d1) (.slice (some ⟨g, 0, none⟩) b.cons.length d2) hA
      rw [show shapeB x = false by rw [hx]; exact bent_con b hK _ hcb] at hc
      exact hc
    clear hx hbx hbel hxe hWb hgP hownW hcon
    clear gc gf
    revert HB HX
    generalize (w8.setCell ⟨g, K * 6 + 1, none⟩ (.slice (some ⟨gg, 0, none⟩) (c.args.length + 1) cp)) = wz
    intro HB HX
    obtain ⟨x0, x1, x2⟩ := HB.out.cells
    obtain ⟨y0, y1, y2⟩ := HX.out.cells
    go_wp2_with fail
    refine (SB.out _ HB.out.2.1).mono ?_
    rintro e wa ⟨rfl, hb⟩
    have HB1 := Lib.hid (HB.out.bel hb)
    have HX1 := Lib.hid (HX.out.bel hb)
    clear hb x0 x1 x2 y0 y1 y2 HB HX
    obtain ⟨y0, y1, y2⟩ := HX1.out.cells
    go_wp2_with fail
    refine (SX.out _ HX1.out.2.1).mono ?_
    rintro e wb ⟨rfl, hb⟩
    have HB2 := Lib.hid (HB1.out.bel hb)
    clear hb y0 y1 y2 HB1 HX1
    go_wp2_with fail
    refine (HWK.out _).mono ?_
    rintro e wc ⟨rfl, hb⟩
    have HB3 := Lib.hid (HB2.out.bel hb)
    clear hb
    go_wp2_with fail
    go_ret
    exact ⟨ret_bool rfl, HB3.out.2.2⟩
  · skip
    subst hm
    rw [← HW.out]
    clear HW
    obtain ⟨g, cap, cur, ty, lo, hi, t1, e1, t2, e2, t3, e3, va, vi, vt, huc, hg, hgs, hap, hlo, hhi, hgo, hgN, hgz, hPA, hPI, hPD, ⟨p0, p1, p2, p3, p4, p5⟩, hbat⟩ := HBO.out.con hK
    cases huc
    obtain ⟨c, hc⟩ : ∃ c, b.cons[K] = c := ⟨_, rfl⟩
    have hcm : c ∈ b.cons := by rw [← hc]; exact List.getElem_mem hK
    rw [hc] at hPA hPI hPD p0 p3 p4
    unfold Apart3 at hap
    have hgM : g ≠ w3.heap.size := fun e => by rw [e, HN4.out] at hg; cases hg; simp at hgs; omega
    obtain ⟨⟨y0, y1, y2⟩, v0, v1, v2⟩ := boxc HN4.out
    have hco := (con_parts (s5 c hcm)).1
    obtain ⟨j1, j2⟩ := inZ_iff.1 hco
    obtain ⟨J, hJ⟩ : ∃ J : Nat, c.sort = (J : Int) := ⟨c.sort.toNat, by omega⟩
    have hJl : J < b.sorts.length := by omega
    have hJi : (J : Int) < (b.sorts.length : Int) := by omega
    have hJ0 : (0 : Int) ≤ (J : Int) := by omega
    have hhd : hasDec b c.sort = b.sorts[J].dec := by rw [hJ]; exact hasDec_at b hJl
    obtain ⟨Bc, offc, ua, ui, ut, hpc, _, _, _, m0, _, _, _, _, _⟩ := CRow.at H5.out.2.1.2 hK
    rw [hc, hJ] at m0
    obtain ⟨Bs, offs, ua2, ut2, hps, _, _, _, _, m2, _, _, _⟩ := SRow.at H5.out.2.1.1 hJl
    have hbd := bent_dec b c
    rw [hhd] at hbd
    have M0 := Lib.hid m0
    have HPC := Lib.hid hpc
    have HPS := Lib.hid hps
    have HG := Lib.hid hg
    have HPA := Lib.hid hPA
    have HPI := Lib.hid hPI
    have HPD := Lib.hid hPD
    have HAT := Lib.hid hbat
    have HP := Lib.hid (And.intro p0 (And.intro p1 p2))
    have HCM := Lib.hid hcm
    have hgs6 : K * 6 + 6 ≤ cur.size := by omega
    have HJ := Lib.hid hJ
    have HNN := Lib.hid hnn
    clear y0 y1 y2 v0 v1 v2 m0 hpc hps hg hPA hPI hPD hbat p0 p1 p2 p3 p4 p5 hgs hco j1 j2 hJ hhd hc hcm hnn
    cases hd : b.sorts[J].dec with
    | true =>
      rw [hd] at m2 hbd
      simp only [if_true] at hbd
      have M2 := Lib.hid m2
      clear m2 hd
      go_wp2_with fail
      refine wp_region_rel (by kernel_rfl) (by kernel_rfl) (by kernel_rfl) ?_
      apply RelWalk.rest
      · kernel_rfl
      · intro X _ W hW hcl
        obtain ⟨x0, x1, x2⟩ := H5.out.cells
        rw [HPS.out] at x0
        rw [HPC.out] at x1
        have rx0 := fun q => gcell (hW q) x0
        have rx1 := fun q => gcell (hW q) x1
        have rm0 := fun q => gcell (hW q) M0.out
        have rm2 := fun q => gcell (hW q) M2.out
        clear x0 x1 x2
        repeat (go_big_quiet_step (fail))
        exact wpQuiet_nil rfl
      intro gq w5 hg5 _
      have HB5 := Lib.hid hg5
      have hz5 := hg5.size
      clear hg5
      simp only [Spread]
      obtain ⟨x, hx⟩ : ∃ x : BlkT, x = setC b K { c with dec := zTm } := ⟨_, rfl⟩
      have hxe : x.elim = b.elim := by rw [hx]; rfl
      have hgW := (HB5.out.block g hgz).trans HG.out
      have hNW := (HB5.out.block w3.heap.size (by omega)).trans HN4.out
      have hgP := dec_put (n := K * 6) hgW (.int .i64 0) (.int .i64 0) (.slice none 0 0)
      have hoth : ∀ j, j < w4.heap.size → j ≠ g → (((w5.setCell ⟨g, K * 6 + 3, none⟩ (.int .i64 0)).setCell ⟨g, K * 6 + 4, none⟩ (.int .i64 0)).setCell ⟨g, K * 6 + 5, none⟩ (.slice none 0 0)).heap[j]? = w4.heap[j]? := fun j hj hjg => (dec_oth hjg (.int .i64 0) (.int .i64 0) (.slice none 0 0)).trans (HB5.out.block j hj)
      have sm : ∀ (S : Nat → Prop), (∀ j, S j → lo ≤ j ∧ j < hi) → ∀ j, S j → True ∧ (((w5.setCell ⟨g, K * 6 + 3, none⟩ (.int .i64 0)).setCell ⟨g, K * 6 + 4, none⟩ (.int .i64 0)).setCell ⟨g, K * 6 + 5, none⟩ (.slice none 0 0)).heap[j]? = w4.heap[j]? := fun S hS j hj => ⟨trivial, hoth j (by have := hS j hj; omega) (fun e => by have := hS j hj; omega)⟩
      have hbx := HAT.out (((w5.setCell ⟨g, K * 6 + 3, none⟩ (.int .i64 0)).setCell ⟨g, K * 6 + 4, none⟩ (.int .i64 0)).setCell ⟨g, K * 6 + 5, none⟩ (.slice none 0 0)) _ { c with dec := zTm } [.int .i64 c.sort, va, vi, .int .i64 0, .int .i64 0, .slice none 0 0]
        (fun j hj hjg hin => hoth j hj hjg)
        hgP
        (fun i hi1 hi2 r hr => dec_row hi2 hr _ _ _)
        (dec_own hgs6 HP.out.1 HP.out.2.1 HP.out.2.2 _ _ _)
        ⟨va, vi, .slice none 0 0, rfl, ArgsOwn.row (HPA.out.same (T := fun _ => True) (sm _ fun j hj => by have h1 := hj.1; have h2 := hj.2; omega)) |>.at, (HPI.out.same (T := fun _ => True) (sm _ fun j hj => by have h1 := hj.1; have h2 := hj.2; omega)).at, .nl⟩ rfl
      rw [← hx] at hbx
      have blk0 := hoth w.heap.size (by omega) (by omega)
      have hbM := hoth w3.heap.size (by omega) (Ne.symm hgM)
      have SX : Hid (∀ W, BAt W x (.slice a1 b.sorts.length d1) (.slice (some ⟨g, 0, none⟩) b.cons.length d2) → Calls Try.prog 13 #[.agg #[(.slice a1 b.sorts.length d1), (.slice (some ⟨g, 0, none⟩) b.cons.length d2), .int .i64 x.elim]] W fun e w' => e = .returned (.int .i64 12) ∧ Below W.heap.size W w') := fun W hA => by
        have hc := scheckG_any x (by rw [hx]; exact small_set hs K (show conN { c with dec := zTm } ≤ 1048576 by have h1 := con_room hs hns HCM.out; have h2 : conN { c with dec := zTm } = argsN c.args + sizeL c.idx + 1 + 1 := rfl; have h3 : conN c = argsN c.args + sizeL c.idx + size c.dec + 1 := rfl; have h4 := size_pos c.dec; omega)) (by rw [hx]; exact fits_set hF K (show ({ c with dec := zTm } : ConT).fits from ⟨(hF.2.1 c HCM.out).1, (hF.2.1 c HCM.out).2.1, (hF.2.1 c HCM.out).2.2.1, leaf_fits 0 0 (by unfold I64; decide) (by unfold I64; decide)⟩)) W (.slice a1 b.sorts.length d1) (.slice (some ⟨g, 0, none⟩) b.cons.length d2) hA
        rw [show shapeB x = false by rw [hx]; exact bent_con b hK _ hbd] at hc
        exact hc
      have hbel : Below w.heap.size w (((w5.setCell ⟨g, K * 6 + 3, none⟩ (.int .i64 0)).setCell ⟨g, K * 6 + 4, none⟩ (.int .i64 0)).setCell ⟨g, K * 6 + 5, none⟩ (.slice none 0 0)) := H5.out.2.2.trans ((HB5.out.mono (by omega)).trans (dec_bel (by omega) (.int .i64 0) (.int .i64 0) (.slice none 0 0)))
      have HB : Hid (OneB w w.heap.size b (.slice ps b.sorts.length cs) (.slice pc b.cons.length cc) (((w5.setCell ⟨g, K * 6 + 3, none⟩ (.int .i64 0)).setCell ⟨g, K * 6 + 4, none⟩ (.int .i64 0)).setCell ⟨g, K * 6 + 5, none⟩ (.slice none 0 0))) := ⟨blk0.trans H5.out.1, HA0.out.bel hbel, hbel⟩
      have HX : Hid (OneB w w3.heap.size x (.slice a1 b.sorts.length d1) (.slice (some ⟨g, 0, none⟩) b.cons.length d2) (((w5.setCell ⟨g, K * 6 + 3, none⟩ (.int .i64 0)).setCell ⟨g, K * 6 + 4, none⟩ (.int .i64 0)).setCell ⟨g, K * 6 + 5, none⟩ (.slice none 0 0))) := ⟨by rw [hxe]; exact hbM.trans HN4.out, hbx, hbel⟩
      clear hx hbx hbel blk0 hbM hxe hgP hoth sm
      obtain ⟨⟨y0, y1, y2⟩, v0, v1, v2⟩ := boxc hNW
      have gc3 := cellOf hgW (K * 6 + 3)
      have gc4 := cellOf hgW (K * 6 + 4)
      have gc5 := cellOf hgW (K * 6 + 5)
      have gq : ∀ r, r < 6 → ∃ u, cur[K * 6 + r]? = some u := fun r hr => ⟨cur[K * 6 + r], Array.getElem?_eq_getElem (by omega)⟩
      obtain ⟨u3, e3⟩ := gq 3 (by omega)
      obtain ⟨u4, e4⟩ := gq 4 (by omega)
      obtain ⟨u5, e5⟩ := gq 5 (by omega)
      rw [e3] at gc3
      rw [e4] at gc4
      rw [e5] at gc5
      have gf3 := frozenOf hgW (K * 6 + 3)
      have gf4 := frozenOf hgW (K * 6 + 4)
      have gf5 := frozenOf hgW (K * 6 + 5)
      clear gq e3 e4 e5 hgW hNW
      go_upto_region 26 with (fail)
      clear y0 y1 y2 v0 v1 v2 gc3 gc4 gc5 gf3 gf4 gf5
      revert HB HX
      generalize (((w5.setCell ⟨g, K * 6 + 3, none⟩ (.int .i64 0)).setCell ⟨g, K * 6 + 4, none⟩ (.int .i64 0)).setCell ⟨g, K * 6 + 5, none⟩ (.slice none 0 0)) = wz
      intro HB HX
      obtain ⟨x0, x1, x2⟩ := HB.out.cells
      obtain ⟨y0, y1, y2⟩ := HX.out.cells
      go_wp2_with fail
      refine (SB.out _ HB.out.2.1).mono ?_
      rintro e wa ⟨rfl, hb⟩
      have HB1 := Lib.hid (HB.out.bel hb)
      have HX1 := Lib.hid (HX.out.bel hb)
      clear hb x0 x1 x2 y0 y1 y2 HB HX
      obtain ⟨y0, y1, y2⟩ := HX1.out.cells
      go_wp2_with fail
      refine (SX.out _ HX1.out.2.1).mono ?_
      rintro e wb ⟨rfl, hb⟩
      have HB2 := Lib.hid (HB1.out.bel hb)
      clear hb y0 y1 y2 HB1 HX1
      go_wp2_with fail
      refine (HWK.out _).mono ?_
      rintro e wc ⟨rfl, hb⟩
      have HB3 := Lib.hid (HB2.out.bel hb)
      clear hb
      go_wp2_with fail
      go_ret
      exact ⟨ret_bool rfl, HB3.out.2.2⟩
    | false =>
      rw [hd] at m2 hbd
      simp only [Bool.false_eq_true, if_false] at hbd
      have M2 := Lib.hid m2
      clear m2 hd
      go_wp2_with fail
      refine wp_region_rel (by kernel_rfl) (by kernel_rfl) (by kernel_rfl) ?_
      apply RelWalk.rest
      · kernel_rfl
      · intro X _ W hW hcl
        obtain ⟨x0, x1, x2⟩ := H5.out.cells
        rw [HPS.out] at x0
        rw [HPC.out] at x1
        have rx0 := fun q => gcell (hW q) x0
        have rx1 := fun q => gcell (hW q) x1
        have rm0 := fun q => gcell (hW q) M0.out
        have rm2 := fun q => gcell (hW q) M2.out
        clear x0 x1 x2
        repeat (go_big_quiet_step (fail))
        exact wpQuiet_nil rfl
      intro gq w5 hg5 _
      have HB5 := Lib.hid hg5
      have hz5 := hg5.size
      clear hg5
      simp only [Spread]
      go_wp2_with fail
      refine wp_region_rel_tail 4 (by kernel_rfl) (by kernel_rfl) (by kernel_rfl) ?_
      simp only [List.take_succ_cons, List.take_zero]
      simp only [List.drop_succ_cons, List.drop_zero]
      apply RelWalk.rest
      · kernel_rfl
      · intro X _ W hW hcl
        obtain ⟨⟨y0, y1, y2⟩, v0, v1, v2⟩ := boxc ((HB5.out.block w3.heap.size (by omega)).trans HN4.out)
        have ry1 := fun q => gcell (hW q) y1
        clear y0 y1 y2 v0 v1 v2
        have d0 := Lib.hid (fun q => into hcl (u_any 0 (W q)))
        repeat (go_big_quiet_step (first | (with_reducible exact d0.out _)))
        exact wpQuiet_nil rfl
      intro gq w6 hg6 _
      have HB6 := Lib.hid (HB5.out.trans (hg6.mono HB5.out.size))
      have hz6 := hg6.size
      clear hg6
      simp only [Spread]
      obtain ⟨x, hx⟩ : ∃ x : BlkT, x = setC b K { c with dec := .node 2 0 [] } := ⟨_, rfl⟩
      have hxe : x.elim = b.elim := by rw [hx]; rfl
      have hgW := (HB6.out.block g hgz).trans HG.out
      have hNW := (HB6.out.block w3.heap.size (by omega)).trans HN4.out
      have hgP := dec_put (n := K * 6) hgW (.int .i64 2) (.int .i64 0) (.slice none 0 0)
      have hoth : ∀ j, j < w4.heap.size → j ≠ g → (((w6.setCell ⟨g, K * 6 + 3, none⟩ (.int .i64 2)).setCell ⟨g, K * 6 + 4, none⟩ (.int .i64 0)).setCell ⟨g, K * 6 + 5, none⟩ (.slice none 0 0)).heap[j]? = w4.heap[j]? := fun j hj hjg => (dec_oth hjg (.int .i64 2) (.int .i64 0) (.slice none 0 0)).trans (HB6.out.block j hj)
      have sm : ∀ (S : Nat → Prop), (∀ j, S j → lo ≤ j ∧ j < hi) → ∀ j, S j → True ∧ (((w6.setCell ⟨g, K * 6 + 3, none⟩ (.int .i64 2)).setCell ⟨g, K * 6 + 4, none⟩ (.int .i64 0)).setCell ⟨g, K * 6 + 5, none⟩ (.slice none 0 0)).heap[j]? = w4.heap[j]? := fun S hS j hj => ⟨trivial, hoth j (by have := hS j hj; omega) (fun e => by have := hS j hj; omega)⟩
      have hbx := HAT.out (((w6.setCell ⟨g, K * 6 + 3, none⟩ (.int .i64 2)).setCell ⟨g, K * 6 + 4, none⟩ (.int .i64 0)).setCell ⟨g, K * 6 + 5, none⟩ (.slice none 0 0)) _ { c with dec := .node 2 0 [] } [.int .i64 c.sort, va, vi, .int .i64 2, .int .i64 0, .slice none 0 0]
        (fun j hj hjg hin => hoth j hj hjg)
        hgP
        (fun i hi1 hi2 r hr => dec_row hi2 hr _ _ _)
        (dec_own hgs6 HP.out.1 HP.out.2.1 HP.out.2.2 _ _ _)
        ⟨va, vi, .slice none 0 0, rfl, ArgsOwn.row (HPA.out.same (T := fun _ => True) (sm _ fun j hj => by have h1 := hj.1; have h2 := hj.2; omega)) |>.at, (HPI.out.same (T := fun _ => True) (sm _ fun j hj => by have h1 := hj.1; have h2 := hj.2; omega)).at, .nl⟩ rfl
      rw [← hx] at hbx
      have blk0 := hoth w.heap.size (by omega) (by omega)
      have hbM := hoth w3.heap.size (by omega) (Ne.symm hgM)
      have SX : Hid (∀ W, BAt W x (.slice a1 b.sorts.length d1) (.slice (some ⟨g, 0, none⟩) b.cons.length d2) → Calls Try.prog 13 #[.agg #[(.slice a1 b.sorts.length d1), (.slice (some ⟨g, 0, none⟩) b.cons.length d2), .int .i64 x.elim]] W fun e w' => e = .returned (.int .i64 12) ∧ Below W.heap.size W w') := fun W hA => by
        have hc := scheckG_any x (by rw [hx]; exact small_set hs K (show conN { c with dec := .node 2 0 [] } ≤ 1048576 by have h1 := con_room hs hns HCM.out; have h2 : conN { c with dec := .node 2 0 [] } = argsN c.args + sizeL c.idx + 1 + 1 := rfl; have h3 : conN c = argsN c.args + sizeL c.idx + size c.dec + 1 := rfl; have h4 := size_pos c.dec; omega)) (by rw [hx]; exact fits_set hF K (show ({ c with dec := .node 2 0 [] } : ConT).fits from ⟨(hF.2.1 c HCM.out).1, (hF.2.1 c HCM.out).2.1, (hF.2.1 c HCM.out).2.2.1, leaf_fits 2 0 (by unfold I64; decide) (by unfold I64; decide)⟩)) W (.slice a1 b.sorts.length d1) (.slice (some ⟨g, 0, none⟩) b.cons.length d2) hA
        rw [show shapeB x = false by rw [hx]; exact bent_con b hK _ hbd] at hc
        exact hc
      have hbel : Below w.heap.size w (((w6.setCell ⟨g, K * 6 + 3, none⟩ (.int .i64 2)).setCell ⟨g, K * 6 + 4, none⟩ (.int .i64 0)).setCell ⟨g, K * 6 + 5, none⟩ (.slice none 0 0)) := H5.out.2.2.trans ((HB6.out.mono (by omega)).trans (dec_bel (by omega) (.int .i64 2) (.int .i64 0) (.slice none 0 0)))
      have HB : Hid (OneB w w.heap.size b (.slice ps b.sorts.length cs) (.slice pc b.cons.length cc) (((w6.setCell ⟨g, K * 6 + 3, none⟩ (.int .i64 2)).setCell ⟨g, K * 6 + 4, none⟩ (.int .i64 0)).setCell ⟨g, K * 6 + 5, none⟩ (.slice none 0 0))) := ⟨blk0.trans H5.out.1, HA0.out.bel hbel, hbel⟩
      have HX : Hid (OneB w w3.heap.size x (.slice a1 b.sorts.length d1) (.slice (some ⟨g, 0, none⟩) b.cons.length d2) (((w6.setCell ⟨g, K * 6 + 3, none⟩ (.int .i64 2)).setCell ⟨g, K * 6 + 4, none⟩ (.int .i64 0)).setCell ⟨g, K * 6 + 5, none⟩ (.slice none 0 0))) := ⟨by rw [hxe]; exact hbM.trans HN4.out, hbx, hbel⟩
      clear hx hbx hbel blk0 hbM hxe hgP hoth sm
      obtain ⟨⟨y0, y1, y2⟩, v0, v1, v2⟩ := boxc hNW
      have gc3 := cellOf hgW (K * 6 + 3)
      have gc4 := cellOf hgW (K * 6 + 4)
      have gc5 := cellOf hgW (K * 6 + 5)
      have gq : ∀ r, r < 6 → ∃ u, cur[K * 6 + r]? = some u := fun r hr => ⟨cur[K * 6 + r], Array.getElem?_eq_getElem (by omega)⟩
      obtain ⟨u3, e3⟩ := gq 3 (by omega)
      obtain ⟨u4, e4⟩ := gq 4 (by omega)
      obtain ⟨u5, e5⟩ := gq 5 (by omega)
      rw [e3] at gc3
      rw [e4] at gc4
      rw [e5] at gc5
      have gf3 := frozenOf hgW (K * 6 + 3)
      have gf4 := frozenOf hgW (K * 6 + 4)
      have gf5 := frozenOf hgW (K * 6 + 5)
      clear gq e3 e4 e5 hgW hNW
      go_upto_region 26 with (fail)
      clear y0 y1 y2 v0 v1 v2 gc3 gc4 gc5 gf3 gf4 gf5
      revert HB HX
      generalize (((w6.setCell ⟨g, K * 6 + 3, none⟩ (.int .i64 2)).setCell ⟨g, K * 6 + 4, none⟩ (.int .i64 0)).setCell ⟨g, K * 6 + 5, none⟩ (.slice none 0 0)) = wz
      intro HB HX
      obtain ⟨x0, x1, x2⟩ := HB.out.cells
      obtain ⟨y0, y1, y2⟩ := HX.out.cells
      go_wp2_with fail
      refine (SB.out _ HB.out.2.1).mono ?_
      rintro e wa ⟨rfl, hb⟩
      have HB1 := Lib.hid (HB.out.bel hb)
      have HX1 := Lib.hid (HX.out.bel hb)
      clear hb x0 x1 x2 y0 y1 y2 HB HX
      obtain ⟨y0, y1, y2⟩ := HX1.out.cells
      go_wp2_with fail
      refine (SX.out _ HX1.out.2.1).mono ?_
      rintro e wb ⟨rfl, hb⟩
      have HB2 := Lib.hid (HB1.out.bel hb)
      clear hb y0 y1 y2 HB1 HX1
      go_wp2_with fail
      refine (HWK.out _).mono ?_
      rintro e wc ⟨rfl, hb⟩
      have HB3 := Lib.hid (HB2.out.bel hb)
      clear hb
      go_wp2_with fail
      go_ret
      exact ⟨ret_bool rfl, HB3.out.2.2⟩
  · skip
    subst hm
    obtain ⟨x, hx⟩ : ∃ x : BlkT, x = { b with elim := 7 } := ⟨_, rfl⟩
    have hxb : BAt w3 x (.slice a1 b.sorts.length d1) (.slice a2 b.cons.length d2) := by rw [hx]; exact HT.out.at
    have h6 := oneb_start w3 x _ _ hxb
    have h7 := O3.out.bel h6.2.2
    rw [show x.elim = 7 by rw [hx]] at h6 h7
    obtain ⟨w5, hw5⟩ : ∃ w5, w5 = w3.alloc (.cells #[.slice a1 b.sorts.length d1, .slice a2 b.cons.length d2, .int .i64 7] 25) := ⟨_, rfl⟩
    rw [← hw5] at h6 h7
    have HB := Lib.hid h7
    have HX : Hid (OneB w w3.heap.size x (.slice a1 b.sorts.length d1) (.slice a2 b.cons.length d2) w5) := ⟨h6.1, h6.2.1, h7.2.2⟩
    have HW5 := Lib.hid hw5
    clear h6 h7 hw5 hxb
    have SX : Hid (∀ W, BAt W x (.slice a1 b.sorts.length d1) (.slice a2 b.cons.length d2) → Calls Try.prog 13 #[.agg #[(.slice a1 b.sorts.length d1), (.slice a2 b.cons.length d2), .int .i64 x.elim]] W fun e w' => e = .returned (.int .i64 12) ∧ Below W.heap.size W w') := fun W hA => by
      have hc := scheckG_any x (by rw [hx]; exact (show SmallB { b with elim := 7 } from small_of hs)) (by rw [hx]; exact ⟨hF.1, hF.2.1, by show (-9223372036854775808 : Int) ≤ 7 ∧ (7 : Int) ≤ 9223372036854775807; omega⟩) W (.slice a1 b.sorts.length d1) (.slice a2 b.cons.length d2) hA
      rw [show shapeB x = false by rw [hx]; exact bent_elim b] at hc
      exact hc
    clear hx
    go_upto_region 26 with (fail)
    rw [← HW5.out]
    clear HW5
    obtain ⟨x0, x1, x2⟩ := HB.out.cells
    obtain ⟨y0, y1, y2⟩ := HX.out.cells
    go_wp2_with fail
    refine (SB.out _ HB.out.2.1).mono ?_
    rintro e wa ⟨rfl, hb⟩
    have HB1 := Lib.hid (HB.out.bel hb)
    have HX1 := Lib.hid (HX.out.bel hb)
    clear hb x0 x1 x2 y0 y1 y2 HB HX
    obtain ⟨y0, y1, y2⟩ := HX1.out.cells
    go_wp2_with fail
    refine (SX.out _ HX1.out.2.1).mono ?_
    rintro e wb ⟨rfl, hb⟩
    have HB2 := Lib.hid (HB1.out.bel hb)
    clear hb y0 y1 y2 HB1 HX1
    go_wp2_with fail
    refine (HWK.out _).mono ?_
    rintro e wc ⟨rfl, hb⟩
    have HB3 := Lib.hid (HB2.out.bel hb)
    clear hb
    go_wp2_with fail
    go_ret
    exact ⟨ret_bool rfl, HB3.out.2.2⟩
  · skip
    subst hm
    rw [← HW.out]
    clear HW
    obtain ⟨g, cap, cur, ty, lo, hi, t1, e1, t2, e2, t3, e3, va, vi, vt, huc, hg, hgs, hap, hlo, hhi, hgo, hgN, hgz, hPA, hPI, hPD, ⟨p0, p1, p2, p3, p4, p5⟩, hbat⟩ := HT.out.con hK
    cases huc
    obtain ⟨c, hc⟩ : ∃ c, b.cons[K] = c := ⟨_, rfl⟩
    have hcm : c ∈ b.cons := by rw [← hc]; exact List.getElem_mem hK
    rw [hc] at hPA hPI hPD p0 p3 p4
    have HAP := Lib.hid hap
    unfold Apart3 at hap
    have hgs6 : K * 6 + 6 ≤ cur.size := by omega
    obtain ⟨ho1, f, ho2, ho3⟩ := hPA
    obtain ⟨q1, r1, rfl⟩ : ∃ q1 r1, va = .slice q1 c.args.length r1 := by
      rcases ownsRow_forms ho2 with ⟨h, h0⟩ | ⟨_, _, h⟩
      · exact ⟨none, 0, by rw [h, h0]⟩
      · exact ⟨_, _, h⟩
    have hlen12 : c.args.length ≤ 12 := (con_parts (s5 c hcm)).2.1
    have HG := Lib.hid hg
    have HP := Lib.hid p1
    have HO1 := Lib.hid ho1
    have HO2 := Lib.hid ho2
    have HO3 := Lib.hid ho3
    have HPI := Lib.hid hPI
    have HPD := Lib.hid hPD
    have HAT := Lib.hid hbat
    have HCM := Lib.hid hcm
    have HQ := Lib.hid (And.intro p0 (And.intro p2 (And.intro p3 (And.intro p4 p5))))
    have HN0 := Lib.hid O3.out.1
    have HIN : Hid (∀ j, (Value.slice q1 c.args.length r1).ownBlock = some j → In lo hi j) := fun j hj => by have h1 := ho1 j hj; have h2 := h1.1; have h3 := h1.2; exact ⟨by omega, by omega⟩
    have hm1 : c.args.length + 1 ≤ maxLen := by unfold maxLen; omega
    have hm2 : (c.args.length + 1) * 104 ≤ 140737488355328 := by omega
    obtain ⟨i0, hi0, hy0, hy1, hy2⟩ := info_parts Try.infoA
    have HNN := Lib.hid hnn
    have hgl4 : g < w4.heap.size := by omega
    have HS5L := Lib.hid s5
    clear hg p0 p1 p2 p3 p4 p5 ho1 ho2 ho3 hPI hPD hbat hc hcm hnn s5
    go_wp2_with fail
    refine wp_region_F (fun W => W.cell? ⟨w3.heap.size, 1, none⟩ = some (.slice (some ⟨g, 0, none⟩) b.cons.length d2) ∧ W.cell? ⟨g, K * 6 + 1, none⟩ = some (.slice q1 c.args.length r1)) 14 (by kernel_rfl) ?_
    have hb5 : Below w4.heap.size w4 w4.drew := (Below.refl _ w4).drew
    obtain ⟨w5, hw5⟩ : ∃ w5, w5 = w4.drew := ⟨_, rfl⟩
    rw [← hw5] at hb5 ⊢
    have HB5 := Lib.hid (HA4.out.trans (hb5.mono HA4.out.size))
    have hz5 := hb5.size
    have HM5 := Lib.hid ((hb5.block w3.heap.size (by omega)).trans HN4.out)
    have HG5 := Lib.hid ((HB5.out.block g hgz).trans HG.out)
    have HS5 : Hid (w5.cell? ⟨w3.heap.size, 1, none⟩ = some (.slice (some ⟨g, 0, none⟩) b.cons.length d2) ∧ w5.cell? ⟨g, K * 6 + 1, none⟩ = some (.slice q1 c.args.length r1)) := ⟨(boxc HM5.out).1.2.1, (cellOf HG5.out _).trans HP.out⟩
    clear hb5 hw5
    refine wpAnyF_take (i := 0) (v := (.pointer (some ⟨w3.heap.size, 1, none⟩))) rfl (by kernel_rfl) (by kernel_rfl) (by kernel_rfl) (by kernel_rfl) (by kernel_rfl) (fun _ _ _ h => h) (Or.inl ⟨by rfl, fun W hS => by obtain ⟨q1, q2⟩ := hS; go_simp⟩) HS5.out ?_
    change wpAnyF _ _ _ _ _ _ _ (Act.put _ (some 34) _) _
    simp only [Act.put, List.setIfInBounds_toArray, List.set_cons_zero, List.set_cons_succ]
    refine wpAnyF_take (i := 1) (v := (.slice (some ⟨g, 0, none⟩) b.cons.length d2)) rfl (by kernel_rfl) (by kernel_rfl) (by kernel_rfl) (by kernel_rfl) (by kernel_rfl) (fun _ _ _ h => h) (Or.inl ⟨by rfl, fun W hS => by obtain ⟨q1, q2⟩ := hS; go_simp⟩) HS5.out ?_
    change wpAnyF _ _ _ _ _ _ _ (Act.put _ (some 35) _) _
    simp only [Act.put, List.setIfInBounds_toArray, List.set_cons_zero, List.set_cons_succ]
    refine wpAnyF_take (i := 2) (v := (.int .i64 (K : Int))) rfl (by kernel_rfl) (by kernel_rfl) (by kernel_rfl) (by kernel_rfl) (by kernel_rfl) (fun _ _ _ h => h) (Or.inl ⟨by rfl, fun W hS => by obtain ⟨q1, q2⟩ := hS; go_simp⟩) HS5.out ?_
    change wpAnyF _ _ _ _ _ _ _ (Act.put _ (some 36) _) _
    simp only [Act.put, List.setIfInBounds_toArray, List.set_cons_zero, List.set_cons_succ]
    refine wpAnyF_take (i := 3) (v := (.pointer (some ⟨w3.heap.size, 1, none⟩))) rfl (by kernel_rfl) (by kernel_rfl) (by kernel_rfl) (by kernel_rfl) (by kernel_rfl) (fun _ _ _ h => h) (Or.inl ⟨by rfl, fun W hS => by obtain ⟨q1, q2⟩ := hS; go_simp⟩) HS5.out ?_
    change wpAnyF _ _ _ _ _ _ _ (Act.put _ (some 37) _) _
    simp only [Act.put, List.setIfInBounds_toArray, List.set_cons_zero, List.set_cons_succ]
    refine wpAnyF_take (i := 4) (v := (.slice (some ⟨g, 0, none⟩) b.cons.length d2)) rfl (by kernel_rfl) (by kernel_rfl) (by kernel_rfl) (by kernel_rfl) (by kernel_rfl) (fun _ _ _ h => h) (Or.inl ⟨by rfl, fun W hS => by obtain ⟨q1, q2⟩ := hS; go_simp⟩) HS5.out ?_
    change wpAnyF _ _ _ _ _ _ _ (Act.put _ (some 38) _) _
    simp only [Act.put, List.setIfInBounds_toArray, List.set_cons_zero, List.set_cons_succ]
    refine wpAnyF_take (i := 5) (v := (.int .i64 (K : Int))) rfl (by kernel_rfl) (by kernel_rfl) (by kernel_rfl) (by kernel_rfl) (by kernel_rfl) (fun _ _ _ h => h) (Or.inl ⟨by rfl, fun W hS => by obtain ⟨q1, q2⟩ := hS; go_simp⟩) HS5.out ?_
    change wpAnyF _ _ _ _ _ _ _ (Act.put _ (some 39) _) _
    simp only [Act.put, List.setIfInBounds_toArray, List.set_cons_zero, List.set_cons_succ]
    refine wpAnyF_take (i := 6) (v := (.pointer (some ⟨g, K * 6, none⟩))) rfl (by kernel_rfl) (by kernel_rfl) (by kernel_rfl) (by kernel_rfl) (by kernel_rfl) (fun _ _ _ h => h) (Or.inl ⟨by rfl, fun W hS => by obtain ⟨q1, q2⟩ := hS; go_simp⟩) HS5.out ?_
    change wpAnyF _ _ _ _ _ _ _ (Act.put _ (some 40) _) _
    simp only [Act.put, List.setIfInBounds_toArray, List.set_cons_zero, List.set_cons_succ]
    refine wpAnyF_take (i := 7) (v := (.pointer (some ⟨g, K * 6 + 1, none⟩))) rfl (by kernel_rfl) (by kernel_rfl) (by kernel_rfl) (by kernel_rfl) (by kernel_rfl) (fun _ _ _ h => h) (Or.inl ⟨by rfl, fun W hS => by obtain ⟨q1, q2⟩ := hS; go_simp⟩) HS5.out ?_
    change wpAnyF _ _ _ _ _ _ _ (Act.put _ (some 41) _) _
    simp only [Act.put, List.setIfInBounds_toArray, List.set_cons_zero, List.set_cons_succ]
    refine wpAnyF_take (i := 8) (v := (.slice q1 c.args.length r1)) rfl (by kernel_rfl) (by kernel_rfl) (by kernel_rfl) (by kernel_rfl) (by kernel_rfl) (fun _ _ _ h => h) (Or.inl ⟨by rfl, fun W hS => by obtain ⟨q1, q2⟩ := hS; go_simp⟩) HS5.out ?_
    change wpAnyF _ _ _ _ _ _ _ (Act.put _ (some 42) _) _
    simp only [Act.put, List.setIfInBounds_toArray, List.set_cons_zero, List.set_cons_succ]
    refine wpAnyF_take (i := 9) (v := (.agg #[.bool true, .int .i64 0, .int .i64 0, .slice none 0 0, .slice none 0 0, .int .i64 (-1), .slice none 0 0])) rfl (by kernel_rfl) (by kernel_rfl) (by kernel_rfl) (by kernel_rfl) (by kernel_rfl) (fun _ _ _ h => h) (Or.inl ⟨by rfl, fun W hS => by obtain ⟨q1, q2⟩ := hS; go_simp⟩) HS5.out ?_
    change wpAnyF _ _ _ _ _ _ _ (Act.put _ (some 43) _) _
    simp only [Act.put, List.setIfInBounds_toArray, List.set_cons_zero, List.set_cons_succ]
    have hal := below_al w5 (.cells #[.bool true, .int .i64 0, .int .i64 0, .slice none 0 0, .slice none 0 0, .int .i64 (-1), .slice none 0 0] 49)
    have hn7 := World.alloc_heap_new w5 (.cells #[.bool true, .int .i64 0, .int .i64 0, .slice none 0 0, .slice none 0 0, .int .i64 (-1), .slice none 0 0] 49)
    have hz7 := World.size_alloc w5 (.cells #[.bool true, .int .i64 0, .int .i64 0, .slice none 0 0, .slice none 0 0, .int .i64 (-1), .slice none 0 0] 49)
    refine wpAnyF_one (i := 10) (by kernel_rfl) rfl (by rfl) fun K' hK => ?_
    go_simp
    obtain ⟨w7, hw7⟩ : ∃ w7, w7 = w5.alloc (.cells #[.bool true, .int .i64 0, .int .i64 0, .slice none 0 0, .slice none 0 0, .int .i64 (-1), .slice none 0 0] 49) := ⟨_, rfl⟩
    rw [← hw7] at hal hn7 hz7 ⊢
    have HB7 := Lib.hid (HB5.out.trans (hal.mono HB5.out.size))
    have HM7 := Lib.hid ((hal.block w3.heap.size (by omega)).trans HM5.out)
    have HG7 := Lib.hid ((hal.block g (by omega)).trans HG5.out)
    have HN7 := Lib.hid hn7
    have HS7 : Hid (w7.cell? ⟨w3.heap.size, 1, none⟩ = some (.slice (some ⟨g, 0, none⟩) b.cons.length d2) ∧ w7.cell? ⟨g, K * 6 + 1, none⟩ = some (.slice q1 c.args.length r1)) := ⟨(boxc HM7.out).1.2.1, (cellOf HG7.out _).trans HP.out⟩
    have HR7 := Lib.hid (show w7.ownsRow w2.heap.size 49 7 (.slice q1 c.args.length r1) c.args.length ((List.range c.args.length).flatMap f) from ownsRow_same HO2.out fun j hj => HB7.out.block j (by have h1 := HIN.out j hj; have h2 := h1.2; omega))
    clear hal hn7 hw7
    refine hK _ _ (fun _ => HS7.out) ?_
    clear hK K'
    try change wpAnyF _ _ _ _ _ _ _ (Act.put _ (some 44) _) _
    try simp only [Act.put, List.setIfInBounds_toArray, List.set_cons_zero, List.set_cons_succ]
    refine wpAnyF_one (i := 11) (by kernel_rfl) rfl (by rfl) fun K' hK => ?_
    refine wp_append_lies _ (.tmp 42) (.tmp 44) 39 (by rfl) w2.heap.size 49 i0 _ 7 104 Try.underlying39 hi0 hy0 hy1 hy2 rfl (by decide) (.slice q1 c.args.length r1) c.args.length _ (by rfl) HR7.out ⟨w5.heap.size, 0, none⟩ 1 1 [.bool true, .int .i64 0, .int .i64 0, .slice none 0 0, .slice none 0 0, .int .i64 (-1), .slice none 0 0] (by rfl) (by simp) (World.news_of_block (cs := #[.bool true, .int .i64 0, .int .i64 0, .slice none 0 0, .slice none 0 0, .int .i64 (-1), .slice none 0 0]) HN7.out) (by simp [Value.oneCell']) (by decide) hm1 hm2 (by omega) w7.heap.size rfl ?_
    intro gg cp w8 hown8 hgrow8 hat8 hlt8
    have hz8 := hgrow8.size
    have hgno : some g ≠ (Value.slice q1 c.args.length r1).ownBlock := fun e => by have h1 := HIN.out g e.symm; have h2 := h1.1; have h3 := h1.2; omega
    have hMno : some w3.heap.size ≠ (Value.slice q1 c.args.length r1).ownBlock := fun e => by have h1 := HIN.out _ e.symm; have h3 := h1.2; omega
    have hgg : gg ≠ g := fun e => by subst e; rcases hat8 with h | h; exact hgno h.symm; omega
    have HM8 := Lib.hid ((hgrow8.block w3.heap.size (by omega) hMno).trans HM7.out)
    have HG8 := Lib.hid ((hgrow8.block g (by omega) hgno).trans HG7.out)
    have HS8 : Hid (w8.cell? ⟨w3.heap.size, 1, none⟩ = some (.slice (some ⟨g, 0, none⟩) b.cons.length d2) ∧ w8.cell? ⟨g, K * 6 + 1, none⟩ = some (.slice q1 c.args.length r1)) := ⟨(boxc HM8.out).1.2.1, (cellOf HG8.out _).trans HP.out⟩
    refine hK _ _ (fun _ => HS8.out) ?_
    clear hK K'
    try change wpAnyF _ _ _ _ _ _ _ (Act.put _ (some 45) _) _
    try simp only [Act.put, List.setIfInBounds_toArray, List.set_cons_zero, List.set_cons_succ]
    refine wpAnyF_one (i := 12) (by kernel_rfl) rfl (by rfl) fun K' hK => ?_
    go_simp
    refine hK _ _ (fun _ => HS8.out) ?_
    clear hK K'
    try change wpAnyF _ _ _ _ _ _ _ (Act.put _ (some 46) _) _
    try simp only [Act.put, List.setIfInBounds_toArray, List.set_cons_zero, List.set_cons_succ]
    refine wpAnyF_one (i := 13) (by kernel_rfl) rfl (by rfl) fun K' hK => ?_
    go_simp
    refine hK _ _ (fun _ => HS8.out) ?_
    clear hK K'
    try change wpAnyF _ _ _ _ _ _ _ (Act.put _ (some 47) _) _
    try simp only [Act.put, List.setIfInBounds_toArray, List.set_cons_zero, List.set_cons_succ]
    have gc := HS8.out.2
    have gf := frozenOf HG8.out (K * 6 + 1)
    refine wpAnyF_one (i := 14) (by kernel_rfl) rfl (by rfl) fun K' hK => ?_
    go_simp
    refine hK _ _ (fun h => absurd h (by simp)) ?_
    clear hK K'
    refine wpAnyF_done (by kernel_rfl) ?_ _
    try simp only [Act.put]
    have HONE := Lib.hid (one_own1 hgs6 HQ.out.1 HQ.out.2.1 HQ.out.2.2.1 HQ.out.2.2.2.1 HQ.out.2.2.2.2 (.slice (some ⟨gg, 0, none⟩) (c.args.length + 1) cp))
    have hcb := bent_arg b c ⟨true, zTm, [], -1, []⟩ (bent_rec b _)
    obtain ⟨x, hx⟩ : ∃ x : BlkT, x = setC b K { c with args := c.args ++ [⟨true, zTm, [], -1, []⟩] } := ⟨_, rfl⟩
    have hxe : x.elim = b.elim := by rw [hx]; rfl
    have hWb : ∀ j, j < w3.heap.size → j ≠ g → some j ≠ (Value.slice q1 c.args.length r1).ownBlock → (w8.setCell ⟨g, K * 6 + 1, none⟩ (.slice (some ⟨gg, 0, none⟩) (c.args.length + 1) cp)).heap[j]? = w3.heap[j]? := fun j hj hjg hne => ((Below.heap_setCell _ _ _ _ (by simpa using hjg)).trans (hgrow8.block j (by omega) hne)).trans (HB7.out.block j hj)
    have hgP := heap_setCell_same w8 g (K * 6 + 1) cur ty (.slice (some ⟨gg, 0, none⟩) (c.args.length + 1) cp) HG8.out
    have hownW := (show (w8.setCell ⟨g, K * 6 + 1, none⟩ (.slice (some ⟨gg, 0, none⟩) (c.args.length + 1) cp)).ownsRow w2.heap.size 49 7 (.slice (some ⟨gg, 0, none⟩) (c.args.length + 1) cp) (c.args.length + 1) ((List.range c.args.length).flatMap f ++ bareC ⟨true, zTm, [], -1, []⟩) from ownsRow_same hown8 fun j hj => by cases hj; exact Below.heap_setCell _ _ _ _ (by simpa using hgg))
    have hcon := con_args (a := ⟨true, zTm, [], -1, []⟩) HAP.out hhi hgo HO1.out HO2.out HO3.out HPI.out HPD.out hWb hownW rfl rfl rfl
    have hbx := HAT.out (w8.setCell ⟨g, K * 6 + 1, none⟩ (.slice (some ⟨gg, 0, none⟩) (c.args.length + 1) cp)) _ { c with args := c.args ++ [⟨true, zTm, [], -1, []⟩] } [.int .i64 c.sort, .slice (some ⟨gg, 0, none⟩) (c.args.length + 1) cp, vi, .int .i64 c.dec.k, .int .i64 c.dec.n, vt] (fun j hj hjg hin => hWb j hj hjg (fun e => hin (HIN.out j e.symm))) hgP (fun i hi1 hi2 r hr => one_row (by omega) hi2 hr _) HONE.out hcon rfl
    rw [← hx] at hbx
    have hbel : Below w.heap.size w (w8.setCell ⟨g, K * 6 + 1, none⟩ (.slice (some ⟨gg, 0, none⟩) (c.args.length + 1) cp)) := ((O3.out.2.2.trans (HB7.out.mono O3.out.2.2.size)).trans ((Below.refl w.heap.size w7).grown hgrow8 (by omega) (fun j hj => by have h1 := HIN.out j hj; have h2 := h1.1; omega))).trans ((Below.refl w.heap.size w8).setCell (p := ⟨g, K * 6 + 1, none⟩) (by simp; omega) _)
    have HB : Hid (OneB w w.heap.size b (.slice ps b.sorts.length cs) (.slice pc b.cons.length cc) (w8.setCell ⟨g, K * 6 + 1, none⟩ (.slice (some ⟨gg, 0, none⟩) (c.args.length + 1) cp))) := ⟨((hWb w.heap.size (by omega) (by omega) (fun e => by have h1 := HIN.out _ e.symm; have h2 := h1.1; omega)).trans HN0.out), HA0.out.bel hbel, hbel⟩
    have HX : Hid (OneB w w3.heap.size x (.slice a1 b.sorts.length d1) (.slice (some ⟨g, 0, none⟩) b.cons.length d2) (w8.setCell ⟨g, K * 6 + 1, none⟩ (.slice (some ⟨gg, 0, none⟩) (c.args.length + 1) cp))) := ⟨by rw [hxe]; exact (Below.heap_setCell _ _ _ _ (by simp; omega)).trans HM8.out, hbx, hbel⟩
    have SX : Hid (∀ W, BAt W x (.slice a1 b.sorts.length d1) (.slice (some ⟨g, 0, none⟩) b.cons.length d2) → Calls Try.prog 13 #[.agg #[(.slice a1 b.sorts.length d1), (.slice (some ⟨g, 0, none⟩) b.cons.length d2), .int .i64 x.elim]] W fun e w' => e = .returned (.int .i64 12) ∧ Below W.heap.size W w') := fun W hA => by
      have hc := scheckG_any x (by rw [hx]; exact small_set hs K (show conN { c with args := c.args ++ [⟨true, zTm, [], -1, []⟩] } ≤ 1048576 by have h1 := con_room hs hns HCM.out; have h2 : conN { c with args := c.args ++ [⟨true, zTm, [], -1, []⟩] } = argsN (c.args ++ [⟨true, zTm, [], -1, []⟩]) + sizeL c.idx + size c.dec + 1 := rfl; have h3 : conN c = argsN c.args + sizeL c.idx + size c.dec + 1 := rfl; have h4 := argsN_snoc ⟨true, zTm, [], -1, []⟩ c.args; have h5 : argN ⟨true, zTm, [], -1, []⟩ = 2 := rfl; omega)) (by rw [hx]; exact fits_set hF K (show ({ c with args := c.args ++ [⟨true, zTm, [], -1, []⟩] } : ConT).fits from ⟨(hF.2.1 c HCM.out).1, fun y hy => (List.mem_append.1 hy).elim (fun h => (hF.2.1 c HCM.out).2.1 y h) (fun h => by rw [List.mem_singleton] at h; subst h; exact ⟨leaf_fits 0 0 (by unfold I64; decide) (by unfold I64; decide), (fun u hu => nomatch hu), by unfold I64; decide, (fun u hu => nomatch hu)⟩), (hF.2.1 c HCM.out).2.2⟩)) W (.slice a1 b.sorts.length d1) (.slice (some ⟨g, 0, none⟩) b.cons.length d2) hA
      rw [show shapeB x = false by rw [hx]; exact bent_con b hK _ hcb] at hc
      exact hc
    clear hx hbx hbel hxe hWb hgP hownW hcon
    clear gc gf
    revert HB HX
    generalize (w8.setCell ⟨g, K * 6 + 1, none⟩ (.slice (some ⟨gg, 0, none⟩) (c.args.length + 1) cp)) = wz
    intro HB HX
    obtain ⟨x0, x1, x2⟩ := HB.out.cells
    obtain ⟨y0, y1, y2⟩ := HX.out.cells
    go_wp2_with fail
    refine (SB.out _ HB.out.2.1).mono ?_
    rintro e wa ⟨rfl, hb⟩
    have HB1 := Lib.hid (HB.out.bel hb)
    have HX1 := Lib.hid (HX.out.bel hb)
    clear hb x0 x1 x2 y0 y1 y2 HB HX
    obtain ⟨y0, y1, y2⟩ := HX1.out.cells
    go_wp2_with fail
    refine (SX.out _ HX1.out.2.1).mono ?_
    rintro e wb ⟨rfl, hb⟩
    have HB2 := Lib.hid (HB1.out.bel hb)
    clear hb y0 y1 y2 HB1 HX1
    go_wp2_with fail
    refine (HWK.out _).mono ?_
    rintro e wc ⟨rfl, hb⟩
    have HB3 := Lib.hid (HB2.out.bel hb)
    clear hb
    go_wp2_with fail
    go_ret
    exact ⟨ret_bool rfl, HB3.out.2.2⟩
end Go.Proofs.Ytcegocmndfoflaa
