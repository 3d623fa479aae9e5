/- keep's Con and Block of one block read twice. No conditions but sizes. -/
import Derived.Test.YtcegocmndfoflaaHq
namespace Go.Proofs.Ytcegocmndfoflaa
open Go.RowKit
set_option linter.unusedVariables false

theorem onec_two (w : World) (a : ConT) (vt vd vi ut ud ui : Value) (h1 : ARow w a.args vt) (h2 : At w a.idx vd) (h3 : At w a.dec.kids vi) (h4 : ARow w a.args ut) (h5 : At w a.idx ud) (h6 : At w a.dec.kids ui) :
    OneC w.heap.size a vt vd vi ((w.alloc (.cells (conCells a vt vd vi) 46)).alloc (.cells (conCells a ut ud ui) 46)) ∧ OneC (w.heap.size + 1) a ut ud ui ((w.alloc (.cells (conCells a vt vd vi) 46)).alloc (.cells (conCells a ut ud ui) 46)) ∧
      Below w.heap.size w ((w.alloc (.cells (conCells a vt vd vi) 46)).alloc (.cells (conCells a ut ud ui) 46)) := by
  have b1 := below_al w (.cells (conCells a vt vd vi) 46)
  have b2 := below_al (w.alloc (.cells (conCells a vt vd vi) 46)) (.cells (conCells a ut ud ui) 46)
  have b3 := b1.trans (b2.mono b1.size)
  have g1 : OneC w.heap.size a vt vd vi (w.alloc (.cells (conCells a vt vd vi) 46)) := ⟨World.alloc_heap_new w _, ARow.bel b1 h1, h2.bel b1 (Nat.le_refl _), h3.bel b1 (Nat.le_refl _)⟩
  have hnew := World.alloc_heap_new (w.alloc (.cells (conCells a vt vd vi) 46)) (.cells (conCells a ut ud ui) 46)
  rw [World.size_alloc] at hnew
  exact ⟨g1.bel b2, ⟨hnew, ARow.bel b3 h4, h5.bel b3 (Nat.le_refl _), h6.bel b3 (Nat.le_refl _)⟩, b3⟩
set_option maxRecDepth 100000 in
set_option maxHeartbeats 4000000 in
theorem keepcon_self (a : ConT) (hs : conN a ≤ 1048576) (w : World) (vt vd vi ut ud ui : Value) (h1 : ARow w a.args vt) (h2 : At w a.idx vd) (h3 : At w a.dec.kids vi) (h4 : ARow w a.args ut) (h5 : At w a.idx ud) (h6 : At w a.dec.kids ui) :
    Calls Try.prog 50 #[.agg #[.int .i64 a.sort, vt, vd, .int .i64 a.dec.k, .int .i64 a.dec.n, vi], .agg #[.int .i64 a.sort, ut, ud, .int .i64 a.dec.k, .int .i64 a.dec.n, ui]] w fun e w' => e = .returned (.bool true) ∧ Below w.heap.size w w' := by
  have hn : conN a = argsN a.args + sizeL a.idx + size a.dec + 1 := rfl
  have O := Lib.hid (onec_two w a vt vd vi ut ud ui h1 h2 h3 h4 h5 h6)
  unfold conCells at O
  have RA := Lib.hid (fun W hA hB => keepargs_self a.args (by omega) W vt ut hA hB)
  have RD := Lib.hid (fun W hA hB => keepl_self a.idx (by omega) W vd ud hA hB)
  have RI := Lib.hid (fun W hA hB => keept_self a.dec (by omega) W vi ui hA hB)
  have q1 : (a.sort == a.sort) = true := by simp
  clear hs hn h1 h2 h3 h4 h5 h6
  go_enter Try.func50, Try.ntmps50
  go_wp2_with fail
  refine (RA.out _ O.out.1.2.1 O.out.2.1.2.1).mono ?_
  rintro e w1 ⟨rfl, hb1⟩
  have A1 := Lib.hid (O.out.1.bel hb1)
  have B1 := Lib.hid (O.out.2.1.bel hb1)
  have G1 := Lib.hid (O.out.2.2.trans (hb1.mono O.out.2.2.size))
  obtain ⟨x0, x1, x2, x3, x4, x5⟩ := A1.out.cells
  obtain ⟨y0, y1, y2, y3, y4, y5⟩ := B1.out.cells
  clear O hb1
  go_wp2_with fail
  refine (RD.out _ A1.out.2.2.1 B1.out.2.2.1).mono ?_
  rintro e w2 ⟨rfl, hb2⟩
  have A2 := Lib.hid (A1.out.bel hb2)
  have B2 := Lib.hid (B1.out.bel hb2)
  have G2 := Lib.hid (G1.out.trans (hb2.mono G1.out.size))
  clear x0 x1 x2 x3 x4 x5 y0 y1 y2 y3 y4 y5
  obtain ⟨x0, x1, x2, x3, x4, x5⟩ := A2.out.cells
  obtain ⟨y0, y1, y2, y3, y4, y5⟩ := B2.out.cells
  clear A1 B1 G1 hb2
  go_wp2_with fail
  refine (RI.out _ A2.out.2.2.2 B2.out.2.2.2).mono ?_
  rintro e w3 ⟨rfl, hb3⟩
  have G3 := Lib.hid (G2.out.trans (hb3.mono G2.out.size))
  clear x0 x1 x2 x3 x4 x5 y0 y1 y2 y3 y4 y5 A2 B2 G2 hb3
  go_wp2_with fail
  go_ret
  exact ⟨rfl, G3.out⟩
/-- Two boxes of one block. -/
theorem oneb_two (w : World) (b : BlkT) (vs vc us uc : Value) (h1 : BAt w b vs vc) (h2 : BAt w b us uc) :
    OneB w w.heap.size b vs vc ((w.alloc (.cells #[vs, vc, .int .i64 b.elim] 25)).alloc (.cells #[us, uc, .int .i64 b.elim] 25)) ∧ OneB w (w.heap.size + 1) b us uc ((w.alloc (.cells #[vs, vc, .int .i64 b.elim] 25)).alloc (.cells #[us, uc, .int .i64 b.elim] 25)) := by
  have o1 := oneb_start w b vs vc h1
  have b2 := below_al (w.alloc (.cells #[vs, vc, .int .i64 b.elim] 25)) (.cells #[us, uc, .int .i64 b.elim] 25)
  have hnew := World.alloc_heap_new (w.alloc (.cells #[vs, vc, .int .i64 b.elim] 25)) (.cells #[us, uc, .int .i64 b.elim] 25)
  rw [World.size_alloc] at hnew
  have o2 := o1.bel b2
  exact ⟨o2, hnew, h2.bel o2.2.2, o2.2.2⟩
theorem ones_two (w : World) (s : SortT) (va vt ua ut : Value) (h1 : ARow w s.idx va) (h2 : At w s.decT.kids vt) (h3 : ARow w s.idx ua) (h4 : At w s.decT.kids ut) :
    OneS w.heap.size s va vt ((w.alloc (.cells (sortCells s va vt) 44)).alloc (.cells (sortCells s ua ut) 44)).drew ∧ OneS (w.heap.size + 1) s ua ut ((w.alloc (.cells (sortCells s va vt) 44)).alloc (.cells (sortCells s ua ut) 44)).drew ∧ Below w.heap.size w ((w.alloc (.cells (sortCells s va vt) 44)).alloc (.cells (sortCells s ua ut) 44)).drew := by
  have b1 := below_al w (.cells (sortCells s va vt) 44)
  have b2 := (below_al (w.alloc (.cells (sortCells s va vt) 44)) (.cells (sortCells s ua ut) 44)).drew
  have b3 := b1.trans (b2.mono b1.size)
  have g1 : OneS w.heap.size s va vt (w.alloc (.cells (sortCells s va vt) 44)) := ⟨World.alloc_heap_new w _, ARow.bel b1 h1, h2.bel b1 (Nat.le_refl _)⟩
  have hnew := World.alloc_heap_new (w.alloc (.cells (sortCells s va vt) 44)) (.cells (sortCells s ua ut) 44)
  rw [World.size_alloc] at hnew
  exact ⟨g1.bel b2, ⟨hnew, ARow.bel b3 h3, h4.bel b3 (Nat.le_refl _)⟩, b3⟩
set_option maxRecDepth 100000 in
set_option maxHeartbeats 4000000 in
theorem keepblk_self (b : BlkT) (hs : blkN b ≤ 1048576) (w : World) (vs vc us uc : Value) (hA : BAt w b vs vc) (hB : BAt w b us uc) :
    Calls Try.prog 24 #[.agg #[vs, vc, .int .i64 b.elim], .agg #[us, uc, .int .i64 b.elim]] w fun e w' => e = .returned (.bool true) ∧ Below w.heap.size w w' := by
  obtain ⟨ps, cs, pc, cc, rfl, rfl⟩ := hA.shape
  obtain ⟨qs, ds, qc, dc, rfl, rfl⟩ := hB.shape
  have hls := sortsN_len b.sorts
  have hlc := consN_len b.cons
  have hbn : blkN b = sortsN b.sorts + consN b.cons + 1 := rfl
  have O := Lib.hid (oneb_two w b _ _ _ _ hA hB)
  have q0 : ((b.sorts.length : Int) != (b.sorts.length : Int)) = false := by simp
  have q1 : ((b.cons.length : Int) != (b.cons.length : Int)) = false := by simp
  have q2 : (b.elim != b.elim) = false := by simp
  have hls2 : b.sorts.length ≤ 1048576 := by omega
  have hlc2 : b.cons.length ≤ 1048576 := by omega
  have HS := Lib.hid (fun j (h : j < b.sorts.length) => (by have := sortN_le (List.getElem_mem h); omega : sortN b.sorts[j] ≤ 1048576))
  have HC := Lib.hid (fun j (h : j < b.cons.length) => (by have := conN_le (List.getElem_mem h); omega : conN b.cons[j] ≤ 1048576))
  clear hs hls hlc hbn hA hB
  go_enter Try.func24, Try.ntmps24
  go_wp2_with fail
  clear q0 q1 q2
  go_loopw [5] (fun i wr => ∃ j : Nat, j ≤ b.sorts.length ∧ i = .int .i64 j ∧ OneB w w.heap.size b (.slice ps b.sorts.length cs) (.slice pc b.cons.length cc) wr ∧ OneB w (w.heap.size + 1) b (.slice qs b.sorts.length ds) (.slice qc b.cons.length dc) wr) (fun i _ => b.sorts.length - (RowKit.intOf i).toNat)
  case atStart => exact ⟨0, Nat.zero_le _, rfl, O.out.1, O.out.2⟩
  case round =>
    clear O
    obtain ⟨j, hj, rfl, hO, hP⟩ := hrel
    obtain ⟨x0, x1, x2⟩ := hO.cells
    obtain ⟨y0, y1, y2⟩ := hP.cells
    by_cases hlt : j < b.sorts.length
    · obtain ⟨BA, oA, va, vt, rfl, g1, g2, k0, k1, k2, k3, k4, k5⟩ := SRow.at hO.2.1.1 hlt
      obtain ⟨BB, oB, ua, ut, rfl, f1, f2, l0, l1, l2, l3, l4, l5⟩ := SRow.at hP.2.1.1 hlt
      have hji : (j : Int) < (b.sorts.length : Int) := by omega
      have hj0 : (0 : Int) ≤ (j : Int) := by omega
      obtain ⟨p1, c1, e1⟩ := g1.shape
      obtain ⟨p2, c2, e2⟩ := g2.shape
      obtain ⟨p3, c3, e3⟩ := f1.shape
      obtain ⟨p4, c4, e4⟩ := f2.shape
      subst e1 e2 e3 e4
      have z1 := World.block_lt_of_cell? wr _ x0
      have z2 := World.block_lt_of_cell? wr _ y0
      have z3 := World.block_lt_of_cell? wr _ k0
      have z4 := World.block_lt_of_cell? wr _ l0
      simp only at z1 z2 z3 z4
      have d1 : ¬ w.heap.size = wr.heap.size := by omega
      have d2 : ¬ wr.heap.size = w.heap.size := by omega
      have d3 : ¬ w.heap.size + 1 = wr.heap.size := by omega
      have d4 : ¬ wr.heap.size = w.heap.size + 1 := by omega
      have d5 : ¬ w.heap.size = wr.heap.size + 1 := by omega
      have d6 : ¬ wr.heap.size + 1 = w.heap.size := by omega
      have d7 : ¬ BA = wr.heap.size := by omega
      have d8 : ¬ wr.heap.size = BA := by omega
      have d9 : ¬ BA = wr.heap.size + 1 := by omega
      have d10 : ¬ wr.heap.size + 1 = BA := by omega
      have d11 : ¬ BB = wr.heap.size := by omega
      have d12 : ¬ wr.heap.size = BB := by omega
      have d13 : ¬ BB = wr.heap.size + 1 := by omega
      have d14 : ¬ wr.heap.size + 1 = BB := by omega
      have HG := Lib.hid (And.intro g1 (And.intro g2 (And.intro f1 f2)))
      have HZ := Lib.hid (show argsN b.sorts[j].idx ≤ 1048576 ∧ size b.sorts[j].decT ≤ 1048576 by have := HS.out j hlt; have e : sortN b.sorts[j] = argsN b.sorts[j].idx + size b.sorts[j].decT + 1 := rfl; constructor <;> omega)
      have HO := Lib.hid hO
      have HP := Lib.hid hP
      have r0 : (b.sorts[j].level != b.sorts[j].level) = false := by simp
      have r1 : (b.sorts[j].dec != b.sorts[j].dec) = false := by simp
      clear g1 g2 f1 f2 hO hP
      go_wp2_with fail
      go_region
      all_goals clear z1 z2 z3 z4 x0 x1 x2 y0 y1 y2 k0 k1 k2 k3 k4 k5 l0 l1 l2 l3 l4 l5 d1 d2 d3 d4 d5 d6 d7 d8 d9 d10 d11 d12 d13 d14
      · have T := ones_two _ _ (.slice p1 b.sorts[j].idx.length c1) (.slice p2 b.sorts[j].decT.kids.length c2) (.slice p3 b.sorts[j].idx.length c3) (.slice p4 b.sorts[j].decT.kids.length c4) HG.out.1 HG.out.2.1 HG.out.2.2.1 HG.out.2.2.2
        unfold sortCells at T
        revert T
        generalize ((wr.alloc _).alloc _).drew = w1
        intro T
        have X1 := Lib.hid T.1
        have Y1 := Lib.hid T.2.1
        have O1 := Lib.hid (HO.out.bel T.2.2)
        have P1 := Lib.hid (HP.out.bel T.2.2)
        clear T
        obtain ⟨s0, s1, s2, s3, s4, s5⟩ := X1.out.cells
        obtain ⟨t0, t1, t2, t3, t4, t5⟩ := Y1.out.cells
        go_wp2_with fail
        refine (keepargs_self b.sorts[j].idx HZ.out.1 _ _ _ X1.out.2.1 Y1.out.2.1).mono ?_
        rintro e w2 ⟨rfl, hb2⟩
        have X2 := Lib.hid (X1.out.bel hb2)
        have Y2 := Lib.hid (Y1.out.bel hb2)
        have O2 := Lib.hid (O1.out.bel hb2)
        have P2 := Lib.hid (P1.out.bel hb2)
        clear hb2 s0 s1 s2 s3 s4 s5 t0 t1 t2 t3 t4 t5 X1 Y1 O1 P1
        obtain ⟨s0, s1, s2, s3, s4, s5⟩ := X2.out.cells
        obtain ⟨t0, t1, t2, t3, t4, t5⟩ := Y2.out.cells
        go_wp2_with fail
        refine (keept_self b.sorts[j].decT HZ.out.2 _ _ _ X2.out.2.2 Y2.out.2.2).mono ?_
        rintro e w3 ⟨rfl, hb3⟩
        have O3 := Lib.hid (O2.out.bel hb3)
        have P3 := Lib.hid (P2.out.bel hb3)
        clear hb3 s0 s1 s2 s3 s4 s5 t0 t1 t2 t3 t4 t5 X2 Y2 O2 P2
        go_wp2_with fail
        go_roundw
        case rel => exact ⟨j + 1, hlt, by go_num, O3.out, P3.out⟩
        case measure => simp [RowKit.intOf]; omega
      · have T := ones_two _ _ (.slice p3 b.sorts[j].idx.length c3) (.slice p4 b.sorts[j].decT.kids.length c4) (.slice p1 b.sorts[j].idx.length c1) (.slice p2 b.sorts[j].decT.kids.length c2) HG.out.2.2.1 HG.out.2.2.2 HG.out.1 HG.out.2.1
        unfold sortCells at T
        revert T
        generalize ((wr.alloc _).alloc _).drew = w1
        intro T
        have X1 := Lib.hid T.2.1
        have Y1 := Lib.hid T.1
        have O1 := Lib.hid (HO.out.bel T.2.2)
        have P1 := Lib.hid (HP.out.bel T.2.2)
        clear T
        obtain ⟨s0, s1, s2, s3, s4, s5⟩ := X1.out.cells
        obtain ⟨t0, t1, t2, t3, t4, t5⟩ := Y1.out.cells
        go_wp2_with fail
        refine (keepargs_self b.sorts[j].idx HZ.out.1 _ _ _ X1.out.2.1 Y1.out.2.1).mono ?_
        rintro e w2 ⟨rfl, hb2⟩
        have X2 := Lib.hid (X1.out.bel hb2)
        have Y2 := Lib.hid (Y1.out.bel hb2)
        have O2 := Lib.hid (O1.out.bel hb2)
        have P2 := Lib.hid (P1.out.bel hb2)
        clear hb2 s0 s1 s2 s3 s4 s5 t0 t1 t2 t3 t4 t5 X1 Y1 O1 P1
        obtain ⟨s0, s1, s2, s3, s4, s5⟩ := X2.out.cells
        obtain ⟨t0, t1, t2, t3, t4, t5⟩ := Y2.out.cells
        go_wp2_with fail
        refine (keept_self b.sorts[j].decT HZ.out.2 _ _ _ X2.out.2.2 Y2.out.2.2).mono ?_
        rintro e w3 ⟨rfl, hb3⟩
        have O3 := Lib.hid (O2.out.bel hb3)
        have P3 := Lib.hid (P2.out.bel hb3)
        clear hb3 s0 s1 s2 s3 s4 s5 t0 t1 t2 t3 t4 t5 X2 Y2 O2 P2
        go_wp2_with fail
        go_roundw
        case rel => exact ⟨j + 1, hlt, by go_num, O3.out, P3.out⟩
        case measure => simp [RowKit.intOf]; omega
    · obtain rfl : j = b.sorts.length := by omega
      have hnl : ¬ (b.sorts.length : Int) < (b.sorts.length : Int) := by omega
      have HO := Lib.hid hO
      have HP := Lib.hid hP
      clear hO hP
      go_wp2_with fail
      clear x0 x1 x2 y0 y1 y2
      go_loopw [8] (fun i wr => ∃ j : Nat, j ≤ b.cons.length ∧ i = .int .i64 j ∧ OneB w w.heap.size b (.slice ps b.sorts.length cs) (.slice pc b.cons.length cc) wr ∧ OneB w (w.heap.size + 1) b (.slice qs b.sorts.length ds) (.slice qc b.cons.length dc) wr) (fun i _ => b.cons.length - (RowKit.intOf i).toNat)
      case atStart => exact ⟨0, Nat.zero_le _, rfl, HO.out, HP.out⟩
      case round =>
        clear HO HP
        obtain ⟨j, hj, rfl, hO, hP⟩ := hrel
        obtain ⟨x0, x1, x2⟩ := hO.cells
        obtain ⟨y0, y1, y2⟩ := hP.cells
        by_cases hlt : j < b.cons.length
        · obtain ⟨BA, oA, va, vi, vt, rfl, g1, g2, g3, k0, k1, k2, k3, k4, k5⟩ := CRow.at hO.2.1.2 hlt
          obtain ⟨BB, oB, ua, ui, ut, rfl, f1, f2, f3, l0, l1, l2, l3, l4, l5⟩ := CRow.at hP.2.1.2 hlt
          have hji : (j : Int) < (b.cons.length : Int) := by omega
          have hj0 : (0 : Int) ≤ (j : Int) := by omega
          have CO := Lib.hid (fun W (hW : Below wr.heap.size wr W) => keepcon_self b.cons[j] (HC.out j hlt) W _ _ _ _ _ _ (ARow.bel hW g1) (g2.bel hW (Nat.le_refl _)) (g3.bel hW (Nat.le_refl _)) (ARow.bel hW f1) (f2.bel hW (Nat.le_refl _)) (f3.bel hW (Nat.le_refl _)))
          have KK := Lib.hid (And.intro k0 (And.intro k1 (And.intro k2 (And.intro k3 (And.intro k4 k5)))))
          have LL := Lib.hid (And.intro l0 (And.intro l1 (And.intro l2 (And.intro l3 (And.intro l4 l5)))))
          have HO := Lib.hid hO
          have HP := Lib.hid hP
          clear g1 g2 g3 f1 f2 f3 k0 k1 k2 k3 k4 k5 l0 l1 l2 l3 l4 l5 hO hP
          go_wp2_with fail
          clear x0 x1 x2 y0 y1 y2
          refine wp_region_rel (by kernel_rfl) (by kernel_rfl) (by kernel_rfl) ?_
          apply RelWalk.rest
          · kernel_rfl
          · intro X _ W hW hcl
            obtain ⟨x0, x1, x2⟩ := HO.out.cells
            obtain ⟨y0, y1, y2⟩ := HP.out.cells
            obtain ⟨k0, k1, k2, k3, k4, k5⟩ := KK.out
            obtain ⟨l0, l1, l2, l3, l4, l5⟩ := LL.out
            have rX1 := fun q => gcell (hW q) x1
            have rY1 := fun q => gcell (hW q) y1
            have rK0 := fun q => gcell (hW q) k0
            have rK1 := fun q => gcell (hW q) k1
            have rK2 := fun q => gcell (hW q) k2
            have rK3 := fun q => gcell (hW q) k3
            have rK4 := fun q => gcell (hW q) k4
            have rK5 := fun q => gcell (hW q) k5
            have rL0 := fun q => gcell (hW q) l0
            have rL1 := fun q => gcell (hW q) l1
            have rL2 := fun q => gcell (hW q) l2
            have rL3 := fun q => gcell (hW q) l3
            have rL4 := fun q => gcell (hW q) l4
            have rL5 := fun q => gcell (hW q) l5
            clear x0 x1 x2 y0 y1 y2
            clear k0 k1 k2 k3 k4 k5 l0 l1 l2 l3 l4 l5
            have d0 := Lib.hid (fun q => into hcl (CO.out (W q) (hW q)))
            repeat (go_big_quiet_step (first | (with_reducible exact d0.out _)))
            exact wpQuiet_nil rfl
          intro gq w6 hg _
          have O6 := Lib.hid (HO.out.bel hg)
          have P6 := Lib.hid (HP.out.bel hg)
          clear hg
          simp only [Spread]
          go_wp2_with fail
          go_roundw
          case rel => exact ⟨j + 1, hlt, by go_num, O6.out, P6.out⟩
          case measure => simp [RowKit.intOf]; omega
        · obtain rfl : j = b.cons.length := by omega
          have hnl : ¬ (b.cons.length : Int) < (b.cons.length : Int) := by omega
          have HO := Lib.hid hO
          clear hO hP
          go_wp2_with fail
          go_ret
          exact ⟨rfl, HO.out.2.2⟩
end Go.Proofs.Ytcegocmndfoflaa
