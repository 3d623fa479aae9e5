/- TermBinds: the Go text returns true for any two terms that are not greater than the second form's bound, and any numbers. -/
import Derived.Test.YtggefpkfikimiaaGreatG10
import Derived.IntWalk
import Derived.Test.YtggefpkfikimiaaGreatG21
namespace Go.Proofs.YtggefpkfikimiaaGreat
open Go.RowKit

theorem u64_nonneg' (a : Int) : 0 ≤ IntKind.u64.wrap a := by
  simp [IntKind.wrap, IntKind.signed, IntKind.bits]
  omega
theorem mod_range (a : Int) (n : Int) (h : 0 < n) (h2 : n ≤ 1000000) : 0 ≤ wrap64 ((IntKind.u64.wrap a).tmod n) ∧ wrap64 ((IntKind.u64.wrap a).tmod n) < n := by
  have hh : 0 ≤ (IntKind.u64.wrap a).tmod n ∧ (IntKind.u64.wrap a).tmod n < n := by
    rw [Int.tmod_eq_emod_of_nonneg (u64_nonneg' a)]
    exact ⟨Int.emod_nonneg _ (by omega), Int.emod_lt_of_pos _ h⟩
  rw [IntWalk.wrap64_in _ (by omega)]; exact hh
def kindAt (k : Nat) : Int := if k = 0 then 4 else if k = 1 then 5 else if k = 2 then 7 else if k = 3 then 6 else 12

theorem heavy_size {l : List Tm} (h : heavyB l = false) : sizeL l ≤ 9000 := by
  simp only [heavyB, Bool.or_eq_false_iff, decide_eq_false_iff_not] at h
  omega
/-- Of two Kids that are checked as one: what is in scope of the whole. -/
theorem binds_scope (k : Int) (a b : Tm) (v : Int) (hv : 0 ≤ v) (hk : k = 4 ∨ k = 5 ∨ k = 7 ∨ k = 6 ∨ k = 12) (hc : checkE (.node k 0 [a, b]) = 0) :
    scopeT (.node k 0 [a, b]) v 65536 = (scopeT a v 65536 && scopeT b (v + bindsI k 1) 65536) := by
  have hf := check_formed hc
  have hr := bindsI_range k 1
  have hsz : ¬ 6000 < size (.node k 0 [a, b]) := by intro h; rw [checkE, if_pos h] at hc; cases hc
  have hdp : ¬ 200 < depth (.node k 0 [a, b]) := by intro h; rw [checkE, if_neg hsz, if_pos h] at hc; cases hc
  simp only [size, sizeL, depth, depthL] at hsz hdp
  simp only [formedB, formedL, Bool.and_eq_true] at hf
  have ha : checkE a = 0 := by rw [checkE, if_neg (by omega), if_neg (by omega), if_neg (by rw [hf.2.1]; simp)]
  have hb : checkE b = 0 := by rw [checkE, if_neg (by omega), if_neg (by omega), if_neg (by rw [hf.2.2.1]; simp)]
  have h0 : bindsI k 0 = 0 := by unfold bindsI; rw [if_neg (by omega)]
  have h0' : bindsI k ((0 : Nat) : Int) = 0 := h0
  unfold scopeT
  rw [ha, hb, hc, scopedT, if_neg (by omega), if_neg (by omega), if_neg (by omega)]
  simp only [scopedL, h0', Int.add_zero, Bool.and_true]
  have h1 : decide (0 ≤ v) = true := by simpa using hv
  have h2 : decide (0 ≤ v + bindsI k 1) = true := by simp; omega
  simp [h1, h2]

theorem kindAt_in (k : Nat) : kindAt k = 4 ∨ kindAt k = 5 ∨ kindAt k = 7 ∨ kindAt k = 6 ∨ kindAt k = 12 := by
  unfold kindAt
  split
  · omega
  · split
    · omega
    · split
      · omega
      · split <;> omega
theorem kind_cell {w : World} {s kn : Nat} {ty : TypeId} (h : w.heap[s]? = some (.cells #[.int .i64 4, .int .i64 5, .int .i64 7, .int .i64 6, .int .i64 12] ty (0, 0))) (hk : kn < 5) : w.cell? ⟨s, kn, none⟩ = some (.int .i64 (kindAt kn)) := by
  have : kn = 0 ∨ kn = 1 ∨ kn = 2 ∨ kn = 3 ∨ kn = 4 := by omega
  rcases this with rfl | rfl | rfl | rfl | rfl <;> simp [World.cell?, h, kindAt]

end Go.Proofs.YtggefpkfikimiaaGreat
/- keep's Con and Block of one block read twice. No conditions but sizes. -/
namespace Go.Proofs.YtggefpkfikimiaaGreat
open Go.RowKit
set_option linter.unusedVariables false

theorem onec_two (w : World) (a : ConT) (vt vd vi ut ud ui : Value) (h1 : ARow w a.args vt) (h2 : At w a.idx vd) (h3 : At w a.dec.kids vi) (h4 : ARow w a.args ut) (h5 : At w a.idx ud) (h6 : At w a.dec.kids ui) :
    OneC w.heap.size a vt vd vi ((w.alloc (.cells (conCells a vt vd vi) 39)).alloc (.cells (conCells a ut ud ui) 39)) ∧ OneC (w.heap.size + 1) a ut ud ui ((w.alloc (.cells (conCells a vt vd vi) 39)).alloc (.cells (conCells a ut ud ui) 39)) ∧
      Below w.heap.size w ((w.alloc (.cells (conCells a vt vd vi) 39)).alloc (.cells (conCells a ut ud ui) 39)) := by
  have b1 := below_al w (.cells (conCells a vt vd vi) 39)
  have b2 := below_al (w.alloc (.cells (conCells a vt vd vi) 39)) (.cells (conCells a ut ud ui) 39)
  have b3 := b1.trans (b2.mono b1.size)
  have g1 : OneC w.heap.size a vt vd vi (w.alloc (.cells (conCells a vt vd vi) 39)) := ⟨World.alloc_heap_new w _, ARow.bel b1 h1, h2.bel b1 (Nat.le_refl _), h3.bel b1 (Nat.le_refl _)⟩
  have hnew := World.alloc_heap_new (w.alloc (.cells (conCells a vt vd vi) 39)) (.cells (conCells a ut ud ui) 39)
  rw [World.size_alloc] at hnew
  exact ⟨g1.bel b2, ⟨hnew, ARow.bel b3 h4, h5.bel b3 (Nat.le_refl _), h6.bel b3 (Nat.le_refl _)⟩, b3⟩
set_option maxRecDepth 100000 in
set_option maxHeartbeats 4000000 in
theorem keepcon_self (a : ConT) (hs : conN a ≤ 1048576) (w : World) (vt vd vi ut ud ui : Value) (h1 : ARow w a.args vt) (h2 : At w a.idx vd) (h3 : At w a.dec.kids vi) (h4 : ARow w a.args ut) (h5 : At w a.idx ud) (h6 : At w a.dec.kids ui) :
    Calls Tryz.prog 33 #[.agg #[.int .i64 a.sort, vt, vd, .int .i64 a.dec.k, .int .i64 a.dec.n, vi], .agg #[.int .i64 a.sort, ut, ud, .int .i64 a.dec.k, .int .i64 a.dec.n, ui]] w fun e w' => e = .returned (.bool true) ∧ Below w.heap.size w w' := by
  have hn : conN a = argsN a.args + sizeL a.idx + size a.dec + 1 := rfl
  have O := Lib.hid (onec_two w a vt vd vi ut ud ui h1 h2 h3 h4 h5 h6)
  unfold conCells at O
  have RA := Lib.hid (fun W hA hB => keepargs_self a.args (by omega) W vt ut hA hB)
  have RD := Lib.hid (fun W hA hB => keepl_self a.idx (by omega) W vd ud hA hB)
  have RI := Lib.hid (fun W hA hB => keept_self a.dec (by omega) W vi ui hA hB)
  have q1 : (a.sort == a.sort) = true := by simp
  clear hs hn h1 h2 h3 h4 h5 h6
  go_enter Tryz.func33, Tryz.ntmps33
  go_wp2_with fail
  refine (RA.out _ O.out.1.2.1 O.out.2.1.2.1).mono ?_
  rintro e w1 ⟨rfl, hb1⟩
  have A1 := Lib.hid (O.out.1.bel hb1)
  have B1 := Lib.hid (O.out.2.1.bel hb1)
  have G1 := Lib.hid (O.out.2.2.trans (hb1.mono O.out.2.2.size))
  obtain ⟨x0, x1, x2, x3, x4, x5⟩ := A1.out.cells
  obtain ⟨y0, y1, y2, y3, y4, y5⟩ := B1.out.cells
  clear O hb1
  go_wp2_with fail
  refine (RD.out _ A1.out.2.2.1 B1.out.2.2.1).mono ?_
  rintro e w2 ⟨rfl, hb2⟩
  have A2 := Lib.hid (A1.out.bel hb2)
  have B2 := Lib.hid (B1.out.bel hb2)
  have G2 := Lib.hid (G1.out.trans (hb2.mono G1.out.size))
  clear x0 x1 x2 x3 x4 x5 y0 y1 y2 y3 y4 y5
  obtain ⟨x0, x1, x2, x3, x4, x5⟩ := A2.out.cells
  obtain ⟨y0, y1, y2, y3, y4, y5⟩ := B2.out.cells
  clear A1 B1 G1 hb2
  go_wp2_with fail
  refine (RI.out _ A2.out.2.2.2 B2.out.2.2.2).mono ?_
  rintro e w3 ⟨rfl, hb3⟩
  have G3 := Lib.hid (G2.out.trans (hb3.mono G2.out.size))
  clear x0 x1 x2 x3 x4 x5 y0 y1 y2 y3 y4 y5 A2 B2 G2 hb3
  go_wp2_with fail
  go_ret
  exact ⟨rfl, G3.out⟩
/-- Two boxes of one block. -/
theorem oneb_two (w : World) (b : BlkT) (vs vc us uc : Value) (h1 : BAt w b vs vc) (h2 : BAt w b us uc) :
    OneB w w.heap.size b vs vc ((w.alloc (.cells #[vs, vc, .int .i64 b.elim] 25)).alloc (.cells #[us, uc, .int .i64 b.elim] 25)) ∧ OneB w (w.heap.size + 1) b us uc ((w.alloc (.cells #[vs, vc, .int .i64 b.elim] 25)).alloc (.cells #[us, uc, .int .i64 b.elim] 25)) := by
  have o1 := oneb_start w b vs vc h1
  have b2 := below_al (w.alloc (.cells #[vs, vc, .int .i64 b.elim] 25)) (.cells #[us, uc, .int .i64 b.elim] 25)
  have hnew := World.alloc_heap_new (w.alloc (.cells #[vs, vc, .int .i64 b.elim] 25)) (.cells #[us, uc, .int .i64 b.elim] 25)
  rw [World.size_alloc] at hnew
  have o2 := o1.bel b2
  exact ⟨o2, hnew, h2.bel o2.2.2, o2.2.2⟩
theorem ones_two (w : World) (s : SortT) (va vt ua ut : Value) (h1 : ARow w s.idx va) (h2 : At w s.decT.kids vt) (h3 : ARow w s.idx ua) (h4 : At w s.decT.kids ut) :
    OneS w.heap.size s va vt ((w.alloc (.cells (sortCells s va vt) 49)).alloc (.cells (sortCells s ua ut) 49)).drew ∧ OneS (w.heap.size + 1) s ua ut ((w.alloc (.cells (sortCells s va vt) 49)).alloc (.cells (sortCells s ua ut) 49)).drew ∧ Below w.heap.size w ((w.alloc (.cells (sortCells s va vt) 49)).alloc (.cells (sortCells s ua ut) 49)).drew := by
  have b1 := below_al w (.cells (sortCells s va vt) 49)
  have b2 := (below_al (w.alloc (.cells (sortCells s va vt) 49)) (.cells (sortCells s ua ut) 49)).drew
  have b3 := b1.trans (b2.mono b1.size)
  have g1 : OneS w.heap.size s va vt (w.alloc (.cells (sortCells s va vt) 49)) := ⟨World.alloc_heap_new w _, ARow.bel b1 h1, h2.bel b1 (Nat.le_refl _)⟩
  have hnew := World.alloc_heap_new (w.alloc (.cells (sortCells s va vt) 49)) (.cells (sortCells s ua ut) 49)
  rw [World.size_alloc] at hnew
  exact ⟨g1.bel b2, ⟨hnew, ARow.bel b3 h3, h4.bel b3 (Nat.le_refl _)⟩, b3⟩
set_option maxRecDepth 100000 in
set_option maxHeartbeats 4000000 in
theorem keepblk_self (b : BlkT) (hs : blkN b ≤ 1048576) (w : World) (vs vc us uc : Value) (hA : BAt w b vs vc) (hB : BAt w b us uc) :
    Calls Tryz.prog 9 #[.agg #[vs, vc, .int .i64 b.elim], .agg #[us, uc, .int .i64 b.elim]] w fun e w' => e = .returned (.bool true) ∧ Below w.heap.size w w' := by
  obtain ⟨ps, cs, pc, cc, rfl, rfl⟩ := hA.shape
  obtain ⟨qs, ds, qc, dc, rfl, rfl⟩ := hB.shape
  have hls := sortsN_len b.sorts
  have hlc := consN_len b.cons
  have hbn : blkN b = sortsN b.sorts + consN b.cons + 1 := rfl
  have O := Lib.hid (oneb_two w b _ _ _ _ hA hB)
  have q0 : ((b.sorts.length : Int) != (b.sorts.length : Int)) = false := by simp
  have q1 : ((b.cons.length : Int) != (b.cons.length : Int)) = false := by simp
  have q2 : (b.elim != b.elim) = false := by simp
  have hls2 : b.sorts.length ≤ 1048576 := by omega
  have hlc2 : b.cons.length ≤ 1048576 := by omega
  have HS := Lib.hid (fun j (h : j < b.sorts.length) => (by have := sortN_le (List.getElem_mem h); omega : sortN b.sorts[j] ≤ 1048576))
  have HC := Lib.hid (fun j (h : j < b.cons.length) => (by have := conN_le (List.getElem_mem h); omega : conN b.cons[j] ≤ 1048576))
  clear hs hls hlc hbn hA hB
  go_enter Tryz.func9, Tryz.ntmps9
  go_wp2_with fail
  clear q0 q1 q2
  go_loopw [5] (fun i wr => ∃ j : Nat, j ≤ b.sorts.length ∧ i = .int .i64 j ∧ OneB w w.heap.size b (.slice ps b.sorts.length cs) (.slice pc b.cons.length cc) wr ∧ OneB w (w.heap.size + 1) b (.slice qs b.sorts.length ds) (.slice qc b.cons.length dc) wr) (fun i _ => b.sorts.length - (RowKit.intOf i).toNat)
  case atStart => exact ⟨0, Nat.zero_le _, rfl, O.out.1, O.out.2⟩
  case round =>
    clear O
    obtain ⟨j, hj, rfl, hO, hP⟩ := hrel
    obtain ⟨x0, x1, x2⟩ := hO.cells
    obtain ⟨y0, y1, y2⟩ := hP.cells
    by_cases hlt : j < b.sorts.length
    · obtain ⟨BA, oA, va, vt, rfl, g1, g2, k0, k1, k2, k3, k4, k5⟩ := SRow.at hO.2.1.1 hlt
      obtain ⟨BB, oB, ua, ut, rfl, f1, f2, l0, l1, l2, l3, l4, l5⟩ := SRow.at hP.2.1.1 hlt
      have hji : (j : Int) < (b.sorts.length : Int) := by omega
      have hj0 : (0 : Int) ≤ (j : Int) := by omega
      obtain ⟨p1, c1, e1⟩ := g1.shape
      obtain ⟨p2, c2, e2⟩ := g2.shape
      obtain ⟨p3, c3, e3⟩ := f1.shape
      obtain ⟨p4, c4, e4⟩ := f2.shape
      subst e1 e2 e3 e4
      have z1 := World.block_lt_of_cell? wr _ x0
      have z2 := World.block_lt_of_cell? wr _ y0
      have z3 := World.block_lt_of_cell? wr _ k0
      have z4 := World.block_lt_of_cell? wr _ l0
      simp only at z1 z2 z3 z4
      have d1 : ¬ w.heap.size = wr.heap.size := by omega
      have d2 : ¬ wr.heap.size = w.heap.size := by omega
      have d3 : ¬ w.heap.size + 1 = wr.heap.size := by omega
      have d4 : ¬ wr.heap.size = w.heap.size + 1 := by omega
      have d5 : ¬ w.heap.size = wr.heap.size + 1 := by omega
      have d6 : ¬ wr.heap.size + 1 = w.heap.size := by omega
      have d7 : ¬ BA = wr.heap.size := by omega
      have d8 : ¬ wr.heap.size = BA := by omega
      have d9 : ¬ BA = wr.heap.size + 1 := by omega
      have d10 : ¬ wr.heap.size + 1 = BA := by omega
      have d11 : ¬ BB = wr.heap.size := by omega
      have d12 : ¬ wr.heap.size = BB := by omega
      have d13 : ¬ BB = wr.heap.size + 1 := by omega
      have d14 : ¬ wr.heap.size + 1 = BB := by omega
      have HG := Lib.hid (And.intro g1 (And.intro g2 (And.intro f1 f2)))
      have HZ := Lib.hid (show argsN b.sorts[j].idx ≤ 1048576 ∧ size b.sorts[j].decT ≤ 1048576 by have := HS.out j hlt; have e : sortN b.sorts[j] = argsN b.sorts[j].idx + size b.sorts[j].decT + 1 := rfl; constructor <;> omega)
      have HO := Lib.hid hO
      have HP := Lib.hid hP
      have r0 : (b.sorts[j].level != b.sorts[j].level) = false := by simp
      have r1 : (b.sorts[j].dec != b.sorts[j].dec) = false := by simp
      clear g1 g2 f1 f2 hO hP
      go_wp2_with fail
      go_region
      all_goals clear z1 z2 z3 z4 x0 x1 x2 y0 y1 y2 k0 k1 k2 k3 k4 k5 l0 l1 l2 l3 l4 l5 d1 d2 d3 d4 d5 d6 d7 d8 d9 d10 d11 d12 d13 d14
      · have T := ones_two _ _ (.slice p1 b.sorts[j].idx.length c1) (.slice p2 b.sorts[j].decT.kids.length c2) (.slice p3 b.sorts[j].idx.length c3) (.slice p4 b.sorts[j].decT.kids.length c4) HG.out.1 HG.out.2.1 HG.out.2.2.1 HG.out.2.2.2
        unfold sortCells at T
        revert T
        generalize ((wr.alloc _).alloc _).drew = w1
        intro T
        have X1 := Lib.hid T.1
        have Y1 := Lib.hid T.2.1
        have O1 := Lib.hid (HO.out.bel T.2.2)
        have P1 := Lib.hid (HP.out.bel T.2.2)
        clear T
        obtain ⟨s0, s1, s2, s3, s4, s5⟩ := X1.out.cells
        obtain ⟨t0, t1, t2, t3, t4, t5⟩ := Y1.out.cells
        go_wp2_with fail
        refine (keepargs_self b.sorts[j].idx HZ.out.1 _ _ _ X1.out.2.1 Y1.out.2.1).mono ?_
        rintro e w2 ⟨rfl, hb2⟩
        have X2 := Lib.hid (X1.out.bel hb2)
        have Y2 := Lib.hid (Y1.out.bel hb2)
        have O2 := Lib.hid (O1.out.bel hb2)
        have P2 := Lib.hid (P1.out.bel hb2)
        clear hb2 s0 s1 s2 s3 s4 s5 t0 t1 t2 t3 t4 t5 X1 Y1 O1 P1
        obtain ⟨s0, s1, s2, s3, s4, s5⟩ := X2.out.cells
        obtain ⟨t0, t1, t2, t3, t4, t5⟩ := Y2.out.cells
        go_wp2_with fail
        refine (keept_self b.sorts[j].decT HZ.out.2 _ _ _ X2.out.2.2 Y2.out.2.2).mono ?_
        rintro e w3 ⟨rfl, hb3⟩
        have O3 := Lib.hid (O2.out.bel hb3)
        have P3 := Lib.hid (P2.out.bel hb3)
        clear hb3 s0 s1 s2 s3 s4 s5 t0 t1 t2 t3 t4 t5 X2 Y2 O2 P2
        go_wp2_with fail
        go_roundw
        case rel => exact ⟨j + 1, hlt, by go_num, O3.out, P3.out⟩
        case measure => simp [RowKit.intOf]; omega
      · have T := ones_two _ _ (.slice p3 b.sorts[j].idx.length c3) (.slice p4 b.sorts[j].decT.kids.length c4) (.slice p1 b.sorts[j].idx.length c1) (.slice p2 b.sorts[j].decT.kids.length c2) HG.out.2.2.1 HG.out.2.2.2 HG.out.1 HG.out.2.1
        unfold sortCells at T
        revert T
        generalize ((wr.alloc _).alloc _).drew = w1
        intro T
        have X1 := Lib.hid T.2.1
        have Y1 := Lib.hid T.1
        have O1 := Lib.hid (HO.out.bel T.2.2)
        have P1 := Lib.hid (HP.out.bel T.2.2)
        clear T
        obtain ⟨s0, s1, s2, s3, s4, s5⟩ := X1.out.cells
        obtain ⟨t0, t1, t2, t3, t4, t5⟩ := Y1.out.cells
        go_wp2_with fail
        refine (keepargs_self b.sorts[j].idx HZ.out.1 _ _ _ X1.out.2.1 Y1.out.2.1).mono ?_
        rintro e w2 ⟨rfl, hb2⟩
        have X2 := Lib.hid (X1.out.bel hb2)
        have Y2 := Lib.hid (Y1.out.bel hb2)
        have O2 := Lib.hid (O1.out.bel hb2)
        have P2 := Lib.hid (P1.out.bel hb2)
        clear hb2 s0 s1 s2 s3 s4 s5 t0 t1 t2 t3 t4 t5 X1 Y1 O1 P1
        obtain ⟨s0, s1, s2, s3, s4, s5⟩ := X2.out.cells
        obtain ⟨t0, t1, t2, t3, t4, t5⟩ := Y2.out.cells
        go_wp2_with fail
        refine (keept_self b.sorts[j].decT HZ.out.2 _ _ _ X2.out.2.2 Y2.out.2.2).mono ?_
        rintro e w3 ⟨rfl, hb3⟩
        have O3 := Lib.hid (O2.out.bel hb3)
        have P3 := Lib.hid (P2.out.bel hb3)
        clear hb3 s0 s1 s2 s3 s4 s5 t0 t1 t2 t3 t4 t5 X2 Y2 O2 P2
        go_wp2_with fail
        go_roundw
        case rel => exact ⟨j + 1, hlt, by go_num, O3.out, P3.out⟩
        case measure => simp [RowKit.intOf]; omega
    · obtain rfl : j = b.sorts.length := by omega
      have hnl : ¬ (b.sorts.length : Int) < (b.sorts.length : Int) := by omega
      have HO := Lib.hid hO
      have HP := Lib.hid hP
      clear hO hP
      go_wp2_with fail
      clear x0 x1 x2 y0 y1 y2
      go_loopw [8] (fun i wr => ∃ j : Nat, j ≤ b.cons.length ∧ i = .int .i64 j ∧ OneB w w.heap.size b (.slice ps b.sorts.length cs) (.slice pc b.cons.length cc) wr ∧ OneB w (w.heap.size + 1) b (.slice qs b.sorts.length ds) (.slice qc b.cons.length dc) wr) (fun i _ => b.cons.length - (RowKit.intOf i).toNat)
      case atStart => exact ⟨0, Nat.zero_le _, rfl, HO.out, HP.out⟩
      case round =>
        clear HO HP
        obtain ⟨j, hj, rfl, hO, hP⟩ := hrel
        obtain ⟨x0, x1, x2⟩ := hO.cells
        obtain ⟨y0, y1, y2⟩ := hP.cells
        by_cases hlt : j < b.cons.length
        · obtain ⟨BA, oA, va, vi, vt, rfl, g1, g2, g3, k0, k1, k2, k3, k4, k5⟩ := CRow.at hO.2.1.2 hlt
          obtain ⟨BB, oB, ua, ui, ut, rfl, f1, f2, f3, l0, l1, l2, l3, l4, l5⟩ := CRow.at hP.2.1.2 hlt
          have hji : (j : Int) < (b.cons.length : Int) := by omega
          have hj0 : (0 : Int) ≤ (j : Int) := by omega
          have CO := Lib.hid (fun W (hW : Below wr.heap.size wr W) => keepcon_self b.cons[j] (HC.out j hlt) W _ _ _ _ _ _ (ARow.bel hW g1) (g2.bel hW (Nat.le_refl _)) (g3.bel hW (Nat.le_refl _)) (ARow.bel hW f1) (f2.bel hW (Nat.le_refl _)) (f3.bel hW (Nat.le_refl _)))
          have KK := Lib.hid (And.intro k0 (And.intro k1 (And.intro k2 (And.intro k3 (And.intro k4 k5)))))
          have LL := Lib.hid (And.intro l0 (And.intro l1 (And.intro l2 (And.intro l3 (And.intro l4 l5)))))
          have HO := Lib.hid hO
          have HP := Lib.hid hP
          clear g1 g2 g3 f1 f2 f3 k0 k1 k2 k3 k4 k5 l0 l1 l2 l3 l4 l5 hO hP
          go_wp2_with fail
          clear x0 x1 x2 y0 y1 y2
          refine wp_region_rel (by kernel_rfl) (by kernel_rfl) (by kernel_rfl) ?_
          apply RelWalk.rest
          · kernel_rfl
          · intro X _ W hW hcl
            obtain ⟨x0, x1, x2⟩ := HO.out.cells
            obtain ⟨y0, y1, y2⟩ := HP.out.cells
            obtain ⟨k0, k1, k2, k3, k4, k5⟩ := KK.out
            obtain ⟨l0, l1, l2, l3, l4, l5⟩ := LL.out
            have rX1 := fun q => gcell (hW q) x1
            have rY1 := fun q => gcell (hW q) y1
            have rK0 := fun q => gcell (hW q) k0
            have rK1 := fun q => gcell (hW q) k1
            have rK2 := fun q => gcell (hW q) k2
            have rK3 := fun q => gcell (hW q) k3
            have rK4 := fun q => gcell (hW q) k4
            have rK5 := fun q => gcell (hW q) k5
            have rL0 := fun q => gcell (hW q) l0
            have rL1 := fun q => gcell (hW q) l1
            have rL2 := fun q => gcell (hW q) l2
            have rL3 := fun q => gcell (hW q) l3
            have rL4 := fun q => gcell (hW q) l4
            have rL5 := fun q => gcell (hW q) l5
            clear x0 x1 x2 y0 y1 y2
            clear k0 k1 k2 k3 k4 k5 l0 l1 l2 l3 l4 l5
            have d0 := Lib.hid (fun q => into hcl (CO.out (W q) (hW q)))
            repeat (go_big_quiet_step (first | (with_reducible exact d0.out _)))
            exact wpQuiet_nil rfl
          intro gq w6 hg _
          have O6 := Lib.hid (HO.out.bel hg)
          have P6 := Lib.hid (HP.out.bel hg)
          clear hg
          simp only [Spread]
          go_wp2_with fail
          go_roundw
          case rel => exact ⟨j + 1, hlt, by go_num, O6.out, P6.out⟩
          case measure => simp [RowKit.intOf]; omega
        · obtain rfl : j = b.cons.length := by omega
          have hnl : ¬ (b.cons.length : Int) < (b.cons.length : Int) := by omega
          have HO := Lib.hid hO
          clear hO hP
          go_wp2_with fail
          go_ret
          exact ⟨rfl, HO.out.2.2⟩
end Go.Proofs.YtggefpkfikimiaaGreat
/- The page's Nat: its block, in new memory. No conditions. -/
namespace Go.Proofs.YtggefpkfikimiaaGreat
open Go.RowKit
set_option linter.unusedVariables false

def zT : Tm := .node 0 0 []
def natB : BlkT := ⟨[⟨[], 0, false, zT⟩], [⟨0, [], [], zT⟩, ⟨0, [⟨true, zT, [], 0, []⟩], [], zT⟩], 0⟩
set_option maxRecDepth 100000 in
set_option maxHeartbeats 1000000 in
theorem nrec_any (w : World) :
    Calls Tryz.prog 61 #[.int .i64 0, .slice none 0 0] w fun e w' => e = .returned (.agg #[.bool true, .int .i64 0, .int .i64 0, .slice none 0 0, .slice none 0 0, .int .i64 0, .slice none 0 0]) ∧ Below w.heap.size w w' := by
  have hb := Lib.hid (below_al w (.cells #[.bool false, .int .i64 0, .int .i64 0, .slice none 0 0, .slice none 0 0, .int .i64 0, .slice none 0 0] 46))
  go_enter Tryz.func61, Tryz.ntmps61
  go_wp2_with fail
  exact bodyPost_ret (v := .agg #[.bool true, .int .i64 0, .int .i64 0, .slice none 0 0, .slice none 0 0, .int .i64 0, .slice none 0 0]) (by simp [results, Tryz.f61, go_sem]) rfl ⟨rfl, below_al w _⟩
set_option maxRecDepth 100000 in
set_option maxHeartbeats 1000000 in
theorem ndecl_any (w : World) (vs vc : Value) (el : Int) (h1 : ∃ a n c, vs = .slice a n c) (h2 : ∃ a n c, vc = .slice a n c) :
    Calls Tryz.prog 60 #[.agg #[vs, vc, .int .i64 el]] w fun e w' => e = .returned (.agg #[.int .i64 3, .int .i64 0, .int .i64 0, .slice none 0 0, .int .i64 0, .int .i64 0, .slice none 0 0, vs, vc, .int .i64 el]) ∧ Below w.heap.size w w' := by
  obtain ⟨a1, n1, c1, rfl⟩ := h1
  obtain ⟨a2, n2, c2, rfl⟩ := h2
  go_enter Tryz.func60, Tryz.ntmps60
  go_wp2_with fail
  have hb1 := below_al w (.cells #[.slice a1 n1 c1, .slice a2 n2 c2, .int .i64 el] 25)
  exact bodyPost_ret (v := .agg #[.int .i64 3, .int .i64 0, .int .i64 0, .slice none 0 0, .int .i64 0, .int .i64 0, .slice none 0 0, .slice a1 n1 c1, .slice a2 n2 c2, .int .i64 el]) (by simp [results, Tryz.f60, go_sem]) rfl ⟨rfl, hb1.trans ((below_al _ _).mono hb1.size)⟩
theorem nat_at {W : World} {S A C : Nat} (hS : W.heap[S]? = some (.cells #[.slice none 0 0, .int .i64 0, .bool false, .int .i64 0, .int .i64 0, .slice none 0 0] 49)) (hA : W.heap[A]? = some (.cells #[.bool true, .int .i64 0, .int .i64 0, .slice none 0 0, .slice none 0 0, .int .i64 0, .slice none 0 0] 46)) (hC : W.heap[C]? = some (.cells #[.int .i64 0, .slice none 0 0, .slice none 0 0, .int .i64 0, .int .i64 0, .slice none 0 0, .int .i64 0, .slice (some ⟨A, 0, none⟩) 1 1, .slice none 0 0, .int .i64 0, .int .i64 0, .slice none 0 0] 39)) : BAt W natB (.slice (some ⟨S, 0, none⟩) 1 1) (.slice (some ⟨C, 0, none⟩) 2 2) := by
  have hAr : ARow W [⟨true, zT, [], 0, []⟩] (.slice (some ⟨A, 0, none⟩) 1 1) := by
    refine GAt.row [(⟨true, zT, [], 0, []⟩ : ArgT)] A 0 1 (fun _ => [.bool true, .int .i64 0, .int .i64 0, .slice none 0 0, .slice none 0 0, .int .i64 0, .slice none 0 0]) (by decide) (by decide) (by decide) (fun i hi => ?_) (fun i hi r hr => ?_)
    · obtain rfl : i = 0 := by simpa using hi
      exact ⟨⟨.slice none 0 0, .slice none 0 0, .slice none 0 0, rfl, .nl, .nl, .nl⟩, rfl⟩
    · obtain rfl : i = 0 := by simpa using hi
      simp [World.cell?, hA]
  refine ⟨?_, ?_⟩
  · refine GAt.row [(⟨[], 0, false, zT⟩ : SortT)] S 0 1 (fun _ => [.slice none 0 0, .int .i64 0, .bool false, .int .i64 0, .int .i64 0, .slice none 0 0]) (by decide) (by decide) (by decide) (fun i hi => ?_) (fun i hi r hr => ?_)
    · obtain rfl : i = 0 := by simpa using hi
      exact ⟨⟨.slice none 0 0, .slice none 0 0, rfl, .nl, .nl⟩, rfl⟩
    · obtain rfl : i = 0 := by simpa using hi
      simp [World.cell?, hS]
  · refine GAt.row [(⟨0, [], [], zT⟩ : ConT), ⟨0, [⟨true, zT, [], 0, []⟩], [], zT⟩] C 0 2 (fun i => if i = 0 then [.int .i64 0, .slice none 0 0, .slice none 0 0, .int .i64 0, .int .i64 0, .slice none 0 0] else [.int .i64 0, .slice (some ⟨A, 0, none⟩) 1 1, .slice none 0 0, .int .i64 0, .int .i64 0, .slice none 0 0]) (by decide) (by decide) (by decide) (fun i hi => ?_) (fun i hi r hr => ?_)
    · have h2 : i < 2 := hi
      have : i = 0 ∨ i = 1 := by omega
      rcases this with rfl | rfl
      · exact ⟨⟨.slice none 0 0, .slice none 0 0, .slice none 0 0, rfl, .nl, .nl, .nl⟩, rfl⟩
      · exact ⟨⟨.slice (some ⟨A, 0, none⟩) 1 1, .slice none 0 0, .slice none 0 0, rfl, hAr, .nl, .nl⟩, rfl⟩
    · have h2 : i < 2 := hi
      have : i = 0 ∨ i = 1 := by omega
      have hr6 : r = 0 ∨ r = 1 ∨ r = 2 ∨ r = 3 ∨ r = 4 ∨ r = 5 := by omega
      rcases this with rfl | rfl <;> rcases hr6 with rfl | rfl | rfl | rfl | rfl | rfl <;> simp [World.cell?, hC]
theorem below_store10 {W : World} {B D : Nat} (hD : D ≤ B) (x0 x1 x2 x3 x4 x5 x6 x7 x8 x9 : Value) : Below D W ((((((((((W.setCell ⟨B, 0, none⟩ x0).setCell ⟨B, 1, none⟩ x1).setCell ⟨B, 2, none⟩ x2).setCell ⟨B, 3, none⟩ x3).setCell ⟨B, 4, none⟩ x4).setCell ⟨B, 5, none⟩ x5).setCell ⟨B, 6, none⟩ x6).setCell ⟨B, 7, none⟩ x7).setCell ⟨B, 8, none⟩ x8).setCell ⟨B, 9, none⟩ x9) := (((((((((((Below.refl D W).setCell (p := ⟨B, 0, none⟩) hD x0).setCell (p := ⟨B, 1, none⟩) hD x1).setCell (p := ⟨B, 2, none⟩) hD x2).setCell (p := ⟨B, 3, none⟩) hD x3).setCell (p := ⟨B, 4, none⟩) hD x4).setCell (p := ⟨B, 5, none⟩) hD x5).setCell (p := ⟨B, 6, none⟩) hD x6).setCell (p := ⟨B, 7, none⟩) hD x7).setCell (p := ⟨B, 8, none⟩) hD x8).setCell (p := ⟨B, 9, none⟩) hD x9)
theorem other_store10 {W : World} {B b : Nat} (hb : b ≠ B) (x0 x1 x2 x3 x4 x5 x6 x7 x8 x9 : Value) : ((((((((((W.setCell ⟨B, 0, none⟩ x0).setCell ⟨B, 1, none⟩ x1).setCell ⟨B, 2, none⟩ x2).setCell ⟨B, 3, none⟩ x3).setCell ⟨B, 4, none⟩ x4).setCell ⟨B, 5, none⟩ x5).setCell ⟨B, 6, none⟩ x6).setCell ⟨B, 7, none⟩ x7).setCell ⟨B, 8, none⟩ x8).setCell ⟨B, 9, none⟩ x9).heap[b]? = W.heap[b]? := by
  rw [Below.heap_setCell _ _ _ _ (by simpa using hb), Below.heap_setCell _ _ _ _ (by simpa using hb), Below.heap_setCell _ _ _ _ (by simpa using hb), Below.heap_setCell _ _ _ _ (by simpa using hb), Below.heap_setCell _ _ _ _ (by simpa using hb), Below.heap_setCell _ _ _ _ (by simpa using hb), Below.heap_setCell _ _ _ _ (by simpa using hb), Below.heap_setCell _ _ _ _ (by simpa using hb), Below.heap_setCell _ _ _ _ (by simpa using hb), Below.heap_setCell _ _ _ _ (by simpa using hb)]
set_option maxRecDepth 100000 in
set_option maxHeartbeats 2000000 in
theorem nat_any (w : World) :
    Calls Tryz.prog 34 #[] w fun e w' => ∃ vs vc, e = .returned (.agg #[.int .i64 3, .int .i64 0, .int .i64 0, .slice none 0 0, .int .i64 0, .int .i64 0, .slice none 0 0, vs, vc, .int .i64 0]) ∧ BAt w' natB vs vc ∧ Below w.heap.size w w' := by
  have HR := Lib.hid (fun W => nrec_any W)
  have HD := Lib.hid (fun W vs vc h1 h2 => ndecl_any W vs vc 0 h1 h2)
  have b1 := below_al w (.cells #[.int .i64 0, .int .i64 0, .int .i64 0, .slice none 0 0, .int .i64 0, .int .i64 0, .slice none 0 0, .slice none 0 0, .slice none 0 0, .int .i64 0] 69)
  have b2 := below_al (w.alloc (.cells #[.int .i64 0, .int .i64 0, .int .i64 0, .slice none 0 0, .int .i64 0, .int .i64 0, .slice none 0 0, .slice none 0 0, .slice none 0 0, .int .i64 0] 69)) (.cells #[.slice none 0 0, .int .i64 0, .bool false, .int .i64 0, .int .i64 0, .slice none 0 0] 49)
  have hbD := Lib.hid ((b2.block w.heap.size (by simp)).trans (World.alloc_heap_new w (.cells #[.int .i64 0, .int .i64 0, .int .i64 0, .slice none 0 0, .int .i64 0, .int .i64 0, .slice none 0 0, .slice none 0 0, .slice none 0 0, .int .i64 0] 69)))
  have hbS := World.alloc_heap_new (w.alloc (.cells #[.int .i64 0, .int .i64 0, .int .i64 0, .slice none 0 0, .int .i64 0, .int .i64 0, .slice none 0 0, .slice none 0 0, .slice none 0 0, .int .i64 0] 69)) (.cells #[.slice none 0 0, .int .i64 0, .bool false, .int .i64 0, .int .i64 0, .slice none 0 0] 49)
  rw [World.size_alloc] at hbS
  have hbS := Lib.hid hbS
  have hb0 := Lib.hid (b1.trans (b2.mono b1.size))
  have hz0 := Lib.hid (show ((w.alloc (.cells #[.int .i64 0, .int .i64 0, .int .i64 0, .slice none 0 0, .int .i64 0, .int .i64 0, .slice none 0 0, .slice none 0 0, .slice none 0 0, .int .i64 0] 69)).alloc (.cells #[.slice none 0 0, .int .i64 0, .bool false, .int .i64 0, .int .i64 0, .slice none 0 0] 49)).heap.size = w.heap.size + 2 by simp)
  clear b1 b2
  go_enter Tryz.func34, Tryz.ntmps34
  go_wp2_with fail
  refine (HR.out _).mono ?_
  rintro e w1 ⟨rfl, hb1⟩
  have hD1 := Lib.hid ((hb1.block w.heap.size (by rw [hz0.out]; omega)).trans hbD.out)
  have hS1 := Lib.hid ((hb1.block (w.heap.size + 1) (by rw [hz0.out]; omega)).trans hbS.out)
  have hG1 := Lib.hid (hb0.out.trans (hb1.mono hb0.out.size))
  have hz1 := Lib.hid (show w.heap.size + 2 ≤ w1.heap.size by rw [← hz0.out]; exact hb1.size)
  clear hbD hbS hb0 hz0 hb1
  have c1 := below_al w1 (.cells #[.bool true, .int .i64 0, .int .i64 0, .slice none 0 0, .slice none 0 0, .int .i64 0, .slice none 0 0] 46)
  have c2 := below_al (w1.alloc (.cells #[.bool true, .int .i64 0, .int .i64 0, .slice none 0 0, .slice none 0 0, .int .i64 0, .slice none 0 0] 46)) (.cells #[.int .i64 0, .slice none 0 0, .slice none 0 0, .int .i64 0, .int .i64 0, .slice none 0 0, .int .i64 0, .slice (some ⟨w1.heap.size, 0, none⟩) 1 1, .slice none 0 0, .int .i64 0, .int .i64 0, .slice none 0 0] 39)
  have hA2 := Lib.hid ((c2.block w1.heap.size (by simp)).trans (World.alloc_heap_new w1 (.cells #[.bool true, .int .i64 0, .int .i64 0, .slice none 0 0, .slice none 0 0, .int .i64 0, .slice none 0 0] 46)))
  have hC2 := World.alloc_heap_new (w1.alloc (.cells #[.bool true, .int .i64 0, .int .i64 0, .slice none 0 0, .slice none 0 0, .int .i64 0, .slice none 0 0] 46)) (.cells #[.int .i64 0, .slice none 0 0, .slice none 0 0, .int .i64 0, .int .i64 0, .slice none 0 0, .int .i64 0, .slice (some ⟨w1.heap.size, 0, none⟩) 1 1, .slice none 0 0, .int .i64 0, .int .i64 0, .slice none 0 0] 39)
  rw [World.size_alloc] at hC2
  have hC2 := Lib.hid hC2
  have hc := Lib.hid (c1.trans (c2.mono c1.size))
  have hzc := Lib.hid (show ((w1.alloc (.cells #[.bool true, .int .i64 0, .int .i64 0, .slice none 0 0, .slice none 0 0, .int .i64 0, .slice none 0 0] 46)).alloc (.cells #[.int .i64 0, .slice none 0 0, .slice none 0 0, .int .i64 0, .int .i64 0, .slice none 0 0, .int .i64 0, .slice (some ⟨w1.heap.size, 0, none⟩) 1 1, .slice none 0 0, .int .i64 0, .int .i64 0, .slice none 0 0] 39)).heap.size = w1.heap.size + 2 by simp)
  clear c1 c2
  go_wp2_with fail
  refine (HD.out _ _ _ ⟨_, _, _, rfl⟩ ⟨_, _, _, rfl⟩).mono ?_
  rintro e w2 ⟨rfl, hb2⟩
  have hs1 := hz1.out
  have HD2 := Lib.hid ((hb2.block w.heap.size (by rw [hzc.out]; omega)).trans ((hc.out.block w.heap.size (by omega)).trans hD1.out))
  have HS2 := Lib.hid ((hb2.block (w.heap.size + 1) (by rw [hzc.out]; omega)).trans ((hc.out.block (w.heap.size + 1) (by omega)).trans hS1.out))
  have HA2 := Lib.hid ((hb2.block w1.heap.size (by rw [hzc.out]; omega)).trans hA2.out)
  have HC2 := Lib.hid ((hb2.block (w1.heap.size + 1) (by rw [hzc.out]; omega)).trans hC2.out)
  have G2 := Lib.hid ((hG1.out.trans (hc.out.mono hG1.out.size)).trans (hb2.mono (hG1.out.trans (hc.out.mono hG1.out.size)).size))
  clear hb2 hc hzc hA2 hC2 hD1 hS1 hG1 hz1 HR HD
  have z0 : w2.cell? ⟨w.heap.size, 0, none⟩ = some (.int .i64 0) := by simp [World.cell?, HD2.out]
  have y0 : w2.frozen? ⟨w.heap.size, 0, none⟩ = false := by simp [World.frozen?, HD2.out]
  have z1 : w2.cell? ⟨w.heap.size, 1, none⟩ = some (.int .i64 0) := by simp [World.cell?, HD2.out]
  have y1 : w2.frozen? ⟨w.heap.size, 1, none⟩ = false := by simp [World.frozen?, HD2.out]
  have z2 : w2.cell? ⟨w.heap.size, 2, none⟩ = some (.int .i64 0) := by simp [World.cell?, HD2.out]
  have y2 : w2.frozen? ⟨w.heap.size, 2, none⟩ = false := by simp [World.frozen?, HD2.out]
  have z3 : w2.cell? ⟨w.heap.size, 3, none⟩ = some (.slice none 0 0) := by simp [World.cell?, HD2.out]
  have y3 : w2.frozen? ⟨w.heap.size, 3, none⟩ = false := by simp [World.frozen?, HD2.out]
  have z4 : w2.cell? ⟨w.heap.size, 4, none⟩ = some (.int .i64 0) := by simp [World.cell?, HD2.out]
  have y4 : w2.frozen? ⟨w.heap.size, 4, none⟩ = false := by simp [World.frozen?, HD2.out]
  have z5 : w2.cell? ⟨w.heap.size, 5, none⟩ = some (.int .i64 0) := by simp [World.cell?, HD2.out]
  have y5 : w2.frozen? ⟨w.heap.size, 5, none⟩ = false := by simp [World.frozen?, HD2.out]
  have z6 : w2.cell? ⟨w.heap.size, 6, none⟩ = some (.slice none 0 0) := by simp [World.cell?, HD2.out]
  have y6 : w2.frozen? ⟨w.heap.size, 6, none⟩ = false := by simp [World.frozen?, HD2.out]
  have z7 : w2.cell? ⟨w.heap.size, 7, none⟩ = some (.slice none 0 0) := by simp [World.cell?, HD2.out]
  have y7 : w2.frozen? ⟨w.heap.size, 7, none⟩ = false := by simp [World.frozen?, HD2.out]
  have z8 : w2.cell? ⟨w.heap.size, 8, none⟩ = some (.slice none 0 0) := by simp [World.cell?, HD2.out]
  have y8 : w2.frozen? ⟨w.heap.size, 8, none⟩ = false := by simp [World.frozen?, HD2.out]
  have z9 : w2.cell? ⟨w.heap.size, 9, none⟩ = some (.int .i64 0) := by simp [World.cell?, HD2.out]
  have y9 : w2.frozen? ⟨w.heap.size, 9, none⟩ = false := by simp [World.frozen?, HD2.out]
  go_wp2_with fail
  exact bodyPost_ret (v := .agg #[.int .i64 3, .int .i64 0, .int .i64 0, .slice none 0 0, .int .i64 0, .int .i64 0, .slice none 0 0, .slice (some ⟨w.heap.size + 1, 0, none⟩) 1 1, .slice (some ⟨w1.heap.size + 1, 0, none⟩) 2 2, .int .i64 0]) (by simp [results, Tryz.f34, go_sem, z0, z1, z2, z3, z4, z5, z6, z7, z8, z9]) rfl
    ⟨_, _, rfl, nat_at ((other_store10 (by omega) _ _ _ _ _ _ _ _ _ _).trans HS2.out) ((other_store10 (by omega) _ _ _ _ _ _ _ _ _ _).trans HA2.out) ((other_store10 (by omega) _ _ _ _ _ _ _ _ _ _).trans HC2.out), G2.out.trans (below_store10 (Nat.le_refl _) _ _ _ _ _ _ _ _ _ _)⟩
end Go.Proofs.YtggefpkfikimiaaGreat
