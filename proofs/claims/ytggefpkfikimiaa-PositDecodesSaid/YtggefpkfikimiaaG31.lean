/- Package posit's takesIdx: as the document says. No conditions but sizes. -/
import Derived.Test.YtggefpkfikimiaaG30
namespace Go.Proofs.Ytggefpkfikimiaa
open Go.RowKit
set_option linter.unusedVariables false

/-- A right term of a size that is borne. -/
def TermR (t : Tm) : Prop := formedB t = true ∧ size t ≤ 6000
theorem termR_clean (b : BlkT) (base : Int) (hb : blkN b ≤ 1048576) (args : List ArgT) (hla : args.length ≤ 1048576) (r : Nat) (hr : r ≤ 1000) {t : Tm} (h : TermR t) : ClP b base args r t :=
  sclean_any b base hb args hla (size t) t (Nat.le_refl _) h.1 r (by have := h.2; omega)
theorem termR_good (b : BlkT) (base : Int) (hb : blkN b ≤ 1048576) (args : List ArgT) (hla : args.length ≤ 1048576) (c r : Nat) (hr : r ≤ 1000) {t : Tm} (h : TermR t) : GdP b base args r c t :=
  sgood_any b base hb args hla c r (size t) t (Nat.le_refl _) h.1 (by have := h.2; omega)
set_option maxRecDepth 100000 in
set_option maxHeartbeats 4000000 in
theorem stakesidx_any (b : BlkT) (base : Int) (hb : blkN b ≤ 1048576) (args : List ArgT) (hla : args.length ≤ 1048576) (r : Nat) (hr0 : r ≤ 1000) (c : Nat) (k : Nat) (hk : k < b.sorts.length) (l : List Tm) (hlk : l.length = b.sorts[k].idx.length) (hl : l.length ≤ 1048576) (hT : ∀ u ∈ l, TermR u)
    (w : World) (vs vc va v : Value) (hA : VAt w b args vs vc va) (hL : At w l v) :
    Calls Try.prog 71 #[.agg #[vs, vc, .int .i64 b.elim, .int .i64 base, va, .int .i64 (r : Int), .int .i64 (c : Int)], .int .i64 (k : Int), v] w fun e w' => e = .returned (.bool (indicesB b base (viewP args r) args (c : Int) (k : Int) l)) ∧ Below w.heap.size w w' := by
  obtain ⟨ps, cs, pc, cc, pa, ca, rfl, rfl, rfl⟩ := hA.shape
  obtain ⟨aL, cL, rfl⟩ := hL.shape
  have O0 := Lib.hid (onew_start w b base args (r : Int) (c : Int) _ _ _ hA)
  have A0 := Lib.hid (hL.bel O0.out.2.2 (Nat.le_refl _))
  have HT := Lib.hid hT
  have HLK := Lib.hid hlk
  have HE0 := Lib.hid (show indicesB b base (viewP args r) args (c : Int) (k : Int) l = idxStep b base (viewP args r) args (c : Int) (b.sorts[k].idx.drop 0) (l.drop 0) by rw [indicesB, sortIdx_at hk]; rfl)
  have hk1 : (k : Int) < (b.sorts.length : Int) := by omega
  have hk0 : (0 : Int) ≤ (k : Int) := by omega
  clear hA hL hT hlk
  go_enter Try.func71, Try.ntmps71
  go_wp2_with fail
  revert O0 A0
  generalize w.alloc (.cells #[.slice ps b.sorts.length cs, .slice pc b.cons.length cc, .int .i64 b.elim, .int .i64 base, .slice pa args.length ca, .int .i64 (r : Int), .int .i64 (c : Int)] 85) = W0
  intro O0 A0
  go_loopw [11] (fun i wr => ∃ j : Nat, j ≤ l.length ∧ i = .int .i64 j ∧ indicesB b base (viewP args r) args (c : Int) (k : Int) l = idxStep b base (viewP args r) args (c : Int) (b.sorts[k].idx.drop j) (l.drop j) ∧ OneW w w.heap.size b base args (r : Int) (c : Int) (.slice ps b.sorts.length cs) (.slice pc b.cons.length cc) (.slice pa args.length ca) wr ∧ At wr l (.slice aL l.length cL)) (fun i _ => l.length - (RowKit.intOf i).toNat)
  case atStart => exact ⟨0, Nat.zero_le _, rfl, HE0.out, O0.out, A0.out⟩
  case round =>
    clear O0 A0 HE0
    obtain ⟨j, hj, rfl, hE, hO, hAX⟩ := hrel
    have OJ := Lib.hid hO
    have AJ := Lib.hid hAX
    have HE := Lib.hid hE
    clear hE hO hAX
    by_cases hlt : j < l.length
    · have hjm : j < b.sorts[k].idx.length := by have := HLK.out; omega
      have hj1 : (j : Int) < (b.sorts[k].idx.length : Int) := by omega
      have hj0 : (0 : Int) ≤ (j : Int) := by omega
      have hw1 : IntKind.i64.wrap ((j : Int) + 1) = ((j + 1 : Nat) : Int) := by rw [IntWalk.i64_in _ (by omega)]; omega
      have HDA := Lib.hid (idx_drop (b := b) (base := base) (vars := viewP args r) (args := args) (c := (c : Int)) hlt hjm)
      have HTJ := Lib.hid (HT.out _ (List.getElem_mem hlt))
      obtain ⟨bX, oX, kX, us, he, hcapX, hcmX, g0, g1, g2, g3⟩ := AJ.out.pos (by omega)
      cases he
      obtain ⟨y0, y1, y2, y3⟩ := And.intro (g0 j hlt) (And.intro (g1 j hlt) (And.intro (g2 j hlt) (g3 j hlt)))
      obtain ⟨au, cu, hau⟩ := y3.shape
      rw [hau] at y2 y3
      have Y3 := Lib.hid y3
      clear g0 g1 g2 g3 hcapX hcmX y3 hau
      go_upto_region 4 with (fail)
      obtain ⟨w4, hw4⟩ : ∃ w4, w4 = wr.alloc (.cells #[.int .i64 l[j].k, .int .i64 l[j].n, .slice au l[j].kids.length cu] 25) := ⟨_, rfl⟩
      have Z4 : Hid (w4.heap[wr.heap.size]? = some (.cells #[.int .i64 l[j].k, .int .i64 l[j].n, .slice au l[j].kids.length cu] 25 (0, 0))) := by unfold Hid; rw [hw4]; exact World.alloc_heap_new wr _
      have B4 : Below wr.heap.size wr w4 := by rw [hw4]; exact below_al _ _
      rw [← hw4]
      have O4 := Lib.hid (OJ.out.bel B4)
      have A4 := Lib.hid (AJ.out.bel B4 (Nat.le_refl _))
      have K4 := Lib.hid (Y3.out.bel B4 (Nat.le_refl _))
      clear hw4 B4 OJ AJ Y3 y0 y1 y2
      obtain ⟨⟨z0, z1, z2⟩, _⟩ := boxc Z4.out
      obtain ⟨x0, x1, x2, x3, x4, x5, x6⟩ := O4.out.cells
      obtain ⟨bS, oS, vx, vt, he, gA, gT, s0, s1, s2, s3, s4, s5⟩ := SRow.at O4.out.2.1.1.1 hk
      cases he
      obtain ⟨pI, cI, rfl⟩ := gA.shape
      obtain ⟨bI, oI, vt2, vd2, vi2, he, t1, t2, t3, i0, i1, i2, i3, i4, i5, i6⟩ := ARow.at gA hjm
      cases he
      clear s1 s2 s3 s4 s5 gT gA t1 t2 t3 i1 i2 i3 i4 i5 i6
      cases hr : b.sorts[k].idx[j].r with
      | true =>
        have hDA := HDA.out
        rw [hr] at hDA i0
        have HG := Lib.hid (termR_good b base hb args hla c r hr0 HTJ.out w4 _ _ _ _ O4.out.2.1 K4.out)
        cases hc : goodB b base (viewP args r) args (c : Int) l[j] with
        | true =>
          rw [hc] at HG
          have HE2 := Lib.hid (HE.out.trans (show _ = idxStep b base (viewP args r) args (c : Int) (b.sorts[k].idx.drop (j + 1)) (l.drop (j + 1)) by rw [hDA]; simp [hc]))
          clear hc HE HDA hDA hr
          go_wp2_with fail
          refine HG.out.mono ?_
          rintro e w5 ⟨rfl, hb5⟩
          have O5 := Lib.hid (O4.out.bel hb5)
          have A5 := Lib.hid (A4.out.bel hb5 (Nat.le_refl _))
          clear hb5 x0 x1 x2 x3 x4 x5 x6 z0 z1 z2 s0 i0 O4 A4 K4 Z4 HG
          go_wp2_with fail
          go_roundw
          case rel => exact ⟨j + 1, by omega, by go_num, HE2.out, O5.out, A5.out⟩
          case measure => simp [RowKit.intOf] <;> omega
        | false =>
          rw [hc] at HG
          have HE2 := Lib.hid (HE.out.trans (show _ = false by rw [hDA]; simp [hc]))
          clear hc HE HDA hDA hr
          go_wp2_with fail
          refine HG.out.mono ?_
          rintro e w5 ⟨rfl, hb5⟩
          have O5 := Lib.hid (O4.out.bel hb5)
          clear hb5 x0 x1 x2 x3 x4 x5 x6 z0 z1 z2 s0 i0 O4 A4 K4 Z4 HG
          go_wp2_with fail
          go_ret
          exact ⟨ret_bool HE2.out.symm, O5.out.2.2⟩
      | false =>
        have hDA := HDA.out
        rw [hr] at hDA i0
        have HG := Lib.hid (termR_clean b base hb args hla r hr0 HTJ.out (c : Int) w4 _ _ _ _ O4.out.2.1 K4.out)
        cases hc : cleanB b base (viewP args r) l[j] with
        | true =>
          rw [hc] at HG
          have HE2 := Lib.hid (HE.out.trans (show _ = idxStep b base (viewP args r) args (c : Int) (b.sorts[k].idx.drop (j + 1)) (l.drop (j + 1)) by rw [hDA]; simp [hc]))
          clear hc HE HDA hDA hr
          go_wp2_with fail
          refine HG.out.mono ?_
          rintro e w5 ⟨rfl, hb5⟩
          have O5 := Lib.hid (O4.out.bel hb5)
          have A5 := Lib.hid (A4.out.bel hb5 (Nat.le_refl _))
          clear hb5 x0 x1 x2 x3 x4 x5 x6 z0 z1 z2 s0 i0 O4 A4 K4 Z4 HG
          go_wp2_with fail
          go_roundw
          case rel => exact ⟨j + 1, by omega, by go_num, HE2.out, O5.out, A5.out⟩
          case measure => simp [RowKit.intOf] <;> omega
        | false =>
          rw [hc] at HG
          have HE2 := Lib.hid (HE.out.trans (show _ = false by rw [hDA]; simp [hc]))
          clear hc HE HDA hDA hr
          go_wp2_with fail
          refine HG.out.mono ?_
          rintro e w5 ⟨rfl, hb5⟩
          have O5 := Lib.hid (O4.out.bel hb5)
          clear hb5 x0 x1 x2 x3 x4 x5 x6 z0 z1 z2 s0 i0 O4 A4 K4 Z4 HG
          go_wp2_with fail
          go_ret
          exact ⟨ret_bool HE2.out.symm, O5.out.2.2⟩
    · obtain rfl : j = l.length := by omega
      go_wp2_with fail
      go_ret
      exact ⟨ret_bool (by rw [HE.out, List.drop_length, idx_nil]), OJ.out.2.2⟩
end Go.Proofs.Ytggefpkfikimiaa
/- Package posit's takesArg: as the document says. No conditions but sizes. -/
namespace Go.Proofs.Ytggefpkfikimiaa
open Go.RowKit
set_option linter.unusedVariables false

/-- What a right block's Args are like. -/
def ArgR (b : BlkT) (a : ArgT) : Prop := if a.r then (∃ k : Nat, a.sort = (k : Int) ∧ ∃ hk : k < b.sorts.length, a.idx.length = b.sorts[k].idx.length) ∧ a.dom.length ≤ 12 ∧ a.idx.length ≤ 1048576 ∧ (∀ u ∈ a.dom, TermR u) ∧ ∀ u ∈ a.idx, TermR u else TermR a.ty
def teleArgV (b : BlkT) (base : Int) (c : Int) (r : Nat) (ahead : List ArgT) (a : ArgT) : Bool := if !a.r then cleanB b base (viewP ahead r) a.ty else domsB b base (viewP ahead r) 0 a.dom && indicesB b base (viewP ahead (r + a.dom.length)) ahead c a.sort a.idx
theorem teleArgV_zero (b : BlkT) (base : Int) (c : Int) (ahead : List ArgT) (a : ArgT) : teleArgV b base c 0 ahead a = teleArg b base c ahead a := by
  rw [teleArgV, teleArg, view_zero, Nat.zero_add, viewP]
theorem doms_at {b : BlkT} {base : Int} {vars : List Int} {l : List Tm} {j : Nat} (h : j < l.length) : domsB b base vars j (l.drop j) = (cleanB b base (moreP vars (j : Int)) l[j] && domsB b base vars (j + 1) (l.drop (j + 1))) := by
  rw [List.drop_eq_getElem_cons h, domsB]
set_option maxRecDepth 100000 in
set_option maxHeartbeats 4000000 in
theorem stakesarg_any (b : BlkT) (base : Int) (hb : blkN b ≤ 1048576) (args : List ArgT) (hla : args.length ≤ 1048576) (r : Nat) (hr : r ≤ 100) (c : Nat) (a : ArgT) (hR : ArgR b a)
    (w : World) (vs vc va vt vd vi : Value) (hA : VAt w b args vs vc va) (h1 : At w a.ty.kids vt) (h2 : At w a.dom vd) (h3 : At w a.idx vi) :
    Calls Try.prog 79 #[.agg #[vs, vc, .int .i64 b.elim, .int .i64 base, va, .int .i64 (r : Int), .int .i64 (c : Int)], .agg #[.bool a.r, .int .i64 a.ty.k, .int .i64 a.ty.n, vt, vd, .int .i64 a.sort, vi]] w fun e w' => e = .returned (.bool (teleArgV b base (c : Int) r args a)) ∧ Below w.heap.size w w' := by
  obtain ⟨ps, cs, pc, cc, pa, ca, rfl, rfl, rfl⟩ := hA.shape
  obtain ⟨p1, c1, rfl⟩ := h1.shape
  obtain ⟨p2, c2, rfl⟩ := h2.shape
  obtain ⟨p3, c3, rfl⟩ := h3.shape
  obtain ⟨w1, hw1⟩ : ∃ w1, w1 = (w.alloc (.cells #[.slice ps b.sorts.length cs, .slice pc b.cons.length cc, .int .i64 b.elim, .int .i64 base, .slice pa args.length ca, .int .i64 (r : Int), .int .i64 (c : Int)] 85)).alloc (.cells #[.bool a.r, .int .i64 a.ty.k, .int .i64 a.ty.n, .slice p1 a.ty.kids.length c1, .slice p2 a.dom.length c2, .int .i64 a.sort, .slice p3 a.idx.length c3] 38) := ⟨_, rfl⟩
  have O1 : Hid (OneW w w.heap.size b base args (r : Int) (c : Int) (.slice ps b.sorts.length cs) (.slice pc b.cons.length cc) (.slice pa args.length ca) w1) := by
    unfold Hid; rw [hw1]
    exact (onew_start w b base args (r : Int) (c : Int) _ _ _ hA).bel (below_al _ _)
  have Z1 : Hid (w1.heap[w.heap.size + 1]? = some (.cells #[.bool a.r, .int .i64 a.ty.k, .int .i64 a.ty.n, .slice p1 a.ty.kids.length c1, .slice p2 a.dom.length c2, .int .i64 a.sort, .slice p3 a.idx.length c3] 38 (0, 0))) := by
    have hn := World.alloc_heap_new (w.alloc (.cells #[.slice ps b.sorts.length cs, .slice pc b.cons.length cc, .int .i64 b.elim, .int .i64 base, .slice pa args.length ca, .int .i64 (r : Int), .int .i64 (c : Int)] 85)) (.cells #[.bool a.r, .int .i64 a.ty.k, .int .i64 a.ty.n, .slice p1 a.ty.kids.length c1, .slice p2 a.dom.length c2, .int .i64 a.sort, .slice p3 a.idx.length c3] 38)
    rw [World.size_alloc] at hn
    unfold Hid
    rw [hw1]
    exact hn
  have HW := Lib.hid hw1
  have H1 := Lib.hid h1
  have H2 := Lib.hid h2
  have H3 := Lib.hid h3
  clear hw1 hA h1 h2 h3
  go_enter Try.func79, Try.ntmps79
  go_upto_region 1 with (fail)
  rw [← HW.out]
  clear HW
  obtain ⟨x0, x1, x2, x3, x4, x5, x6⟩ := O1.out.cells
  obtain ⟨a0, a1, a2, a3, a4, a5, a6⟩ := boxA7 Z1.out
  cases hrec : a.r with
  | false =>
    rw [hrec] at a0
    have HE := Lib.hid (show teleArgV b base (c : Int) r args a = cleanB b base (viewP args r) a.ty by rw [teleArgV, hrec]; rfl)
    rw [ArgR, hrec] at hR
    have HC := Lib.hid (termR_clean b base hb args hla r (by omega) (by simpa using hR) (c : Int) w1 _ _ _ _ O1.out.2.1 (H1.out.bel O1.out.2.2 (Nat.le_refl _)))
    clear hrec hR
    go_wp2_with fail
    refine HC.out.mono ?_
    rintro e w5 ⟨rfl, hb5⟩
    have O5 := Lib.hid (O1.out.bel hb5)
    clear hb5 x0 x1 x2 x3 x4 x5 x6 a0 a1 a2 a3 a4 a5 a6
    go_wp2_with fail
    go_ret
    exact ⟨ret_bool HE.out.symm, O5.out.2.2⟩
  | true =>
    rw [hrec] at a0
    rw [ArgR, hrec, if_pos rfl] at hR
    obtain ⟨⟨k, hks, hk, hil⟩, hdl, hil2, hdR, hiR⟩ := hR
    have HE0 := Lib.hid (show teleArgV b base (c : Int) r args a = (domsB b base (viewP args r) 0 (a.dom.drop 0) && indicesB b base (viewP args (r + a.dom.length)) args (c : Int) a.sort a.idx) by rw [teleArgV, hrec]; rfl)
    have HD := Lib.hid hdR
    have A1 := Lib.hid (H2.out.bel O1.out.2.2 (Nat.le_refl _))
    obtain ⟨r9, hr9⟩ : ∃ r9 : Nat, r9 = r + a.dom.length := ⟨_, rfl⟩
    rw [← hr9] at HE0
    have HI : Hid (∀ W, VAt W b args (.slice ps b.sorts.length cs) (.slice pc b.cons.length cc) (.slice pa args.length ca) → Below w1.heap.size w1 W → Calls Try.prog 71 #[.agg #[.slice ps b.sorts.length cs, .slice pc b.cons.length cc, .int .i64 b.elim, .int .i64 base, .slice pa args.length ca, .int .i64 (r9 : Int), .int .i64 (c : Int)], .int .i64 a.sort, .slice p3 a.idx.length c3] W fun e w' => e = .returned (.bool (indicesB b base (viewP args r9) args (c : Int) a.sort a.idx)) ∧ Below W.heap.size W w') := fun W hv hbw => by
      rw [hks]
      exact stakesidx_any b base hb args hla r9 (by omega) c k hk a.idx hil (by omega) hiR W _ _ _ _ hv ((H3.out.bel O1.out.2.2 (Nat.le_refl _)).bel hbw (Nat.le_refl _))
    have HU9 : Hid (∀ W vs vc va, VAt W b args vs vc va → Calls Try.prog 89 #[.agg #[vs, vc, .int .i64 b.elim, .int .i64 base, va, .int .i64 (r : Int), .int .i64 (c : Int)], .int .i64 (a.dom.length : Int)] W fun e w' => e = .returned (.agg #[vs, vc, .int .i64 b.elim, .int .i64 base, va, .int .i64 (r9 : Int), .int .i64 (c : Int)]) ∧ Below W.heap.size W w') := fun W vs vc va h => by
      have h0 := sunder_any b base args (r : Int) (a.dom.length : Int) (c : Int) (by unfold I64; omega) W vs vc va h
      rw [← Int.natCast_add, ← hr9] at h0
      exact h0
    clear hrec hdR hiR hks hk hil hil2 hr9
    go_wp2_with fail
    clear x0 x1 x2 x3 x4 x5 x6 a0 a1 a2 a3 a4 a5 a6
    go_loopw [17] (fun i wr => ∃ j : Nat, j ≤ a.dom.length ∧ i = .int .i64 j ∧ teleArgV b base (c : Int) r args a = (domsB b base (viewP args r) j (a.dom.drop j) && indicesB b base (viewP args r9) args (c : Int) a.sort a.idx) ∧ OneW w w.heap.size b base args (r : Int) (c : Int) (.slice ps b.sorts.length cs) (.slice pc b.cons.length cc) (.slice pa args.length ca) wr ∧ At wr a.dom (.slice p2 a.dom.length c2) ∧ wr.heap[w.heap.size + 1]? = some (.cells #[.bool a.r, .int .i64 a.ty.k, .int .i64 a.ty.n, .slice p1 a.ty.kids.length c1, .slice p2 a.dom.length c2, .int .i64 a.sort, .slice p3 a.idx.length c3] 38 (0, 0)) ∧ Below w1.heap.size w1 wr) (fun i _ => a.dom.length - (RowKit.intOf i).toNat)
    case atStart => exact ⟨0, Nat.zero_le _, rfl, HE0.out, O1.out, A1.out, Z1.out, Below.refl _ _⟩
    case round =>
      obtain ⟨j, hj, rfl, hE, hO, hAX, hZ, hBB⟩ := hrel
      have OJ := Lib.hid hO
      have AJ := Lib.hid hAX
      have BJ := Lib.hid hZ
      have HE := Lib.hid hE
      have HBB := Lib.hid hBB
      clear hE hO hAX hZ hBB O1 A1 Z1 HE0
      obtain ⟨a0, a1, a2, a3, a4, a5, a6⟩ := boxA7 BJ.out
      by_cases hlt : j < a.dom.length
      · have hj1 : (j : Int) < (a.dom.length : Int) := by omega
        have hj0 : (0 : Int) ≤ (j : Int) := by omega
        have hw1 : IntKind.i64.wrap ((j : Int) + 1) = ((j + 1 : Nat) : Int) := by rw [IntWalk.i64_in _ (by omega)]; omega
        have HDA := Lib.hid (doms_at (b := b) (base := base) (vars := viewP args r) hlt)
        obtain ⟨r2, hr2⟩ : ∃ r2 : Nat, r2 = r + j := ⟨_, rfl⟩
        have HI1 := Lib.hid (termR_clean b base hb args hla r2 (by omega) (HD.out _ (List.getElem_mem hlt)))
        have HU := Lib.hid (fun W vs vc va h => by have h0 := sunder_any b base args (r : Int) (j : Int) (c : Int) (by unfold I64; omega) W vs vc va h; rw [← Int.natCast_add, ← hr2] at h0; exact h0)
        have hcv : viewP args r2 = moreP (viewP args r) (j : Int) := by rw [hr2, view_more]
        obtain ⟨bX, oX, kX, us, he, hcapX, hcmX, g0, g1, g2, g3⟩ := AJ.out.pos (by omega)
        cases he
        obtain ⟨y0, y1, y2, y3⟩ := And.intro (g0 j hlt) (And.intro (g1 j hlt) (And.intro (g2 j hlt) (g3 j hlt)))
        obtain ⟨au, cu, hau⟩ := y3.shape
        rw [hau] at y2 y3
        have Y3 := Lib.hid y3
        clear g0 g1 g2 g3 hcapX hcmX y3 hau hr2
        go_upto_region 6 with (fail)
        obtain ⟨w4, hw4⟩ : ∃ w4, w4 = wr.alloc (.cells #[.int .i64 a.dom[j].k, .int .i64 a.dom[j].n, .slice au a.dom[j].kids.length cu] 25) := ⟨_, rfl⟩
        have Z4 : Hid (w4.heap[wr.heap.size]? = some (.cells #[.int .i64 a.dom[j].k, .int .i64 a.dom[j].n, .slice au a.dom[j].kids.length cu] 25 (0, 0))) := by unfold Hid; rw [hw4]; exact World.alloc_heap_new wr _
        have B4 : Below wr.heap.size wr w4 := by rw [hw4]; exact below_al _ _
        rw [← hw4]
        have O4 := Lib.hid (OJ.out.bel B4)
        have A4 := Lib.hid (AJ.out.bel B4 (Nat.le_refl _))
        have K4 := Lib.hid (Y3.out.bel B4 (Nat.le_refl _))
        have BB4 := Lib.hid (HBB.out.trans (B4.mono HBB.out.size))
        have BZ4 := Lib.hid ((B4.block _ (Array.getElem?_eq_some_iff.1 BJ.out).1).trans BJ.out)
        clear hw4 B4 OJ AJ Y3 BJ HBB y0 y1 y2
        cases hc : cleanB b base (viewP args r2) a.dom[j] with
        | true =>
          have HI2 := Lib.hid (fun c W vs vc va v h1 h2 => by have h := HI1.out c W vs vc va v h1 h2; rw [hc] at h; exact h)
          rw [hcv] at hc
          have HE2 := Lib.hid (HE.out.trans (show _ = (domsB b base (viewP args r) (j + 1) (a.dom.drop (j + 1)) && indicesB b base (viewP args r9) args (c : Int) a.sort a.idx) by rw [HDA.out, hc, Bool.true_and]))
          clear hc HI1 HE HDA hcv
          go_wp2_with fail
          clear a0 a1 a2 a3 a4 a5 a6
          refine wp_region_rel (by kernel_rfl) (by kernel_rfl) (by kernel_rfl) ?_
          apply RelWalk.rest
          · kernel_rfl
          · intro X0 _ W hW hcl
            obtain ⟨x0, x1, x2, x3, x4, x5, x6⟩ := O4.out.cells
            have r0 := fun q => gcell (hW q) x0
            have r1 := fun q => gcell (hW q) x1
            have r2 := fun q => gcell (hW q) x2
            have r3 := fun q => gcell (hW q) x3
            have r4 := fun q => gcell (hW q) x4
            have r5 := fun q => gcell (hW q) x5
            have r6 := fun q => gcell (hW q) x6
            obtain ⟨⟨z0, z1, z2⟩, _⟩ := boxc Z4.out
            have q0 := fun q => gcell (hW q) z0
            have q1 := fun q => gcell (hW q) z1
            have q2 := fun q => gcell (hW q) z2
            have dU := Lib.hid (fun q => into hcl (HU.out (W q) _ _ _ (O4.out.2.1.bel (hW q))))
            have dC := Lib.hid (fun q => into hcl (HI2.out (c : Int) (W q) _ _ _ _ (O4.out.2.1.bel (hW q)) (K4.out.bel (hW q) (Nat.le_refl _))))
            clear x0 x1 x2 x3 x4 x5 x6 z0 z1 z2
            repeat (go_big_quiet_step (first | (with_reducible exact dU.out _) | (with_reducible exact dC.out _)))
            exact wpQuiet_nil rfl
          intro gq w8 hg8 _
          simp only [Spread]
          have O8 := Lib.hid (O4.out.bel hg8)
          have A8 := Lib.hid (A4.out.bel hg8 (Nat.le_refl _))
          have BB8 := Lib.hid (BB4.out.trans (hg8.mono BB4.out.size))
          have BZ8 := Lib.hid ((hg8.block _ (Array.getElem?_eq_some_iff.1 BZ4.out).1).trans BZ4.out)
          clear hg8 O4 A4 K4 Z4 BB4 BZ4
          go_wp2_with fail
          go_roundw
          case rel => exact ⟨j + 1, by omega, by go_num, HE2.out, O8.out, A8.out, BZ8.out, BB8.out⟩
          case measure => simp [RowKit.intOf] <;> omega
        | false =>
          have HI2 := Lib.hid (fun c W vs vc va v h1 h2 => by have h := HI1.out c W vs vc va v h1 h2; rw [hc] at h; exact h)
          rw [hcv] at hc
          have HE2 := Lib.hid (HE.out.trans (show _ = false by rw [HDA.out, hc, Bool.false_and, Bool.false_and]))
          clear hc HI1 HE HDA hcv
          go_wp2_with fail
          clear a0 a1 a2 a3 a4 a5 a6
          refine wp_region_rel (by kernel_rfl) (by kernel_rfl) (by kernel_rfl) ?_
          apply RelWalk.rest
          · kernel_rfl
          · intro X0 _ W hW hcl
            obtain ⟨x0, x1, x2, x3, x4, x5, x6⟩ := O4.out.cells
            have r0 := fun q => gcell (hW q) x0
            have r1 := fun q => gcell (hW q) x1
            have r2 := fun q => gcell (hW q) x2
            have r3 := fun q => gcell (hW q) x3
            have r4 := fun q => gcell (hW q) x4
            have r5 := fun q => gcell (hW q) x5
            have r6 := fun q => gcell (hW q) x6
            obtain ⟨⟨z0, z1, z2⟩, _⟩ := boxc Z4.out
            have q0 := fun q => gcell (hW q) z0
            have q1 := fun q => gcell (hW q) z1
            have q2 := fun q => gcell (hW q) z2
            have dU := Lib.hid (fun q => into hcl (HU.out (W q) _ _ _ (O4.out.2.1.bel (hW q))))
            have dC := Lib.hid (fun q => into hcl (HI2.out (c : Int) (W q) _ _ _ _ (O4.out.2.1.bel (hW q)) (K4.out.bel (hW q) (Nat.le_refl _))))
            clear x0 x1 x2 x3 x4 x5 x6 z0 z1 z2
            repeat (go_big_quiet_step (first | (with_reducible exact dU.out _) | (with_reducible exact dC.out _)))
            exact wpQuiet_nil rfl
          intro gq w8 hg8 _
          simp only [Spread]
          have O8 := Lib.hid (O4.out.bel hg8)
          clear hg8 O4 A4 K4 Z4
          go_wp2_with fail
          go_ret
          exact ⟨ret_bool HE2.out.symm, O8.out.2.2⟩
      · obtain rfl : j = a.dom.length := by omega
        have HE2 := Lib.hid (HE.out.trans (show _ = indicesB b base (viewP args r9) args (c : Int) a.sort a.idx by rw [List.drop_length]; rfl))
        have HI := Lib.hid (fun W h (hb : Below wr.heap.size wr W) => HI.out W h (HBB.out.trans (hb.mono HBB.out.size)))
        have HU := Lib.hid HU9.out
        revert HE2 HI
        generalize indicesB b base (viewP args r9) args (c : Int) a.sort a.idx = RES
        intro HE2 HI
        clear HE HD
        go_wp2_with fail
        clear a0 a1 a2 a3 a4 a5 a6
        refine wp_region_rel (by kernel_rfl) (by kernel_rfl) (by kernel_rfl) ?_
        apply RelWalk.rest
        · kernel_rfl
        · intro X0 _ W hW hcl
          obtain ⟨x0, x1, x2, x3, x4, x5, x6⟩ := OJ.out.cells
          have r0 := fun q => gcell (hW q) x0
          have r1 := fun q => gcell (hW q) x1
          have r2 := fun q => gcell (hW q) x2
          have r3 := fun q => gcell (hW q) x3
          have r4 := fun q => gcell (hW q) x4
          have r5 := fun q => gcell (hW q) x5
          have r6 := fun q => gcell (hW q) x6
          obtain ⟨a0, a1, a2, a3, a4, a5, a6⟩ := boxA7 BJ.out
          have q2 := fun q => gcell (hW q) a4
          have q3 := fun q => gcell (hW q) a5
          have q4 := fun q => gcell (hW q) a6
          have dU := Lib.hid (fun q => into hcl (HU.out (W q) _ _ _ (OJ.out.2.1.bel (hW q))))
          have dC := Lib.hid (fun q => into hcl (HI.out (W q) (OJ.out.2.1.bel (hW q)) (hW q)))
          clear x0 x1 x2 x3 x4 x5 x6 a0 a1 a2 a3 a4 a5 a6
          repeat (go_big_quiet_step (first | (with_reducible exact dU.out _) | (with_reducible exact dC.out _)))
          exact wpQuiet_nil rfl
        intro gq w8 hg8 _
        simp only [Spread]
        have O8 := Lib.hid (OJ.out.bel hg8)
        clear hg8
        go_wp2_with fail
        go_ret
        exact ⟨ret_bool HE2.out.symm, O8.out.2.2⟩
end Go.Proofs.Ytggefpkfikimiaa
/- Package posit's takesArgs: as the document says. No conditions but sizes. -/
namespace Go.Proofs.Ytggefpkfikimiaa
open Go.RowKit
set_option linter.unusedVariables false

def teleFromV (b : BlkT) (base c : Int) (r : Nat) : List ArgT → List ArgT → Bool | _, [] => true | ahead, a :: l => teleArgV b base c r ahead a && teleFromV b base c r (ahead ++ [a]) l
theorem teleFromV_zero (b : BlkT) (base c : Int) : ∀ (l ahead : List ArgT), teleFromV b base c 0 ahead l = teleFrom b base c ahead l
  | [], _ => rfl
  | a :: l, ahead => by rw [teleFromV, teleFrom, teleArgV_zero, teleFromV_zero b base c l]
theorem teleV_at {b : BlkT} {base c : Int} {r : Nat} {l : List ArgT} {j : Nat} (h : j < l.length) : teleFromV b base c r (l.take j) (l.drop j) = (teleArgV b base c r (l.take j) l[j] && teleFromV b base c r (l.take (j + 1)) (l.drop (j + 1))) := by
  rw [List.drop_eq_getElem_cons h, teleFromV, List.take_succ_eq_append_getElem h]
theorem ARow.high {w : World} {l : List ArgT} {a : Option Addr} {cap : Nat} (h : ARow w l (.slice a l.length cap)) {k : Nat} (hk : k ≤ l.length) : ARow w (l.take k) (.slice a k cap) := by
  cases a with
  | some a => exact GAt.take h hk
  | none =>
    have h0 : l.length = 0 := by
      by_cases h1 : 0 < l.length
      · obtain ⟨b, off, cap2, cs, e, _⟩ := h.pos h1
        cases e
      · omega
    have hl : l = [] := List.eq_nil_of_length_eq_zero h0
    subst hl
    obtain rfl : k = 0 := by simpa using hk
    exact h
theorem ARow.cap {w : World} {l : List ArgT} {a : Option Addr} {cap : Nat} (h : ARow w l (.slice a l.length cap)) : l.length ≤ cap := by
  by_cases h1 : 0 < l.length
  · obtain ⟨b, off, cap2, cs, e, h2, _⟩ := h.pos h1
    cases e
    exact h2
  · omega
set_option maxRecDepth 100000 in
set_option maxHeartbeats 4000000 in
theorem stakesargs_any (b : BlkT) (base : Int) (hb : blkN b ≤ 1048576) (args : List ArgT) (r : Nat) (hr : r ≤ 100) (c : Nat) (l : List ArgT) (hl : l.length ≤ 1048576) (hR : ∀ a ∈ l, ArgR b a)
    (w : World) (vs vc va vl : Value) (hA : VAt w b args vs vc va) (hL : ARow w l vl) :
    Calls Try.prog 68 #[.agg #[vs, vc, .int .i64 b.elim, .int .i64 base, va, .int .i64 (r : Int), .int .i64 (c : Int)], vl] w fun e w' => e = .returned (.bool (teleFromV b base (c : Int) r [] l)) ∧ Below w.heap.size w w' := by
  obtain ⟨ps, cs, pc, cc, pa, ca, rfl, rfl, rfl⟩ := hA.shape
  obtain ⟨aL, cL, rfl⟩ := hL.shape
  have O0 := Lib.hid (onew_start w b base args (r : Int) (c : Int) _ _ _ hA)
  have A0 := Lib.hid (ARow.bel O0.out.2.2 hL)
  have HR := Lib.hid hR
  have HE0 := Lib.hid (show teleFromV b base (c : Int) r [] l = teleFromV b base (c : Int) r (l.take 0) (l.drop 0) from rfl)
  clear hA hL hR
  go_enter Try.func68, Try.ntmps68
  go_wp2_with fail
  revert O0 A0
  generalize w.alloc (.cells #[.slice ps b.sorts.length cs, .slice pc b.cons.length cc, .int .i64 b.elim, .int .i64 base, .slice pa args.length ca, .int .i64 (r : Int), .int .i64 (c : Int)] 85) = W0
  intro O0 A0
  go_loopw [9] (fun i wr => ∃ j : Nat, j ≤ l.length ∧ i = .int .i64 j ∧ teleFromV b base (c : Int) r [] l = teleFromV b base (c : Int) r (l.take j) (l.drop j) ∧ OneW w w.heap.size b base args (r : Int) (c : Int) (.slice ps b.sorts.length cs) (.slice pc b.cons.length cc) (.slice pa args.length ca) wr ∧ ARow wr l (.slice aL l.length cL)) (fun i _ => l.length - (RowKit.intOf i).toNat)
  case atStart => exact ⟨0, Nat.zero_le _, rfl, HE0.out, O0.out, A0.out⟩
  case round =>
    clear O0 A0 HE0
    obtain ⟨j, hj, rfl, hE, hO, hAX⟩ := hrel
    have OJ := Lib.hid hO
    have AJ := Lib.hid hAX
    have HE := Lib.hid hE
    clear hE hO hAX
    by_cases hlt : j < l.length
    · have hj1 : (j : Int) < (l.length : Int) := by omega
      have hj0 : (0 : Int) ≤ (j : Int) := by omega
      have hj2 : (j : Int) ≤ (cL : Int) := by have := ARow.cap AJ.out; omega
      have hj3 : (j : Int) ≤ (l.length : Int) := by omega
      have hw1 : IntKind.i64.wrap ((j : Int) + 1) = ((j + 1 : Nat) : Int) := by rw [IntWalk.i64_in _ (by omega)]; omega
      have HDA := Lib.hid (teleV_at (b := b) (base := base) (c := (c : Int)) (r := r) hlt)
      obtain ⟨bA, oA, vt, vd, vi, he, t1, t2, t3, m0, m1, m2, m3, m4, m5, m6⟩ := ARow.at AJ.out hlt
      cases he
      obtain ⟨p1, c1, rfl⟩ := t1.shape
      obtain ⟨p2, c2, rfl⟩ := t2.shape
      obtain ⟨p3, c3, rfl⟩ := t3.shape
      have TT := Lib.hid (And.intro t1 (And.intro t2 t3))
      clear t1 t2 t3
      go_upto_region 4 with (fail)
      obtain ⟨w4, hw4⟩ : ∃ w4, w4 = wr.alloc (.cells #[.bool l[j].r, .int .i64 l[j].ty.k, .int .i64 l[j].ty.n, .slice p1 l[j].ty.kids.length c1, .slice p2 l[j].dom.length c2, .int .i64 l[j].sort, .slice p3 l[j].idx.length c3] 38) := ⟨_, rfl⟩
      have Z4 : Hid (w4.heap[wr.heap.size]? = some (.cells #[.bool l[j].r, .int .i64 l[j].ty.k, .int .i64 l[j].ty.n, .slice p1 l[j].ty.kids.length c1, .slice p2 l[j].dom.length c2, .int .i64 l[j].sort, .slice p3 l[j].idx.length c3] 38 (0, 0))) := by unfold Hid; rw [hw4]; exact World.alloc_heap_new wr _
      have B4 : Below wr.heap.size wr w4 := by rw [hw4]; exact below_al _ _
      rw [← hw4]
      have O4 := Lib.hid (OJ.out.bel B4)
      have A4 := Lib.hid (ARow.bel B4 AJ.out)
      have HTK := Lib.hid (ARow.high A4.out (k := j) (by omega))
      have HU := Lib.hid (fun W (hbw : Below w4.heap.size w4 W) => sbehind_any b base args (l.take j) (r : Int) (c : Int) W _ _ _ _ (O4.out.2.1.bel hbw) (ARow.bel hbw HTK.out))
      have HG := Lib.hid (fun W (hbw : Below w4.heap.size w4 W) => stakesarg_any b base hb (l.take j) (by rw [List.length_take]; omega) r hr c l[j] (HR.out _ (List.getElem_mem hlt)) W _ _ _ _ _ _ ⟨(O4.out.2.1.bel hbw).1, ARow.bel hbw HTK.out⟩ ((TT.out.1.bel B4 (Nat.le_refl _)).bel hbw (Nat.le_refl _)) ((TT.out.2.1.bel B4 (Nat.le_refl _)).bel hbw (Nat.le_refl _)) ((TT.out.2.2.bel B4 (Nat.le_refl _)).bel hbw (Nat.le_refl _)))
      clear hw4 B4 OJ AJ TT m0 m1 m2 m3 m4 m5 m6
      cases hc : teleArgV b base (c : Int) r (l.take j) l[j] with
      | true =>
        have HI2 := Lib.hid (fun W hb => by have h := HG.out W hb; rw [hc] at h; exact h)
        have HE2 := Lib.hid (HE.out.trans (show _ = teleFromV b base (c : Int) r (l.take (j + 1)) (l.drop (j + 1)) by rw [HDA.out, hc, Bool.true_and]))
        clear hc HE HDA HG
        go_wp2_with fail
        refine wp_region_rel (by kernel_rfl) (by kernel_rfl) (by kernel_rfl) ?_
        apply RelWalk.rest
        · kernel_rfl
        · intro X0 _ W hW hcl
          obtain ⟨x0, x1, x2, x3, x4, x5, x6⟩ := O4.out.cells
          have r0 := fun q => gcell (hW q) x0
          have r1 := fun q => gcell (hW q) x1
          have r2 := fun q => gcell (hW q) x2
          have r3 := fun q => gcell (hW q) x3
          have r4 := fun q => gcell (hW q) x4
          have r5 := fun q => gcell (hW q) x5
          have r6 := fun q => gcell (hW q) x6
          obtain ⟨z0, z1, z2, z3, z4, z5, z6⟩ := boxA7 Z4.out
          have q0 := fun q => gcell (hW q) z0
          have q1 := fun q => gcell (hW q) z1
          have q2 := fun q => gcell (hW q) z2
          have q3 := fun q => gcell (hW q) z3
          have q4 := fun q => gcell (hW q) z4
          have q5 := fun q => gcell (hW q) z5
          have q6 := fun q => gcell (hW q) z6
          have dU := Lib.hid (fun q => into hcl (HU.out (W q) (hW q)))
          have dC := Lib.hid (fun q => into hcl (HI2.out (W q) (hW q)))
          clear x0 x1 x2 x3 x4 x5 x6 z0 z1 z2 z3 z4 z5 z6
          repeat (go_big_quiet_step (first | (with_reducible exact dU.out _) | (with_reducible exact dC.out _)))
          exact wpQuiet_nil rfl
        intro gq w8 hg8 _
        simp only [Spread]
        have O8 := Lib.hid (O4.out.bel hg8)
        have A8 := Lib.hid (ARow.bel hg8 A4.out)
        clear hg8 O4 A4 HTK Z4
        go_wp2_with fail
        go_roundw
        case rel => exact ⟨j + 1, by omega, by go_num, HE2.out, O8.out, A8.out⟩
        case measure => simp [RowKit.intOf] <;> omega
      | false =>
        have HI2 := Lib.hid (fun W hb => by have h := HG.out W hb; rw [hc] at h; exact h)
        have HE2 := Lib.hid (HE.out.trans (show _ = false by rw [HDA.out, hc, Bool.false_and]))
        clear hc HE HDA HG
        go_wp2_with fail
        refine wp_region_rel (by kernel_rfl) (by kernel_rfl) (by kernel_rfl) ?_
        apply RelWalk.rest
        · kernel_rfl
        · intro X0 _ W hW hcl
          obtain ⟨x0, x1, x2, x3, x4, x5, x6⟩ := O4.out.cells
          have r0 := fun q => gcell (hW q) x0
          have r1 := fun q => gcell (hW q) x1
          have r2 := fun q => gcell (hW q) x2
          have r3 := fun q => gcell (hW q) x3
          have r4 := fun q => gcell (hW q) x4
          have r5 := fun q => gcell (hW q) x5
          have r6 := fun q => gcell (hW q) x6
          obtain ⟨z0, z1, z2, z3, z4, z5, z6⟩ := boxA7 Z4.out
          have q0 := fun q => gcell (hW q) z0
          have q1 := fun q => gcell (hW q) z1
          have q2 := fun q => gcell (hW q) z2
          have q3 := fun q => gcell (hW q) z3
          have q4 := fun q => gcell (hW q) z4
          have q5 := fun q => gcell (hW q) z5
          have q6 := fun q => gcell (hW q) z6
          have dU := Lib.hid (fun q => into hcl (HU.out (W q) (hW q)))
          have dC := Lib.hid (fun q => into hcl (HI2.out (W q) (hW q)))
          clear x0 x1 x2 x3 x4 x5 x6 z0 z1 z2 z3 z4 z5 z6
          repeat (go_big_quiet_step (first | (with_reducible exact dU.out _) | (with_reducible exact dC.out _)))
          exact wpQuiet_nil rfl
        intro gq w8 hg8 _
        simp only [Spread]
        have O8 := Lib.hid (O4.out.bel hg8)
        clear hg8 O4 A4 HTK Z4
        go_wp2_with fail
        go_ret
        exact ⟨ret_bool HE2.out.symm, O8.out.2.2⟩
    · obtain rfl : j = l.length := by omega
      go_wp2_with fail
      go_ret
      exact ⟨ret_bool (by rw [HE.out, List.drop_length]; rfl), OJ.out.2.2⟩
end Go.Proofs.Ytggefpkfikimiaa
