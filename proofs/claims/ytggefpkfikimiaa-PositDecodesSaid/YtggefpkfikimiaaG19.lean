/- The page's con: a right Con of a block. No conditions but sizes. -/
import Derived.Test.YtggefpkfikimiaaG18
namespace Go.Proofs.Ytggefpkfikimiaa
open Go.RowKit
set_option linter.unusedVariables false

def conCells (c : ConT) (va vi vt : Value) : Array Value := #[.int .i64 c.sort, va, vi, .int .i64 c.dec.k, .int .i64 c.dec.n, vt]
def OneC (B1 : Nat) (c : ConT) (va vi vt : Value) (W : World) : Prop := W.heap[B1]? = some (.cells (conCells c va vi vt) 35 (0, 0)) ∧ ARow W c.args va ∧ At W c.idx vi ∧ At W c.dec.kids vt
theorem OneC.bel {B1 : Nat} {c : ConT} {va vi vt : Value} {W W' : World} (h : OneC B1 c va vi vt W) (hb : Below W.heap.size W W') : OneC B1 c va vi vt W' :=
  ⟨(hb.block B1 (Array.getElem?_eq_some_iff.1 h.1).1).trans h.1, ARow.bel hb h.2.1, h.2.2.1.bel hb (Nat.le_refl _), h.2.2.2.bel hb (Nat.le_refl _)⟩
theorem OneC.cells {B1 : Nat} {c : ConT} {va vi vt : Value} {W : World} (h : OneC B1 c va vi vt W) : W.cell? ⟨B1, 0, none⟩ = some (.int .i64 c.sort) ∧ W.cell? ⟨B1, 1, none⟩ = some va ∧ W.cell? ⟨B1, 2, none⟩ = some vi ∧ W.cell? ⟨B1, 3, none⟩ = some (.int .i64 c.dec.k) ∧ W.cell? ⟨B1, 4, none⟩ = some (.int .i64 c.dec.n) ∧ W.cell? ⟨B1, 5, none⟩ = some vt := by
  have h1 := h.1
  unfold conCells at h1
  refine ⟨?_, ?_, ?_, ?_, ?_, ?_⟩ <;> simp [World.cell?, h1]
theorem argsOk_drop {b : BlkT} {l : List ArgT} {j : Nat} (h : j < l.length) : argsOk b (l.drop j) (j : Int) = (argOk b l[j] (j : Int) && argsOk b (l.drop (j + 1)) ((j + 1 : Nat) : Int)) := by
  rw [List.drop_eq_getElem_cons h, argsOk, show (j : Int) + 1 = ((j + 1 : Nat) : Int) by omega]
def decOk (b : BlkT) (c : ConT) : Bool := if hasDec b c.sort then openT c.dec c.args.length else noneT c.dec
set_option maxRecDepth 100000 in
set_option maxHeartbeats 8000000 in
theorem rcon_any (b : BlkT) (c : ConT) (hs : conN c ≤ 1048576) (hsb : blkN b ≤ 1048576) (hF : c.fits) (w : World) (vs vc va vi vt : Value) (hB : BAt w b vs vc) (hA : ARow w c.args va) (hI : At w c.idx vi) (hT : At w c.dec.kids vt) :
    Calls Try.prog 52 #[.agg #[vs, vc, .int .i64 b.elim], .agg #[.int .i64 c.sort, va, vi, .int .i64 c.dec.k, .int .i64 c.dec.n, vt]] w fun e w' => e = .returned (.bool (conOk b c)) ∧ Below w.heap.size w w' := by
  obtain ⟨ps, cs, pc, cc, rfl, rfl⟩ := hB.shape
  obtain ⟨pa, ca, rfl⟩ := hA.shape
  obtain ⟨pi, ci, rfl⟩ := hI.shape
  obtain ⟨pt, ct, rfl⟩ := hT.shape
  have hls := sortsN_len b.sorts
  have hbn : blkN b = sortsN b.sorts + consN b.cons + 1 := rfl
  have hn : conN c = argsN c.args + sizeL c.idx + size c.dec + 1 := rfl
  have hla := argsN_len c.args
  have hli := length_le_sizeL c.idx
  obtain ⟨hFs, hFa, hFi, hFd⟩ := hF
  have hO0 := oneb_start w b _ _ hB
  have hb1 := below_al (w.alloc (.cells #[.slice ps b.sorts.length cs, .slice pc b.cons.length cc, .int .i64 b.elim] 33)) (.cells (conCells c (.slice pa c.args.length ca) (.slice pi c.idx.length ci) (.slice pt c.dec.kids.length ct)) 35)
  have OB := Lib.hid (hO0.bel hb1)
  have hbb := hO0.2.2.trans (hb1.mono hO0.2.2.size)
  have hnew := World.alloc_heap_new (w.alloc (.cells #[.slice ps b.sorts.length cs, .slice pc b.cons.length cc, .int .i64 b.elim] 33)) (.cells (conCells c (.slice pa c.args.length ca) (.slice pi c.idx.length ci) (.slice pt c.dec.kids.length ct)) 35)
  rw [World.size_alloc] at hnew
  have OC : Hid (OneC (w.heap.size + 1) c (.slice pa c.args.length ca) (.slice pi c.idx.length ci) (.slice pt c.dec.kids.length ct) ((w.alloc (.cells #[.slice ps b.sorts.length cs, .slice pc b.cons.length cc, .int .i64 b.elim] 33)).alloc (.cells (conCells c (.slice pa c.args.length ca) (.slice pi c.idx.length ci) (.slice pt c.dec.kids.length ct)) 35))) :=
    ⟨hnew, ARow.bel hbb hA, hI.bel hbb (Nat.le_refl _), hT.bel hbb (Nat.le_refl _)⟩
  clear hB hA hT hI hO0 hb1 hbb hnew
  unfold conCells at OB OC
  obtain ⟨W0, hW0⟩ : ∃ W0, W0 = (w.alloc (.cells #[.slice ps b.sorts.length cs, .slice pc b.cons.length cc, .int .i64 b.elim] 33)).alloc (.cells #[.int .i64 c.sort, .slice pa c.args.length ca, .slice pi c.idx.length ci, .int .i64 c.dec.k, .int .i64 c.dec.n, .slice pt c.dec.kids.length ct] 35) := ⟨_, rfl⟩
  rw [← hW0] at OB OC
  have HW0 := Lib.hid hW0
  have RA : Hid (∀ j (h : j < c.args.length) W vs vc vt vd vi, BAt W b vs vc → At W c.args[j].ty.kids vt → At W c.args[j].dom vd → At W c.args[j].idx vi → Calls Try.prog 49 #[.agg #[vs, vc, .int .i64 b.elim], .agg #[.bool c.args[j].r, .int .i64 c.args[j].ty.k, .int .i64 c.args[j].ty.n, vt, vd, .int .i64 c.args[j].sort, vi], .int .i64 (j : Int)] W fun e w' => e = .returned (.bool (argOk b c.args[j] (j : Int))) ∧ Below W.heap.size W w') :=
    fun j h W vs vc vt vd vi h1 h2 h3 h4 => rarg_any b c.args[j] (by have := argN_le (List.getElem_mem h); omega) hsb (hFa _ (List.getElem_mem h)) (j : Int) (by omega) (by omega) W vs vc vt vd vi h1 h2 h3 h4
  have RI : Hid (∀ j (h : j < c.idx.length) x W v, At W c.idx[j].kids v → Calls Try.prog 50 #[.agg #[.int .i64 c.idx[j].k, .int .i64 c.idx[j].n, v], .int .i64 x] W fun e w' => e = .returned (.bool (openT c.idx[j] x)) ∧ Below W.heap.size W w') := fun j h x W v hA => ropen_any c.idx[j] (Fits.get hFi h) (by have := size_get h; omega) x W v hA
  have RO := Lib.hid (fun W hA => ropen_any c.dec hFd (by omega) (c.args.length : Int) W (.slice pt c.dec.kids.length ct) hA)
  have RN := Lib.hid (fun W hA => rnone_any c.dec W (.slice pt c.dec.kids.length ct) hA)
  have RZ := Lib.hid (fun W => rin7_any c.sort 0 ((b.sorts.length : Int) - 1) W)
  have hal : c.args.length ≤ 1048576 := by omega
  have hil : c.idx.length ≤ 1048576 := by omega
  have hsl : b.sorts.length ≤ 1048576 := by omega
  have hwn : IntKind.i64.wrap ((b.sorts.length : Int) - 1) = (b.sorts.length : Int) - 1 := IntWalk.i64_in _ (by omega)
  clear hW0 hFi hFa hFd hls hbn hn hla hli hs hsb
  have HC : Hid (conOk b c = (inZ c.sort 0 ((b.sorts.length : Int) - 1) && decide (c.args.length ≤ 12) && decide ((c.idx.length : Int) = idxLen b c.sort) && argsOk b c.args 0 && opensAll c.idx c.args.length && decOk b c)) := rfl
  cases h3 : inZ c.sort 0 ((b.sorts.length : Int) - 1) with
  | false =>
    rw [h3] at RZ
    have HE : Hid (conOk b c = false) := by unfold Hid; rw [HC.out, h3]; simp
    clear h3
    go_enter Try.func52, Try.ntmps52
    go_upto_region 1 with (fail)
    rw [← HW0.out]
    refine wp_region_rel (by kernel_rfl) (by kernel_rfl) (by kernel_rfl) ?_
    apply RelWalk.rest
    · kernel_rfl
    · intro X _ W hW hcl
      obtain ⟨x0, x1, x2, x3, x4, x5⟩ := OC.out.cells
      obtain ⟨y0, y1, y2⟩ := OB.out.cells
      have rP0 := fun q => gcell (hW q) x0
      have rP1 := fun q => gcell (hW q) x1
      have rP2 := fun q => gcell (hW q) x2
      have rP3 := fun q => gcell (hW q) x3
      have rP4 := fun q => gcell (hW q) x4
      have rP5 := fun q => gcell (hW q) x5
      have rQ0 := fun q => gcell (hW q) y0
      have rQ1 := fun q => gcell (hW q) y1
      have rQ2 := fun q => gcell (hW q) y2
      clear x0 x1 x2 x3 x4 x5 y0 y1 y2
      have d0 := Lib.hid (fun q => intoSame (X := X) (W := W) (q := q) ((RZ.out (W q)).mono fun e w' h => ⟨h.1, h.2.symm⟩))
      repeat (go_big_quiet_step (first | (with_reducible exact d0.out _)))
      exact wpQuiet_nil rfl
    intro gq w5 hg _
    have O5 := Lib.hid (OB.out.bel hg)
    have C5 := Lib.hid (OC.out.bel hg)
    clear hg
    simp only [Spread]
    go_wp2_with fail
    go_ret
    exact ⟨ret_bool HE.out.symm, O5.out.2.2⟩
  | true =>
    rw [h3] at RZ
    by_cases h2 : c.args.length ≤ 12
    rotate_left
    · have q2 : decide ((12 : Int) < (c.args.length : Int)) = true := by simp; omega
      have HE : Hid (conOk b c = false) := by unfold Hid; rw [HC.out, decide_eq_false h2]; simp
      clear h2 h3
      go_enter Try.func52, Try.ntmps52
      go_upto_region 1 with (fail)
      rw [← HW0.out]
      refine wp_region_rel (by kernel_rfl) (by kernel_rfl) (by kernel_rfl) ?_
      apply RelWalk.rest
      · kernel_rfl
      · intro X _ W hW hcl
        obtain ⟨x0, x1, x2, x3, x4, x5⟩ := OC.out.cells
        obtain ⟨y0, y1, y2⟩ := OB.out.cells
        have rP0 := fun q => gcell (hW q) x0
        have rP1 := fun q => gcell (hW q) x1
        have rP2 := fun q => gcell (hW q) x2
        have rP3 := fun q => gcell (hW q) x3
        have rP4 := fun q => gcell (hW q) x4
        have rP5 := fun q => gcell (hW q) x5
        have rQ0 := fun q => gcell (hW q) y0
        have rQ1 := fun q => gcell (hW q) y1
        have rQ2 := fun q => gcell (hW q) y2
        clear x0 x1 x2 x3 x4 x5 y0 y1 y2
        have d0 := Lib.hid (fun q => intoSame (X := X) (W := W) (q := q) ((RZ.out (W q)).mono fun e w' h => ⟨h.1, h.2.symm⟩))
        repeat (go_big_quiet_step (first | (with_reducible exact d0.out _)))
        exact wpQuiet_nil rfl
      intro gq w5 hg _
      have O5 := Lib.hid (OB.out.bel hg)
      have C5 := Lib.hid (OC.out.bel hg)
      clear hg
      simp only [Spread]
      go_wp2_with fail
      go_ret
      exact ⟨ret_bool HE.out.symm, O5.out.2.2⟩
    have q2 : decide ((12 : Int) < (c.args.length : Int)) = false := by simp; omega
    obtain ⟨hz1, hz2⟩ := inZ_iff.1 h3
    obtain ⟨K, hK⟩ : ∃ K : Nat, c.sort = (K : Int) := ⟨c.sort.toNat, by omega⟩
    have hKl : K < b.sorts.length := by omega
    have hKi : (K : Int) < (b.sorts.length : Int) := by omega
    have hK0 : (0 : Int) ≤ (K : Int) := by omega
    have hix : idxLen b c.sort = b.sorts[K].idx.length := by simp [idxLen, hK, List.getElem?_eq_getElem hKl]
    have HHD : Hid (hasDec b c.sort = b.sorts[K].dec) := by unfold Hid; simp [hasDec, hK, List.getElem?_eq_getElem hKl]
    obtain ⟨BS, offS, vaS, vtS, rfl, ga, gt, k0, k1, k2, k3, k4, k5⟩ := SRow.at OB.out.2.1.1 hKl
    obtain ⟨paS, caS, hva⟩ := ga.shape
    rw [hva] at k0
    have KS := Lib.hid k0
    have HK := Lib.hid hK
    rw [hK] at RZ
    clear ga gt k0 k1 k2 k3 k4 k5 hva
    rw [hK] at h3
    by_cases h4 : (c.idx.length : Int) = (b.sorts[K].idx.length : Int)
    rotate_left
    · have q4 : ((c.idx.length : Int) != (b.sorts[K].idx.length : Int)) = true := by simpa using h4
      have HE : Hid (conOk b c = false) := by unfold Hid; rw [HC.out, hix, decide_eq_false h4]; simp
      clear h2 h3 h4 hix hz1 hz2 hK
      go_enter Try.func52, Try.ntmps52
      go_upto_region 1 with (fail)
      rw [← HW0.out]
      refine wp_region_rel (by kernel_rfl) (by kernel_rfl) (by kernel_rfl) ?_
      apply RelWalk.rest
      · kernel_rfl
      · intro X _ W hW hcl
        obtain ⟨x0, x1, x2, x3, x4, x5⟩ := OC.out.cells
        obtain ⟨y0, y1, y2⟩ := OB.out.cells
        rw [HK.out] at x0
        have rP0 := fun q => gcell (hW q) x0
        have rP1 := fun q => gcell (hW q) x1
        have rP2 := fun q => gcell (hW q) x2
        have rP3 := fun q => gcell (hW q) x3
        have rP4 := fun q => gcell (hW q) x4
        have rP5 := fun q => gcell (hW q) x5
        have rQ0 := fun q => gcell (hW q) y0
        have rQ1 := fun q => gcell (hW q) y1
        have rQ2 := fun q => gcell (hW q) y2
        have rK := fun q => gcell (hW q) KS.out
        clear x0 x1 x2 x3 x4 x5 y0 y1 y2
        have d0 := Lib.hid (fun q => intoSame (X := X) (W := W) (q := q) ((RZ.out (W q)).mono fun e w' h => ⟨h.1, h.2.symm⟩))
        repeat (go_big_quiet_step (first | (with_reducible exact d0.out _)))
        exact wpQuiet_nil rfl
      intro gq w5 hg _
      have O5 := Lib.hid (OB.out.bel hg)
      have C5 := Lib.hid (OC.out.bel hg)
      clear hg
      simp only [Spread]
      go_wp2_with fail
      go_ret
      exact ⟨ret_bool HE.out.symm, O5.out.2.2⟩
    have q4 : ((c.idx.length : Int) != (b.sorts[K].idx.length : Int)) = false := by rw [h4]; simp
    have HE : Hid (conOk b c = (argsOk b c.args 0 && opensAll c.idx c.args.length && decOk b c)) := by unfold Hid; rw [HC.out, decide_eq_true h2, hix, hK, h3, decide_eq_true h4]; rfl
    clear h2 h3 hix hz1 hz2 hK
    go_enter Try.func52, Try.ntmps52
    go_upto_region 1 with (fail)
    rw [← HW0.out]
    refine wp_region_rel (by kernel_rfl) (by kernel_rfl) (by kernel_rfl) ?_
    apply RelWalk.rest
    · kernel_rfl
    · intro X _ W hW hcl
      obtain ⟨x0, x1, x2, x3, x4, x5⟩ := OC.out.cells
      obtain ⟨y0, y1, y2⟩ := OB.out.cells
      rw [HK.out] at x0
      have rP0 := fun q => gcell (hW q) x0
      have rP1 := fun q => gcell (hW q) x1
      have rP2 := fun q => gcell (hW q) x2
      have rP3 := fun q => gcell (hW q) x3
      have rP4 := fun q => gcell (hW q) x4
      have rP5 := fun q => gcell (hW q) x5
      have rQ0 := fun q => gcell (hW q) y0
      have rQ1 := fun q => gcell (hW q) y1
      have rQ2 := fun q => gcell (hW q) y2
      have rK := fun q => gcell (hW q) KS.out
      clear x0 x1 x2 x3 x4 x5 y0 y1 y2
      have d0 := Lib.hid (fun q => intoSame (X := X) (W := W) (q := q) ((RZ.out (W q)).mono fun e w' h => ⟨h.1, h.2.symm⟩))
      repeat (go_big_quiet_step (first | (with_reducible exact d0.out _)))
      exact wpQuiet_nil rfl
    intro gq w5 hg _
    have O5 := Lib.hid (OB.out.bel hg)
    have C5 := Lib.hid (OC.out.bel hg)
    clear hg
    simp only [Spread]
    go_wp2_with fail
    clear RZ q4 q2 hwn HW0 KS
    go_loopw [5] (fun x wr => ∃ j : Nat, j ≤ c.args.length ∧ x = .int .i64 j ∧ conOk b c = (argsOk b (c.args.drop j) (j : Int) && opensAll c.idx c.args.length && decOk b c) ∧ OneB w w.heap.size b (.slice (some ⟨BS, offS, none⟩) b.sorts.length cs) (.slice pc b.cons.length cc) wr ∧ OneC (w.heap.size + 1) c (.slice pa c.args.length ca) (.slice pi c.idx.length ci) (.slice pt c.dec.kids.length ct) wr) (fun x _ => c.args.length - (RowKit.intOf x).toNat)
    case atStart => exact ⟨0, Nat.zero_le _, rfl, by rw [List.drop_zero, HE.out]; rfl, O5.out, C5.out⟩
    case round =>
      clear HE HC O5 C5 OB OC
      obtain ⟨j, hj, rfl, he, hOB, hOC⟩ := hrel
      obtain ⟨x0, x1, x2, x3, x4, x5⟩ := hOC.cells
      obtain ⟨y0, y1, y2⟩ := hOB.cells
      by_cases hlt : j < c.args.length
      · obtain ⟨B, off, vt, vd, vi, hpa, gt, gd, gi, k0, k1, k2, k3, k4, k5, k6⟩ := ARow.at hOC.2.1 hlt
        subst hpa
        obtain ⟨p1, c1, e1⟩ := gt.shape
        obtain ⟨p2, c2, e2⟩ := gd.shape
        obtain ⟨p3, c3, e3⟩ := gi.shape
        rw [e1] at gt k3
        rw [e2] at gd k4
        rw [e3] at gi k6
        have hji : (j : Int) < (c.args.length : Int) := by omega
        have hj0 : (0 : Int) ≤ (j : Int) := by omega
        have CO := Lib.hid (fun W (hW : Below wr.heap.size wr W) => RA.out j hlt W _ _ _ _ _ (hOB.2.1.bel hW) (gt.bel hW (Nat.le_refl _)) (gd.bel hW (Nat.le_refl _)) (gi.bel hW (Nat.le_refl _)))
        rw [argsOk_drop hlt] at he
        have OB := Lib.hid hOB
        have OC := Lib.hid hOC
        have KK := Lib.hid (And.intro k0 (And.intro k1 (And.intro k2 (And.intro k3 (And.intro k4 (And.intro k5 k6))))))
        clear hOB hOC gt gd gi k0 k1 k2 k3 k4 k5 k6 e1 e2 e3
        cases h5 : argOk b c.args[j] (j : Int) with
        | false =>
          rw [h5] at CO he
          have HE := Lib.hid (show conOk b c = false by rw [he]; rfl)
          clear he h5
          go_wp2_with fail
          clear x0 x1 x2 x3 x4 x5 y0 y1 y2
          refine wp_region_rel (by kernel_rfl) (by kernel_rfl) (by kernel_rfl) ?_
          apply RelWalk.rest
          · kernel_rfl
          · intro X _ W hW hcl
            obtain ⟨x0, x1, x2, x3, x4, x5⟩ := OC.out.cells
            obtain ⟨y0, y1, y2⟩ := OB.out.cells
            obtain ⟨k0, k1, k2, k3, k4, k5, k6⟩ := KK.out
            have rP0 := fun q => gcell (hW q) x0
            have rP1 := fun q => gcell (hW q) x1
            have rP2 := fun q => gcell (hW q) x2
            have rP3 := fun q => gcell (hW q) x3
            have rP4 := fun q => gcell (hW q) x4
            have rP5 := fun q => gcell (hW q) x5
            have rQ0 := fun q => gcell (hW q) y0
            have rQ1 := fun q => gcell (hW q) y1
            have rQ2 := fun q => gcell (hW q) y2
            have rK0 := fun q => gcell (hW q) k0
            have rK1 := fun q => gcell (hW q) k1
            have rK2 := fun q => gcell (hW q) k2
            have rK3 := fun q => gcell (hW q) k3
            have rK4 := fun q => gcell (hW q) k4
            have rK5 := fun q => gcell (hW q) k5
            have rK6 := fun q => gcell (hW q) k6
            clear x0 x1 x2 x3 x4 x5 y0 y1 y2
            clear k0 k1 k2 k3 k4 k5 k6
            have d0 := Lib.hid (fun q => into hcl (CO.out (W q) (hW q)))
            repeat (go_big_quiet_step (first | (with_reducible exact d0.out _)))
            exact wpQuiet_nil rfl
          intro gq w6 hg _
          have O6 := Lib.hid (OB.out.bel hg)
          have C6 := Lib.hid (OC.out.bel hg)
          clear hg
          simp only [Spread]
          go_wp2_with fail
          go_ret
          exact ⟨ret_bool HE.out.symm, O6.out.2.2⟩
        | true =>
          rw [h5] at CO he
          have HE := Lib.hid he
          clear he h5
          go_wp2_with fail
          clear x0 x1 x2 x3 x4 x5 y0 y1 y2
          refine wp_region_rel (by kernel_rfl) (by kernel_rfl) (by kernel_rfl) ?_
          apply RelWalk.rest
          · kernel_rfl
          · intro X _ W hW hcl
            obtain ⟨x0, x1, x2, x3, x4, x5⟩ := OC.out.cells
            obtain ⟨y0, y1, y2⟩ := OB.out.cells
            obtain ⟨k0, k1, k2, k3, k4, k5, k6⟩ := KK.out
            have rP0 := fun q => gcell (hW q) x0
            have rP1 := fun q => gcell (hW q) x1
            have rP2 := fun q => gcell (hW q) x2
            have rP3 := fun q => gcell (hW q) x3
            have rP4 := fun q => gcell (hW q) x4
            have rP5 := fun q => gcell (hW q) x5
            have rQ0 := fun q => gcell (hW q) y0
            have rQ1 := fun q => gcell (hW q) y1
            have rQ2 := fun q => gcell (hW q) y2
            have rK0 := fun q => gcell (hW q) k0
            have rK1 := fun q => gcell (hW q) k1
            have rK2 := fun q => gcell (hW q) k2
            have rK3 := fun q => gcell (hW q) k3
            have rK4 := fun q => gcell (hW q) k4
            have rK5 := fun q => gcell (hW q) k5
            have rK6 := fun q => gcell (hW q) k6
            clear x0 x1 x2 x3 x4 x5 y0 y1 y2
            clear k0 k1 k2 k3 k4 k5 k6
            have d0 := Lib.hid (fun q => into hcl (CO.out (W q) (hW q)))
            repeat (go_big_quiet_step (first | (with_reducible exact d0.out _)))
            exact wpQuiet_nil rfl
          intro gq w6 hg _
          have O6 := Lib.hid (OB.out.bel hg)
          have C6 := Lib.hid (OC.out.bel hg)
          clear hg
          simp only [Spread]
          go_wp2_with fail
          go_roundw
          case rel => exact ⟨j + 1, hlt, by go_num, by rw [HE.out, Bool.true_and], O6.out, C6.out⟩
          case measure => simp [RowKit.intOf]; omega
      · obtain rfl : j = c.args.length := by omega
        have hnl : ¬ (c.args.length : Int) < (c.args.length : Int) := by omega
        rw [List.drop_length, argsOk, Bool.true_and] at he
        have HE := Lib.hid he
        have OB := Lib.hid hOB
        have OC := Lib.hid hOC
        clear hOB hOC he
        go_wp2_with fail
        clear x0 x1 x2 x3 x4 x5 y0 y1 y2 hnl hlt hj RA
        go_loopw [6] (fun x wr => ∃ j : Nat, j ≤ c.idx.length ∧ x = .int .i64 j ∧ conOk b c = (opensAll (c.idx.drop j) c.args.length && decOk b c) ∧ OneB w w.heap.size b (.slice (some ⟨BS, offS, none⟩) b.sorts.length cs) (.slice pc b.cons.length cc) wr ∧ OneC (w.heap.size + 1) c (.slice pa c.args.length ca) (.slice pi c.idx.length ci) (.slice pt c.dec.kids.length ct) wr) (fun x _ => c.idx.length - (RowKit.intOf x).toNat)
        case atStart => exact ⟨0, Nat.zero_le _, rfl, by rw [List.drop_zero, HE.out], OB.out, OC.out⟩
        case round =>
          clear HE OB OC
          obtain ⟨j, hj, rfl, he, hOB, hOC⟩ := hrel
          obtain ⟨x0, x1, x2, x3, x4, x5⟩ := hOC.cells
          obtain ⟨y0, y1, y2⟩ := hOB.cells
          by_cases hlt : j < c.idx.length
          · obtain ⟨B, off, pp, qq, hpi, gk, k0, k1, k2⟩ := hOC.2.2.1.nth hlt
            subst hpi
            have hji : (j : Int) < (c.idx.length : Int) := by omega
            have hj0 : (0 : Int) ≤ (j : Int) := by omega
            have CO := Lib.hid (fun W (hW : Below wr.heap.size wr W) => RI.out j hlt (c.args.length : Int) W _ (gk.bel hW (Nat.le_refl _)))
            rw [opensAll_drop hlt] at he
            have OB := Lib.hid hOB
            have OC := Lib.hid hOC
            have KK := Lib.hid (And.intro k0 (And.intro k1 k2))
            clear hOB hOC gk k0 k1 k2
            cases h5 : openT c.idx[j] (c.args.length : Int) with
            | false =>
              rw [h5] at CO he
              have HE := Lib.hid (show conOk b c = false by rw [he]; rfl)
              clear he h5
              go_wp2_with fail
              clear x0 x1 x2 x3 x4 x5 y0 y1 y2
              refine wp_region_rel (by kernel_rfl) (by kernel_rfl) (by kernel_rfl) ?_
              apply RelWalk.rest
              · kernel_rfl
              · intro X _ W hW hcl
                obtain ⟨x0, x1, x2, x3, x4, x5⟩ := OC.out.cells
                obtain ⟨y0, y1, y2⟩ := OB.out.cells
                obtain ⟨k0, k1, k2⟩ := KK.out
                have rP0 := fun q => gcell (hW q) x0
                have rP1 := fun q => gcell (hW q) x1
                have rP2 := fun q => gcell (hW q) x2
                have rP3 := fun q => gcell (hW q) x3
                have rP4 := fun q => gcell (hW q) x4
                have rP5 := fun q => gcell (hW q) x5
                have rQ0 := fun q => gcell (hW q) y0
                have rQ1 := fun q => gcell (hW q) y1
                have rQ2 := fun q => gcell (hW q) y2
                have rK0 := fun q => gcell (hW q) k0
                have rK1 := fun q => gcell (hW q) k1
                have rK2 := fun q => gcell (hW q) k2
                clear x0 x1 x2 x3 x4 x5 y0 y1 y2
                clear k0 k1 k2
                have d0 := Lib.hid (fun q => into hcl (CO.out (W q) (hW q)))
                repeat (go_big_quiet_step (first | (with_reducible exact d0.out _)))
                exact wpQuiet_nil rfl
              intro gq w6 hg _
              have O6 := Lib.hid (OB.out.bel hg)
              have C6 := Lib.hid (OC.out.bel hg)
              clear hg
              simp only [Spread]
              go_wp2_with fail
              go_ret
              exact ⟨ret_bool HE.out.symm, O6.out.2.2⟩
            | true =>
              rw [h5] at CO he
              have HE := Lib.hid he
              clear he h5
              go_wp2_with fail
              clear x0 x1 x2 x3 x4 x5 y0 y1 y2
              refine wp_region_rel (by kernel_rfl) (by kernel_rfl) (by kernel_rfl) ?_
              apply RelWalk.rest
              · kernel_rfl
              · intro X _ W hW hcl
                obtain ⟨x0, x1, x2, x3, x4, x5⟩ := OC.out.cells
                obtain ⟨y0, y1, y2⟩ := OB.out.cells
                obtain ⟨k0, k1, k2⟩ := KK.out
                have rP0 := fun q => gcell (hW q) x0
                have rP1 := fun q => gcell (hW q) x1
                have rP2 := fun q => gcell (hW q) x2
                have rP3 := fun q => gcell (hW q) x3
                have rP4 := fun q => gcell (hW q) x4
                have rP5 := fun q => gcell (hW q) x5
                have rQ0 := fun q => gcell (hW q) y0
                have rQ1 := fun q => gcell (hW q) y1
                have rQ2 := fun q => gcell (hW q) y2
                have rK0 := fun q => gcell (hW q) k0
                have rK1 := fun q => gcell (hW q) k1
                have rK2 := fun q => gcell (hW q) k2
                clear x0 x1 x2 x3 x4 x5 y0 y1 y2
                clear k0 k1 k2
                have d0 := Lib.hid (fun q => into hcl (CO.out (W q) (hW q)))
                repeat (go_big_quiet_step (first | (with_reducible exact d0.out _)))
                exact wpQuiet_nil rfl
              intro gq w6 hg _
              have O6 := Lib.hid (OB.out.bel hg)
              have C6 := Lib.hid (OC.out.bel hg)
              clear hg
              simp only [Spread]
              go_wp2_with fail
              go_roundw
              case rel => exact ⟨j + 1, hlt, by go_num, by rw [HE.out, Bool.true_and], O6.out, C6.out⟩
              case measure => simp [RowKit.intOf]; omega
          · obtain rfl : j = c.idx.length := by omega
            have hnl : ¬ (c.idx.length : Int) < (c.idx.length : Int) := by omega
            rw [List.drop_length] at he
            have HE : Hid (conOk b c = decOk b c) := by unfold Hid; rw [he]; rfl
            have OB := Lib.hid hOB
            have OC := Lib.hid hOC
            have HD : Hid (decOk b c = if b.sorts[K].dec then openT c.dec c.args.length else noneT c.dec) := by unfold Hid; rw [decOk, HHD.out]
            obtain ⟨B', off', va', vt', hps, ga, gt, k0, k1, k2, k3, k4, k5⟩ := SRow.at hOB.2.1.1 hKl
            cases hps
            rw [HK.out] at x0
            clear hOB hOC he ga gt k0 k1 k3 k4 k5
            cases hd : b.sorts[K].dec with
            | true =>
              rw [hd] at k2 HD
              clear hd
              go_wp2_with fail
              refine (RO.out _ OC.out.2.2.2).mono ?_
              rintro e w6 ⟨rfl, hb6⟩
              have O6 := Lib.hid (OB.out.bel hb6)
              clear hb6
              go_wp2_with fail
              go_ret
              exact ⟨ret_bool (by rw [HE.out, HD.out]; rfl), O6.out.2.2⟩
            | false =>
              rw [hd] at k2 HD
              clear hd
              go_wp2_with fail
              refine (RN.out _ OC.out.2.2.2).mono ?_
              rintro e w6 ⟨rfl, hb6⟩
              have O6 := Lib.hid (OB.out.bel hb6)
              clear hb6
              go_wp2_with fail
              go_ret
              exact ⟨ret_bool (by rw [HE.out, HD.out]; rfl), O6.out.2.2⟩
end Go.Proofs.Ytggefpkfikimiaa
