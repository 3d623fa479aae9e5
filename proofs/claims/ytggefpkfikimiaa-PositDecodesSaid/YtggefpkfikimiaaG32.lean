/- Package posit's takesSort, takesCon: as the document says. No conditions but sizes. -/
import Derived.Test.YtggefpkfikimiaaG31
namespace Go.Proofs.Ytggefpkfikimiaa
open Go.RowKit
set_option linter.unusedVariables false

theorem boxc6 {W : World} {B : Nat} {ty : TypeId} {a b c d e f : Value} (h : W.heap[B]? = some (.cells #[a, b, c, d, e, f] ty (0, 0))) :
    W.cell? ⟨B, 0, none⟩ = some a ∧ W.cell? ⟨B, 1, none⟩ = some b ∧ W.cell? ⟨B, 2, none⟩ = some c ∧ W.cell? ⟨B, 3, none⟩ = some d ∧ W.cell? ⟨B, 4, none⟩ = some e ∧ W.cell? ⟨B, 5, none⟩ = some f := by
  refine ⟨?_, ?_, ?_, ?_, ?_, ?_⟩ <;> simp [World.cell?, h]
theorem setCell_self8 {w : World} {B o : Nat} {v : Value} (h : w.cell? ⟨B, o, none⟩ = some v) : w.setCell ⟨B, o, none⟩ v = w := by
  have key : w.heap.modify B (fun | .cells c elem frozen => .cells (if (none : Option Nat).isSome then c else c.setIfInBounds o v) elem frozen | o => o) = w.heap := by
    apply Array.ext
    · simp
    · intro i h1 h2
      rw [Array.getElem_modify]
      split
      · rename_i e
        subst e
        unfold World.cell? at h
        rw [Array.getElem?_eq_getElem h2] at h
        revert h
        generalize w.heap[B] = ob
        intro h
        cases ob with
        | cells c ty fr =>
          have ho : c[o]? = some v := h
          obtain ⟨hO, ho'⟩ := Array.getElem?_eq_some_iff.1 ho
          simp only [Option.isSome_none, Bool.false_eq_true, if_false]
          congr 1
          apply Array.ext
          · simp
          · intro k k1 k2
            rw [Array.getElem_setIfInBounds]
            split
            · rename_i e; subst e; exact ho'.symm
            · rfl
        | _ => rfl
      · rfl
  exact congrArg (fun h => ({ w with heap := h } : World)) key
def SortR (b : BlkT) (s : SortT) : Prop := (∀ a ∈ s.idx, ArgR b a) ∧ s.idx.length ≤ 12 ∧ (s.dec = true → TermR s.decT)
def ConR (b : BlkT) (x : ConT) : Prop := (∀ a ∈ x.args, ArgR b a) ∧ x.args.length ≤ 12 ∧ (∃ k : Nat, x.sort = (k : Int) ∧ ∃ hk : k < b.sorts.length, x.idx.length = b.sorts[k].idx.length ∧ (b.sorts[k].dec = true → TermR x.dec)) ∧ x.idx.length ≤ 1048576 ∧ ∀ u ∈ x.idx, TermR u
def sortPosV (b : BlkT) (base c : Int) (r : Nat) (s : SortT) : Bool := teleFromV b base c r [] s.idx && (!s.dec || cleanB b base (viewP s.idx r) s.decT)
def conPosV (b : BlkT) (base c : Int) (r : Nat) (x : ConT) : Bool := teleFromV b base c r [] x.args && (indicesB b base (viewP x.args r) x.args c x.sort x.idx && (!hasDec b x.sort || cleanB b base (viewP x.args r) x.dec))
set_option maxRecDepth 100000 in
set_option maxHeartbeats 4000000 in
theorem stakessort_any (b : BlkT) (base : Int) (hb : blkN b ≤ 1048576) (args : List ArgT) (r : Nat) (hr : r ≤ 100) (c : Nat) (s : SortT) (hR : SortR b s)
    (w : World) (vs vc va vi vt : Value) (hA : VAt w b args vs vc va) (h1 : ARow w s.idx vi) (h2 : At w s.decT.kids vt) :
    Calls Try.prog 55 #[.agg #[vs, vc, .int .i64 b.elim, .int .i64 base, va, .int .i64 (r : Int), .int .i64 (c : Int)], .agg #[vi, .int .i64 s.level, .bool s.dec, .int .i64 s.decT.k, .int .i64 s.decT.n, vt]] w fun e w' => e = .returned (.bool (sortPosV b base (c : Int) r s)) ∧ Below w.heap.size w w' := by
  obtain ⟨ps, cs, pc, cc, pa, ca, rfl, rfl, rfl⟩ := hA.shape
  obtain ⟨pi, ci, rfl⟩ := h1.shape
  obtain ⟨pt, ct, rfl⟩ := h2.shape
  obtain ⟨w1, hw1⟩ : ∃ w1, w1 = (w.alloc (.cells #[.slice ps b.sorts.length cs, .slice pc b.cons.length cc, .int .i64 b.elim, .int .i64 base, .slice pa args.length ca, .int .i64 (r : Int), .int .i64 (c : Int)] 85)).alloc (.cells #[.slice pi s.idx.length ci, .int .i64 s.level, .bool s.dec, .int .i64 s.decT.k, .int .i64 s.decT.n, .slice pt s.decT.kids.length ct] 29) := ⟨_, rfl⟩
  have O1 : Hid (OneW w w.heap.size b base args (r : Int) (c : Int) (.slice ps b.sorts.length cs) (.slice pc b.cons.length cc) (.slice pa args.length ca) w1) := by
    unfold Hid; rw [hw1]
    exact (onew_start w b base args (r : Int) (c : Int) _ _ _ hA).bel (below_al _ _)
  have Z1 : Hid (w1.heap[w.heap.size + 1]? = some (.cells #[.slice pi s.idx.length ci, .int .i64 s.level, .bool s.dec, .int .i64 s.decT.k, .int .i64 s.decT.n, .slice pt s.decT.kids.length ct] 29 (0, 0))) := by
    have hn := World.alloc_heap_new (w.alloc (.cells #[.slice ps b.sorts.length cs, .slice pc b.cons.length cc, .int .i64 b.elim, .int .i64 base, .slice pa args.length ca, .int .i64 (r : Int), .int .i64 (c : Int)] 85)) (.cells #[.slice pi s.idx.length ci, .int .i64 s.level, .bool s.dec, .int .i64 s.decT.k, .int .i64 s.decT.n, .slice pt s.decT.kids.length ct] 29)
    rw [World.size_alloc] at hn
    unfold Hid
    rw [hw1]
    exact hn
  have HW := Lib.hid hw1
  have H1 := Lib.hid h1
  have H2 := Lib.hid h2
  have HR := Lib.hid hR
  have HT := Lib.hid (stakesargs_any b base hb args r hr c s.idx (by have := hR.2.1; omega) hR.1 w1 _ _ _ _ O1.out.2.1 (ARow.bel O1.out.2.2 h1))
  clear hw1 hA h1 h2 hR
  go_enter Try.func55, Try.ntmps55
  go_upto_region 1 with (fail)
  rw [← HW.out]
  clear HW
  obtain ⟨x0, x1, x2, x3, x4, x5, x6⟩ := O1.out.cells
  obtain ⟨a0, a1, a2, a3, a4, a5⟩ := boxc6 Z1.out
  cases ht : teleFromV b base (c : Int) r [] s.idx with
  | false =>
    have HE := Lib.hid (show sortPosV b base (c : Int) r s = false by rw [sortPosV, ht]; rfl)
    rw [ht] at HT
    clear ht
    go_wp2_with fail
    refine HT.out.mono ?_
    rintro e w5 ⟨rfl, hb5⟩
    have O5 := Lib.hid (O1.out.bel hb5)
    clear hb5 x0 x1 x2 x3 x4 x5 x6 a0 a1 a2 a3 a4 a5
    go_wp2_with fail
    go_ret
    exact ⟨ret_bool HE.out.symm, O5.out.2.2⟩
  | true =>
    have HE := Lib.hid (show sortPosV b base (c : Int) r s = (!s.dec || cleanB b base (viewP s.idx r) s.decT) by rw [sortPosV, ht]; rfl)
    rw [ht] at HT
    clear ht
    go_wp2_with fail
    refine HT.out.mono ?_
    rintro e w5 ⟨rfl, hb5⟩
    have O5 := Lib.hid (O1.out.bel hb5)
    have Z5 := Lib.hid ((hb5.block _ (Array.getElem?_eq_some_iff.1 Z1.out).1).trans Z1.out)
    clear hb5 x0 x1 x2 x3 x4 x5 x6 a0 a1 a2 a3 a4 a5 O1 Z1 HT
    cases hd : s.dec with
    | false =>
      rw [hd] at Z5
      have HE2 := Lib.hid (HE.out.trans (show _ = true by rw [hd]; rfl))
      clear hd HE
      go_wp2_with fail
      refine wp_region_rel (by kernel_rfl) (by kernel_rfl) (by kernel_rfl) ?_
      apply RelWalk.rest
      · kernel_rfl
      · intro X0 _ W hW hcl
        obtain ⟨x0, x1, x2, x3, x4, x5, x6⟩ := O5.out.cells
        have r0 := fun q => gcell (hW q) x0
        have r1 := fun q => gcell (hW q) x1
        have r2 := fun q => gcell (hW q) x2
        have r3 := fun q => gcell (hW q) x3
        have r4 := fun q => gcell (hW q) x4
        have r5 := fun q => gcell (hW q) x5
        have r6 := fun q => gcell (hW q) x6
        obtain ⟨z0, z1, z2, z3, z4, z5⟩ := boxc6 Z5.out
        have q0 := fun q => gcell (hW q) z0
        have q1 := fun q => gcell (hW q) z1
        have q2 := fun q => gcell (hW q) z2
        have q3 := fun q => gcell (hW q) z3
        have q4 := fun q => gcell (hW q) z4
        have q5 := fun q => gcell (hW q) z5
        clear x0 x1 x2 x3 x4 x5 x6 z0 z1 z2 z3 z4 z5
        repeat (go_big_quiet_step (fail))
        exact wpQuiet_nil rfl
      intro gq w8 hg8 _
      simp only [Spread]
      have O8 := Lib.hid (O5.out.bel hg8)
      clear hg8
      go_wp2_with fail
      go_ret
      exact ⟨ret_bool HE2.out.symm, O8.out.2.2⟩
    | true =>
      have HE2 := Lib.hid (HE.out.trans (show _ = cleanB b base (viewP s.idx r) s.decT by rw [hd]; rfl))
      have HC := Lib.hid (termR_clean b base hb s.idx (by have := HR.out.2.1; omega) r (by omega) (HR.out.2.2 hd))
      have HU := Lib.hid (fun W (hbw : Below w5.heap.size w5 W) => sbehind_any b base args s.idx (r : Int) (c : Int) W _ _ _ _ (O5.out.2.1.bel hbw) (ARow.bel hbw (ARow.bel O5.out.2.2 H1.out)))
      have HI := Lib.hid (fun W (hbw : Below w5.heap.size w5 W) => HC.out (c : Int) W _ _ _ _ ⟨(O5.out.2.1.bel hbw).1, ARow.bel hbw (ARow.bel O5.out.2.2 H1.out)⟩ ((H2.out.bel O5.out.2.2 (Nat.le_refl _)).bel hbw (Nat.le_refl _)))
      revert HE2 HI
      generalize cleanB b base (viewP s.idx r) s.decT = RES
      intro HE2 HI
      rw [hd] at Z5
      clear hd HE HC
      go_wp2_with fail
      refine wp_region_rel (by kernel_rfl) (by kernel_rfl) (by kernel_rfl) ?_
      apply RelWalk.rest
      · kernel_rfl
      · intro X0 _ W hW hcl
        obtain ⟨x0, x1, x2, x3, x4, x5, x6⟩ := O5.out.cells
        have r0 := fun q => gcell (hW q) x0
        have r1 := fun q => gcell (hW q) x1
        have r2 := fun q => gcell (hW q) x2
        have r3 := fun q => gcell (hW q) x3
        have r4 := fun q => gcell (hW q) x4
        have r5 := fun q => gcell (hW q) x5
        have r6 := fun q => gcell (hW q) x6
        obtain ⟨z0, z1, z2, z3, z4, z5⟩ := boxc6 Z5.out
        have q0 := fun q => gcell (hW q) z0
        have q1 := fun q => gcell (hW q) z1
        have q2 := fun q => gcell (hW q) z2
        have q3 := fun q => gcell (hW q) z3
        have q4 := fun q => gcell (hW q) z4
        have q5 := fun q => gcell (hW q) z5
        have dU := Lib.hid (fun q => into hcl (HU.out (W q) (hW q)))
        have dC := Lib.hid (fun q => into hcl (HI.out (W q) (hW q)))
        clear x0 x1 x2 x3 x4 x5 x6 z0 z1 z2 z3 z4 z5
        repeat (go_big_quiet_step (first | (with_reducible exact dU.out _) | (with_reducible exact dC.out _)))
        exact wpQuiet_nil rfl
      intro gq w8 hg8 _
      simp only [Spread]
      have O8 := Lib.hid (O5.out.bel hg8)
      clear hg8
      go_wp2_with fail
      go_ret
      exact ⟨ret_bool HE2.out.symm, O8.out.2.2⟩
set_option maxRecDepth 100000 in
set_option maxHeartbeats 4000000 in
theorem stakescon_any (b : BlkT) (base : Int) (hb : blkN b ≤ 1048576) (args : List ArgT) (r : Nat) (hr : r ≤ 100) (c : Nat) (x : ConT) (hR : ConR b x)
    (w : World) (vs vc va vi vj vt : Value) (hA : VAt w b args vs vc va) (h1 : ARow w x.args vi) (h2 : At w x.idx vj) (h3 : At w x.dec.kids vt) :
    Calls Try.prog 56 #[.agg #[vs, vc, .int .i64 b.elim, .int .i64 base, va, .int .i64 (r : Int), .int .i64 (c : Int)], .agg #[.int .i64 x.sort, vi, vj, .int .i64 x.dec.k, .int .i64 x.dec.n, vt]] w fun e w' => e = .returned (.bool (conPosV b base (c : Int) r x)) ∧ Below w.heap.size w w' := by
  obtain ⟨ps, cs, pc, cc, pa, ca, rfl, rfl, rfl⟩ := hA.shape
  obtain ⟨pi, ci, rfl⟩ := h1.shape
  obtain ⟨pj, cj, rfl⟩ := h2.shape
  obtain ⟨pt, ct, rfl⟩ := h3.shape
  obtain ⟨w1, hw1⟩ : ∃ w1, w1 = (w.alloc (.cells #[.slice ps b.sorts.length cs, .slice pc b.cons.length cc, .int .i64 b.elim, .int .i64 base, .slice pa args.length ca, .int .i64 (r : Int), .int .i64 (c : Int)] 85)).alloc (.cells #[.int .i64 x.sort, .slice pi x.args.length ci, .slice pj x.idx.length cj, .int .i64 x.dec.k, .int .i64 x.dec.n, .slice pt x.dec.kids.length ct] 35) := ⟨_, rfl⟩
  have O1 : Hid (OneW w w.heap.size b base args (r : Int) (c : Int) (.slice ps b.sorts.length cs) (.slice pc b.cons.length cc) (.slice pa args.length ca) w1) := by
    unfold Hid; rw [hw1]
    exact (onew_start w b base args (r : Int) (c : Int) _ _ _ hA).bel (below_al _ _)
  have Z1 : Hid (w1.heap[w.heap.size + 1]? = some (.cells #[.int .i64 x.sort, .slice pi x.args.length ci, .slice pj x.idx.length cj, .int .i64 x.dec.k, .int .i64 x.dec.n, .slice pt x.dec.kids.length ct] 35 (0, 0))) := by
    have hn := World.alloc_heap_new (w.alloc (.cells #[.slice ps b.sorts.length cs, .slice pc b.cons.length cc, .int .i64 b.elim, .int .i64 base, .slice pa args.length ca, .int .i64 (r : Int), .int .i64 (c : Int)] 85)) (.cells #[.int .i64 x.sort, .slice pi x.args.length ci, .slice pj x.idx.length cj, .int .i64 x.dec.k, .int .i64 x.dec.n, .slice pt x.dec.kids.length ct] 35)
    rw [World.size_alloc] at hn
    unfold Hid
    rw [hw1]
    exact hn
  have HW := Lib.hid hw1
  have HA0 := Lib.hid hA
  have H1 := Lib.hid h1
  have H2 := Lib.hid h2
  have H3 := Lib.hid h3
  have HR := Lib.hid hR
  have HT := Lib.hid (stakesargs_any b base hb args r hr c x.args (by have := hR.2.1; omega) hR.1 w1 _ _ _ _ O1.out.2.1 (ARow.bel O1.out.2.2 h1))
  clear hw1 hA h1 h2 h3 hR
  go_enter Try.func56, Try.ntmps56
  go_upto_region 1 with (fail)
  rw [← HW.out]
  clear HW
  obtain ⟨x0, x1, x2, x3, x4, x5, x6⟩ := O1.out.cells
  obtain ⟨a0, a1, a2, a3, a4, a5⟩ := boxc6 Z1.out
  cases ht : teleFromV b base (c : Int) r [] x.args with
  | false =>
    have HE := Lib.hid (show conPosV b base (c : Int) r x = false by rw [conPosV, ht]; rfl)
    rw [ht] at HT
    clear ht
    go_wp2_with fail
    refine HT.out.mono ?_
    rintro e w5 ⟨rfl, hb5⟩
    have O5 := Lib.hid (O1.out.bel hb5)
    clear hb5 x0 x1 x2 x3 x4 x5 x6 a0 a1 a2 a3 a4 a5
    go_wp2_with fail
    go_ret
    exact ⟨ret_bool HE.out.symm, O5.out.2.2⟩
  | true =>
    obtain ⟨k, hks, hk, hil, hdec⟩ := HR.out.2.2.1
    have hhd : hasDec b x.sort = b.sorts[k].dec := by rw [hks, hasDec, Int.toNat_natCast, List.getElem?_eq_getElem hk]; rfl
    have HE := Lib.hid (show conPosV b base (c : Int) r x = (indicesB b base (viewP x.args r) x.args (c : Int) (k : Int) x.idx && (!b.sorts[k].dec || cleanB b base (viewP x.args r) x.dec)) by rw [conPosV, ht, hhd, hks]; rfl)
    have HDEC := Lib.hid hdec
    have HIL := Lib.hid hil
    rw [hks] at Z1 a0
    rw [ht] at HT
    have hk1 : (k : Int) < (b.sorts.length : Int) := by omega
    have hk0 : (0 : Int) ≤ (k : Int) := by omega
    clear ht hhd hks hdec hil
    go_wp2_with fail
    refine HT.out.mono ?_
    rintro e w5 ⟨rfl, hb5⟩
    have O5 := Lib.hid (O1.out.bel hb5)
    have Z5 := Lib.hid ((hb5.block _ (Array.getElem?_eq_some_iff.1 Z1.out).1).trans Z1.out)
    clear hb5 x0 x1 x2 x3 x4 x5 x6 a0 a1 a2 a3 a4 a5 O1 Z1 HT
    have HU := Lib.hid (sbehind_any b base args x.args (r : Int) (c : Int) w5 _ _ _ _ O5.out.2.1 (ARow.bel O5.out.2.2 H1.out))
    obtain ⟨x0, x1, x2, x3, x4, x5, x6⟩ := O5.out.cells
    obtain ⟨a0, a1, a2, a3, a4, a5⟩ := boxc6 Z5.out
    go_wp2_with fail
    refine HU.out.mono ?_
    rintro e w6 ⟨rfl, hb6⟩
    have O6 := Lib.hid (O5.out.bel hb6)
    have Z6 := Lib.hid ((hb6.block _ (Array.getElem?_eq_some_iff.1 Z5.out).1).trans Z5.out)
    clear hb6 x0 x1 x2 x3 x4 x5 x6 a0 a1 a2 a3 a4 a5 O5 Z5 HU
    obtain ⟨x0, x1, x2, x3, x4, x5, x6⟩ := O6.out.cells
    have y0 := setCell_self8 x0
    have y1 := setCell_self8 x1
    have y2 := setCell_self8 x2
    have y3 := setCell_self8 x3
    have hh := O6.out.1
    have f0 : w6.frozen? ⟨w.heap.size, 0, none⟩ = false := by simp [World.frozen?, hh]
    have f1 : w6.frozen? ⟨w.heap.size, 1, none⟩ = false := by simp [World.frozen?, hh]
    have f2 : w6.frozen? ⟨w.heap.size, 2, none⟩ = false := by simp [World.frozen?, hh]
    have f3 : w6.frozen? ⟨w.heap.size, 3, none⟩ = false := by simp [World.frozen?, hh]
    have f4 : w6.frozen? ⟨w.heap.size, 4, none⟩ = false := by simp [World.frozen?, hh]
    have f5 : w6.frozen? ⟨w.heap.size, 5, none⟩ = false := by simp [World.frozen?, hh]
    have f6 : w6.frozen? ⟨w.heap.size, 6, none⟩ = false := by simp [World.frozen?, hh]
    clear hh
    go_upto_region 4 with (fail)
    obtain ⟨w7, hw7⟩ : ∃ w7, w7 = ((w6.setCell ⟨w.heap.size, 4, none⟩ (.slice pi x.args.length ci)).setCell ⟨w.heap.size, 5, none⟩ (.int .i64 (r : Int))).setCell ⟨w.heap.size, 6, none⟩ (.int .i64 (c : Int)) := ⟨_, rfl⟩
    have O7 : Hid (OneW w w.heap.size b base x.args (r : Int) (c : Int) (.slice ps b.sorts.length cs) (.slice pc b.cons.length cc) (.slice pi x.args.length ci) w7) := by
      have hB : Below w.heap.size w w7 := by
        rw [hw7]
        exact ((O6.out.2.2.setCell (p := ⟨w.heap.size, 4, none⟩) (Nat.le_refl _) _).setCell (p := ⟨w.heap.size, 5, none⟩) (Nat.le_refl _) _).setCell (p := ⟨w.heap.size, 6, none⟩) (Nat.le_refl _) _
      have g1 := heap_setCell_same w6 w.heap.size 4 _ _ (.slice pi x.args.length ci) O6.out.1
      have g2 := heap_setCell_same _ w.heap.size 5 _ _ (.int .i64 (r : Int)) g1
      have g3 := heap_setCell_same _ w.heap.size 6 _ _ (.int .i64 (c : Int)) g2
      rw [← hw7] at g3
      exact ⟨by simpa using g3, ⟨HA0.out.1.bel hB, ARow.bel hB H1.out⟩, hB⟩
    have Z7 : Hid (w7.heap[w.heap.size + 1]? = some (.cells #[.int .i64 (k : Int), .slice pi x.args.length ci, .slice pj x.idx.length cj, .int .i64 x.dec.k, .int .i64 x.dec.n, .slice pt x.dec.kids.length ct] 35 (0, 0))) := by
      unfold Hid
      rw [hw7, Below.heap_setCell _ _ _ _ (by simp), Below.heap_setCell _ _ _ _ (by simp), Below.heap_setCell _ _ _ _ (by simp)]
      exact Z6.out
    rw [← hw7]
    clear hw7 x0 x1 x2 x3 x4 x5 x6 y0 y1 y2 y3 f0 f1 f2 f3 f4 f5 f6 O6 Z6
    obtain ⟨x0, x1, x2, x3, x4, x5, x6⟩ := O7.out.cells
    obtain ⟨a0, a1, a2, a3, a4, a5⟩ := boxc6 Z7.out
    have HK := Lib.hid (stakesidx_any b base hb x.args (by have := HR.out.2.1; omega) r (by omega) c k hk x.idx HIL.out HR.out.2.2.2.1 HR.out.2.2.2.2 w7 _ _ _ _ O7.out.2.1 (H2.out.bel O7.out.2.2 (Nat.le_refl _)))
    cases hi : indicesB b base (viewP x.args r) x.args (c : Int) (k : Int) x.idx with
    | false =>
      have HE2 := Lib.hid (HE.out.trans (show _ = false by rw [hi, Bool.false_and]))
      rw [hi] at HK
      clear hi HE
      go_wp2_with fail
      refine HK.out.mono ?_
      rintro e w8 ⟨rfl, hb8⟩
      have O8 := Lib.hid (O7.out.bel hb8)
      clear hb8 x0 x1 x2 x3 x4 x5 x6 a0 a1 a2 a3 a4 a5
      go_wp2_with fail
      go_ret
      exact ⟨ret_bool HE2.out.symm, O8.out.2.2⟩
    | true =>
    have HE1 := Lib.hid (HE.out.trans (show _ = (!b.sorts[k].dec || cleanB b base (viewP x.args r) x.dec) by rw [hi, Bool.true_and]))
    rw [hi] at HK
    clear hi HE
    go_wp2_with fail
    refine HK.out.mono ?_
    rintro e w8 ⟨rfl, hb8⟩
    have O8 := Lib.hid (O7.out.bel hb8)
    have Z8 := Lib.hid ((hb8.block _ (Array.getElem?_eq_some_iff.1 Z7.out).1).trans Z7.out)
    clear hb8 x0 x1 x2 x3 x4 x5 x6 a0 a1 a2 a3 a4 a5 O7 Z7 HK
    obtain ⟨x0, x1, x2, x3, x4, x5, x6⟩ := O8.out.cells
    obtain ⟨a0, a1, a2, a3, a4, a5⟩ := boxc6 Z8.out
    obtain ⟨bS, oS, vx, vt, he, gA, gT, s0, s1, s2, s3, s4, s5⟩ := SRow.at O8.out.2.1.1.1 hk
    cases he
    clear s0 s1 s3 s4 s5 gA gT
    cases hd : b.sorts[k].dec with
    | false =>
      have HE2 := Lib.hid (HE1.out.trans (show _ = true by rw [hd]; rfl))
      rw [hd] at s2
      clear hd HE1 HDEC
      go_wp2_with fail
      go_ret
      exact ⟨ret_bool HE2.out.symm, O8.out.2.2⟩
    | true =>
      have HE2 := Lib.hid (HE1.out.trans (show _ = cleanB b base (viewP x.args r) x.dec by rw [hd]; rfl))
      have HC := Lib.hid (termR_clean b base hb x.args (by have := HR.out.2.1; omega) r (by omega) (HDEC.out hd) (c : Int) w8 _ _ _ _ O8.out.2.1 (H3.out.bel O8.out.2.2 (Nat.le_refl _)))
      rw [hd] at s2
      clear hd HE1 HDEC
      go_wp2_with fail
      refine HC.out.mono ?_
      rintro e w9 ⟨rfl, hb9⟩
      have O9 := Lib.hid (O8.out.bel hb9)
      clear hb9 x0 x1 x2 x3 x4 x5 x6 a0 a1 a2 a3 a4 a5 s2
      go_wp2_with fail
      go_ret
      exact ⟨ret_bool HE2.out.symm, O9.out.2.2⟩
end Go.Proofs.Ytggefpkfikimiaa
