/- Package posit's isGoodFor, areGoodFor, isGood: as the document says. No conditions but sizes. -/
import Derived.Test.YtggefpkfikimiaaG29
import Derived.Test.YtggefpkfikimiaaG28
namespace Go.Proofs.Ytggefpkfikimiaa
open Go.RowKit
set_option linter.unusedVariables false

/-- The program's isGood answers as the document says. -/
def GdP (b : BlkT) (base : Int) (args : List ArgT) (r c : Nat) (u : Tm) : Prop := ∀ (w : World) (vs vc va v : Value), VAt w b args vs vc va → At w u.kids v →
  Calls Try.prog 85 #[.agg #[vs, vc, .int .i64 b.elim, .int .i64 base, va, .int .i64 (r : Int), .int .i64 (c : Int)], .agg #[.int .i64 u.k, .int .i64 u.n, v]] w fun e w' => e = .returned (.bool (goodB b base (viewP args r) args (c : Int) u)) ∧ Below w.heap.size w w'
theorem below_al3 (w : World) (x y z : Obj) : Below w.heap.size w (((w.alloc x).alloc y).alloc z) :=
  ((below_al w x).trans ((below_al _ y).mono (by simp))).trans ((below_al _ z).mono (by simp; omega))
theorem boxA7 {W : World} {B : Nat} {ty : TypeId} {a b c d e f g : Value} (h : W.heap[B]? = some (.cells #[a, b, c, d, e, f, g] ty (0, 0))) :
    W.cell? ⟨B, 0, none⟩ = some a ∧ W.cell? ⟨B, 1, none⟩ = some b ∧ W.cell? ⟨B, 2, none⟩ = some c ∧ W.cell? ⟨B, 3, none⟩ = some d ∧ W.cell? ⟨B, 4, none⟩ = some e ∧ W.cell? ⟨B, 5, none⟩ = some f ∧ W.cell? ⟨B, 6, none⟩ = some g := boxc7 h
set_option maxRecDepth 100000 in
set_option maxHeartbeats 4000000 in
theorem sgoodfor_any (b : BlkT) (base : Int) (args : List ArgT) (hla : args.length ≤ 1048576) (r : Nat) (hr : r ≤ 10000000) (c : Nat) (a : ArgT) (t : Tm) (hn : t.k = 1 → 0 ≤ t.n ∧ t.n ≤ 10000000)
    (ihC : ClP b base args r t) (ihG : GdP b base args r c t) (w : World) (vs vc va v vt vd vi : Value) (hA : VAt w b args vs vc va) (hT : At w t.kids v) (h1 : At w a.ty.kids vt) (h2 : At w a.dom vd) (h3 : At w a.idx vi) :
    Calls Try.prog 103 #[.agg #[vs, vc, .int .i64 b.elim, .int .i64 base, va, .int .i64 (r : Int), .int .i64 (c : Int)], .agg #[.bool a.r, .int .i64 a.ty.k, .int .i64 a.ty.n, vt, vd, .int .i64 a.sort, vi], .agg #[.int .i64 t.k, .int .i64 t.n, v]] w fun e w' =>
      e = .returned (.bool (argStep (cleanB b base (viewP args r)) (goodB b base (viewP args r) args (c : Int)) (viewP args r) a t)) ∧ Below w.heap.size w w' := by
  obtain ⟨ps, cs, pc, cc, pa, ca, rfl, rfl, rfl⟩ := hA.shape
  obtain ⟨pt, ct, rfl⟩ := hT.shape
  obtain ⟨pd, cd, rfl⟩ := h2.shape
  obtain ⟨p1, c1, rfl⟩ := h1.shape
  obtain ⟨p3, c3, rfl⟩ := h3.shape
  obtain ⟨w1, hw1⟩ : ∃ w1, w1 = ((w.alloc (.cells #[.slice ps b.sorts.length cs, .slice pc b.cons.length cc, .int .i64 b.elim, .int .i64 base, .slice pa args.length ca, .int .i64 (r : Int), .int .i64 (c : Int)] 85)).alloc (.cells #[.bool a.r, .int .i64 a.ty.k, .int .i64 a.ty.n, .slice p1 a.ty.kids.length c1, .slice pd a.dom.length cd, .int .i64 a.sort, .slice p3 a.idx.length c3] 38)).alloc (.cells #[.int .i64 t.k, .int .i64 t.n, .slice pt t.kids.length ct] 25) := ⟨_, rfl⟩
  have B1 : Below w.heap.size w w1 := by rw [hw1]; exact below_al3 _ _ _ _
  have O1 : Hid (OneW w w.heap.size b base args (r : Int) (c : Int) (.slice ps b.sorts.length cs) (.slice pc b.cons.length cc) (.slice pa args.length ca) w1) := by
    unfold Hid; rw [hw1]
    exact ((onew_start w b base args (r : Int) (c : Int) _ _ _ hA).bel (below_al _ (.cells #[.bool a.r, .int .i64 a.ty.k, .int .i64 a.ty.n, .slice p1 a.ty.kids.length c1, .slice pd a.dom.length cd, .int .i64 a.sort, .slice p3 a.idx.length c3] 38))).bel (below_al _ (.cells #[.int .i64 t.k, .int .i64 t.n, .slice pt t.kids.length ct] 25))
  have Z1 : Hid (w1.heap[w.heap.size + 1]? = some (.cells #[.bool a.r, .int .i64 a.ty.k, .int .i64 a.ty.n, .slice p1 a.ty.kids.length c1, .slice pd a.dom.length cd, .int .i64 a.sort, .slice p3 a.idx.length c3] 38 (0, 0))) := by
    have hn := World.alloc_heap_new (w.alloc (.cells #[.slice ps b.sorts.length cs, .slice pc b.cons.length cc, .int .i64 b.elim, .int .i64 base, .slice pa args.length ca, .int .i64 (r : Int), .int .i64 (c : Int)] 85)) (.cells #[.bool a.r, .int .i64 a.ty.k, .int .i64 a.ty.n, .slice p1 a.ty.kids.length c1, .slice pd a.dom.length cd, .int .i64 a.sort, .slice p3 a.idx.length c3] 38)
    rw [World.size_alloc] at hn
    unfold Hid
    rw [hw1]
    exact ((below_al ((w.alloc (.cells #[.slice ps b.sorts.length cs, .slice pc b.cons.length cc, .int .i64 b.elim, .int .i64 base, .slice pa args.length ca, .int .i64 (r : Int), .int .i64 (c : Int)] 85)).alloc (.cells #[.bool a.r, .int .i64 a.ty.k, .int .i64 a.ty.n, .slice p1 a.ty.kids.length c1, .slice pd a.dom.length cd, .int .i64 a.sort, .slice p3 a.idx.length c3] 38)) (.cells #[.int .i64 t.k, .int .i64 t.n, .slice pt t.kids.length ct] 25)).block _ (by simp)).trans hn
  have T1 : Hid (OneT8 (w.heap.size + 2) t (.slice pt t.kids.length ct) w1) := by
    have hn := World.alloc_heap_new ((w.alloc (.cells #[.slice ps b.sorts.length cs, .slice pc b.cons.length cc, .int .i64 b.elim, .int .i64 base, .slice pa args.length ca, .int .i64 (r : Int), .int .i64 (c : Int)] 85)).alloc (.cells #[.bool a.r, .int .i64 a.ty.k, .int .i64 a.ty.n, .slice p1 a.ty.kids.length c1, .slice pd a.dom.length cd, .int .i64 a.sort, .slice p3 a.idx.length c3] 38)) (.cells #[.int .i64 t.k, .int .i64 t.n, .slice pt t.kids.length ct] 25)
    rw [World.size_alloc, World.size_alloc] at hn
    unfold Hid
    refine ⟨by rw [hw1]; exact hn, hT.bel B1 (Nat.le_refl _)⟩
  have HW := Lib.hid hw1
  have HN := Lib.hid hn
  clear hw1 hA hT h1 h2 h3 B1 hn
  go_enter Try.func103, Try.ntmps103
  go_upto_region 1 with (fail)
  rw [← HW.out]
  clear HW
  obtain ⟨x0, x1, x2, x3, x4, x5, x6⟩ := O1.out.cells
  obtain ⟨y0, y1, y2, y3, y4, y5, y6⟩ := boxA7 Z1.out
  obtain ⟨⟨z0, z1, z2⟩, _⟩ := boxc T1.out.1
  clear Z1
  cases hr : a.r with
  | false =>
    rw [hr] at y0
    have HE := Lib.hid (show argStep (cleanB b base (viewP args r)) (goodB b base (viewP args r) args (c : Int)) (viewP args r) a t = cleanB b base (viewP args r) t by rw [argStep, hr]; rfl)
    have HC := Lib.hid (ihC (c : Int) w1 _ _ _ _ O1.out.2.1 T1.out.2)
    clear hr ihC ihG
    go_wp2_with fail
    refine HC.out.mono ?_
    rintro e w5 ⟨rfl, hb5⟩
    have O5 := Lib.hid (O1.out.bel hb5)
    clear hb5 x0 x1 x2 x3 x4 x5 x6 y0 y1 y2 y3 y4 y5 y6 z0 z1 z2
    go_wp2_with fail
    go_ret
    exact ⟨ret_bool HE.out.symm, O5.out.2.2⟩
  | true =>
    rw [hr] at y0
    by_cases hd : a.dom.length = 0
    · have HE := Lib.hid (show argStep (cleanB b base (viewP args r)) (goodB b base (viewP args r) args (c : Int)) (viewP args r) a t = goodB b base (viewP args r) args (c : Int) t by rw [argStep, hr, if_pos hd]; rfl)
      have HC := Lib.hid (ihG w1 _ _ _ _ O1.out.2.1 T1.out.2)
      rw [hd] at y4
      clear hr ihC ihG hd
      go_wp2_with fail
      refine HC.out.mono ?_
      rintro e w5 ⟨rfl, hb5⟩
      have O5 := Lib.hid (O1.out.bel hb5)
      clear hb5 x0 x1 x2 x3 x4 x5 x6 y0 y1 y2 y3 y4 y5 y6 z0 z1 z2
      go_wp2_with fail
      go_ret
      exact ⟨ret_bool HE.out.symm, O5.out.2.2⟩
    · have HE := Lib.hid (show argStep (cleanB b base (viewP args r)) (goodB b base (viewP args r) args (c : Int)) (viewP args r) a t = gokB args r t by rw [argStep, hr, if_neg hd]; rfl)
      have HC := Lib.hid (sguarded_any b base args hla r (by assumption) (c : Int) t HN.out w1 _ _ _ _ O1.out.2.1 T1.out.2)
      generalize gdomB args r t = dd at *
      revert y4
      generalize a.dom.length = DL at *
      intro y4
      have hd1 : ¬ (DL : Int) = 0 := by omega
      have hd2 : ((DL : Int) == 0) = false := by simpa using hd1
      clear hr ihC ihG hd
      go_wp2_with fail
      refine HC.out.mono ?_
      rintro e w5 ⟨rfl, hb5⟩
      have O5 := Lib.hid (O1.out.bel hb5)
      clear hb5 x0 x1 x2 x3 x4 x5 x6 y0 y1 y2 y3 y4 y5 y6 z0 z1 z2
      go_wp2_with fail
      go_ret
      exact ⟨ret_bool HE.out.symm, O5.out.2.2⟩
theorem args_at {cl rec : Tm → Bool} {vars : List Int} {m : List ArgT} {l : List Tm} {j : Nat} (hm : j < m.length) (h : j < l.length) : argsStep cl rec vars (m.drop j) (l.drop j) = (argStep cl rec vars m[j] l[j] && argsStep cl rec vars (m.drop (j + 1)) (l.drop (j + 1))) := by
  rw [List.drop_eq_getElem_cons h, List.drop_eq_getElem_cons hm, argsStep]
theorem args_nil {cl rec : Tm → Bool} {vars : List Int} (l : List Tm) : argsStep cl rec vars [] l = true := by cases l <;> rfl
set_option maxRecDepth 100000 in
set_option maxHeartbeats 4000000 in
theorem saregood_any (b : BlkT) (base : Int) (args : List ArgT) (hla : args.length ≤ 1048576) (r : Nat) (hr : r ≤ 10000000) (c : Nat) (m : List ArgT) (hml : m.length ≤ 1048576) (l : List Tm) (hll : l.length ≤ 1048576) (hn : ∀ u ∈ l, u.k = 1 → 0 ≤ u.n ∧ u.n ≤ 10000000)
    (ihC : ∀ u ∈ l, ClP b base args r u) (ihG : ∀ u ∈ l, GdP b base args r c u) (w : World) (vs vc va vm v : Value) (hA : VAt w b args vs vc va) (hM : ARow w m vm) (hL : At w l v) :
    Calls Try.prog 94 #[.agg #[vs, vc, .int .i64 b.elim, .int .i64 base, va, .int .i64 (r : Int), .int .i64 (c : Int)], vm, v] w fun e w' =>
      e = .returned (.bool (decide (l.length = m.length) && argsStep (cleanB b base (viewP args r)) (goodB b base (viewP args r) args (c : Int)) (viewP args r) m l)) ∧ Below w.heap.size w w' := by
  obtain ⟨ps, cs, pc, cc, pa, ca, rfl, rfl, rfl⟩ := hA.shape
  obtain ⟨aL, cL, rfl⟩ := hL.shape
  obtain ⟨aM, cM, rfl⟩ := hM.shape
  have O0 := Lib.hid (onew_start w b base args (r : Int) (c : Int) _ _ _ hA)
  have A0 := Lib.hid (hL.bel O0.out.2.2 (Nat.le_refl _))
  have M0 := Lib.hid (ARow.bel O0.out.2.2 hM)
  have IHC := Lib.hid ihC
  have IHG := Lib.hid ihG
  have HN := Lib.hid hn
  clear hA hL hM ihC ihG hn
  by_cases hlen : l.length = m.length
  rotate_left
  · rw [decide_eq_false hlen, Bool.false_and]
    have h1 : ¬ (l.length : Int) = (m.length : Int) := by omega
    have h2 : ((l.length : Int) != (m.length : Int)) = true := by simpa using h1
    clear hlen
    go_enter Try.func94, Try.ntmps94
    go_wp2_with fail
    go_ret
    exact ⟨rfl, O0.out.2.2⟩
  rw [decide_eq_true hlen, Bool.true_and]
  have h2 : ((l.length : Int) != (m.length : Int)) = false := by simp [hlen]
  have HLEN := Lib.hid hlen
  clear hlen
  go_enter Try.func94, Try.ntmps94
  go_wp2_with fail
  revert O0 A0 M0
  generalize w.alloc (.cells #[.slice ps b.sorts.length cs, .slice pc b.cons.length cc, .int .i64 b.elim, .int .i64 base, .slice pa args.length ca, .int .i64 (r : Int), .int .i64 (c : Int)] 85) = W0
  intro O0 A0 M0
  go_loopw [16] (fun i wr => ∃ j : Nat, j ≤ m.length ∧ i = .int .i64 j ∧ argsStep (cleanB b base (viewP args r)) (goodB b base (viewP args r) args (c : Int)) (viewP args r) m l = argsStep (cleanB b base (viewP args r)) (goodB b base (viewP args r) args (c : Int)) (viewP args r) (m.drop j) (l.drop j) ∧ OneW w w.heap.size b base args (r : Int) (c : Int) (.slice ps b.sorts.length cs) (.slice pc b.cons.length cc) (.slice pa args.length ca) wr ∧ At wr l (.slice aL l.length cL) ∧ ARow wr m (.slice aM m.length cM)) (fun i _ => m.length - (RowKit.intOf i).toNat)
  case atStart => exact ⟨0, Nat.zero_le _, rfl, rfl, O0.out, A0.out, M0.out⟩
  case round =>
    clear O0 A0 M0
    obtain ⟨j, hj, rfl, hE, hO, hAX, hMX⟩ := hrel
    have OJ := Lib.hid hO
    have AJ := Lib.hid hAX
    have MJ := Lib.hid hMX
    have HE := Lib.hid hE
    clear hE hO hAX hMX
    by_cases hlt : j < m.length
    · have hlt2 : j < l.length := by have := HLEN.out; omega
      have hi1 : (j : Int) < (l.length : Int) := by omega
      have hi0 : (0 : Int) ≤ (j : Int) := by omega
      have hw1 : IntKind.i64.wrap ((j : Int) + 1) = ((j + 1 : Nat) : Int) := by rw [IntWalk.i64_in _ (by omega)]; omega
      have HDA := Lib.hid (args_at (cl := cleanB b base (viewP args r)) (rec := goodB b base (viewP args r) args (c : Int)) (vars := viewP args r) hlt hlt2)
      obtain ⟨bX, oX, kX, us, he, hcapX, hcmX, g0, g1, g2, g3⟩ := AJ.out.pos (by omega)
      cases he
      obtain ⟨y0, y1, y2, y3⟩ := And.intro (g0 j hlt2) (And.intro (g1 j hlt2) (And.intro (g2 j hlt2) (g3 j hlt2)))
      obtain ⟨au, cu, hau⟩ := y3.shape
      rw [hau] at y2 y3
      have Y3 := Lib.hid y3
      have HY := Lib.hid (And.intro y0 (And.intro y1 y2))
      clear g0 g1 g2 g3 hcapX hcmX y3 hau y0 y1 y2
      obtain ⟨bA, oA, vt, vd, vi, he, t1, t2, t3, m0, m1, m2, m3, m4, m5, m6⟩ := ARow.at MJ.out hlt
      cases he
      obtain ⟨p1, c1, rfl⟩ := t1.shape
      obtain ⟨p2, c2, rfl⟩ := t2.shape
      obtain ⟨p3, c3, rfl⟩ := t3.shape
      have TT := Lib.hid (And.intro t1 (And.intro t2 t3))
      clear t1 t2 t3
      go_upto_region 6 with (fail)
      obtain ⟨w4, hw4⟩ : ∃ w4, w4 = wr.alloc (.cells #[.bool m[j].r, .int .i64 m[j].ty.k, .int .i64 m[j].ty.n, .slice p1 m[j].ty.kids.length c1, .slice p2 m[j].dom.length c2, .int .i64 m[j].sort, .slice p3 m[j].idx.length c3] 38) := ⟨_, rfl⟩
      have Z4 : Hid (w4.heap[wr.heap.size]? = some (.cells #[.bool m[j].r, .int .i64 m[j].ty.k, .int .i64 m[j].ty.n, .slice p1 m[j].ty.kids.length c1, .slice p2 m[j].dom.length c2, .int .i64 m[j].sort, .slice p3 m[j].idx.length c3] 38 (0, 0))) := by unfold Hid; rw [hw4]; exact World.alloc_heap_new wr _
      have B4 : Below wr.heap.size wr w4 := by rw [hw4]; exact below_al _ _
      rw [← hw4]
      have O4 := Lib.hid (OJ.out.bel B4)
      have A4 := Lib.hid (AJ.out.bel B4 (Nat.le_refl _))
      have M4 := Lib.hid (ARow.bel B4 MJ.out)
      have HG := Lib.hid (fun W (hb : Below w4.heap.size w4 W) => sgoodfor_any b base args hla r hr c m[j] l[j] (HN.out _ (List.getElem_mem hlt2)) (IHC.out _ (List.getElem_mem hlt2)) (IHG.out _ (List.getElem_mem hlt2)) W _ _ _ _ _ _ _ (O4.out.2.1.bel hb) (((Y3.out.bel B4 (Nat.le_refl _))).bel hb (Nat.le_refl _)) ((TT.out.1.bel B4 (Nat.le_refl _)).bel hb (Nat.le_refl _)) ((TT.out.2.1.bel B4 (Nat.le_refl _)).bel hb (Nat.le_refl _)) ((TT.out.2.2.bel B4 (Nat.le_refl _)).bel hb (Nat.le_refl _)))
      have HY4 := Lib.hid (And.intro (gcell B4 HY.out.1) (And.intro (gcell B4 HY.out.2.1) (gcell B4 HY.out.2.2)))
      clear hw4 B4 OJ AJ MJ Y3 HY TT m0 m1 m2 m3 m4 m5 m6
      cases hc : argStep (cleanB b base (viewP args r)) (goodB b base (viewP args r) args (c : Int)) (viewP args r) m[j] l[j] with
      | true =>
        have HI2 := Lib.hid (fun W hb => by have h := HG.out W hb; rw [hc] at h; exact h)
        have HE2 := Lib.hid (HE.out.trans (by rw [HDA.out, hc, Bool.true_and]))
        clear hc HE HDA HG
        go_wp2_with fail
        refine wp_region_rel (by kernel_rfl) (by kernel_rfl) (by kernel_rfl) ?_
        apply RelWalk.rest
        · kernel_rfl
        · intro X0 _ W hW hcl
          obtain ⟨x0, x1, x2, x3, x4, x5, x6⟩ := O4.out.cells
          obtain ⟨z0, z1, z2, z3, z4, z5, z6⟩ := boxA7 Z4.out
          have r0 := fun q => gcell (hW q) x0
          have r1 := fun q => gcell (hW q) x1
          have r2 := fun q => gcell (hW q) x2
          have r3 := fun q => gcell (hW q) x3
          have r4 := fun q => gcell (hW q) x4
          have r5 := fun q => gcell (hW q) x5
          have r6 := fun q => gcell (hW q) x6
          have q0 := fun q => gcell (hW q) z0
          have q1 := fun q => gcell (hW q) z1
          have q2 := fun q => gcell (hW q) z2
          have q3 := fun q => gcell (hW q) z3
          have q4 := fun q => gcell (hW q) z4
          have q5 := fun q => gcell (hW q) z5
          have q6 := fun q => gcell (hW q) z6
          have p0 := fun q => gcell (hW q) HY4.out.1
          have p1 := fun q => gcell (hW q) HY4.out.2.1
          have p2 := fun q => gcell (hW q) HY4.out.2.2
          have dG := Lib.hid (fun q => into hcl (HI2.out (W q) (hW q)))
          clear x0 x1 x2 x3 x4 x5 x6 z0 z1 z2 z3 z4 z5 z6
          repeat (go_big_quiet_step (with_reducible exact dG.out _))
          exact wpQuiet_nil rfl
        intro gq w8 hg8 _
        simp only [Spread]
        have O8 := Lib.hid (O4.out.bel hg8)
        have A8 := Lib.hid (A4.out.bel hg8 (Nat.le_refl _))
        have M8 := Lib.hid (ARow.bel hg8 M4.out)
        clear hg8 O4 A4 M4 Z4
        go_wp2_with fail
        go_roundw
        case rel => exact ⟨j + 1, by omega, by go_num, HE2.out, O8.out, A8.out, M8.out⟩
        case measure => simp [RowKit.intOf] <;> omega
      | false =>
        have HI2 := Lib.hid (fun W hb => by have h := HG.out W hb; rw [hc] at h; exact h)
        have HE2 := Lib.hid (HE.out.trans (by rw [HDA.out, hc, Bool.false_and]))
        clear hc HE HDA HG
        go_wp2_with fail
        refine wp_region_rel (by kernel_rfl) (by kernel_rfl) (by kernel_rfl) ?_
        apply RelWalk.rest
        · kernel_rfl
        · intro X0 _ W hW hcl
          obtain ⟨x0, x1, x2, x3, x4, x5, x6⟩ := O4.out.cells
          obtain ⟨z0, z1, z2, z3, z4, z5, z6⟩ := boxA7 Z4.out
          have r0 := fun q => gcell (hW q) x0
          have r1 := fun q => gcell (hW q) x1
          have r2 := fun q => gcell (hW q) x2
          have r3 := fun q => gcell (hW q) x3
          have r4 := fun q => gcell (hW q) x4
          have r5 := fun q => gcell (hW q) x5
          have r6 := fun q => gcell (hW q) x6
          have q0 := fun q => gcell (hW q) z0
          have q1 := fun q => gcell (hW q) z1
          have q2 := fun q => gcell (hW q) z2
          have q3 := fun q => gcell (hW q) z3
          have q4 := fun q => gcell (hW q) z4
          have q5 := fun q => gcell (hW q) z5
          have q6 := fun q => gcell (hW q) z6
          have p0 := fun q => gcell (hW q) HY4.out.1
          have p1 := fun q => gcell (hW q) HY4.out.2.1
          have p2 := fun q => gcell (hW q) HY4.out.2.2
          have dG := Lib.hid (fun q => into hcl (HI2.out (W q) (hW q)))
          clear x0 x1 x2 x3 x4 x5 x6 z0 z1 z2 z3 z4 z5 z6
          repeat (go_big_quiet_step (with_reducible exact dG.out _))
          exact wpQuiet_nil rfl
        intro gq w8 hg8 _
        simp only [Spread]
        have O8 := Lib.hid (O4.out.bel hg8)
        clear hg8 O4 A4 M4 Z4
        go_wp2_with fail
        go_ret
        exact ⟨ret_bool HE2.out.symm, O8.out.2.2⟩
    · obtain rfl : j = m.length := by omega
      go_wp2_with fail
      go_ret
      exact ⟨ret_bool (by rw [HE.out, List.drop_length, args_nil]), OJ.out.2.2⟩
end Go.Proofs.Ytggefpkfikimiaa
/- Package posit's isGood: as the document says. No conditions but sizes. -/
namespace Go.Proofs.Ytggefpkfikimiaa
open Go.RowKit
set_option linter.unusedVariables false

theorem good_yes (b : BlkT) (base : Int) (args : List ArgT) (r : Nat) (c : Int) (t : Tm) (h : gokB args r (unspine t).1 = true) :
    goodB b base (viewP args r) args c t = (decide (((unspine t).2.length : Int) = gdomB args r (unspine t).1) && (unspine t).2.all (cleanB b base (viewP args r))) := by
  have h2 := h
  rw [gokB, Bool.and_eq_true, decide_eq_true_eq] at h2
  rw [good_var b base _ args c h2.1, h2.2, Bool.true_and, gdomB, if_pos h]
theorem good_no (b : BlkT) (base : Int) (args : List ArgT) (r : Nat) (c : Int) (t : Tm) (h : gokB args r (unspine t).1 = false) :
    goodB b base (viewP args r) args c t = ((decide ((cstB b base (unspine t).1).1 = 5) && decide ((cstB b base (unspine t).1).2 < c)) && (decide ((unspine t).2.length = (conArgs b (cstB b base (unspine t).1).2).length) && argsStep (cleanB b base (viewP args r)) (goodB b base (viewP args r) args c) (viewP args r) (conArgs b (cstB b base (unspine t).1).2) (unspine t).2)) := by
  by_cases h1 : (unspine t).1.k = 1
  · rw [gokB, decide_eq_true h1, Bool.true_and] at h
    rw [good_var b base _ args c h1, h, cstB, if_neg (by omega)]
    rfl
  · by_cases h3 : (unspine t).1.k = 3
    · rw [good_const b base _ args c h3, cstB, if_pos h3, Bool.and_assoc]
    · rw [good_none b base _ args c h1 h3, cstB, if_neg h3]
      rfl
set_option maxRecDepth 100000 in
set_option maxHeartbeats 4000000 in
theorem sgood0 (b : BlkT) (hb : blkN b ≤ 1048576) (base : Int) (args : List ArgT) (hla : args.length ≤ 1048576) (r : Nat) (hr : r ≤ 10000000) (c : Nat) (t : Tm) (hs : size t ≤ 1048576) (hf : formedB t = true)
    (ihX : ∀ u ∈ (unspine t).2, ClP b base args r u) (ihG : ∀ u ∈ (unspine t).2, GdP b base args r c u) : GdP b base args r c t := by
  intro w vs vc va v hA hT
  obtain ⟨ps, cs, pc, cc, pa, ca, rfl, rfl, rfl⟩ := hA.shape
  obtain ⟨pt, ct, rfl⟩ := hT.shape
  have O0 := onew_start w b base args (r : Int) (c : Int) _ _ _ hA
  have T0 := hT.bel O0.2.2 (Nat.le_refl _)
  have B1 := below_al (w.alloc (.cells #[.slice ps b.sorts.length cs, .slice pc b.cons.length cc, .int .i64 b.elim, .int .i64 base, .slice pa args.length ca, .int .i64 (r : Int), .int .i64 (c : Int)] 85)) (.cells #[.int .i64 t.k, .int .i64 t.n, .slice pt t.kids.length ct] 25)
  have O1 := Lib.hid (O0.bel B1)
  have HP := Lib.hid (parts_any t hs hf _ _ (T0.bel B1 (Nat.le_refl _)))
  have hl0 := unspine_sizes t
  have hl1 := length_le_sizeL (unspine t).2
  have hXl : (unspine t).2.length ≤ 1048576 := by omega
  have huf := unspine_formed t hf
  have hFF := Lib.hid huf.1
  have HXF := Lib.hid (fun u hu => (formedL_all8 huf.2 u hu))
  have HY := Lib.hid (good_yes b base args r (c : Int) t)
  have HN := Lib.hid (good_no b base args r (c : Int) t)
  clear O0 T0 B1 hA hT hl0 hl1 hf hs huf
  have IHX := Lib.hid ihX
  have IHG := Lib.hid ihG
  clear ihX ihG
  revert HP hXl hFF HXF HY HN IHX IHG
  generalize (unspine t).1 = f
  generalize (unspine t).2 = X
  intro HP hXl hFF HXF HY HN IHX IHG
  go_enter Try.func85, Try.ntmps85
  go_wp2_with fail
  refine HP.out.mono ?_
  rintro e w3 ⟨af, cf, aX, cX, rfl, hfk, hX, hb3⟩
  have O3 := Lib.hid (O1.out.bel hb3)
  have AX := Lib.hid hX
  have AF := Lib.hid (hfk.bel hb3 (Nat.le_refl _))
  clear hfk hX hb3 O1 HP
  go_upto_region 2 with (fail)
  obtain ⟨w4, hw4⟩ : ∃ w4, w4 = w3.alloc (.cells #[.int .i64 f.k, .int .i64 f.n, .slice af f.kids.length cf] 25) := ⟨_, rfl⟩
  have Z4 : Hid (w4.heap[w3.heap.size]? = some (.cells #[.int .i64 f.k, .int .i64 f.n, .slice af f.kids.length cf] 25 (0, 0))) := by unfold Hid; rw [hw4]; exact World.alloc_heap_new w3 _
  have B4 : Below w3.heap.size w3 w4 := by rw [hw4]; exact below_al _ _
  rw [← hw4]
  have O4 := Lib.hid (O3.out.bel B4)
  have A4 := Lib.hid (AX.out.bel B4 (Nat.le_refl _))
  have F4 := Lib.hid (AF.out.bel B4 (Nat.le_refl _))
  clear hw4 B4 O3 AX AF
  obtain ⟨⟨z0, z1, z2⟩, _⟩ := boxc Z4.out
  obtain ⟨x0, x1, x2, x3, x4, x5, x6⟩ := O4.out.cells
  have hI : I64 f.n := by
    have h := hFF.out
    rw [formedB_eq, Bool.and_eq_true, Bool.and_eq_true] at h
    have h2 := h.1.2
    unfold I64
    split at h2
    · rw [Bool.and_eq_true, decide_eq_true_eq, decide_eq_true_eq] at h2; omega
    · rw [decide_eq_true_eq] at h2; omega
  have HI := Lib.hid hI
  have HG := Lib.hid (sguarded_any b base args hla r hr (c : Int) f (fun h => by have := formed_leaf hFF.out (.inl h); omega) w4 _ _ _ _ O4.out.2.1 F4.out)
  clear hI
  cases hg : gokB args r f with
  | true =>
    have HE := Lib.hid (HY.out hg)
    rw [hg] at HG
    generalize gdomB args r f = dd at *
    clear HY HN hg
    go_wp2_with fail
    refine HG.out.mono ?_
    rintro e w5 ⟨rfl, hb5⟩
    have O5 := Lib.hid (O4.out.bel hb5)
    have A5 := Lib.hid (A4.out.bel hb5 (Nat.le_refl _))
    clear hb5 x0 x1 x2 x3 x4 x5 x6 z0 z1 z2 O4 A4 F4 Z4 HG
    by_cases hd : (X.length : Int) = dd
    · have HE2 := Lib.hid (HE.out.trans (show _ = X.all (cleanB b base (viewP args r)) by rw [decide_eq_true hd, Bool.true_and]))
      have hd' : ((X.length : Int) == dd) = true := by simpa using hd
      clear hd HE
      obtain ⟨x0, x1, x2, x3, x4, x5, x6⟩ := O5.out.cells
      have HC := Lib.hid (sareclean_any b base args r (c : Int) X hXl IHX.out w5 _ _ _ _ O5.out.2.1 A5.out)
      go_wp2_with fail
      refine HC.out.mono ?_
      rintro e w6 ⟨rfl, hb6⟩
      have O6 := Lib.hid (O5.out.bel hb6)
      clear hb6 x0 x1 x2 x3 x4 x5 x6 O5 A5 HC
      go_wp2_with fail
      go_ret
      exact ⟨ret_bool HE2.out.symm, O6.out.2.2⟩
    · have HE2 := Lib.hid (HE.out.trans (show _ = false by rw [decide_eq_false hd, Bool.false_and]))
      have hd' : ((X.length : Int) == dd) = false := by simpa using hd
      clear hd HE
      go_wp2_with fail
      go_ret
      exact ⟨ret_bool HE2.out.symm, O5.out.2.2⟩
  | false =>
    have HE := Lib.hid (HN.out hg)
    rw [hg] at HG
    generalize gdomB args r f = dd at *
    clear HY HN hg
    go_wp2_with fail
    refine HG.out.mono ?_
    rintro e w5 ⟨rfl, hb5⟩
    have O5 := Lib.hid (O4.out.bel hb5)
    have A5 := Lib.hid (A4.out.bel hb5 (Nat.le_refl _))
    have F5 := Lib.hid (F4.out.bel hb5 (Nat.le_refl _))
    have Z5 := Lib.hid ((hb5.block _ (Array.getElem?_eq_some_iff.1 Z4.out).1).trans Z4.out)
    clear hb5 x0 x1 x2 x3 x4 x5 x6 z0 z1 z2 O4 A4 F4 Z4 HG
    obtain ⟨⟨z0, z1, z2⟩, _⟩ := boxc Z5.out
    obtain ⟨x0, x1, x2, x3, x4, x5, x6⟩ := O5.out.cells
    have HC := Lib.hid (sconstant_any b hb base args (r : Int) (c : Int) f HI.out w5 _ _ _ _ O5.out.2.1 F5.out)
    by_cases h5 : (cstB b base f).1 = 5
    rotate_left
    · have HE2 := Lib.hid (HE.out.trans (show _ = false by rw [decide_eq_false h5, Bool.false_and, Bool.false_and]))
      have h5' : ((cstB b base f).1 == 5) = false := by simpa using h5
      obtain ⟨⟨p, q⟩, hpq⟩ : ∃ pq, cstB b base f = pq := ⟨_, rfl⟩
      rw [hpq] at HC h5'
      dsimp only at HC h5'
      clear h5 hpq HE
      go_wp2_with fail
      refine HC.out.mono ?_
      rintro e w6 ⟨rfl, hb6⟩
      have O6 := Lib.hid (O5.out.bel hb6)
      clear hb6 x0 x1 x2 x3 x4 x5 x6 z0 z1 z2 O5 A5 F5 Z5 HC
      go_wp2_with fail
      refine wp_region_rel (by kernel_rfl) (by kernel_rfl) (by kernel_rfl) ?_
      apply RelWalk.rest
      · kernel_rfl
      · intro X0 _ W hW hcl
        obtain ⟨x0, x1, x2, x3, x4, x5, x6⟩ := O6.out.cells
        have r0 := fun q => gcell (hW q) x0
        have r1 := fun q => gcell (hW q) x1
        have r2 := fun q => gcell (hW q) x2
        have r3 := fun q => gcell (hW q) x3
        have r4 := fun q => gcell (hW q) x4
        have r5 := fun q => gcell (hW q) x5
        have r6 := fun q => gcell (hW q) x6
        clear x0 x1 x2 x3 x4 x5 x6
        repeat (go_big_quiet_step (fail))
        exact wpQuiet_nil rfl
      intro gq w8 hg8 _
      simp only [Spread]
      have O8 := Lib.hid (O6.out.bel hg8)
      go_wp2_with fail
      go_ret
      exact ⟨ret_bool HE2.out.symm, O8.out.2.2⟩
    obtain ⟨j, hj, hjl, hargs, hpq⟩ : ∃ j : Nat, (cstB b base f).2 = (j : Int) ∧ ∃ hj : j < b.cons.length, conArgs b (j : Int) = b.cons[j].args ∧ cstB b base f = (5, (j : Int)) := by
      by_cases h3 : f.k = 3
      · rcases hof : ofB b base f.n with ⟨p, q⟩
        have hc : cstB b base f = (p, q) := by rw [cstB, if_pos h3, hof]
        rw [hc] at h5 ⊢
        obtain rfl : p = 5 := h5
        obtain ⟨m, rfl, hm, hl⟩ := of_con b hof
        exact ⟨m, rfl, hm, hl, rfl⟩
      · rw [cstB, if_neg h3] at h5
        exact absurd h5 (by decide)
    rw [hpq] at HC HE
    dsimp only at HC HE
    rw [decide_eq_true rfl, Bool.true_and, hargs] at HE
    clear h5 hpq hargs hj
    go_wp2_with fail
    refine HC.out.mono ?_
    rintro e w6 ⟨rfl, hb6⟩
    have O6 := Lib.hid (O5.out.bel hb6)
    have A6 := Lib.hid (A5.out.bel hb6 (Nat.le_refl _))
    clear hb6 x0 x1 x2 x3 x4 x5 x6 z0 z1 z2 O5 A5 F5 Z5 HC
    by_cases hjc : (j : Int) < (c : Int)
    rotate_left
    · have HE2 := Lib.hid (HE.out.trans (show _ = false by rw [decide_eq_false hjc, Bool.false_and]))
      have hjc2 : ¬ j < c := by omega
      have hjc3 : decide ((j : Int) < (c : Int)) = false := decide_eq_false hjc
      clear HE
      go_wp2_with fail
      refine wp_region_rel (by kernel_rfl) (by kernel_rfl) (by kernel_rfl) ?_
      apply RelWalk.rest
      · kernel_rfl
      · intro X0 _ W hW hcl
        obtain ⟨x0, x1, x2, x3, x4, x5, x6⟩ := O6.out.cells
        have r0 := fun q => gcell (hW q) x0
        have r1 := fun q => gcell (hW q) x1
        have r2 := fun q => gcell (hW q) x2
        have r3 := fun q => gcell (hW q) x3
        have r4 := fun q => gcell (hW q) x4
        have r5 := fun q => gcell (hW q) x5
        have r6 := fun q => gcell (hW q) x6
        clear x0 x1 x2 x3 x4 x5 x6
        repeat (go_big_quiet_step (fail))
        exact wpQuiet_nil rfl
      intro gq w8 hg8 _
      simp only [Spread]
      have O8 := Lib.hid (O6.out.bel hg8)
      go_wp2_with fail
      go_ret
      exact ⟨ret_bool HE2.out.symm, O8.out.2.2⟩
    have HE1 := Lib.hid (HE.out.trans (by rw [decide_eq_true hjc, Bool.true_and]))
    clear HE
    obtain ⟨bC, oC, vx, vi, vt, he, gA, gI, gT, s0, s1, s2, s3, s4, s5⟩ := CRow.at O6.out.2.1.1.2 hjl
    cases he
    obtain ⟨pM, cM, rfl⟩ := gA.shape
    have MR := Lib.hid gA
    have HS := Lib.hid s1
    have hmi : (j : Int) < (b.cons.length : Int) := by omega
    have hm0 : (0 : Int) ≤ (j : Int) := by omega
    have hml : b.cons[j].args.length ≤ 1048576 := by
      have h1 := argsN_len b.cons[j].args
      have h2 := conN_le (List.getElem_mem hjl)
      have h3 : argsN b.cons[j].args ≤ conN b.cons[j] := by unfold conN; omega
      have h4 : consN b.cons ≤ blkN b := by unfold blkN; omega
      omega
    have HR := Lib.hid (fun W (hbw : Below w6.heap.size w6 W) => saregood_any b base args hla r hr c b.cons[j].args hml X hXl (fun u hu h => by have := formed_leaf (HXF.out u hu) (.inl h); omega) IHX.out IHG.out W _ _ _ _ _ (O6.out.2.1.bel hbw) (ARow.bel hbw MR.out) (A6.out.bel hbw (Nat.le_refl _)))
    revert HE1 HR
    generalize (decide (X.length = b.cons[j].args.length) && argsStep (cleanB b base (viewP args r)) (goodB b base (viewP args r) args (c : Int)) (viewP args r) b.cons[j].args X) = RES
    intro HE1 HR
    have HE2 := HE1
    clear s0 s1 s2 s3 s4 s5 gT gI gA hml
    go_wp2_with fail
    refine wp_region_rel (by kernel_rfl) (by kernel_rfl) (by kernel_rfl) ?_
    apply RelWalk.rest
    · kernel_rfl
    · intro X0 _ W hW hcl
      obtain ⟨x0, x1, x2, x3, x4, x5, x6⟩ := O6.out.cells
      have r0 := fun q => gcell (hW q) x0
      have r1 := fun q => gcell (hW q) x1
      have r2 := fun q => gcell (hW q) x2
      have r3 := fun q => gcell (hW q) x3
      have r4 := fun q => gcell (hW q) x4
      have r5 := fun q => gcell (hW q) x5
      have r6 := fun q => gcell (hW q) x6
      have p0 := fun q => gcell (hW q) HS.out
      have dR := Lib.hid (fun q => into hcl (HR.out (W q) (hW q)))
      clear x0 x1 x2 x3 x4 x5 x6
      repeat (go_big_quiet_step (with_reducible exact dR.out _))
      exact wpQuiet_nil rfl
    intro gq w8 hg8 _
    simp only [Spread]
    have O8 := Lib.hid (O6.out.bel hg8)
    go_wp2_with fail
    go_ret
    exact ⟨ret_bool HE2.out.symm, O8.out.2.2⟩
/-- isGood, of any right term. -/
theorem sgood_any (b : BlkT) (base : Int) (hb : blkN b ≤ 1048576) (args : List ArgT) (hla : args.length ≤ 1048576) (c : Nat) (r : Nat) : ∀ (N : Nat) (t : Tm), size t ≤ N → formedB t = true → r + size t ≤ 1000000 → GdP b base args r c t
  | 0, t, h, _, _ => by have := size_pos t; omega
  | N + 1, t, h, hf, hr => by
    have huf := unspine_formed t hf
    have hp := size_pos t
    refine sgood0 b hb base args hla r (by omega) c t (by omega) hf (fun u hu => ?_) (fun u hu => ?_)
    · have := uns_lt hu
      exact sclean_any b base hb args hla (size u) u (Nat.le_refl _) (formedL_all8 huf.2 u hu) r (by omega)
    · have := uns_lt hu
      exact sgood_any b base hb args hla c r N u (by omega) (formedL_all8 huf.2 u hu) (by omega)
end Go.Proofs.Ytggefpkfikimiaa
/- The page's good at a guarded variable's spine. No conditions but sizes. -/
namespace Go.Proofs.Ytggefpkfikimiaa
open Go.RowKit
set_option linter.unusedVariables false

end Go.Proofs.Ytggefpkfikimiaa
/- The page's indices, where clean and good are known of the terms. No conditions but sizes. -/
namespace Go.Proofs.Ytggefpkfikimiaa
open Go.RowKit
set_option linter.unusedVariables false

theorem idx_drop {b : BlkT} {base : Int} {vars : List Int} {args : List ArgT} {c : Int} {m : List ArgT} {l : List Tm} {j : Nat} (h : j < l.length) (hm : j < m.length) :
    idxStep b base vars args c (m.drop j) (l.drop j) = ((if m[j].r then goodB b base vars args c l[j] else cleanB b base vars l[j]) && idxStep b base vars args c (m.drop (j + 1)) (l.drop (j + 1))) := by
  rw [List.drop_eq_getElem_cons h, List.drop_eq_getElem_cons hm, idxStep]
theorem idx_nil {b : BlkT} {base : Int} {vars : List Int} {args : List ArgT} {c : Int} (m : List ArgT) : idxStep b base vars args c m [] = true := by cases m <;> rfl
theorem sortIdx_at {b : BlkT} {k : Nat} (h : k < b.sorts.length) : sortIdx b (k : Int) = b.sorts[k].idx := by simp [sortIdx, List.getElem?_eq_getElem h]
end Go.Proofs.Ytggefpkfikimiaa
