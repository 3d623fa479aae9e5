/- The page's good at a guarded variable's spine. No conditions but sizes. -/
import Derived.Test.YtggefpkfikimiaaGreatG30
import Derived.Test.YtggefpkfikimiaaGreatG31
namespace Go.Proofs.YtggefpkfikimiaaGreat
open Go.RowKit
set_option linter.unusedVariables false

set_option maxRecDepth 100000 in
set_option maxHeartbeats 2000000 in
theorem rgood_var (b : BlkT) (base : Int) (vars : List Int) (args : List ArgT) (c : Int) (t : Tm) (hv : vars.length ≤ 1000000) (hvo : VarsOk vars args.length) (ha : ∀ a ∈ args, argN a ≤ 1000000) (hs : size t ≤ 1000000) (hk1 : (unspine t).1.k = 1) (hn : 0 ≤ (unspine t).1.n)
    (ih2 : ∀ u ∈ (unspine t).2, ClOk b base vars args u) (w : World) (vs vc vv va v : Value) (hA : PAt w b vars args vs vc vv va) (hT : At w t.kids v) :
    Calls Tryz.prog 57 #[.agg #[vs, vc, .int .i64 b.elim, .int .i64 base, vv, va], .agg #[.int .i64 t.k, .int .i64 t.n, v], .int .i64 c] w fun e w' => e = .returned (.bool (goodB b base vars args c t)) ∧ Below w.heap.size w w' := by
  obtain ⟨ps, cs, pc, cc, pv, cv, pa, ca, rfl, rfl, rfl, rfl⟩ := hA.shape
  obtain ⟨pt, ct, rfl⟩ := hT.shape
  obtain ⟨w1, hw1⟩ : ∃ w1, w1 = (w.alloc (.cells #[.slice ps b.sorts.length cs, .slice pc b.cons.length cc, .int .i64 b.elim, .int .i64 base, .slice pv vars.length cv, .slice pa args.length ca] 61)).alloc (.cells #[.int .i64 t.k, .int .i64 t.n, .slice pt t.kids.length ct] 37) := ⟨_, rfl⟩
  have O1 : Hid (OneP w w.heap.size b base vars args (.slice ps b.sorts.length cs) (.slice pc b.cons.length cc) (.slice pv vars.length cv) (.slice pa args.length ca) w1) := by
    unfold Hid; rw [hw1]
    exact (onep_start w b base vars args _ _ _ _ hA).bel (below_al _ _)
  have T1 : Hid (OneT8 (w.heap.size + 1) t (.slice pt t.kids.length ct) w1) := by
    have hn := World.alloc_heap_new (w.alloc (.cells #[.slice ps b.sorts.length cs, .slice pc b.cons.length cc, .int .i64 b.elim, .int .i64 base, .slice pv vars.length cv, .slice pa args.length ca] 61)) (.cells #[.int .i64 t.k, .int .i64 t.n, .slice pt t.kids.length ct] 37)
    rw [World.size_alloc] at hn
    have hb := O1.out.2.2
    unfold Hid
    refine ⟨by rw [hw1]; exact hn, hT.bel hb (Nat.le_refl _)⟩
  have HW := Lib.hid hw1
  clear hw1 hA hT
  have HU := Lib.hid (runspine_any t (by omega) w1 _ T1.out.2)
  have hE := good_var b base vars args c hk1
  have hXl : (unspine t).2.length ≤ 1000000 := by have h1 := unspine_sizes t; have h2 := length_le_sizeL (unspine t).2; omega
  have HV := Lib.hid hvo
  have HAN := Lib.hid ha
  have HN := Lib.hid hn
  have IH2 := Lib.hid ih2
  have HK1 := Lib.hid hk1
  clear hs hk1 hn hvo ih2 ha
  revert HU HN IH2 HK1 hXl hE
  generalize (unspine t).1 = f
  generalize (unspine t).2 = X
  intro HU hE hXl HN IH2 HK1
  have HE := Lib.hid hE
  clear hE
  go_enter Tryz.func57, Tryz.ntmps57
  go_upto_region 1 with (fail)
  rw [← HW.out]
  clear HW
  obtain ⟨⟨z0, z1, z2⟩, _⟩ := boxc T1.out.1
  go_wp2_with fail
  refine HU.out.mono ?_
  rintro e w3 ⟨af, cf, aX, cX, rfl, hfk, hX, hb3⟩
  have O3 := Lib.hid (O1.out.bel hb3)
  have AX := Lib.hid hX.ats.at
  clear hfk hX hb3 O1 T1 HU z0 z1 z2
  go_upto_region 2 with (fail)
  obtain ⟨w4, hw4⟩ : ∃ w4, w4 = w3.alloc (.cells #[.int .i64 f.k, .int .i64 f.n, .slice af f.kids.length cf] 37) := ⟨_, rfl⟩
  have Z4 : Hid (w4.heap[w3.heap.size]? = some (.cells #[.int .i64 f.k, .int .i64 f.n, .slice af f.kids.length cf] 37 (0, 0))) := by unfold Hid; rw [hw4]; exact World.alloc_heap_new w3 _
  have B4 : Below w3.heap.size w3 w4 := by rw [hw4]; exact below_al _ _
  rw [← hw4]
  have O4 := Lib.hid (O3.out.bel B4)
  have A4 := Lib.hid (AX.out.bel B4 (Nat.le_refl _))
  clear hw4 B4 O3 AX
  obtain ⟨⟨z0, z1, z2⟩, _⟩ := boxc Z4.out
  obtain ⟨⟨x0, x1, x2, x3, x4, x5⟩, _⟩ := cells6 O4.out.1
  have e1 : (f.k == 1) = true := by simpa using HK1.out
  have hG := Lib.hid (rguarded_any b base vars args (by omega) f.n HN.out w4 _ _ _ _ O4.out.2.1)
  have HR := Lib.hid (guard_range (n := f.n) HV.out)
  revert hG HR HE
  generalize guardP vars f.n = gg
  intro HE hG HR
  go_wp2_with fail
  refine hG.out.mono ?_
  rintro e w5 ⟨rfl, hb5⟩
  have O5 := Lib.hid (O4.out.bel hb5)
  have A5 := Lib.hid (A4.out.bel hb5 (Nat.le_refl _))
  clear x0 x1 x2 x3 x4 x5 z0 z1 z2 hb5 hG O4 A4 Z4
  rcases HR.out with hg | ⟨hg0, hg1⟩
  · subst hg
    have HE2 := Lib.hid (HE.out.trans (show _ = false by simp))
    clear HE HR
    go_wp2_with fail
    go_ret
    exact ⟨ret_bool HE2.out.symm, O5.out.2.2⟩
  · obtain ⟨g, rfl⟩ : ∃ g : Nat, gg = (g : Int) := ⟨gg.toNat, by omega⟩
    have hg : g < args.length := by omega
    have hdl : domLen args (g : Int) = (args[g].dom.length : Int) := by simp [domLen, List.getElem?_eq_getElem hg]
    obtain ⟨bA, oA, vt, vd, vi, he, g1, g2, g3, y0, y1, y2, y3, y4, y5, y6⟩ := ARow.at O5.out.2.1.2.2 hg
    cases he
    obtain ⟨pd, cd, rfl⟩ := g2.shape
    clear g1 g2 g3 y0 y1 y2 y3 y5 y6
    obtain ⟨⟨x0, x1, x2, x3, x4, x5⟩, _⟩ := cells6 O5.out.1
    have hgn : decide ((g : Int) < 0) = false := by simp
    by_cases hl : (X.length : Int) = (args[g].dom.length : Int)
    · have HE2 := Lib.hid (HE.out.trans (show _ = (X.drop 0).all (cleanB b base vars) by rw [hdl, decide_eq_true hg0, decide_eq_true hl]; rfl))
      have hl' : ((X.length : Int) != (args[g].dom.length : Int)) = false := by simpa using hl
      clear HE HR hl hdl hg0 hg1
      go_wp2_with fail
      clear x0 x1 x2 x3 x4 x5 y4
      go_loopw [10] (fun i wr => ∃ j : Nat, j ≤ X.length ∧ i = .int .i64 j ∧ goodB b base vars args c t = (X.drop j).all (cleanB b base vars) ∧ OneP w w.heap.size b base vars args (.slice ps b.sorts.length cs) (.slice pc b.cons.length cc) (.slice pv vars.length cv) (.slice (some ⟨bA, oA, none⟩) args.length ca) wr ∧ At wr X (.slice aX X.length cX)) (fun i _ => X.length - (RowKit.intOf i).toNat)
      case atStart => exact ⟨0, Nat.zero_le _, rfl, HE2.out, O5.out, A5.out⟩
      case round =>
        clear O5 A5 HE2
        obtain ⟨j, hj, rfl, hE, hO, hAX⟩ := hrel
        have OJ := Lib.hid hO
        have AJ := Lib.hid hAX
        have HE := Lib.hid hE
        clear hE hO hAX
        by_cases hlt : j < X.length
        · have hI := Lib.hid (IH2.out X[j] (List.getElem_mem hlt))
          have hw1 : IntKind.i64.wrap ((j : Int) + 1) = ((j + 1 : Nat) : Int) := by rw [IntWalk.i64_in _ (by omega)]; omega
          have hDA : (X.drop j).all (cleanB b base vars) = (cleanB b base vars X[j] && (X.drop (j + 1)).all (cleanB b base vars)) := by rw [List.drop_eq_getElem_cons hlt, List.all_cons]
          obtain ⟨bX, oX, kX, us, he, hcapX, hcmX, g0, g1, g2, g3⟩ := AJ.out.pos (by omega)
          cases he
          have HK := Lib.hid (And.intro (g0 j hlt) (And.intro (g1 j hlt) (And.intro (g2 j hlt) (g3 j hlt))))
          clear g0 g1 g2 g3 hcapX hcmX
          by_cases hc : cleanB b base vars X[j] = true
          · have hI2 := Lib.hid (fun W vs vc vv va v h1 h2 => by have h := hI.out W vs vc vv va v h1 h2; rw [hc] at h; exact h)
            have HE2 := Lib.hid (HE.out.trans (by rw [hDA, hc, Bool.true_and]))
            clear hc hI HE hDA
            go_wp2_with fail
            refine wp_region_rel (by kernel_rfl) (by kernel_rfl) (by kernel_rfl) ?_
            apply RelWalk.rest
            · kernel_rfl
            · intro X0 _ W hW hcl
              obtain ⟨x0, x1, x2, x3, x4, x5⟩ := OJ.out.cells
              have r0 := fun q => gcell (hW q) x0
              have r1 := fun q => gcell (hW q) x1
              have r2 := fun q => gcell (hW q) x2
              have r3 := fun q => gcell (hW q) x3
              have r4 := fun q => gcell (hW q) x4
              have r5 := fun q => gcell (hW q) x5
              have q0 := fun q => gcell (hW q) HK.out.1
              have q1 := fun q => gcell (hW q) HK.out.2.1
              have q2 := fun q => gcell (hW q) HK.out.2.2.1
              have d1 := Lib.hid (fun q => into hcl (hI2.out (W q) _ _ _ _ _ (OJ.out.2.1.bel (hW q)) (HK.out.2.2.2.bel (hW q) (Nat.le_refl _))))
              clear x0 x1 x2 x3 x4 x5
              repeat (go_big_quiet_step (with_reducible exact d1.out _))
              exact wpQuiet_nil rfl
            intro gq w8 hg8 _
            simp only [Spread]
            have O8 := Lib.hid (OJ.out.bel hg8)
            have A8 := Lib.hid (AJ.out.bel hg8 (Nat.le_refl _))
            go_wp2_with fail
            go_roundw
            case rel => exact ⟨j + 1, by omega, by go_num, HE2.out, O8.out, A8.out⟩
            case measure => simp [RowKit.intOf] <;> omega
          · have hc' : cleanB b base vars X[j] = false := by simpa using hc
            have hI2 := Lib.hid (fun W vs vc vv va v h1 h2 => by have h := hI.out W vs vc vv va v h1 h2; rw [hc'] at h; exact h)
            have HE2 := Lib.hid (HE.out.trans (by rw [hDA, hc', Bool.false_and]))
            clear hc hc' hI HE hDA
            go_wp2_with fail
            refine wp_region_rel (by kernel_rfl) (by kernel_rfl) (by kernel_rfl) ?_
            apply RelWalk.rest
            · kernel_rfl
            · intro X0 _ W hW hcl
              obtain ⟨x0, x1, x2, x3, x4, x5⟩ := OJ.out.cells
              have r0 := fun q => gcell (hW q) x0
              have r1 := fun q => gcell (hW q) x1
              have r2 := fun q => gcell (hW q) x2
              have r3 := fun q => gcell (hW q) x3
              have r4 := fun q => gcell (hW q) x4
              have r5 := fun q => gcell (hW q) x5
              have q0 := fun q => gcell (hW q) HK.out.1
              have q1 := fun q => gcell (hW q) HK.out.2.1
              have q2 := fun q => gcell (hW q) HK.out.2.2.1
              have d1 := Lib.hid (fun q => into hcl (hI2.out (W q) _ _ _ _ _ (OJ.out.2.1.bel (hW q)) (HK.out.2.2.2.bel (hW q) (Nat.le_refl _))))
              clear x0 x1 x2 x3 x4 x5
              repeat (go_big_quiet_step (with_reducible exact d1.out _))
              exact wpQuiet_nil rfl
            intro gq w8 hg8 _
            simp only [Spread]
            have O8 := Lib.hid (OJ.out.bel hg8)
            have A8 := Lib.hid (AJ.out.bel hg8 (Nat.le_refl _))
            go_wp2_with fail
            go_ret
            exact ⟨ret_bool HE2.out.symm, O8.out.2.2⟩
        · obtain rfl : j = X.length := by omega
          go_wp2_with fail
          go_ret
          exact ⟨ret_bool (by rw [HE.out, List.drop_length]; rfl), OJ.out.2.2⟩
    · have HE2 := Lib.hid (HE.out.trans (show _ = false by rw [hdl, decide_eq_false hl, Bool.and_false, Bool.false_and]))
      have hl' : ((X.length : Int) != (args[g].dom.length : Int)) = true := by simpa using hl
      clear HE HR hl hdl hg0 hg1
      go_wp2_with fail
      go_ret
      exact ⟨ret_bool HE2.out.symm, O5.out.2.2⟩
end Go.Proofs.YtggefpkfikimiaaGreat
/- The page's indices, where clean and good are known of the terms. No conditions but sizes. -/
namespace Go.Proofs.YtggefpkfikimiaaGreat
open Go.RowKit
set_option linter.unusedVariables false

/-- The page's good answers as the document says. -/
def GoOk (b : BlkT) (base : Int) (vars : List Int) (args : List ArgT) (c : Int) (u : Tm) : Prop := ∀ (w : World) (vs vc vv va v : Value), PAt w b vars args vs vc vv va → At w u.kids v →
  Calls Tryz.prog 57 #[.agg #[vs, vc, .int .i64 b.elim, .int .i64 base, vv, va], .agg #[.int .i64 u.k, .int .i64 u.n, v], .int .i64 c] w fun e w' => e = .returned (.bool (goodB b base vars args c u)) ∧ Below w.heap.size w w'
theorem idx_drop {b : BlkT} {base : Int} {vars : List Int} {args : List ArgT} {c : Int} {m : List ArgT} {l : List Tm} {j : Nat} (h : j < l.length) (hm : j < m.length) :
    idxStep b base vars args c (m.drop j) (l.drop j) = ((if m[j].r then goodB b base vars args c l[j] else cleanB b base vars l[j]) && idxStep b base vars args c (m.drop (j + 1)) (l.drop (j + 1))) := by
  rw [List.drop_eq_getElem_cons h, List.drop_eq_getElem_cons hm, idxStep]
theorem idx_nil {b : BlkT} {base : Int} {vars : List Int} {args : List ArgT} {c : Int} (m : List ArgT) : idxStep b base vars args c m [] = true := by cases m <;> rfl
theorem sortIdx_at {b : BlkT} {k : Nat} (h : k < b.sorts.length) : sortIdx b (k : Int) = b.sorts[k].idx := by simp [sortIdx, List.getElem?_eq_getElem h]
set_option maxRecDepth 100000 in
set_option maxHeartbeats 2000000 in
theorem rindices_any (b : BlkT) (base : Int) (vars : List Int) (args : List ArgT) (c : Int) (k : Nat) (hk : k < b.sorts.length) (l : List Tm) (hlk : l.length = b.sorts[k].idx.length) (hl : l.length ≤ 1000000)
    (ih1 : ∀ u ∈ l, ClOk b base vars args u) (ih2 : ∀ u ∈ l, GoOk b base vars args c u) (w : World) (vs vc vv va v : Value) (hA : PAt w b vars args vs vc vv va) (hL : At w l v) :
    Calls Tryz.prog 30 #[.agg #[vs, vc, .int .i64 b.elim, .int .i64 base, vv, va], .int .i64 (k : Int), v, .int .i64 c] w fun e w' => e = .returned (.bool (indicesB b base vars args c (k : Int) l)) ∧ Below w.heap.size w w' := by
  obtain ⟨ps, cs, pc, cc, pv, cv, pa, ca, rfl, rfl, rfl, rfl⟩ := hA.shape
  obtain ⟨aL, cL, rfl⟩ := hL.shape
  obtain ⟨bS, oS, vx, vt, he, gA, gT, s0, s1, s2, s3, s4, s5⟩ := SRow.at hA.1.1 hk
  cases he
  obtain ⟨pI, cI, rfl⟩ := gA.shape
  clear s1 s2 s3 s4 s5 gT
  have O0 := Lib.hid (onep_start w b base vars args _ _ _ _ hA)
  have S0 := Lib.hid (And.intro s0 gA)
  have IH1 := Lib.hid ih1
  have IH2 := Lib.hid ih2
  have A0 := Lib.hid (hL.bel (below_al w (.cells #[.slice (some ⟨bS, oS, none⟩) b.sorts.length cs, .slice pc b.cons.length cc, .int .i64 b.elim, .int .i64 base, .slice pv vars.length cv, .slice pa args.length ca] 61)) (Nat.le_refl _))
  have HE0 := Lib.hid (show indicesB b base vars args c (k : Int) l = idxStep b base vars args c (b.sorts[k].idx.drop 0) (l.drop 0) by rw [indicesB, sortIdx_at hk]; rfl)
  clear hA hL ih1 ih2 s0 gA
  go_enter Tryz.func30, Tryz.ntmps30
  go_wp2_with fail
  revert O0 A0
  generalize w.alloc (.cells #[.slice (some ⟨bS, oS, none⟩) b.sorts.length cs, .slice pc b.cons.length cc, .int .i64 b.elim, .int .i64 base, .slice pv vars.length cv, .slice pa args.length ca] 61) = W0
  intro O0 A0
  go_loopw [9] (fun i wr => ∃ j : Nat, j ≤ l.length ∧ i = .int .i64 j ∧ indicesB b base vars args c (k : Int) l = idxStep b base vars args c (b.sorts[k].idx.drop j) (l.drop j) ∧ OneP w w.heap.size b base vars args (.slice (some ⟨bS, oS, none⟩) b.sorts.length cs) (.slice pc b.cons.length cc) (.slice pv vars.length cv) (.slice pa args.length ca) wr ∧ At wr l (.slice aL l.length cL)) (fun i _ => l.length - (RowKit.intOf i).toNat)
  case atStart => exact ⟨0, Nat.zero_le _, rfl, HE0.out, O0.out, A0.out⟩
  case round =>
    clear O0 A0 HE0
    obtain ⟨j, hj, rfl, hE, hO, hAX⟩ := hrel
    have OJ := Lib.hid hO
    have AJ := Lib.hid hAX
    have HE := Lib.hid hE
    clear hE hO hAX
    by_cases hlt : j < l.length
    · have hjm : j < b.sorts[k].idx.length := by omega
      have hw1 : IntKind.i64.wrap ((j : Int) + 1) = ((j + 1 : Nat) : Int) := by rw [IntWalk.i64_in _ (by omega)]; omega
      have HDA := Lib.hid (idx_drop (b := b) (base := base) (vars := vars) (args := args) (c := c) hlt hjm)
      obtain ⟨bX, oX, kX, us, he, hcapX, hcmX, g0, g1, g2, g3⟩ := AJ.out.pos (by omega)
      cases he
      have HK := Lib.hid (And.intro (g0 j hlt) (And.intro (g1 j hlt) (And.intro (g2 j hlt) (g3 j hlt))))
      clear g0 g1 g2 g3 hcapX hcmX
      obtain ⟨bI, oI, vt2, vd2, vi2, he, t1, t2, t3, y0, y1, y2, y3, y4, y5, y6⟩ := ARow.at (ARow.bel OJ.out.2.2 S0.out.2) hjm
      cases he
      have HK0 := Lib.hid (gcell OJ.out.2.2 S0.out.1)
      have HK1 := Lib.hid y0
      clear t1 t2 t3 y0 y1 y2 y3 y4 y5 y6
      cases hr : b.sorts[k].idx[j].r with
        | true =>
          have hI := Lib.hid (IH2.out l[j] (List.getElem_mem hlt))
          have hDA := HDA.out
          rw [hr] at hDA
          have k1 := HK1.out
          rw [hr] at k1
          have HY := Lib.hid (And.intro HK0.out k1)
          clear hr HDA HK0 HK1 k1
          by_cases hc : goodB b base vars args c l[j] = true
          · have hI2 := Lib.hid (fun W vs vc vv va v h1 h2 => by have h := hI.out W vs vc vv va v h1 h2; rw [hc] at h; exact h)
            have HE2 := Lib.hid (HE.out.trans (show _ = idxStep b base vars args c (b.sorts[k].idx.drop (j + 1)) (l.drop (j + 1)) by rw [hDA]; simp [hc]))
            clear hc hI HE hDA
            go_wp2_with fail
            refine wp_region_rel (by kernel_rfl) (by kernel_rfl) (by kernel_rfl) ?_
            apply RelWalk.rest
            · kernel_rfl
            · intro X0 _ W hW hcl
              obtain ⟨x0, x1, x2, x3, x4, x5⟩ := OJ.out.cells
              have r0 := fun q => gcell (hW q) x0
              have r1 := fun q => gcell (hW q) x1
              have r2 := fun q => gcell (hW q) x2
              have r3 := fun q => gcell (hW q) x3
              have r4 := fun q => gcell (hW q) x4
              have r5 := fun q => gcell (hW q) x5
              have q0 := fun q => gcell (hW q) HK.out.1
              have q1 := fun q => gcell (hW q) HK.out.2.1
              have q2 := fun q => gcell (hW q) HK.out.2.2.1
              have p0 := fun q => gcell (hW q) HY.out.1
              have p1 := fun q => gcell (hW q) HY.out.2
              have d1 := Lib.hid (fun q => into hcl (hI2.out (W q) _ _ _ _ _ (OJ.out.2.1.bel (hW q)) (HK.out.2.2.2.bel (hW q) (Nat.le_refl _))))
              clear x0 x1 x2 x3 x4 x5
              repeat (go_big_quiet_step (with_reducible exact d1.out _))
              exact wpQuiet_nil rfl
            intro gq w8 hg8 _
            simp only [Spread]
            have O8 := Lib.hid (OJ.out.bel hg8)
            have A8 := Lib.hid (AJ.out.bel hg8 (Nat.le_refl _))
            go_wp2_with fail
            go_roundw
            case rel => exact ⟨j + 1, by omega, by go_num, HE2.out, O8.out, A8.out⟩
            case measure => simp [RowKit.intOf] <;> omega
          · have hc' : goodB b base vars args c l[j] = false := by simpa using hc
            have hI2 := Lib.hid (fun W vs vc vv va v h1 h2 => by have h := hI.out W vs vc vv va v h1 h2; rw [hc'] at h; exact h)
            have HE2 := Lib.hid (HE.out.trans (show _ = false by rw [hDA]; simp [hc']))
            clear hc hc' hI HE hDA
            go_wp2_with fail
            refine wp_region_rel (by kernel_rfl) (by kernel_rfl) (by kernel_rfl) ?_
            apply RelWalk.rest
            · kernel_rfl
            · intro X0 _ W hW hcl
              obtain ⟨x0, x1, x2, x3, x4, x5⟩ := OJ.out.cells
              have r0 := fun q => gcell (hW q) x0
              have r1 := fun q => gcell (hW q) x1
              have r2 := fun q => gcell (hW q) x2
              have r3 := fun q => gcell (hW q) x3
              have r4 := fun q => gcell (hW q) x4
              have r5 := fun q => gcell (hW q) x5
              have q0 := fun q => gcell (hW q) HK.out.1
              have q1 := fun q => gcell (hW q) HK.out.2.1
              have q2 := fun q => gcell (hW q) HK.out.2.2.1
              have p0 := fun q => gcell (hW q) HY.out.1
              have p1 := fun q => gcell (hW q) HY.out.2
              have d1 := Lib.hid (fun q => into hcl (hI2.out (W q) _ _ _ _ _ (OJ.out.2.1.bel (hW q)) (HK.out.2.2.2.bel (hW q) (Nat.le_refl _))))
              clear x0 x1 x2 x3 x4 x5
              repeat (go_big_quiet_step (with_reducible exact d1.out _))
              exact wpQuiet_nil rfl
            intro gq w8 hg8 _
            simp only [Spread]
            have O8 := Lib.hid (OJ.out.bel hg8)
            have A8 := Lib.hid (AJ.out.bel hg8 (Nat.le_refl _))
            go_wp2_with fail
            go_ret
            exact ⟨ret_bool HE2.out.symm, O8.out.2.2⟩
        | false =>
          have hI := Lib.hid (IH1.out l[j] (List.getElem_mem hlt))
          have hDA := HDA.out
          rw [hr] at hDA
          have k1 := HK1.out
          rw [hr] at k1
          have HY := Lib.hid (And.intro HK0.out k1)
          clear hr HDA HK0 HK1 k1
          by_cases hc : cleanB b base vars l[j] = true
          · have hI2 := Lib.hid (fun W vs vc vv va v h1 h2 => by have h := hI.out W vs vc vv va v h1 h2; rw [hc] at h; exact h)
            have HE2 := Lib.hid (HE.out.trans (show _ = idxStep b base vars args c (b.sorts[k].idx.drop (j + 1)) (l.drop (j + 1)) by rw [hDA]; simp [hc]))
            clear hc hI HE hDA
            go_wp2_with fail
            refine wp_region_rel (by kernel_rfl) (by kernel_rfl) (by kernel_rfl) ?_
            apply RelWalk.rest
            · kernel_rfl
            · intro X0 _ W hW hcl
              obtain ⟨x0, x1, x2, x3, x4, x5⟩ := OJ.out.cells
              have r0 := fun q => gcell (hW q) x0
              have r1 := fun q => gcell (hW q) x1
              have r2 := fun q => gcell (hW q) x2
              have r3 := fun q => gcell (hW q) x3
              have r4 := fun q => gcell (hW q) x4
              have r5 := fun q => gcell (hW q) x5
              have q0 := fun q => gcell (hW q) HK.out.1
              have q1 := fun q => gcell (hW q) HK.out.2.1
              have q2 := fun q => gcell (hW q) HK.out.2.2.1
              have p0 := fun q => gcell (hW q) HY.out.1
              have p1 := fun q => gcell (hW q) HY.out.2
              have d1 := Lib.hid (fun q => into hcl (hI2.out (W q) _ _ _ _ _ (OJ.out.2.1.bel (hW q)) (HK.out.2.2.2.bel (hW q) (Nat.le_refl _))))
              clear x0 x1 x2 x3 x4 x5
              repeat (go_big_quiet_step (with_reducible exact d1.out _))
              exact wpQuiet_nil rfl
            intro gq w8 hg8 _
            simp only [Spread]
            have O8 := Lib.hid (OJ.out.bel hg8)
            have A8 := Lib.hid (AJ.out.bel hg8 (Nat.le_refl _))
            go_wp2_with fail
            go_roundw
            case rel => exact ⟨j + 1, by omega, by go_num, HE2.out, O8.out, A8.out⟩
            case measure => simp [RowKit.intOf] <;> omega
          · have hc' : cleanB b base vars l[j] = false := by simpa using hc
            have hI2 := Lib.hid (fun W vs vc vv va v h1 h2 => by have h := hI.out W vs vc vv va v h1 h2; rw [hc'] at h; exact h)
            have HE2 := Lib.hid (HE.out.trans (show _ = false by rw [hDA]; simp [hc']))
            clear hc hc' hI HE hDA
            go_wp2_with fail
            refine wp_region_rel (by kernel_rfl) (by kernel_rfl) (by kernel_rfl) ?_
            apply RelWalk.rest
            · kernel_rfl
            · intro X0 _ W hW hcl
              obtain ⟨x0, x1, x2, x3, x4, x5⟩ := OJ.out.cells
              have r0 := fun q => gcell (hW q) x0
              have r1 := fun q => gcell (hW q) x1
              have r2 := fun q => gcell (hW q) x2
              have r3 := fun q => gcell (hW q) x3
              have r4 := fun q => gcell (hW q) x4
              have r5 := fun q => gcell (hW q) x5
              have q0 := fun q => gcell (hW q) HK.out.1
              have q1 := fun q => gcell (hW q) HK.out.2.1
              have q2 := fun q => gcell (hW q) HK.out.2.2.1
              have p0 := fun q => gcell (hW q) HY.out.1
              have p1 := fun q => gcell (hW q) HY.out.2
              have d1 := Lib.hid (fun q => into hcl (hI2.out (W q) _ _ _ _ _ (OJ.out.2.1.bel (hW q)) (HK.out.2.2.2.bel (hW q) (Nat.le_refl _))))
              clear x0 x1 x2 x3 x4 x5
              repeat (go_big_quiet_step (with_reducible exact d1.out _))
              exact wpQuiet_nil rfl
            intro gq w8 hg8 _
            simp only [Spread]
            have O8 := Lib.hid (OJ.out.bel hg8)
            have A8 := Lib.hid (AJ.out.bel hg8 (Nat.le_refl _))
            go_wp2_with fail
            go_ret
            exact ⟨ret_bool HE2.out.symm, O8.out.2.2⟩
    · obtain rfl : j = l.length := by omega
      go_wp2_with fail
      go_ret
      exact ⟨ret_bool (by rw [HE.out, List.drop_length, idx_nil]), OJ.out.2.2⟩
end Go.Proofs.YtggefpkfikimiaaGreat
/- Package posit's takesIdx: as the document says. No conditions but sizes. -/
namespace Go.Proofs.YtggefpkfikimiaaGreat
open Go.RowKit
set_option linter.unusedVariables false

/-- A right term of a size that is borne. -/
def TermR (t : Tm) : Prop := formedB t = true ∧ size t ≤ 6000
theorem termR_clean (b : BlkT) (base : Int) (hb : blkN b ≤ 1048576) (args : List ArgT) (hla : args.length ≤ 1048576) (r : Nat) (hr : r ≤ 1000) {t : Tm} (h : TermR t) : ClP b base args r t :=
  sclean_any b base hb args hla (size t) t (Nat.le_refl _) h.1 r (by have := h.2; omega)
theorem termR_good (b : BlkT) (base : Int) (hb : blkN b ≤ 1048576) (args : List ArgT) (hla : args.length ≤ 1048576) (c r : Nat) (hr : r ≤ 1000) {t : Tm} (h : TermR t) : GdP b base args r c t :=
  sgood_any b base hb args hla c r (size t) t (Nat.le_refl _) h.1 (by have := h.2; omega)
set_option maxRecDepth 100000 in
set_option maxHeartbeats 4000000 in
theorem stakesidx_any (b : BlkT) (base : Int) (hb : blkN b ≤ 1048576) (args : List ArgT) (hla : args.length ≤ 1048576) (r : Nat) (hr0 : r ≤ 1000) (c : Nat) (k : Nat) (hk : k < b.sorts.length) (l : List Tm) (hlk : l.length = b.sorts[k].idx.length) (hl : l.length ≤ 1048576) (hT : ∀ u ∈ l, TermR u)
    (w : World) (vs vc va v : Value) (hA : VAt w b args vs vc va) (hL : At w l v) :
    Calls Tryz.prog 68 #[.agg #[vs, vc, .int .i64 b.elim, .int .i64 base, va, .int .i64 (r : Int), .int .i64 (c : Int)], .int .i64 (k : Int), v] w fun e w' => e = .returned (.bool (indicesB b base (viewP args r) args (c : Int) (k : Int) l)) ∧ Below w.heap.size w w' := by
  obtain ⟨ps, cs, pc, cc, pa, ca, rfl, rfl, rfl⟩ := hA.shape
  obtain ⟨aL, cL, rfl⟩ := hL.shape
  have O0 := Lib.hid (onew_start w b base args (r : Int) (c : Int) _ _ _ hA)
  have A0 := Lib.hid (hL.bel O0.out.2.2 (Nat.le_refl _))
  have HT := Lib.hid hT
  have HLK := Lib.hid hlk
  have HE0 := Lib.hid (show indicesB b base (viewP args r) args (c : Int) (k : Int) l = idxStep b base (viewP args r) args (c : Int) (b.sorts[k].idx.drop 0) (l.drop 0) by rw [indicesB, sortIdx_at hk]; rfl)
  have hk1 : (k : Int) < (b.sorts.length : Int) := by omega
  have hk0 : (0 : Int) ≤ (k : Int) := by omega
  clear hA hL hT hlk
  go_enter Tryz.func68, Tryz.ntmps68
  go_wp2_with fail
  revert O0 A0
  generalize w.alloc (.cells #[.slice ps b.sorts.length cs, .slice pc b.cons.length cc, .int .i64 b.elim, .int .i64 base, .slice pa args.length ca, .int .i64 (r : Int), .int .i64 (c : Int)] 78) = W0
  intro O0 A0
  go_loopw [11] (fun i wr => ∃ j : Nat, j ≤ l.length ∧ i = .int .i64 j ∧ indicesB b base (viewP args r) args (c : Int) (k : Int) l = idxStep b base (viewP args r) args (c : Int) (b.sorts[k].idx.drop j) (l.drop j) ∧ OneW w w.heap.size b base args (r : Int) (c : Int) (.slice ps b.sorts.length cs) (.slice pc b.cons.length cc) (.slice pa args.length ca) wr ∧ At wr l (.slice aL l.length cL)) (fun i _ => l.length - (RowKit.intOf i).toNat)
  case atStart => exact ⟨0, Nat.zero_le _, rfl, HE0.out, O0.out, A0.out⟩
  case round =>
    clear O0 A0 HE0
    obtain ⟨j, hj, rfl, hE, hO, hAX⟩ := hrel
    have OJ := Lib.hid hO
    have AJ := Lib.hid hAX
    have HE := Lib.hid hE
    clear hE hO hAX
    by_cases hlt : j < l.length
    · have hjm : j < b.sorts[k].idx.length := by have := HLK.out; omega
      have hj1 : (j : Int) < (b.sorts[k].idx.length : Int) := by omega
      have hj0 : (0 : Int) ≤ (j : Int) := by omega
      have hw1 : IntKind.i64.wrap ((j : Int) + 1) = ((j + 1 : Nat) : Int) := by rw [IntWalk.i64_in _ (by omega)]; omega
      have HDA := Lib.hid (idx_drop (b := b) (base := base) (vars := viewP args r) (args := args) (c := (c : Int)) hlt hjm)
      have HTJ := Lib.hid (HT.out _ (List.getElem_mem hlt))
      obtain ⟨bX, oX, kX, us, he, hcapX, hcmX, g0, g1, g2, g3⟩ := AJ.out.pos (by omega)
      cases he
      obtain ⟨y0, y1, y2, y3⟩ := And.intro (g0 j hlt) (And.intro (g1 j hlt) (And.intro (g2 j hlt) (g3 j hlt)))
      obtain ⟨au, cu, hau⟩ := y3.shape
      rw [hau] at y2 y3
      have Y3 := Lib.hid y3
      clear g0 g1 g2 g3 hcapX hcmX y3 hau
      go_upto_region 4 with (fail)
      obtain ⟨w4, hw4⟩ : ∃ w4, w4 = wr.alloc (.cells #[.int .i64 l[j].k, .int .i64 l[j].n, .slice au l[j].kids.length cu] 37) := ⟨_, rfl⟩
      have Z4 : Hid (w4.heap[wr.heap.size]? = some (.cells #[.int .i64 l[j].k, .int .i64 l[j].n, .slice au l[j].kids.length cu] 37 (0, 0))) := by unfold Hid; rw [hw4]; exact World.alloc_heap_new wr _
      have B4 : Below wr.heap.size wr w4 := by rw [hw4]; exact below_al _ _
      rw [← hw4]
      have O4 := Lib.hid (OJ.out.bel B4)
      have A4 := Lib.hid (AJ.out.bel B4 (Nat.le_refl _))
      have K4 := Lib.hid (Y3.out.bel B4 (Nat.le_refl _))
      clear hw4 B4 OJ AJ Y3 y0 y1 y2
      obtain ⟨⟨z0, z1, z2⟩, _⟩ := boxc Z4.out
      obtain ⟨x0, x1, x2, x3, x4, x5, x6⟩ := O4.out.cells
      obtain ⟨bS, oS, vx, vt, he, gA, gT, s0, s1, s2, s3, s4, s5⟩ := SRow.at O4.out.2.1.1.1 hk
      cases he
      obtain ⟨pI, cI, rfl⟩ := gA.shape
      obtain ⟨bI, oI, vt2, vd2, vi2, he, t1, t2, t3, i0, i1, i2, i3, i4, i5, i6⟩ := ARow.at gA hjm
      cases he
      clear s1 s2 s3 s4 s5 gT gA t1 t2 t3 i1 i2 i3 i4 i5 i6
      cases hr : b.sorts[k].idx[j].r with
      | true =>
        have hDA := HDA.out
        rw [hr] at hDA i0
        have HG := Lib.hid (termR_good b base hb args hla c r hr0 HTJ.out w4 _ _ _ _ O4.out.2.1 K4.out)
        cases hc : goodB b base (viewP args r) args (c : Int) l[j] with
        | true =>
          rw [hc] at HG
          have HE2 := Lib.hid (HE.out.trans (show _ = idxStep b base (viewP args r) args (c : Int) (b.sorts[k].idx.drop (j + 1)) (l.drop (j + 1)) by rw [hDA]; simp [hc]))
          clear hc HE HDA hDA hr
          go_wp2_with fail
          refine HG.out.mono ?_
          rintro e w5 ⟨rfl, hb5⟩
          have O5 := Lib.hid (O4.out.bel hb5)
          have A5 := Lib.hid (A4.out.bel hb5 (Nat.le_refl _))
          clear hb5 x0 x1 x2 x3 x4 x5 x6 z0 z1 z2 s0 i0 O4 A4 K4 Z4 HG
          go_wp2_with fail
          go_roundw
          case rel => exact ⟨j + 1, by omega, by go_num, HE2.out, O5.out, A5.out⟩
          case measure => simp [RowKit.intOf] <;> omega
        | false =>
          rw [hc] at HG
          have HE2 := Lib.hid (HE.out.trans (show _ = false by rw [hDA]; simp [hc]))
          clear hc HE HDA hDA hr
          go_wp2_with fail
          refine HG.out.mono ?_
          rintro e w5 ⟨rfl, hb5⟩
          have O5 := Lib.hid (O4.out.bel hb5)
          clear hb5 x0 x1 x2 x3 x4 x5 x6 z0 z1 z2 s0 i0 O4 A4 K4 Z4 HG
          go_wp2_with fail
          go_ret
          exact ⟨ret_bool HE2.out.symm, O5.out.2.2⟩
      | false =>
        have hDA := HDA.out
        rw [hr] at hDA i0
        have HG := Lib.hid (termR_clean b base hb args hla r hr0 HTJ.out (c : Int) w4 _ _ _ _ O4.out.2.1 K4.out)
        cases hc : cleanB b base (viewP args r) l[j] with
        | true =>
          rw [hc] at HG
          have HE2 := Lib.hid (HE.out.trans (show _ = idxStep b base (viewP args r) args (c : Int) (b.sorts[k].idx.drop (j + 1)) (l.drop (j + 1)) by rw [hDA]; simp [hc]))
          clear hc HE HDA hDA hr
          go_wp2_with fail
          refine HG.out.mono ?_
          rintro e w5 ⟨rfl, hb5⟩
          have O5 := Lib.hid (O4.out.bel hb5)
          have A5 := Lib.hid (A4.out.bel hb5 (Nat.le_refl _))
          clear hb5 x0 x1 x2 x3 x4 x5 x6 z0 z1 z2 s0 i0 O4 A4 K4 Z4 HG
          go_wp2_with fail
          go_roundw
          case rel => exact ⟨j + 1, by omega, by go_num, HE2.out, O5.out, A5.out⟩
          case measure => simp [RowKit.intOf] <;> omega
        | false =>
          rw [hc] at HG
          have HE2 := Lib.hid (HE.out.trans (show _ = false by rw [hDA]; simp [hc]))
          clear hc HE HDA hDA hr
          go_wp2_with fail
          refine HG.out.mono ?_
          rintro e w5 ⟨rfl, hb5⟩
          have O5 := Lib.hid (O4.out.bel hb5)
          clear hb5 x0 x1 x2 x3 x4 x5 x6 z0 z1 z2 s0 i0 O4 A4 K4 Z4 HG
          go_wp2_with fail
          go_ret
          exact ⟨ret_bool HE2.out.symm, O5.out.2.2⟩
    · obtain rfl : j = l.length := by omega
      go_wp2_with fail
      go_ret
      exact ⟨ret_bool (by rw [HE.out, List.drop_length, idx_nil]), OJ.out.2.2⟩
end Go.Proofs.YtggefpkfikimiaaGreat
