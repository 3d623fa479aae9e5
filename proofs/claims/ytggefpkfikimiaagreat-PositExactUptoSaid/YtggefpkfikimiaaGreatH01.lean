/- The page's good at a constructor's spine. No conditions but sizes. -/
import Derived.Test.YtggefpkfikimiaaGreatG32
import Derived.Test.YtggefpkfikimiaaGreatG25
import Derived.Test.YtggefpkfikimiaaGreatG27
import Derived.Test.YtggefpkfikimiaaGreatG30
namespace Go.Proofs.YtggefpkfikimiaaGreat
open Go.RowKit
set_option linter.unusedVariables false

theorem of_con8 (b : BlkT) {base n : Int} {w : Int} (h : ofB b base n = (5, w)) : ∃ k : Nat, w = (k : Int) ∧ ∃ hk : k < b.cons.length, conArgs b w = b.cons[k].args := by
  by_cases hn : n < 0
  · rw [of_neg b hn] at h; simp at h
  rcases ofB_spec b base n (by omega) with ⟨v, h1 | h1 | h1 | ⟨h1, h2⟩⟩ | h1
  · rw [h] at h1; simp at h1
  · rw [h] at h1; simp at h1
  · rw [h] at h1; simp at h1
  · rw [h] at h1
    obtain rfl : w = v := by simpa using h1
    have h3 : 0 ≤ w ∧ w < (b.cons.length : Int) := by
      unfold ctorB at h2
      by_cases hc : (inZ base 0 65535 && inZ w 0 (ncB b - 1)) = true
      · simp only [Bool.and_eq_true, inZ, decide_eq_true_eq, ncB] at hc
        obtain ⟨_, h4, h5⟩ := hc
        have h5' : w ≤ (b.cons.length : Int) - 1 := of_decide_eq_true h5
        omega
      · rw [if_neg hc] at h2; omega
    refine ⟨w.toNat, by omega, by omega, ?_⟩
    rw [conArgs, List.getElem?_eq_getElem (by omega)]
    rfl
  · rw [h] at h1; simp at h1
theorem args_at8 {cl rec : Tm → Bool} {vars : List Int} {m : List ArgT} {l : List Tm} {j : Nat} (hm : j < m.length) (h : j < l.length) : argsStep cl rec vars (m.drop j) (l.drop j) = (argStep cl rec vars m[j] l[j] && argsStep cl rec vars (m.drop (j + 1)) (l.drop (j + 1))) := by
  rw [List.drop_eq_getElem_cons h, List.drop_eq_getElem_cons hm, argsStep]
theorem args_nil8 {cl rec : Tm → Bool} {vars : List Int} (l : List Tm) : argsStep cl rec vars [] l = true := by cases l <;> rfl
theorem boxd7 {W : World} {B : Nat} {ty : TypeId} {a b c d e f g : Value} (h : W.heap[B]? = some (.cells #[a, b, c, d, e, f, g] ty (0, 0))) :
    W.cell? ⟨B, 0, none⟩ = some a ∧ W.cell? ⟨B, 1, none⟩ = some b ∧ W.cell? ⟨B, 2, none⟩ = some c ∧ W.cell? ⟨B, 3, none⟩ = some d ∧ W.cell? ⟨B, 4, none⟩ = some e ∧ W.cell? ⟨B, 5, none⟩ = some f ∧ W.cell? ⟨B, 6, none⟩ = some g := by
  refine ⟨?_, ?_, ?_, ?_, ?_, ?_, ?_⟩ <;> simp [World.cell?, h]
set_option maxRecDepth 100000 in
set_option maxHeartbeats 20000000 in
theorem rgood_const (b : BlkT) (base : Int) (vars : List Int) (args : List ArgT) (c : Int) (t : Tm) (hv : vars.length ≤ 1000000) (hvo : VarsOk vars args.length) (hbl : blkN b ≤ 1048576) (hs : size t ≤ 1000000) (hk1 : (unspine t).1.k = 3) (hn : ∀ u ∈ (unspine t).2, u.k = 1 → 0 ≤ u.n)
    (ih2 : ∀ u ∈ (unspine t).2, ClOk b base vars args u) (ih3 : ∀ u ∈ (unspine t).2, GoOk b base vars args c u) (w : World) (vs vc vv va v : Value) (hA : PAt w b vars args vs vc vv va) (hT : At w t.kids v) :
    Calls Tryz.prog 57 #[.agg #[vs, vc, .int .i64 b.elim, .int .i64 base, vv, va], .agg #[.int .i64 t.k, .int .i64 t.n, v], .int .i64 c] w fun e w' => e = .returned (.bool (goodB b base vars args c t)) ∧ Below w.heap.size w w' := by
  obtain ⟨ps, cs, pc, cc, pv, cv, pa, ca, rfl, rfl, rfl, rfl⟩ := hA.shape
  obtain ⟨pt, ct, rfl⟩ := hT.shape
  obtain ⟨w1, hw1⟩ : ∃ w1, w1 = (w.alloc (.cells #[.slice ps b.sorts.length cs, .slice pc b.cons.length cc, .int .i64 b.elim, .int .i64 base, .slice pv vars.length cv, .slice pa args.length ca] 61)).alloc (.cells #[.int .i64 t.k, .int .i64 t.n, .slice pt t.kids.length ct] 37) := ⟨_, rfl⟩
  have O1 : Hid (OneP w w.heap.size b base vars args (.slice ps b.sorts.length cs) (.slice pc b.cons.length cc) (.slice pv vars.length cv) (.slice pa args.length ca) w1) := by
    unfold Hid; rw [hw1]
    exact (onep_start w b base vars args _ _ _ _ hA).bel (below_al _ _)
  have T1 : Hid (OneT8 (w.heap.size + 1) t (.slice pt t.kids.length ct) w1) := by
    have hn := World.alloc_heap_new (w.alloc (.cells #[.slice ps b.sorts.length cs, .slice pc b.cons.length cc, .int .i64 b.elim, .int .i64 base, .slice pv vars.length cv, .slice pa args.length ca] 61)) (.cells #[.int .i64 t.k, .int .i64 t.n, .slice pt t.kids.length ct] 37)
    rw [World.size_alloc] at hn
    have hb := O1.out.2.2
    unfold Hid
    refine ⟨by rw [hw1]; exact hn, hT.bel hb (Nat.le_refl _)⟩
  have HW := Lib.hid hw1
  clear hw1 hA hT
  have HU := Lib.hid (runspine_any t (by omega) w1 _ T1.out.2)
  have hE := good_const b base vars args c hk1
  have hXl : (unspine t).2.length ≤ 1000000 := by have h1 := unspine_sizes t; have h2 := length_le_sizeL (unspine t).2; omega
  have HV := Lib.hid hvo
  have HN := Lib.hid hn
  have IH2 := Lib.hid ih2
  have IH3 := Lib.hid ih3
  have HK1 := Lib.hid hk1
  clear hs hk1 hn hvo ih2 ih3
  revert HU HN IH2 IH3 HK1 hXl hE
  generalize (unspine t).1 = f
  generalize (unspine t).2 = X
  intro HU hE hXl HN IH2 IH3 HK1
  have HE := Lib.hid hE
  clear hE
  go_enter Tryz.func57, Tryz.ntmps57
  go_upto_region 1 with (fail)
  rw [← HW.out]
  clear HW
  obtain ⟨⟨z0, z1, z2⟩, _⟩ := boxc T1.out.1
  go_wp2_with fail
  refine HU.out.mono ?_
  rintro e w3 ⟨af, cf, aX, cX, rfl, hfk, hX, hb3⟩
  have O3 := Lib.hid (O1.out.bel hb3)
  have AX := Lib.hid hX.ats.at
  clear hfk hX hb3 O1 T1 HU z0 z1 z2
  go_upto_region 2 with (fail)
  obtain ⟨w4, hw4⟩ : ∃ w4, w4 = w3.alloc (.cells #[.int .i64 f.k, .int .i64 f.n, .slice af f.kids.length cf] 37) := ⟨_, rfl⟩
  have Z4 : Hid (w4.heap[w3.heap.size]? = some (.cells #[.int .i64 f.k, .int .i64 f.n, .slice af f.kids.length cf] 37 (0, 0))) := by unfold Hid; rw [hw4]; exact World.alloc_heap_new w3 _
  have B4 : Below w3.heap.size w3 w4 := by rw [hw4]; exact below_al _ _
  rw [← hw4]
  have O4 := Lib.hid (O3.out.bel B4)
  have A4 := Lib.hid (AX.out.bel B4 (Nat.le_refl _))
  clear hw4 B4 O3 AX
  obtain ⟨⟨z0, z1, z2⟩, _⟩ := boxc Z4.out
  obtain ⟨⟨x0, x1, x2, x3, x4, x5⟩, _⟩ := cells6 O4.out.1
  have e1 : (f.k == 1) = false := by rw [HK1.out]; rfl
  have e3 : (f.k != 3) = false := by rw [HK1.out]; rfl
  have hO := Lib.hid (rof_any b hbl base f.n w4 _ _ O4.out.2.1.1)
  rcases hof : ofB b base f.n with ⟨p, q⟩
  rw [hof] at hO HE
  dsimp only at hO HE
  by_cases hp : p = 5
  rotate_left
  · have HE2 := Lib.hid (HE.out.trans (show _ = false by rw [decide_eq_false hp, Bool.false_and, Bool.false_and, Bool.false_and]))
    have hp' : (p != 5) = true := by simpa using hp
    clear hp HE hof
    go_wp2_with fail
    refine hO.out.mono ?_
    rintro e w5 ⟨rfl, hb5⟩
    have O5 := Lib.hid (O4.out.bel hb5)
    clear x0 x1 x2 x3 x4 x5 z0 z1 z2 hb5
    go_wp2_with fail
    go_ret
    exact ⟨ret_bool HE2.out.symm, O5.out.2.2⟩
  subst hp
  obtain ⟨jn, rfl, hjn, hca⟩ := of_con8 b hof
  rw [hca] at HE
  obtain ⟨m, hm⟩ : ∃ m, b.cons[jn].args = m := ⟨_, rfl⟩
  have HE1 := Lib.hid (HE.out.trans (show _ = ((decide ((jn : Int) < c) && decide (X.length = m.length)) && argsStep (cleanB b base vars) (goodB b base vars args c) vars m X) by rw [hm, decide_eq_true rfl, Bool.true_and]))
  have HMM := Lib.hid hm
  clear HE hof hca
  go_wp2_with fail
  refine hO.out.mono ?_
  rintro e w5 ⟨rfl, hb5⟩
  have O5 := Lib.hid (O4.out.bel hb5)
  have A5 := Lib.hid (A4.out.bel hb5 (Nat.le_refl _))
  clear x0 x1 x2 x3 x4 x5 z0 z1 z2 hb5 hO O4 A4 Z4
  have hj1 : (jn : Int) < (b.cons.length : Int) := by omega
  have hj0 : (0 : Int) ≤ (jn : Int) := by omega
  by_cases hjc : (jn : Int) < c
  rotate_left
  · have HE2 := Lib.hid (HE1.out.trans (show _ = false by rw [decide_eq_false hjc, Bool.false_and, Bool.false_and]))
    have hjc' : c ≤ (jn : Int) := by omega
    clear hjc HE1 hm
    go_wp2_with fail
    go_ret
    exact ⟨ret_bool HE2.out.symm, O5.out.2.2⟩
  have hjc' : ¬ c ≤ (jn : Int) := by omega
  obtain ⟨bC, oC, vx, vi, vt, he, gA, gI, gT, s0, s1, s2, s3, s4, s5⟩ := CRow.at O5.out.2.1.1.2 hjn
  cases he
  rw [hm] at gA
  obtain ⟨pM, cM, rfl⟩ := gA.shape
  have MR := Lib.hid gA
  have HS1 := Lib.hid s1
  obtain ⟨⟨x0, x1, x2, x3, x4, x5⟩, _⟩ := cells6 O5.out.1
  clear s0 s2 s3 s4 s5 gT gI gA
  by_cases hlen : X.length = m.length
  rotate_left
  · have HE2 := Lib.hid (HE1.out.trans (show _ = false by rw [decide_eq_false hlen, Bool.and_false, Bool.false_and]))
    have hl1 : ((X.length : Int) != (m.length : Int)) = true := by simp; omega
    clear hlen HE1 hm
    go_wp2_with fail
    go_ret
    exact ⟨ret_bool HE2.out.symm, O5.out.2.2⟩
  have HE0 := Lib.hid (HE1.out.trans (show _ = argsStep (cleanB b base vars) (goodB b base vars args c) vars (m.drop 0) (X.drop 0) by rw [decide_eq_true hjc, decide_eq_true hlen, Bool.true_and]; rfl))
  have hl1 : ((X.length : Int) != (m.length : Int)) = false := by simp [hlen]
  have HLEN := Lib.hid hlen
  clear hlen HE1 hm
  go_wp2_with fail
  clear x0 x1 x2 x3 x4 x5 s1
  go_loopw [13] (fun si wr => ∃ i : Nat, i ≤ X.length ∧ si = .int .i64 i ∧ goodB b base vars args c t = argsStep (cleanB b base vars) (goodB b base vars args c) vars (m.drop i) (X.drop i) ∧ OneP w w.heap.size b base vars args (.slice ps b.sorts.length cs) (.slice (some ⟨bC, oC, none⟩) b.cons.length cc) (.slice pv vars.length cv) (.slice pa args.length ca) wr ∧ At wr X (.slice aX X.length cX) ∧ Below w5.heap.size w5 wr) (fun si _ => X.length - (RowKit.intOf si).toNat)
  case atStart => exact ⟨0, Nat.zero_le _, rfl, HE0.out, O5.out, A5.out, Below.refl _ _⟩
  case round =>
    clear O5 A5 HE0
    obtain ⟨i, hi, rfl, hE, hO, hAX, hB5⟩ := hrel
    have OJ := Lib.hid hO
    have AJ := Lib.hid hAX
    have HE := Lib.hid hE
    have HB5 := Lib.hid hB5
    clear hE hO hAX hB5
    by_cases hlt : i < X.length
    · have him : i < m.length := by have := HLEN.out; omega
      have hi1 : (i : Int) < (X.length : Int) := by omega
      have hi2 : (i : Int) < (m.length : Int) := by omega
      have hi0 : (0 : Int) ≤ (i : Int) := by omega
      have hw1 : IntKind.i64.wrap ((i : Int) + 1) = ((i + 1 : Nat) : Int) := by rw [IntWalk.i64_in _ (by omega)]; omega
      have HDA := Lib.hid (args_at8 (cl := cleanB b base vars) (rec := goodB b base vars args c) (vars := vars) him hlt)
      obtain ⟨bX, oX, kX, us, he, hcapX, hcmX, g0, g1, g2, g3⟩ := AJ.out.pos (by omega)
      cases he
      obtain ⟨y0, y1, y2, y3⟩ := And.intro (g0 i hlt) (And.intro (g1 i hlt) (And.intro (g2 i hlt) (g3 i hlt)))
      obtain ⟨au, cu, hau⟩ := y3.shape
      rw [hau] at y2 y3
      have HY := Lib.hid (And.intro y0 (And.intro y1 (And.intro y2 y3)))
      clear g0 g1 g2 g3 hcapX hcmX y0 y1 y2 y3 hau
      have MJ := Lib.hid (ARow.bel HB5.out MR.out)
      obtain ⟨bA, oA, vt2, vd2, vi2, he, t1, t2, t3, m0, m1, m2, m3, m4, m5, m6⟩ := ARow.at MJ.out him
      cases he
      obtain ⟨p1, c1, rfl⟩ := t1.shape
      obtain ⟨p2, c2, rfl⟩ := t2.shape
      obtain ⟨p3, c3, rfl⟩ := t3.shape
      have k1 := gcell HB5.out HS1.out
      obtain ⟨⟨x0, x1, x2, x3, x4, x5⟩, _⟩ := cells6 OJ.out.1
      clear t1 t2 t3
      go_upto_region 21 with (fail)
      obtain ⟨w6, hw6⟩ : ∃ w6, w6 = wr.alloc (.cells #[.bool m[i].r, .int .i64 m[i].ty.k, .int .i64 m[i].ty.n, .slice p1 m[i].ty.kids.length c1, .slice p2 m[i].dom.length c2, .int .i64 m[i].sort, .slice p3 m[i].idx.length c3] 46) := ⟨_, rfl⟩
      have Z6 : Hid (w6.heap[wr.heap.size]? = some (.cells #[.bool m[i].r, .int .i64 m[i].ty.k, .int .i64 m[i].ty.n, .slice p1 m[i].ty.kids.length c1, .slice p2 m[i].dom.length c2, .int .i64 m[i].sort, .slice p3 m[i].idx.length c3] 46 (0, 0))) := by unfold Hid; rw [hw6]; exact World.alloc_heap_new wr _
      have B6 : Below wr.heap.size wr w6 := by rw [hw6]; exact below_al _ _
      rw [← hw6]
      have O6 := Lib.hid (OJ.out.bel B6)
      have A6 := Lib.hid (AJ.out.bel B6 (Nat.le_refl _))
      have B56 := Lib.hid (HB5.out.trans (B6.mono HB5.out.size))
      have HY6 := Lib.hid (And.intro (gcell B6 HY.out.1) (And.intro (gcell B6 HY.out.2.1) (And.intro (gcell B6 HY.out.2.2.1) (HY.out.2.2.2.bel B6 (Nat.le_refl _)))))
      clear hw6 B6 OJ AJ HY HB5 MJ m0 m1 m2 m3 m4 m5 m6 k1 x0 x1 x2 x3 x4 x5
      cases hr : m[i].r with
      | false =>
        rw [hr] at Z6
        have HI := Lib.hid (IH2.out X[i] (List.getElem_mem hlt))
        have HST := Lib.hid (show argStep (cleanB b base vars) (goodB b base vars args c) vars m[i] X[i] = cleanB b base vars X[i] by rw [argStep, hr]; rfl)
        clear hr
        cases hc : cleanB b base vars X[i] with
        | true =>
          have HI2 := Lib.hid (fun W vs vc vv va v h1 h2 => by have h := HI.out W vs vc vv va v h1 h2; rw [hc] at h; exact h)
          have HE2 := Lib.hid (HE.out.trans (show _ = argsStep (cleanB b base vars) (goodB b base vars args c) vars (m.drop (i + 1)) (X.drop (i + 1)) by rw [HDA.out, HST.out, hc, Bool.true_and]))
          clear hc HE HDA HST HI
          go_wp2_with fail
          refine wp_region_rel (by kernel_rfl) (by kernel_rfl) (by kernel_rfl) ?_
          apply RelWalk.rest
          · kernel_rfl
          · intro X0 _ W hW hcl
            obtain ⟨⟨x0, x1, x2, x3, x4, x5⟩, _⟩ := cells6 O6.out.1
            obtain ⟨z0, z1, z2, z3, z4, z5, z6⟩ := boxd7 Z6.out
            have r0 := fun q => gcell (hW q) x0
            have r1 := fun q => gcell (hW q) x1
            have r2 := fun q => gcell (hW q) x2
            have r3 := fun q => gcell (hW q) x3
            have r4 := fun q => gcell (hW q) x4
            have r5 := fun q => gcell (hW q) x5
            have q0 := fun q => gcell (hW q) z0
            have q4 := fun q => gcell (hW q) z4
            have p0 := fun q => gcell (hW q) HY6.out.1
            have p1 := fun q => gcell (hW q) HY6.out.2.1
            have p2 := fun q => gcell (hW q) HY6.out.2.2.1
            have dC := Lib.hid (fun q => into hcl (HI2.out (W q) _ _ _ _ _ (O6.out.2.1.bel (hW q)) (HY6.out.2.2.2.bel (hW q) (Nat.le_refl _))))
            clear x0 x1 x2 x3 x4 x5 z0 z1 z2 z3 z4 z5 z6
            repeat (go_big_quiet_step (with_reducible exact dC.out _))
            exact wpQuiet_nil rfl
          intro gq w8 hg8 _
          simp only [Spread]
          have O8 := Lib.hid (O6.out.bel hg8)
          have A8 := Lib.hid (A6.out.bel hg8 (Nat.le_refl _))
          have B8 := Lib.hid (B56.out.trans (hg8.mono B56.out.size))
          clear hg8 O6 A6 Z6 B56 HY6
          go_wp2_with fail
          go_roundw
          case rel => exact ⟨i + 1, by omega, by go_num, HE2.out, O8.out, A8.out, B8.out⟩
          case measure => simp [RowKit.intOf] <;> omega
        | false =>
          have HI2 := Lib.hid (fun W vs vc vv va v h1 h2 => by have h := HI.out W vs vc vv va v h1 h2; rw [hc] at h; exact h)
          have HE2 := Lib.hid (HE.out.trans (show _ = false by rw [HDA.out, HST.out, hc, Bool.false_and]))
          clear hc HE HDA HST HI
          go_wp2_with fail
          refine wp_region_rel (by kernel_rfl) (by kernel_rfl) (by kernel_rfl) ?_
          apply RelWalk.rest
          · kernel_rfl
          · intro X0 _ W hW hcl
            obtain ⟨⟨x0, x1, x2, x3, x4, x5⟩, _⟩ := cells6 O6.out.1
            obtain ⟨z0, z1, z2, z3, z4, z5, z6⟩ := boxd7 Z6.out
            have r0 := fun q => gcell (hW q) x0
            have r1 := fun q => gcell (hW q) x1
            have r2 := fun q => gcell (hW q) x2
            have r3 := fun q => gcell (hW q) x3
            have r4 := fun q => gcell (hW q) x4
            have r5 := fun q => gcell (hW q) x5
            have q0 := fun q => gcell (hW q) z0
            have q4 := fun q => gcell (hW q) z4
            have p0 := fun q => gcell (hW q) HY6.out.1
            have p1 := fun q => gcell (hW q) HY6.out.2.1
            have p2 := fun q => gcell (hW q) HY6.out.2.2.1
            have dC := Lib.hid (fun q => into hcl (HI2.out (W q) _ _ _ _ _ (O6.out.2.1.bel (hW q)) (HY6.out.2.2.2.bel (hW q) (Nat.le_refl _))))
            clear x0 x1 x2 x3 x4 x5 z0 z1 z2 z3 z4 z5 z6
            repeat (go_big_quiet_step (with_reducible exact dC.out _))
            exact wpQuiet_nil rfl
          intro gq w8 hg8 _
          simp only [Spread]
          have O8 := Lib.hid (O6.out.bel hg8)
          clear hg8 O6 A6 Z6 B56 HY6
          go_wp2_with fail
          go_ret
          exact ⟨ret_bool HE2.out.symm, O8.out.2.2⟩
      | true =>
        rw [hr] at Z6
        by_cases hd : m[i].dom.length = 0
        · have HI := Lib.hid (IH3.out X[i] (List.getElem_mem hlt))
          have HST := Lib.hid (show argStep (cleanB b base vars) (goodB b base vars args c) vars m[i] X[i] = goodB b base vars args c X[i] by rw [argStep, hr, if_pos hd]; rfl)
          rw [hd] at Z6
          clear hr hd
          cases hc : goodB b base vars args c X[i] with
          | true =>
            have HI2 := Lib.hid (fun W vs vc vv va v h1 h2 => by have h := HI.out W vs vc vv va v h1 h2; rw [hc] at h; exact h)
            have HE2 := Lib.hid (HE.out.trans (show _ = argsStep (cleanB b base vars) (goodB b base vars args c) vars (m.drop (i + 1)) (X.drop (i + 1)) by rw [HDA.out, HST.out, hc, Bool.true_and]))
            clear hc HE HDA HST HI
            go_wp2_with fail
            refine wp_region_rel (by kernel_rfl) (by kernel_rfl) (by kernel_rfl) ?_
            apply RelWalk.rest
            · kernel_rfl
            · intro X0 _ W hW hcl
              obtain ⟨⟨x0, x1, x2, x3, x4, x5⟩, _⟩ := cells6 O6.out.1
              obtain ⟨z0, z1, z2, z3, z4, z5, z6⟩ := boxd7 Z6.out
              have r0 := fun q => gcell (hW q) x0
              have r1 := fun q => gcell (hW q) x1
              have r2 := fun q => gcell (hW q) x2
              have r3 := fun q => gcell (hW q) x3
              have r4 := fun q => gcell (hW q) x4
              have r5 := fun q => gcell (hW q) x5
              have q0 := fun q => gcell (hW q) z0
              have q4 := fun q => gcell (hW q) z4
              have p0 := fun q => gcell (hW q) HY6.out.1
              have p1 := fun q => gcell (hW q) HY6.out.2.1
              have p2 := fun q => gcell (hW q) HY6.out.2.2.1
              have dC := Lib.hid (fun q => into hcl (HI2.out (W q) _ _ _ _ _ (O6.out.2.1.bel (hW q)) (HY6.out.2.2.2.bel (hW q) (Nat.le_refl _))))
              clear x0 x1 x2 x3 x4 x5 z0 z1 z2 z3 z4 z5 z6
              repeat (go_big_quiet_step (with_reducible exact dC.out _))
              exact wpQuiet_nil rfl
            intro gq w8 hg8 _
            simp only [Spread]
            have O8 := Lib.hid (O6.out.bel hg8)
            have A8 := Lib.hid (A6.out.bel hg8 (Nat.le_refl _))
            have B8 := Lib.hid (B56.out.trans (hg8.mono B56.out.size))
            clear hg8 O6 A6 Z6 B56 HY6
            go_wp2_with fail
            go_roundw
            case rel => exact ⟨i + 1, by omega, by go_num, HE2.out, O8.out, A8.out, B8.out⟩
            case measure => simp [RowKit.intOf] <;> omega
          | false =>
            have HI2 := Lib.hid (fun W vs vc vv va v h1 h2 => by have h := HI.out W vs vc vv va v h1 h2; rw [hc] at h; exact h)
            have HE2 := Lib.hid (HE.out.trans (show _ = false by rw [HDA.out, HST.out, hc, Bool.false_and]))
            clear hc HE HDA HST HI
            go_wp2_with fail
            refine wp_region_rel (by kernel_rfl) (by kernel_rfl) (by kernel_rfl) ?_
            apply RelWalk.rest
            · kernel_rfl
            · intro X0 _ W hW hcl
              obtain ⟨⟨x0, x1, x2, x3, x4, x5⟩, _⟩ := cells6 O6.out.1
              obtain ⟨z0, z1, z2, z3, z4, z5, z6⟩ := boxd7 Z6.out
              have r0 := fun q => gcell (hW q) x0
              have r1 := fun q => gcell (hW q) x1
              have r2 := fun q => gcell (hW q) x2
              have r3 := fun q => gcell (hW q) x3
              have r4 := fun q => gcell (hW q) x4
              have r5 := fun q => gcell (hW q) x5
              have q0 := fun q => gcell (hW q) z0
              have q4 := fun q => gcell (hW q) z4
              have p0 := fun q => gcell (hW q) HY6.out.1
              have p1 := fun q => gcell (hW q) HY6.out.2.1
              have p2 := fun q => gcell (hW q) HY6.out.2.2.1
              have dC := Lib.hid (fun q => into hcl (HI2.out (W q) _ _ _ _ _ (O6.out.2.1.bel (hW q)) (HY6.out.2.2.2.bel (hW q) (Nat.le_refl _))))
              clear x0 x1 x2 x3 x4 x5 z0 z1 z2 z3 z4 z5 z6
              repeat (go_big_quiet_step (with_reducible exact dC.out _))
              exact wpQuiet_nil rfl
            intro gq w8 hg8 _
            simp only [Spread]
            have O8 := Lib.hid (O6.out.bel hg8)
            clear hg8 O6 A6 Z6 B56 HY6
            go_wp2_with fail
            go_ret
            exact ⟨ret_bool HE2.out.symm, O8.out.2.2⟩
        · have HST := Lib.hid (show argStep (cleanB b base vars) (goodB b base vars args c) vars m[i] X[i] = (decide (X[i].k = 1) && decide (0 ≤ guardP vars X[i].n)) by rw [argStep, hr, if_neg hd]; rfl)
          obtain ⟨DL, hDL⟩ : ∃ DL, m[i].dom.length = DL := ⟨_, rfl⟩
          rw [hDL] at Z6 hd
          have hd1 : ¬ (DL : Int) = 0 := by omega
          have hd2 : ((DL : Int) == 0) = false := by simpa using hd1
          have hd3 : (0 : Int) < (DL : Int) := by omega
          have hd4 : 0 < DL := by omega
          clear hr hDL hd
          by_cases hu : X[i].k = 1
          rotate_left
          · have HE2 := Lib.hid (HE.out.trans (show _ = false by rw [HDA.out, HST.out, decide_eq_false hu, Bool.false_and, Bool.false_and]))
            have hu1 : (X[i].k == 1) = false := by simpa using hu
            have HI2 := Lib.hid trivial
            clear hu HE HDA HST
            go_wp2_with fail
            refine wp_region_rel (by kernel_rfl) (by kernel_rfl) (by kernel_rfl) ?_
            apply RelWalk.rest
            · kernel_rfl
            · intro X0 _ W hW hcl
              obtain ⟨⟨x0, x1, x2, x3, x4, x5⟩, _⟩ := cells6 O6.out.1
              obtain ⟨z0, z1, z2, z3, z4, z5, z6⟩ := boxd7 Z6.out
              have r0 := fun q => gcell (hW q) x0
              have r1 := fun q => gcell (hW q) x1
              have r2 := fun q => gcell (hW q) x2
              have r3 := fun q => gcell (hW q) x3
              have r4 := fun q => gcell (hW q) x4
              have r5 := fun q => gcell (hW q) x5
              have q0 := fun q => gcell (hW q) z0
              have q4 := fun q => gcell (hW q) z4
              have p0 := fun q => gcell (hW q) HY6.out.1
              have p1 := fun q => gcell (hW q) HY6.out.2.1
              have p2 := fun q => gcell (hW q) HY6.out.2.2.1
              clear x0 x1 x2 x3 x4 x5 z0 z1 z2 z3 z4 z5 z6
              repeat (go_big_quiet_step (fail))
              exact wpQuiet_nil rfl
            intro gq w8 hg8 _
            simp only [Spread]
            have O8 := Lib.hid (O6.out.bel hg8)
            clear hg8 O6 A6 Z6 B56 HY6
            go_wp2_with fail
            go_ret
            exact ⟨ret_bool HE2.out.symm, O8.out.2.2⟩
          have hu1 : (X[i].k == 1) = true := by simpa using hu
          have HGV := Lib.hid (fun W vs vc vv va h => rguarded_any b base vars args (by omega) X[i].n (HN.out _ (List.getElem_mem hlt) hu) W vs vc vv va h)
          by_cases hg : 0 ≤ guardP vars X[i].n
          · have HE2 := Lib.hid (HE.out.trans (show _ = argsStep (cleanB b base vars) (goodB b base vars args c) vars (m.drop (i + 1)) (X.drop (i + 1)) by rw [HDA.out, HST.out, decide_eq_true hu, decide_eq_true hg, Bool.true_and, Bool.true_and]))
            revert HGV hg
            generalize guardP vars X[i].n = gg
            intro HGV hg
            clear hu HE HDA HST
            go_wp2_with fail
            refine wp_region_rel (by kernel_rfl) (by kernel_rfl) (by kernel_rfl) ?_
            apply RelWalk.rest
            · kernel_rfl
            · intro X0 _ W hW hcl
              obtain ⟨⟨x0, x1, x2, x3, x4, x5⟩, _⟩ := cells6 O6.out.1
              obtain ⟨z0, z1, z2, z3, z4, z5, z6⟩ := boxd7 Z6.out
              have r0 := fun q => gcell (hW q) x0
              have r1 := fun q => gcell (hW q) x1
              have r2 := fun q => gcell (hW q) x2
              have r3 := fun q => gcell (hW q) x3
              have r4 := fun q => gcell (hW q) x4
              have r5 := fun q => gcell (hW q) x5
              have q0 := fun q => gcell (hW q) z0
              have q4 := fun q => gcell (hW q) z4
              have p0 := fun q => gcell (hW q) HY6.out.1
              have p1 := fun q => gcell (hW q) HY6.out.2.1
              have p2 := fun q => gcell (hW q) HY6.out.2.2.1
              have dC := Lib.hid (fun q => into hcl (HGV.out (W q) _ _ _ _ (O6.out.2.1.bel (hW q))))
              clear x0 x1 x2 x3 x4 x5 z0 z1 z2 z3 z4 z5 z6
              repeat (go_big_quiet_step (with_reducible exact dC.out _))
              exact wpQuiet_nil rfl
            intro gq w8 hg8 _
            simp only [Spread]
            have O8 := Lib.hid (O6.out.bel hg8)
            have A8 := Lib.hid (A6.out.bel hg8 (Nat.le_refl _))
            have B8 := Lib.hid (B56.out.trans (hg8.mono B56.out.size))
            clear hg8 O6 A6 Z6 B56 HY6
            go_wp2_with fail
            go_roundw
            case rel => exact ⟨i + 1, by omega, by go_num, HE2.out, O8.out, A8.out, B8.out⟩
            case measure => simp [RowKit.intOf] <;> omega
          · have HE2 := Lib.hid (HE.out.trans (show _ = false by rw [HDA.out, HST.out, decide_eq_false hg, Bool.and_false, Bool.false_and]))
            have hg2 : guardP vars X[i].n = -1 := by
              rcases guard_range (n := X[i].n) HV.out with h | h
              · exact h
              · omega
            rw [hg2] at HGV
            clear hu HE HDA HST hg hg2
            go_wp2_with fail
            refine wp_region_rel (by kernel_rfl) (by kernel_rfl) (by kernel_rfl) ?_
            apply RelWalk.rest
            · kernel_rfl
            · intro X0 _ W hW hcl
              obtain ⟨⟨x0, x1, x2, x3, x4, x5⟩, _⟩ := cells6 O6.out.1
              obtain ⟨z0, z1, z2, z3, z4, z5, z6⟩ := boxd7 Z6.out
              have r0 := fun q => gcell (hW q) x0
              have r1 := fun q => gcell (hW q) x1
              have r2 := fun q => gcell (hW q) x2
              have r3 := fun q => gcell (hW q) x3
              have r4 := fun q => gcell (hW q) x4
              have r5 := fun q => gcell (hW q) x5
              have q0 := fun q => gcell (hW q) z0
              have q4 := fun q => gcell (hW q) z4
              have p0 := fun q => gcell (hW q) HY6.out.1
              have p1 := fun q => gcell (hW q) HY6.out.2.1
              have p2 := fun q => gcell (hW q) HY6.out.2.2.1
              have dC := Lib.hid (fun q => into hcl (HGV.out (W q) _ _ _ _ (O6.out.2.1.bel (hW q))))
              clear x0 x1 x2 x3 x4 x5 z0 z1 z2 z3 z4 z5 z6
              repeat (go_big_quiet_step (with_reducible exact dC.out _))
              exact wpQuiet_nil rfl
            intro gq w8 hg8 _
            simp only [Spread]
            have O8 := Lib.hid (O6.out.bel hg8)
            clear hg8 O6 A6 Z6 B56 HY6
            go_wp2_with fail
            go_ret
            exact ⟨ret_bool HE2.out.symm, O8.out.2.2⟩
    · obtain rfl : i = X.length := by omega
      go_wp2_with fail
      go_ret
      exact ⟨ret_bool (by rw [HE.out, HLEN.out, List.drop_length, args_nil8]), OJ.out.2.2⟩
end Go.Proofs.YtggefpkfikimiaaGreat
/- The page's good, whole. No conditions but sizes. -/
namespace Go.Proofs.YtggefpkfikimiaaGreat
open Go.RowKit
set_option linter.unusedVariables false

theorem formed_leaf8 {t : Tm} (h : formedB t = true) (hk : t.k = 1 ∨ t.k = 3) : t.kids = [] ∧ 0 ≤ t.n ∧ t.n ≤ 65535 := by
  rw [formedB_eq, Bool.and_eq_true, Bool.and_eq_true, decide_eq_true_eq] at h
  have h0 : kidsI t.k = 0 := by rcases hk with h | h <;> rw [h] <;> decide
  have hl : t.kids.length = 0 := by omega
  have h2 := h.1.2
  rw [if_pos hl, Bool.and_eq_true, decide_eq_true_eq, decide_eq_true_eq] at h2
  exact ⟨List.eq_nil_of_length_eq_zero hl, h2.1, h2.2⟩
set_option maxRecDepth 100000 in
set_option maxHeartbeats 2000000 in
theorem rgood_none (b : BlkT) (base : Int) (vars : List Int) (args : List ArgT) (c : Int) (t : Tm) (hv : vars.length ≤ 1000000) (hvo : VarsOk vars args.length) (hbl : blkN b ≤ 1048576) (hs : size t ≤ 1000000) (hk1 : (unspine t).1.k ≠ 1) (hk3 : (unspine t).1.k ≠ 3) (w : World) (vs vc vv va v : Value) (hA : PAt w b vars args vs vc vv va) (hT : At w t.kids v) :
    Calls Tryz.prog 57 #[.agg #[vs, vc, .int .i64 b.elim, .int .i64 base, vv, va], .agg #[.int .i64 t.k, .int .i64 t.n, v], .int .i64 c] w fun e w' => e = .returned (.bool (goodB b base vars args c t)) ∧ Below w.heap.size w w' := by
  obtain ⟨ps, cs, pc, cc, pv, cv, pa, ca, rfl, rfl, rfl, rfl⟩ := hA.shape
  obtain ⟨pt, ct, rfl⟩ := hT.shape
  obtain ⟨w1, hw1⟩ : ∃ w1, w1 = (w.alloc (.cells #[.slice ps b.sorts.length cs, .slice pc b.cons.length cc, .int .i64 b.elim, .int .i64 base, .slice pv vars.length cv, .slice pa args.length ca] 61)).alloc (.cells #[.int .i64 t.k, .int .i64 t.n, .slice pt t.kids.length ct] 37) := ⟨_, rfl⟩
  have O1 : Hid (OneP w w.heap.size b base vars args (.slice ps b.sorts.length cs) (.slice pc b.cons.length cc) (.slice pv vars.length cv) (.slice pa args.length ca) w1) := by
    unfold Hid; rw [hw1]
    exact (onep_start w b base vars args _ _ _ _ hA).bel (below_al _ _)
  have T1 : Hid (OneT8 (w.heap.size + 1) t (.slice pt t.kids.length ct) w1) := by
    have hn := World.alloc_heap_new (w.alloc (.cells #[.slice ps b.sorts.length cs, .slice pc b.cons.length cc, .int .i64 b.elim, .int .i64 base, .slice pv vars.length cv, .slice pa args.length ca] 61)) (.cells #[.int .i64 t.k, .int .i64 t.n, .slice pt t.kids.length ct] 37)
    rw [World.size_alloc] at hn
    have hb := O1.out.2.2
    unfold Hid
    refine ⟨by rw [hw1]; exact hn, hT.bel hb (Nat.le_refl _)⟩
  have HW := Lib.hid hw1
  clear hw1 hA hT
  have HU := Lib.hid (runspine_any t (by omega) w1 _ T1.out.2)
  have hE := good_none b base vars args c hk1 hk3
  have hXl : (unspine t).2.length ≤ 1000000 := by have h1 := unspine_sizes t; have h2 := length_le_sizeL (unspine t).2; omega
  have HK1 := Lib.hid hk1
  have HK3 := Lib.hid hk3
  clear hs hk1 hk3 hvo
  revert HU HK1 HK3 hXl hE
  generalize (unspine t).1 = f
  generalize (unspine t).2 = X
  intro HU hE hXl HK1 HK3
  have HE := Lib.hid hE
  clear hE
  go_enter Tryz.func57, Tryz.ntmps57
  go_upto_region 1 with (fail)
  rw [← HW.out]
  clear HW
  obtain ⟨⟨z0, z1, z2⟩, _⟩ := boxc T1.out.1
  go_wp2_with fail
  refine HU.out.mono ?_
  rintro e w3 ⟨af, cf, aX, cX, rfl, hfk, hX, hb3⟩
  have O3 := Lib.hid (O1.out.bel hb3)
  have AX := Lib.hid hX.ats.at
  clear hfk hX hb3 O1 T1 HU z0 z1 z2
  go_upto_region 2 with (fail)
  obtain ⟨w4, hw4⟩ : ∃ w4, w4 = w3.alloc (.cells #[.int .i64 f.k, .int .i64 f.n, .slice af f.kids.length cf] 37) := ⟨_, rfl⟩
  have Z4 : Hid (w4.heap[w3.heap.size]? = some (.cells #[.int .i64 f.k, .int .i64 f.n, .slice af f.kids.length cf] 37 (0, 0))) := by unfold Hid; rw [hw4]; exact World.alloc_heap_new w3 _
  have B4 : Below w3.heap.size w3 w4 := by rw [hw4]; exact below_al _ _
  rw [← hw4]
  have O4 := Lib.hid (O3.out.bel B4)
  have A4 := Lib.hid (AX.out.bel B4 (Nat.le_refl _))
  clear hw4 B4 O3 AX
  obtain ⟨⟨z0, z1, z2⟩, _⟩ := boxc Z4.out
  obtain ⟨⟨x0, x1, x2, x3, x4, x5⟩, _⟩ := cells6 O4.out.1
  have e1 : (f.k == 1) = false := by simpa using HK1.out
  have e3 : (f.k != 3) = true := by simpa using HK3.out
  go_wp2_with fail
  go_ret
  exact ⟨ret_bool HE.out.symm, O4.out.2.2⟩
theorem goodvar_formed {t : Tm} (h : formedB t = true) (hk : t.k = 1) : 0 ≤ t.n := (formed_leaf8 h (.inl hk)).2.1
/-- The page's good, of any right term. -/
theorem rgood_any (b : BlkT) (base : Int) (hb : blkN b ≤ 1048576) (vars : List Int) (args : List ArgT) (hv : vars.length ≤ 900000) (hvo : VarsOk vars args.length) (ha : ∀ a ∈ args, argN a ≤ 1000000) (c : Int) : ∀ (N : Nat) (t : Tm), size t ≤ N → formedB t = true → size t ≤ 100000 → GoOk b base vars args c t
  | 0, t, h, _, _ => by have := size_pos t; omega
  | N + 1, t, h, hf, hs => by
    have IH := rgood_any b base hb vars args hv hvo ha c N
    have huf := unspine_formed t hf
    have hX : ∀ u ∈ (unspine t).2, size u < size t ∧ formedB u = true := fun u hu => ⟨uns_lt hu, formedL_all8 huf.2 u hu⟩
    have hcl : ∀ u ∈ (unspine t).2, ClOk b base vars args u := fun u hu => rclean_any b base hb args (size u) u (Nat.le_refl _) (hX u hu).2 vars (by have := (hX u hu).1; omega) hvo
    intro w vs vc vv va v hA hT
    by_cases h1 : (unspine t).1.k = 1
    · exact rgood_var b base vars args c t (by omega) hvo ha (by omega) h1 (goodvar_formed huf.1 h1) hcl w vs vc vv va v hA hT
    by_cases h3 : (unspine t).1.k = 3
    · exact rgood_const b base vars args c t (by omega) hvo hb (by omega) h3 (fun u hu hk => goodvar_formed (hX u hu).2 hk) hcl (fun u hu => IH u (by have := (hX u hu).1; omega) (hX u hu).2 (by have := (hX u hu).1; omega)) w vs vc vv va v hA hT
    · exact rgood_none b base vars args c t (by omega) hvo hb (by omega) h1 h3 w vs vc vv va v hA hT
end Go.Proofs.YtggefpkfikimiaaGreat
