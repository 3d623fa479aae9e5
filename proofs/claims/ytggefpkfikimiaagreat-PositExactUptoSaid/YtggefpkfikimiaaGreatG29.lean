/- Package posit's isCleanHead and isClean, where isClean is known of the smaller terms. No conditions but sizes. -/
import Derived.Test.YtggefpkfikimiaaGreatG28
import Derived.Test.YtggefpkfikimiaaGreatG25
namespace Go.Proofs.YtggefpkfikimiaaGreat
open Go.RowKit
set_option linter.unusedVariables false

def hdB (b : BlkT) (base : Int) (args : List ArgT) (r : Nat) (t : Tm) : Bool := !gokB args r t && kidsStep (cleanB b base) (viewP args r) t.k 0 t.kids
set_option maxRecDepth 100000 in
set_option maxHeartbeats 2000000 in
theorem shead_any (b : BlkT) (base : Int) (args : List ArgT) (hla : args.length ≤ 1048576) (r : Nat) (hr : r ≤ 10000000) (c : Int) (t : Tm) (hn : t.k = 1 → 0 ≤ t.n ∧ t.n ≤ 10000000) (hl : t.kids.length ≤ 1048576)
    (ih : ∀ j (h : j < t.kids.length) (m : Nat), bindsI t.k j = (m : Int) → ClP b base args (r + m) t.kids[j]) (w : World) (vs vc va v : Value) (hA : VAt w b args vs vc va) (hT : At w t.kids v) :
    Calls Tryz.prog 78 #[.agg #[vs, vc, .int .i64 b.elim, .int .i64 base, va, .int .i64 (r : Int), .int .i64 c], .agg #[.int .i64 t.k, .int .i64 t.n, v]] w fun e w' => e = .returned (.bool (hdB b base args r t)) ∧ Below w.heap.size w w' := by
  obtain ⟨ps, cs, pc, cc, pa, ca, rfl, rfl, rfl⟩ := hA.shape
  obtain ⟨pt, ct, rfl⟩ := hT.shape
  obtain ⟨w1, hw1⟩ : ∃ w1, w1 = (w.alloc (.cells #[.slice ps b.sorts.length cs, .slice pc b.cons.length cc, .int .i64 b.elim, .int .i64 base, .slice pa args.length ca, .int .i64 (r : Int), .int .i64 c] 78)).alloc (.cells #[.int .i64 t.k, .int .i64 t.n, .slice pt t.kids.length ct] 37) := ⟨_, rfl⟩
  have O1 : Hid (OneW w w.heap.size b base args (r : Int) c (.slice ps b.sorts.length cs) (.slice pc b.cons.length cc) (.slice pa args.length ca) w1) := by
    unfold Hid; rw [hw1]
    exact (onew_start w b base args (r : Int) c _ _ _ hA).bel (below_al _ _)
  have T1 : Hid (OneT8 (w.heap.size + 1) t (.slice pt t.kids.length ct) w1) := by
    have hn := World.alloc_heap_new (w.alloc (.cells #[.slice ps b.sorts.length cs, .slice pc b.cons.length cc, .int .i64 b.elim, .int .i64 base, .slice pa args.length ca, .int .i64 (r : Int), .int .i64 c] 78)) (.cells #[.int .i64 t.k, .int .i64 t.n, .slice pt t.kids.length ct] 37)
    rw [World.size_alloc] at hn
    have hb := O1.out.2.2
    unfold Hid
    refine ⟨by rw [hw1]; exact hn, hT.bel hb (Nat.le_refl _)⟩
  have HW := Lib.hid hw1
  have HG := Lib.hid (sguarded_any b base args hla r hr c t hn w1 _ _ _ _ O1.out.2.1 T1.out.2)
  have IH := Lib.hid ih
  generalize gdomB args r t = dd at *
  clear hw1 hA hT ih hn
  go_enter Tryz.func78, Tryz.ntmps78
  go_upto_region 1 with (fail)
  rw [← HW.out]
  clear HW
  obtain ⟨x0, x1, x2, x3, x4, x5, x6⟩ := O1.out.cells
  obtain ⟨⟨z0, z1, z2⟩, _⟩ := boxc T1.out.1
  cases hg : gokB args r t with
  | true =>
    have HE := Lib.hid (show hdB b base args r t = false by rw [hdB, hg]; rfl)
    rw [hg] at HG
    clear hg
    go_wp2_with fail
    refine HG.out.mono ?_
    rintro e w5 ⟨rfl, hb5⟩
    have O5 := Lib.hid (O1.out.bel hb5)
    clear hb5 x0 x1 x2 x3 x4 x5 x6 z0 z1 z2
    go_wp2_with fail
    go_ret
    exact ⟨ret_bool HE.out.symm, O5.out.2.2⟩
  | false =>
    have HE0 := Lib.hid (show hdB b base args r t = kidsStep (cleanB b base) (viewP args r) t.k 0 (t.kids.drop 0) by rw [hdB, hg]; rfl)
    rw [hg] at HG
    clear hg
    go_wp2_with fail
    refine HG.out.mono ?_
    rintro e w5 ⟨rfl, hb5⟩
    have O5 := Lib.hid (O1.out.bel hb5)
    have T5 := Lib.hid (T1.out.bel hb5)
    clear hb5 x0 x1 x2 x3 x4 x5 x6 z0 z1 z2 O1 T1 HG
    obtain ⟨⟨z0, z1, z2⟩, _⟩ := boxc T5.out.1
    go_wp2_with fail
    clear z0 z1 z2
    go_loopw [19] (fun i wr => ∃ j : Nat, j ≤ t.kids.length ∧ i = .int .i64 j ∧ hdB b base args r t = kidsStep (cleanB b base) (viewP args r) t.k j (t.kids.drop j) ∧ OneW w w.heap.size b base args (r : Int) c (.slice ps b.sorts.length cs) (.slice pc b.cons.length cc) (.slice pa args.length ca) wr ∧ OneT8 (w.heap.size + 1) t (.slice pt t.kids.length ct) wr) (fun i _ => t.kids.length - (RowKit.intOf i).toNat)
    case atStart => exact ⟨0, Nat.zero_le _, rfl, HE0.out, O5.out, T5.out⟩
    case round =>
      clear O5 T5 HE0
      obtain ⟨j, hj, rfl, hE, hO, hT⟩ := hrel
      have OJ := Lib.hid hO
      have TJ := Lib.hid hT
      have HE := Lib.hid hE
      clear hE hO hT
      by_cases hlt : j < t.kids.length
      · have hw1 : IntKind.i64.wrap ((j : Int) + 1) = ((j + 1 : Nat) : Int) := by rw [IntWalk.i64_in _ (by omega)]; omega
        have HDA := Lib.hid (kids_at (r := cleanB b base) (vars := viewP args r) (k := t.k) hlt)
        obtain ⟨nb, hnb⟩ : ∃ nb : Nat, bindsI t.k j = (nb : Int) := ⟨(bindsI t.k j).toNat, by have := bindsI_range t.k j; omega⟩
        have hbr := bindsI_range t.k j
        obtain ⟨r2, hr2⟩ : ∃ r2 : Nat, r2 = r + nb := ⟨_, rfl⟩
        have HI := Lib.hid (show ClP b base args r2 t.kids[j] by rw [hr2]; exact IH.out j hlt nb hnb)
        have HU := Lib.hid (fun W vs vc va h => by have h0 := sunder_any b base args (r : Int) (nb : Int) c (by unfold I64; omega) W vs vc va h; rw [← Int.natCast_add, ← hr2] at h0; exact h0)
        have HBI := Lib.hid (fun W => binds_any t.k j W)
        have hcv : viewP args r2 = moreP (viewP args r) (bindsI t.k j) := by rw [hr2, hnb, view_more]
        rw [hnb] at HBI
        obtain ⟨bX, oX, kX, us, he, hcapX, hcmX, g0, g1, g2, g3⟩ := TJ.out.2.pos (by omega)
        cases he
        obtain ⟨y0, y1, y2, y3⟩ := And.intro (g0 j hlt) (And.intro (g1 j hlt) (And.intro (g2 j hlt) (g3 j hlt)))
        obtain ⟨au, cu, hau⟩ := y3.shape
        rw [hau] at y2 y3
        have Y3 := Lib.hid y3
        clear g0 g1 g2 g3 hcapX hcmX y3 hau hbr hnb hr2
        go_upto_region 7 with (fail)
        obtain ⟨w4, hw4⟩ : ∃ w4, w4 = wr.alloc (.cells #[.int .i64 t.kids[j].k, .int .i64 t.kids[j].n, .slice au t.kids[j].kids.length cu] 37) := ⟨_, rfl⟩
        have Z4 : Hid (w4.heap[wr.heap.size]? = some (.cells #[.int .i64 t.kids[j].k, .int .i64 t.kids[j].n, .slice au t.kids[j].kids.length cu] 37 (0, 0))) := by unfold Hid; rw [hw4]; exact World.alloc_heap_new wr _
        have B4 : Below wr.heap.size wr w4 := by rw [hw4]; exact below_al _ _
        rw [← hw4]
        have O4 := Lib.hid (OJ.out.bel B4)
        have T4 := Lib.hid (TJ.out.bel B4)
        have K4 := Lib.hid (Y3.out.bel B4 (Nat.le_refl _))
        clear hw4 B4 OJ TJ Y3 y0 y1 y2
        cases hc : cleanB b base (viewP args r2) t.kids[j] with
        | true =>
          have HI2 := Lib.hid (fun c W vs vc va v h1 h2 => by have h := HI.out c W vs vc va v h1 h2; rw [hc] at h; exact h)
          rw [hcv] at hc
          have HE2 := Lib.hid (HE.out.trans (by rw [HDA.out, hc, Bool.true_and]))
          clear hc HI HE HDA hcv
          go_wp2_with fail
          refine wp_region_rel (by kernel_rfl) (by kernel_rfl) (by kernel_rfl) ?_
          apply RelWalk.rest
          · kernel_rfl
          · intro X0 _ W hW hcl
            obtain ⟨x0, x1, x2, x3, x4, x5, x6⟩ := O4.out.cells
            obtain ⟨⟨z0, z1, z2⟩, _⟩ := boxc Z4.out
            obtain ⟨⟨u0, u1, u2⟩, _⟩ := boxc T4.out.1
            have r0 := fun q => gcell (hW q) x0
            have r1 := fun q => gcell (hW q) x1
            have r2 := fun q => gcell (hW q) x2
            have r3 := fun q => gcell (hW q) x3
            have r4 := fun q => gcell (hW q) x4
            have r5 := fun q => gcell (hW q) x5
            have r6 := fun q => gcell (hW q) x6
            have q0 := fun q => gcell (hW q) z0
            have q1 := fun q => gcell (hW q) z1
            have q2 := fun q => gcell (hW q) z2
            have p0 := fun q => gcell (hW q) u0
            have dB := Lib.hid (fun q => intoSame (W := W) (q := q) (HBI.out (W q)))
            have dU := Lib.hid (fun q => into hcl (HU.out (W q) _ _ _ (O4.out.2.1.bel (hW q))))
            have dC := Lib.hid (fun q => into hcl (HI2.out c (W q) _ _ _ _ (O4.out.2.1.bel (hW q)) (K4.out.bel (hW q) (Nat.le_refl _))))
            clear x0 x1 x2 x3 x4 x5 x6 z0 z1 z2 u0 u1 u2
            repeat (go_big_quiet_step (first | (with_reducible exact dB.out _) | (with_reducible exact dU.out _) | (with_reducible exact dC.out _)))
            exact wpQuiet_nil rfl
          intro gq w8 hg8 _
          simp only [Spread]
          have O8 := Lib.hid (O4.out.bel hg8)
          have T8 := Lib.hid (T4.out.bel hg8)
          clear hg8 O4 T4 K4 Z4
          go_wp2_with fail
          go_roundw
          case rel => exact ⟨j + 1, by omega, by go_num, HE2.out, O8.out, T8.out⟩
          case measure => simp [RowKit.intOf] <;> omega
        | false =>
          have HI2 := Lib.hid (fun c W vs vc va v h1 h2 => by have h := HI.out c W vs vc va v h1 h2; rw [hc] at h; exact h)
          rw [hcv] at hc
          have HE2 := Lib.hid (HE.out.trans (by rw [HDA.out, hc, Bool.false_and]))
          clear hc HI HE HDA hcv
          go_wp2_with fail
          refine wp_region_rel (by kernel_rfl) (by kernel_rfl) (by kernel_rfl) ?_
          apply RelWalk.rest
          · kernel_rfl
          · intro X0 _ W hW hcl
            obtain ⟨x0, x1, x2, x3, x4, x5, x6⟩ := O4.out.cells
            obtain ⟨⟨z0, z1, z2⟩, _⟩ := boxc Z4.out
            obtain ⟨⟨u0, u1, u2⟩, _⟩ := boxc T4.out.1
            have r0 := fun q => gcell (hW q) x0
            have r1 := fun q => gcell (hW q) x1
            have r2 := fun q => gcell (hW q) x2
            have r3 := fun q => gcell (hW q) x3
            have r4 := fun q => gcell (hW q) x4
            have r5 := fun q => gcell (hW q) x5
            have r6 := fun q => gcell (hW q) x6
            have q0 := fun q => gcell (hW q) z0
            have q1 := fun q => gcell (hW q) z1
            have q2 := fun q => gcell (hW q) z2
            have p0 := fun q => gcell (hW q) u0
            have dB := Lib.hid (fun q => intoSame (W := W) (q := q) (HBI.out (W q)))
            have dU := Lib.hid (fun q => into hcl (HU.out (W q) _ _ _ (O4.out.2.1.bel (hW q))))
            have dC := Lib.hid (fun q => into hcl (HI2.out c (W q) _ _ _ _ (O4.out.2.1.bel (hW q)) (K4.out.bel (hW q) (Nat.le_refl _))))
            clear x0 x1 x2 x3 x4 x5 x6 z0 z1 z2 u0 u1 u2
            repeat (go_big_quiet_step (first | (with_reducible exact dB.out _) | (with_reducible exact dU.out _) | (with_reducible exact dC.out _)))
            exact wpQuiet_nil rfl
          intro gq w8 hg8 _
          simp only [Spread]
          have O8 := Lib.hid (O4.out.bel hg8)
          clear hg8 O4 T4 K4 Z4
          go_wp2_with fail
          go_ret
          exact ⟨ret_bool HE2.out.symm, O8.out.2.2⟩
      · obtain rfl : j = t.kids.length := by omega
        go_wp2_with fail
        go_ret
        exact ⟨ret_bool (by rw [HE.out, List.drop_length]; rfl), OJ.out.2.2⟩
end Go.Proofs.YtggefpkfikimiaaGreat
/- The page's clean at a spine of a constant, where it is known of the smaller terms. No conditions but sizes. -/
namespace Go.Proofs.YtggefpkfikimiaaGreat
open Go.RowKit
set_option linter.unusedVariables false

theorem ofB_dec {b : BlkT} {base n : Int} (h : (ofB b base n).1 = 4) : ∃ k : Nat, k < b.sorts.length ∧ (ofB b base n).2 = (k : Int) := by
  unfold ofB at h ⊢
  cases h1 : firstOf (ofAt b base n) b.sorts.length with
  | some r =>
    rw [h1] at h
    obtain ⟨j, hj, e⟩ := first_some h1
    refine ⟨j, hj, ?_⟩
    unfold ofAt at e
    split at e
    · cases e; rfl
    · split at e
      · cases e; rfl
      · split at e
        · cases e; rfl
        · cases e
  | none =>
    rw [h1] at h
    cases h2 : firstOf (ofCt b base n) b.cons.length with
    | some r =>
      rw [h2] at h
      obtain ⟨j, hj, e⟩ := first_some h2
      unfold ofCt at e
      split at e
      · cases e; simp at h
      · cases e
    | none => rw [h2] at h; simp at h
set_option maxRecDepth 100000 in
set_option maxHeartbeats 2000000 in
theorem rclean_spine (b : BlkT) (base : Int) (vars : List Int) (args : List ArgT) (t : Tm) (hv : vars.length ≤ 1000000) (hl : t.kids.length ≤ 1000000) (ih : ∀ j (h : j < t.kids.length), ClOk b base (moreP vars (bindsI t.k j)) args t.kids[j]) (hk1 : t.k ≠ 1) (hk3 : t.k ≠ 3) (hb : blkN b ≤ 1048576) (hX0 : 0 < (unspine t).2.length) (hXl : (unspine t).2.length ≤ 1000000) (HDEC : ∀ (W : World) (vs vc vv va v : Value), PAt W b vars args vs vc vv va → At W (unspine t).2 v → Calls Tryz.prog 55 #[.agg #[vs, vc, .int .i64 b.elim, .int .i64 base, vv, va], v] W fun e w' => e = .returned (.bool (decgB b base vars (unspine t).2)) ∧ Below W.heap.size W w')
    (hs : size t ≤ 1000000) (hf : (unspine t).1.k = 3) (w : World) (vs vc vv va v : Value) (hA : PAt w b vars args vs vc vv va) (hT : At w t.kids v) :
    Calls Tryz.prog 29 #[.agg #[vs, vc, .int .i64 b.elim, .int .i64 base, vv, va], .agg #[.int .i64 t.k, .int .i64 t.n, v]] w fun e w' => e = .returned (.bool (cleanB b base vars t)) ∧ Below w.heap.size w w' := by
  obtain ⟨ps, cs, pc, cc, pv, cv, pa, ca, rfl, rfl, rfl, rfl⟩ := hA.shape
  obtain ⟨pt, ct, rfl⟩ := hT.shape
  have HI := Lib.hid ih
  have HE1 := Lib.hid (fun hd => clean_kids b base vars hk1 hk3 hd)
  have HE3 := Lib.hid (fun hd => clean_decg b base vars hk1 hk3 hd)
  have HDQ := Lib.hid (show isDecg b base t = (decide ((unspine t).1.k = 3) && decide (0 < (unspine t).2.length) && decide ((ofB b base (unspine t).1.n).1 = 4) && decide (((unspine t).2.length : Int) = idxLen b (ofB b base (unspine t).1.n).2 + 1)) from rfl)
  have HDE := Lib.hid HDEC
  have hls := sortsN_len b.sorts
  have hbn : blkN b = sortsN b.sorts + consN b.cons + 1 := rfl
  obtain ⟨w1, hw1⟩ : ∃ w1, w1 = (w.alloc (.cells #[.slice ps b.sorts.length cs, .slice pc b.cons.length cc, .int .i64 b.elim, .int .i64 base, .slice pv vars.length cv, .slice pa args.length ca] 61)).alloc (.cells #[.int .i64 t.k, .int .i64 t.n, .slice pt t.kids.length ct] 37) := ⟨_, rfl⟩
  have O1 : Hid (OneP w w.heap.size b base vars args (.slice ps b.sorts.length cs) (.slice pc b.cons.length cc) (.slice pv vars.length cv) (.slice pa args.length ca) w1) := by
    unfold Hid; rw [hw1]
    exact (onep_start w b base vars args _ _ _ _ hA).bel (below_al _ _)
  have T1 : Hid (OneT8 (w.heap.size + 1) t (.slice pt t.kids.length ct) w1) := by
    have hn := World.alloc_heap_new (w.alloc (.cells #[.slice ps b.sorts.length cs, .slice pc b.cons.length cc, .int .i64 b.elim, .int .i64 base, .slice pv vars.length cv, .slice pa args.length ca] 61)) (.cells #[.int .i64 t.k, .int .i64 t.n, .slice pt t.kids.length ct] 37)
    rw [World.size_alloc] at hn
    have hb := O1.out.2.2
    unfold Hid
    refine ⟨by rw [hw1]; exact hn, hT.bel hb (Nat.le_refl _)⟩
  have HW := Lib.hid hw1
  have e1 : (t.k == 1) = false := by simpa using hk1
  have e3 : (t.k == 3) = false := by simpa using hk3
  have HU := Lib.hid (runspine_any t (by omega) w1 _ T1.out.2)
  have HF := Lib.hid hf
  clear hw1 hA hT ih hk1 hk3 hs hf HDEC
  go_enter Tryz.func29, Tryz.ntmps29
  go_upto_region 1 with (fail)
  rw [← HW.out]
  clear HW
  obtain ⟨⟨z0, z1, z2⟩, _⟩ := boxc T1.out.1
  go_wp2_with fail
  revert HU HF HE3 HDQ HDE hX0 hXl
  generalize (unspine t).1 = f
  generalize (unspine t).2 = X
  intro hX0 hXl HE3 HDQ HDE HU HF
  refine HU.out.mono ?_
  rintro e w3 ⟨af, cf, aX, cX, rfl, hfk, hX, hb3⟩
  have O3 := Lib.hid (O1.out.bel hb3)
  have T3 := Lib.hid (T1.out.bel hb3)
  have AX := Lib.hid hX.ats.at
  clear hfk hX hb3 O1 T1 HU z0 z1 z2
  go_upto_region 7 with (fail)
  obtain ⟨w4, hw4⟩ : ∃ w4, w4 = w3.alloc (.cells #[.int .i64 f.k, .int .i64 f.n, .slice af f.kids.length cf] 37) := ⟨_, rfl⟩
  have Z4 : Hid (w4.heap[w3.heap.size]? = some (.cells #[.int .i64 f.k, .int .i64 f.n, .slice af f.kids.length cf] 37 (0, 0))) := by unfold Hid; rw [hw4]; exact World.alloc_heap_new w3 _
  have B4 : Below w3.heap.size w3 w4 := by rw [hw4]; exact below_al _ _
  rw [← hw4]
  have O4 := Lib.hid (O3.out.bel B4)
  have T4 := Lib.hid (T3.out.bel B4)
  have A4 := Lib.hid (AX.out.bel B4 (Nat.le_refl _))
  clear hw4 B4 O3 T3 AX
  obtain ⟨⟨z0, z1, z2⟩, _⟩ := boxc Z4.out
  have ef : (f.k == 3) = true := by simpa using HF.out
  have ex : decide ((0 : Int) < (X.length : Int)) = true := by simpa using hX0
  obtain ⟨⟨x0, x1, x2, x3, x4, x5⟩, _⟩ := cells6 O4.out.1
  have HO := Lib.hid (rof_any b hb base f.n w4 _ _ O4.out.2.1.1)
  have HQD := Lib.hid (@ofB_dec b base f.n)
  revert HO HQD HDQ
  generalize ofB b base f.n = qd
  intro HDQ HO HQD
  go_wp2_with fail
  refine HO.out.mono ?_
  rintro e w5 ⟨rfl, hb5⟩
  have O5 := Lib.hid (O4.out.bel hb5)
  have T5 := Lib.hid (T4.out.bel hb5)
  have A5 := Lib.hid (A4.out.bel hb5 (Nat.le_refl _))
  clear O4 T4 A4 HO hb5 z0 z1 z2 x0 x1 x2 x3 x4 x5 Z4
  obtain ⟨qk, qs⟩ := qd
  by_cases h4 : qk = 4
  · obtain ⟨k, hk, hqs⟩ := HQD.out h4
    simp only at hqs
    subst h4 hqs
    obtain ⟨bS, oS, va', vt', he, gA, gT, s0, s1, s2, s3, s4, s5⟩ := O5.out.2.1.1.1.at hk
    cases he
    obtain ⟨pi, ci, rfl⟩ := gA.shape
    have hidx : idxLen b (k : Int) = (b.sorts[k].idx.length : Int) := by simp [idxLen, List.getElem?_eq_getElem hk]
    clear gA gT s1 s2 s3 s4 s5
    have hw9 : IntKind.i64.wrap ((b.sorts[k].idx.length : Int) + 1) = (b.sorts[k].idx.length : Int) + 1 := IntWalk.i64_in _ (by have := argsN_len b.sorts[k].idx; have := sortN_le (List.getElem_mem hk); have : sortN b.sorts[k] = argsN b.sorts[k].idx + size b.sorts[k].decT + 1 := rfl; omega)
    obtain ⟨⟨x0, x1, x2, x3, x4, x5⟩, _⟩ := cells6 O5.out.1
    by_cases h5 : (X.length : Int) = (b.sorts[k].idx.length : Int) + 1
    · have hQ : isDecg b base t = true := by rw [HDQ.out, HF.out]; simp [hX0, hidx, h5]
      have HE4 := Lib.hid (HE3.out hQ)
      have h5' : ((X.length : Int) == (b.sorts[k].idx.length : Int) + 1) = true := by simpa using h5
      have HDC := Lib.hid (HDE.out w5 _ _ _ _ _ O5.out.2.1 A5.out)
      clear HE1 HE3 HDQ hQ h5 hidx HQD
      go_wp2_with fail
      refine HDC.out.mono ?_
      rintro e w6 ⟨rfl, hb6⟩
      have O6 := Lib.hid (O5.out.bel hb6)
      clear hb6 HDC
      go_wp2_with fail
      go_ret
      exact ⟨ret_bool HE4.out.symm, O6.out.2.2⟩
    · have hQ : isDecg b base t = false := by rw [HDQ.out, hidx, decide_eq_false h5, Bool.and_false]
      have HE0 := Lib.hid (HE1.out hQ)
      have h5' : ((X.length : Int) == (b.sorts[k].idx.length : Int) + 1) = false := by simpa using h5
      have O4 := O5
      have T4 := T5
      clear HE1 HE3 HDQ hQ h5 hidx HQD O5 T5
      go_wp2_with fail
      clear x0 x1 x2 x3 x4 x5 s0
      go_loopw [11] (fun i wr => ∃ j : Nat, j ≤ t.kids.length ∧ i = .int .i64 j ∧ cleanB b base vars t = kidsStep (cleanB b base) vars t.k j (t.kids.drop j) ∧ OneP w w.heap.size b base vars args (.slice (some ⟨bS, oS, none⟩) b.sorts.length cs) (.slice pc b.cons.length cc) (.slice pv vars.length cv) (.slice pa args.length ca) wr ∧ OneT8 (w.heap.size + 1) t (.slice pt t.kids.length ct) wr) (fun i _ => t.kids.length - (RowKit.intOf i).toNat)
      case atStart => exact ⟨0, Nat.zero_le _, rfl, HE0.out, O4.out, T4.out⟩
      case round =>
        clear O4 T4 HE0
        obtain ⟨j, hj, rfl, hE, hO, hT⟩ := hrel
        have OJ := Lib.hid hO
        have TJ := Lib.hid hT
        have HE := Lib.hid hE
        clear hE hO hT
        obtain ⟨⟨z0, z1, z2⟩, _⟩ := boxc TJ.out.1
        by_cases hlt : j < t.kids.length
        · have hI := Lib.hid (HI.out j hlt)
          have hw1 : IntKind.i64.wrap ((j : Int) + 1) = ((j + 1 : Nat) : Int) := by rw [IntWalk.i64_in _ (by omega)]; omega
          have hDA := kids_at (r := cleanB b base) (vars := vars) (k := t.k) hlt
          have hbr := bindsI_range t.k j
          obtain ⟨nb, hnb⟩ : ∃ nb : Nat, bindsI t.k j = (nb : Int) := ⟨(bindsI t.k j).toNat, by omega⟩
          have HM : Hid (∀ (W : World) (vs vc vv va : Value), PAt W b vars args vs vc vv va → Calls Tryz.prog 52 #[.agg #[vs, vc, .int .i64 b.elim, .int .i64 base, vv, va], .int .i64 (bindsI t.k j)] W (MorePost W b base (moreP vars (bindsI t.k j)) args vs vc va)) := by
            unfold Hid
            rw [hnb]
            exact fun W vs vc vv va h => rmore_any b base vars args hv nb (by omega) W vs vc vv va h
          clear hnb hbr
          obtain ⟨bX, oX, kX, us, he, hcapX, hcmX, g0, g1, g2, g3⟩ := TJ.out.2.pos (by omega)
          cases he
          have HK := Lib.hid (And.intro (g0 j hlt) (And.intro (g1 j hlt) (And.intro (g2 j hlt) (g3 j hlt))))
          clear g0 g1 g2 g3 hcapX hcmX
          by_cases hc : cleanB b base (moreP vars (bindsI t.k j)) t.kids[j] = true
          · have hI2 := Lib.hid (fun W vs vc vv va v h1 h2 => by have h := hI.out W vs vc vv va v h1 h2; rw [hc] at h; exact h)
            have HE2 := Lib.hid (HE.out.trans (by rw [hDA, hc, Bool.true_and]))
            clear hc hI HE hDA
            go_wp2_with fail
            clear z0 z1 z2
            refine wp_region_rel (by kernel_rfl) (by kernel_rfl) (by kernel_rfl) ?_
            apply RelWalk.next 5
            · kernel_rfl
            · intro X0 _ W hW hcl
              simp only [List.take_succ_cons, List.take_zero]
              obtain ⟨x0, x1, x2, x3, x4, x5⟩ := OJ.out.cells
              have r0 := fun q => gcell (hW q) x0
              have r1 := fun q => gcell (hW q) x1
              have r2 := fun q => gcell (hW q) x2
              have r3 := fun q => gcell (hW q) x3
              have r4 := fun q => gcell (hW q) x4
              have r5 := fun q => gcell (hW q) x5
              obtain ⟨⟨z0, z1, z2⟩, _⟩ := boxc TJ.out.1
              have t0 := fun q => gcell (hW q) z0
              have cB := Lib.hid (fun q => intoSame (W := W) (q := q) (rbinds_any t.k j (W q)))
              clear x0 x1 x2 x3 x4 x5 z0 z1 z2
              repeat (go_big_quiet_step (with_reducible exact cB.out _))
              exact wpQuiet_nil rfl
            simp only [List.drop_succ_cons, List.drop_zero]
            refine RelWalk.made0 (fun v s e W => ∃ a c, v = .agg #[.slice (some ⟨bS, oS, none⟩) b.sorts.length cs, .slice pc b.cons.length cc, .int .i64 b.elim, .int .i64 base, .slice a (moreP vars (bindsI t.k j)).length c, .slice pa args.length ca] ∧ IRow W (moreP vars (bindsI t.k j)) (.slice a (moreP vars (bindsI t.k j)).length c)) rfl (by kernel_rfl) (by kernel_rfl) rfl (fun v s e W W' hg ⟨a, c, h1, h2⟩ => ⟨a, c, h1, h2.bel hg⟩) (fun w2 hg => ?_) ?_
            · have hc := Lib.hid (HM.out w2 _ _ _ _ (OJ.out.2.1.bel hg))
              go_simp
              exact rel_enter (hc.out.mono fun e w3 ⟨a3, c3, he, hP3, hb3⟩ => ⟨_, he, hb3, a3, c3, rfl, hP3.2.1⟩)
            simp only [Act.put, List.setIfInBounds_toArray, List.set_cons_zero, List.set_cons_succ]
            apply RelWalk.next 5
            · kernel_rfl
            · intro X0 _ W hW hcl
              simp only [List.take_succ_cons, List.take_zero]
              obtain ⟨⟨z0, z1, z2⟩, _⟩ := boxc TJ.out.1
              have t0 := fun q => gcell (hW q) z0
              have t1 := fun q => gcell (hW q) z1
              have t2 := fun q => gcell (hW q) z2
              have q0 := fun q => gcell (hW q) HK.out.1
              have q1 := fun q => gcell (hW q) HK.out.2.1
              have q2 := fun q => gcell (hW q) HK.out.2.2.1
              clear z0 z1 z2
              repeat (go_big_quiet_step (fail))
              exact wpQuiet_nil rfl
            simp only [List.drop_succ_cons, List.drop_zero]
            refine RelWalk.used1 (.bool true) rfl (by kernel_rfl) (by kernel_rfl) rfl (fun g w2 hg v1 hv1 => ?_) ?_
            · obtain ⟨a3, c3, rfl, hR3⟩ := hv1
              have hc := Lib.hid (hI2.out w2 _ _ _ _ _ ⟨(OJ.out.2.1.bel hg).1, hR3, (OJ.out.2.1.bel hg).2.2⟩ (HK.out.2.2.2.bel hg (Nat.le_refl _)))
              clear hR3
              go_simp
              exact rel_enter_c hc.out
            simp only [Act.put, List.setIfInBounds_toArray, List.set_cons_zero, List.set_cons_succ]
            apply RelWalk.rest
            · kernel_rfl
            · intro X0 _ W hW hcl
              repeat (go_big_quiet_step (fail))
              exact wpQuiet_nil rfl
            intro gq w8 hg8 _
            simp only [Spread]
            intro vM _
            simp only [Act.put, List.setIfInBounds_toArray, List.set_cons_zero, List.set_cons_succ]
            have O8 := Lib.hid (OJ.out.bel hg8)
            have T8 := Lib.hid (TJ.out.bel hg8)
            go_wp2_with fail
            go_roundw
            case rel => exact ⟨j + 1, by omega, by go_num, HE2.out, O8.out, T8.out⟩
            case measure => simp [RowKit.intOf] <;> omega
          · have hc' : cleanB b base (moreP vars (bindsI t.k j)) t.kids[j] = false := by simpa using hc
            have hI2 := Lib.hid (fun W vs vc vv va v h1 h2 => by have h := hI.out W vs vc vv va v h1 h2; rw [hc'] at h; exact h)
            have HE2 := Lib.hid (HE.out.trans (by rw [hDA, hc', Bool.false_and]))
            clear hc hc' hI HE hDA
            go_wp2_with fail
            clear z0 z1 z2
            refine wp_region_rel (by kernel_rfl) (by kernel_rfl) (by kernel_rfl) ?_
            apply RelWalk.next 5
            · kernel_rfl
            · intro X0 _ W hW hcl
              simp only [List.take_succ_cons, List.take_zero]
              obtain ⟨x0, x1, x2, x3, x4, x5⟩ := OJ.out.cells
              have r0 := fun q => gcell (hW q) x0
              have r1 := fun q => gcell (hW q) x1
              have r2 := fun q => gcell (hW q) x2
              have r3 := fun q => gcell (hW q) x3
              have r4 := fun q => gcell (hW q) x4
              have r5 := fun q => gcell (hW q) x5
              obtain ⟨⟨z0, z1, z2⟩, _⟩ := boxc TJ.out.1
              have t0 := fun q => gcell (hW q) z0
              have cB := Lib.hid (fun q => intoSame (W := W) (q := q) (rbinds_any t.k j (W q)))
              clear x0 x1 x2 x3 x4 x5 z0 z1 z2
              repeat (go_big_quiet_step (with_reducible exact cB.out _))
              exact wpQuiet_nil rfl
            simp only [List.drop_succ_cons, List.drop_zero]
            refine RelWalk.made0 (fun v s e W => ∃ a c, v = .agg #[.slice (some ⟨bS, oS, none⟩) b.sorts.length cs, .slice pc b.cons.length cc, .int .i64 b.elim, .int .i64 base, .slice a (moreP vars (bindsI t.k j)).length c, .slice pa args.length ca] ∧ IRow W (moreP vars (bindsI t.k j)) (.slice a (moreP vars (bindsI t.k j)).length c)) rfl (by kernel_rfl) (by kernel_rfl) rfl (fun v s e W W' hg ⟨a, c, h1, h2⟩ => ⟨a, c, h1, h2.bel hg⟩) (fun w2 hg => ?_) ?_
            · have hc := Lib.hid (HM.out w2 _ _ _ _ (OJ.out.2.1.bel hg))
              go_simp
              exact rel_enter (hc.out.mono fun e w3 ⟨a3, c3, he, hP3, hb3⟩ => ⟨_, he, hb3, a3, c3, rfl, hP3.2.1⟩)
            simp only [Act.put, List.setIfInBounds_toArray, List.set_cons_zero, List.set_cons_succ]
            apply RelWalk.next 5
            · kernel_rfl
            · intro X0 _ W hW hcl
              simp only [List.take_succ_cons, List.take_zero]
              obtain ⟨⟨z0, z1, z2⟩, _⟩ := boxc TJ.out.1
              have t0 := fun q => gcell (hW q) z0
              have t1 := fun q => gcell (hW q) z1
              have t2 := fun q => gcell (hW q) z2
              have q0 := fun q => gcell (hW q) HK.out.1
              have q1 := fun q => gcell (hW q) HK.out.2.1
              have q2 := fun q => gcell (hW q) HK.out.2.2.1
              clear z0 z1 z2
              repeat (go_big_quiet_step (fail))
              exact wpQuiet_nil rfl
            simp only [List.drop_succ_cons, List.drop_zero]
            refine RelWalk.used1 (.bool false) rfl (by kernel_rfl) (by kernel_rfl) rfl (fun g w2 hg v1 hv1 => ?_) ?_
            · obtain ⟨a3, c3, rfl, hR3⟩ := hv1
              have hc := Lib.hid (hI2.out w2 _ _ _ _ _ ⟨(OJ.out.2.1.bel hg).1, hR3, (OJ.out.2.1.bel hg).2.2⟩ (HK.out.2.2.2.bel hg (Nat.le_refl _)))
              clear hR3
              go_simp
              exact rel_enter_c hc.out
            simp only [Act.put, List.setIfInBounds_toArray, List.set_cons_zero, List.set_cons_succ]
            apply RelWalk.rest
            · kernel_rfl
            · intro X0 _ W hW hcl
              repeat (go_big_quiet_step (fail))
              exact wpQuiet_nil rfl
            intro gq w8 hg8 _
            simp only [Spread]
            intro vM _
            simp only [Act.put, List.setIfInBounds_toArray, List.set_cons_zero, List.set_cons_succ]
            have O8 := Lib.hid (OJ.out.bel hg8)
            have T8 := Lib.hid (TJ.out.bel hg8)
            go_wp2_with fail
            go_ret
            exact ⟨ret_bool HE2.out.symm, O8.out.2.2⟩
        · obtain rfl : j = t.kids.length := by omega
          go_wp2_with fail
          go_ret
          exact ⟨ret_bool (by rw [HE.out, List.drop_length]; rfl), OJ.out.2.2⟩
  · have hQ : isDecg b base t = false := by rw [HDQ.out, decide_eq_false h4, Bool.and_false, Bool.false_and]
    have HE0 := Lib.hid (HE1.out hQ)
    have h4' : (qk == 4) = false := by simpa using h4
    have O4 := O5
    have T4 := T5
    clear HE1 HE3 HDQ hQ h4 HQD O5 T5
    go_wp2_with fail
    go_loopw [11] (fun i wr => ∃ j : Nat, j ≤ t.kids.length ∧ i = .int .i64 j ∧ cleanB b base vars t = kidsStep (cleanB b base) vars t.k j (t.kids.drop j) ∧ OneP w w.heap.size b base vars args (.slice ps b.sorts.length cs) (.slice pc b.cons.length cc) (.slice pv vars.length cv) (.slice pa args.length ca) wr ∧ OneT8 (w.heap.size + 1) t (.slice pt t.kids.length ct) wr) (fun i _ => t.kids.length - (RowKit.intOf i).toNat)
    case atStart => exact ⟨0, Nat.zero_le _, rfl, HE0.out, O4.out, T4.out⟩
    case round =>
      clear O4 T4 HE0
      obtain ⟨j, hj, rfl, hE, hO, hT⟩ := hrel
      have OJ := Lib.hid hO
      have TJ := Lib.hid hT
      have HE := Lib.hid hE
      clear hE hO hT
      obtain ⟨⟨z0, z1, z2⟩, _⟩ := boxc TJ.out.1
      by_cases hlt : j < t.kids.length
      · have hI := Lib.hid (HI.out j hlt)
        have hw1 : IntKind.i64.wrap ((j : Int) + 1) = ((j + 1 : Nat) : Int) := by rw [IntWalk.i64_in _ (by omega)]; omega
        have hDA := kids_at (r := cleanB b base) (vars := vars) (k := t.k) hlt
        have hbr := bindsI_range t.k j
        obtain ⟨nb, hnb⟩ : ∃ nb : Nat, bindsI t.k j = (nb : Int) := ⟨(bindsI t.k j).toNat, by omega⟩
        have HM : Hid (∀ (W : World) (vs vc vv va : Value), PAt W b vars args vs vc vv va → Calls Tryz.prog 52 #[.agg #[vs, vc, .int .i64 b.elim, .int .i64 base, vv, va], .int .i64 (bindsI t.k j)] W (MorePost W b base (moreP vars (bindsI t.k j)) args vs vc va)) := by
          unfold Hid
          rw [hnb]
          exact fun W vs vc vv va h => rmore_any b base vars args hv nb (by omega) W vs vc vv va h
        clear hnb hbr
        obtain ⟨bX, oX, kX, us, he, hcapX, hcmX, g0, g1, g2, g3⟩ := TJ.out.2.pos (by omega)
        cases he
        have HK := Lib.hid (And.intro (g0 j hlt) (And.intro (g1 j hlt) (And.intro (g2 j hlt) (g3 j hlt))))
        clear g0 g1 g2 g3 hcapX hcmX
        by_cases hc : cleanB b base (moreP vars (bindsI t.k j)) t.kids[j] = true
        · have hI2 := Lib.hid (fun W vs vc vv va v h1 h2 => by have h := hI.out W vs vc vv va v h1 h2; rw [hc] at h; exact h)
          have HE2 := Lib.hid (HE.out.trans (by rw [hDA, hc, Bool.true_and]))
          clear hc hI HE hDA
          go_wp2_with fail
          clear z0 z1 z2
          refine wp_region_rel (by kernel_rfl) (by kernel_rfl) (by kernel_rfl) ?_
          apply RelWalk.next 5
          · kernel_rfl
          · intro X0 _ W hW hcl
            simp only [List.take_succ_cons, List.take_zero]
            obtain ⟨x0, x1, x2, x3, x4, x5⟩ := OJ.out.cells
            have r0 := fun q => gcell (hW q) x0
            have r1 := fun q => gcell (hW q) x1
            have r2 := fun q => gcell (hW q) x2
            have r3 := fun q => gcell (hW q) x3
            have r4 := fun q => gcell (hW q) x4
            have r5 := fun q => gcell (hW q) x5
            obtain ⟨⟨z0, z1, z2⟩, _⟩ := boxc TJ.out.1
            have t0 := fun q => gcell (hW q) z0
            have cB := Lib.hid (fun q => intoSame (W := W) (q := q) (rbinds_any t.k j (W q)))
            clear x0 x1 x2 x3 x4 x5 z0 z1 z2
            repeat (go_big_quiet_step (with_reducible exact cB.out _))
            exact wpQuiet_nil rfl
          simp only [List.drop_succ_cons, List.drop_zero]
          refine RelWalk.made0 (fun v s e W => ∃ a c, v = .agg #[.slice ps b.sorts.length cs, .slice pc b.cons.length cc, .int .i64 b.elim, .int .i64 base, .slice a (moreP vars (bindsI t.k j)).length c, .slice pa args.length ca] ∧ IRow W (moreP vars (bindsI t.k j)) (.slice a (moreP vars (bindsI t.k j)).length c)) rfl (by kernel_rfl) (by kernel_rfl) rfl (fun v s e W W' hg ⟨a, c, h1, h2⟩ => ⟨a, c, h1, h2.bel hg⟩) (fun w2 hg => ?_) ?_
          · have hc := Lib.hid (HM.out w2 _ _ _ _ (OJ.out.2.1.bel hg))
            go_simp
            exact rel_enter (hc.out.mono fun e w3 ⟨a3, c3, he, hP3, hb3⟩ => ⟨_, he, hb3, a3, c3, rfl, hP3.2.1⟩)
          simp only [Act.put, List.setIfInBounds_toArray, List.set_cons_zero, List.set_cons_succ]
          apply RelWalk.next 5
          · kernel_rfl
          · intro X0 _ W hW hcl
            simp only [List.take_succ_cons, List.take_zero]
            obtain ⟨⟨z0, z1, z2⟩, _⟩ := boxc TJ.out.1
            have t0 := fun q => gcell (hW q) z0
            have t1 := fun q => gcell (hW q) z1
            have t2 := fun q => gcell (hW q) z2
            have q0 := fun q => gcell (hW q) HK.out.1
            have q1 := fun q => gcell (hW q) HK.out.2.1
            have q2 := fun q => gcell (hW q) HK.out.2.2.1
            clear z0 z1 z2
            repeat (go_big_quiet_step (fail))
            exact wpQuiet_nil rfl
          simp only [List.drop_succ_cons, List.drop_zero]
          refine RelWalk.used1 (.bool true) rfl (by kernel_rfl) (by kernel_rfl) rfl (fun g w2 hg v1 hv1 => ?_) ?_
          · obtain ⟨a3, c3, rfl, hR3⟩ := hv1
            have hc := Lib.hid (hI2.out w2 _ _ _ _ _ ⟨(OJ.out.2.1.bel hg).1, hR3, (OJ.out.2.1.bel hg).2.2⟩ (HK.out.2.2.2.bel hg (Nat.le_refl _)))
            clear hR3
            go_simp
            exact rel_enter_c hc.out
          simp only [Act.put, List.setIfInBounds_toArray, List.set_cons_zero, List.set_cons_succ]
          apply RelWalk.rest
          · kernel_rfl
          · intro X0 _ W hW hcl
            repeat (go_big_quiet_step (fail))
            exact wpQuiet_nil rfl
          intro gq w8 hg8 _
          simp only [Spread]
          intro vM _
          simp only [Act.put, List.setIfInBounds_toArray, List.set_cons_zero, List.set_cons_succ]
          have O8 := Lib.hid (OJ.out.bel hg8)
          have T8 := Lib.hid (TJ.out.bel hg8)
          go_wp2_with fail
          go_roundw
          case rel => exact ⟨j + 1, by omega, by go_num, HE2.out, O8.out, T8.out⟩
          case measure => simp [RowKit.intOf] <;> omega
        · have hc' : cleanB b base (moreP vars (bindsI t.k j)) t.kids[j] = false := by simpa using hc
          have hI2 := Lib.hid (fun W vs vc vv va v h1 h2 => by have h := hI.out W vs vc vv va v h1 h2; rw [hc'] at h; exact h)
          have HE2 := Lib.hid (HE.out.trans (by rw [hDA, hc', Bool.false_and]))
          clear hc hc' hI HE hDA
          go_wp2_with fail
          clear z0 z1 z2
          refine wp_region_rel (by kernel_rfl) (by kernel_rfl) (by kernel_rfl) ?_
          apply RelWalk.next 5
          · kernel_rfl
          · intro X0 _ W hW hcl
            simp only [List.take_succ_cons, List.take_zero]
            obtain ⟨x0, x1, x2, x3, x4, x5⟩ := OJ.out.cells
            have r0 := fun q => gcell (hW q) x0
            have r1 := fun q => gcell (hW q) x1
            have r2 := fun q => gcell (hW q) x2
            have r3 := fun q => gcell (hW q) x3
            have r4 := fun q => gcell (hW q) x4
            have r5 := fun q => gcell (hW q) x5
            obtain ⟨⟨z0, z1, z2⟩, _⟩ := boxc TJ.out.1
            have t0 := fun q => gcell (hW q) z0
            have cB := Lib.hid (fun q => intoSame (W := W) (q := q) (rbinds_any t.k j (W q)))
            clear x0 x1 x2 x3 x4 x5 z0 z1 z2
            repeat (go_big_quiet_step (with_reducible exact cB.out _))
            exact wpQuiet_nil rfl
          simp only [List.drop_succ_cons, List.drop_zero]
          refine RelWalk.made0 (fun v s e W => ∃ a c, v = .agg #[.slice ps b.sorts.length cs, .slice pc b.cons.length cc, .int .i64 b.elim, .int .i64 base, .slice a (moreP vars (bindsI t.k j)).length c, .slice pa args.length ca] ∧ IRow W (moreP vars (bindsI t.k j)) (.slice a (moreP vars (bindsI t.k j)).length c)) rfl (by kernel_rfl) (by kernel_rfl) rfl (fun v s e W W' hg ⟨a, c, h1, h2⟩ => ⟨a, c, h1, h2.bel hg⟩) (fun w2 hg => ?_) ?_
          · have hc := Lib.hid (HM.out w2 _ _ _ _ (OJ.out.2.1.bel hg))
            go_simp
            exact rel_enter (hc.out.mono fun e w3 ⟨a3, c3, he, hP3, hb3⟩ => ⟨_, he, hb3, a3, c3, rfl, hP3.2.1⟩)
          simp only [Act.put, List.setIfInBounds_toArray, List.set_cons_zero, List.set_cons_succ]
          apply RelWalk.next 5
          · kernel_rfl
          · intro X0 _ W hW hcl
            simp only [List.take_succ_cons, List.take_zero]
            obtain ⟨⟨z0, z1, z2⟩, _⟩ := boxc TJ.out.1
            have t0 := fun q => gcell (hW q) z0
            have t1 := fun q => gcell (hW q) z1
            have t2 := fun q => gcell (hW q) z2
            have q0 := fun q => gcell (hW q) HK.out.1
            have q1 := fun q => gcell (hW q) HK.out.2.1
            have q2 := fun q => gcell (hW q) HK.out.2.2.1
            clear z0 z1 z2
            repeat (go_big_quiet_step (fail))
            exact wpQuiet_nil rfl
          simp only [List.drop_succ_cons, List.drop_zero]
          refine RelWalk.used1 (.bool false) rfl (by kernel_rfl) (by kernel_rfl) rfl (fun g w2 hg v1 hv1 => ?_) ?_
          · obtain ⟨a3, c3, rfl, hR3⟩ := hv1
            have hc := Lib.hid (hI2.out w2 _ _ _ _ _ ⟨(OJ.out.2.1.bel hg).1, hR3, (OJ.out.2.1.bel hg).2.2⟩ (HK.out.2.2.2.bel hg (Nat.le_refl _)))
            clear hR3
            go_simp
            exact rel_enter_c hc.out
          simp only [Act.put, List.setIfInBounds_toArray, List.set_cons_zero, List.set_cons_succ]
          apply RelWalk.rest
          · kernel_rfl
          · intro X0 _ W hW hcl
            repeat (go_big_quiet_step (fail))
            exact wpQuiet_nil rfl
          intro gq w8 hg8 _
          simp only [Spread]
          intro vM _
          simp only [Act.put, List.setIfInBounds_toArray, List.set_cons_zero, List.set_cons_succ]
          have O8 := Lib.hid (OJ.out.bel hg8)
          have T8 := Lib.hid (TJ.out.bel hg8)
          go_wp2_with fail
          go_ret
          exact ⟨ret_bool HE2.out.symm, O8.out.2.2⟩
      · obtain rfl : j = t.kids.length := by omega
        go_wp2_with fail
        go_ret
        exact ⟨ret_bool (by rw [HE.out, List.drop_length]; rfl), OJ.out.2.2⟩
end Go.Proofs.YtggefpkfikimiaaGreat
