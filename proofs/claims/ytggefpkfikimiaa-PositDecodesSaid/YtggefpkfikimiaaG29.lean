/- Package posit's isClean: as the document says. No conditions but sizes. -/
import Derived.Test.YtggefpkfikimiaaG28
namespace Go.Proofs.Ytggefpkfikimiaa
open Go.RowKit
set_option linter.unusedVariables false

theorem formed_leaf {t : Tm} (h : formedB t = true) (hk : t.k = 1 ∨ t.k = 3) : t.kids = [] ∧ 0 ≤ t.n ∧ t.n ≤ 65535 := by
  rw [formedB_eq, Bool.and_eq_true, Bool.and_eq_true, decide_eq_true_eq] at h
  have h0 : kidsI t.k = 0 := by rcases hk with h | h <;> rw [h] <;> decide
  have hl : t.kids.length = 0 := by omega
  have h2 := h.1.2
  rw [if_pos hl, Bool.and_eq_true, decide_eq_true_eq, decide_eq_true_eq] at h2
  exact ⟨List.eq_nil_of_length_eq_zero hl, h2.1, h2.2⟩
theorem spine_dec (b : BlkT) (base : Int) (args : List ArgT) (r : Nat) (f : Tm) (X : List Tm) (h : (cstB b base f).1 = 4) : ∃ m : Nat, cstB b base f = (4, (m : Int)) ∧ ∃ hm : m < b.sorts.length,
    spineB b base (viewP args r) f X = if h : b.sorts[m].idx.length < X.length then ((X.take b.sorts[m].idx.length).all (cleanB b base (viewP args r)) && decodB b base (viewP args r) X[b.sorts[m].idx.length]) && (X.drop (b.sorts[m].idx.length + 1)).all (cleanB b base (viewP args r)) else false := by
  by_cases h3 : f.k = 3
  · rcases hof : ofB b base f.n with ⟨p, q⟩
    have hc : cstB b base f = (p, q) := by rw [cstB, if_pos h3, hof]
    rw [hc] at h
    obtain rfl : p = 4 := h
    obtain ⟨m, rfl, hm, hl⟩ := of_dec b hof
    refine ⟨m, hc, hm, ?_⟩
    unfold spineB
    rw [if_pos h3]
    simp only [hof, hl, Int.toNat_natCast, if_true]
  · rw [cstB, if_neg h3] at h
    exact absurd h (by decide)
theorem spine_other (b : BlkT) (base : Int) (args : List ArgT) (r : Nat) (f : Tm) (X : List Tm) (hf : formedB f = true) (h : (cstB b base f).1 ≠ 4) :
    spineB b base (viewP args r) f X = (decide ((cstB b base f).1 = 0) && (hdB b base args r f && X.all (cleanB b base (viewP args r)))) := by
  by_cases h3 : f.k = 3
  · have hc : cstB b base f = ofB b base f.n := by rw [cstB, if_pos h3]
    have hh : hdB b base args r f = true := by rw [hdB, gokB, decide_eq_false (by omega), (formed_leaf hf (.inr h3)).1]; rfl
    rw [hc] at h ⊢
    unfold spineB
    rw [if_pos h3, if_neg h, hh, Bool.true_and]
  · have hc : cstB b base f = (0, 0) := by rw [cstB, if_neg h3]
    have hh : headB b base (viewP args r) f = hdB b base args r f := by
      unfold headB hdB
      by_cases h1 : f.k = 1
      · rw [if_pos h1, gokB, decide_eq_true h1, (formed_leaf hf (.inl h1)).1, Bool.true_and]
        by_cases hg : guardP (viewP args r) f.n < 0
        · rw [decide_eq_true hg, decide_eq_false (by omega)]; rfl
        · rw [decide_eq_false hg, decide_eq_true (by omega)]; rfl
      · rw [if_neg h1, gokB, decide_eq_false h1]
        simp
    rw [hc]
    unfold spineB
    rw [if_neg h3, hh]
    simp
set_option maxRecDepth 100000 in
set_option maxHeartbeats 4000000 in
theorem sclean0 (b : BlkT) (hb : blkN b ≤ 1048576) (base : Int) (args : List ArgT) (hla : args.length ≤ 1048576) (r : Nat) (hr : r ≤ 10000000) (t : Tm) (hs : size t ≤ 1048576) (hf : formedB t = true)
    (ihX : ∀ u ∈ (unspine t).2, ClP b base args r u) (ihD : ∀ u ∈ (unspine t).2, ∀ y ∈ (unspine u).2, ClP b base args r y) (ihH : ∀ j (h : j < (unspine t).1.kids.length) (m : Nat), bindsI (unspine t).1.k j = (m : Int) → ClP b base args (r + m) (unspine t).1.kids[j])
    : ClP b base args r t := by
  intro c w vs vc va v hA hT
  rw [clean_spine b base (viewP args r) t hf]
  obtain ⟨ps, cs, pc, cc, pa, ca, rfl, rfl, rfl⟩ := hA.shape
  obtain ⟨pt, ct, rfl⟩ := hT.shape
  have O0 := onew_start w b base args (r : Int) c _ _ _ hA
  have T0 := hT.bel O0.2.2 (Nat.le_refl _)
  have B1 := below_al (w.alloc (.cells #[.slice ps b.sorts.length cs, .slice pc b.cons.length cc, .int .i64 b.elim, .int .i64 base, .slice pa args.length ca, .int .i64 (r : Int), .int .i64 c] 85)) (.cells #[.int .i64 t.k, .int .i64 t.n, .slice pt t.kids.length ct] 25)
  have O1 := Lib.hid (O0.bel B1)
  have HP := Lib.hid (parts_any t hs hf _ _ (T0.bel B1 (Nat.le_refl _)))
  have hl0 := unspine_sizes t
  have hl1 := length_le_sizeL (unspine t).2
  have hXl : (unspine t).2.length ≤ 1048576 := by omega
  have huf := unspine_formed t hf
  have hFF := Lib.hid huf.1
  have HXF := Lib.hid (fun u hu => (formedL_all8 huf.2 u hu))
  have HXS : Hid (∀ u ∈ (unspine t).2, size u ≤ 1048576) := fun u hu => by have := size_le_of_mem hu; omega
  have HFK : Hid ((unspine t).1.kids.length ≤ 1048576) := by have h1 := length_le_sizeL (unspine t).1.kids; have h2 := size_eq (unspine t).1; unfold Hid; omega
  clear O0 T0 B1 hA hT hl0 hl1 hf hs huf
  have IHX := Lib.hid ihX
  have IHD := Lib.hid ihD
  have IHH := Lib.hid ihH
  clear ihX ihD ihH
  revert HP hXl hFF HXF HXS HFK IHX IHD IHH
  generalize (unspine t).1 = f
  generalize (unspine t).2 = X
  intro HP hXl hFF HXF HXS HFK IHX IHD IHH
  go_enter Try.func70, Try.ntmps70
  go_wp2_with fail
  refine HP.out.mono ?_
  rintro e w3 ⟨af, cf, aX, cX, rfl, hfk, hX, hb3⟩
  have O3 := Lib.hid (O1.out.bel hb3)
  have AX := Lib.hid hX
  have AF := Lib.hid (hfk.bel hb3 (Nat.le_refl _))
  clear hfk hX hb3 O1 HP
  go_upto_region 2 with (fail)
  obtain ⟨w4, hw4⟩ : ∃ w4, w4 = w3.alloc (.cells #[.int .i64 f.k, .int .i64 f.n, .slice af f.kids.length cf] 25) := ⟨_, rfl⟩
  have Z4 : Hid (w4.heap[w3.heap.size]? = some (.cells #[.int .i64 f.k, .int .i64 f.n, .slice af f.kids.length cf] 25 (0, 0))) := by unfold Hid; rw [hw4]; exact World.alloc_heap_new w3 _
  have B4 : Below w3.heap.size w3 w4 := by rw [hw4]; exact below_al _ _
  rw [← hw4]
  have O4 := Lib.hid (O3.out.bel B4)
  have A4 := Lib.hid (AX.out.bel B4 (Nat.le_refl _))
  have F4 := Lib.hid (AF.out.bel B4 (Nat.le_refl _))
  clear hw4 B4 O3 AX AF
  obtain ⟨⟨z0, z1, z2⟩, _⟩ := boxc Z4.out
  obtain ⟨x0, x1, x2, x3, x4, x5, x6⟩ := O4.out.cells
  have hI : I64 f.n := by
    have h := hFF.out
    rw [formedB_eq, Bool.and_eq_true, Bool.and_eq_true] at h
    have h2 := h.1.2
    unfold I64
    split at h2
    · rw [Bool.and_eq_true, decide_eq_true_eq, decide_eq_true_eq] at h2; omega
    · rw [decide_eq_true_eq] at h2; omega
  have HC := Lib.hid (sconstant_any b hb base args (r : Int) c f hI w4 _ _ _ _ O4.out.2.1 F4.out)
  clear hI
  by_cases h4 : (cstB b base f).1 = 4
  rotate_left
  · have HE := Lib.hid (spine_other b base args r f X hFF.out h4)
    have h4' : ((cstB b base f).1 != 4) = true := by simpa using h4
    obtain ⟨⟨p, q⟩, hpq⟩ : ∃ pq, cstB b base f = pq := ⟨_, rfl⟩
    rw [hpq] at HC HE h4'
    dsimp only at HC HE h4'
    clear h4 hpq
    go_wp2_with fail
    refine HC.out.mono ?_
    rintro e w5 ⟨rfl, hb5⟩
    have O5 := Lib.hid (O4.out.bel hb5)
    have A5 := Lib.hid (A4.out.bel hb5 (Nat.le_refl _))
    have F5 := Lib.hid (F4.out.bel hb5 (Nat.le_refl _))
    have Z5 := Lib.hid ((hb5.block _ (Array.getElem?_eq_some_iff.1 Z4.out).1).trans Z4.out)
    clear hb5 x0 x1 x2 x3 x4 x5 x6 z0 z1 z2 O4 A4 F4 Z4 HC
    by_cases hp : p = 0
    rotate_left
    · have HE2 := Lib.hid (HE.out.trans (show _ = false by rw [decide_eq_false hp, Bool.false_and]))
      have hp' : (p == 0) = false := by simpa using hp
      clear hp HE
      go_wp2_with fail
      go_ret
      exact ⟨ret_bool HE2.out.symm, O5.out.2.2⟩
    have hp' : (p == 0) = true := by simpa using hp
    have HE1 := Lib.hid (HE.out.trans (show _ = (hdB b base args r f && X.all (cleanB b base (viewP args r))) by rw [decide_eq_true hp, Bool.true_and]))
    have HH := Lib.hid (shead_any b base args hla r hr c f (fun h => by have := formed_leaf hFF.out (.inl h); omega) HFK.out IHH.out w5 _ _ _ _ O5.out.2.1 F5.out)
    clear hp HE
    obtain ⟨⟨z0, z1, z2⟩, _⟩ := boxc Z5.out
    obtain ⟨x0, x1, x2, x3, x4, x5, x6⟩ := O5.out.cells
    cases hh : hdB b base args r f with
    | false =>
      rw [hh] at HH
      have HE2 := Lib.hid (HE1.out.trans (show _ = false by rw [hh, Bool.false_and]))
      clear hh HE1
      go_wp2_with fail
      refine HH.out.mono ?_
      rintro e w6 ⟨rfl, hb6⟩
      have O6 := Lib.hid (O5.out.bel hb6)
      clear hb6 x0 x1 x2 x3 x4 x5 x6 z0 z1 z2 O5 A5 F5 Z5 HH
      go_wp2_with fail
      go_ret
      exact ⟨ret_bool HE2.out.symm, O6.out.2.2⟩
    | true =>
      rw [hh] at HH
      have HE2 := Lib.hid (HE1.out.trans (show _ = X.all (cleanB b base (viewP args r)) by rw [hh, Bool.true_and]))
      clear hh HE1
      go_wp2_with fail
      refine HH.out.mono ?_
      rintro e w6 ⟨rfl, hb6⟩
      have O6 := Lib.hid (O5.out.bel hb6)
      have A6 := Lib.hid (A5.out.bel hb6 (Nat.le_refl _))
      clear hb6 x0 x1 x2 x3 x4 x5 x6 z0 z1 z2 O5 A5 F5 Z5 HH
      obtain ⟨x0, x1, x2, x3, x4, x5, x6⟩ := O6.out.cells
      have HL := Lib.hid (sareclean_any b base args r c X hXl IHX.out w6 _ _ _ _ O6.out.2.1 A6.out)
      go_wp2_with fail
      refine HL.out.mono ?_
      rintro e w7 ⟨rfl, hb7⟩
      have O7 := Lib.hid (O6.out.bel hb7)
      clear hb7 x0 x1 x2 x3 x4 x5 x6 O6 A6 HL
      go_wp2_with fail
      go_ret
      exact ⟨ret_bool HE2.out.symm, O7.out.2.2⟩
  · obtain ⟨m, hpq, hm, hE⟩ := spine_dec b base args r f X h4
    have HE := Lib.hid hE
    rw [hpq] at HC
    dsimp only at HC
    clear h4 hpq hE
    go_wp2_with fail
    refine HC.out.mono ?_
    rintro e w5 ⟨rfl, hb5⟩
    have O5 := Lib.hid (O4.out.bel hb5)
    have A5 := Lib.hid (A4.out.bel hb5 (Nat.le_refl _))
    clear hb5 x0 x1 x2 x3 x4 x5 x6 z0 z1 z2 O4 A4 F4 Z4 HC
    obtain ⟨bS, oS, vx, vt, he, gA, gT, s0, s1, s2, s3, s4, s5⟩ := SRow.at O5.out.2.1.1.1 hm
    cases he
    obtain ⟨pI, cI, rfl⟩ := gA.shape
    clear s1 s2 s3 s4 s5 gT gA
    obtain ⟨x0, x1, x2, x3, x4, x5, x6⟩ := O5.out.cells
    have hmi : (m : Int) < (b.sorts.length : Int) := by omega
    have hm0 : (0 : Int) ≤ (m : Int) := by omega
    revert HE s0
    generalize b.sorts[m].idx.length = L
    intro HE s0
    by_cases hL : L < X.length
    rotate_left
    · have hL' : (L : Int) ≥ (X.length : Int) := by omega
      have HE2 := Lib.hid (HE.out.trans (show _ = false by rw [dif_neg hL]))
      clear hL HE
      go_wp2_with fail
      go_ret
      exact ⟨ret_bool HE2.out.symm, O5.out.2.2⟩
    have HE1 := Lib.hid (HE.out.trans (by rw [dif_pos hL]))
    have hL' : ¬ (L : Int) ≥ (X.length : Int) := by omega
    have hL2 : (L : Int) < (X.length : Int) := by omega
    have hL3 : (0 : Int) ≤ (L : Int) := by omega
    have hL4 : (L : Int) ≤ (X.length : Int) := by omega
    have hL5 : (L : Int) ≤ (cX : Int) := by have := at_cap A5.out; omega
    clear HE
    obtain ⟨bX, oX, kX, us, he, hcapX, hcmX, g0, g1, g2, g3⟩ := A5.out.pos (by omega)
    cases he
    have AH := Lib.hid (at_high A5.out (j := L) (by omega))
    obtain ⟨y0, y1, y2, y3⟩ := And.intro (g0 L hL) (And.intro (g1 L hL) (And.intro (g2 L hL) (g3 L hL)))
    obtain ⟨au, cu, hau⟩ := y3.shape
    rw [hau] at y2 y3
    have Y3 := Lib.hid y3
    have HY := Lib.hid (And.intro y0 (And.intro y1 y2))
    clear g0 g1 g2 g3 y3 hau y0 y1 y2
    have HW := Lib.hid hcapX
    have hL6 : (L : Int) + 1 ≤ (X.length : Int) := by omega
    have hL7 : (X.length : Int) ≤ (cX : Int) := by omega
    have hL8 : (0 : Int) ≤ (L : Int) + 1 := by omega
    have hw1 : IntKind.i64.wrap ((L : Int) + 1) = (L : Int) + 1 := IntWalk.i64_in _ (by omega)
    have HA := Lib.hid (fun W (hb : Below w5.heap.size w5 W) => sareclean_any b base args r c (X.take L) (by rw [List.length_take]; omega) (fun u hu => IHX.out u (List.mem_of_mem_take hu)) W _ _ _ _ (O5.out.2.1.bel hb) (AH.out.bel hb (Nat.le_refl _)))
    have hXm : X[L] ∈ X := List.getElem_mem hL
    have HD := Lib.hid (fun W (hb : Below w5.heap.size w5 W) => sisdecodable_any b base args hla r hr c X[L] (HXS.out _ hXm) (HXF.out _ hXm) (fun h => by have := formed_leaf (unspine_formed _ (HXF.out _ hXm)).1 (.inl h); omega) (IHD.out _ hXm) W _ _ _ _ (O5.out.2.1.bel hb) (Y3.out.bel hb (Nat.le_refl _)))
    by_cases hcap1 : cX = L + 1
    · have AL := Lib.hid (show At w5 (X.drop (L + 1)) (.slice (some ⟨bX, oX, none⟩) (X.length - (L + 1)) (cX - (L + 1))) by have h := at_low_end A5.out (j := L + 1) (by omega) hcap1; rwa [show cX - (L + 1) = 0 by omega])
      have HK := Lib.hid (fun W (hb : Below w5.heap.size w5 W) => sareclean_any b base args r c (X.drop (L + 1)) (by rw [List.length_drop]; omega) (fun u hu => IHX.out u (List.mem_of_mem_drop hu)) W _ _ _ _ (O5.out.2.1.bel hb) (AL.out.bel hb (Nat.le_refl _)))
      have hcx : (cX : Int) = (L : Int) + 1 := by omega
      have hll : (X.length : Int) = (L : Int) + 1 := by omega
      revert HE1 HA HD HK
      generalize (X.take L).all (cleanB b base (viewP args r)) = VA
      generalize decodB b base (viewP args r) X[L] = VD
      generalize (X.drop (L + 1)).all (cleanB b base (viewP args r)) = VC
      intro HE1 HA HD HK
      clear hXm hcap1 hcapX hcmX
      cases VA with
      | false =>
        have HE2 := Lib.hid (HE1.out.trans (show _ = false by simp))
        go_wp2_with fail
        clear x0 x1 x2 x3 x4 x5 x6 s0
        refine wp_region_rel (by kernel_rfl) (by kernel_rfl) (by kernel_rfl) ?_
        apply RelWalk.rest
        · kernel_rfl
        · intro X0 _ W hW hcl
          obtain ⟨x0, x1, x2, x3, x4, x5, x6⟩ := O5.out.cells
          obtain ⟨y0, y1, y2⟩ := HY.out
          have r0 := fun q => gcell (hW q) x0
          have r1 := fun q => gcell (hW q) x1
          have r2 := fun q => gcell (hW q) x2
          have r3 := fun q => gcell (hW q) x3
          have r4 := fun q => gcell (hW q) x4
          have r5 := fun q => gcell (hW q) x5
          have r6 := fun q => gcell (hW q) x6
          have q0 := fun q => gcell (hW q) y0
          have q1 := fun q => gcell (hW q) y1
          have q2 := fun q => gcell (hW q) y2
          have dA := Lib.hid (fun q => into hcl (HA.out (W q) (hW q)))
          have dD := Lib.hid (fun q => into hcl (HD.out (W q) (hW q)))
          have dC := Lib.hid (fun q => into hcl (HK.out (W q) (hW q)))
          clear x0 x1 x2 x3 x4 x5 x6 y0 y1 y2
          repeat (go_big_quiet_step (first | (with_reducible exact dA.out _) | (with_reducible exact dD.out _) | (with_reducible exact dC.out _)))
          exact wpQuiet_nil rfl
        intro gq w8 hg8 _
        simp only [Spread]
        have O8 := Lib.hid (O5.out.bel hg8)
        go_wp2_with fail
        go_ret
        exact ⟨ret_bool HE2.out.symm, O8.out.2.2⟩
      | true =>
      cases VD with
      | false =>
        have HE2 := Lib.hid (HE1.out.trans (show _ = false by simp))
        go_wp2_with fail
        clear x0 x1 x2 x3 x4 x5 x6 s0
        refine wp_region_rel (by kernel_rfl) (by kernel_rfl) (by kernel_rfl) ?_
        apply RelWalk.rest
        · kernel_rfl
        · intro X0 _ W hW hcl
          obtain ⟨x0, x1, x2, x3, x4, x5, x6⟩ := O5.out.cells
          obtain ⟨y0, y1, y2⟩ := HY.out
          have r0 := fun q => gcell (hW q) x0
          have r1 := fun q => gcell (hW q) x1
          have r2 := fun q => gcell (hW q) x2
          have r3 := fun q => gcell (hW q) x3
          have r4 := fun q => gcell (hW q) x4
          have r5 := fun q => gcell (hW q) x5
          have r6 := fun q => gcell (hW q) x6
          have q0 := fun q => gcell (hW q) y0
          have q1 := fun q => gcell (hW q) y1
          have q2 := fun q => gcell (hW q) y2
          have dA := Lib.hid (fun q => into hcl (HA.out (W q) (hW q)))
          have dD := Lib.hid (fun q => into hcl (HD.out (W q) (hW q)))
          have dC := Lib.hid (fun q => into hcl (HK.out (W q) (hW q)))
          clear x0 x1 x2 x3 x4 x5 x6 y0 y1 y2
          repeat (go_big_quiet_step (first | (with_reducible exact dA.out _) | (with_reducible exact dD.out _) | (with_reducible exact dC.out _)))
          exact wpQuiet_nil rfl
        intro gq w8 hg8 _
        simp only [Spread]
        have O8 := Lib.hid (O5.out.bel hg8)
        go_wp2_with fail
        go_ret
        exact ⟨ret_bool HE2.out.symm, O8.out.2.2⟩
      | true =>
        have HE2 := Lib.hid (HE1.out.trans (show _ = VC by simp))
        go_wp2_with fail
        clear x0 x1 x2 x3 x4 x5 x6 s0
        refine wp_region_rel (by kernel_rfl) (by kernel_rfl) (by kernel_rfl) ?_
        apply RelWalk.rest
        · kernel_rfl
        · intro X0 _ W hW hcl
          obtain ⟨x0, x1, x2, x3, x4, x5, x6⟩ := O5.out.cells
          obtain ⟨y0, y1, y2⟩ := HY.out
          have r0 := fun q => gcell (hW q) x0
          have r1 := fun q => gcell (hW q) x1
          have r2 := fun q => gcell (hW q) x2
          have r3 := fun q => gcell (hW q) x3
          have r4 := fun q => gcell (hW q) x4
          have r5 := fun q => gcell (hW q) x5
          have r6 := fun q => gcell (hW q) x6
          have q0 := fun q => gcell (hW q) y0
          have q1 := fun q => gcell (hW q) y1
          have q2 := fun q => gcell (hW q) y2
          have dA := Lib.hid (fun q => into hcl (HA.out (W q) (hW q)))
          have dD := Lib.hid (fun q => into hcl (HD.out (W q) (hW q)))
          have dC := Lib.hid (fun q => into hcl (HK.out (W q) (hW q)))
          clear x0 x1 x2 x3 x4 x5 x6 y0 y1 y2
          repeat (go_big_quiet_step (first | (with_reducible exact dA.out _) | (with_reducible exact dD.out _) | (with_reducible exact dC.out _)))
          exact wpQuiet_nil rfl
        intro gq w8 hg8 _
        simp only [Spread]
        have O8 := Lib.hid (O5.out.bel hg8)
        go_wp2_with fail
        go_ret
        exact ⟨ret_bool HE2.out.symm, O8.out.2.2⟩
    · have AL := Lib.hid (show At w5 (X.drop (L + 1)) (.slice (some ⟨bX, oX + (L + 1) * 3, none⟩) (X.length - (L + 1)) (cX - (L + 1))) from at_low A5.out (j := L + 1) (by omega))
      have HK := Lib.hid (fun W (hb : Below w5.heap.size w5 W) => sareclean_any b base args r c (X.drop (L + 1)) (by rw [List.length_drop]; omega) (fun u hu => IHX.out u (List.mem_of_mem_drop hu)) W _ _ _ _ (O5.out.2.1.bel hb) (AL.out.bel hb (Nat.le_refl _)))
      have hcx : ¬ (cX : Int) = (L : Int) + 1 := by omega
      revert HE1 HA HD HK
      generalize (X.take L).all (cleanB b base (viewP args r)) = VA
      generalize decodB b base (viewP args r) X[L] = VD
      generalize (X.drop (L + 1)).all (cleanB b base (viewP args r)) = VC
      intro HE1 HA HD HK
      clear hXm hcap1 hcapX hcmX
      cases VA with
      | false =>
        have HE2 := Lib.hid (HE1.out.trans (show _ = false by simp))
        go_wp2_with fail
        clear x0 x1 x2 x3 x4 x5 x6 s0
        refine wp_region_rel (by kernel_rfl) (by kernel_rfl) (by kernel_rfl) ?_
        apply RelWalk.rest
        · kernel_rfl
        · intro X0 _ W hW hcl
          obtain ⟨x0, x1, x2, x3, x4, x5, x6⟩ := O5.out.cells
          obtain ⟨y0, y1, y2⟩ := HY.out
          have r0 := fun q => gcell (hW q) x0
          have r1 := fun q => gcell (hW q) x1
          have r2 := fun q => gcell (hW q) x2
          have r3 := fun q => gcell (hW q) x3
          have r4 := fun q => gcell (hW q) x4
          have r5 := fun q => gcell (hW q) x5
          have r6 := fun q => gcell (hW q) x6
          have q0 := fun q => gcell (hW q) y0
          have q1 := fun q => gcell (hW q) y1
          have q2 := fun q => gcell (hW q) y2
          have dA := Lib.hid (fun q => into hcl (HA.out (W q) (hW q)))
          have dD := Lib.hid (fun q => into hcl (HD.out (W q) (hW q)))
          have dC := Lib.hid (fun q => into hcl (HK.out (W q) (hW q)))
          clear x0 x1 x2 x3 x4 x5 x6 y0 y1 y2
          repeat (go_big_quiet_step (first | (with_reducible exact dA.out _) | (with_reducible exact dD.out _) | (with_reducible exact dC.out _)))
          exact wpQuiet_nil rfl
        intro gq w8 hg8 _
        simp only [Spread]
        have O8 := Lib.hid (O5.out.bel hg8)
        go_wp2_with fail
        go_ret
        exact ⟨ret_bool HE2.out.symm, O8.out.2.2⟩
      | true =>
      cases VD with
      | false =>
        have HE2 := Lib.hid (HE1.out.trans (show _ = false by simp))
        go_wp2_with fail
        clear x0 x1 x2 x3 x4 x5 x6 s0
        refine wp_region_rel (by kernel_rfl) (by kernel_rfl) (by kernel_rfl) ?_
        apply RelWalk.rest
        · kernel_rfl
        · intro X0 _ W hW hcl
          obtain ⟨x0, x1, x2, x3, x4, x5, x6⟩ := O5.out.cells
          obtain ⟨y0, y1, y2⟩ := HY.out
          have r0 := fun q => gcell (hW q) x0
          have r1 := fun q => gcell (hW q) x1
          have r2 := fun q => gcell (hW q) x2
          have r3 := fun q => gcell (hW q) x3
          have r4 := fun q => gcell (hW q) x4
          have r5 := fun q => gcell (hW q) x5
          have r6 := fun q => gcell (hW q) x6
          have q0 := fun q => gcell (hW q) y0
          have q1 := fun q => gcell (hW q) y1
          have q2 := fun q => gcell (hW q) y2
          have dA := Lib.hid (fun q => into hcl (HA.out (W q) (hW q)))
          have dD := Lib.hid (fun q => into hcl (HD.out (W q) (hW q)))
          have dC := Lib.hid (fun q => into hcl (HK.out (W q) (hW q)))
          clear x0 x1 x2 x3 x4 x5 x6 y0 y1 y2
          repeat (go_big_quiet_step (first | (with_reducible exact dA.out _) | (with_reducible exact dD.out _) | (with_reducible exact dC.out _)))
          exact wpQuiet_nil rfl
        intro gq w8 hg8 _
        simp only [Spread]
        have O8 := Lib.hid (O5.out.bel hg8)
        go_wp2_with fail
        go_ret
        exact ⟨ret_bool HE2.out.symm, O8.out.2.2⟩
      | true =>
        have HE2 := Lib.hid (HE1.out.trans (show _ = VC by simp))
        go_wp2_with fail
        clear x0 x1 x2 x3 x4 x5 x6 s0
        refine wp_region_rel (by kernel_rfl) (by kernel_rfl) (by kernel_rfl) ?_
        apply RelWalk.rest
        · kernel_rfl
        · intro X0 _ W hW hcl
          obtain ⟨x0, x1, x2, x3, x4, x5, x6⟩ := O5.out.cells
          obtain ⟨y0, y1, y2⟩ := HY.out
          have r0 := fun q => gcell (hW q) x0
          have r1 := fun q => gcell (hW q) x1
          have r2 := fun q => gcell (hW q) x2
          have r3 := fun q => gcell (hW q) x3
          have r4 := fun q => gcell (hW q) x4
          have r5 := fun q => gcell (hW q) x5
          have r6 := fun q => gcell (hW q) x6
          have q0 := fun q => gcell (hW q) y0
          have q1 := fun q => gcell (hW q) y1
          have q2 := fun q => gcell (hW q) y2
          have dA := Lib.hid (fun q => into hcl (HA.out (W q) (hW q)))
          have dD := Lib.hid (fun q => into hcl (HD.out (W q) (hW q)))
          have dC := Lib.hid (fun q => into hcl (HK.out (W q) (hW q)))
          clear x0 x1 x2 x3 x4 x5 x6 y0 y1 y2
          repeat (go_big_quiet_step (first | (with_reducible exact dA.out _) | (with_reducible exact dD.out _) | (with_reducible exact dC.out _)))
          exact wpQuiet_nil rfl
        intro gq w8 hg8 _
        simp only [Spread]
        have O8 := Lib.hid (O5.out.bel hg8)
        go_wp2_with fail
        go_ret
        exact ⟨ret_bool HE2.out.symm, O8.out.2.2⟩
/-- isClean, of any right term. -/
theorem sclean_any (b : BlkT) (base : Int) (hb : blkN b ≤ 1048576) (args : List ArgT) (hla : args.length ≤ 1048576) : ∀ (N : Nat) (t : Tm), size t ≤ N → formedB t = true → ∀ r : Nat, r + size t ≤ 1000000 → ClP b base args r t
  | 0, t, h, _, _, _ => by have := size_pos t; omega
  | N + 1, t, h, hf, r, hr => by
    have IH := sclean_any b base hb args hla N
    have hp := size_pos t
    have hu := unspine_sizes t
    have huf := unspine_formed t hf
    have hX : ∀ u ∈ (unspine t).2, size u < size t ∧ formedB u = true := fun u hu => ⟨uns_lt hu, formedL_all8 huf.2 u hu⟩
    refine sclean0 b hb base args hla r (by omega) t (by omega) hf (fun u hu => IH u (by have := (hX u hu).1; omega) (hX u hu).2 r (by have := (hX u hu).1; omega)) (fun u hu y hy => ?_) (fun j hj m hm => ?_)
    · have h1 := (hX u hu).1
      have h2 := uns_lt hy
      exact IH y (by omega) (formedL_all8 (unspine_formed u (hX u hu).2).2 y hy) r (by omega)
    · have hse := size_eq (unspine t).1
      have hmem := List.getElem_mem hj
      have hsz := size_le_of_mem hmem
      have hbr := bindsI_range (unspine t).1.k j
      have hkf : formedL (unspine t).1.kids = true := by
        have h1 := huf.1
        rw [formedB_eq, Bool.and_eq_true] at h1
        exact h1.2
      exact IH _ (by omega) (formedL_all8 hkf _ hmem) (r + m) (by omega)
end Go.Proofs.Ytggefpkfikimiaa
