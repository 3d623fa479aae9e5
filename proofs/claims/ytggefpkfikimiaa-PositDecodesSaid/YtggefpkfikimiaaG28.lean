/- Package posit's isCleanHead and isClean, where isClean is known of the smaller terms. No conditions but sizes. -/
import Derived.Test.YtggefpkfikimiaaG27
import Derived.Test.YtggefpkfikimiaaG24
namespace Go.Proofs.Ytggefpkfikimiaa
open Go.RowKit
set_option linter.unusedVariables false

def hdB (b : BlkT) (base : Int) (args : List ArgT) (r : Nat) (t : Tm) : Bool := !gokB args r t && kidsStep (cleanB b base) (viewP args r) t.k 0 t.kids
set_option maxRecDepth 100000 in
set_option maxHeartbeats 2000000 in
theorem shead_any (b : BlkT) (base : Int) (args : List ArgT) (hla : args.length ≤ 1048576) (r : Nat) (hr : r ≤ 10000000) (c : Int) (t : Tm) (hn : t.k = 1 → 0 ≤ t.n ∧ t.n ≤ 10000000) (hl : t.kids.length ≤ 1048576)
    (ih : ∀ j (h : j < t.kids.length) (m : Nat), bindsI t.k j = (m : Int) → ClP b base args (r + m) t.kids[j]) (w : World) (vs vc va v : Value) (hA : VAt w b args vs vc va) (hT : At w t.kids v) :
    Calls Try.prog 82 #[.agg #[vs, vc, .int .i64 b.elim, .int .i64 base, va, .int .i64 (r : Int), .int .i64 c], .agg #[.int .i64 t.k, .int .i64 t.n, v]] w fun e w' => e = .returned (.bool (hdB b base args r t)) ∧ Below w.heap.size w w' := by
  obtain ⟨ps, cs, pc, cc, pa, ca, rfl, rfl, rfl⟩ := hA.shape
  obtain ⟨pt, ct, rfl⟩ := hT.shape
  obtain ⟨w1, hw1⟩ : ∃ w1, w1 = (w.alloc (.cells #[.slice ps b.sorts.length cs, .slice pc b.cons.length cc, .int .i64 b.elim, .int .i64 base, .slice pa args.length ca, .int .i64 (r : Int), .int .i64 c] 85)).alloc (.cells #[.int .i64 t.k, .int .i64 t.n, .slice pt t.kids.length ct] 25) := ⟨_, rfl⟩
  have O1 : Hid (OneW w w.heap.size b base args (r : Int) c (.slice ps b.sorts.length cs) (.slice pc b.cons.length cc) (.slice pa args.length ca) w1) := by
    unfold Hid; rw [hw1]
    exact (onew_start w b base args (r : Int) c _ _ _ hA).bel (below_al _ _)
  have T1 : Hid (OneT8 (w.heap.size + 1) t (.slice pt t.kids.length ct) w1) := by
    have hn := World.alloc_heap_new (w.alloc (.cells #[.slice ps b.sorts.length cs, .slice pc b.cons.length cc, .int .i64 b.elim, .int .i64 base, .slice pa args.length ca, .int .i64 (r : Int), .int .i64 c] 85)) (.cells #[.int .i64 t.k, .int .i64 t.n, .slice pt t.kids.length ct] 25)
    rw [World.size_alloc] at hn
    have hb := O1.out.2.2
    unfold Hid
    refine ⟨by rw [hw1]; exact hn, hT.bel hb (Nat.le_refl _)⟩
  have HW := Lib.hid hw1
  have HG := Lib.hid (sguarded_any b base args hla r hr c t hn w1 _ _ _ _ O1.out.2.1 T1.out.2)
  have IH := Lib.hid ih
  generalize gdomB args r t = dd at *
  clear hw1 hA hT ih hn
  go_enter Try.func82, Try.ntmps82
  go_upto_region 1 with (fail)
  rw [← HW.out]
  clear HW
  obtain ⟨x0, x1, x2, x3, x4, x5, x6⟩ := O1.out.cells
  obtain ⟨⟨z0, z1, z2⟩, _⟩ := boxc T1.out.1
  cases hg : gokB args r t with
  | true =>
    have HE := Lib.hid (show hdB b base args r t = false by rw [hdB, hg]; rfl)
    rw [hg] at HG
    clear hg
    go_wp2_with fail
    refine HG.out.mono ?_
    rintro e w5 ⟨rfl, hb5⟩
    have O5 := Lib.hid (O1.out.bel hb5)
    clear hb5 x0 x1 x2 x3 x4 x5 x6 z0 z1 z2
    go_wp2_with fail
    go_ret
    exact ⟨ret_bool HE.out.symm, O5.out.2.2⟩
  | false =>
    have HE0 := Lib.hid (show hdB b base args r t = kidsStep (cleanB b base) (viewP args r) t.k 0 (t.kids.drop 0) by rw [hdB, hg]; rfl)
    rw [hg] at HG
    clear hg
    go_wp2_with fail
    refine HG.out.mono ?_
    rintro e w5 ⟨rfl, hb5⟩
    have O5 := Lib.hid (O1.out.bel hb5)
    have T5 := Lib.hid (T1.out.bel hb5)
    clear hb5 x0 x1 x2 x3 x4 x5 x6 z0 z1 z2 O1 T1 HG
    obtain ⟨⟨z0, z1, z2⟩, _⟩ := boxc T5.out.1
    go_wp2_with fail
    clear z0 z1 z2
    go_loopw [19] (fun i wr => ∃ j : Nat, j ≤ t.kids.length ∧ i = .int .i64 j ∧ hdB b base args r t = kidsStep (cleanB b base) (viewP args r) t.k j (t.kids.drop j) ∧ OneW w w.heap.size b base args (r : Int) c (.slice ps b.sorts.length cs) (.slice pc b.cons.length cc) (.slice pa args.length ca) wr ∧ OneT8 (w.heap.size + 1) t (.slice pt t.kids.length ct) wr) (fun i _ => t.kids.length - (RowKit.intOf i).toNat)
    case atStart => exact ⟨0, Nat.zero_le _, rfl, HE0.out, O5.out, T5.out⟩
    case round =>
      clear O5 T5 HE0
      obtain ⟨j, hj, rfl, hE, hO, hT⟩ := hrel
      have OJ := Lib.hid hO
      have TJ := Lib.hid hT
      have HE := Lib.hid hE
      clear hE hO hT
      by_cases hlt : j < t.kids.length
      · have hw1 : IntKind.i64.wrap ((j : Int) + 1) = ((j + 1 : Nat) : Int) := by rw [IntWalk.i64_in _ (by omega)]; omega
        have HDA := Lib.hid (kids_at (r := cleanB b base) (vars := viewP args r) (k := t.k) hlt)
        obtain ⟨nb, hnb⟩ : ∃ nb : Nat, bindsI t.k j = (nb : Int) := ⟨(bindsI t.k j).toNat, by have := bindsI_range t.k j; omega⟩
        have hbr := bindsI_range t.k j
        obtain ⟨r2, hr2⟩ : ∃ r2 : Nat, r2 = r + nb := ⟨_, rfl⟩
        have HI := Lib.hid (show ClP b base args r2 t.kids[j] by rw [hr2]; exact IH.out j hlt nb hnb)
        have HU := Lib.hid (fun W vs vc va h => by have h0 := sunder_any b base args (r : Int) (nb : Int) c (by unfold I64; omega) W vs vc va h; rw [← Int.natCast_add, ← hr2] at h0; exact h0)
        have HBI := Lib.hid (fun W => binds_any t.k j W)
        have hcv : viewP args r2 = moreP (viewP args r) (bindsI t.k j) := by rw [hr2, hnb, view_more]
        rw [hnb] at HBI
        obtain ⟨bX, oX, kX, us, he, hcapX, hcmX, g0, g1, g2, g3⟩ := TJ.out.2.pos (by omega)
        cases he
        obtain ⟨y0, y1, y2, y3⟩ := And.intro (g0 j hlt) (And.intro (g1 j hlt) (And.intro (g2 j hlt) (g3 j hlt)))
        obtain ⟨au, cu, hau⟩ := y3.shape
        rw [hau] at y2 y3
        have Y3 := Lib.hid y3
        clear g0 g1 g2 g3 hcapX hcmX y3 hau hbr hnb hr2
        go_upto_region 7 with (fail)
        obtain ⟨w4, hw4⟩ : ∃ w4, w4 = wr.alloc (.cells #[.int .i64 t.kids[j].k, .int .i64 t.kids[j].n, .slice au t.kids[j].kids.length cu] 25) := ⟨_, rfl⟩
        have Z4 : Hid (w4.heap[wr.heap.size]? = some (.cells #[.int .i64 t.kids[j].k, .int .i64 t.kids[j].n, .slice au t.kids[j].kids.length cu] 25 (0, 0))) := by unfold Hid; rw [hw4]; exact World.alloc_heap_new wr _
        have B4 : Below wr.heap.size wr w4 := by rw [hw4]; exact below_al _ _
        rw [← hw4]
        have O4 := Lib.hid (OJ.out.bel B4)
        have T4 := Lib.hid (TJ.out.bel B4)
        have K4 := Lib.hid (Y3.out.bel B4 (Nat.le_refl _))
        clear hw4 B4 OJ TJ Y3 y0 y1 y2
        cases hc : cleanB b base (viewP args r2) t.kids[j] with
        | true =>
          have HI2 := Lib.hid (fun c W vs vc va v h1 h2 => by have h := HI.out c W vs vc va v h1 h2; rw [hc] at h; exact h)
          rw [hcv] at hc
          have HE2 := Lib.hid (HE.out.trans (by rw [HDA.out, hc, Bool.true_and]))
          clear hc HI HE HDA hcv
          go_wp2_with fail
          refine wp_region_rel (by kernel_rfl) (by kernel_rfl) (by kernel_rfl) ?_
          apply RelWalk.rest
          · kernel_rfl
          · intro X0 _ W hW hcl
            obtain ⟨x0, x1, x2, x3, x4, x5, x6⟩ := O4.out.cells
            obtain ⟨⟨z0, z1, z2⟩, _⟩ := boxc Z4.out
            obtain ⟨⟨u0, u1, u2⟩, _⟩ := boxc T4.out.1
            have r0 := fun q => gcell (hW q) x0
            have r1 := fun q => gcell (hW q) x1
            have r2 := fun q => gcell (hW q) x2
            have r3 := fun q => gcell (hW q) x3
            have r4 := fun q => gcell (hW q) x4
            have r5 := fun q => gcell (hW q) x5
            have r6 := fun q => gcell (hW q) x6
            have q0 := fun q => gcell (hW q) z0
            have q1 := fun q => gcell (hW q) z1
            have q2 := fun q => gcell (hW q) z2
            have p0 := fun q => gcell (hW q) u0
            have dB := Lib.hid (fun q => intoSame (W := W) (q := q) (HBI.out (W q)))
            have dU := Lib.hid (fun q => into hcl (HU.out (W q) _ _ _ (O4.out.2.1.bel (hW q))))
            have dC := Lib.hid (fun q => into hcl (HI2.out c (W q) _ _ _ _ (O4.out.2.1.bel (hW q)) (K4.out.bel (hW q) (Nat.le_refl _))))
            clear x0 x1 x2 x3 x4 x5 x6 z0 z1 z2 u0 u1 u2
            repeat (go_big_quiet_step (first | (with_reducible exact dB.out _) | (with_reducible exact dU.out _) | (with_reducible exact dC.out _)))
            exact wpQuiet_nil rfl
          intro gq w8 hg8 _
          simp only [Spread]
          have O8 := Lib.hid (O4.out.bel hg8)
          have T8 := Lib.hid (T4.out.bel hg8)
          clear hg8 O4 T4 K4 Z4
          go_wp2_with fail
          go_roundw
          case rel => exact ⟨j + 1, by omega, by go_num, HE2.out, O8.out, T8.out⟩
          case measure => simp [RowKit.intOf] <;> omega
        | false =>
          have HI2 := Lib.hid (fun c W vs vc va v h1 h2 => by have h := HI.out c W vs vc va v h1 h2; rw [hc] at h; exact h)
          rw [hcv] at hc
          have HE2 := Lib.hid (HE.out.trans (by rw [HDA.out, hc, Bool.false_and]))
          clear hc HI HE HDA hcv
          go_wp2_with fail
          refine wp_region_rel (by kernel_rfl) (by kernel_rfl) (by kernel_rfl) ?_
          apply RelWalk.rest
          · kernel_rfl
          · intro X0 _ W hW hcl
            obtain ⟨x0, x1, x2, x3, x4, x5, x6⟩ := O4.out.cells
            obtain ⟨⟨z0, z1, z2⟩, _⟩ := boxc Z4.out
            obtain ⟨⟨u0, u1, u2⟩, _⟩ := boxc T4.out.1
            have r0 := fun q => gcell (hW q) x0
            have r1 := fun q => gcell (hW q) x1
            have r2 := fun q => gcell (hW q) x2
            have r3 := fun q => gcell (hW q) x3
            have r4 := fun q => gcell (hW q) x4
            have r5 := fun q => gcell (hW q) x5
            have r6 := fun q => gcell (hW q) x6
            have q0 := fun q => gcell (hW q) z0
            have q1 := fun q => gcell (hW q) z1
            have q2 := fun q => gcell (hW q) z2
            have p0 := fun q => gcell (hW q) u0
            have dB := Lib.hid (fun q => intoSame (W := W) (q := q) (HBI.out (W q)))
            have dU := Lib.hid (fun q => into hcl (HU.out (W q) _ _ _ (O4.out.2.1.bel (hW q))))
            have dC := Lib.hid (fun q => into hcl (HI2.out c (W q) _ _ _ _ (O4.out.2.1.bel (hW q)) (K4.out.bel (hW q) (Nat.le_refl _))))
            clear x0 x1 x2 x3 x4 x5 x6 z0 z1 z2 u0 u1 u2
            repeat (go_big_quiet_step (first | (with_reducible exact dB.out _) | (with_reducible exact dU.out _) | (with_reducible exact dC.out _)))
            exact wpQuiet_nil rfl
          intro gq w8 hg8 _
          simp only [Spread]
          have O8 := Lib.hid (O4.out.bel hg8)
          clear hg8 O4 T4 K4 Z4
          go_wp2_with fail
          go_ret
          exact ⟨ret_bool HE2.out.symm, O8.out.2.2⟩
      · obtain rfl : j = t.kids.length := by omega
        go_wp2_with fail
        go_ret
        exact ⟨ret_bool (by rw [HE.out, List.drop_length]; rfl), OJ.out.2.2⟩
end Go.Proofs.Ytggefpkfikimiaa
/- The page's clean at a spine of a constant, where it is known of the smaller terms. No conditions but sizes. -/
namespace Go.Proofs.Ytggefpkfikimiaa
open Go.RowKit
set_option linter.unusedVariables false

theorem ofB_dec {b : BlkT} {base n : Int} (h : (ofB b base n).1 = 4) : ∃ k : Nat, k < b.sorts.length ∧ (ofB b base n).2 = (k : Int) := by
  unfold ofB at h ⊢
  cases h1 : firstOf (ofAt b base n) b.sorts.length with
  | some r =>
    rw [h1] at h
    obtain ⟨j, hj, e⟩ := first_some h1
    refine ⟨j, hj, ?_⟩
    unfold ofAt at e
    split at e
    · cases e; rfl
    · split at e
      · cases e; rfl
      · split at e
        · cases e; rfl
        · cases e
  | none =>
    rw [h1] at h
    cases h2 : firstOf (ofCt b base n) b.cons.length with
    | some r =>
      rw [h2] at h
      obtain ⟨j, hj, e⟩ := first_some h2
      unfold ofCt at e
      split at e
      · cases e; simp at h
      · cases e
    | none => rw [h2] at h; simp at h
end Go.Proofs.Ytggefpkfikimiaa
/- The page's clean. No conditions but sizes. -/
namespace Go.Proofs.Ytggefpkfikimiaa
open Go.RowKit
set_option linter.unusedVariables false

theorem formedL_all8 : ∀ {l : List Tm}, formedL l = true → ∀ u ∈ l, formedB u = true
  | [], _, u, h => by cases h
  | x :: l, hf, u, h => by
    rw [formedL, Bool.and_eq_true] at hf
    rcases List.mem_cons.1 h with rfl | h
    · exact hf.1
    · exact formedL_all8 hf.2 u h
theorem formed_var8 {t : Tm} (h : formedB t = true) (hk : t.k = 1) : 0 ≤ t.n := by
  rw [formedB_eq, Bool.and_eq_true, Bool.and_eq_true, decide_eq_true_eq] at h
  obtain ⟨⟨h1, h2⟩, _⟩ := h
  have h0 : kidsI 1 = 0 := by decide
  rw [hk, h0] at h1
  rw [if_pos (by omega), Bool.and_eq_true, decide_eq_true_eq] at h2
  exact h2.1
theorem uns_pos {t : Tm} (h : (unspine t).1.k ≠ t.k) : 0 < (unspine t).2.length := by
  by_cases hc : t.k = 6 ∧ t.kids.length = 2
  · obtain ⟨k, n, l⟩ := t
    obtain ⟨x, y, rfl⟩ := two_kids hc.2
    rw [unspine_app k n x y hc.1]
    simp
  · rw [unspine_no hc] at h
    exact absurd rfl h
end Go.Proofs.Ytggefpkfikimiaa
