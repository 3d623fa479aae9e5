/- The program's isArg of package shape. No conditions but sizes. -/
import Derived.Test.YtcegocmndfoflaaZa
namespace Go.Proofs.Ytcegocmndfoflaa
open Go.RowKit
set_option linter.unusedVariables false

/-- A right Arg of a block of these sorts. -/
def argOkS (S : List SortT) (a : ArgT) (i : Int) : Bool := argOk ⟨S, [], 0⟩ a i
theorem argOkS_eq (b : BlkT) (a : ArgT) (i : Int) : argOk b a i = argOkS b.sorts a i := rfl
/-- An Arg in its box, beside the row of sorts. -/
def StA (w0 : World) (S : List SortT) (a : ArgT) (B1 : Nat) (vs vt vd vi : Value) (W : World) : Prop := OneA B1 a vt vd vi W ∧ SRow W S vs ∧ Below w0.heap.size w0 W
theorem StA.bel {w0 W W' : World} {S : List SortT} {a : ArgT} {B1 : Nat} {vs vt vd vi : Value} (h : StA w0 S a B1 vs vt vd vi W) (hb : Below W.heap.size W W') : StA w0 S a B1 vs vt vd vi W' :=
  ⟨h.1.bel hb, GAt.bel hb (sortC_bel hb) h.2.1, h.2.2.trans (hb.mono h.2.2.size)⟩
theorem sta_start (w : World) (S : List SortT) (a : ArgT) (vs vt vd vi : Value) (hB : SRow w S vs) (hT : At w a.ty.kids vt) (hD : At w a.dom vd) (hI : At w a.idx vi) :
    StA w S a w.heap.size vs vt vd vi (w.alloc (.cells #[.bool a.r, .int .i64 a.ty.k, .int .i64 a.ty.n, vt, vd, .int .i64 a.sort, vi] 49)) := by
  have hb := below_al w (.cells #[.bool a.r, .int .i64 a.ty.k, .int .i64 a.ty.n, vt, vd, .int .i64 a.sort, vi] 49)
  exact ⟨⟨World.alloc_heap_new w _, hT.bel hb (Nat.le_refl _), hD.bel hb (Nat.le_refl _), hI.bel hb (Nat.le_refl _)⟩, GAt.bel hb (sortC_bel hb) hB, hb⟩
set_option maxRecDepth 100000 in
set_option maxHeartbeats 8000000 in
theorem sarg_any (S : List SortT) (hSl : S.length ≤ 1048576) (a : ArgT) (hs : argN a ≤ 1048576) (hF : a.fits) (i : Int) (hi0 : 0 ≤ i) (hi1 : i ≤ 1048576) (w : World) (vs vt vd vi : Value) (hB : SRow w S vs) (hT : At w a.ty.kids vt) (hD : At w a.dom vd) (hI : At w a.idx vi) :
    Calls Try.prog 65 #[vs, .agg #[.bool a.r, .int .i64 a.ty.k, .int .i64 a.ty.n, vt, vd, .int .i64 a.sort, vi], .int .i64 i] w fun e w' => e = .returned (.bool (argOkS S a i)) ∧ Below w.heap.size w w' := by
  obtain ⟨ps, cs, rfl⟩ := hB.shape
  obtain ⟨pt, ct, rfl⟩ := hT.shape
  obtain ⟨pd, cd, rfl⟩ := hD.shape
  obtain ⟨pi, ci, rfl⟩ := hI.shape
  have hn : argN a = size a.ty + sizeL a.dom + sizeL a.idx + 1 := rfl
  have hld := length_le_sizeL a.dom
  have hli := length_le_sizeL a.idx
  obtain ⟨hFt, hFd, hFs, hFi⟩ := hF
  have O0 := Lib.hid (sta_start w S a _ _ _ _ hB hT hD hI)
  clear hB hT hD hI
  have RO := Lib.hid (fun W hA => sterm_any a.ty hFt (by omega) i W (.slice pt a.ty.kids.length ct) hA)
  have RN := Lib.hid (fun W hA => szero_any a.ty (by omega) W (.slice pt a.ty.kids.length ct) hA)
  have RD : Hid (∀ j (h : j < a.dom.length) x W v, At W a.dom[j].kids v → Calls Try.prog 70 #[.agg #[.int .i64 a.dom[j].k, .int .i64 a.dom[j].n, v], .int .i64 x] W fun e w' => e = .returned (.bool (openT a.dom[j] x)) ∧ Below W.heap.size W w') := fun j h x W v hA => sterm_any a.dom[j] (Fits.get hFd h) (by have := size_get h; omega) x W v hA
  have RI := Lib.hid (fun c x W hA => sareterms_any a.idx (by omega) hFi c x W (.slice pi a.idx.length ci) hA)
  have RZ := Lib.hid (fun W => sindex_any a.sort (S.length : Int) W)
  clear hFt hFd hFi hFs
  have hdl : a.dom.length ≤ 1048576 := by omega
  have hil : a.idx.length ≤ 1048576 := by omega
  clear hn hld hli hs
  cases hr : a.r with
  | false =>
    have HA : Hid (argOkS S a i = (openT a.ty i && decide (a.dom.length + a.idx.length = 0) && decide (a.sort = 0))) := by unfold Hid; rw [argOkS, argOk, hr]; rfl
    cases h1 : openT a.ty i with
    | false =>
      rw [h1] at RO HA
      clear h1
      go_enter Try.func65, Try.ntmps65
      rw [hr] at O0
      go_wp2_with fail
      refine (RO.out _ O0.out.1.2.1).mono ?_
      rintro e w1 ⟨rfl, hb1⟩
      have O1 := Lib.hid (O0.out.bel hb1)
      obtain ⟨x0, x1, x2, x3, x4, x5, x6⟩ := O1.out.1.cells
      clear hb1 x0 x1 x2 x3
      go_wp2_with fail
      go_ret
      exact ⟨ret_bool (by rw [HA.out]; rfl), O1.out.2.2⟩
    | true =>
      rw [h1] at RO HA
      clear h1
      by_cases h2 : a.dom.length = 0
      · by_cases h3 : a.idx.length = 0
        · by_cases h4 : a.sort = 0
          · skip
            have q2 : ((a.dom.length : Int) == 0) = true := by rw [beq_iff_eq]; omega
            have q3 : ((a.idx.length : Int) == 0) = true := by rw [beq_iff_eq]; omega
            have q4 : (a.sort == 0) = true := by rw [beq_iff_eq]; exact h4
            have HE : Hid (argOkS S a i = true) := by unfold Hid; rw [HA.out, decide_eq_true (show a.dom.length + a.idx.length = 0 by omega), decide_eq_true h4]; rfl
            clear h2 h3 h4
            go_enter Try.func65, Try.ntmps65
            rw [hr] at O0
            go_wp2_with fail
            refine (RO.out _ O0.out.1.2.1).mono ?_
            rintro e w1 ⟨rfl, hb1⟩
            have O1 := Lib.hid (O0.out.bel hb1)
            obtain ⟨x0, x1, x2, x3, x4, x5, x6⟩ := O1.out.1.cells
            clear hb1 x0 x1 x2 x3
            go_wp2_with fail
            go_ret
            exact ⟨ret_bool HE.out.symm, O1.out.2.2⟩
          · skip
            have q2 : ((a.dom.length : Int) == 0) = true := by rw [beq_iff_eq]; omega
            have q3 : ((a.idx.length : Int) == 0) = true := by rw [beq_iff_eq]; omega
            have q4 : (a.sort == 0) = false := by rw [beq_eq_false_iff_ne]; exact h4
            have HE : Hid (argOkS S a i = false) := by unfold Hid; rw [HA.out, decide_eq_false h4]; simp
            clear h2 h3 h4
            go_enter Try.func65, Try.ntmps65
            rw [hr] at O0
            go_wp2_with fail
            refine (RO.out _ O0.out.1.2.1).mono ?_
            rintro e w1 ⟨rfl, hb1⟩
            have O1 := Lib.hid (O0.out.bel hb1)
            obtain ⟨x0, x1, x2, x3, x4, x5, x6⟩ := O1.out.1.cells
            clear hb1 x0 x1 x2 x3
            go_wp2_with fail
            go_ret
            exact ⟨ret_bool HE.out.symm, O1.out.2.2⟩
        · skip
          have q2 : ((a.dom.length : Int) == 0) = true := by rw [beq_iff_eq]; omega
          have q3 : ((a.idx.length : Int) == 0) = false := by rw [beq_eq_false_iff_ne]; omega
          have HE : Hid (argOkS S a i = false) := by unfold Hid; rw [HA.out, decide_eq_false (show ¬ a.dom.length + a.idx.length = 0 by omega)]; simp
          clear h2 h3
          go_enter Try.func65, Try.ntmps65
          rw [hr] at O0
          go_wp2_with fail
          refine (RO.out _ O0.out.1.2.1).mono ?_
          rintro e w1 ⟨rfl, hb1⟩
          have O1 := Lib.hid (O0.out.bel hb1)
          obtain ⟨x0, x1, x2, x3, x4, x5, x6⟩ := O1.out.1.cells
          clear hb1 x0 x1 x2 x3
          go_wp2_with fail
          go_ret
          exact ⟨ret_bool HE.out.symm, O1.out.2.2⟩
      · skip
        have q2 : ((a.dom.length : Int) == 0) = false := by rw [beq_eq_false_iff_ne]; omega
        have HE : Hid (argOkS S a i = false) := by unfold Hid; rw [HA.out, decide_eq_false (show ¬ a.dom.length + a.idx.length = 0 by omega)]; simp
        clear h2
        go_enter Try.func65, Try.ntmps65
        rw [hr] at O0
        go_wp2_with fail
        refine (RO.out _ O0.out.1.2.1).mono ?_
        rintro e w1 ⟨rfl, hb1⟩
        have O1 := Lib.hid (O0.out.bel hb1)
        obtain ⟨x0, x1, x2, x3, x4, x5, x6⟩ := O1.out.1.cells
        clear hb1 x0 x1 x2 x3
        go_wp2_with fail
        go_ret
        exact ⟨ret_bool HE.out.symm, O1.out.2.2⟩
  | true =>
    have HA : Hid (argOkS S a i = (noneT a.ty && decide (a.dom.length ≤ 12) && inZ a.sort 0 ((S.length : Int) - 1) && decide ((a.idx.length : Int) = idxLen ⟨S, [], 0⟩ a.sort) && opensFrom a.dom i && opensAll a.idx (i + a.dom.length))) := by unfold Hid; rw [argOkS, argOk, hr]; rfl
    cases h1 : noneT a.ty with
    | false =>
      rw [h1] at RN
      have HE : Hid (argOkS S a i = false) := by unfold Hid; rw [HA.out, h1]; rfl
      clear h1
      go_enter Try.func65, Try.ntmps65
      rw [hr] at O0
      go_wp2_with fail
      refine (RN.out _ O0.out.1.2.1).mono ?_
      rintro e w1 ⟨rfl, hb1⟩
      have O1 := Lib.hid (O0.out.bel hb1)
      obtain ⟨x0, x1, x2, x3, x4, x5, x6⟩ := O1.out.1.cells
      clear hb1 x0 x1 x2 x3
      go_wp2_with fail
      go_ret
      exact ⟨ret_bool HE.out.symm, O1.out.2.2⟩
    | true =>
      rw [h1] at RN
      by_cases h2 : a.dom.length ≤ 12
      rotate_left
      · have q2 : decide ((12 : Int) < (a.dom.length : Int)) = true := by simp; omega
        have HE : Hid (argOkS S a i = false) := by unfold Hid; rw [HA.out, decide_eq_false h2]; simp
        clear h1 h2
        go_enter Try.func65, Try.ntmps65
        rw [hr] at O0
        go_wp2_with fail
        refine (RN.out _ O0.out.1.2.1).mono ?_
        rintro e w1 ⟨rfl, hb1⟩
        have O1 := Lib.hid (O0.out.bel hb1)
        obtain ⟨x0, x1, x2, x3, x4, x5, x6⟩ := O1.out.1.cells
        clear hb1 x0 x1 x2 x3
        go_wp2_with fail
        go_ret
        exact ⟨ret_bool HE.out.symm, O1.out.2.2⟩
      have q2 : decide ((12 : Int) < (a.dom.length : Int)) = false := by simp; omega
      cases h3 : inZ a.sort 0 ((S.length : Int) - 1) with
      | false =>
        rw [h3] at RZ
        have HE : Hid (argOkS S a i = false) := by unfold Hid; rw [HA.out, h3]; simp
        clear h1 h2 h3
        go_enter Try.func65, Try.ntmps65
        rw [hr] at O0
        go_wp2_with fail
        refine (RN.out _ O0.out.1.2.1).mono ?_
        rintro e w1 ⟨rfl, hb1⟩
        have O1 := Lib.hid (O0.out.bel hb1)
        obtain ⟨x0, x1, x2, x3, x4, x5, x6⟩ := O1.out.1.cells
        clear hb1 x0 x1 x2 x3
        go_wp2_with fail
        refine (RZ.out _).mono ?_
        rintro e w2 ⟨rfl, rfl⟩
        go_wp2_with fail
        go_ret
        exact ⟨ret_bool HE.out.symm, O1.out.2.2⟩
      | true =>
        rw [h3] at RZ
        obtain ⟨hz1, hz2⟩ := inZ_iff.1 h3
        obtain ⟨K, hK⟩ : ∃ K : Nat, a.sort = (K : Int) := ⟨a.sort.toNat, by omega⟩
        have hKl : K < S.length := by omega
        have hKi : (K : Int) < (S.length : Int) := by omega
        have hK0 : (0 : Int) ≤ (K : Int) := by omega
        have hix : idxLen ⟨S, [], 0⟩ a.sort = S[K].idx.length := by simp [idxLen, hK, List.getElem?_eq_getElem hKl]
        have HE : Hid (argOkS S a i = (opensFrom a.dom i && (decide ((a.idx.length : Int) = (S[K].idx.length : Int)) && opensAll a.idx (i + a.dom.length)))) := by
          unfold Hid; rw [HA.out, h1, decide_eq_true h2, h3, hix]
          simp only [Bool.true_and, Bool.and_assoc]
          rw [← Bool.and_assoc, ← Bool.and_assoc, Bool.and_comm (opensFrom a.dom i)]
        have HK := Lib.hid hK
        have hwd : IntKind.i64.wrap (i + (a.dom.length : Int)) = i + (a.dom.length : Int) := IntWalk.i64_in _ (by omega)
        clear h1 h2 h3 hz1 hz2 hK hix
        go_enter Try.func65, Try.ntmps65
        rw [hr] at O0
        go_wp2_with fail
        refine (RN.out _ O0.out.1.2.1).mono ?_
        rintro e w1 ⟨rfl, hb1⟩
        have O1 := Lib.hid (O0.out.bel hb1)
        obtain ⟨x0, x1, x2, x3, x4, x5, x6⟩ := O1.out.1.cells
        clear hb1 x0 x1 x2 x3
        go_wp2_with fail
        refine (RZ.out _).mono ?_
        rintro e w2 ⟨rfl, rfl⟩
        go_wp2_with fail
        clear x4 x5 x6
        go_loopw [54] (fun x wr => ∃ j : Nat, j ≤ a.dom.length ∧ x = .int .i64 j ∧ argOkS S a i = (opensFrom (a.dom.drop j) (i + j) && (decide ((a.idx.length : Int) = (S[K].idx.length : Int)) && opensAll a.idx (i + a.dom.length))) ∧ StA w S a w.heap.size (.slice ps S.length cs) (.slice pt a.ty.kids.length ct) (.slice pd a.dom.length cd) (.slice pi a.idx.length ci) wr) (fun x _ => a.dom.length - (RowKit.intOf x).toNat)
        case atStart => exact ⟨0, Nat.zero_le _, rfl, by rw [List.drop_zero, HE.out]; simp, O1.out⟩
        case round =>
          clear HE HA O1 O0 RZ RN RO q2
          obtain ⟨j, hj, rfl, he, hO⟩ := hrel
          by_cases hlt : j < a.dom.length
          · obtain ⟨B, off, pp, qq, rfl, gk, k0, k1, k2⟩ := hO.1.2.2.1.nth hlt
            have hji : (j : Int) < (a.dom.length : Int) := by omega
            have hj0 : (0 : Int) ≤ (j : Int) := by omega
            have hwj : IntKind.i64.wrap (i + (j : Int)) = i + (j : Int) := IntWalk.i64_in _ (by omega)
            have HBX := Lib.hid (below_al wr (.cells #[.int .i64 a.dom[j].k, .int .i64 a.dom[j].n, .slice pp a.dom[j].kids.length qq] 42))
            have CO := Lib.hid (RD.out j hlt (i + j) _ _ (gk.bel HBX.out (Nat.le_refl _)))
            rw [opens_drop hlt] at he
            have O2 := Lib.hid (hO.bel HBX.out)
            clear hO gk
            cases h5 : openT a.dom[j] (i + j) with
            | false =>
              rw [h5] at CO he
              have HE := Lib.hid (show argOkS S a i = false by rw [he]; rfl)
              clear he h5
              go_wp2_with fail
              refine CO.out.mono ?_
              rintro e w6 ⟨rfl, hb6⟩
              have O6 := Lib.hid (O2.out.bel hb6)
              clear hb6
              go_wp2_with fail
              go_ret
              exact ⟨ret_bool HE.out.symm, O6.out.2.2⟩
            | true =>
              rw [h5] at CO he
              have HE := Lib.hid he
              clear he h5
              go_wp2_with fail
              refine CO.out.mono ?_
              rintro e w6 ⟨rfl, hb6⟩
              have O6 := Lib.hid (O2.out.bel hb6)
              clear hb6
              go_wp2_with fail
              go_roundw
              case rel => exact ⟨j + 1, hlt, by go_num, by rw [HE.out, Bool.true_and], O6.out⟩
              case measure => simp [RowKit.intOf]; omega
          · obtain rfl : j = a.dom.length := by omega
            have hnl : ¬ (a.dom.length : Int) < (a.dom.length : Int) := by omega
            have HE : Hid (argOkS S a i = (decide ((a.idx.length : Int) = (S[K].idx.length : Int)) && opensAll a.idx (i + a.dom.length))) := by unfold Hid; rw [he, List.drop_length]; rfl
            obtain ⟨BS, offS, va, vtt, rfl, ga, gt, k0, k1, k2, k3, k4, k5⟩ := SRow.at hO.2.1 hKl
            obtain ⟨pa, ca, hva⟩ := ga.shape
            rw [hva] at k0
            have KS := Lib.hid k0
            have OA := Lib.hid hO
            clear he hO ga gt k0 k1 k2 k3 k4 k5 hva
            go_wp2_with fail
            refine wp_region_rel (by kernel_rfl) (by kernel_rfl) (by kernel_rfl) ?_
            apply RelWalk.rest
            · kernel_rfl
            · intro X _ W hW hcl
              obtain ⟨x0, x1, x2, x3, x4, x5, x6⟩ := OA.out.1.cells
              rw [HK.out] at x5
              have rP4 := fun q => gcell (hW q) x4
              have rP5 := fun q => gcell (hW q) x5
              have rP6 := fun q => gcell (hW q) x6
              have rK := fun q => gcell (hW q) KS.out
              clear x0 x1 x2 x3 x4 x5 x6
              have d0 := Lib.hid (fun q => into hcl (RI.out (S[K].idx.length : Int) (i + (a.dom.length : Int)) (W q) (OA.out.1.2.2.2.bel (hW q) (Nat.le_refl _))))
              repeat (go_big_quiet_step (first | (with_reducible exact d0.out _)))
              exact wpQuiet_nil rfl
            intro gq w5 hg _
            have O5 := Lib.hid (OA.out.bel hg)
            clear hg
            simp only [Spread]
            go_wp2_with fail
            go_ret
            exact ⟨ret_bool HE.out.symm, O5.out.2.2⟩
end Go.Proofs.Ytcegocmndfoflaa
