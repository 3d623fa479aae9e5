/- The program's isSort of package shape. No conditions but sizes. -/
import Derived.Test.YtcegocmndfoflaaZb
import Derived.Test.YtcegocmndfoflaaHp
namespace Go.Proofs.Ytcegocmndfoflaa
open Go.RowKit
set_option linter.unusedVariables false

/-- A right index of a sort behind these earlier ones. -/
def stepE (E : List SortT) (d : Bool) (a : ArgT) (i : Int) : Bool := !(a.r && (d || decide (0 < a.dom.length))) && argOkS E a i
def idxOkE (E : List SortT) (d : Bool) : List ArgT → Int → Bool | [], _ => true | a :: l, i => stepE E d a i && idxOkE E d l (i + 1)
theorem idxOkE_drop {E : List SortT} {d : Bool} {l : List ArgT} {j : Nat} (h : j < l.length) : idxOkE E d (l.drop j) (j : Int) = (stepE E d l[j] (j : Int) && idxOkE E d (l.drop (j + 1)) ((j + 1 : Nat) : Int)) := by
  rw [List.drop_eq_getElem_cons h, idxOkE]; rfl
def sortOkE (E : List SortT) (s : SortT) : Bool := decide (s.idx.length ≤ 12) && inZ s.level 0 6 && (idxOkE E s.dec s.idx 0 && decT? s.dec s.decT s.idx.length)
/-- A sort in its box, beside the row of sorts. -/
def StS (w0 : World) (S : List SortT) (s : SortT) (B1 : Nat) (vs va vt : Value) (W : World) : Prop := OneS B1 s va vt W ∧ SRow W S vs ∧ Below w0.heap.size w0 W
theorem StS.bel {w0 W W' : World} {S : List SortT} {s : SortT} {B1 : Nat} {vs va vt : Value} (h : StS w0 S s B1 vs va vt W) (hb : Below W.heap.size W W') : StS w0 S s B1 vs va vt W' :=
  ⟨h.1.bel hb, GAt.bel hb (sortC_bel hb) h.2.1, h.2.2.trans (hb.mono h.2.2.size)⟩
theorem sts_start (w : World) (S : List SortT) (s : SortT) (vs va vt : Value) (hB : SRow w S vs) (hA : ARow w s.idx va) (hT : At w s.decT.kids vt) :
    StS w S s w.heap.size vs va vt (w.alloc (.cells #[va, .int .i64 s.level, .bool s.dec, .int .i64 s.decT.k, .int .i64 s.decT.n, vt] 44)) := by
  have hb := below_al w (.cells #[va, .int .i64 s.level, .bool s.dec, .int .i64 s.decT.k, .int .i64 s.decT.n, vt] 44)
  exact ⟨⟨World.alloc_heap_new w _, ARow.bel hb hA, hT.bel hb (Nat.le_refl _)⟩, GAt.bel hb (sortC_bel hb) hB, hb⟩
set_option maxRecDepth 100000 in
set_option maxHeartbeats 8000000 in
theorem ssort_any (E : List SortT) (hEl : E.length ≤ 1048576) (s : SortT) (hs : sortN s ≤ 1048576) (hF : s.fits) (w : World) (vs va vt : Value) (hB : SRow w E vs) (hA : ARow w s.idx va) (hT : At w s.decT.kids vt) :
    Calls Try.prog 57 #[vs, .agg #[va, .int .i64 s.level, .bool s.dec, .int .i64 s.decT.k, .int .i64 s.decT.n, vt]] w fun e w' => e = .returned (.bool (sortOkE E s)) ∧ Below w.heap.size w w' := by
  obtain ⟨ps, cs, rfl⟩ := hB.shape
  obtain ⟨pa, ca, rfl⟩ := hA.shape
  obtain ⟨pt, ct, rfl⟩ := hT.shape
  have hn : sortN s = argsN s.idx + size s.decT + 1 := rfl
  have hli := argsN_len s.idx
  obtain ⟨hFi, hFl, hFd⟩ := hF
  have O0 := Lib.hid (sts_start w E s _ _ _ hB hA hT)
  clear hB hA hT
  have RL := Lib.hid (fun W => slevel_any s.level W)
  have RD := Lib.hid (fun W hA => sdec_any s.dec s.decT hFd (by omega) (s.idx.length : Int) W (.slice pt s.decT.kids.length ct) hA)
  have hil : s.idx.length ≤ 1048576 := by omega
  have RA : Hid (∀ j (h : j < s.idx.length) W v0 v1 v2 v3, SRow W E v0 → At W s.idx[j].ty.kids v1 → At W s.idx[j].dom v2 → At W s.idx[j].idx v3 → Calls Try.prog 65 #[v0, .agg #[.bool s.idx[j].r, .int .i64 s.idx[j].ty.k, .int .i64 s.idx[j].ty.n, v1, v2, .int .i64 s.idx[j].sort, v3], .int .i64 (j : Int)] W fun e w' => e = .returned (.bool (argOkS E s.idx[j] (j : Int))) ∧ Below W.heap.size W w') :=
    fun j h W v0 v1 v2 v3 g0 g1 g2 g3 => sarg_any E hEl s.idx[j] (by have := argN_le (List.getElem_mem h); omega) (hFi _ (List.getElem_mem h)) (j : Int) (by omega) (by omega) W v0 v1 v2 v3 g0 g1 g2 g3
  clear hn hli hs hFi hFl hFd
  by_cases h1 : s.idx.length ≤ 12
  rotate_left
  · have q1 : decide ((12 : Int) < (s.idx.length : Int)) = true := by simp; omega
    have HE : Hid (sortOkE E s = false) := by unfold Hid; rw [sortOkE, decide_eq_false h1]; rfl
    clear h1
    go_enter Try.func57, Try.ntmps57
    go_wp2_with fail
    go_ret
    exact ⟨ret_bool HE.out.symm, O0.out.2.2⟩
  have q1 : decide ((12 : Int) < (s.idx.length : Int)) = false := by simp; omega
  cases h2 : inZ s.level 0 6 with
  | false =>
    rw [h2] at RL
    have HE : Hid (sortOkE E s = false) := by unfold Hid; rw [sortOkE, h2]; simp
    clear h1 h2
    go_enter Try.func57, Try.ntmps57
    go_wp2_with fail
    refine (RL.out _).mono ?_
    rintro e w1 ⟨rfl, rfl⟩
    go_wp2_with fail
    go_ret
    exact ⟨ret_bool HE.out.symm, O0.out.2.2⟩
  | true =>
    rw [h2] at RL
    have HE : Hid (sortOkE E s = (idxOkE E s.dec s.idx 0 && decT? s.dec s.decT s.idx.length)) := by unfold Hid; rw [sortOkE, h2, decide_eq_true h1]; rfl
    clear h1 h2
    go_enter Try.func57, Try.ntmps57
    go_wp2_with fail
    refine (RL.out _).mono ?_
    rintro e w1 ⟨rfl, rfl⟩
    go_wp2_with fail
    go_loopw [20] (fun x wr => ∃ j : Nat, j ≤ s.idx.length ∧ x = .int .i64 j ∧ sortOkE E s = (idxOkE E s.dec (s.idx.drop j) (j : Int) && decT? s.dec s.decT s.idx.length) ∧ StS w E s w.heap.size (.slice ps E.length cs) (.slice pa s.idx.length ca) (.slice pt s.decT.kids.length ct) wr) (fun x _ => s.idx.length - (RowKit.intOf x).toNat)
    case atStart => exact ⟨0, Nat.zero_le _, rfl, by rw [List.drop_zero, HE.out]; rfl, O0.out⟩
    case round =>
      clear HE O0 RL q1
      obtain ⟨j, hj, rfl, he, hO⟩ := hrel
      by_cases hlt : j < s.idx.length
      · obtain ⟨B, off, ut, ud, ui, rfl, g1, g2, g3, k0, k1, k2, k3, k4, k5, k6⟩ := ARow.at hO.1.2.1 hlt
        obtain ⟨p1, c1, e1⟩ := g1.shape
        obtain ⟨p2, c2, e2⟩ := g2.shape
        obtain ⟨p3, c3, e3⟩ := g3.shape
        subst e1 e2 e3
        have hji : (j : Int) < (s.idx.length : Int) := by omega
        have hj0 : (0 : Int) ≤ (j : Int) := by omega
        have hO2 := sta_start wr E s.idx[j] _ _ _ _ hO.2.1 g1 g2 g3
        have hO3 := hO.bel hO2.2.2
        have hz := hO2.2.2.size
        obtain ⟨w1, hw1⟩ : ∃ w1, w1 = wr.alloc (.cells #[.bool s.idx[j].r, .int .i64 s.idx[j].ty.k, .int .i64 s.idx[j].ty.n, .slice p1 s.idx[j].ty.kids.length c1, .slice p2 s.idx[j].dom.length c2, .int .i64 s.idx[j].sort, .slice p3 s.idx[j].idx.length c3] 49) := ⟨_, rfl⟩
        rw [← hw1] at hO2 hO3
        have CO := Lib.hid (RA.out j hlt w1 _ _ _ _ hO2.2.1 hO2.1.2.1 hO2.1.2.2.1 hO2.1.2.2.2)
        have OA := Lib.hid hO2
        have OS := Lib.hid hO3
        have HW := Lib.hid hw1
        have hst : stepE E s.dec s.idx[j] (j : Int) = (!(s.idx[j].r && (s.dec || decide (0 < s.idx[j].dom.length))) && argOkS E s.idx[j] (j : Int)) := rfl
        rw [idxOkE_drop hlt] at he
        have HEE := Lib.hid he
        have HST := Lib.hid hst
        have K := Lib.hid (And.intro k0 (And.intro k1 (And.intro k2 (And.intro k3 (And.intro k4 (And.intro k5 k6))))))
        clear g1 g2 g3 hO hO2 hO3 hw1 he hst hz k0 k1 k2 k3 k4 k5 k6
        cases hr : s.idx[j].r with
        | false =>
          have HSA : Hid (stepE E s.dec s.idx[j] (j : Int) = argOkS E s.idx[j] (j : Int)) := by unfold Hid; rw [HST.out, hr]; rfl
          rw [hr] at CO
          cases h5 : argOkS E s.idx[j] (j : Int) with
          | false =>
            rw [h5] at CO HSA
            have HE : Hid (sortOkE E s = false) := by unfold Hid; rw [HEE.out, HSA.out]; rfl
            clear h5
            obtain ⟨k0, k1, k2, k3, k4, k5, k6⟩ := K.out
            rw [hr] at k0
            clear K
            go_upto_region 6 with (fail)
            rw [hr] at HW
            rw [← HW.out]
            clear k0 k1 k2 k3 k4 k5 k6
            obtain ⟨x0, x1, x2, x3, x4, x5, x6⟩ := OA.out.1.cells
            obtain ⟨y0, y1, y2, y3, y4, y5⟩ := OS.out.1.cells
            rw [hr] at x0
            clear y0 y1 y3 y4 y5
            go_wp2_with fail
            refine CO.out.mono ?_
            rintro e w6 ⟨rfl, hb6⟩
            have O6 := Lib.hid (OS.out.bel hb6)
            clear hb6
            go_wp2_with fail
            go_ret
            exact ⟨ret_bool HE.out.symm, O6.out.2.2⟩
          | true =>
            rw [h5] at CO HSA
            have HE : Hid (sortOkE E s = (idxOkE E s.dec (s.idx.drop (j + 1)) ((j + 1 : Nat) : Int) && decT? s.dec s.decT s.idx.length)) := by unfold Hid; rw [HEE.out, HSA.out, Bool.true_and]
            clear h5
            obtain ⟨k0, k1, k2, k3, k4, k5, k6⟩ := K.out
            rw [hr] at k0
            clear K
            go_upto_region 6 with (fail)
            rw [hr] at HW
            rw [← HW.out]
            clear k0 k1 k2 k3 k4 k5 k6
            obtain ⟨x0, x1, x2, x3, x4, x5, x6⟩ := OA.out.1.cells
            obtain ⟨y0, y1, y2, y3, y4, y5⟩ := OS.out.1.cells
            rw [hr] at x0
            clear y0 y1 y3 y4 y5
            go_wp2_with fail
            refine CO.out.mono ?_
            rintro e w6 ⟨rfl, hb6⟩
            have O6 := Lib.hid (OS.out.bel hb6)
            clear hb6
            go_wp2_with fail
            go_roundw
            case rel => exact ⟨j + 1, hlt, by go_num, HE.out, O6.out⟩
            case measure => simp [RowKit.intOf]; omega
        | true =>
          rw [hr] at CO
          cases hd : s.dec with
          | true =>
            have HE : Hid (sortOkE E s = false) := by unfold Hid; rw [HEE.out, HST.out, hr, hd]; rfl
            obtain ⟨k0, k1, k2, k3, k4, k5, k6⟩ := K.out
            rw [hr] at k0
            clear K
            go_upto_region 6 with (fail)
            rw [hr] at HW
            rw [← HW.out]
            clear k0 k1 k2 k3 k4 k5 k6
            obtain ⟨x0, x1, x2, x3, x4, x5, x6⟩ := OA.out.1.cells
            obtain ⟨y0, y1, y2, y3, y4, y5⟩ := OS.out.1.cells
            rw [hr] at x0
            rw [hd] at y2
            clear y0 y1 y3 y4 y5
            go_wp2_with fail
            go_ret
            exact ⟨ret_bool HE.out.symm, OS.out.2.2⟩
          | false =>
            by_cases h0 : 0 < s.idx[j].dom.length
            · have HE : Hid (sortOkE E s = false) := by unfold Hid; rw [HEE.out, HST.out, hr, hd, decide_eq_true h0]; rfl
              obtain ⟨nd, hnd⟩ : ∃ nd : Nat, s.idx[j].dom.length = nd := ⟨_, rfl⟩
              rw [hnd] at h0
              have q0 : decide ((0 : Int) < (nd : Int)) = true := by simp; omega
              have q0a : ((0 : Int) < (nd : Int)) = True := eq_true (by omega)
              have q0b : (0 < nd) = True := eq_true h0
              clear h0
              obtain ⟨k0, k1, k2, k3, k4, k5, k6⟩ := K.out
              rw [hr] at k0
              rw [hnd] at k4
              clear K
              go_upto_region 6 with (fail)
              rw [hr] at HW
              rw [hnd] at HW
              rw [← HW.out]
              clear k0 k1 k2 k3 k4 k5 k6
              obtain ⟨x0, x1, x2, x3, x4, x5, x6⟩ := OA.out.1.cells
              obtain ⟨y0, y1, y2, y3, y4, y5⟩ := OS.out.1.cells
              rw [hr] at x0
              rw [hnd] at x4
              rw [hd] at y2
              clear y0 y1 y3 y4 y5
              go_wp2_with fail
              go_ret
              exact ⟨ret_bool HE.out.symm, OS.out.2.2⟩
            · have hnd : s.idx[j].dom.length = 0 := by omega
              have HSA : Hid (stepE E s.dec s.idx[j] (j : Int) = argOkS E s.idx[j] (j : Int)) := by unfold Hid; rw [HST.out, hr, hd, decide_eq_false h0]; rfl
              clear h0
              rw [hnd] at CO
              cases h5 : argOkS E s.idx[j] (j : Int) with
              | false =>
                rw [h5] at CO HSA
                have HE : Hid (sortOkE E s = false) := by unfold Hid; rw [HEE.out, HSA.out]; rfl
                clear h5
                obtain ⟨k0, k1, k2, k3, k4, k5, k6⟩ := K.out
                rw [hr] at k0
                rw [hnd] at k4
                clear K
                go_upto_region 6 with (fail)
                rw [hr] at HW
                rw [hnd] at HW
                rw [← HW.out]
                clear k0 k1 k2 k3 k4 k5 k6
                obtain ⟨x0, x1, x2, x3, x4, x5, x6⟩ := OA.out.1.cells
                obtain ⟨y0, y1, y2, y3, y4, y5⟩ := OS.out.1.cells
                rw [hr] at x0
                rw [hnd] at x4
                rw [hd] at y2
                clear y0 y1 y3 y4 y5
                go_wp2_with fail
                refine CO.out.mono ?_
                rintro e w6 ⟨rfl, hb6⟩
                have O6 := Lib.hid (OS.out.bel hb6)
                clear hb6
                go_wp2_with fail
                go_ret
                exact ⟨ret_bool HE.out.symm, O6.out.2.2⟩
              | true =>
                rw [h5] at CO HSA
                have HE : Hid (sortOkE E s = (idxOkE E s.dec (s.idx.drop (j + 1)) ((j + 1 : Nat) : Int) && decT? s.dec s.decT s.idx.length)) := by unfold Hid; rw [HEE.out, HSA.out, Bool.true_and]
                clear h5
                obtain ⟨k0, k1, k2, k3, k4, k5, k6⟩ := K.out
                rw [hr] at k0
                rw [hnd] at k4
                clear K
                go_upto_region 6 with (fail)
                rw [hr] at HW
                rw [hnd] at HW
                rw [← HW.out]
                clear k0 k1 k2 k3 k4 k5 k6
                obtain ⟨x0, x1, x2, x3, x4, x5, x6⟩ := OA.out.1.cells
                obtain ⟨y0, y1, y2, y3, y4, y5⟩ := OS.out.1.cells
                rw [hr] at x0
                rw [hnd] at x4
                rw [hd] at y2
                clear y0 y1 y3 y4 y5
                go_wp2_with fail
                refine CO.out.mono ?_
                rintro e w6 ⟨rfl, hb6⟩
                have O6 := Lib.hid (OS.out.bel hb6)
                clear hb6
                go_wp2_with fail
                rw [hd] at HE
                go_roundw
                case rel => exact ⟨j + 1, hlt, by go_num, HE.out, O6.out⟩
                case measure => simp [RowKit.intOf]; omega
      · obtain rfl : j = s.idx.length := by omega
        have hnl : ¬ (s.idx.length : Int) < (s.idx.length : Int) := by omega
        have HE : Hid (sortOkE E s = decT? s.dec s.decT s.idx.length) := by unfold Hid; rw [he, List.drop_length]; rfl
        have OS := Lib.hid hO
        obtain ⟨y0, y1, y2, y3, y4, y5⟩ := OS.out.1.cells
        clear he hO
        go_wp2_with fail
        refine (RD.out _ OS.out.1.2.2).mono ?_
        rintro e w6 ⟨rfl, hb6⟩
        have O6 := Lib.hid (OS.out.bel hb6)
        clear hb6
        go_wp2_with fail
        go_ret
        exact ⟨ret_bool HE.out.symm, O6.out.2.2⟩
end Go.Proofs.Ytcegocmndfoflaa
