/- The program's isCon of package shape. No conditions but sizes. -/
import Derived.Test.YtcegocmndfoflaaZc
namespace Go.Proofs.Ytcegocmndfoflaa
open Go.RowKit
set_option linter.unusedVariables false

def argsOkS (S : List SortT) : List ArgT → Int → Bool | [], _ => true | a :: l, i => argOkS S a i && argsOkS S l (i + 1)
theorem argsOkS_drop {S : List SortT} {l : List ArgT} {j : Nat} (h : j < l.length) : argsOkS S (l.drop j) (j : Int) = (argOkS S l[j] (j : Int) && argsOkS S (l.drop (j + 1)) ((j + 1 : Nat) : Int)) := by
  rw [List.drop_eq_getElem_cons h, argsOkS]; rfl
theorem argsOkS_eq (b : BlkT) : ∀ (l : List ArgT) (i : Int), argsOk b l i = argsOkS b.sorts l i
  | [], _ => rfl
  | a :: l, i => by rw [argsOk, argsOkS, argsOkS_eq b l, argOkS_eq]
/-- A right con of a block of these sorts. -/
def conOkS (S : List SortT) (c : ConT) : Bool := inZ c.sort 0 ((S.length : Int) - 1) && decide (c.args.length ≤ 12) && (argsOkS S c.args 0 && ((decide ((c.idx.length : Int) = idxLen ⟨S, [], 0⟩ c.sort) && opensAll c.idx c.args.length) && decT? (hasDec ⟨S, [], 0⟩ c.sort) c.dec c.args.length))
theorem conOkS_eq (b : BlkT) (c : ConT) : conOk b c = conOkS b.sorts c := by
  have e1 : idxLen b c.sort = idxLen ⟨b.sorts, [], 0⟩ c.sort := rfl
  have e2 : hasDec b c.sort = hasDec ⟨b.sorts, [], 0⟩ c.sort := rfl
  unfold conOk conOkS decT? nsB
  rw [argsOkS_eq, e1, e2]
  generalize inZ c.sort 0 ((b.sorts.length : Int) - 1) = A
  generalize decide (c.args.length ≤ 12) = B
  generalize decide ((c.idx.length : Int) = idxLen ⟨b.sorts, [], 0⟩ c.sort) = C
  generalize argsOkS b.sorts c.args 0 = D
  generalize opensAll c.idx c.args.length = E
  generalize (if hasDec ⟨b.sorts, [], 0⟩ c.sort = true then openT c.dec c.args.length else noneT c.dec) = F
  cases A <;> cases B <;> cases C <;> cases D <;> cases E <;> cases F <;> rfl
/-- A con in its box, beside the row of sorts. -/
def StC (w0 : World) (S : List SortT) (c : ConT) (B1 : Nat) (vs va vi vt : Value) (W : World) : Prop := OneC B1 c va vi vt W ∧ SRow W S vs ∧ Below w0.heap.size w0 W
theorem StC.bel {w0 W W' : World} {S : List SortT} {c : ConT} {B1 : Nat} {vs va vi vt : Value} (h : StC w0 S c B1 vs va vi vt W) (hb : Below W.heap.size W W') : StC w0 S c B1 vs va vi vt W' :=
  ⟨h.1.bel hb, GAt.bel hb (sortC_bel hb) h.2.1, h.2.2.trans (hb.mono h.2.2.size)⟩
theorem stc_start (w : World) (S : List SortT) (c : ConT) (vs va vi vt : Value) (hB : SRow w S vs) (hA : ARow w c.args va) (hI : At w c.idx vi) (hT : At w c.dec.kids vt) :
    StC w S c w.heap.size vs va vi vt (w.alloc (.cells #[.int .i64 c.sort, va, vi, .int .i64 c.dec.k, .int .i64 c.dec.n, vt] 46)) := by
  have hb := below_al w (.cells #[.int .i64 c.sort, va, vi, .int .i64 c.dec.k, .int .i64 c.dec.n, vt] 46)
  exact ⟨⟨World.alloc_heap_new w _, ARow.bel hb hA, hI.bel hb (Nat.le_refl _), hT.bel hb (Nat.le_refl _)⟩, GAt.bel hb (sortC_bel hb) hB, hb⟩
set_option maxRecDepth 100000 in
set_option maxHeartbeats 4000000 in
theorem scon_any (S : List SortT) (hSl : S.length ≤ 1048576) (c : ConT) (hs : conN c ≤ 1048576) (hF : c.fits) (w : World) (vs va vi vt : Value) (hB : SRow w S vs) (hA : ARow w c.args va) (hI : At w c.idx vi) (hT : At w c.dec.kids vt) :
    Calls Try.prog 58 #[vs, .agg #[.int .i64 c.sort, va, vi, .int .i64 c.dec.k, .int .i64 c.dec.n, vt]] w fun e w' => e = .returned (.bool (conOkS S c)) ∧ Below w.heap.size w w' := by
  obtain ⟨ps, cs, rfl⟩ := hB.shape
  obtain ⟨pa, ca, rfl⟩ := hA.shape
  obtain ⟨pi, ci, rfl⟩ := hI.shape
  obtain ⟨pt, ct, rfl⟩ := hT.shape
  have hn : conN c = argsN c.args + sizeL c.idx + size c.dec + 1 := rfl
  have hla := argsN_len c.args
  obtain ⟨hFs, hFa, hFi, hFd⟩ := hF
  have O0 := Lib.hid (stc_start w S c _ _ _ _ hB hA hI hT)
  clear hB hA hI hT
  have RZ := Lib.hid (fun W => sindex_any c.sort (S.length : Int) W)
  have RD := Lib.hid (fun d W hA => sdec_any d c.dec hFd (by omega) (c.args.length : Int) W (.slice pt c.dec.kids.length ct) hA)
  have RI := Lib.hid (fun x W hA => sareterms_any c.idx (by omega) hFi x (c.args.length : Int) W (.slice pi c.idx.length ci) hA)
  have hal : c.args.length ≤ 1048576 := by omega
  have RA : Hid (∀ j (h : j < c.args.length) W v0 v1 v2 v3, SRow W S v0 → At W c.args[j].ty.kids v1 → At W c.args[j].dom v2 → At W c.args[j].idx v3 → Calls Try.prog 65 #[v0, .agg #[.bool c.args[j].r, .int .i64 c.args[j].ty.k, .int .i64 c.args[j].ty.n, v1, v2, .int .i64 c.args[j].sort, v3], .int .i64 (j : Int)] W fun e w' => e = .returned (.bool (argOkS S c.args[j] (j : Int))) ∧ Below W.heap.size W w') :=
    fun j h W v0 v1 v2 v3 g0 g1 g2 g3 => sarg_any S hSl c.args[j] (by have := argN_le (List.getElem_mem h); omega) (hFa _ (List.getElem_mem h)) (j : Int) (by omega) (by omega) W v0 v1 v2 v3 g0 g1 g2 g3
  clear hn hla hs hFs hFa hFi hFd
  cases h1 : inZ c.sort 0 ((S.length : Int) - 1) with
  | false =>
    rw [h1] at RZ
    have HE : Hid (conOkS S c = false) := by unfold Hid; rw [conOkS, h1]; rfl
    clear h1
    go_enter Try.func58, Try.ntmps58
    go_wp2_with fail
    refine (RZ.out _).mono ?_
    rintro e w1 ⟨rfl, rfl⟩
    go_wp2_with fail
    go_ret
    exact ⟨ret_bool HE.out.symm, O0.out.2.2⟩
  | true =>
  rw [h1] at RZ
  by_cases h2 : c.args.length ≤ 12
  rotate_left
  · have q1 : decide ((12 : Int) < (c.args.length : Int)) = true := by simp; omega
    have HE : Hid (conOkS S c = false) := by unfold Hid; rw [conOkS, decide_eq_false h2, Bool.and_false]; rfl
    clear h1 h2
    go_enter Try.func58, Try.ntmps58
    go_wp2_with fail
    refine (RZ.out _).mono ?_
    rintro e w1 ⟨rfl, rfl⟩
    go_wp2_with fail
    go_ret
    exact ⟨ret_bool HE.out.symm, O0.out.2.2⟩
  have q1 : decide ((12 : Int) < (c.args.length : Int)) = false := by simp; omega
  obtain ⟨hz1, hz2⟩ := inZ_iff.1 h1
  obtain ⟨K, hK⟩ : ∃ K : Nat, c.sort = (K : Int) := ⟨c.sort.toNat, by omega⟩
  have hKl : K < S.length := by omega
  have hKi : (K : Int) < (S.length : Int) := by omega
  have hK0 : (0 : Int) ≤ (K : Int) := by omega
  have hix : idxLen ⟨S, [], 0⟩ c.sort = S[K].idx.length := by simp [idxLen, hK, List.getElem?_eq_getElem hKl]
  have hhd : hasDec ⟨S, [], 0⟩ c.sort = S[K].dec := by simp [hasDec, hK, List.getElem?_eq_getElem hKl]
  have HE : Hid (conOkS S c = (argsOkS S c.args 0 && ((decide ((c.idx.length : Int) = (S[K].idx.length : Int)) && opensAll c.idx c.args.length) && decT? S[K].dec c.dec c.args.length))) := by unfold Hid; rw [conOkS, h1, decide_eq_true h2, hix, hhd]; rfl
  have HK := Lib.hid hK
  clear h1 h2 hz1 hz2 hix hhd hK
  go_enter Try.func58, Try.ntmps58
  go_wp2_with fail
  refine (RZ.out _).mono ?_
  rintro e w1 ⟨rfl, rfl⟩
  go_wp2_with fail
  clear RZ q1
  go_loopw [24] (fun x wr => ∃ j : Nat, j ≤ c.args.length ∧ x = .int .i64 j ∧ conOkS S c = (argsOkS S (c.args.drop j) (j : Int) && ((decide ((c.idx.length : Int) = (S[K].idx.length : Int)) && opensAll c.idx c.args.length) && decT? S[K].dec c.dec c.args.length)) ∧ StC w S c w.heap.size (.slice ps S.length cs) (.slice pa c.args.length ca) (.slice pi c.idx.length ci) (.slice pt c.dec.kids.length ct) wr) (fun x _ => c.args.length - (RowKit.intOf x).toNat)
  case atStart => exact ⟨0, Nat.zero_le _, rfl, by rw [List.drop_zero, HE.out]; rfl, O0.out⟩
  case round =>
    clear HE O0
    obtain ⟨j, hj, rfl, he, hO⟩ := hrel
    by_cases hlt : j < c.args.length
    · obtain ⟨B, off, ut, ud, ui, rfl, g1, g2, g3, k0, k1, k2, k3, k4, k5, k6⟩ := ARow.at hO.1.2.1 hlt
      obtain ⟨p1, c1, e1⟩ := g1.shape
      obtain ⟨p2, c2, e2⟩ := g2.shape
      obtain ⟨p3, c3, e3⟩ := g3.shape
      subst e1 e2 e3
      have hji : (j : Int) < (c.args.length : Int) := by omega
      have hj0 : (0 : Int) ≤ (j : Int) := by omega
      have hO2 := sta_start wr S c.args[j] _ _ _ _ hO.2.1 g1 g2 g3
      have CO := Lib.hid (RA.out j hlt _ _ _ _ _ hO2.2.1 hO2.1.2.1 hO2.1.2.2.1 hO2.1.2.2.2)
      have O2 := Lib.hid (hO.bel hO2.2.2)
      rw [argsOkS_drop hlt] at he
      clear g1 g2 g3 hO hO2
      cases h5 : argOkS S c.args[j] (j : Int) with
      | false =>
        rw [h5] at CO he
        have HE := Lib.hid (show conOkS S c = false by rw [he]; rfl)
        clear he h5
        go_wp2_with fail
        refine CO.out.mono ?_
        rintro e w6 ⟨rfl, hb6⟩
        have O6 := Lib.hid (O2.out.bel hb6)
        clear hb6
        go_wp2_with fail
        go_ret
        exact ⟨ret_bool HE.out.symm, O6.out.2.2⟩
      | true =>
        rw [h5] at CO he
        have HE := Lib.hid he
        clear he h5
        go_wp2_with fail
        refine CO.out.mono ?_
        rintro e w6 ⟨rfl, hb6⟩
        have O6 := Lib.hid (O2.out.bel hb6)
        clear hb6
        go_wp2_with fail
        go_roundw
        case rel => exact ⟨j + 1, hlt, by go_num, by rw [HE.out, Bool.true_and], O6.out⟩
        case measure => simp [RowKit.intOf]; omega
    · obtain rfl : j = c.args.length := by omega
      have hnl : ¬ (c.args.length : Int) < (c.args.length : Int) := by omega
      have HE : Hid (conOkS S c = ((decide ((c.idx.length : Int) = (S[K].idx.length : Int)) && opensAll c.idx c.args.length) && decT? S[K].dec c.dec c.args.length)) := by unfold Hid; rw [he, List.drop_length]; rfl
      obtain ⟨BS, offS, ua, ut, rfl, ga, gt, k0, k1, k2, k3, k4, k5⟩ := SRow.at hO.2.1 hKl
      obtain ⟨p1, c1, e1⟩ := ga.shape
      obtain ⟨p2, c2, e2⟩ := gt.shape
      subst e1 e2
      obtain ⟨x0, x1, x2, x3, x4, x5⟩ := hO.1.cells
      rw [HK.out] at x0
      have z1 := World.block_lt_of_cell? wr _ x0
      have z2 := World.block_lt_of_cell? wr _ k0
      simp only at z1 z2
      have d1 : ¬ w.heap.size = wr.heap.size := by omega
      have d2 : ¬ wr.heap.size = w.heap.size := by omega
      have d3 : ¬ BS = wr.heap.size := by omega
      have d4 : ¬ wr.heap.size = BS := by omega
      have hT := sts_start wr S S[K] _ _ _ hO.2.1 ga gt
      have T1 := Lib.hid hT
      have T2 := Lib.hid (hO.bel hT.2.2)
      clear he hO ga gt hT
      go_wp2_with fail
      go_region
      clear z1 z2 x0 x1 x2 x3 x4 x5 k0 k1 k2 k3 k4 k5 d1 d2 d3 d4
      have T3 := Lib.hid (T1.out.bel (Below.refl _ _).drew)
      have T4 := Lib.hid (T2.out.bel (Below.refl _ _).drew)
      revert T3 T4
      generalize (wr.alloc _).drew = w2
      intro T3 T4
      clear T1 T2
      obtain ⟨s0, s1, s2, s3, s4, s5⟩ := T3.out.1.cells
      obtain ⟨x0, x1, x2, x3, x4, x5⟩ := T4.out.1.cells
      have RI1 := Lib.hid (RI.out (S[K].idx.length : Int) w2 T4.out.1.2.2.1)
      clear x0 x1 x3 x4 x5 s1 s2 s3 s4 s5
      cases h6 : (decide ((c.idx.length : Int) = (S[K].idx.length : Int)) && opensAll c.idx c.args.length) with
      | false =>
        rw [h6] at RI1 HE
        clear h6
        go_wp2_with fail
        refine RI1.out.mono ?_
        rintro e w3 ⟨rfl, hb3⟩
        have O3 := Lib.hid (T4.out.bel hb3)
        clear hb3 x2 s0
        go_wp2_with fail
        go_ret
        exact ⟨ret_bool (by rw [HE.out]; rfl), O3.out.2.2⟩
      | true =>
        rw [h6] at RI1 HE
        clear h6
        go_wp2_with fail
        refine RI1.out.mono ?_
        rintro e w3 ⟨rfl, hb3⟩
        have O3 := Lib.hid (T4.out.bel hb3)
        have S3 := Lib.hid (T3.out.bel hb3)
        clear hb3 x2 s0
        obtain ⟨s0, s1, s2, s3, s4, s5⟩ := S3.out.1.cells
        obtain ⟨x0, x1, x2, x3, x4, x5⟩ := O3.out.1.cells
        clear x0 x1 x2 s0 s1 s3 s4 s5
        go_wp2_with fail
        refine (RD.out S[K].dec w3 O3.out.1.2.2.2).mono ?_
        rintro e w4 ⟨rfl, hb4⟩
        have O4 := Lib.hid (O3.out.bel hb4)
        clear hb4 x3 x4 x5 s2
        go_wp2_with fail
        go_ret
        exact ⟨ret_bool (by rw [HE.out]; rfl), O4.out.2.2⟩
end Go.Proofs.Ytcegocmndfoflaa
