/- The laws' used: is an Arg a variable in what stands behind it? No conditions but sizes. -/
import Derived.Test.YtggefpkfikimiaaH02
import Derived.Test.YtggefpkfikimiaaG14
import Derived.Test.YtggefpkfikimiaaG35
namespace Go.Proofs.Ytggefpkfikimiaa
open Go.RowKit
set_option linter.unusedVariables false

theorem argsU_drop {i : Int} {l : List ArgT} {k : Nat} (h : k < l.length) : argsU i (k : Int) (l.drop k) = (argU ((k : Int) - 1 - i) l[k] || argsU i (((k + 1 : Nat)) : Int) (l.drop (k + 1))) := by
  rw [List.drop_eq_getElem_cons h, argsU, Int.natCast_add]
  rfl
theorem domsU_drop {n : Int} {l : List Tm} {j : Nat} (h : j < l.length) : domsU n j (l.drop j) = (decide (0 < countE l[j] (n + (j : Int))) || domsU n (j + 1) (l.drop (j + 1))) := by
  rw [List.drop_eq_getElem_cons h, domsU]
theorem idxU_drop {n : Int} {l : List Tm} {j : Nat} (h : j < l.length) : idxU n (l.drop j) = (decide (0 < countE l[j] n) || idxU n (l.drop (j + 1))) := by
  rw [List.drop_eq_getElem_cons h]
  unfold idxU
  rw [List.any_cons]
/-- A constructor in its box, behind its block's. -/
def UsI (w : World) (B : Nat) (x : ConT) (pi : Option Addr) (ci : Nat) (pj : Option Addr) (cj : Nat) (pt : Option Addr) (ct : Nat) (wr : World) : Prop := wr.heap[B]? = some (.cells #[.int .i64 x.sort, .slice pi x.args.length ci, .slice pj x.idx.length cj, .int .i64 x.dec.k, .int .i64 x.dec.n, .slice pt x.dec.kids.length ct] 35 (0, 0)) ∧ Below w.heap.size w wr
theorem UsI.bel {w : World} {B : Nat} {x : ConT} {pi : Option Addr} {ci : Nat} {pj : Option Addr} {cj : Nat} {pt : Option Addr} {ct : Nat} {wr w' : World} (h : UsI w B x pi ci pj cj pt ct wr) (hb : Below wr.heap.size wr w') : UsI w B x pi ci pj cj pt ct w' :=
  ⟨(hb.block _ (Array.getElem?_eq_some_iff.1 h.1).1).trans h.1, h.2.trans (hb.mono h.2.size)⟩
/-- An Arg in a box. -/
def UsA (B : Nat) (a : ArgT) (p1 : Option Addr) (c1 : Nat) (p2 : Option Addr) (c2 : Nat) (p3 : Option Addr) (c3 : Nat) (wr : World) : Prop := wr.heap[B]? = some (.cells #[.bool a.r, .int .i64 a.ty.k, .int .i64 a.ty.n, .slice p1 a.ty.kids.length c1, .slice p2 a.dom.length c2, .int .i64 a.sort, .slice p3 a.idx.length c3] 38 (0, 0))
theorem UsA.bel {B : Nat} {a : ArgT} {p1 : Option Addr} {c1 : Nat} {p2 : Option Addr} {c2 : Nat} {p3 : Option Addr} {c3 : Nat} {wr w' : World} (h : UsA B a p1 c1 p2 c2 p3 c3 wr) (hb : Below wr.heap.size wr w') : UsA B a p1 c1 p2 c2 p3 c3 w' :=
  (hb.block _ (Array.getElem?_eq_some_iff.1 h).1).trans h
set_option maxRecDepth 100000 in
set_option maxHeartbeats 8000000 in
theorem used_any (b : BlkT) (hs : blkN b ≤ 1048576) (c i : Nat) (hc : c < b.cons.length) (hi : i < b.cons[c].args.length) (w : World) (vs vc : Value) (hA : BAt w b vs vc) :
    Calls Try.prog 23 #[.agg #[vs, vc, .int .i64 b.elim], .int .i64 (c : Int), .int .i64 (i : Int)] w fun e w' => e = .returned (.bool (usedB b.cons[c] i)) ∧ Below w.heap.size w w' := by
  obtain ⟨ps, cs, pc, cc, rfl, rfl⟩ := hA.shape
  have hxn : conN b.cons[c] ≤ 1048576 := by have h1 := conN_le (List.getElem_mem hc); unfold blkN at hs; omega
  obtain ⟨bC, oC, vx, vy, vt, he, gA, gI, gT, s0, s1, s2, s3, s4, s5⟩ := CRow.at hA.2 hc
  cases he
  obtain ⟨pi, ci, rfl⟩ := gA.shape
  obtain ⟨pj, cj, rfl⟩ := gI.shape
  obtain ⟨pt, ct, rfl⟩ := gT.shape
  generalize b.cons[c] = x at *
  obtain ⟨w1, hw1⟩ : ∃ w1, w1 = w.alloc (.cells #[.slice ps b.sorts.length cs, .slice (some ⟨bC, oC, none⟩) b.cons.length cc, .int .i64 b.elim] 33) := ⟨_, rfl⟩
  have B1 : Below w.heap.size w w1 := by rw [hw1]; exact below_al _ _
  have hb0 : w1.heap[w.heap.size]? = some (.cells #[.slice ps b.sorts.length cs, .slice (some ⟨bC, oC, none⟩) b.cons.length cc, .int .i64 b.elim] 33 (0, 0)) := by rw [hw1]; exact World.alloc_heap_new w _
  obtain ⟨w2, hw2⟩ : ∃ w2, w2 = w1.alloc (.cells #[.int .i64 x.sort, .slice pi x.args.length ci, .slice pj x.idx.length cj, .int .i64 x.dec.k, .int .i64 x.dec.n, .slice pt x.dec.kids.length ct] 35) := ⟨_, rfl⟩
  have U2 : Hid (UsI w w1.heap.size x pi ci pj cj pt ct w2) := ⟨by rw [hw2]; exact World.alloc_heap_new w1 _, by rw [hw2]; exact B1.trans ((below_al w1 _).mono B1.size)⟩
  have GA := Lib.hid gA
  have GI := Lib.hid gI
  have GT := Lib.hid gT
  have y0 := gcell B1 s0
  have y1 := gcell B1 s1
  have y2 := gcell B1 s2
  have y3 := gcell B1 s3
  have y4 := gcell B1 s4
  have y5 := gcell B1 s5
  have HW1 := Lib.hid hw1
  have HW2 := Lib.hid hw2
  have hci : (c : Int) < (b.cons.length : Int) := by omega
  have hc0 : (0 : Int) ≤ (c : Int) := by omega
  have hXN := Lib.hid hxn
  have hxl : x.args.length ≤ 1048576 ∧ x.idx.length ≤ 1048576 ∧ size x.dec ≤ 1048576 := by have h1 := argsN_len x.args; have h2 := length_le_sizeL x.idx; unfold conN at hxn; omega
  obtain ⟨hxl1, hxl2, hxl3⟩ := hxl
  have hwi : IntKind.i64.wrap ((i : Int) + 1) = ((i + 1 : Nat) : Int) := by rw [IntWalk.i64_in _ (by omega)]; omega
  obtain ⟨⟨x0, x1, x2⟩, _⟩ := boxc hb0
  have HE0 := Lib.hid (show usedB x i = (argsU (i : Int) ((i + 1 : Nat) : Int) (x.args.drop (i + 1)) || (idxU ((x.args.length : Int) - 1 - i) x.idx || decide (0 < countE x.dec ((x.args.length : Int) - 1 - i)))) by unfold usedB; rw [Int.natCast_add]; rfl)
  clear hA gA gI gT s0 s1 s2 s3 s4 s5 B1 hw1 hw2 hxn hb0
  go_enter Try.func23, Try.ntmps23
  go_upto_region 1 with (fail)
  rw [← HW1.out]
  go_upto_region 2 with (fail)
  rw [← HW2.out]
  clear HW1 HW2 y0 y1 y2 y3 y4 y5 x0 x1 x2
  go_wp2_with fail
  go_loopw [8] (fun si wr => ∃ k : Nat, si = .int .i64 (k : Int) ∧ i + 1 ≤ k ∧ k ≤ x.args.length ∧ usedB x i = (argsU (i : Int) (k : Int) (x.args.drop k) || (idxU ((x.args.length : Int) - 1 - i) x.idx || decide (0 < countE x.dec ((x.args.length : Int) - 1 - i)))) ∧ UsI w w1.heap.size x pi ci pj cj pt ct wr) (fun si _ => x.args.length - (RowKit.intOf si).toNat)
  case atStart => exact ⟨i + 1, rfl, Nat.le_refl _, hi, HE0.out, U2.out⟩
  case round =>
    clear U2 HE0
    obtain ⟨k, rfl, hik, hk, hE, hU⟩ := hrel
    have HE := Lib.hid hE
    have UJ := Lib.hid hU
    clear hE hU
    obtain ⟨a0, a1, a2, a3, a4, a5⟩ := boxc6 UJ.out.1
    by_cases hlt : k < x.args.length
    · have hk1 : (k : Int) < (x.args.length : Int) := by omega
      have hk0 : (0 : Int) ≤ (k : Int) := by omega
      have hwk : IntKind.i64.wrap ((k : Int) + 1) = ((k + 1 : Nat) : Int) := by rw [IntWalk.i64_in _ (by omega)]; omega
      have hw3 : IntKind.i64.wrap ((k : Int) - 1) = (k : Int) - 1 := IntWalk.i64_in _ (by omega)
      have hw4 : IntKind.i64.wrap ((k : Int) - 1 - (i : Int)) = (k : Int) - 1 - (i : Int) := IntWalk.i64_in _ (by omega)
      have HDA := Lib.hid (argsU_drop (i := (i : Int)) hlt)
      have hAN : argN x.args[k] ≤ 1048576 := by have h1 := argN_le (List.getElem_mem hlt); have h2 := hXN.out; unfold conN at h2; omega
      obtain ⟨bA, oA, vt, vd, vi, he, t1, t2, t3, m0, m1, m2, m3, m4, m5, m6⟩ := ARow.at (ARow.bel UJ.out.2 GA.out) hlt
      cases he
      obtain ⟨p1, c1, rfl⟩ := t1.shape
      obtain ⟨p2, c2, rfl⟩ := t2.shape
      obtain ⟨p3, c3, rfl⟩ := t3.shape
      obtain ⟨a, ha⟩ : ∃ a, x.args[k] = a := ⟨_, rfl⟩
      rw [ha] at HDA hAN t1 t2 t3 m0 m1 m2 m3 m4 m5 m6
      have HEA := Lib.hid (HE.out.trans (by rw [HDA.out]))
      obtain ⟨TT, hTT⟩ : ∃ TT, (argsU (i : Int) ((k + 1 : Nat) : Int) (x.args.drop (k + 1)) || (idxU ((x.args.length : Int) - 1 - i) x.idx || decide (0 < countE x.dec ((x.args.length : Int) - 1 - i)))) = TT := ⟨_, rfl⟩
      obtain ⟨nn, hnn⟩ : ∃ nn : Int, (k : Int) - 1 - (i : Int) = nn := ⟨_, rfl⟩
      have HNN := Lib.hid (show 0 ≤ nn ∧ nn ≤ 1048576 by omega)
      have HEB := Lib.hid (HEA.out.trans (show _ = ((decide (0 < countE a.ty nn) || (domsU nn 0 a.dom || idxU (nn + (a.dom.length : Int)) a.idx)) || TT) by rw [← hTT, hnn, Bool.or_assoc]; rfl))
      have HTT := Lib.hid hTT
      have hal : a.dom.length ≤ 1048576 ∧ a.idx.length ≤ 1048576 := by have h1 := length_le_sizeL a.dom; have h2 := length_le_sizeL a.idx; unfold argN at hAN; omega
      obtain ⟨hal1, hal2⟩ := hal
      have HSZ : Hid (size a.ty ≤ 1048576 ∧ (∀ u ∈ a.dom, size u ≤ 1048576) ∧ ∀ u ∈ a.idx, size u ≤ 1048576) := ⟨by unfold argN at hAN; omega, fun u hu => by have h3 := size_le_of_mem hu; unfold argN at hAN; omega, fun u hu => by have h3 := size_le_of_mem hu; unfold argN at hAN; omega⟩
      rw [hnn] at hw4
      have TT1 := Lib.hid t1
      have TT2 := Lib.hid t2
      have TT3 := Lib.hid t3
      have HRA : Hid (x.args[k] = a) := ha
      clear HE HEA hTT hAN t1 t2 t3
      go_upto_region 6 with (fail)
      rw [HRA.out] at *
      obtain ⟨w4, hw4'⟩ : ∃ w4, w4 = wr.alloc (.cells #[.bool a.r, .int .i64 a.ty.k, .int .i64 a.ty.n, .slice p1 a.ty.kids.length c1, .slice p2 a.dom.length c2, .int .i64 a.sort, .slice p3 a.idx.length c3] 38) := ⟨_, rfl⟩
      have A4 : Hid (UsA wr.heap.size a p1 c1 p2 c2 p3 c3 w4) := by unfold Hid UsA; rw [hw4']; exact World.alloc_heap_new wr _
      have B4 : Below wr.heap.size wr w4 := by rw [hw4']; exact below_al _ _
      rw [← hw4']
      have U4 := Lib.hid (UJ.out.bel B4)
      have D4 := Lib.hid (TT2.out.bel B4 (Nat.le_refl _))
      have I4 := Lib.hid (TT3.out.bel B4 (Nat.le_refl _))
      have HC := Lib.hid (c_rcount a.ty HSZ.out.1 nn w4 _ (TT1.out.bel B4 (Nat.le_refl _)))
      clear hw4' UJ TT1 TT2 TT3 m0 m1 m2 m3 m4 m5 m6 a0 a1 a2 a3 a4 a5 HRA B4
      generalize wr.heap.size = BA at *
      obtain ⟨z0, z1, z2, z3, z4, z5, z6⟩ := boxA7 A4.out
      obtain ⟨CE, hCE⟩ : ∃ CE, countE a.ty nn = CE := ⟨_, rfl⟩
      rw [hCE] at HC HEB
      clear hCE
      by_cases hce : 0 < CE
      · have HE2 := Lib.hid (HEB.out.trans (show _ = true by rw [decide_eq_true hce]; rfl))
        have hce1 : (0 : Int) < (CE : Int) := by omega
        clear HEB
        go_wp2_with fail
        refine HC.out.mono ?_
        rintro e w5 ⟨rfl, hb5⟩
        have U5 := Lib.hid (U4.out.bel hb5)
        clear hb5 z0 z1 z2 z3 z4 z5 z6
        go_wp2_with fail
        go_ret
        exact ⟨ret_bool HE2.out.symm, U5.out.2⟩
      have HE2 := Lib.hid (HEB.out.trans (show _ = ((domsU nn 0 (a.dom.drop 0) || idxU (nn + (a.dom.length : Int)) a.idx) || TT) by rw [decide_eq_false hce]; rfl))
      have hce1 : ¬ (0 : Int) < (CE : Int) := by omega
      clear HEB
      go_wp2_with fail
      refine HC.out.mono ?_
      rintro e w5 ⟨rfl, hb5⟩
      have U5 := Lib.hid (U4.out.bel hb5)
      have A5 := Lib.hid (A4.out.bel hb5)
      have D5 := Lib.hid (D4.out.bel hb5 (Nat.le_refl _))
      have I5 := Lib.hid (I4.out.bel hb5 (Nat.le_refl _))
      clear hb5 z0 z1 z2 z3 z4 z5 z6 U4 A4 D4 I4 HC
      go_wp2_with fail
      go_loopw [10] (fun sj ws => ∃ j : Nat, sj = .int .i64 (j : Int) ∧ j ≤ a.dom.length ∧ usedB x i = ((domsU nn j (a.dom.drop j) || idxU (nn + (a.dom.length : Int)) a.idx) || TT) ∧ UsI w w1.heap.size x (some ⟨bA, oA, none⟩) ci pj cj pt ct ws ∧ UsA BA a p1 c1 p2 c2 p3 c3 ws ∧ At ws a.dom (.slice p2 a.dom.length c2) ∧ At ws a.idx (.slice p3 a.idx.length c3)) (fun sj _ => a.dom.length - (RowKit.intOf sj).toNat)
      case atStart => exact ⟨0, rfl, Nat.zero_le _, HE2.out, U5.out, A5.out, D5.out, I5.out⟩
      case round =>
        clear U5 A5 D5 I5 HE2
        obtain ⟨j, rfl, hj, hE, hU, hA2, hD2, hI2⟩ := hrel
        have HE := Lib.hid hE
        have UJ := Lib.hid hU
        have AJ := Lib.hid hA2
        have DJ := Lib.hid hD2
        have IJ := Lib.hid hI2
        clear hE hU hA2 hD2 hI2
        obtain ⟨z0, z1, z2, z3, z4, z5, z6⟩ := boxA7 AJ.out
        by_cases hjt : j < a.dom.length
        · have hj1 : (j : Int) < (a.dom.length : Int) := by omega
          have hj0 : (0 : Int) ≤ (j : Int) := by omega
          have hnr := HNN.out
          have hwj : IntKind.i64.wrap ((j : Int) + 1) = ((j + 1 : Nat) : Int) := by rw [IntWalk.i64_in _ (by omega)]; omega
          have hw5 : IntKind.i64.wrap (nn + (j : Int)) = nn + (j : Int) := IntWalk.i64_in _ (by omega)
          have HDJ := Lib.hid (domsU_drop (n := nn) hjt)
          obtain ⟨bX, oX, kX, us, he, hcapX, hcmX, g0, g1, g2, g3⟩ := DJ.out.pos (by omega)
          cases he
          obtain ⟨y0, y1, y2, y3⟩ := And.intro (g0 j hjt) (And.intro (g1 j hjt) (And.intro (g2 j hjt) (g3 j hjt)))
          obtain ⟨au, cu, hau⟩ := y3.shape
          rw [hau] at y2 y3
          have HC := Lib.hid (c_rcount a.dom[j] (HSZ.out.2.1 _ (List.getElem_mem hjt)) (nn + (j : Int)) wr _ y3)
          clear g0 g1 g2 g3 hcapX hcmX y3 hau hnr
          obtain ⟨CE, hCE⟩ : ∃ CE, countE a.dom[j] (nn + (j : Int)) = CE := ⟨_, rfl⟩
          rw [hCE] at HC HDJ
          clear hCE
          by_cases hce : 0 < CE
          · have HE2 := Lib.hid (HE.out.trans (show _ = true by rw [HDJ.out, decide_eq_true hce]; rfl))
            have hce1 : (0 : Int) < (CE : Int) := by omega
            clear HE HDJ
            go_wp2_with fail
            refine HC.out.mono ?_
            rintro e w5 ⟨rfl, hb5⟩
            have U5 := Lib.hid (UJ.out.bel hb5)
            clear hb5 z0 z1 z2 z3 z4 z5 z6 y0 y1 y2
            go_wp2_with fail
            go_ret
            exact ⟨ret_bool HE2.out.symm, U5.out.2⟩
          have HE2 := Lib.hid (HE.out.trans (show _ = ((domsU nn (j + 1) (a.dom.drop (j + 1)) || idxU (nn + (a.dom.length : Int)) a.idx) || TT) by rw [HDJ.out, decide_eq_false hce, Bool.false_or]))
          have hce1 : ¬ (0 : Int) < (CE : Int) := by omega
          clear HE HDJ
          go_wp2_with fail
          refine HC.out.mono ?_
          rintro e w5 ⟨rfl, hb5⟩
          have U5 := Lib.hid (UJ.out.bel hb5)
          have A5 := Lib.hid (AJ.out.bel hb5)
          have D5 := Lib.hid (DJ.out.bel hb5 (Nat.le_refl _))
          have I5 := Lib.hid (IJ.out.bel hb5 (Nat.le_refl _))
          clear hb5 z0 z1 z2 z3 z4 z5 z6 y0 y1 y2 UJ AJ DJ IJ HC
          go_wp2_with fail
          go_roundw
          case rel => exact ⟨j + 1, by go_num, by omega, HE2.out, U5.out, A5.out, D5.out, I5.out⟩
          case measure => simp [RowKit.intOf] <;> omega
        · obtain rfl : j = a.dom.length := by omega
          have HE2 := Lib.hid (HE.out.trans (show _ = (idxU (nn + (a.dom.length : Int)) (a.idx.drop 0) || TT) by rw [List.drop_length]; rfl))
          clear HE
          go_wp2_with fail
          clear z0 z1 z2 z3 z4 z5 z6
          go_loopw [11] (fun sj ws => ∃ j : Nat, sj = .int .i64 (j : Int) ∧ j ≤ a.idx.length ∧ usedB x i = (idxU (nn + (a.dom.length : Int)) (a.idx.drop j) || TT) ∧ UsI w w1.heap.size x (some ⟨bA, oA, none⟩) ci pj cj pt ct ws ∧ UsA BA a p1 c1 p2 c2 p3 c3 ws ∧ At ws a.idx (.slice p3 a.idx.length c3)) (fun sj _ => a.idx.length - (RowKit.intOf sj).toNat)
          case atStart => exact ⟨0, rfl, Nat.zero_le _, HE2.out, UJ.out, AJ.out, IJ.out⟩
          case round =>
            clear UJ AJ DJ IJ HE2
            obtain ⟨j, rfl, hj, hE, hU, hA2, hI2⟩ := hrel
            have HE := Lib.hid hE
            have UJ := Lib.hid hU
            have AJ := Lib.hid hA2
            have IJ := Lib.hid hI2
            clear hE hU hA2 hI2
            by_cases hjt : j < a.idx.length
            · have hj1 : (j : Int) < (a.idx.length : Int) := by omega
              have hj0 : (0 : Int) ≤ (j : Int) := by omega
              have hnr := HNN.out
              have hwj : IntKind.i64.wrap ((j : Int) + 1) = ((j + 1 : Nat) : Int) := by rw [IntWalk.i64_in _ (by omega)]; omega
              have hw5 : IntKind.i64.wrap (nn + (a.dom.length : Int)) = nn + (a.dom.length : Int) := IntWalk.i64_in _ (by omega)
              have HDJ := Lib.hid (idxU_drop (n := nn + (a.dom.length : Int)) hjt)
              obtain ⟨bX, oX, kX, us, he, hcapX, hcmX, g0, g1, g2, g3⟩ := IJ.out.pos (by omega)
              cases he
              obtain ⟨y0, y1, y2, y3⟩ := And.intro (g0 j hjt) (And.intro (g1 j hjt) (And.intro (g2 j hjt) (g3 j hjt)))
              obtain ⟨au, cu, hau⟩ := y3.shape
              rw [hau] at y2 y3
              have HY := Lib.hid (And.intro y0 (And.intro y1 y2))
              have HC := Lib.hid (fun W (hb : Below wr.heap.size wr W) => c_rcount a.idx[j] (HSZ.out.2.2 _ (List.getElem_mem hjt)) (nn + (a.dom.length : Int)) W _ (y3.bel hb (Nat.le_refl _)))
              clear g0 g1 g2 g3 hcapX hcmX y0 y1 y2 hau hnr
              obtain ⟨CE, hCE⟩ : ∃ CE, countE a.idx[j] (nn + (a.dom.length : Int)) = CE := ⟨_, rfl⟩
              rw [hCE] at HC HDJ
              clear hCE y3
              obtain ⟨z0, z1, z2, z3, z4, z5, z6⟩ := boxA7 AJ.out
              by_cases hce : 0 < CE
              · have HE2 := Lib.hid (HE.out.trans (show _ = true by rw [HDJ.out, decide_eq_true hce]; rfl))
                have hce1 : (0 : Int) < (CE : Int) := by omega
                clear HE HDJ
                go_wp2_with fail
                clear z0 z1 z2 z3 z4 z5 z6
                refine wp_region_rel (by kernel_rfl) (by kernel_rfl) (by kernel_rfl) ?_
                apply RelWalk.rest
                · kernel_rfl
                · intro X0 _ W hW hcl
                  obtain ⟨z0, z1, z2, z3, z4, z5, z6⟩ := boxA7 AJ.out
                  have q4 := fun q => gcell (hW q) z4
                  have q6 := fun q => gcell (hW q) z6
                  have p0 := fun q => gcell (hW q) HY.out.1
                  have p1 := fun q => gcell (hW q) HY.out.2.1
                  have p2 := fun q => gcell (hW q) HY.out.2.2
                  have dC := Lib.hid (fun q => into hcl (HC.out (W q) (hW q)))
                  clear z0 z1 z2 z3 z4 z5 z6
                  repeat (go_big_quiet_step (with_reducible exact dC.out _))
                  exact wpQuiet_nil rfl
                intro gq w8 hg8 _
                simp only [Spread]
                have U5 := Lib.hid (UJ.out.bel hg8)
                clear hg8
                go_wp2_with fail
                go_ret
                exact ⟨ret_bool HE2.out.symm, U5.out.2⟩
              · have HE2 := Lib.hid (HE.out.trans (show _ = (idxU (nn + (a.dom.length : Int)) (a.idx.drop (j + 1)) || TT) by rw [HDJ.out, decide_eq_false hce, Bool.false_or]))
                have hce1 : ¬ (0 : Int) < (CE : Int) := by omega
                clear HE HDJ
                go_wp2_with fail
                clear z0 z1 z2 z3 z4 z5 z6
                refine wp_region_rel (by kernel_rfl) (by kernel_rfl) (by kernel_rfl) ?_
                apply RelWalk.rest
                · kernel_rfl
                · intro X0 _ W hW hcl
                  obtain ⟨z0, z1, z2, z3, z4, z5, z6⟩ := boxA7 AJ.out
                  have q4 := fun q => gcell (hW q) z4
                  have q6 := fun q => gcell (hW q) z6
                  have p0 := fun q => gcell (hW q) HY.out.1
                  have p1 := fun q => gcell (hW q) HY.out.2.1
                  have p2 := fun q => gcell (hW q) HY.out.2.2
                  have dC := Lib.hid (fun q => into hcl (HC.out (W q) (hW q)))
                  clear z0 z1 z2 z3 z4 z5 z6
                  repeat (go_big_quiet_step (with_reducible exact dC.out _))
                  exact wpQuiet_nil rfl
                intro gq w8 hg8 _
                simp only [Spread]
                have U5 := Lib.hid (UJ.out.bel hg8)
                have A5 := Lib.hid (AJ.out.bel hg8)
                have I5 := Lib.hid (IJ.out.bel hg8 (Nat.le_refl _))
                clear hg8
                go_wp2_with fail
                go_roundw
                case rel => exact ⟨j + 1, by go_num, by omega, HE2.out, U5.out, A5.out, I5.out⟩
                case measure => simp [RowKit.intOf] <;> omega
            · obtain rfl : j = a.idx.length := by omega
              have HE2 := Lib.hid (HE.out.trans (show _ = TT by rw [List.drop_length]; rfl))
              clear HE
              obtain ⟨z0, z1, z2, z3, z4, z5, z6⟩ := boxA7 AJ.out
              go_wp2_with fail
              go_roundw
              case rel => exact ⟨k + 1, by go_num, by omega, by omega, HE2.out.trans HTT.out.symm, UJ.out⟩
              case measure => simp [RowKit.intOf] <;> omega
    · obtain rfl : k = x.args.length := by omega
      obtain ⟨nn, hnn⟩ : ∃ nn : Int, (x.args.length : Int) - 1 - (i : Int) = nn := ⟨_, rfl⟩
      have HNN := Lib.hid (show 0 ≤ nn ∧ nn ≤ 1048576 by omega)
      have HE2 := Lib.hid (HE.out.trans (show _ = (idxU nn (x.idx.drop 0) || decide (0 < countE x.dec nn)) by rw [List.drop_length, hnn]; rfl))
      have hw3 : IntKind.i64.wrap ((x.args.length : Int) - 1) = (x.args.length : Int) - 1 := IntWalk.i64_in _ (by omega)
      have hw4 : IntKind.i64.wrap ((x.args.length : Int) - 1 - (i : Int)) = nn := by rw [hnn]; exact IntWalk.i64_in _ (by omega)
      have IJ0 := Lib.hid (GI.out.bel UJ.out.2 (Nat.le_refl _))
      have HSI : Hid (∀ u ∈ x.idx, size u ≤ 1048576) := fun u hu => by have h1 := size_le_of_mem hu; have h2 := hXN.out; unfold conN at h2; omega
      clear HE hnn
      go_wp2_with fail
      clear a0 a1 a2 a3 a4 a5
      go_loopw [13] (fun sj ws => ∃ j : Nat, sj = .int .i64 (j : Int) ∧ j ≤ x.idx.length ∧ usedB x i = (idxU nn (x.idx.drop j) || decide (0 < countE x.dec nn)) ∧ UsI w w1.heap.size x pi ci pj cj pt ct ws ∧ At ws x.idx (.slice pj x.idx.length cj)) (fun sj _ => x.idx.length - (RowKit.intOf sj).toNat)
      case atStart => exact ⟨0, rfl, Nat.zero_le _, HE2.out, UJ.out, IJ0.out⟩
      case round =>
        clear UJ IJ0 HE2
        obtain ⟨j, rfl, hj, hE, hU, hI2⟩ := hrel
        have HE := Lib.hid hE
        have UJ := Lib.hid hU
        have IJ := Lib.hid hI2
        clear hE hU hI2
        obtain ⟨a0, a1, a2, a3, a4, a5⟩ := boxc6 UJ.out.1
        by_cases hjt : j < x.idx.length
        · have hj1 : (j : Int) < (x.idx.length : Int) := by omega
          have hj0 : (0 : Int) ≤ (j : Int) := by omega
          have hwj : IntKind.i64.wrap ((j : Int) + 1) = ((j + 1 : Nat) : Int) := by rw [IntWalk.i64_in _ (by omega)]; omega
          have HDJ := Lib.hid (idxU_drop (n := nn) hjt)
          obtain ⟨bX, oX, kX, us, he, hcapX, hcmX, g0, g1, g2, g3⟩ := IJ.out.pos (by omega)
          cases he
          obtain ⟨y0, y1, y2, y3⟩ := And.intro (g0 j hjt) (And.intro (g1 j hjt) (And.intro (g2 j hjt) (g3 j hjt)))
          obtain ⟨au, cu, hau⟩ := y3.shape
          rw [hau] at y2 y3
          have HC := Lib.hid (c_rcount x.idx[j] (HSI.out _ (List.getElem_mem hjt)) nn wr _ y3)
          clear g0 g1 g2 g3 hcapX hcmX y3 hau
          obtain ⟨CE, hCE⟩ : ∃ CE, countE x.idx[j] nn = CE := ⟨_, rfl⟩
          rw [hCE] at HC HDJ
          clear hCE
          by_cases hce : 0 < CE
          · have HE2 := Lib.hid (HE.out.trans (show _ = true by rw [HDJ.out, decide_eq_true hce]; rfl))
            have hce1 : (0 : Int) < (CE : Int) := by omega
            clear HE HDJ
            go_wp2_with fail
            refine HC.out.mono ?_
            rintro e w5 ⟨rfl, hb5⟩
            have U5 := Lib.hid (UJ.out.bel hb5)
            clear hb5 a0 a1 a2 a3 a4 a5 y0 y1 y2
            go_wp2_with fail
            go_ret
            exact ⟨ret_bool HE2.out.symm, U5.out.2⟩
          have HE2 := Lib.hid (HE.out.trans (show _ = (idxU nn (x.idx.drop (j + 1)) || decide (0 < countE x.dec nn)) by rw [HDJ.out, decide_eq_false hce, Bool.false_or]))
          have hce1 : ¬ (0 : Int) < (CE : Int) := by omega
          clear HE HDJ
          go_wp2_with fail
          refine HC.out.mono ?_
          rintro e w5 ⟨rfl, hb5⟩
          have U5 := Lib.hid (UJ.out.bel hb5)
          have I5 := Lib.hid (IJ.out.bel hb5 (Nat.le_refl _))
          clear hb5 a0 a1 a2 a3 a4 a5 y0 y1 y2 UJ IJ HC
          go_wp2_with fail
          go_roundw
          case rel => exact ⟨j + 1, by go_num, by omega, HE2.out, U5.out, I5.out⟩
          case measure => simp [RowKit.intOf] <;> omega
        · obtain rfl : j = x.idx.length := by omega
          have HE2 := Lib.hid (HE.out.trans (show _ = decide (0 < countE x.dec nn) by rw [List.drop_length]; rfl))
          have HC := Lib.hid (c_rcount x.dec hxl3 nn wr _ (GT.out.bel UJ.out.2 (Nat.le_refl _)))
          obtain ⟨CE, hCE⟩ : ∃ CE, countE x.dec nn = CE := ⟨_, rfl⟩
          rw [hCE] at HC HE2
          clear HE hCE
          go_wp2_with fail
          refine HC.out.mono ?_
          rintro e w5 ⟨rfl, hb5⟩
          have U5 := Lib.hid (UJ.out.bel hb5)
          clear hb5 a0 a1 a2 a3 a4 a5
          go_wp2_with fail
          go_ret
          exact ⟨ret_bool (by rw [HE2.out]), U5.out.2⟩
end Go.Proofs.Ytggefpkfikimiaa
