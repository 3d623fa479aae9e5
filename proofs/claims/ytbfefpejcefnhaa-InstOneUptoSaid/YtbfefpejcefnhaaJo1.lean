/- InstOne: the Go text returns true for any terms that are not greater than the second form's bound. -/
import Derived.Test.YtbfefpejcefnhaaIb
import Derived.Deep.DeepCutAuto
namespace Go.Proofs.Ytbfefpejcefnhaa
open Go.RowKit
set_option linter.unusedVariables false

/-- A box that is written over: it holds a term, whose Kids lie elsewhere. -/
def YB (B : Nat) (Y : Tm) (v : Value) (W : World) : Prop := W.heap[B]? = some (.cells #[.int .i64 Y.k, .int .i64 Y.n, v] 24 (0, 0)) ∧ AtS (fun b => b ≠ B) W Y.kids v
theorem YB.lt {B : Nat} {Y : Tm} {v : Value} {W : World} (h : YB B Y v W) : B < W.heap.size := (Array.getElem?_eq_some_iff.1 h.1).1
theorem YB.bel {B : Nat} {Y : Tm} {v : Value} {W W' : World} (h : YB B Y v W) (hb : Below W.heap.size W W') : YB B Y v W' := ⟨(hb.block B h.lt).trans h.1, h.2.grw hb⟩
theorem yb_store {B : Nat} {Y Z : Tm} {v v2 : Value} {W : World} (h : YB B Y v W) (hZ : AtS (fun b => b ≠ B) W Z.kids v2) : YB B Z v2 (((W.setCell ⟨B, 0, none⟩ (.int .i64 Z.k)).setCell ⟨B, 1, none⟩ (.int .i64 Z.n)).setCell ⟨B, 2, none⟩ v2) :=
  ⟨box_store3 h.1 _ _ _, hZ.same fun b hb => ⟨hb, other_store3 hb _ _ _⟩⟩
set_option maxRecDepth 100000 in
set_option maxHeartbeats 4000000 in
theorem lione_any (t : Tm) (A : List Tm) (hF : Fits t) (hFA : ∀ a ∈ A, Fits a) (hs : size t ≤ 1048576) (hsA : sizeL A ≤ 1048576) (w : World) (v va : Value) (hA : At w t.kids v) (hAA : At w A va) :
    Calls Try.prog 4 #[.agg #[.int .i64 t.k, .int .i64 t.n, v], va] w fun e w' => e = .returned (.bool true) ∧ Below w.heap.size w w' := by
  obtain ⟨a1, c1, rfl⟩ := hA.shape
  obtain ⟨pa, cp, rfl⟩ := hAA.shape
  have hAl : A.length ≤ 1048576 := Nat.le_trans (length_le_sizeL A) hsA
  have HH := heavy1 t hs w _ hA
  have HAA := Lib.hid hAA
  have HH2 : Hid (∀ W, Below w.heap.size w W → Calls Try.prog 12 #[.slice pa A.length cp] W fun e w' => e = .returned (.bool (heavyB A)) ∧ Below W.heap.size W w') := fun W hW => heavy_any A (by omega) W _ (hAA.bel hW (Nat.le_refl _))
  clear hA hAA
  cases hh : heavyB [t] with
  | true =>
    rw [hh] at HH
    have HH := Lib.hid HH
    clear hh HH2
    go_enter Try.func4, Try.ntmps4
    go_wp2_with fail
    refine HH.out.mono ?_
    rintro e w1 ⟨rfl, hb1⟩
    have T1 := Lib.hid hb1
    clear hb1
    go_wp2_with fail
    go_ret
    exact ⟨rfl, T1.out.2.2⟩
  | false =>
    rw [hh] at HH
    have HH := Lib.hid HH
    clear hh
    cases hh2 : heavyB A with
    | true =>
      rw [hh2] at HH2
      clear hh2
      go_enter Try.func4, Try.ntmps4
      go_wp2_with fail
      refine HH.out.mono ?_
      rintro e w1 ⟨rfl, hb1⟩
      have T1 := Lib.hid hb1
      clear hb1
      go_wp2_with fail
      refine (HH2.out _ T1.out.2.2).mono ?_
      rintro e w2 ⟨rfl, hb2⟩
      have T2 := Lib.hid (T1.out.bel hb2)
      clear hb2
      go_wp2_with fail
      go_ret
      exact ⟨rfl, T2.out.2.2⟩
    | false =>
      rw [hh2] at HH2
      have hp : A.length ≤ 60 := by
        have := hh2
        simp only [heavyB, Bool.or_eq_false_iff, decide_eq_false_iff_not] at this
        omega
      clear hh2
      by_cases hn : 6 < A.length
      · have hn2 : (6 : Int) < (A.length : Int) := by omega
        go_enter Try.func4, Try.ntmps4
        go_wp2_with fail
        refine HH.out.mono ?_
        rintro e w1 ⟨rfl, hb1⟩
        have T1 := Lib.hid hb1
        clear hb1
        go_wp2_with fail
        refine (HH2.out _ T1.out.2.2).mono ?_
        rintro e w2 ⟨rfl, hb2⟩
        have T2 := Lib.hid (T1.out.bel hb2)
        clear hb2
        go_wp2_with fail
        go_ret
        exact ⟨rfl, T2.out.2.2⟩
      have hn1 : decide (6 < A.length) = false := decide_eq_false hn
      have hn2 : (A.length : Int) ≤ (6 : Int) := by omega
      have HWK := Lib.hid (fun w => wakes5_any w)
      go_enter Try.func4, Try.ntmps4
      go_wp2_with fail
      refine HH.out.mono ?_
      rintro e w1 ⟨rfl, hb1⟩
      have T1 := Lib.hid hb1
      clear hb1 HH
      go_wp2_with fail
      refine (HH2.out _ T1.out.2.2).mono ?_
      rintro e w2 ⟨rfl, hb2⟩
      have T2 := Lib.hid (T1.out.bel hb2)
      clear hb2 T1 HH2
      obtain ⟨⟨x0, x1, x2⟩, _⟩ := T2.out
      by_cases h0 : instE t A 0 = 0
      rotate_left
      · have HI := Lib.hid (fun W v va hA hM => c_inst (u := 0) hF hs hFA hsA (by omega) rfl rfl W v va hA hM)
        have q1 : (instE t A 0 != 0) = true := by simpa using h0
        generalize instE t A 0 = e1 at *
        generalize instT t A 0 = r at *
        clear h0
        go_wp2_with fail
        refine (HI.out _ _ _ T2.out.2.1 (HAA.out.bel T2.out.2.2 (Nat.le_refl _))).mono ?_
        rintro e w3 ⟨a3, c3, rfl, hK3, hb3⟩
        obtain ⟨hX3, hg3⟩ := boxed_tell T2.out.2.2 hb3 hK3
        have T3 := Lib.hid (T2.out.bel hg3)
        clear hX3 hg3 hK3 hb3 x0 x1 x2 T2 HI
        go_wp2_with fail
        refine (HWK.out _).mono ?_
        rintro e w104 ⟨rfl, hb4⟩
        have T4 := Lib.hid (T3.out.bel hb4)
        clear hb4 T3
        go_wp2_with fail
        go_ret
        exact ⟨rfl, T4.out.2.2⟩
      have HI := Lib.hid (fun W v va hA hM => c_inst (u := 0) hF hs hFA hsA (by omega) h0 (instT_put h0) W v va hA hM)
      obtain ⟨hct, hca, _⟩ := inst_ok.1 h0
      have HCA := Lib.hid (argsE_ok.1 hca)
      have HCT := Lib.hid hct
      have HSX := Lib.hid (put_small h0)
      have HX0 : Hid (∃ X, X = putT A t 0) := ⟨_, rfl⟩
      obtain ⟨X, hX⟩ := HX0.out
      rw [← hX] at HI HSX
      have HX := Lib.hid hX
      clear h0 hct hca hX HX0
      go_wp2_with fail
      refine (HI.out _ _ _ T2.out.2.1 (HAA.out.bel T2.out.2.2 (Nat.le_refl _))).mono ?_
      rintro e w3 ⟨a3, c3, rfl, hK3, hb3⟩
      obtain ⟨hX3, hg3⟩ := boxed_tell T2.out.2.2 hb3 hK3
      have T3 := Lib.hid (T2.out.bel hg3)
      have X3 := Lib.hid hX3
      clear hX3 hg3 hK3 hb3 x0 x1 x2 T2 HI
      obtain ⟨⟨x0, x1, x2⟩, _⟩ := T3.out
      have hz3 : (w3.alloc (.cells #[.int .i64 X.k, .int .i64 X.n, .slice a3 X.kids.length c3] 24)).heap.size = w3.heap.size + 1 := by simp
      go_wp2_with fail
      revert T3 X3 x0 x1 x2
      generalize w3.alloc (.cells #[.int .i64 X.k, .int .i64 X.n, .slice a3 X.kids.length c3] 24) = wX at *
      intro T3 X3 x0 x1 x2
      have hw0 : IntKind.i64.wrap ((A.length : Int) - 1) = (A.length : Int) - 1 := IntWalk.i64_in _ (by omega)
      have HY0 : Hid (YB (w3.heap.size + 1) t (.slice a1 t.kids.length c1) (wX.alloc (.cells #[.int .i64 t.k, .int .i64 t.n, .slice a1 t.kids.length c1] 24))) := by
        have hn := World.alloc_heap_new wX (.cells #[.int .i64 t.k, .int .i64 t.n, .slice a1 t.kids.length c1] 24)
        rw [hz3] at hn
        exact ⟨hn, (T3.out.2.1.toS.same (T := fun b => b ≠ w3.heap.size + 1) fun b hb => ⟨by omega, Below.heap_alloc wX _ b hb⟩)⟩
      have HBX := Lib.hid (below_al wX (.cells #[.int .i64 t.k, .int .i64 t.n, .slice a1 t.kids.length c1] 24))
      have HW := Lib.hid T3.out.2.2
      clear x0 x1 x2 T3
      go_loopw [8] (fun i wr => ∃ (j : Nat) (Y : Tm) (aY : Option Addr) (cY : Nat), j ≤ A.length ∧ i = .int .i64 ((j : Int) - 1) ∧ checkE Y = 0 ∧ putT (A.take j) Y 0 = putT A t 0 ∧ YB (w3.heap.size + 1) Y (.slice aY Y.kids.length cY) wr ∧ Below wX.heap.size wX wr) (fun i _ => (RowKit.intOf i + 1).toNat)
      case atStart => exact ⟨A.length, t, a1, c1, Nat.le_refl _, rfl, HCT.out, by rw [List.take_length], HY0.out, HBX.out⟩
      case round =>
        obtain ⟨j, Y, aY, cY, hj, rfl, hcY, hpY, hY, hbX⟩ := hrel
        clear HY0 HBX
        have HY := Lib.hid hY
        have HB := Lib.hid (HW.out.trans (hbX.mono HW.out.size))
        have HBX := Lib.hid hbX
        have HPY := Lib.hid hpY
        have HCY := Lib.hid hcY
        obtain ⟨⟨y0, y1, y2⟩, yf0, yf1, yf2⟩ := boxc hY.1
        clear hY hpY hcY hbX
        by_cases hlt : 0 < j
        · obtain ⟨i, rfl⟩ : ∃ i, j = i + 1 := ⟨j - 1, by omega⟩
          have hij : ((i + 1 : Nat) : Int) - 1 = (i : Int) := by omega
          rw [hij]
          have hi : i < A.length := by omega
          obtain ⟨b, off, cap', vs, he, h1, h2, kk, kn, kv, ks⟩ := (HAA.out.bel HB.out (Nat.le_refl _)).pos (by omega)
          have gk := kk i hi
          have gn := kn i hi
          have gv := kv i hi
          have gs := ks i hi
          obtain ⟨au, cu, hvu⟩ := gs.shape
          rw [hvu] at gv gs
          have hsz := size_get hi
          have hl1 : (i : Int) < (A.length : Int) := by omega
          have hl0 : (0 : Int) ≤ (i : Int) := by omega
          have hw1 : IntKind.i64.wrap ((i : Int) - 1) = (i : Int) - 1 := IntWalk.i64_in _ (by omega)
          cases he
          clear kk kn kv ks hvu h1 h2
          by_cases hs0 : shiftE A[i] i 0 = 0
          rotate_left
          · have HC := Lib.hid (c_shift (hFA _ (List.getElem_mem hi)) (by omega) (b := i) (f := 0) rfl rfl wr _ gs)
            have q1 : (shiftE A[i] i 0 != 0) = true := by simpa using hs0
            generalize shiftE A[i] i 0 = e1 at *
            generalize shiftT A[i] i 0 = r at *
            clear hs0 gs
            go_wp2_with fail
            refine HC.out.mono ?_
            rintro e w4 ⟨a4, c4, rfl, hK4, hb4⟩
            obtain ⟨hX4, _⟩ := boxed_tell HB.out hb4 hK4
            have X4 := Lib.hid hX4
            clear hX4 hK4 hb4 gk gn gv y0 y1 y2 yf0 yf1 yf2 HC
            go_wp2_with fail
            refine (HWK.out _).mono ?_
            rintro e w105 ⟨rfl, hb5⟩
            have T5 := Lib.hid (X4.out.bel hb5)
            clear hb5 X4
            go_wp2_with fail
            go_ret
            exact ⟨rfl, T5.out.2.2⟩
          · have HC := Lib.hid (c_shift (hFA _ (List.getElem_mem hi)) (by omega) (b := i) (f := 0) hs0 (shiftT_ok hs0) wr _ gs)
            have hfa := move_fits hs0
            have hsa : size (moveT A[i] i 0) ≤ 1048576 := by rw [move_size]; omega
            have HCM := Lib.hid (shift_check hs0)
            have HMV : Hid (∀ Y', putT [moveT A[i] i 0] Y 0 = Y' → putT (A.take i) Y' 0 = putT A t 0) := fun Y' h => by rw [← h]; exact one_ok hi HPY.out
            clear hs0 gs hsz HPY
            generalize moveT A[i] i 0 = m at *
            go_wp2_with fail
            refine HC.out.mono ?_
            rintro e w4 ⟨a4, c4, rfl, hK4, hb4⟩
            obtain ⟨hX4, hg4⟩ := boxed_tell HB.out hb4 hK4
            have M4 := Lib.hid hX4
            have Y4 := Lib.hid (HY.out.bel hg4)
            have B4 := Lib.hid (HBX.out.trans (hg4.mono HBX.out.size))
            replace y0 := gcell hg4 y0
            replace y1 := gcell hg4 y1
            replace y2 := gcell hg4 y2
            obtain ⟨⟨m0, m1, m2⟩, _⟩ := hX4
            clear hg4 hK4 hb4 gk gn gv yf0 yf1 yf2 HC HB HBX HY
            have hfY := check_fits HCY.out
            have hsY : size Y ≤ 1048576 := Nat.le_trans (check_size HCY.out) (by omega)
            by_cases hi0 : instE Y [m] 0 = 0
            rotate_left
            · have HI := Lib.hid (fun W v va hA hM => c_inst (u := 0) hfY hsY (fits_one hfa) (size_one hsa) (by simp) rfl rfl W v va hA hM)
              have hE := (inst_err HCY.out (args1 HCM.out) in0).resolve_left hi0
              have q1 : (instE Y [m] 0 != 0) = true := by simpa using hi0
              generalize instE Y [m] 0 = e1 at *
              generalize instT Y [m] 0 = r at *
              clear hi0
              go_wp2_with fail
              have hrow := row1 M4.out.2.1
              try simp only [World.size_alloc] at hrow
              refine (HI.out _ _ _ (Y4.out.2.at.bel (below_al _ _) (Nat.le_refl _)) hrow).mono ?_
              clear hrow
              rintro e w5 ⟨a5, c5, rfl, hK5, hb5⟩
              obtain ⟨hZ5, _⟩ := lit_tell M4.out.2.2 hb5 hK5
              have Z5 := Lib.hid hZ5
              clear hZ5 hK5 hb5 y0 y1 y2 m0 m1 m2 HI Y4 M4 B4
              rcases hE with rfl | rfl | rfl
              all_goals
                go_wp2_with fail
                refine (HWK.out _).mono ?_
                rintro e w6 ⟨rfl, hb6⟩
                have Z6 := Lib.hid (Z5.out.bel hb6)
                clear hb6 Z5
                go_wp2_with fail
                go_ret
                exact ⟨rfl, Z6.out.2.2⟩
            · have HI := Lib.hid (fun W v va hA hM => c_inst (u := 0) hfY hsY (fits_one hfa) (size_one hsa) (by simp) hi0 (instT_put hi0) W v va hA hM)
              have HCZ := Lib.hid (inst_check hi0)
              have HPZ := Lib.hid (HMV.out _ rfl)
              clear hi0
              generalize putT [m] Y 0 = Z at *
              go_wp2_with fail
              have hrow := row1 M4.out.2.1
              try simp only [World.size_alloc] at hrow
              refine (HI.out _ _ _ (Y4.out.2.at.bel (below_al _ _) (Nat.le_refl _)) hrow).mono ?_
              clear hrow
              rintro e w5 ⟨a5, c5, rfl, hK5, hb5⟩
              obtain ⟨⟨⟨z0, z1, z2⟩, _⟩, hg5⟩ := lit_tell M4.out.2.2 hb5 hK5
              have hyl := Y4.out.lt
              have hZS := hK5.ats.same (T := fun b => b ≠ w3.heap.size + 1) (w' := w5.alloc (.cells #[.int .i64 Z.k, .int .i64 Z.n, .slice a5 Z.kids.length c5] 24)) fun b hb => ⟨by have := hb.1; simp only [World.size_alloc] at this hyl; omega, Below.heap_alloc w5 _ b hb.2⟩
              have hY5 := Y4.out.bel hg5
              obtain ⟨⟨n0, n1, n2⟩, f0, f1, f2⟩ := boxc hY5.1
              have Y5 := Lib.hid (yb_store hY5 hZS)
              have B5 := Lib.hid ((B4.out.trans (hg5.mono B4.out.size)).trans (below_store3 (B := w3.heap.size + 1) (by rw [hz3]; exact Nat.le_refl _) (.int .i64 Z.k) (.int .i64 Z.n) (.slice a5 Z.kids.length c5)))
              clear hZS hY5 hg5 hK5 hb5 y0 y1 y2 m0 m1 m2 HI Y4 M4 B4 hyl
              go_wp2_with fail
              go_roundw
              case rel => exact ⟨i, Z, a5, c5, by omega, rfl, HCZ.out, HPZ.out, Y5.out, B5.out⟩
              case measure => simp [RowKit.intOf] <;> omega
        · obtain rfl : j = 0 := by omega
          have hYX : Y = X := by
            have := HPY.out
            rw [List.take_zero, put_nil, ← HX.out] at this
            exact this
          subst hYX
          have OX := Lib.hid (X3.out.bel HBX.out)
          obtain ⟨⟨x0, x1, x2⟩, _⟩ := OX.out
          have HK := Lib.hid (c_same HSX.out wr _ _ OX.out.2.1 HY.out.2.at)
          clear HPY HX hlt hj
          go_wp2_with fail
          refine HK.out.mono ?_
          rintro e w4 ⟨rfl, hb4⟩
          have T4 := Lib.hid (OX.out.bel hb4)
          clear hb4 x0 x1 x2 y0 y1 y2 yf0 yf1 yf2 OX
          go_wp2_with fail
          refine (HWK.out _).mono ?_
          rintro e w105 ⟨rfl, hb5⟩
          have T5 := Lib.hid (T4.out.bel hb5)
          clear hb5 T4
          go_wp2_with fail
          go_ret
          exact ⟨rfl, T5.out.2.2⟩
end Go.Proofs.Ytbfefpejcefnhaa
