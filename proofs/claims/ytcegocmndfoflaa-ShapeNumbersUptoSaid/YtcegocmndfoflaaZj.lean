/- ShapeNumbers: the Go text returns true for any block, base and number. No conditions but sizes. -/
import Derived.Test.YtcegocmndfoflaaZh
import Derived.Test.YtcegocmndfoflaaLb
namespace Go.Proofs.Ytcegocmndfoflaa
open Go.RowKit
set_option linter.unusedVariables false

set_option maxRecDepth 100000 in
set_option maxHeartbeats 4000000 in
theorem lnumbers_any (b : BlkT) (hs : blkN b ≤ 1048576) (base n : Int) (hI : I64 n) (w : World) (vs vc : Value) (hA : BAt w b vs vc) :
    Calls Try.prog 4 #[.agg #[vs, vc, .int .i64 b.elim], .int .i64 base, .int .i64 n] w fun e w' => e = .returned (.bool true) ∧ Below w.heap.size w w' := by
  obtain ⟨ps, cs, pc, cc, rfl, rfl⟩ := hA.shape
  have hls := sortsN_len b.sorts
  have hlc := consN_len b.cons
  have hbn : blkN b = sortsN b.sorts + consN b.cons + 1 := rfl
  have O0 := Lib.hid (oneb_start w b _ _ hA)
  have HV := Lib.hid (heavyblk_any b hs _ _ _ O0.out.2.1)
  have HWK := Lib.hid (fun w => wakes7_any w)
  have hr1 := mod_range base 1000 (by omega) (by omega)
  clear hA
  cases hh : heavyBlk b with
  | true =>
    rw [hh] at HV
    clear hh
    go_enter Try.func4, Try.ntmps4
    go_wp2_with fail
    refine HV.out.mono ?_
    rintro e w1 ⟨rfl, hb⟩
    have O1 := Lib.hid (O0.out.bel hb)
    clear hb
    go_wp2_with fail
    go_ret
    exact ⟨ret_bool rfl, O1.out.2.2⟩
  | false =>
  rw [hh] at HV
  clear hh
  go_enter Try.func4, Try.ntmps4
  go_wp2_with fail
  refine HV.out.mono ?_
  rintro e w1 ⟨rfl, hb⟩
  have O1 := Lib.hid (O0.out.bel hb)
  clear hb O0 HV
  go_upto_region 4 with (fail)
  generalize wrap64 ((IntKind.u64.wrap base).tmod 1000) = bb at *
  obtain ⟨b0, b1⟩ := hr1
  have hnn : nsB b = (b.sorts.length : Int) := rfl
  have hcn : ncB b = (b.cons.length : Int) := rfl
  have hdr := decsN_range b (nsB b)
  have hcnt : countB b = 2 * nsB b + decsN b (nsB b) + ncB b := rfl
  have hc0 : 0 ≤ countB b := by omega
  have hc1 : countB b ≤ 8000000 := by omega
  have CT := Lib.hid (fun W hA => scount7_any b hs W (.slice ps b.sorts.length cs) (.slice pc b.cons.length cc) hA)
  have HFULL := Lib.hid (fun (x : Int) (hx : 0 ≤ x) => of_full b (base := bb) (n := x) b0 (by omega) hx)
  have hF1 : formerB b bb (-1) = -1 := by rw [former_eq b b0 (by omega), if_neg (by intro h; have := inZ_iff.1 h; omega)]
  have hC1 : ctorB b bb (b.cons.length : Int) = -1 := by rw [ctor_eq b b0 (by omega), if_neg (by intro h; have := inZ_iff.1 h; omega)]
  have hE1 : elimB b bb (b.sorts.length : Int) = -1 := by rw [elim_eq b b0 (by omega), if_neg (by intro h; have := inZ_iff.1 h; omega)]
  have NF := fun W hA => sformer_any b hs bb (-1) W (.slice ps b.sorts.length cs) (.slice pc b.cons.length cc) hA
  have NC := fun W hA => sctor_any b hs bb (b.cons.length : Int) W (.slice ps b.sorts.length cs) (.slice pc b.cons.length cc) hA
  have NE := fun W hA => selim_any b hs bb (b.sorts.length : Int) W (.slice ps b.sorts.length cs) (.slice pc b.cons.length cc) hA
  rw [hF1] at NF
  rw [hC1] at NC
  rw [hE1] at NE
  have NF := Lib.hid NF
  have NC := Lib.hid NC
  have NE := Lib.hid NE
  have HO := Lib.hid (fun (h : n < bb ∨ bb + countB b ≤ n) => of_out b (base := bb) (n := n) b0 (by omega) h)
  have UO := Lib.hid (fun (x : Int) (hx : I64 x) W hA => sof_any b hs bb x hx W (.slice ps b.sorts.length cs) (.slice pc b.cons.length cc) hA)
  have VF := Lib.hid (fun (x : Int) W hA => sformer_any b hs bb x W (.slice ps b.sorts.length cs) (.slice pc b.cons.length cc) hA)
  have VD := Lib.hid (fun (x : Int) W hA => sdecoder_any b hs bb x W (.slice ps b.sorts.length cs) (.slice pc b.cons.length cc) hA)
  have VC := Lib.hid (fun (x : Int) W hA => sctor_any b hs bb x W (.slice ps b.sorts.length cs) (.slice pc b.cons.length cc) hA)
  have VE := Lib.hid (fun (x : Int) W hA => selim_any b hs bb x W (.slice ps b.sorts.length cs) (.slice pc b.cons.length cc) hA)
  clear hls hlc hbn hnn hcn hdr hcnt hF1 hC1 hE1
  generalize countB b = CC at *
  obtain ⟨z0, z1, z2⟩ := O1.out.cells
  go_wp2_with fail
  refine (CT.out _ O1.out.2.1).mono ?_
  rintro e w2 ⟨rfl, hb⟩
  have O2 := Lib.hid (O1.out.bel hb)
  clear hb z0 z1 z2
  obtain ⟨z0, z1, z2⟩ := O2.out.cells
  clear z0 z1 z2
  go_wp2_with fail
  clear O1 CT
  go_loopw [8] (fun i wr => ∃ j : Nat, (j : Int) ≤ CC ∧ i = .int .i64 j ∧ OneB w w.heap.size b (.slice ps b.sorts.length cs) (.slice pc b.cons.length cc) wr) (fun i _ => CC.toNat - (RowKit.intOf i).toNat)
  case atStart => exact ⟨0, hc0, rfl, O2.out⟩
  case round =>
    clear O2
    obtain ⟨j, hj, rfl, hO⟩ := hrel
    have O1 := Lib.hid hO
    obtain ⟨z0, z1, z2⟩ := hO.cells
    clear hO
    by_cases hlt : (j : Int) < CC
    · have hw1 : IntKind.i64.wrap (bb + (j : Int)) = bb + (j : Int) := IntWalk.i64_in _ (by omega)
      have hjm : j < 8000000 := by omega
      have U := UO.out (bb + (j : Int)) (by unfold I64; omega)
      have r0 : ((bb + (j : Int)) != (bb + (j : Int))) = false := by simp
      rcases HFULL.out (bb + (j : Int)) (by omega) with ⟨_, v, ⟨he, hv⟩ | ⟨he, hv⟩ | ⟨he, hv⟩ | ⟨he, hv⟩⟩ | ⟨hr, _⟩
      · skip
        rw [he] at U
        dsimp only at U
        have U := Lib.hid U
        have V := VF.out v
        rw [hv] at V
        have V := Lib.hid V
        clear he hv
        go_wp2_with fail
        refine (U.out _ O1.out.2.1).mono ?_
        rintro e w2 ⟨rfl, hb⟩
        have O2 := Lib.hid (O1.out.bel hb)
        clear hb z0 z1 z2
        obtain ⟨z0, z1, z2⟩ := O2.out.cells
        go_wp2_with fail
        refine (V.out _ O2.out.2.1).mono ?_
        rintro e w3 ⟨rfl, hb⟩
        have O3 := Lib.hid (O2.out.bel hb)
        clear hb z0 z1 z2
        obtain ⟨z0, z1, z2⟩ := O3.out.cells
        clear z0 z1 z2
        go_wp2_with fail
        go_roundw
        case rel => exact ⟨j + 1, by omega, by go_num, O3.out⟩
        case measure => simp [RowKit.intOf]; omega
      · skip
        rw [he] at U
        dsimp only at U
        have U := Lib.hid U
        have V := VD.out v
        rw [hv] at V
        have V := Lib.hid V
        clear he hv
        go_wp2_with fail
        refine (U.out _ O1.out.2.1).mono ?_
        rintro e w2 ⟨rfl, hb⟩
        have O2 := Lib.hid (O1.out.bel hb)
        clear hb z0 z1 z2
        obtain ⟨z0, z1, z2⟩ := O2.out.cells
        go_wp2_with fail
        refine (V.out _ O2.out.2.1).mono ?_
        rintro e w3 ⟨rfl, hb⟩
        have O3 := Lib.hid (O2.out.bel hb)
        clear hb z0 z1 z2
        obtain ⟨z0, z1, z2⟩ := O3.out.cells
        clear z0 z1 z2
        go_wp2_with fail
        go_roundw
        case rel => exact ⟨j + 1, by omega, by go_num, O3.out⟩
        case measure => simp [RowKit.intOf]; omega
      · skip
        rw [he] at U
        dsimp only at U
        have U := Lib.hid U
        have V := VE.out v
        rw [hv] at V
        have V := Lib.hid V
        clear he hv
        go_wp2_with fail
        refine (U.out _ O1.out.2.1).mono ?_
        rintro e w2 ⟨rfl, hb⟩
        have O2 := Lib.hid (O1.out.bel hb)
        clear hb z0 z1 z2
        obtain ⟨z0, z1, z2⟩ := O2.out.cells
        go_wp2_with fail
        refine (V.out _ O2.out.2.1).mono ?_
        rintro e w3 ⟨rfl, hb⟩
        have O3 := Lib.hid (O2.out.bel hb)
        clear hb z0 z1 z2
        obtain ⟨z0, z1, z2⟩ := O3.out.cells
        clear z0 z1 z2
        go_wp2_with fail
        go_roundw
        case rel => exact ⟨j + 1, by omega, by go_num, O3.out⟩
        case measure => simp [RowKit.intOf]; omega
      · skip
        rw [he] at U
        dsimp only at U
        have U := Lib.hid U
        have V := VC.out v
        rw [hv] at V
        have V := Lib.hid V
        clear he hv
        go_wp2_with fail
        refine (U.out _ O1.out.2.1).mono ?_
        rintro e w2 ⟨rfl, hb⟩
        have O2 := Lib.hid (O1.out.bel hb)
        clear hb z0 z1 z2
        obtain ⟨z0, z1, z2⟩ := O2.out.cells
        go_wp2_with fail
        refine (V.out _ O2.out.2.1).mono ?_
        rintro e w3 ⟨rfl, hb⟩
        have O3 := Lib.hid (O2.out.bel hb)
        clear hb z0 z1 z2
        obtain ⟨z0, z1, z2⟩ := O3.out.cells
        clear z0 z1 z2
        go_wp2_with fail
        go_roundw
        case rel => exact ⟨j + 1, by omega, by go_num, O3.out⟩
        case measure => simp [RowKit.intOf]; omega
      · exact absurd ⟨by omega, by omega⟩ hr
    · have hjc : (j : Int) = CC := by omega
      have hlt2 : decide ((j : Int) < CC) = false := decide_eq_false hlt
      have hlt3 : ((j : Int) < CC) = False := eq_false hlt
      have hw1 : IntKind.i64.wrap (bb + CC) = bb + CC := IntWalk.i64_in _ (by omega)
      clear hjc hj
      by_cases hn0 : bb ≤ n
      · have g0 : decide (n ≥ bb) = true := decide_eq_true hn0
        by_cases hn1 : n < bb + CC
        · have g1 : decide (n < bb + CC) = true := decide_eq_true hn1
          clear z0 z1 z2
          go_wp2_with fail
          refine (HWK.out _).mono ?_
          rintro e w2 ⟨rfl, hb⟩
          have O2 := Lib.hid (O1.out.bel hb)
          clear hb
          go_wp2_with fail
          go_ret
          exact ⟨ret_bool rfl, O2.out.2.2⟩
        · have g1 : decide (n < bb + CC) = false := decide_eq_false hn1
          have g1b : (n < bb + CC) = False := eq_false hn1
          have U := UO.out n hI
          rw [HO.out (by omega)] at U
          dsimp only at U
          have U := Lib.hid U
          clear hn1
          go_wp2_with fail
          refine (U.out _ O1.out.2.1).mono ?_
          rintro e w2 ⟨rfl, hb⟩
          have O2 := Lib.hid (O1.out.bel hb)
          clear hb z0 z1 z2
          obtain ⟨z0, z1, z2⟩ := O2.out.cells
          go_wp2_with fail
          refine (NF.out _ O2.out.2.1).mono ?_
          rintro e w3 ⟨rfl, hb⟩
          have O3 := Lib.hid (O2.out.bel hb)
          clear hb z0 z1 z2
          obtain ⟨z0, z1, z2⟩ := O3.out.cells
          go_wp2_with fail
          refine (NC.out _ O3.out.2.1).mono ?_
          rintro e w4 ⟨rfl, hb⟩
          have O4 := Lib.hid (O3.out.bel hb)
          clear hb z0 z1 z2
          obtain ⟨z0, z1, z2⟩ := O4.out.cells
          go_wp2_with fail
          refine (NE.out _ O4.out.2.1).mono ?_
          rintro e w5 ⟨rfl, hb⟩
          have O5 := Lib.hid (O4.out.bel hb)
          clear hb z0 z1 z2
          obtain ⟨z0, z1, z2⟩ := O5.out.cells
          go_wp2_with fail
          refine (HWK.out _).mono ?_
          rintro e w6 ⟨rfl, hb⟩
          have O6 := Lib.hid (O5.out.bel hb)
          clear hb z0 z1 z2
          go_wp2_with fail
          go_ret
          exact ⟨ret_bool rfl, O6.out.2.2⟩
      · have g0 : decide (n ≥ bb) = false := decide_eq_false hn0
        have g0b : (n ≥ bb) = False := eq_false hn0
        have g0c : (bb ≤ n) = False := eq_false hn0
        have U := UO.out n hI
        rw [HO.out (by omega)] at U
        dsimp only at U
        have U := Lib.hid U
        clear hn0
        go_wp2_with fail
        refine (U.out _ O1.out.2.1).mono ?_
        rintro e w2 ⟨rfl, hb⟩
        have O2 := Lib.hid (O1.out.bel hb)
        clear hb z0 z1 z2
        obtain ⟨z0, z1, z2⟩ := O2.out.cells
        go_wp2_with fail
        refine (NF.out _ O2.out.2.1).mono ?_
        rintro e w3 ⟨rfl, hb⟩
        have O3 := Lib.hid (O2.out.bel hb)
        clear hb z0 z1 z2
        obtain ⟨z0, z1, z2⟩ := O3.out.cells
        go_wp2_with fail
        refine (NC.out _ O3.out.2.1).mono ?_
        rintro e w4 ⟨rfl, hb⟩
        have O4 := Lib.hid (O3.out.bel hb)
        clear hb z0 z1 z2
        obtain ⟨z0, z1, z2⟩ := O4.out.cells
        go_wp2_with fail
        refine (NE.out _ O4.out.2.1).mono ?_
        rintro e w5 ⟨rfl, hb⟩
        have O5 := Lib.hid (O4.out.bel hb)
        clear hb z0 z1 z2
        obtain ⟨z0, z1, z2⟩ := O5.out.cells
        go_wp2_with fail
        refine (HWK.out _).mono ?_
        rintro e w6 ⟨rfl, hb⟩
        have O6 := Lib.hid (O5.out.bel hb)
        clear hb z0 z1 z2
        go_wp2_with fail
        go_ret
        exact ⟨ret_bool rfl, O6.out.2.2⟩
end Go.Proofs.Ytcegocmndfoflaa
