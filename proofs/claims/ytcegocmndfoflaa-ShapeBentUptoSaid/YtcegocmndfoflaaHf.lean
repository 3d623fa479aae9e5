/- The page's Of: which constant of a block a number is. No conditions but sizes. -/
import Derived.Test.YtcegocmndfoflaaHn
namespace Go.Proofs.Ytcegocmndfoflaa
open Go.RowKit
set_option linter.unusedVariables false

def ofAt (b : BlkT) (base n : Int) (k : Nat) : Option (Int × Int) := if formerB b base k = n ∧ 0 ≤ n then some (3, k) else if decoderB b base k = n ∧ 0 ≤ n then some (4, k) else if elimB b base k = n ∧ 0 ≤ n then some (6, k) else none
def ofCt (b : BlkT) (base n : Int) (c : Nat) : Option (Int × Int) := if ctorB b base c = n ∧ 0 ≤ n then some (5, c) else none
/-- The first of m places that answers. -/
def firstOf (f : Nat → Option (Int × Int)) : Nat → Option (Int × Int) | 0 => none | m + 1 => match firstOf f m with | some r => some r | none => f m
def ofB (b : BlkT) (base n : Int) : Int × Int := match firstOf (ofAt b base n) b.sorts.length with | some r => r | none => match firstOf (ofCt b base n) b.cons.length with | some r => r | none => (0, 0)
theorem first_succ {f : Nat → Option (Int × Int)} {m : Nat} (h : firstOf f m = none) : firstOf f (m + 1) = f m := by rw [firstOf, h]
theorem first_more {f : Nat → Option (Int × Int)} {m : Nat} {r : Int × Int} (h : firstOf f m = some r) : ∀ d, firstOf f (m + d) = some r
  | 0 => h
  | d + 1 => by rw [← Nat.add_assoc, firstOf, first_more h d]
theorem first_hit {f : Nat → Option (Int × Int)} {j n : Nat} {r : Int × Int} (h : firstOf f j = none) (hf : f j = some r) (hj : j < n) : firstOf f n = some r := by
  have h1 : firstOf f (j + 1) = some r := by rw [first_succ h, hf]
  have := first_more h1 (n - (j + 1))
  rwa [show j + 1 + (n - (j + 1)) = n by omega] at this
theorem three_ways (F n : Int) : (F = n ∧ 0 ≤ n) ∨ F ≠ n ∨ (F = n ∧ ¬ 0 ≤ n) := by omega
set_option maxRecDepth 100000 in
set_option maxHeartbeats 8000000 in
theorem rof_any (b : BlkT) (hs : blkN b ≤ 1048576) (base n : Int) (w : World) (vs vc : Value) (hA : BAt w b vs vc) :
    Calls Try.prog 12 #[.agg #[vs, vc, .int .i64 b.elim], .int .i64 base, .int .i64 n] w fun e w' => e = .returned (.tuple #[.int .i64 (ofB b base n).1, .int .i64 (ofB b base n).2]) ∧ Below w.heap.size w w' := by
  obtain ⟨ps, cs, pc, cc, rfl, rfl⟩ := hA.shape
  have hls := sortsN_len b.sorts
  have hlc := consN_len b.cons
  have hbn : blkN b = sortsN b.sorts + consN b.cons + 1 := rfl
  have hls1 : b.sorts.length ≤ 1048576 := by omega
  have hlc1 : b.cons.length ≤ 1048576 := by omega
  have O0 := Lib.hid (oneb_start w b _ _ hA)
  have NS : Hid (∀ W, BAt W b (.slice ps b.sorts.length cs) (.slice pc b.cons.length cc) → Calls Try.prog 43 #[.agg #[.slice ps b.sorts.length cs, .slice pc b.cons.length cc, .int .i64 b.elim]] W fun e w' => e = .returned (.int .i64 (b.sorts.length : Int)) ∧ Below W.heap.size W w') := fun W hA => rns_any b W _ _ hA
  have NF := Lib.hid (fun k W hA => rformer_any b hs base k W (.slice ps b.sorts.length cs) (.slice pc b.cons.length cc) hA)
  have ND := Lib.hid (fun k W hA => rdecoder_any b hs base k W (.slice ps b.sorts.length cs) (.slice pc b.cons.length cc) hA)
  have NE := Lib.hid (fun k W hA => relim_any b hs base k W (.slice ps b.sorts.length cs) (.slice pc b.cons.length cc) hA)
  have NC := Lib.hid (fun k W hA => rctor_any b hs base k W (.slice ps b.sorts.length cs) (.slice pc b.cons.length cc) hA)
  clear hA hls hlc hbn
  go_enter Try.func12, Try.ntmps12
  go_wp2_with fail
  go_loopw [8] (fun i wr => ∃ j : Nat, j ≤ b.sorts.length ∧ i = .int .i64 j ∧ firstOf (ofAt b base n) j = none ∧ OneB w w.heap.size b (.slice ps b.sorts.length cs) (.slice pc b.cons.length cc) wr) (fun i _ => b.sorts.length - (RowKit.intOf i).toNat)
  case atStart => exact ⟨0, Nat.zero_le _, rfl, rfl, O0.out⟩
  case round =>
    clear O0
    obtain ⟨j, hj, rfl, hno, hO⟩ := hrel
    obtain ⟨x0, x1, x2⟩ := hO.cells
    have HO := Lib.hid hO
    have HNO := Lib.hid hno
    clear hO hno
    go_wp2_with fail
    refine (NS.out _ HO.out.2.1).mono ?_
    rintro e w1 ⟨rfl, hb1⟩
    have O1 := Lib.hid (HO.out.bel hb1)
    obtain ⟨y0, y1, y2⟩ := O1.out.cells
    clear hb1 x0 x1 x2 HO
    by_cases hlt : j < b.sorts.length
    · have hji : (j : Int) < (b.sorts.length : Int) := by omega
      have hjm : j < 1048576 := by omega
      have NFj := Lib.hid (NF.out j)
      have NDj := Lib.hid (ND.out j)
      have NEj := Lib.hid (NE.out j)
      have HAT : Hid (ofAt b base n j = if formerB b base j = n ∧ 0 ≤ n then some (3, (j : Int)) else if decoderB b base j = n ∧ 0 ≤ n then some (4, (j : Int)) else if elimB b base j = n ∧ 0 ≤ n then some (6, (j : Int)) else none) := rfl
      generalize formerB b base j = F at *
      generalize decoderB b base j = D at *
      generalize elimB b base j = E at *
      rcases three_ways F n with ⟨hF, h0⟩ | hF | ⟨hF, h0F⟩
      · skip
        have qF : (F == n) = true := by simp [hF]
        have q0 : (n ≥ 0) := h0
        have NF := Lib.hid (show F = n ∧ 0 ≤ n from ⟨hF, h0⟩)
        clear hF
        go_wp2_with fail
        refine (NFj.out _ O1.out.2.1).mono ?_
        rintro e w2 ⟨rfl, hb2⟩
        have O2 := Lib.hid (O1.out.bel hb2)
        obtain ⟨z01, z11, z21⟩ := O2.out.cells
        clear hb2
        have HE : Hid (ofB b base n = (3, (j : Int))) := by
          unfold Hid ofB
          rw [first_hit HNO.out (r := (3, (j : Int))) (by rw [HAT.out, if_pos NF.out]) hlt]
        go_wp2_with fail
        exact bodyPost_ret (v := .tuple #[.int .i64 3, .int .i64 (j : Int)]) (by simp [results, Try.f12, go_sem]) rfl ⟨by rw [HE.out], O2.out.2.2⟩
      · skip
        have qF : (F == n) = false := by simp [hF]
        have NF := Lib.hid (show ¬ (F = n ∧ 0 ≤ n) from fun h => hF h.1)
        clear hF
        go_wp2_with fail
        refine (NFj.out _ O1.out.2.1).mono ?_
        rintro e w2 ⟨rfl, hb2⟩
        have O2 := Lib.hid (O1.out.bel hb2)
        obtain ⟨z01, z11, z21⟩ := O2.out.cells
        clear hb2
        rcases three_ways D n with ⟨hD, h0⟩ | hD | ⟨hD, h0D⟩
        · skip
          have qD : (D == n) = true := by simp [hD]
          have q0 : (n ≥ 0) := h0
          have ND := Lib.hid (show D = n ∧ 0 ≤ n from ⟨hD, h0⟩)
          clear hD
          go_wp2_with fail
          refine (NDj.out _ O2.out.2.1).mono ?_
          rintro e w3 ⟨rfl, hb3⟩
          have O3 := Lib.hid (O2.out.bel hb3)
          obtain ⟨z02, z12, z22⟩ := O3.out.cells
          clear hb3
          have HE : Hid (ofB b base n = (4, (j : Int))) := by
            unfold Hid ofB
            rw [first_hit HNO.out (r := (4, (j : Int))) (by rw [HAT.out, if_neg NF.out, if_pos ND.out]) hlt]
          go_wp2_with fail
          exact bodyPost_ret (v := .tuple #[.int .i64 4, .int .i64 (j : Int)]) (by simp [results, Try.f12, go_sem]) rfl ⟨by rw [HE.out], O3.out.2.2⟩
        · skip
          have qD : (D == n) = false := by simp [hD]
          have ND := Lib.hid (show ¬ (D = n ∧ 0 ≤ n) from fun h => hD h.1)
          clear hD
          go_wp2_with fail
          refine (NDj.out _ O2.out.2.1).mono ?_
          rintro e w3 ⟨rfl, hb3⟩
          have O3 := Lib.hid (O2.out.bel hb3)
          obtain ⟨z02, z12, z22⟩ := O3.out.cells
          clear hb3
          rcases three_ways E n with ⟨hE, h0⟩ | hE | ⟨hE, h0E⟩
          · skip
            have qE : (E == n) = true := by simp [hE]
            have q0 : (n ≥ 0) := h0
            have NE := Lib.hid (show E = n ∧ 0 ≤ n from ⟨hE, h0⟩)
            clear hE
            go_wp2_with fail
            refine (NEj.out _ O3.out.2.1).mono ?_
            rintro e w4 ⟨rfl, hb4⟩
            have O4 := Lib.hid (O3.out.bel hb4)
            obtain ⟨z03, z13, z23⟩ := O4.out.cells
            clear hb4
            have HE : Hid (ofB b base n = (6, (j : Int))) := by
              unfold Hid ofB
              rw [first_hit HNO.out (r := (6, (j : Int))) (by rw [HAT.out, if_neg NF.out, if_neg ND.out, if_pos NE.out]) hlt]
            go_wp2_with fail
            exact bodyPost_ret (v := .tuple #[.int .i64 6, .int .i64 (j : Int)]) (by simp [results, Try.f12, go_sem]) rfl ⟨by rw [HE.out], O4.out.2.2⟩
          · skip
            have qE : (E == n) = false := by simp [hE]
            have NE := Lib.hid (show ¬ (E = n ∧ 0 ≤ n) from fun h => hE h.1)
            clear hE
            go_wp2_with fail
            refine (NEj.out _ O3.out.2.1).mono ?_
            rintro e w4 ⟨rfl, hb4⟩
            have O4 := Lib.hid (O3.out.bel hb4)
            obtain ⟨z03, z13, z23⟩ := O4.out.cells
            clear hb4
            go_wp2_with fail
            go_roundw
            case rel => exact ⟨j + 1, hlt, by go_num, by rw [first_succ HNO.out, HAT.out, if_neg NF.out, if_neg ND.out, if_neg NE.out], O4.out⟩
            case measure => simp [RowKit.intOf]; omega
          · skip
            have qE : (E == n) = true := by simp [hE]
            have q0E : decide (0 ≤ n) = false := decide_eq_false h0E
            have q1E : (0 ≤ n) = False := eq_false h0E
            have NE := Lib.hid (show ¬ (E = n ∧ 0 ≤ n) from fun h => h0E h.2)
            have H0E := Lib.hid h0E
            clear hE h0E
            go_wp2_with fail
            refine (NEj.out _ O3.out.2.1).mono ?_
            rintro e w4 ⟨rfl, hb4⟩
            have O4 := Lib.hid (O3.out.bel hb4)
            obtain ⟨z03, z13, z23⟩ := O4.out.cells
            clear hb4
            go_wp2_with fail
            go_roundw
            case rel => exact ⟨j + 1, hlt, by go_num, by rw [first_succ HNO.out, HAT.out, if_neg NF.out, if_neg ND.out, if_neg NE.out], O4.out⟩
            case measure => simp [RowKit.intOf]; omega
        · skip
          have qD : (D == n) = true := by simp [hD]
          have q0D : decide (0 ≤ n) = false := decide_eq_false h0D
          have q1D : (0 ≤ n) = False := eq_false h0D
          have ND := Lib.hid (show ¬ (D = n ∧ 0 ≤ n) from fun h => h0D h.2)
          have H0D := Lib.hid h0D
          clear hD h0D
          go_wp2_with fail
          refine (NDj.out _ O2.out.2.1).mono ?_
          rintro e w3 ⟨rfl, hb3⟩
          have O3 := Lib.hid (O2.out.bel hb3)
          obtain ⟨z02, z12, z22⟩ := O3.out.cells
          clear hb3
          rcases three_ways E n with ⟨hE, h0⟩ | hE | ⟨hE, h0E⟩
          · skip
            exact absurd h0 (Int.not_le.2 H0D.out)
          · skip
            have qE : (E == n) = false := by simp [hE]
            have NE := Lib.hid (show ¬ (E = n ∧ 0 ≤ n) from fun h => hE h.1)
            clear hE
            go_wp2_with fail
            refine (NEj.out _ O3.out.2.1).mono ?_
            rintro e w4 ⟨rfl, hb4⟩
            have O4 := Lib.hid (O3.out.bel hb4)
            obtain ⟨z03, z13, z23⟩ := O4.out.cells
            clear hb4
            go_wp2_with fail
            go_roundw
            case rel => exact ⟨j + 1, hlt, by go_num, by rw [first_succ HNO.out, HAT.out, if_neg NF.out, if_neg ND.out, if_neg NE.out], O4.out⟩
            case measure => simp [RowKit.intOf]; omega
          · skip
            have qE : (E == n) = true := by simp [hE]
            have q0E : decide (0 ≤ n) = false := decide_eq_false h0E
            have q1E : (0 ≤ n) = False := eq_false h0E
            have NE := Lib.hid (show ¬ (E = n ∧ 0 ≤ n) from fun h => h0E h.2)
            have H0E := Lib.hid h0E
            clear hE h0E
            go_wp2_with fail
            refine (NEj.out _ O3.out.2.1).mono ?_
            rintro e w4 ⟨rfl, hb4⟩
            have O4 := Lib.hid (O3.out.bel hb4)
            obtain ⟨z03, z13, z23⟩ := O4.out.cells
            clear hb4
            go_wp2_with fail
            go_roundw
            case rel => exact ⟨j + 1, hlt, by go_num, by rw [first_succ HNO.out, HAT.out, if_neg NF.out, if_neg ND.out, if_neg NE.out], O4.out⟩
            case measure => simp [RowKit.intOf]; omega
      · skip
        have qF : (F == n) = true := by simp [hF]
        have q0F : decide (0 ≤ n) = false := decide_eq_false h0F
        have q1F : (0 ≤ n) = False := eq_false h0F
        have NF := Lib.hid (show ¬ (F = n ∧ 0 ≤ n) from fun h => h0F h.2)
        have H0F := Lib.hid h0F
        clear hF h0F
        go_wp2_with fail
        refine (NFj.out _ O1.out.2.1).mono ?_
        rintro e w2 ⟨rfl, hb2⟩
        have O2 := Lib.hid (O1.out.bel hb2)
        obtain ⟨z01, z11, z21⟩ := O2.out.cells
        clear hb2
        rcases three_ways D n with ⟨hD, h0⟩ | hD | ⟨hD, h0D⟩
        · skip
          exact absurd h0 (Int.not_le.2 H0F.out)
        · skip
          have qD : (D == n) = false := by simp [hD]
          have ND := Lib.hid (show ¬ (D = n ∧ 0 ≤ n) from fun h => hD h.1)
          clear hD
          go_wp2_with fail
          refine (NDj.out _ O2.out.2.1).mono ?_
          rintro e w3 ⟨rfl, hb3⟩
          have O3 := Lib.hid (O2.out.bel hb3)
          obtain ⟨z02, z12, z22⟩ := O3.out.cells
          clear hb3
          rcases three_ways E n with ⟨hE, h0⟩ | hE | ⟨hE, h0E⟩
          · skip
            exact absurd h0 (Int.not_le.2 H0F.out)
          · skip
            have qE : (E == n) = false := by simp [hE]
            have NE := Lib.hid (show ¬ (E = n ∧ 0 ≤ n) from fun h => hE h.1)
            clear hE
            go_wp2_with fail
            refine (NEj.out _ O3.out.2.1).mono ?_
            rintro e w4 ⟨rfl, hb4⟩
            have O4 := Lib.hid (O3.out.bel hb4)
            obtain ⟨z03, z13, z23⟩ := O4.out.cells
            clear hb4
            go_wp2_with fail
            go_roundw
            case rel => exact ⟨j + 1, hlt, by go_num, by rw [first_succ HNO.out, HAT.out, if_neg NF.out, if_neg ND.out, if_neg NE.out], O4.out⟩
            case measure => simp [RowKit.intOf]; omega
          · skip
            have qE : (E == n) = true := by simp [hE]
            have q0E : decide (0 ≤ n) = false := decide_eq_false h0E
            have q1E : (0 ≤ n) = False := eq_false h0E
            have NE := Lib.hid (show ¬ (E = n ∧ 0 ≤ n) from fun h => h0E h.2)
            have H0E := Lib.hid h0E
            clear hE h0E
            go_wp2_with fail
            refine (NEj.out _ O3.out.2.1).mono ?_
            rintro e w4 ⟨rfl, hb4⟩
            have O4 := Lib.hid (O3.out.bel hb4)
            obtain ⟨z03, z13, z23⟩ := O4.out.cells
            clear hb4
            go_wp2_with fail
            go_roundw
            case rel => exact ⟨j + 1, hlt, by go_num, by rw [first_succ HNO.out, HAT.out, if_neg NF.out, if_neg ND.out, if_neg NE.out], O4.out⟩
            case measure => simp [RowKit.intOf]; omega
        · skip
          have qD : (D == n) = true := by simp [hD]
          have q0D : decide (0 ≤ n) = false := decide_eq_false h0D
          have q1D : (0 ≤ n) = False := eq_false h0D
          have ND := Lib.hid (show ¬ (D = n ∧ 0 ≤ n) from fun h => h0D h.2)
          have H0D := Lib.hid h0D
          clear hD h0D
          go_wp2_with fail
          refine (NDj.out _ O2.out.2.1).mono ?_
          rintro e w3 ⟨rfl, hb3⟩
          have O3 := Lib.hid (O2.out.bel hb3)
          obtain ⟨z02, z12, z22⟩ := O3.out.cells
          clear hb3
          rcases three_ways E n with ⟨hE, h0⟩ | hE | ⟨hE, h0E⟩
          · skip
            exact absurd h0 (Int.not_le.2 H0D.out)
          · skip
            have qE : (E == n) = false := by simp [hE]
            have NE := Lib.hid (show ¬ (E = n ∧ 0 ≤ n) from fun h => hE h.1)
            clear hE
            go_wp2_with fail
            refine (NEj.out _ O3.out.2.1).mono ?_
            rintro e w4 ⟨rfl, hb4⟩
            have O4 := Lib.hid (O3.out.bel hb4)
            obtain ⟨z03, z13, z23⟩ := O4.out.cells
            clear hb4
            go_wp2_with fail
            go_roundw
            case rel => exact ⟨j + 1, hlt, by go_num, by rw [first_succ HNO.out, HAT.out, if_neg NF.out, if_neg ND.out, if_neg NE.out], O4.out⟩
            case measure => simp [RowKit.intOf]; omega
          · skip
            have qE : (E == n) = true := by simp [hE]
            have q0E : decide (0 ≤ n) = false := decide_eq_false h0E
            have q1E : (0 ≤ n) = False := eq_false h0E
            have NE := Lib.hid (show ¬ (E = n ∧ 0 ≤ n) from fun h => h0E h.2)
            have H0E := Lib.hid h0E
            clear hE h0E
            go_wp2_with fail
            refine (NEj.out _ O3.out.2.1).mono ?_
            rintro e w4 ⟨rfl, hb4⟩
            have O4 := Lib.hid (O3.out.bel hb4)
            obtain ⟨z03, z13, z23⟩ := O4.out.cells
            clear hb4
            go_wp2_with fail
            go_roundw
            case rel => exact ⟨j + 1, hlt, by go_num, by rw [first_succ HNO.out, HAT.out, if_neg NF.out, if_neg ND.out, if_neg NE.out], O4.out⟩
            case measure => simp [RowKit.intOf]; omega
    · obtain rfl : j = b.sorts.length := by omega
      have hnl : ¬ (b.sorts.length : Int) < (b.sorts.length : Int) := by omega
      go_wp2_with fail
      clear y0 y1 y2 hnl hlt hj
      go_loopw [9] (fun i wr => ∃ j : Nat, j ≤ b.cons.length ∧ i = .int .i64 j ∧ firstOf (ofCt b base n) j = none ∧ OneB w w.heap.size b (.slice ps b.sorts.length cs) (.slice pc b.cons.length cc) wr) (fun i _ => b.cons.length - (RowKit.intOf i).toNat)
      case atStart => exact ⟨0, Nat.zero_le _, rfl, rfl, O1.out⟩
      case round =>
        clear O1
        obtain ⟨j, hj, rfl, hno, hO⟩ := hrel
        obtain ⟨x0, x1, x2⟩ := hO.cells
        have HO := Lib.hid hO
        have HNC := Lib.hid hno
        clear hO hno
        by_cases hlt : j < b.cons.length
        · have hji : (j : Int) < (b.cons.length : Int) := by omega
          have hjm : j < 1048576 := by omega
          have NCj := Lib.hid (NC.out j)
          have HCT : Hid (ofCt b base n j = if ctorB b base j = n ∧ 0 ≤ n then some (5, (j : Int)) else none) := rfl
          generalize ctorB b base j = F at *
          rcases three_ways F n with ⟨hF, h0⟩ | hF | ⟨hF, h0F⟩
          · skip
            have qF : (F == n) = true := by simp [hF]
            have q0 : (n ≥ 0) := h0
            have NF := Lib.hid (show F = n ∧ 0 ≤ n from ⟨hF, h0⟩)
            clear hF
            go_wp2_with fail
            refine (NCj.out _ HO.out.2.1).mono ?_
            rintro e w2 ⟨rfl, hb2⟩
            have O2 := Lib.hid (HO.out.bel hb2)
            clear hb2
            have HE : Hid (ofB b base n = (5, (j : Int))) := by
              unfold Hid ofB
              rw [HNO.out, first_hit HNC.out (r := (5, (j : Int))) (by rw [HCT.out, if_pos NF.out]) hlt]
            go_wp2_with fail
            exact bodyPost_ret (v := .tuple #[.int .i64 5, .int .i64 (j : Int)]) (by simp [results, Try.f12, go_sem]) rfl ⟨by rw [HE.out], O2.out.2.2⟩
          · skip
            have qF : (F == n) = false := by simp [hF]
            have NF := Lib.hid (show ¬ (F = n ∧ 0 ≤ n) from fun h => hF h.1)
            clear hF
            go_wp2_with fail
            refine (NCj.out _ HO.out.2.1).mono ?_
            rintro e w2 ⟨rfl, hb2⟩
            have O2 := Lib.hid (HO.out.bel hb2)
            clear hb2
            go_wp2_with fail
            go_roundw
            case rel => exact ⟨j + 1, hlt, by go_num, by rw [first_succ HNC.out, HCT.out, if_neg NF.out], O2.out⟩
            case measure => simp [RowKit.intOf]; omega
          · skip
            have qF : (F == n) = true := by simp [hF]
            have q0F : decide (0 ≤ n) = false := decide_eq_false h0F
            have q1F : (0 ≤ n) = False := eq_false h0F
            have NF := Lib.hid (show ¬ (F = n ∧ 0 ≤ n) from fun h => h0F h.2)
            clear hF h0F
            go_wp2_with fail
            refine (NCj.out _ HO.out.2.1).mono ?_
            rintro e w2 ⟨rfl, hb2⟩
            have O2 := Lib.hid (HO.out.bel hb2)
            clear hb2
            go_wp2_with fail
            go_roundw
            case rel => exact ⟨j + 1, hlt, by go_num, by rw [first_succ HNC.out, HCT.out, if_neg NF.out], O2.out⟩
            case measure => simp [RowKit.intOf]; omega
        · obtain rfl : j = b.cons.length := by omega
          have hnl : ¬ (b.cons.length : Int) < (b.cons.length : Int) := by omega
          have HE : Hid (ofB b base n = (0, 0)) := by unfold Hid ofB; rw [HNO.out, HNC.out]
          go_wp2_with fail
          exact bodyPost_ret (v := .tuple #[.int .i64 0, .int .i64 0]) (by simp [results, Try.f12, go_sem]) rfl ⟨by rw [HE.out], HO.out.2.2⟩
end Go.Proofs.Ytcegocmndfoflaa
