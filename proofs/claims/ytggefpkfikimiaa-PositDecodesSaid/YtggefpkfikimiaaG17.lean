/- The page's Of: which constant of a block a number is. No conditions but sizes. -/
import Derived.Test.YtggefpkfikimiaaG16
import Derived.Test.YtggefpkfikimiaaG12
namespace Go.Proofs.Ytggefpkfikimiaa
open Go.RowKit
set_option linter.unusedVariables false

def ofAt (b : BlkT) (base n : Int) (k : Nat) : Option (Int × Int) := if formerB b base k = n ∧ 0 ≤ n then some (3, k) else if decoderB b base k = n ∧ 0 ≤ n then some (4, k) else if elimB b base k = n ∧ 0 ≤ n then some (6, k) else none
def ofCt (b : BlkT) (base n : Int) (c : Nat) : Option (Int × Int) := if ctorB b base c = n ∧ 0 ≤ n then some (5, c) else none
/-- The first of m places that answers. -/
def firstOf (f : Nat → Option (Int × Int)) : Nat → Option (Int × Int) | 0 => none | m + 1 => match firstOf f m with | some r => some r | none => f m
def ofB (b : BlkT) (base n : Int) : Int × Int := match firstOf (ofAt b base n) b.sorts.length with | some r => r | none => match firstOf (ofCt b base n) b.cons.length with | some r => r | none => (0, 0)
theorem first_succ {f : Nat → Option (Int × Int)} {m : Nat} (h : firstOf f m = none) : firstOf f (m + 1) = f m := by rw [firstOf, h]
theorem first_more {f : Nat → Option (Int × Int)} {m : Nat} {r : Int × Int} (h : firstOf f m = some r) : ∀ d, firstOf f (m + d) = some r
  | 0 => h
  | d + 1 => by rw [← Nat.add_assoc, firstOf, first_more h d]
theorem first_hit {f : Nat → Option (Int × Int)} {j n : Nat} {r : Int × Int} (h : firstOf f j = none) (hf : f j = some r) (hj : j < n) : firstOf f n = some r := by
  have h1 : firstOf f (j + 1) = some r := by rw [first_succ h, hf]
  have := first_more h1 (n - (j + 1))
  rwa [show j + 1 + (n - (j + 1)) = n by omega] at this
theorem three_ways (F n : Int) : (F = n ∧ 0 ≤ n) ∨ F ≠ n ∨ (F = n ∧ ¬ 0 ≤ n) := by omega
set_option maxRecDepth 100000 in
set_option maxHeartbeats 8000000 in
theorem rof_any (b : BlkT) (hs : blkN b ≤ 1048576) (base n : Int) (w : World) (vs vc : Value) (hA : BAt w b vs vc) :
    Calls Try.prog 19 #[.agg #[vs, vc, .int .i64 b.elim], .int .i64 base, .int .i64 n] w fun e w' => e = .returned (.tuple #[.int .i64 (ofB b base n).1, .int .i64 (ofB b base n).2]) ∧ Below w.heap.size w w' := by
  obtain ⟨ps, cs, pc, cc, rfl, rfl⟩ := hA.shape
  have hls := sortsN_len b.sorts
  have hlc := consN_len b.cons
  have hbn : blkN b = sortsN b.sorts + consN b.cons + 1 := rfl
  have hls1 : b.sorts.length ≤ 1048576 := by omega
  have hlc1 : b.cons.length ≤ 1048576 := by omega
  have O0 := Lib.hid (oneb_start w b _ _ hA)
  have NS : Hid (∀ W, BAt W b (.slice ps b.sorts.length cs) (.slice pc b.cons.length cc) → Calls Try.prog 33 #[.agg #[.slice ps b.sorts.length cs, .slice pc b.cons.length cc, .int .i64 b.elim]] W fun e w' => e = .returned (.int .i64 (b.sorts.length : Int)) ∧ Below W.heap.size W w') := fun W hA => rns_any b W _ _ hA
  have NF := Lib.hid (fun k W hA => rformer_any b hs base k W (.slice ps b.sorts.length cs) (.slice pc b.cons.length cc) hA)
  have ND := Lib.hid (fun k W hA => rdecoder_any b hs base k W (.slice ps b.sorts.length cs) (.slice pc b.cons.length cc) hA)
  have NE := Lib.hid (fun k W hA => relim_any b hs base k W (.slice ps b.sorts.length cs) (.slice pc b.cons.length cc) hA)
  have NC := Lib.hid (fun k W hA => rctor_any b hs base k W (.slice ps b.sorts.length cs) (.slice pc b.cons.length cc) hA)
  clear hA hls hlc hbn
  go_enter Try.func19, Try.ntmps19
  go_wp2_with fail
  go_loopw [8] (fun i wr => ∃ j : Nat, j ≤ b.sorts.length ∧ i = .int .i64 j ∧ firstOf (ofAt b base n) j = none ∧ OneB w w.heap.size b (.slice ps b.sorts.length cs) (.slice pc b.cons.length cc) wr) (fun i _ => b.sorts.length - (RowKit.intOf i).toNat)
  case atStart => exact ⟨0, Nat.zero_le _, rfl, rfl, O0.out⟩
  case round =>
    clear O0
    obtain ⟨j, hj, rfl, hno, hO⟩ := hrel
    obtain ⟨x0, x1, x2⟩ := hO.cells
    have HO := Lib.hid hO
    have HNO := Lib.hid hno
    clear hO hno
    go_wp2_with fail
    refine (NS.out _ HO.out.2.1).mono ?_
    rintro e w1 ⟨rfl, hb1⟩
    have O1 := Lib.hid (HO.out.bel hb1)
    obtain ⟨y0, y1, y2⟩ := O1.out.cells
    clear hb1 x0 x1 x2 HO
    by_cases hlt : j < b.sorts.length
    · have hji : (j : Int) < (b.sorts.length : Int) := by omega
      have hjm : j < 1048576 := by omega
      have NFj := Lib.hid (NF.out j)
      have NDj := Lib.hid (ND.out j)
      have NEj := Lib.hid (NE.out j)
      have HAT : Hid (ofAt b base n j = if formerB b base j = n ∧ 0 ≤ n then some (3, (j : Int)) else if decoderB b base j = n ∧ 0 ≤ n then some (4, (j : Int)) else if elimB b base j = n ∧ 0 ≤ n then some (6, (j : Int)) else none) := rfl
      generalize formerB b base j = F at *
      generalize decoderB b base j = D at *
      generalize elimB b base j = E at *
      rcases three_ways F n with ⟨hF, h0⟩ | hF | ⟨hF, h0F⟩
      · skip
        have qF : (F == n) = true := by simp [hF]
        have q0 : (n ≥ 0) := h0
        have NF := Lib.hid (show F = n ∧ 0 ≤ n from ⟨hF, h0⟩)
        clear hF
        go_wp2_with fail
        refine (NFj.out _ O1.out.2.1).mono ?_
        rintro e w2 ⟨rfl, hb2⟩
        have O2 := Lib.hid (O1.out.bel hb2)
        obtain ⟨z01, z11, z21⟩ := O2.out.cells
        clear hb2
        have HE : Hid (ofB b base n = (3, (j : Int))) := by
          unfold Hid ofB
          rw [first_hit HNO.out (r := (3, (j : Int))) (by rw [HAT.out, if_pos NF.out]) hlt]
        go_wp2_with fail
        exact bodyPost_ret (v := .tuple #[.int .i64 3, .int .i64 (j : Int)]) (by simp [results, Try.f19, go_sem]) rfl ⟨by rw [HE.out], O2.out.2.2⟩
      · skip
        have qF : (F == n) = false := by simp [hF]
        have NF := Lib.hid (show ¬ (F = n ∧ 0 ≤ n) from fun h => hF h.1)
        clear hF
        go_wp2_with fail
        refine (NFj.out _ O1.out.2.1).mono ?_
        rintro e w2 ⟨rfl, hb2⟩
        have O2 := Lib.hid (O1.out.bel hb2)
        obtain ⟨z01, z11, z21⟩ := O2.out.cells
        clear hb2
        rcases three_ways D n with ⟨hD, h0⟩ | hD | ⟨hD, h0D⟩
        · skip
          have qD : (D == n) = true := by simp [hD]
          have q0 : (n ≥ 0) := h0
          have ND := Lib.hid (show D = n ∧ 0 ≤ n from ⟨hD, h0⟩)
          clear hD
          go_wp2_with fail
          refine (NDj.out _ O2.out.2.1).mono ?_
          rintro e w3 ⟨rfl, hb3⟩
          have O3 := Lib.hid (O2.out.bel hb3)
          obtain ⟨z02, z12, z22⟩ := O3.out.cells
          clear hb3
          have HE : Hid (ofB b base n = (4, (j : Int))) := by
            unfold Hid ofB
            rw [first_hit HNO.out (r := (4, (j : Int))) (by rw [HAT.out, if_neg NF.out, if_pos ND.out]) hlt]
          go_wp2_with fail
          exact bodyPost_ret (v := .tuple #[.int .i64 4, .int .i64 (j : Int)]) (by simp [results, Try.f19, go_sem]) rfl ⟨by rw [HE.out], O3.out.2.2⟩
        · skip
          have qD : (D == n) = false := by simp [hD]
          have ND := Lib.hid (show ¬ (D = n ∧ 0 ≤ n) from fun h => hD h.1)
          clear hD
          go_wp2_with fail
          refine (NDj.out _ O2.out.2.1).mono ?_
          rintro e w3 ⟨rfl, hb3⟩
          have O3 := Lib.hid (O2.out.bel hb3)
          obtain ⟨z02, z12, z22⟩ := O3.out.cells
          clear hb3
          rcases three_ways E n with ⟨hE, h0⟩ | hE | ⟨hE, h0E⟩
          · skip
            have qE : (E == n) = true := by simp [hE]
            have q0 : (n ≥ 0) := h0
            have NE := Lib.hid (show E = n ∧ 0 ≤ n from ⟨hE, h0⟩)
            clear hE
            go_wp2_with fail
            refine (NEj.out _ O3.out.2.1).mono ?_
            rintro e w4 ⟨rfl, hb4⟩
            have O4 := Lib.hid (O3.out.bel hb4)
            obtain ⟨z03, z13, z23⟩ := O4.out.cells
            clear hb4
            have HE : Hid (ofB b base n = (6, (j : Int))) := by
              unfold Hid ofB
              rw [first_hit HNO.out (r := (6, (j : Int))) (by rw [HAT.out, if_neg NF.out, if_neg ND.out, if_pos NE.out]) hlt]
            go_wp2_with fail
            exact bodyPost_ret (v := .tuple #[.int .i64 6, .int .i64 (j : Int)]) (by simp [results, Try.f19, go_sem]) rfl ⟨by rw [HE.out], O4.out.2.2⟩
          · skip
            have qE : (E == n) = false := by simp [hE]
            have NE := Lib.hid (show ¬ (E = n ∧ 0 ≤ n) from fun h => hE h.1)
            clear hE
            go_wp2_with fail
            refine (NEj.out _ O3.out.2.1).mono ?_
            rintro e w4 ⟨rfl, hb4⟩
            have O4 := Lib.hid (O3.out.bel hb4)
            obtain ⟨z03, z13, z23⟩ := O4.out.cells
            clear hb4
            go_wp2_with fail
            go_roundw
            case rel => exact ⟨j + 1, hlt, by go_num, by rw [first_succ HNO.out, HAT.out, if_neg NF.out, if_neg ND.out, if_neg NE.out], O4.out⟩
            case measure => simp [RowKit.intOf]; omega
          · skip
            have qE : (E == n) = true := by simp [hE]
            have q0E : decide (0 ≤ n) = false := decide_eq_false h0E
            have q1E : (0 ≤ n) = False := eq_false h0E
            have NE := Lib.hid (show ¬ (E = n ∧ 0 ≤ n) from fun h => h0E h.2)
            have H0E := Lib.hid h0E
            clear hE h0E
            go_wp2_with fail
            refine (NEj.out _ O3.out.2.1).mono ?_
            rintro e w4 ⟨rfl, hb4⟩
            have O4 := Lib.hid (O3.out.bel hb4)
            obtain ⟨z03, z13, z23⟩ := O4.out.cells
            clear hb4
            go_wp2_with fail
            go_roundw
            case rel => exact ⟨j + 1, hlt, by go_num, by rw [first_succ HNO.out, HAT.out, if_neg NF.out, if_neg ND.out, if_neg NE.out], O4.out⟩
            case measure => simp [RowKit.intOf]; omega
        · skip
          have qD : (D == n) = true := by simp [hD]
          have q0D : decide (0 ≤ n) = false := decide_eq_false h0D
          have q1D : (0 ≤ n) = False := eq_false h0D
          have ND := Lib.hid (show ¬ (D = n ∧ 0 ≤ n) from fun h => h0D h.2)
          have H0D := Lib.hid h0D
          clear hD h0D
          go_wp2_with fail
          refine (NDj.out _ O2.out.2.1).mono ?_
          rintro e w3 ⟨rfl, hb3⟩
          have O3 := Lib.hid (O2.out.bel hb3)
          obtain ⟨z02, z12, z22⟩ := O3.out.cells
          clear hb3
          rcases three_ways E n with ⟨hE, h0⟩ | hE | ⟨hE, h0E⟩
          · skip
            exact absurd h0 (Int.not_le.2 H0D.out)
          · skip
            have qE : (E == n) = false := by simp [hE]
            have NE := Lib.hid (show ¬ (E = n ∧ 0 ≤ n) from fun h => hE h.1)
            clear hE
            go_wp2_with fail
            refine (NEj.out _ O3.out.2.1).mono ?_
            rintro e w4 ⟨rfl, hb4⟩
            have O4 := Lib.hid (O3.out.bel hb4)
            obtain ⟨z03, z13, z23⟩ := O4.out.cells
            clear hb4
            go_wp2_with fail
            go_roundw
            case rel => exact ⟨j + 1, hlt, by go_num, by rw [first_succ HNO.out, HAT.out, if_neg NF.out, if_neg ND.out, if_neg NE.out], O4.out⟩
            case measure => simp [RowKit.intOf]; omega
          · skip
            have qE : (E == n) = true := by simp [hE]
            have q0E : decide (0 ≤ n) = false := decide_eq_false h0E
            have q1E : (0 ≤ n) = False := eq_false h0E
            have NE := Lib.hid (show ¬ (E = n ∧ 0 ≤ n) from fun h => h0E h.2)
            have H0E := Lib.hid h0E
            clear hE h0E
            go_wp2_with fail
            refine (NEj.out _ O3.out.2.1).mono ?_
            rintro e w4 ⟨rfl, hb4⟩
            have O4 := Lib.hid (O3.out.bel hb4)
            obtain ⟨z03, z13, z23⟩ := O4.out.cells
            clear hb4
            go_wp2_with fail
            go_roundw
            case rel => exact ⟨j + 1, hlt, by go_num, by rw [first_succ HNO.out, HAT.out, if_neg NF.out, if_neg ND.out, if_neg NE.out], O4.out⟩
            case measure => simp [RowKit.intOf]; omega
      · skip
        have qF : (F == n) = true := by simp [hF]
        have q0F : decide (0 ≤ n) = false := decide_eq_false h0F
        have q1F : (0 ≤ n) = False := eq_false h0F
        have NF := Lib.hid (show ¬ (F = n ∧ 0 ≤ n) from fun h => h0F h.2)
        have H0F := Lib.hid h0F
        clear hF h0F
        go_wp2_with fail
        refine (NFj.out _ O1.out.2.1).mono ?_
        rintro e w2 ⟨rfl, hb2⟩
        have O2 := Lib.hid (O1.out.bel hb2)
        obtain ⟨z01, z11, z21⟩ := O2.out.cells
        clear hb2
        rcases three_ways D n with ⟨hD, h0⟩ | hD | ⟨hD, h0D⟩
        · skip
          exact absurd h0 (Int.not_le.2 H0F.out)
        · skip
          have qD : (D == n) = false := by simp [hD]
          have ND := Lib.hid (show ¬ (D = n ∧ 0 ≤ n) from fun h => hD h.1)
          clear hD
          go_wp2_with fail
          refine (NDj.out _ O2.out.2.1).mono ?_
          rintro e w3 ⟨rfl, hb3⟩
          have O3 := Lib.hid (O2.out.bel hb3)
          obtain ⟨z02, z12, z22⟩ := O3.out.cells
          clear hb3
          rcases three_ways E n with ⟨hE, h0⟩ | hE | ⟨hE, h0E⟩
          · skip
            exact absurd h0 (Int.not_le.2 H0F.out)
          · skip
            have qE : (E == n) = false := by simp [hE]
            have NE := Lib.hid (show ¬ (E = n ∧ 0 ≤ n) from fun h => hE h.1)
            clear hE
            go_wp2_with fail
            refine (NEj.out _ O3.out.2.1).mono ?_
            rintro e w4 ⟨rfl, hb4⟩
            have O4 := Lib.hid (O3.out.bel hb4)
            obtain ⟨z03, z13, z23⟩ := O4.out.cells
            clear hb4
            go_wp2_with fail
            go_roundw
            case rel => exact ⟨j + 1, hlt, by go_num, by rw [first_succ HNO.out, HAT.out, if_neg NF.out, if_neg ND.out, if_neg NE.out], O4.out⟩
            case measure => simp [RowKit.intOf]; omega
          · skip
            have qE : (E == n) = true := by simp [hE]
            have q0E : decide (0 ≤ n) = false := decide_eq_false h0E
            have q1E : (0 ≤ n) = False := eq_false h0E
            have NE := Lib.hid (show ¬ (E = n ∧ 0 ≤ n) from fun h => h0E h.2)
            have H0E := Lib.hid h0E
            clear hE h0E
            go_wp2_with fail
            refine (NEj.out _ O3.out.2.1).mono ?_
            rintro e w4 ⟨rfl, hb4⟩
            have O4 := Lib.hid (O3.out.bel hb4)
            obtain ⟨z03, z13, z23⟩ := O4.out.cells
            clear hb4
            go_wp2_with fail
            go_roundw
            case rel => exact ⟨j + 1, hlt, by go_num, by rw [first_succ HNO.out, HAT.out, if_neg NF.out, if_neg ND.out, if_neg NE.out], O4.out⟩
            case measure => simp [RowKit.intOf]; omega
        · skip
          have qD : (D == n) = true := by simp [hD]
          have q0D : decide (0 ≤ n) = false := decide_eq_false h0D
          have q1D : (0 ≤ n) = False := eq_false h0D
          have ND := Lib.hid (show ¬ (D = n ∧ 0 ≤ n) from fun h => h0D h.2)
          have H0D := Lib.hid h0D
          clear hD h0D
          go_wp2_with fail
          refine (NDj.out _ O2.out.2.1).mono ?_
          rintro e w3 ⟨rfl, hb3⟩
          have O3 := Lib.hid (O2.out.bel hb3)
          obtain ⟨z02, z12, z22⟩ := O3.out.cells
          clear hb3
          rcases three_ways E n with ⟨hE, h0⟩ | hE | ⟨hE, h0E⟩
          · skip
            exact absurd h0 (Int.not_le.2 H0D.out)
          · skip
            have qE : (E == n) = false := by simp [hE]
            have NE := Lib.hid (show ¬ (E = n ∧ 0 ≤ n) from fun h => hE h.1)
            clear hE
            go_wp2_with fail
            refine (NEj.out _ O3.out.2.1).mono ?_
            rintro e w4 ⟨rfl, hb4⟩
            have O4 := Lib.hid (O3.out.bel hb4)
            obtain ⟨z03, z13, z23⟩ := O4.out.cells
            clear hb4
            go_wp2_with fail
            go_roundw
            case rel => exact ⟨j + 1, hlt, by go_num, by rw [first_succ HNO.out, HAT.out, if_neg NF.out, if_neg ND.out, if_neg NE.out], O4.out⟩
            case measure => simp [RowKit.intOf]; omega
          · skip
            have qE : (E == n) = true := by simp [hE]
            have q0E : decide (0 ≤ n) = false := decide_eq_false h0E
            have q1E : (0 ≤ n) = False := eq_false h0E
            have NE := Lib.hid (show ¬ (E = n ∧ 0 ≤ n) from fun h => h0E h.2)
            have H0E := Lib.hid h0E
            clear hE h0E
            go_wp2_with fail
            refine (NEj.out _ O3.out.2.1).mono ?_
            rintro e w4 ⟨rfl, hb4⟩
            have O4 := Lib.hid (O3.out.bel hb4)
            obtain ⟨z03, z13, z23⟩ := O4.out.cells
            clear hb4
            go_wp2_with fail
            go_roundw
            case rel => exact ⟨j + 1, hlt, by go_num, by rw [first_succ HNO.out, HAT.out, if_neg NF.out, if_neg ND.out, if_neg NE.out], O4.out⟩
            case measure => simp [RowKit.intOf]; omega
    · obtain rfl : j = b.sorts.length := by omega
      have hnl : ¬ (b.sorts.length : Int) < (b.sorts.length : Int) := by omega
      go_wp2_with fail
      clear y0 y1 y2 hnl hlt hj
      go_loopw [9] (fun i wr => ∃ j : Nat, j ≤ b.cons.length ∧ i = .int .i64 j ∧ firstOf (ofCt b base n) j = none ∧ OneB w w.heap.size b (.slice ps b.sorts.length cs) (.slice pc b.cons.length cc) wr) (fun i _ => b.cons.length - (RowKit.intOf i).toNat)
      case atStart => exact ⟨0, Nat.zero_le _, rfl, rfl, O1.out⟩
      case round =>
        clear O1
        obtain ⟨j, hj, rfl, hno, hO⟩ := hrel
        obtain ⟨x0, x1, x2⟩ := hO.cells
        have HO := Lib.hid hO
        have HNC := Lib.hid hno
        clear hO hno
        by_cases hlt : j < b.cons.length
        · have hji : (j : Int) < (b.cons.length : Int) := by omega
          have hjm : j < 1048576 := by omega
          have NCj := Lib.hid (NC.out j)
          have HCT : Hid (ofCt b base n j = if ctorB b base j = n ∧ 0 ≤ n then some (5, (j : Int)) else none) := rfl
          generalize ctorB b base j = F at *
          rcases three_ways F n with ⟨hF, h0⟩ | hF | ⟨hF, h0F⟩
          · skip
            have qF : (F == n) = true := by simp [hF]
            have q0 : (n ≥ 0) := h0
            have NF := Lib.hid (show F = n ∧ 0 ≤ n from ⟨hF, h0⟩)
            clear hF
            go_wp2_with fail
            refine (NCj.out _ HO.out.2.1).mono ?_
            rintro e w2 ⟨rfl, hb2⟩
            have O2 := Lib.hid (HO.out.bel hb2)
            clear hb2
            have HE : Hid (ofB b base n = (5, (j : Int))) := by
              unfold Hid ofB
              rw [HNO.out, first_hit HNC.out (r := (5, (j : Int))) (by rw [HCT.out, if_pos NF.out]) hlt]
            go_wp2_with fail
            exact bodyPost_ret (v := .tuple #[.int .i64 5, .int .i64 (j : Int)]) (by simp [results, Try.f19, go_sem]) rfl ⟨by rw [HE.out], O2.out.2.2⟩
          · skip
            have qF : (F == n) = false := by simp [hF]
            have NF := Lib.hid (show ¬ (F = n ∧ 0 ≤ n) from fun h => hF h.1)
            clear hF
            go_wp2_with fail
            refine (NCj.out _ HO.out.2.1).mono ?_
            rintro e w2 ⟨rfl, hb2⟩
            have O2 := Lib.hid (HO.out.bel hb2)
            clear hb2
            go_wp2_with fail
            go_roundw
            case rel => exact ⟨j + 1, hlt, by go_num, by rw [first_succ HNC.out, HCT.out, if_neg NF.out], O2.out⟩
            case measure => simp [RowKit.intOf]; omega
          · skip
            have qF : (F == n) = true := by simp [hF]
            have q0F : decide (0 ≤ n) = false := decide_eq_false h0F
            have q1F : (0 ≤ n) = False := eq_false h0F
            have NF := Lib.hid (show ¬ (F = n ∧ 0 ≤ n) from fun h => h0F h.2)
            clear hF h0F
            go_wp2_with fail
            refine (NCj.out _ HO.out.2.1).mono ?_
            rintro e w2 ⟨rfl, hb2⟩
            have O2 := Lib.hid (HO.out.bel hb2)
            clear hb2
            go_wp2_with fail
            go_roundw
            case rel => exact ⟨j + 1, hlt, by go_num, by rw [first_succ HNC.out, HCT.out, if_neg NF.out], O2.out⟩
            case measure => simp [RowKit.intOf]; omega
        · obtain rfl : j = b.cons.length := by omega
          have hnl : ¬ (b.cons.length : Int) < (b.cons.length : Int) := by omega
          have HE : Hid (ofB b base n = (0, 0)) := by unfold Hid ofB; rw [HNO.out, HNC.out]
          go_wp2_with fail
          exact bodyPost_ret (v := .tuple #[.int .i64 0, .int .i64 0]) (by simp [results, Try.f19, go_sem]) rfl ⟨by rw [HE.out], HO.out.2.2⟩
end Go.Proofs.Ytggefpkfikimiaa
/- Strict positivity: the document's own functions on blocks and trees: mathematics alone. -/
namespace Go.Proofs.Ytggefpkfikimiaa
open Go.RowKit
set_option linter.unusedVariables false

/-- The Arg of a variable (vars: from the outermost on); -1: it is none. -/
def guardP (vars : List Int) (n : Int) : Int := if (vars.length : Int) ≤ n then -1 else (vars[vars.length - 1 - n.toNat]?).getD (-1)
/-- With so many variables that are not guarded. -/
def moreP (vars : List Int) (n : Int) : List Int := vars ++ List.replicate n.toNat (-1)
def atFrom : Nat → List ArgT → List Int | _, [] => [] | i, a :: l => (if a.r then (i : Int) else -1) :: atFrom (i + 1) l
/-- The context of Args. -/
def atP (l : List ArgT) : List Int := atFrom 0 l
/-- A spine of a decoder, of one more than its sort's indices. -/
def isDecg (b : BlkT) (base : Int) (t : Tm) : Bool := decide ((unspine t).1.k = 3) && decide (0 < (unspine t).2.length) && decide ((ofB b base (unspine t).1.n).1 = 4) && decide (((unspine t).2.length : Int) = idxLen b (ofB b base (unspine t).1.n).2 + 1)
def lastT (l : List Tm) : Tm := (l[l.length - 1]?).getD (.node 0 0 [])
def decgStep (rec : Tm → Bool) (vars : List Int) (l : List Tm) : Bool := l.dropLast.all rec && (decide ((unspine (lastT l)).1.k = 1) && decide (0 ≤ guardP vars (unspine (lastT l)).1.n) && (unspine (lastT l)).2.all rec)
def kidsStep (rec : List Int → Tm → Bool) (vars : List Int) (k : Int) : Nat → List Tm → Bool | _, [] => true | i, u :: l => rec (moreP vars (bindsI k i)) u && kidsStep rec vars k (i + 1) l
def cleanStep (b : BlkT) (base : Int) (rec : List Int → Tm → Bool) (vars : List Int) (t : Tm) : Bool :=
  if t.k = 1 then decide (guardP vars t.n < 0)
  else if t.k = 3 then decide ((ofB b base t.n).1 = 0)
  else if isDecg b base t then decgStep (rec vars) vars (unspine t).2
  else kidsStep rec vars t.k 0 t.kids
def cleanF (b : BlkT) (base : Int) : Nat → List Int → Tm → Bool | 0, _, _ => true | n + 1, vars, t => cleanStep b base (cleanF b base n) vars t
def cleanB (b : BlkT) (base : Int) (vars : List Int) (t : Tm) : Bool := cleanF b base (size t) vars t
def decgB (b : BlkT) (base : Int) (vars : List Int) (l : List Tm) : Bool := decgStep (cleanB b base vars) vars l
theorem kidsStep_same {r r' : List Int → Tm → Bool} {vars : List Int} {k : Int} : ∀ (l : List Tm) (i : Nat), (∀ vs, ∀ u ∈ l, r vs u = r' vs u) → kidsStep r vars k i l = kidsStep r' vars k i l
  | [], _, _ => rfl
  | u :: l, i, h => by rw [kidsStep, kidsStep, h _ u (List.mem_cons_self ..), kidsStep_same l (i + 1) fun vs v hv => h vs v (List.mem_cons_of_mem _ hv)]
theorem all_same {r r' : Tm → Bool} : ∀ (l : List Tm), (∀ u ∈ l, r u = r' u) → l.all r = l.all r'
  | [], _ => rfl
  | u :: l, h => by rw [List.all_cons, List.all_cons, h u (List.mem_cons_self ..), all_same l fun v hv => h v (List.mem_cons_of_mem _ hv)]
theorem last_mem {l : List Tm} (h : 0 < l.length) : lastT l ∈ l := by
  rw [lastT, List.getElem?_eq_getElem (by omega)]
  exact List.getElem_mem _
/-- The args of a spine are smaller; so are those of its last one. -/
theorem uns_lt {t u : Tm} (h : u ∈ (unspine t).2) : size u < size t := by
  have h1 := unspine_sizes t
  have h2 := size_le_of_mem h
  have h3 := size_pos (unspine t).1
  omega
theorem decg_lt {t : Tm} : (∀ u ∈ (unspine t).2.dropLast, size u < size t) ∧ ∀ u ∈ (unspine (lastT (unspine t).2)).2, 0 < (unspine t).2.length → size u < size t := by
  refine ⟨fun u hu => uns_lt ((List.dropLast_sublist _).subset hu), fun u hu h0 => ?_⟩
  have h1 := uns_lt hu
  have h2 := uns_lt (last_mem h0)
  omega
theorem cleanStep_same {b : BlkT} {base : Int} {r r' : List Int → Tm → Bool} {vars : List Int} {t : Tm} (h : ∀ vs u, size u < size t → r vs u = r' vs u) : cleanStep b base r vars t = cleanStep b base r' vars t := by
  unfold cleanStep
  by_cases h1 : t.k = 1
  · rw [if_pos h1, if_pos h1]
  rw [if_neg h1, if_neg h1]
  by_cases h2 : t.k = 3
  · rw [if_pos h2, if_pos h2]
  rw [if_neg h2, if_neg h2]
  by_cases h3 : isDecg b base t = true
  · rw [if_pos h3, if_pos h3]
    have h0 : 0 < (unspine t).2.length := by simp only [isDecg, Bool.and_eq_true, decide_eq_true_eq] at h3; exact h3.1.1.2
    unfold decgStep
    rw [all_same (r := r vars) (r' := r' vars) _ fun u hu => h _ _ (decg_lt.1 u hu), all_same (r := r vars) (r' := r' vars) _ fun u hu => h _ _ (decg_lt.2 u hu h0)]
  rw [if_neg h3, if_neg h3]
  refine kidsStep_same _ _ fun vs u hu => h vs u ?_
  have := size_le_of_mem hu
  have := size_eq t
  omega
theorem clean_fuel (b : BlkT) (base : Int) : ∀ (n m : Nat) (vars : List Int) (t : Tm), size t ≤ n → size t ≤ m → cleanF b base n vars t = cleanF b base m vars t
  | 0, _, _, t, h, _ => by have := size_pos t; omega
  | _ + 1, 0, _, t, _, h => by have := size_pos t; omega
  | n + 1, m + 1, vars, t, h, h2 => by
    rw [cleanF, cleanF]
    exact cleanStep_same fun vs u hu => clean_fuel b base n m vs u (by omega) (by omega)
theorem clean_eq (b : BlkT) (base : Int) (vars : List Int) (t : Tm) : cleanB b base vars t = cleanStep b base (cleanB b base) vars t := by
  unfold cleanB
  obtain ⟨n, hn⟩ : ∃ n, size t = n + 1 := ⟨size t - 1, by have := size_pos t; omega⟩
  rw [hn, cleanF]
  exact cleanStep_same fun vs u hu => clean_fuel b base n (size u) vs u (by omega) (Nat.le_refl _)
theorem clean_var (b : BlkT) (base : Int) (vars : List Int) {t : Tm} (h : t.k = 1) : cleanB b base vars t = decide (guardP vars t.n < 0) := by rw [clean_eq, cleanStep, if_pos h]
theorem clean_const (b : BlkT) (base : Int) (vars : List Int) {t : Tm} (h : t.k = 3) : cleanB b base vars t = decide ((ofB b base t.n).1 = 0) := by rw [clean_eq, cleanStep, if_neg (by omega), if_pos h]
theorem clean_decg (b : BlkT) (base : Int) (vars : List Int) {t : Tm} (h1 : t.k ≠ 1) (h2 : t.k ≠ 3) (h : isDecg b base t = true) : cleanB b base vars t = decgB b base vars (unspine t).2 := by rw [clean_eq, cleanStep, if_neg h1, if_neg h2, if_pos h]; rfl
theorem clean_kids (b : BlkT) (base : Int) (vars : List Int) {t : Tm} (h1 : t.k ≠ 1) (h2 : t.k ≠ 3) (h : isDecg b base t = false) : cleanB b base vars t = kidsStep (cleanB b base) vars t.k 0 t.kids := by rw [clean_eq, cleanStep, if_neg h1, if_neg h2, if_neg (by rw [h]; simp)]
/-! ### Good terms -/
def domLen (args : List ArgT) (g : Int) : Int := ((args[g.toNat]?).map (fun x => (x.dom.length : Int))).getD (-1)
def conArgs (b : BlkT) (j : Int) : List ArgT := ((b.cons[j.toNat]?).map (·.args)).getD []
def argStep (cl rec : Tm → Bool) (vars : List Int) (a : ArgT) (u : Tm) : Bool := if !a.r then cl u else if a.dom.length = 0 then rec u else decide (u.k = 1) && decide (0 ≤ guardP vars u.n)
def argsStep (cl rec : Tm → Bool) (vars : List Int) : List ArgT → List Tm → Bool | a :: m, u :: l => argStep cl rec vars a u && argsStep cl rec vars m l | _, _ => true
def goodStep (b : BlkT) (base : Int) (vars : List Int) (args : List ArgT) (c : Int) (rec : Tm → Bool) (t : Tm) : Bool :=
  if (unspine t).1.k = 1 then decide (0 ≤ guardP vars (unspine t).1.n) && decide (((unspine t).2.length : Int) = domLen args (guardP vars (unspine t).1.n)) && (unspine t).2.all (cleanB b base vars)
  else if (unspine t).1.k = 3 then decide ((ofB b base (unspine t).1.n).1 = 5) && decide ((ofB b base (unspine t).1.n).2 < c) && decide ((unspine t).2.length = (conArgs b (ofB b base (unspine t).1.n).2).length) && argsStep (cleanB b base vars) rec vars (conArgs b (ofB b base (unspine t).1.n).2) (unspine t).2
  else false
def goodF (b : BlkT) (base : Int) (vars : List Int) (args : List ArgT) (c : Int) : Nat → Tm → Bool | 0, _ => true | n + 1, t => goodStep b base vars args c (goodF b base vars args c n) t
def goodB (b : BlkT) (base : Int) (vars : List Int) (args : List ArgT) (c : Int) (t : Tm) : Bool := goodF b base vars args c (size t) t
theorem argsStep_same {cl r r' : Tm → Bool} {vars : List Int} : ∀ (m : List ArgT) (l : List Tm), (∀ u ∈ l, r u = r' u) → argsStep cl r vars m l = argsStep cl r' vars m l
  | [], l, _ => by cases l <;> rfl
  | a :: m, [], _ => rfl
  | a :: m, u :: l, h => by rw [argsStep, argsStep, argStep, argStep, h u (List.mem_cons_self ..), argsStep_same m l fun v hv => h v (List.mem_cons_of_mem _ hv)]
theorem goodStep_same {b : BlkT} {base : Int} {vars : List Int} {args : List ArgT} {c : Int} {r r' : Tm → Bool} {t : Tm} (h : ∀ u, size u < size t → r u = r' u) : goodStep b base vars args c r t = goodStep b base vars args c r' t := by
  unfold goodStep
  rw [argsStep_same _ _ fun u hu => h u (uns_lt hu)]
theorem good_fuel (b : BlkT) (base : Int) (vars : List Int) (args : List ArgT) (c : Int) : ∀ (n m : Nat) (t : Tm), size t ≤ n → size t ≤ m → goodF b base vars args c n t = goodF b base vars args c m t
  | 0, _, t, h, _ => by have := size_pos t; omega
  | _ + 1, 0, t, _, h => by have := size_pos t; omega
  | n + 1, m + 1, t, h, h2 => by
    rw [goodF, goodF]
    exact goodStep_same fun u hu => good_fuel b base vars args c n m u (by omega) (by omega)
theorem good_eq (b : BlkT) (base : Int) (vars : List Int) (args : List ArgT) (c : Int) (t : Tm) : goodB b base vars args c t = goodStep b base vars args c (goodB b base vars args c) t := by
  unfold goodB
  obtain ⟨n, hn⟩ : ∃ n, size t = n + 1 := ⟨size t - 1, by have := size_pos t; omega⟩
  rw [hn, goodF]
  exact goodStep_same fun u hu => good_fuel b base vars args c n (size u) u (by omega) (Nat.le_refl _)
theorem good_var (b : BlkT) (base : Int) (vars : List Int) (args : List ArgT) (c : Int) {t : Tm} (h : (unspine t).1.k = 1) : goodB b base vars args c t = (decide (0 ≤ guardP vars (unspine t).1.n) && decide (((unspine t).2.length : Int) = domLen args (guardP vars (unspine t).1.n)) && (unspine t).2.all (cleanB b base vars)) := by rw [good_eq, goodStep, if_pos h]
theorem good_const (b : BlkT) (base : Int) (vars : List Int) (args : List ArgT) (c : Int) {t : Tm} (h : (unspine t).1.k = 3) : goodB b base vars args c t = (decide ((ofB b base (unspine t).1.n).1 = 5) && decide ((ofB b base (unspine t).1.n).2 < c) && decide ((unspine t).2.length = (conArgs b (ofB b base (unspine t).1.n).2).length) && argsStep (cleanB b base vars) (goodB b base vars args c) vars (conArgs b (ofB b base (unspine t).1.n).2) (unspine t).2) := by rw [good_eq, goodStep, if_neg (by omega), if_pos h]
theorem good_none (b : BlkT) (base : Int) (vars : List Int) (args : List ArgT) (c : Int) {t : Tm} (h1 : (unspine t).1.k ≠ 1) (h3 : (unspine t).1.k ≠ 3) : goodB b base vars args c t = false := by rw [good_eq, goodStep, if_neg h1, if_neg h3]
/-! ### Telescopes, blocks -/
def sortIdx (b : BlkT) (s : Int) : List ArgT := ((b.sorts[s.toNat]?).map (·.idx)).getD []
def idxStep (b : BlkT) (base : Int) (vars : List Int) (args : List ArgT) (c : Int) : List ArgT → List Tm → Bool | a :: m, u :: l => (if a.r then goodB b base vars args c u else cleanB b base vars u) && idxStep b base vars args c m l | _, _ => true
def indicesB (b : BlkT) (base : Int) (vars : List Int) (args : List ArgT) (c s : Int) (l : List Tm) : Bool := idxStep b base vars args c (sortIdx b s) l
def domsB (b : BlkT) (base : Int) (vars : List Int) : Nat → List Tm → Bool | _, [] => true | j, u :: l => cleanB b base (moreP vars (j : Int)) u && domsB b base vars (j + 1) l
def teleArg (b : BlkT) (base : Int) (c : Int) (ahead : List ArgT) (a : ArgT) : Bool := if !a.r then cleanB b base (atP ahead) a.ty else domsB b base (atP ahead) 0 a.dom && indicesB b base (moreP (atP ahead) a.dom.length) ahead c a.sort a.idx
def teleFrom (b : BlkT) (base c : Int) : List ArgT → List ArgT → Bool | _, [] => true | ahead, a :: l => teleArg b base c ahead a && teleFrom b base c (ahead ++ [a]) l
def teleB (b : BlkT) (base : Int) (l : List ArgT) (c : Int) : Bool := teleFrom b base c [] l
def sortPos (b : BlkT) (base : Int) (s : SortT) : Bool := teleB b base s.idx 0 && (!s.dec || cleanB b base (atP s.idx) s.decT)
def conPos (b : BlkT) (base : Int) (c : Int) (x : ConT) : Bool := teleB b base x.args c && indicesB b base (atP x.args) x.args c x.sort x.idx && (!hasDec b x.sort || cleanB b base (atP x.args) x.dec)
def consPos (b : BlkT) (base : Int) : Nat → List ConT → Bool | _, [] => true | c, x :: l => conPos b base c x && consPos b base (c + 1) l
def positB (b : BlkT) (base : Int) : Int := if shapeB b = false then 12 else if inZ base 0 65535 = false then 1 else if b.sorts.all (sortPos b base) && consPos b base 0 b.cons then 0 else 11
theorem atFrom_length : ∀ (l : List ArgT) (i : Nat), (atFrom i l).length = l.length
  | [], _ => rfl
  | a :: l, i => by rw [atFrom, List.length_cons, List.length_cons, atFrom_length l]
theorem atP_length (l : List ArgT) : (atP l).length = l.length := atFrom_length l 0
theorem moreP_length (vars : List Int) (n : Nat) : (moreP vars (n : Int)).length = vars.length + n := by simp [moreP]
/-- All entries are none, or places of the Args. -/
def VarsOk (vars : List Int) (m : Nat) : Prop := ∀ g ∈ vars, g = -1 ∨ (0 ≤ g ∧ g < (m : Int))
theorem varsOk_more {vars : List Int} {m : Nat} (h : VarsOk vars m) (n : Int) : VarsOk (moreP vars n) m := by
  intro g hg
  rcases List.mem_append.1 hg with hg | hg
  · exact h g hg
  · exact .inl (List.eq_of_mem_replicate hg)
theorem varsOk_from : ∀ (l : List ArgT) (i m : Nat), i + l.length ≤ m → VarsOk (atFrom i l) m
  | [], _, _, _ => fun g hg => by cases hg
  | a :: l, i, m, h => fun g hg => by
    rw [List.length_cons] at h
    rcases List.mem_cons.1 hg with rfl | hg
    · by_cases ha : a.r = true
      · rw [if_pos ha]; right; omega
      · rw [if_neg ha]; left; rfl
    · exact varsOk_from l (i + 1) m (by omega) g hg
theorem varsOk_at (l : List ArgT) : VarsOk (atP l) l.length := varsOk_from l 0 l.length (by omega)
theorem guard_range {vars : List Int} {m : Nat} (h : VarsOk vars m) {n : Int} : guardP vars n = -1 ∨ (0 ≤ guardP vars n ∧ guardP vars n < (m : Int)) := by
  unfold guardP
  by_cases h1 : (vars.length : Int) ≤ n
  · rw [if_pos h1]; exact .inl rfl
  rw [if_neg h1]
  by_cases h2 : vars.length - 1 - n.toNat < vars.length
  · rw [List.getElem?_eq_getElem h2]
    exact h _ (List.getElem_mem _)
  · rw [List.getElem?_eq_none (by omega)]
    exact .inl rfl
theorem guard_at {vars : List Int} {n : Int} (h0 : 0 ≤ n) (h1 : n < vars.length) : ∃ h : vars.length - 1 - n.toNat < vars.length, guardP vars n = vars[vars.length - 1 - n.toNat] := by
  have h : vars.length - 1 - n.toNat < vars.length := by omega
  refine ⟨h, ?_⟩
  rw [guardP, if_neg (by omega), List.getElem?_eq_getElem h]
  rfl
end Go.Proofs.Ytggefpkfikimiaa
