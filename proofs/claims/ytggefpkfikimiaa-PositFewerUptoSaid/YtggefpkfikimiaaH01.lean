/- PositFewer: the Go text returns true for any block, base and number. No conditions but sizes. -/
import Derived.Test.YtggefpkfikimiaaG33
import Derived.Test.YtggefpkfikimiaaG38
import Derived.Test.YtggefpkfikimiaaG39
namespace Go.Proofs.Ytggefpkfikimiaa
open Go.RowKit
set_option linter.unusedVariables false

theorem GAt.capp8 {α : Type} {sz : Nat} {C : α → List Value → Prop} {w : World} {l : List α} {a : Option Addr} {n cap : Nat} (h : GAt sz C w l (.slice a n cap)) : l.length ≤ cap ∧ (a = none → l.length = 0 ∧ cap = 0) := by
  generalize hv : Value.slice a n cap = v at h
  cases h with
  | nl => cases hv; exact ⟨Nat.le_refl _, fun _ => ⟨rfl, rfl⟩⟩
  | em a' cap' => cases hv; exact ⟨Nat.zero_le _, fun h => by cases h⟩
  | row l b off cap' cs h0 h1 h2 h3 h4 => cases hv; exact ⟨h1, fun h => by cases h⟩
theorem GAt.takes8 {α : Type} {sz : Nat} {C : α → List Value → Prop} {w : World} {l : List α} {a : Option Addr} {cap : Nat} (h : GAt sz C w l (.slice a l.length cap)) {k : Nat} (hk : k ≤ l.length) : GAt sz C w (l.take k) (.slice a k cap) := by
  obtain ⟨_, hn⟩ := h.capp8
  cases a with
  | none =>
    obtain ⟨h0, rfl⟩ := hn rfl
    have : l = [] := List.eq_nil_of_length_eq_zero h0
    subst this
    have : k = 0 := by simpa using hk
    subst this
    exact .nl
  | some ad => exact h.take hk
theorem cut_n8 (b : BlkT) (k : Nat) : blkN (cutB b k) ≤ blkN b := by
  have := consN_take8 b.cons k
  have e : blkN (cutB b k) = sortsN b.sorts + consN (b.cons.take k) + 1 := rfl
  have e2 : blkN b = sortsN b.sorts + consN b.cons + 1 := rfl
  omega
theorem cut_fits8 {b : BlkT} (h : b.fits) (k : Nat) : (cutB b k).fits := ⟨h.1, fun c hc => h.2.1 c (List.mem_of_mem_take hc), h.2.2⟩
/-- Two blocks in boxes. -/
def TwoX (w0 w1 : World) (B C : Nat) (b x : BlkT) (vs vc us uc : Value) (W : World) : Prop := OneB w0 B b vs vc W ∧ OneB w1 C x us uc W
theorem TwoX.bel {w0 w1 W W' : World} {B C : Nat} {b x : BlkT} {vs vc us uc : Value} (h : TwoX w0 w1 B C b x vs vc us uc W) (hb : Below W.heap.size W W') : TwoX w0 w1 B C b x vs vc us uc W' := ⟨h.1.bel hb, h.2.bel hb⟩
set_option maxRecDepth 100000 in
set_option maxHeartbeats 4000000 in
theorem lpfewer_any (b : BlkT) (hs : blkN b ≤ 1048576) (hF : b.fits) (base n : Int) (w : World) (vs vc : Value) (hA : BAt w b vs vc) :
    Calls Try.prog 5 #[.agg #[vs, vc, .int .i64 b.elim], .int .i64 base, .int .i64 n] w fun e w' => e = .returned (.bool true) ∧ Below w.heap.size w w' := by
  obtain ⟨ps, cs, pc, cc, rfl, rfl⟩ := hA.shape
  have hls := sortsN_len b.sorts
  have hlc := consN_len b.cons
  have hbn : blkN b = sortsN b.sorts + consN b.cons + 1 := rfl
  have O0 := Lib.hid (oneb_start w b _ _ hA)
  have HV := Lib.hid (heavyblk_any b hs _ _ _ O0.out.2.1)
  have HWK := Lib.hid (fun w => wakes8_any w)
  clear hA
  cases hh : heavyBlk b with
  | true =>
    rw [hh] at HV
    clear hh
    go_enter Try.func5, Try.ntmps5
    go_wp2_with fail
    refine HV.out.mono ?_
    rintro e w1 ⟨rfl, hb⟩
    have O1 := Lib.hid (O0.out.bel hb)
    clear hb
    go_wp2_with fail
    go_ret
    exact ⟨ret_bool rfl, O1.out.2.2⟩
  | false =>
  rw [hh] at HV
  clear hh
  have hr1 := mod_range base 1000 (by omega) (by omega)
  have hlc2 : b.cons.length ≤ 999999 ∨ 999999 < b.cons.length := by omega
  go_enter Try.func5, Try.ntmps5
  go_wp2_with fail
  refine HV.out.mono ?_
  rintro e w1 ⟨rfl, hb⟩
  have O1 := Lib.hid (O0.out.bel hb)
  clear hb O0 HV
  go_upto_region 4 with (fail)
  generalize wrap64 ((IntKind.u64.wrap base).tmod 1000) = bb at *
  obtain ⟨b0, b1⟩ := hr1
  obtain ⟨x0, x1, x2⟩ := O1.out.cells
  have HCK := Lib.hid (s8check_any b hs hF bb w1 _ _ O1.out.2.1)
  by_cases hp : positB b bb = 0
  rotate_left
  · have hp' : (positB b bb != 0) = true := by simpa using hp
    clear hp
    generalize positB b bb = PB at *
    go_wp2_with fail
    refine HCK.out.mono ?_
    rintro e w2 ⟨rfl, hb⟩
    have O2 := Lib.hid (O1.out.bel hb)
    clear hb x0 x1 x2
    go_wp2_with fail
    refine (HWK.out _).mono ?_
    rintro e w3 ⟨rfl, hb⟩
    have O3 := Lib.hid (O2.out.bel hb)
    clear hb
    go_wp2_with fail
    go_ret
    exact ⟨ret_bool rfl, O3.out.2.2⟩
  have HPB := Lib.hid hp
  have hsh : shapeB b = true := by
    cases h : shapeB b with
    | true => rfl
    | false => rw [positB, if_pos h] at hp; exact absurd hp (by decide)
  rw [hp] at HCK
  obtain ⟨s1, s2, s3, s4, s5⟩ := shape_parts hsh
  obtain ⟨n1, n4⟩ := inZ_iff.1 s1
  have hnn : nsB b = (b.sorts.length : Int) := rfl
  have hr2 := mod_range n ((b.cons.length : Int) + 1) (by omega) (by omega)
  have hq1 : IntKind.u64.wrap ((b.cons.length : Int) + 1) = (b.cons.length : Int) + 1 := by rw [IntKind.wrap_u64]; omega
  have hq3 : IntKind.i64.wrap ((b.cons.length : Int) + 1) = (b.cons.length : Int) + 1 := IntWalk.i64_in _ (by omega)
  have hq4 : (((b.cons.length : Int) + 1) == 0) = false := by rw [beq_eq_false_iff_ne]; omega
  have hq6 : (((b.cons.length : Int) + 1) = 0) = False := eq_false (by omega)
  clear hp hsh s1 s3 s4 s5 hls hlc hbn hlc2
  go_wp2_with fail
  refine HCK.out.mono ?_
  rintro e w2 ⟨rfl, hb⟩
  have O2 := Lib.hid (O1.out.bel hb)
  clear hb x0 x1 x2 O1 HCK
  obtain ⟨x0, x1, x2⟩ := O2.out.cells
  go_upto_region 7 with (fail)
  generalize wrap64 ((IntKind.u64.wrap n).tmod ((b.cons.length : Int) + 1)) = zz at *
  obtain ⟨N, rfl⟩ : ∃ N : Nat, zz = (N : Int) := ⟨zz.toNat, by omega⟩
  have hN : N ≤ b.cons.length := by omega
  clear hr2 hq1 hq3 hq4 hq6
  go_wp2_with fail
  refine (twinblk_any b hs _ _ _ O2.out.2.1).mono ?_
  rintro e w3 ⟨a1, d1, a2, d2, rfl, hT, hb⟩
  have O3 := Lib.hid (O2.out.bel hb)
  have hTA := hT.at
  obtain ⟨hcap, hnone⟩ := hTA.2.capp8
  have hcut : BAt w3 (cutB b N) (.slice a1 b.sorts.length d1) (.slice a2 N d2) := ⟨hTA.1, hTA.2.takes8 hN⟩
  obtain ⟨w4, hw4⟩ : ∃ w4, w4 = w3.alloc (.cells #[.slice a1 b.sorts.length d1, .slice a2 N d2, .int .i64 b.elim] 33) := ⟨_, rfl⟩
  have h4 : OneB w3 w3.heap.size (cutB b N) (.slice a1 b.sorts.length d1) (.slice a2 N d2) w4 := by rw [hw4]; exact oneb_start w3 (cutB b N) _ _ hcut
  have h5 := O3.out.bel h4.2.2
  have T4 : Hid (TwoX w w3 w.heap.size w3.heap.size b (cutB b N) (.slice ps b.sorts.length cs) (.slice pc b.cons.length cc) (.slice a1 b.sorts.length d1) (.slice a2 N d2) w4) := ⟨h5, h4⟩
  have HW := Lib.hid hw4
  have hNd : (N : Int) ≤ (d2 : Int) := by omega
  have hN0 : (0 : Int) ≤ (N : Int) := by omega
  have cbn := Nat.le_trans (cut_n8 b N) hs
  have hCB : countB (cutB b N) = countB b - (b.cons.length : Int) + N := (cut_numbers b N hN bb 0).1
  have hdr := decsN_range b (nsB b)
  have hcb : countB b = 2 * nsB b + decsN b (nsB b) + ncB b := rfl
  have hcn : ncB b = (b.cons.length : Int) := rfl
  have hcr : 0 ≤ countB (cutB b N) ∧ countB (cutB b N) ≤ 1000 := by omega
  have hpc := posit_cut b hN HPB.out
  have SC : Hid (∀ W, BAt W (cutB b N) (.slice a1 b.sorts.length d1) (.slice a2 N d2) → Calls Try.prog 12 #[.agg #[.slice a1 b.sorts.length d1, .slice a2 N d2, .int .i64 b.elim], .int .i64 bb] W fun e w' => e = .returned (.int .i64 0) ∧ Below W.heap.size W w') := fun W hA => by
    have h := s8check_any (cutB b N) cbn (cut_fits8 hF N) bb W _ _ hA
    rw [hpc] at h
    exact h
  have SN : Hid (∀ W, BAt W (cutB b N) (.slice a1 b.sorts.length d1) (.slice a2 N d2) → Calls Try.prog 16 #[.agg #[.slice a1 b.sorts.length d1, .slice a2 N d2, .int .i64 b.elim]] W fun e w' => e = .returned (.int .i64 (countB (cutB b N))) ∧ Below W.heap.size W w') := fun W hA => rcount7_any (cutB b N) cbn W _ _ hA
  have SO : Hid (∀ m W, BAt W (cutB b N) (.slice a1 b.sorts.length d1) (.slice a2 N d2) → Calls Try.prog 19 #[.agg #[.slice a1 b.sorts.length d1, .slice a2 N d2, .int .i64 b.elim], .int .i64 bb, .int .i64 m] W fun e w' => e = .returned (.tuple #[.int .i64 (ofB (cutB b N) bb m).1, .int .i64 (ofB (cutB b N) bb m).2]) ∧ Below W.heap.size W w') := fun m W hA => rof_any (cutB b N) cbn bb m W _ _ hA
  have SM : Hid (∀ m W, BAt W (cutB b N) (.slice a1 b.sorts.length d1) (.slice a2 N d2) → Calls Try.prog 17 #[.agg #[.slice a1 b.sorts.length d1, .slice a2 N d2, .int .i64 b.elim], .int .i64 m] W fun e w' => e = .returned (.bool (namesB (cutB b N) m)) ∧ Below W.heap.size W w') := fun m W hA => names_any (cutB b N) cbn m W _ _ hA
  clear x0 x1 x2 hb hT hTA h4 h5 hw4 hcut O2 O3 hnn s2 hs hF hpc cbn hdr hcb hcn hCB HPB n1 n4
  have hel : (cutB b N).elim = b.elim := rfl
  have HEL := Lib.hid hel
  clear hel
  generalize countB (cutB b N) = CB at *
  have key : ∀ (A : Act) (Q : Exit → Act → World → Prop), True := fun _ _ => trivial
  cases a2 with
  | none =>
    obtain ⟨hn1, hn2⟩ := hnone rfl
    subst hn2
    obtain rfl : N = 0 := by omega
    go_upto_region 9 with (fail)
    rw [← HW.out]
    clear HW key
    go_wp2_with fail
    go_loopw [8] (fun si wr => ∃ j : Nat, si = .int .i64 (j : Int) ∧ (j : Int) ≤ CB ∧ TwoX w w3 w.heap.size w3.heap.size b (cutB b 0) (.slice ps b.sorts.length cs) (.slice pc b.cons.length cc) (.slice a1 b.sorts.length d1) (.slice none 0 0) wr) (fun si _ => (CB - RowKit.intOf si).toNat)
    case atStart => exact ⟨0, rfl, by omega, T4.out⟩
    case round =>
      clear T4
      obtain ⟨j, rfl, hj, hT⟩ := hrel
      have TJ := Lib.hid hT
      clear hT
      obtain ⟨y0, y1, y2⟩ := TJ.out.2.cells
      rw [HEL.out] at y2
      by_cases hlt : (j : Int) < CB
      · have hw1 : IntKind.i64.wrap ((j : Int) + 1) = ((j + 1 : Nat) : Int) := by rw [IntWalk.i64_in _ (by omega)]; omega
        have hw2 : IntKind.i64.wrap (bb + (j : Int)) = bb + (j : Int) := IntWalk.i64_in _ (by omega)
        go_wp2_with fail
        refine (SN.out _ TJ.out.2.2.1).mono ?_
        rintro e w5 ⟨rfl, hb⟩
        have T5 := Lib.hid (TJ.out.bel hb)
        clear hb y0 y1 y2
        obtain ⟨y0, y1, y2⟩ := T5.out.2.cells
        rw [HEL.out] at y2
        have HO := Lib.hid (SO.out (bb + (j : Int)) w5 T5.out.2.2.1)
        have HM := Lib.hid (SM.out (bb + (j : Int)))
        generalize ofB (cutB b 0) bb (bb + (j : Int)) = PP at *
        obtain ⟨p, q⟩ := PP
        dsimp only at HO
        go_wp2_with fail
        refine HO.out.mono ?_
        rintro e w6 ⟨rfl, hb⟩
        have T6 := Lib.hid (T5.out.bel hb)
        clear hb y0 y1 y2 T5 TJ HO
        obtain ⟨y0, y1, y2⟩ := T6.out.2.cells
        rw [HEL.out] at y2
        by_cases h6 : p = 6
        · have h6' : (p == 6) = true := by simpa using h6
          clear h6
          cases hnm : namesB (cutB b 0) (bb + (j : Int)) with
          | true =>
            rw [hnm] at HM
            clear hnm
            go_wp2_with fail
            refine (HM.out _ T6.out.2.2.1).mono ?_
            rintro e w7 ⟨rfl, hb⟩
            have T7 := Lib.hid (T6.out.bel hb)
            clear hb y0 y1 y2
            go_wp2_with fail
            refine (HWK.out _).mono ?_
            rintro e w8 ⟨rfl, hb⟩
            have T8 := Lib.hid (T7.out.bel hb)
            clear hb
            go_wp2_with fail
            go_ret
            exact ⟨ret_bool rfl, T8.out.1.2.2⟩
          | false =>
            rw [hnm] at HM
            clear hnm
            go_wp2_with fail
            refine (HM.out _ T6.out.2.2.1).mono ?_
            rintro e w7 ⟨rfl, hb⟩
            have T7 := Lib.hid (T6.out.bel hb)
            clear hb y0 y1 y2
            go_wp2_with fail
            go_roundw
            case rel => exact ⟨j + 1, by go_num, by omega, T7.out⟩
            case measure => simp [RowKit.intOf] <;> omega
        · have h6' : (p == 6) = false := by simpa using h6
          clear h6
          go_wp2_with fail
          go_roundw
          case rel => exact ⟨j + 1, by go_num, by omega, T6.out⟩
          case measure => simp [RowKit.intOf] <;> omega
      · have hlt' : ¬ (j : Int) < CB := hlt
        go_wp2_with fail
        refine (SN.out _ TJ.out.2.2.1).mono ?_
        rintro e w5 ⟨rfl, hb⟩
        have T5 := Lib.hid (TJ.out.bel hb)
        clear hb y0 y1 y2
        obtain ⟨y0, y1, y2⟩ := T5.out.2.cells
        rw [HEL.out] at y2
        go_wp2_with fail
        refine (SC.out _ T5.out.2.2.1).mono ?_
        rintro e w6 ⟨rfl, hb⟩
        have T6 := Lib.hid (T5.out.bel hb)
        clear hb y0 y1 y2
        go_wp2_with fail
        refine (HWK.out _).mono ?_
        rintro e w7 ⟨rfl, hb⟩
        have T7 := Lib.hid (T6.out.bel hb)
        clear hb
        go_wp2_with fail
        go_ret
        exact ⟨ret_bool rfl, T7.out.1.2.2⟩
  | some ad2 =>
    clear hnone
    go_upto_region 9 with (fail)
    rw [← HW.out]
    clear HW key
    go_wp2_with fail
    go_loopw [8] (fun si wr => ∃ j : Nat, si = .int .i64 (j : Int) ∧ (j : Int) ≤ CB ∧ TwoX w w3 w.heap.size w3.heap.size b (cutB b N) (.slice ps b.sorts.length cs) (.slice pc b.cons.length cc) (.slice a1 b.sorts.length d1) (.slice (some ad2) N d2) wr) (fun si _ => (CB - RowKit.intOf si).toNat)
    case atStart => exact ⟨0, rfl, by omega, T4.out⟩
    case round =>
      clear T4
      obtain ⟨j, rfl, hj, hT⟩ := hrel
      have TJ := Lib.hid hT
      clear hT
      obtain ⟨y0, y1, y2⟩ := TJ.out.2.cells
      rw [HEL.out] at y2
      by_cases hlt : (j : Int) < CB
      · have hw1 : IntKind.i64.wrap ((j : Int) + 1) = ((j + 1 : Nat) : Int) := by rw [IntWalk.i64_in _ (by omega)]; omega
        have hw2 : IntKind.i64.wrap (bb + (j : Int)) = bb + (j : Int) := IntWalk.i64_in _ (by omega)
        go_wp2_with fail
        refine (SN.out _ TJ.out.2.2.1).mono ?_
        rintro e w5 ⟨rfl, hb⟩
        have T5 := Lib.hid (TJ.out.bel hb)
        clear hb y0 y1 y2
        obtain ⟨y0, y1, y2⟩ := T5.out.2.cells
        rw [HEL.out] at y2
        have HO := Lib.hid (SO.out (bb + (j : Int)) w5 T5.out.2.2.1)
        have HM := Lib.hid (SM.out (bb + (j : Int)))
        generalize ofB (cutB b N) bb (bb + (j : Int)) = PP at *
        obtain ⟨p, q⟩ := PP
        dsimp only at HO
        go_wp2_with fail
        refine HO.out.mono ?_
        rintro e w6 ⟨rfl, hb⟩
        have T6 := Lib.hid (T5.out.bel hb)
        clear hb y0 y1 y2 T5 TJ HO
        obtain ⟨y0, y1, y2⟩ := T6.out.2.cells
        rw [HEL.out] at y2
        by_cases h6 : p = 6
        · have h6' : (p == 6) = true := by simpa using h6
          clear h6
          cases hnm : namesB (cutB b N) (bb + (j : Int)) with
          | true =>
            rw [hnm] at HM
            clear hnm
            go_wp2_with fail
            refine (HM.out _ T6.out.2.2.1).mono ?_
            rintro e w7 ⟨rfl, hb⟩
            have T7 := Lib.hid (T6.out.bel hb)
            clear hb y0 y1 y2
            go_wp2_with fail
            refine (HWK.out _).mono ?_
            rintro e w8 ⟨rfl, hb⟩
            have T8 := Lib.hid (T7.out.bel hb)
            clear hb
            go_wp2_with fail
            go_ret
            exact ⟨ret_bool rfl, T8.out.1.2.2⟩
          | false =>
            rw [hnm] at HM
            clear hnm
            go_wp2_with fail
            refine (HM.out _ T6.out.2.2.1).mono ?_
            rintro e w7 ⟨rfl, hb⟩
            have T7 := Lib.hid (T6.out.bel hb)
            clear hb y0 y1 y2
            go_wp2_with fail
            go_roundw
            case rel => exact ⟨j + 1, by go_num, by omega, T7.out⟩
            case measure => simp [RowKit.intOf] <;> omega
        · have h6' : (p == 6) = false := by simpa using h6
          clear h6
          go_wp2_with fail
          go_roundw
          case rel => exact ⟨j + 1, by go_num, by omega, T6.out⟩
          case measure => simp [RowKit.intOf] <;> omega
      · have hlt' : ¬ (j : Int) < CB := hlt
        go_wp2_with fail
        refine (SN.out _ TJ.out.2.2.1).mono ?_
        rintro e w5 ⟨rfl, hb⟩
        have T5 := Lib.hid (TJ.out.bel hb)
        clear hb y0 y1 y2
        obtain ⟨y0, y1, y2⟩ := T5.out.2.cells
        rw [HEL.out] at y2
        go_wp2_with fail
        refine (SC.out _ T5.out.2.2.1).mono ?_
        rintro e w6 ⟨rfl, hb⟩
        have T6 := Lib.hid (T5.out.bel hb)
        clear hb y0 y1 y2
        go_wp2_with fail
        refine (HWK.out _).mono ?_
        rintro e w7 ⟨rfl, hb⟩
        have T7 := Lib.hid (T6.out.bel hb)
        clear hb
        go_wp2_with fail
        go_ret
        exact ⟨ret_bool rfl, T7.out.1.2.2⟩
end Go.Proofs.Ytggefpkfikimiaa
