/- The page's numbers of a block's constants. No conditions but sizes. -/
import Derived.Test.YtggefpkfikimiaaG15
import Derived.Deep.DrawnRows
import Derived.Deep.RegionLaw
import Derived.Deep.DeepCutAuto
import Derived.BigQuiet
namespace Go.Proofs.Ytggefpkfikimiaa
open Go.RowKit
set_option linter.unusedVariables false

theorem decsN_nat (b : BlkT) (j : Nat) : decsN b (j : Int) = ((b.sorts.take j).countP (·.dec) : Nat) := by simp [decsN]
theorem decsN_range (b : BlkT) (k : Int) : 0 ≤ decsN b k ∧ decsN b k ≤ nsB b := by
  unfold decsN nsB
  have h1 : (b.sorts.take k.toNat).countP (·.dec) ≤ (b.sorts.take k.toNat).length := List.countP_le_length
  have h2 : (b.sorts.take k.toNat).length ≤ b.sorts.length := by simp; omega
  omega
theorem decsN_succ (b : BlkT) {j : Nat} (h : j < b.sorts.length) : decsN b ((j + 1 : Nat) : Int) = decsN b (j : Int) + (if b.sorts[j].dec then 1 else 0) := by
  rw [decsN_nat, decsN_nat, List.take_succ_eq_append_getElem h, List.countP_append]
  by_cases hd : b.sorts[j].dec = true
  · simp [hd]
  · simp [hd]
theorem decsN_end (b : BlkT) {j : Nat} {k : Int} (hj : (j : Int) ≤ k ∨ j = 0) (hl : j ≤ b.sorts.length) (h : ¬ (j : Int) < k ∨ ¬ j < b.sorts.length) : decsN b (j : Int) = decsN b k := by
  by_cases hk : (j : Int) < k
  · have hjl : j = b.sorts.length := by omega
    unfold decsN
    rw [Int.toNat_natCast, List.take_of_length_le (by omega), List.take_of_length_le (by omega)]
  · unfold decsN
    rw [Int.toNat_natCast]
    have : j = k.toNat := by omega
    rw [this]
set_option maxRecDepth 100000 in
set_option maxHeartbeats 1000000 in
theorem rin7_any (n lo hi : Int) (w : World) : Calls Try.prog 48 #[.int .i64 n, .int .i64 lo, .int .i64 hi] w fun e w' => e = .returned (.bool (inZ n lo hi)) ∧ w' = w := by
  by_cases h1 : lo ≤ n
  · by_cases h2 : n ≤ hi
    · have HE := Lib.hid (show inZ n lo hi = true by rw [inZ, decide_eq_true h1, decide_eq_true h2]; rfl)
      go_enter Try.func48, Try.ntmps48
      go_wp2_with fail
      go_ret
      exact ⟨ret_bool HE.out.symm, rfl⟩
    · have HE := Lib.hid (show inZ n lo hi = false by rw [inZ, decide_eq_false h2, Bool.and_false])
      go_enter Try.func48, Try.ntmps48
      go_wp2_with fail
      go_ret
      exact ⟨ret_bool HE.out.symm, rfl⟩
  · have HE := Lib.hid (show inZ n lo hi = false by rw [inZ, decide_eq_false h1, Bool.false_and])
    go_enter Try.func48, Try.ntmps48
    go_wp2_with fail
    go_ret
    exact ⟨ret_bool HE.out.symm, rfl⟩
set_option maxRecDepth 100000 in
set_option maxHeartbeats 1000000 in
theorem rns_any (b : BlkT) (w : World) (vs vc : Value) (hA : BAt w b vs vc) : Calls Try.prog 33 #[.agg #[vs, vc, .int .i64 b.elim]] w fun e w' => e = .returned (.int .i64 (nsB b)) ∧ Below w.heap.size w w' := by
  obtain ⟨ps, cs, pc, cc, rfl, rfl⟩ := hA.shape
  have O0 := Lib.hid (oneb_start w b _ _ hA)
  clear hA
  go_enter Try.func33, Try.ntmps33
  go_wp2_with fail
  go_ret
  exact ⟨ret_int rfl, O0.out.2.2⟩
set_option maxRecDepth 100000 in
set_option maxHeartbeats 2000000 in
theorem rdecs_any (b : BlkT) (hs : blkN b ≤ 1048576) (k : Int) (w : World) (vs vc : Value) (hA : BAt w b vs vc) : Calls Try.prog 34 #[.agg #[vs, vc, .int .i64 b.elim], .int .i64 k] w fun e w' => e = .returned (.int .i64 (decsN b k)) ∧ Below w.heap.size w w' := by
  obtain ⟨ps, cs, pc, cc, rfl, rfl⟩ := hA.shape
  have hls := sortsN_len b.sorts
  have hbn : blkN b = sortsN b.sorts + consN b.cons + 1 := rfl
  have O0 := Lib.hid (oneb_start w b _ _ hA)
  clear hA
  go_enter Try.func34, Try.ntmps34
  go_wp2_with fail
  go_loopw [5, 6] (fun n i wr => ∃ j : Nat, j ≤ b.sorts.length ∧ ((j : Int) ≤ k ∨ j = 0) ∧ i = .int .i64 j ∧ n = .int .i64 (decsN b j) ∧ OneB w w.heap.size b (.slice ps b.sorts.length cs) (.slice pc b.cons.length cc) wr) (fun _ i _ => b.sorts.length - (RowKit.intOf i).toNat)
  case atStart => exact ⟨0, Nat.zero_le _, .inr rfl, rfl, by simp [decsN], O0.out⟩
  case round =>
    clear O0
    obtain ⟨j, hj, hjk, rfl, rfl, hO⟩ := hrel
    obtain ⟨x0, x1, x2⟩ := hO.cells
    have hr := decsN_range b j
    have hnn : nsB b = b.sorts.length := rfl
    by_cases hk : (j : Int) < k
    · by_cases hlt : j < b.sorts.length
      · obtain ⟨B, off, va, vt, rfl, ga, gt, k0, k1, k2, k3, k4, k5⟩ := SRow.at hO.2.1.1 hlt
        have hS := decsN_succ b hlt
        have HO := Lib.hid hO
        have hji : (j : Int) < (b.sorts.length : Int) := by omega
        have hj0 : (0 : Int) ≤ (j : Int) := by omega
        have hjm : j < 1048576 := by omega
        have hjs : b.sorts.length ≤ 1048576 := by omega
        obtain ⟨D, hD⟩ : ∃ D, D = decsN b (j : Int) := ⟨_, rfl⟩
        rw [← hD] at hr hS ⊢
        have HS := Lib.hid hS
        clear ga gt k0 k1 k3 k4 k5 hO hS hD hbn
        cases hd : b.sorts[j].dec with
        | true =>
          rw [hd] at k2 HS
          clear hd
          have hw : IntKind.i64.wrap (D + 1) = D + 1 := IntWalk.i64_in _ (by omega)
          go_wp2_with fail
          go_roundw
          case rel => exact ⟨j + 1, hlt, .inl (by omega), by go_num, by rw [HS.out]; rfl, HO.out⟩
          case measure => simp [RowKit.intOf]; omega
        | false =>
          rw [hd] at k2 HS
          clear hd
          go_wp2_with fail
          go_roundw
          case rel => exact ⟨j + 1, hlt, .inl (by omega), by go_num, by rw [HS.out]; simp, HO.out⟩
          case measure => simp [RowKit.intOf]; omega
      · obtain rfl : j = b.sorts.length := by omega
        have hnl : ¬ (b.sorts.length : Int) < (b.sorts.length : Int) := by omega
        have HE := Lib.hid (decsN_end b hjk (Nat.le_refl _) (.inr hlt))
        have HO := Lib.hid hO
        clear hO
        generalize decsN b (b.sorts.length : Int) = D at *
        go_wp2_with fail
        go_ret
        exact ⟨ret_int HE.out, HO.out.2.2⟩
    · have HE := Lib.hid (decsN_end b hjk hj (.inl hk))
      have HO := Lib.hid hO
      clear hO
      generalize decsN b (j : Int) = D at *
      go_wp2_with fail
      go_ret
      exact ⟨ret_int HE.out, HO.out.2.2⟩
theorem inZ_iff {n lo hi : Int} : inZ n lo hi = true ↔ lo ≤ n ∧ n ≤ hi := by simp [inZ]
set_option maxRecDepth 100000 in
set_option maxHeartbeats 2000000 in
theorem rformer_any (b : BlkT) (hs : blkN b ≤ 1048576) (base k : Int) (w : World) (vs vc : Value) (hA : BAt w b vs vc) : Calls Try.prog 40 #[.agg #[vs, vc, .int .i64 b.elim], .int .i64 base, .int .i64 k] w fun e w' => e = .returned (.int .i64 (formerB b base k)) ∧ Below w.heap.size w w' := by
  obtain ⟨ps, cs, pc, cc, rfl, rfl⟩ := hA.shape
  have hls := sortsN_len b.sorts
  have hlc := consN_len b.cons
  have hbn : blkN b = sortsN b.sorts + consN b.cons + 1 := rfl
  have hnn : nsB b = b.sorts.length := rfl
  have hnc : ncB b = b.cons.length := rfl
  have hdk := decsN_range b k
  have hdn := decsN_range b (nsB b)
  have O0 := Lib.hid (oneb_start w b _ _ hA)
  have NS := Lib.hid (fun W hA => rns_any b W (.slice ps b.sorts.length cs) (.slice pc b.cons.length cc) hA)
  have DC := Lib.hid (fun k W hA => rdecs_any b hs k W (.slice ps b.sorts.length cs) (.slice pc b.cons.length cc) hA)
  have hw1 : IntKind.i64.wrap (nsB b - 1) = nsB b - 1 := IntWalk.i64_in _ (by omega)
  clear hA
  cases h1 : inZ base 0 65535 with
  | false =>
    have HE := Lib.hid (show formerB b base k = -1 by simp [formerB, h1])
    have R1 := Lib.hid (fun W => rin7_any base 0 65535 W)
    rw [h1] at R1
    clear h1
    clear hnn hnc
    go_enter Try.func40, Try.ntmps40
    go_wp2_with fail
    refine (R1.out _).mono ?_
    rintro e w1 ⟨rfl, rfl⟩
    go_wp2_with fail
    go_ret
    exact ⟨ret_int HE.out.symm, O0.out.2.2⟩
  | true =>
    have hb1 := inZ_iff.1 h1
    have R1 := Lib.hid (fun W => rin7_any base 0 65535 W)
    rw [h1] at R1
    cases h2 : inZ k 0 (nsB b - 1) with
    | false =>
      have HE := Lib.hid (show formerB b base k = -1 by simp [formerB, h1, h2])
      have R2 := Lib.hid (fun W => rin7_any k 0 (nsB b - 1) W)
      rw [h2] at R2
      clear h1 h2 hnn hnc
      go_enter Try.func40, Try.ntmps40
      go_wp2_with fail
      refine (R1.out _).mono ?_
      rintro e w1 ⟨rfl, rfl⟩
      go_wp2_with fail
      refine (NS.out _ O0.out.2.1).mono ?_
      rintro e w2 ⟨rfl, hb2w⟩
      have OB := Lib.hid (O0.out.bel hb2w)
      obtain ⟨x0, x1, x2⟩ := OB.out.cells
      clear hb2w
      go_wp2_with fail
      refine (R2.out _).mono ?_
      rintro e w3 ⟨rfl, rfl⟩
      go_wp2_with fail
      go_ret
      exact ⟨ret_int HE.out.symm, OB.out.2.2⟩
    | true =>
      have hb2 := inZ_iff.1 h2
      have R2 := Lib.hid (fun W => rin7_any k 0 (nsB b - 1) W)
      rw [h2] at R2
      have HE := Lib.hid (show formerB b base k = base + k by simp [formerB, h1, h2])
      have hw2 : IntKind.i64.wrap (base + k) = base + k := IntWalk.i64_in _ (by omega)
      clear h1 h2 hnn hnc
      go_enter Try.func40, Try.ntmps40
      go_wp2_with fail
      refine (R1.out _).mono ?_
      rintro e w1 ⟨rfl, rfl⟩
      go_wp2_with fail
      refine (NS.out _ O0.out.2.1).mono ?_
      rintro e w2 ⟨rfl, hb2w⟩
      have OB := Lib.hid (O0.out.bel hb2w)
      obtain ⟨x0, x1, x2⟩ := OB.out.cells
      clear hb2w
      go_wp2_with fail
      refine (R2.out _).mono ?_
      rintro e w3 ⟨rfl, rfl⟩
      go_wp2_with fail
      go_ret
      exact ⟨ret_int HE.out.symm, OB.out.2.2⟩
set_option maxRecDepth 100000 in
set_option maxHeartbeats 2000000 in
theorem rctor_any (b : BlkT) (hs : blkN b ≤ 1048576) (base k : Int) (w : World) (vs vc : Value) (hA : BAt w b vs vc) : Calls Try.prog 43 #[.agg #[vs, vc, .int .i64 b.elim], .int .i64 base, .int .i64 k] w fun e w' => e = .returned (.int .i64 (ctorB b base k)) ∧ Below w.heap.size w w' := by
  obtain ⟨ps, cs, pc, cc, rfl, rfl⟩ := hA.shape
  have hls := sortsN_len b.sorts
  have hlc := consN_len b.cons
  have hbn : blkN b = sortsN b.sorts + consN b.cons + 1 := rfl
  have hnn : nsB b = b.sorts.length := rfl
  have hnc : ncB b = b.cons.length := rfl
  have hdk := decsN_range b k
  have hdn := decsN_range b (nsB b)
  have O0 := Lib.hid (oneb_start w b _ _ hA)
  have NS := Lib.hid (fun W hA => rns_any b W (.slice ps b.sorts.length cs) (.slice pc b.cons.length cc) hA)
  have DC := Lib.hid (fun k W hA => rdecs_any b hs k W (.slice ps b.sorts.length cs) (.slice pc b.cons.length cc) hA)
  have hw1 : IntKind.i64.wrap ((b.cons.length : Int) - 1) = (b.cons.length : Int) - 1 := IntWalk.i64_in _ (by omega)
  clear hA
  cases h1 : inZ base 0 65535 with
  | false =>
    have HE := Lib.hid (show ctorB b base k = -1 by simp [ctorB, h1])
    have R1 := Lib.hid (fun W => rin7_any base 0 65535 W)
    rw [h1] at R1
    clear h1
    clear hnn hnc
    go_enter Try.func43, Try.ntmps43
    go_wp2_with fail
    refine (R1.out _).mono ?_
    rintro e w1 ⟨rfl, rfl⟩
    go_wp2_with fail
    go_ret
    exact ⟨ret_int HE.out.symm, O0.out.2.2⟩
  | true =>
    have hb1 := inZ_iff.1 h1
    have R1 := Lib.hid (fun W => rin7_any base 0 65535 W)
    rw [h1] at R1
    cases h2 : inZ k 0 ((b.cons.length : Int) - 1) with
    | false =>
      have HE := Lib.hid (show ctorB b base k = -1 by simp [ctorB, ncB, h1, h2])
      have R2 := Lib.hid (fun W => rin7_any k 0 ((b.cons.length : Int) - 1) W)
      rw [h2] at R2
      clear h1 h2 hnn hnc
      go_enter Try.func43, Try.ntmps43
      go_wp2_with fail
      refine (R1.out _).mono ?_
      rintro e w1 ⟨rfl, rfl⟩
      go_wp2_with fail
      refine (R2.out _).mono ?_
      rintro e w2 ⟨rfl, rfl⟩
      have OB := Lib.hid O0.out
      go_wp2_with fail
      go_ret
      exact ⟨ret_int HE.out.symm, OB.out.2.2⟩
    | true =>
      have hb2 := inZ_iff.1 h2
      have R2 := Lib.hid (fun W => rin7_any k 0 ((b.cons.length : Int) - 1) W)
      rw [h2] at R2
      have HE := Lib.hid (show ctorB b base k = base + nsB b + decsN b (nsB b) + k by simp [ctorB, ncB, h1, h2])
      have hw2 : IntKind.i64.wrap (base + nsB b) = base + nsB b := IntWalk.i64_in _ (by omega)
      have hw3 : IntKind.i64.wrap (base + nsB b + decsN b (nsB b)) = base + nsB b + decsN b (nsB b) := IntWalk.i64_in _ (by omega)
      have hw4 : IntKind.i64.wrap (base + nsB b + decsN b (nsB b) + k) = base + nsB b + decsN b (nsB b) + k := IntWalk.i64_in _ (by omega)
      clear h1 h2 hnn hnc
      go_enter Try.func43, Try.ntmps43
      go_wp2_with fail
      refine (R1.out _).mono ?_
      rintro e w1 ⟨rfl, rfl⟩
      go_wp2_with fail
      refine (R2.out _).mono ?_
      rintro e w2 ⟨rfl, rfl⟩
      have OB := Lib.hid O0.out
      go_wp2_with fail
      refine wp_region_rel (by kernel_rfl) (by kernel_rfl) (by kernel_rfl) ?_
      apply RelWalk.rest
      · kernel_rfl
      · intro X _ W hW hcl
        obtain ⟨z0, z1, z2⟩ := OB.out.cells
        have rP0 := fun q => gcell (hW q) z0
        have rP1 := fun q => gcell (hW q) z1
        have rP2 := fun q => gcell (hW q) z2
        clear z0 z1 z2
        have d0 := Lib.hid (fun q => into hcl (NS.out (W q) (OB.out.2.1.bel (hW q))))
        have d1 := Lib.hid (fun q => into hcl (DC.out (nsB b) (W q) (OB.out.2.1.bel (hW q))))
        repeat (go_big_quiet_step (first | (with_reducible exact d0.out _) | (with_reducible exact d1.out _)))
        exact wpQuiet_nil rfl
      intro gq w5 hg _
      have HG := Lib.hid hg
      clear hg
      simp only [Spread]
      have OB5 := Lib.hid (OB.out.bel HG.out)
      go_wp2_with fail
      go_ret
      exact ⟨ret_int HE.out.symm, OB5.out.2.2⟩
set_option maxRecDepth 100000 in
set_option maxHeartbeats 2000000 in
theorem relim_any (b : BlkT) (hs : blkN b ≤ 1048576) (base k : Int) (w : World) (vs vc : Value) (hA : BAt w b vs vc) : Calls Try.prog 42 #[.agg #[vs, vc, .int .i64 b.elim], .int .i64 base, .int .i64 k] w fun e w' => e = .returned (.int .i64 (elimB b base k)) ∧ Below w.heap.size w w' := by
  obtain ⟨ps, cs, pc, cc, rfl, rfl⟩ := hA.shape
  have hls := sortsN_len b.sorts
  have hlc := consN_len b.cons
  have hbn : blkN b = sortsN b.sorts + consN b.cons + 1 := rfl
  have hnn : nsB b = b.sorts.length := rfl
  have hnc : ncB b = b.cons.length := rfl
  have hdk := decsN_range b k
  have hdn := decsN_range b (nsB b)
  have O0 := Lib.hid (oneb_start w b _ _ hA)
  have NS := Lib.hid (fun W hA => rns_any b W (.slice ps b.sorts.length cs) (.slice pc b.cons.length cc) hA)
  have DC := Lib.hid (fun k W hA => rdecs_any b hs k W (.slice ps b.sorts.length cs) (.slice pc b.cons.length cc) hA)
  have hw1 : IntKind.i64.wrap (nsB b - 1) = nsB b - 1 := IntWalk.i64_in _ (by omega)
  clear hA
  cases h1 : inZ base 0 65535 with
  | false =>
    have HE := Lib.hid (show elimB b base k = -1 by simp [elimB, h1])
    have R1 := Lib.hid (fun W => rin7_any base 0 65535 W)
    rw [h1] at R1
    clear h1
    clear hnn hnc
    go_enter Try.func42, Try.ntmps42
    go_wp2_with fail
    refine (R1.out _).mono ?_
    rintro e w1 ⟨rfl, rfl⟩
    go_wp2_with fail
    go_ret
    exact ⟨ret_int HE.out.symm, O0.out.2.2⟩
  | true =>
    have hb1 := inZ_iff.1 h1
    have R1 := Lib.hid (fun W => rin7_any base 0 65535 W)
    rw [h1] at R1
    cases h2 : inZ k 0 (nsB b - 1) with
    | false =>
      have HE := Lib.hid (show elimB b base k = -1 by simp [elimB, h1, h2])
      have R2 := Lib.hid (fun W => rin7_any k 0 (nsB b - 1) W)
      rw [h2] at R2
      clear h1 h2 hnn hnc
      go_enter Try.func42, Try.ntmps42
      go_wp2_with fail
      refine (R1.out _).mono ?_
      rintro e w1 ⟨rfl, rfl⟩
      go_wp2_with fail
      refine (NS.out _ O0.out.2.1).mono ?_
      rintro e w2 ⟨rfl, hb2w⟩
      have OB := Lib.hid (O0.out.bel hb2w)
      obtain ⟨x0, x1, x2⟩ := OB.out.cells
      clear hb2w
      go_wp2_with fail
      refine (R2.out _).mono ?_
      rintro e w3 ⟨rfl, rfl⟩
      go_wp2_with fail
      go_ret
      exact ⟨ret_int HE.out.symm, OB.out.2.2⟩
    | true =>
      have hb2 := inZ_iff.1 h2
      have R2 := Lib.hid (fun W => rin7_any k 0 (nsB b - 1) W)
      rw [h2] at R2
      have HE := Lib.hid (show elimB b base k = base + nsB b + decsN b (nsB b) + b.cons.length + k by simp [elimB, h1, h2]; rfl)
      have hw2 : IntKind.i64.wrap (base + nsB b) = base + nsB b := IntWalk.i64_in _ (by omega)
      have hw3 : IntKind.i64.wrap (base + nsB b + decsN b (nsB b)) = base + nsB b + decsN b (nsB b) := IntWalk.i64_in _ (by omega)
      have hw4 : IntKind.i64.wrap (base + nsB b + decsN b (nsB b) + b.cons.length) = base + nsB b + decsN b (nsB b) + b.cons.length := IntWalk.i64_in _ (by omega)
      have hw5 : IntKind.i64.wrap (base + nsB b + decsN b (nsB b) + b.cons.length + k) = base + nsB b + decsN b (nsB b) + b.cons.length + k := IntWalk.i64_in _ (by omega)
      clear h1 h2 hnn hnc
      go_enter Try.func42, Try.ntmps42
      go_wp2_with fail
      refine (R1.out _).mono ?_
      rintro e w1 ⟨rfl, rfl⟩
      go_wp2_with fail
      refine (NS.out _ O0.out.2.1).mono ?_
      rintro e w2 ⟨rfl, hb2w⟩
      have OB := Lib.hid (O0.out.bel hb2w)
      obtain ⟨x0, x1, x2⟩ := OB.out.cells
      clear hb2w
      go_wp2_with fail
      refine (R2.out _).mono ?_
      rintro e w3 ⟨rfl, rfl⟩
      go_wp2_with fail
      refine wp_region_rel (by kernel_rfl) (by kernel_rfl) (by kernel_rfl) ?_
      apply RelWalk.rest
      · kernel_rfl
      · intro X _ W hW hcl
        obtain ⟨z0, z1, z2⟩ := OB.out.cells
        have rP0 := fun q => gcell (hW q) z0
        have rP1 := fun q => gcell (hW q) z1
        have rP2 := fun q => gcell (hW q) z2
        clear z0 z1 z2
        have d0 := Lib.hid (fun q => into hcl (NS.out (W q) (OB.out.2.1.bel (hW q))))
        have d1 := Lib.hid (fun q => into hcl (DC.out (nsB b) (W q) (OB.out.2.1.bel (hW q))))
        repeat (go_big_quiet_step (first | (with_reducible exact d0.out _) | (with_reducible exact d1.out _)))
        exact wpQuiet_nil rfl
      intro gq w5 hg _
      have HG := Lib.hid hg
      clear hg
      simp only [Spread]
      have OB5 := Lib.hid (OB.out.bel HG.out)
      go_wp2_with fail
      go_ret
      exact ⟨ret_int HE.out.symm, OB5.out.2.2⟩
set_option maxRecDepth 100000 in
set_option maxHeartbeats 2000000 in
theorem rdecoder_any (b : BlkT) (hs : blkN b ≤ 1048576) (base k : Int) (w : World) (vs vc : Value) (hA : BAt w b vs vc) : Calls Try.prog 41 #[.agg #[vs, vc, .int .i64 b.elim], .int .i64 base, .int .i64 k] w fun e w' => e = .returned (.int .i64 (decoderB b base k)) ∧ Below w.heap.size w w' := by
  obtain ⟨ps, cs, pc, cc, rfl, rfl⟩ := hA.shape
  have hls := sortsN_len b.sorts
  have hlc := consN_len b.cons
  have hbn : blkN b = sortsN b.sorts + consN b.cons + 1 := rfl
  have hnn : nsB b = b.sorts.length := rfl
  have hnc : ncB b = b.cons.length := rfl
  have hdk := decsN_range b k
  have hdn := decsN_range b (nsB b)
  have O0 := Lib.hid (oneb_start w b _ _ hA)
  have NS := Lib.hid (fun W hA => rns_any b W (.slice ps b.sorts.length cs) (.slice pc b.cons.length cc) hA)
  have DC := Lib.hid (fun k W hA => rdecs_any b hs k W (.slice ps b.sorts.length cs) (.slice pc b.cons.length cc) hA)
  have hw1 : IntKind.i64.wrap (nsB b - 1) = nsB b - 1 := IntWalk.i64_in _ (by omega)
  clear hA
  cases h1 : inZ base 0 65535 with
  | false =>
    have HE := Lib.hid (show decoderB b base k = -1 by simp [decoderB, h1])
    have R1 := Lib.hid (fun W => rin7_any base 0 65535 W)
    rw [h1] at R1
    clear h1
    clear hnn hnc
    go_enter Try.func41, Try.ntmps41
    go_wp2_with fail
    refine (R1.out _).mono ?_
    rintro e w1 ⟨rfl, rfl⟩
    go_wp2_with fail
    go_ret
    exact ⟨ret_int HE.out.symm, O0.out.2.2⟩
  | true =>
    have hb1 := inZ_iff.1 h1
    have R1 := Lib.hid (fun W => rin7_any base 0 65535 W)
    rw [h1] at R1
    cases h2 : inZ k 0 (nsB b - 1) with
    | false =>
      have HE := Lib.hid (show decoderB b base k = -1 by simp [decoderB, h1, h2])
      have R2 := Lib.hid (fun W => rin7_any k 0 (nsB b - 1) W)
      rw [h2] at R2
      clear h1 h2 hnn hnc
      go_enter Try.func41, Try.ntmps41
      go_wp2_with fail
      refine (R1.out _).mono ?_
      rintro e w1 ⟨rfl, rfl⟩
      go_wp2_with fail
      refine (NS.out _ O0.out.2.1).mono ?_
      rintro e w2 ⟨rfl, hb2w⟩
      have OB := Lib.hid (O0.out.bel hb2w)
      obtain ⟨x0, x1, x2⟩ := OB.out.cells
      clear hb2w
      go_wp2_with fail
      refine (R2.out _).mono ?_
      rintro e w3 ⟨rfl, rfl⟩
      go_wp2_with fail
      go_ret
      exact ⟨ret_int HE.out.symm, OB.out.2.2⟩
    | true =>
      have hb2 := inZ_iff.1 h2
      have R2 := Lib.hid (fun W => rin7_any k 0 (nsB b - 1) W)
      rw [h2] at R2
      obtain ⟨K, rfl⟩ : ∃ K : Nat, k = (K : Int) := ⟨k.toNat, by omega⟩
      have hK : K < b.sorts.length := by omega
      have hhd : hasDec b K = b.sorts[K].dec := by simp [hasDec, List.getElem?_eq_getElem hK]
      have hk0 : (0 : Int) ≤ (K : Int) := by omega
      have hkl : (K : Int) < (b.sorts.length : Int) := by omega
      have hS := O0.out.2.1.1
      obtain ⟨B, off, va, vt, rfl, ga, gt, k0, k1, k2, k3, k4, k5⟩ := SRow.at hS hK
      have K2 := Lib.hid k2
      clear ga gt k0 k1 k2 k3 k4 k5 hS
      cases h3 : b.sorts[K].dec with
      | false =>
        rw [h3] at K2 hhd
        have HE := Lib.hid (show decoderB b base K = -1 by simp [decoderB, hhd])
        clear h1 h2 h3 hhd hnn hnc
        go_enter Try.func41, Try.ntmps41
        go_wp2_with fail
        refine (R1.out _).mono ?_
        rintro e w1 ⟨rfl, rfl⟩
        go_wp2_with fail
        refine (NS.out _ O0.out.2.1).mono ?_
        rintro e w2 ⟨rfl, hb2w⟩
        have OB := Lib.hid (O0.out.bel hb2w)
        obtain ⟨x0, x1, x2⟩ := OB.out.cells
        have k2 := gcell hb2w K2.out
        clear hb2w
        go_wp2_with fail
        refine (R2.out _).mono ?_
        rintro e w3 ⟨rfl, rfl⟩
        go_wp2_with fail
        go_ret
        exact ⟨ret_int HE.out.symm, OB.out.2.2⟩
      | true =>
        rw [h3] at K2 hhd
        have HE := Lib.hid (show decoderB b base K = base + nsB b + decsN b K by simp [decoderB, h1, h2, hhd])
        have hw2 : IntKind.i64.wrap (base + nsB b) = base + nsB b := IntWalk.i64_in _ (by omega)
        have hw3 : IntKind.i64.wrap (base + nsB b + decsN b K) = base + nsB b + decsN b K := IntWalk.i64_in _ (by omega)
        clear h1 h2 h3 hhd hnn hnc
        go_enter Try.func41, Try.ntmps41
        go_wp2_with fail
        refine (R1.out _).mono ?_
        rintro e w1 ⟨rfl, rfl⟩
        go_wp2_with fail
        refine (NS.out _ O0.out.2.1).mono ?_
        rintro e w2 ⟨rfl, hb2w⟩
        have OB := Lib.hid (O0.out.bel hb2w)
        obtain ⟨x0, x1, x2⟩ := OB.out.cells
        have k2 := gcell hb2w K2.out
        clear hb2w
        go_wp2_with fail
        refine (R2.out _).mono ?_
        rintro e w3 ⟨rfl, rfl⟩
        go_wp2_with fail
        refine wp_region_rel (by kernel_rfl) (by kernel_rfl) (by kernel_rfl) ?_
        apply RelWalk.rest
        · kernel_rfl
        · intro X _ W hW hcl
          obtain ⟨z0, z1, z2⟩ := OB.out.cells
          have rP0 := fun q => gcell (hW q) z0
          have rP1 := fun q => gcell (hW q) z1
          have rP2 := fun q => gcell (hW q) z2
          clear z0 z1 z2
          have d0 := Lib.hid (fun q => into hcl (NS.out (W q) (OB.out.2.1.bel (hW q))))
          have d1 := Lib.hid (fun q => into hcl (DC.out (K : Int) (W q) (OB.out.2.1.bel (hW q))))
          repeat (go_big_quiet_step (first | (with_reducible exact d0.out _) | (with_reducible exact d1.out _)))
          exact wpQuiet_nil rfl
        intro gq w5 hg _
        have HG := Lib.hid hg
        clear hg
        simp only [Spread]
        have OB5 := Lib.hid (OB.out.bel HG.out)
        go_wp2_with fail
        go_ret
        exact ⟨ret_int HE.out.symm, OB5.out.2.2⟩
set_option maxRecDepth 100000 in
set_option maxHeartbeats 2000000 in
theorem rcount7_any (b : BlkT) (hs : blkN b ≤ 1048576) (w : World) (vs vc : Value) (hA : BAt w b vs vc) : Calls Try.prog 16 #[.agg #[vs, vc, .int .i64 b.elim]] w fun e w' => e = .returned (.int .i64 (countB b)) ∧ Below w.heap.size w w' := by
  obtain ⟨ps, cs, pc, cc, rfl, rfl⟩ := hA.shape
  have hls := sortsN_len b.sorts
  have hlc := consN_len b.cons
  have hbn : blkN b = sortsN b.sorts + consN b.cons + 1 := rfl
  have hnn : nsB b = b.sorts.length := rfl
  have hdn := decsN_range b (nsB b)
  have OB := Lib.hid (oneb_start w b _ _ hA)
  have NS := Lib.hid (fun W hA => rns_any b W (.slice ps b.sorts.length cs) (.slice pc b.cons.length cc) hA)
  have DC := Lib.hid (fun k W hA => rdecs_any b hs k W (.slice ps b.sorts.length cs) (.slice pc b.cons.length cc) hA)
  have hw1 : IntKind.i64.wrap (2 * nsB b) = 2 * nsB b := IntWalk.i64_in _ (by omega)
  have hw2 : IntKind.i64.wrap (2 * nsB b + decsN b (nsB b)) = 2 * nsB b + decsN b (nsB b) := IntWalk.i64_in _ (by omega)
  have hw3 : IntKind.i64.wrap (2 * nsB b + decsN b (nsB b) + b.cons.length) = 2 * nsB b + decsN b (nsB b) + b.cons.length := IntWalk.i64_in _ (by omega)
  have HE := Lib.hid (show countB b = 2 * nsB b + decsN b (nsB b) + b.cons.length from rfl)
  clear hA hnn
  go_enter Try.func16, Try.ntmps16
  go_wp2_with fail
  refine wp_region_rel (by kernel_rfl) (by kernel_rfl) (by kernel_rfl) ?_
  apply RelWalk.rest
  · kernel_rfl
  · intro X _ W hW hcl
    obtain ⟨z0, z1, z2⟩ := OB.out.cells
    have rP0 := fun q => gcell (hW q) z0
    have rP1 := fun q => gcell (hW q) z1
    have rP2 := fun q => gcell (hW q) z2
    clear z0 z1 z2
    have d0 := Lib.hid (fun q => into hcl (NS.out (W q) (OB.out.2.1.bel (hW q))))
    have d1 := Lib.hid (fun q => into hcl (DC.out (nsB b) (W q) (OB.out.2.1.bel (hW q))))
    repeat (go_big_quiet_step (first | (with_reducible exact d0.out _) | (with_reducible exact d1.out _)))
    exact wpQuiet_nil rfl
  intro gq w5 hg _
  have HG := Lib.hid hg
  clear hg
  simp only [Spread]
  have OB5 := Lib.hid (OB.out.bel HG.out)
  go_wp2_with fail
  go_ret
  exact ⟨ret_int HE.out.symm, OB5.out.2.2⟩
end Go.Proofs.Ytggefpkfikimiaa
