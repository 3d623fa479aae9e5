/- The program's small functions of package shape: numbers, terms, rows of terms, how many decoders. No conditions but sizes. -/
import Derived.Test.YtcegocmndfoflaaHs
namespace Go.Proofs.Ytcegocmndfoflaa
open Go.RowKit
set_option linter.unusedVariables false

set_option maxRecDepth 100000 in
set_option maxHeartbeats 2000000 in
theorem sbase_any (n : Int) (w : World) : Calls Try.prog 39 #[.int .i64 n] w fun e w' => e = .returned (.bool (inZ n 0 65535)) ∧ w' = w := by
  by_cases h1 : 0 ≤ n
  · by_cases h2 : n ≤ 65535
    · have HE := Lib.hid (show inZ n 0 65535 = true by rw [inZ, decide_eq_true h1, decide_eq_true h2]; rfl)
      go_enter Try.func39, Try.ntmps39
      go_wp2_with fail
      go_ret
      exact ⟨ret_bool HE.out.symm, rfl⟩
    · have HE := Lib.hid (show inZ n 0 65535 = false by rw [inZ, decide_eq_false h2, Bool.and_false])
      go_enter Try.func39, Try.ntmps39
      go_wp2_with fail
      go_ret
      exact ⟨ret_bool HE.out.symm, rfl⟩
  · have HE := Lib.hid (show inZ n 0 65535 = false by rw [inZ, decide_eq_false h1, Bool.false_and])
    go_enter Try.func39, Try.ntmps39
    go_wp2_with fail
    go_ret
    exact ⟨ret_bool HE.out.symm, rfl⟩
set_option maxRecDepth 100000 in
set_option maxHeartbeats 2000000 in
theorem slevel_any (n : Int) (w : World) : Calls Try.prog 56 #[.int .i64 n] w fun e w' => e = .returned (.bool (inZ n 0 6)) ∧ w' = w := by
  by_cases h1 : 0 ≤ n
  · by_cases h2 : n ≤ 6
    · have HE := Lib.hid (show inZ n 0 6 = true by rw [inZ, decide_eq_true h1, decide_eq_true h2]; rfl)
      go_enter Try.func56, Try.ntmps56
      go_wp2_with fail
      go_ret
      exact ⟨ret_bool HE.out.symm, rfl⟩
    · have HE := Lib.hid (show inZ n 0 6 = false by rw [inZ, decide_eq_false h2, Bool.and_false])
      go_enter Try.func56, Try.ntmps56
      go_wp2_with fail
      go_ret
      exact ⟨ret_bool HE.out.symm, rfl⟩
  · have HE := Lib.hid (show inZ n 0 6 = false by rw [inZ, decide_eq_false h1, Bool.false_and])
    go_enter Try.func56, Try.ntmps56
    go_wp2_with fail
    go_ret
    exact ⟨ret_bool HE.out.symm, rfl⟩
set_option maxRecDepth 100000 in
set_option maxHeartbeats 2000000 in
theorem sindex_any (n c : Int) (w : World) : Calls Try.prog 46 #[.int .i64 n, .int .i64 c] w fun e w' => e = .returned (.bool (inZ n 0 (c - 1))) ∧ w' = w := by
  by_cases h1 : 0 ≤ n
  · by_cases h2 : n < c
    · have HE := Lib.hid (show inZ n 0 (c - 1) = true by rw [inZ_iff]; omega)
      go_enter Try.func46, Try.ntmps46
      go_wp2_with fail
      go_ret
      exact ⟨ret_bool HE.out.symm, rfl⟩
    · have HE := Lib.hid (show inZ n 0 (c - 1) = false by rw [Bool.eq_false_iff]; intro h; rw [inZ_iff] at h; omega)
      go_enter Try.func46, Try.ntmps46
      go_wp2_with fail
      go_ret
      exact ⟨ret_bool HE.out.symm, rfl⟩
  · have HE := Lib.hid (show inZ n 0 (c - 1) = false by rw [Bool.eq_false_iff]; intro h; rw [inZ_iff] at h; omega)
    go_enter Try.func46, Try.ntmps46
    go_wp2_with fail
    go_ret
    exact ⟨ret_bool HE.out.symm, rfl⟩
set_option maxRecDepth 100000 in
set_option maxHeartbeats 2000000 in
theorem sterm_any (t : Tm) (hF : Fits t) (hs : size t ≤ 1048576) (x : Int) (w : World) (v : Value) (hA : At w t.kids v) : Calls Try.prog 70 #[.agg #[.int .i64 t.k, .int .i64 t.n, v], .int .i64 x] w fun e w' => e = .returned (.bool (openT t x)) ∧ Below w.heap.size w w' := by
  obtain ⟨a1, c1, rfl⟩ := hA.shape
  have O0 := Lib.hid (one_start w t _ hA)
  have C := Lib.hid (c_scope t hF hs x 65536 _ _ O0.out.2.1)
  clear hA
  go_enter Try.func70, Try.ntmps70
  go_wp2_with fail
  refine C.out.mono ?_
  rintro e w1 ⟨rfl, hb1⟩
  have O1 := Lib.hid (O0.out.bel hb1)
  clear hb1
  go_wp2_with fail
  go_ret
  exact ⟨rfl, O1.out.2.2⟩
theorem noneT_eq (t : Tm) : eqT t (.node 0 0 []) = noneT t := by
  obtain ⟨k, n, l⟩ := t
  rw [eqT_eq]
  unfold noneT
  cases l with
  | nil =>
    simp [eqL, Tm.k, Tm.n, Tm.kids]
    rfl
  | cons a l => simp [eqL, Tm.k, Tm.n, Tm.kids]
set_option maxRecDepth 100000 in
set_option maxHeartbeats 2000000 in
theorem szero_any (t : Tm) (hs : size t ≤ 1048576) (w : World) (v : Value) (hA : At w t.kids v) : Calls Try.prog 71 #[.agg #[.int .i64 t.k, .int .i64 t.n, v]] w fun e w' => e = .returned (.bool (noneT t)) ∧ Below w.heap.size w w' := by
  obtain ⟨a1, c1, rfl⟩ := hA.shape
  have O0 := Lib.hid (one_start w t _ hA)
  have C := Lib.hid (c_equal t (.node 0 0 []) hs (by decide) _ _ (.slice none 0 0) O0.out.2.1 .nl)
  rw [noneT_eq] at C
  clear hA
  go_enter Try.func71, Try.ntmps71
  go_wp2_with fail
  refine C.out.mono ?_
  rintro e w1 ⟨rfl, hb1⟩
  have O1 := Lib.hid (O0.out.bel hb1)
  clear hb1
  go_wp2_with fail
  go_ret
  exact ⟨rfl, O1.out.2.2⟩
/-- A term one more, where there is a decoder. -/
def decT? (d : Bool) (t : Tm) (x : Int) : Bool := if d then openT t x else noneT t
set_option maxRecDepth 100000 in
set_option maxHeartbeats 2000000 in
theorem sdec_any (d : Bool) (t : Tm) (hF : Fits t) (hs : size t ≤ 1048576) (x : Int) (w : World) (v : Value) (hA : At w t.kids v) : Calls Try.prog 66 #[.bool d, .agg #[.int .i64 t.k, .int .i64 t.n, v], .int .i64 x] w fun e w' => e = .returned (.bool (decT? d t x)) ∧ Below w.heap.size w w' := by
  obtain ⟨a1, c1, rfl⟩ := hA.shape
  have O0 := Lib.hid (one_start w t _ hA)
  have C := Lib.hid (sterm_any t hF hs x _ _ O0.out.2.1)
  have D := Lib.hid (szero_any t hs _ _ O0.out.2.1)
  clear hA
  cases d with
  | true =>
    go_enter Try.func66, Try.ntmps66
    go_wp2_with fail
    refine C.out.mono ?_
    rintro e w1 ⟨rfl, hb1⟩
    have O1 := Lib.hid (O0.out.bel hb1)
    clear hb1
    go_wp2_with fail
    go_ret
    exact ⟨ret_bool rfl, O1.out.2.2⟩
  | false =>
    go_enter Try.func66, Try.ntmps66
    go_wp2_with fail
    refine D.out.mono ?_
    rintro e w1 ⟨rfl, hb1⟩
    have O1 := Lib.hid (O0.out.bel hb1)
    clear hb1
    go_wp2_with fail
    go_ret
    exact ⟨ret_bool rfl, O1.out.2.2⟩
set_option maxRecDepth 100000 in
set_option maxHeartbeats 2000000 in
theorem sareterms_any (l : List Tm) (hs : sizeL l ≤ 1048576) (hF : ∀ u ∈ l, Fits u) (c x : Int) (w : World) (v : Value) (hA : At w l v) : Calls Try.prog 67 #[v, .int .i64 c, .int .i64 x] w fun e w' => e = .returned (.bool (decide ((l.length : Int) = c) && opensAll l x)) ∧ Below w.heap.size w w' := by
  obtain ⟨a, cap, rfl⟩ := hA.shape
  have hll := length_le_sizeL l
  have hlm : l.length ≤ 1048576 := by omega
  have HA := Lib.hid hA
  have HS : Hid (∀ j (h : j < l.length), size l[j] ≤ 1048576) := fun j h => by have := size_get h; omega
  clear hA hs hll
  by_cases hc : (l.length : Int) = c
  · subst hc
    have q1 : ((l.length : Int) != (l.length : Int)) = false := by simp
    have HE := Lib.hid (show (decide ((l.length : Int) = (l.length : Int)) && opensAll l x) = opensAll l x by simp)
    go_enter Try.func67, Try.ntmps67
    go_wp2_with fail
    go_loopw [15] (fun i wr => ∃ j : Nat, j ≤ l.length ∧ i = .int .i64 j ∧ opensAll l x = opensAll (l.drop j) x ∧ Below w.heap.size w wr) (fun i _ => l.length - (RowKit.intOf i).toNat)
    case atStart => exact ⟨0, Nat.zero_le _, rfl, by rw [List.drop_zero], Below.refl _ _⟩
    case round =>
      obtain ⟨j, hj, rfl, he, hb⟩ := hrel
      by_cases hlt : j < l.length
      · obtain ⟨b, off, p, q, rfl, gk, k0, k1, k2⟩ := At.nth (HA.out.bel hb (Nat.le_refl _)) hlt
        have hji : (j : Int) < (l.length : Int) := by omega
        have hj0 : (0 : Int) ≤ (j : Int) := by omega
        have CO := Lib.hid (fun W (hW : Below wr.heap.size wr W) => sterm_any l[j] (Fits.get hF hlt) (HS.out j hlt) x W _ (gk.bel hW (Nat.le_refl _)))
        have HBX := Lib.hid (below_al wr (.cells #[.int .i64 l[j].k, .int .i64 l[j].n, .slice p l[j].kids.length q] 42))
        have HB := Lib.hid hb
        rw [opensAll_drop hlt] at he
        clear gk hb
        cases h5 : openT l[j] x with
        | false =>
          rw [h5] at CO he
          have HF := Lib.hid (show opensAll l x = false by rw [he]; rfl)
          clear he h5
          go_wp2_with fail
          refine (CO.out _ HBX.out).mono ?_
          rintro e w1 ⟨rfl, hb1⟩
          have HB1 := Lib.hid ((HB.out.trans (HBX.out.mono HB.out.size)).trans (hb1.mono (HB.out.trans (HBX.out.mono HB.out.size)).size))
          clear hb1
          go_wp2_with fail
          go_ret
          exact ⟨ret_bool (by simp [HF.out]), HB1.out⟩
        | true =>
          rw [h5] at CO he
          have HF := Lib.hid he
          clear he h5
          go_wp2_with fail
          refine (CO.out _ HBX.out).mono ?_
          rintro e w1 ⟨rfl, hb1⟩
          have HB1 := Lib.hid ((HB.out.trans (HBX.out.mono HB.out.size)).trans (hb1.mono (HB.out.trans (HBX.out.mono HB.out.size)).size))
          clear hb1
          go_wp2_with fail
          go_roundw
          case rel => exact ⟨j + 1, hlt, by go_num, by rw [HF.out, Bool.true_and], HB1.out⟩
          case measure => simp [RowKit.intOf]; omega
      · obtain rfl : j = l.length := by omega
        have hnl : ¬ (l.length : Int) < (l.length : Int) := by omega
        have HF := Lib.hid (show opensAll l x = true by rw [he, List.drop_length]; rfl)
        have HB := Lib.hid hb
        clear he hb
        go_wp2_with fail
        go_ret
        exact ⟨ret_bool (by simp [HF.out]), HB.out⟩
  · have q1 : ((l.length : Int) != c) = true := by simp [hc]
    have HE := Lib.hid (show (decide ((l.length : Int) = c) && opensAll l x) = false by rw [decide_eq_false hc]; rfl)
    clear hc
    go_enter Try.func67, Try.ntmps67
    go_wp2_with fail
    go_ret
    exact ⟨ret_bool HE.out.symm, Below.refl _ _⟩
/-- How many of the sorts have a decoder. -/
def decsL (S : List SortT) : Int := (S.countP (·.dec) : Nat)
theorem decsL_range (S : List SortT) : 0 ≤ decsL S ∧ decsL S ≤ S.length := by
  have := List.countP_le_length (p := fun x : SortT => x.dec) (l := S)
  unfold decsL; omega
theorem decsL_take (b : BlkT) (k : Int) : decsL (b.sorts.take k.toNat) = decsN b k := rfl
theorem decsL_full (b : BlkT) : decsL b.sorts = decsN b (nsB b) := by simp [decsL, decsN, nsB]
theorem decsL_succ (S : List SortT) {j : Nat} (h : j < S.length) : decsL (S.take (j + 1)) = decsL (S.take j) + (if S[j].dec then 1 else 0) := by
  have := decsN_succ ⟨S, [], 0⟩ h
  simpa [decsL, decsN] using this
set_option maxRecDepth 100000 in
set_option maxHeartbeats 2000000 in
theorem sdecoders_any (S : List SortT) (hs : S.length ≤ 1048576) (w : World) (v : Value) (hA : SRow w S v) : Calls Try.prog 47 #[v] w fun e w' => e = .returned (.int .i64 (decsL S)) ∧ Below w.heap.size w w' := by
  obtain ⟨a, cap, rfl⟩ := hA.shape
  have HA := Lib.hid hA
  clear hA
  go_enter Try.func47, Try.ntmps47
  go_wp2_with fail
  go_loopw [3, 8] (fun n i wr => ∃ j : Nat, j ≤ S.length ∧ i = .int .i64 j ∧ n = .int .i64 (decsL (S.take j)) ∧ Below w.heap.size w wr) (fun _ i _ => S.length - (RowKit.intOf i).toNat)
  case atStart => exact ⟨0, Nat.zero_le _, rfl, rfl, Below.refl _ _⟩
  case round =>
    obtain ⟨j, hj, rfl, rfl, hb⟩ := hrel
    by_cases hlt : j < S.length
    · obtain ⟨B, off, va, vt, rfl, ga, gt, k0, k1, k2, k3, k4, k5⟩ := SRow.at (GAt.bel hb (sortC_bel hb) HA.out) hlt
      obtain ⟨p1, c1, rfl⟩ := ga.shape
      obtain ⟨p2, c2, rfl⟩ := gt.shape
      have hS := decsL_succ S hlt
      have hr := decsL_range (S.take j)
      have hr2 : (S.take j).length ≤ S.length := by simp; omega
      have HB := Lib.hid hb
      have HBX := Lib.hid (below_al wr (.cells #[.slice p1 S[j].idx.length c1, .int .i64 S[j].level, .bool S[j].dec, .int .i64 S[j].decT.k, .int .i64 S[j].decT.n, .slice p2 S[j].decT.kids.length c2] 44))
      have hji : (j : Int) < (S.length : Int) := by omega
      have hj0 : (0 : Int) ≤ (j : Int) := by omega
      obtain ⟨D, hD⟩ : ∃ D, D = decsL (S.take j) := ⟨_, rfl⟩
      rw [← hD] at hr hS ⊢
      have HS := Lib.hid hS
      clear ga gt hS hD hb
      cases hd : S[j].dec with
      | true =>
        rw [hd] at k2 HS HBX
        clear hd
        have hw : IntKind.i64.wrap (D + 1) = D + 1 := IntWalk.i64_in _ (by omega)
        go_wp2_with fail
        go_roundw
        case rel => exact ⟨j + 1, hlt, by go_num, by rw [HS.out]; rfl, HB.out.trans (HBX.out.mono HB.out.size)⟩
        case measure => simp [RowKit.intOf]; omega
      | false =>
        rw [hd] at k2 HS HBX
        clear hd
        go_wp2_with fail
        go_roundw
        case rel => exact ⟨j + 1, hlt, by go_num, by rw [HS.out]; simp, HB.out.trans (HBX.out.mono HB.out.size)⟩
        case measure => simp [RowKit.intOf]; omega
    · obtain rfl : j = S.length := by omega
      have hnl : ¬ (S.length : Int) < (S.length : Int) := by omega
      have HB := Lib.hid hb
      have HE := Lib.hid (show decsL (S.take S.length) = decsL S by rw [List.take_length])
      clear hb
      generalize decsL (S.take S.length) = D at *
      go_wp2_with fail
      go_ret
      exact ⟨ret_int HE.out, HB.out⟩
end Go.Proofs.Ytcegocmndfoflaa
