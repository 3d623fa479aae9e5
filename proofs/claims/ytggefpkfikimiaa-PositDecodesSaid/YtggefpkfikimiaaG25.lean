/- The program's small functions of package shape: numbers, terms, rows of terms, how many decoders. No conditions but sizes. -/
import Derived.Test.YtggefpkfikimiaaG18
import Derived.Test.YtggefpkfikimiaaG20
namespace Go.Proofs.Ytggefpkfikimiaa
open Go.RowKit
set_option linter.unusedVariables false

set_option maxRecDepth 100000 in
set_option maxHeartbeats 2000000 in
theorem sbase_any (n : Int) (w : World) : Calls Try.prog 98 #[.int .i64 n] w fun e w' => e = .returned (.bool (inZ n 0 65535)) ∧ w' = w := by
  by_cases h1 : 0 ≤ n
  · by_cases h2 : n ≤ 65535
    · have HE := Lib.hid (show inZ n 0 65535 = true by rw [inZ, decide_eq_true h1, decide_eq_true h2]; rfl)
      go_enter Try.func98, Try.ntmps98
      go_wp2_with fail
      go_ret
      exact ⟨ret_bool HE.out.symm, rfl⟩
    · have HE := Lib.hid (show inZ n 0 65535 = false by rw [inZ, decide_eq_false h2, Bool.and_false])
      go_enter Try.func98, Try.ntmps98
      go_wp2_with fail
      go_ret
      exact ⟨ret_bool HE.out.symm, rfl⟩
  · have HE := Lib.hid (show inZ n 0 65535 = false by rw [inZ, decide_eq_false h1, Bool.false_and])
    go_enter Try.func98, Try.ntmps98
    go_wp2_with fail
    go_ret
    exact ⟨ret_bool HE.out.symm, rfl⟩
set_option maxRecDepth 100000 in
set_option maxHeartbeats 2000000 in
theorem slevel_any (n : Int) (w : World) : Calls Try.prog 65 #[.int .i64 n] w fun e w' => e = .returned (.bool (inZ n 0 6)) ∧ w' = w := by
  by_cases h1 : 0 ≤ n
  · by_cases h2 : n ≤ 6
    · have HE := Lib.hid (show inZ n 0 6 = true by rw [inZ, decide_eq_true h1, decide_eq_true h2]; rfl)
      go_enter Try.func65, Try.ntmps65
      go_wp2_with fail
      go_ret
      exact ⟨ret_bool HE.out.symm, rfl⟩
    · have HE := Lib.hid (show inZ n 0 6 = false by rw [inZ, decide_eq_false h2, Bool.and_false])
      go_enter Try.func65, Try.ntmps65
      go_wp2_with fail
      go_ret
      exact ⟨ret_bool HE.out.symm, rfl⟩
  · have HE := Lib.hid (show inZ n 0 6 = false by rw [inZ, decide_eq_false h1, Bool.false_and])
    go_enter Try.func65, Try.ntmps65
    go_wp2_with fail
    go_ret
    exact ⟨ret_bool HE.out.symm, rfl⟩
set_option maxRecDepth 100000 in
set_option maxHeartbeats 2000000 in
theorem s7index_any (n c : Int) (w : World) : Calls Try.prog 77 #[.int .i64 n, .int .i64 c] w fun e w' => e = .returned (.bool (inZ n 0 (c - 1))) ∧ w' = w := by
  by_cases h1 : 0 ≤ n
  · by_cases h2 : n < c
    · have HE := Lib.hid (show inZ n 0 (c - 1) = true by rw [inZ_iff]; omega)
      go_enter Try.func77, Try.ntmps77
      go_wp2_with fail
      go_ret
      exact ⟨ret_bool HE.out.symm, rfl⟩
    · have HE := Lib.hid (show inZ n 0 (c - 1) = false by rw [Bool.eq_false_iff]; intro h; rw [inZ_iff] at h; omega)
      go_enter Try.func77, Try.ntmps77
      go_wp2_with fail
      go_ret
      exact ⟨ret_bool HE.out.symm, rfl⟩
  · have HE := Lib.hid (show inZ n 0 (c - 1) = false by rw [Bool.eq_false_iff]; intro h; rw [inZ_iff] at h; omega)
    go_enter Try.func77, Try.ntmps77
    go_wp2_with fail
    go_ret
    exact ⟨ret_bool HE.out.symm, rfl⟩
set_option maxRecDepth 100000 in
set_option maxHeartbeats 2000000 in
theorem sterm_any (t : Tm) (hF : Fits t) (hs : size t ≤ 1048576) (x : Int) (w : World) (v : Value) (hA : At w t.kids v) : Calls Try.prog 87 #[.agg #[.int .i64 t.k, .int .i64 t.n, v], .int .i64 x] w fun e w' => e = .returned (.bool (openT t x)) ∧ Below w.heap.size w w' := by
  obtain ⟨a1, c1, rfl⟩ := hA.shape
  have O0 := Lib.hid (one_start w t _ hA)
  have C := Lib.hid (c_scope t hF hs x 65536 _ _ O0.out.2.1)
  clear hA
  go_enter Try.func87, Try.ntmps87
  go_wp2_with fail
  refine C.out.mono ?_
  rintro e w1 ⟨rfl, hb1⟩
  have O1 := Lib.hid (O0.out.bel hb1)
  clear hb1
  go_wp2_with fail
  go_ret
  exact ⟨rfl, O1.out.2.2⟩
theorem noneT_eq (t : Tm) : eqT t (.node 0 0 []) = noneT t := by
  obtain ⟨k, n, l⟩ := t
  rw [eqT_eq]
  unfold noneT
  cases l with
  | nil =>
    simp [eqL, Tm.k, Tm.n, Tm.kids]
    rfl
  | cons a l => simp [eqL, Tm.k, Tm.n, Tm.kids]
set_option maxRecDepth 100000 in
set_option maxHeartbeats 2000000 in
theorem szero_any (t : Tm) (hs : size t ≤ 1048576) (w : World) (v : Value) (hA : At w t.kids v) : Calls Try.prog 88 #[.agg #[.int .i64 t.k, .int .i64 t.n, v]] w fun e w' => e = .returned (.bool (noneT t)) ∧ Below w.heap.size w w' := by
  obtain ⟨a1, c1, rfl⟩ := hA.shape
  have O0 := Lib.hid (one_start w t _ hA)
  have C := Lib.hid (c_equal t (.node 0 0 []) hs (by decide) _ _ (.slice none 0 0) O0.out.2.1 .nl)
  rw [noneT_eq] at C
  clear hA
  go_enter Try.func88, Try.ntmps88
  go_wp2_with fail
  refine C.out.mono ?_
  rintro e w1 ⟨rfl, hb1⟩
  have O1 := Lib.hid (O0.out.bel hb1)
  clear hb1
  go_wp2_with fail
  go_ret
  exact ⟨rfl, O1.out.2.2⟩
/-- A term one more, where there is a decoder. -/
def decT? (d : Bool) (t : Tm) (x : Int) : Bool := if d then openT t x else noneT t
set_option maxRecDepth 100000 in
set_option maxHeartbeats 2000000 in
theorem sdec_any (d : Bool) (t : Tm) (hF : Fits t) (hs : size t ≤ 1048576) (x : Int) (w : World) (v : Value) (hA : At w t.kids v) : Calls Try.prog 76 #[.bool d, .agg #[.int .i64 t.k, .int .i64 t.n, v], .int .i64 x] w fun e w' => e = .returned (.bool (decT? d t x)) ∧ Below w.heap.size w w' := by
  obtain ⟨a1, c1, rfl⟩ := hA.shape
  have O0 := Lib.hid (one_start w t _ hA)
  have C := Lib.hid (sterm_any t hF hs x _ _ O0.out.2.1)
  have D := Lib.hid (szero_any t hs _ _ O0.out.2.1)
  clear hA
  cases d with
  | true =>
    go_enter Try.func76, Try.ntmps76
    go_wp2_with fail
    refine C.out.mono ?_
    rintro e w1 ⟨rfl, hb1⟩
    have O1 := Lib.hid (O0.out.bel hb1)
    clear hb1
    go_wp2_with fail
    go_ret
    exact ⟨ret_bool rfl, O1.out.2.2⟩
  | false =>
    go_enter Try.func76, Try.ntmps76
    go_wp2_with fail
    refine D.out.mono ?_
    rintro e w1 ⟨rfl, hb1⟩
    have O1 := Lib.hid (O0.out.bel hb1)
    clear hb1
    go_wp2_with fail
    go_ret
    exact ⟨ret_bool rfl, O1.out.2.2⟩
set_option maxRecDepth 100000 in
set_option maxHeartbeats 2000000 in
theorem sareterms_any (l : List Tm) (hs : sizeL l ≤ 1048576) (hF : ∀ u ∈ l, Fits u) (c x : Int) (w : World) (v : Value) (hA : At w l v) : Calls Try.prog 78 #[v, .int .i64 c, .int .i64 x] w fun e w' => e = .returned (.bool (decide ((l.length : Int) = c) && opensAll l x)) ∧ Below w.heap.size w w' := by
  obtain ⟨a, cap, rfl⟩ := hA.shape
  have hll := length_le_sizeL l
  have hlm : l.length ≤ 1048576 := by omega
  have HA := Lib.hid hA
  have HS : Hid (∀ j (h : j < l.length), size l[j] ≤ 1048576) := fun j h => by have := size_get h; omega
  clear hA hs hll
  by_cases hc : (l.length : Int) = c
  · subst hc
    have q1 : ((l.length : Int) != (l.length : Int)) = false := by simp
    have HE := Lib.hid (show (decide ((l.length : Int) = (l.length : Int)) && opensAll l x) = opensAll l x by simp)
    go_enter Try.func78, Try.ntmps78
    go_wp2_with fail
    go_loopw [15] (fun i wr => ∃ j : Nat, j ≤ l.length ∧ i = .int .i64 j ∧ opensAll l x = opensAll (l.drop j) x ∧ Below w.heap.size w wr) (fun i _ => l.length - (RowKit.intOf i).toNat)
    case atStart => exact ⟨0, Nat.zero_le _, rfl, by rw [List.drop_zero], Below.refl _ _⟩
    case round =>
      obtain ⟨j, hj, rfl, he, hb⟩ := hrel
      by_cases hlt : j < l.length
      · obtain ⟨b, off, p, q, rfl, gk, k0, k1, k2⟩ := At.nth (HA.out.bel hb (Nat.le_refl _)) hlt
        have hji : (j : Int) < (l.length : Int) := by omega
        have hj0 : (0 : Int) ≤ (j : Int) := by omega
        have CO := Lib.hid (fun W (hW : Below wr.heap.size wr W) => sterm_any l[j] (Fits.get hF hlt) (HS.out j hlt) x W _ (gk.bel hW (Nat.le_refl _)))
        have HBX := Lib.hid (below_al wr (.cells #[.int .i64 l[j].k, .int .i64 l[j].n, .slice p l[j].kids.length q] 25))
        have HB := Lib.hid hb
        rw [opensAll_drop hlt] at he
        clear gk hb
        cases h5 : openT l[j] x with
        | false =>
          rw [h5] at CO he
          have HF := Lib.hid (show opensAll l x = false by rw [he]; rfl)
          clear he h5
          go_wp2_with fail
          refine (CO.out _ HBX.out).mono ?_
          rintro e w1 ⟨rfl, hb1⟩
          have HB1 := Lib.hid ((HB.out.trans (HBX.out.mono HB.out.size)).trans (hb1.mono (HB.out.trans (HBX.out.mono HB.out.size)).size))
          clear hb1
          go_wp2_with fail
          go_ret
          exact ⟨ret_bool (by simp [HF.out]), HB1.out⟩
        | true =>
          rw [h5] at CO he
          have HF := Lib.hid he
          clear he h5
          go_wp2_with fail
          refine (CO.out _ HBX.out).mono ?_
          rintro e w1 ⟨rfl, hb1⟩
          have HB1 := Lib.hid ((HB.out.trans (HBX.out.mono HB.out.size)).trans (hb1.mono (HB.out.trans (HBX.out.mono HB.out.size)).size))
          clear hb1
          go_wp2_with fail
          go_roundw
          case rel => exact ⟨j + 1, hlt, by go_num, by rw [HF.out, Bool.true_and], HB1.out⟩
          case measure => simp [RowKit.intOf]; omega
      · obtain rfl : j = l.length := by omega
        have hnl : ¬ (l.length : Int) < (l.length : Int) := by omega
        have HF := Lib.hid (show opensAll l x = true by rw [he, List.drop_length]; rfl)
        have HB := Lib.hid hb
        clear he hb
        go_wp2_with fail
        go_ret
        exact ⟨ret_bool (by simp [HF.out]), HB.out⟩
  · have q1 : ((l.length : Int) != c) = true := by simp [hc]
    have HE := Lib.hid (show (decide ((l.length : Int) = c) && opensAll l x) = false by rw [decide_eq_false hc]; rfl)
    clear hc
    go_enter Try.func78, Try.ntmps78
    go_wp2_with fail
    go_ret
    exact ⟨ret_bool HE.out.symm, Below.refl _ _⟩
/-- How many of the sorts have a decoder. -/
def decsL (S : List SortT) : Int := (S.countP (·.dec) : Nat)
theorem decsL_range (S : List SortT) : 0 ≤ decsL S ∧ decsL S ≤ S.length := by
  have := List.countP_le_length (p := fun x : SortT => x.dec) (l := S)
  unfold decsL; omega
theorem decsL_take (b : BlkT) (k : Int) : decsL (b.sorts.take k.toNat) = decsN b k := rfl
theorem decsL_full (b : BlkT) : decsL b.sorts = decsN b (nsB b) := by simp [decsL, decsN, nsB]
theorem decsL_succ (S : List SortT) {j : Nat} (h : j < S.length) : decsL (S.take (j + 1)) = decsL (S.take j) + (if S[j].dec then 1 else 0) := by
  have := decsN_succ ⟨S, [], 0⟩ h
  simpa [decsL, decsN] using this
set_option maxRecDepth 100000 in
set_option maxHeartbeats 2000000 in
theorem sdecoders_any (S : List SortT) (hs : S.length ≤ 1048576) (w : World) (v : Value) (hA : SRow w S v) : Calls Try.prog 107 #[v] w fun e w' => e = .returned (.int .i64 (decsL S)) ∧ Below w.heap.size w w' := by
  obtain ⟨a, cap, rfl⟩ := hA.shape
  have HA := Lib.hid hA
  clear hA
  go_enter Try.func107, Try.ntmps107
  go_wp2_with fail
  go_loopw [3, 8] (fun n i wr => ∃ j : Nat, j ≤ S.length ∧ i = .int .i64 j ∧ n = .int .i64 (decsL (S.take j)) ∧ Below w.heap.size w wr) (fun _ i _ => S.length - (RowKit.intOf i).toNat)
  case atStart => exact ⟨0, Nat.zero_le _, rfl, rfl, Below.refl _ _⟩
  case round =>
    obtain ⟨j, hj, rfl, rfl, hb⟩ := hrel
    by_cases hlt : j < S.length
    · obtain ⟨B, off, va, vt, rfl, ga, gt, k0, k1, k2, k3, k4, k5⟩ := SRow.at (GAt.bel hb (sortC_bel hb) HA.out) hlt
      obtain ⟨p1, c1, rfl⟩ := ga.shape
      obtain ⟨p2, c2, rfl⟩ := gt.shape
      have hS := decsL_succ S hlt
      have hr := decsL_range (S.take j)
      have hr2 : (S.take j).length ≤ S.length := by simp; omega
      have HB := Lib.hid hb
      have HBX := Lib.hid (below_al wr (.cells #[.slice p1 S[j].idx.length c1, .int .i64 S[j].level, .bool S[j].dec, .int .i64 S[j].decT.k, .int .i64 S[j].decT.n, .slice p2 S[j].decT.kids.length c2] 29))
      have hji : (j : Int) < (S.length : Int) := by omega
      have hj0 : (0 : Int) ≤ (j : Int) := by omega
      obtain ⟨D, hD⟩ : ∃ D, D = decsL (S.take j) := ⟨_, rfl⟩
      rw [← hD] at hr hS ⊢
      have HS := Lib.hid hS
      clear ga gt hS hD hb
      cases hd : S[j].dec with
      | true =>
        rw [hd] at k2 HS HBX
        clear hd
        have hw : IntKind.i64.wrap (D + 1) = D + 1 := IntWalk.i64_in _ (by omega)
        go_wp2_with fail
        go_roundw
        case rel => exact ⟨j + 1, hlt, by go_num, by rw [HS.out]; rfl, HB.out.trans (HBX.out.mono HB.out.size)⟩
        case measure => simp [RowKit.intOf]; omega
      | false =>
        rw [hd] at k2 HS HBX
        clear hd
        go_wp2_with fail
        go_roundw
        case rel => exact ⟨j + 1, hlt, by go_num, by rw [HS.out]; simp, HB.out.trans (HBX.out.mono HB.out.size)⟩
        case measure => simp [RowKit.intOf]; omega
    · obtain rfl : j = S.length := by omega
      have hnl : ¬ (S.length : Int) < (S.length : Int) := by omega
      have HB := Lib.hid hb
      have HE := Lib.hid (show decsL (S.take S.length) = decsL S by rw [List.take_length])
      clear hb
      generalize decsL (S.take S.length) = D at *
      go_wp2_with fail
      go_ret
      exact ⟨ret_int HE.out, HB.out⟩
end Go.Proofs.Ytggefpkfikimiaa
/- The program's isArg of package shape. No conditions but sizes. -/
namespace Go.Proofs.Ytggefpkfikimiaa
open Go.RowKit
set_option linter.unusedVariables false

/-- A right Arg of a block of these sorts. -/
def argOkS (S : List SortT) (a : ArgT) (i : Int) : Bool := argOk ⟨S, [], 0⟩ a i
theorem argOkS_eq (b : BlkT) (a : ArgT) (i : Int) : argOk b a i = argOkS b.sorts a i := rfl
/-- An Arg in its box, beside the row of sorts. -/
def StA (w0 : World) (S : List SortT) (a : ArgT) (B1 : Nat) (vs vt vd vi : Value) (W : World) : Prop := OneA B1 a vt vd vi W ∧ SRow W S vs ∧ Below w0.heap.size w0 W
theorem StA.bel {w0 W W' : World} {S : List SortT} {a : ArgT} {B1 : Nat} {vs vt vd vi : Value} (h : StA w0 S a B1 vs vt vd vi W) (hb : Below W.heap.size W W') : StA w0 S a B1 vs vt vd vi W' :=
  ⟨h.1.bel hb, GAt.bel hb (sortC_bel hb) h.2.1, h.2.2.trans (hb.mono h.2.2.size)⟩
theorem sta_start (w : World) (S : List SortT) (a : ArgT) (vs vt vd vi : Value) (hB : SRow w S vs) (hT : At w a.ty.kids vt) (hD : At w a.dom vd) (hI : At w a.idx vi) :
    StA w S a w.heap.size vs vt vd vi (w.alloc (.cells #[.bool a.r, .int .i64 a.ty.k, .int .i64 a.ty.n, vt, vd, .int .i64 a.sort, vi] 38)) := by
  have hb := below_al w (.cells #[.bool a.r, .int .i64 a.ty.k, .int .i64 a.ty.n, vt, vd, .int .i64 a.sort, vi] 38)
  exact ⟨⟨World.alloc_heap_new w _, hT.bel hb (Nat.le_refl _), hD.bel hb (Nat.le_refl _), hI.bel hb (Nat.le_refl _)⟩, GAt.bel hb (sortC_bel hb) hB, hb⟩
set_option maxRecDepth 100000 in
set_option maxHeartbeats 8000000 in
theorem sarg_any (S : List SortT) (hSl : S.length ≤ 1048576) (a : ArgT) (hs : argN a ≤ 1048576) (hF : a.fits) (i : Int) (hi0 : 0 ≤ i) (hi1 : i ≤ 1048576) (w : World) (vs vt vd vi : Value) (hB : SRow w S vs) (hT : At w a.ty.kids vt) (hD : At w a.dom vd) (hI : At w a.idx vi) :
    Calls Try.prog 75 #[vs, .agg #[.bool a.r, .int .i64 a.ty.k, .int .i64 a.ty.n, vt, vd, .int .i64 a.sort, vi], .int .i64 i] w fun e w' => e = .returned (.bool (argOkS S a i)) ∧ Below w.heap.size w w' := by
  obtain ⟨ps, cs, rfl⟩ := hB.shape
  obtain ⟨pt, ct, rfl⟩ := hT.shape
  obtain ⟨pd, cd, rfl⟩ := hD.shape
  obtain ⟨pi, ci, rfl⟩ := hI.shape
  have hn : argN a = size a.ty + sizeL a.dom + sizeL a.idx + 1 := rfl
  have hld := length_le_sizeL a.dom
  have hli := length_le_sizeL a.idx
  obtain ⟨hFt, hFd, hFs, hFi⟩ := hF
  have O0 := Lib.hid (sta_start w S a _ _ _ _ hB hT hD hI)
  clear hB hT hD hI
  have RO := Lib.hid (fun W hA => sterm_any a.ty hFt (by omega) i W (.slice pt a.ty.kids.length ct) hA)
  have RN := Lib.hid (fun W hA => szero_any a.ty (by omega) W (.slice pt a.ty.kids.length ct) hA)
  have RD : Hid (∀ j (h : j < a.dom.length) x W v, At W a.dom[j].kids v → Calls Try.prog 87 #[.agg #[.int .i64 a.dom[j].k, .int .i64 a.dom[j].n, v], .int .i64 x] W fun e w' => e = .returned (.bool (openT a.dom[j] x)) ∧ Below W.heap.size W w') := fun j h x W v hA => sterm_any a.dom[j] (Fits.get hFd h) (by have := size_get h; omega) x W v hA
  have RI := Lib.hid (fun c x W hA => sareterms_any a.idx (by omega) hFi c x W (.slice pi a.idx.length ci) hA)
  have RZ := Lib.hid (fun W => s7index_any a.sort (S.length : Int) W)
  clear hFt hFd hFi hFs
  have hdl : a.dom.length ≤ 1048576 := by omega
  have hil : a.idx.length ≤ 1048576 := by omega
  clear hn hld hli hs
  cases hr : a.r with
  | false =>
    have HA : Hid (argOkS S a i = (openT a.ty i && decide (a.dom.length + a.idx.length = 0) && decide (a.sort = 0))) := by unfold Hid; rw [argOkS, argOk, hr]; rfl
    cases h1 : openT a.ty i with
    | false =>
      rw [h1] at RO HA
      clear h1
      go_enter Try.func75, Try.ntmps75
      rw [hr] at O0
      go_wp2_with fail
      refine (RO.out _ O0.out.1.2.1).mono ?_
      rintro e w1 ⟨rfl, hb1⟩
      have O1 := Lib.hid (O0.out.bel hb1)
      obtain ⟨x0, x1, x2, x3, x4, x5, x6⟩ := O1.out.1.cells
      clear hb1 x0 x1 x2 x3
      go_wp2_with fail
      go_ret
      exact ⟨ret_bool (by rw [HA.out]; rfl), O1.out.2.2⟩
    | true =>
      rw [h1] at RO HA
      clear h1
      by_cases h2 : a.dom.length = 0
      · by_cases h3 : a.idx.length = 0
        · by_cases h4 : a.sort = 0
          · skip
            have q2 : ((a.dom.length : Int) == 0) = true := by rw [beq_iff_eq]; omega
            have q3 : ((a.idx.length : Int) == 0) = true := by rw [beq_iff_eq]; omega
            have q4 : (a.sort == 0) = true := by rw [beq_iff_eq]; exact h4
            have HE : Hid (argOkS S a i = true) := by unfold Hid; rw [HA.out, decide_eq_true (show a.dom.length + a.idx.length = 0 by omega), decide_eq_true h4]; rfl
            clear h2 h3 h4
            go_enter Try.func75, Try.ntmps75
            rw [hr] at O0
            go_wp2_with fail
            refine (RO.out _ O0.out.1.2.1).mono ?_
            rintro e w1 ⟨rfl, hb1⟩
            have O1 := Lib.hid (O0.out.bel hb1)
            obtain ⟨x0, x1, x2, x3, x4, x5, x6⟩ := O1.out.1.cells
            clear hb1 x0 x1 x2 x3
            go_wp2_with fail
            go_ret
            exact ⟨ret_bool HE.out.symm, O1.out.2.2⟩
          · skip
            have q2 : ((a.dom.length : Int) == 0) = true := by rw [beq_iff_eq]; omega
            have q3 : ((a.idx.length : Int) == 0) = true := by rw [beq_iff_eq]; omega
            have q4 : (a.sort == 0) = false := by rw [beq_eq_false_iff_ne]; exact h4
            have HE : Hid (argOkS S a i = false) := by unfold Hid; rw [HA.out, decide_eq_false h4]; simp
            clear h2 h3 h4
            go_enter Try.func75, Try.ntmps75
            rw [hr] at O0
            go_wp2_with fail
            refine (RO.out _ O0.out.1.2.1).mono ?_
            rintro e w1 ⟨rfl, hb1⟩
            have O1 := Lib.hid (O0.out.bel hb1)
            obtain ⟨x0, x1, x2, x3, x4, x5, x6⟩ := O1.out.1.cells
            clear hb1 x0 x1 x2 x3
            go_wp2_with fail
            go_ret
            exact ⟨ret_bool HE.out.symm, O1.out.2.2⟩
        · skip
          have q2 : ((a.dom.length : Int) == 0) = true := by rw [beq_iff_eq]; omega
          have q3 : ((a.idx.length : Int) == 0) = false := by rw [beq_eq_false_iff_ne]; omega
          have HE : Hid (argOkS S a i = false) := by unfold Hid; rw [HA.out, decide_eq_false (show ¬ a.dom.length + a.idx.length = 0 by omega)]; simp
          clear h2 h3
          go_enter Try.func75, Try.ntmps75
          rw [hr] at O0
          go_wp2_with fail
          refine (RO.out _ O0.out.1.2.1).mono ?_
          rintro e w1 ⟨rfl, hb1⟩
          have O1 := Lib.hid (O0.out.bel hb1)
          obtain ⟨x0, x1, x2, x3, x4, x5, x6⟩ := O1.out.1.cells
          clear hb1 x0 x1 x2 x3
          go_wp2_with fail
          go_ret
          exact ⟨ret_bool HE.out.symm, O1.out.2.2⟩
      · skip
        have q2 : ((a.dom.length : Int) == 0) = false := by rw [beq_eq_false_iff_ne]; omega
        have HE : Hid (argOkS S a i = false) := by unfold Hid; rw [HA.out, decide_eq_false (show ¬ a.dom.length + a.idx.length = 0 by omega)]; simp
        clear h2
        go_enter Try.func75, Try.ntmps75
        rw [hr] at O0
        go_wp2_with fail
        refine (RO.out _ O0.out.1.2.1).mono ?_
        rintro e w1 ⟨rfl, hb1⟩
        have O1 := Lib.hid (O0.out.bel hb1)
        obtain ⟨x0, x1, x2, x3, x4, x5, x6⟩ := O1.out.1.cells
        clear hb1 x0 x1 x2 x3
        go_wp2_with fail
        go_ret
        exact ⟨ret_bool HE.out.symm, O1.out.2.2⟩
  | true =>
    have HA : Hid (argOkS S a i = (noneT a.ty && decide (a.dom.length ≤ 12) && inZ a.sort 0 ((S.length : Int) - 1) && decide ((a.idx.length : Int) = idxLen ⟨S, [], 0⟩ a.sort) && opensFrom a.dom i && opensAll a.idx (i + a.dom.length))) := by unfold Hid; rw [argOkS, argOk, hr]; rfl
    cases h1 : noneT a.ty with
    | false =>
      rw [h1] at RN
      have HE : Hid (argOkS S a i = false) := by unfold Hid; rw [HA.out, h1]; rfl
      clear h1
      go_enter Try.func75, Try.ntmps75
      rw [hr] at O0
      go_wp2_with fail
      refine (RN.out _ O0.out.1.2.1).mono ?_
      rintro e w1 ⟨rfl, hb1⟩
      have O1 := Lib.hid (O0.out.bel hb1)
      obtain ⟨x0, x1, x2, x3, x4, x5, x6⟩ := O1.out.1.cells
      clear hb1 x0 x1 x2 x3
      go_wp2_with fail
      go_ret
      exact ⟨ret_bool HE.out.symm, O1.out.2.2⟩
    | true =>
      rw [h1] at RN
      by_cases h2 : a.dom.length ≤ 12
      rotate_left
      · have q2 : decide ((12 : Int) < (a.dom.length : Int)) = true := by simp; omega
        have HE : Hid (argOkS S a i = false) := by unfold Hid; rw [HA.out, decide_eq_false h2]; simp
        clear h1 h2
        go_enter Try.func75, Try.ntmps75
        rw [hr] at O0
        go_wp2_with fail
        refine (RN.out _ O0.out.1.2.1).mono ?_
        rintro e w1 ⟨rfl, hb1⟩
        have O1 := Lib.hid (O0.out.bel hb1)
        obtain ⟨x0, x1, x2, x3, x4, x5, x6⟩ := O1.out.1.cells
        clear hb1 x0 x1 x2 x3
        go_wp2_with fail
        go_ret
        exact ⟨ret_bool HE.out.symm, O1.out.2.2⟩
      have q2 : decide ((12 : Int) < (a.dom.length : Int)) = false := by simp; omega
      cases h3 : inZ a.sort 0 ((S.length : Int) - 1) with
      | false =>
        rw [h3] at RZ
        have HE : Hid (argOkS S a i = false) := by unfold Hid; rw [HA.out, h3]; simp
        clear h1 h2 h3
        go_enter Try.func75, Try.ntmps75
        rw [hr] at O0
        go_wp2_with fail
        refine (RN.out _ O0.out.1.2.1).mono ?_
        rintro e w1 ⟨rfl, hb1⟩
        have O1 := Lib.hid (O0.out.bel hb1)
        obtain ⟨x0, x1, x2, x3, x4, x5, x6⟩ := O1.out.1.cells
        clear hb1 x0 x1 x2 x3
        go_wp2_with fail
        refine (RZ.out _).mono ?_
        rintro e w2 ⟨rfl, rfl⟩
        go_wp2_with fail
        go_ret
        exact ⟨ret_bool HE.out.symm, O1.out.2.2⟩
      | true =>
        rw [h3] at RZ
        obtain ⟨hz1, hz2⟩ := inZ_iff.1 h3
        obtain ⟨K, hK⟩ : ∃ K : Nat, a.sort = (K : Int) := ⟨a.sort.toNat, by omega⟩
        have hKl : K < S.length := by omega
        have hKi : (K : Int) < (S.length : Int) := by omega
        have hK0 : (0 : Int) ≤ (K : Int) := by omega
        have hix : idxLen ⟨S, [], 0⟩ a.sort = S[K].idx.length := by simp [idxLen, hK, List.getElem?_eq_getElem hKl]
        have HE : Hid (argOkS S a i = (opensFrom a.dom i && (decide ((a.idx.length : Int) = (S[K].idx.length : Int)) && opensAll a.idx (i + a.dom.length)))) := by
          unfold Hid; rw [HA.out, h1, decide_eq_true h2, h3, hix]
          simp only [Bool.true_and, Bool.and_assoc]
          rw [← Bool.and_assoc, ← Bool.and_assoc, Bool.and_comm (opensFrom a.dom i)]
        have HK := Lib.hid hK
        have hwd : IntKind.i64.wrap (i + (a.dom.length : Int)) = i + (a.dom.length : Int) := IntWalk.i64_in _ (by omega)
        clear h1 h2 h3 hz1 hz2 hK hix
        go_enter Try.func75, Try.ntmps75
        rw [hr] at O0
        go_wp2_with fail
        refine (RN.out _ O0.out.1.2.1).mono ?_
        rintro e w1 ⟨rfl, hb1⟩
        have O1 := Lib.hid (O0.out.bel hb1)
        obtain ⟨x0, x1, x2, x3, x4, x5, x6⟩ := O1.out.1.cells
        clear hb1 x0 x1 x2 x3
        go_wp2_with fail
        refine (RZ.out _).mono ?_
        rintro e w2 ⟨rfl, rfl⟩
        go_wp2_with fail
        clear x4 x5 x6
        go_loopw [54] (fun x wr => ∃ j : Nat, j ≤ a.dom.length ∧ x = .int .i64 j ∧ argOkS S a i = (opensFrom (a.dom.drop j) (i + j) && (decide ((a.idx.length : Int) = (S[K].idx.length : Int)) && opensAll a.idx (i + a.dom.length))) ∧ StA w S a w.heap.size (.slice ps S.length cs) (.slice pt a.ty.kids.length ct) (.slice pd a.dom.length cd) (.slice pi a.idx.length ci) wr) (fun x _ => a.dom.length - (RowKit.intOf x).toNat)
        case atStart => exact ⟨0, Nat.zero_le _, rfl, by rw [List.drop_zero, HE.out]; simp, O1.out⟩
        case round =>
          clear HE HA O1 O0 RZ RN RO q2
          obtain ⟨j, hj, rfl, he, hO⟩ := hrel
          by_cases hlt : j < a.dom.length
          · obtain ⟨B, off, pp, qq, rfl, gk, k0, k1, k2⟩ := hO.1.2.2.1.nth hlt
            have hji : (j : Int) < (a.dom.length : Int) := by omega
            have hj0 : (0 : Int) ≤ (j : Int) := by omega
            have hwj : IntKind.i64.wrap (i + (j : Int)) = i + (j : Int) := IntWalk.i64_in _ (by omega)
            have HBX := Lib.hid (below_al wr (.cells #[.int .i64 a.dom[j].k, .int .i64 a.dom[j].n, .slice pp a.dom[j].kids.length qq] 25))
            have CO := Lib.hid (RD.out j hlt (i + j) _ _ (gk.bel HBX.out (Nat.le_refl _)))
            rw [opens_drop hlt] at he
            have O2 := Lib.hid (hO.bel HBX.out)
            clear hO gk
            cases h5 : openT a.dom[j] (i + j) with
            | false =>
              rw [h5] at CO he
              have HE := Lib.hid (show argOkS S a i = false by rw [he]; rfl)
              clear he h5
              go_wp2_with fail
              refine CO.out.mono ?_
              rintro e w6 ⟨rfl, hb6⟩
              have O6 := Lib.hid (O2.out.bel hb6)
              clear hb6
              go_wp2_with fail
              go_ret
              exact ⟨ret_bool HE.out.symm, O6.out.2.2⟩
            | true =>
              rw [h5] at CO he
              have HE := Lib.hid he
              clear he h5
              go_wp2_with fail
              refine CO.out.mono ?_
              rintro e w6 ⟨rfl, hb6⟩
              have O6 := Lib.hid (O2.out.bel hb6)
              clear hb6
              go_wp2_with fail
              go_roundw
              case rel => exact ⟨j + 1, hlt, by go_num, by rw [HE.out, Bool.true_and], O6.out⟩
              case measure => simp [RowKit.intOf]; omega
          · obtain rfl : j = a.dom.length := by omega
            have hnl : ¬ (a.dom.length : Int) < (a.dom.length : Int) := by omega
            have HE : Hid (argOkS S a i = (decide ((a.idx.length : Int) = (S[K].idx.length : Int)) && opensAll a.idx (i + a.dom.length))) := by unfold Hid; rw [he, List.drop_length]; rfl
            obtain ⟨BS, offS, va, vtt, rfl, ga, gt, k0, k1, k2, k3, k4, k5⟩ := SRow.at hO.2.1 hKl
            obtain ⟨pa, ca, hva⟩ := ga.shape
            rw [hva] at k0
            have KS := Lib.hid k0
            have OA := Lib.hid hO
            clear he hO ga gt k0 k1 k2 k3 k4 k5 hva
            go_wp2_with fail
            refine wp_region_rel (by kernel_rfl) (by kernel_rfl) (by kernel_rfl) ?_
            apply RelWalk.rest
            · kernel_rfl
            · intro X _ W hW hcl
              obtain ⟨x0, x1, x2, x3, x4, x5, x6⟩ := OA.out.1.cells
              rw [HK.out] at x5
              have rP4 := fun q => gcell (hW q) x4
              have rP5 := fun q => gcell (hW q) x5
              have rP6 := fun q => gcell (hW q) x6
              have rK := fun q => gcell (hW q) KS.out
              clear x0 x1 x2 x3 x4 x5 x6
              have d0 := Lib.hid (fun q => into hcl (RI.out (S[K].idx.length : Int) (i + (a.dom.length : Int)) (W q) (OA.out.1.2.2.2.bel (hW q) (Nat.le_refl _))))
              repeat (go_big_quiet_step (first | (with_reducible exact d0.out _)))
              exact wpQuiet_nil rfl
            intro gq w5 hg _
            have O5 := Lib.hid (OA.out.bel hg)
            clear hg
            simp only [Spread]
            go_wp2_with fail
            go_ret
            exact ⟨ret_bool HE.out.symm, O5.out.2.2⟩
end Go.Proofs.Ytggefpkfikimiaa
/- The program's isSort of package shape. No conditions but sizes. -/
namespace Go.Proofs.Ytggefpkfikimiaa
open Go.RowKit
set_option linter.unusedVariables false

/-- A right index of a sort behind these earlier ones. -/
def stepE (E : List SortT) (d : Bool) (a : ArgT) (i : Int) : Bool := !(a.r && (d || decide (0 < a.dom.length))) && argOkS E a i
def idxOkE (E : List SortT) (d : Bool) : List ArgT → Int → Bool | [], _ => true | a :: l, i => stepE E d a i && idxOkE E d l (i + 1)
theorem idxOkE_drop {E : List SortT} {d : Bool} {l : List ArgT} {j : Nat} (h : j < l.length) : idxOkE E d (l.drop j) (j : Int) = (stepE E d l[j] (j : Int) && idxOkE E d (l.drop (j + 1)) ((j + 1 : Nat) : Int)) := by
  rw [List.drop_eq_getElem_cons h, idxOkE]; rfl
def sortOkE (E : List SortT) (s : SortT) : Bool := decide (s.idx.length ≤ 12) && inZ s.level 0 6 && (idxOkE E s.dec s.idx 0 && decT? s.dec s.decT s.idx.length)
/-- A sort in its box, beside the row of sorts. -/
def StS (w0 : World) (S : List SortT) (s : SortT) (B1 : Nat) (vs va vt : Value) (W : World) : Prop := OneS B1 s va vt W ∧ SRow W S vs ∧ Below w0.heap.size w0 W
theorem StS.bel {w0 W W' : World} {S : List SortT} {s : SortT} {B1 : Nat} {vs va vt : Value} (h : StS w0 S s B1 vs va vt W) (hb : Below W.heap.size W W') : StS w0 S s B1 vs va vt W' :=
  ⟨h.1.bel hb, GAt.bel hb (sortC_bel hb) h.2.1, h.2.2.trans (hb.mono h.2.2.size)⟩
theorem sts_start (w : World) (S : List SortT) (s : SortT) (vs va vt : Value) (hB : SRow w S vs) (hA : ARow w s.idx va) (hT : At w s.decT.kids vt) :
    StS w S s w.heap.size vs va vt (w.alloc (.cells #[va, .int .i64 s.level, .bool s.dec, .int .i64 s.decT.k, .int .i64 s.decT.n, vt] 29)) := by
  have hb := below_al w (.cells #[va, .int .i64 s.level, .bool s.dec, .int .i64 s.decT.k, .int .i64 s.decT.n, vt] 29)
  exact ⟨⟨World.alloc_heap_new w _, ARow.bel hb hA, hT.bel hb (Nat.le_refl _)⟩, GAt.bel hb (sortC_bel hb) hB, hb⟩
set_option maxRecDepth 100000 in
set_option maxHeartbeats 8000000 in
theorem ssort_any (E : List SortT) (hEl : E.length ≤ 1048576) (s : SortT) (hs : sortN s ≤ 1048576) (hF : s.fits) (w : World) (vs va vt : Value) (hB : SRow w E vs) (hA : ARow w s.idx va) (hT : At w s.decT.kids vt) :
    Calls Try.prog 66 #[vs, .agg #[va, .int .i64 s.level, .bool s.dec, .int .i64 s.decT.k, .int .i64 s.decT.n, vt]] w fun e w' => e = .returned (.bool (sortOkE E s)) ∧ Below w.heap.size w w' := by
  obtain ⟨ps, cs, rfl⟩ := hB.shape
  obtain ⟨pa, ca, rfl⟩ := hA.shape
  obtain ⟨pt, ct, rfl⟩ := hT.shape
  have hn : sortN s = argsN s.idx + size s.decT + 1 := rfl
  have hli := argsN_len s.idx
  obtain ⟨hFi, hFl, hFd⟩ := hF
  have O0 := Lib.hid (sts_start w E s _ _ _ hB hA hT)
  clear hB hA hT
  have RL := Lib.hid (fun W => slevel_any s.level W)
  have RD := Lib.hid (fun W hA => sdec_any s.dec s.decT hFd (by omega) (s.idx.length : Int) W (.slice pt s.decT.kids.length ct) hA)
  have hil : s.idx.length ≤ 1048576 := by omega
  have RA : Hid (∀ j (h : j < s.idx.length) W v0 v1 v2 v3, SRow W E v0 → At W s.idx[j].ty.kids v1 → At W s.idx[j].dom v2 → At W s.idx[j].idx v3 → Calls Try.prog 75 #[v0, .agg #[.bool s.idx[j].r, .int .i64 s.idx[j].ty.k, .int .i64 s.idx[j].ty.n, v1, v2, .int .i64 s.idx[j].sort, v3], .int .i64 (j : Int)] W fun e w' => e = .returned (.bool (argOkS E s.idx[j] (j : Int))) ∧ Below W.heap.size W w') :=
    fun j h W v0 v1 v2 v3 g0 g1 g2 g3 => sarg_any E hEl s.idx[j] (by have := argN_le (List.getElem_mem h); omega) (hFi _ (List.getElem_mem h)) (j : Int) (by omega) (by omega) W v0 v1 v2 v3 g0 g1 g2 g3
  clear hn hli hs hFi hFl hFd
  by_cases h1 : s.idx.length ≤ 12
  rotate_left
  · have q1 : decide ((12 : Int) < (s.idx.length : Int)) = true := by simp; omega
    have HE : Hid (sortOkE E s = false) := by unfold Hid; rw [sortOkE, decide_eq_false h1]; rfl
    clear h1
    go_enter Try.func66, Try.ntmps66
    go_wp2_with fail
    go_ret
    exact ⟨ret_bool HE.out.symm, O0.out.2.2⟩
  have q1 : decide ((12 : Int) < (s.idx.length : Int)) = false := by simp; omega
  cases h2 : inZ s.level 0 6 with
  | false =>
    rw [h2] at RL
    have HE : Hid (sortOkE E s = false) := by unfold Hid; rw [sortOkE, h2]; simp
    clear h1 h2
    go_enter Try.func66, Try.ntmps66
    go_wp2_with fail
    refine (RL.out _).mono ?_
    rintro e w1 ⟨rfl, rfl⟩
    go_wp2_with fail
    go_ret
    exact ⟨ret_bool HE.out.symm, O0.out.2.2⟩
  | true =>
    rw [h2] at RL
    have HE : Hid (sortOkE E s = (idxOkE E s.dec s.idx 0 && decT? s.dec s.decT s.idx.length)) := by unfold Hid; rw [sortOkE, h2, decide_eq_true h1]; rfl
    clear h1 h2
    go_enter Try.func66, Try.ntmps66
    go_wp2_with fail
    refine (RL.out _).mono ?_
    rintro e w1 ⟨rfl, rfl⟩
    go_wp2_with fail
    go_loopw [20] (fun x wr => ∃ j : Nat, j ≤ s.idx.length ∧ x = .int .i64 j ∧ sortOkE E s = (idxOkE E s.dec (s.idx.drop j) (j : Int) && decT? s.dec s.decT s.idx.length) ∧ StS w E s w.heap.size (.slice ps E.length cs) (.slice pa s.idx.length ca) (.slice pt s.decT.kids.length ct) wr) (fun x _ => s.idx.length - (RowKit.intOf x).toNat)
    case atStart => exact ⟨0, Nat.zero_le _, rfl, by rw [List.drop_zero, HE.out]; rfl, O0.out⟩
    case round =>
      clear HE O0 RL q1
      obtain ⟨j, hj, rfl, he, hO⟩ := hrel
      by_cases hlt : j < s.idx.length
      · obtain ⟨B, off, ut, ud, ui, rfl, g1, g2, g3, k0, k1, k2, k3, k4, k5, k6⟩ := ARow.at hO.1.2.1 hlt
        obtain ⟨p1, c1, e1⟩ := g1.shape
        obtain ⟨p2, c2, e2⟩ := g2.shape
        obtain ⟨p3, c3, e3⟩ := g3.shape
        subst e1 e2 e3
        have hji : (j : Int) < (s.idx.length : Int) := by omega
        have hj0 : (0 : Int) ≤ (j : Int) := by omega
        have hO2 := sta_start wr E s.idx[j] _ _ _ _ hO.2.1 g1 g2 g3
        have hO3 := hO.bel hO2.2.2
        have hz := hO2.2.2.size
        obtain ⟨w1, hw1⟩ : ∃ w1, w1 = wr.alloc (.cells #[.bool s.idx[j].r, .int .i64 s.idx[j].ty.k, .int .i64 s.idx[j].ty.n, .slice p1 s.idx[j].ty.kids.length c1, .slice p2 s.idx[j].dom.length c2, .int .i64 s.idx[j].sort, .slice p3 s.idx[j].idx.length c3] 38) := ⟨_, rfl⟩
        rw [← hw1] at hO2 hO3
        have CO := Lib.hid (RA.out j hlt w1 _ _ _ _ hO2.2.1 hO2.1.2.1 hO2.1.2.2.1 hO2.1.2.2.2)
        have OA := Lib.hid hO2
        have OS := Lib.hid hO3
        have HW := Lib.hid hw1
        have hst : stepE E s.dec s.idx[j] (j : Int) = (!(s.idx[j].r && (s.dec || decide (0 < s.idx[j].dom.length))) && argOkS E s.idx[j] (j : Int)) := rfl
        rw [idxOkE_drop hlt] at he
        have HEE := Lib.hid he
        have HST := Lib.hid hst
        have K := Lib.hid (And.intro k0 (And.intro k1 (And.intro k2 (And.intro k3 (And.intro k4 (And.intro k5 k6))))))
        clear g1 g2 g3 hO hO2 hO3 hw1 he hst hz k0 k1 k2 k3 k4 k5 k6
        cases hr : s.idx[j].r with
        | false =>
          have HSA : Hid (stepE E s.dec s.idx[j] (j : Int) = argOkS E s.idx[j] (j : Int)) := by unfold Hid; rw [HST.out, hr]; rfl
          rw [hr] at CO
          cases h5 : argOkS E s.idx[j] (j : Int) with
          | false =>
            rw [h5] at CO HSA
            have HE : Hid (sortOkE E s = false) := by unfold Hid; rw [HEE.out, HSA.out]; rfl
            clear h5
            obtain ⟨k0, k1, k2, k3, k4, k5, k6⟩ := K.out
            rw [hr] at k0
            clear K
            go_upto_region 6 with (fail)
            rw [hr] at HW
            rw [← HW.out]
            clear k0 k1 k2 k3 k4 k5 k6
            obtain ⟨x0, x1, x2, x3, x4, x5, x6⟩ := OA.out.1.cells
            obtain ⟨y0, y1, y2, y3, y4, y5⟩ := OS.out.1.cells
            rw [hr] at x0
            clear y0 y1 y3 y4 y5
            go_wp2_with fail
            refine CO.out.mono ?_
            rintro e w6 ⟨rfl, hb6⟩
            have O6 := Lib.hid (OS.out.bel hb6)
            clear hb6
            go_wp2_with fail
            go_ret
            exact ⟨ret_bool HE.out.symm, O6.out.2.2⟩
          | true =>
            rw [h5] at CO HSA
            have HE : Hid (sortOkE E s = (idxOkE E s.dec (s.idx.drop (j + 1)) ((j + 1 : Nat) : Int) && decT? s.dec s.decT s.idx.length)) := by unfold Hid; rw [HEE.out, HSA.out, Bool.true_and]
            clear h5
            obtain ⟨k0, k1, k2, k3, k4, k5, k6⟩ := K.out
            rw [hr] at k0
            clear K
            go_upto_region 6 with (fail)
            rw [hr] at HW
            rw [← HW.out]
            clear k0 k1 k2 k3 k4 k5 k6
            obtain ⟨x0, x1, x2, x3, x4, x5, x6⟩ := OA.out.1.cells
            obtain ⟨y0, y1, y2, y3, y4, y5⟩ := OS.out.1.cells
            rw [hr] at x0
            clear y0 y1 y3 y4 y5
            go_wp2_with fail
            refine CO.out.mono ?_
            rintro e w6 ⟨rfl, hb6⟩
            have O6 := Lib.hid (OS.out.bel hb6)
            clear hb6
            go_wp2_with fail
            go_roundw
            case rel => exact ⟨j + 1, hlt, by go_num, HE.out, O6.out⟩
            case measure => simp [RowKit.intOf]; omega
        | true =>
          rw [hr] at CO
          cases hd : s.dec with
          | true =>
            have HE : Hid (sortOkE E s = false) := by unfold Hid; rw [HEE.out, HST.out, hr, hd]; rfl
            obtain ⟨k0, k1, k2, k3, k4, k5, k6⟩ := K.out
            rw [hr] at k0
            clear K
            go_upto_region 6 with (fail)
            rw [hr] at HW
            rw [← HW.out]
            clear k0 k1 k2 k3 k4 k5 k6
            obtain ⟨x0, x1, x2, x3, x4, x5, x6⟩ := OA.out.1.cells
            obtain ⟨y0, y1, y2, y3, y4, y5⟩ := OS.out.1.cells
            rw [hr] at x0
            rw [hd] at y2
            clear y0 y1 y3 y4 y5
            go_wp2_with fail
            go_ret
            exact ⟨ret_bool HE.out.symm, OS.out.2.2⟩
          | false =>
            by_cases h0 : 0 < s.idx[j].dom.length
            · have HE : Hid (sortOkE E s = false) := by unfold Hid; rw [HEE.out, HST.out, hr, hd, decide_eq_true h0]; rfl
              obtain ⟨nd, hnd⟩ : ∃ nd : Nat, s.idx[j].dom.length = nd := ⟨_, rfl⟩
              rw [hnd] at h0
              have q0 : decide ((0 : Int) < (nd : Int)) = true := by simp; omega
              have q0a : ((0 : Int) < (nd : Int)) = True := eq_true (by omega)
              have q0b : (0 < nd) = True := eq_true h0
              clear h0
              obtain ⟨k0, k1, k2, k3, k4, k5, k6⟩ := K.out
              rw [hr] at k0
              rw [hnd] at k4
              clear K
              go_upto_region 6 with (fail)
              rw [hr] at HW
              rw [hnd] at HW
              rw [← HW.out]
              clear k0 k1 k2 k3 k4 k5 k6
              obtain ⟨x0, x1, x2, x3, x4, x5, x6⟩ := OA.out.1.cells
              obtain ⟨y0, y1, y2, y3, y4, y5⟩ := OS.out.1.cells
              rw [hr] at x0
              rw [hnd] at x4
              rw [hd] at y2
              clear y0 y1 y3 y4 y5
              go_wp2_with fail
              go_ret
              exact ⟨ret_bool HE.out.symm, OS.out.2.2⟩
            · have hnd : s.idx[j].dom.length = 0 := by omega
              have HSA : Hid (stepE E s.dec s.idx[j] (j : Int) = argOkS E s.idx[j] (j : Int)) := by unfold Hid; rw [HST.out, hr, hd, decide_eq_false h0]; rfl
              clear h0
              rw [hnd] at CO
              cases h5 : argOkS E s.idx[j] (j : Int) with
              | false =>
                rw [h5] at CO HSA
                have HE : Hid (sortOkE E s = false) := by unfold Hid; rw [HEE.out, HSA.out]; rfl
                clear h5
                obtain ⟨k0, k1, k2, k3, k4, k5, k6⟩ := K.out
                rw [hr] at k0
                rw [hnd] at k4
                clear K
                go_upto_region 6 with (fail)
                rw [hr] at HW
                rw [hnd] at HW
                rw [← HW.out]
                clear k0 k1 k2 k3 k4 k5 k6
                obtain ⟨x0, x1, x2, x3, x4, x5, x6⟩ := OA.out.1.cells
                obtain ⟨y0, y1, y2, y3, y4, y5⟩ := OS.out.1.cells
                rw [hr] at x0
                rw [hnd] at x4
                rw [hd] at y2
                clear y0 y1 y3 y4 y5
                go_wp2_with fail
                refine CO.out.mono ?_
                rintro e w6 ⟨rfl, hb6⟩
                have O6 := Lib.hid (OS.out.bel hb6)
                clear hb6
                go_wp2_with fail
                go_ret
                exact ⟨ret_bool HE.out.symm, O6.out.2.2⟩
              | true =>
                rw [h5] at CO HSA
                have HE : Hid (sortOkE E s = (idxOkE E s.dec (s.idx.drop (j + 1)) ((j + 1 : Nat) : Int) && decT? s.dec s.decT s.idx.length)) := by unfold Hid; rw [HEE.out, HSA.out, Bool.true_and]
                clear h5
                obtain ⟨k0, k1, k2, k3, k4, k5, k6⟩ := K.out
                rw [hr] at k0
                rw [hnd] at k4
                clear K
                go_upto_region 6 with (fail)
                rw [hr] at HW
                rw [hnd] at HW
                rw [← HW.out]
                clear k0 k1 k2 k3 k4 k5 k6
                obtain ⟨x0, x1, x2, x3, x4, x5, x6⟩ := OA.out.1.cells
                obtain ⟨y0, y1, y2, y3, y4, y5⟩ := OS.out.1.cells
                rw [hr] at x0
                rw [hnd] at x4
                rw [hd] at y2
                clear y0 y1 y3 y4 y5
                go_wp2_with fail
                refine CO.out.mono ?_
                rintro e w6 ⟨rfl, hb6⟩
                have O6 := Lib.hid (OS.out.bel hb6)
                clear hb6
                go_wp2_with fail
                rw [hd] at HE
                go_roundw
                case rel => exact ⟨j + 1, hlt, by go_num, HE.out, O6.out⟩
                case measure => simp [RowKit.intOf]; omega
      · obtain rfl : j = s.idx.length := by omega
        have hnl : ¬ (s.idx.length : Int) < (s.idx.length : Int) := by omega
        have HE : Hid (sortOkE E s = decT? s.dec s.decT s.idx.length) := by unfold Hid; rw [he, List.drop_length]; rfl
        have OS := Lib.hid hO
        obtain ⟨y0, y1, y2, y3, y4, y5⟩ := OS.out.1.cells
        clear he hO
        go_wp2_with fail
        refine (RD.out _ OS.out.1.2.2).mono ?_
        rintro e w6 ⟨rfl, hb6⟩
        have O6 := Lib.hid (OS.out.bel hb6)
        clear hb6
        go_wp2_with fail
        go_ret
        exact ⟨ret_bool HE.out.symm, O6.out.2.2⟩
end Go.Proofs.Ytggefpkfikimiaa
/- The program's isCon of package shape. No conditions but sizes. -/
namespace Go.Proofs.Ytggefpkfikimiaa
open Go.RowKit
set_option linter.unusedVariables false

def argsOkS (S : List SortT) : List ArgT → Int → Bool | [], _ => true | a :: l, i => argOkS S a i && argsOkS S l (i + 1)
theorem argsOkS_drop {S : List SortT} {l : List ArgT} {j : Nat} (h : j < l.length) : argsOkS S (l.drop j) (j : Int) = (argOkS S l[j] (j : Int) && argsOkS S (l.drop (j + 1)) ((j + 1 : Nat) : Int)) := by
  rw [List.drop_eq_getElem_cons h, argsOkS]; rfl
theorem argsOkS_eq (b : BlkT) : ∀ (l : List ArgT) (i : Int), argsOk b l i = argsOkS b.sorts l i
  | [], _ => rfl
  | a :: l, i => by rw [argsOk, argsOkS, argsOkS_eq b l, argOkS_eq]
/-- A right con of a block of these sorts. -/
def conOkS (S : List SortT) (c : ConT) : Bool := inZ c.sort 0 ((S.length : Int) - 1) && decide (c.args.length ≤ 12) && (argsOkS S c.args 0 && ((decide ((c.idx.length : Int) = idxLen ⟨S, [], 0⟩ c.sort) && opensAll c.idx c.args.length) && decT? (hasDec ⟨S, [], 0⟩ c.sort) c.dec c.args.length))
theorem conOkS_eq (b : BlkT) (c : ConT) : conOk b c = conOkS b.sorts c := by
  have e1 : idxLen b c.sort = idxLen ⟨b.sorts, [], 0⟩ c.sort := rfl
  have e2 : hasDec b c.sort = hasDec ⟨b.sorts, [], 0⟩ c.sort := rfl
  unfold conOk conOkS decT? nsB
  rw [argsOkS_eq, e1, e2]
  generalize inZ c.sort 0 ((b.sorts.length : Int) - 1) = A
  generalize decide (c.args.length ≤ 12) = B
  generalize decide ((c.idx.length : Int) = idxLen ⟨b.sorts, [], 0⟩ c.sort) = C
  generalize argsOkS b.sorts c.args 0 = D
  generalize opensAll c.idx c.args.length = E
  generalize (if hasDec ⟨b.sorts, [], 0⟩ c.sort = true then openT c.dec c.args.length else noneT c.dec) = F
  cases A <;> cases B <;> cases C <;> cases D <;> cases E <;> cases F <;> rfl
/-- A con in its box, beside the row of sorts. -/
def StC (w0 : World) (S : List SortT) (c : ConT) (B1 : Nat) (vs va vi vt : Value) (W : World) : Prop := OneC B1 c va vi vt W ∧ SRow W S vs ∧ Below w0.heap.size w0 W
theorem StC.bel {w0 W W' : World} {S : List SortT} {c : ConT} {B1 : Nat} {vs va vi vt : Value} (h : StC w0 S c B1 vs va vi vt W) (hb : Below W.heap.size W W') : StC w0 S c B1 vs va vi vt W' :=
  ⟨h.1.bel hb, GAt.bel hb (sortC_bel hb) h.2.1, h.2.2.trans (hb.mono h.2.2.size)⟩
theorem stc_start (w : World) (S : List SortT) (c : ConT) (vs va vi vt : Value) (hB : SRow w S vs) (hA : ARow w c.args va) (hI : At w c.idx vi) (hT : At w c.dec.kids vt) :
    StC w S c w.heap.size vs va vi vt (w.alloc (.cells #[.int .i64 c.sort, va, vi, .int .i64 c.dec.k, .int .i64 c.dec.n, vt] 35)) := by
  have hb := below_al w (.cells #[.int .i64 c.sort, va, vi, .int .i64 c.dec.k, .int .i64 c.dec.n, vt] 35)
  exact ⟨⟨World.alloc_heap_new w _, ARow.bel hb hA, hI.bel hb (Nat.le_refl _), hT.bel hb (Nat.le_refl _)⟩, GAt.bel hb (sortC_bel hb) hB, hb⟩
set_option maxRecDepth 100000 in
set_option maxHeartbeats 4000000 in
theorem scon_any (S : List SortT) (hSl : S.length ≤ 1048576) (c : ConT) (hs : conN c ≤ 1048576) (hF : c.fits) (w : World) (vs va vi vt : Value) (hB : SRow w S vs) (hA : ARow w c.args va) (hI : At w c.idx vi) (hT : At w c.dec.kids vt) :
    Calls Try.prog 67 #[vs, .agg #[.int .i64 c.sort, va, vi, .int .i64 c.dec.k, .int .i64 c.dec.n, vt]] w fun e w' => e = .returned (.bool (conOkS S c)) ∧ Below w.heap.size w w' := by
  obtain ⟨ps, cs, rfl⟩ := hB.shape
  obtain ⟨pa, ca, rfl⟩ := hA.shape
  obtain ⟨pi, ci, rfl⟩ := hI.shape
  obtain ⟨pt, ct, rfl⟩ := hT.shape
  have hn : conN c = argsN c.args + sizeL c.idx + size c.dec + 1 := rfl
  have hla := argsN_len c.args
  obtain ⟨hFs, hFa, hFi, hFd⟩ := hF
  have O0 := Lib.hid (stc_start w S c _ _ _ _ hB hA hI hT)
  clear hB hA hI hT
  have RZ := Lib.hid (fun W => s7index_any c.sort (S.length : Int) W)
  have RD := Lib.hid (fun d W hA => sdec_any d c.dec hFd (by omega) (c.args.length : Int) W (.slice pt c.dec.kids.length ct) hA)
  have RI := Lib.hid (fun x W hA => sareterms_any c.idx (by omega) hFi x (c.args.length : Int) W (.slice pi c.idx.length ci) hA)
  have hal : c.args.length ≤ 1048576 := by omega
  have RA : Hid (∀ j (h : j < c.args.length) W v0 v1 v2 v3, SRow W S v0 → At W c.args[j].ty.kids v1 → At W c.args[j].dom v2 → At W c.args[j].idx v3 → Calls Try.prog 75 #[v0, .agg #[.bool c.args[j].r, .int .i64 c.args[j].ty.k, .int .i64 c.args[j].ty.n, v1, v2, .int .i64 c.args[j].sort, v3], .int .i64 (j : Int)] W fun e w' => e = .returned (.bool (argOkS S c.args[j] (j : Int))) ∧ Below W.heap.size W w') :=
    fun j h W v0 v1 v2 v3 g0 g1 g2 g3 => sarg_any S hSl c.args[j] (by have := argN_le (List.getElem_mem h); omega) (hFa _ (List.getElem_mem h)) (j : Int) (by omega) (by omega) W v0 v1 v2 v3 g0 g1 g2 g3
  clear hn hla hs hFs hFa hFi hFd
  cases h1 : inZ c.sort 0 ((S.length : Int) - 1) with
  | false =>
    rw [h1] at RZ
    have HE : Hid (conOkS S c = false) := by unfold Hid; rw [conOkS, h1]; rfl
    clear h1
    go_enter Try.func67, Try.ntmps67
    go_wp2_with fail
    refine (RZ.out _).mono ?_
    rintro e w1 ⟨rfl, rfl⟩
    go_wp2_with fail
    go_ret
    exact ⟨ret_bool HE.out.symm, O0.out.2.2⟩
  | true =>
  rw [h1] at RZ
  by_cases h2 : c.args.length ≤ 12
  rotate_left
  · have q1 : decide ((12 : Int) < (c.args.length : Int)) = true := by simp; omega
    have HE : Hid (conOkS S c = false) := by unfold Hid; rw [conOkS, decide_eq_false h2, Bool.and_false]; rfl
    clear h1 h2
    go_enter Try.func67, Try.ntmps67
    go_wp2_with fail
    refine (RZ.out _).mono ?_
    rintro e w1 ⟨rfl, rfl⟩
    go_wp2_with fail
    go_ret
    exact ⟨ret_bool HE.out.symm, O0.out.2.2⟩
  have q1 : decide ((12 : Int) < (c.args.length : Int)) = false := by simp; omega
  obtain ⟨hz1, hz2⟩ := inZ_iff.1 h1
  obtain ⟨K, hK⟩ : ∃ K : Nat, c.sort = (K : Int) := ⟨c.sort.toNat, by omega⟩
  have hKl : K < S.length := by omega
  have hKi : (K : Int) < (S.length : Int) := by omega
  have hK0 : (0 : Int) ≤ (K : Int) := by omega
  have hix : idxLen ⟨S, [], 0⟩ c.sort = S[K].idx.length := by simp [idxLen, hK, List.getElem?_eq_getElem hKl]
  have hhd : hasDec ⟨S, [], 0⟩ c.sort = S[K].dec := by simp [hasDec, hK, List.getElem?_eq_getElem hKl]
  have HE : Hid (conOkS S c = (argsOkS S c.args 0 && ((decide ((c.idx.length : Int) = (S[K].idx.length : Int)) && opensAll c.idx c.args.length) && decT? S[K].dec c.dec c.args.length))) := by unfold Hid; rw [conOkS, h1, decide_eq_true h2, hix, hhd]; rfl
  have HK := Lib.hid hK
  clear h1 h2 hz1 hz2 hix hhd hK
  go_enter Try.func67, Try.ntmps67
  go_wp2_with fail
  refine (RZ.out _).mono ?_
  rintro e w1 ⟨rfl, rfl⟩
  go_wp2_with fail
  clear RZ q1
  go_loopw [24] (fun x wr => ∃ j : Nat, j ≤ c.args.length ∧ x = .int .i64 j ∧ conOkS S c = (argsOkS S (c.args.drop j) (j : Int) && ((decide ((c.idx.length : Int) = (S[K].idx.length : Int)) && opensAll c.idx c.args.length) && decT? S[K].dec c.dec c.args.length)) ∧ StC w S c w.heap.size (.slice ps S.length cs) (.slice pa c.args.length ca) (.slice pi c.idx.length ci) (.slice pt c.dec.kids.length ct) wr) (fun x _ => c.args.length - (RowKit.intOf x).toNat)
  case atStart => exact ⟨0, Nat.zero_le _, rfl, by rw [List.drop_zero, HE.out]; rfl, O0.out⟩
  case round =>
    clear HE O0
    obtain ⟨j, hj, rfl, he, hO⟩ := hrel
    by_cases hlt : j < c.args.length
    · obtain ⟨B, off, ut, ud, ui, rfl, g1, g2, g3, k0, k1, k2, k3, k4, k5, k6⟩ := ARow.at hO.1.2.1 hlt
      obtain ⟨p1, c1, e1⟩ := g1.shape
      obtain ⟨p2, c2, e2⟩ := g2.shape
      obtain ⟨p3, c3, e3⟩ := g3.shape
      subst e1 e2 e3
      have hji : (j : Int) < (c.args.length : Int) := by omega
      have hj0 : (0 : Int) ≤ (j : Int) := by omega
      have hO2 := sta_start wr S c.args[j] _ _ _ _ hO.2.1 g1 g2 g3
      have CO := Lib.hid (RA.out j hlt _ _ _ _ _ hO2.2.1 hO2.1.2.1 hO2.1.2.2.1 hO2.1.2.2.2)
      have O2 := Lib.hid (hO.bel hO2.2.2)
      rw [argsOkS_drop hlt] at he
      clear g1 g2 g3 hO hO2
      cases h5 : argOkS S c.args[j] (j : Int) with
      | false =>
        rw [h5] at CO he
        have HE := Lib.hid (show conOkS S c = false by rw [he]; rfl)
        clear he h5
        go_wp2_with fail
        refine CO.out.mono ?_
        rintro e w6 ⟨rfl, hb6⟩
        have O6 := Lib.hid (O2.out.bel hb6)
        clear hb6
        go_wp2_with fail
        go_ret
        exact ⟨ret_bool HE.out.symm, O6.out.2.2⟩
      | true =>
        rw [h5] at CO he
        have HE := Lib.hid he
        clear he h5
        go_wp2_with fail
        refine CO.out.mono ?_
        rintro e w6 ⟨rfl, hb6⟩
        have O6 := Lib.hid (O2.out.bel hb6)
        clear hb6
        go_wp2_with fail
        go_roundw
        case rel => exact ⟨j + 1, hlt, by go_num, by rw [HE.out, Bool.true_and], O6.out⟩
        case measure => simp [RowKit.intOf]; omega
    · obtain rfl : j = c.args.length := by omega
      have hnl : ¬ (c.args.length : Int) < (c.args.length : Int) := by omega
      have HE : Hid (conOkS S c = ((decide ((c.idx.length : Int) = (S[K].idx.length : Int)) && opensAll c.idx c.args.length) && decT? S[K].dec c.dec c.args.length)) := by unfold Hid; rw [he, List.drop_length]; rfl
      obtain ⟨BS, offS, ua, ut, rfl, ga, gt, k0, k1, k2, k3, k4, k5⟩ := SRow.at hO.2.1 hKl
      obtain ⟨p1, c1, e1⟩ := ga.shape
      obtain ⟨p2, c2, e2⟩ := gt.shape
      subst e1 e2
      obtain ⟨x0, x1, x2, x3, x4, x5⟩ := hO.1.cells
      rw [HK.out] at x0
      have z1 := World.block_lt_of_cell? wr _ x0
      have z2 := World.block_lt_of_cell? wr _ k0
      simp only at z1 z2
      have d1 : ¬ w.heap.size = wr.heap.size := by omega
      have d2 : ¬ wr.heap.size = w.heap.size := by omega
      have d3 : ¬ BS = wr.heap.size := by omega
      have d4 : ¬ wr.heap.size = BS := by omega
      have hT := sts_start wr S S[K] _ _ _ hO.2.1 ga gt
      have T1 := Lib.hid hT
      have T2 := Lib.hid (hO.bel hT.2.2)
      clear he hO ga gt hT
      go_wp2_with fail
      go_region
      clear z1 z2 x0 x1 x2 x3 x4 x5 k0 k1 k2 k3 k4 k5 d1 d2 d3 d4
      have T3 := Lib.hid (T1.out.bel (Below.refl _ _).drew)
      have T4 := Lib.hid (T2.out.bel (Below.refl _ _).drew)
      revert T3 T4
      generalize (wr.alloc _).drew = w2
      intro T3 T4
      clear T1 T2
      obtain ⟨s0, s1, s2, s3, s4, s5⟩ := T3.out.1.cells
      obtain ⟨x0, x1, x2, x3, x4, x5⟩ := T4.out.1.cells
      have RI1 := Lib.hid (RI.out (S[K].idx.length : Int) w2 T4.out.1.2.2.1)
      clear x0 x1 x3 x4 x5 s1 s2 s3 s4 s5
      cases h6 : (decide ((c.idx.length : Int) = (S[K].idx.length : Int)) && opensAll c.idx c.args.length) with
      | false =>
        rw [h6] at RI1 HE
        clear h6
        go_wp2_with fail
        refine RI1.out.mono ?_
        rintro e w3 ⟨rfl, hb3⟩
        have O3 := Lib.hid (T4.out.bel hb3)
        clear hb3 x2 s0
        go_wp2_with fail
        go_ret
        exact ⟨ret_bool (by rw [HE.out]; rfl), O3.out.2.2⟩
      | true =>
        rw [h6] at RI1 HE
        clear h6
        go_wp2_with fail
        refine RI1.out.mono ?_
        rintro e w3 ⟨rfl, hb3⟩
        have O3 := Lib.hid (T4.out.bel hb3)
        have S3 := Lib.hid (T3.out.bel hb3)
        clear hb3 x2 s0
        obtain ⟨s0, s1, s2, s3, s4, s5⟩ := S3.out.1.cells
        obtain ⟨x0, x1, x2, x3, x4, x5⟩ := O3.out.1.cells
        clear x0 x1 x2 s0 s1 s3 s4 s5
        go_wp2_with fail
        refine (RD.out S[K].dec w3 O3.out.1.2.2.2).mono ?_
        rintro e w4 ⟨rfl, hb4⟩
        have O4 := Lib.hid (O3.out.bel hb4)
        clear hb4 x3 x4 x5 s2
        go_wp2_with fail
        go_ret
        exact ⟨ret_bool (by rw [HE.out]; rfl), O4.out.2.2⟩
end Go.Proofs.Ytggefpkfikimiaa
/- The program's isBlock and Check of package shape. No conditions but sizes. -/
namespace Go.Proofs.Ytggefpkfikimiaa
open Go.RowKit
set_option linter.unusedVariables false

theorem GAt.take {α : Type} {sz : Nat} {C : α → List Value → Prop} {w : World} {l : List α} {a : Addr} {cap : Nat} (h : GAt sz C w l (.slice (some a) l.length cap)) {k : Nat} (hk : k ≤ l.length) : GAt sz C w (l.take k) (.slice (some a) k cap) := by
  by_cases h0 : k = 0
  · subst h0; exact .em a cap
  · obtain ⟨b, off, cap', cs, e, h1, h2, h3, h4⟩ := h.pos (by omega)
    cases e
    have hl : (l.take k).length = k := by simp; omega
    have := GAt.row (sz := sz) (C := C) (w := w) (l.take k) b off cap cs (by omega) (by omega) h2 (fun i hi => by rw [List.getElem_take]; exact h3 i (by omega)) (fun i hi r hr => h4 i (by omega) r hr)
    rwa [hl] at this
theorem step_eq {b : BlkT} {k : Nat} (hk : k ≤ b.sorts.length) (d : Bool) (a : ArgT) (i : Int) : stepE (b.sorts.take k) d a i = (stepOk b (k : Int) a i && !(d && a.r)) := by
  unfold stepE stepOk argOkS argOk
  cases hr : a.r with
  | false => simp
  | true =>
    cases d with
    | true => simp
    | false =>
      simp only [Bool.true_and, Bool.false_or, Bool.not_true, if_true, Bool.not_false, Bool.and_true]
      have hl : nsB ⟨b.sorts.take k, [], 0⟩ = (k : Int) := by simp [nsB]; omega
      have hn : nsB b = (b.sorts.length : Int) := rfl
      by_cases hz : inZ a.sort 0 ((k : Int) - 1) = true
      · obtain ⟨z1, z2⟩ := inZ_iff.1 hz
        have hz2 : inZ a.sort 0 (nsB b - 1) = true := by rw [inZ_iff, hn]; omega
        have hi : idxLen ⟨b.sorts.take k, [], 0⟩ a.sort = idxLen b a.sort := by
          unfold idxLen
          rw [List.getElem?_take, if_pos (by omega)]
        have hs : decide (a.sort < (k : Int)) = true := by simp; omega
        rw [hl, hz, hz2, hi, hs]
        generalize opensFrom a.dom i = A
        generalize opensAll a.idx (i + a.dom.length) = B
        generalize decide ((a.idx.length : Int) = idxLen b a.sort) = C
        generalize noneT a.ty = D
        by_cases h0 : a.dom.length = 0
        · have h1 : decide (0 < a.dom.length) = false := decide_eq_false (by omega)
          rw [h1, decide_eq_true h0]
          simp
        · have h1 : decide (0 < a.dom.length) = true := by rw [decide_eq_true_iff]; omega
          rw [h1, decide_eq_false h0]
          simp
      · have hz' : inZ a.sort 0 ((k : Int) - 1) = false := by simpa using hz
        rw [hl, hz']
        by_cases hs : a.sort < (k : Int)
        · have hz2 : inZ a.sort 0 (nsB b - 1) = false := by
            rw [Bool.eq_false_iff]; intro h; rw [inZ_iff] at h; apply hz; rw [inZ_iff]; omega
          rw [hz2]; simp
        · rw [decide_eq_false hs]; simp
theorem idx_eq {b : BlkT} {k : Nat} (hk : k ≤ b.sorts.length) (d : Bool) : ∀ (l : List ArgT) (i : Int), idxOkE (b.sorts.take k) d l i = (idxOk b (k : Int) l i && !(d && l.any (·.r)))
  | [], i => by simp [idxOkE, idxOk]
  | a :: l, i => by
    have h2 : idxOk b (k : Int) (a :: l) i = (stepOk b (k : Int) a i && idxOk b (k : Int) l (i + 1)) := rfl
    rw [idxOkE, idx_eq hk d l, step_eq hk, h2, List.any_cons]
    generalize stepOk b (k : Int) a i = A
    generalize idxOk b (k : Int) l (i + 1) = B
    generalize l.any (·.r) = C
    cases A <;> cases B <;> cases C <;> cases d <;> cases a.r <;> rfl
theorem sortOk_eq (b : BlkT) {k : Nat} (hk : k ≤ b.sorts.length) (s : SortT) : sortOk b s (k : Int) = sortOkE (b.sorts.take k) s := by
  unfold sortOk sortOkE decT?
  rw [idx_eq hk]
  generalize decide (s.idx.length ≤ 12) = A
  generalize inZ s.level 0 6 = B
  generalize idxOk b (k : Int) s.idx 0 = C
  generalize s.idx.any (·.r) = D
  generalize openT s.decT s.idx.length = E
  generalize noneT s.decT = F
  cases s.dec <;> cases A <;> cases B <;> cases C <;> cases D <;> cases E <;> cases F <;> rfl
set_option maxRecDepth 100000 in
set_option maxHeartbeats 2000000 in
theorem sisblock_any (b : BlkT) (hsb : blkN b ≤ 1048576) (hF : b.fits) (w : World) (vs vc : Value) (hB : BAt w b vs vc) :
    Calls Try.prog 54 #[.agg #[vs, vc, .int .i64 b.elim]] w fun e w' => e = .returned (.bool (shapeB b)) ∧ Below w.heap.size w w' := by
  obtain ⟨ps, cs, pc, cc, rfl, rfl⟩ := hB.shape
  have hls := sortsN_len b.sorts
  have hlc := consN_len b.cons
  have hbn : blkN b = sortsN b.sorts + consN b.cons + 1 := rfl
  obtain ⟨hFs, hFc, hFe⟩ := hF
  have O0 := Lib.hid (oneb_start w b _ _ hB)
  clear hB
  have hnl : b.sorts.length ≤ 1048576 := by omega
  have hcl : b.cons.length ≤ 1048576 := by omega
  have RL := Lib.hid (fun W => slevel_any b.elim W)
  have RS : Hid (∀ k (h : k < b.sorts.length) W v0 v1 v2, SRow W (b.sorts.take k) v0 → ARow W b.sorts[k].idx v1 → At W b.sorts[k].decT.kids v2 → Calls Try.prog 66 #[v0, .agg #[v1, .int .i64 b.sorts[k].level, .bool b.sorts[k].dec, .int .i64 b.sorts[k].decT.k, .int .i64 b.sorts[k].decT.n, v2]] W fun e w' => e = .returned (.bool (sortOk b b.sorts[k] (k : Int))) ∧ Below W.heap.size W w') :=
    fun k h W v0 v1 v2 g0 g1 g2 => by
      rw [sortOk_eq b (by omega) b.sorts[k]]
      exact ssort_any (b.sorts.take k) (by simp; omega) b.sorts[k] (by have := sortN_le (List.getElem_mem h); omega) (hFs _ (List.getElem_mem h)) W v0 v1 v2 g0 g1 g2
  have RC : Hid (∀ k (h : k < b.cons.length) W v0 v1 v2 v3, SRow W b.sorts v0 → ARow W b.cons[k].args v1 → At W b.cons[k].idx v2 → At W b.cons[k].dec.kids v3 → Calls Try.prog 67 #[v0, .agg #[.int .i64 b.cons[k].sort, v1, v2, .int .i64 b.cons[k].dec.k, .int .i64 b.cons[k].dec.n, v3]] W fun e w' => e = .returned (.bool (conOk b b.cons[k])) ∧ Below W.heap.size W w') :=
    fun k h W v0 v1 v2 v3 g0 g1 g2 g3 => by
      rw [conOkS_eq b b.cons[k]]
      exact scon_any b.sorts hnl b.cons[k] (by have := conN_le (List.getElem_mem h); omega) (hFc _ (List.getElem_mem h)) W v0 v1 v2 v3 g0 g1 g2 g3
  have HX : Hid (shapeB b = (inZ (nsB b) 1 4 && decide (b.cons.length ≤ 8) && inZ b.elim 0 6 && sortsOk b b.sorts 0 && b.cons.all (conOk b))) := rfl
  have hnn : nsB b = (b.sorts.length : Int) := rfl
  clear hls hlc hbn hFs hFc hFe
  by_cases h1 : b.sorts.length < 1
  · have q1 : decide ((b.sorts.length : Int) < 1) = true := by rw [decide_eq_true_iff]; omega
    have HE : Hid (shapeB b = false) := by unfold Hid; rw [HX.out, show inZ (nsB b) 1 4 = false by rw [Bool.eq_false_iff]; intro h; rw [inZ_iff] at h; omega]; rfl
    obtain ⟨n, hn⟩ : ∃ n : Nat, b.sorts.length = n := ⟨_, rfl⟩
    rw [hn] at q1 O0
    have q0 : ((n : Int) < 1) = True := eq_true (by simpa using q1)
    go_enter Try.func54, Try.ntmps54
    rw [hn]
    clear hn
    go_wp2_with fail
    go_ret
    exact ⟨ret_bool HE.out.symm, O0.out.2.2⟩
  have q1 : decide ((b.sorts.length : Int) < 1) = false := decide_eq_false (by omega)
  have q1b : ((b.sorts.length : Int) < 1) = False := eq_false (by omega)
  by_cases h2 : b.sorts.length ≤ 4
  rotate_left
  · have q2 : decide ((4 : Int) < (b.sorts.length : Int)) = true := by simp; omega
    have HE : Hid (shapeB b = false) := by unfold Hid; rw [HX.out, show inZ (nsB b) 1 4 = false by rw [Bool.eq_false_iff]; intro h; rw [inZ_iff] at h; omega]; rfl
    clear h1 h2
    go_enter Try.func54, Try.ntmps54
    go_wp2_with fail
    go_ret
    exact ⟨ret_bool HE.out.symm, O0.out.2.2⟩
  have q2 : decide ((4 : Int) < (b.sorts.length : Int)) = false := by simp; omega
  by_cases h3 : b.cons.length ≤ 8
  rotate_left
  · have q3 : decide ((8 : Int) < (b.cons.length : Int)) = true := by simp; omega
    have HE : Hid (shapeB b = false) := by unfold Hid; rw [HX.out, decide_eq_false h3]; simp
    clear h1 h2 h3
    go_enter Try.func54, Try.ntmps54
    go_wp2_with fail
    go_ret
    exact ⟨ret_bool HE.out.symm, O0.out.2.2⟩
  have q3 : decide ((8 : Int) < (b.cons.length : Int)) = false := by simp; omega
  cases h4 : inZ b.elim 0 6 with
  | false =>
    rw [h4] at RL
    have HE : Hid (shapeB b = false) := by unfold Hid; rw [HX.out, h4]; simp
    clear h1 h2 h3 h4
    go_enter Try.func54, Try.ntmps54
    go_wp2_with fail
    refine (RL.out _).mono ?_
    rintro e w1 ⟨rfl, rfl⟩
    go_wp2_with fail
    go_ret
    exact ⟨ret_bool HE.out.symm, O0.out.2.2⟩
  | true =>
  rw [h4] at RL
  have HE : Hid (shapeB b = (sortsOk b b.sorts 0 && b.cons.all (conOk b))) := by unfold Hid; rw [HX.out, h4, decide_eq_true h3, show inZ (nsB b) 1 4 = true by rw [inZ_iff]; omega]; rfl
  clear h1 h2 h3 h4 HX
  go_enter Try.func54, Try.ntmps54
  go_wp2_with fail
  refine (RL.out _).mono ?_
  rintro e w1 ⟨rfl, rfl⟩
  go_wp2_with fail
  clear RL q1 q2 q3 q1b
  go_loopw [32] (fun x wr => ∃ j : Nat, j ≤ b.sorts.length ∧ x = .int .i64 j ∧ shapeB b = (sortsOk b (b.sorts.drop j) (j : Int) && b.cons.all (conOk b)) ∧ OneB w w.heap.size b (.slice ps b.sorts.length cs) (.slice pc b.cons.length cc) wr) (fun x _ => b.sorts.length - (RowKit.intOf x).toNat)
  case atStart => exact ⟨0, Nat.zero_le _, rfl, by rw [List.drop_zero, HE.out]; rfl, O0.out⟩
  case round =>
    clear HE O0
    obtain ⟨j, hj, rfl, he, hO⟩ := hrel
    by_cases hlt : j < b.sorts.length
    · have hsr := hO.2.1.1
      obtain ⟨B, off, ua, ut, rfl, ga, gt, k0, k1, k2, k3, k4, k5⟩ := SRow.at hsr hlt
      have hjc : j ≤ cs := by
        obtain ⟨_, _, c', _, e, h1, _⟩ := hsr.pos (by omega)
        cases e; omega
      have hjci : (j : Int) ≤ (cs : Int) := by omega
      obtain ⟨p1, c1, e1⟩ := ga.shape
      obtain ⟨p2, c2, e2⟩ := gt.shape
      subst e1 e2
      have hji : (j : Int) < (b.sorts.length : Int) := by omega
      have hj0 : (0 : Int) ≤ (j : Int) := by omega
      have hO2 := sts_start wr b.sorts b.sorts[j] _ _ _ hsr ga gt
      have hO3 := hO.bel hO2.2.2
      obtain ⟨w1, hw1⟩ : ∃ w1, w1 = wr.alloc (.cells #[.slice p1 b.sorts[j].idx.length c1, .int .i64 b.sorts[j].level, .bool b.sorts[j].dec, .int .i64 b.sorts[j].decT.k, .int .i64 b.sorts[j].decT.n, .slice p2 b.sorts[j].decT.kids.length c2] 29) := ⟨_, rfl⟩
      rw [← hw1] at hO2 hO3
      have CO := Lib.hid (fun W (hW : Below w1.heap.size w1 W) => RS.out j hlt W _ _ _ (GAt.bel hW (sortC_bel hW) (GAt.take hO2.2.1 (k := j) (by omega))) (ARow.bel hW hO2.1.2.1) (hO2.1.2.2.bel hW (Nat.le_refl _)))
      have OS := Lib.hid hO2
      have OB := Lib.hid hO3
      have HW := Lib.hid hw1
      rw [sortsOk_drop hlt] at he
      have HEE := Lib.hid he
      have HSR := Lib.hid hsr
      clear ga gt hO hO2 hO3 hw1 he hsr
      cases h5 : sortOk b b.sorts[j] (j : Int) with
      | false =>
        rw [h5] at CO HEE
        have HE : Hid (shapeB b = false) := by unfold Hid; rw [HEE.out]; rfl
        clear h5
        go_upto_region 6 with (fail)
        rw [← HW.out]
        clear k0 k1 k2 k3 k4 k5
        refine wp_region_rel (by kernel_rfl) (by kernel_rfl) (by kernel_rfl) ?_
        apply RelWalk.rest
        · kernel_rfl
        · intro X _ W hW hcl
          obtain ⟨s0, s1, s2, s3, s4, s5⟩ := OS.out.1.cells
          obtain ⟨y0, y1, y2⟩ := OB.out.cells
          have rS0 := fun q => gcell (hW q) s0
          have rS1 := fun q => gcell (hW q) s1
          have rS2 := fun q => gcell (hW q) s2
          have rS3 := fun q => gcell (hW q) s3
          have rS4 := fun q => gcell (hW q) s4
          have rS5 := fun q => gcell (hW q) s5
          have rB0 := fun q => gcell (hW q) y0
          clear s0 s1 s2 s3 s4 s5 y0 y1 y2
          have d0 := Lib.hid (fun q => into hcl (CO.out (W q) (hW q)))
          repeat (go_big_quiet_step (first | (with_reducible exact d0.out _)))
          exact wpQuiet_nil rfl
        intro gq w6 hg _
        have O6 := Lib.hid (OB.out.bel hg)
        clear hg
        simp only [Spread]
        go_wp2_with fail
        go_ret
        exact ⟨ret_bool HE.out.symm, O6.out.2.2⟩
      | true =>
        rw [h5] at CO HEE
        have HE : Hid (shapeB b = (sortsOk b (b.sorts.drop (j + 1)) ((j + 1 : Nat) : Int) && b.cons.all (conOk b))) := by unfold Hid; rw [HEE.out, Bool.true_and]
        clear h5
        go_upto_region 6 with (fail)
        rw [← HW.out]
        clear k0 k1 k2 k3 k4 k5
        refine wp_region_rel (by kernel_rfl) (by kernel_rfl) (by kernel_rfl) ?_
        apply RelWalk.rest
        · kernel_rfl
        · intro X _ W hW hcl
          obtain ⟨s0, s1, s2, s3, s4, s5⟩ := OS.out.1.cells
          obtain ⟨y0, y1, y2⟩ := OB.out.cells
          have rS0 := fun q => gcell (hW q) s0
          have rS1 := fun q => gcell (hW q) s1
          have rS2 := fun q => gcell (hW q) s2
          have rS3 := fun q => gcell (hW q) s3
          have rS4 := fun q => gcell (hW q) s4
          have rS5 := fun q => gcell (hW q) s5
          have rB0 := fun q => gcell (hW q) y0
          clear s0 s1 s2 s3 s4 s5 y0 y1 y2
          have d0 := Lib.hid (fun q => into hcl (CO.out (W q) (hW q)))
          repeat (go_big_quiet_step (first | (with_reducible exact d0.out _)))
          exact wpQuiet_nil rfl
        intro gq w6 hg _
        have O6 := Lib.hid (OB.out.bel hg)
        clear hg
        simp only [Spread]
        go_wp2_with fail
        go_roundw
        case rel => exact ⟨j + 1, hlt, by go_num, HE.out, O6.out⟩
        case measure => simp [RowKit.intOf]; omega
    · obtain rfl : j = b.sorts.length := by omega
      have hnl2 : ¬ (b.sorts.length : Int) < (b.sorts.length : Int) := by omega
      have HE : Hid (shapeB b = b.cons.all (conOk b)) := by unfold Hid; rw [he, List.drop_length]; rfl
      have O1 := Lib.hid hO
      obtain ⟨y0, y1, y2⟩ := O1.out.cells
      clear he hO RS hlt hj
      go_wp2_with fail
      clear y0 y1 y2 hnl2
      go_loopw [48] (fun x wr => ∃ j : Nat, j ≤ b.cons.length ∧ x = .int .i64 j ∧ shapeB b = (b.cons.drop j).all (conOk b) ∧ OneB w w.heap.size b (.slice ps b.sorts.length cs) (.slice pc b.cons.length cc) wr) (fun x _ => b.cons.length - (RowKit.intOf x).toNat)
      case atStart => exact ⟨0, Nat.zero_le _, rfl, by rw [List.drop_zero, HE.out], O1.out⟩
      case round =>
        clear HE O1
        obtain ⟨j, hj, rfl, he, hO⟩ := hrel
        by_cases hlt : j < b.cons.length
        · obtain ⟨B, off, ua, ui, ut, rfl, ga, gi, gt, k0, k1, k2, k3, k4, k5⟩ := CRow.at hO.2.1.2 hlt
          obtain ⟨p1, c1, e1⟩ := ga.shape
          obtain ⟨p2, c2, e2⟩ := gi.shape
          obtain ⟨p3, c3, e3⟩ := gt.shape
          subst e1 e2 e3
          have hji : (j : Int) < (b.cons.length : Int) := by omega
          have hj0 : (0 : Int) ≤ (j : Int) := by omega
          have hO2 := stc_start wr b.sorts b.cons[j] _ _ _ _ hO.2.1.1 ga gi gt
          have hO3 := hO.bel hO2.2.2
          obtain ⟨w1, hw1⟩ : ∃ w1, w1 = wr.alloc (.cells #[.int .i64 b.cons[j].sort, .slice p1 b.cons[j].args.length c1, .slice p2 b.cons[j].idx.length c2, .int .i64 b.cons[j].dec.k, .int .i64 b.cons[j].dec.n, .slice p3 b.cons[j].dec.kids.length c3] 35) := ⟨_, rfl⟩
          rw [← hw1] at hO2 hO3
          have CO := Lib.hid (RC.out j hlt w1 _ _ _ _ hO2.2.1 hO2.1.2.1 hO2.1.2.2.1 hO2.1.2.2.2)
          have OS := Lib.hid hO2
          have OB := Lib.hid hO3
          have HW := Lib.hid hw1
          rw [all_dropA hlt] at he
          have HEE := Lib.hid he
          clear ga gi gt hO hO2 hO3 hw1 he
          cases h5 : conOk b b.cons[j] with
          | false =>
            rw [h5] at CO HEE
            have HE : Hid (shapeB b = false) := by unfold Hid; rw [HEE.out]; rfl
            clear h5
            go_upto_region 12 with (fail)
            rw [← HW.out]
            clear k0 k1 k2 k3 k4 k5
            obtain ⟨s0, s1, s2, s3, s4, s5⟩ := OS.out.1.cells
            obtain ⟨y0, y1, y2⟩ := OB.out.cells
            go_wp2_with fail
            refine CO.out.mono ?_
            rintro e w6 ⟨rfl, hb6⟩
            have O6 := Lib.hid (OB.out.bel hb6)
            clear hb6 s0 s1 s2 s3 s4 s5 y0 y1 y2
            go_wp2_with fail
            go_ret
            exact ⟨ret_bool HE.out.symm, O6.out.2.2⟩
          | true =>
            rw [h5] at CO HEE
            have HE : Hid (shapeB b = (b.cons.drop (j + 1)).all (conOk b)) := by unfold Hid; rw [HEE.out, Bool.true_and]
            clear h5
            go_upto_region 12 with (fail)
            rw [← HW.out]
            clear k0 k1 k2 k3 k4 k5
            obtain ⟨s0, s1, s2, s3, s4, s5⟩ := OS.out.1.cells
            obtain ⟨y0, y1, y2⟩ := OB.out.cells
            go_wp2_with fail
            refine CO.out.mono ?_
            rintro e w6 ⟨rfl, hb6⟩
            have O6 := Lib.hid (OB.out.bel hb6)
            clear hb6 s0 s1 s2 s3 s4 s5 y0 y1 y2
            go_wp2_with fail
            go_roundw
            case rel => exact ⟨j + 1, hlt, by go_num, HE.out, O6.out⟩
            case measure => simp [RowKit.intOf]; omega
        · obtain rfl : j = b.cons.length := by omega
          have hnl2 : ¬ (b.cons.length : Int) < (b.cons.length : Int) := by omega
          have HE : Hid (shapeB b = true) := by unfold Hid; rw [he, List.drop_length]; rfl
          have O1 := Lib.hid hO
          clear he hO
          go_wp2_with fail
          go_ret
          exact ⟨ret_bool HE.out.symm, O1.out.2.2⟩
set_option maxRecDepth 100000 in
set_option maxHeartbeats 1000000 in
theorem s7check_any (b : BlkT) (hsb : blkN b ≤ 1048576) (hF : b.fits) (w : World) (vs vc : Value) (hB : BAt w b vs vc) :
    Calls Try.prog 25 #[.agg #[vs, vc, .int .i64 b.elim]] w fun e w' => e = .returned (.int .i64 (if shapeB b then 0 else 12)) ∧ Below w.heap.size w w' := by
  obtain ⟨ps, cs, pc, cc, rfl, rfl⟩ := hB.shape
  have O0 := Lib.hid (oneb_start w b _ _ hB)
  have C := Lib.hid (sisblock_any b hsb hF _ _ _ O0.out.2.1)
  clear hB
  cases h : shapeB b with
  | true =>
    rw [h] at C
    go_enter Try.func25, Try.ntmps25
    go_wp2_with fail
    refine C.out.mono ?_
    rintro e w1 ⟨rfl, hb1⟩
    have O1 := Lib.hid (O0.out.bel hb1)
    clear hb1
    go_wp2_with fail
    go_ret
    exact ⟨ret_int rfl, O1.out.2.2⟩
  | false =>
    rw [h] at C
    go_enter Try.func25, Try.ntmps25
    go_wp2_with fail
    refine C.out.mono ?_
    rintro e w1 ⟨rfl, hb1⟩
    have O1 := Lib.hid (O0.out.bel hb1)
    clear hb1
    go_wp2_with fail
    go_ret
    exact ⟨ret_int rfl, O1.out.2.2⟩
end Go.Proofs.Ytggefpkfikimiaa
/- The program's Check of a block whose parts are small. No conditions but sizes. -/
namespace Go.Proofs.Ytggefpkfikimiaa
open Go.RowKit
set_option linter.unusedVariables false

def SmallB (b : BlkT) : Prop := b.sorts.length ≤ 1048576 ∧ b.cons.length ≤ 1048576 ∧ (∀ s ∈ b.sorts, sortN s ≤ 1048576) ∧ ∀ c ∈ b.cons, conN c ≤ 1048576
set_option maxRecDepth 100000 in
set_option maxHeartbeats 2000000 in
theorem sisblockG_any (b : BlkT) (hG : SmallB b) (hF : b.fits) (w : World) (vs vc : Value) (hB : BAt w b vs vc) :
    Calls Try.prog 54 #[.agg #[vs, vc, .int .i64 b.elim]] w fun e w' => e = .returned (.bool (shapeB b)) ∧ Below w.heap.size w w' := by
  obtain ⟨ps, cs, pc, cc, rfl, rfl⟩ := hB.shape
  obtain ⟨hnl, hcl, hGs, hGc⟩ := hG
  obtain ⟨hFs, hFc, hFe⟩ := hF
  have O0 := Lib.hid (oneb_start w b _ _ hB)
  clear hB
  have RL := Lib.hid (fun W => slevel_any b.elim W)
  have RS : Hid (∀ k (h : k < b.sorts.length) W v0 v1 v2, SRow W (b.sorts.take k) v0 → ARow W b.sorts[k].idx v1 → At W b.sorts[k].decT.kids v2 → Calls Try.prog 66 #[v0, .agg #[v1, .int .i64 b.sorts[k].level, .bool b.sorts[k].dec, .int .i64 b.sorts[k].decT.k, .int .i64 b.sorts[k].decT.n, v2]] W fun e w' => e = .returned (.bool (sortOk b b.sorts[k] (k : Int))) ∧ Below W.heap.size W w') :=
    fun k h W v0 v1 v2 g0 g1 g2 => by
      rw [sortOk_eq b (by omega) b.sorts[k]]
      exact ssort_any (b.sorts.take k) (by simp; omega) b.sorts[k] (hGs _ (List.getElem_mem h)) (hFs _ (List.getElem_mem h)) W v0 v1 v2 g0 g1 g2
  have RC : Hid (∀ k (h : k < b.cons.length) W v0 v1 v2 v3, SRow W b.sorts v0 → ARow W b.cons[k].args v1 → At W b.cons[k].idx v2 → At W b.cons[k].dec.kids v3 → Calls Try.prog 67 #[v0, .agg #[.int .i64 b.cons[k].sort, v1, v2, .int .i64 b.cons[k].dec.k, .int .i64 b.cons[k].dec.n, v3]] W fun e w' => e = .returned (.bool (conOk b b.cons[k])) ∧ Below W.heap.size W w') :=
    fun k h W v0 v1 v2 v3 g0 g1 g2 g3 => by
      rw [conOkS_eq b b.cons[k]]
      exact scon_any b.sorts hnl b.cons[k] (hGc _ (List.getElem_mem h)) (hFc _ (List.getElem_mem h)) W v0 v1 v2 v3 g0 g1 g2 g3
  have HX : Hid (shapeB b = (inZ (nsB b) 1 4 && decide (b.cons.length ≤ 8) && inZ b.elim 0 6 && sortsOk b b.sorts 0 && b.cons.all (conOk b))) := rfl
  have hnn : nsB b = (b.sorts.length : Int) := rfl
  clear hGs hGc hFs hFc hFe
  by_cases h1 : b.sorts.length < 1
  · have q1 : decide ((b.sorts.length : Int) < 1) = true := by rw [decide_eq_true_iff]; omega
    have HE : Hid (shapeB b = false) := by unfold Hid; rw [HX.out, show inZ (nsB b) 1 4 = false by rw [Bool.eq_false_iff]; intro h; rw [inZ_iff] at h; omega]; rfl
    obtain ⟨n, hn⟩ : ∃ n : Nat, b.sorts.length = n := ⟨_, rfl⟩
    rw [hn] at q1 O0
    have q0 : ((n : Int) < 1) = True := eq_true (by simpa using q1)
    go_enter Try.func54, Try.ntmps54
    rw [hn]
    clear hn
    go_wp2_with fail
    go_ret
    exact ⟨ret_bool HE.out.symm, O0.out.2.2⟩
  have q1 : decide ((b.sorts.length : Int) < 1) = false := decide_eq_false (by omega)
  have q1b : ((b.sorts.length : Int) < 1) = False := eq_false (by omega)
  by_cases h2 : b.sorts.length ≤ 4
  rotate_left
  · have q2 : decide ((4 : Int) < (b.sorts.length : Int)) = true := by simp; omega
    have HE : Hid (shapeB b = false) := by unfold Hid; rw [HX.out, show inZ (nsB b) 1 4 = false by rw [Bool.eq_false_iff]; intro h; rw [inZ_iff] at h; omega]; rfl
    clear h1 h2
    go_enter Try.func54, Try.ntmps54
    go_wp2_with fail
    go_ret
    exact ⟨ret_bool HE.out.symm, O0.out.2.2⟩
  have q2 : decide ((4 : Int) < (b.sorts.length : Int)) = false := by simp; omega
  by_cases h3 : b.cons.length ≤ 8
  rotate_left
  · have q3 : decide ((8 : Int) < (b.cons.length : Int)) = true := by simp; omega
    have HE : Hid (shapeB b = false) := by unfold Hid; rw [HX.out, decide_eq_false h3]; simp
    clear h1 h2 h3
    go_enter Try.func54, Try.ntmps54
    go_wp2_with fail
    go_ret
    exact ⟨ret_bool HE.out.symm, O0.out.2.2⟩
  have q3 : decide ((8 : Int) < (b.cons.length : Int)) = false := by simp; omega
  cases h4 : inZ b.elim 0 6 with
  | false =>
    rw [h4] at RL
    have HE : Hid (shapeB b = false) := by unfold Hid; rw [HX.out, h4]; simp
    clear h1 h2 h3 h4
    go_enter Try.func54, Try.ntmps54
    go_wp2_with fail
    refine (RL.out _).mono ?_
    rintro e w1 ⟨rfl, rfl⟩
    go_wp2_with fail
    go_ret
    exact ⟨ret_bool HE.out.symm, O0.out.2.2⟩
  | true =>
  rw [h4] at RL
  have HE : Hid (shapeB b = (sortsOk b b.sorts 0 && b.cons.all (conOk b))) := by unfold Hid; rw [HX.out, h4, decide_eq_true h3, show inZ (nsB b) 1 4 = true by rw [inZ_iff]; omega]; rfl
  clear h1 h2 h3 h4 HX
  go_enter Try.func54, Try.ntmps54
  go_wp2_with fail
  refine (RL.out _).mono ?_
  rintro e w1 ⟨rfl, rfl⟩
  go_wp2_with fail
  clear RL q1 q2 q3 q1b
  go_loopw [32] (fun x wr => ∃ j : Nat, j ≤ b.sorts.length ∧ x = .int .i64 j ∧ shapeB b = (sortsOk b (b.sorts.drop j) (j : Int) && b.cons.all (conOk b)) ∧ OneB w w.heap.size b (.slice ps b.sorts.length cs) (.slice pc b.cons.length cc) wr) (fun x _ => b.sorts.length - (RowKit.intOf x).toNat)
  case atStart => exact ⟨0, Nat.zero_le _, rfl, by rw [List.drop_zero, HE.out]; rfl, O0.out⟩
  case round =>
    clear HE O0
    obtain ⟨j, hj, rfl, he, hO⟩ := hrel
    by_cases hlt : j < b.sorts.length
    · have hsr := hO.2.1.1
      obtain ⟨B, off, ua, ut, rfl, ga, gt, k0, k1, k2, k3, k4, k5⟩ := SRow.at hsr hlt
      have hjc : j ≤ cs := by
        obtain ⟨_, _, c', _, e, h1, _⟩ := hsr.pos (by omega)
        cases e; omega
      have hjci : (j : Int) ≤ (cs : Int) := by omega
      obtain ⟨p1, c1, e1⟩ := ga.shape
      obtain ⟨p2, c2, e2⟩ := gt.shape
      subst e1 e2
      have hji : (j : Int) < (b.sorts.length : Int) := by omega
      have hj0 : (0 : Int) ≤ (j : Int) := by omega
      have hO2 := sts_start wr b.sorts b.sorts[j] _ _ _ hsr ga gt
      have hO3 := hO.bel hO2.2.2
      obtain ⟨w1, hw1⟩ : ∃ w1, w1 = wr.alloc (.cells #[.slice p1 b.sorts[j].idx.length c1, .int .i64 b.sorts[j].level, .bool b.sorts[j].dec, .int .i64 b.sorts[j].decT.k, .int .i64 b.sorts[j].decT.n, .slice p2 b.sorts[j].decT.kids.length c2] 29) := ⟨_, rfl⟩
      rw [← hw1] at hO2 hO3
      have CO := Lib.hid (fun W (hW : Below w1.heap.size w1 W) => RS.out j hlt W _ _ _ (GAt.bel hW (sortC_bel hW) (GAt.take hO2.2.1 (k := j) (by omega))) (ARow.bel hW hO2.1.2.1) (hO2.1.2.2.bel hW (Nat.le_refl _)))
      have OS := Lib.hid hO2
      have OB := Lib.hid hO3
      have HW := Lib.hid hw1
      rw [sortsOk_drop hlt] at he
      have HEE := Lib.hid he
      have HSR := Lib.hid hsr
      clear ga gt hO hO2 hO3 hw1 he hsr
      cases h5 : sortOk b b.sorts[j] (j : Int) with
      | false =>
        rw [h5] at CO HEE
        have HE : Hid (shapeB b = false) := by unfold Hid; rw [HEE.out]; rfl
        clear h5
        go_upto_region 6 with (fail)
        rw [← HW.out]
        clear k0 k1 k2 k3 k4 k5
        refine wp_region_rel (by kernel_rfl) (by kernel_rfl) (by kernel_rfl) ?_
        apply RelWalk.rest
        · kernel_rfl
        · intro X _ W hW hcl
          obtain ⟨s0, s1, s2, s3, s4, s5⟩ := OS.out.1.cells
          obtain ⟨y0, y1, y2⟩ := OB.out.cells
          have rS0 := fun q => gcell (hW q) s0
          have rS1 := fun q => gcell (hW q) s1
          have rS2 := fun q => gcell (hW q) s2
          have rS3 := fun q => gcell (hW q) s3
          have rS4 := fun q => gcell (hW q) s4
          have rS5 := fun q => gcell (hW q) s5
          have rB0 := fun q => gcell (hW q) y0
          clear s0 s1 s2 s3 s4 s5 y0 y1 y2
          have d0 := Lib.hid (fun q => into hcl (CO.out (W q) (hW q)))
          repeat (go_big_quiet_step (first | (with_reducible exact d0.out _)))
          exact wpQuiet_nil rfl
        intro gq w6 hg _
        have O6 := Lib.hid (OB.out.bel hg)
        clear hg
        simp only [Spread]
        go_wp2_with fail
        go_ret
        exact ⟨ret_bool HE.out.symm, O6.out.2.2⟩
      | true =>
        rw [h5] at CO HEE
        have HE : Hid (shapeB b = (sortsOk b (b.sorts.drop (j + 1)) ((j + 1 : Nat) : Int) && b.cons.all (conOk b))) := by unfold Hid; rw [HEE.out, Bool.true_and]
        clear h5
        go_upto_region 6 with (fail)
        rw [← HW.out]
        clear k0 k1 k2 k3 k4 k5
        refine wp_region_rel (by kernel_rfl) (by kernel_rfl) (by kernel_rfl) ?_
        apply RelWalk.rest
        · kernel_rfl
        · intro X _ W hW hcl
          obtain ⟨s0, s1, s2, s3, s4, s5⟩ := OS.out.1.cells
          obtain ⟨y0, y1, y2⟩ := OB.out.cells
          have rS0 := fun q => gcell (hW q) s0
          have rS1 := fun q => gcell (hW q) s1
          have rS2 := fun q => gcell (hW q) s2
          have rS3 := fun q => gcell (hW q) s3
          have rS4 := fun q => gcell (hW q) s4
          have rS5 := fun q => gcell (hW q) s5
          have rB0 := fun q => gcell (hW q) y0
          clear s0 s1 s2 s3 s4 s5 y0 y1 y2
          have d0 := Lib.hid (fun q => into hcl (CO.out (W q) (hW q)))
          repeat (go_big_quiet_step (first | (with_reducible exact d0.out _)))
          exact wpQuiet_nil rfl
        intro gq w6 hg _
        have O6 := Lib.hid (OB.out.bel hg)
        clear hg
        simp only [Spread]
        go_wp2_with fail
        go_roundw
        case rel => exact ⟨j + 1, hlt, by go_num, HE.out, O6.out⟩
        case measure => simp [RowKit.intOf]; omega
    · obtain rfl : j = b.sorts.length := by omega
      have hnl2 : ¬ (b.sorts.length : Int) < (b.sorts.length : Int) := by omega
      have HE : Hid (shapeB b = b.cons.all (conOk b)) := by unfold Hid; rw [he, List.drop_length]; rfl
      have O1 := Lib.hid hO
      obtain ⟨y0, y1, y2⟩ := O1.out.cells
      clear he hO RS hlt hj
      go_wp2_with fail
      clear y0 y1 y2 hnl2
      go_loopw [48] (fun x wr => ∃ j : Nat, j ≤ b.cons.length ∧ x = .int .i64 j ∧ shapeB b = (b.cons.drop j).all (conOk b) ∧ OneB w w.heap.size b (.slice ps b.sorts.length cs) (.slice pc b.cons.length cc) wr) (fun x _ => b.cons.length - (RowKit.intOf x).toNat)
      case atStart => exact ⟨0, Nat.zero_le _, rfl, by rw [List.drop_zero, HE.out], O1.out⟩
      case round =>
        clear HE O1
        obtain ⟨j, hj, rfl, he, hO⟩ := hrel
        by_cases hlt : j < b.cons.length
        · obtain ⟨B, off, ua, ui, ut, rfl, ga, gi, gt, k0, k1, k2, k3, k4, k5⟩ := CRow.at hO.2.1.2 hlt
          obtain ⟨p1, c1, e1⟩ := ga.shape
          obtain ⟨p2, c2, e2⟩ := gi.shape
          obtain ⟨p3, c3, e3⟩ := gt.shape
          subst e1 e2 e3
          have hji : (j : Int) < (b.cons.length : Int) := by omega
          have hj0 : (0 : Int) ≤ (j : Int) := by omega
          have hO2 := stc_start wr b.sorts b.cons[j] _ _ _ _ hO.2.1.1 ga gi gt
          have hO3 := hO.bel hO2.2.2
          obtain ⟨w1, hw1⟩ : ∃ w1, w1 = wr.alloc (.cells #[.int .i64 b.cons[j].sort, .slice p1 b.cons[j].args.length c1, .slice p2 b.cons[j].idx.length c2, .int .i64 b.cons[j].dec.k, .int .i64 b.cons[j].dec.n, .slice p3 b.cons[j].dec.kids.length c3] 35) := ⟨_, rfl⟩
          rw [← hw1] at hO2 hO3
          have CO := Lib.hid (RC.out j hlt w1 _ _ _ _ hO2.2.1 hO2.1.2.1 hO2.1.2.2.1 hO2.1.2.2.2)
          have OS := Lib.hid hO2
          have OB := Lib.hid hO3
          have HW := Lib.hid hw1
          rw [all_dropA hlt] at he
          have HEE := Lib.hid he
          clear ga gi gt hO hO2 hO3 hw1 he
          cases h5 : conOk b b.cons[j] with
          | false =>
            rw [h5] at CO HEE
            have HE : Hid (shapeB b = false) := by unfold Hid; rw [HEE.out]; rfl
            clear h5
            go_upto_region 12 with (fail)
            rw [← HW.out]
            clear k0 k1 k2 k3 k4 k5
            obtain ⟨s0, s1, s2, s3, s4, s5⟩ := OS.out.1.cells
            obtain ⟨y0, y1, y2⟩ := OB.out.cells
            go_wp2_with fail
            refine CO.out.mono ?_
            rintro e w6 ⟨rfl, hb6⟩
            have O6 := Lib.hid (OB.out.bel hb6)
            clear hb6 s0 s1 s2 s3 s4 s5 y0 y1 y2
            go_wp2_with fail
            go_ret
            exact ⟨ret_bool HE.out.symm, O6.out.2.2⟩
          | true =>
            rw [h5] at CO HEE
            have HE : Hid (shapeB b = (b.cons.drop (j + 1)).all (conOk b)) := by unfold Hid; rw [HEE.out, Bool.true_and]
            clear h5
            go_upto_region 12 with (fail)
            rw [← HW.out]
            clear k0 k1 k2 k3 k4 k5
            obtain ⟨s0, s1, s2, s3, s4, s5⟩ := OS.out.1.cells
            obtain ⟨y0, y1, y2⟩ := OB.out.cells
            go_wp2_with fail
            refine CO.out.mono ?_
            rintro e w6 ⟨rfl, hb6⟩
            have O6 := Lib.hid (OB.out.bel hb6)
            clear hb6 s0 s1 s2 s3 s4 s5 y0 y1 y2
            go_wp2_with fail
            go_roundw
            case rel => exact ⟨j + 1, hlt, by go_num, HE.out, O6.out⟩
            case measure => simp [RowKit.intOf]; omega
        · obtain rfl : j = b.cons.length := by omega
          have hnl2 : ¬ (b.cons.length : Int) < (b.cons.length : Int) := by omega
          have HE : Hid (shapeB b = true) := by unfold Hid; rw [he, List.drop_length]; rfl
          have O1 := Lib.hid hO
          clear he hO
          go_wp2_with fail
          go_ret
          exact ⟨ret_bool HE.out.symm, O1.out.2.2⟩
set_option maxRecDepth 100000 in
set_option maxHeartbeats 1000000 in
theorem scheckG_any (b : BlkT) (hG : SmallB b) (hF : b.fits) (w : World) (vs vc : Value) (hB : BAt w b vs vc) :
    Calls Try.prog 25 #[.agg #[vs, vc, .int .i64 b.elim]] w fun e w' => e = .returned (.int .i64 (if shapeB b then 0 else 12)) ∧ Below w.heap.size w w' := by
  obtain ⟨ps, cs, pc, cc, rfl, rfl⟩ := hB.shape
  have O0 := Lib.hid (oneb_start w b _ _ hB)
  have C := Lib.hid (sisblockG_any b hG hF _ _ _ O0.out.2.1)
  clear hB
  cases h : shapeB b with
  | true =>
    rw [h] at C
    go_enter Try.func25, Try.ntmps25
    go_wp2_with fail
    refine C.out.mono ?_
    rintro e w1 ⟨rfl, hb1⟩
    have O1 := Lib.hid (O0.out.bel hb1)
    clear hb1
    go_wp2_with fail
    go_ret
    exact ⟨ret_int rfl, O1.out.2.2⟩
  | false =>
    rw [h] at C
    go_enter Try.func25, Try.ntmps25
    go_wp2_with fail
    refine C.out.mono ?_
    rintro e w1 ⟨rfl, hb1⟩
    have O1 := Lib.hid (O0.out.bel hb1)
    clear hb1
    go_wp2_with fail
    go_ret
    exact ⟨ret_int rfl, O1.out.2.2⟩
end Go.Proofs.Ytggefpkfikimiaa
