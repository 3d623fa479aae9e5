/- The program's numbers of a block's constants. No conditions but sizes. -/
import Derived.Test.YtggefpkfikimiaaG25
import Derived.Test.YtggefpkfikimiaaG24
namespace Go.Proofs.Ytggefpkfikimiaa
open Go.RowKit
set_option linter.unusedVariables false

set_option maxRecDepth 100000 in
set_option maxHeartbeats 2000000 in
theorem sfirstcon_any (b : BlkT) (hs : blkN b ≤ 1048576) (w : World) (vs vc : Value) (hA : BAt w b vs vc) : Calls Try.prog 99 #[.agg #[vs, vc, .int .i64 b.elim]] w fun e w' => e = .returned (.int .i64 (nsB b + decsN b (nsB b))) ∧ Below w.heap.size w w' := by
  obtain ⟨ps, cs, pc, cc, rfl, rfl⟩ := hA.shape
  have hls := sortsN_len b.sorts
  have hlc := consN_len b.cons
  have hbn : blkN b = sortsN b.sorts + consN b.cons + 1 := rfl
  have hnn : nsB b = (b.sorts.length : Int) := rfl
  have hcn : ncB b = (b.cons.length : Int) := rfl
  have hsl : b.sorts.length ≤ 1048576 := by omega
  have hcl : b.cons.length ≤ 1048576 := by omega
  have hdr := decsN_range b (nsB b)
  have O0 := Lib.hid (oneb_start w b _ _ hA)
  clear hA hls hlc hbn
  have RD := Lib.hid (fun W hA => sdecoders_any b.sorts hsl W (.slice ps b.sorts.length cs) hA)
  rw [decsL_full] at RD
  obtain ⟨D, hD⟩ : ∃ D, D = decsN b (nsB b) := ⟨_, rfl⟩
  rw [← hD] at RD hdr ⊢
  have hw : IntKind.i64.wrap ((b.sorts.length : Int) + D) = (b.sorts.length : Int) + D := IntWalk.i64_in _ (by omega)
  have HV := Lib.hid (show (b.sorts.length : Int) + D = nsB b + D from rfl)
  clear hD
  go_enter Try.func99, Try.ntmps99
  go_wp2_with fail
  refine wp_region_rel (by kernel_rfl) (by kernel_rfl) (by kernel_rfl) ?_
  apply RelWalk.rest
  · kernel_rfl
  · intro X _ W hW hcl
    obtain ⟨z0, z1, z2⟩ := O0.out.cells
    have rP0 := fun q => gcell (hW q) z0
    clear z0 z1 z2
    have d0 := Lib.hid (fun q => into hcl (RD.out (W q) (GAt.bel (hW q) (sortC_bel (hW q)) O0.out.2.1.1)))
    repeat (go_big_quiet_step (first | (with_reducible exact d0.out _)))
    exact wpQuiet_nil rfl
  intro gq w5 hg _
  have O9 := Lib.hid (O0.out.bel hg)
  clear hg
  simp only [Spread]
  go_wp2_with fail
  go_ret
  exact ⟨ret_int HV.out, O9.out.2.2⟩
set_option maxRecDepth 100000 in
set_option maxHeartbeats 2000000 in
theorem sfirstelim_any (b : BlkT) (hs : blkN b ≤ 1048576) (w : World) (vs vc : Value) (hA : BAt w b vs vc) : Calls Try.prog 101 #[.agg #[vs, vc, .int .i64 b.elim]] w fun e w' => e = .returned (.int .i64 (nsB b + decsN b (nsB b) + ncB b)) ∧ Below w.heap.size w w' := by
  obtain ⟨ps, cs, pc, cc, rfl, rfl⟩ := hA.shape
  have hls := sortsN_len b.sorts
  have hlc := consN_len b.cons
  have hbn : blkN b = sortsN b.sorts + consN b.cons + 1 := rfl
  have hnn : nsB b = (b.sorts.length : Int) := rfl
  have hcn : ncB b = (b.cons.length : Int) := rfl
  have hsl : b.sorts.length ≤ 1048576 := by omega
  have hcl : b.cons.length ≤ 1048576 := by omega
  have hdr := decsN_range b (nsB b)
  have O0 := Lib.hid (oneb_start w b _ _ hA)
  clear hA hls hlc hbn
  have RD := Lib.hid (fun W hA => sfirstcon_any b hs W (.slice ps b.sorts.length cs) (.slice pc b.cons.length cc) hA)
  obtain ⟨D, hD⟩ : ∃ D, D = decsN b (nsB b) := ⟨_, rfl⟩
  rw [← hD] at RD hdr ⊢
  rw [hnn] at RD
  have hw : IntKind.i64.wrap ((b.sorts.length : Int) + D + (b.cons.length : Int)) = (b.sorts.length : Int) + D + (b.cons.length : Int) := IntWalk.i64_in _ (by omega)
  have HV := Lib.hid (show (b.sorts.length : Int) + D + (b.cons.length : Int) = nsB b + D + ncB b from rfl)
  clear hD
  go_enter Try.func101, Try.ntmps101
  go_wp2_with fail
  refine wp_region_rel (by kernel_rfl) (by kernel_rfl) (by kernel_rfl) ?_
  apply RelWalk.rest
  · kernel_rfl
  · intro X _ W hW hcl
    obtain ⟨z0, z1, z2⟩ := O0.out.cells
    have rP0 := fun q => gcell (hW q) z0
    have rP1 := fun q => gcell (hW q) z1
    have rP2 := fun q => gcell (hW q) z2
    clear z0 z1 z2
    have d0 := Lib.hid (fun q => into hcl (RD.out (W q) (O0.out.2.1.bel (hW q))))
    repeat (go_big_quiet_step (first | (with_reducible exact d0.out _)))
    exact wpQuiet_nil rfl
  intro gq w5 hg _
  have O9 := Lib.hid (O0.out.bel hg)
  clear hg
  simp only [Spread]
  go_wp2_with fail
  go_ret
  exact ⟨ret_int HV.out, O9.out.2.2⟩
set_option maxRecDepth 100000 in
set_option maxHeartbeats 2000000 in
theorem scount7_any (b : BlkT) (hs : blkN b ≤ 1048576) (w : World) (vs vc : Value) (hA : BAt w b vs vc) : Calls Try.prog 102 #[.agg #[vs, vc, .int .i64 b.elim]] w fun e w' => e = .returned (.int .i64 (countB b)) ∧ Below w.heap.size w w' := by
  obtain ⟨ps, cs, pc, cc, rfl, rfl⟩ := hA.shape
  have hls := sortsN_len b.sorts
  have hlc := consN_len b.cons
  have hbn : blkN b = sortsN b.sorts + consN b.cons + 1 := rfl
  have hnn : nsB b = (b.sorts.length : Int) := rfl
  have hcn : ncB b = (b.cons.length : Int) := rfl
  have hsl : b.sorts.length ≤ 1048576 := by omega
  have hcl : b.cons.length ≤ 1048576 := by omega
  have hdr := decsN_range b (nsB b)
  have O0 := Lib.hid (oneb_start w b _ _ hA)
  clear hA hls hlc hbn
  have RD := Lib.hid (fun W hA => sfirstelim_any b hs W (.slice ps b.sorts.length cs) (.slice pc b.cons.length cc) hA)
  have hcb : countB b = 2 * nsB b + decsN b (nsB b) + ncB b := rfl
  obtain ⟨D, hD⟩ : ∃ D, D = decsN b (nsB b) := ⟨_, rfl⟩
  rw [← hD] at RD hdr hcb
  rw [hnn, hcn] at RD
  have hw : IntKind.i64.wrap ((b.sorts.length : Int) + D + (b.cons.length : Int) + (b.sorts.length : Int)) = (b.sorts.length : Int) + D + (b.cons.length : Int) + (b.sorts.length : Int) := IntWalk.i64_in _ (by omega)
  have HV := Lib.hid (show (b.sorts.length : Int) + D + (b.cons.length : Int) + (b.sorts.length : Int) = countB b by omega)
  clear hD hcb
  go_enter Try.func102, Try.ntmps102
  go_wp2_with fail
  refine wp_region_rel (by kernel_rfl) (by kernel_rfl) (by kernel_rfl) ?_
  apply RelWalk.rest
  · kernel_rfl
  · intro X _ W hW hcl
    obtain ⟨z0, z1, z2⟩ := O0.out.cells
    have rP0 := fun q => gcell (hW q) z0
    have rP1 := fun q => gcell (hW q) z1
    have rP2 := fun q => gcell (hW q) z2
    clear z0 z1 z2
    have d0 := Lib.hid (fun q => into hcl (RD.out (W q) (O0.out.2.1.bel (hW q))))
    repeat (go_big_quiet_step (first | (with_reducible exact d0.out _)))
    exact wpQuiet_nil rfl
  intro gq w5 hg _
  have O9 := Lib.hid (O0.out.bel hg)
  clear hg
  simp only [Spread]
  go_wp2_with fail
  go_ret
  exact ⟨ret_int HV.out, O9.out.2.2⟩
end Go.Proofs.Ytggefpkfikimiaa
/- The program's Of: which constant of a block a number is. No conditions but sizes. -/
namespace Go.Proofs.Ytggefpkfikimiaa
open Go.RowKit
set_option linter.unusedVariables false

/-- The sort whose decoder has so many ahead of it. -/
def decFrom : List SortT → Nat → Int → Int | [], _, _ => 0 | s :: l, k, a => if s.dec then (if a = 0 then (k : Int) else decFrom l (k + 1) (a - 1)) else decFrom l (k + 1) a
theorem decFrom_drop {S : List SortT} {j : Nat} (h : j < S.length) (a : Int) : decFrom (S.drop j) j a = if S[j].dec then (if a = 0 then (j : Int) else decFrom (S.drop (j + 1)) (j + 1) (a - 1)) else decFrom (S.drop (j + 1)) (j + 1) a := by
  rw [List.drop_eq_getElem_cons h]; rfl
theorem decFrom_hit : ∀ (l : List SortT) (k K : Nat) (h : K < l.length), l[K].dec = true → decFrom l k (((l.take K).countP (·.dec) : Nat) : Int) = ((k + K : Nat) : Int)
  | s :: l, k, 0, h, hd => by
    have hd' : s.dec = true := by simpa using hd
    simp [decFrom, hd']
  | s :: l, k, K + 1, h, hd => by
    have hr := decFrom_hit l (k + 1) K (by simpa using h) (by simpa using hd)
    have e : k + 1 + K = k + (K + 1) := by omega
    rw [e] at hr
    cases hs : s.dec with
    | true =>
      have hc : ((s :: l).take (K + 1)).countP (·.dec) = (l.take K).countP (·.dec) + 1 := by simp [hs]
      rw [decFrom, if_pos hs, hc, if_neg (by omega), ← hr]
      congr 1
      omega
    | false =>
      have hc : ((s :: l).take (K + 1)).countP (·.dec) = (l.take K).countP (·.dec) := by simp [hs]
      rw [decFrom, if_neg (by rw [hs]; simp), hc, ← hr]
theorem first_no {f : Nat → Option (Int × Int)} (h : ∀ j, f j = none) : ∀ m, firstOf f m = none
  | 0 => rfl
  | m + 1 => by rw [firstOf, first_no h m]; exact h m
theorem of_bad (b : BlkT) {base n : Int} (h : inZ base 0 65535 = false) : ofB b base n = (0, 0) := by
  have h1 : ∀ k, ofAt b base n k = none := fun k => by
    unfold ofAt formerB decoderB elimB
    rw [h]
    simp only [Bool.false_and, Bool.false_eq_true, if_false]
    rw [if_neg (by omega), if_neg (by omega), if_neg (by omega)]
  have h2 : ∀ k, ofCt b base n k = none := fun k => by
    unfold ofCt ctorB
    rw [h]
    simp only [Bool.false_and, Bool.false_eq_true, if_false]
    rw [if_neg (by omega)]
  unfold ofB
  rw [first_no h1]
  simp only [first_no h2]
theorem of_neg (b : BlkT) {base n : Int} (h : n < 0) : ofB b base n = (0, 0) := by
  have h1 : ∀ k, ofAt b base n k = none := fun k => by
    unfold ofAt
    rw [if_neg (by omega), if_neg (by omega), if_neg (by omega)]
  have h2 : ∀ k, ofCt b base n k = none := fun k => by
    unfold ofCt
    rw [if_neg (by omega)]
  unfold ofB
  rw [first_no h1]
  simp only [first_no h2]
theorem of_out (b : BlkT) {base n : Int} (h0 : 0 ≤ base) (h1 : base ≤ 65535) (h : n < base ∨ base + countB b ≤ n) : ofB b base n = (0, 0) := by
  by_cases hn : n < 0
  · exact of_neg b hn
  · rcases of_full b h0 h1 (by omega : 0 ≤ n) with ⟨hr, _⟩ | ⟨_, he⟩
    · omega
    · exact he
/-- Of a number where the block's constants lie. -/
theorem of_in (b : BlkT) {base n : Int} (h0 : 0 ≤ base) (h1 : base ≤ 65535) (hn : base ≤ n) (hn2 : n < base + countB b) :
    (n - base < nsB b → ofB b base n = (3, n - base)) ∧ (nsB b ≤ n - base → n - base < nsB b + decsN b (nsB b) → ofB b base n = (4, decFrom b.sorts 0 (n - base - nsB b))) ∧
    (nsB b + decsN b (nsB b) ≤ n - base → n - base < nsB b + decsN b (nsB b) + ncB b → ofB b base n = (5, n - base - (nsB b + decsN b (nsB b)))) ∧
    (nsB b + decsN b (nsB b) + ncB b ≤ n - base → ofB b base n = (6, n - base - (nsB b + decsN b (nsB b) + ncB b))) := by
  have n0 : 0 ≤ nsB b := by unfold nsB; omega
  have c0 : 0 ≤ ncB b := by unfold ncB; omega
  have d2 := decsN_range b (nsB b)
  rcases of_full b h0 h1 (by omega : 0 ≤ n) with ⟨_, v, h⟩ | ⟨h, _⟩
  · rcases h with ⟨he, hv⟩ | ⟨he, hv⟩ | ⟨he, hv⟩ | ⟨he, hv⟩
    · rw [former_eq b h0 h1] at hv
      split at hv
      · rename_i hz
        have := inZ_iff.1 hz
        refine ⟨fun _ => ?_, fun _ _ => ?_, fun _ _ => ?_, fun _ => ?_⟩
        · rw [he, show v = n - base by omega]
        all_goals omega
      · omega
    · rw [decoder_eq b h0 h1] at hv
      split at hv
      · rename_i hz
        rw [Bool.and_eq_true] at hz
        have hz1 := inZ_iff.1 hz.1
        obtain ⟨K, rfl⟩ : ∃ K : Nat, v = (K : Int) := ⟨v.toNat, by omega⟩
        have hK : K < b.sorts.length := by unfold nsB at hz1; omega
        have hd : b.sorts[K].dec = true := by rw [← hasDec_at b hK]; exact hz.2
        have hlt := decs_lt b hK hd
        have hr := decsN_range b (K : Int)
        refine ⟨fun _ => ?_, fun _ _ => ?_, fun _ _ => ?_, fun _ => ?_⟩
        · omega
        · rw [he, show n - base - nsB b = decsN b (K : Int) by omega, decsN_nat, decFrom_hit b.sorts 0 K hK hd, Nat.zero_add]
        all_goals omega
      · omega
    · rw [elim_eq b h0 h1] at hv
      split at hv
      · rename_i hz
        have := inZ_iff.1 hz
        refine ⟨fun _ => ?_, fun _ _ => ?_, fun _ _ => ?_, fun _ => ?_⟩
        · omega
        · omega
        · omega
        · rw [he]; congr 1; omega
      · omega
    · rw [ctor_eq b h0 h1] at hv
      split at hv
      · rename_i hz
        have := inZ_iff.1 hz
        refine ⟨fun _ => ?_, fun _ _ => ?_, fun _ _ => ?_, fun _ => ?_⟩
        · omega
        · omega
        · rw [he]; congr 1; omega
        · omega
      · omega
  · omega
set_option maxRecDepth 100000 in
set_option maxHeartbeats 2000000 in
theorem sdecoded_any (S : List SortT) (hs : S.length ≤ 1048576) (a : Int) (h0 : 0 ≤ a) (h1 : a ≤ 1048576) (w : World) (v : Value) (hA : SRow w S v) : Calls Try.prog 100 #[v, .int .i64 a] w fun e w' => e = .returned (.int .i64 (decFrom S 0 a)) ∧ Below w.heap.size w w' := by
  obtain ⟨pa, cap, rfl⟩ := hA.shape
  have HA := Lib.hid hA
  clear hA
  go_enter Try.func100, Try.ntmps100
  go_wp2_with fail
  go_loopw [1, 9] (fun n i wr => ∃ (j : Nat) (c : Int), j ≤ S.length ∧ 0 ≤ c ∧ c ≤ 1048576 ∧ i = .int .i64 j ∧ n = .int .i64 c ∧ decFrom S 0 a = decFrom (S.drop j) j c ∧ Below w.heap.size w wr) (fun _ i _ => S.length - (RowKit.intOf i).toNat)
  case atStart => exact ⟨0, a, Nat.zero_le _, h0, h1, rfl, rfl, by rw [List.drop_zero], Below.refl _ _⟩
  case round =>
    clear h0 h1
    obtain ⟨j, c, hj, h0, h1, rfl, rfl, he, hb⟩ := hrel
    by_cases hlt : j < S.length
    · obtain ⟨B, off, va, vt, rfl, ga, gt, k0, k1, k2, k3, k4, k5⟩ := SRow.at (GAt.bel hb (sortC_bel hb) HA.out) hlt
      obtain ⟨p1, c1, rfl⟩ := ga.shape
      obtain ⟨p2, c2, rfl⟩ := gt.shape
      have HB := Lib.hid hb
      have HBX := Lib.hid (below_al wr (.cells #[.slice p1 S[j].idx.length c1, .int .i64 S[j].level, .bool S[j].dec, .int .i64 S[j].decT.k, .int .i64 S[j].decT.n, .slice p2 S[j].decT.kids.length c2] 29))
      have hji : (j : Int) < (S.length : Int) := by omega
      have hj0 : (0 : Int) ≤ (j : Int) := by omega
      rw [decFrom_drop hlt] at he
      clear ga gt hb
      cases hd : S[j].dec with
      | false =>
        rw [hd] at k2 HBX he
        have HE := Lib.hid (show decFrom S 0 a = decFrom (S.drop (j + 1)) (j + 1) c by rw [he]; rfl)
        clear hd he
        go_wp2_with fail
        go_roundw
        case rel => exact ⟨j + 1, c, hlt, h0, h1, by go_num, rfl, HE.out, HB.out.trans (HBX.out.mono HB.out.size)⟩
        case measure => simp [RowKit.intOf]; omega
      | true =>
        rw [hd] at k2 HBX he
        by_cases hc : c = 0
        · subst hc
          have HE := Lib.hid (show decFrom S 0 a = (j : Int) by rw [he]; rfl)
          clear hd he
          go_wp2_with fail
          go_ret
          exact ⟨ret_int HE.out.symm, HB.out.trans (HBX.out.mono HB.out.size)⟩
        · have HE := Lib.hid (show decFrom S 0 a = decFrom (S.drop (j + 1)) (j + 1) (c - 1) by rw [he, if_pos rfl, if_neg hc])
          have qc : (c == 0) = false := by rw [beq_eq_false_iff_ne]; exact hc
          have hw : IntKind.i64.wrap (c - 1) = c - 1 := IntWalk.i64_in _ (by omega)
          clear hd he
          go_wp2_with fail
          go_roundw
          case rel => exact ⟨j + 1, c - 1, hlt, by omega, by omega, by go_num, rfl, HE.out, HB.out.trans (HBX.out.mono HB.out.size)⟩
          case measure => simp [RowKit.intOf]; omega
    · obtain rfl : j = S.length := by omega
      have hnl : ¬ (S.length : Int) < (S.length : Int) := by omega
      have HB := Lib.hid hb
      have HE := Lib.hid (show decFrom S 0 a = 0 by rw [he, List.drop_length]; rfl)
      clear hb he
      go_wp2_with fail
      go_ret
      exact ⟨ret_int HE.out.symm, HB.out⟩
set_option maxRecDepth 100000 in
set_option maxHeartbeats 2000000 in
theorem sof_any (b : BlkT) (hs : blkN b ≤ 1048576) (base n : Int) (hI : I64 n) (w : World) (vs vc : Value) (hA : BAt w b vs vc) :
    Calls Try.prog 91 #[.agg #[vs, vc, .int .i64 b.elim], .int .i64 base, .int .i64 n] w fun e w' => e = .returned (.tuple #[.int .i64 (ofB b base n).1, .int .i64 (ofB b base n).2]) ∧ Below w.heap.size w w' := by
  obtain ⟨ps, cs, pc, cc, rfl, rfl⟩ := hA.shape
  have hls := sortsN_len b.sorts
  have hlc := consN_len b.cons
  have hbn : blkN b = sortsN b.sorts + consN b.cons + 1 := rfl
  have hnn : nsB b = (b.sorts.length : Int) := rfl
  have hcn : ncB b = (b.cons.length : Int) := rfl
  have hsl : b.sorts.length ≤ 1048576 := by omega
  have hcl : b.cons.length ≤ 1048576 := by omega
  have hdr := decsN_range b (nsB b)
  have hcnt : countB b = 2 * nsB b + decsN b (nsB b) + ncB b := rfl
  have O0 := Lib.hid (oneb_start w b _ _ hA)
  have RB := Lib.hid (fun W => sbase_any base W)
  have RC := Lib.hid (fun W hA => sfirstcon_any b hs W (.slice ps b.sorts.length cs) (.slice pc b.cons.length cc) hA)
  have RE := Lib.hid (fun W hA => sfirstelim_any b hs W (.slice ps b.sorts.length cs) (.slice pc b.cons.length cc) hA)
  have RN := Lib.hid (fun W hA => scount7_any b hs W (.slice ps b.sorts.length cs) (.slice pc b.cons.length cc) hA)
  clear hA hls hlc hbn
  unfold I64 at hI
  cases h1 : inZ base 0 65535 with
  | false =>
    rw [h1] at RB
    have HE := Lib.hid (of_bad b (n := n) h1)
    clear h1
    go_enter Try.func91, Try.ntmps91
    go_wp2_with fail
    refine (RB.out _).mono ?_
    rintro e w1 ⟨rfl, rfl⟩
    go_wp2_with fail
    exact bodyPost_ret (v := .tuple #[.int .i64 0, .int .i64 0]) (by simp [results, Try.f91, go_sem]) rfl ⟨by rw [HE.out], O0.out.2.2⟩
  | true =>
  rw [h1] at RB
  obtain ⟨hb0, hb1⟩ := inZ_iff.1 h1
  by_cases h2 : n < base
  · have q2 : decide (n < base) = true := decide_eq_true h2
    have q2b : (n < base) = True := eq_true h2
    have HE := Lib.hid (of_out b hb0 hb1 (.inl h2))
    clear h1
    go_enter Try.func91, Try.ntmps91
    go_wp2_with fail
    refine (RB.out _).mono ?_
    rintro e w1 ⟨rfl, rfl⟩
    go_wp2_with fail
    exact bodyPost_ret (v := .tuple #[.int .i64 0, .int .i64 0]) (by simp [results, Try.f91, go_sem]) rfl ⟨by rw [HE.out], O0.out.2.2⟩
  have q2 : decide (n < base) = false := decide_eq_false h2
  obtain ⟨C, hC⟩ : ∃ C, C = nsB b + decsN b (nsB b) := ⟨_, rfl⟩
  obtain ⟨E, hE⟩ : ∃ E, E = C + ncB b := ⟨_, rfl⟩
  obtain ⟨A, hAe⟩ : ∃ A, A = n - base := ⟨_, rfl⟩
  have HOF : Hid (n < base + countB b → (A < nsB b → ofB b base n = (3, A)) ∧ (nsB b ≤ A → A < C → ofB b base n = (4, decFrom b.sorts 0 (A - nsB b))) ∧ (C ≤ A → A < E → ofB b base n = (5, A - C)) ∧ (E ≤ A → ofB b base n = (6, A - E))) := by
    intro h
    subst hAe hC hE
    exact of_in b hb0 hb1 (by omega) h
  have HOUT : Hid (base + countB b ≤ n → ofB b base n = (0, 0)) := fun h => of_out b hb0 hb1 (.inr h)
  rw [← hC] at RC
  rw [← hC, ← hE] at RE
  have hw : IntKind.i64.wrap (n - base) = A := by rw [hAe]; exact IntWalk.i64_in _ (by omega)
  have hA0 : 0 ≤ A := by omega
  have hcA : n < base + countB b ↔ A < countB b := by omega
  have hE2 : countB b ≤ E + nsB b ∧ E + nsB b ≤ countB b := by omega
  have hCr : nsB b ≤ C ∧ C ≤ 2 * nsB b ∧ C ≤ E ∧ E ≤ C + 1048576 := by omega
  have hA9 : A < 9223372036854775808 := by omega
  clear h1 hcnt hAe hC hE
  by_cases g1 : A < (b.sorts.length : Int)
  · have q1 : decide (A < (b.sorts.length : Int)) = true := decide_eq_true g1
    have q1b : (A < (b.sorts.length : Int)) = True := eq_true g1
    have HE := Lib.hid ((HOF.out (by omega)).1 (by omega))
    clear h2
    go_enter Try.func91, Try.ntmps91
    go_wp2_with fail
    refine (RB.out _).mono ?_
    rintro e w1 ⟨rfl, rfl⟩
    go_wp2_with fail
    exact bodyPost_ret (v := .tuple #[.int .i64 3, .int .i64 A]) (by simp [results, Try.f91, go_sem]) rfl ⟨by rw [HE.out], O0.out.2.2⟩
  have q1 : decide (A < (b.sorts.length : Int)) = false := decide_eq_false g1
  by_cases g2 : A < C
  · have q3 : decide (A < C) = true := decide_eq_true g2
    have q3b : (A < C) = True := eq_true g2
    have HE := Lib.hid ((HOF.out (by omega)).2.1 (by omega) g2)
    have RD := Lib.hid (fun W hA => sdecoded_any b.sorts hsl (A - nsB b) (by omega) (by omega) W (.slice ps b.sorts.length cs) hA)
    rw [hnn] at RD HE
    have hw2 : IntKind.i64.wrap (A - (b.sorts.length : Int)) = A - (b.sorts.length : Int) := IntWalk.i64_in _ (by omega)
    clear h2 g2
    go_enter Try.func91, Try.ntmps91
    go_wp2_with fail
    refine (RB.out _).mono ?_
    rintro e w1 ⟨rfl, rfl⟩
    go_wp2_with fail
    refine (RC.out _ O0.out.2.1).mono ?_
    rintro e w1 ⟨rfl, hb⟩
    have O1 := Lib.hid (O0.out.bel hb)
    obtain ⟨y0, y1, y2⟩ := O1.out.cells
    clear hb
    go_wp2_with fail
    refine (RD.out _ O1.out.2.1.1).mono ?_
    rintro e w2 ⟨rfl, hb⟩
    have O2 := Lib.hid (O1.out.bel hb)
    clear hb y0 y1 y2
    go_wp2_with fail
    exact bodyPost_ret (v := .tuple #[.int .i64 4, .int .i64 (decFrom b.sorts 0 (A - (b.sorts.length : Int)))]) (by simp [results, Try.f91, go_sem]) rfl ⟨by rw [HE.out], O2.out.2.2⟩
  have q3 : decide (A < C) = false := decide_eq_false g2
  by_cases g3 : A < E
  · have q4 : decide (A < E) = true := decide_eq_true g3
    have q4b : (A < E) = True := eq_true g3
    have HE := Lib.hid ((HOF.out (by omega)).2.2.1 (by omega) g3)
    have hw2 : IntKind.i64.wrap (A - C) = A - C := IntWalk.i64_in _ (by omega)
    clear h2 g2 g3
    go_enter Try.func91, Try.ntmps91
    go_wp2_with fail
    refine (RB.out _).mono ?_
    rintro e w1 ⟨rfl, rfl⟩
    go_wp2_with fail
    refine (RC.out _ O0.out.2.1).mono ?_
    rintro e w1 ⟨rfl, hb⟩
    have O1 := Lib.hid (O0.out.bel hb)
    obtain ⟨y0, y1, y2⟩ := O1.out.cells
    clear hb
    go_wp2_with fail
    clear y0 y1 y2
    refine (RE.out _ O1.out.2.1).mono ?_
    rintro e w2 ⟨rfl, hb⟩
    have O2 := Lib.hid (O1.out.bel hb)
    obtain ⟨y0, y1, y2⟩ := O2.out.cells
    clear hb
    go_wp2_with fail
    clear y0 y1 y2
    refine (RC.out _ O2.out.2.1).mono ?_
    rintro e w3 ⟨rfl, hb⟩
    have O3 := Lib.hid (O2.out.bel hb)
    obtain ⟨y0, y1, y2⟩ := O3.out.cells
    clear hb
    go_wp2_with fail
    exact bodyPost_ret (v := .tuple #[.int .i64 5, .int .i64 (A - C)]) (by simp [results, Try.f91, go_sem]) rfl ⟨by rw [HE.out], O3.out.2.2⟩
  have q4 : decide (A < E) = false := decide_eq_false g3
  by_cases g4 : A < countB b
  · have q5 : decide (A < countB b) = true := decide_eq_true g4
    have q5b : (A < countB b) = True := eq_true g4
    have HE := Lib.hid ((HOF.out (by omega)).2.2.2 (by omega))
    have hw2 : IntKind.i64.wrap (A - E) = A - E := IntWalk.i64_in _ (by omega)
    clear h2 g2 g3 g4
    go_enter Try.func91, Try.ntmps91
    go_wp2_with fail
    refine (RB.out _).mono ?_
    rintro e w1 ⟨rfl, rfl⟩
    go_wp2_with fail
    refine (RC.out _ O0.out.2.1).mono ?_
    rintro e w1 ⟨rfl, hb⟩
    have O1 := Lib.hid (O0.out.bel hb)
    obtain ⟨y0, y1, y2⟩ := O1.out.cells
    clear hb
    go_wp2_with fail
    clear y0 y1 y2
    refine (RE.out _ O1.out.2.1).mono ?_
    rintro e w2 ⟨rfl, hb⟩
    have O2 := Lib.hid (O1.out.bel hb)
    obtain ⟨y0, y1, y2⟩ := O2.out.cells
    clear hb
    go_wp2_with fail
    clear y0 y1 y2
    refine (RN.out _ O2.out.2.1).mono ?_
    rintro e w3 ⟨rfl, hb⟩
    have O3 := Lib.hid (O2.out.bel hb)
    obtain ⟨y0, y1, y2⟩ := O3.out.cells
    clear hb
    go_wp2_with fail
    clear y0 y1 y2
    refine (RE.out _ O3.out.2.1).mono ?_
    rintro e w4 ⟨rfl, hb⟩
    have O4 := Lib.hid (O3.out.bel hb)
    obtain ⟨y0, y1, y2⟩ := O4.out.cells
    clear hb
    go_wp2_with fail
    exact bodyPost_ret (v := .tuple #[.int .i64 6, .int .i64 (A - E)]) (by simp [results, Try.f91, go_sem]) rfl ⟨by rw [HE.out], O4.out.2.2⟩
  · have q5 : decide (A < countB b) = false := decide_eq_false g4
    have HE := Lib.hid (HOUT.out (by omega))
    clear h2 g2 g3 g4
    go_enter Try.func91, Try.ntmps91
    go_wp2_with fail
    refine (RB.out _).mono ?_
    rintro e w1 ⟨rfl, rfl⟩
    go_wp2_with fail
    refine (RC.out _ O0.out.2.1).mono ?_
    rintro e w1 ⟨rfl, hb⟩
    have O1 := Lib.hid (O0.out.bel hb)
    obtain ⟨y0, y1, y2⟩ := O1.out.cells
    clear hb
    go_wp2_with fail
    clear y0 y1 y2
    refine (RE.out _ O1.out.2.1).mono ?_
    rintro e w2 ⟨rfl, hb⟩
    have O2 := Lib.hid (O1.out.bel hb)
    obtain ⟨y0, y1, y2⟩ := O2.out.cells
    clear hb
    go_wp2_with fail
    clear y0 y1 y2
    refine (RN.out _ O2.out.2.1).mono ?_
    rintro e w3 ⟨rfl, hb⟩
    have O3 := Lib.hid (O2.out.bel hb)
    obtain ⟨y0, y1, y2⟩ := O3.out.cells
    clear hb
    go_wp2_with fail
    exact bodyPost_ret (v := .tuple #[.int .i64 0, .int .i64 0]) (by simp [results, Try.f91, go_sem]) rfl ⟨by rw [HE.out], O3.out.2.2⟩
end Go.Proofs.Ytggefpkfikimiaa
