/- The program's numbers of a block's constants. No conditions but sizes. -/
import Derived.Test.YtggefpkfikimiaaGreatG26
import Derived.Test.YtggefpkfikimiaaGreatG25
import Derived.Test.YtggefpkfikimiaaGreatG17
namespace Go.Proofs.YtggefpkfikimiaaGreat
open Go.RowKit
set_option linter.unusedVariables false

set_option maxRecDepth 100000 in
set_option maxHeartbeats 2000000 in
theorem sfirstcon_any (b : BlkT) (hs : blkN b ≤ 1048576) (w : World) (vs vc : Value) (hA : BAt w b vs vc) : Calls Tryz.prog 96 #[.agg #[vs, vc, .int .i64 b.elim]] w fun e w' => e = .returned (.int .i64 (nsB b + decsN b (nsB b))) ∧ Below w.heap.size w w' := by
  obtain ⟨ps, cs, pc, cc, rfl, rfl⟩ := hA.shape
  have hls := sortsN_len b.sorts
  have hlc := consN_len b.cons
  have hbn : blkN b = sortsN b.sorts + consN b.cons + 1 := rfl
  have hnn : nsB b = (b.sorts.length : Int) := rfl
  have hcn : ncB b = (b.cons.length : Int) := rfl
  have hsl : b.sorts.length ≤ 1048576 := by omega
  have hcl : b.cons.length ≤ 1048576 := by omega
  have hdr := decsN_range b (nsB b)
  have O0 := Lib.hid (oneb_start w b _ _ hA)
  clear hA hls hlc hbn
  have RD := Lib.hid (fun W hA => sdecoders_any b.sorts hsl W (.slice ps b.sorts.length cs) hA)
  rw [decsL_full] at RD
  obtain ⟨D, hD⟩ : ∃ D, D = decsN b (nsB b) := ⟨_, rfl⟩
  rw [← hD] at RD hdr ⊢
  have hw : IntKind.i64.wrap ((b.sorts.length : Int) + D) = (b.sorts.length : Int) + D := IntWalk.i64_in _ (by omega)
  have HV := Lib.hid (show (b.sorts.length : Int) + D = nsB b + D from rfl)
  clear hD
  go_enter Tryz.func96, Tryz.ntmps96
  go_wp2_with fail
  refine wp_region_rel (by kernel_rfl) (by kernel_rfl) (by kernel_rfl) ?_
  apply RelWalk.rest
  · kernel_rfl
  · intro X _ W hW hcl
    obtain ⟨z0, z1, z2⟩ := O0.out.cells
    have rP0 := fun q => gcell (hW q) z0
    clear z0 z1 z2
    have d0 := Lib.hid (fun q => into hcl (RD.out (W q) (GAt.bel (hW q) (sortC_bel (hW q)) O0.out.2.1.1)))
    repeat (go_big_quiet_step (first | (with_reducible exact d0.out _)))
    exact wpQuiet_nil rfl
  intro gq w5 hg _
  have O9 := Lib.hid (O0.out.bel hg)
  clear hg
  simp only [Spread]
  go_wp2_with fail
  go_ret
  exact ⟨ret_int HV.out, O9.out.2.2⟩
set_option maxRecDepth 100000 in
set_option maxHeartbeats 2000000 in
theorem sfirstelim_any (b : BlkT) (hs : blkN b ≤ 1048576) (w : World) (vs vc : Value) (hA : BAt w b vs vc) : Calls Tryz.prog 98 #[.agg #[vs, vc, .int .i64 b.elim]] w fun e w' => e = .returned (.int .i64 (nsB b + decsN b (nsB b) + ncB b)) ∧ Below w.heap.size w w' := by
  obtain ⟨ps, cs, pc, cc, rfl, rfl⟩ := hA.shape
  have hls := sortsN_len b.sorts
  have hlc := consN_len b.cons
  have hbn : blkN b = sortsN b.sorts + consN b.cons + 1 := rfl
  have hnn : nsB b = (b.sorts.length : Int) := rfl
  have hcn : ncB b = (b.cons.length : Int) := rfl
  have hsl : b.sorts.length ≤ 1048576 := by omega
  have hcl : b.cons.length ≤ 1048576 := by omega
  have hdr := decsN_range b (nsB b)
  have O0 := Lib.hid (oneb_start w b _ _ hA)
  clear hA hls hlc hbn
  have RD := Lib.hid (fun W hA => sfirstcon_any b hs W (.slice ps b.sorts.length cs) (.slice pc b.cons.length cc) hA)
  obtain ⟨D, hD⟩ : ∃ D, D = decsN b (nsB b) := ⟨_, rfl⟩
  rw [← hD] at RD hdr ⊢
  rw [hnn] at RD
  have hw : IntKind.i64.wrap ((b.sorts.length : Int) + D + (b.cons.length : Int)) = (b.sorts.length : Int) + D + (b.cons.length : Int) := IntWalk.i64_in _ (by omega)
  have HV := Lib.hid (show (b.sorts.length : Int) + D + (b.cons.length : Int) = nsB b + D + ncB b from rfl)
  clear hD
  go_enter Tryz.func98, Tryz.ntmps98
  go_wp2_with fail
  refine wp_region_rel (by kernel_rfl) (by kernel_rfl) (by kernel_rfl) ?_
  apply RelWalk.rest
  · kernel_rfl
  · intro X _ W hW hcl
    obtain ⟨z0, z1, z2⟩ := O0.out.cells
    have rP0 := fun q => gcell (hW q) z0
    have rP1 := fun q => gcell (hW q) z1
    have rP2 := fun q => gcell (hW q) z2
    clear z0 z1 z2
    have d0 := Lib.hid (fun q => into hcl (RD.out (W q) (O0.out.2.1.bel (hW q))))
    repeat (go_big_quiet_step (first | (with_reducible exact d0.out _)))
    exact wpQuiet_nil rfl
  intro gq w5 hg _
  have O9 := Lib.hid (O0.out.bel hg)
  clear hg
  simp only [Spread]
  go_wp2_with fail
  go_ret
  exact ⟨ret_int HV.out, O9.out.2.2⟩
set_option maxRecDepth 100000 in
set_option maxHeartbeats 2000000 in
theorem scount7_any (b : BlkT) (hs : blkN b ≤ 1048576) (w : World) (vs vc : Value) (hA : BAt w b vs vc) : Calls Tryz.prog 99 #[.agg #[vs, vc, .int .i64 b.elim]] w fun e w' => e = .returned (.int .i64 (countB b)) ∧ Below w.heap.size w w' := by
  obtain ⟨ps, cs, pc, cc, rfl, rfl⟩ := hA.shape
  have hls := sortsN_len b.sorts
  have hlc := consN_len b.cons
  have hbn : blkN b = sortsN b.sorts + consN b.cons + 1 := rfl
  have hnn : nsB b = (b.sorts.length : Int) := rfl
  have hcn : ncB b = (b.cons.length : Int) := rfl
  have hsl : b.sorts.length ≤ 1048576 := by omega
  have hcl : b.cons.length ≤ 1048576 := by omega
  have hdr := decsN_range b (nsB b)
  have O0 := Lib.hid (oneb_start w b _ _ hA)
  clear hA hls hlc hbn
  have RD := Lib.hid (fun W hA => sfirstelim_any b hs W (.slice ps b.sorts.length cs) (.slice pc b.cons.length cc) hA)
  have hcb : countB b = 2 * nsB b + decsN b (nsB b) + ncB b := rfl
  obtain ⟨D, hD⟩ : ∃ D, D = decsN b (nsB b) := ⟨_, rfl⟩
  rw [← hD] at RD hdr hcb
  rw [hnn, hcn] at RD
  have hw : IntKind.i64.wrap ((b.sorts.length : Int) + D + (b.cons.length : Int) + (b.sorts.length : Int)) = (b.sorts.length : Int) + D + (b.cons.length : Int) + (b.sorts.length : Int) := IntWalk.i64_in _ (by omega)
  have HV := Lib.hid (show (b.sorts.length : Int) + D + (b.cons.length : Int) + (b.sorts.length : Int) = countB b by omega)
  clear hD hcb
  go_enter Tryz.func99, Tryz.ntmps99
  go_wp2_with fail
  refine wp_region_rel (by kernel_rfl) (by kernel_rfl) (by kernel_rfl) ?_
  apply RelWalk.rest
  · kernel_rfl
  · intro X _ W hW hcl
    obtain ⟨z0, z1, z2⟩ := O0.out.cells
    have rP0 := fun q => gcell (hW q) z0
    have rP1 := fun q => gcell (hW q) z1
    have rP2 := fun q => gcell (hW q) z2
    clear z0 z1 z2
    have d0 := Lib.hid (fun q => into hcl (RD.out (W q) (O0.out.2.1.bel (hW q))))
    repeat (go_big_quiet_step (first | (with_reducible exact d0.out _)))
    exact wpQuiet_nil rfl
  intro gq w5 hg _
  have O9 := Lib.hid (O0.out.bel hg)
  clear hg
  simp only [Spread]
  go_wp2_with fail
  go_ret
  exact ⟨ret_int HV.out, O9.out.2.2⟩
end Go.Proofs.YtggefpkfikimiaaGreat
/- The program's Of: which constant of a block a number is. No conditions but sizes. -/
namespace Go.Proofs.YtggefpkfikimiaaGreat
open Go.RowKit
set_option linter.unusedVariables false

/-- The sort whose decoder has so many ahead of it. -/
def decFrom : List SortT → Nat → Int → Int | [], _, _ => 0 | s :: l, k, a => if s.dec then (if a = 0 then (k : Int) else decFrom l (k + 1) (a - 1)) else decFrom l (k + 1) a
theorem decFrom_drop {S : List SortT} {j : Nat} (h : j < S.length) (a : Int) : decFrom (S.drop j) j a = if S[j].dec then (if a = 0 then (j : Int) else decFrom (S.drop (j + 1)) (j + 1) (a - 1)) else decFrom (S.drop (j + 1)) (j + 1) a := by
  rw [List.drop_eq_getElem_cons h]; rfl
theorem decFrom_hit : ∀ (l : List SortT) (k K : Nat) (h : K < l.length), l[K].dec = true → decFrom l k (((l.take K).countP (·.dec) : Nat) : Int) = ((k + K : Nat) : Int)
  | s :: l, k, 0, h, hd => by
    have hd' : s.dec = true := by simpa using hd
    simp [decFrom, hd']
  | s :: l, k, K + 1, h, hd => by
    have hr := decFrom_hit l (k + 1) K (by simpa using h) (by simpa using hd)
    have e : k + 1 + K = k + (K + 1) := by omega
    rw [e] at hr
    cases hs : s.dec with
    | true =>
      have hc : ((s :: l).take (K + 1)).countP (·.dec) = (l.take K).countP (·.dec) + 1 := by simp [hs]
      rw [decFrom, if_pos hs, hc, if_neg (by omega), ← hr]
      congr 1
      omega
    | false =>
      have hc : ((s :: l).take (K + 1)).countP (·.dec) = (l.take K).countP (·.dec) := by simp [hs]
      rw [decFrom, if_neg (by rw [hs]; simp), hc, ← hr]
theorem first_no {f : Nat → Option (Int × Int)} (h : ∀ j, f j = none) : ∀ m, firstOf f m = none
  | 0 => rfl
  | m + 1 => by rw [firstOf, first_no h m]; exact h m
theorem of_bad (b : BlkT) {base n : Int} (h : inZ base 0 65535 = false) : ofB b base n = (0, 0) := by
  have h1 : ∀ k, ofAt b base n k = none := fun k => by
    unfold ofAt formerB decoderB elimB
    rw [h]
    simp only [Bool.false_and, Bool.false_eq_true, if_false]
    rw [if_neg (by omega), if_neg (by omega), if_neg (by omega)]
  have h2 : ∀ k, ofCt b base n k = none := fun k => by
    unfold ofCt ctorB
    rw [h]
    simp only [Bool.false_and, Bool.false_eq_true, if_false]
    rw [if_neg (by omega)]
  unfold ofB
  rw [first_no h1]
  simp only [first_no h2]
theorem of_neg (b : BlkT) {base n : Int} (h : n < 0) : ofB b base n = (0, 0) := by
  have h1 : ∀ k, ofAt b base n k = none := fun k => by
    unfold ofAt
    rw [if_neg (by omega), if_neg (by omega), if_neg (by omega)]
  have h2 : ∀ k, ofCt b base n k = none := fun k => by
    unfold ofCt
    rw [if_neg (by omega)]
  unfold ofB
  rw [first_no h1]
  simp only [first_no h2]
theorem of_out (b : BlkT) {base n : Int} (h0 : 0 ≤ base) (h1 : base ≤ 65535) (h : n < base ∨ base + countB b ≤ n) : ofB b base n = (0, 0) := by
  by_cases hn : n < 0
  · exact of_neg b hn
  · rcases of_full b h0 h1 (by omega : 0 ≤ n) with ⟨hr, _⟩ | ⟨_, he⟩
    · omega
    · exact he
/-- Of a number where the block's constants lie. -/
theorem of_in (b : BlkT) {base n : Int} (h0 : 0 ≤ base) (h1 : base ≤ 65535) (hn : base ≤ n) (hn2 : n < base + countB b) :
    (n - base < nsB b → ofB b base n = (3, n - base)) ∧ (nsB b ≤ n - base → n - base < nsB b + decsN b (nsB b) → ofB b base n = (4, decFrom b.sorts 0 (n - base - nsB b))) ∧
    (nsB b + decsN b (nsB b) ≤ n - base → n - base < nsB b + decsN b (nsB b) + ncB b → ofB b base n = (5, n - base - (nsB b + decsN b (nsB b)))) ∧
    (nsB b + decsN b (nsB b) + ncB b ≤ n - base → ofB b base n = (6, n - base - (nsB b + decsN b (nsB b) + ncB b))) := by
  have n0 : 0 ≤ nsB b := by unfold nsB; omega
  have c0 : 0 ≤ ncB b := by unfold ncB; omega
  have d2 := decsN_range b (nsB b)
  rcases of_full b h0 h1 (by omega : 0 ≤ n) with ⟨_, v, h⟩ | ⟨h, _⟩
  · rcases h with ⟨he, hv⟩ | ⟨he, hv⟩ | ⟨he, hv⟩ | ⟨he, hv⟩
    · rw [former_eq b h0 h1] at hv
      split at hv
      · rename_i hz
        have := inZ_iff.1 hz
        refine ⟨fun _ => ?_, fun _ _ => ?_, fun _ _ => ?_, fun _ => ?_⟩
        · rw [he, show v = n - base by omega]
        all_goals omega
      · omega
    · rw [decoder_eq b h0 h1] at hv
      split at hv
      · rename_i hz
        rw [Bool.and_eq_true] at hz
        have hz1 := inZ_iff.1 hz.1
        obtain ⟨K, rfl⟩ : ∃ K : Nat, v = (K : Int) := ⟨v.toNat, by omega⟩
        have hK : K < b.sorts.length := by unfold nsB at hz1; omega
        have hd : b.sorts[K].dec = true := by rw [← hasDec_at b hK]; exact hz.2
        have hlt := decs_lt b hK hd
        have hr := decsN_range b (K : Int)
        refine ⟨fun _ => ?_, fun _ _ => ?_, fun _ _ => ?_, fun _ => ?_⟩
        · omega
        · rw [he, show n - base - nsB b = decsN b (K : Int) by omega, decsN_nat, decFrom_hit b.sorts 0 K hK hd, Nat.zero_add]
        all_goals omega
      · omega
    · rw [elim_eq b h0 h1] at hv
      split at hv
      · rename_i hz
        have := inZ_iff.1 hz
        refine ⟨fun _ => ?_, fun _ _ => ?_, fun _ _ => ?_, fun _ => ?_⟩
        · omega
        · omega
        · omega
        · rw [he]; congr 1; omega
      · omega
    · rw [ctor_eq b h0 h1] at hv
      split at hv
      · rename_i hz
        have := inZ_iff.1 hz
        refine ⟨fun _ => ?_, fun _ _ => ?_, fun _ _ => ?_, fun _ => ?_⟩
        · omega
        · omega
        · rw [he]; congr 1; omega
        · omega
      · omega
  · omega
set_option maxRecDepth 100000 in
set_option maxHeartbeats 2000000 in
theorem sdecoded_any (S : List SortT) (hs : S.length ≤ 1048576) (a : Int) (h0 : 0 ≤ a) (h1 : a ≤ 1048576) (w : World) (v : Value) (hA : SRow w S v) : Calls Tryz.prog 97 #[v, .int .i64 a] w fun e w' => e = .returned (.int .i64 (decFrom S 0 a)) ∧ Below w.heap.size w w' := by
  obtain ⟨pa, cap, rfl⟩ := hA.shape
  have HA := Lib.hid hA
  clear hA
  go_enter Tryz.func97, Tryz.ntmps97
  go_wp2_with fail
  go_loopw [1, 9] (fun n i wr => ∃ (j : Nat) (c : Int), j ≤ S.length ∧ 0 ≤ c ∧ c ≤ 1048576 ∧ i = .int .i64 j ∧ n = .int .i64 c ∧ decFrom S 0 a = decFrom (S.drop j) j c ∧ Below w.heap.size w wr) (fun _ i _ => S.length - (RowKit.intOf i).toNat)
  case atStart => exact ⟨0, a, Nat.zero_le _, h0, h1, rfl, rfl, by rw [List.drop_zero], Below.refl _ _⟩
  case round =>
    clear h0 h1
    obtain ⟨j, c, hj, h0, h1, rfl, rfl, he, hb⟩ := hrel
    by_cases hlt : j < S.length
    · obtain ⟨B, off, va, vt, rfl, ga, gt, k0, k1, k2, k3, k4, k5⟩ := SRow.at (GAt.bel hb (sortC_bel hb) HA.out) hlt
      obtain ⟨p1, c1, rfl⟩ := ga.shape
      obtain ⟨p2, c2, rfl⟩ := gt.shape
      have HB := Lib.hid hb
      have HBX := Lib.hid (below_al wr (.cells #[.slice p1 S[j].idx.length c1, .int .i64 S[j].level, .bool S[j].dec, .int .i64 S[j].decT.k, .int .i64 S[j].decT.n, .slice p2 S[j].decT.kids.length c2] 49))
      have hji : (j : Int) < (S.length : Int) := by omega
      have hj0 : (0 : Int) ≤ (j : Int) := by omega
      rw [decFrom_drop hlt] at he
      clear ga gt hb
      cases hd : S[j].dec with
      | false =>
        rw [hd] at k2 HBX he
        have HE := Lib.hid (show decFrom S 0 a = decFrom (S.drop (j + 1)) (j + 1) c by rw [he]; rfl)
        clear hd he
        go_wp2_with fail
        go_roundw
        case rel => exact ⟨j + 1, c, hlt, h0, h1, by go_num, rfl, HE.out, HB.out.trans (HBX.out.mono HB.out.size)⟩
        case measure => simp [RowKit.intOf]; omega
      | true =>
        rw [hd] at k2 HBX he
        by_cases hc : c = 0
        · subst hc
          have HE := Lib.hid (show decFrom S 0 a = (j : Int) by rw [he]; rfl)
          clear hd he
          go_wp2_with fail
          go_ret
          exact ⟨ret_int HE.out.symm, HB.out.trans (HBX.out.mono HB.out.size)⟩
        · have HE := Lib.hid (show decFrom S 0 a = decFrom (S.drop (j + 1)) (j + 1) (c - 1) by rw [he, if_pos rfl, if_neg hc])
          have qc : (c == 0) = false := by rw [beq_eq_false_iff_ne]; exact hc
          have hw : IntKind.i64.wrap (c - 1) = c - 1 := IntWalk.i64_in _ (by omega)
          clear hd he
          go_wp2_with fail
          go_roundw
          case rel => exact ⟨j + 1, c - 1, hlt, by omega, by omega, by go_num, rfl, HE.out, HB.out.trans (HBX.out.mono HB.out.size)⟩
          case measure => simp [RowKit.intOf]; omega
    · obtain rfl : j = S.length := by omega
      have hnl : ¬ (S.length : Int) < (S.length : Int) := by omega
      have HB := Lib.hid hb
      have HE := Lib.hid (show decFrom S 0 a = 0 by rw [he, List.drop_length]; rfl)
      clear hb he
      go_wp2_with fail
      go_ret
      exact ⟨ret_int HE.out.symm, HB.out⟩
set_option maxRecDepth 100000 in
set_option maxHeartbeats 2000000 in
theorem sof_any (b : BlkT) (hs : blkN b ≤ 1048576) (base n : Int) (hI : I64 n) (w : World) (vs vc : Value) (hA : BAt w b vs vc) :
    Calls Tryz.prog 88 #[.agg #[vs, vc, .int .i64 b.elim], .int .i64 base, .int .i64 n] w fun e w' => e = .returned (.tuple #[.int .i64 (ofB b base n).1, .int .i64 (ofB b base n).2]) ∧ Below w.heap.size w w' := by
  obtain ⟨ps, cs, pc, cc, rfl, rfl⟩ := hA.shape
  have hls := sortsN_len b.sorts
  have hlc := consN_len b.cons
  have hbn : blkN b = sortsN b.sorts + consN b.cons + 1 := rfl
  have hnn : nsB b = (b.sorts.length : Int) := rfl
  have hcn : ncB b = (b.cons.length : Int) := rfl
  have hsl : b.sorts.length ≤ 1048576 := by omega
  have hcl : b.cons.length ≤ 1048576 := by omega
  have hdr := decsN_range b (nsB b)
  have hcnt : countB b = 2 * nsB b + decsN b (nsB b) + ncB b := rfl
  have O0 := Lib.hid (oneb_start w b _ _ hA)
  have RB := Lib.hid (fun W => sbase_any base W)
  have RC := Lib.hid (fun W hA => sfirstcon_any b hs W (.slice ps b.sorts.length cs) (.slice pc b.cons.length cc) hA)
  have RE := Lib.hid (fun W hA => sfirstelim_any b hs W (.slice ps b.sorts.length cs) (.slice pc b.cons.length cc) hA)
  have RN := Lib.hid (fun W hA => scount7_any b hs W (.slice ps b.sorts.length cs) (.slice pc b.cons.length cc) hA)
  clear hA hls hlc hbn
  unfold I64 at hI
  cases h1 : inZ base 0 65535 with
  | false =>
    rw [h1] at RB
    have HE := Lib.hid (of_bad b (n := n) h1)
    clear h1
    go_enter Tryz.func88, Tryz.ntmps88
    go_wp2_with fail
    refine (RB.out _).mono ?_
    rintro e w1 ⟨rfl, rfl⟩
    go_wp2_with fail
    exact bodyPost_ret (v := .tuple #[.int .i64 0, .int .i64 0]) (by simp [results, Tryz.f88, go_sem]) rfl ⟨by rw [HE.out], O0.out.2.2⟩
  | true =>
  rw [h1] at RB
  obtain ⟨hb0, hb1⟩ := inZ_iff.1 h1
  by_cases h2 : n < base
  · have q2 : decide (n < base) = true := decide_eq_true h2
    have q2b : (n < base) = True := eq_true h2
    have HE := Lib.hid (of_out b hb0 hb1 (.inl h2))
    clear h1
    go_enter Tryz.func88, Tryz.ntmps88
    go_wp2_with fail
    refine (RB.out _).mono ?_
    rintro e w1 ⟨rfl, rfl⟩
    go_wp2_with fail
    exact bodyPost_ret (v := .tuple #[.int .i64 0, .int .i64 0]) (by simp [results, Tryz.f88, go_sem]) rfl ⟨by rw [HE.out], O0.out.2.2⟩
  have q2 : decide (n < base) = false := decide_eq_false h2
  obtain ⟨C, hC⟩ : ∃ C, C = nsB b + decsN b (nsB b) := ⟨_, rfl⟩
  obtain ⟨E, hE⟩ : ∃ E, E = C + ncB b := ⟨_, rfl⟩
  obtain ⟨A, hAe⟩ : ∃ A, A = n - base := ⟨_, rfl⟩
  have HOF : Hid (n < base + countB b → (A < nsB b → ofB b base n = (3, A)) ∧ (nsB b ≤ A → A < C → ofB b base n = (4, decFrom b.sorts 0 (A - nsB b))) ∧ (C ≤ A → A < E → ofB b base n = (5, A - C)) ∧ (E ≤ A → ofB b base n = (6, A - E))) := by
    intro h
    subst hAe hC hE
    exact of_in b hb0 hb1 (by omega) h
  have HOUT : Hid (base + countB b ≤ n → ofB b base n = (0, 0)) := fun h => of_out b hb0 hb1 (.inr h)
  rw [← hC] at RC
  rw [← hC, ← hE] at RE
  have hw : IntKind.i64.wrap (n - base) = A := by rw [hAe]; exact IntWalk.i64_in _ (by omega)
  have hA0 : 0 ≤ A := by omega
  have hcA : n < base + countB b ↔ A < countB b := by omega
  have hE2 : countB b ≤ E + nsB b ∧ E + nsB b ≤ countB b := by omega
  have hCr : nsB b ≤ C ∧ C ≤ 2 * nsB b ∧ C ≤ E ∧ E ≤ C + 1048576 := by omega
  have hA9 : A < 9223372036854775808 := by omega
  clear h1 hcnt hAe hC hE
  by_cases g1 : A < (b.sorts.length : Int)
  · have q1 : decide (A < (b.sorts.length : Int)) = true := decide_eq_true g1
    have q1b : (A < (b.sorts.length : Int)) = True := eq_true g1
    have HE := Lib.hid ((HOF.out (by omega)).1 (by omega))
    clear h2
    go_enter Tryz.func88, Tryz.ntmps88
    go_wp2_with fail
    refine (RB.out _).mono ?_
    rintro e w1 ⟨rfl, rfl⟩
    go_wp2_with fail
    exact bodyPost_ret (v := .tuple #[.int .i64 3, .int .i64 A]) (by simp [results, Tryz.f88, go_sem]) rfl ⟨by rw [HE.out], O0.out.2.2⟩
  have q1 : decide (A < (b.sorts.length : Int)) = false := decide_eq_false g1
  by_cases g2 : A < C
  · have q3 : decide (A < C) = true := decide_eq_true g2
    have q3b : (A < C) = True := eq_true g2
    have HE := Lib.hid ((HOF.out (by omega)).2.1 (by omega) g2)
    have RD := Lib.hid (fun W hA => sdecoded_any b.sorts hsl (A - nsB b) (by omega) (by omega) W (.slice ps b.sorts.length cs) hA)
    rw [hnn] at RD HE
    have hw2 : IntKind.i64.wrap (A - (b.sorts.length : Int)) = A - (b.sorts.length : Int) := IntWalk.i64_in _ (by omega)
    clear h2 g2
    go_enter Tryz.func88, Tryz.ntmps88
    go_wp2_with fail
    refine (RB.out _).mono ?_
    rintro e w1 ⟨rfl, rfl⟩
    go_wp2_with fail
    refine (RC.out _ O0.out.2.1).mono ?_
    rintro e w1 ⟨rfl, hb⟩
    have O1 := Lib.hid (O0.out.bel hb)
    obtain ⟨y0, y1, y2⟩ := O1.out.cells
    clear hb
    go_wp2_with fail
    refine (RD.out _ O1.out.2.1.1).mono ?_
    rintro e w2 ⟨rfl, hb⟩
    have O2 := Lib.hid (O1.out.bel hb)
    clear hb y0 y1 y2
    go_wp2_with fail
    exact bodyPost_ret (v := .tuple #[.int .i64 4, .int .i64 (decFrom b.sorts 0 (A - (b.sorts.length : Int)))]) (by simp [results, Tryz.f88, go_sem]) rfl ⟨by rw [HE.out], O2.out.2.2⟩
  have q3 : decide (A < C) = false := decide_eq_false g2
  by_cases g3 : A < E
  · have q4 : decide (A < E) = true := decide_eq_true g3
    have q4b : (A < E) = True := eq_true g3
    have HE := Lib.hid ((HOF.out (by omega)).2.2.1 (by omega) g3)
    have hw2 : IntKind.i64.wrap (A - C) = A - C := IntWalk.i64_in _ (by omega)
    clear h2 g2 g3
    go_enter Tryz.func88, Tryz.ntmps88
    go_wp2_with fail
    refine (RB.out _).mono ?_
    rintro e w1 ⟨rfl, rfl⟩
    go_wp2_with fail
    refine (RC.out _ O0.out.2.1).mono ?_
    rintro e w1 ⟨rfl, hb⟩
    have O1 := Lib.hid (O0.out.bel hb)
    obtain ⟨y0, y1, y2⟩ := O1.out.cells
    clear hb
    go_wp2_with fail
    clear y0 y1 y2
    refine (RE.out _ O1.out.2.1).mono ?_
    rintro e w2 ⟨rfl, hb⟩
    have O2 := Lib.hid (O1.out.bel hb)
    obtain ⟨y0, y1, y2⟩ := O2.out.cells
    clear hb
    go_wp2_with fail
    clear y0 y1 y2
    refine (RC.out _ O2.out.2.1).mono ?_
    rintro e w3 ⟨rfl, hb⟩
    have O3 := Lib.hid (O2.out.bel hb)
    obtain ⟨y0, y1, y2⟩ := O3.out.cells
    clear hb
    go_wp2_with fail
    exact bodyPost_ret (v := .tuple #[.int .i64 5, .int .i64 (A - C)]) (by simp [results, Tryz.f88, go_sem]) rfl ⟨by rw [HE.out], O3.out.2.2⟩
  have q4 : decide (A < E) = false := decide_eq_false g3
  by_cases g4 : A < countB b
  · have q5 : decide (A < countB b) = true := decide_eq_true g4
    have q5b : (A < countB b) = True := eq_true g4
    have HE := Lib.hid ((HOF.out (by omega)).2.2.2 (by omega))
    have hw2 : IntKind.i64.wrap (A - E) = A - E := IntWalk.i64_in _ (by omega)
    clear h2 g2 g3 g4
    go_enter Tryz.func88, Tryz.ntmps88
    go_wp2_with fail
    refine (RB.out _).mono ?_
    rintro e w1 ⟨rfl, rfl⟩
    go_wp2_with fail
    refine (RC.out _ O0.out.2.1).mono ?_
    rintro e w1 ⟨rfl, hb⟩
    have O1 := Lib.hid (O0.out.bel hb)
    obtain ⟨y0, y1, y2⟩ := O1.out.cells
    clear hb
    go_wp2_with fail
    clear y0 y1 y2
    refine (RE.out _ O1.out.2.1).mono ?_
    rintro e w2 ⟨rfl, hb⟩
    have O2 := Lib.hid (O1.out.bel hb)
    obtain ⟨y0, y1, y2⟩ := O2.out.cells
    clear hb
    go_wp2_with fail
    clear y0 y1 y2
    refine (RN.out _ O2.out.2.1).mono ?_
    rintro e w3 ⟨rfl, hb⟩
    have O3 := Lib.hid (O2.out.bel hb)
    obtain ⟨y0, y1, y2⟩ := O3.out.cells
    clear hb
    go_wp2_with fail
    clear y0 y1 y2
    refine (RE.out _ O3.out.2.1).mono ?_
    rintro e w4 ⟨rfl, hb⟩
    have O4 := Lib.hid (O3.out.bel hb)
    obtain ⟨y0, y1, y2⟩ := O4.out.cells
    clear hb
    go_wp2_with fail
    exact bodyPost_ret (v := .tuple #[.int .i64 6, .int .i64 (A - E)]) (by simp [results, Tryz.f88, go_sem]) rfl ⟨by rw [HE.out], O4.out.2.2⟩
  · have q5 : decide (A < countB b) = false := decide_eq_false g4
    have HE := Lib.hid (HOUT.out (by omega))
    clear h2 g2 g3 g4
    go_enter Tryz.func88, Tryz.ntmps88
    go_wp2_with fail
    refine (RB.out _).mono ?_
    rintro e w1 ⟨rfl, rfl⟩
    go_wp2_with fail
    refine (RC.out _ O0.out.2.1).mono ?_
    rintro e w1 ⟨rfl, hb⟩
    have O1 := Lib.hid (O0.out.bel hb)
    obtain ⟨y0, y1, y2⟩ := O1.out.cells
    clear hb
    go_wp2_with fail
    clear y0 y1 y2
    refine (RE.out _ O1.out.2.1).mono ?_
    rintro e w2 ⟨rfl, hb⟩
    have O2 := Lib.hid (O1.out.bel hb)
    obtain ⟨y0, y1, y2⟩ := O2.out.cells
    clear hb
    go_wp2_with fail
    clear y0 y1 y2
    refine (RN.out _ O2.out.2.1).mono ?_
    rintro e w3 ⟨rfl, hb⟩
    have O3 := Lib.hid (O2.out.bel hb)
    obtain ⟨y0, y1, y2⟩ := O3.out.cells
    clear hb
    go_wp2_with fail
    exact bodyPost_ret (v := .tuple #[.int .i64 0, .int .i64 0]) (by simp [results, Tryz.f88, go_sem]) rfl ⟨by rw [HE.out], O3.out.2.2⟩
end Go.Proofs.YtggefpkfikimiaaGreat
/- Strict positivity as a program by spines asks for it: the same as by Kids. Mathematics alone. -/
namespace Go.Proofs.YtggefpkfikimiaaGreat
open Go.RowKit
set_option linter.unusedVariables false

theorem moreP_nil8 (vars : List Int) : moreP vars 0 = vars := by simp [moreP]
theorem moreP_more (vars : List Int) (m n : Nat) : moreP (moreP vars (m : Int)) (n : Int) = moreP vars ((m + n : Nat) : Int) := by
  simp only [moreP, Int.toNat_natCast, List.append_assoc, List.replicate_append_replicate]
/-- Of a decoder the sort is one of the block's. -/
theorem of_dec (b : BlkT) {base n : Int} {w : Int} (h : ofB b base n = (4, w)) : ∃ k : Nat, w = (k : Int) ∧ ∃ hk : k < b.sorts.length, idxLen b w = (b.sorts[k].idx.length : Int) := by
  by_cases hn : n < 0
  · rw [of_neg b hn] at h; simp at h
  rcases ofB_spec b base n (by omega) with ⟨v, h1 | ⟨h1, h2⟩ | h1 | h1⟩ | h1
  · rw [h] at h1; simp at h1
  · rw [h] at h1
    obtain rfl : w = v := by simpa using h1
    have h3 : 0 ≤ w ∧ w < (b.sorts.length : Int) := by
      unfold decoderB at h2
      by_cases hc : (inZ base 0 65535 && inZ w 0 (nsB b - 1) && hasDec b w) = true
      · simp only [Bool.and_eq_true, inZ, decide_eq_true_eq, nsB] at hc
        obtain ⟨⟨_, h4, h5⟩, _⟩ := hc
        have h5' : w ≤ (b.sorts.length : Int) - 1 := of_decide_eq_true h5
        omega
      · rw [if_neg hc] at h2; omega
    refine ⟨w.toNat, by omega, by omega, ?_⟩
    rw [idxLen, List.getElem?_eq_getElem (by omega)]
    rfl
  · rw [h] at h1; simp at h1
  · rw [h] at h1; simp at h1
  · rw [h] at h1; simp at h1
/-- Of a constructor the number is one of the block's. -/
theorem of_con (b : BlkT) {base n : Int} {w : Int} (h : ofB b base n = (5, w)) : ∃ k : Nat, w = (k : Int) ∧ ∃ hk : k < b.cons.length, conArgs b w = b.cons[k].args := by
  by_cases hn : n < 0
  · rw [of_neg b hn] at h; simp at h
  rcases ofB_spec b base n (by omega) with ⟨v, h1 | h1 | h1 | ⟨h1, h2⟩⟩ | h1
  · rw [h] at h1; simp at h1
  · rw [h] at h1; simp at h1
  · rw [h] at h1; simp at h1
  · rw [h] at h1
    obtain rfl : w = v := by simpa using h1
    have h3 : 0 ≤ w ∧ w < (b.cons.length : Int) := by
      unfold ctorB at h2
      by_cases hc : (inZ base 0 65535 && inZ w 0 (ncB b - 1)) = true
      · simp only [Bool.and_eq_true, inZ, decide_eq_true_eq, ncB] at hc
        obtain ⟨_, h4, h5⟩ := hc
        have h5' : w ≤ (b.cons.length : Int) - 1 := of_decide_eq_true h5
        omega
      · rw [if_neg hc] at h2; omega
    refine ⟨w.toNat, by omega, by omega, ?_⟩
    rw [conArgs, List.getElem?_eq_getElem (by omega)]
    rfl
  · rw [h] at h1; simp at h1
/-- What a decoding ends in. -/
def decodB (b : BlkT) (base : Int) (vars : List Int) (u : Tm) : Bool := decide ((unspine u).1.k = 1) && decide (0 ≤ guardP vars (unspine u).1.n) && (unspine u).2.all (cleanB b base vars)
/-- A head that is neither an App nor a constant of the block. -/
def headB (b : BlkT) (base : Int) (vars : List Int) (f : Tm) : Bool := if f.k = 1 then decide (guardP vars f.n < 0) else kidsStep (cleanB b base) vars f.k 0 f.kids
def spineB (b : BlkT) (base : Int) (vars : List Int) (f : Tm) (X : List Tm) : Bool :=
  if f.k = 3 then
    if (ofB b base f.n).1 = 4 then
      (if h : (idxLen b (ofB b base f.n).2).toNat < X.length then
        ((X.take (idxLen b (ofB b base f.n).2).toNat).all (cleanB b base vars) && decodB b base vars X[(idxLen b (ofB b base f.n).2).toNat]) && (X.drop ((idxLen b (ofB b base f.n).2).toNat + 1)).all (cleanB b base vars) else false)
    else decide ((ofB b base f.n).1 = 0) && X.all (cleanB b base vars)
  else headB b base vars f && X.all (cleanB b base vars)
theorem all_snoc (p : Tm → Bool) (l : List Tm) (a : Tm) : (l ++ [a]).all p = (l.all p && p a) := by simp
theorem decgB_snoc (b : BlkT) (base : Int) (vars : List Int) (X : List Tm) (a : Tm) : decgB b base vars (X ++ [a]) = (X.all (cleanB b base vars) && decodB b base vars a) := by
  have h1 : (X ++ [a]).dropLast = X := List.dropLast_concat
  have h2 : lastT (X ++ [a]) = a := by simp [lastT]
  rw [decgB, decgStep, h1, h2, decodB]
theorem clean_spine (b : BlkT) (base : Int) (vars : List Int) : ∀ t : Tm, formedB t = true → cleanB b base vars t = spineB b base vars (unspine t).1 (unspine t).2 := by
  refine tm_ind fun t ih hf => ?_
  obtain ⟨k, n, l⟩ := t
  by_cases hk : k = 6
  · obtain ⟨h0, a, c, rfl, ha, hc⟩ := app_formed hf (.inl hk)
    have e1 := ih a (by simp [Tm.kids]) ha
    have hu := unspine_app k n a c hk
    rw [hu]
    have hkids : cleanB b base vars a = true ∧ True → True := fun _ => trivial
    have hK : ∀ (h : isDecg b base (.node k n [a, c]) = false), cleanB b base vars (.node k n [a, c]) = (spineB b base vars (unspine a).1 (unspine a).2 && cleanB b base vars c) := by
      intro h
      rw [clean_kids b base vars (by show k ≠ 1; omega) (by show k ≠ 3; omega) h]
      show (cleanB b base (moreP vars (bindsI k 0)) a && (cleanB b base (moreP vars (bindsI k 1)) c && true)) = _
      rw [show bindsI k 0 = 0 from if_neg (by omega), show bindsI k 1 = 0 from if_neg (by omega), moreP_nil8, e1, Bool.and_true]
    generalize hF : (unspine a).1 = f at *
    generalize hX : (unspine a).2 = X at *
    by_cases hc3 : f.k = 3
    · rcases hof : ofB b base f.n with ⟨p, q⟩
      by_cases hp : p = 4
      · subst hp
        obtain ⟨m, rfl, hm, hl⟩ := of_dec b hof
        have hdl : isDecg b base (.node k n [a, c]) = decide (X.length = b.sorts[m].idx.length) := by
          rw [isDecg, hu]
          dsimp only
          rw [hof]
          dsimp only
          rw [hl, decide_eq_true hc3, List.length_append, List.length_singleton, decide_eq_true (show 0 < X.length + 1 by omega), Bool.true_and, Bool.true_and, decide_eq_true rfl, Bool.true_and]
          by_cases hh : X.length = b.sorts[m].idx.length
          · rw [decide_eq_true hh, decide_eq_true]; omega
          · rw [decide_eq_false hh, decide_eq_false]; omega
        have hS : ∀ Z : List Tm, spineB b base vars f Z = if h : b.sorts[m].idx.length < Z.length then
            ((Z.take b.sorts[m].idx.length).all (cleanB b base vars) && decodB b base vars Z[b.sorts[m].idx.length]) && (Z.drop (b.sorts[m].idx.length + 1)).all (cleanB b base vars) else false := by
          intro Z
          unfold spineB
          rw [if_pos hc3]
          simp only [hof, hl, Int.toNat_natCast, if_true]
        by_cases hh : X.length = b.sorts[m].idx.length
        · rw [clean_decg b base vars (by show k ≠ 1; omega) (by show k ≠ 3; omega) (by rw [hdl]; exact decide_eq_true hh), hu, hS]
          dsimp only
          rw [decgB_snoc, dif_pos (by rw [List.length_append, List.length_singleton]; omega)]
          have e2 : (X ++ [c]).take b.sorts[m].idx.length = X := by rw [← hh]; simp
          have e3 : (X ++ [c]).drop (b.sorts[m].idx.length + 1) = [] := by apply List.drop_of_length_le; rw [List.length_append, List.length_singleton]; omega
          have e4 : (X ++ [c])[b.sorts[m].idx.length]'(by rw [List.length_append, List.length_singleton]; omega) = c := by simp [← hh]
          rw [e2, e3, e4]
          simp
        · rw [hK (by rw [hdl]; exact decide_eq_false hh), hS, hS]
          by_cases hlt : b.sorts[m].idx.length < X.length
          · rw [dif_pos hlt, dif_pos (by rw [List.length_append]; omega)]
            have e2 : (X ++ [c]).take b.sorts[m].idx.length = X.take b.sorts[m].idx.length := List.take_append_of_le_length (by omega)
            have e3 : (X ++ [c]).drop (b.sorts[m].idx.length + 1) = X.drop (b.sorts[m].idx.length + 1) ++ [c] := List.drop_append_of_le_length (by omega)
            have e4 : (X ++ [c])[b.sorts[m].idx.length]'(by rw [List.length_append, List.length_singleton]; omega) = X[b.sorts[m].idx.length] := List.getElem_append_left hlt
            rw [e2, e3, e4, all_snoc, Bool.and_assoc, Bool.and_assoc]
          · rw [dif_neg hlt, dif_neg (by rw [List.length_append, List.length_singleton]; omega), Bool.false_and]
      · have hdl : isDecg b base (.node k n [a, c]) = false := by
          rw [isDecg, hu]
          dsimp only
          rw [hof]
          dsimp only
          rw [decide_eq_false hp, Bool.and_false, Bool.false_and]
        rw [hK hdl]
        unfold spineB
        rw [if_pos hc3, if_pos hc3, hof]
        dsimp only
        rw [if_neg hp, if_neg hp, all_snoc, Bool.and_assoc]
    · have hdl : isDecg b base (.node k n [a, c]) = false := by
        rw [isDecg, hu]
        dsimp only
        rw [decide_eq_false hc3, Bool.false_and, Bool.false_and, Bool.false_and]
      rw [hK hdl]
      unfold spineB
      rw [if_neg hc3, if_neg hc3, all_snoc, Bool.and_assoc]
  · rw [unspine_no (t := .node k n l) (fun h => hk h.1)]
    dsimp only
    unfold spineB headB
    by_cases h1 : k = 1
    · rw [if_neg (show ¬ (Tm.node k n l).k = 3 by show ¬ k = 3; omega), if_pos (show (Tm.node k n l).k = 1 from h1), clean_var b base vars (t := .node k n l) h1]
      simp
    · by_cases h3 : k = 3
      · rw [if_pos (show (Tm.node k n l).k = 3 from h3), clean_const b base vars (t := .node k n l) h3]
        rcases hof : ofB b base (Tm.node k n l).n with ⟨p, q⟩
        dsimp only
        by_cases hp : p = 4
        · rw [if_pos hp, dif_neg (by simp), hp]; rfl
        · rw [if_neg hp]; simp
      · rw [if_neg (show ¬ (Tm.node k n l).k = 3 from h3), if_neg (show ¬ (Tm.node k n l).k = 1 from h1), clean_kids b base vars (t := .node k n l) h1 h3 (by
          rw [isDecg, unspine_no (t := .node k n l) (fun h => hk h.1)]
          dsimp only
          rw [decide_eq_false (show ¬ (Tm.node k n l).k = 3 from h3), Bool.false_and, Bool.false_and, Bool.false_and])]
        simp
/-! ### The program's variables -/
/-- The Args, and r variables more. -/
def viewP (args : List ArgT) (r : Nat) : List Int := moreP (atP args) (r : Int)
theorem viewP_length (args : List ArgT) (r : Nat) : (viewP args r).length = args.length + r := by rw [viewP, moreP_length, atP_length]
theorem atFrom_get : ∀ (l : List ArgT) (i j : Nat) (h : j < l.length), (atFrom i l)[j]'(by rw [atFrom_length]; exact h) = if l[j].r then ((i + j : Nat) : Int) else -1
  | a :: l, i, 0, _ => by simp only [atFrom, List.getElem_cons_zero, Nat.add_zero]
  | a :: l, i, j + 1, h => by
    simp only [atFrom, List.getElem_cons_succ]
    rw [atFrom_get l (i + 1) j (by simpa using h), Nat.add_right_comm, Nat.add_assoc]
/-- Which Arg a variable belongs to, and whether it is guarded. -/
theorem view_guard (args : List ArgT) (r : Nat) (n : Int) (hn : 0 ≤ n) :
    (∀ k : Nat, (k : Int) = (args.length : Int) - 1 - (n - r) → ∀ hk : k < args.length, guardP (viewP args r) n = if args[k].r then (k : Int) else -1) ∧
    ((args.length : Int) - 1 - (n - r) < 0 ∨ (args.length : Int) ≤ (args.length : Int) - 1 - (n - r) → guardP (viewP args r) n = -1) := by
  have hl := viewP_length args r
  constructor
  · intro k hk1 hk
    obtain ⟨h, e⟩ := guard_at (vars := viewP args r) (n := n) hn (by omega)
    have hi : (viewP args r).length - 1 - n.toNat = k := by omega
    rw [e]
    simp only [hi]
    have h2 : (viewP args r)[k]'(by omega) = (atP args)[k]'(by rw [atP_length]; exact hk) := List.getElem_append_left (by rw [atP_length]; exact hk)
    rw [h2]
    have h3 := atFrom_get args 0 k hk
    rw [Nat.zero_add] at h3
    exact h3
  · rintro (h | h)
    · unfold guardP
      rw [if_pos (by omega)]
    · obtain ⟨hh, e⟩ := guard_at (vars := viewP args r) (n := n) hn (by omega)
      rw [e]
      have h2 : args.length ≤ (viewP args r).length - 1 - n.toNat := by omega
      have key : ∀ (i : Nat) (hi : i < (viewP args r).length), args.length ≤ i → (viewP args r)[i] = -1 := by
        unfold viewP moreP
        intro i hi h3
        rw [List.getElem_append_right (by rw [atP_length]; exact h3), List.getElem_replicate]
      exact key _ hh h2
theorem view_more (args : List ArgT) (r m : Nat) : moreP (viewP args r) (m : Int) = viewP args (r + m) := by rw [viewP, moreP_more, viewP]
theorem view_ok (args : List ArgT) (r : Nat) : VarsOk (viewP args r) args.length := varsOk_more (varsOk_at args) r
theorem view_zero (args : List ArgT) : viewP args 0 = atP args := moreP_nil8 _
end Go.Proofs.YtggefpkfikimiaaGreat
