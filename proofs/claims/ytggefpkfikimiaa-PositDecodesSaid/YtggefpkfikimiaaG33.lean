/- Package posit's isPositive and Check: as the document says. No conditions but sizes. -/
import Derived.Test.YtggefpkfikimiaaG32
import Derived.Test.YtggefpkfikimiaaG24
import Derived.Test.YtggefpkfikimiaaG26
namespace Go.Proofs.Ytggefpkfikimiaa
open Go.RowKit
set_option linter.unusedVariables false

theorem openT_R {t : Tm} {v : Int} (h : openT t v = true) : TermR t := by
  simp only [openT, scopeT, Bool.and_eq_true, decide_eq_true_eq] at h
  have hc := h.1.2
  refine ⟨check_formed hc, ?_⟩
  unfold checkE at hc
  by_cases h1 : 6000 < size t
  · rw [if_pos h1] at hc; omega
  · omega
theorem opens_R : ∀ (l : List Tm) (v : Int), opensFrom l v = true → ∀ u ∈ l, TermR u
  | [], _, _, u, hu => by cases hu
  | t :: l, v, h, u, hu => by
    rw [opensFrom, Bool.and_eq_true] at h
    rcases List.mem_cons.1 hu with rfl | hu
    · exact openT_R h.1
    · exact opens_R l (v + 1) h.2 u hu
theorem opensAll_R {l : List Tm} {v : Int} (h : opensAll l v = true) : ∀ u ∈ l, TermR u := fun u hu => openT_R (List.all_eq_true.1 h u hu)
theorem sort_in {b : BlkT} {s : Int} {n : Nat} (h1 : inZ s 0 (nsB b - 1) = true) (h2 : (n : Int) = idxLen b s) : ∃ k : Nat, s = (k : Int) ∧ ∃ hk : k < b.sorts.length, n = b.sorts[k].idx.length := by
  unfold inZ at h1
  rw [Bool.and_eq_true] at h1
  have h3 : 0 ≤ s := of_decide_eq_true h1.1
  have h4 : s ≤ (b.sorts.length : Int) - 1 := of_decide_eq_true h1.2
  have hk : s.toNat < b.sorts.length := by omega
  refine ⟨s.toNat, by omega, hk, ?_⟩
  rw [idxLen, List.getElem?_eq_getElem hk] at h2
  have : (n : Int) = (b.sorts[s.toNat].idx.length : Int) := h2
  omega
theorem argOk_R {b : BlkT} (hb : ∀ k (h : k < b.sorts.length), b.sorts[k].idx.length ≤ 1048576) {a : ArgT} {i : Int} (h : argOk b a i = true) : ArgR b a := by
  unfold argOk at h
  unfold ArgR
  by_cases hr : a.r = true
  · rw [if_pos hr] at h ⊢
    simp only [Bool.and_eq_true, decide_eq_true_eq] at h
    obtain ⟨⟨⟨⟨⟨_, h2⟩, h3⟩, h4⟩, h5⟩, h6⟩ := h
    obtain ⟨k, e, hk, hl⟩ := sort_in h3 h4
    exact ⟨⟨k, e, hk, hl⟩, h2, by have := hb k hk; omega, opens_R _ _ h5, opensAll_R h6⟩
  · rw [if_neg hr] at h ⊢
    simp only [Bool.and_eq_true, decide_eq_true_eq] at h
    exact openT_R h.1.1
theorem argsOk_R {b : BlkT} (hb : ∀ k (h : k < b.sorts.length), b.sorts[k].idx.length ≤ 1048576) : ∀ (l : List ArgT) (i : Int), argsOk b l i = true → ∀ a ∈ l, ArgR b a
  | [], _, _, a, ha => by cases ha
  | x :: l, i, h, a, ha => by
    rw [argsOk, Bool.and_eq_true] at h
    rcases List.mem_cons.1 ha with rfl | ha
    · exact argOk_R hb h.1
    · exact argsOk_R hb l (i + 1) h.2 a ha
theorem idxOk_R {b : BlkT} (hb : ∀ k (h : k < b.sorts.length), b.sorts[k].idx.length ≤ 1048576) (k : Int) : ∀ (l : List ArgT) (i : Int), idxOk b k l i = true → ∀ a ∈ l, ArgR b a
  | [], _, _, a, ha => by cases ha
  | x :: l, i, h, a, ha => by
    rw [idxOk, Bool.and_eq_true, Bool.and_eq_true] at h
    rcases List.mem_cons.1 ha with rfl | ha
    · exact argOk_R hb h.1.1
    · exact idxOk_R hb k l (i + 1) h.2 a ha
theorem sortsOk_R {b : BlkT} (hb : ∀ k (h : k < b.sorts.length), b.sorts[k].idx.length ≤ 1048576) : ∀ (l : List SortT) (k : Int), sortsOk b l k = true → ∀ s ∈ l, SortR b s
  | [], _, _, s, hs => by cases hs
  | x :: l, k, h, s, hs => by
    rw [sortsOk, Bool.and_eq_true] at h
    rcases List.mem_cons.1 hs with rfl | hs
    · have h1 := h.1
      unfold sortOk at h1
      simp only [Bool.and_eq_true, decide_eq_true_eq] at h1
      obtain ⟨⟨⟨h2, h3⟩, h4⟩, h5⟩ := h1
      refine ⟨idxOk_R hb k _ _ h4, h2, fun hd => ?_⟩
      rw [if_pos hd, Bool.and_eq_true] at h5
      exact openT_R h5.2
    · exact sortsOk_R hb l (k + 1) h.2 s hs
/-- The parts of a right block. -/
theorem shape_R {b : BlkT} (h : shapeB b = true) (hb : ∀ k (h : k < b.sorts.length), b.sorts[k].idx.length ≤ 1048576) : (∀ s ∈ b.sorts, SortR b s) ∧ ∀ x ∈ b.cons, ConR b x := by
  simp only [shapeB, Bool.and_eq_true, decide_eq_true_eq] at h
  obtain ⟨⟨_, h1⟩, h2⟩ := h
  refine ⟨sortsOk_R hb _ _ h1, fun x hx => ?_⟩
  have h3 := List.all_eq_true.1 h2 x hx
  unfold conOk at h3
  simp only [Bool.and_eq_true, decide_eq_true_eq] at h3
  obtain ⟨⟨⟨⟨⟨h4, h5⟩, h6⟩, h7⟩, h8⟩, h9⟩ := h3
  obtain ⟨k, e, hk, hl⟩ := sort_in h4 h6
  refine ⟨argsOk_R hb _ _ h7, h5, ⟨k, e, hk, hl, fun hd => ?_⟩, by have := hb k hk; omega, opensAll_R h8⟩
  have hh : hasDec b x.sort = true := by rw [e, hasDec, Int.toNat_natCast, List.getElem?_eq_getElem hk]; exact hd
  rw [if_pos hh] at h9
  exact openT_R h9
theorem idx_small {b : BlkT} (hb : blkN b ≤ 1048576) : ∀ k (h : k < b.sorts.length), b.sorts[k].idx.length ≤ 1048576 := fun k h => by
  have h1 := argsN_len b.sorts[k].idx
  have h2 := sortN_le (List.getElem_mem h)
  have h3 : argsN b.sorts[k].idx ≤ sortN b.sorts[k] := by unfold sortN; omega
  have h4 : sortsN b.sorts ≤ blkN b := by unfold blkN; omega
  omega
theorem sortPosV_zero (b : BlkT) (base : Int) (s : SortT) : sortPosV b base 0 0 s = sortPos b base s := by
  rw [sortPosV, sortPos, teleB, teleFromV_zero, view_zero]
theorem conPosV_zero (b : BlkT) (base c : Int) (x : ConT) : conPosV b base c 0 x = conPos b base c x := by
  rw [conPosV, conPos, teleB, teleFromV_zero, view_zero, Bool.and_assoc]
theorem cons_at {b : BlkT} {base : Int} {l : List ConT} {j : Nat} (h : j < l.length) : consPos b base j (l.drop j) = (conPos b base (j : Int) l[j] && consPos b base (j + 1) (l.drop (j + 1))) := by
  rw [List.drop_eq_getElem_cons h, consPos]
def posB (b : BlkT) (base : Int) : Bool := b.sorts.all (sortPos b base) && consPos b base 0 b.cons
theorem view_nil {w : World} {b : BlkT} {vs vc : Value} (h : BAt w b vs vc) : VAt w b [] vs vc (.slice none 0 0) := ⟨h, .nl⟩
set_option maxRecDepth 100000 in
set_option maxHeartbeats 4000000 in
theorem sispositive_any (b : BlkT) (base : Int) (hb : blkN b ≤ 1048576) (hS : ∀ s ∈ b.sorts, SortR b s) (hC : ∀ x ∈ b.cons, ConR b x) (w : World) (vs vc : Value) (hA : BAt w b vs vc) :
    Calls Try.prog 26 #[.agg #[vs, vc, .int .i64 b.elim], .int .i64 base] w fun e w' => e = .returned (.bool (posB b base)) ∧ Below w.heap.size w w' := by
  obtain ⟨ps, cs, pc, cc, rfl, rfl⟩ := hA.shape
  have O0 := Lib.hid (oneb_start w b _ _ hA)
  have HS := Lib.hid hS
  have HC := Lib.hid hC
  have hls := sortsN_len b.sorts
  have hlc := consN_len b.cons
  have hls2 : b.sorts.length ≤ 1048576 := by unfold blkN at hb; omega
  have hlc2 : b.cons.length ≤ 1048576 := by unfold blkN at hb; omega
  have HE0 := Lib.hid (show posB b base = ((b.sorts.drop 0).all (sortPos b base) && consPos b base 0 b.cons) from rfl)
  clear hA hS hC hls hlc
  go_enter Try.func26, Try.ntmps26
  obtain ⟨x0, x1, x2⟩ := O0.out.cells
  go_wp2_with fail
  clear x0 x1 x2
  revert O0
  generalize w.alloc (.cells #[.slice ps b.sorts.length cs, .slice pc b.cons.length cc, .int .i64 b.elim] 33) = W0
  intro O0
  go_loopw [12] (fun i wr => ∃ j : Nat, j ≤ b.sorts.length ∧ i = .int .i64 j ∧ posB b base = ((b.sorts.drop j).all (sortPos b base) && consPos b base 0 b.cons) ∧ OneB w w.heap.size b (.slice ps b.sorts.length cs) (.slice pc b.cons.length cc) wr) (fun i _ => b.sorts.length - (RowKit.intOf i).toNat)
  case atStart => exact ⟨0, Nat.zero_le _, rfl, HE0.out, O0.out⟩
  case round =>
    clear O0 HE0
    obtain ⟨j, hj, rfl, hE, hO⟩ := hrel
    have OJ := Lib.hid hO
    have HE := Lib.hid hE
    clear hE hO
    by_cases hlt : j < b.sorts.length
    · have hj1 : (j : Int) < (b.sorts.length : Int) := by omega
      have hj0 : (0 : Int) ≤ (j : Int) := by omega
      have hw1 : IntKind.i64.wrap ((j : Int) + 1) = ((j + 1 : Nat) : Int) := by rw [IntWalk.i64_in _ (by omega)]; omega
      have HDA := Lib.hid (show (b.sorts.drop j).all (sortPos b base) = (sortPos b base b.sorts[j] && (b.sorts.drop (j + 1)).all (sortPos b base)) by rw [List.drop_eq_getElem_cons hlt, List.all_cons])
      obtain ⟨bS, oS, vx, vt, he, gA, gT, s0, s1, s2, s3, s4, s5⟩ := SRow.at OJ.out.2.1.1 hlt
      cases he
      obtain ⟨pi, ci, rfl⟩ := gA.shape
      obtain ⟨pt, ct, rfl⟩ := gT.shape
      have GA := Lib.hid gA
      have GT := Lib.hid gT
      clear gA gT
      go_upto_region 4 with (fail)
      obtain ⟨w4, hw4⟩ : ∃ w4, w4 = wr.alloc (.cells #[.slice pi b.sorts[j].idx.length ci, .int .i64 b.sorts[j].level, .bool b.sorts[j].dec, .int .i64 b.sorts[j].decT.k, .int .i64 b.sorts[j].decT.n, .slice pt b.sorts[j].decT.kids.length ct] 29) := ⟨_, rfl⟩
      have Z4 : Hid (w4.heap[wr.heap.size]? = some (.cells #[.slice pi b.sorts[j].idx.length ci, .int .i64 b.sorts[j].level, .bool b.sorts[j].dec, .int .i64 b.sorts[j].decT.k, .int .i64 b.sorts[j].decT.n, .slice pt b.sorts[j].decT.kids.length ct] 29 (0, 0))) := by unfold Hid; rw [hw4]; exact World.alloc_heap_new wr _
      have B4 : Below wr.heap.size wr w4 := by rw [hw4]; exact below_al _ _
      rw [← hw4]
      have O4 := Lib.hid (OJ.out.bel B4)
      have HG := Lib.hid (show Calls Try.prog 55 #[.agg #[.slice (some ⟨bS, oS, none⟩) b.sorts.length cs, .slice pc b.cons.length cc, .int .i64 b.elim, .int .i64 base, .slice none 0 0, .int .i64 0, .int .i64 0], .agg #[.slice pi b.sorts[j].idx.length ci, .int .i64 b.sorts[j].level, .bool b.sorts[j].dec, .int .i64 b.sorts[j].decT.k, .int .i64 b.sorts[j].decT.n, .slice pt b.sorts[j].decT.kids.length ct]] w4 fun e w' => e = .returned (.bool (sortPos b base b.sorts[j])) ∧ Below w4.heap.size w4 w' by
        have h := stakessort_any b base hb [] 0 (by omega) 0 b.sorts[j] (HS.out _ (List.getElem_mem hlt)) w4 _ _ _ _ _ (view_nil O4.out.2.1) (ARow.bel B4 GA.out) (GT.out.bel B4 (Nat.le_refl _))
        rw [← sortPosV_zero]
        exact h)
      clear hw4 B4 OJ GA GT s0 s1 s2 s3 s4 s5
      obtain ⟨x0, x1, x2⟩ := O4.out.cells
      obtain ⟨a0, a1, a2, a3, a4, a5⟩ := boxc6 Z4.out
      cases hc : sortPos b base b.sorts[j] with
      | true =>
        have HE2 := Lib.hid (HE.out.trans (show _ = ((b.sorts.drop (j + 1)).all (sortPos b base) && consPos b base 0 b.cons) by rw [HDA.out, hc, Bool.true_and]))
        rw [hc] at HG
        clear hc HE HDA
        go_wp2_with fail
        refine HG.out.mono ?_
        rintro e w5 ⟨rfl, hb5⟩
        have O5 := Lib.hid (O4.out.bel hb5)
        clear hb5 x0 x1 x2 a0 a1 a2 a3 a4 a5 O4 Z4 HG
        go_wp2_with fail
        go_roundw
        case rel => exact ⟨j + 1, by omega, by go_num, HE2.out, O5.out⟩
        case measure => simp [RowKit.intOf] <;> omega
      | false =>
        have HE2 := Lib.hid (HE.out.trans (show _ = false by rw [HDA.out, hc, Bool.false_and, Bool.false_and]))
        rw [hc] at HG
        clear hc HE HDA
        go_wp2_with fail
        refine HG.out.mono ?_
        rintro e w5 ⟨rfl, hb5⟩
        have O5 := Lib.hid (O4.out.bel hb5)
        clear hb5 x0 x1 x2 a0 a1 a2 a3 a4 a5 O4 Z4 HG
        go_wp2_with fail
        go_ret
        exact ⟨ret_bool HE2.out.symm, O5.out.2.2⟩
    · obtain rfl : j = b.sorts.length := by omega
      have HE1 := Lib.hid (HE.out.trans (show _ = consPos b base 0 (b.cons.drop 0) by rw [List.drop_length]; rfl))
      clear HE
      obtain ⟨x0, x1, x2⟩ := OJ.out.cells
      go_wp2_with fail
      clear x0 x1 x2
      go_loopw [26] (fun i ws => ∃ j : Nat, j ≤ b.cons.length ∧ i = .int .i64 j ∧ posB b base = consPos b base j (b.cons.drop j) ∧ OneB w w.heap.size b (.slice ps b.sorts.length cs) (.slice pc b.cons.length cc) ws) (fun i _ => b.cons.length - (RowKit.intOf i).toNat)
      case atStart => exact ⟨0, Nat.zero_le _, rfl, HE1.out, OJ.out⟩
      case round =>
        clear OJ HE1
        obtain ⟨j, hj, rfl, hE, hO⟩ := hrel
        have OJ := Lib.hid hO
        have HE := Lib.hid hE
        clear hE hO
        by_cases hlt : j < b.cons.length
        · have hj1 : (j : Int) < (b.cons.length : Int) := by omega
          have hj0 : (0 : Int) ≤ (j : Int) := by omega
          have hw1 : IntKind.i64.wrap ((j : Int) + 1) = ((j + 1 : Nat) : Int) := by rw [IntWalk.i64_in _ (by omega)]; omega
          have HDA := Lib.hid (cons_at (b := b) (base := base) hlt)
          obtain ⟨bS, oS, vx, vy, vt, he, gA, gI, gT, s0, s1, s2, s3, s4, s5⟩ := CRow.at OJ.out.2.1.2 hlt
          cases he
          obtain ⟨pi, ci, rfl⟩ := gA.shape
          obtain ⟨pj, cj, rfl⟩ := gI.shape
          obtain ⟨pt, ct, rfl⟩ := gT.shape
          have GA := Lib.hid gA
          have GI := Lib.hid gI
          have GT := Lib.hid gT
          clear gA gI gT
          go_upto_region 10 with (fail)
          obtain ⟨w4, hw4⟩ : ∃ w4, w4 = wr.alloc (.cells #[.int .i64 b.cons[j].sort, .slice pi b.cons[j].args.length ci, .slice pj b.cons[j].idx.length cj, .int .i64 b.cons[j].dec.k, .int .i64 b.cons[j].dec.n, .slice pt b.cons[j].dec.kids.length ct] 35) := ⟨_, rfl⟩
          have Z4 : Hid (w4.heap[wr.heap.size]? = some (.cells #[.int .i64 b.cons[j].sort, .slice pi b.cons[j].args.length ci, .slice pj b.cons[j].idx.length cj, .int .i64 b.cons[j].dec.k, .int .i64 b.cons[j].dec.n, .slice pt b.cons[j].dec.kids.length ct] 35 (0, 0))) := by unfold Hid; rw [hw4]; exact World.alloc_heap_new wr _
          have B4 : Below wr.heap.size wr w4 := by rw [hw4]; exact below_al _ _
          rw [← hw4]
          have O4 := Lib.hid (OJ.out.bel B4)
          have HG := Lib.hid (show Calls Try.prog 56 #[.agg #[.slice ps b.sorts.length cs, .slice (some ⟨bS, oS, none⟩) b.cons.length cc, .int .i64 b.elim, .int .i64 base, .slice none 0 0, .int .i64 0, .int .i64 (j : Int)], .agg #[.int .i64 b.cons[j].sort, .slice pi b.cons[j].args.length ci, .slice pj b.cons[j].idx.length cj, .int .i64 b.cons[j].dec.k, .int .i64 b.cons[j].dec.n, .slice pt b.cons[j].dec.kids.length ct]] w4 fun e w' => e = .returned (.bool (conPos b base (j : Int) b.cons[j])) ∧ Below w4.heap.size w4 w' by
            have h := stakescon_any b base hb [] 0 (by omega) j b.cons[j] (HC.out _ (List.getElem_mem hlt)) w4 _ _ _ _ _ _ (view_nil O4.out.2.1) (ARow.bel B4 GA.out) (GI.out.bel B4 (Nat.le_refl _)) (GT.out.bel B4 (Nat.le_refl _))
            rw [← conPosV_zero]
            exact h)
          clear hw4 B4 OJ GA GI GT s0 s1 s2 s3 s4 s5
          obtain ⟨x0, x1, x2⟩ := O4.out.cells
          obtain ⟨a0, a1, a2, a3, a4, a5⟩ := boxc6 Z4.out
          cases hc : conPos b base (j : Int) b.cons[j] with
          | true =>
            have HE2 := Lib.hid (HE.out.trans (show _ = consPos b base (j + 1) (b.cons.drop (j + 1)) by rw [HDA.out, hc, Bool.true_and]))
            rw [hc] at HG
            clear hc HE HDA
            go_wp2_with fail
            refine HG.out.mono ?_
            rintro e w5 ⟨rfl, hb5⟩
            have O5 := Lib.hid (O4.out.bel hb5)
            clear hb5 x0 x1 x2 a0 a1 a2 a3 a4 a5 O4 Z4 HG
            go_wp2_with fail
            go_roundw
            case rel => exact ⟨j + 1, by omega, by go_num, HE2.out, O5.out⟩
            case measure => simp [RowKit.intOf] <;> omega
          | false =>
            have HE2 := Lib.hid (HE.out.trans (show _ = false by rw [HDA.out, hc, Bool.false_and]))
            rw [hc] at HG
            clear hc HE HDA
            go_wp2_with fail
            refine HG.out.mono ?_
            rintro e w5 ⟨rfl, hb5⟩
            have O5 := Lib.hid (O4.out.bel hb5)
            clear hb5 x0 x1 x2 a0 a1 a2 a3 a4 a5 O4 Z4 HG
            go_wp2_with fail
            go_ret
            exact ⟨ret_bool HE2.out.symm, O5.out.2.2⟩
        · obtain rfl : j = b.cons.length := by omega
          go_wp2_with fail
          go_ret
          exact ⟨ret_bool (by rw [HE.out, List.drop_length]; rfl), OJ.out.2.2⟩
set_option maxRecDepth 100000 in
set_option maxHeartbeats 4000000 in
theorem s8check_any (b : BlkT) (hs : blkN b ≤ 1048576) (hF : b.fits) (base : Int) (w : World) (vs vc : Value) (hA : BAt w b vs vc) :
    Calls Try.prog 12 #[.agg #[vs, vc, .int .i64 b.elim], .int .i64 base] w fun e w' => e = .returned (.int .i64 (positB b base)) ∧ Below w.heap.size w w' := by
  obtain ⟨ps, cs, pc, cc, rfl, rfl⟩ := hA.shape
  have O0 := Lib.hid (oneb_start w b _ _ hA)
  have HSH := Lib.hid (s7check_any b hs hF _ _ _ O0.out.2.1)
  clear hA
  obtain ⟨x0, x1, x2⟩ := O0.out.cells
  cases hsh : shapeB b with
  | false =>
    have HE := Lib.hid (show positB b base = 12 by rw [positB, if_pos hsh])
    rw [hsh] at HSH
    simp only [Bool.false_eq_true, if_false] at HSH
    clear hsh
    go_enter Try.func12, Try.ntmps12
    go_wp2_with fail
    refine HSH.out.mono ?_
    rintro e w1 ⟨rfl, hb⟩
    have O1 := Lib.hid (O0.out.bel hb)
    clear hb x0 x1 x2
    go_wp2_with fail
    go_ret
    exact ⟨ret_int HE.out.symm, O1.out.2.2⟩
  | true =>
    have hR := shape_R hsh (idx_small hs)
    have HE0 : Hid (positB b base = if inZ base 0 65535 = false then 1 else if posB b base then 0 else 11) := by unfold Hid; rw [positB, if_neg (by rw [hsh]; simp)]; rfl
    rw [hsh] at HSH
    simp only [if_true] at HSH
    clear hsh
    go_enter Try.func12, Try.ntmps12
    go_wp2_with fail
    refine HSH.out.mono ?_
    rintro e w1 ⟨rfl, hb⟩
    have O1 := Lib.hid (O0.out.bel hb)
    clear hb x0 x1 x2 O0 HSH
    by_cases h1 : base < 0
    · have HE := Lib.hid (HE0.out.trans (show _ = 1 by rw [if_pos (by simp [inZ]; omega)]))
      clear HE0
      go_wp2_with fail
      go_ret
      exact ⟨ret_int HE.out.symm, O1.out.2.2⟩
    by_cases h2 : 65535 < base
    · have HE := Lib.hid (HE0.out.trans (show _ = 1 by rw [if_pos (by simp [inZ]; omega)]))
      clear HE0
      go_wp2_with fail
      go_ret
      exact ⟨ret_int HE.out.symm, O1.out.2.2⟩
    have HE1 := Lib.hid (HE0.out.trans (show _ = (if posB b base then 0 else 11) by rw [if_neg (by simp [inZ]; omega)]))
    have HP := Lib.hid (sispositive_any b base hs hR.1 hR.2 w1 _ _ O1.out.2.1)
    clear HE0 hR
    obtain ⟨x0, x1, x2⟩ := O1.out.cells
    cases hp : posB b base with
    | true =>
      have HE := Lib.hid (HE1.out.trans (show _ = 0 by rw [hp]; rfl))
      rw [hp] at HP
      clear hp HE1
      go_wp2_with fail
      refine HP.out.mono ?_
      rintro e w2 ⟨rfl, hb⟩
      have O2 := Lib.hid (O1.out.bel hb)
      clear hb x0 x1 x2
      go_wp2_with fail
      go_ret
      exact ⟨ret_int HE.out.symm, O2.out.2.2⟩
    | false =>
      have HE := Lib.hid (HE1.out.trans (show _ = 11 by rw [hp]; rfl))
      rw [hp] at HP
      clear hp HE1
      go_wp2_with fail
      refine HP.out.mono ?_
      rintro e w2 ⟨rfl, hb⟩
      have O2 := Lib.hid (O1.out.bel hb)
      clear hb x0 x1 x2
      go_wp2_with fail
      go_ret
      exact ⟨ret_int HE.out.symm, O2.out.2.2⟩
end Go.Proofs.Ytggefpkfikimiaa
/- A positive block with its last constructors left out is positive. Mathematics alone. -/
namespace Go.Proofs.Ytggefpkfikimiaa
open Go.RowKit
set_option linter.unusedVariables false

theorem of_cut (b : BlkT) {n : Nat} (hn : n ≤ b.cons.length) {base : Int} (h0 : 0 ≤ base) (h1 : base ≤ 65535) (m : Int) :
    (m - base < nsB b + decsN b (nsB b) + n → ofB (cutB b n) base m = ofB b base m) ∧
    (nsB b + decsN b (nsB b) + n ≤ m - base → (((ofB b base m).1 = 5 ∧ (n : Int) ≤ (ofB b base m).2) ∨ (ofB b base m).1 = 6 ∨ ofB b base m = (0, 0)) ∧ ((ofB (cutB b n) base m).1 = 6 ∨ ofB (cutB b n) base m = (0, 0)) ∧ (ofB b base m = (0, 0) → ofB (cutB b n) base m = (0, 0))) := by
  have hc : ncB (cutB b n) = (n : Int) := by simp [ncB, cutB]; omega
  have hd : decsN (cutB b n) (nsB b) = decsN b (nsB b) := rfl
  have hs : nsB (cutB b n) = nsB b := rfl
  have hss : (cutB b n).sorts = b.sorts := rfl
  have hb : ncB b = (b.cons.length : Int) := rfl
  have e1 : countB b = 2 * nsB b + decsN b (nsB b) + ncB b := rfl
  have e2 : countB (cutB b n) = 2 * nsB b + decsN b (nsB b) + n := by rw [show countB (cutB b n) = 2 * nsB (cutB b n) + decsN (cutB b n) (nsB (cutB b n)) + ncB (cutB b n) from rfl, hc, hs, hd]
  have n0 : 0 ≤ nsB b := by unfold nsB; omega
  have d2 := decsN_range b (nsB b)
  constructor
  · intro h
    by_cases hlo : m < base
    · rw [of_out b h0 h1 (.inl hlo), of_out (cutB b n) h0 h1 (.inl hlo)]
    · have i1 := of_in b h0 h1 (n := m) (by omega) (by omega)
      have i2 := of_in (cutB b n) h0 h1 (n := m) (by omega) (by omega)
      rw [hs, hd, hss, hc] at i2
      by_cases h2 : m - base < nsB b
      · rw [i1.1 h2, i2.1 h2]
      · by_cases h3 : m - base < nsB b + decsN b (nsB b)
        · rw [i1.2.1 (by omega) h3, i2.2.1 (by omega) h3]
        · rw [i1.2.2.1 (by omega) (by omega), i2.2.2.1 (by omega) (by omega)]
  · intro h
    have q : ((ofB b base m).1 = 5 ∧ (n : Int) ≤ (ofB b base m).2) ∨ (ofB b base m).1 = 6 ∨ (ofB b base m = (0, 0) ∧ base + countB b ≤ m) := by
      by_cases hhi : base + countB b ≤ m
      · exact .inr (.inr ⟨of_out b h0 h1 (.inr hhi), hhi⟩)
      · have i1 := of_in b h0 h1 (n := m) (by omega) (by omega)
        by_cases h3 : m - base < nsB b + decsN b (nsB b) + ncB b
        · rw [i1.2.2.1 (by omega) h3]
          exact .inl ⟨rfl, by show (n : Int) ≤ m - base - (nsB b + decsN b (nsB b)); omega⟩
        · rw [i1.2.2.2 (by omega)]
          exact .inr (.inl rfl)
    have q2 : (ofB (cutB b n) base m).1 = 6 ∨ ofB (cutB b n) base m = (0, 0) := by
      by_cases hhi : base + countB (cutB b n) ≤ m
      · exact .inr (of_out _ h0 h1 (.inr hhi))
      · have i2 := of_in (cutB b n) h0 h1 (n := m) (by omega) (by omega)
        rw [hs, hd, hc] at i2
        rw [i2.2.2.2 (by omega)]
        exact .inl rfl
    refine ⟨?_, q2, fun he => ?_⟩
    · rcases q with h | h | h
      · exact .inl h
      · exact .inr (.inl h)
      · exact .inr (.inr h.1)
    · rcases q with h | h | h
      · rw [he] at h; exact absurd h.1 (by decide)
      · rw [he] at h; exact absurd h (by decide)
      · exact of_out _ h0 h1 (.inr (by omega))
theorem cut_dec (b : BlkT) {n : Nat} (hn : n ≤ b.cons.length) {base : Int} (h0 : 0 ≤ base) (h1 : base ≤ 65535) (t : Tm) : isDecg (cutB b n) base t = isDecg b base t := by
  obtain ⟨p, q⟩ := of_cut b hn h0 h1 (unspine t).1.n
  unfold isDecg
  have hi : ∀ s, idxLen (cutB b n) s = idxLen b s := fun _ => rfl
  by_cases h : (unspine t).1.n - base < nsB b + decsN b (nsB b) + n
  · rw [p h, hi]
  · obtain ⟨q1, q2, _⟩ := q (by omega)
    have e1 : decide ((ofB b base (unspine t).1.n).1 = 4) = false := by
      rw [decide_eq_false_iff_not]
      rcases q1 with h | h | h
      · rw [h.1]; decide
      · rw [h]; decide
      · rw [h]; decide
    have e2 : decide ((ofB (cutB b n) base (unspine t).1.n).1 = 4) = false := by
      rw [decide_eq_false_iff_not]
      rcases q2 with h | h
      · rw [h]; decide
      · rw [h]; decide
    rw [e1, e2]
    simp only [Bool.and_false, Bool.false_and]
theorem kidsStep_mono {r r' : List Int → Tm → Bool} {vars : List Int} {k : Int} : ∀ (l : List Tm) (i : Nat), (∀ vs, ∀ u ∈ l, r vs u = true → r' vs u = true) → kidsStep r vars k i l = true → kidsStep r' vars k i l = true
  | [], _, _, _ => rfl
  | u :: l, i, h, h2 => by
    rw [kidsStep, Bool.and_eq_true] at h2 ⊢
    exact ⟨h _ u (List.mem_cons_self ..) h2.1, kidsStep_mono l (i + 1) (fun vs v hv => h vs v (List.mem_cons_of_mem _ hv)) h2.2⟩
theorem all_mono {r r' : Tm → Bool} {l : List Tm} (h : ∀ u ∈ l, r u = true → r' u = true) (h2 : l.all r = true) : l.all r' = true := by
  rw [List.all_eq_true] at h2 ⊢
  exact fun u hu => h u hu (h2 u hu)
theorem clean_cut (b : BlkT) {n : Nat} (hn : n ≤ b.cons.length) {base : Int} (h0 : 0 ≤ base) (h1 : base ≤ 65535) : ∀ (N : Nat) (vars : List Int) (t : Tm), size t ≤ N → cleanB b base vars t = true → cleanB (cutB b n) base vars t = true
  | 0, _, t, h, _ => by have := size_pos t; omega
  | N + 1, vars, t, h, hc => by
    have IH := clean_cut b hn h0 h1 N
    by_cases k1 : t.k = 1
    · rw [clean_var _ _ _ k1] at hc ⊢; exact hc
    by_cases k3 : t.k = 3
    · rw [clean_const _ _ _ k3, decide_eq_true_eq] at hc ⊢
      obtain ⟨p, q⟩ := of_cut b hn h0 h1 t.n
      by_cases hlt : t.n - base < nsB b + decsN b (nsB b) + n
      · rw [p hlt]; exact hc
      · obtain ⟨q1, q2, q3⟩ := q (by omega)
        rcases q1 with h | h | h
        · rw [h.1] at hc; exact absurd hc (by decide)
        · rw [h] at hc; exact absurd hc (by decide)
        · rw [q3 h]
    cases hd : isDecg b base t with
    | true =>
      have hp : 0 < (unspine t).2.length := by
        have h2 := hd
        simp only [isDecg, Bool.and_eq_true, decide_eq_true_eq] at h2
        exact h2.1.1.2
      rw [clean_decg _ _ _ k1 k3 hd] at hc
      rw [clean_decg _ _ _ k1 k3 (by rw [cut_dec b hn h0 h1]; exact hd)]
      unfold decgB decgStep at hc ⊢
      simp only [Bool.and_eq_true] at hc ⊢
      exact ⟨all_mono (fun u hu => IH vars u (by have := decg_lt.1 u hu; omega)) hc.1, hc.2.1, all_mono (fun u hu => IH vars u (by have := decg_lt.2 u hu hp; omega)) hc.2.2⟩
    | false =>
      rw [clean_kids _ _ _ k1 k3 hd] at hc
      rw [clean_kids _ _ _ k1 k3 (by rw [cut_dec b hn h0 h1]; exact hd)]
      exact kidsStep_mono _ _ (fun vs u hu => IH vs u (by have := size_le_of_mem hu; have := size_eq t; omega)) hc
theorem clean_cut' (b : BlkT) {n : Nat} (hn : n ≤ b.cons.length) {base : Int} (h0 : 0 ≤ base) (h1 : base ≤ 65535) (vars : List Int) (t : Tm) : cleanB b base vars t = true → cleanB (cutB b n) base vars t = true := clean_cut b hn h0 h1 _ vars t (Nat.le_refl _)
theorem argsStep_mono {cl r cl' r' : Tm → Bool} {vars : List Int} : ∀ (m : List ArgT) (l : List Tm), (∀ u ∈ l, cl u = true → cl' u = true) → (∀ u ∈ l, r u = true → r' u = true) → argsStep cl r vars m l = true → argsStep cl' r' vars m l = true
  | [], l, _, _, _ => by cases l <;> rfl
  | a :: m, [], _, _, _ => rfl
  | a :: m, u :: l, h1, h2, h => by
    rw [argsStep, Bool.and_eq_true] at h ⊢
    refine ⟨?_, argsStep_mono m l (fun v hv => h1 v (List.mem_cons_of_mem _ hv)) (fun v hv => h2 v (List.mem_cons_of_mem _ hv)) h.2⟩
    have h3 := h.1
    unfold argStep at h3 ⊢
    by_cases q1 : (!a.r) = true
    · rw [if_pos q1] at h3 ⊢; exact h1 u (List.mem_cons_self ..) h3
    · rw [if_neg q1] at h3 ⊢
      by_cases q2 : a.dom.length = 0
      · rw [if_pos q2] at h3 ⊢; exact h2 u (List.mem_cons_self ..) h3
      · rw [if_neg q2] at h3 ⊢; exact h3
theorem good_cut (b : BlkT) {n : Nat} (hn : n ≤ b.cons.length) {base : Int} (h0 : 0 ≤ base) (h1 : base ≤ 65535) (vars : List Int) (args : List ArgT) (c : Int) (hcn : c ≤ n) : ∀ (N : Nat) (t : Tm), size t ≤ N → goodB b base vars args c t = true → goodB (cutB b n) base vars args c t = true
  | 0, t, h, _ => by have := size_pos t; omega
  | N + 1, t, h, hc => by
    have IH := good_cut b hn h0 h1 vars args c hcn N
    by_cases k1 : (unspine t).1.k = 1
    · rw [good_var _ _ _ _ _ k1, Bool.and_eq_true] at hc ⊢
      exact ⟨hc.1, all_mono (fun u _ => clean_cut' b hn h0 h1 vars u) hc.2⟩
    by_cases k3 : (unspine t).1.k = 3
    · rw [good_const _ _ _ _ _ k3] at hc ⊢
      simp only [Bool.and_eq_true, decide_eq_true_eq] at hc
      obtain ⟨⟨⟨c1, c2⟩, c3⟩, c4⟩ := hc
      obtain ⟨p, q⟩ := of_cut b hn h0 h1 (unspine t).1.n
      have hlt : (unspine t).1.n - base < nsB b + decsN b (nsB b) + n := by
        by_cases hlt : (unspine t).1.n - base < nsB b + decsN b (nsB b) + n
        · exact hlt
        · obtain ⟨q1, _, _⟩ := q (by omega)
          rcases q1 with h | h | h
          · omega
          · rw [h] at c1; exact absurd c1 (by decide)
          · rw [h] at c1; exact absurd c1 (by decide)
      rw [p hlt]
      obtain ⟨j, hj, hjl, hargs⟩ := of_con b (base := base) (n := (unspine t).1.n) (w := (ofB b base (unspine t).1.n).2) (by rw [← c1])
      have hca : conArgs (cutB b n) (ofB b base (unspine t).1.n).2 = conArgs b (ofB b base (unspine t).1.n).2 := by
        rw [hj]
        show ((((b.cons.take n)[(j : Int).toNat]?).map (·.args)).getD []) = (((b.cons[(j : Int).toNat]?).map (·.args)).getD [])
        rw [Int.toNat_natCast, List.getElem?_take, if_pos (by omega)]
      rw [hca]
      simp only [Bool.and_eq_true, decide_eq_true_eq]
      exact ⟨⟨⟨c1, c2⟩, c3⟩, argsStep_mono _ _ (fun u _ => clean_cut' b hn h0 h1 vars u) (fun u hu => IH u (by have := uns_lt hu; omega)) c4⟩
    · rw [good_none _ _ _ _ _ k1 k3] at hc; exact absurd hc (by decide)
theorem good_cut' (b : BlkT) {n : Nat} (hn : n ≤ b.cons.length) {base : Int} (h0 : 0 ≤ base) (h1 : base ≤ 65535) (vars : List Int) (args : List ArgT) (c : Int) (hcn : c ≤ n) (t : Tm) : goodB b base vars args c t = true → goodB (cutB b n) base vars args c t = true := good_cut b hn h0 h1 vars args c hcn _ t (Nat.le_refl _)
theorem idx_cut (b : BlkT) {n : Nat} (hn : n ≤ b.cons.length) {base : Int} (h0 : 0 ≤ base) (h1 : base ≤ 65535) (vars : List Int) (args : List ArgT) (c : Int) (hcn : c ≤ n) : ∀ (m : List ArgT) (l : List Tm), idxStep b base vars args c m l = true → idxStep (cutB b n) base vars args c m l = true
  | [], l, _ => by cases l <;> rfl
  | a :: m, [], _ => rfl
  | a :: m, u :: l, h => by
    rw [idxStep, Bool.and_eq_true] at h ⊢
    refine ⟨?_, idx_cut b hn h0 h1 vars args c hcn m l h.2⟩
    have h2 := h.1
    split at h2
    · rw [if_pos (by assumption)]; exact good_cut' b hn h0 h1 vars args c hcn u h2
    · rw [if_neg (by assumption)]; exact clean_cut' b hn h0 h1 vars u h2
theorem indices_cut (b : BlkT) {n : Nat} (hn : n ≤ b.cons.length) {base : Int} (h0 : 0 ≤ base) (h1 : base ≤ 65535) (vars : List Int) (args : List ArgT) (c : Int) (hcn : c ≤ n) (s : Int) (l : List Tm) (h : indicesB b base vars args c s l = true) : indicesB (cutB b n) base vars args c s l = true :=
  idx_cut b hn h0 h1 vars args c hcn _ l h
theorem doms_cut (b : BlkT) {n : Nat} (hn : n ≤ b.cons.length) {base : Int} (h0 : 0 ≤ base) (h1 : base ≤ 65535) (vars : List Int) : ∀ (l : List Tm) (j : Nat), domsB b base vars j l = true → domsB (cutB b n) base vars j l = true
  | [], _, _ => rfl
  | u :: l, j, h => by
    rw [domsB, Bool.and_eq_true] at h ⊢
    exact ⟨clean_cut' b hn h0 h1 _ u h.1, doms_cut b hn h0 h1 vars l (j + 1) h.2⟩
theorem teleArg_cut (b : BlkT) {n : Nat} (hn : n ≤ b.cons.length) {base : Int} (h0 : 0 ≤ base) (h1 : base ≤ 65535) (c : Int) (hcn : c ≤ n) (ahead : List ArgT) (a : ArgT) (h : teleArg b base c ahead a = true) : teleArg (cutB b n) base c ahead a = true := by
  unfold teleArg at h ⊢
  split at h
  · rw [if_pos (by assumption)]; exact clean_cut' b hn h0 h1 _ _ h
  · rw [if_neg (by assumption)]
    rw [Bool.and_eq_true] at h ⊢
    exact ⟨doms_cut b hn h0 h1 _ _ _ h.1, indices_cut b hn h0 h1 _ _ c hcn _ _ h.2⟩
theorem teleFrom_cut (b : BlkT) {n : Nat} (hn : n ≤ b.cons.length) {base : Int} (h0 : 0 ≤ base) (h1 : base ≤ 65535) (c : Int) (hcn : c ≤ n) : ∀ (l ahead : List ArgT), teleFrom b base c ahead l = true → teleFrom (cutB b n) base c ahead l = true
  | [], _, _ => rfl
  | a :: l, ahead, h => by
    rw [teleFrom, Bool.and_eq_true] at h ⊢
    exact ⟨teleArg_cut b hn h0 h1 c hcn ahead a h.1, teleFrom_cut b hn h0 h1 c hcn l _ h.2⟩
theorem sortPos_cut (b : BlkT) {n : Nat} (hn : n ≤ b.cons.length) {base : Int} (h0 : 0 ≤ base) (h1 : base ≤ 65535) (s : SortT) (h : sortPos b base s = true) : sortPos (cutB b n) base s = true := by
  unfold sortPos teleB at h ⊢
  rw [Bool.and_eq_true, Bool.or_eq_true] at h ⊢
  exact ⟨teleFrom_cut b hn h0 h1 0 (by omega) _ _ h.1, h.2.imp_right (clean_cut' b hn h0 h1 _ _)⟩
theorem conPos_cut (b : BlkT) {n : Nat} (hn : n ≤ b.cons.length) {base : Int} (h0 : 0 ≤ base) (h1 : base ≤ 65535) (c : Int) (hcn : c ≤ n) (x : ConT) (h : conPos b base c x = true) : conPos (cutB b n) base c x = true := by
  unfold conPos teleB at h ⊢
  rw [Bool.and_eq_true, Bool.and_eq_true, Bool.or_eq_true] at h ⊢
  exact ⟨⟨teleFrom_cut b hn h0 h1 c hcn _ _ h.1.1, indices_cut b hn h0 h1 _ _ c hcn _ _ h.1.2⟩, h.2.imp_right (clean_cut' b hn h0 h1 _ _)⟩
theorem consPos_cut (b : BlkT) {n : Nat} (hn : n ≤ b.cons.length) {base : Int} (h0 : 0 ≤ base) (h1 : base ≤ 65535) : ∀ (l : List ConT) (c : Nat) (m : Nat), c + m ≤ n → consPos b base c l = true → consPos (cutB b n) base c (l.take m) = true
  | [], _, _, _, _ => by simp [consPos]
  | x :: l, c, 0, _, _ => by simp [consPos]
  | x :: l, c, m + 1, hcm, h => by
    rw [consPos, Bool.and_eq_true] at h
    rw [List.take_succ_cons, consPos, Bool.and_eq_true]
    exact ⟨conPos_cut b hn h0 h1 (c : Int) (by omega) x h.1, consPos_cut b hn h0 h1 l (c + 1) m (by omega) h.2⟩
/-- A positive block, cut short, is positive. -/
theorem posit_cut (b : BlkT) {n : Nat} (hn : n ≤ b.cons.length) {base : Int} (h : positB b base = 0) : positB (cutB b n) base = 0 := by
  unfold positB at h ⊢
  cases hs : shapeB b with
  | false => rw [if_pos hs] at h; exact absurd h (by decide)
  | true =>
    rw [if_neg (by rw [hs]; simp)] at h
    rw [if_neg (by rw [cut_shape b n hs]; simp)]
    cases hz : inZ base 0 65535 with
    | false => rw [if_pos hz] at h; exact absurd h (by decide)
    | true =>
      rw [if_neg (by rw [hz]; simp)] at h
      rw [if_neg (by simp)]
      have hz2 := inZ_iff.1 hz
      by_cases hp : (b.sorts.all (sortPos b base) && consPos b base 0 b.cons) = true
      · rw [Bool.and_eq_true] at hp
        rw [if_pos]
        rw [Bool.and_eq_true]
        refine ⟨?_, consPos_cut b hn hz2.1 hz2.2 b.cons 0 n (by omega) hp.2⟩
        show b.sorts.all (sortPos (cutB b n) base) = true
        rw [List.all_eq_true] at *
        exact fun s hs2 => sortPos_cut b hn hz2.1 hz2.2 s (hp.1 s hs2)
      · rw [if_neg hp] at h; exact absurd h (by decide)
end Go.Proofs.Ytggefpkfikimiaa
