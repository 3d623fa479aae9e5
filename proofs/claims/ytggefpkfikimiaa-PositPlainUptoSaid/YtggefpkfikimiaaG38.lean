/- The laws' names: does any term of a block name a constant? No conditions but sizes. -/
import Derived.Test.YtggefpkfikimiaaG36
import Derived.Test.YtggefpkfikimiaaG37
import Derived.Test.YtggefpkfikimiaaG15
namespace Go.Proofs.Ytggefpkfikimiaa
open Go.RowKit
set_option linter.unusedVariables false

def sortsT (l : List SortT) : List Tm := l.flatMap fun s => s.decT :: termsA s.idx
def consT8 (l : List ConT) : List Tm := l.flatMap fun x => x.dec :: (x.idx ++ termsA x.args)
def namesL (b : BlkT) : List Tm := sortsT b.sorts ++ consT8 b.cons
def namesB (b : BlkT) (n : Int) : Bool := (namesL b).any fun t => decide (n ∈ constT t)
theorem sortsT_take {l : List SortT} {j : Nat} (h : j < l.length) : sortsT (l.take (j + 1)) = (sortsT (l.take j) ++ [l[j].decT]) ++ termsA l[j].idx := by
  rw [List.take_succ_eq_append_getElem h, sortsT, List.flatMap_append]
  simp [sortsT, List.append_assoc]
theorem consT8_take {l : List ConT} {j : Nat} (h : j < l.length) : consT8 (l.take (j + 1)) = ((consT8 (l.take j) ++ [l[j].dec]) ++ l[j].idx) ++ termsA l[j].args := by
  rw [List.take_succ_eq_append_getElem h, consT8, List.flatMap_append]
  simp [consT8, List.append_assoc]
theorem sortsT_len : ∀ (l : List SortT), (sortsT l).length ≤ sortsN l
  | [] => by simp [sortsT]
  | s :: l => by
    have ih := sortsT_len l
    have h1 := termsA_len s.idx
    have h2 := size_pos s.decT
    have e : sortsT (s :: l) = (s.decT :: termsA s.idx) ++ sortsT l := by simp [sortsT]
    rw [e]
    simp only [List.length_append, List.length_cons, sortsN, sortN]
    omega
theorem consT8_len : ∀ (l : List ConT), (consT8 l).length ≤ consN l
  | [] => by simp [consT8]
  | x :: l => by
    have ih := consT8_len l
    have h1 := termsA_len x.args
    have h2 := size_pos x.dec
    have h3 := length_le_sizeL x.idx
    have e : consT8 (x :: l) = (x.dec :: (x.idx ++ termsA x.args)) ++ consT8 l := by simp [consT8]
    rw [e]
    simp only [List.length_append, List.length_cons, consN, conN]
    omega
theorem sortsN_take8 (l : List SortT) (j : Nat) : sortsN (l.take j) ≤ sortsN l := by
  induction l generalizing j with
  | nil => simp
  | cons a l ih =>
    cases j with
    | zero => simp [sortsN]
    | succ j => simp only [List.take_succ_cons, sortsN]; have := ih j; omega
theorem consN_take8 (l : List ConT) (j : Nat) : consN (l.take j) ≤ consN l := by
  induction l generalizing j with
  | nil => simp
  | cons a l ih =>
    cases j with
    | zero => simp [consN]
    | succ j => simp only [List.take_succ_cons, consN]; have := ih j; omega
theorem size_namesA {l : List ArgT} {t : Tm} (h : t ∈ termsA l) : size t ≤ argsN l := by
  obtain ⟨a, ha, ht⟩ := List.mem_flatMap.1 h
  have h1 := argN_le ha
  have h2 : size t ≤ argN a := by
    unfold argN
    rcases List.mem_append.1 ht with h3 | h3
    · rcases List.mem_cons.1 h3 with rfl | h3
      · omega
      · have := size_le_of_mem h3; omega
    · have := size_le_of_mem h3; omega
  omega
theorem size_names {b : BlkT} {t : Tm} (h : t ∈ namesL b) : size t ≤ blkN b := by
  unfold blkN
  rcases List.mem_append.1 h with h | h
  · obtain ⟨s, hs, ht⟩ := List.mem_flatMap.1 h
    have h1 := sortN_le hs
    unfold sortN at h1
    rcases List.mem_cons.1 ht with rfl | ht
    · omega
    · have := size_namesA ht; omega
  · obtain ⟨x, hx, ht⟩ := List.mem_flatMap.1 h
    have h1 := conN_le hx
    unfold conN at h1
    rcases List.mem_cons.1 ht with rfl | ht
    · omega
    · rcases List.mem_append.1 ht with ht | ht
      · have := size_le_of_mem ht; omega
      · have := size_namesA ht; omega
theorem constT_len8 : ∀ t : Tm, (constT t).length ≤ size t := by
  refine tm_ind fun t ih => ?_
  have key : ∀ l : List Tm, (∀ u ∈ l, (constT u).length ≤ size u) → (constK l).length ≤ sizeL l := by
    intro l
    induction l with
    | nil => intro _; simp [constK]
    | cons a l ih2 =>
      intro h
      have h1 := h a (List.mem_cons_self ..)
      have h2 := ih2 fun u hu => h u (List.mem_cons_of_mem _ hu)
      simp only [constK, List.length_append, sizeL]
      omega
  have h1 := key t.kids ih
  rw [constT_eq, List.length_append, size_eq]
  have h2 : (if t.k = 3 then [t.n] else []).length ≤ 1 := by split <;> simp
  omega
/-- Names on its way: its block's box, the row of the terms. -/
def NmI (w : World) (b : BlkT) (vs vc : Value) (L : List Tm) (v : Value) (wr : World) : Prop := RowP w (w.heap.size + 1) L v wr ∧ wr.heap[w.heap.size]? = some (.cells #[vs, vc, .int .i64 b.elim] 33 (0, 0)) ∧ Below w.heap.size w wr
theorem NmI.bel {w : World} {b : BlkT} {vs vc : Value} {L : List Tm} {v : Value} {wr w' : World} (h : NmI w b vs vc L v wr) (hb : Below wr.heap.size wr w') : NmI w b vs vc L v w' :=
  ⟨h.1.keep hb, (hb.block _ (Array.getElem?_eq_some_iff.1 h.2.1).1).trans h.2.1, h.2.2.trans (hb.mono h.2.2.size)⟩
theorem NmI.size {w : World} {b : BlkT} {vs vc : Value} {L : List Tm} {v : Value} {wr : World} (h : NmI w b vs vc L v wr) : w.heap.size + 1 ≤ wr.heap.size := (Array.getElem?_eq_some_iff.1 h.2.1).1
theorem NmI.next {w : World} {b : BlkT} {vs vc : Value} {L L' : List Tm} {v v' : Value} {wr w' : World} (h : NmI w b vs vc L v wr) (hr : RowP w (w.heap.size + 1) L' v' w') (hb : Below (w.heap.size + 1) wr w') : NmI w b vs vc L' v' w' :=
  ⟨hr, (hb.block _ (Nat.lt_succ_self _)).trans h.2.1, h.2.2.trans (hb.mono (Nat.le_succ _))⟩
theorem NmI.cells {w : World} {b : BlkT} {vs vc : Value} {L : List Tm} {v : Value} {wr : World} (h : NmI w b vs vc L v wr) : wr.cell? ⟨w.heap.size, 0, none⟩ = some vs ∧ wr.cell? ⟨w.heap.size, 1, none⟩ = some vc ∧ wr.cell? ⟨w.heap.size, 2, none⟩ = some (.int .i64 b.elim) := by
  have h1 := h.2.1
  refine ⟨?_, ?_, ?_⟩ <;> simp [World.cell?, h1]
set_option maxRecDepth 100000 in
set_option maxHeartbeats 4000000 in
theorem names_any (b : BlkT) (hs : blkN b ≤ 1048576) (n : Int) (w : World) (vs vc : Value) (hA : BAt w b vs vc) :
    Calls Try.prog 17 #[.agg #[vs, vc, .int .i64 b.elim], .int .i64 n] w fun e w' => e = .returned (.bool (namesB b n)) ∧ Below w.heap.size w w' := by
  obtain ⟨ps, cs, pc, cc, rfl, rfl⟩ := hA.shape
  have h0 := oneb_start w b _ _ hA
  have N0 : Hid (NmI w b (.slice ps b.sorts.length cs) (.slice pc b.cons.length cc) [] (.slice none 0 0) (w.alloc (.cells #[.slice ps b.sorts.length cs, .slice pc b.cons.length cc, .int .i64 b.elim] 33))) := ⟨RowP.start _ _ _, h0.1, h0.2.2⟩
  have HA := Lib.hid hA
  have hls := sortsN_len b.sorts
  have hlc := consN_len b.cons
  have hbs : sortsN b.sorts ≤ 1048576 ∧ consN b.cons ≤ 1048576 := by unfold blkN at hs; omega
  have hls2 : b.sorts.length ≤ 1048576 := by omega
  have hlc2 : b.cons.length ≤ 1048576 := by omega
  clear hA h0 hls hlc
  go_enter Try.func17, Try.ntmps17
  go_wp2_with fail
  revert N0
  generalize w.alloc (.cells #[.slice ps b.sorts.length cs, .slice pc b.cons.length cc, .int .i64 b.elim] 33) = W0
  intro N0
  go_loopw [5, 6] (fun sr si wr => ∃ (j : Nat) (a : Option Addr) (c : Nat), si = .int .i64 (j : Int) ∧ sr = .slice a (sortsT (b.sorts.take j)).length c ∧ j ≤ b.sorts.length ∧ NmI w b (.slice ps b.sorts.length cs) (.slice pc b.cons.length cc) (sortsT (b.sorts.take j)) (.slice a (sortsT (b.sorts.take j)).length c) wr) (fun _ si _ => b.sorts.length - (RowKit.intOf si).toNat)
  case atStart => exact ⟨0, none, 0, rfl, rfl, Nat.zero_le _, N0.out⟩
  case round =>
    clear N0
    obtain ⟨j, a, c, rfl, rfl, hj, hN⟩ := hrel
    have NJ := Lib.hid hN
    clear hN
    by_cases hlt : j < b.sorts.length
    · have hj1 : (j : Int) < (b.sorts.length : Int) := by omega
      have hj0 : (0 : Int) ≤ (j : Int) := by omega
      have hw1 : IntKind.i64.wrap ((j : Int) + 1) = ((j + 1 : Nat) : Int) := by rw [IntWalk.i64_in _ (by omega)]; omega
      have HLEN := Lib.hid (sortsT_take hlt)
      have hq1 : (sortsT (b.sorts.take j)).length ≤ 1048576 := by have h1 := sortsT_len (b.sorts.take j); have h2 := sortsN_take8 b.sorts j; omega
      have hq2 : argsN b.sorts[j].idx ≤ 1048576 := by have h3 := sortN_le (List.getElem_mem hlt); unfold sortN at h3; omega
      have hq3 : (termsA b.sorts[j].idx).length ≤ 1048576 := by have := termsA_len b.sorts[j].idx; omega
      obtain ⟨bS, oS, vx, vt, he, gA, gT, s0, s1, s2, s3, s4, s5⟩ := SRow.at HA.out.1 hlt
      cases he
      obtain ⟨pi, ci, rfl⟩ := gA.shape
      obtain ⟨pt, ct, rfl⟩ := gT.shape
      have GA := Lib.hid gA
      have GT := Lib.hid gT
      have hb1 := NJ.out.2.2
      have y3 := gcell hb1 s3
      have y4 := gcell hb1 s4
      have y5 := gcell hb1 s5
      have HM := Lib.hid s0
      obtain ⟨x0, x1, x2⟩ := NJ.out.cells
      clear gA gT hb1 s0 s1 s2 s3 s4 s5
      generalize sortsT (b.sorts.take j) = L at *
      go_wp2_with (at_builtin; refine wpList_append_rowp (k := [b.sorts[j].decT]) rfl (.tmp 18) (.tmp 25) rfl rfl rfl (by simp only [List.length_singleton]; omega) (NJ.out.bel (below_al wr (.cells #[.int .i64 b.sorts[j].decT.k, .int .i64 b.sorts[j].decT.n, .slice pt b.sorts[j].decT.kids.length ct] 25))).1 (by rw [World.size_alloc]; have := NJ.out.size; omega) (srcp_one (World.alloc_heap_new wr _) GT.out) ?_; intro a1 c1' w1 hr1 hb1; have N1 := Lib.hid ((NJ.out.bel (below_al wr _)).next hr1 hb1); clear y3 y4 y5 x0 x1 x2 hr1 hb1; have hq5 : (L ++ [b.sorts[j].decT]).length ≤ 1048577 := (by rw [List.length_append, List.length_singleton]; omega); generalize L ++ [b.sorts[j].decT] = L1 at *; obtain ⟨x0, x1, x2⟩ := N1.out.cells; have y0 := gcell N1.out.2.2 HM.out)
      have HT := Lib.hid (terms_any b.sorts[j].idx hq2 w w1 N1.out.2.2 _ (ARow.bel (Below.refl _ _) GA.out))
      refine HT.out.mono ?_
      rintro e w2 ⟨a2, c2, rfl, hS2, hb2⟩
      have N2 := Lib.hid (N1.out.bel hb2)
      have S2 := Lib.hid hS2
      clear hS2 hb2 x0 x1 x2 y0 N1 HT
      go_wp2_with (at_builtin; refine wpList_append_rowp (k := termsA b.sorts[j].idx) rfl (.tmp 27) (.tmp 34) rfl rfl rfl (by omega) N2.out.1 N2.out.size S2.out ?_; intro a3 c3' w3 hr3 hb3; have N3 := Lib.hid (N2.out.next hr3 hb3); clear hr3 hb3)
      go_roundw
      case rel => exact ⟨j + 1, a3, c3', by go_num, by rw [HLEN.out]; congr 1; simp only [List.length_append], by omega, by rw [HLEN.out]; exact N3.out⟩
      case measure => simp [RowKit.intOf] <;> omega
    · obtain rfl : j = b.sorts.length := by omega
      rw [List.take_length] at NJ ⊢
      have hq0 : (sortsT b.sorts).length + consN b.cons ≤ 1048576 := by have h1 := sortsT_len b.sorts; unfold blkN at hs; omega
      have hNL : namesL b = sortsT b.sorts ++ consT8 b.cons := rfl
      have HNL := Lib.hid hNL
      clear hNL
      obtain ⟨x0, x1, x2⟩ := NJ.out.cells
      generalize sortsT b.sorts = L0 at *
      go_wp2_with fail
      clear x0 x1 x2
      go_loopw [5, 7] (fun sr si wr => ∃ (j : Nat) (a : Option Addr) (c : Nat), si = .int .i64 (j : Int) ∧ sr = .slice a (L0 ++ consT8 (b.cons.take j)).length c ∧ j ≤ b.cons.length ∧ NmI w b (.slice ps b.sorts.length cs) (.slice pc b.cons.length cc) (L0 ++ consT8 (b.cons.take j)) (.slice a (L0 ++ consT8 (b.cons.take j)).length c) wr) (fun _ si _ => b.cons.length - (RowKit.intOf si).toNat)
      case atStart => exact ⟨0, a, c, rfl, by simp [consT8], Nat.zero_le _, by simpa [consT8] using NJ.out⟩
      case round =>
        clear NJ
        obtain ⟨j, a, c, rfl, rfl, hj, hN⟩ := hrel
        have NJ := Lib.hid hN
        clear hN
        by_cases hlt : j < b.cons.length
        · have hj1 : (j : Int) < (b.cons.length : Int) := by omega
          have hj0 : (0 : Int) ≤ (j : Int) := by omega
          have hw1 : IntKind.i64.wrap ((j : Int) + 1) = ((j + 1 : Nat) : Int) := by rw [IntWalk.i64_in _ (by omega)]; omega
          have HLEN := Lib.hid (show L0 ++ consT8 (b.cons.take (j + 1)) = (((L0 ++ consT8 (b.cons.take j)) ++ [b.cons[j].dec]) ++ b.cons[j].idx) ++ termsA b.cons[j].args by rw [consT8_take hlt]; simp only [List.append_assoc])
          have hq1 : (L0 ++ consT8 (b.cons.take j)).length ≤ 1048576 := by rw [List.length_append]; have h1 := consT8_len (b.cons.take j); have h2 := consN_take8 b.cons j; omega
          have h3 := conN_le (List.getElem_mem hlt)
          have h4 := length_le_sizeL b.cons[j].idx
          unfold conN at h3
          have hq2 : argsN b.cons[j].args ≤ 1048576 := by omega
          have hq4 : b.cons[j].idx.length ≤ 1048576 := by omega
          have hq3 : (termsA b.cons[j].args).length ≤ 1048576 := by have := termsA_len b.cons[j].args; omega
          obtain ⟨bS, oS, vx, vy, vt, he, gA, gI, gT, s0, s1, s2, s3, s4, s5⟩ := CRow.at HA.out.2 hlt
          cases he
          obtain ⟨pi, ci, rfl⟩ := gA.shape
          obtain ⟨pj, cj, rfl⟩ := gI.shape
          obtain ⟨pt, ct, rfl⟩ := gT.shape
          have GA := Lib.hid gA
          have GI := Lib.hid gI
          have GT := Lib.hid gT
          have HM := Lib.hid (And.intro s2 (And.intro s3 (And.intro s4 s5)))
          have HM1 := Lib.hid s1
          clear gA gI gT h3 h4 s0 s1 s2 s3 s4 s5
          generalize L0 ++ consT8 (b.cons.take j) = L at *
          obtain ⟨x0, x1, x2⟩ := NJ.out.cells
          go_wp2_with fail
          clear x0 x1 x2
          refine wp_region_F (fun W => W.cell? ⟨w.heap.size, 1, none⟩ = some (.slice (some ⟨bS, oS, none⟩) b.cons.length cc) ∧ W.cell? ⟨bS, oS + j * 6 + 2, none⟩ = some (.slice pj b.cons[j].idx.length cj) ∧ W.cell? ⟨bS, oS + j * 6 + 3, none⟩ = some (.int .i64 b.cons[j].dec.k) ∧ W.cell? ⟨bS, oS + j * 6 + 4, none⟩ = some (.int .i64 b.cons[j].dec.n) ∧ W.cell? ⟨bS, oS + j * 6 + 5, none⟩ = some (.slice pt b.cons[j].dec.kids.length ct)) 16 (by kernel_rfl) ?_
          have hd5 : Below wr.heap.size wr wr.drew := (Below.refl _ wr).drew
          obtain ⟨w5, hw5⟩ : ∃ w5, w5 = wr.drew := ⟨_, rfl⟩
          rw [← hw5] at hd5 ⊢
          have N5 := Lib.hid (NJ.out.bel hd5)
          have HSW : Hid (∀ W L2 v2, NmI w b (.slice ps b.sorts.length cs) (.slice (some ⟨bS, oS, none⟩) b.cons.length cc) L2 v2 W → (W.cell? ⟨w.heap.size, 1, none⟩ = some (.slice (some ⟨bS, oS, none⟩) b.cons.length cc) ∧ W.cell? ⟨bS, oS + j * 6 + 2, none⟩ = some (.slice pj b.cons[j].idx.length cj) ∧ W.cell? ⟨bS, oS + j * 6 + 3, none⟩ = some (.int .i64 b.cons[j].dec.k) ∧ W.cell? ⟨bS, oS + j * 6 + 4, none⟩ = some (.int .i64 b.cons[j].dec.n) ∧ W.cell? ⟨bS, oS + j * 6 + 5, none⟩ = some (.slice pt b.cons[j].dec.kids.length ct))) := fun W L2 v2 hN => by
            exact ⟨hN.cells.2.1, gcell hN.2.2 HM.out.1, gcell hN.2.2 HM.out.2.1, gcell hN.2.2 HM.out.2.2.1, gcell hN.2.2 HM.out.2.2.2⟩
          have HS5 := Lib.hid (HSW.out w5 _ _ N5.out)
          clear hd5 hw5 NJ
          refine wpAnyF_take (i := 0) (v := (.slice a L.length c)) rfl (by kernel_rfl) (by kernel_rfl) (by kernel_rfl) (by kernel_rfl) (by kernel_rfl) (fun _ _ _ h => h) (Or.inl ⟨by rfl, fun W hS => by obtain ⟨q1, q2, q3, q4, q5⟩ := hS; go_simp⟩) HS5.out ?_
          change wpAnyF _ _ _ _ _ _ _ (Act.put _ (some 43) _) _
          simp only [Act.put, List.setIfInBounds_toArray, List.set_cons_zero, List.set_cons_succ]
          refine wpAnyF_take (i := 1) (v := (.pointer (some ⟨w.heap.size, 1, none⟩))) rfl (by kernel_rfl) (by kernel_rfl) (by kernel_rfl) (by kernel_rfl) (by kernel_rfl) (fun _ _ _ h => h) (Or.inl ⟨by rfl, fun W hS => by obtain ⟨q1, q2, q3, q4, q5⟩ := hS; go_simp⟩) HS5.out ?_
          change wpAnyF _ _ _ _ _ _ _ (Act.put _ (some 44) _) _
          simp only [Act.put, List.setIfInBounds_toArray, List.set_cons_zero, List.set_cons_succ]
          refine wpAnyF_take (i := 2) (v := (.slice (some ⟨bS, oS, none⟩) b.cons.length cc)) rfl (by kernel_rfl) (by kernel_rfl) (by kernel_rfl) (by kernel_rfl) (by kernel_rfl) (fun _ _ _ h => h) (Or.inl ⟨by rfl, fun W hS => by obtain ⟨q1, q2, q3, q4, q5⟩ := hS; go_simp⟩) HS5.out ?_
          change wpAnyF _ _ _ _ _ _ _ (Act.put _ (some 45) _) _
          simp only [Act.put, List.setIfInBounds_toArray, List.set_cons_zero, List.set_cons_succ]
          refine wpAnyF_take (i := 3) (v := (.int .i64 (j : Int))) rfl (by kernel_rfl) (by kernel_rfl) (by kernel_rfl) (by kernel_rfl) (by kernel_rfl) (fun _ _ _ h => h) (Or.inl ⟨by rfl, fun W hS => by obtain ⟨q1, q2, q3, q4, q5⟩ := hS; go_simp⟩) HS5.out ?_
          change wpAnyF _ _ _ _ _ _ _ (Act.put _ (some 46) _) _
          simp only [Act.put, List.setIfInBounds_toArray, List.set_cons_zero, List.set_cons_succ]
          refine wpAnyF_take (i := 4) (v := (.pointer (some ⟨bS, oS + j * 6, none⟩))) rfl (by kernel_rfl) (by kernel_rfl) (by kernel_rfl) (by kernel_rfl) (by kernel_rfl) (fun _ _ _ h => h) (Or.inl ⟨by rfl, fun W hS => by obtain ⟨q1, q2, q3, q4, q5⟩ := hS; go_simp⟩) HS5.out ?_
          change wpAnyF _ _ _ _ _ _ _ (Act.put _ (some 47) _) _
          simp only [Act.put, List.setIfInBounds_toArray, List.set_cons_zero, List.set_cons_succ]
          refine wpAnyF_take (i := 5) (v := (.pointer (some ⟨bS, oS + j * 6 + 3, none⟩))) rfl (by kernel_rfl) (by kernel_rfl) (by kernel_rfl) (by kernel_rfl) (by kernel_rfl) (fun _ _ _ h => h) (Or.inl ⟨by rfl, fun W hS => by obtain ⟨q1, q2, q3, q4, q5⟩ := hS; go_simp⟩) HS5.out ?_
          change wpAnyF _ _ _ _ _ _ _ (Act.put _ (some 48) _) _
          simp only [Act.put, List.setIfInBounds_toArray, List.set_cons_zero, List.set_cons_succ]
          refine wpAnyF_take (i := 6) (v := (.agg #[.int .i64 b.cons[j].dec.k, .int .i64 b.cons[j].dec.n, .slice pt b.cons[j].dec.kids.length ct])) rfl (by kernel_rfl) (by kernel_rfl) (by kernel_rfl) (by kernel_rfl) (by kernel_rfl) (fun _ _ _ h => h) (Or.inl ⟨by rfl, fun W hS => by obtain ⟨q1, q2, q3, q4, q5⟩ := hS; go_simp⟩) HS5.out ?_
          change wpAnyF _ _ _ _ _ _ _ (Act.put _ (some 49) _) _
          simp only [Act.put, List.setIfInBounds_toArray, List.set_cons_zero, List.set_cons_succ]
          refine wpAnyF_take (i := 9) (v := (.pointer (some ⟨w.heap.size, 1, none⟩))) rfl (by kernel_rfl) (by kernel_rfl) (by kernel_rfl) (by kernel_rfl) (by kernel_rfl) (fun _ _ _ h => h) (Or.inl ⟨by rfl, fun W hS => by obtain ⟨q1, q2, q3, q4, q5⟩ := hS; go_simp⟩) HS5.out ?_
          change wpAnyF _ _ _ _ _ _ _ (Act.put _ (some 52) _) _
          simp only [Act.put, List.setIfInBounds_toArray, List.set_cons_zero, List.set_cons_succ]
          refine wpAnyF_take (i := 10) (v := (.slice (some ⟨bS, oS, none⟩) b.cons.length cc)) rfl (by kernel_rfl) (by kernel_rfl) (by kernel_rfl) (by kernel_rfl) (by kernel_rfl) (fun _ _ _ h => h) (Or.inl ⟨by rfl, fun W hS => by obtain ⟨q1, q2, q3, q4, q5⟩ := hS; go_simp⟩) HS5.out ?_
          change wpAnyF _ _ _ _ _ _ _ (Act.put _ (some 53) _) _
          simp only [Act.put, List.setIfInBounds_toArray, List.set_cons_zero, List.set_cons_succ]
          refine wpAnyF_take (i := 11) (v := (.int .i64 (j : Int))) rfl (by kernel_rfl) (by kernel_rfl) (by kernel_rfl) (by kernel_rfl) (by kernel_rfl) (fun _ _ _ h => h) (Or.inl ⟨by rfl, fun W hS => by obtain ⟨q1, q2, q3, q4, q5⟩ := hS; go_simp⟩) HS5.out ?_
          change wpAnyF _ _ _ _ _ _ _ (Act.put _ (some 54) _) _
          simp only [Act.put, List.setIfInBounds_toArray, List.set_cons_zero, List.set_cons_succ]
          refine wpAnyF_take (i := 12) (v := (.pointer (some ⟨bS, oS + j * 6, none⟩))) rfl (by kernel_rfl) (by kernel_rfl) (by kernel_rfl) (by kernel_rfl) (by kernel_rfl) (fun _ _ _ h => h) (Or.inl ⟨by rfl, fun W hS => by obtain ⟨q1, q2, q3, q4, q5⟩ := hS; go_simp⟩) HS5.out ?_
          change wpAnyF _ _ _ _ _ _ _ (Act.put _ (some 55) _) _
          simp only [Act.put, List.setIfInBounds_toArray, List.set_cons_zero, List.set_cons_succ]
          refine wpAnyF_take (i := 13) (v := (.pointer (some ⟨bS, oS + j * 6 + 2, none⟩))) rfl (by kernel_rfl) (by kernel_rfl) (by kernel_rfl) (by kernel_rfl) (by kernel_rfl) (fun _ _ _ h => h) (Or.inl ⟨by rfl, fun W hS => by obtain ⟨q1, q2, q3, q4, q5⟩ := hS; go_simp⟩) HS5.out ?_
          change wpAnyF _ _ _ _ _ _ _ (Act.put _ (some 56) _) _
          simp only [Act.put, List.setIfInBounds_toArray, List.set_cons_zero, List.set_cons_succ]
          refine wpAnyF_take (i := 14) (v := (.slice pj b.cons[j].idx.length cj)) rfl (by kernel_rfl) (by kernel_rfl) (by kernel_rfl) (by kernel_rfl) (by kernel_rfl) (fun _ _ _ h => h) (Or.inl ⟨by rfl, fun W hS => by obtain ⟨q1, q2, q3, q4, q5⟩ := hS; go_simp⟩) HS5.out ?_
          change wpAnyF _ _ _ _ _ _ _ (Act.put _ (some 57) _) _
          simp only [Act.put, List.setIfInBounds_toArray, List.set_cons_zero, List.set_cons_succ]
          refine wpAnyF_one (i := 7) (by kernel_rfl) rfl (by rfl) fun K' hK => ?_
          go_simp
          have hal := below_al w5 (.cells #[.int .i64 b.cons[j].dec.k, .int .i64 b.cons[j].dec.n, .slice pt b.cons[j].dec.kids.length ct] 25)
          have hn6 := World.alloc_heap_new w5 (.cells #[.int .i64 b.cons[j].dec.k, .int .i64 b.cons[j].dec.n, .slice pt b.cons[j].dec.kids.length ct] 25)
          obtain ⟨w6, hw6⟩ : ∃ w6, w6 = w5.alloc (.cells #[.int .i64 b.cons[j].dec.k, .int .i64 b.cons[j].dec.n, .slice pt b.cons[j].dec.kids.length ct] 25) := ⟨_, rfl⟩
          rw [← hw6] at hal hn6 ⊢
          have N6 := Lib.hid (N5.out.bel hal)
          have K6 := Lib.hid (srcp_one hn6 GT.out)
          clear hal hn6 hw6 N5
          refine hK _ _ (fun _ => HSW.out w6 _ _ N6.out) ?_
          clear hK K'
          try change wpAnyF _ _ _ _ _ _ _ (Act.put _ (some 50) _) _
          try simp only [Act.put, List.setIfInBounds_toArray, List.set_cons_zero, List.set_cons_succ]
          refine wpAnyF_one (i := 8) (by kernel_rfl) rfl (by rfl) fun K' hK => ?_
          refine wp_append_rowp (k := [b.cons[j].dec]) (.tmp 43) (.tmp 50) (by rfl) (by rfl) (by rfl) (by simp only [List.length_singleton]; omega) N6.out.1 N6.out.size (K6.out) ?_
          intro a7 d7 w7 hr hb
          have N7 := Lib.hid (N6.out.next hr hb)
          clear hr hb N6
          refine hK _ _ (fun _ => HSW.out w7 _ _ N7.out) ?_
          clear hK K'
          try change wpAnyF _ _ _ _ _ _ _ (Act.put _ (some 51) _) _
          try simp only [Act.put, List.setIfInBounds_toArray, List.set_cons_zero, List.set_cons_succ]
          refine wpAnyF_one (i := 15) (by kernel_rfl) rfl (by rfl) fun K' hK => ?_
          refine wp_append_rowp (k := b.cons[j].idx) (.tmp 51) (.tmp 57) (by rfl) (by rfl) (by rfl) (by rw [List.length_append, List.length_singleton]; omega) N7.out.1 N7.out.size (srcp_of_at N7.out.2.2 GI.out) ?_
          intro a9 d9 w9 hr hb
          have N9 := Lib.hid (N7.out.next hr hb)
          clear hr hb N7
          have hq5 : ((L ++ [b.cons[j].dec]) ++ b.cons[j].idx).length ≤ 2097153 := by rw [List.length_append, List.length_append, List.length_singleton]; omega
          generalize (L ++ [b.cons[j].dec]) ++ b.cons[j].idx = L9 at *
          refine hK _ _ (fun _ => HSW.out w9 _ _ N9.out) ?_
          clear hK K'
          try change wpAnyF _ _ _ _ _ _ _ (Act.put _ (some 58) _) _
          try simp only [Act.put, List.setIfInBounds_toArray, List.set_cons_zero, List.set_cons_succ]
          refine wpAnyF_one (i := 16) (by kernel_rfl) rfl (by rfl) fun K' hK => ?_
          go_simp
          refine hK _ _ (fun h => absurd h (by simp)) ?_
          clear hK K'
          refine wpAnyF_done (by kernel_rfl) ?_ _
          try simp only [Act.put]
          have y0 := gcell N9.out.2.2 HM1.out
          obtain ⟨x0, x1, x2⟩ := N9.out.cells
          go_wp2_with fail
          have HT := Lib.hid (terms_any b.cons[j].args hq2 w w9 N9.out.2.2 _ (ARow.bel (Below.refl _ _) GA.out))
          refine HT.out.mono ?_
          rintro e wb ⟨a2, c2, rfl, hS2, hb2⟩
          have N2 := Lib.hid (N9.out.bel hb2)
          have S2 := Lib.hid hS2
          clear hS2 hb2 x0 x1 x2 y0 N9 HT
          go_wp2_with (at_builtin; refine wpList_append_rowp (k := termsA b.cons[j].args) rfl (.tmp 59) (.tmp 66) rfl rfl rfl (by omega) N2.out.1 N2.out.size S2.out ?_; intro a3 c3' w3 hr3 hb3; have N3 := Lib.hid (N2.out.next hr3 hb3); clear hr3 hb3)
          go_roundw
          case rel => exact ⟨j + 1, a3, c3', by go_num, by rw [HLEN.out]; congr 1; simp only [List.length_append], by omega, by rw [HLEN.out]; exact N3.out⟩
          case measure => simp [RowKit.intOf] <;> omega
        · obtain rfl : j = b.cons.length := by omega
          rw [List.take_length] at NJ ⊢
          rw [← HNL.out] at NJ ⊢
          have hql : (namesL b).length ≤ 2097152 := by
            have h1 := consT8_len b.cons
            rw [HNL.out, List.length_append]
            omega
          have HSZ := Lib.hid (fun t ht => Nat.le_trans (size_names (b := b) (t := t) ht) hs)
          have HE0 := Lib.hid (show namesB b n = ((namesL b).drop 0).any (fun t => decide (n ∈ constT t)) from rfl)
          clear HNL
          generalize namesL b = L at *
          obtain ⟨x0, x1, x2⟩ := NJ.out.cells
          go_wp2_with fail
          clear x0 x1 x2
          have SJ := Lib.hid (srcp_of_row NJ.out.1)
          have BJ := Lib.hid NJ.out.2.2
          clear NJ
          go_loopw [8] (fun si wr => ∃ (j : Nat), si = .int .i64 (j : Int) ∧ j ≤ L.length ∧ namesB b n = (L.drop j).any (fun t => decide (n ∈ constT t)) ∧ SrcP w wr L (.slice a L.length c) ∧ Below w.heap.size w wr) (fun si _ => L.length - (RowKit.intOf si).toNat)
          case atStart => exact ⟨0, rfl, Nat.zero_le _, HE0.out, SJ.out, BJ.out⟩
          case round =>
            clear SJ BJ HE0
            obtain ⟨j, rfl, hj, hE, hS, hB⟩ := hrel
            have HE := Lib.hid hE
            have SJ := Lib.hid hS
            have BJ := Lib.hid hB
            clear hE hS hB
            by_cases hlt : j < L.length
            · have hj1 : (j : Int) < (L.length : Int) := by omega
              have hj0 : (0 : Int) ≤ (j : Int) := by omega
              have hw1 : IntKind.i64.wrap ((j : Int) + 1) = ((j + 1 : Nat) : Int) := by rw [IntWalk.i64_in _ (by omega)]; omega
              have HDA := Lib.hid (show (L.drop j).any (fun t => decide (n ∈ constT t)) = (decide (n ∈ constT L[j]) || (L.drop (j + 1)).any (fun t => decide (n ∈ constT t))) by rw [List.drop_eq_getElem_cons hlt, List.any_cons])
              rcases SJ.out with ⟨he, _⟩ | ⟨_, bX, oX, cX, us, he, g0, g1, g2, g3⟩
              · rw [he] at hlt; exact absurd hlt (Nat.not_lt_zero _)
              cases he
              have y0 := g0 j hlt
              have y1 := g1 j hlt
              have y2 := g2 j hlt
              have y3 := g3 j hlt
              obtain ⟨au, cu, hau⟩ := y3.shape
              rw [hau] at y2 y3
              have HC := Lib.hid (rconsts_any L[j] (HSZ.out _ (List.getElem_mem hlt)) wr _ (y3.bel BJ.out (Nat.le_refl _)))
              clear g0 g1 g2 g3 y3 hau
              go_wp2_with fail
              refine HC.out.mono ?_
              rintro e w3 ⟨v3, rfl, hb3, hI3⟩
              obtain ⟨aI, cI, rfl, _, _, hI⟩ := hI3
              have S3 := Lib.hid (SJ.out.bel hb3)
              have B3 := Lib.hid (BJ.out.trans (hb3.mono BJ.out.size))
              have hmem : ∀ x, x ∈ consI (constT L[j]) ↔ x ∈ constT L[j] := consI_mem _
              have HMEM := Lib.hid hmem
              have hxl : (consI (constT L[j])).length ≤ 1048576 := by have h1 := consI_len (constT L[j]); have h2 := constT_len8 L[j]; have h3 := HSZ.out _ (List.getElem_mem hlt); omega
              have HI := Lib.hid hI
              clear hb3 hI hmem y0 y1 y2 HC
              generalize consI (constT L[j]) = X at *
              go_wp2_with fail
              go_loopw [10] (fun si ws => ∃ q : Nat, si = .int .i64 (q : Int) ∧ q ≤ X.length ∧ (∀ m (h : m < X.length), m < q → X[m] ≠ n) ∧ ws = w3) (fun si _ => X.length - (RowKit.intOf si).toNat)
              case atStart => exact ⟨0, rfl, Nat.zero_le _, fun m h hm => absurd hm (Nat.not_lt_zero _), rfl⟩
              case round =>
                obtain ⟨q, rfl, hq, hne, rfl⟩ := hrel
                by_cases hqt : q < X.length
                · have hq1 : (q : Int) < (X.length : Int) := by omega
                  have hq0 : (0 : Int) ≤ (q : Int) := by omega
                  have hw2 : IntKind.i64.wrap ((q : Int) + 1) = ((q + 1 : Nat) : Int) := by rw [IntWalk.i64_in _ (by omega)]; omega
                  obtain ⟨bI, oI, rfl, hcI⟩ := HI.out (by omega)
                  have z0 := hcI q hqt
                  have HNE := Lib.hid hne
                  clear hne hcI
                  by_cases heq : X[q] = n
                  · have heq' : (X[q] == n) = true := by simpa using heq
                    have HIN := Lib.hid ((HMEM.out n).1 (by rw [← heq]; exact List.getElem_mem hqt))
                    clear heq
                    go_wp2_with fail
                    go_ret
                    exact ⟨ret_bool (by rw [HE.out, HDA.out, decide_eq_true HIN.out, Bool.true_or]), B3.out⟩
                  · have heq' : (X[q] == n) = false := by simpa using heq
                    have HEQ := Lib.hid heq
                    clear heq
                    go_wp2_with fail
                    go_roundw
                    case rel => exact ⟨q + 1, by go_num, by omega, fun m h hm => by
                      by_cases hmq : m = q
                      · subst hmq; exact HEQ.out
                      · exact HNE.out m h (by omega), trivial⟩
                    case measure => simp [RowKit.intOf] <;> omega
                · have HE2 := Lib.hid (HE.out.trans (show _ = (L.drop (j + 1)).any (fun t => decide (n ∈ constT t)) by
                    rw [HDA.out, decide_eq_false (fun hin => ?_), Bool.false_or]
                    obtain ⟨m, hm, hme⟩ := List.getElem_of_mem ((HMEM.out n).2 hin)
                    exact hne m hm (by omega) hme))
                  clear hne
                  go_wp2_with fail
                  go_roundw
                  case rel => exact ⟨j + 1, by go_num, by omega, HE2.out, S3.out, B3.out⟩
                  case measure => simp [RowKit.intOf] <;> omega
            · obtain rfl : j = L.length := by omega
              go_wp2_with fail
              go_ret
              exact ⟨ret_bool (by rw [HE.out, List.drop_length]; rfl), BJ.out⟩
end Go.Proofs.Ytggefpkfikimiaa
