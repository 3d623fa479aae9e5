/- The laws' terms: all terms of Args, in one row. No conditions but sizes. -/
import Derived.Test.YtggefpkfikimiaaG34
import Derived.Test.YtggefpkfikimiaaG35
import Derived.Test.YtggefpkfikimiaaG10
import Derived.Laws.AppendOwn
import Derived.Laws.AppendOwnNone
import Derived.OwnWalk
import Derived.Deep.AppendLies
import Derived.Laws.OwnMore
import Derived.Lib.SmallJoins
namespace Go.Proofs.Ytggefpkfikimiaa
open Go.RowKit
set_option linter.unusedVariables false

def termsA (l : List ArgT) : List Tm := l.flatMap fun a => (a.ty :: a.dom) ++ a.idx
theorem termsA_take {l : List ArgT} {j : Nat} (h : j < l.length) : termsA (l.take (j + 1)) = ((termsA (l.take j) ++ [l[j].ty]) ++ l[j].dom) ++ l[j].idx := by
  rw [List.take_succ_eq_append_getElem h, termsA, List.flatMap_append]
  simp [termsA, List.append_assoc]
theorem termsA_len : ∀ (l : List ArgT), (termsA l).length ≤ argsN l
  | [] => by simp [termsA]
  | a :: l => by
    have ih := termsA_len l
    have h1 := length_le_sizeL a.dom
    have h2 := length_le_sizeL a.idx
    have h3 := size_pos a.ty
    have e : termsA (a :: l) = ((a.ty :: a.dom) ++ a.idx) ++ termsA l := by simp [termsA]
    rw [e]
    simp only [List.length_append, List.length_cons, argsN, argN]
    omega
theorem argsN_take8 (l : List ArgT) (j : Nat) : argsN (l.take j) ≤ argsN l := by
  induction l generalizing j with
  | nil => simp
  | cons a l ih =>
    cases j with
    | zero => simp [argsN]
    | succ j => simp only [List.take_succ_cons, argsN]; have := ih j; omega
set_option maxRecDepth 100000 in
set_option maxHeartbeats 4000000 in
theorem terms_any (l : List ArgT) (hn : argsN l ≤ 1048576) (w0 w : World) (hb0 : Below w0.heap.size w0 w) (v : Value) (hL : ARow w0 l v) :
    Calls Try.prog 35 #[v] w fun e w' => ∃ a c, e = .returned (.slice a (termsA l).length c) ∧ SrcP w0 w' (termsA l) (.slice a (termsA l).length c) ∧ Below w.heap.size w w' := by
  obtain ⟨aL, cL, rfl⟩ := hL.shape
  have HL := Lib.hid hL
  have HB0 := Lib.hid hb0
  have hll := argsN_len l
  have hl1 : l.length ≤ 1048576 := by omega
  clear hL hb0 hll
  go_enter Try.func35, Try.ntmps35
  go_wp2_with fail
  go_loopw [3, 4] (fun sr si wr => ∃ (j : Nat) (a : Option Addr) (c : Nat), si = .int .i64 (j : Int) ∧ sr = .slice a (termsA (l.take j)).length c ∧ j ≤ l.length ∧ RowP w0 w.heap.size (termsA (l.take j)) (.slice a (termsA (l.take j)).length c) wr ∧ Below w.heap.size w wr) (fun _ si _ => l.length - (RowKit.intOf si).toNat)
  case atStart => exact ⟨0, none, 0, rfl, rfl, Nat.zero_le _, RowP.start _ _ _, Below.refl _ _⟩
  case round =>
    obtain ⟨j, a, c, rfl, rfl, hj, hR, hB⟩ := hrel
    by_cases hlt : j < l.length
    · have hj1 : (j : Int) < (l.length : Int) := by omega
      have hj0 : (0 : Int) ≤ (j : Int) := by omega
      have hw1 : IntKind.i64.wrap ((j : Int) + 1) = ((j + 1 : Nat) : Int) := by rw [IntWalk.i64_in _ (by omega)]; omega
      have hlen := termsA_take hlt
      have HLEN := Lib.hid hlen
      have hs1 := termsA_len (l.take j)
      have hs2 := argsN_take8 l j
      have hs3 := argN_le (List.getElem_mem hlt)
      have hs4 := length_le_sizeL l[j].dom
      have hs5 := length_le_sizeL l[j].idx
      have hq : (termsA (l.take j)).length ≤ 1048576 ∧ l[j].dom.length ≤ 1048576 ∧ l[j].idx.length ≤ 1048576 := by unfold argN at hs3; omega
      obtain ⟨hq1, hq2, hq3⟩ := hq
      clear hs1 hs2 hs3 hs4 hs5 hlen
      obtain ⟨bA, oA, vt, vd, vi, he, t1, t2, t3, m0, m1, m2, m3, m4, m5, m6⟩ := ARow.at HL.out hlt
      cases he
      obtain ⟨p1, c1, rfl⟩ := t1.shape
      obtain ⟨p2, c2, rfl⟩ := t2.shape
      obtain ⟨p3, c3, rfl⟩ := t3.shape
      have hb1 := HB0.out.trans (hB.mono HB0.out.size)
      have HT := Lib.hid (And.intro t1 (And.intro t2 t3))
      have HM := Lib.hid (And.intro m1 (And.intro m2 (And.intro m3 (And.intro m4 m6))))
      have HR := Lib.hid hR
      have HB := Lib.hid hB
      have HB1 := Lib.hid hb1
      clear t1 t2 t3 m0 m1 m2 m3 m4 m5 m6 hR hB hb1
      generalize termsA (l.take j) = L at *
      go_wp2_with fail
      refine wp_region_F (fun W => W.cell? ⟨bA, oA + j * 7 + 1, none⟩ = some (.int .i64 l[j].ty.k) ∧ W.cell? ⟨bA, oA + j * 7 + 2, none⟩ = some (.int .i64 l[j].ty.n) ∧ W.cell? ⟨bA, oA + j * 7 + 3, none⟩ = some (.slice p1 l[j].ty.kids.length c1) ∧ W.cell? ⟨bA, oA + j * 7 + 4, none⟩ = some (.slice p2 l[j].dom.length c2) ∧ W.cell? ⟨bA, oA + j * 7 + 6, none⟩ = some (.slice p3 l[j].idx.length c3)) 20 (by kernel_rfl) ?_
      have hd5 : Below wr.heap.size wr wr.drew := (Below.refl _ wr).drew
      obtain ⟨w5, hw5⟩ : ∃ w5, w5 = wr.drew := ⟨_, rfl⟩
      rw [← hw5] at hd5 ⊢
      have B5 := Lib.hid (HB.out.trans (hd5.mono HB.out.size))
      have R5 := Lib.hid (HR.out.keep hd5)
      have HSW : Hid (∀ W, Below w.heap.size w W → (W.cell? ⟨bA, oA + j * 7 + 1, none⟩ = some (.int .i64 l[j].ty.k) ∧ W.cell? ⟨bA, oA + j * 7 + 2, none⟩ = some (.int .i64 l[j].ty.n) ∧ W.cell? ⟨bA, oA + j * 7 + 3, none⟩ = some (.slice p1 l[j].ty.kids.length c1) ∧ W.cell? ⟨bA, oA + j * 7 + 4, none⟩ = some (.slice p2 l[j].dom.length c2) ∧ W.cell? ⟨bA, oA + j * 7 + 6, none⟩ = some (.slice p3 l[j].idx.length c3))) := fun W hbw => by
        have hb := HB0.out.trans (hbw.mono HB0.out.size)
        exact ⟨gcell hb HM.out.1, gcell hb HM.out.2.1, gcell hb HM.out.2.2.1, gcell hb HM.out.2.2.2.1, gcell hb HM.out.2.2.2.2⟩
      have HS5 := Lib.hid (HSW.out w5 B5.out)
      clear hd5 hw5 HR HB HB1
      refine wpAnyF_take (i := 0) (v := (.slice a L.length c)) rfl (by kernel_rfl) (by kernel_rfl) (by kernel_rfl) (by kernel_rfl) (by kernel_rfl) (fun _ _ _ h => h) (Or.inl ⟨by rfl, fun W hS => by obtain ⟨q1, q2, q3, q4, q5⟩ := hS; go_simp⟩) HS5.out ?_
      change wpAnyF _ _ _ _ _ _ _ (Act.put _ (some 11) _) _
      simp only [Act.put, List.setIfInBounds_toArray, List.set_cons_zero, List.set_cons_succ]
      refine wpAnyF_take (i := 1) (v := (.slice (some ⟨bA, oA, none⟩) l.length cL)) rfl (by kernel_rfl) (by kernel_rfl) (by kernel_rfl) (by kernel_rfl) (by kernel_rfl) (fun _ _ _ h => h) (Or.inl ⟨by rfl, fun W hS => by obtain ⟨q1, q2, q3, q4, q5⟩ := hS; go_simp⟩) HS5.out ?_
      change wpAnyF _ _ _ _ _ _ _ (Act.put _ (some 12) _) _
      simp only [Act.put, List.setIfInBounds_toArray, List.set_cons_zero, List.set_cons_succ]
      refine wpAnyF_take (i := 2) (v := (.int .i64 (j : Int))) rfl (by kernel_rfl) (by kernel_rfl) (by kernel_rfl) (by kernel_rfl) (by kernel_rfl) (fun _ _ _ h => h) (Or.inl ⟨by rfl, fun W hS => by obtain ⟨q1, q2, q3, q4, q5⟩ := hS; go_simp⟩) HS5.out ?_
      change wpAnyF _ _ _ _ _ _ _ (Act.put _ (some 13) _) _
      simp only [Act.put, List.setIfInBounds_toArray, List.set_cons_zero, List.set_cons_succ]
      refine wpAnyF_take (i := 3) (v := (.pointer (some ⟨bA, oA + j * 7, none⟩))) rfl (by kernel_rfl) (by kernel_rfl) (by kernel_rfl) (by kernel_rfl) (by kernel_rfl) (fun _ _ _ h => h) (Or.inl ⟨by rfl, fun W hS => by obtain ⟨q1, q2, q3, q4, q5⟩ := hS; go_simp⟩) HS5.out ?_
      change wpAnyF _ _ _ _ _ _ _ (Act.put _ (some 14) _) _
      simp only [Act.put, List.setIfInBounds_toArray, List.set_cons_zero, List.set_cons_succ]
      refine wpAnyF_take (i := 4) (v := (.pointer (some ⟨bA, oA + j * 7 + 1, none⟩))) rfl (by kernel_rfl) (by kernel_rfl) (by kernel_rfl) (by kernel_rfl) (by kernel_rfl) (fun _ _ _ h => h) (Or.inl ⟨by rfl, fun W hS => by obtain ⟨q1, q2, q3, q4, q5⟩ := hS; go_simp⟩) HS5.out ?_
      change wpAnyF _ _ _ _ _ _ _ (Act.put _ (some 15) _) _
      simp only [Act.put, List.setIfInBounds_toArray, List.set_cons_zero, List.set_cons_succ]
      refine wpAnyF_take (i := 5) (v := (.agg #[.int .i64 l[j].ty.k, .int .i64 l[j].ty.n, .slice p1 l[j].ty.kids.length c1])) rfl (by kernel_rfl) (by kernel_rfl) (by kernel_rfl) (by kernel_rfl) (by kernel_rfl) (fun _ _ _ h => h) (Or.inl ⟨by rfl, fun W hS => by obtain ⟨q1, q2, q3, q4, q5⟩ := hS; go_simp⟩) HS5.out ?_
      change wpAnyF _ _ _ _ _ _ _ (Act.put _ (some 16) _) _
      simp only [Act.put, List.setIfInBounds_toArray, List.set_cons_zero, List.set_cons_succ]
      refine wpAnyF_take (i := 8) (v := (.slice (some ⟨bA, oA, none⟩) l.length cL)) rfl (by kernel_rfl) (by kernel_rfl) (by kernel_rfl) (by kernel_rfl) (by kernel_rfl) (fun _ _ _ h => h) (Or.inl ⟨by rfl, fun W hS => by obtain ⟨q1, q2, q3, q4, q5⟩ := hS; go_simp⟩) HS5.out ?_
      change wpAnyF _ _ _ _ _ _ _ (Act.put _ (some 19) _) _
      simp only [Act.put, List.setIfInBounds_toArray, List.set_cons_zero, List.set_cons_succ]
      refine wpAnyF_take (i := 9) (v := (.int .i64 (j : Int))) rfl (by kernel_rfl) (by kernel_rfl) (by kernel_rfl) (by kernel_rfl) (by kernel_rfl) (fun _ _ _ h => h) (Or.inl ⟨by rfl, fun W hS => by obtain ⟨q1, q2, q3, q4, q5⟩ := hS; go_simp⟩) HS5.out ?_
      change wpAnyF _ _ _ _ _ _ _ (Act.put _ (some 20) _) _
      simp only [Act.put, List.setIfInBounds_toArray, List.set_cons_zero, List.set_cons_succ]
      refine wpAnyF_take (i := 10) (v := (.pointer (some ⟨bA, oA + j * 7, none⟩))) rfl (by kernel_rfl) (by kernel_rfl) (by kernel_rfl) (by kernel_rfl) (by kernel_rfl) (fun _ _ _ h => h) (Or.inl ⟨by rfl, fun W hS => by obtain ⟨q1, q2, q3, q4, q5⟩ := hS; go_simp⟩) HS5.out ?_
      change wpAnyF _ _ _ _ _ _ _ (Act.put _ (some 21) _) _
      simp only [Act.put, List.setIfInBounds_toArray, List.set_cons_zero, List.set_cons_succ]
      refine wpAnyF_take (i := 11) (v := (.pointer (some ⟨bA, oA + j * 7 + 4, none⟩))) rfl (by kernel_rfl) (by kernel_rfl) (by kernel_rfl) (by kernel_rfl) (by kernel_rfl) (fun _ _ _ h => h) (Or.inl ⟨by rfl, fun W hS => by obtain ⟨q1, q2, q3, q4, q5⟩ := hS; go_simp⟩) HS5.out ?_
      change wpAnyF _ _ _ _ _ _ _ (Act.put _ (some 22) _) _
      simp only [Act.put, List.setIfInBounds_toArray, List.set_cons_zero, List.set_cons_succ]
      refine wpAnyF_take (i := 12) (v := (.slice p2 l[j].dom.length c2)) rfl (by kernel_rfl) (by kernel_rfl) (by kernel_rfl) (by kernel_rfl) (by kernel_rfl) (fun _ _ _ h => h) (Or.inl ⟨by rfl, fun W hS => by obtain ⟨q1, q2, q3, q4, q5⟩ := hS; go_simp⟩) HS5.out ?_
      change wpAnyF _ _ _ _ _ _ _ (Act.put _ (some 23) _) _
      simp only [Act.put, List.setIfInBounds_toArray, List.set_cons_zero, List.set_cons_succ]
      refine wpAnyF_take (i := 14) (v := (.slice (some ⟨bA, oA, none⟩) l.length cL)) rfl (by kernel_rfl) (by kernel_rfl) (by kernel_rfl) (by kernel_rfl) (by kernel_rfl) (fun _ _ _ h => h) (Or.inl ⟨by rfl, fun W hS => by obtain ⟨q1, q2, q3, q4, q5⟩ := hS; go_simp⟩) HS5.out ?_
      change wpAnyF _ _ _ _ _ _ _ (Act.put _ (some 25) _) _
      simp only [Act.put, List.setIfInBounds_toArray, List.set_cons_zero, List.set_cons_succ]
      refine wpAnyF_take (i := 15) (v := (.int .i64 (j : Int))) rfl (by kernel_rfl) (by kernel_rfl) (by kernel_rfl) (by kernel_rfl) (by kernel_rfl) (fun _ _ _ h => h) (Or.inl ⟨by rfl, fun W hS => by obtain ⟨q1, q2, q3, q4, q5⟩ := hS; go_simp⟩) HS5.out ?_
      change wpAnyF _ _ _ _ _ _ _ (Act.put _ (some 26) _) _
      simp only [Act.put, List.setIfInBounds_toArray, List.set_cons_zero, List.set_cons_succ]
      refine wpAnyF_take (i := 16) (v := (.pointer (some ⟨bA, oA + j * 7, none⟩))) rfl (by kernel_rfl) (by kernel_rfl) (by kernel_rfl) (by kernel_rfl) (by kernel_rfl) (fun _ _ _ h => h) (Or.inl ⟨by rfl, fun W hS => by obtain ⟨q1, q2, q3, q4, q5⟩ := hS; go_simp⟩) HS5.out ?_
      change wpAnyF _ _ _ _ _ _ _ (Act.put _ (some 27) _) _
      simp only [Act.put, List.setIfInBounds_toArray, List.set_cons_zero, List.set_cons_succ]
      refine wpAnyF_take (i := 17) (v := (.pointer (some ⟨bA, oA + j * 7 + 6, none⟩))) rfl (by kernel_rfl) (by kernel_rfl) (by kernel_rfl) (by kernel_rfl) (by kernel_rfl) (fun _ _ _ h => h) (Or.inl ⟨by rfl, fun W hS => by obtain ⟨q1, q2, q3, q4, q5⟩ := hS; go_simp⟩) HS5.out ?_
      change wpAnyF _ _ _ _ _ _ _ (Act.put _ (some 28) _) _
      simp only [Act.put, List.setIfInBounds_toArray, List.set_cons_zero, List.set_cons_succ]
      refine wpAnyF_take (i := 18) (v := (.slice p3 l[j].idx.length c3)) rfl (by kernel_rfl) (by kernel_rfl) (by kernel_rfl) (by kernel_rfl) (by kernel_rfl) (fun _ _ _ h => h) (Or.inl ⟨by rfl, fun W hS => by obtain ⟨q1, q2, q3, q4, q5⟩ := hS; go_simp⟩) HS5.out ?_
      change wpAnyF _ _ _ _ _ _ _ (Act.put _ (some 29) _) _
      simp only [Act.put, List.setIfInBounds_toArray, List.set_cons_zero, List.set_cons_succ]
      refine wpAnyF_one (i := 6) (by kernel_rfl) rfl (by rfl) fun K' hK => ?_
      go_simp
      have hal := below_al w5 (.cells #[.int .i64 l[j].ty.k, .int .i64 l[j].ty.n, .slice p1 l[j].ty.kids.length c1] 25)
      have hn6 := World.alloc_heap_new w5 (.cells #[.int .i64 l[j].ty.k, .int .i64 l[j].ty.n, .slice p1 l[j].ty.kids.length c1] 25)
      obtain ⟨w6, hw6⟩ : ∃ w6, w6 = w5.alloc (.cells #[.int .i64 l[j].ty.k, .int .i64 l[j].ty.n, .slice p1 l[j].ty.kids.length c1] 25) := ⟨_, rfl⟩
      rw [← hw6] at hal hn6 ⊢
      have B6 := Lib.hid (B5.out.trans (hal.mono B5.out.size))
      have R6 := Lib.hid (R5.out.keep hal)
      have K6 := Lib.hid (srcp_one hn6 HT.out.1)
      clear hal hn6 hw6 R5 B5
      refine hK _ _ (fun _ => HSW.out w6 B6.out) ?_
      clear hK K'
      try change wpAnyF _ _ _ _ _ _ _ (Act.put _ (some 17) _) _
      try simp only [Act.put, List.setIfInBounds_toArray, List.set_cons_zero, List.set_cons_succ]
      refine wpAnyF_one (i := 7) (by kernel_rfl) rfl (by rfl) fun K' hK => ?_
      refine wp_append_rowp (k := [l[j].ty]) (.tmp 11) (.tmp 17) (by rfl) (by rfl) (by rfl) (by simp only [List.length_singleton]; omega) R6.out B6.out.size (K6.out) ?_
      intro a7 d7 w7 hr hb
      have B7 := Lib.hid (B6.out.trans hb)
      have R7 := Lib.hid hr
      clear hr hb R6 B6
      refine hK _ _ (fun _ => HSW.out w7 B7.out) ?_
      clear hK K'
      try change wpAnyF _ _ _ _ _ _ _ (Act.put _ (some 18) _) _
      try simp only [Act.put, List.setIfInBounds_toArray, List.set_cons_zero, List.set_cons_succ]
      refine wpAnyF_one (i := 13) (by kernel_rfl) rfl (by rfl) fun K' hK => ?_
      refine wp_append_rowp (k := l[j].dom) (.tmp 18) (.tmp 23) (by rfl) (by rfl) (by rfl) (by rw [List.length_append, List.length_singleton]; omega) R7.out B7.out.size (srcp_of_at (HB0.out.trans (B7.out.mono HB0.out.size)) HT.out.2.1) ?_
      intro a8 d8 w8 hr hb
      have B8 := Lib.hid (B7.out.trans hb)
      have R8 := Lib.hid hr
      clear hr hb R7 B7
      refine hK _ _ (fun _ => HSW.out w8 B8.out) ?_
      clear hK K'
      try change wpAnyF _ _ _ _ _ _ _ (Act.put _ (some 24) _) _
      try simp only [Act.put, List.setIfInBounds_toArray, List.set_cons_zero, List.set_cons_succ]
      refine wpAnyF_one (i := 19) (by kernel_rfl) rfl (by rfl) fun K' hK => ?_
      refine wp_append_rowp (k := l[j].idx) (.tmp 24) (.tmp 29) (by rfl) (by rfl) (by rfl) (by rw [List.length_append, List.length_append, List.length_singleton]; omega) R8.out B8.out.size (srcp_of_at (HB0.out.trans (B8.out.mono HB0.out.size)) HT.out.2.2) ?_
      intro a9 d9 w9 hr hb
      have B9 := Lib.hid (B8.out.trans hb)
      have R9 := Lib.hid hr
      clear hr hb R8 B8
      refine hK _ _ (fun _ => HSW.out w9 B9.out) ?_
      clear hK K'
      try change wpAnyF _ _ _ _ _ _ _ (Act.put _ (some 30) _) _
      try simp only [Act.put, List.setIfInBounds_toArray, List.set_cons_zero, List.set_cons_succ]
      refine wpAnyF_one (i := 20) (by kernel_rfl) rfl (by rfl) fun K' hK => ?_
      go_simp
      refine hK _ _ (fun h => absurd h (by simp)) ?_
      clear hK K'
      refine wpAnyF_done (by kernel_rfl) ?_ _
      try simp only [Act.put]
      go_wp2_with fail
      go_roundw
      case rel => exact ⟨j + 1, a9, d9, by go_num, by rw [HLEN.out]; congr 1; simp only [List.length_append, List.length_singleton]; omega, by omega, by rw [HLEN.out]; exact R9.out, B9.out⟩
      case measure => simp [RowKit.intOf] <;> omega
    · obtain rfl : j = l.length := by omega
      have HR := Lib.hid hR
      have HB := Lib.hid hB
      rw [List.take_length] at HR ⊢
      clear hR hB
      go_wp2_with fail
      go_ret
      exact ⟨a, c, rfl, srcp_of_row HR.out, HB.out⟩
end Go.Proofs.Ytggefpkfikimiaa
/- The page's Join, and package porismkeep's Ints. -/
namespace Go.Proofs.Ytggefpkfikimiaa
open Go.RowKit Go Go.Joins
set_option linter.unusedVariables false

theorem wpList_append_own_gen {P : Program} {w : World} {ops : Array Oper} {rest : List Oper} {o : Oper} {a : Act} {Q : Exit → Act → World → Prop} (hgd : o.guard = none) (s x : Operand) (t : TypeId)
    (ho : o.op = .call { callee := .builtin .append, args := #[s, x], argTypes := #[t, t] })
    (base : Nat) (e : TypeId) (i : TypeInfo) (z : Value) (size bytes : Nat) (ht : P.underlying t = some (.slice e)) (hi : P.info? e = some i) (hz : i.zero = some z)
    (hsize : i.size = size) (hby : i.bytes = bytes) (hzs : z.cells.size = size) (hsz : 0 < size)
    (v : Value) (n : Nat) (xs : List Value) (hs : a.eval s = v) (hown : w.ownsRow base e size v n xs)
    (m : Nat) (news : List Value) (ao : Option Addr) (c : Nat) (hx : a.eval x = .slice ao m c) (hl : news.length = m * size) (hnone : ao = none → m = 0 ∧ c = 0)
    (hnews : ∀ ad, ao = some ad → ∀ j u, news[j]? = some u → w.cell? (ad.add j) = some u) (h1 : ∀ u ∈ news, u.oneCell' = true)
    (h63 : n + m ≤ maxLen) (hbytes : (n + m) * bytes ≤ 140737488355328) (hbase : base ≤ w.heap.size)
    (h : ∀ v' w', w'.ownsRow base e size v' (n + m) (xs ++ news) → w.grownBy w' v.ownBlock → wpList P ops Q rest (a.put o.dst v') w') : wpList P ops Q (o :: rest) a w := by
  cases ao with
  | some ad => exact wpList_append_own w hgd s x t ho base e i z size bytes ht hi hz hsize hby hzs hsz v n xs hs hown ad m c news hx hl (hnews ad rfl) h1 h63 hbytes hbase fun v' w' h2 h3 _ => h v' w' h2 h3
  | none =>
    obtain ⟨rfl, rfl⟩ := hnone rfl
    have hn : news = [] := List.eq_nil_of_length_eq_zero (by simpa using hl)
    subst hn
    subst hsize
    exact wpList_append_own_none hgd s x t ho base e i i.size ht hi v n xs hs hown hx (h v w (by simpa using hown) (World.grownBy.refl w _))

theorem Try.infoInt : (Try.prog.info? 3).map (fun i => (i.zero, i.size, i.bytes)) = some (some (.int .i64 0), 1, 8) := by kernel_rfl

theorem joinI_pre {l : List Int} {n : Int} {k : Nat} (h : ∀ x ∈ l.take k, x < n) : joinI l n = l.take k ++ joinI (l.drop k) n := by
  induction k generalizing l with
  | zero => simp
  | succ k ih =>
    cases l with
    | nil => simp
    | cons a l =>
      rw [List.take_succ_cons] at h ⊢
      rw [List.drop_succ_cons, List.cons_append, joinI, if_pos (h a List.mem_cons_self), ih fun x hx => h x (List.mem_cons_of_mem _ hx)]
theorem joinI_end {l : List Int} {n : Int} (h : ∀ x ∈ l.take l.length, x < n) : joinI l n = l ++ [n] := by
  rw [joinI_pre h, List.take_length, List.drop_length, joinI]
theorem joinI_has {l : List Int} {n : Int} {k : Nat} (h : ∀ x ∈ l.take k, x < n) (hk : k < l.length) (he : l[k] = n) : joinI l n = l := by
  rw [joinI_pre h, List.drop_eq_getElem_cons hk, joinI, he, if_neg (by omega), if_pos rfl]
  conv => rhs; rw [← List.take_append_drop k l, List.drop_eq_getElem_cons hk, he]
theorem joinI_mid {l : List Int} {n : Int} {k : Nat} (h : ∀ x ∈ l.take k, x < n) (hk : k < l.length) (he : n < l[k]) : joinI l n = (l.take k ++ [n]) ++ l.drop k := by
  rw [joinI_pre h, List.drop_eq_getElem_cons hk, joinI, if_neg (by omega), if_neg (by omega), List.append_assoc, List.singleton_append]

set_option maxRecDepth 100000 in
set_option maxHeartbeats 1600000 in
theorem join_any (l : List Int) (n : Int) (hl : l.length ≤ 1048576) (B : Nat) (w : World) (v : Value) (hB : B ≤ w.heap.size) (hO : w.ownsRow B 3 1 v l.length (l.map (Value.int .i64))) :
    Calls Try.prog 59 #[v, .int .i64 n] w fun e w' => ∃ v', e = .returned v' ∧ w'.ownsRow B 3 1 v' (joinI l n).length ((joinI l n).map (Value.int .i64)) ∧ Below w.heap.size w w' := by
  obtain ⟨ao, cap, rfl, hnone, hcell⟩ : ∃ ao cap, v = .slice ao l.length cap ∧ (ao = none → l.length = 0 ∧ cap = 0) ∧ (l.length ≤ cap ∧ ∀ i (_ : i < l.length), ∃ g, ao = some ⟨g, 0, none⟩ ∧ w.cell? ⟨g, i, none⟩ = some (.int .i64 l[i])) := by
    rcases hO.2 with ⟨rfl, h0⟩ | ⟨g, cap, cur, rfl, hb, hg, h1, h2, h3, htake⟩
    · exact ⟨none, 0, by rw [h0], fun _ => ⟨h0, rfl⟩, by omega, fun i hi => by omega⟩
    · refine ⟨_, cap, rfl, (fun h => by cases h), h1, fun i hi => ⟨g, rfl, ?_⟩⟩
      rw [hO.cellAt i (by omega)]
      simp [hi]
  obtain ⟨hlc, hcell⟩ := hcell
  have HG : Hid (ao = none ∨ ∃ g, ao = some ⟨g, 0, none⟩) := by
    rcases hO.2 with ⟨h, _⟩ | ⟨g, cap2, cur, h, _⟩
    · simp only [Value.slice.injEq] at h; exact .inl h.1
    · simp only [Value.slice.injEq] at h; exact .inr ⟨g, h.1⟩
  have HO := Lib.hid hO
  have HN := Lib.hid hnone
  have HC := Lib.hid hcell
  clear hO hnone hcell
  go_enter Try.func59, Try.ntmps59
  go_wp2_with fail
  go_loop [5] (fun i => ∃ k : Nat, k ≤ l.length ∧ i = .int .i64 k ∧ Hid (∀ x ∈ l.take k, x < n)) (fun i => l.length - (RowKit.intOf i).toNat)
  case atStart => exact ⟨0, Nat.zero_le _, rfl, Lib.hid (by simp)⟩
  case round =>
    obtain ⟨k, hk, rfl, hlo⟩ := hrel
    by_cases hlt : k < l.length
    · obtain ⟨g, rfl, hc⟩ := HC.out k hlt
      obtain ⟨x, hx⟩ : ∃ x : Int, l[k] = x := ⟨_, rfl⟩
      rw [hx] at hc
      have hk1 : (k : Int) < (l.length : Int) := by omega
      have hk0 : (0 : Int) ≤ (k : Int) := by omega
      by_cases hxn : x < n
      · have HT : Hid (∀ y ∈ l.take (k + 1), y < n) := fun y hy => by
          rw [List.take_succ_eq_append_getElem hlt, List.mem_append, List.mem_singleton, hx] at hy
          rcases hy with hy | rfl
          · exact hlo.out y hy
          · exact hxn
        clear hx
        go_wp2_with fail
        go_round
        case rel => exact ⟨k + 1, by omega, by go_num, HT⟩
        case measure => simp [RowKit.intOf]; omega
      · have hxn1 : decide (x < n) = false := decide_eq_false hxn
        by_cases hxe : x = n
        · subst hxe
          have HE := Lib.hid (joinI_has hlo.out hlt hx)
          clear hx
          go_wp2_with fail
          go_ret
          exact ⟨_, rfl, by rw [HE.out]; exact HO.out, Below.refl _ _⟩
        · have hxe1 : (x == n) = false := by simpa using hxe
          have HE := Lib.hid (joinI_mid hlo.out hlt (by omega))
          have hm0 : 0 + k ≤ maxLen := by unfold maxLen; omega
          have hm1 : (0 + k) * 8 ≤ 140737488355328 := by omega
          have hm2 : 0 + k + 1 ≤ maxLen := by unfold maxLen; omega
          have hm3 : (0 + k + 1) * 8 ≤ 140737488355328 := by omega
          have hm4 : 0 + k + 1 + (l.length - k) ≤ maxLen := by unfold maxLen; omega
          have hm5 : (0 + k + 1 + (l.length - k)) * 8 ≤ 140737488355328 := by omega
          obtain ⟨i0, hi, hz0, hz1, hz2⟩ := info_parts Try.infoInt
          clear hx
          have hsrc0 : ∀ j u, (l.map (Value.int .i64))[j]? = some u → w.cell? ⟨g, j, none⟩ = some u := fun j u hu => by
            rw [HO.out.cellAt j (by have := (List.getElem?_eq_some_iff.1 hu).1; simp at this; omega)]
            exact hu
          have HSRC := Lib.hid hsrc0
          clear hsrc0
          go_wp2_with (first
            | (at_builtin; refine wpList_append_own_gen rfl (.tmp 34) (.tmp 37) 69 rfl w.heap.size 3 i0 _ 1 8 Try.underlying69 hi hz0 hz1 hz2 rfl (by decide) _ 0 [] rfl (World.ownsRow_nil _ _ _ _) (k) ((l.take k).map (Value.int .i64)) _ _ rfl (by simp; try omega) ?_ ?_ (ints_oneCell _ _) hm0 hm1 (Nat.le_refl _) ?_; rotate_left 2; intro v1 w1 hown1 hgrow1)
            | (at_builtin; refine wpList_append_own_gen rfl (.tmp 38) (.tmp 40) 69 rfl w.heap.size 3 i0 _ 1 8 Try.underlying69 hi hz0 hz1 hz2 rfl (by decide) _ (0 + k) _ rfl (hown1.alloc _) 1 [Value.int .i64 n] _ _ rfl rfl ?_ ?_ (by simp [Value.oneCell']) hm2 hm3 (by have := hgrow1.size; simp; omega) ?_; rotate_left 2; intro v2 w2 hown2 hgrow2)
            | (at_builtin; refine wpList_append_own_gen rfl (.tmp 42) (.tmp 45) 69 rfl w.heap.size 3 i0 _ 1 8 Try.underlying69 hi hz0 hz1 hz2 rfl (by decide) _ (0 + k + 1) _ rfl hown2 (l.length - k) ((l.drop k).map (Value.int .i64)) _ _ rfl (by simp) ?_ ?_ (ints_oneCell _ _) hm4 hm5 (by have := hgrow1.size; have := hgrow2.size; simp at this; omega) ?_; rotate_left 2; intro v3 w3 hown3 hgrow3))
          · have hb1 : Below w.heap.size w w1 := (Below.refl _ w).grown hgrow1 (Nat.le_refl _) (fun k hk => by cases hk)
            have hb2 : Below w.heap.size w w2 := (hb1.alloc hb1.size _).grown hgrow2 (by have := hb1.size; simp; omega) (fun k hk => (hown1.lt k hk).1)
            have hb3 : Below w.heap.size w w3 := hb2.grown hgrow3 hb2.size (fun k hk => (hown2.lt k hk).1)
            have e1 : [] ++ (l.take k).map (Value.int .i64) ++ [Value.int .i64 n] ++ (l.drop k).map (Value.int .i64) = (joinI l n).map (Value.int .i64) := by rw [HE.out]; simp
            have e2 : 0 + k + 1 + (l.length - k) = (joinI l n).length := by rw [HE.out]; simp; try omega
            rw [e1, e2] at hown3
            go_ret
            exact ⟨_, rfl, ownsRow_le hown3 hB, hb3⟩
          · intro j a ha
            have h1 := HSRC.out (k + j) (.int .i64 a) (by simp [ha])
            have hb1 : Below w.heap.size w w1 := (Below.refl _ w).grown hgrow1 (Nat.le_refl _) (fun k hk => by cases hk)
            have hb2 : Below w.heap.size w w2 := (hb1.alloc hb1.size _).grown hgrow2 (by have := hb1.size; simp; omega) (fun k hk => (hown1.lt k hk).1)
            rw [hb2.cell (World.block_lt_of_cell? w _ h1)]
            exact h1
          · intro j u hu
            rw [List.getElem?_take] at hu
            split at hu
            · exact HSRC.out j u hu
            · cases hu
    · obtain rfl : k = l.length := by omega
      have hlt1 : decide ((l.length : Int) < (l.length : Int)) = false := by simp
      have HE := Lib.hid (joinI_end hlo.out)
      obtain ⟨i0, hi, hz0, hz1, hz2⟩ := info_parts Try.infoInt
      have hm0 : 0 + l.length ≤ maxLen := by unfold maxLen; omega
      have hm1 : (0 + l.length) * 8 ≤ 140737488355328 := by omega
      have hm2 : 0 + l.length + 1 ≤ maxLen := by unfold maxLen; omega
      have hm3 : (0 + l.length + 1) * 8 ≤ 140737488355328 := by omega
      have hm4 : 0 + l.length + 1 + 0 ≤ maxLen := by unfold maxLen; omega
      have hm5 : (0 + l.length + 1 + 0) * 8 ≤ 140737488355328 := by omega
      rcases HG.out with hg | ⟨g, hg⟩
      · obtain ⟨h0, rfl⟩ := HN.out hg
        subst hg
        obtain rfl : l = [] := List.eq_nil_of_length_eq_zero h0
        have hE0 : joinI [] n = [n] := rfl
        simp only [List.length_nil] at *
        go_wp2_with (first
          | (at_builtin; refine wpList_append_own_gen rfl (.tmp 34) (.tmp 37) 69 rfl w.heap.size 3 i0 _ 1 8 Try.underlying69 hi hz0 hz1 hz2 rfl (by decide) _ 0 [] rfl (World.ownsRow_nil _ _ _ _) 0 [] none 0 rfl rfl ?_ ?_ (by simp) hm0 hm1 (Nat.le_refl _) ?_; rotate_left 2; intro v1 w1 hown1 hgrow1)
          | (at_builtin; refine wpList_append_own_gen rfl (.tmp 38) (.tmp 40) 69 rfl w.heap.size 3 i0 _ 1 8 Try.underlying69 hi hz0 hz1 hz2 rfl (by decide) _ (0 + 0) _ rfl (hown1.alloc _) 1 [Value.int .i64 n] _ _ rfl rfl ?_ ?_ (by simp [Value.oneCell']) hm2 hm3 (by have := hgrow1.size; simp; omega) ?_; rotate_left 2; intro v2 w2 hown2 hgrow2)
          | (at_builtin; refine wpList_append_own_gen rfl (.tmp 42) (.tmp 45) 69 rfl w.heap.size 3 i0 _ 1 8 Try.underlying69 hi hz0 hz1 hz2 rfl (by decide) _ (0 + 0 + 1) _ rfl hown2 0 [] none 0 rfl (by simp) ?_ ?_ (by simp) hm4 hm5 (by have := hgrow1.size; have := hgrow2.size; simp at this; omega) ?_; rotate_left 2; intro v3 w3 hown3 hgrow3))
        all_goals first
          | (intro ad h; cases h; done)
          | (intro h; cases h; done)
          | (intro ad h; cases h; exact World.news_of_block (cs := #[.int .i64 n]) (World.alloc_heap_new w1 _))
          | (have hb1 : Below w.heap.size w w1 := (Below.refl _ w).grown hgrow1 (Nat.le_refl _) (fun k hk => by cases hk)
             have hb2 : Below w.heap.size w w2 := (hb1.alloc hb1.size _).grown hgrow2 (by have := hb1.size; simp; omega) (fun k hk => (hown1.lt k hk).1)
             have hb3 : Below w.heap.size w w3 := hb2.grown hgrow3 hb2.size (fun k hk => (hown2.lt k hk).1)
             have e1 : [] ++ [] ++ [Value.int .i64 n] ++ [] = (joinI [] n).map (Value.int .i64) := by rw [HE.out]; simp
             have e2 : 0 + 0 + 1 + 0 = (joinI [] n).length := by rw [HE.out]; simp; try omega
             rw [e1, e2] at hown3
             go_ret
             exact ⟨_, rfl, ownsRow_le hown3 hB, hb3⟩)
      · obtain rfl : ao = some ⟨g, 0, none⟩ := hg
        have hsrc0 : ∀ j u, (l.map (Value.int .i64))[j]? = some u → w.cell? ⟨g, j, none⟩ = some u := fun j u hu => by
          rw [HO.out.cellAt j (by have := (List.getElem?_eq_some_iff.1 hu).1; simp at this; omega)]
          exact hu
        have HSRC := Lib.hid hsrc0
        clear hsrc0
        go_wp2_with (first
          | (at_builtin; refine wpList_append_own_gen rfl (.tmp 34) (.tmp 37) 69 rfl w.heap.size 3 i0 _ 1 8 Try.underlying69 hi hz0 hz1 hz2 rfl (by decide) _ 0 [] rfl (World.ownsRow_nil _ _ _ _) (l.length) (l.map (Value.int .i64)) _ _ rfl (by simp; try omega) ?_ ?_ (ints_oneCell _ _) hm0 hm1 (Nat.le_refl _) ?_; rotate_left 2; intro v1 w1 hown1 hgrow1)
          | (at_builtin; refine wpList_append_own_gen rfl (.tmp 38) (.tmp 40) 69 rfl w.heap.size 3 i0 _ 1 8 Try.underlying69 hi hz0 hz1 hz2 rfl (by decide) _ (0 + l.length) _ rfl (hown1.alloc _) 1 [Value.int .i64 n] _ _ rfl rfl ?_ ?_ (by simp [Value.oneCell']) hm2 hm3 (by have := hgrow1.size; simp; omega) ?_; rotate_left 2; intro v2 w2 hown2 hgrow2)
          | (at_builtin; refine wpList_append_own_gen rfl (.tmp 42) (.tmp 45) 69 rfl w.heap.size 3 i0 _ 1 8 Try.underlying69 hi hz0 hz1 hz2 rfl (by decide) _ (0 + l.length + 1) _ rfl hown2 (0) ([]) _ _ rfl (by simp) ?_ ?_ (by simp) hm4 hm5 (by have := hgrow1.size; have := hgrow2.size; simp at this; omega) ?_; rotate_left 2; intro v3 w3 hown3 hgrow3))
        all_goals first
          | (intro j a ha
             exact HSRC.out j _ (by simp [ha]))
          | (have hb1 : Below w.heap.size w w1 := (Below.refl _ w).grown hgrow1 (Nat.le_refl _) (fun k hk => by cases hk)
             have hb2 : Below w.heap.size w w2 := (hb1.alloc hb1.size _).grown hgrow2 (by have := hb1.size; simp; omega) (fun k hk => (hown1.lt k hk).1)
             have hb3 : Below w.heap.size w w3 := hb2.grown hgrow3 hb2.size (fun k hk => (hown2.lt k hk).1)
             have e1 : [] ++ l.map (Value.int .i64) ++ [Value.int .i64 n] ++ [] = (joinI l n).map (Value.int .i64) := by rw [HE.out]; simp
             have e2 : 0 + l.length + 1 + 0 = (joinI l n).length := by rw [HE.out]; simp; try omega
             rw [e1, e2] at hown3
             go_ret
             exact ⟨_, rfl, ownsRow_le hown3 hB, hb3⟩)
end Go.Proofs.Ytggefpkfikimiaa
