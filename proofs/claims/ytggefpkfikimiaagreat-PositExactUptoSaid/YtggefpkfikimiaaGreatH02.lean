/- The page's at, its row told to be the call's own. No conditions but sizes. -/
import Derived.Test.YtggefpkfikimiaaGreatG23
namespace Go.Proofs.YtggefpkfikimiaaGreat
open Go.RowKit
set_option linter.unusedVariables false

theorem IOwn.base8 {B C : Nat} {l : List Int} {v : Value} {w : World} (h : IOwn B l v w) (hC : C ≤ B) : IOwn C l v w := ⟨h.1, h.2.imp_right fun ⟨g, cap, cur, e1, e2, e3⟩ => ⟨g, cap, cur, e1, Nat.le_trans hC e2, e3⟩⟩
def AtPost (w : World) (b : BlkT) (base : Int) (args : List ArgT) (vs vc va : Value) (e : Ending) (w' : World) : Prop :=
  ∃ a c, e = .returned (.agg #[vs, vc, .int .i64 b.elim, .int .i64 base, .slice a (atP args).length c, va]) ∧ IOwn w.heap.size (atP args) (.slice a (atP args).length c) w' ∧ Below w.heap.size w w'
set_option maxRecDepth 100000 in
set_option maxHeartbeats 2000000 in
theorem rat_own (b : BlkT) (base : Int) (args : List ArgT) (hl : args.length ≤ 1000000) (w : World) (vs vc va : Value) (hA : BAt w b vs vc) (hR : ARow w args va) :
    Calls Tryz.prog 28 #[.agg #[vs, vc, .int .i64 b.elim], .int .i64 base, va] w (AtPost w b base args vs vc va) := by
  obtain ⟨ps, cs, pc, cc, rfl, rfl⟩ := hA.shape
  obtain ⟨pa, ca, rfl⟩ := hR.shape
  have HA := Lib.hid (And.intro hA hR)
  clear hA hR
  obtain ⟨w1, hw1⟩ : ∃ w1, w1 = (w.alloc (.cells #[.slice ps b.sorts.length cs, .slice pc b.cons.length cc, .int .i64 b.elim] 25)).alloc (.cells #[.slice none 0 0, .slice none 0 0, .int .i64 0, .int .i64 0, .slice none 0 0, .slice none 0 0] 61) := ⟨_, rfl⟩
  have B1 : Hid (Below w.heap.size w w1) := by
    unfold Hid; rw [hw1]
    exact (below_al w _).trans ((below_al _ _).mono (by simp))
  have hz1 : w1.heap.size = w.heap.size + 2 := by rw [hw1]; simp
  have H1 : Hid (w1.heap[w.heap.size]? = some (.cells #[.slice ps b.sorts.length cs, .slice pc b.cons.length cc, .int .i64 b.elim] 25 (0, 0))) := by
    unfold Hid; rw [hw1]
    exact (Below.heap_alloc _ _ _ (by simp)).trans (World.alloc_heap_new w _)
  have H2 : Hid (w1.heap[w.heap.size + 1]? = some (.cells #[.slice none 0 0, .slice none 0 0, .int .i64 0, .int .i64 0, .slice none 0 0, .slice none 0 0] 61 (0, 0))) := by
    unfold Hid; rw [hw1]
    have := World.alloc_heap_new (w.alloc (.cells #[.slice ps b.sorts.length cs, .slice pc b.cons.length cc, .int .i64 b.elim] 25)) (.cells #[.slice none 0 0, .slice none 0 0, .int .i64 0, .int .i64 0, .slice none 0 0, .slice none 0 0] 61)
    rwa [World.size_alloc] at this
  have HW := Lib.hid hw1
  clear hw1
  go_enter Tryz.func28, Tryz.ntmps28
  go_upto_region 1 with (fail)
  rw [← HW.out]
  obtain ⟨⟨x0, x1, x2⟩, _⟩ := boxc H1.out
  obtain ⟨w2, hw2⟩ : ∃ w2, w2 = w1.alloc (.cells #[.slice ps b.sorts.length cs, .slice pc b.cons.length cc, .int .i64 b.elim, .int .i64 base, .slice none 0 0, .slice pa args.length ca] 61) := ⟨_, rfl⟩
  have B2 : Hid (Below w1.heap.size w1 w2) := by unfold Hid; rw [hw2]; exact below_al _ _
  have hz2 : w2.heap.size = w.heap.size + 3 := by rw [hw2, World.size_alloc, hz1]
  have H3 : Hid (w2.heap[w.heap.size + 2]? = some (.cells #[.slice ps b.sorts.length cs, .slice pc b.cons.length cc, .int .i64 b.elim, .int .i64 base, .slice none 0 0, .slice pa args.length ca] 61 (0, 0))) := by
    unfold Hid; rw [hw2, ← hz1]
    exact World.alloc_heap_new w1 _
  have HW2 := Lib.hid hw2
  clear hw2
  go_upto_region 2 with (fail)
  rw [← HW2.out]
  have R3 := Lib.hid ((B2.out.block _ (by omega)).trans H2.out)
  have BB := Lib.hid (B1.out.trans (B2.out.mono B1.out.size))
  have QB : Hid (QBox w (w.heap.size + 2) (w.heap.size + 3) b base (atP (args.take 0)) (.slice ps b.sorts.length cs) (.slice pc b.cons.length cc) none 0 (.slice pa args.length ca) w2) :=
    ⟨H3.out, World.ownsRow_nil _ _ _ _, by omega, by omega, BB.out⟩
  clear x0 x1 x2 H1 H2 H3 B1 B2 HW HW2 hz1
  go_wp2_with fail
  go_loopw [8] (fun i wr => ∃ (j : Nat) (a : Option Addr) (c : Nat), j ≤ args.length ∧ i = .int .i64 j ∧ QBox w (w.heap.size + 2) (w.heap.size + 3) b base (atP (args.take j)) (.slice ps b.sorts.length cs) (.slice pc b.cons.length cc) a c (.slice pa args.length ca) wr ∧ wr.heap[w.heap.size + 1]? = some (.cells #[.slice none 0 0, .slice none 0 0, .int .i64 0, .int .i64 0, .slice none 0 0, .slice none 0 0] 61 (0, 0))) (fun i _ => args.length - (RowKit.intOf i).toNat)
  case atStart => exact ⟨0, none, 0, by omega, rfl, QB.out, R3.out⟩
  case round =>
    obtain ⟨j, a, c, hj, rfl, hQ, hR⟩ := hrel
    have QJ := Lib.hid hQ
    have RJ := Lib.hid hR
    have hzr := hQ.2.2.2.1
    clear hQ hR QB R3 BB
    by_cases hlt : j < args.length
    · have HMV := Lib.hid (show (atP (args.take j)).length = j by rw [atP_length, List.length_take]; omega)
      have hol : Hid (∀ k, (Value.slice a (atP (args.take j)).length c).ownBlock = some k → w.heap.size + 3 ≤ k ∧ k < wr.heap.size) := fun k hk => QJ.out.2.1.lt k hk
      have hNX := atP_take hlt
      have hw1 : IntKind.i64.wrap ((j : Int) + 1) = ((j + 1 : Nat) : Int) := by rw [IntWalk.i64_in _ (by omega)]; omega
      obtain ⟨bA, offA, vt, vd, vi, rfl, g1, g2, g3, y0, y1, y2, y3, y4, y5, y6⟩ := (ARow.bel QJ.out.2.2.2.2 HA.out.2).at hlt
      clear g1 g2 g3 y1 y2 y3 y4 y5 y6
      by_cases hr : args[j].r = true
      · rw [hr] at y0
        rw [if_pos hr] at hNX
        have HNX := Lib.hid hNX
        clear hNX hr
        obtain ⟨⟨x0, x1, x2, x3, x4, x5⟩, f0, f1, f2, f3, f4, f5⟩ := cells6 QJ.out.1
        go_wp2_with (at_builtin; refine wpList_append_ints rfl _ _ rfl (D := w.heap.size + 3) (l := atP (args.take j)) (k := [(j : Int)]) (a0 := a) (cap := c) rfl rfl ?_ ?_ ?_ ?_ ?_)
        · rw [HMV.out]; simp; omega
        · exact (QJ.out.2.1.keep (below_al wr _))
        · simp; omega
        · exact (irow_one wr ((j : Int)))
        intro a7 c7 w7 hO7 hg7
        have Q7 := Lib.hid ((hg7.block (w.heap.size + 2) (by simp; omega) (fun e => by have := (hol.out _ e.symm).1; omega)).trans ((Below.heap_alloc wr _ _ (by omega)).trans QJ.out.1))
        have R7 := Lib.hid ((hg7.block (w.heap.size + 1) (by simp; omega) (fun e => by have := (hol.out _ e.symm).1; omega)).trans ((Below.heap_alloc wr _ _ (by omega)).trans RJ.out))
        have O7 := Lib.hid hO7
        have hz7 := hg7.size
        have B7 := Lib.hid (((QJ.out.2.2.2.2).alloc (by have := QJ.out.2.2.2.2.size; omega) (.cells #[.int .i64 ((j : Int))] 3)).grown hg7 (by simp; omega) (fun k e => by have := (hol.out k e).1; omega))
        clear hg7 hO7 x0 x1 x2 x3 x4 x5 f0 f1 f2 f3 f4 f5 y0
        obtain ⟨⟨x0, x1, x2, x3, x4, x5⟩, f0, f1, f2, f3, f4, f5⟩ := cells6 Q7.out
        go_wp2_with fail
        go_roundw
        case rel =>
          refine ⟨j + 1, a7, c7, by omega, by rw [show ((j + 1 : Nat) : Int) = (j : Int) + 1 by omega], ?_, ?_⟩
          · rw [HNX.out]
            exact qbox_next Q7.out O7.out (by omega) (by simp at hz7 ⊢; omega) B7.out (by omega)
          · rw [other_p4 (by omega)]
            exact R7.out
        case measure => simp [RowKit.intOf] <;> omega
      · have hr' : args[j].r = false := by simpa using hr
        rw [hr'] at y0
        rw [if_neg hr] at hNX
        have HNX := Lib.hid hNX
        clear hNX hr hr'
        obtain ⟨⟨x0, x1, x2, x3, x4, x5⟩, f0, f1, f2, f3, f4, f5⟩ := cells6 QJ.out.1
        go_wp2_with (at_builtin; refine wpList_append_ints rfl _ _ rfl (D := w.heap.size + 3) (l := atP (args.take j)) (k := [-1]) (a0 := a) (cap := c) rfl rfl ?_ ?_ ?_ ?_ ?_)
        · rw [HMV.out]; simp; omega
        · exact (QJ.out.2.1.keep (below_al wr _))
        · simp; omega
        · exact (irow_one wr (-1))
        intro a7 c7 w7 hO7 hg7
        have Q7 := Lib.hid ((hg7.block (w.heap.size + 2) (by simp; omega) (fun e => by have := (hol.out _ e.symm).1; omega)).trans ((Below.heap_alloc wr _ _ (by omega)).trans QJ.out.1))
        have R7 := Lib.hid ((hg7.block (w.heap.size + 1) (by simp; omega) (fun e => by have := (hol.out _ e.symm).1; omega)).trans ((Below.heap_alloc wr _ _ (by omega)).trans RJ.out))
        have O7 := Lib.hid hO7
        have hz7 := hg7.size
        have B7 := Lib.hid (((QJ.out.2.2.2.2).alloc (by have := QJ.out.2.2.2.2.size; omega) (.cells #[.int .i64 (-1)] 3)).grown hg7 (by simp; omega) (fun k e => by have := (hol.out k e).1; omega))
        clear hg7 hO7 x0 x1 x2 x3 x4 x5 f0 f1 f2 f3 f4 f5 y0
        obtain ⟨⟨x0, x1, x2, x3, x4, x5⟩, f0, f1, f2, f3, f4, f5⟩ := cells6 Q7.out
        go_wp2_with fail
        go_roundw
        case rel =>
          refine ⟨j + 1, a7, c7, by omega, by rw [show ((j + 1 : Nat) : Int) = (j : Int) + 1 by omega], ?_, ?_⟩
          · rw [HNX.out]
            exact qbox_next Q7.out O7.out (by omega) (by simp at hz7 ⊢; omega) B7.out (by omega)
          · rw [other_p4 (by omega)]
            exact R7.out
        case measure => simp [RowKit.intOf] <;> omega
    · obtain rfl : j = args.length := by omega
      have hQ' := QJ.out
      rw [List.take_length] at hQ'
      have QE := Lib.hid hQ'
      clear hQ' QJ
      obtain ⟨⟨x0, x1, x2, x3, x4, x5⟩, f0, f1, f2, f3, f4, f5⟩ := cells6 QE.out.1
      obtain ⟨_, g0, g1, g2, g3, g4, g5⟩ := cells6 RJ.out
      go_wp2_with fail
      have HB6 := box_tc6 RJ.out (.slice ps b.sorts.length cs) (.slice pc b.cons.length cc) (.int .i64 b.elim) (.int .i64 base) (.slice a (atP args).length c) (.slice pa args.length ca)
      obtain ⟨⟨s0, s1, s2, s3, s4, s5⟩, _⟩ := cells6 HB6
      have hB6 := below_tc6 (W := wr) (B := w.heap.size + 1) (D := w.heap.size) (by omega) (.slice ps b.sorts.length cs) (.slice pc b.cons.length cc) (.int .i64 b.elim) (.int .i64 base) (.slice a (atP args).length c) (.slice pa args.length ca)
      have hn6 : (Value.slice a (atP args).length c).ownBlock ≠ some (w.heap.size + 1) := fun e => by have := (QE.out.2.1.lt _ e).1; omega
      have hR6 : IOwn (w.heap.size + 3) (atP args) (.slice a (atP args).length c) _ := ownsRow_setCell_other (ownsRow_setCell_other (ownsRow_setCell_other (ownsRow_setCell_other (ownsRow_setCell_other (ownsRow_setCell_other QE.out.2.1 (a := ⟨w.heap.size + 1, 0, none⟩) hn6 (.slice ps b.sorts.length cs)) (a := ⟨w.heap.size + 1, 1, none⟩) hn6 (.slice pc b.cons.length cc)) (a := ⟨w.heap.size + 1, 2, none⟩) hn6 (.int .i64 b.elim)) (a := ⟨w.heap.size + 1, 3, none⟩) hn6 (.int .i64 base)) (a := ⟨w.heap.size + 1, 4, none⟩) hn6 (.slice a (atP args).length c)) (a := ⟨w.heap.size + 1, 5, none⟩) hn6 (.slice pa args.length ca)
      exact bodyPost_ret (v := .agg #[.slice ps b.sorts.length cs, .slice pc b.cons.length cc, .int .i64 b.elim, .int .i64 base, .slice a (atP args).length c, .slice pa args.length ca]) (by simp [results, Tryz.f28, go_sem, s0, s1, s2, s3, s4, s5]) rfl (by
        have hP : AtPost w b base args (.slice ps b.sorts.length cs) (.slice pc b.cons.length cc) (.slice pa args.length ca) _ _ := ⟨a, c, rfl, hR6.base8 (by omega), QE.out.2.2.2.2.trans hB6⟩
        exact hP)
end Go.Proofs.YtggefpkfikimiaaGreat
