/- The page's place.more. No conditions but sizes. -/
import Derived.Test.YtggefpkfikimiaaGreatG21
import Derived.Test.YtggefpkfikimiaaGreatG22
namespace Go.Proofs.YtggefpkfikimiaaGreat
open Go.RowKit
set_option linter.unusedVariables false

theorem box_p4 {W : World} {B : Nat} {ty : TypeId} {x0 x1 x2 x3 x4 x5 : Value} (h : W.heap[B]? = some (.cells #[x0, x1, x2, x3, x4, x5] ty (0, 0))) (y : Value) : (W.setCell ⟨B, 4, none⟩ y).heap[B]? = some (.cells #[x0, x1, x2, x3, y, x5] ty (0, 0)) := by
  have h1 := heap_setCell_same _ B 4 _ ty y h
  simpa using h1
theorem below_p4 {W : World} {B D : Nat} (hD : D ≤ B) (y : Value) : Below D W (W.setCell ⟨B, 4, none⟩ y) := (Below.refl D W).setCell (p := ⟨B, 4, none⟩) hD y
theorem other_p4 {W : World} {B b : Nat} (hb : b ≠ B) (y : Value) : (W.setCell ⟨B, 4, none⟩ y).heap[b]? = W.heap[b]? := Below.heap_setCell W _ y _ (by simpa using hb)
theorem moreP_succ (vars : List Int) (j : Nat) : moreP vars ((j + 1 : Nat) : Int) = moreP vars (j : Int) ++ [-1] := by
  simp only [moreP, Int.toNat_natCast]
  rw [List.replicate_succ', ← List.append_assoc]
theorem moreP_zero (vars : List Int) : moreP vars ((0 : Nat) : Int) = vars := by simp [moreP]
theorem irow_one (w : World) (n : Int) : IRow (w.alloc (.cells #[.int .i64 n] 3)) [n] (.slice (some ⟨w.heap.size, 0, none⟩) 1 1) := by
  refine .row [n] w.heap.size 0 1 (fun _ => [.int .i64 n]) (by simp) (by simp) (by decide) (fun i hi => ?_) fun i hi r hr => ?_
  · obtain rfl : i = 0 := by simpa using hi
    exact ⟨rfl, rfl⟩
  · obtain rfl : i = 0 := by simpa using hi
    obtain rfl : r = 0 := by omega
    have := World.alloc_heap_new w (.cells #[.int .i64 n] 3)
    simp only [Nat.zero_mul, Nat.add_zero, World.cell?, this]
    rfl
/-- A place that is made, in its box; its variables a row of the call's own, from D on. -/
def QBox (w0 : World) (Q D : Nat) (b : BlkT) (base : Int) (vars : List Int) (vs vc : Value) (a : Option Addr) (c : Nat) (va : Value) (W : World) : Prop :=
  W.heap[Q]? = some (.cells #[vs, vc, .int .i64 b.elim, .int .i64 base, .slice a vars.length c, va] 61 (0, 0)) ∧ IOwn D vars (.slice a vars.length c) W ∧ Q < D ∧ D ≤ W.heap.size ∧ Below w0.heap.size w0 W
def MorePost (w : World) (b : BlkT) (base : Int) (vars : List Int) (args : List ArgT) (vs vc va : Value) (e : Ending) (w' : World) : Prop :=
  ∃ a c, e = .returned (.agg #[vs, vc, .int .i64 b.elim, .int .i64 base, .slice a vars.length c, va]) ∧ PAt w' b vars args vs vc (.slice a vars.length c) va ∧ Below w.heap.size w w'
set_option maxRecDepth 100000 in
set_option maxHeartbeats 2000000 in
theorem rmore_any (b : BlkT) (base : Int) (vars : List Int) (args : List ArgT) (hl : vars.length ≤ 1000000) (n : Nat) (hn : n ≤ 20000) (w : World) (vs vc vv va : Value) (hA : PAt w b vars args vs vc vv va) :
    Calls Tryz.prog 52 #[.agg #[vs, vc, .int .i64 b.elim, .int .i64 base, vv, va], .int .i64 (n : Int)] w (MorePost w b base (moreP vars (n : Int)) args vs vc va) := by
  obtain ⟨ps, cs, pc, cc, pv, cv, pa, ca, rfl, rfl, rfl, rfl⟩ := hA.shape
  have HA := Lib.hid hA
  clear hA
  obtain ⟨w1, hw1⟩ : ∃ w1, w1 = (w.alloc (.cells #[.slice ps b.sorts.length cs, .slice pc b.cons.length cc, .int .i64 b.elim, .int .i64 base, .slice pv vars.length cv, .slice pa args.length ca] 61)).alloc (.cells #[.slice none 0 0, .slice none 0 0, .int .i64 0, .int .i64 0, .slice none 0 0, .slice none 0 0] 61) := ⟨_, rfl⟩
  have B1 : Hid (Below w.heap.size w w1) := by
    unfold Hid; rw [hw1]
    exact (below_al w _).trans ((below_al _ _).mono (by simp))
  have hz1 : w1.heap.size = w.heap.size + 2 := by rw [hw1]; simp
  have H1 : Hid (w1.heap[w.heap.size]? = some (.cells #[.slice ps b.sorts.length cs, .slice pc b.cons.length cc, .int .i64 b.elim, .int .i64 base, .slice pv vars.length cv, .slice pa args.length ca] 61 (0, 0))) := by
    unfold Hid; rw [hw1]
    exact (Below.heap_alloc _ _ _ (by simp)).trans (World.alloc_heap_new w _)
  have H2 : Hid (w1.heap[w.heap.size + 1]? = some (.cells #[.slice none 0 0, .slice none 0 0, .int .i64 0, .int .i64 0, .slice none 0 0, .slice none 0 0] 61 (0, 0))) := by
    unfold Hid; rw [hw1]
    have := World.alloc_heap_new (w.alloc (.cells #[.slice ps b.sorts.length cs, .slice pc b.cons.length cc, .int .i64 b.elim, .int .i64 base, .slice pv vars.length cv, .slice pa args.length ca] 61)) (.cells #[.slice none 0 0, .slice none 0 0, .int .i64 0, .int .i64 0, .slice none 0 0, .slice none 0 0] 61)
    rwa [World.size_alloc] at this
  have HW := Lib.hid hw1
  clear hw1
  go_enter Tryz.func52, Tryz.ntmps52
  go_upto_region 1 with (fail)
  rw [← HW.out]
  obtain ⟨⟨x0, x1, x2, x3, x4, x5⟩, _⟩ := cells6 H1.out
  obtain ⟨w2, hw2⟩ : ∃ w2, w2 = w1.alloc (.cells #[.slice ps b.sorts.length cs, .slice pc b.cons.length cc, .int .i64 b.elim, .int .i64 base, .slice pv vars.length cv, .slice pa args.length ca] 61) := ⟨_, rfl⟩
  have B2 : Hid (Below w1.heap.size w1 w2) := by unfold Hid; rw [hw2]; exact below_al _ _
  have hz2 : w2.heap.size = w.heap.size + 3 := by rw [hw2, World.size_alloc, hz1]
  have H3 : Hid (w2.heap[w.heap.size + 2]? = some (.cells #[.slice ps b.sorts.length cs, .slice pc b.cons.length cc, .int .i64 b.elim, .int .i64 base, .slice pv vars.length cv, .slice pa args.length ca] 61 (0, 0))) := by
    unfold Hid; rw [hw2, ← hz1]
    exact World.alloc_heap_new w1 _
  have HW2 := Lib.hid hw2
  clear hw2
  go_upto_region 2 with (fail)
  rw [← HW2.out]
  have H1' := Lib.hid ((B2.out.block _ (by omega)).trans H1.out)
  have H2' := Lib.hid ((B2.out.block _ (by omega)).trans H2.out)
  have BB := Lib.hid (B1.out.trans (B2.out.mono B1.out.size))
  have HT := Lib.hid (rtwinints_any vars (by omega) w2 _ (HA.out.2.1.bel BB.out))
  clear x0 x1 x2 x3 x4 x5 H1 H2 B1 B2 HW HW2 hz1
  obtain ⟨⟨x0, x1, x2, x3, x4, x5⟩, _⟩ := cells6 H1'.out
  go_wp2_with fail
  refine HT.out.mono ?_
  rintro e w3 ⟨a3, c3, rfl, hO3, hb3⟩
  have Q3 := Lib.hid ((hb3.block _ (by omega)).trans H3.out)
  have R3 := Lib.hid ((hb3.block _ (by omega)).trans H2'.out)
  have B3 := Lib.hid (BB.out.trans (hb3.mono BB.out.size))
  rw [hz2] at hO3
  have O3 := Lib.hid hO3
  have hz3 := hb3.size
  clear x0 x1 x2 x3 x4 x5 hO3 hb3 HT H1' H2' H3 BB
  have hQne : (Value.slice a3 vars.length c3).ownBlock ≠ some (w.heap.size + 2) := fun e => by have := (O3.out.lt _ e).1; omega
  have QB : Hid (QBox w (w.heap.size + 2) (w.heap.size + 3) b base (moreP vars ((0 : Nat) : Int)) (.slice ps b.sorts.length cs) (.slice pc b.cons.length cc) a3 c3 (.slice pa args.length ca) (w3.setCell ⟨w.heap.size + 2, 4, none⟩ (.slice a3 vars.length c3))) := by
    unfold Hid
    rw [moreP_zero]
    exact ⟨box_p4 Q3.out _, ownsRow_setCell_other O3.out (a := ⟨w.heap.size + 2, 4, none⟩) hQne _, by omega, by simp; omega, B3.out.trans (below_p4 (by omega) _)⟩
  have RB : Hid ((w3.setCell ⟨w.heap.size + 2, 4, none⟩ (.slice a3 vars.length c3)).heap[w.heap.size + 1]? = some (.cells #[.slice none 0 0, .slice none 0 0, .int .i64 0, .int .i64 0, .slice none 0 0, .slice none 0 0] 61 (0, 0))) := by
    unfold Hid
    rw [other_p4 (by omega)]
    exact R3.out
  obtain ⟨⟨x0, x1, x2, x3, x4, x5⟩, f0, f1, f2, f3, f4, f5⟩ := cells6 Q3.out
  go_wp2_with fail
  clear x0 x1 x2 x3 x4 x5 f0 f1 f2 f3 f4 f5
  go_loopw [6] (fun i wr => ∃ (j : Nat) (a : Option Addr) (c : Nat), j ≤ n ∧ i = .int .i64 j ∧ QBox w (w.heap.size + 2) (w.heap.size + 3) b base (moreP vars (j : Int)) (.slice ps b.sorts.length cs) (.slice pc b.cons.length cc) a c (.slice pa args.length ca) wr ∧ wr.heap[w.heap.size + 1]? = some (.cells #[.slice none 0 0, .slice none 0 0, .int .i64 0, .int .i64 0, .slice none 0 0, .slice none 0 0] 61 (0, 0))) (fun i _ => n - (RowKit.intOf i).toNat)
  case atStart => exact ⟨0, a3, c3, by omega, rfl, QB.out, RB.out⟩
  case round =>
    obtain ⟨j, a, c, hj, rfl, hQ, hR⟩ := hrel
    have QJ := Lib.hid hQ
    have RJ := Lib.hid hR
    have hzr := hQ.2.2.2.1
    clear hQ hR QB RB Q3 R3 B3 O3 hQne
    by_cases hlt : j < n
    · have HMV := Lib.hid (moreP_length vars j)
      have hol : Hid (∀ k, (Value.slice a (moreP vars (j : Int)).length c).ownBlock = some k → w.heap.size + 3 ≤ k ∧ k < wr.heap.size) := fun k hk => QJ.out.2.1.lt k hk
      obtain ⟨⟨x0, x1, x2, x3, x4, x5⟩, f0, f1, f2, f3, f4, f5⟩ := cells6 QJ.out.1
      have hw1 : IntKind.i64.wrap ((j : Int) + 1) = ((j + 1 : Nat) : Int) := by rw [IntWalk.i64_in _ (by omega)]; omega
      go_wp2_with (at_builtin; refine wpList_append_ints rfl _ _ rfl (D := w.heap.size + 3) (l := moreP vars (j : Int)) (k := [-1]) (a0 := a) (cap := c) rfl rfl (by rw [HMV.out]; simp; omega) (QJ.out.2.1.keep (below_al wr _)) (by simp; omega) (irow_one wr (-1)) ?_; intro a7 c7 w7 hO7 hg7; have Q7 := Lib.hid ((hg7.block (w.heap.size + 2) (by simp; omega) (fun e => by have := (hol.out _ e.symm).1; omega)).trans ((Below.heap_alloc wr _ _ (by omega)).trans QJ.out.1)); have R7 := Lib.hid ((hg7.block (w.heap.size + 1) (by simp; omega) (fun e => by have := (hol.out _ e.symm).1; omega)).trans ((Below.heap_alloc wr _ _ (by omega)).trans RJ.out)); have O7 := Lib.hid hO7; have hz7 := hg7.size; have B7 := Lib.hid (((QJ.out.2.2.2.2).alloc (by have := QJ.out.2.2.2.2.size; omega) (.cells #[.int .i64 (-1)] 3)).grown hg7 (by simp; omega) (fun k e => by have := (hol.out k e).1; omega)); clear hg7 hO7 x0 x1 x2 x3 x4 x5 f0 f1 f2 f3 f4 f5; obtain ⟨⟨x0, x1, x2, x3, x4, x5⟩, f0, f1, f2, f3, f4, f5⟩ := cells6 Q7.out)
      go_roundw
      case rel =>
        refine ⟨j + 1, a7, c7, by omega, by rw [show ((j + 1 : Nat) : Int) = (j : Int) + 1 by omega], ?_, ?_⟩
        · rw [moreP_succ]
          have hne : (Value.slice a7 (moreP vars (j : Int) ++ [-1]).length c7).ownBlock ≠ some (w.heap.size + 2) := fun e => by have := (O7.out.lt _ e).1; omega
          have hb4 := box_p4 Q7.out (.slice a7 (moreP vars (j : Int) ++ [-1]).length c7)
          have ho4 : IOwn (w.heap.size + 3) (moreP vars (j : Int) ++ [-1]) (.slice a7 (moreP vars (j : Int) ++ [-1]).length c7) (w7.setCell ⟨w.heap.size + 2, 4, none⟩ (.slice a7 (moreP vars (j : Int) ++ [-1]).length c7)) := ownsRow_setCell_other O7.out (a := ⟨w.heap.size + 2, 4, none⟩) hne _
          have hl7 : (moreP vars (j : Int) ++ [-1]).length = (moreP vars (j : Int)).length + 1 := by simp
          rw [hl7] at hb4 ho4
          exact ⟨by rw [hl7]; exact hb4, by rw [hl7]; exact ho4, by omega, by simp at hz7 ⊢; omega, B7.out.trans (below_p4 (by omega) _)⟩
        · rw [other_p4 (by omega)]
          exact R7.out
      case measure => simp [RowKit.intOf] <;> omega
    · obtain rfl : j = n := by omega
      obtain ⟨⟨x0, x1, x2, x3, x4, x5⟩, f0, f1, f2, f3, f4, f5⟩ := cells6 QJ.out.1
      obtain ⟨_, g0, g1, g2, g3, g4, g5⟩ := cells6 RJ.out
      go_wp2_with fail
      have HB6 := box_tc6 RJ.out (.slice ps b.sorts.length cs) (.slice pc b.cons.length cc) (.int .i64 b.elim) (.int .i64 base) (.slice a (moreP vars (j : Int)).length c) (.slice pa args.length ca)
      obtain ⟨⟨s0, s1, s2, s3, s4, s5⟩, _⟩ := cells6 HB6
      have hB6 := below_tc6 (W := wr) (B := w.heap.size + 1) (D := w.heap.size) (by omega) (.slice ps b.sorts.length cs) (.slice pc b.cons.length cc) (.int .i64 b.elim) (.int .i64 base) (.slice a (moreP vars (j : Int)).length c) (.slice pa args.length ca)
      have hn6 : (Value.slice a (moreP vars (j : Int)).length c).ownBlock ≠ some (w.heap.size + 1) := fun e => by have := (QJ.out.2.1.lt _ e).1; omega
      have hR6 : IOwn (w.heap.size + 3) (moreP vars (j : Int)) (.slice a (moreP vars (j : Int)).length c) _ := ownsRow_setCell_other (ownsRow_setCell_other (ownsRow_setCell_other (ownsRow_setCell_other (ownsRow_setCell_other (ownsRow_setCell_other QJ.out.2.1 (a := ⟨w.heap.size + 1, 0, none⟩) hn6 (.slice ps b.sorts.length cs)) (a := ⟨w.heap.size + 1, 1, none⟩) hn6 (.slice pc b.cons.length cc)) (a := ⟨w.heap.size + 1, 2, none⟩) hn6 (.int .i64 b.elim)) (a := ⟨w.heap.size + 1, 3, none⟩) hn6 (.int .i64 base)) (a := ⟨w.heap.size + 1, 4, none⟩) hn6 (.slice a (moreP vars (j : Int)).length c)) (a := ⟨w.heap.size + 1, 5, none⟩) hn6 (.slice pa args.length ca)
      exact bodyPost_ret (v := .agg #[.slice ps b.sorts.length cs, .slice pc b.cons.length cc, .int .i64 b.elim, .int .i64 base, .slice a (moreP vars (j : Int)).length c, .slice pa args.length ca]) (by simp [results, Tryz.f52, go_sem, s0, s1, s2, s3, s4, s5]) rfl ⟨a, c, rfl, ⟨HA.out.1.bel (QJ.out.2.2.2.2.trans hB6), hR6.row, ARow.bel (QJ.out.2.2.2.2.trans hB6) HA.out.2.2⟩, QJ.out.2.2.2.2.trans hB6⟩
end Go.Proofs.YtggefpkfikimiaaGreat
/- The page's at: the context of Args. No conditions but sizes. -/
namespace Go.Proofs.YtggefpkfikimiaaGreat
open Go.RowKit
set_option linter.unusedVariables false

theorem atFrom_snoc (a : ArgT) : ∀ (l : List ArgT) (i : Nat), atFrom i (l ++ [a]) = atFrom i l ++ [if a.r then ((i + l.length : Nat) : Int) else -1]
  | [], i => by simp [atFrom]
  | x :: l, i => by
    rw [List.cons_append, atFrom, atFrom, atFrom_snoc a l (i + 1), List.cons_append, List.length_cons]
    rw [show i + 1 + l.length = i + (l.length + 1) by omega]
theorem atP_take {l : List ArgT} {j : Nat} (h : j < l.length) : atP (l.take (j + 1)) = atP (l.take j) ++ [if l[j].r then (j : Int) else -1] := by
  rw [List.take_succ_eq_append_getElem h, atP, atFrom_snoc, Nat.zero_add, List.length_take, Nat.min_eq_left (by omega)]
  rfl
theorem qbox_next {w0 w7 : World} {Q D : Nat} {b : BlkT} {base : Int} {L : List Int} {x : Int} {vs vc va y4 : Value} {a7 : Option Addr} {c7 : Nat} (hQ : w7.heap[Q]? = some (.cells #[vs, vc, .int .i64 b.elim, .int .i64 base, y4, va] 61 (0, 0)))
    (hO : IOwn D (L ++ [x]) (.slice a7 (L.length + 1) c7) w7) (h1 : Q < D) (h2 : D ≤ w7.heap.size) (hB : Below w0.heap.size w0 w7) (h3 : w0.heap.size ≤ Q) :
    QBox w0 Q D b base (L ++ [x]) vs vc a7 c7 va (w7.setCell ⟨Q, 4, none⟩ (.slice a7 (L.length + 1) c7)) := by
  have hl7 : (L ++ [x]).length = L.length + 1 := by simp
  have hne : (Value.slice a7 (L.length + 1) c7).ownBlock ≠ some Q := fun e => by have := (hO.lt _ e).1; omega
  exact ⟨by rw [hl7]; exact box_p4 hQ _, by rw [hl7]; exact ownsRow_setCell_other hO (a := ⟨Q, 4, none⟩) hne _, h1, by simpa using h2, hB.trans (below_p4 h3 _)⟩
set_option maxRecDepth 100000 in
set_option maxHeartbeats 2000000 in
theorem rat_any (b : BlkT) (base : Int) (args : List ArgT) (hl : args.length ≤ 1000000) (w : World) (vs vc va : Value) (hA : BAt w b vs vc) (hR : ARow w args va) :
    Calls Tryz.prog 28 #[.agg #[vs, vc, .int .i64 b.elim], .int .i64 base, va] w (MorePost w b base (atP args) args vs vc va) := by
  obtain ⟨ps, cs, pc, cc, rfl, rfl⟩ := hA.shape
  obtain ⟨pa, ca, rfl⟩ := hR.shape
  have HA := Lib.hid (And.intro hA hR)
  clear hA hR
  obtain ⟨w1, hw1⟩ : ∃ w1, w1 = (w.alloc (.cells #[.slice ps b.sorts.length cs, .slice pc b.cons.length cc, .int .i64 b.elim] 25)).alloc (.cells #[.slice none 0 0, .slice none 0 0, .int .i64 0, .int .i64 0, .slice none 0 0, .slice none 0 0] 61) := ⟨_, rfl⟩
  have B1 : Hid (Below w.heap.size w w1) := by
    unfold Hid; rw [hw1]
    exact (below_al w _).trans ((below_al _ _).mono (by simp))
  have hz1 : w1.heap.size = w.heap.size + 2 := by rw [hw1]; simp
  have H1 : Hid (w1.heap[w.heap.size]? = some (.cells #[.slice ps b.sorts.length cs, .slice pc b.cons.length cc, .int .i64 b.elim] 25 (0, 0))) := by
    unfold Hid; rw [hw1]
    exact (Below.heap_alloc _ _ _ (by simp)).trans (World.alloc_heap_new w _)
  have H2 : Hid (w1.heap[w.heap.size + 1]? = some (.cells #[.slice none 0 0, .slice none 0 0, .int .i64 0, .int .i64 0, .slice none 0 0, .slice none 0 0] 61 (0, 0))) := by
    unfold Hid; rw [hw1]
    have := World.alloc_heap_new (w.alloc (.cells #[.slice ps b.sorts.length cs, .slice pc b.cons.length cc, .int .i64 b.elim] 25)) (.cells #[.slice none 0 0, .slice none 0 0, .int .i64 0, .int .i64 0, .slice none 0 0, .slice none 0 0] 61)
    rwa [World.size_alloc] at this
  have HW := Lib.hid hw1
  clear hw1
  go_enter Tryz.func28, Tryz.ntmps28
  go_upto_region 1 with (fail)
  rw [← HW.out]
  obtain ⟨⟨x0, x1, x2⟩, _⟩ := boxc H1.out
  obtain ⟨w2, hw2⟩ : ∃ w2, w2 = w1.alloc (.cells #[.slice ps b.sorts.length cs, .slice pc b.cons.length cc, .int .i64 b.elim, .int .i64 base, .slice none 0 0, .slice pa args.length ca] 61) := ⟨_, rfl⟩
  have B2 : Hid (Below w1.heap.size w1 w2) := by unfold Hid; rw [hw2]; exact below_al _ _
  have hz2 : w2.heap.size = w.heap.size + 3 := by rw [hw2, World.size_alloc, hz1]
  have H3 : Hid (w2.heap[w.heap.size + 2]? = some (.cells #[.slice ps b.sorts.length cs, .slice pc b.cons.length cc, .int .i64 b.elim, .int .i64 base, .slice none 0 0, .slice pa args.length ca] 61 (0, 0))) := by
    unfold Hid; rw [hw2, ← hz1]
    exact World.alloc_heap_new w1 _
  have HW2 := Lib.hid hw2
  clear hw2
  go_upto_region 2 with (fail)
  rw [← HW2.out]
  have R3 := Lib.hid ((B2.out.block _ (by omega)).trans H2.out)
  have BB := Lib.hid (B1.out.trans (B2.out.mono B1.out.size))
  have QB : Hid (QBox w (w.heap.size + 2) (w.heap.size + 3) b base (atP (args.take 0)) (.slice ps b.sorts.length cs) (.slice pc b.cons.length cc) none 0 (.slice pa args.length ca) w2) :=
    ⟨H3.out, World.ownsRow_nil _ _ _ _, by omega, by omega, BB.out⟩
  clear x0 x1 x2 H1 H2 H3 B1 B2 HW HW2 hz1
  go_wp2_with fail
  go_loopw [8] (fun i wr => ∃ (j : Nat) (a : Option Addr) (c : Nat), j ≤ args.length ∧ i = .int .i64 j ∧ QBox w (w.heap.size + 2) (w.heap.size + 3) b base (atP (args.take j)) (.slice ps b.sorts.length cs) (.slice pc b.cons.length cc) a c (.slice pa args.length ca) wr ∧ wr.heap[w.heap.size + 1]? = some (.cells #[.slice none 0 0, .slice none 0 0, .int .i64 0, .int .i64 0, .slice none 0 0, .slice none 0 0] 61 (0, 0))) (fun i _ => args.length - (RowKit.intOf i).toNat)
  case atStart => exact ⟨0, none, 0, by omega, rfl, QB.out, R3.out⟩
  case round =>
    obtain ⟨j, a, c, hj, rfl, hQ, hR⟩ := hrel
    have QJ := Lib.hid hQ
    have RJ := Lib.hid hR
    have hzr := hQ.2.2.2.1
    clear hQ hR QB R3 BB
    by_cases hlt : j < args.length
    · have HMV := Lib.hid (show (atP (args.take j)).length = j by rw [atP_length, List.length_take]; omega)
      have hol : Hid (∀ k, (Value.slice a (atP (args.take j)).length c).ownBlock = some k → w.heap.size + 3 ≤ k ∧ k < wr.heap.size) := fun k hk => QJ.out.2.1.lt k hk
      have hNX := atP_take hlt
      have hw1 : IntKind.i64.wrap ((j : Int) + 1) = ((j + 1 : Nat) : Int) := by rw [IntWalk.i64_in _ (by omega)]; omega
      obtain ⟨bA, offA, vt, vd, vi, rfl, g1, g2, g3, y0, y1, y2, y3, y4, y5, y6⟩ := (ARow.bel QJ.out.2.2.2.2 HA.out.2).at hlt
      clear g1 g2 g3 y1 y2 y3 y4 y5 y6
      by_cases hr : args[j].r = true
      · rw [hr] at y0
        rw [if_pos hr] at hNX
        have HNX := Lib.hid hNX
        clear hNX hr
        obtain ⟨⟨x0, x1, x2, x3, x4, x5⟩, f0, f1, f2, f3, f4, f5⟩ := cells6 QJ.out.1
        go_wp2_with (at_builtin; refine wpList_append_ints rfl _ _ rfl (D := w.heap.size + 3) (l := atP (args.take j)) (k := [(j : Int)]) (a0 := a) (cap := c) rfl rfl ?_ ?_ ?_ ?_ ?_)
        · rw [HMV.out]; simp; omega
        · exact (QJ.out.2.1.keep (below_al wr _))
        · simp; omega
        · exact (irow_one wr ((j : Int)))
        intro a7 c7 w7 hO7 hg7
        have Q7 := Lib.hid ((hg7.block (w.heap.size + 2) (by simp; omega) (fun e => by have := (hol.out _ e.symm).1; omega)).trans ((Below.heap_alloc wr _ _ (by omega)).trans QJ.out.1))
        have R7 := Lib.hid ((hg7.block (w.heap.size + 1) (by simp; omega) (fun e => by have := (hol.out _ e.symm).1; omega)).trans ((Below.heap_alloc wr _ _ (by omega)).trans RJ.out))
        have O7 := Lib.hid hO7
        have hz7 := hg7.size
        have B7 := Lib.hid (((QJ.out.2.2.2.2).alloc (by have := QJ.out.2.2.2.2.size; omega) (.cells #[.int .i64 ((j : Int))] 3)).grown hg7 (by simp; omega) (fun k e => by have := (hol.out k e).1; omega))
        clear hg7 hO7 x0 x1 x2 x3 x4 x5 f0 f1 f2 f3 f4 f5 y0
        obtain ⟨⟨x0, x1, x2, x3, x4, x5⟩, f0, f1, f2, f3, f4, f5⟩ := cells6 Q7.out
        go_wp2_with fail
        go_roundw
        case rel =>
          refine ⟨j + 1, a7, c7, by omega, by rw [show ((j + 1 : Nat) : Int) = (j : Int) + 1 by omega], ?_, ?_⟩
          · rw [HNX.out]
            exact qbox_next Q7.out O7.out (by omega) (by simp at hz7 ⊢; omega) B7.out (by omega)
          · rw [other_p4 (by omega)]
            exact R7.out
        case measure => simp [RowKit.intOf] <;> omega
      · have hr' : args[j].r = false := by simpa using hr
        rw [hr'] at y0
        rw [if_neg hr] at hNX
        have HNX := Lib.hid hNX
        clear hNX hr hr'
        obtain ⟨⟨x0, x1, x2, x3, x4, x5⟩, f0, f1, f2, f3, f4, f5⟩ := cells6 QJ.out.1
        go_wp2_with (at_builtin; refine wpList_append_ints rfl _ _ rfl (D := w.heap.size + 3) (l := atP (args.take j)) (k := [-1]) (a0 := a) (cap := c) rfl rfl ?_ ?_ ?_ ?_ ?_)
        · rw [HMV.out]; simp; omega
        · exact (QJ.out.2.1.keep (below_al wr _))
        · simp; omega
        · exact (irow_one wr (-1))
        intro a7 c7 w7 hO7 hg7
        have Q7 := Lib.hid ((hg7.block (w.heap.size + 2) (by simp; omega) (fun e => by have := (hol.out _ e.symm).1; omega)).trans ((Below.heap_alloc wr _ _ (by omega)).trans QJ.out.1))
        have R7 := Lib.hid ((hg7.block (w.heap.size + 1) (by simp; omega) (fun e => by have := (hol.out _ e.symm).1; omega)).trans ((Below.heap_alloc wr _ _ (by omega)).trans RJ.out))
        have O7 := Lib.hid hO7
        have hz7 := hg7.size
        have B7 := Lib.hid (((QJ.out.2.2.2.2).alloc (by have := QJ.out.2.2.2.2.size; omega) (.cells #[.int .i64 (-1)] 3)).grown hg7 (by simp; omega) (fun k e => by have := (hol.out k e).1; omega))
        clear hg7 hO7 x0 x1 x2 x3 x4 x5 f0 f1 f2 f3 f4 f5 y0
        obtain ⟨⟨x0, x1, x2, x3, x4, x5⟩, f0, f1, f2, f3, f4, f5⟩ := cells6 Q7.out
        go_wp2_with fail
        go_roundw
        case rel =>
          refine ⟨j + 1, a7, c7, by omega, by rw [show ((j + 1 : Nat) : Int) = (j : Int) + 1 by omega], ?_, ?_⟩
          · rw [HNX.out]
            exact qbox_next Q7.out O7.out (by omega) (by simp at hz7 ⊢; omega) B7.out (by omega)
          · rw [other_p4 (by omega)]
            exact R7.out
        case measure => simp [RowKit.intOf] <;> omega
    · obtain rfl : j = args.length := by omega
      have hQ' := QJ.out
      rw [List.take_length] at hQ'
      have QE := Lib.hid hQ'
      clear hQ' QJ
      obtain ⟨⟨x0, x1, x2, x3, x4, x5⟩, f0, f1, f2, f3, f4, f5⟩ := cells6 QE.out.1
      obtain ⟨_, g0, g1, g2, g3, g4, g5⟩ := cells6 RJ.out
      go_wp2_with fail
      have HB6 := box_tc6 RJ.out (.slice ps b.sorts.length cs) (.slice pc b.cons.length cc) (.int .i64 b.elim) (.int .i64 base) (.slice a (atP args).length c) (.slice pa args.length ca)
      obtain ⟨⟨s0, s1, s2, s3, s4, s5⟩, _⟩ := cells6 HB6
      have hB6 := below_tc6 (W := wr) (B := w.heap.size + 1) (D := w.heap.size) (by omega) (.slice ps b.sorts.length cs) (.slice pc b.cons.length cc) (.int .i64 b.elim) (.int .i64 base) (.slice a (atP args).length c) (.slice pa args.length ca)
      have hn6 : (Value.slice a (atP args).length c).ownBlock ≠ some (w.heap.size + 1) := fun e => by have := (QE.out.2.1.lt _ e).1; omega
      have hR6 : IOwn (w.heap.size + 3) (atP args) (.slice a (atP args).length c) _ := ownsRow_setCell_other (ownsRow_setCell_other (ownsRow_setCell_other (ownsRow_setCell_other (ownsRow_setCell_other (ownsRow_setCell_other QE.out.2.1 (a := ⟨w.heap.size + 1, 0, none⟩) hn6 (.slice ps b.sorts.length cs)) (a := ⟨w.heap.size + 1, 1, none⟩) hn6 (.slice pc b.cons.length cc)) (a := ⟨w.heap.size + 1, 2, none⟩) hn6 (.int .i64 b.elim)) (a := ⟨w.heap.size + 1, 3, none⟩) hn6 (.int .i64 base)) (a := ⟨w.heap.size + 1, 4, none⟩) hn6 (.slice a (atP args).length c)) (a := ⟨w.heap.size + 1, 5, none⟩) hn6 (.slice pa args.length ca)
      exact bodyPost_ret (v := .agg #[.slice ps b.sorts.length cs, .slice pc b.cons.length cc, .int .i64 b.elim, .int .i64 base, .slice a (atP args).length c, .slice pa args.length ca]) (by simp [results, Tryz.f28, go_sem, s0, s1, s2, s3, s4, s5]) rfl (by
        have hP : MorePost w b base (atP args) args (.slice ps b.sorts.length cs) (.slice pc b.cons.length cc) (.slice pa args.length ca) _ _ := ⟨a, c, rfl, ⟨HA.out.1.bel (QE.out.2.2.2.2.trans hB6), hR6.row, ARow.bel (QE.out.2.2.2.2.trans hB6) HA.out.2⟩, QE.out.2.2.2.2.trans hB6⟩
        exact hP)
end Go.Proofs.YtggefpkfikimiaaGreat
