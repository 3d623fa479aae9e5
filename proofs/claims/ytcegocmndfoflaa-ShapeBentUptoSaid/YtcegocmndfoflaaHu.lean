/- A twin of a row of arguments is that row, in new memory. No conditions but sizes. -/
import Derived.Test.YtcegocmndfoflaaHt
namespace Go.Proofs.Ytcegocmndfoflaa
open Go.RowKit Go.Joins
set_option linter.unusedVariables false

def TwinArgsPost (w : World) (l : List ArgT) (e : Ending) (w' : World) : Prop := ∃ a cap, e = .returned (.slice a l.length cap) ∧ ArgsOwn (fun b => w.heap.size ≤ b ∧ b < w'.heap.size) w.heap.size w' l (.slice a l.length cap) ∧ Below w.heap.size w w'
def TwaInv (w : World) (l : List ArgT) (v i : Value) (wr : World) : Prop := ∃ (j : Nat) (f : Nat → List Value), j ≤ l.length ∧ i = .int .i64 j ∧ wr.ownsRow w.heap.size 49 7 v j ((List.range j).flatMap f) ∧
  (∀ i (_ : i < j) (h : i < l.length), argCS (fun b => w.heap.size ≤ b ∧ b < wr.heap.size ∧ some b ≠ v.ownBlock) wr l[i] (f i)) ∧ Below w.heap.size w wr
theorem box_store7 {W : World} {B : Nat} {ty : TypeId} {x0 x1 x2 x3 x4 x5 x6 : Value} (h : W.heap[B]? = some (.cells #[x0, x1, x2, x3, x4, x5, x6] ty (0, 0))) (y1 y2 y3 y4 y6 : Value) :
    (((((W.setCell ⟨B, 1, none⟩ y1).setCell ⟨B, 2, none⟩ y2).setCell ⟨B, 3, none⟩ y3).setCell ⟨B, 4, none⟩ y4).setCell ⟨B, 6, none⟩ y6).heap[B]? = some (.cells #[x0, y1, y2, y3, y4, x5, y6] ty (0, 0)) := by
  have h1 := heap_setCell_same W B 1 _ ty y1 h
  have h2 := heap_setCell_same _ B 2 _ ty y2 h1
  have h3 := heap_setCell_same _ B 3 _ ty y3 h2
  have h4 := heap_setCell_same _ B 4 _ ty y4 h3
  have h5 := heap_setCell_same _ B 6 _ ty y6 h4
  simpa using h5
theorem below_store7 {W : World} {B D : Nat} (hD : D ≤ B) (y1 y2 y3 y4 y6 : Value) : Below D W (((((W.setCell ⟨B, 1, none⟩ y1).setCell ⟨B, 2, none⟩ y2).setCell ⟨B, 3, none⟩ y3).setCell ⟨B, 4, none⟩ y4).setCell ⟨B, 6, none⟩ y6) :=
  (((((Below.refl D W).setCell (p := ⟨B, 1, none⟩) hD y1).setCell (p := ⟨B, 2, none⟩) hD y2).setCell (p := ⟨B, 3, none⟩) hD y3).setCell (p := ⟨B, 4, none⟩) hD y4).setCell (p := ⟨B, 6, none⟩) hD y6
theorem other_store7 {W : World} {B b : Nat} (hb : b ≠ B) (y1 y2 y3 y4 y6 : Value) : (((((W.setCell ⟨B, 1, none⟩ y1).setCell ⟨B, 2, none⟩ y2).setCell ⟨B, 3, none⟩ y3).setCell ⟨B, 4, none⟩ y4).setCell ⟨B, 6, none⟩ y6).heap[b]? = W.heap[b]? := by
  rw [Below.heap_setCell _ _ _ _ (by simpa using hb), Below.heap_setCell _ _ _ _ (by simpa using hb), Below.heap_setCell _ _ _ _ (by simpa using hb), Below.heap_setCell _ _ _ _ (by simpa using hb), Below.heap_setCell _ _ _ _ (by simpa using hb)]
theorem cells7 {W : World} {B : Nat} {ty : TypeId} {x0 x1 x2 x3 x4 x5 x6 : Value} (h : W.heap[B]? = some (.cells #[x0, x1, x2, x3, x4, x5, x6] ty (0, 0))) : (W.cell? ⟨B, 0, none⟩ = some x0 ∧ W.cell? ⟨B, 1, none⟩ = some x1 ∧ W.cell? ⟨B, 2, none⟩ = some x2 ∧ W.cell? ⟨B, 3, none⟩ = some x3 ∧ W.cell? ⟨B, 4, none⟩ = some x4 ∧ W.cell? ⟨B, 5, none⟩ = some x5 ∧ W.cell? ⟨B, 6, none⟩ = some x6) ∧
    (W.frozen? ⟨B, 1, none⟩ = false ∧ W.frozen? ⟨B, 2, none⟩ = false ∧ W.frozen? ⟨B, 3, none⟩ = false ∧ W.frozen? ⟨B, 4, none⟩ = false ∧ W.frozen? ⟨B, 6, none⟩ = false) := by
  refine ⟨⟨?_, ?_, ?_, ?_, ?_, ?_, ?_⟩, ?_, ?_, ?_, ?_, ?_⟩ <;> simp [World.cell?, World.frozen?, h]
set_option maxRecDepth 100000 in
set_option maxHeartbeats 4000000 in
theorem twinargs_any (l : List ArgT) (hs : argsN l ≤ 1048576) (w : World) (v : Value) (hA : ARow w l v) :
    Calls Try.prog 31 #[v] w (TwinArgsPost w l) := by
  obtain ⟨a, cap, rfl⟩ := hA.shape
  have hla := argsN_len l
  have HS := Lib.hid (fun j (h : j < l.length) => Nat.le_trans (argN_le (List.getElem_mem h)) hs)
  have hll : l.length ≤ 1048576 := by omega
  have HA := Lib.hid hA
  clear hs hla hA
  go_enter Try.func31, Try.ntmps31
  go_wp2_with fail
  go_loopw [3, 4] (fun v i wr => TwaInv w l v i wr) (fun _ i _ => l.length - (RowKit.intOf i).toNat)
  case atStart => exact ⟨0, fun _ => [], Nat.zero_le _, rfl, World.ownsRow_nil _ _ _ _, fun i h => absurd h (Nat.not_lt_zero _), Below.refl _ _⟩
  case round =>
    obtain ⟨j, f, hj, rfl, hown, hats, hbw⟩ := hrel
    by_cases hlt : j < l.length
    · obtain ⟨b, off, vt, vd, vi, rfl, g1, g2, g3, k0, k1, k2, k3, k4, k5, k6⟩ := ARow.at (ARow.bel hbw HA.out) hlt
      obtain ⟨p1, c1, e1⟩ := g1.shape
      obtain ⟨p2, c2, e2⟩ := g2.shape
      obtain ⟨p3, c3, e3⟩ := g3.shape
      subst e1 e2 e3
      have hn : argN l[j] = size l[j].ty + sizeL l[j].dom + sizeL l[j].idx + 1 := rfl
      have hsj := HS.out j hlt
      have HO := Lib.hid hown
      have HT := Lib.hid hats
      have HW := Lib.hid hbw
      have hji : (j : Int) < (l.length : Int) := by omega
      have hj0 : (0 : Int) ≤ (j : Int) := by omega
      have R1 := Lib.hid (fun W (hW : Below wr.heap.size wr W) => c_twin l[j].ty (by omega) W (.slice p1 l[j].ty.kids.length c1) (g1.bel hW (Nat.le_refl _)))
      have R2 := Lib.hid (fun W (hW : Below wr.heap.size wr W) => twins_any l[j].dom (by have := length_le_sizeL l[j].dom; omega) (fun x hx => twin_any x (by have := size_le_of_mem hx; omega)) W (.slice p2 l[j].dom.length c2) (g2.bel hW (Nat.le_refl _)))
      have R3 := Lib.hid (fun W (hW : Below wr.heap.size wr W) => twins_any l[j].idx (by have := length_le_sizeL l[j].idx; omega) (fun x hx => twin_any x (by have := size_le_of_mem hx; omega)) W (.slice p3 l[j].idx.length c3) (g3.bel hW (Nat.le_refl _)))
      have H1 := Lib.hid (World.alloc_heap_new wr (.cells #[.bool l[j].r, .int .i64 l[j].ty.k, .int .i64 l[j].ty.n, .slice p1 l[j].ty.kids.length c1, .slice p2 l[j].dom.length c2, .int .i64 l[j].sort, .slice p3 l[j].idx.length c3] 49))
      have B1 := Lib.hid (below_al wr (.cells #[.bool l[j].r, .int .i64 l[j].ty.k, .int .i64 l[j].ty.n, .slice p1 l[j].ty.kids.length c1, .slice p2 l[j].dom.length c2, .int .i64 l[j].sort, .slice p3 l[j].idx.length c3] 49))
      have hz1 := Lib.hid (World.size_alloc wr (.cells #[.bool l[j].r, .int .i64 l[j].ty.k, .int .i64 l[j].ty.n, .slice p1 l[j].ty.kids.length c1, .slice p2 l[j].dom.length c2, .int .i64 l[j].sort, .slice p3 l[j].idx.length c3] 49))
      clear g1 g2 g3 hown hats hbw hn hsj
      go_wp2_with fail
      revert H1 B1 hz1
      generalize wr.alloc (.cells #[.bool l[j].r, .int .i64 l[j].ty.k, .int .i64 l[j].ty.n, .slice p1 l[j].ty.kids.length c1, .slice p2 l[j].dom.length c2, .int .i64 l[j].sort, .slice p3 l[j].idx.length c3] 49) = w1
      intro H1 B1 hz1
      have hz1' := hz1.out
      obtain ⟨⟨b0, b1, b2, b3, b4, b5, b6⟩, f1, f2, f3, f4, f6⟩ := cells7 H1.out
      clear k0 k1 k2 k3 k4 k5 k6
      refine wp_region_rel_tail 10 (by kernel_rfl) (by kernel_rfl) (by kernel_rfl) ?_
      simp only [List.take_succ_cons, List.take_zero]
      simp only [List.drop_succ_cons, List.drop_zero]
      clear b0 b1 b2 b3 b4 b5 b6 f1 f2 f3 f4 f6
      apply RelWalk.next 2
      · kernel_rfl
      · intro X _ W hW hcl
        simp only [List.take_succ_cons, List.take_zero]
        obtain ⟨⟨b0, b1, b2, b3, b4, b5, b6⟩, _⟩ := cells7 H1.out
        have r1 := fun q => gcell (hW q) b1
        have r2 := fun q => gcell (hW q) b2
        have r3 := fun q => gcell (hW q) b3
        clear b0 b1 b2 b3 b4 b5 b6
        repeat (go_big_quiet_step (fail))
        exact wpQuiet_nil rfl
      simp only [List.drop_succ_cons, List.drop_zero]
      refine RelWalk.made0 (plain fun v W => ∃ a cap, v = .agg #[.int .i64 l[j].ty.k, .int .i64 l[j].ty.n, .slice a l[j].ty.kids.length cap] ∧ AtS (fun b => wr.heap.size + 1 ≤ b) W l[j].ty.kids (.slice a l[j].ty.kids.length cap)) rfl (by kernel_rfl) (by kernel_rfl) rfl (mono_plain fun v W W' hg ⟨a, c, h1, h2⟩ => ⟨a, c, h1, h2.grw hg⟩) (fun w2 hg => ?_) ?_
      · have hc := Lib.hid (R1.out w2 (B1.out.trans (hg.mono B1.out.size)))
        go_simp
        exact rel_enter (hc.out.mono fun e w3 ⟨a3, c3, he, hA3, _, hb3⟩ => ⟨_, he, hb3, a3, c3, rfl, hA3.mono fun b hb => by have h1 := hg.size; have h2 := hb.1; omega⟩)
      simp only [Act.put, List.setIfInBounds_toArray, List.set_cons_zero, List.set_cons_succ]
      apply RelWalk.next 2
      · kernel_rfl
      · intro X _ W hW hcl
        simp only [List.take_succ_cons, List.take_zero]
        obtain ⟨⟨b0, b1, b2, b3, b4, b5, b6⟩, _⟩ := cells7 H1.out
        have r4 := fun q => gcell (hW q) b4
        clear b0 b1 b2 b3 b4 b5 b6
        repeat (go_big_quiet_step (fail))
        exact wpQuiet_nil rfl
      simp only [List.drop_succ_cons, List.drop_zero]
      refine RelWalk.made0 (plain fun v W => ∃ a cap, v = .slice a l[j].dom.length cap ∧ AtS (fun b => wr.heap.size + 1 ≤ b) W l[j].dom (.slice a l[j].dom.length cap)) rfl (by kernel_rfl) (by kernel_rfl) rfl (mono_plain fun v W W' hg ⟨a, c, h1, h2⟩ => ⟨a, c, h1, h2.grw hg⟩) (fun w2 hg => ?_) ?_
      · have hc := Lib.hid (R2.out w2 (B1.out.trans (hg.mono B1.out.size)))
        go_simp
        exact rel_enter (hc.out.mono fun e w3 ⟨a3, c3, he, hA3, _, hb3⟩ => ⟨_, he, hb3, a3, c3, rfl, hA3.mono fun b hb => by have h1 := hg.size; have h2 := hb.1; omega⟩)
      simp only [Act.put, List.setIfInBounds_toArray, List.set_cons_zero, List.set_cons_succ]
      apply RelWalk.next 2
      · kernel_rfl
      · intro X _ W hW hcl
        simp only [List.take_succ_cons, List.take_zero]
        obtain ⟨⟨b0, b1, b2, b3, b4, b5, b6⟩, _⟩ := cells7 H1.out
        have r6 := fun q => gcell (hW q) b6
        clear b0 b1 b2 b3 b4 b5 b6
        repeat (go_big_quiet_step (fail))
        exact wpQuiet_nil rfl
      simp only [List.drop_succ_cons, List.drop_zero]
      refine RelWalk.made0 (plain fun v W => ∃ a cap, v = .slice a l[j].idx.length cap ∧ AtS (fun b => wr.heap.size + 1 ≤ b) W l[j].idx (.slice a l[j].idx.length cap)) rfl (by kernel_rfl) (by kernel_rfl) rfl (mono_plain fun v W W' hg ⟨a, c, h1, h2⟩ => ⟨a, c, h1, h2.grw hg⟩) (fun w2 hg => ?_) ?_
      · have hc := Lib.hid (R3.out w2 (B1.out.trans (hg.mono B1.out.size)))
        go_simp
        exact rel_enter (hc.out.mono fun e w3 ⟨a3, c3, he, hA3, _, hb3⟩ => ⟨_, he, hb3, a3, c3, rfl, hA3.mono fun b hb => by have h1 := hg.size; have h2 := hb.1; omega⟩)
      simp only [Act.put, List.setIfInBounds_toArray, List.set_cons_zero, List.set_cons_succ]
      apply RelWalk.rest
      · kernel_rfl
      · intro X _ W hW hcl
        repeat (go_big_quiet_step (fail))
        exact wpQuiet_nil rfl
      intro g w2 hg hpt
      clear hpt
      have hbx := Lib.hid ((hg.block wr.heap.size (by omega)).trans H1.out)
      obtain ⟨⟨b0, b1, b2, b3, b4, b5, b6⟩, f1, f2, f3, f4, f6⟩ := cells7 hbx.out
      have HG := Lib.hid hg
      clear hg
      simp only [Spread]
      rintro v24 ⟨a3, d3, rfl, hI⟩ v21 ⟨a2, d2, rfl, hD⟩ v18 ⟨a1, d1, rfl, hT⟩
      simp only [Act.put, List.setIfInBounds_toArray, List.set_cons_zero, List.set_cons_succ]
      have HIx := Lib.hid hI
      have HDx := Lib.hid hD
      have HTx := Lib.hid hT
      clear hI hD hT
      go_upto_region 7 with (fail)
      clear b0 b1 b2 b3 b4 b5 b6 f1 f2 f3 f4 f6
      have hb2 : Below wr.heap.size wr w2 := B1.out.trans (HG.out.mono B1.out.size)
      have hzz : w1.heap.size ≤ w2.heap.size := HG.out.size
      have E1 := box_store7 hbx.out (.int .i64 l[j].ty.k) (.int .i64 l[j].ty.n) (.slice a1 l[j].ty.kids.length d1) (.slice a2 l[j].dom.length d2) (.slice a3 l[j].idx.length d3)
      have E2 := hb2.trans (below_store7 (W := w2) (B := wr.heap.size) (D := wr.heap.size) (Nat.le_refl _) (.int .i64 l[j].ty.k) (.int .i64 l[j].ty.n) (.slice a1 l[j].ty.kids.length d1) (.slice a2 l[j].dom.length d2) (.slice a3 l[j].idx.length d3))
      have E3 : ∀ b, b ≠ wr.heap.size → (((((w2.setCell ⟨wr.heap.size, 1, none⟩ (.int .i64 l[j].ty.k)).setCell ⟨wr.heap.size, 2, none⟩ (.int .i64 l[j].ty.n)).setCell ⟨wr.heap.size, 3, none⟩ (.slice a1 l[j].ty.kids.length d1)).setCell ⟨wr.heap.size, 4, none⟩ (.slice a2 l[j].dom.length d2)).setCell ⟨wr.heap.size, 6, none⟩ (.slice a3 l[j].idx.length d3)).heap[b]? = w2.heap[b]? := fun b hb => other_store7 hb (.int .i64 l[j].ty.k) (.int .i64 l[j].ty.n) (.slice a1 l[j].ty.kids.length d1) (.slice a2 l[j].dom.length d2) (.slice a3 l[j].idx.length d3)
      have E4 : (((((w2.setCell ⟨wr.heap.size, 1, none⟩ (.int .i64 l[j].ty.k)).setCell ⟨wr.heap.size, 2, none⟩ (.int .i64 l[j].ty.n)).setCell ⟨wr.heap.size, 3, none⟩ (.slice a1 l[j].ty.kids.length d1)).setCell ⟨wr.heap.size, 4, none⟩ (.slice a2 l[j].dom.length d2)).setCell ⟨wr.heap.size, 6, none⟩ (.slice a3 l[j].idx.length d3)).heap.size = w2.heap.size := by simp
      revert E1 E2 E3 E4
      generalize (((((w2.setCell ⟨wr.heap.size, 1, none⟩ (.int .i64 l[j].ty.k)).setCell ⟨wr.heap.size, 2, none⟩ (.int .i64 l[j].ty.n)).setCell ⟨wr.heap.size, 3, none⟩ (.slice a1 l[j].ty.kids.length d1)).setCell ⟨wr.heap.size, 4, none⟩ (.slice a2 l[j].dom.length d2)).setCell ⟨wr.heap.size, 6, none⟩ (.slice a3 l[j].idx.length d3)) = w3
      intro E1 E2 E3 E4
      have E1 := Lib.hid E1
      have E2 := Lib.hid E2
      have E3 := Lib.hid E3
      have hzz3 : wr.heap.size < w3.heap.size := by omega
      have AT : AtS (fun b => wr.heap.size + 1 ≤ b ∧ b < w3.heap.size) w3 l[j].ty.kids (.slice a1 l[j].ty.kids.length d1) := HTx.out.lt.same fun b hb => ⟨⟨hb.1, by omega⟩, E3.out b (by omega)⟩
      have AD : AtS (fun b => wr.heap.size + 1 ≤ b ∧ b < w3.heap.size) w3 l[j].dom (.slice a2 l[j].dom.length d2) := HDx.out.lt.same fun b hb => ⟨⟨hb.1, by omega⟩, E3.out b (by omega)⟩
      have AI : AtS (fun b => wr.heap.size + 1 ≤ b ∧ b < w3.heap.size) w3 l[j].idx (.slice a3 l[j].idx.length d3) := HIx.out.lt.same fun b hb => ⟨⟨hb.1, by omega⟩, E3.out b (by omega)⟩
      have HA3 := Lib.hid (And.intro AT (And.intro AD AI))
      have HR1 := Lib.hid (show w3.ownsRow w.heap.size 49 7 u3 j ((List.range j).flatMap f) from HO.out.kept (row := none) ⟨E2.out.os, E2.out.tape, E2.out.output, E2.out.size, fun k hk _ => E2.out.block k hk⟩ (by cases u3.ownBlock <;> simp))
      have hol := HO.out.lt
      have HOL := Lib.hid hol
      have hbw0 := HW.out.size
      obtain ⟨⟨b0, b1, b2, b3, b4, b5, b6⟩, f1, f2, f3, f4, f6⟩ := cells7 E1.out
      have hm1 : j + 1 ≤ maxLen := by unfold maxLen; omega
      have hm2 : (j + 1) * 104 ≤ 140737488355328 := by omega
      obtain ⟨i0, hi, hz0, hz1, hz2⟩ := info_parts Try.infoA
      clear AT AD AI hol HTx HDx HIx hb2 f1 f2 f3 f4 f6 hbx E4 hzz
      go_wp2_with (at_builtin; refine wpList_append_lies _ rfl (.tmp 28) (.tmp 30) 39 rfl w.heap.size 49 i0 _ 7 104 Try.underlying39 hi hz0 hz1 hz2 rfl (by decide) u3 j _ rfl (HR1.out.alloc _) ⟨w3.heap.size, 0, none⟩ 1 1 [.bool l[j].r, .int .i64 l[j].ty.k, .int .i64 l[j].ty.n, .slice a1 l[j].ty.kids.length d1, .slice a2 l[j].dom.length d2, .int .i64 l[j].sort, .slice a3 l[j].idx.length d3] rfl rfl (World.news_of_block (cs := #[.bool l[j].r, .int .i64 l[j].ty.k, .int .i64 l[j].ty.n, .slice a1 l[j].ty.kids.length d1, .slice a2 l[j].dom.length d2, .int .i64 l[j].sort, .slice a3 l[j].idx.length d3]) (World.alloc_heap_new w3 _)) (by simp [Value.oneCell']) (by decide) hm1 hm2 (by simp; omega) (w3.heap.size + 1) (by simp) ?_; intro g cp w4 hown4 hgrow4 hat4 hlt4)
      have hH : w3.heap.size < w4.heap.size := by have := hgrow4.size; simp at this; omega
      have blk : ∀ b, b < w3.heap.size → some b ≠ u3.ownBlock → w4.heap[b]? = w3.heap[b]? := fun b hb hne => (hgrow4.block b (by simp; omega) hne).trans (Below.heap_alloc w3 _ b hb)
      have hgne : ∀ b, b < w3.heap.size → some b ≠ u3.ownBlock → some b ≠ some g := fun b hb hne e => by
        rcases hat4 with h | h
        · exact hne (by rw [h]; exact e)
        · cases e; omega
      have hol := HOL.out
      have hb1s := E2.out.size
      go_roundw
      case rel =>
        refine ⟨j + 1, fun i => if i < j then f i else [.bool l[j].r, .int .i64 l[j].ty.k, .int .i64 l[j].ty.n, .slice a1 l[j].ty.kids.length d1, .slice a2 l[j].dom.length d2, .int .i64 l[j].sort, .slice a3 l[j].idx.length d3], by omega, by go_num, ?_, fun i hi hil => ?_, ?_⟩
        · rw [flatG_snoc f (fun i => if i < j then f i else [.bool l[j].r, .int .i64 l[j].ty.k, .int .i64 l[j].ty.n, .slice a1 l[j].ty.kids.length d1, .slice a2 l[j].dom.length d2, .int .i64 l[j].sort, .slice a3 l[j].idx.length d3]) (fun i hi => by rw [if_pos hi]), if_neg (by omega)]
          exact hown4
        · by_cases hij : i < j
          · simp only [if_pos hij]
            exact (HT.out i hij hil).same fun b hb => ⟨⟨hb.1, by omega, hgne b (by omega) hb.2.2⟩, (blk b (by omega) hb.2.2).trans (E2.out.block b hb.2.1)⟩
          · obtain rfl : i = j := by omega
            simp only [if_neg hij]
            have nw : ∀ b, wr.heap.size + 1 ≤ b → some b ≠ u3.ownBlock := fun b hb e => by have := (hol b e.symm).2; omega
            have sm : ∀ b, (wr.heap.size + 1 ≤ b ∧ b < w3.heap.size) → (w.heap.size ≤ b ∧ b < w4.heap.size ∧ some b ≠ (Value.slice (some ⟨g, 0, none⟩) (i + 1) cp).ownBlock) ∧ w4.heap[b]? = w3.heap[b]? := fun b hb =>
              ⟨⟨by omega, by omega, hgne b hb.2 (nw b hb.1)⟩, blk b hb.2 (nw b hb.1)⟩
            exact ⟨_, _, _, rfl, HA3.out.1.same sm, HA3.out.2.1.same sm, HA3.out.2.2.same sm⟩
        · exact (HW.out.trans (E2.out.mono hbw0)).trans (((Below.refl w.heap.size w3).alloc (by omega) _).grown hgrow4 (by simp; omega) (fun k hk => (hol k hk).1))
      case measure => simp [RowKit.intOf]; omega
    · obtain rfl : j = l.length := by omega
      have hlt : decide ((l.length : Int) < (l.length : Int)) = false := by simp
      have HO := Lib.hid hown
      have HT := Lib.hid hats
      have HW := Lib.hid hbw
      clear hown hats hbw
      obtain ⟨av, cv, rfl⟩ : ∃ a c, u3 = .slice a l.length c := by
        rcases ownsRow_forms HO.out with ⟨h, h0⟩ | ⟨_, _, h⟩
        · exact ⟨none, 0, by rw [h, h0]⟩
        · exact ⟨_, _, h⟩
      go_wp2_with fail
      go_ret
      exact ⟨av, cv, rfl, ⟨fun b hb => HO.out.lt b hb, f, HO.out, fun i hi => (HT.out i hi hi).same fun b hb => ⟨⟨⟨hb.1, hb.2.1⟩, hb.2.2⟩, rfl⟩⟩, HW.out⟩
end Go.Proofs.Ytcegocmndfoflaa
