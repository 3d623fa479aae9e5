/- A twin of a con is that con, in new memory, each part of it in blocks of its own. No conditions but sizes. -/
import Derived.Test.YtcegocmndfoflaaHu
import Derived.Test.YtcegocmndfoflaaHc
namespace Go.Proofs.Ytcegocmndfoflaa
open Go.RowKit Go.Joins
set_option linter.unusedVariables false

def In (lo hi : Nat) : Nat → Prop := fun b => lo ≤ b ∧ b < hi
theorem ownsRow_same {w w' : World} {base : Nat} {e : TypeId} {size : Nat} {v : Value} {n : Nat} {xs : List Value} (h : w.ownsRow base e size v n xs) (hs : ∀ b, v.ownBlock = some b → w'.heap[b]? = w.heap[b]?) : w'.ownsRow base e size v n xs := by
  refine ⟨h.1, ?_⟩
  rcases h.2 with hn | ⟨g, cap, cur, rfl, hb, hg, rest⟩
  · exact .inl hn
  · exact .inr ⟨g, cap, cur, rfl, hb, (hs g rfl).trans hg, rest⟩
theorem ArgsOwn.same {S T : Nat → Prop} {base : Nat} {w w' : World} {l : List ArgT} {v : Value} (hs : ∀ b, S b → T b ∧ w'.heap[b]? = w.heap[b]?) (h : ArgsOwn S base w l v) : ArgsOwn T base w' l v := by
  obtain ⟨h1, f, h2, h3⟩ := h
  exact ⟨fun b hb => (hs b (h1 b hb)).1, f, ownsRow_same h2 fun b hb => (hs b (h1 b hb)).2, fun i hi => (h3 i hi).same fun b hb => ⟨⟨(hs b hb.1).1, hb.2⟩, (hs b hb.1).2⟩⟩
theorem ArgsOwn.base {S : Nat → Prop} {base base' : Nat} {w : World} {l : List ArgT} {v : Value} (hb : base' ≤ base) (h : ArgsOwn S base w l v) : ArgsOwn S base' w l v := by
  obtain ⟨h1, f, h2, h3⟩ := h
  exact ⟨h1, f, ownsRow_le h2 hb, h3⟩
/-- A row of terms that was made by appends: its own block, and what lies below it lies elsewhere. -/
def TermsOwn (S : Nat → Prop) (base : Nat) (w : World) (l : List Tm) (v : Value) : Prop := (∀ b, v.ownBlock = some b → S b) ∧ ∃ vs, w.ownsRow base 42 3 v l.length (cells3 l vs) ∧ ∀ i (_ : i < l.length), AtS (fun b => S b ∧ some b ≠ v.ownBlock) w l[i].kids (vs i)
theorem TermsOwn.same {S T : Nat → Prop} {base : Nat} {w w' : World} {l : List Tm} {v : Value} (hs : ∀ b, S b → T b ∧ w'.heap[b]? = w.heap[b]?) (h : TermsOwn S base w l v) : TermsOwn T base w' l v := by
  obtain ⟨h1, f, h2, h3⟩ := h
  exact ⟨fun b hb => (hs b (h1 b hb)).1, f, ownsRow_same h2 fun b hb => (hs b (h1 b hb)).2, fun i hi => (h3 i hi).same fun b hb => ⟨⟨(hs b hb.1).1, hb.2⟩, (hs b hb.1).2⟩⟩
theorem TermsOwn.base {S : Nat → Prop} {base base' : Nat} {w : World} {l : List Tm} {v : Value} (hb : base' ≤ base) (h : TermsOwn S base w l v) : TermsOwn S base' w l v := by
  obtain ⟨h1, f, h2, h3⟩ := h
  exact ⟨h1, f, ownsRow_le h2 hb, h3⟩
theorem TermsOwn.at {S : Nat → Prop} {base : Nat} {w : World} {l : List Tm} {v : Value} (h : TermsOwn S base w l v) : At w l v := by
  obtain ⟨h1, f, h2, h3⟩ := h
  exact at_of_row h2 fun i hi => (h3 i hi).at
/-- Three stretches of blocks, apart from one another. -/
def Apart3 (lo hi s1 e1 s2 e2 s3 e3 : Nat) : Prop := lo ≤ s1 ∧ s1 ≤ e1 ∧ e1 ≤ hi ∧ lo ≤ s2 ∧ s2 ≤ e2 ∧ e2 ≤ hi ∧ lo ≤ s3 ∧ s3 ≤ e3 ∧ e3 ≤ hi ∧ (e1 ≤ s2 ∨ e2 ≤ s1) ∧ (e1 ≤ s3 ∨ e3 ≤ s1) ∧ (e2 ≤ s3 ∨ e3 ≤ s2)
/-- A con's cells, each part in a stretch of blocks of its own. -/
def conO (lo hi base : Nat) (w : World) (c : ConT) (cs : List Value) : Prop := ∃ s1 e1 s2 e2 s3 e3 va vi vt, Apart3 lo hi s1 e1 s2 e2 s3 e3 ∧ cs = [.int .i64 c.sort, va, vi, .int .i64 c.dec.k, .int .i64 c.dec.n, vt] ∧ ArgsOwn (In s1 e1) base w c.args va ∧ TermsOwn (In s2 e2) base w c.idx vi ∧ AtS (In s3 e3) w c.dec.kids vt
theorem conO.same {lo hi lo' hi' base base' : Nat} {w w' : World} {c : ConT} {cs : List Value} (hl : lo' ≤ lo) (hh : hi ≤ hi') (hbb : base' ≤ base) (hs : ∀ b, lo ≤ b → b < hi → w'.heap[b]? = w.heap[b]?) (h : conO lo hi base w c cs) : conO lo' hi' base' w' c cs := by
  obtain ⟨s1, e1, s2, e2, s3, e3, va, vi, vt, ha, hc, h1, h2, h3⟩ := h
  unfold Apart3 at ha
  refine ⟨s1, e1, s2, e2, s3, e3, va, vi, vt, by unfold Apart3; omega, hc, ?_, ?_, ?_⟩
  · exact (h1.same fun b hb => ⟨hb, hs b (by have := hb.1; omega) (by have := hb.2; omega)⟩).base hbb
  · exact (h2.same fun b hb => ⟨hb, hs b (by have := hb.1; omega) (by have := hb.2; omega)⟩).base hbb
  · exact h3.same fun b hb => ⟨hb, hs b (by have := hb.1; omega) (by have := hb.2; omega)⟩
theorem conO.c {lo hi base : Nat} {w : World} {c : ConT} {cs : List Value} (h : conO lo hi base w c cs) : conC w c cs := by
  obtain ⟨s1, e1, s2, e2, s3, e3, va, vi, vt, ha, hc, h1, h2, h3⟩ := h
  exact ⟨va, vi, vt, hc, h1.row.at, h2.at, h3.at⟩
theorem conO.len {lo hi base : Nat} {w : World} {c : ConT} {cs : List Value} (h : conO lo hi base w c cs) : cs.length = 6 := by
  obtain ⟨s1, e1, s2, e2, s3, e3, va, vi, vt, ha, hc, h1, h2, h3⟩ := h
  rw [hc]; rfl
def TwinConPost (w : World) (c : ConT) (e : Ending) (w' : World) : Prop := ∃ a1 d1 a2 d2 a3 d3, e = .returned (.agg #[.int .i64 c.sort, .slice a1 c.args.length d1, .slice a2 c.idx.length d2, .int .i64 c.dec.k, .int .i64 c.dec.n, .slice a3 c.dec.kids.length d3]) ∧ conO w.heap.size w'.heap.size w.heap.size w' c [.int .i64 c.sort, .slice a1 c.args.length d1, .slice a2 c.idx.length d2, .int .i64 c.dec.k, .int .i64 c.dec.n, .slice a3 c.dec.kids.length d3] ∧ Below w.heap.size w w'
theorem box_tc5 {W : World} {B : Nat} {ty : TypeId} {x0 x1 x2 x3 x4 x5 : Value} (h : W.heap[B]? = some (.cells #[x0, x1, x2, x3, x4, x5] ty (0, 0))) (y1 y2 y3 y4 y5 : Value) : (((((W.setCell ⟨B, 1, none⟩ y1).setCell ⟨B, 2, none⟩ y2).setCell ⟨B, 3, none⟩ y3).setCell ⟨B, 4, none⟩ y4).setCell ⟨B, 5, none⟩ y5).heap[B]? = some (.cells #[x0, y1, y2, y3, y4, y5] ty (0, 0)) := by
  have h1 := heap_setCell_same _ B 1 _ ty y1 h
  have h2 := heap_setCell_same _ B 2 _ ty y2 h1
  have h3 := heap_setCell_same _ B 3 _ ty y3 h2
  have h4 := heap_setCell_same _ B 4 _ ty y4 h3
  have h5 := heap_setCell_same _ B 5 _ ty y5 h4
  simpa using h5
theorem below_tc5 {W : World} {B D : Nat} (hD : D ≤ B) (y1 y2 y3 y4 y5 : Value) : Below D W (((((W.setCell ⟨B, 1, none⟩ y1).setCell ⟨B, 2, none⟩ y2).setCell ⟨B, 3, none⟩ y3).setCell ⟨B, 4, none⟩ y4).setCell ⟨B, 5, none⟩ y5) := ((((((Below.refl D W).setCell (p := ⟨B, 1, none⟩) hD y1).setCell (p := ⟨B, 2, none⟩) hD y2).setCell (p := ⟨B, 3, none⟩) hD y3).setCell (p := ⟨B, 4, none⟩) hD y4).setCell (p := ⟨B, 5, none⟩) hD y5)
theorem other_tc5 {W : World} {B b : Nat} (hb : b ≠ B) (y1 y2 y3 y4 y5 : Value) : (((((W.setCell ⟨B, 1, none⟩ y1).setCell ⟨B, 2, none⟩ y2).setCell ⟨B, 3, none⟩ y3).setCell ⟨B, 4, none⟩ y4).setCell ⟨B, 5, none⟩ y5).heap[b]? = W.heap[b]? := by
  rw [Below.heap_setCell _ _ _ _ (by simpa using hb), Below.heap_setCell _ _ _ _ (by simpa using hb), Below.heap_setCell _ _ _ _ (by simpa using hb), Below.heap_setCell _ _ _ _ (by simpa using hb), Below.heap_setCell _ _ _ _ (by simpa using hb)]
theorem box_tc6 {W : World} {B : Nat} {ty : TypeId} {x0 x1 x2 x3 x4 x5 : Value} (h : W.heap[B]? = some (.cells #[x0, x1, x2, x3, x4, x5] ty (0, 0))) (y0 y1 y2 y3 y4 y5 : Value) : ((((((W.setCell ⟨B, 0, none⟩ y0).setCell ⟨B, 1, none⟩ y1).setCell ⟨B, 2, none⟩ y2).setCell ⟨B, 3, none⟩ y3).setCell ⟨B, 4, none⟩ y4).setCell ⟨B, 5, none⟩ y5).heap[B]? = some (.cells #[y0, y1, y2, y3, y4, y5] ty (0, 0)) := by
  have h1 := heap_setCell_same _ B 0 _ ty y0 h
  have h2 := heap_setCell_same _ B 1 _ ty y1 h1
  have h3 := heap_setCell_same _ B 2 _ ty y2 h2
  have h4 := heap_setCell_same _ B 3 _ ty y3 h3
  have h5 := heap_setCell_same _ B 4 _ ty y4 h4
  have h6 := heap_setCell_same _ B 5 _ ty y5 h5
  simpa using h6
theorem below_tc6 {W : World} {B D : Nat} (hD : D ≤ B) (y0 y1 y2 y3 y4 y5 : Value) : Below D W ((((((W.setCell ⟨B, 0, none⟩ y0).setCell ⟨B, 1, none⟩ y1).setCell ⟨B, 2, none⟩ y2).setCell ⟨B, 3, none⟩ y3).setCell ⟨B, 4, none⟩ y4).setCell ⟨B, 5, none⟩ y5) := (((((((Below.refl D W).setCell (p := ⟨B, 0, none⟩) hD y0).setCell (p := ⟨B, 1, none⟩) hD y1).setCell (p := ⟨B, 2, none⟩) hD y2).setCell (p := ⟨B, 3, none⟩) hD y3).setCell (p := ⟨B, 4, none⟩) hD y4).setCell (p := ⟨B, 5, none⟩) hD y5)
theorem other_tc6 {W : World} {B b : Nat} (hb : b ≠ B) (y0 y1 y2 y3 y4 y5 : Value) : ((((((W.setCell ⟨B, 0, none⟩ y0).setCell ⟨B, 1, none⟩ y1).setCell ⟨B, 2, none⟩ y2).setCell ⟨B, 3, none⟩ y3).setCell ⟨B, 4, none⟩ y4).setCell ⟨B, 5, none⟩ y5).heap[b]? = W.heap[b]? := by
  rw [Below.heap_setCell _ _ _ _ (by simpa using hb), Below.heap_setCell _ _ _ _ (by simpa using hb), Below.heap_setCell _ _ _ _ (by simpa using hb), Below.heap_setCell _ _ _ _ (by simpa using hb), Below.heap_setCell _ _ _ _ (by simpa using hb), Below.heap_setCell _ _ _ _ (by simpa using hb)]
theorem cells6 {W : World} {B : Nat} {ty : TypeId} {x0 x1 x2 x3 x4 x5 : Value} (h : W.heap[B]? = some (.cells #[x0, x1, x2, x3, x4, x5] ty (0, 0))) : (W.cell? ⟨B, 0, none⟩ = some x0 ∧ W.cell? ⟨B, 1, none⟩ = some x1 ∧ W.cell? ⟨B, 2, none⟩ = some x2 ∧ W.cell? ⟨B, 3, none⟩ = some x3 ∧ W.cell? ⟨B, 4, none⟩ = some x4 ∧ W.cell? ⟨B, 5, none⟩ = some x5) ∧
    (W.frozen? ⟨B, 0, none⟩ = false ∧ W.frozen? ⟨B, 1, none⟩ = false ∧ W.frozen? ⟨B, 2, none⟩ = false ∧ W.frozen? ⟨B, 3, none⟩ = false ∧ W.frozen? ⟨B, 4, none⟩ = false ∧ W.frozen? ⟨B, 5, none⟩ = false) := by
  refine ⟨⟨?_, ?_, ?_, ?_, ?_, ?_⟩, ?_, ?_, ?_, ?_, ?_, ?_⟩ <;> simp [World.cell?, World.frozen?, h]
set_option maxRecDepth 100000 in
set_option maxHeartbeats 4000000 in
theorem twincon_any (c : ConT) (hs : conN c ≤ 1048576) (w : World) (va vi vt : Value) (hA : ARow w c.args va) (hI : At w c.idx vi) (hT : At w c.dec.kids vt) :
    Calls Try.prog 33 #[.agg #[.int .i64 c.sort, va, vi, .int .i64 c.dec.k, .int .i64 c.dec.n, vt]] w (TwinConPost w c) := by
  obtain ⟨p1, c1, rfl⟩ := hA.shape
  obtain ⟨p2, c2, rfl⟩ := hI.shape
  obtain ⟨p3, c3, rfl⟩ := hT.shape
  have hn : conN c = argsN c.args + sizeL c.idx + size c.dec + 1 := rfl
  have hli := length_le_sizeL c.idx
  have R1 := Lib.hid (fun W (hW : Below w.heap.size w W) => twinargs_any c.args (by omega) W _ (ARow.bel hW hA))
  have R2 := Lib.hid (fun W (hW : Below w.heap.size w W) => twins_any c.idx (by omega) (fun x hx => twin_any x (by have := size_le_of_mem hx; omega)) W _ (hI.bel hW (Nat.le_refl _)))
  have R3 := Lib.hid (fun W (hW : Below w.heap.size w W) => c_twin c.dec (by omega) W _ (hT.bel hW (Nat.le_refl _)))
  clear hn hli hs hA hI hT
  obtain ⟨w1, hw1⟩ : ∃ w1, w1 = (w.alloc (.cells #[.int .i64 c.sort, .slice p1 c.args.length c1, .slice p2 c.idx.length c2, .int .i64 c.dec.k, .int .i64 c.dec.n, .slice p3 c.dec.kids.length c3] 46)).alloc (.cells #[.int .i64 0, .slice none 0 0, .slice none 0 0, .int .i64 0, .int .i64 0, .slice none 0 0] 46) := ⟨_, rfl⟩
  have B1 : Hid (Below w.heap.size w w1) := by
    unfold Hid; rw [hw1]
    exact (below_al w _).trans ((below_al _ _).mono (by simp))
  have hz1 : w1.heap.size = w.heap.size + 2 := by rw [hw1]; simp
  have H1 : Hid (w1.heap[w.heap.size]? = some (.cells #[.int .i64 c.sort, .slice p1 c.args.length c1, .slice p2 c.idx.length c2, .int .i64 c.dec.k, .int .i64 c.dec.n, .slice p3 c.dec.kids.length c3] 46 (0, 0))) := by
    unfold Hid; rw [hw1]
    exact (Below.heap_alloc _ _ _ (by simp)).trans (World.alloc_heap_new w _)
  have H2 : Hid (w1.heap[w.heap.size + 1]? = some (.cells #[.int .i64 0, .slice none 0 0, .slice none 0 0, .int .i64 0, .int .i64 0, .slice none 0 0] 46 (0, 0))) := by
    unfold Hid; rw [hw1]
    have := World.alloc_heap_new (w.alloc (.cells #[.int .i64 c.sort, .slice p1 c.args.length c1, .slice p2 c.idx.length c2, .int .i64 c.dec.k, .int .i64 c.dec.n, .slice p3 c.dec.kids.length c3] 46)) (.cells #[.int .i64 0, .slice none 0 0, .slice none 0 0, .int .i64 0, .int .i64 0, .slice none 0 0] 46)
    rwa [World.size_alloc] at this
  have HW := Lib.hid hw1
  clear hw1
  go_enter Try.func33, Try.ntmps33
  go_upto_region 1 with (fail)
  rw [← HW.out]
  clear HW
  refine wp_region_rel_tail 10 (by kernel_rfl) (by kernel_rfl) (by kernel_rfl) ?_
  simp only [List.take_succ_cons, List.take_zero]
  simp only [List.drop_succ_cons, List.drop_zero]
  apply RelWalk.next 2
  · kernel_rfl
  · intro X _ W hW hcl
    simp only [List.take_succ_cons, List.take_zero]
    obtain ⟨⟨b0, b1, b2, b3, b4, b5⟩, _⟩ := cells6 H1.out
    have r1 := fun q => gcell (hW q) b1
    clear b0 b1 b2 b3 b4 b5
    repeat (go_big_quiet_step (fail))
    exact wpQuiet_nil rfl
  simp only [List.drop_succ_cons, List.drop_zero]
  refine RelWalk.made0 (fun v s e W => ∃ a cap, v = .slice a c.args.length cap ∧ ArgsOwn (In s e) w.heap.size W c.args (.slice a c.args.length cap) ∧ w.heap.size + 2 ≤ s ∧ e ≤ W.heap.size) rfl (by kernel_rfl) (by kernel_rfl) rfl (fun v s e W W' hg ⟨a, c, h1, h2, h3, h4⟩ => ⟨a, c, h1, h2.same fun b hb => ⟨hb, hg.block b (Nat.lt_of_lt_of_le hb.2 h4)⟩, h3, Nat.le_trans h4 hg.size⟩) (fun w2 hg => ?_) ?_
  · have hc := Lib.hid (R1.out w2 (B1.out.trans (hg.mono B1.out.size)))
    have hsz := hg.size
    go_simp
    exact rel_enter (hc.out.mono fun e w3 ⟨a3, c3, he, hA3, hb3⟩ => ⟨_, he, hb3, a3, c3, rfl, hA3.base (by omega), by omega, Nat.le_refl _⟩)
  simp only [Act.put, List.setIfInBounds_toArray, List.set_cons_zero, List.set_cons_succ]
  apply RelWalk.next 2
  · kernel_rfl
  · intro X _ W hW hcl
    simp only [List.take_succ_cons, List.take_zero]
    obtain ⟨⟨b0, b1, b2, b3, b4, b5⟩, _⟩ := cells6 H1.out
    have r2 := fun q => gcell (hW q) b2
    clear b0 b1 b2 b3 b4 b5
    repeat (go_big_quiet_step (fail))
    exact wpQuiet_nil rfl
  simp only [List.drop_succ_cons, List.drop_zero]
  refine RelWalk.made0 (fun v s e W => ∃ a cap, v = .slice a c.idx.length cap ∧ TermsOwn (In s e) w.heap.size W c.idx (.slice a c.idx.length cap) ∧ w.heap.size + 2 ≤ s ∧ e ≤ W.heap.size) rfl (by kernel_rfl) (by kernel_rfl) rfl (fun v s e W W' hg ⟨a, c, h1, h2, h3, h4⟩ => ⟨a, c, h1, h2.same fun b hb => ⟨hb, hg.block b (Nat.lt_of_lt_of_le hb.2 h4)⟩, h3, Nat.le_trans h4 hg.size⟩) (fun w2 hg => ?_) ?_
  · have hc := Lib.hid (R2.out w2 (B1.out.trans (hg.mono B1.out.size)))
    have hsz := hg.size
    go_simp
    exact rel_enter (hc.out.mono fun e w3 ⟨a3, c3, he, hA3, ⟨vs, o1, o2⟩, hb3⟩ => ⟨_, he, hb3, a3, c3, rfl, ⟨fun b hb => o1.lt b hb, vs, ownsRow_le o1 (by omega), fun i hi => (o2 i hi).mono fun b hb => ⟨⟨hb.1, hb.2.1⟩, hb.2.2⟩⟩, by omega, Nat.le_refl _⟩)
  simp only [Act.put, List.setIfInBounds_toArray, List.set_cons_zero, List.set_cons_succ]
  apply RelWalk.next 2
  · kernel_rfl
  · intro X _ W hW hcl
    simp only [List.take_succ_cons, List.take_zero]
    obtain ⟨⟨b0, b1, b2, b3, b4, b5⟩, _⟩ := cells6 H1.out
    have r3 := fun q => gcell (hW q) b3
    have r4 := fun q => gcell (hW q) b4
    have r5 := fun q => gcell (hW q) b5
    clear b0 b1 b2 b3 b4 b5
    repeat (go_big_quiet_step (fail))
    exact wpQuiet_nil rfl
  simp only [List.drop_succ_cons, List.drop_zero]
  refine RelWalk.made0 (fun v s e W => ∃ a cap, v = .agg #[.int .i64 c.dec.k, .int .i64 c.dec.n, .slice a c.dec.kids.length cap] ∧ AtS (In s e) W c.dec.kids (.slice a c.dec.kids.length cap) ∧ w.heap.size + 2 ≤ s ∧ e ≤ W.heap.size) rfl (by kernel_rfl) (by kernel_rfl) rfl (fun v s e W W' hg ⟨a, c, h1, h2, h3, h4⟩ => ⟨a, c, h1, h2.same fun b hb => ⟨hb, hg.block b (Nat.lt_of_lt_of_le hb.2 h4)⟩, h3, Nat.le_trans h4 hg.size⟩) (fun w2 hg => ?_) ?_
  · have hc := Lib.hid (R3.out w2 (B1.out.trans (hg.mono B1.out.size)))
    have hsz := hg.size
    go_simp
    exact rel_enter (hc.out.mono fun e w3 ⟨a3, c3, he, hA3, _, hb3⟩ => ⟨_, he, hb3, a3, c3, rfl, hA3, by omega, Nat.le_refl _⟩)
  simp only [Act.put, List.setIfInBounds_toArray, List.set_cons_zero, List.set_cons_succ]
  apply RelWalk.rest
  · kernel_rfl
  · intro X _ W hW hcl
    repeat (go_big_quiet_step (fail))
    exact wpQuiet_nil rfl
  intro g w2 hg hpt
  simp only [Spread]
  rintro v11 ⟨a3, d3, rfl, hD, hD1, hD2⟩ v8 ⟨a2, d2, rfl, hI, hI1, hI2⟩ v5 ⟨a1, d1, rfl, hA, hA1, hA2⟩
  have q12 := hpt.2 5 (by simp) 8 (by simp) (by decide)
  have q13 := hpt.2 5 (by simp) 11 (by simp) (by decide)
  have q23 := hpt.2 8 (by simp) 11 (by simp) (by decide)
  have l1 := (hpt.1 5 (by simp)).2.1
  have l2 := (hpt.1 8 (by simp)).2.1
  have l3 := (hpt.1 11 (by simp)).2.1
  have HAP : Hid (Apart3 (w.heap.size + 2) w2.heap.size (g 5).1 (g 5).2 (g 8).1 (g 8).2 (g 11).1 (g 11).2) := by unfold Hid Apart3; omega
  have HA := Lib.hid hA
  have HI := Lib.hid hI
  have HD := Lib.hid hD
  have HG := Lib.hid hg
  have h1x := Lib.hid ((hg.block w.heap.size (by omega)).trans H1.out)
  have h2x := Lib.hid ((hg.block (w.heap.size + 1) (by omega)).trans H2.out)
  have hz2 := hg.size
  clear hpt q12 q13 q23 l1 l2 l3 hA hI hD hA1 hA2 hI1 hI2 hD1 hD2 hg
  obtain ⟨⟨b0, b1, b2, b3, b4, b5⟩, f0, f1, f2, f3, f4, f5⟩ := cells6 h1x.out
  simp only [Act.put, List.setIfInBounds_toArray, List.set_cons_zero, List.set_cons_succ]
  go_upto_region 2 with (fail)
  clear b0 b1 b2 b3 b4 b5 f0 f1 f2 f3 f4 f5
  have E1 := box_tc5 h1x.out (.slice a1 c.args.length d1) (.slice a2 c.idx.length d2) (.int .i64 c.dec.k) (.int .i64 c.dec.n) (.slice a3 c.dec.kids.length d3)
  have E2 := (B1.out.trans (HG.out.mono (by omega))).trans (below_tc5 (W := w2) (B := w.heap.size) (D := w.heap.size) (Nat.le_refl _) (.slice a1 c.args.length d1) (.slice a2 c.idx.length d2) (.int .i64 c.dec.k) (.int .i64 c.dec.n) (.slice a3 c.dec.kids.length d3))
  have E3 : ∀ b, b ≠ w.heap.size → (((((w2.setCell ⟨w.heap.size, 1, none⟩ (.slice a1 c.args.length d1)).setCell ⟨w.heap.size, 2, none⟩ (.slice a2 c.idx.length d2)).setCell ⟨w.heap.size, 3, none⟩ (.int .i64 c.dec.k)).setCell ⟨w.heap.size, 4, none⟩ (.int .i64 c.dec.n)).setCell ⟨w.heap.size, 5, none⟩ (.slice a3 c.dec.kids.length d3)).heap[b]? = w2.heap[b]? := fun b hb => other_tc5 hb (.slice a1 c.args.length d1) (.slice a2 c.idx.length d2) (.int .i64 c.dec.k) (.int .i64 c.dec.n) (.slice a3 c.dec.kids.length d3)
  have E4 : (((((w2.setCell ⟨w.heap.size, 1, none⟩ (.slice a1 c.args.length d1)).setCell ⟨w.heap.size, 2, none⟩ (.slice a2 c.idx.length d2)).setCell ⟨w.heap.size, 3, none⟩ (.int .i64 c.dec.k)).setCell ⟨w.heap.size, 4, none⟩ (.int .i64 c.dec.n)).setCell ⟨w.heap.size, 5, none⟩ (.slice a3 c.dec.kids.length d3)).heap.size = w2.heap.size := by simp
  revert E1 E2 E3 E4
  generalize (((((w2.setCell ⟨w.heap.size, 1, none⟩ (.slice a1 c.args.length d1)).setCell ⟨w.heap.size, 2, none⟩ (.slice a2 c.idx.length d2)).setCell ⟨w.heap.size, 3, none⟩ (.int .i64 c.dec.k)).setCell ⟨w.heap.size, 4, none⟩ (.int .i64 c.dec.n)).setCell ⟨w.heap.size, 5, none⟩ (.slice a3 c.dec.kids.length d3)) = w3
  intro E1 E2 E3 E4
  have h2y := Lib.hid ((E3 (w.heap.size + 1) (by omega)).trans h2x.out)
  have E2 := Lib.hid E2
  have E3 := Lib.hid E3
  have E4 := Lib.hid E4
  obtain ⟨⟨b0, b1, b2, b3, b4, b5⟩, f0, f1, f2, f3, f4, f5⟩ := cells6 E1
  obtain ⟨⟨c0, c1, c2, c3, c4, c5⟩, g0, g1, g2, g3, g4, g5⟩ := cells6 h2y.out
  clear E1
  go_wp2_with fail
  refine bodyPost_ret (v := .agg #[.int .i64 c.sort, .slice a1 c.args.length d1, .slice a2 c.idx.length d2, .int .i64 c.dec.k, .int .i64 c.dec.n, .slice a3 c.dec.kids.length d3]) (by simp [results, Try.f33, go_sem, c0, c1, c2, c3, c4, c5]) rfl ⟨a1, d1, a2, d2, a3, d3, rfl, ?_, E2.out.trans (below_tc6 (by omega) (.int .i64 c.sort) (.slice a1 c.args.length d1) (.slice a2 c.idx.length d2) (.int .i64 c.dec.k) (.int .i64 c.dec.n) (.slice a3 c.dec.kids.length d3))⟩
  have hsz : ((((((w3.setCell ⟨w.heap.size + 1, 0, none⟩ (.int .i64 c.sort)).setCell ⟨w.heap.size + 1, 1, none⟩ (.slice a1 c.args.length d1)).setCell ⟨w.heap.size + 1, 2, none⟩ (.slice a2 c.idx.length d2)).setCell ⟨w.heap.size + 1, 3, none⟩ (.int .i64 c.dec.k)).setCell ⟨w.heap.size + 1, 4, none⟩ (.int .i64 c.dec.n)).setCell ⟨w.heap.size + 1, 5, none⟩ (.slice a3 c.dec.kids.length d3)).heap.size = w2.heap.size := by simp [E4.out]
  rw [hsz]
  have hc : conO (w.heap.size + 2) w2.heap.size w.heap.size w2 c [.int .i64 c.sort, .slice a1 c.args.length d1, .slice a2 c.idx.length d2, .int .i64 c.dec.k, .int .i64 c.dec.n, .slice a3 c.dec.kids.length d3] := ⟨_, _, _, _, _, _, _, _, _, HAP.out, rfl, HA.out, HI.out, HD.out⟩
  exact hc.same (by omega) (Nat.le_refl _) (Nat.le_refl _) fun b hb hb2 => (other_tc6 (by omega) (.int .i64 c.sort) (.slice a1 c.args.length d1) (.slice a2 c.idx.length d2) (.int .i64 c.dec.k) (.int .i64 c.dec.n) (.slice a3 c.dec.kids.length d3)).trans (E3.out b (by omega))
end Go.Proofs.Ytcegocmndfoflaa
