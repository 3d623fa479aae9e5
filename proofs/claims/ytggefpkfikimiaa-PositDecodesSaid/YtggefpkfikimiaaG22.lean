/- A twin of a con is that con, in new memory, each part of it in blocks of its own. No conditions but sizes. -/
import Derived.Test.YtggefpkfikimiaaG21
import Derived.Test.YtggefpkfikimiaaG19
import Derived.Test.YtggefpkfikimiaaG15
import Derived.Test.YtggefpkfikimiaaG20
namespace Go.Proofs.Ytggefpkfikimiaa
open Go.RowKit Go.Joins
set_option linter.unusedVariables false

def In (lo hi : Nat) : Nat → Prop := fun b => lo ≤ b ∧ b < hi
theorem ownsRow_same {w w' : World} {base : Nat} {e : TypeId} {size : Nat} {v : Value} {n : Nat} {xs : List Value} (h : w.ownsRow base e size v n xs) (hs : ∀ b, v.ownBlock = some b → w'.heap[b]? = w.heap[b]?) : w'.ownsRow base e size v n xs := by
  refine ⟨h.1, ?_⟩
  rcases h.2 with hn | ⟨g, cap, cur, rfl, hb, hg, rest⟩
  · exact .inl hn
  · exact .inr ⟨g, cap, cur, rfl, hb, (hs g rfl).trans hg, rest⟩
theorem ArgsOwn.same {S T : Nat → Prop} {base : Nat} {w w' : World} {l : List ArgT} {v : Value} (hs : ∀ b, S b → T b ∧ w'.heap[b]? = w.heap[b]?) (h : ArgsOwn S base w l v) : ArgsOwn T base w' l v := by
  obtain ⟨h1, f, h2, h3⟩ := h
  exact ⟨fun b hb => (hs b (h1 b hb)).1, f, ownsRow_same h2 fun b hb => (hs b (h1 b hb)).2, fun i hi => (h3 i hi).same fun b hb => ⟨⟨(hs b hb.1).1, hb.2⟩, (hs b hb.1).2⟩⟩
theorem ArgsOwn.base {S : Nat → Prop} {base base' : Nat} {w : World} {l : List ArgT} {v : Value} (hb : base' ≤ base) (h : ArgsOwn S base w l v) : ArgsOwn S base' w l v := by
  obtain ⟨h1, f, h2, h3⟩ := h
  exact ⟨h1, f, ownsRow_le h2 hb, h3⟩
/-- A row of terms that was made by appends: its own block, and what lies below it lies elsewhere. -/
def TermsOwn (S : Nat → Prop) (base : Nat) (w : World) (l : List Tm) (v : Value) : Prop := (∀ b, v.ownBlock = some b → S b) ∧ ∃ vs, w.ownsRow base 25 3 v l.length (cells3 l vs) ∧ ∀ i (_ : i < l.length), AtS (fun b => S b ∧ some b ≠ v.ownBlock) w l[i].kids (vs i)
theorem TermsOwn.same {S T : Nat → Prop} {base : Nat} {w w' : World} {l : List Tm} {v : Value} (hs : ∀ b, S b → T b ∧ w'.heap[b]? = w.heap[b]?) (h : TermsOwn S base w l v) : TermsOwn T base w' l v := by
  obtain ⟨h1, f, h2, h3⟩ := h
  exact ⟨fun b hb => (hs b (h1 b hb)).1, f, ownsRow_same h2 fun b hb => (hs b (h1 b hb)).2, fun i hi => (h3 i hi).same fun b hb => ⟨⟨(hs b hb.1).1, hb.2⟩, (hs b hb.1).2⟩⟩
theorem TermsOwn.base {S : Nat → Prop} {base base' : Nat} {w : World} {l : List Tm} {v : Value} (hb : base' ≤ base) (h : TermsOwn S base w l v) : TermsOwn S base' w l v := by
  obtain ⟨h1, f, h2, h3⟩ := h
  exact ⟨h1, f, ownsRow_le h2 hb, h3⟩
theorem TermsOwn.at {S : Nat → Prop} {base : Nat} {w : World} {l : List Tm} {v : Value} (h : TermsOwn S base w l v) : At w l v := by
  obtain ⟨h1, f, h2, h3⟩ := h
  exact at_of_row h2 fun i hi => (h3 i hi).at
/-- Three stretches of blocks, apart from one another. -/
def Apart3 (lo hi s1 e1 s2 e2 s3 e3 : Nat) : Prop := lo ≤ s1 ∧ s1 ≤ e1 ∧ e1 ≤ hi ∧ lo ≤ s2 ∧ s2 ≤ e2 ∧ e2 ≤ hi ∧ lo ≤ s3 ∧ s3 ≤ e3 ∧ e3 ≤ hi ∧ (e1 ≤ s2 ∨ e2 ≤ s1) ∧ (e1 ≤ s3 ∨ e3 ≤ s1) ∧ (e2 ≤ s3 ∨ e3 ≤ s2)
/-- A con's cells, each part in a stretch of blocks of its own. -/
def conO (lo hi base : Nat) (w : World) (c : ConT) (cs : List Value) : Prop := ∃ s1 e1 s2 e2 s3 e3 va vi vt, Apart3 lo hi s1 e1 s2 e2 s3 e3 ∧ cs = [.int .i64 c.sort, va, vi, .int .i64 c.dec.k, .int .i64 c.dec.n, vt] ∧ ArgsOwn (In s1 e1) base w c.args va ∧ TermsOwn (In s2 e2) base w c.idx vi ∧ AtS (In s3 e3) w c.dec.kids vt
theorem conO.same {lo hi lo' hi' base base' : Nat} {w w' : World} {c : ConT} {cs : List Value} (hl : lo' ≤ lo) (hh : hi ≤ hi') (hbb : base' ≤ base) (hs : ∀ b, lo ≤ b → b < hi → w'.heap[b]? = w.heap[b]?) (h : conO lo hi base w c cs) : conO lo' hi' base' w' c cs := by
  obtain ⟨s1, e1, s2, e2, s3, e3, va, vi, vt, ha, hc, h1, h2, h3⟩ := h
  unfold Apart3 at ha
  refine ⟨s1, e1, s2, e2, s3, e3, va, vi, vt, by unfold Apart3; omega, hc, ?_, ?_, ?_⟩
  · exact (h1.same fun b hb => ⟨hb, hs b (by have := hb.1; omega) (by have := hb.2; omega)⟩).base hbb
  · exact (h2.same fun b hb => ⟨hb, hs b (by have := hb.1; omega) (by have := hb.2; omega)⟩).base hbb
  · exact h3.same fun b hb => ⟨hb, hs b (by have := hb.1; omega) (by have := hb.2; omega)⟩
theorem conO.c {lo hi base : Nat} {w : World} {c : ConT} {cs : List Value} (h : conO lo hi base w c cs) : conC w c cs := by
  obtain ⟨s1, e1, s2, e2, s3, e3, va, vi, vt, ha, hc, h1, h2, h3⟩ := h
  exact ⟨va, vi, vt, hc, h1.row.at, h2.at, h3.at⟩
theorem conO.len {lo hi base : Nat} {w : World} {c : ConT} {cs : List Value} (h : conO lo hi base w c cs) : cs.length = 6 := by
  obtain ⟨s1, e1, s2, e2, s3, e3, va, vi, vt, ha, hc, h1, h2, h3⟩ := h
  rw [hc]; rfl
def TwinConPost (w : World) (c : ConT) (e : Ending) (w' : World) : Prop := ∃ a1 d1 a2 d2 a3 d3, e = .returned (.agg #[.int .i64 c.sort, .slice a1 c.args.length d1, .slice a2 c.idx.length d2, .int .i64 c.dec.k, .int .i64 c.dec.n, .slice a3 c.dec.kids.length d3]) ∧ conO w.heap.size w'.heap.size w.heap.size w' c [.int .i64 c.sort, .slice a1 c.args.length d1, .slice a2 c.idx.length d2, .int .i64 c.dec.k, .int .i64 c.dec.n, .slice a3 c.dec.kids.length d3] ∧ Below w.heap.size w w'
theorem box_tc5 {W : World} {B : Nat} {ty : TypeId} {x0 x1 x2 x3 x4 x5 : Value} (h : W.heap[B]? = some (.cells #[x0, x1, x2, x3, x4, x5] ty (0, 0))) (y1 y2 y3 y4 y5 : Value) : (((((W.setCell ⟨B, 1, none⟩ y1).setCell ⟨B, 2, none⟩ y2).setCell ⟨B, 3, none⟩ y3).setCell ⟨B, 4, none⟩ y4).setCell ⟨B, 5, none⟩ y5).heap[B]? = some (.cells #[x0, y1, y2, y3, y4, y5] ty (0, 0)) := by
  have h1 := heap_setCell_same _ B 1 _ ty y1 h
  have h2 := heap_setCell_same _ B 2 _ ty y2 h1
  have h3 := heap_setCell_same _ B 3 _ ty y3 h2
  have h4 := heap_setCell_same _ B 4 _ ty y4 h3
  have h5 := heap_setCell_same _ B 5 _ ty y5 h4
  simpa using h5
theorem below_tc5 {W : World} {B D : Nat} (hD : D ≤ B) (y1 y2 y3 y4 y5 : Value) : Below D W (((((W.setCell ⟨B, 1, none⟩ y1).setCell ⟨B, 2, none⟩ y2).setCell ⟨B, 3, none⟩ y3).setCell ⟨B, 4, none⟩ y4).setCell ⟨B, 5, none⟩ y5) := ((((((Below.refl D W).setCell (p := ⟨B, 1, none⟩) hD y1).setCell (p := ⟨B, 2, none⟩) hD y2).setCell (p := ⟨B, 3, none⟩) hD y3).setCell (p := ⟨B, 4, none⟩) hD y4).setCell (p := ⟨B, 5, none⟩) hD y5)
theorem other_tc5 {W : World} {B b : Nat} (hb : b ≠ B) (y1 y2 y3 y4 y5 : Value) : (((((W.setCell ⟨B, 1, none⟩ y1).setCell ⟨B, 2, none⟩ y2).setCell ⟨B, 3, none⟩ y3).setCell ⟨B, 4, none⟩ y4).setCell ⟨B, 5, none⟩ y5).heap[b]? = W.heap[b]? := by
  rw [Below.heap_setCell _ _ _ _ (by simpa using hb), Below.heap_setCell _ _ _ _ (by simpa using hb), Below.heap_setCell _ _ _ _ (by simpa using hb), Below.heap_setCell _ _ _ _ (by simpa using hb), Below.heap_setCell _ _ _ _ (by simpa using hb)]
theorem box_tc6 {W : World} {B : Nat} {ty : TypeId} {x0 x1 x2 x3 x4 x5 : Value} (h : W.heap[B]? = some (.cells #[x0, x1, x2, x3, x4, x5] ty (0, 0))) (y0 y1 y2 y3 y4 y5 : Value) : ((((((W.setCell ⟨B, 0, none⟩ y0).setCell ⟨B, 1, none⟩ y1).setCell ⟨B, 2, none⟩ y2).setCell ⟨B, 3, none⟩ y3).setCell ⟨B, 4, none⟩ y4).setCell ⟨B, 5, none⟩ y5).heap[B]? = some (.cells #[y0, y1, y2, y3, y4, y5] ty (0, 0)) := by
  have h1 := heap_setCell_same _ B 0 _ ty y0 h
  have h2 := heap_setCell_same _ B 1 _ ty y1 h1
  have h3 := heap_setCell_same _ B 2 _ ty y2 h2
  have h4 := heap_setCell_same _ B 3 _ ty y3 h3
  have h5 := heap_setCell_same _ B 4 _ ty y4 h4
  have h6 := heap_setCell_same _ B 5 _ ty y5 h5
  simpa using h6
theorem below_tc6 {W : World} {B D : Nat} (hD : D ≤ B) (y0 y1 y2 y3 y4 y5 : Value) : Below D W ((((((W.setCell ⟨B, 0, none⟩ y0).setCell ⟨B, 1, none⟩ y1).setCell ⟨B, 2, none⟩ y2).setCell ⟨B, 3, none⟩ y3).setCell ⟨B, 4, none⟩ y4).setCell ⟨B, 5, none⟩ y5) := (((((((Below.refl D W).setCell (p := ⟨B, 0, none⟩) hD y0).setCell (p := ⟨B, 1, none⟩) hD y1).setCell (p := ⟨B, 2, none⟩) hD y2).setCell (p := ⟨B, 3, none⟩) hD y3).setCell (p := ⟨B, 4, none⟩) hD y4).setCell (p := ⟨B, 5, none⟩) hD y5)
theorem other_tc6 {W : World} {B b : Nat} (hb : b ≠ B) (y0 y1 y2 y3 y4 y5 : Value) : ((((((W.setCell ⟨B, 0, none⟩ y0).setCell ⟨B, 1, none⟩ y1).setCell ⟨B, 2, none⟩ y2).setCell ⟨B, 3, none⟩ y3).setCell ⟨B, 4, none⟩ y4).setCell ⟨B, 5, none⟩ y5).heap[b]? = W.heap[b]? := by
  rw [Below.heap_setCell _ _ _ _ (by simpa using hb), Below.heap_setCell _ _ _ _ (by simpa using hb), Below.heap_setCell _ _ _ _ (by simpa using hb), Below.heap_setCell _ _ _ _ (by simpa using hb), Below.heap_setCell _ _ _ _ (by simpa using hb), Below.heap_setCell _ _ _ _ (by simpa using hb)]
theorem cells6 {W : World} {B : Nat} {ty : TypeId} {x0 x1 x2 x3 x4 x5 : Value} (h : W.heap[B]? = some (.cells #[x0, x1, x2, x3, x4, x5] ty (0, 0))) : (W.cell? ⟨B, 0, none⟩ = some x0 ∧ W.cell? ⟨B, 1, none⟩ = some x1 ∧ W.cell? ⟨B, 2, none⟩ = some x2 ∧ W.cell? ⟨B, 3, none⟩ = some x3 ∧ W.cell? ⟨B, 4, none⟩ = some x4 ∧ W.cell? ⟨B, 5, none⟩ = some x5) ∧
    (W.frozen? ⟨B, 0, none⟩ = false ∧ W.frozen? ⟨B, 1, none⟩ = false ∧ W.frozen? ⟨B, 2, none⟩ = false ∧ W.frozen? ⟨B, 3, none⟩ = false ∧ W.frozen? ⟨B, 4, none⟩ = false ∧ W.frozen? ⟨B, 5, none⟩ = false) := by
  refine ⟨⟨?_, ?_, ?_, ?_, ?_, ?_⟩, ?_, ?_, ?_, ?_, ?_, ?_⟩ <;> simp [World.cell?, World.frozen?, h]
set_option maxRecDepth 100000 in
set_option maxHeartbeats 4000000 in
theorem twincon_any (c : ConT) (hs : conN c ≤ 1048576) (w : World) (va vi vt : Value) (hA : ARow w c.args va) (hI : At w c.idx vi) (hT : At w c.dec.kids vt) :
    Calls Try.prog 39 #[.agg #[.int .i64 c.sort, va, vi, .int .i64 c.dec.k, .int .i64 c.dec.n, vt]] w (TwinConPost w c) := by
  obtain ⟨p1, c1, rfl⟩ := hA.shape
  obtain ⟨p2, c2, rfl⟩ := hI.shape
  obtain ⟨p3, c3, rfl⟩ := hT.shape
  have hn : conN c = argsN c.args + sizeL c.idx + size c.dec + 1 := rfl
  have hli := length_le_sizeL c.idx
  have R1 := Lib.hid (fun W (hW : Below w.heap.size w W) => twinargs_any c.args (by omega) W _ (ARow.bel hW hA))
  have R2 := Lib.hid (fun W (hW : Below w.heap.size w W) => twins_any c.idx (by omega) (fun x hx => twin_any x (by have := size_le_of_mem hx; omega)) W _ (hI.bel hW (Nat.le_refl _)))
  have R3 := Lib.hid (fun W (hW : Below w.heap.size w W) => c_twin c.dec (by omega) W _ (hT.bel hW (Nat.le_refl _)))
  clear hn hli hs hA hI hT
  obtain ⟨w1, hw1⟩ : ∃ w1, w1 = (w.alloc (.cells #[.int .i64 c.sort, .slice p1 c.args.length c1, .slice p2 c.idx.length c2, .int .i64 c.dec.k, .int .i64 c.dec.n, .slice p3 c.dec.kids.length c3] 35)).alloc (.cells #[.int .i64 0, .slice none 0 0, .slice none 0 0, .int .i64 0, .int .i64 0, .slice none 0 0] 35) := ⟨_, rfl⟩
  have B1 : Hid (Below w.heap.size w w1) := by
    unfold Hid; rw [hw1]
    exact (below_al w _).trans ((below_al _ _).mono (by simp))
  have hz1 : w1.heap.size = w.heap.size + 2 := by rw [hw1]; simp
  have H1 : Hid (w1.heap[w.heap.size]? = some (.cells #[.int .i64 c.sort, .slice p1 c.args.length c1, .slice p2 c.idx.length c2, .int .i64 c.dec.k, .int .i64 c.dec.n, .slice p3 c.dec.kids.length c3] 35 (0, 0))) := by
    unfold Hid; rw [hw1]
    exact (Below.heap_alloc _ _ _ (by simp)).trans (World.alloc_heap_new w _)
  have H2 : Hid (w1.heap[w.heap.size + 1]? = some (.cells #[.int .i64 0, .slice none 0 0, .slice none 0 0, .int .i64 0, .int .i64 0, .slice none 0 0] 35 (0, 0))) := by
    unfold Hid; rw [hw1]
    have := World.alloc_heap_new (w.alloc (.cells #[.int .i64 c.sort, .slice p1 c.args.length c1, .slice p2 c.idx.length c2, .int .i64 c.dec.k, .int .i64 c.dec.n, .slice p3 c.dec.kids.length c3] 35)) (.cells #[.int .i64 0, .slice none 0 0, .slice none 0 0, .int .i64 0, .int .i64 0, .slice none 0 0] 35)
    rwa [World.size_alloc] at this
  have HW := Lib.hid hw1
  clear hw1
  go_enter Try.func39, Try.ntmps39
  go_upto_region 1 with (fail)
  rw [← HW.out]
  clear HW
  refine wp_region_rel_tail 10 (by kernel_rfl) (by kernel_rfl) (by kernel_rfl) ?_
  simp only [List.take_succ_cons, List.take_zero]
  simp only [List.drop_succ_cons, List.drop_zero]
  apply RelWalk.next 2
  · kernel_rfl
  · intro X _ W hW hcl
    simp only [List.take_succ_cons, List.take_zero]
    obtain ⟨⟨b0, b1, b2, b3, b4, b5⟩, _⟩ := cells6 H1.out
    have r1 := fun q => gcell (hW q) b1
    clear b0 b1 b2 b3 b4 b5
    repeat (go_big_quiet_step (fail))
    exact wpQuiet_nil rfl
  simp only [List.drop_succ_cons, List.drop_zero]
  refine RelWalk.made0 (fun v s e W => ∃ a cap, v = .slice a c.args.length cap ∧ ArgsOwn (In s e) w.heap.size W c.args (.slice a c.args.length cap) ∧ w.heap.size + 2 ≤ s ∧ e ≤ W.heap.size) rfl (by kernel_rfl) (by kernel_rfl) rfl (fun v s e W W' hg ⟨a, c, h1, h2, h3, h4⟩ => ⟨a, c, h1, h2.same fun b hb => ⟨hb, hg.block b (Nat.lt_of_lt_of_le hb.2 h4)⟩, h3, Nat.le_trans h4 hg.size⟩) (fun w2 hg => ?_) ?_
  · have hc := Lib.hid (R1.out w2 (B1.out.trans (hg.mono B1.out.size)))
    have hsz := hg.size
    go_simp
    exact rel_enter (hc.out.mono fun e w3 ⟨a3, c3, he, hA3, hb3⟩ => ⟨_, he, hb3, a3, c3, rfl, hA3.base (by omega), by omega, Nat.le_refl _⟩)
  simp only [Act.put, List.setIfInBounds_toArray, List.set_cons_zero, List.set_cons_succ]
  apply RelWalk.next 2
  · kernel_rfl
  · intro X _ W hW hcl
    simp only [List.take_succ_cons, List.take_zero]
    obtain ⟨⟨b0, b1, b2, b3, b4, b5⟩, _⟩ := cells6 H1.out
    have r2 := fun q => gcell (hW q) b2
    clear b0 b1 b2 b3 b4 b5
    repeat (go_big_quiet_step (fail))
    exact wpQuiet_nil rfl
  simp only [List.drop_succ_cons, List.drop_zero]
  refine RelWalk.made0 (fun v s e W => ∃ a cap, v = .slice a c.idx.length cap ∧ TermsOwn (In s e) w.heap.size W c.idx (.slice a c.idx.length cap) ∧ w.heap.size + 2 ≤ s ∧ e ≤ W.heap.size) rfl (by kernel_rfl) (by kernel_rfl) rfl (fun v s e W W' hg ⟨a, c, h1, h2, h3, h4⟩ => ⟨a, c, h1, h2.same fun b hb => ⟨hb, hg.block b (Nat.lt_of_lt_of_le hb.2 h4)⟩, h3, Nat.le_trans h4 hg.size⟩) (fun w2 hg => ?_) ?_
  · have hc := Lib.hid (R2.out w2 (B1.out.trans (hg.mono B1.out.size)))
    have hsz := hg.size
    go_simp
    exact rel_enter (hc.out.mono fun e w3 ⟨a3, c3, he, hA3, ⟨vs, o1, o2⟩, hb3⟩ => ⟨_, he, hb3, a3, c3, rfl, ⟨fun b hb => o1.lt b hb, vs, ownsRow_le o1 (by omega), fun i hi => (o2 i hi).mono fun b hb => ⟨⟨hb.1, hb.2.1⟩, hb.2.2⟩⟩, by omega, Nat.le_refl _⟩)
  simp only [Act.put, List.setIfInBounds_toArray, List.set_cons_zero, List.set_cons_succ]
  apply RelWalk.next 2
  · kernel_rfl
  · intro X _ W hW hcl
    simp only [List.take_succ_cons, List.take_zero]
    obtain ⟨⟨b0, b1, b2, b3, b4, b5⟩, _⟩ := cells6 H1.out
    have r3 := fun q => gcell (hW q) b3
    have r4 := fun q => gcell (hW q) b4
    have r5 := fun q => gcell (hW q) b5
    clear b0 b1 b2 b3 b4 b5
    repeat (go_big_quiet_step (fail))
    exact wpQuiet_nil rfl
  simp only [List.drop_succ_cons, List.drop_zero]
  refine RelWalk.made0 (fun v s e W => ∃ a cap, v = .agg #[.int .i64 c.dec.k, .int .i64 c.dec.n, .slice a c.dec.kids.length cap] ∧ AtS (In s e) W c.dec.kids (.slice a c.dec.kids.length cap) ∧ w.heap.size + 2 ≤ s ∧ e ≤ W.heap.size) rfl (by kernel_rfl) (by kernel_rfl) rfl (fun v s e W W' hg ⟨a, c, h1, h2, h3, h4⟩ => ⟨a, c, h1, h2.same fun b hb => ⟨hb, hg.block b (Nat.lt_of_lt_of_le hb.2 h4)⟩, h3, Nat.le_trans h4 hg.size⟩) (fun w2 hg => ?_) ?_
  · have hc := Lib.hid (R3.out w2 (B1.out.trans (hg.mono B1.out.size)))
    have hsz := hg.size
    go_simp
    exact rel_enter (hc.out.mono fun e w3 ⟨a3, c3, he, hA3, _, hb3⟩ => ⟨_, he, hb3, a3, c3, rfl, hA3, by omega, Nat.le_refl _⟩)
  simp only [Act.put, List.setIfInBounds_toArray, List.set_cons_zero, List.set_cons_succ]
  apply RelWalk.rest
  · kernel_rfl
  · intro X _ W hW hcl
    repeat (go_big_quiet_step (fail))
    exact wpQuiet_nil rfl
  intro g w2 hg hpt
  simp only [Spread]
  rintro v11 ⟨a3, d3, rfl, hD, hD1, hD2⟩ v8 ⟨a2, d2, rfl, hI, hI1, hI2⟩ v5 ⟨a1, d1, rfl, hA, hA1, hA2⟩
  have q12 := hpt.2 5 (by simp) 8 (by simp) (by decide)
  have q13 := hpt.2 5 (by simp) 11 (by simp) (by decide)
  have q23 := hpt.2 8 (by simp) 11 (by simp) (by decide)
  have l1 := (hpt.1 5 (by simp)).2.1
  have l2 := (hpt.1 8 (by simp)).2.1
  have l3 := (hpt.1 11 (by simp)).2.1
  have HAP : Hid (Apart3 (w.heap.size + 2) w2.heap.size (g 5).1 (g 5).2 (g 8).1 (g 8).2 (g 11).1 (g 11).2) := by unfold Hid Apart3; omega
  have HA := Lib.hid hA
  have HI := Lib.hid hI
  have HD := Lib.hid hD
  have HG := Lib.hid hg
  have h1x := Lib.hid ((hg.block w.heap.size (by omega)).trans H1.out)
  have h2x := Lib.hid ((hg.block (w.heap.size + 1) (by omega)).trans H2.out)
  have hz2 := hg.size
  clear hpt q12 q13 q23 l1 l2 l3 hA hI hD hA1 hA2 hI1 hI2 hD1 hD2 hg
  obtain ⟨⟨b0, b1, b2, b3, b4, b5⟩, f0, f1, f2, f3, f4, f5⟩ := cells6 h1x.out
  simp only [Act.put, List.setIfInBounds_toArray, List.set_cons_zero, List.set_cons_succ]
  go_upto_region 2 with (fail)
  clear b0 b1 b2 b3 b4 b5 f0 f1 f2 f3 f4 f5
  have E1 := box_tc5 h1x.out (.slice a1 c.args.length d1) (.slice a2 c.idx.length d2) (.int .i64 c.dec.k) (.int .i64 c.dec.n) (.slice a3 c.dec.kids.length d3)
  have E2 := (B1.out.trans (HG.out.mono (by omega))).trans (below_tc5 (W := w2) (B := w.heap.size) (D := w.heap.size) (Nat.le_refl _) (.slice a1 c.args.length d1) (.slice a2 c.idx.length d2) (.int .i64 c.dec.k) (.int .i64 c.dec.n) (.slice a3 c.dec.kids.length d3))
  have E3 : ∀ b, b ≠ w.heap.size → (((((w2.setCell ⟨w.heap.size, 1, none⟩ (.slice a1 c.args.length d1)).setCell ⟨w.heap.size, 2, none⟩ (.slice a2 c.idx.length d2)).setCell ⟨w.heap.size, 3, none⟩ (.int .i64 c.dec.k)).setCell ⟨w.heap.size, 4, none⟩ (.int .i64 c.dec.n)).setCell ⟨w.heap.size, 5, none⟩ (.slice a3 c.dec.kids.length d3)).heap[b]? = w2.heap[b]? := fun b hb => other_tc5 hb (.slice a1 c.args.length d1) (.slice a2 c.idx.length d2) (.int .i64 c.dec.k) (.int .i64 c.dec.n) (.slice a3 c.dec.kids.length d3)
  have E4 : (((((w2.setCell ⟨w.heap.size, 1, none⟩ (.slice a1 c.args.length d1)).setCell ⟨w.heap.size, 2, none⟩ (.slice a2 c.idx.length d2)).setCell ⟨w.heap.size, 3, none⟩ (.int .i64 c.dec.k)).setCell ⟨w.heap.size, 4, none⟩ (.int .i64 c.dec.n)).setCell ⟨w.heap.size, 5, none⟩ (.slice a3 c.dec.kids.length d3)).heap.size = w2.heap.size := by simp
  revert E1 E2 E3 E4
  generalize (((((w2.setCell ⟨w.heap.size, 1, none⟩ (.slice a1 c.args.length d1)).setCell ⟨w.heap.size, 2, none⟩ (.slice a2 c.idx.length d2)).setCell ⟨w.heap.size, 3, none⟩ (.int .i64 c.dec.k)).setCell ⟨w.heap.size, 4, none⟩ (.int .i64 c.dec.n)).setCell ⟨w.heap.size, 5, none⟩ (.slice a3 c.dec.kids.length d3)) = w3
  intro E1 E2 E3 E4
  have h2y := Lib.hid ((E3 (w.heap.size + 1) (by omega)).trans h2x.out)
  have E2 := Lib.hid E2
  have E3 := Lib.hid E3
  have E4 := Lib.hid E4
  obtain ⟨⟨b0, b1, b2, b3, b4, b5⟩, f0, f1, f2, f3, f4, f5⟩ := cells6 E1
  obtain ⟨⟨c0, c1, c2, c3, c4, c5⟩, g0, g1, g2, g3, g4, g5⟩ := cells6 h2y.out
  clear E1
  go_wp2_with fail
  refine bodyPost_ret (v := .agg #[.int .i64 c.sort, .slice a1 c.args.length d1, .slice a2 c.idx.length d2, .int .i64 c.dec.k, .int .i64 c.dec.n, .slice a3 c.dec.kids.length d3]) (by simp [results, Try.f39, go_sem, c0, c1, c2, c3, c4, c5]) rfl ⟨a1, d1, a2, d2, a3, d3, rfl, ?_, E2.out.trans (below_tc6 (by omega) (.int .i64 c.sort) (.slice a1 c.args.length d1) (.slice a2 c.idx.length d2) (.int .i64 c.dec.k) (.int .i64 c.dec.n) (.slice a3 c.dec.kids.length d3))⟩
  have hsz : ((((((w3.setCell ⟨w.heap.size + 1, 0, none⟩ (.int .i64 c.sort)).setCell ⟨w.heap.size + 1, 1, none⟩ (.slice a1 c.args.length d1)).setCell ⟨w.heap.size + 1, 2, none⟩ (.slice a2 c.idx.length d2)).setCell ⟨w.heap.size + 1, 3, none⟩ (.int .i64 c.dec.k)).setCell ⟨w.heap.size + 1, 4, none⟩ (.int .i64 c.dec.n)).setCell ⟨w.heap.size + 1, 5, none⟩ (.slice a3 c.dec.kids.length d3)).heap.size = w2.heap.size := by simp [E4.out]
  rw [hsz]
  have hc : conO (w.heap.size + 2) w2.heap.size w.heap.size w2 c [.int .i64 c.sort, .slice a1 c.args.length d1, .slice a2 c.idx.length d2, .int .i64 c.dec.k, .int .i64 c.dec.n, .slice a3 c.dec.kids.length d3] := ⟨_, _, _, _, _, _, _, _, _, HAP.out, rfl, HA.out, HI.out, HD.out⟩
  exact hc.same (by omega) (Nat.le_refl _) (Nat.le_refl _) fun b hb hb2 => (other_tc6 (by omega) (.int .i64 c.sort) (.slice a1 c.args.length d1) (.slice a2 c.idx.length d2) (.int .i64 c.dec.k) (.int .i64 c.dec.n) (.slice a3 c.dec.kids.length d3)).trans (E3.out b (by omega))
end Go.Proofs.Ytggefpkfikimiaa
/- Rows that appends made, whose elements' parts lie in stretches of blocks of their own. No conditions. -/
namespace Go.Proofs.Ytggefpkfikimiaa
open Go.RowKit Go.Joins
set_option linter.unusedVariables false

/-- A row that appends made, between two blocks; what belongs to an element lies in a stretch of its own, apart from the row's own block. -/
def RowOw {α : Type} (ty : TypeId) (sz : Nat) (P : Nat → Nat → World → α → List Value → Prop) (base top : Nat) (w : World) (l : List α) (v : Value) : Prop :=
  (∀ b, v.ownBlock = some b → b < top) ∧ ∃ (f : Nat → List Value) (lo hi : Nat → Nat), w.ownsRow base ty sz v l.length ((List.range l.length).flatMap f) ∧
   (∀ i (_ : i < l.length), base ≤ lo i ∧ lo i ≤ hi i ∧ hi i ≤ top ∧ P (lo i) (hi i) w l[i] (f i) ∧ ∀ b, v.ownBlock = some b → b < lo i ∨ hi i ≤ b) ∧
   ∀ i i', i < l.length → i' < l.length → i ≠ i' → hi i ≤ lo i' ∨ hi i' ≤ lo i
/-- An element's property hangs on the blocks of its stretch alone. -/
def Local {α : Type} (P : Nat → Nat → World → α → List Value → Prop) : Prop := ∀ lo hi w w' a cs, (∀ b, lo ≤ b → b < hi → w'.heap[b]? = w.heap[b]?) → P lo hi w a cs → P lo hi w' a cs
theorem RowOw.nil {α : Type} {ty : TypeId} {sz : Nat} {P : Nat → Nat → World → α → List Value → Prop} (base top : Nat) (w : World) : RowOw ty sz P base top w [] (.slice none 0 0) :=
  ⟨(fun b h => by cases h), fun _ => [], fun _ => 0, fun _ => 0, World.ownsRow_nil _ _ _ _, fun i h => absurd h (Nat.not_lt_zero _), fun i _ h => absurd h (Nat.not_lt_zero _)⟩
theorem RowOw.same {α : Type} {ty : TypeId} {sz : Nat} {P : Nat → Nat → World → α → List Value → Prop} (hP : Local P) {base top : Nat} {w w' : World} {l : List α} {v : Value} (h : RowOw ty sz P base top w l v)
    (hs : ∀ b, base ≤ b → b < top → w'.heap[b]? = w.heap[b]?) : RowOw ty sz P base top w' l v := by
  obtain ⟨h1, f, lo, hi, h2, h3, h4⟩ := h
  refine ⟨h1, f, lo, hi, ownsRow_same h2 fun b hb => hs b (h2.lt b hb).1 (h1 b hb), fun i hi' => ?_, h4⟩
  obtain ⟨a1, a2, a3, a4, a5⟩ := h3 i hi'
  exact ⟨a1, a2, a3, hP _ _ _ _ _ _ (fun b hb hb2 => hs b (by omega) (by omega)) a4, a5⟩
theorem RowOw.snoc {α : Type} {ty : TypeId} {sz : Nat} {P : Nat → Nat → World → α → List Value → Prop} (hP : Local P) {base top : Nat} {w w3 w4 : World} {l : List α} {v : Value} (h : RowOw ty sz P base top w l v)
    (ht : top ≤ w.heap.size) (hbw : base ≤ w.heap.size) (hb : Below w.heap.size w w3) {g cp : Nat} {a : α} {cs : List Value} (hown : w4.ownsRow base ty sz (.slice (some ⟨g, 0, none⟩) (l.length + 1) cp) (l.length + 1) ((List.range l.length).flatMap (Classical.choose h.2) ++ cs))
    (hgrow : w3.grownBy w4 v.ownBlock) (hat : v.ownBlock = some g ∨ w3.heap.size ≤ g) {s e : Nat} (hs : w.heap.size ≤ s) (hse : s ≤ e) (he : e ≤ w3.heap.size) (hp : P s e w3 a cs) :
    RowOw ty sz P base w4.heap.size w4 (l ++ [a]) (.slice (some ⟨g, 0, none⟩) (l.length + 1) cp) := by
  have h1 := h.1
  obtain ⟨lo, hi, h2, h3, h4⟩ := Classical.choose_spec h.2
  generalize Classical.choose h.2 = f at *
  have hsz : w3.heap.size ≤ w4.heap.size := hgrow.size
  have hb3 := hb.size
  have blk : ∀ b, b < w3.heap.size → some b ≠ v.ownBlock → w4.heap[b]? = w3.heap[b]? := fun b hb hne => hgrow.block b hb hne
  have hl : (l ++ [a]).length = l.length + 1 := by simp
  refine ⟨fun b hb => (hown.lt b hb).2, fun i => if i < l.length then f i else cs, fun i => if i < l.length then lo i else s, fun i => if i < l.length then hi i else e, ?_, fun i hi' => ?_, fun i i' hi1 hi2 hne => ?_⟩
  · rw [hl, flatG_snoc f (fun i => if i < l.length then f i else cs) (fun i hi => by rw [if_pos hi]), if_neg (by omega)]
    exact hown
  · by_cases hi2 : i < l.length
    · obtain ⟨a1, a2, a3, a4, a5⟩ := h3 i hi2
      simp only [if_pos hi2]
      have hne : ∀ b, lo i ≤ b → b < hi i → some b ≠ v.ownBlock := fun b hb hb2 e => by rcases a5 b e.symm with h | h <;> omega
      have hget : (l ++ [a])[i] = l[i] := List.getElem_append_left hi2
      refine ⟨a1, a2, by omega, ?_, fun b hb => ?_⟩
      · rw [hget]
        exact hP _ _ _ _ _ _ (fun b hb hb2 => (blk b (by omega) (hne b hb hb2)).trans (Below.block ‹Below w.heap.size w w3› b (by omega))) a4
      · cases hb
        rcases hat with h | h
        · exact a5 _ h
        · exact .inr (by dsimp only; omega)
    · obtain rfl : i = l.length := by omega
      simp only [if_neg hi2]
      have hne : ∀ b, s ≤ b → some b ≠ v.ownBlock := fun b hb e => by have := h1 b e.symm; omega
      have hget : (l ++ [a])[l.length] = a := by simp
      refine ⟨by omega, hse, by omega, ?_, fun b hb => ?_⟩
      · rw [hget]
        exact hP _ _ _ _ _ _ (fun b hb hb2 => blk b (by omega) (hne b hb)) hp
      · cases hb
        rcases hat with h | h
        · have := h1 _ h; exact .inl (by dsimp only at this ⊢; omega)
        · exact .inr (by dsimp only; omega)
  · dsimp only
    by_cases c1 : i < l.length
    · by_cases c2 : i' < l.length
      · simp only [if_pos c1, if_pos c2]; exact h4 i i' c1 c2 hne
      · simp only [if_pos c1, if_neg c2]
        have := (h3 i c1).2.2.1
        left; omega
    · by_cases c2 : i' < l.length
      · simp only [if_neg c1, if_pos c2]
        have := (h3 i' c2).2.2.1
        right; omega
      · omega
/-- One turn of a loop that appends. -/
theorem RowOw.step {α : Type} {ty : TypeId} {sz : Nat} {P : Nat → Nat → World → α → List Value → Prop} (hP : Local P) {base top : Nat} {w : World} {l : List α} {v : Value} {n : Nat} (hn : l.length = n) (h : RowOw ty sz P base top w l v) (ht : top ≤ w.heap.size) (hbw : base ≤ w.heap.size) :
    ∃ f, w.ownsRow base ty sz v n ((List.range n).flatMap f) ∧ (∀ b, v.ownBlock = some b → base ≤ b ∧ b < top) ∧ ∀ (w3 w4 : World) (g cp : Nat) (a : α) (cs : List Value) (s e : Nat), Below w.heap.size w w3 → w4.ownsRow base ty sz (.slice (some ⟨g, 0, none⟩) (n + 1) cp) (n + 1) ((List.range n).flatMap f ++ cs) →
      w3.grownBy w4 v.ownBlock → (v.ownBlock = some g ∨ w3.heap.size ≤ g) → w.heap.size ≤ s → s ≤ e → e ≤ w3.heap.size → P s e w3 a cs → RowOw ty sz P base w4.heap.size w4 (l ++ [a]) (.slice (some ⟨g, 0, none⟩) (n + 1) cp) := by
  subst hn
  obtain ⟨lo, hi, h2, h3, h4⟩ := Classical.choose_spec h.2
  exact ⟨Classical.choose h.2, h2, fun b hb => ⟨(h2.lt b hb).1, h.1 b hb⟩, fun w3 w4 g cp a cs s e hb hown hgrow hat hs hse he hp => h.snoc hP ht hbw hb hown hgrow hat hs hse he hp⟩
theorem RowOw.row {α : Type} {ty : TypeId} {sz : Nat} {P : Nat → Nat → World → α → List Value → Prop} {C : α → List Value → Prop} {base top : Nat} {w : World} {l : List α} {v : Value} (hz : 0 < sz) (hC : ∀ lo hi a cs, P lo hi w a cs → C a cs ∧ cs.length = sz) (h : RowOw ty sz P base top w l v) : GAt sz C w l v := by
  obtain ⟨h1, f, lo, hi, h2, h3, h4⟩ := h
  exact (gats_of_row (S := fun _ => True) h2 hz (fun _ _ => trivial) fun i hi' => hC _ _ _ _ (h3 i hi').2.2.2.1).at fun _ _ h => h
/-- A sort's cells, all that belongs to it in a stretch of blocks. -/
def sortO (lo hi : Nat) (w : World) (s : SortT) (cs : List Value) : Prop := ∃ va vt, cs = [va, .int .i64 s.level, .bool s.dec, .int .i64 s.decT.k, .int .i64 s.decT.n, vt] ∧ ARowS (In lo hi) w s.idx va ∧ AtS (In lo hi) w s.decT.kids vt
theorem sortO_local : Local sortO := fun lo hi w w' a cs hs ⟨va, vt, e, h1, h2⟩ => ⟨va, vt, e, ARowS.same (fun b hb => ⟨hb, hs b hb.1 hb.2⟩) h1, h2.same fun b hb => ⟨hb, hs b hb.1 hb.2⟩⟩
theorem sortO_c (lo hi : Nat) (w : World) (a : SortT) (cs : List Value) (h : sortO lo hi w a cs) : sortC w a cs ∧ cs.length = 6 := by
  obtain ⟨va, vt, e, h1, h2⟩ := h
  exact ⟨⟨va, vt, e, h1.at, h2.at⟩, by rw [e]; rfl⟩
/-- A con's cells, its rows in blocks from N on. -/
def conP (N lo hi : Nat) (w : World) (c : ConT) (cs : List Value) : Prop := conO lo hi N w c cs
theorem conP_local (N : Nat) : Local (conP N) := fun lo hi w w' a cs hs h => conO.same (Nat.le_refl _) (Nat.le_refl _) (Nat.le_refl _) hs h
theorem conP_c (N lo hi : Nat) (w : World) (a : ConT) (cs : List Value) (h : conP N lo hi w a cs) : conC w a cs ∧ cs.length = 6 := ⟨conO.c h, conO.len h⟩
abbrev SRowO (N top : Nat) (w : World) (l : List SortT) (v : Value) : Prop := RowOw 29 6 sortO N top w l v
abbrev CRowO (N L top : Nat) (w : World) (l : List ConT) (v : Value) : Prop := RowOw 35 6 (conP N) L top w l v
/-- A block in memory of its own, from block N on: the sorts below L, the cons from L on. -/
def BlkO (N : Nat) (w : World) (b : BlkT) (vs vc : Value) : Prop := ∃ L, N ≤ L ∧ L ≤ w.heap.size ∧ SRowO N L w b.sorts vs ∧ CRowO N L w.heap.size w b.cons vc
theorem BlkO.at {N : Nat} {w : World} {b : BlkT} {vs vc : Value} (h : BlkO N w b vs vc) : BAt w b vs vc := by
  obtain ⟨L, _, _, h1, h2⟩ := h
  exact ⟨h1.row (by decide) fun lo hi a cs h => sortO_c lo hi w a cs h, h2.row (by decide) fun lo hi a cs h => conP_c N lo hi w a cs h⟩
end Go.Proofs.Ytggefpkfikimiaa
/- A twin of a block is that block, in new memory of its own. No conditions but sizes. -/
namespace Go.Proofs.Ytggefpkfikimiaa
open Go.RowKit Go.Joins
set_option linter.unusedVariables false

theorem RowOw.base {α : Type} {ty : TypeId} {sz : Nat} {P : Nat → Nat → World → α → List Value → Prop} {base base' top : Nat} {w : World} {l : List α} {v : Value} (hb : base' ≤ base) (h : RowOw ty sz P base top w l v) : RowOw ty sz P base' top w l v := by
  obtain ⟨h1, f, lo, hi, h2, h3, h4⟩ := h
  refine ⟨h1, f, lo, hi, ownsRow_le h2 hb, fun i hi' => ?_, h4⟩
  obtain ⟨a1, a2, a3, a4, a5⟩ := h3 i hi'
  exact ⟨by omega, a2, a3, a4, a5⟩
theorem RowOw.top {α : Type} {ty : TypeId} {sz : Nat} {P : Nat → Nat → World → α → List Value → Prop} {base top top' : Nat} {w : World} {l : List α} {v : Value} (ht : top ≤ top') (h : RowOw ty sz P base top w l v) : RowOw ty sz P base top' w l v := by
  obtain ⟨h1, f, lo, hi, h2, h3, h4⟩ := h
  refine ⟨fun b hb => Nat.lt_of_lt_of_le (h1 b hb) ht, f, lo, hi, h2, fun i hi' => ?_, h4⟩
  obtain ⟨a1, a2, a3, a4, a5⟩ := h3 i hi'
  exact ⟨a1, a2, by omega, a4, a5⟩
theorem box_ts4 {W : World} {B : Nat} {ty : TypeId} {x0 x1 x2 x3 x4 x5 : Value} (h : W.heap[B]? = some (.cells #[x0, x1, x2, x3, x4, x5] ty (0, 0))) (y0 y3 y4 y5 : Value) : ((((W.setCell ⟨B, 0, none⟩ y0).setCell ⟨B, 3, none⟩ y3).setCell ⟨B, 4, none⟩ y4).setCell ⟨B, 5, none⟩ y5).heap[B]? = some (.cells #[y0, x1, x2, y3, y4, y5] ty (0, 0)) := by
  have h1 := heap_setCell_same _ B 0 _ ty y0 h
  have h2 := heap_setCell_same _ B 3 _ ty y3 h1
  have h3 := heap_setCell_same _ B 4 _ ty y4 h2
  have h4 := heap_setCell_same _ B 5 _ ty y5 h3
  simpa using h4
theorem below_ts4 {W : World} {B D : Nat} (hD : D ≤ B) (y0 y3 y4 y5 : Value) : Below D W ((((W.setCell ⟨B, 0, none⟩ y0).setCell ⟨B, 3, none⟩ y3).setCell ⟨B, 4, none⟩ y4).setCell ⟨B, 5, none⟩ y5) := (((((Below.refl D W).setCell (p := ⟨B, 0, none⟩) hD y0).setCell (p := ⟨B, 3, none⟩) hD y3).setCell (p := ⟨B, 4, none⟩) hD y4).setCell (p := ⟨B, 5, none⟩) hD y5)
theorem other_ts4 {W : World} {B b : Nat} (hb : b ≠ B) (y0 y3 y4 y5 : Value) : ((((W.setCell ⟨B, 0, none⟩ y0).setCell ⟨B, 3, none⟩ y3).setCell ⟨B, 4, none⟩ y4).setCell ⟨B, 5, none⟩ y5).heap[b]? = W.heap[b]? := by
  rw [Below.heap_setCell _ _ _ _ (by simpa using hb), Below.heap_setCell _ _ _ _ (by simpa using hb), Below.heap_setCell _ _ _ _ (by simpa using hb), Below.heap_setCell _ _ _ _ (by simpa using hb)]
theorem box_tb0 {W : World} {B : Nat} {ty : TypeId} {x0 x1 x2 : Value} (h : W.heap[B]? = some (.cells #[x0, x1, x2] ty (0, 0))) (y0 : Value) : (W.setCell ⟨B, 0, none⟩ y0).heap[B]? = some (.cells #[y0, x1, x2] ty (0, 0)) := by
  have h1 := heap_setCell_same _ B 0 _ ty y0 h
  simpa using h1
theorem below_tb0 {W : World} {B D : Nat} (hD : D ≤ B) (y0 : Value) : Below D W (W.setCell ⟨B, 0, none⟩ y0) := ((Below.refl D W).setCell (p := ⟨B, 0, none⟩) hD y0)
theorem other_tb0 {W : World} {B b : Nat} (hb : b ≠ B) (y0 : Value) : (W.setCell ⟨B, 0, none⟩ y0).heap[b]? = W.heap[b]? := by
  rw [Below.heap_setCell _ _ _ _ (by simpa using hb)]
theorem box_tb1 {W : World} {B : Nat} {ty : TypeId} {x0 x1 x2 : Value} (h : W.heap[B]? = some (.cells #[x0, x1, x2] ty (0, 0))) (y1 : Value) : (W.setCell ⟨B, 1, none⟩ y1).heap[B]? = some (.cells #[x0, y1, x2] ty (0, 0)) := by
  have h1 := heap_setCell_same _ B 1 _ ty y1 h
  simpa using h1
theorem below_tb1 {W : World} {B D : Nat} (hD : D ≤ B) (y1 : Value) : Below D W (W.setCell ⟨B, 1, none⟩ y1) := ((Below.refl D W).setCell (p := ⟨B, 1, none⟩) hD y1)
theorem other_tb1 {W : World} {B b : Nat} (hb : b ≠ B) (y1 : Value) : (W.setCell ⟨B, 1, none⟩ y1).heap[b]? = W.heap[b]? := by
  rw [Below.heap_setCell _ _ _ _ (by simpa using hb)]
theorem box_tb3 {W : World} {B : Nat} {ty : TypeId} {x0 x1 x2 : Value} (h : W.heap[B]? = some (.cells #[x0, x1, x2] ty (0, 0))) (y0 y1 y2 : Value) : (((W.setCell ⟨B, 0, none⟩ y0).setCell ⟨B, 1, none⟩ y1).setCell ⟨B, 2, none⟩ y2).heap[B]? = some (.cells #[y0, y1, y2] ty (0, 0)) := by
  have h1 := heap_setCell_same _ B 0 _ ty y0 h
  have h2 := heap_setCell_same _ B 1 _ ty y1 h1
  have h3 := heap_setCell_same _ B 2 _ ty y2 h2
  simpa using h3
theorem below_tb3 {W : World} {B D : Nat} (hD : D ≤ B) (y0 y1 y2 : Value) : Below D W (((W.setCell ⟨B, 0, none⟩ y0).setCell ⟨B, 1, none⟩ y1).setCell ⟨B, 2, none⟩ y2) := ((((Below.refl D W).setCell (p := ⟨B, 0, none⟩) hD y0).setCell (p := ⟨B, 1, none⟩) hD y1).setCell (p := ⟨B, 2, none⟩) hD y2)
theorem other_tb3 {W : World} {B b : Nat} (hb : b ≠ B) (y0 y1 y2 : Value) : (((W.setCell ⟨B, 0, none⟩ y0).setCell ⟨B, 1, none⟩ y1).setCell ⟨B, 2, none⟩ y2).heap[b]? = W.heap[b]? := by
  rw [Below.heap_setCell _ _ _ _ (by simpa using hb), Below.heap_setCell _ _ _ _ (by simpa using hb), Below.heap_setCell _ _ _ _ (by simpa using hb)]
/-- The loop over the sorts. -/
def TbA (w : World) (b : BlkT) (vs vc : Value) (j : Nat) (wr : World) : Prop := OneB w w.heap.size b vs vc wr ∧ wr.heap[w.heap.size + 1]? = some (.cells #[.slice none 0 0, .slice none 0 0, .int .i64 0] 33 (0, 0)) ∧
  ∃ a d, wr.heap[w.heap.size + 2]? = some (.cells #[.slice a j d, .slice none 0 0, .int .i64 b.elim] 33 (0, 0)) ∧ SRowO (w.heap.size + 3) wr.heap.size wr (b.sorts.take j) (.slice a j d)
/-- The loop over the cons. -/
def TbB (w : World) (b : BlkT) (vs vc : Value) (j : Nat) (wr : World) : Prop := OneB w w.heap.size b vs vc wr ∧ wr.heap[w.heap.size + 1]? = some (.cells #[.slice none 0 0, .slice none 0 0, .int .i64 0] 33 (0, 0)) ∧
  ∃ L a1 d1 a d, w.heap.size + 3 ≤ L ∧ L ≤ wr.heap.size ∧ wr.heap[w.heap.size + 2]? = some (.cells #[.slice a1 b.sorts.length d1, .slice a j d, .int .i64 b.elim] 33 (0, 0)) ∧ SRowO (w.heap.size + 3) L wr b.sorts (.slice a1 b.sorts.length d1) ∧ CRowO w.heap.size L wr.heap.size wr (b.cons.take j) (.slice a j d)
def TwinBlkPost (w : World) (b : BlkT) (e : Ending) (w' : World) : Prop := ∃ a1 d1 a2 d2, e = .returned (.agg #[.slice a1 b.sorts.length d1, .slice a2 b.cons.length d2, .int .i64 b.elim]) ∧ BlkO w.heap.size w' b (.slice a1 b.sorts.length d1) (.slice a2 b.cons.length d2) ∧ Below w.heap.size w w'
theorem take_lenS {α : Type} {l : List α} {j : Nat} (h : j ≤ l.length) : (l.take j).length = j := by simp; omega
set_option maxRecDepth 100000 in
set_option maxHeartbeats 4000000 in
theorem twinblk_any (b : BlkT) (hs : blkN b ≤ 1048576) (w : World) (vs vc : Value) (hA : BAt w b vs vc) :
    Calls Try.prog 18 #[.agg #[vs, vc, .int .i64 b.elim]] w (TwinBlkPost w b) := by
  obtain ⟨ps, cs, pc, cc, rfl, rfl⟩ := hA.shape
  have hls := sortsN_len b.sorts
  have hlc := consN_len b.cons
  have hbn : blkN b = sortsN b.sorts + consN b.cons + 1 := rfl
  have HS : Hid (∀ j (h : j < b.sorts.length), argsN b.sorts[j].idx + size b.sorts[j].decT ≤ 1048576) := fun j h => by
    have h1 := sortN_le (List.getElem_mem h)
    have e : sortN b.sorts[j] = argsN b.sorts[j].idx + size b.sorts[j].decT + 1 := rfl
    omega
  have HC : Hid (∀ j (h : j < b.cons.length), conN b.cons[j] ≤ 1048576) := fun j h => by
    have h1 := conN_le (List.getElem_mem h)
    omega
  have hsl : b.sorts.length ≤ 1048576 := by omega
  have hcl : b.cons.length ≤ 1048576 := by omega
  clear hls hlc hbn
  have h0 := oneb_start w b _ _ hA
  have z0 := World.size_alloc w (.cells #[.slice ps b.sorts.length cs, .slice pc b.cons.length cc, .int .i64 b.elim] 33)
  obtain ⟨wa, hwa⟩ : ∃ wa, wa = w.alloc (.cells #[.slice ps b.sorts.length cs, .slice pc b.cons.length cc, .int .i64 b.elim] 33) := ⟨_, rfl⟩
  rw [← hwa] at h0 z0
  have ha1 := below_al wa (.cells #[.slice none 0 0, .slice none 0 0, .int .i64 0] 33)
  have hn1 := World.alloc_heap_new wa (.cells #[.slice none 0 0, .slice none 0 0, .int .i64 0] 33)
  have z1 := World.size_alloc wa (.cells #[.slice none 0 0, .slice none 0 0, .int .i64 0] 33)
  have h1 := h0.bel ha1
  obtain ⟨wb, hwb⟩ : ∃ wb, wb = wa.alloc (.cells #[.slice none 0 0, .slice none 0 0, .int .i64 0] 33) := ⟨_, rfl⟩
  rw [← hwb] at h1 ha1 hn1 z1
  have ha2 := below_al wb (.cells #[.slice none 0 0, .slice none 0 0, .int .i64 b.elim] 33)
  have hn2 := World.alloc_heap_new wb (.cells #[.slice none 0 0, .slice none 0 0, .int .i64 b.elim] 33)
  have z2 := World.size_alloc wb (.cells #[.slice none 0 0, .slice none 0 0, .int .i64 b.elim] 33)
  have h2 := h1.bel ha2
  have HST : Hid (TbA w b (.slice ps b.sorts.length cs) (.slice pc b.cons.length cc) 0 (wb.alloc (.cells #[.slice none 0 0, .slice none 0 0, .int .i64 b.elim] 33))) := by
    refine ⟨h2, ?_, none, 0, ?_, RowOw.nil _ _ _⟩
    · rw [← show wa.heap.size = w.heap.size + 1 by omega]
      exact (ha2.block _ (by omega)).trans hn1
    · rw [← show wb.heap.size = w.heap.size + 2 by omega]
      exact hn2
  have HWA := Lib.hid hwa
  have HWB := Lib.hid hwb
  have HA0 := Lib.hid hA
  have HB1 := Lib.hid h1
  have hzb : wb.heap.size = w.heap.size + 2 := by omega
  clear h0 h1 h2 ha1 ha2 hn1 hn2 hwa hwb hA z0 z1 z2
  go_enter Try.func18, Try.ntmps18
  go_upto_region 1 with (fail)
  rw [← HWA.out, ← HWB.out]

  obtain ⟨x0, x1, x2⟩ := HB1.out.cells
  go_wp2_with fail
  clear x0 x1 x2 HWA HWB HB1
  go_loopw [4] (fun i wr => ∃ j : Nat, j ≤ b.sorts.length ∧ i = .int .i64 j ∧ TbA w b (.slice ps b.sorts.length cs) (.slice pc b.cons.length cc) j wr) (fun i _ => b.sorts.length - (RowKit.intOf i).toNat)
  case atStart => exact ⟨0, Nat.zero_le _, rfl, HST.out⟩
  case round =>
    clear HST
    obtain ⟨j, hj, rfl, hO, hz0, a, d, hx, hR⟩ := hrel
    obtain ⟨x0, x1, x2⟩ := hO.cells
    have hNr : w.heap.size + 2 < wr.heap.size := (Array.getElem?_eq_some_iff.1 hx).1
    by_cases hlt : j < b.sorts.length
    · obtain ⟨B, off, ua, ut, hps, ga, gt, k0, k1, k2, k3, k4, k5⟩ := SRow.at hO.2.1.1 hlt
      subst hps
      obtain ⟨p1, c1, e1⟩ := ga.shape
      obtain ⟨p2, c2, e2⟩ := gt.shape
      subst e1 e2
      have hji : (j : Int) < (b.sorts.length : Int) := by omega
      have hj0 : (0 : Int) ≤ (j : Int) := by omega
      have hsj := HS.out j hlt
      obtain ⟨s, hse⟩ : ∃ s, b.sorts[j] = s := ⟨_, rfl⟩
      rw [hse] at ga gt k0 k1 k2 k3 k4 k5 hsj
      have R1 := Lib.hid (fun W (hW : Below wr.heap.size wr W) => twinargs_any s.idx (by omega) W _ (ARow.bel hW ga))
      have R2 := Lib.hid (fun W (hW : Below wr.heap.size wr W) => c_twin s.decT (by omega) W _ (gt.bel hW (Nat.le_refl _)))
      have HSE := Lib.hid hse
      have HO := Lib.hid hO
      have HZ0 := Lib.hid hz0
      have HX := Lib.hid hx
      have HR := Lib.hid hR
      have H1 := Lib.hid (World.alloc_heap_new wr (.cells #[.slice p1 s.idx.length c1, .int .i64 s.level, .bool s.dec, .int .i64 s.decT.k, .int .i64 s.decT.n, .slice p2 s.decT.kids.length c2] 29))
      have B1 := Lib.hid (below_al wr (.cells #[.slice p1 s.idx.length c1, .int .i64 s.level, .bool s.dec, .int .i64 s.decT.k, .int .i64 s.decT.n, .slice p2 s.decT.kids.length c2] 29))
      have hz1 := Lib.hid (World.size_alloc wr (.cells #[.slice p1 s.idx.length c1, .int .i64 s.level, .bool s.dec, .int .i64 s.decT.k, .int .i64 s.decT.n, .slice p2 s.decT.kids.length c2] 29))
      clear ga gt hO hz0 hx hR hsj hse
      go_upto_region 6 with (fail)
      clear x0 x1 x2 k0 k1 k2 k3 k4 k5
      revert H1 B1 hz1
      generalize wr.alloc (.cells #[.slice p1 s.idx.length c1, .int .i64 s.level, .bool s.dec, .int .i64 s.decT.k, .int .i64 s.decT.n, .slice p2 s.decT.kids.length c2] 29) = w1
      intro H1 B1 hz1
      have hz1' := hz1.out
      refine wp_region_rel_tail 7 (by kernel_rfl) (by kernel_rfl) (by kernel_rfl) ?_
      simp only [List.take_succ_cons, List.take_zero]
      simp only [List.drop_succ_cons, List.drop_zero]
      apply RelWalk.next 2
      · kernel_rfl
      · intro X _ W hW hcl
        simp only [List.take_succ_cons, List.take_zero]
        obtain ⟨⟨b0, b1, b2, b3, b4, b5⟩, _⟩ := cells6 H1.out
        have r0 := fun q => gcell (hW q) b0
        clear b0 b1 b2 b3 b4 b5
        repeat (go_big_quiet_step (fail))
        exact wpQuiet_nil rfl
      simp only [List.drop_succ_cons, List.drop_zero]
      refine RelWalk.made0 (fun v s_ e W => ∃ a cap, v = .slice a s.idx.length cap ∧ ARowS (In s_ e) W s.idx (.slice a s.idx.length cap) ∧ wr.heap.size + 1 ≤ s_ ∧ e ≤ W.heap.size) rfl (by kernel_rfl) (by kernel_rfl) rfl (fun v s_ e W W' hg ⟨a, c, h1, h2, h3, h4⟩ => ⟨a, c, h1, h2.same fun b hb => ⟨hb, hg.block b (Nat.lt_of_lt_of_le hb.2 h4)⟩, h3, Nat.le_trans h4 hg.size⟩) (fun w2 hg => ?_) ?_
      · have hc := Lib.hid (R1.out w2 (B1.out.trans (hg.mono B1.out.size)))
        have hsz := hg.size
        go_simp
        exact rel_enter (hc.out.mono fun e w3 ⟨a3, c3, he, hA3, hb3⟩ => ⟨_, he, hb3, a3, c3, rfl, hA3.row, by omega, Nat.le_refl _⟩)
      simp only [Act.put, List.setIfInBounds_toArray, List.set_cons_zero, List.set_cons_succ]
      apply RelWalk.next 2
      · kernel_rfl
      · intro X _ W hW hcl
        simp only [List.take_succ_cons, List.take_zero]
        obtain ⟨⟨b0, b1, b2, b3, b4, b5⟩, _⟩ := cells6 H1.out
        have r3 := fun q => gcell (hW q) b3
        have r4 := fun q => gcell (hW q) b4
        have r5 := fun q => gcell (hW q) b5
        clear b0 b1 b2 b3 b4 b5
        repeat (go_big_quiet_step (fail))
        exact wpQuiet_nil rfl
      simp only [List.drop_succ_cons, List.drop_zero]
      refine RelWalk.made0 (fun v s_ e W => ∃ a cap, v = .agg #[.int .i64 s.decT.k, .int .i64 s.decT.n, .slice a s.decT.kids.length cap] ∧ AtS (In s_ e) W s.decT.kids (.slice a s.decT.kids.length cap) ∧ wr.heap.size + 1 ≤ s_ ∧ e ≤ W.heap.size) rfl (by kernel_rfl) (by kernel_rfl) rfl (fun v s_ e W W' hg ⟨a, c, h1, h2, h3, h4⟩ => ⟨a, c, h1, h2.same fun b hb => ⟨hb, hg.block b (Nat.lt_of_lt_of_le hb.2 h4)⟩, h3, Nat.le_trans h4 hg.size⟩) (fun w2 hg => ?_) ?_
      · have hc := Lib.hid (R2.out w2 (B1.out.trans (hg.mono B1.out.size)))
        have hsz := hg.size
        go_simp
        exact rel_enter (hc.out.mono fun e w3 ⟨a3, c3, he, hA3, _, hb3⟩ => ⟨_, he, hb3, a3, c3, rfl, hA3, by omega, Nat.le_refl _⟩)
      simp only [Act.put, List.setIfInBounds_toArray, List.set_cons_zero, List.set_cons_succ]
      apply RelWalk.rest
      · kernel_rfl
      · intro X _ W hW hcl
        repeat (go_big_quiet_step (fail))
        exact wpQuiet_nil rfl
      intro g w2 hg hpt
      simp only [Spread]
      rintro v27 ⟨a2, d2, rfl, hD, hD1, hD2⟩ v24 ⟨a1, d1, rfl, hI, hI1, hI2⟩
      have HI := Lib.hid (show ARowS (In (wr.heap.size + 1) w2.heap.size) w2 s.idx (.slice a1 s.idx.length d1) from hI.same fun b hb => ⟨⟨by have := hb.1; omega, by have := hb.2; omega⟩, rfl⟩)
      have HD := Lib.hid (show AtS (In (wr.heap.size + 1) w2.heap.size) w2 s.decT.kids (.slice a2 s.decT.kids.length d2) from hD.same fun b hb => ⟨⟨by have := hb.1; omega, by have := hb.2; omega⟩, rfl⟩)
      have HG := Lib.hid hg
      have h1x := Lib.hid ((hg.block wr.heap.size (by omega)).trans H1.out)
      have hz2 := hg.size
      clear hpt hI hD hI1 hI2 hD1 hD2 hg
      obtain ⟨⟨b0, b1, b2, b3, b4, b5⟩, f0, f1, f2, f3, f4, f5⟩ := cells6 h1x.out
      simp only [Act.put, List.setIfInBounds_toArray, List.set_cons_zero, List.set_cons_succ]
      go_upto_region 7 with (fail)
      clear b0 b1 b2 b3 b4 b5 f0 f1 f2 f3 f4 f5
      have E1 := box_ts4 h1x.out (.slice a1 s.idx.length d1) (.int .i64 s.decT.k) (.int .i64 s.decT.n) (.slice a2 s.decT.kids.length d2)
      have E2 := (B1.out.trans (HG.out.mono (by omega))).trans (below_ts4 (W := w2) (B := wr.heap.size) (D := wr.heap.size) (Nat.le_refl _) (.slice a1 s.idx.length d1) (.int .i64 s.decT.k) (.int .i64 s.decT.n) (.slice a2 s.decT.kids.length d2))
      have E3 : ∀ b, b ≠ wr.heap.size → ((((w2.setCell ⟨wr.heap.size, 0, none⟩ (.slice a1 s.idx.length d1)).setCell ⟨wr.heap.size, 3, none⟩ (.int .i64 s.decT.k)).setCell ⟨wr.heap.size, 4, none⟩ (.int .i64 s.decT.n)).setCell ⟨wr.heap.size, 5, none⟩ (.slice a2 s.decT.kids.length d2)).heap[b]? = w2.heap[b]? := fun b hb => other_ts4 hb (.slice a1 s.idx.length d1) (.int .i64 s.decT.k) (.int .i64 s.decT.n) (.slice a2 s.decT.kids.length d2)
      have E4 : ((((w2.setCell ⟨wr.heap.size, 0, none⟩ (.slice a1 s.idx.length d1)).setCell ⟨wr.heap.size, 3, none⟩ (.int .i64 s.decT.k)).setCell ⟨wr.heap.size, 4, none⟩ (.int .i64 s.decT.n)).setCell ⟨wr.heap.size, 5, none⟩ (.slice a2 s.decT.kids.length d2)).heap.size = w2.heap.size := by simp
      revert E1 E2 E3 E4
      generalize ((((w2.setCell ⟨wr.heap.size, 0, none⟩ (.slice a1 s.idx.length d1)).setCell ⟨wr.heap.size, 3, none⟩ (.int .i64 s.decT.k)).setCell ⟨wr.heap.size, 4, none⟩ (.int .i64 s.decT.n)).setCell ⟨wr.heap.size, 5, none⟩ (.slice a2 s.decT.kids.length d2)) = w3
      intro E1 E2 E3 E4
      have hzz : wr.heap.size < w3.heap.size := by omega
      have HEL : Hid (sortO (wr.heap.size + 1) w3.heap.size w3 s [.slice a1 s.idx.length d1, .int .i64 s.level, .bool s.dec, .int .i64 s.decT.k, .int .i64 s.decT.n, .slice a2 s.decT.kids.length d2]) := ⟨_, _, rfl, HI.out.same fun b hb => ⟨⟨hb.1, by have := hb.2; omega⟩, E3 b (by have := hb.1; omega)⟩, HD.out.same fun b hb => ⟨⟨hb.1, by have := hb.2; omega⟩, E3 b (by have := hb.1; omega)⟩⟩
      have E2 := Lib.hid E2
      have HX3 := Lib.hid ((E2.out.block _ hNr).trans HX.out)
      obtain ⟨f, hown, hobk, hstep⟩ := RowOw.step sortO_local (take_lenS (Nat.le_of_lt hlt)) HR.out (Nat.le_refl _) (by omega)
      have HR1 := Lib.hid (show w3.ownsRow (w.heap.size + 3) 29 6 (.slice a j d) j ((List.range j).flatMap f) from ownsRow_same hown fun b hb => E2.out.block b (hobk b hb).2)
      have HST := Lib.hid hstep
      have HOB := Lib.hid hobk
      obtain ⟨⟨b0, b1, b2, b3, b4, b5⟩, f0, f1, f2, f3, f4, f5⟩ := cells6 E1
      obtain ⟨⟨x0, x1, x2⟩, y0, y1, y2⟩ := boxc HX3.out
      have HS7 : Hid (∀ w7 o, (w3.alloc o).grownBy w7 (Value.slice a j d).ownBlock → w7.heap[w.heap.size + 2]? = some (.cells #[.slice a j d, .slice none 0 0, .int .i64 b.elim] 33 (0, 0))) := fun w7 o hg7 =>
        ((hg7.block _ (by simp; omega) (fun e => by have := (hobk _ e.symm).1; omega)).trans (Below.heap_alloc w3 _ _ (by omega))).trans HX3.out
      have hm1 : j + 1 ≤ maxLen := by unfold maxLen; omega
      have hm2 : (j + 1) * 80 ≤ 140737488355328 := by omega
      obtain ⟨i0, hi, hz0, hz1, hz2'⟩ := info_parts Try.infoSo
      clear E1 E3 E4 HI HD HG h1x hstep hobk hown hz2 hz1' f0 f1 f2 f3 f4 f5
      go_wp2_with (at_builtin; refine wpList_append_lies _ rfl (.tmp 31) (.tmp 33) 30 rfl (w.heap.size + 3) 29 i0 _ 6 80 Try.underlying30 hi hz0 hz1 hz2' rfl (by decide) (.slice a j d) j _ rfl (HR1.out.alloc _) ⟨w3.heap.size, 0, none⟩ 1 1 [.slice a1 s.idx.length d1, .int .i64 s.level, .bool s.dec, .int .i64 s.decT.k, .int .i64 s.decT.n, .slice a2 s.decT.kids.length d2] rfl rfl (World.news_of_block (cs := #[.slice a1 s.idx.length d1, .int .i64 s.level, .bool s.dec, .int .i64 s.decT.k, .int .i64 s.decT.n, .slice a2 s.decT.kids.length d2]) (World.alloc_heap_new w3 _)) (by simp [Value.oneCell']) (by decide) hm1 hm2 (by simp; omega) (w3.heap.size + 1) (by simp) ?_; intro g cp w4 hown4 hgrow4 hat4 hlt4; obtain ⟨⟨u0, u1, u2⟩, v0, v1, v2⟩ := boxc (HS7.out _ _ hgrow4))
      go_roundw
      case rel =>
        refine ⟨j + 1, hlt, by go_num, ?_⟩
        have hal := below_al w3 (.cells #[.slice a1 s.idx.length d1, .int .i64 s.level, .bool s.dec, .int .i64 s.decT.k, .int .i64 s.decT.n, .slice a2 s.decT.kids.length d2] 29)
        have hstp := HST.out (w3.alloc (.cells #[.slice a1 s.idx.length d1, .int .i64 s.level, .bool s.dec, .int .i64 s.decT.k, .int .i64 s.decT.n, .slice a2 s.decT.kids.length d2] 29)) w4 g cp s [.slice a1 s.idx.length d1, .int .i64 s.level, .bool s.dec, .int .i64 s.decT.k, .int .i64 s.decT.n, .slice a2 s.decT.kids.length d2] _ _ (E2.out.trans (hal.mono E2.out.size)) hown4 hgrow4 (hat4.imp_right fun h => by simp at h ⊢; omega) (by omega) hzz (by simp) (sortO_local _ _ _ _ _ _ (fun b hb hb2 => Below.heap_alloc w3 _ b hb2) HEL.out)
        have blk : ∀ b, b ≤ w.heap.size + 1 → (w4.setCell ⟨w.heap.size + 2, 0, none⟩ (.slice (some ⟨g, 0, none⟩) (j + 1) cp)).heap[b]? = wr.heap[b]? := fun b hb =>
          (((other_tb0 (by omega) _).trans (hgrow4.block b (by simp; omega) (fun e => by have := (HOB.out b e.symm).1; omega))).trans (Below.heap_alloc w3 _ b (by omega))).trans (E2.out.block b (by omega))
        have hbel : Below w.heap.size w (w4.setCell ⟨w.heap.size + 2, 0, none⟩ (.slice (some ⟨g, 0, none⟩) (j + 1) cp)) :=
          ((HO.out.2.2.trans (E2.out.mono HO.out.2.2.size)).trans (((Below.refl w.heap.size w3).alloc (by omega) _).grown hgrow4 (by simp; omega) (fun k hk => by have := (HOB.out k hk).1; omega))).trans (below_tb0 (by omega) _)
        refine ⟨⟨(blk _ (by omega)).trans HO.out.1, HA0.out.bel hbel, hbel⟩, (blk _ (by omega)).trans HZ0.out, some ⟨g, 0, none⟩, cp, box_tb0 (HS7.out _ _ hgrow4) _, ?_⟩
        rw [List.take_succ_eq_append_getElem hlt, HSE.out]
        have := hstp.same sortO_local (w' := w4.setCell ⟨w.heap.size + 2, 0, none⟩ (.slice (some ⟨g, 0, none⟩) (j + 1) cp)) (fun b hb _ => other_tb0 (by omega) _)
        simpa using this
      case measure => simp [RowKit.intOf]; omega
    · obtain rfl : j = b.sorts.length := by omega
      have hnl : ¬ (b.sorts.length : Int) < (b.sorts.length : Int) := by omega
      rw [List.take_length] at hR
      have HSB : Hid (TbB w b (.slice ps b.sorts.length cs) (.slice pc b.cons.length cc) 0 wr) := ⟨hO, hz0, wr.heap.size, a, d, none, 0, by omega, Nat.le_refl _, hx, hR, RowOw.nil _ _ _⟩
      clear hO hz0 hx hR
      go_wp2_with fail
      clear x0 x1 x2 hnl hNr hlt hj
      go_loopw [6] (fun i wr => ∃ j : Nat, j ≤ b.cons.length ∧ i = .int .i64 j ∧ TbB w b (.slice ps b.sorts.length cs) (.slice pc b.cons.length cc) j wr) (fun i _ => b.cons.length - (RowKit.intOf i).toNat)
      case atStart => exact ⟨0, Nat.zero_le _, rfl, HSB.out⟩
      case round =>
        clear HSB
        obtain ⟨j, hj, rfl, hO, hz0, L, a1, d1, a, d, hL1, hL2, hx, hRS, hR⟩ := hrel
        obtain ⟨x0, x1, x2⟩ := hO.cells
        have hNr : w.heap.size + 2 < wr.heap.size := (Array.getElem?_eq_some_iff.1 hx).1
        by_cases hlt : j < b.cons.length
        · obtain ⟨B, off, ua, ui, ut, hpc, ga, gi, gt, k0, k1, k2, k3, k4, k5⟩ := CRow.at hO.2.1.2 hlt
          subst hpc
          obtain ⟨p1, c1, e1⟩ := ga.shape
          obtain ⟨p2, c2, e2⟩ := gi.shape
          obtain ⟨p3, c3, e3⟩ := gt.shape
          subst e1 e2 e3
          have hji : (j : Int) < (b.cons.length : Int) := by omega
          have hj0 : (0 : Int) ≤ (j : Int) := by omega
          have hsj := HC.out j hlt
          obtain ⟨c, hce⟩ : ∃ c, b.cons[j] = c := ⟨_, rfl⟩
          rw [hce] at ga gi gt k0 k1 k2 k3 k4 k5 hsj
          have R1 := Lib.hid (fun W (hW : Below wr.heap.size wr W) => twincon_any c hsj W _ _ _ (ARow.bel hW ga) (gi.bel hW (Nat.le_refl _)) (gt.bel hW (Nat.le_refl _)))
          have HCE := Lib.hid hce
          have HO := Lib.hid hO
          have HZ0 := Lib.hid hz0
          have HX := Lib.hid hx
          have HRS := Lib.hid hRS
          have HKC := Lib.hid (And.intro k0 (And.intro k1 (And.intro k2 (And.intro k3 (And.intro k4 k5)))))
          obtain ⟨f, hown, hobk, hstep⟩ := RowOw.step (conP_local w.heap.size) (take_lenS (Nat.le_of_lt hlt)) hR (Nat.le_refl _) hL2
          have HOWN := Lib.hid hown
          have HSTP := Lib.hid hstep
          have HOB := Lib.hid hobk
          have hm1 : j + 1 ≤ maxLen := by unfold maxLen; omega
          have hm2 : (j + 1) * 96 ≤ 140737488355328 := by omega
          obtain ⟨i0, hi, hy0, hy1, hy2⟩ := info_parts Try.infoCn
          clear ga gi gt hO hz0 hx hRS hR hsj hce hown hstep hobk k0 k1 k2 k3 k4 k5
          go_wp2_with fail
          clear x0 x1 x2
          refine wp_region_rel_tail 9 (by kernel_rfl) (by kernel_rfl) (by kernel_rfl) ?_
          simp only [List.take_succ_cons, List.take_zero]
          simp only [List.drop_succ_cons, List.drop_zero]
          apply RelWalk.next 7
          · kernel_rfl
          · intro X _ W hW hcl
            simp only [List.take_succ_cons, List.take_zero]
            obtain ⟨x0, x1, x2⟩ := HO.out.cells
            obtain ⟨⟨u0, u1, u2⟩, _⟩ := boxc HX.out
            obtain ⟨k0, k1, k2, k3, k4, k5⟩ := HKC.out
            have rx := fun q => gcell (hW q) x1
            have ru := fun q => gcell (hW q) u1
            have r0 := fun q => gcell (hW q) k0
            have r1 := fun q => gcell (hW q) k1
            have r2 := fun q => gcell (hW q) k2
            have r3 := fun q => gcell (hW q) k3
            have r4 := fun q => gcell (hW q) k4
            have r5 := fun q => gcell (hW q) k5
            clear x0 x1 x2 u0 u1 u2 k0 k1 k2 k3 k4 k5
            repeat (go_big_quiet_step (fail))
            exact wpQuiet_nil rfl
          simp only [List.drop_succ_cons, List.drop_zero]
          refine RelWalk.made0 (fun v s e W => ∃ a1 d1 a2 d2 a3 d3, v = .agg #[.int .i64 c.sort, .slice a1 c.args.length d1, .slice a2 c.idx.length d2, .int .i64 c.dec.k, .int .i64 c.dec.n, .slice a3 c.dec.kids.length d3] ∧ conO s e w.heap.size W c [.int .i64 c.sort, .slice a1 c.args.length d1, .slice a2 c.idx.length d2, .int .i64 c.dec.k, .int .i64 c.dec.n, .slice a3 c.dec.kids.length d3] ∧ wr.heap.size ≤ s ∧ s ≤ e ∧ e ≤ W.heap.size) rfl (by kernel_rfl) (by kernel_rfl) rfl (fun v s e W W' hg ⟨a1, d1, a2, d2, a3, d3, h1, h2, h3, h4, h5⟩ => ⟨a1, d1, a2, d2, a3, d3, h1, h2.same (Nat.le_refl _) (Nat.le_refl _) (Nat.le_refl _) fun b _ hb2 => hg.block b (Nat.lt_of_lt_of_le hb2 h5), h3, h4, Nat.le_trans h5 hg.size⟩) (fun w2 hg => ?_) ?_
          · have hc := Lib.hid (R1.out w2 hg)
            have hsz := hg.size
            have hbw := HO.out.2.2.size
            go_simp
            exact rel_enter (hc.out.mono fun e w3 ⟨a1, d1, a2, d2, a3, d3, he, hA3, hb3⟩ => ⟨_, he, hb3, a1, d1, a2, d2, a3, d3, rfl, hA3.same (Nat.le_refl _) (Nat.le_refl _) (by omega) fun _ _ _ => rfl, hsz, hb3.size, Nat.le_refl _⟩)
          simp only [Act.put, List.setIfInBounds_toArray, List.set_cons_zero, List.set_cons_succ]
          refine RelWalk.made1 (fun v s e W => v = .slice (some ⟨s, 0, none⟩) 1 1 ∧ s < W.heap.size ∧ ∃ s' e' a1 d1 a2 d2 a3 d3, W.heap[s]? = some (.cells #[.int .i64 c.sort, .slice a1 c.args.length d1, .slice a2 c.idx.length d2, .int .i64 c.dec.k, .int .i64 c.dec.n, .slice a3 c.dec.kids.length d3] 35 (0, 0)) ∧ conO s' e' w.heap.size W c [.int .i64 c.sort, .slice a1 c.args.length d1, .slice a2 c.idx.length d2, .int .i64 c.dec.k, .int .i64 c.dec.n, .slice a3 c.dec.kids.length d3] ∧ wr.heap.size ≤ s' ∧ s' ≤ e' ∧ e' ≤ W.heap.size) rfl (by kernel_rfl) (by kernel_rfl) rfl (fun v s e W W' hg ⟨h1, h2, s', e', a1, d1, a2, d2, a3, d3, h3, h4, h5, h6, h7⟩ => ⟨h1, Nat.lt_of_lt_of_le h2 hg.size, s', e', a1, d1, a2, d2, a3, d3, (hg.block s h2).trans h3, h4.same (Nat.le_refl _) (Nat.le_refl _) (Nat.le_refl _) fun b _ hb2 => hg.block b (Nat.lt_of_lt_of_le hb2 h7), h5, h6, Nat.le_trans h7 hg.size⟩) (fun g w2 hg v1 hv1 => ?_) ?_
          · obtain ⟨a1, d1, a2, d2, a3, d3, rfl, h2, h3, h4, h5⟩ := hv1
            have HAA := Lib.hid h2
            have hal := below_al w2 (.cells #[.int .i64 c.sort, .slice a1 c.args.length d1, .slice a2 c.idx.length d2, .int .i64 c.dec.k, .int .i64 c.dec.n, .slice a3 c.dec.kids.length d3] 35)
            clear h2
            go_simp
            exact ⟨hal, rfl, by simp, _, _, a1, d1, a2, d2, a3, d3, World.alloc_heap_new w2 _, HAA.out.same (Nat.le_refl _) (Nat.le_refl _) (Nat.le_refl _) fun b _ hb2 => Below.heap_alloc w2 _ b (Nat.lt_of_lt_of_le hb2 h5), h3, h4, Nat.le_trans h5 (by simp)⟩
          simp only [Act.put, List.setIfInBounds_toArray, List.set_cons_zero, List.set_cons_succ]
          refine .done fun g w2 hg hpt => ?_
          simp only [Spread]
          rintro v51 ⟨rfl, hs6, s', e', q1, r1, q2, r2, q3, r3, hn6, hK6, hw1, hw2, hw3⟩ v50 _
          simp only [Act.put, List.setIfInBounds_toArray, List.set_cons_zero, List.set_cons_succ]
          obtain ⟨s6, h6⟩ : ∃ s, (g 51).1 = s := ⟨_, rfl⟩
          rw [h6] at hs6 hn6 ⊢
          clear hpt h6
          have HX2 := Lib.hid ((hg.block _ hNr).trans HX.out)
          have HR1 := Lib.hid (show w2.ownsRow L 35 6 (.slice a j d) j ((List.range j).flatMap f) from ownsRow_same HOWN.out fun b hb => hg.block b (HOB.out b hb).2)
          have HS7 : Hid (∀ w7, w2.grownBy w7 (Value.slice a j d).ownBlock → w7.heap[w.heap.size + 2]? = some (.cells #[.slice a1 b.sorts.length d1, .slice a j d, .int .i64 b.elim] 33 (0, 0))) := fun w7 hg7 =>
            (hg7.block _ (by have := hg.size; omega) (fun e => by have := (HOB.out _ e.symm).1; omega)).trans HX2.out
          have HN6 := Lib.hid hn6
          have HK6 := Lib.hid hK6
          have HG := Lib.hid hg
          have hz2 := hg.size
          clear hn6 hK6 hg
          obtain ⟨⟨x0, x1, x2⟩, _⟩ := boxc HX2.out
          go_wp2_with (at_builtin; refine wpList_append_lies _ rfl (.tmp 44) (.tmp 51) 31 rfl L 35 i0 _ 6 96 Try.underlying31 hi hy0 hy1 hy2 rfl (by decide) (.slice a j d) j _ rfl HR1.out ⟨s6, 0, none⟩ 1 1 [.int .i64 c.sort, .slice q1 c.args.length r1, .slice q2 c.idx.length r2, .int .i64 c.dec.k, .int .i64 c.dec.n, .slice q3 c.dec.kids.length r3] rfl rfl (by have := World.news_of_block HN6.out; simpa using this) (by simp [Value.oneCell']) (by decide) hm1 hm2 (by omega) w2.heap.size rfl ?_; intro g7 cp w7 hown7 hgrow7 hat7 hlt7; obtain ⟨⟨p0, p1', p2'⟩, p3', p4, p5⟩ := boxc (HS7.out _ hgrow7))
          go_roundw
          case rel =>
            refine ⟨j + 1, hlt, by go_num, ?_⟩
            have hstp := HSTP.out w2 w7 g7 cp c [.int .i64 c.sort, .slice q1 c.args.length r1, .slice q2 c.idx.length r2, .int .i64 c.dec.k, .int .i64 c.dec.n, .slice q3 c.dec.kids.length r3] s' e' HG.out hown7 hgrow7 (hat7.imp_right fun h => by omega) hw1 hw2 hw3 HK6.out
            have blk : ∀ b, b < wr.heap.size → some b ≠ (Value.slice a j d).ownBlock → b ≠ w.heap.size + 2 → (w7.setCell ⟨w.heap.size + 2, 1, none⟩ (.slice (some ⟨g7, 0, none⟩) (j + 1) cp)).heap[b]? = wr.heap[b]? := fun b hb hne hne2 =>
              ((other_tb1 hne2 _).trans (hgrow7.block b (by omega) hne)).trans (HG.out.block b hb)
            have hno : ∀ b, b < L → some b ≠ (Value.slice a j d).ownBlock := fun b hb e => by have := (HOB.out b e.symm).1; omega
            have hbel : Below w.heap.size w (w7.setCell ⟨w.heap.size + 2, 1, none⟩ (.slice (some ⟨g7, 0, none⟩) (j + 1) cp)) :=
              ((HO.out.2.2.trans (HG.out.mono HO.out.2.2.size)).trans ((Below.refl w.heap.size w2).grown hgrow7 (by omega) (fun k hk => by have := (HOB.out k hk).1; omega))).trans (below_tb1 (by omega) _)
            refine ⟨⟨(blk _ (by omega) (hno _ (by omega)) (by omega)).trans HO.out.1, HA0.out.bel hbel, hbel⟩, (blk _ (by omega) (hno _ (by omega)) (by omega)).trans HZ0.out, L, a1, d1, some ⟨g7, 0, none⟩, cp, hL1, ?_, box_tb1 (HS7.out _ hgrow7) _, HRS.out.same sortO_local (fun b hb hb2 => blk b (by omega) (hno b hb2) (by omega)), ?_⟩
            · have := hgrow7.size; simp; omega
            · rw [List.take_succ_eq_append_getElem hlt, HCE.out]
              have := hstp.same (conP_local w.heap.size) (w' := w7.setCell ⟨w.heap.size + 2, 1, none⟩ (.slice (some ⟨g7, 0, none⟩) (j + 1) cp)) (fun b hb _ => other_tb1 (by omega) _)
              simpa using this
          case measure => simp [RowKit.intOf]; omega
        · obtain rfl : j = b.cons.length := by omega
          have hnl : ¬ (b.cons.length : Int) < (b.cons.length : Int) := by omega
          rw [List.take_length] at hR
          obtain ⟨⟨u0, u1, u2⟩, v0, v1, v2⟩ := boxc hx
          obtain ⟨⟨t0, t1, t2⟩, y0, y1, y2⟩ := boxc hz0
          have HBW := Lib.hid hO.2.2
          have HRS := Lib.hid hRS
          have HR := Lib.hid hR
          clear hO hz0 hx hRS hR hlt hj
          go_wp2_with fail
          refine bodyPost_ret (v := .agg #[.slice a1 b.sorts.length d1, .slice a b.cons.length d, .int .i64 b.elim]) (by simp [results, Try.f18, go_sem, t0, t1, t2]) rfl ⟨a1, d1, a, d, rfl, ⟨L, by omega, by simp; omega, RowOw.base (by omega) (HRS.out.same sortO_local fun b hb hb2 => other_tb3 (by omega) _ _ _), ?_⟩, HBW.out.trans (below_tb3 (by omega) _ _ _)⟩
          have := HR.out.same (conP_local w.heap.size) (w' := ((wr.setCell ⟨w.heap.size + 1, 0, none⟩ (.slice a1 b.sorts.length d1)).setCell ⟨w.heap.size + 1, 1, none⟩ (.slice a b.cons.length d)).setCell ⟨w.heap.size + 1, 2, none⟩ (.int .i64 b.elim)) (fun b hb _ => other_tb3 (by omega) _ _ _)
          simpa using this
end Go.Proofs.Ytggefpkfikimiaa
