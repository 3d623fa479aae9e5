/- keep's Arg and Args of one row read twice. No conditions but sizes. -/
import Derived.Test.YtggefpkfikimiaaG20
import Derived.Test.YtggefpkfikimiaaG07
import Derived.Test.YtggefpkfikimiaaG18
namespace Go.Proofs.Ytggefpkfikimiaa
open Go.RowKit
set_option linter.unusedVariables false

theorem onea_two (w : World) (a : ArgT) (vt vd vi ut ud ui : Value) (h1 : At w a.ty.kids vt) (h2 : At w a.dom vd) (h3 : At w a.idx vi) (h4 : At w a.ty.kids ut) (h5 : At w a.dom ud) (h6 : At w a.idx ui) :
    OneA w.heap.size a vt vd vi ((w.alloc (.cells (argCells a vt vd vi) 38)).alloc (.cells (argCells a ut ud ui) 38)) ∧ OneA (w.heap.size + 1) a ut ud ui ((w.alloc (.cells (argCells a vt vd vi) 38)).alloc (.cells (argCells a ut ud ui) 38)) ∧
      Below w.heap.size w ((w.alloc (.cells (argCells a vt vd vi) 38)).alloc (.cells (argCells a ut ud ui) 38)) := by
  have b1 := below_al w (.cells (argCells a vt vd vi) 38)
  have b2 := below_al (w.alloc (.cells (argCells a vt vd vi) 38)) (.cells (argCells a ut ud ui) 38)
  have b3 := b1.trans (b2.mono b1.size)
  have g1 : OneA w.heap.size a vt vd vi (w.alloc (.cells (argCells a vt vd vi) 38)) := ⟨World.alloc_heap_new w _, h1.bel b1 (Nat.le_refl _), h2.bel b1 (Nat.le_refl _), h3.bel b1 (Nat.le_refl _)⟩
  have hnew := World.alloc_heap_new (w.alloc (.cells (argCells a vt vd vi) 38)) (.cells (argCells a ut ud ui) 38)
  rw [World.size_alloc] at hnew
  exact ⟨g1.bel b2, ⟨hnew, h4.bel b3 (Nat.le_refl _), h5.bel b3 (Nat.le_refl _), h6.bel b3 (Nat.le_refl _)⟩, b3⟩
end Go.Proofs.Ytggefpkfikimiaa
/- Rows of things of whatever size, in blocks of a set; rows that were made by appends; blocks' parts in blocks of a set. No conditions. -/
namespace Go.Proofs.Ytggefpkfikimiaa
open Go.RowKit
set_option linter.unusedVariables false

theorem flatG_len {sz n : Nat} (f : Nat → List Value) (hf : ∀ i, i < n → (f i).length = sz) : ((List.range n).flatMap f).length = n * sz := by
  induction n with
  | zero => simp
  | succ n ih => rw [List.range_succ, List.flatMap_append, List.length_append, ih fun i hi => hf i (by omega)]; simp [hf n (by omega), Nat.succ_mul]
theorem flatG_get {sz n : Nat} (f : Nat → List Value) (hf : ∀ i, i < n → (f i).length = sz) (i r : Nat) (hi : i < n) (hr : r < sz) : ((List.range n).flatMap f)[i * sz + r]? = (f i)[r]? := by
  induction n with
  | zero => omega
  | succ n ih =>
    have hl := flatG_len f (n := n) fun i hi => hf i (by omega)
    rw [List.range_succ, List.flatMap_append]
    by_cases h : i < n
    · have : (i + 1) * sz ≤ n * sz := Nat.mul_le_mul_right sz h
      rw [Nat.succ_mul] at this
      rw [List.getElem?_append_left (by rw [hl]; omega), ih (fun i hi => hf i (by omega)) h]
    · obtain rfl : i = n := by omega
      rw [List.getElem?_append_right (by rw [hl]; omega), hl]
      simp
theorem flatG_snoc {n : Nat} (f f' : Nat → List Value) (h : ∀ i, i < n → f' i = f i) : (List.range (n + 1)).flatMap f' = (List.range n).flatMap f ++ f' n := by
  rw [List.range_succ, List.flatMap_append]
  congr 1
  · rw [List.flatMap_def, List.flatMap_def]
    congr 1
    apply List.map_congr_left
    intro i hi
    exact h i (by simpa using hi)
  · simp
/-- A row of things, each of sz cells, of which C tells, in a block of S. -/
inductive GAtS {α : Type} (S : Nat → Prop) (sz : Nat) (C : α → List Value → Prop) (w : World) : List α → Value → Prop
  | nl : GAtS S sz C w [] (.slice none 0 0)
  | em (a : Addr) (cap : Nat) : GAtS S sz C w [] (.slice (some a) 0 cap)
  | row (l : List α) (b off cap : Nat) (cs : Nat → List Value) (h0 : 0 < l.length) (hS : S b) (hlen : l.length ≤ cap) (hm : cap ≤ maxLen) (hC : ∀ i (_ : i < l.length), C l[i] (cs i) ∧ (cs i).length = sz)
      (hk : ∀ i (_ : i < l.length), ∀ r, r < sz → w.cell? ⟨b, off + i * sz + r, none⟩ = (cs i)[r]?) : GAtS S sz C w l (.slice (some ⟨b, off, none⟩) l.length cap)
theorem GAtS.at {α : Type} {S : Nat → Prop} {sz : Nat} {C C' : α → List Value → Prop} {w : World} (hCC : ∀ a cs, C a cs → C' a cs) {l : List α} {v : Value} (h : GAtS S sz C w l v) : GAt sz C' w l v := by
  cases h with
  | nl => exact .nl
  | em a cap => exact .em a cap
  | row l b off cap cs h0 hS h1 h2 h3 h4 => exact .row l b off cap cs h0 h1 h2 (fun i hi => ⟨hCC _ _ (h3 i hi).1, (h3 i hi).2⟩) h4
theorem GAtS.same {α : Type} {S T : Nat → Prop} {sz : Nat} {C C' : α → List Value → Prop} {w w' : World} (h : ∀ b, S b → T b ∧ w'.heap[b]? = w.heap[b]?) (hCC : ∀ a cs, C a cs → C' a cs) {l : List α} {v : Value} (hA : GAtS S sz C w l v) : GAtS T sz C' w' l v := by
  cases hA with
  | nl => exact .nl
  | em a cap => exact .em a cap
  | row l b off cap cs h0 hS h1 h2 h3 h4 =>
    refine .row l b off cap cs h0 (h b hS).1 h1 h2 (fun i hi => ⟨hCC _ _ (h3 i hi).1, (h3 i hi).2⟩) fun i hi r hr => ?_
    rw [World.cell?_of_block (w := w) (h b hS).2]
    exact h4 i hi r hr
theorem gats_of_row {α : Type} {S : Nat → Prop} {sz : Nat} {C : α → List Value → Prop} {w : World} {base : Nat} {ty : TypeId} {v : Value} {l : List α} {f : Nat → List Value} (h : w.ownsRow base ty sz v l.length ((List.range l.length).flatMap f)) (hz : 0 < sz)
    (hS : ∀ b, v.ownBlock = some b → S b) (hC : ∀ i (_ : i < l.length), C l[i] (f i) ∧ (f i).length = sz) : GAtS S sz C w l v := by
  rcases h.2 with ⟨rfl, h0⟩ | ⟨g, cap, cur, rfl, hb, hg, h1, h2, h3, htake⟩
  · rw [List.eq_nil_of_length_eq_zero h0]; exact .nl
  · by_cases h0 : 0 < l.length
    · refine .row l g 0 cap f h0 (hS g rfl) h1 h2 hC fun i hi r hr => ?_
      have hlt : i * sz + r < l.length * sz := by
        have : (i + 1) * sz ≤ l.length * sz := Nat.mul_le_mul_right sz hi
        rw [Nat.succ_mul] at this
        omega
      rw [Nat.zero_add, h.cellAt _ hlt, flatG_get f (fun i hi => (hC i hi).2) i r hi hr]
    · have e : l = [] := List.eq_nil_of_length_eq_zero (by omega)
      subst e
      exact .em _ _
def argCS (S : Nat → Prop) (w : World) (a : ArgT) (cs : List Value) : Prop := ∃ vt vd vi, cs = [.bool a.r, .int .i64 a.ty.k, .int .i64 a.ty.n, vt, vd, .int .i64 a.sort, vi] ∧ AtS S w a.ty.kids vt ∧ AtS S w a.dom vd ∧ AtS S w a.idx vi
theorem argCS.c {S : Nat → Prop} {w : World} {a : ArgT} {cs : List Value} (h : argCS S w a cs) : argC w a cs := by
  obtain ⟨vt, vd, vi, e, h1, h2, h3⟩ := h
  exact ⟨vt, vd, vi, e, h1.at, h2.at, h3.at⟩
theorem argCS.same {S T : Nat → Prop} {w w' : World} (hs : ∀ b, S b → T b ∧ w'.heap[b]? = w.heap[b]?) {a : ArgT} {cs : List Value} (h : argCS S w a cs) : argCS T w' a cs := by
  obtain ⟨vt, vd, vi, e, h1, h2, h3⟩ := h
  exact ⟨vt, vd, vi, e, h1.same hs, h2.same hs, h3.same hs⟩
theorem argCS.len {S : Nat → Prop} {w : World} {a : ArgT} {cs : List Value} (h : argCS S w a cs) : cs.length = 7 := by
  obtain ⟨vt, vd, vi, e, _⟩ := h
  rw [e]; rfl
theorem argCS.one {S : Nat → Prop} {w : World} {a : ArgT} {cs : List Value} (h : argCS S w a cs) : ∀ u ∈ cs, u.oneCell' = true := by
  obtain ⟨vt, vd, vi, e, h1, h2, h3⟩ := h
  obtain ⟨_, _, e1⟩ := h1.at.shape
  obtain ⟨_, _, e2⟩ := h2.at.shape
  obtain ⟨_, _, e3⟩ := h3.at.shape
  rw [e, e1, e2, e3]
  intro u hu
  simp only [List.mem_cons, List.not_mem_nil, or_false] at hu
  rcases hu with rfl | rfl | rfl | rfl | rfl | rfl | rfl <;> rfl
abbrev ARowS (S : Nat → Prop) (w : World) : List ArgT → Value → Prop := GAtS S 7 (argCS S w) w
theorem ARowS.at {S : Nat → Prop} {w : World} {l : List ArgT} {v : Value} (h : ARowS S w l v) : ARow w l v := GAtS.at (fun _ _ h => h.c) h
theorem ARowS.same {S T : Nat → Prop} {w w' : World} (hs : ∀ b, S b → T b ∧ w'.heap[b]? = w.heap[b]?) {l : List ArgT} {v : Value} (h : ARowS S w l v) : ARowS T w' l v := GAtS.same hs (fun _ _ h => h.same hs) h
/-- A row of arguments that was made by appends: its own block, and what lies below it lies elsewhere. -/
def ArgsOwn (S : Nat → Prop) (base : Nat) (w : World) (l : List ArgT) (v : Value) : Prop := (∀ b, v.ownBlock = some b → S b) ∧ ∃ f, w.ownsRow base 38 7 v l.length ((List.range l.length).flatMap f) ∧ ∀ i (_ : i < l.length), argCS (fun b => S b ∧ some b ≠ v.ownBlock) w l[i] (f i)
theorem ArgsOwn.row {S : Nat → Prop} {base : Nat} {w : World} {l : List ArgT} {v : Value} (h : ArgsOwn S base w l v) : ARowS S w l v := by
  obtain ⟨h1, f, h2, h3⟩ := h
  exact gats_of_row h2 (by decide) h1 fun i hi => ⟨(h3 i hi).same fun b hb => ⟨hb.1, rfl⟩, (h3 i hi).len⟩
theorem Try.infoA : (Try.prog.info? 38).map (fun i => (i.zero, i.size, i.bytes)) = some (some (.agg #[.bool false, .int .i64 0, .int .i64 0, .slice none 0 0, .slice none 0 0, .int .i64 0, .slice none 0 0]), 7, 104) := by kernel_rfl
theorem Try.infoSo : (Try.prog.info? 29).map (fun i => (i.zero, i.size, i.bytes)) = some (some (.agg #[.slice none 0 0, .int .i64 0, .bool false, .int .i64 0, .int .i64 0, .slice none 0 0]), 6, 80) := by kernel_rfl
theorem Try.infoCn : (Try.prog.info? 35).map (fun i => (i.zero, i.size, i.bytes)) = some (some (.agg #[.int .i64 0, .slice none 0 0, .slice none 0 0, .int .i64 0, .int .i64 0, .slice none 0 0]), 6, 96) := by kernel_rfl
end Go.Proofs.Ytggefpkfikimiaa
/- Rows of ints: appended to; the page's TwinInts. No conditions but sizes. -/
namespace Go.Proofs.Ytggefpkfikimiaa
open Go.RowKit
set_option linter.unusedVariables false

theorem Try.infoI : (Try.prog.info? 3).map (fun i => (i.zero, i.size, i.bytes)) = some (some (.int .i64 0), 1, 8) := by kernel_rfl
theorem IOwn.row {B : Nat} {l : List Int} {v : Value} {w : World} (h : IOwn B l v w) : IRow w l v := by
  rcases h.2 with ⟨rfl, h0⟩ | ⟨g, cap, cur, rfl, hb, hg, h1, h2, h3, htake⟩
  · rw [List.eq_nil_of_length_eq_zero h0]; exact .nl
  · by_cases h0 : 0 < l.length
    · refine .row l g 0 cap (fun i => [.int .i64 ((l[i]?).getD 0)]) h0 h1 h2 (fun i hi => ⟨by simp [intC, hi], rfl⟩) fun i hi r hr => ?_
      obtain rfl : r = 0 := by omega
      rw [Nat.mul_one, Nat.add_zero, Nat.zero_add, World.ownsRow.cellAt h i (by omega)]
      simp [hi]
    · have e : l = [] := List.eq_nil_of_length_eq_zero (by omega)
      subst e
      exact .em _ _
theorem newsI {w : World} {b off : Nat} {k : List Int} (kk : ∀ i (_ : i < k.length), w.cell? ⟨b, off + i, none⟩ = some (.int .i64 k[i])) : ∀ j u, (k.map (fun n => Value.int .i64 n))[j]? = some u → w.cell? ((⟨b, off, none⟩ : Addr).add j) = some u := fun j u hu => by
  have hadd : (⟨b, off, none⟩ : Addr).add j = ⟨b, off + j, none⟩ := by unfold Addr.add; split <;> simp_all
  have hj : j < k.length := by have := (List.getElem?_eq_some_iff.1 hu).1; simpa using this
  rw [hadd, kk j hj, ← hu]
  simp [hj]
theorem oneI (k : List Int) : ∀ u ∈ k.map (fun n => Value.int .i64 n), u.oneCell' = true := fun u hu => by
  obtain ⟨n, _, rfl⟩ := List.mem_map.1 hu
  rfl
theorem wpList_append_ints {ops : Array Oper} {rest : List Oper} {o : Oper} {a : Act} {Q : Exit → Act → World → Prop} (hgd : o.guard = none) (s x : Operand)
    (ho : o.op = .call { callee := .builtin .append, args := #[s, x], argTypes := #[69, 69] })
    {D : Nat} {w : World} {l k : List Int} {a0 : Option Addr} {cap : Nat} {vk : Value} (hs : a.eval s = .slice a0 l.length cap) (hx : a.eval x = vk) (hn : l.length + k.length ≤ 2000000)
    (hO : IOwn D l (.slice a0 l.length cap) w) (hD : D ≤ w.heap.size) (hk : IRow w k vk)
    (h : ∀ a1 cp w', IOwn D (l ++ k) (.slice a1 (l ++ k).length cp) w' → w.grownBy w' (Value.slice a0 l.length cap).ownBlock → wpList Try.prog ops Q rest (a.put o.dst (.slice a1 (l ++ k).length cp)) w') : wpList Try.prog ops Q (o :: rest) a w := by
  obtain ⟨i0, hi, hz0, hz1, hz2⟩ := info_parts Try.infoI
  have hu : Try.prog.underlying 69 = some (.slice 3) := Try.underlying69
  have none_case : ∀ (ad : Addr) (c : Nat), k = [] → vk = .slice (some ad) 0 c → wpList Try.prog ops Q (o :: rest) a w := by
    intro ad c hk0 hv
    subst hk0
    refine wpList_append_own_at w hgd s x 69 ho D 3 i0 _ 1 8 hu hi hz0 hz1 hz2 rfl (by decide) _ l.length _ hs hO ad 0 c [] (hx.trans hv) rfl (fun j u e => by simp at e) (fun u e => by cases e) (by unfold maxLen; simp at hn; omega) (by simp at hn; omega) hD ?_
    intro v' w' h1 h2 h3 h4
    have hA : IOwn D (l ++ []) v' w' := by unfold IOwn; rw [List.append_nil]; simpa using h1
    obtain ⟨a1, cp, hv⟩ := hA.row.shape
    rw [hv] at hA ⊢
    exact h a1 cp w' hA h2
  cases hk with
  | nl =>
    refine wpList_append_own_none hgd s x 69 ho D 3 i0 1 hu hi _ l.length _ hs hO hx ?_
    have := h a0 cap w (by rw [List.append_nil]; exact hO) (World.grownBy.refl _ _)
    rwa [List.append_nil] at this
  | em ad c => exact none_case ad c rfl rfl
  | row l' b off cp cs h0 h1 h2 h3 h4 =>
    have kk : ∀ i (_ : i < k.length), w.cell? ⟨b, off + i, none⟩ = some (.int .i64 k[i]) := fun i hi => by
      have e := h4 i hi 0 (by omega)
      rw [(h3 i hi).1, Nat.mul_one] at e
      exact e
    refine wpList_append_lies w hgd s x 69 ho D 3 i0 _ 1 8 hu hi hz0 hz1 hz2 rfl (by decide) _ l.length _ hs hO ⟨b, off, none⟩ k.length cp (k.map (fun n => Value.int .i64 n)) hx (by simp) (newsI kk) (oneI k) h0 (by unfold maxLen; omega) (by omega) hD _ rfl ?_
    intro g cp1 w' h1 h2 h3 h4
    have hlen : (l ++ k).length = l.length + k.length := List.length_append
    have hF := h (some ⟨g, 0, none⟩) cp1 w'
    rw [hlen] at hF
    refine hF ?_ h2
    unfold IOwn
    rw [hlen, List.map_append]
    exact h1
end Go.Proofs.Ytggefpkfikimiaa
/- A twin of a row of arguments is that row, in new memory. No conditions but sizes. -/
namespace Go.Proofs.Ytggefpkfikimiaa
open Go.RowKit Go.Joins
set_option linter.unusedVariables false

def TwinArgsPost (w : World) (l : List ArgT) (e : Ending) (w' : World) : Prop := ∃ a cap, e = .returned (.slice a l.length cap) ∧ ArgsOwn (fun b => w.heap.size ≤ b ∧ b < w'.heap.size) w.heap.size w' l (.slice a l.length cap) ∧ Below w.heap.size w w'
def TwaInv (w : World) (l : List ArgT) (v i : Value) (wr : World) : Prop := ∃ (j : Nat) (f : Nat → List Value), j ≤ l.length ∧ i = .int .i64 j ∧ wr.ownsRow w.heap.size 38 7 v j ((List.range j).flatMap f) ∧
  (∀ i (_ : i < j) (h : i < l.length), argCS (fun b => w.heap.size ≤ b ∧ b < wr.heap.size ∧ some b ≠ v.ownBlock) wr l[i] (f i)) ∧ Below w.heap.size w wr
theorem box_store7 {W : World} {B : Nat} {ty : TypeId} {x0 x1 x2 x3 x4 x5 x6 : Value} (h : W.heap[B]? = some (.cells #[x0, x1, x2, x3, x4, x5, x6] ty (0, 0))) (y1 y2 y3 y4 y6 : Value) :
    (((((W.setCell ⟨B, 1, none⟩ y1).setCell ⟨B, 2, none⟩ y2).setCell ⟨B, 3, none⟩ y3).setCell ⟨B, 4, none⟩ y4).setCell ⟨B, 6, none⟩ y6).heap[B]? = some (.cells #[x0, y1, y2, y3, y4, x5, y6] ty (0, 0)) := by
  have h1 := heap_setCell_same W B 1 _ ty y1 h
  have h2 := heap_setCell_same _ B 2 _ ty y2 h1
  have h3 := heap_setCell_same _ B 3 _ ty y3 h2
  have h4 := heap_setCell_same _ B 4 _ ty y4 h3
  have h5 := heap_setCell_same _ B 6 _ ty y6 h4
  simpa using h5
theorem below_store7 {W : World} {B D : Nat} (hD : D ≤ B) (y1 y2 y3 y4 y6 : Value) : Below D W (((((W.setCell ⟨B, 1, none⟩ y1).setCell ⟨B, 2, none⟩ y2).setCell ⟨B, 3, none⟩ y3).setCell ⟨B, 4, none⟩ y4).setCell ⟨B, 6, none⟩ y6) :=
  (((((Below.refl D W).setCell (p := ⟨B, 1, none⟩) hD y1).setCell (p := ⟨B, 2, none⟩) hD y2).setCell (p := ⟨B, 3, none⟩) hD y3).setCell (p := ⟨B, 4, none⟩) hD y4).setCell (p := ⟨B, 6, none⟩) hD y6
theorem other_store7 {W : World} {B b : Nat} (hb : b ≠ B) (y1 y2 y3 y4 y6 : Value) : (((((W.setCell ⟨B, 1, none⟩ y1).setCell ⟨B, 2, none⟩ y2).setCell ⟨B, 3, none⟩ y3).setCell ⟨B, 4, none⟩ y4).setCell ⟨B, 6, none⟩ y6).heap[b]? = W.heap[b]? := by
  rw [Below.heap_setCell _ _ _ _ (by simpa using hb), Below.heap_setCell _ _ _ _ (by simpa using hb), Below.heap_setCell _ _ _ _ (by simpa using hb), Below.heap_setCell _ _ _ _ (by simpa using hb), Below.heap_setCell _ _ _ _ (by simpa using hb)]
theorem cells7 {W : World} {B : Nat} {ty : TypeId} {x0 x1 x2 x3 x4 x5 x6 : Value} (h : W.heap[B]? = some (.cells #[x0, x1, x2, x3, x4, x5, x6] ty (0, 0))) : (W.cell? ⟨B, 0, none⟩ = some x0 ∧ W.cell? ⟨B, 1, none⟩ = some x1 ∧ W.cell? ⟨B, 2, none⟩ = some x2 ∧ W.cell? ⟨B, 3, none⟩ = some x3 ∧ W.cell? ⟨B, 4, none⟩ = some x4 ∧ W.cell? ⟨B, 5, none⟩ = some x5 ∧ W.cell? ⟨B, 6, none⟩ = some x6) ∧
    (W.frozen? ⟨B, 1, none⟩ = false ∧ W.frozen? ⟨B, 2, none⟩ = false ∧ W.frozen? ⟨B, 3, none⟩ = false ∧ W.frozen? ⟨B, 4, none⟩ = false ∧ W.frozen? ⟨B, 6, none⟩ = false) := by
  refine ⟨⟨?_, ?_, ?_, ?_, ?_, ?_, ?_⟩, ?_, ?_, ?_, ?_, ?_⟩ <;> simp [World.cell?, World.frozen?, h]
set_option maxRecDepth 100000 in
set_option maxHeartbeats 4000000 in
theorem twinargs_any (l : List ArgT) (hs : argsN l ≤ 1048576) (w : World) (v : Value) (hA : ARow w l v) :
    Calls Try.prog 37 #[v] w (TwinArgsPost w l) := by
  obtain ⟨a, cap, rfl⟩ := hA.shape
  have hla := argsN_len l
  have HS := Lib.hid (fun j (h : j < l.length) => Nat.le_trans (argN_le (List.getElem_mem h)) hs)
  have hll : l.length ≤ 1048576 := by omega
  have HA := Lib.hid hA
  clear hs hla hA
  go_enter Try.func37, Try.ntmps37
  go_wp2_with fail
  go_loopw [3, 4] (fun v i wr => TwaInv w l v i wr) (fun _ i _ => l.length - (RowKit.intOf i).toNat)
  case atStart => exact ⟨0, fun _ => [], Nat.zero_le _, rfl, World.ownsRow_nil _ _ _ _, fun i h => absurd h (Nat.not_lt_zero _), Below.refl _ _⟩
  case round =>
    obtain ⟨j, f, hj, rfl, hown, hats, hbw⟩ := hrel
    by_cases hlt : j < l.length
    · obtain ⟨b, off, vt, vd, vi, rfl, g1, g2, g3, k0, k1, k2, k3, k4, k5, k6⟩ := ARow.at (ARow.bel hbw HA.out) hlt
      obtain ⟨p1, c1, e1⟩ := g1.shape
      obtain ⟨p2, c2, e2⟩ := g2.shape
      obtain ⟨p3, c3, e3⟩ := g3.shape
      subst e1 e2 e3
      have hn : argN l[j] = size l[j].ty + sizeL l[j].dom + sizeL l[j].idx + 1 := rfl
      have hsj := HS.out j hlt
      have HO := Lib.hid hown
      have HT := Lib.hid hats
      have HW := Lib.hid hbw
      have hji : (j : Int) < (l.length : Int) := by omega
      have hj0 : (0 : Int) ≤ (j : Int) := by omega
      have R1 := Lib.hid (fun W (hW : Below wr.heap.size wr W) => c_twin l[j].ty (by omega) W (.slice p1 l[j].ty.kids.length c1) (g1.bel hW (Nat.le_refl _)))
      have R2 := Lib.hid (fun W (hW : Below wr.heap.size wr W) => twins_any l[j].dom (by have := length_le_sizeL l[j].dom; omega) (fun x hx => twin_any x (by have := size_le_of_mem hx; omega)) W (.slice p2 l[j].dom.length c2) (g2.bel hW (Nat.le_refl _)))
      have R3 := Lib.hid (fun W (hW : Below wr.heap.size wr W) => twins_any l[j].idx (by have := length_le_sizeL l[j].idx; omega) (fun x hx => twin_any x (by have := size_le_of_mem hx; omega)) W (.slice p3 l[j].idx.length c3) (g3.bel hW (Nat.le_refl _)))
      have H1 := Lib.hid (World.alloc_heap_new wr (.cells #[.bool l[j].r, .int .i64 l[j].ty.k, .int .i64 l[j].ty.n, .slice p1 l[j].ty.kids.length c1, .slice p2 l[j].dom.length c2, .int .i64 l[j].sort, .slice p3 l[j].idx.length c3] 38))
      have B1 := Lib.hid (below_al wr (.cells #[.bool l[j].r, .int .i64 l[j].ty.k, .int .i64 l[j].ty.n, .slice p1 l[j].ty.kids.length c1, .slice p2 l[j].dom.length c2, .int .i64 l[j].sort, .slice p3 l[j].idx.length c3] 38))
      have hz1 := Lib.hid (World.size_alloc wr (.cells #[.bool l[j].r, .int .i64 l[j].ty.k, .int .i64 l[j].ty.n, .slice p1 l[j].ty.kids.length c1, .slice p2 l[j].dom.length c2, .int .i64 l[j].sort, .slice p3 l[j].idx.length c3] 38))
      clear g1 g2 g3 hown hats hbw hn hsj
      go_wp2_with fail
      revert H1 B1 hz1
      generalize wr.alloc (.cells #[.bool l[j].r, .int .i64 l[j].ty.k, .int .i64 l[j].ty.n, .slice p1 l[j].ty.kids.length c1, .slice p2 l[j].dom.length c2, .int .i64 l[j].sort, .slice p3 l[j].idx.length c3] 38) = w1
      intro H1 B1 hz1
      have hz1' := hz1.out
      obtain ⟨⟨b0, b1, b2, b3, b4, b5, b6⟩, f1, f2, f3, f4, f6⟩ := cells7 H1.out
      clear k0 k1 k2 k3 k4 k5 k6
      refine wp_region_rel_tail 10 (by kernel_rfl) (by kernel_rfl) (by kernel_rfl) ?_
      simp only [List.take_succ_cons, List.take_zero]
      simp only [List.drop_succ_cons, List.drop_zero]
      clear b0 b1 b2 b3 b4 b5 b6 f1 f2 f3 f4 f6
      apply RelWalk.next 2
      · kernel_rfl
      · intro X _ W hW hcl
        simp only [List.take_succ_cons, List.take_zero]
        obtain ⟨⟨b0, b1, b2, b3, b4, b5, b6⟩, _⟩ := cells7 H1.out
        have r1 := fun q => gcell (hW q) b1
        have r2 := fun q => gcell (hW q) b2
        have r3 := fun q => gcell (hW q) b3
        clear b0 b1 b2 b3 b4 b5 b6
        repeat (go_big_quiet_step (fail))
        exact wpQuiet_nil rfl
      simp only [List.drop_succ_cons, List.drop_zero]
      refine RelWalk.made0 (plain fun v W => ∃ a cap, v = .agg #[.int .i64 l[j].ty.k, .int .i64 l[j].ty.n, .slice a l[j].ty.kids.length cap] ∧ AtS (fun b => wr.heap.size + 1 ≤ b) W l[j].ty.kids (.slice a l[j].ty.kids.length cap)) rfl (by kernel_rfl) (by kernel_rfl) rfl (mono_plain fun v W W' hg ⟨a, c, h1, h2⟩ => ⟨a, c, h1, h2.grw hg⟩) (fun w2 hg => ?_) ?_
      · have hc := Lib.hid (R1.out w2 (B1.out.trans (hg.mono B1.out.size)))
        go_simp
        exact rel_enter (hc.out.mono fun e w3 ⟨a3, c3, he, hA3, _, hb3⟩ => ⟨_, he, hb3, a3, c3, rfl, hA3.mono fun b hb => by have h1 := hg.size; have h2 := hb.1; omega⟩)
      simp only [Act.put, List.setIfInBounds_toArray, List.set_cons_zero, List.set_cons_succ]
      apply RelWalk.next 2
      · kernel_rfl
      · intro X _ W hW hcl
        simp only [List.take_succ_cons, List.take_zero]
        obtain ⟨⟨b0, b1, b2, b3, b4, b5, b6⟩, _⟩ := cells7 H1.out
        have r4 := fun q => gcell (hW q) b4
        clear b0 b1 b2 b3 b4 b5 b6
        repeat (go_big_quiet_step (fail))
        exact wpQuiet_nil rfl
      simp only [List.drop_succ_cons, List.drop_zero]
      refine RelWalk.made0 (plain fun v W => ∃ a cap, v = .slice a l[j].dom.length cap ∧ AtS (fun b => wr.heap.size + 1 ≤ b) W l[j].dom (.slice a l[j].dom.length cap)) rfl (by kernel_rfl) (by kernel_rfl) rfl (mono_plain fun v W W' hg ⟨a, c, h1, h2⟩ => ⟨a, c, h1, h2.grw hg⟩) (fun w2 hg => ?_) ?_
      · have hc := Lib.hid (R2.out w2 (B1.out.trans (hg.mono B1.out.size)))
        go_simp
        exact rel_enter (hc.out.mono fun e w3 ⟨a3, c3, he, hA3, _, hb3⟩ => ⟨_, he, hb3, a3, c3, rfl, hA3.mono fun b hb => by have h1 := hg.size; have h2 := hb.1; omega⟩)
      simp only [Act.put, List.setIfInBounds_toArray, List.set_cons_zero, List.set_cons_succ]
      apply RelWalk.next 2
      · kernel_rfl
      · intro X _ W hW hcl
        simp only [List.take_succ_cons, List.take_zero]
        obtain ⟨⟨b0, b1, b2, b3, b4, b5, b6⟩, _⟩ := cells7 H1.out
        have r6 := fun q => gcell (hW q) b6
        clear b0 b1 b2 b3 b4 b5 b6
        repeat (go_big_quiet_step (fail))
        exact wpQuiet_nil rfl
      simp only [List.drop_succ_cons, List.drop_zero]
      refine RelWalk.made0 (plain fun v W => ∃ a cap, v = .slice a l[j].idx.length cap ∧ AtS (fun b => wr.heap.size + 1 ≤ b) W l[j].idx (.slice a l[j].idx.length cap)) rfl (by kernel_rfl) (by kernel_rfl) rfl (mono_plain fun v W W' hg ⟨a, c, h1, h2⟩ => ⟨a, c, h1, h2.grw hg⟩) (fun w2 hg => ?_) ?_
      · have hc := Lib.hid (R3.out w2 (B1.out.trans (hg.mono B1.out.size)))
        go_simp
        exact rel_enter (hc.out.mono fun e w3 ⟨a3, c3, he, hA3, _, hb3⟩ => ⟨_, he, hb3, a3, c3, rfl, hA3.mono fun b hb => by have h1 := hg.size; have h2 := hb.1; omega⟩)
      simp only [Act.put, List.setIfInBounds_toArray, List.set_cons_zero, List.set_cons_succ]
      apply RelWalk.rest
      · kernel_rfl
      · intro X _ W hW hcl
        repeat (go_big_quiet_step (fail))
        exact wpQuiet_nil rfl
      intro g w2 hg hpt
      clear hpt
      have hbx := Lib.hid ((hg.block wr.heap.size (by omega)).trans H1.out)
      obtain ⟨⟨b0, b1, b2, b3, b4, b5, b6⟩, f1, f2, f3, f4, f6⟩ := cells7 hbx.out
      have HG := Lib.hid hg
      clear hg
      simp only [Spread]
      rintro v24 ⟨a3, d3, rfl, hI⟩ v21 ⟨a2, d2, rfl, hD⟩ v18 ⟨a1, d1, rfl, hT⟩
      simp only [Act.put, List.setIfInBounds_toArray, List.set_cons_zero, List.set_cons_succ]
      have HIx := Lib.hid hI
      have HDx := Lib.hid hD
      have HTx := Lib.hid hT
      clear hI hD hT
      go_upto_region 7 with (fail)
      clear b0 b1 b2 b3 b4 b5 b6 f1 f2 f3 f4 f6
      have hb2 : Below wr.heap.size wr w2 := B1.out.trans (HG.out.mono B1.out.size)
      have hzz : w1.heap.size ≤ w2.heap.size := HG.out.size
      have E1 := box_store7 hbx.out (.int .i64 l[j].ty.k) (.int .i64 l[j].ty.n) (.slice a1 l[j].ty.kids.length d1) (.slice a2 l[j].dom.length d2) (.slice a3 l[j].idx.length d3)
      have E2 := hb2.trans (below_store7 (W := w2) (B := wr.heap.size) (D := wr.heap.size) (Nat.le_refl _) (.int .i64 l[j].ty.k) (.int .i64 l[j].ty.n) (.slice a1 l[j].ty.kids.length d1) (.slice a2 l[j].dom.length d2) (.slice a3 l[j].idx.length d3))
      have E3 : ∀ b, b ≠ wr.heap.size → (((((w2.setCell ⟨wr.heap.size, 1, none⟩ (.int .i64 l[j].ty.k)).setCell ⟨wr.heap.size, 2, none⟩ (.int .i64 l[j].ty.n)).setCell ⟨wr.heap.size, 3, none⟩ (.slice a1 l[j].ty.kids.length d1)).setCell ⟨wr.heap.size, 4, none⟩ (.slice a2 l[j].dom.length d2)).setCell ⟨wr.heap.size, 6, none⟩ (.slice a3 l[j].idx.length d3)).heap[b]? = w2.heap[b]? := fun b hb => other_store7 hb (.int .i64 l[j].ty.k) (.int .i64 l[j].ty.n) (.slice a1 l[j].ty.kids.length d1) (.slice a2 l[j].dom.length d2) (.slice a3 l[j].idx.length d3)
      have E4 : (((((w2.setCell ⟨wr.heap.size, 1, none⟩ (.int .i64 l[j].ty.k)).setCell ⟨wr.heap.size, 2, none⟩ (.int .i64 l[j].ty.n)).setCell ⟨wr.heap.size, 3, none⟩ (.slice a1 l[j].ty.kids.length d1)).setCell ⟨wr.heap.size, 4, none⟩ (.slice a2 l[j].dom.length d2)).setCell ⟨wr.heap.size, 6, none⟩ (.slice a3 l[j].idx.length d3)).heap.size = w2.heap.size := by simp
      revert E1 E2 E3 E4
      generalize (((((w2.setCell ⟨wr.heap.size, 1, none⟩ (.int .i64 l[j].ty.k)).setCell ⟨wr.heap.size, 2, none⟩ (.int .i64 l[j].ty.n)).setCell ⟨wr.heap.size, 3, none⟩ (.slice a1 l[j].ty.kids.length d1)).setCell ⟨wr.heap.size, 4, none⟩ (.slice a2 l[j].dom.length d2)).setCell ⟨wr.heap.size, 6, none⟩ (.slice a3 l[j].idx.length d3)) = w3
      intro E1 E2 E3 E4
      have E1 := Lib.hid E1
      have E2 := Lib.hid E2
      have E3 := Lib.hid E3
      have hzz3 : wr.heap.size < w3.heap.size := by omega
      have AT : AtS (fun b => wr.heap.size + 1 ≤ b ∧ b < w3.heap.size) w3 l[j].ty.kids (.slice a1 l[j].ty.kids.length d1) := HTx.out.lt.same fun b hb => ⟨⟨hb.1, by omega⟩, E3.out b (by omega)⟩
      have AD : AtS (fun b => wr.heap.size + 1 ≤ b ∧ b < w3.heap.size) w3 l[j].dom (.slice a2 l[j].dom.length d2) := HDx.out.lt.same fun b hb => ⟨⟨hb.1, by omega⟩, E3.out b (by omega)⟩
      have AI : AtS (fun b => wr.heap.size + 1 ≤ b ∧ b < w3.heap.size) w3 l[j].idx (.slice a3 l[j].idx.length d3) := HIx.out.lt.same fun b hb => ⟨⟨hb.1, by omega⟩, E3.out b (by omega)⟩
      have HA3 := Lib.hid (And.intro AT (And.intro AD AI))
      have HR1 := Lib.hid (show w3.ownsRow w.heap.size 38 7 u3 j ((List.range j).flatMap f) from HO.out.kept (row := none) ⟨E2.out.os, E2.out.tape, E2.out.output, E2.out.size, fun k hk _ => E2.out.block k hk⟩ (by cases u3.ownBlock <;> simp))
      have hol := HO.out.lt
      have HOL := Lib.hid hol
      have hbw0 := HW.out.size
      obtain ⟨⟨b0, b1, b2, b3, b4, b5, b6⟩, f1, f2, f3, f4, f6⟩ := cells7 E1.out
      have hm1 : j + 1 ≤ maxLen := by unfold maxLen; omega
      have hm2 : (j + 1) * 104 ≤ 140737488355328 := by omega
      obtain ⟨i0, hi, hz0, hz1, hz2⟩ := info_parts Try.infoA
      clear AT AD AI hol HTx HDx HIx hb2 f1 f2 f3 f4 f6 hbx E4 hzz
      go_wp2_with (at_builtin; refine wpList_append_lies _ rfl (.tmp 28) (.tmp 30) 27 rfl w.heap.size 38 i0 _ 7 104 Try.underlying27 hi hz0 hz1 hz2 rfl (by decide) u3 j _ rfl (HR1.out.alloc _) ⟨w3.heap.size, 0, none⟩ 1 1 [.bool l[j].r, .int .i64 l[j].ty.k, .int .i64 l[j].ty.n, .slice a1 l[j].ty.kids.length d1, .slice a2 l[j].dom.length d2, .int .i64 l[j].sort, .slice a3 l[j].idx.length d3] rfl rfl (World.news_of_block (cs := #[.bool l[j].r, .int .i64 l[j].ty.k, .int .i64 l[j].ty.n, .slice a1 l[j].ty.kids.length d1, .slice a2 l[j].dom.length d2, .int .i64 l[j].sort, .slice a3 l[j].idx.length d3]) (World.alloc_heap_new w3 _)) (by simp [Value.oneCell']) (by decide) hm1 hm2 (by simp; omega) (w3.heap.size + 1) (by simp) ?_; intro g cp w4 hown4 hgrow4 hat4 hlt4)
      have hH : w3.heap.size < w4.heap.size := by have := hgrow4.size; simp at this; omega
      have blk : ∀ b, b < w3.heap.size → some b ≠ u3.ownBlock → w4.heap[b]? = w3.heap[b]? := fun b hb hne => (hgrow4.block b (by simp; omega) hne).trans (Below.heap_alloc w3 _ b hb)
      have hgne : ∀ b, b < w3.heap.size → some b ≠ u3.ownBlock → some b ≠ some g := fun b hb hne e => by
        rcases hat4 with h | h
        · exact hne (by rw [h]; exact e)
        · cases e; omega
      have hol := HOL.out
      have hb1s := E2.out.size
      go_roundw
      case rel =>
        refine ⟨j + 1, fun i => if i < j then f i else [.bool l[j].r, .int .i64 l[j].ty.k, .int .i64 l[j].ty.n, .slice a1 l[j].ty.kids.length d1, .slice a2 l[j].dom.length d2, .int .i64 l[j].sort, .slice a3 l[j].idx.length d3], by omega, by go_num, ?_, fun i hi hil => ?_, ?_⟩
        · rw [flatG_snoc f (fun i => if i < j then f i else [.bool l[j].r, .int .i64 l[j].ty.k, .int .i64 l[j].ty.n, .slice a1 l[j].ty.kids.length d1, .slice a2 l[j].dom.length d2, .int .i64 l[j].sort, .slice a3 l[j].idx.length d3]) (fun i hi => by rw [if_pos hi]), if_neg (by omega)]
          exact hown4
        · by_cases hij : i < j
          · simp only [if_pos hij]
            exact (HT.out i hij hil).same fun b hb => ⟨⟨hb.1, by omega, hgne b (by omega) hb.2.2⟩, (blk b (by omega) hb.2.2).trans (E2.out.block b hb.2.1)⟩
          · obtain rfl : i = j := by omega
            simp only [if_neg hij]
            have nw : ∀ b, wr.heap.size + 1 ≤ b → some b ≠ u3.ownBlock := fun b hb e => by have := (hol b e.symm).2; omega
            have sm : ∀ b, (wr.heap.size + 1 ≤ b ∧ b < w3.heap.size) → (w.heap.size ≤ b ∧ b < w4.heap.size ∧ some b ≠ (Value.slice (some ⟨g, 0, none⟩) (i + 1) cp).ownBlock) ∧ w4.heap[b]? = w3.heap[b]? := fun b hb =>
              ⟨⟨by omega, by omega, hgne b hb.2 (nw b hb.1)⟩, blk b hb.2 (nw b hb.1)⟩
            exact ⟨_, _, _, rfl, HA3.out.1.same sm, HA3.out.2.1.same sm, HA3.out.2.2.same sm⟩
        · exact (HW.out.trans (E2.out.mono hbw0)).trans (((Below.refl w.heap.size w3).alloc (by omega) _).grown hgrow4 (by simp; omega) (fun k hk => (hol k hk).1))
      case measure => simp [RowKit.intOf]; omega
    · obtain rfl : j = l.length := by omega
      have hlt : decide ((l.length : Int) < (l.length : Int)) = false := by simp
      have HO := Lib.hid hown
      have HT := Lib.hid hats
      have HW := Lib.hid hbw
      clear hown hats hbw
      obtain ⟨av, cv, rfl⟩ : ∃ a c, u3 = .slice a l.length c := by
        rcases ownsRow_forms HO.out with ⟨h, h0⟩ | ⟨_, _, h⟩
        · exact ⟨none, 0, by rw [h, h0]⟩
        · exact ⟨_, _, h⟩
      go_wp2_with fail
      go_ret
      exact ⟨av, cv, rfl, ⟨fun b hb => HO.out.lt b hb, f, HO.out, fun i hi => (HT.out i hi hi).same fun b hb => ⟨⟨⟨hb.1, hb.2.1⟩, hb.2.2⟩, rfl⟩⟩, HW.out⟩
end Go.Proofs.Ytggefpkfikimiaa
