/- Rows of things of whatever size, in blocks of a set; rows that were made by appends; blocks' parts in blocks of a set. No conditions. -/
import Derived.Test.YtcegocmndfoflaaHq
import Derived.Test.YtcegocmndfoflaaTx
namespace Go.Proofs.Ytcegocmndfoflaa
open Go.RowKit
set_option linter.unusedVariables false

theorem flatG_len {sz n : Nat} (f : Nat → List Value) (hf : ∀ i, i < n → (f i).length = sz) : ((List.range n).flatMap f).length = n * sz := by
  induction n with
  | zero => simp
  | succ n ih => rw [List.range_succ, List.flatMap_append, List.length_append, ih fun i hi => hf i (by omega)]; simp [hf n (by omega), Nat.succ_mul]
theorem flatG_get {sz n : Nat} (f : Nat → List Value) (hf : ∀ i, i < n → (f i).length = sz) (i r : Nat) (hi : i < n) (hr : r < sz) : ((List.range n).flatMap f)[i * sz + r]? = (f i)[r]? := by
  induction n with
  | zero => omega
  | succ n ih =>
    have hl := flatG_len f (n := n) fun i hi => hf i (by omega)
    rw [List.range_succ, List.flatMap_append]
    by_cases h : i < n
    · have : (i + 1) * sz ≤ n * sz := Nat.mul_le_mul_right sz h
      rw [Nat.succ_mul] at this
      rw [List.getElem?_append_left (by rw [hl]; omega), ih (fun i hi => hf i (by omega)) h]
    · obtain rfl : i = n := by omega
      rw [List.getElem?_append_right (by rw [hl]; omega), hl]
      simp
theorem flatG_snoc {n : Nat} (f f' : Nat → List Value) (h : ∀ i, i < n → f' i = f i) : (List.range (n + 1)).flatMap f' = (List.range n).flatMap f ++ f' n := by
  rw [List.range_succ, List.flatMap_append]
  congr 1
  · rw [List.flatMap_def, List.flatMap_def]
    congr 1
    apply List.map_congr_left
    intro i hi
    exact h i (by simpa using hi)
  · simp
/-- A row of things, each of sz cells, of which C tells, in a block of S. -/
inductive GAtS {α : Type} (S : Nat → Prop) (sz : Nat) (C : α → List Value → Prop) (w : World) : List α → Value → Prop
  | nl : GAtS S sz C w [] (.slice none 0 0)
  | em (a : Addr) (cap : Nat) : GAtS S sz C w [] (.slice (some a) 0 cap)
  | row (l : List α) (b off cap : Nat) (cs : Nat → List Value) (h0 : 0 < l.length) (hS : S b) (hlen : l.length ≤ cap) (hm : cap ≤ maxLen) (hC : ∀ i (_ : i < l.length), C l[i] (cs i) ∧ (cs i).length = sz)
      (hk : ∀ i (_ : i < l.length), ∀ r, r < sz → w.cell? ⟨b, off + i * sz + r, none⟩ = (cs i)[r]?) : GAtS S sz C w l (.slice (some ⟨b, off, none⟩) l.length cap)
theorem GAtS.at {α : Type} {S : Nat → Prop} {sz : Nat} {C C' : α → List Value → Prop} {w : World} (hCC : ∀ a cs, C a cs → C' a cs) {l : List α} {v : Value} (h : GAtS S sz C w l v) : GAt sz C' w l v := by
  cases h with
  | nl => exact .nl
  | em a cap => exact .em a cap
  | row l b off cap cs h0 hS h1 h2 h3 h4 => exact .row l b off cap cs h0 h1 h2 (fun i hi => ⟨hCC _ _ (h3 i hi).1, (h3 i hi).2⟩) h4
theorem GAtS.same {α : Type} {S T : Nat → Prop} {sz : Nat} {C C' : α → List Value → Prop} {w w' : World} (h : ∀ b, S b → T b ∧ w'.heap[b]? = w.heap[b]?) (hCC : ∀ a cs, C a cs → C' a cs) {l : List α} {v : Value} (hA : GAtS S sz C w l v) : GAtS T sz C' w' l v := by
  cases hA with
  | nl => exact .nl
  | em a cap => exact .em a cap
  | row l b off cap cs h0 hS h1 h2 h3 h4 =>
    refine .row l b off cap cs h0 (h b hS).1 h1 h2 (fun i hi => ⟨hCC _ _ (h3 i hi).1, (h3 i hi).2⟩) fun i hi r hr => ?_
    rw [World.cell?_of_block (w := w) (h b hS).2]
    exact h4 i hi r hr
theorem gats_of_row {α : Type} {S : Nat → Prop} {sz : Nat} {C : α → List Value → Prop} {w : World} {base : Nat} {ty : TypeId} {v : Value} {l : List α} {f : Nat → List Value} (h : w.ownsRow base ty sz v l.length ((List.range l.length).flatMap f)) (hz : 0 < sz)
    (hS : ∀ b, v.ownBlock = some b → S b) (hC : ∀ i (_ : i < l.length), C l[i] (f i) ∧ (f i).length = sz) : GAtS S sz C w l v := by
  rcases h.2 with ⟨rfl, h0⟩ | ⟨g, cap, cur, rfl, hb, hg, h1, h2, h3, htake⟩
  · rw [List.eq_nil_of_length_eq_zero h0]; exact .nl
  · by_cases h0 : 0 < l.length
    · refine .row l g 0 cap f h0 (hS g rfl) h1 h2 hC fun i hi r hr => ?_
      have hlt : i * sz + r < l.length * sz := by
        have : (i + 1) * sz ≤ l.length * sz := Nat.mul_le_mul_right sz hi
        rw [Nat.succ_mul] at this
        omega
      rw [Nat.zero_add, h.cellAt _ hlt, flatG_get f (fun i hi => (hC i hi).2) i r hi hr]
    · have e : l = [] := List.eq_nil_of_length_eq_zero (by omega)
      subst e
      exact .em _ _
def argCS (S : Nat → Prop) (w : World) (a : ArgT) (cs : List Value) : Prop := ∃ vt vd vi, cs = [.bool a.r, .int .i64 a.ty.k, .int .i64 a.ty.n, vt, vd, .int .i64 a.sort, vi] ∧ AtS S w a.ty.kids vt ∧ AtS S w a.dom vd ∧ AtS S w a.idx vi
theorem argCS.c {S : Nat → Prop} {w : World} {a : ArgT} {cs : List Value} (h : argCS S w a cs) : argC w a cs := by
  obtain ⟨vt, vd, vi, e, h1, h2, h3⟩ := h
  exact ⟨vt, vd, vi, e, h1.at, h2.at, h3.at⟩
theorem argCS.same {S T : Nat → Prop} {w w' : World} (hs : ∀ b, S b → T b ∧ w'.heap[b]? = w.heap[b]?) {a : ArgT} {cs : List Value} (h : argCS S w a cs) : argCS T w' a cs := by
  obtain ⟨vt, vd, vi, e, h1, h2, h3⟩ := h
  exact ⟨vt, vd, vi, e, h1.same hs, h2.same hs, h3.same hs⟩
theorem argCS.len {S : Nat → Prop} {w : World} {a : ArgT} {cs : List Value} (h : argCS S w a cs) : cs.length = 7 := by
  obtain ⟨vt, vd, vi, e, _⟩ := h
  rw [e]; rfl
theorem argCS.one {S : Nat → Prop} {w : World} {a : ArgT} {cs : List Value} (h : argCS S w a cs) : ∀ u ∈ cs, u.oneCell' = true := by
  obtain ⟨vt, vd, vi, e, h1, h2, h3⟩ := h
  obtain ⟨_, _, e1⟩ := h1.at.shape
  obtain ⟨_, _, e2⟩ := h2.at.shape
  obtain ⟨_, _, e3⟩ := h3.at.shape
  rw [e, e1, e2, e3]
  intro u hu
  simp only [List.mem_cons, List.not_mem_nil, or_false] at hu
  rcases hu with rfl | rfl | rfl | rfl | rfl | rfl | rfl <;> rfl
abbrev ARowS (S : Nat → Prop) (w : World) : List ArgT → Value → Prop := GAtS S 7 (argCS S w) w
theorem ARowS.at {S : Nat → Prop} {w : World} {l : List ArgT} {v : Value} (h : ARowS S w l v) : ARow w l v := GAtS.at (fun _ _ h => h.c) h
theorem ARowS.same {S T : Nat → Prop} {w w' : World} (hs : ∀ b, S b → T b ∧ w'.heap[b]? = w.heap[b]?) {l : List ArgT} {v : Value} (h : ARowS S w l v) : ARowS T w' l v := GAtS.same hs (fun _ _ h => h.same hs) h
/-- A row of arguments that was made by appends: its own block, and what lies below it lies elsewhere. -/
def ArgsOwn (S : Nat → Prop) (base : Nat) (w : World) (l : List ArgT) (v : Value) : Prop := (∀ b, v.ownBlock = some b → S b) ∧ ∃ f, w.ownsRow base 49 7 v l.length ((List.range l.length).flatMap f) ∧ ∀ i (_ : i < l.length), argCS (fun b => S b ∧ some b ≠ v.ownBlock) w l[i] (f i)
theorem ArgsOwn.row {S : Nat → Prop} {base : Nat} {w : World} {l : List ArgT} {v : Value} (h : ArgsOwn S base w l v) : ARowS S w l v := by
  obtain ⟨h1, f, h2, h3⟩ := h
  exact gats_of_row h2 (by decide) h1 fun i hi => ⟨(h3 i hi).same fun b hb => ⟨hb.1, rfl⟩, (h3 i hi).len⟩
theorem Try.infoA : (Try.prog.info? 49).map (fun i => (i.zero, i.size, i.bytes)) = some (some (.agg #[.bool false, .int .i64 0, .int .i64 0, .slice none 0 0, .slice none 0 0, .int .i64 0, .slice none 0 0]), 7, 104) := by kernel_rfl
theorem Try.infoSo : (Try.prog.info? 44).map (fun i => (i.zero, i.size, i.bytes)) = some (some (.agg #[.slice none 0 0, .int .i64 0, .bool false, .int .i64 0, .int .i64 0, .slice none 0 0]), 6, 80) := by kernel_rfl
theorem Try.infoCn : (Try.prog.info? 46).map (fun i => (i.zero, i.size, i.bytes)) = some (some (.agg #[.int .i64 0, .slice none 0 0, .slice none 0 0, .int .i64 0, .int .i64 0, .slice none 0 0]), 6, 96) := by kernel_rfl
end Go.Proofs.Ytcegocmndfoflaa
