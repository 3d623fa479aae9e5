/- Rows that appends made, whose elements' parts lie in stretches of blocks of their own. No conditions. -/
import Derived.Test.YtcegocmndfoflaaHk
namespace Go.Proofs.Ytcegocmndfoflaa
open Go.RowKit Go.Joins
set_option linter.unusedVariables false

/-- A row that appends made, between two blocks; what belongs to an element lies in a stretch of its own, apart from the row's own block. -/
def RowO {α : Type} (ty : TypeId) (sz : Nat) (P : Nat → Nat → World → α → List Value → Prop) (base top : Nat) (w : World) (l : List α) (v : Value) : Prop :=
  (∀ b, v.ownBlock = some b → b < top) ∧ ∃ (f : Nat → List Value) (lo hi : Nat → Nat), w.ownsRow base ty sz v l.length ((List.range l.length).flatMap f) ∧
   (∀ i (_ : i < l.length), base ≤ lo i ∧ lo i ≤ hi i ∧ hi i ≤ top ∧ P (lo i) (hi i) w l[i] (f i) ∧ ∀ b, v.ownBlock = some b → b < lo i ∨ hi i ≤ b) ∧
   ∀ i i', i < l.length → i' < l.length → i ≠ i' → hi i ≤ lo i' ∨ hi i' ≤ lo i
/-- An element's property hangs on the blocks of its stretch alone. -/
def Local {α : Type} (P : Nat → Nat → World → α → List Value → Prop) : Prop := ∀ lo hi w w' a cs, (∀ b, lo ≤ b → b < hi → w'.heap[b]? = w.heap[b]?) → P lo hi w a cs → P lo hi w' a cs
theorem RowO.nil {α : Type} {ty : TypeId} {sz : Nat} {P : Nat → Nat → World → α → List Value → Prop} (base top : Nat) (w : World) : RowO ty sz P base top w [] (.slice none 0 0) :=
  ⟨(fun b h => by cases h), fun _ => [], fun _ => 0, fun _ => 0, World.ownsRow_nil _ _ _ _, fun i h => absurd h (Nat.not_lt_zero _), fun i _ h => absurd h (Nat.not_lt_zero _)⟩
theorem RowO.same {α : Type} {ty : TypeId} {sz : Nat} {P : Nat → Nat → World → α → List Value → Prop} (hP : Local P) {base top : Nat} {w w' : World} {l : List α} {v : Value} (h : RowO ty sz P base top w l v)
    (hs : ∀ b, base ≤ b → b < top → w'.heap[b]? = w.heap[b]?) : RowO ty sz P base top w' l v := by
  obtain ⟨h1, f, lo, hi, h2, h3, h4⟩ := h
  refine ⟨h1, f, lo, hi, ownsRow_same h2 fun b hb => hs b (h2.lt b hb).1 (h1 b hb), fun i hi' => ?_, h4⟩
  obtain ⟨a1, a2, a3, a4, a5⟩ := h3 i hi'
  exact ⟨a1, a2, a3, hP _ _ _ _ _ _ (fun b hb hb2 => hs b (by omega) (by omega)) a4, a5⟩
theorem RowO.snoc {α : Type} {ty : TypeId} {sz : Nat} {P : Nat → Nat → World → α → List Value → Prop} (hP : Local P) {base top : Nat} {w w3 w4 : World} {l : List α} {v : Value} (h : RowO ty sz P base top w l v)
    (ht : top ≤ w.heap.size) (hbw : base ≤ w.heap.size) (hb : Below w.heap.size w w3) {g cp : Nat} {a : α} {cs : List Value} (hown : w4.ownsRow base ty sz (.slice (some ⟨g, 0, none⟩) (l.length + 1) cp) (l.length + 1) ((List.range l.length).flatMap (Classical.choose h.2) ++ cs))
    (hgrow : w3.grownBy w4 v.ownBlock) (hat : v.ownBlock = some g ∨ w3.heap.size ≤ g) {s e : Nat} (hs : w.heap.size ≤ s) (hse : s ≤ e) (he : e ≤ w3.heap.size) (hp : P s e w3 a cs) :
    RowO ty sz P base w4.heap.size w4 (l ++ [a]) (.slice (some ⟨g, 0, none⟩) (l.length + 1) cp) := by
  have h1 := h.1
  obtain ⟨lo, hi, h2, h3, h4⟩ := Classical.choose_spec h.2
  generalize Classical.choose h.2 = f at *
  have hsz : w3.heap.size ≤ w4.heap.size := hgrow.size
  have hb3 := hb.size
  have blk : ∀ b, b < w3.heap.size → some b ≠ v.ownBlock → w4.heap[b]? = w3.heap[b]? := fun b hb hne => hgrow.block b hb hne
  have hl : (l ++ [a]).length = l.length + 1 := by simp
  refine ⟨fun b hb => (hown.lt b hb).2, fun i => if i < l.length then f i else cs, fun i => if i < l.length then lo i else s, fun i => if i < l.length then hi i else e, ?_, fun i hi' => ?_, fun i i' hi1 hi2 hne => ?_⟩
  · rw [hl, flatG_snoc f (fun i => if i < l.length then f i else cs) (fun i hi => by rw [if_pos hi]), if_neg (by omega)]
    exact hown
  · by_cases hi2 : i < l.length
    · obtain ⟨a1, a2, a3, a4, a5⟩ := h3 i hi2
      simp only [if_pos hi2]
      have hne : ∀ b, lo i ≤ b → b < hi i → some b ≠ v.ownBlock := fun b hb hb2 e => by rcases a5 b e.symm with h | h <;> omega
      have hget : (l ++ [a])[i] = l[i] := List.getElem_append_left hi2
      refine ⟨a1, a2, by omega, ?_, fun b hb => ?_⟩
      · rw [hget]
        exact hP _ _ _ _ _ _ (fun b hb hb2 => (blk b (by omega) (hne b hb hb2)).trans (Below.block ‹Below w.heap.size w w3› b (by omega))) a4
      · cases hb
        rcases hat with h | h
        · exact a5 _ h
        · exact .inr (by dsimp only; omega)
    · obtain rfl : i = l.length := by omega
      simp only [if_neg hi2]
      have hne : ∀ b, s ≤ b → some b ≠ v.ownBlock := fun b hb e => by have := h1 b e.symm; omega
      have hget : (l ++ [a])[l.length] = a := by simp
      refine ⟨by omega, hse, by omega, ?_, fun b hb => ?_⟩
      · rw [hget]
        exact hP _ _ _ _ _ _ (fun b hb hb2 => blk b (by omega) (hne b hb)) hp
      · cases hb
        rcases hat with h | h
        · have := h1 _ h; exact .inl (by dsimp only at this ⊢; omega)
        · exact .inr (by dsimp only; omega)
  · dsimp only
    by_cases c1 : i < l.length
    · by_cases c2 : i' < l.length
      · simp only [if_pos c1, if_pos c2]; exact h4 i i' c1 c2 hne
      · simp only [if_pos c1, if_neg c2]
        have := (h3 i c1).2.2.1
        left; omega
    · by_cases c2 : i' < l.length
      · simp only [if_neg c1, if_pos c2]
        have := (h3 i' c2).2.2.1
        right; omega
      · omega
/-- One turn of a loop that appends. -/
theorem RowO.step {α : Type} {ty : TypeId} {sz : Nat} {P : Nat → Nat → World → α → List Value → Prop} (hP : Local P) {base top : Nat} {w : World} {l : List α} {v : Value} {n : Nat} (hn : l.length = n) (h : RowO ty sz P base top w l v) (ht : top ≤ w.heap.size) (hbw : base ≤ w.heap.size) :
    ∃ f, w.ownsRow base ty sz v n ((List.range n).flatMap f) ∧ (∀ b, v.ownBlock = some b → base ≤ b ∧ b < top) ∧ ∀ (w3 w4 : World) (g cp : Nat) (a : α) (cs : List Value) (s e : Nat), Below w.heap.size w w3 → w4.ownsRow base ty sz (.slice (some ⟨g, 0, none⟩) (n + 1) cp) (n + 1) ((List.range n).flatMap f ++ cs) →
      w3.grownBy w4 v.ownBlock → (v.ownBlock = some g ∨ w3.heap.size ≤ g) → w.heap.size ≤ s → s ≤ e → e ≤ w3.heap.size → P s e w3 a cs → RowO ty sz P base w4.heap.size w4 (l ++ [a]) (.slice (some ⟨g, 0, none⟩) (n + 1) cp) := by
  subst hn
  obtain ⟨lo, hi, h2, h3, h4⟩ := Classical.choose_spec h.2
  exact ⟨Classical.choose h.2, h2, fun b hb => ⟨(h2.lt b hb).1, h.1 b hb⟩, fun w3 w4 g cp a cs s e hb hown hgrow hat hs hse he hp => h.snoc hP ht hbw hb hown hgrow hat hs hse he hp⟩
theorem RowO.row {α : Type} {ty : TypeId} {sz : Nat} {P : Nat → Nat → World → α → List Value → Prop} {C : α → List Value → Prop} {base top : Nat} {w : World} {l : List α} {v : Value} (hz : 0 < sz) (hC : ∀ lo hi a cs, P lo hi w a cs → C a cs ∧ cs.length = sz) (h : RowO ty sz P base top w l v) : GAt sz C w l v := by
  obtain ⟨h1, f, lo, hi, h2, h3, h4⟩ := h
  exact (gats_of_row (S := fun _ => True) h2 hz (fun _ _ => trivial) fun i hi' => hC _ _ _ _ (h3 i hi').2.2.2.1).at fun _ _ h => h
/-- A sort's cells, all that belongs to it in a stretch of blocks. -/
def sortO (lo hi : Nat) (w : World) (s : SortT) (cs : List Value) : Prop := ∃ va vt, cs = [va, .int .i64 s.level, .bool s.dec, .int .i64 s.decT.k, .int .i64 s.decT.n, vt] ∧ ARowS (In lo hi) w s.idx va ∧ AtS (In lo hi) w s.decT.kids vt
theorem sortO_local : Local sortO := fun lo hi w w' a cs hs ⟨va, vt, e, h1, h2⟩ => ⟨va, vt, e, ARowS.same (fun b hb => ⟨hb, hs b hb.1 hb.2⟩) h1, h2.same fun b hb => ⟨hb, hs b hb.1 hb.2⟩⟩
theorem sortO_c (lo hi : Nat) (w : World) (a : SortT) (cs : List Value) (h : sortO lo hi w a cs) : sortC w a cs ∧ cs.length = 6 := by
  obtain ⟨va, vt, e, h1, h2⟩ := h
  exact ⟨⟨va, vt, e, h1.at, h2.at⟩, by rw [e]; rfl⟩
/-- A con's cells, its rows in blocks from N on. -/
def conP (N lo hi : Nat) (w : World) (c : ConT) (cs : List Value) : Prop := conO lo hi N w c cs
theorem conP_local (N : Nat) : Local (conP N) := fun lo hi w w' a cs hs h => conO.same (Nat.le_refl _) (Nat.le_refl _) (Nat.le_refl _) hs h
theorem conP_c (N lo hi : Nat) (w : World) (a : ConT) (cs : List Value) (h : conP N lo hi w a cs) : conC w a cs ∧ cs.length = 6 := ⟨conO.c h, conO.len h⟩
abbrev SRowO (N top : Nat) (w : World) (l : List SortT) (v : Value) : Prop := RowO 44 6 sortO N top w l v
abbrev CRowO (N L top : Nat) (w : World) (l : List ConT) (v : Value) : Prop := RowO 46 6 (conP N) L top w l v
/-- A block in memory of its own, from block N on: the sorts below L, the cons from L on. -/
def BlkO (N : Nat) (w : World) (b : BlkT) (vs vc : Value) : Prop := ∃ L, N ≤ L ∧ L ≤ w.heap.size ∧ SRowO N L w b.sorts vs ∧ CRowO N L w.heap.size w b.cons vc
theorem BlkO.at {N : Nat} {w : World} {b : BlkT} {vs vc : Value} (h : BlkO N w b vs vc) : BAt w b vs vc := by
  obtain ⟨L, _, _, h1, h2⟩ := h
  exact ⟨h1.row (by decide) fun lo hi a cs h => sortO_c lo hi w a cs h, h2.row (by decide) fun lo hi a cs h => conP_c N lo hi w a cs h⟩
end Go.Proofs.Ytcegocmndfoflaa
