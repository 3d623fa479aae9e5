/- A row appended to a row of the call's own: append(twins, k...). No conditions. -/
import Derived.Test.YtblebboamopffaaUc
import Derived.Laws.AppendOwnNone
namespace Go.Proofs.Ytblebboamopffaa
open Go.RowKit
set_option linter.unusedVariables false

theorem cells3_append (l k : List Tm) (vs ws : Nat → Value) : cells3 (l ++ k) (fun i => if i < l.length then vs i else ws (i - l.length)) = cells3 l vs ++ cells3 k ws := by
  unfold cells3
  rw [List.length_append, List.range_add, List.flatMap_append]
  congr 1
  · rw [List.flatMap_def, List.flatMap_def]
    congr 1
    apply List.map_congr_left
    intro i hi
    have hi' : i < l.length := by simpa using hi
    rw [List.getElem?_append_left hi']
    simp only [if_pos hi']
  · rw [List.flatMap_def, List.flatMap_def, List.map_map]
    congr 1
    apply List.map_congr_left
    intro i hi
    simp only [Function.comp_apply]
    rw [List.getElem?_append_right (by omega), if_neg (by omega), Nat.add_sub_cancel_left]
/-- Behind an append of a row of w0's to a row of the call's own. -/
theorem at_appended {w0 w w' : World} {l k : List Tm} {v v' : Value} {vs ws : Nat → Value} (hb : Below w0.heap.size w0 w) (hb2 : Below w0.heap.size w0 w')
    (hl : ∀ i (_ : i < l.length), AtS (fun b => w0.heap.size ≤ b ∧ b < w.heap.size ∧ some b ≠ v.ownBlock) w l[i].kids (vs i)) (hg : w.grownBy w' v.ownBlock)
    (hown : w'.ownsRow w0.heap.size 24 3 v' (l.length + k.length) (cells3 l vs ++ cells3 k ws)) (hk : ∀ i (_ : i < k.length), At w0 k[i].kids (ws i)) : At w' (l ++ k) v' := by
  rw [← cells3_append, ← List.length_append] at hown
  refine at_of_row hown fun i hi => ?_
  by_cases h : i < l.length
  · rw [if_pos h, List.getElem_append_left h]
    exact ((hl i h).same (T := fun _ => True) fun b hb => ⟨trivial, hg.block b hb.2.1 hb.2.2⟩).at
  · rw [if_neg h, List.getElem_append_right (by omega)]
    exact (hk (i - l.length) (by rw [List.length_append] at hi; omega)).bel hb2 (Nat.le_refl _)
theorem wpList_append_rows {ops : Array Oper} {rest : List Oper} {o : Oper} {a : Act} {Q : Exit → Act → World → Prop} (hgd : o.guard = none) (s x : Operand)
    (ho : o.op = .call { callee := .builtin .append, args := #[s, x], argTypes := #[22, 22] })
    {w0 w : World} {l k : List Tm} {a0 : Option Addr} {cap : Nat} {vk : Value} (hs : a.eval s = .slice a0 l.length cap) (hx : a.eval x = vk) (hn : l.length + k.length ≤ 1000000)
    (hown : ∃ vs, w.ownsRow w0.heap.size 24 3 (.slice a0 l.length cap) l.length (cells3 l vs) ∧ ∀ i (_ : i < l.length), AtS (fun b => w0.heap.size ≤ b ∧ b < w.heap.size ∧ some b ≠ (Value.slice a0 l.length cap).ownBlock) w l[i].kids (vs i))
    (hb : Below w0.heap.size w0 w) (hk : At w0 k vk)
    (h : ∀ a1 cp w', At w' (l ++ k) (.slice a1 (l ++ k).length cp) → Below w0.heap.size w0 w' → wpList Try.prog ops Q rest (a.put o.dst (.slice a1 (l ++ k).length cp)) w') : wpList Try.prog ops Q (o :: rest) a w := by
  obtain ⟨vs, hO, hL⟩ := hown
  obtain ⟨i0, hi, hz0, hz1, hz2⟩ := info_parts Try.infoT
  have hkw := hk.bel hb (Nat.le_refl _)
  have hu : Try.prog.underlying 22 = some (.slice 24) := Try.underlying22
  cases hk with
  | nl =>
    refine wpList_append_own_none hgd s x 22 ho w0.heap.size 24 i0 3 hu hi _ l.length _ hs hO hx ?_
    have h2 : At w (l ++ []) (.slice a0 (l ++ []).length cap) := by
      rw [List.append_nil]
      exact at_of_row hO fun i hi => (hL i hi).at
    have := h a0 cap w h2 hb
    rwa [List.append_nil] at this
  | em ad c =>
    refine wpList_append_own_at w hgd s x 22 ho w0.heap.size 24 i0 _ 3 40 hu hi hz0 hz1 hz2 rfl (by decide) _ l.length _ hs hO ad 0 c [] hx rfl (fun j u e => by simp at e) (fun u e => by cases e) (by unfold maxLen; simp at hn; omega) (by simp at hn; omega) hb.size ?_
    intro v' w' h1 h2 h3 h4
    have hb2 : Below w0.heap.size w0 w' := hb.grown h2 hb.size (fun k e => (hO.lt k e).1)
    have hA := at_appended (k := []) (ws := fun _ => .slice none 0 0) hb hb2 hL h2 h1 (fun i h => absurd h (Nat.not_lt_zero _))
    obtain ⟨a1, cp, hv⟩ := hA.shape
    rw [hv] at hA ⊢
    exact h a1 cp w' hA hb2
  | row l' b off cp ws h1 h2 kk kn kv ks =>
    by_cases h0 : 0 < k.length
    · have up : ∀ {a : Addr} {x : Value}, w0.cell? a = some x → w.cell? a = some x := fun {a x} hx => by rw [hb.cell (World.block_lt_of_cell? w0 _ hx)]; exact hx
      refine wpList_append_lies w hgd s x 22 ho w0.heap.size 24 i0 _ 3 40 hu hi hz0 hz1 hz2 rfl (by decide) _ l.length _ hs hO ⟨b, off, none⟩ k.length cp (cells3 k ws) hx (cells3_len k ws)
        (news3 (fun i hi => up (kk i hi)) (fun i hi => up (kn i hi)) (fun i hi => up (kv i hi))) (one3 fun i hi => by obtain ⟨a, c, he⟩ := (ks i hi).shape; exact ⟨_, _, _, he⟩) h0 (by unfold maxLen; omega) (by omega) hb.size _ rfl ?_
      intro g cp1 w' h1 h2 h3 h4
      have hb2 : Below w0.heap.size w0 w' := hb.grown h2 hb.size (fun k e => (hO.lt k e).1)
      have hA := at_appended hb hb2 hL h2 h1 ks
      have hlen : (l ++ k).length = l.length + k.length := List.length_append
      have hF := h (some ⟨g, 0, none⟩) cp1 w'
      rw [hlen] at hF
      exact hF hA hb2
    · obtain rfl : k = [] := List.eq_nil_of_length_eq_zero (by omega)
      refine wpList_append_own_at w hgd s x 22 ho w0.heap.size 24 i0 _ 3 40 hu hi hz0 hz1 hz2 rfl (by decide) _ l.length _ hs hO ⟨b, off, none⟩ 0 cp [] hx rfl (fun j u e => by simp at e) (fun u e => by cases e) (by unfold maxLen; simp at hn; omega) (by simp at hn; omega) hb.size ?_
      intro v' w' h1 h2 h3 h4
      have hb2 : Below w0.heap.size w0 w' := hb.grown h2 hb.size (fun k e => (hO.lt k e).1)
      have hA := at_appended (k := []) (ws := fun _ => .slice none 0 0) hb hb2 hL h2 h1 (fun i h => absurd h (Nat.not_lt_zero _))
      obtain ⟨a1, cp, hv⟩ := hA.shape
      rw [hv] at hA ⊢
      exact h a1 cp w' hA hb2
end Go.Proofs.Ytblebboamopffaa
