/- slices.Reverse at a row of terms, in place. No conditions but its length. -/
import Derived.Test.YtblebboamopffaaBs
namespace Go.Proofs.Ytblebboamopffaa
open Go.RowKit
set_option linter.unusedVariables false

def sigR (n i k : Nat) : Nat := if k < i ∨ n ≤ k + i then n - 1 - k else k
def trR (L : List Tm) (vs : Nat → Value) (s : Nat) (r : Nat) : Option Value := ([.int .i64 (L[s]?.getD default).k, .int .i64 (L[s]?.getD default).n, vs s] : List Value)[r]?
def RevI (g cap : Nat) (L : List Tm) (vs : Nat → Value) (i : Nat) (W : World) : Prop := ∃ cs : Array Value, W.heap[g]? = some (.cells cs 24 (0, 0)) ∧ cs.size = cap * 3 ∧ ∀ k, k < L.length → ∀ r, r < 3 → cs[k * 3 + r]? = trR L vs (sigR L.length i k) r
theorem revi_step {g cap : Nat} {L : List Tm} {vs : Nat → Value} {i j : Nat} {W : World} (h : RevI g cap L vs i W) (hij : i < j) (hj : j + i + 1 = L.length) (hcap : L.length ≤ cap) :
    RevI g cap L vs (i + 1) ((((((W.setCell ⟨g, i * 3, none⟩ (.int .i64 (L[j]?.getD default).k)).setCell ⟨g, i * 3 + 1, none⟩ (.int .i64 (L[j]?.getD default).n)).setCell ⟨g, i * 3 + 2, none⟩ (vs j)).setCell ⟨g, j * 3, none⟩ (.int .i64 (L[i]?.getD default).k)).setCell ⟨g, j * 3 + 1, none⟩ (.int .i64 (L[i]?.getD default).n)).setCell ⟨g, j * 3 + 2, none⟩ (vs i)) := by
  obtain ⟨cs, h1, h2, h3⟩ := h
  have r1 := row_store3 h1 (i * 3) (.int .i64 (L[j]?.getD default).k) (.int .i64 (L[j]?.getD default).n) (vs j)
  have r2 := row_store3 r1 (j * 3) (.int .i64 (L[i]?.getD default).k) (.int .i64 (L[i]?.getD default).n) (vs i)
  refine ⟨_, r2, by simpa using h2, fun k hk r hr => ?_⟩
  by_cases hki : k = i
  · subst hki
    have e : sigR L.length (k + 1) k = j := by unfold sigR; rw [if_pos (by omega)]; omega
    rw [e, Array.getElem?_setIfInBounds_ne (by omega), Array.getElem?_setIfInBounds_ne (by omega), Array.getElem?_setIfInBounds_ne (by omega)]
    have : r = 0 ∨ r = 1 ∨ r = 2 := by omega
    rcases this with rfl | rfl | rfl
    · simp only [Nat.add_zero]; rw [Array.getElem?_setIfInBounds_ne (by omega), Array.getElem?_setIfInBounds_ne (by omega), Array.getElem?_setIfInBounds_self_of_lt (by omega)]; rfl
    · rw [Array.getElem?_setIfInBounds_ne (by omega), Array.getElem?_setIfInBounds_self_of_lt (by simp; omega)]; rfl
    · rw [Array.getElem?_setIfInBounds_self_of_lt (by simp; omega)]; rfl
  · by_cases hkj : k = j
    · subst hkj
      have e : sigR L.length (i + 1) k = i := by unfold sigR; rw [if_pos (by omega)]; omega
      rw [e]
      have : r = 0 ∨ r = 1 ∨ r = 2 := by omega
      rcases this with rfl | rfl | rfl
      · simp only [Nat.add_zero]; rw [Array.getElem?_setIfInBounds_ne (by omega), Array.getElem?_setIfInBounds_ne (by omega), Array.getElem?_setIfInBounds_self_of_lt (by simp; omega)]; rfl
      · rw [Array.getElem?_setIfInBounds_ne (by omega), Array.getElem?_setIfInBounds_self_of_lt (by simp; omega)]; rfl
      · rw [Array.getElem?_setIfInBounds_self_of_lt (by simp; omega)]; rfl
    · have e : sigR L.length (i + 1) k = sigR L.length i k := by
        unfold sigR
        by_cases hc : k < i ∨ L.length ≤ k + i
        · rw [if_pos hc, if_pos (by omega)]
        · rw [if_neg hc, if_neg (by omega)]
      rw [e, Array.getElem?_setIfInBounds_ne (by omega), Array.getElem?_setIfInBounds_ne (by omega), Array.getElem?_setIfInBounds_ne (by omega), Array.getElem?_setIfInBounds_ne (by omega), Array.getElem?_setIfInBounds_ne (by omega), Array.getElem?_setIfInBounds_ne (by omega)]
      exact h3 k hk r hr
theorem drew_heap (W : World) (b : Nat) : W.drew.heap[b]? = W.heap[b]? := rfl
theorem RevI.drew {g cap : Nat} {L : List Tm} {vs : Nat → Value} {i : Nat} {W : World} (h : RevI g cap L vs i W) : RevI g cap L vs i W.drew := h
/-- A round: what it leaves, in the block and elsewhere. -/
def RevTo (g cap : Nat) (L : List Tm) (vs : Nat → Value) (i : Nat) (W X : World) : Prop := RevI g cap L vs i X ∧ Below g W X ∧ ∀ b, b ≠ g → X.heap[b]? = W.heap[b]?
theorem revi_to {g cap : Nat} {L : List Tm} {vs : Nat → Value} {i j : Nat} {W : World} (h : RevI g cap L vs i W) (hij : i < j) (hj : j + i + 1 = L.length) (hcap : L.length ≤ cap) :
    RevTo g cap L vs (i + 1) W ((((((W.setCell ⟨g, i * 3, none⟩ (.int .i64 (L[j]?.getD default).k)).setCell ⟨g, i * 3 + 1, none⟩ (.int .i64 (L[j]?.getD default).n)).setCell ⟨g, i * 3 + 2, none⟩ (vs j)).setCell ⟨g, j * 3, none⟩ (.int .i64 (L[i]?.getD default).k)).setCell ⟨g, j * 3 + 1, none⟩ (.int .i64 (L[i]?.getD default).n)).setCell ⟨g, j * 3 + 2, none⟩ (vs i)) :=
  ⟨revi_step h hij hj hcap, (below_row3 (D := g) (B := g) (o := i * 3) (W := W) (Nat.le_refl _) _ _ _).trans (below_row3 (D := g) (B := g) (o := j * 3) (Nat.le_refl _) _ _ _), fun b hb => (other_row3 (o := j * 3) hb _ _ _).trans (other_row3 (o := i * 3) (W := W) hb _ _ _)⟩
theorem RevTo.drew {g cap : Nat} {L : List Tm} {vs : Nat → Value} {i : Nat} {W X : World} (h : RevTo g cap L vs i W X) : RevTo g cap L vs i W X.drew := ⟨h.1.drew, h.2.1.drew, fun b hb => (drew_heap X b).trans (h.2.2 b hb)⟩
/-- The loop's state. -/
def RevSt (g cap : Nat) (L : List Tm) (vs : Nat → Value) (i : Nat) (w wr : World) : Prop := (0 < L.length → RevI g cap L vs i wr) ∧ Below g w wr ∧ ∀ b, b ≠ g → wr.heap[b]? = w.heap[b]?
theorem RevTo.st {g cap : Nat} {L : List Tm} {vs : Nat → Value} {i : Nat} {w W X : World} (h : RevTo g cap L vs i W X) (hw : Below g w W) (hO : ∀ b, b ≠ g → W.heap[b]? = w.heap[b]?) : RevSt g cap L vs i w X := ⟨fun _ => h.1, hw.trans h.2.1, fun b hb => (h.2.2 b hb).trans (hO b hb)⟩
theorem revi_cells {g cap : Nat} {L : List Tm} {vs : Nat → Value} {i k : Nat} {W : World} (h : RevI g cap L vs i W) (hk : k < L.length) (hi : i ≤ k) (hki : k + i < L.length) :
    (W.cell? ⟨g, k * 3, none⟩ = some (.int .i64 (L[k]?.getD default).k) ∧ W.cell? ⟨g, k * 3 + 1, none⟩ = some (.int .i64 (L[k]?.getD default).n) ∧ W.cell? ⟨g, k * 3 + 2, none⟩ = some (vs k)) ∧ W.frozen? ⟨g, k * 3, none⟩ = false ∧ W.frozen? ⟨g, k * 3 + 1, none⟩ = false ∧ W.frozen? ⟨g, k * 3 + 2, none⟩ = false := by
  obtain ⟨cs, h1, h2, h3⟩ := h
  have e : sigR L.length i k = k := by unfold sigR; rw [if_neg (by omega)]
  have c0 := h3 k hk 0 (by omega)
  have c1 := h3 k hk 1 (by omega)
  have c2 := h3 k hk 2 (by omega)
  rw [e] at c0 c1 c2
  rw [Nat.add_zero] at c0
  refine ⟨⟨?_, ?_, ?_⟩, ?_, ?_, ?_⟩
  · simp [World.cell?, h1, c0, trR]
  · simp [World.cell?, h1, c1, trR]
  · simp [World.cell?, h1, c2, trR]
  all_goals simp [World.frozen?, h1]
set_option maxRecDepth 100000 in
set_option maxHeartbeats 4000000 in
theorem reverse_any (g cap : Nat) (L : List Tm) (vs : Nat → Value) (hvs : ∀ i, i < L.length → ∃ a m c, vs i = .slice a m c) (hL : L.length ≤ 1048576) (hcap : L.length ≤ cap) (w : World) (h0 : 0 < L.length → RevI g cap L vs 0 w) (v : Value) (hv : v = .slice (some ⟨g, 0, none⟩) L.length cap ∨ (L.length = 0 ∧ v = .slice none 0 0)) :
    Calls Try.prog 40 #[v] w fun e w' => (∃ v, e = .returned v) ∧ (0 < L.length → ∃ i, L.length ≤ i + i + 1 ∧ RevI g cap L vs i w') ∧ Below g w w' ∧ ∀ b, b ≠ g → w'.heap[b]? = w.heap[b]? := by
  obtain ⟨ao, co, hvv⟩ : ∃ ao co, v = .slice ao L.length co := by
    rcases hv with h | ⟨h0, h⟩
    · exact ⟨_, _, h⟩
    · exact ⟨none, 0, by rw [h, h0]⟩
  have HV : Hid (0 < L.length → ao = some ⟨g, 0, none⟩) := fun h => by
    rcases hv with h' | ⟨h0, h'⟩
    · rw [h'] at hvv; cases hvv; rfl
    · omega
  subst hvv
  have H0 := Lib.hid h0
  have HVS := Lib.hid hvs
  have hw0 : IntKind.i64.wrap ((L.length : Int) - 1) = (L.length : Int) - 1 := IntWalk.i64_in _ (by omega)
  clear hv h0 hvs
  go_enter Try.func40, Try.ntmps40
  go_wp2_with fail
  go_loopw [2, 3] (fun si sj wr => ∃ i : Nat, si = .int .i64 (i : Int) ∧ sj = .int .i64 ((L.length : Int) - 1 - i) ∧ i ≤ L.length ∧ RevSt g cap L vs i w wr) (fun si sj _ => (RowKit.intOf sj - RowKit.intOf si).toNat)
  case atStart => exact ⟨0, rfl, by simp, Nat.zero_le _, H0.out, Below.refl _ _, fun _ _ => rfl⟩
  case round =>
    clear H0
    obtain ⟨i, rfl, rfl, hi, hR, hB, hO⟩ := hrel
    by_cases hlt : (i : Int) < (L.length : Int) - 1 - i
    · obtain ⟨j, hj⟩ : ∃ j : Nat, j + i + 1 = L.length := ⟨L.length - 1 - i, by omega⟩
      have hjj : (L.length : Int) - 1 - i = (j : Int) := by omega
      have hij : i < j := by omega
      have hR1 := hR (by omega)
      have hao := HV.out (by omega)
      subst hao
      obtain ⟨⟨x0, x1, x2⟩, f0, f1, f2⟩ := revi_cells hR1 (k := i) (by omega) (Nat.le_refl _) (by omega)
      obtain ⟨⟨y0, y1, y2⟩, g0, g1, g2⟩ := revi_cells hR1 (k := j) (by omega) (by omega) (by omega)
      obtain ⟨ai, mi, ci, hvi⟩ := HVS.out i (by omega)
      obtain ⟨aj, mj, cj, hvj⟩ := HVS.out j (by omega)
      have HS := Lib.hid (((revi_to hR1 hij hj hcap).drew).st hB hO)
      rw [hvi] at x2 HS
      rw [hvj] at y2 HS
      rw [hjj] at hlt ⊢
      have hil : (i : Int) < (L.length : Int) := by omega
      have hjl : (j : Int) < (L.length : Int) := by omega
      have hi0 : (0 : Int) ≤ (i : Int) := by omega
      have hj0 : (0 : Int) ≤ (j : Int) := by omega
      have HB := Lib.hid hB
      have HO := Lib.hid hO
      have HJ := Lib.hid (And.intro hj hjj)
      clear hR hR1 hB hO hvi hvj hj hjj hw0
      generalize L[i]?.getD default = ui at *
      generalize L[j]?.getD default = uj at *
      go_wp2_with fail
      go_region
      all_goals
        have hw1 : IntKind.i64.wrap ((j : Int) - 1) = (L.length : Int) - 1 - ((i + 1 : Nat) : Int) := by rw [IntWalk.i64_in _ (by omega)]; have := HJ.out.2; omega
        have HJ2 := HJ.out.1
        go_wp2_with fail
        go_roundw
        case rel => exact ⟨i + 1, by go_num, rfl, by omega, HS.out⟩
        case measure => simp [RowKit.intOf]; omega
    · have HR := Lib.hid hR
      have HB := Lib.hid hB
      have HO := Lib.hid hO
      clear hR hB hO
      go_wp2_with fail
      go_end0
      exact ⟨⟨_, rfl⟩, fun h => ⟨i, by omega, HR.out h⟩, HB.out, HO.out⟩
end Go.Proofs.Ytblebboamopffaa
