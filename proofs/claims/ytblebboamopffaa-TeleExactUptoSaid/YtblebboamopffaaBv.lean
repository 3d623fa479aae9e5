/- Package tele's Vars. No conditions. -/
import Derived.Test.YtblebboamopffaaBy
namespace Go.Proofs.Ytblebboamopffaa
open Go.RowKit
set_option linter.unusedVariables false

theorem KRow.ate {S : Nat → Prop} {B : Nat} {L : List Tm} {vs : Nat → Value} {w : World} (h : KRow L.length B L vs w) (hS : S B) (hc : L.length ≤ maxLen) (hs : ∀ i (_ : i < L.length), AtE S w L[i].kids (vs i)) : AtE S w L (.slice (some ⟨B, 0, none⟩) L.length L.length) := by
  obtain ⟨cs, h1, h2, h3⟩ := h
  exact .row L B 0 L.length vs cs hS h1 (Nat.le_refl _) hc (fun i hi => by rw [Nat.zero_add]; exact h3 i hi) hs
set_option maxRecDepth 100000 in
set_option maxHeartbeats 2000000 in
theorem svars_any (n : Int) (w : World) : Calls Try.prog 24 #[.int .i64 n] w (TellL w (varsL n)) := by
  by_cases hn : 1 ≤ n ∧ n ≤ 65536
  · obtain ⟨N, rfl⟩ : ∃ N : Nat, n = (N : Int) := ⟨n.toNat, by omega⟩
    have hN1 : 1 ≤ N := by omega
    have hN2 : N ≤ 65536 := by omega
    have hlen : (varsT N N).length = N := varsT_length _ _
    rw [varsL_nat (by omega)]
    have hmk := run_makeT N (by omega)
    have hK0 := krow_new w N (fun _ => .slice none 0 0)
    have hb0 := below_al w (.cells (zerosC N) 24)
    have h1 : ¬ ((N : Int) < 1) := by omega
    have h2 : ¬ ((65536 : Int) < (N : Int)) := by omega
    have H0 : Hid (KRow N w.heap.size (varsT N 0) (fun _ => .slice none 0 0) (w.alloc (.cells (zerosC N) 24))) := hK0
    have HB0 := Lib.hid hb0
    have hw0 : IntKind.i64.wrap ((N : Int) - 1) = (N : Int) - 1 := IntWalk.i64_in _ (by omega)
    clear hn hK0 hb0
    go_enter Try.func24, Try.ntmps24
    go_wp2_with fail
    clear hmk
    go_loopw [15] (fun i wr => ∃ j : Nat, j ≤ N ∧ i = .int .i64 (j : Int) ∧ KRow N w.heap.size (varsT N j) (fun _ => .slice none 0 0) wr ∧ Below w.heap.size w wr) (fun i _ => N - (RowKit.intOf i).toNat)
    case atStart => exact ⟨0, Nat.zero_le _, rfl, H0.out, HB0.out⟩
    case round =>
      clear H0 HB0
      obtain ⟨j, hj, rfl, hK, hB⟩ := hrel
      by_cases hlt : j < N
      · have hji : (j : Int) < (N : Int) := by omega
        have hj0 : (0 : Int) ≤ (j : Int) := by omega
        have hw1 : IntKind.i64.wrap ((N : Int) - 1 - (j : Int)) = (N : Int) - 1 - j := IntWalk.i64_in _ (by omega)
        obtain ⟨⟨x, y, z, c0, c1, c2⟩, f0, f1, f2⟩ := hK.slots hlt
        have hlj : (varsT N j).length = j := varsT_length _ _
        have hP := hK.put (by rw [hlj]; exact hlt) (.node 1 ((N : Int) - 1 - j) []) (.slice none 0 0)
        have hvs : (fun i => if i < (varsT N j).length then Value.slice none 0 0 else Value.slice none 0 0) = fun _ => Value.slice none 0 0 := by funext i; split <;> rfl
        rw [hvs, hlj, ← varsT_succ] at hP
        have HP := Lib.hid hP
        have HB := Lib.hid (hB.trans (below_row3 (D := w.heap.size) (B := w.heap.size) (o := j * 3) (W := wr) (Nat.le_refl _) (.int .i64 1) (.int .i64 ((N : Int) - 1 - j)) (.slice none 0 0)))
        clear hP hvs hK hB
        go_wp2_with fail
        go_roundw
        case rel => exact ⟨j + 1, hlt, by go_num, HP.out, HB.out⟩
        case measure => simp [RowKit.intOf]; omega
      · obtain rfl : j = N := by omega
        have hnl : ¬ (j : Int) < (j : Int) := by omega
        have hsz := (Array.getElem?_eq_some_iff.1 (show wr.heap[w.heap.size]? = _ from hK.choose_spec.1)).1
        have hF : TellL w (varsT j j) (.returned (.slice (some ⟨w.heap.size, 0, none⟩) j j)) wr := by
          refine ⟨some ⟨w.heap.size, 0, none⟩, j, by rw [hlen], ?_, hB⟩
          have := KRow.ate (S := newS w wr) (L := varsT j j) (vs := fun _ => .slice none 0 0) (B := w.heap.size) (w := wr) (by rw [hlen]; exact hK) ⟨Nat.le_refl _, hsz⟩ (by rw [hlen]; unfold maxLen; omega) (fun i hi => by
            have : (varsT j j)[i].kids = [] := by simp [varsT, Tm.kids]
            rw [this]; exact .nl)
          rw [hlen] at this ⊢
          exact this
        have HF := Lib.hid hF
        clear hF hK hB
        go_wp2_with fail
        exact bodyPost_ret (v := .slice (some ⟨w.heap.size, 0, none⟩) j j) (by simp [results, Try.f24, go_sem]) rfl HF.out
  · rw [varsL_out (by omega)]
    have hF : TellL w [] (.returned (.slice none 0 0)) w := ⟨none, 0, rfl, .nl, Below.refl _ _⟩
    have HF := Lib.hid hF
    clear hF
    rcases (show n < 1 ∨ (1 ≤ n ∧ 65536 < n) by omega) with h1 | ⟨h1, h2⟩
    · clear hn
      go_enter Try.func24, Try.ntmps24
      go_wp2_with fail
      exact bodyPost_ret (v := .slice none 0 0) (by simp [results, Try.f24, go_sem]) rfl HF.out
    · clear hn
      have h3 : ¬ n < 1 := by omega
      go_enter Try.func24, Try.ntmps24
      go_wp2_with fail
      exact bodyPost_ret (v := .slice none 0 0) (by simp [results, Try.f24, go_sem]) rfl HF.out
end Go.Proofs.Ytblebboamopffaa
