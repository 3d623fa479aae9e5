/- Helpers of layer 6's statements: what is put together fits; the contracts in the form in which the walks meet them. No conditions. -/
import Derived.Test.YtblebboamopffaaUa
import Derived.Test.YtblebboamopffaaLb
import Derived.Test.YtblebboamopffaaTw
namespace Go.Proofs.Ytblebboamopffaa
open Go.RowKit
set_option linter.unusedVariables false

theorem wrap_fits {k : Int} (hk : k = 4 ∨ k = 5) : ∀ (l : List Tm) (t : Tm), (∀ a ∈ l, Fits a) → Fits t → Fits (wrapT k l t)
  | [], t, _, h => h
  | a :: l, t, h1, h2 => by
    have hr := wrap_fits hk l t (fun x hx => h1 x (List.mem_cons_of_mem _ hx)) h2
    rw [wrapT]
    refine .mk k 0 _ (by unfold I64; omega) (by unfold I64; omega) fun x hx => ?_
    rcases List.mem_cons.1 hx with rfl | hx
    · exact h1 _ List.mem_cons_self
    · rw [List.mem_singleton.1 hx]; exact hr
theorem spine_fits : ∀ (l : List Tm) (t : Tm), (∀ a ∈ l, Fits a) → Fits t → Fits (spineT t l)
  | [], t, _, h => h
  | a :: l, t, h1, h2 => by
    rw [spineT]
    refine spine_fits l _ (fun x hx => h1 x (List.mem_cons_of_mem _ hx)) (.mk 6 0 _ (by unfold I64; omega) (by unfold I64; omega) fun x hx => ?_)
    rcases List.mem_cons.1 hx with rfl | hx
    · exact h2
    · rw [List.mem_singleton.1 hx]; exact h1 _ List.mem_cons_self
theorem unspine_fits : ∀ t : Tm, Fits t → Fits (unspine t).1 ∧ ∀ a ∈ (unspine t).2, Fits a := by
  refine tm_ind fun t ih hF => ?_
  obtain ⟨k, n, l⟩ := t
  by_cases h : k = 6 ∧ l.length = 2
  · obtain ⟨hk, hl⟩ := h
    obtain ⟨a, b, rfl⟩ := two_kids hl
    obtain ⟨e1, e2⟩ := ih a (by simp [Tm.kids]) (hF.kids a (by simp [Tm.kids]))
    rw [unspine_app _ _ _ _ hk]
    refine ⟨e1, fun x hx => ?_⟩
    rcases List.mem_append.1 hx with hx | hx
    · exact e2 x hx
    · rw [List.mem_singleton.1 hx]; exact hF.kids b (by simp [Tm.kids])
  · rw [unspine_no (t := .node k n l) h]
    exact ⟨hF, fun x hx => by cases hx⟩
theorem unpis_fits : ∀ t : Tm, Fits t → Fits (unpis t).2 ∧ ∀ a ∈ (unpis t).1, Fits a := by
  refine tm_ind fun t ih hF => ?_
  obtain ⟨k, n, l⟩ := t
  by_cases h : k = 4 ∧ l.length = 2
  · obtain ⟨hk, hl⟩ := h
    obtain ⟨a, b, rfl⟩ := two_kids hl
    obtain ⟨e1, e2⟩ := ih b (by simp [Tm.kids]) (hF.kids b (by simp [Tm.kids]))
    rw [unpis_pi _ _ _ _ hk]
    refine ⟨e1, fun x hx => ?_⟩
    rcases List.mem_cons.1 hx with rfl | hx
    · exact hF.kids _ (by simp [Tm.kids])
    · exact e2 x hx
  · rw [unpis_no (t := .node k n l) h]
    exact ⟨hF, fun x hx => by cases hx⟩
theorem c_same6 {t : Tm} (hs : size t ≤ 1048576) (W : World) (va vb : Value) (hA : At W t.kids va) (hB : At W t.kids vb) :
    Calls Try.prog 19 #[.agg #[.int .i64 t.k, .int .i64 t.n, va], .agg #[.int .i64 t.k, .int .i64 t.n, vb]] W fun e w' => e = .returned (.bool true) ∧ Below W.heap.size W w' := by
  have := c_keep t t hs hs W va vb hA hB
  rwa [eqT_self] at this
theorem c_terms6 (A B : List Tm) (hsA : sizeL A ≤ 1048576) (hsB : sizeL B ≤ 1048576) (W : World) (va vb : Value) (hA : At W A va) (hB : At W B vb) :
    Calls Try.prog 23 #[va, vb] W fun e w' => e = .returned (.bool (eqL A B)) ∧ Below W.heap.size W w' := by
  have hl := length_le_sizeL A
  have hl2 := length_le_sizeL B
  exact terms_any A B (by omega) (by omega) (by omega) (fun x hx b hb w va vb h1 h2 => kterm_any x b (by have := size_le_of_mem hx; omega) hb w va vb h1 h2) W va vb hA hB
theorem c_sameL6 {A : List Tm} (hsA : sizeL A ≤ 1048576) (W : World) (va vb : Value) (hA : At W A va) (hB : At W A vb) :
    Calls Try.prog 23 #[va, vb] W fun e w' => e = .returned (.bool true) ∧ Below W.heap.size W w' := by
  have := c_terms6 A A hsA hsA W va vb hA hB
  rwa [show eqL A A = true from (eqL_iff A A).2 rfl] at this
theorem c_twins6 (A : List Tm) (hsA : sizeL A ≤ 1048576) (W : World) (v : Value) (hA : At W A v) :
    Calls Try.prog 10 #[v] W (TwinsPost W A) := by
  have hl := length_le_sizeL A
  exact twins_any A (by omega) (fun x hx => twin_any x (by have := size_le_of_mem hx; omega)) W v hA
theorem heavy_size1 {t : Tm} (h : heavyB [t] = false) : size t ≤ 9000 := by
  have := heavy_size h
  simp only [sizeL] at this
  omega
theorem heavy_len {l : List Tm} (h : heavyB l = false) : l.length ≤ 60 := by
  simp only [heavyB, Bool.or_eq_false_iff, decide_eq_false_iff_not] at h
  omega
end Go.Proofs.Ytblebboamopffaa
