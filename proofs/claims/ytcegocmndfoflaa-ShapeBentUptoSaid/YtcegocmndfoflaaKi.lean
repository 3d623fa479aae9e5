/- What the kinds say, as plain functions on integers, and that the Go text of package kind and of the page computes them. No conditions. -/
import Derived.Test.YtcegocmndfoflaaChecked
import Derived.Test.YtcegocmndfoflaaTm
import Derived.WalkKit
import Derived.Lib.Hide
namespace Go.Proofs.Ytcegocmndfoflaa
set_option linter.unusedVariables false
open Go.RowKit

def kidsI (k : Int) : Int :=
  if k = 1 ∨ k = 2 ∨ k = 3 then 0 else if k = 9 ∨ k = 10 then 1 else
  if k = 4 ∨ k = 5 ∨ k = 6 ∨ k = 7 ∨ k = 12 then 2 else if k = 8 ∨ k = 11 ∨ k = 13 then 3 else -1
def bindsI (k i : Int) : Int := if i = 1 ∧ (k = 4 ∨ k = 5 ∨ k = 7) then 1 else 0
set_option maxRecDepth 100000 in
theorem kids_any (k : Int) (w : World) :
    Calls Try.prog 82 #[.int .i64 k] w fun e w' => e = .returned (.int .i64 (kidsI k)) ∧ w = w' := by
  go_enter Try.func82, Try.ntmps82
  go_wp2
  all_goals go_ret
  all_goals exact ⟨ret_int (by simp only [beq_iff_eq, beq_eq_false_iff_ne, ne_eq] at *; simp [kidsI, *]), rfl⟩

theorem rkids_any (k : Int) (w : World) :
    Calls Try.prog 72 #[.int .i64 k] w fun e w' => e = .returned (.int .i64 (kidsI k)) ∧ w = w' := by
  go_enter Try.func72, Try.ntmps72
  go_wp2
  all_goals go_ret
  all_goals exact ⟨ret_int (by simp only [beq_iff_eq, beq_eq_false_iff_ne, ne_eq] at *; simp [kidsI, *]), rfl⟩

theorem binds_any (k i : Int) (w : World) :
    Calls Try.prog 81 #[.int .i64 k, .int .i64 i] w fun e w' => e = .returned (.int .i64 (bindsI k i)) ∧ w = w' := by
  by_cases h : i = 1
  · go_enter Try.func81, Try.ntmps81
    go_wp2
    all_goals go_ret
    all_goals exact ⟨ret_int (by simp only [beq_iff_eq, beq_eq_false_iff_ne, ne_eq] at *; simp [bindsI, *]), rfl⟩
  · go_enter Try.func81, Try.ntmps81
    go_wp2
    all_goals go_ret
    all_goals exact ⟨ret_int (by simp [bindsI, h]), rfl⟩

theorem rbinds_any (k i : Int) (w : World) :
    Calls Try.prog 69 #[.int .i64 k, .int .i64 i] w fun e w' => e = .returned (.int .i64 (bindsI k i)) ∧ w = w' := by
  by_cases h : i = 1
  · by_cases h4 : k = 4
    · subst h4
      go_enter Try.func69, Try.ntmps69
      go_wp2
      go_ret
      exact ⟨ret_int (by simp [bindsI, h]), rfl⟩
    · by_cases h5 : k = 5
      · subst h5
        go_enter Try.func69, Try.ntmps69
        go_wp2
        go_ret
        exact ⟨ret_int (by simp [bindsI, h]), rfl⟩
      · by_cases h7 : k = 7
        · subst h7
          go_enter Try.func69, Try.ntmps69
          go_wp2
          go_ret
          exact ⟨ret_int (by simp [bindsI, h]), rfl⟩
        · have e0 : bindsI k i = 0 := by simp [bindsI, *]
          rw [e0]
          have e4 : (k == 4) = false := by simpa using h4
          have e5 : (k == 5) = false := by simpa using h5
          have e7 : (k == 7) = false := by simpa using h7
          clear e0 h4 h5 h7
          go_enter Try.func69, Try.ntmps69
          go_wp2
          go_ret
          exact ⟨rfl, rfl⟩
  · go_enter Try.func69, Try.ntmps69
    go_wp2
    go_ret
    exact ⟨ret_int (by simp [bindsI, h]), rfl⟩

theorem leaf_any (k : Int) (w : World) :
    Calls Try.prog 83 #[.int .i64 k] w fun e w' => e = .returned (.bool (kidsI k == 0)) ∧ w = w' := by
  go_enter Try.func83, Try.ntmps83
  go_wp2_with (go_at_call 82; refine (kids_any _ _).mono ?_; rintro e w' ⟨rfl, rfl⟩)
  go_ret
  exact ⟨rfl, rfl⟩

theorem in_any (n lo hi : Int) (w : World) :
    Calls Try.prog 73 #[.int .i64 n, .int .i64 lo, .int .i64 hi] w fun e w' => e = .returned (.bool (decide (lo ≤ n) && decide (n ≤ hi))) ∧ w = w' := by
  by_cases h : lo ≤ n
  · go_enter Try.func73, Try.ntmps73
    go_wp2
    go_ret
    exact ⟨ret_bool (by simp [h]), rfl⟩
  · have hd : decide (lo ≤ n) = false := by simpa using h
    go_enter Try.func73, Try.ntmps73
    go_wp2
    go_ret
    exact ⟨ret_bool (by simp), rfl⟩
theorem bindsI_range (k i : Int) : 0 ≤ bindsI k i ∧ bindsI k i ≤ 1 := by unfold bindsI; split <;> omega
end Go.Proofs.Ytcegocmndfoflaa
