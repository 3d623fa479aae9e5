/- Whether a node alone is as a right term's; whether it alone is in scope: package term's small functions. -/
import Derived.Test.YtcegocmndfoflaaPl
import Derived.Test.YtcegocmndfoflaaRefA
import Derived.WalkKit
import Derived.Lib.Hide
import Derived.IntWalk
import Derived.Deep.QuietTactic
import Derived.BigQuiet
namespace Go.Proofs.Ytcegocmndfoflaa
set_option linter.unusedVariables false
open Go.RowKit

def fitsB (k n : Int) (len : Nat) : Bool := decide ((len : Int) = kidsI k) && (if kidsI k = 0 then decide (0 ≤ n) && decide (n ≤ 65535) else decide (n = 0))
def inB (k n b v c : Int) : Bool := if k = 1 then decide (n - b < v) else if k = 2 then decide (n ≤ 6) else if k = 3 then decide (n < c) else true

theorem q_same {P : Program} {f : FuncId} {args : Array Value} {w : World} {n : Nat} {v : Value}
    (h : Calls P f args (w.drewN n) fun e w' => e = .returned v ∧ w.drewN n = w') : Calls P f args (w.drewN n) fun e w'' => e = .returned v ∧ ∃ m, w'' = w.drewN m :=
  h.mono fun _ _ ⟨he, hm⟩ => ⟨he, n, hm.symm⟩

set_option maxRecDepth 100000 in
set_option maxHeartbeats 1000000 in
theorem fits_any (k n : Int) (a : Option Addr) (len cap : Nat) (hl : len < 2147483648) (w : World) :
    Calls Try.prog 79 #[.agg #[.int .i64 k, .int .i64 n, .slice a len cap]] w fun e w' => e = .returned (.bool (fitsB k n len)) ∧ Below w.heap.size w w' := by
  have hb0 := below_al w (.cells #[.int .i64 k, .int .i64 n, .slice a len cap] 42)
  have hK := Lib.hid (fun w => kids_any k w)
  have hL := Lib.hid (fun w => leaf_any k w)
  by_cases h : (len : Int) = kidsI k
  · have e1 : ((len : Int) != kidsI k) = false := by simpa using h
    by_cases h0 : kidsI k = 0
    · have e2 : (kidsI k == 0) = true := by simpa using h0
      have HE := Lib.hid (show fitsB k n len = (decide (0 ≤ n) && decide (n ≤ 65535)) by rw [fitsB, if_pos h0, decide_eq_true h]; rfl)
      clear h h0
      by_cases hn : 0 ≤ n
      · go_enter Try.func79, Try.ntmps79
        go_wp2_with fail
        go_quiet ((go_at_call 82; exact q_same (hK.out _)))
        go_wp2_with (go_at_call 83; refine (hL.out _).mono ?_; rintro e w' ⟨rfl, rfl⟩)
        go_ret
        exact ⟨ret_bool (by rw [HE.out]; simp [hn]), belowN hb0 _⟩
      · have hd : decide (0 ≤ n) = false := by simpa using hn
        go_enter Try.func79, Try.ntmps79
        go_wp2_with fail
        go_quiet ((go_at_call 82; exact q_same (hK.out _)))
        go_wp2_with (go_at_call 83; refine (hL.out _).mono ?_; rintro e w' ⟨rfl, rfl⟩)
        go_ret
        exact ⟨ret_bool (by rw [HE.out]; simp [hd]), belowN hb0 _⟩
    · have e2 : (kidsI k == 0) = false := by simpa using h0
      have HE := Lib.hid (show fitsB k n len = decide (n = 0) by rw [fitsB, if_neg h0, decide_eq_true h]; rfl)
      clear h h0
      go_enter Try.func79, Try.ntmps79
      go_wp2_with fail
      go_quiet ((go_at_call 82; exact q_same (hK.out _)))
      go_wp2_with (go_at_call 83; refine (hL.out _).mono ?_; rintro e w' ⟨rfl, rfl⟩)
      go_ret
      exact ⟨ret_bool (by rw [HE.out]; exact beq_dec n 0), belowN hb0 _⟩
  · have e1 : ((len : Int) != kidsI k) = true := by simpa using h
    have HE := Lib.hid (show fitsB k n len = false by rw [fitsB, decide_eq_false h]; rfl)
    clear h
    go_enter Try.func79, Try.ntmps79
    go_wp2_with fail
    go_quiet ((go_at_call 82; exact q_same (hK.out _)))
    go_wp2_with fail
    go_ret
    exact ⟨ret_bool HE.out.symm, belowN hb0 _⟩

set_option maxRecDepth 100000 in
set_option maxHeartbeats 1000000 in
theorem inscope_any (k n b v c : Int) (hn : 0 ≤ n) (hn2 : n ≤ 65535) (hb : 0 ≤ b) (hb2 : b ≤ 1099511627776) (sv : Value) (w : World) :
    Calls Try.prog 78 #[.agg #[.int .i64 k, .int .i64 n, sv], .int .i64 b, .int .i64 v, .int .i64 c] w fun e w' => e = .returned (.bool (inB k n b v c)) ∧ Below w.heap.size w w' := by
  have hb0 := below_al w (.cells #[.int .i64 k, .int .i64 n, sv] 42)
  have hw : IntKind.i64.wrap (n - b) = n - b := IntWalk.i64_in _ (by omega)
  by_cases h1 : k = 1
  · subst h1
    go_enter Try.func78, Try.ntmps78
    go_wp2
    go_ret
    exact ⟨ret_bool (by simp [inB]), hb0⟩
  · have e1 : (k == 1) = false := by simpa using h1
    by_cases h2 : k = 2
    · subst h2
      go_enter Try.func78, Try.ntmps78
      go_wp2
      go_ret
      exact ⟨ret_bool (by simp [inB]), hb0⟩
    · have e2 : (k == 2) = false := by simpa using h2
      by_cases h3 : k = 3
      · subst h3
        go_enter Try.func78, Try.ntmps78
        go_wp2
        go_ret
        exact ⟨ret_bool (by simp [inB]), hb0⟩
      · have e3 : (k == 3) = false := by simpa using h3
        have HE := Lib.hid (show inB k n b v c = true by simp [inB, h1, h2, h3])
        clear h1 h2 h3
        go_enter Try.func78, Try.ntmps78
        go_wp2
        go_ret
        exact ⟨ret_bool HE.out.symm, hb0⟩
end Go.Proofs.Ytcegocmndfoflaa
