/- The page's Check, Scope and Count of a term, as the Go text computes them. Conditions: the sizes. -/
import Derived.Test.YtcegocmndfoflaaCt
import Derived.Test.YtcegocmndfoflaaRefD
import Derived.IntWalk
namespace Go.Proofs.Ytcegocmndfoflaa
open Go.RowKit

set_option maxRecDepth 100000 in
set_option maxHeartbeats 1000000 in
theorem c_rcheck (t : Tm) (hs : size t ≤ 1048576) (w : World) (v : Value) (hA : At w t.kids v) :
    Calls Try.prog 63 #[.agg #[.int .i64 t.k, .int .i64 t.n, v]] w fun e w' => e = .returned (.int .i64 (checkE t)) ∧ Below w.heap.size w w' := by
  obtain ⟨a1, c1, rfl⟩ := hA.shape
  have O0 := Lib.hid (one_start w t _ hA)
  have hF : Hid (∀ W v, At W t.kids v → Calls Try.prog 68 #[.agg #[.int .i64 t.k, .int .i64 t.n, v]] W fun e w' => e = .returned (.bool (formedB t)) ∧ Below W.heap.size W w') := fun W v hA => rformed_any t (by omega) W v hA
  by_cases h1 : 6000 < size t
  · have e1 : (6000 : Int) < (size t : Int) := by omega
    have E := Lib.hid (show checkE t = 4 by rw [checkE, if_pos h1])
    clear h1
    go_enter Try.func63, Try.ntmps63
    go_wp2_with (go_at_call 53; refine (c_rsize t hs _ _ O0.out.2.1).mono ?_; rintro e w1 ⟨rfl, hb1⟩; have O1 := Lib.hid (O0.out.bel hb1); clear hb1)
    go_ret
    exact ⟨ret_int E.out.symm, O1.out.2.2⟩
  have e1 : decide ((6000 : Int) < (size t : Int)) = false := by simp; omega
  by_cases h2 : 200 < depth t
  · have e2 : (200 : Int) < (depth t : Int) := by omega
    have E := Lib.hid (show checkE t = 5 by rw [checkE, if_neg h1, if_pos h2])
    clear h1 h2
    go_enter Try.func63, Try.ntmps63
    go_wp2_with (first | (go_at_call 53; refine (c_rsize t hs _ _ O0.out.2.1).mono ?_; rintro e w1 ⟨rfl, hb1⟩; have O1 := Lib.hid (O0.out.bel hb1); obtain ⟨⟨x0, x1, x2⟩, _⟩ := O1.out; clear hb1) | (go_at_call 52; refine (c_rdepth t hs _ _ O1.out.2.1).mono ?_; rintro e w2 ⟨rfl, hb2⟩; have O2 := Lib.hid (O1.out.bel hb2); clear hb2))
    go_ret
    exact ⟨ret_int E.out.symm, O2.out.2.2⟩
  have e2 : decide ((200 : Int) < (depth t : Int)) = false := by simp; omega
  cases h3 : formedB t with
  | false =>
    have E := Lib.hid (show checkE t = 1 by rw [checkE, if_neg h1, if_neg h2, if_pos h3])
    rw [h3] at hF
    clear h1 h2 h3
    go_enter Try.func63, Try.ntmps63
    go_wp2_with (first | (go_at_call 53; refine (c_rsize t hs _ _ O0.out.2.1).mono ?_; rintro e w1 ⟨rfl, hb1⟩; have O1 := Lib.hid (O0.out.bel hb1); obtain ⟨⟨x0, x1, x2⟩, _⟩ := O1.out; clear hb1) | (go_at_call 52; refine (c_rdepth t hs _ _ O1.out.2.1).mono ?_; rintro e w2 ⟨rfl, hb2⟩; have O2 := Lib.hid (O1.out.bel hb2); obtain ⟨⟨y0, y1, y2⟩, _⟩ := O2.out; clear hb2) | (go_at_call 68; refine (hF.out _ _ O2.out.2.1).mono ?_; rintro e w3 ⟨rfl, hb3⟩; have O3 := Lib.hid (O2.out.bel hb3); clear hb3))
    go_ret
    exact ⟨ret_int E.out.symm, O3.out.2.2⟩
  | true =>
    have E := Lib.hid (show checkE t = 0 by rw [checkE, if_neg h1, if_neg h2, if_neg (by rw [h3]; simp)])
    rw [h3] at hF
    clear h1 h2 h3
    go_enter Try.func63, Try.ntmps63
    go_wp2_with (first | (go_at_call 53; refine (c_rsize t hs _ _ O0.out.2.1).mono ?_; rintro e w1 ⟨rfl, hb1⟩; have O1 := Lib.hid (O0.out.bel hb1); obtain ⟨⟨x0, x1, x2⟩, _⟩ := O1.out; clear hb1) | (go_at_call 52; refine (c_rdepth t hs _ _ O1.out.2.1).mono ?_; rintro e w2 ⟨rfl, hb2⟩; have O2 := Lib.hid (O1.out.bel hb2); obtain ⟨⟨y0, y1, y2⟩, _⟩ := O2.out; clear hb2) | (go_at_call 68; refine (hF.out _ _ O2.out.2.1).mono ?_; rintro e w3 ⟨rfl, hb3⟩; have O3 := Lib.hid (O2.out.bel hb3); clear hb3))
    go_ret
    exact ⟨ret_int E.out.symm, O3.out.2.2⟩

def countE (t : Tm) (n : Int) : Nat := if 0 ≤ n ∧ n ≤ 65535 then countT t n else 0
set_option maxRecDepth 100000 in
set_option maxHeartbeats 1000000 in
theorem c_rscope (t : Tm) (hF : Fits t) (hs : size t ≤ 1048576) (a b : Int) (w : World) (v : Value) (hA : At w t.kids v) :
    Calls Try.prog 55 #[.agg #[.int .i64 t.k, .int .i64 t.n, v], .int .i64 a, .int .i64 b] w fun e w' => e = .returned (.bool (scopeT t a b)) ∧ Below w.heap.size w w' := by
  obtain ⟨a1, c1, rfl⟩ := hA.shape
  have O0 := Lib.hid (one_start w t _ hA)
  clear hA
  by_cases h1 : 0 ≤ a
  rotate_left
  · have e1 : decide (0 ≤ a) = false := by simpa using h1
    have E := Lib.hid (show scopeT t a b = false by rw [scopeT, e1]; simp)
    clear h1
    go_enter Try.func55, Try.ntmps55
    go_wp2_with fail
    go_ret
    exact ⟨ret_bool E.out.symm, O0.out.2.2⟩
  by_cases h2 : 0 ≤ b
  rotate_left
  · have e2 : decide (0 ≤ b) = false := by simpa using h2
    have E := Lib.hid (show scopeT t a b = false by rw [scopeT, e2]; simp)
    clear h2
    go_enter Try.func55, Try.ntmps55
    go_wp2_with fail
    go_ret
    exact ⟨ret_bool E.out.symm, O0.out.2.2⟩
  have CK := Lib.hid (c_rcheck t hs _ _ O0.out.2.1)
  by_cases h3 : checkE t = 0
  rotate_left
  · have e3 : (checkE t == 0) = false := by simpa using h3
    have E := Lib.hid (show scopeT t a b = false by rw [scopeT, decide_eq_false h3]; simp)
    revert e3 CK
    generalize checkE t = ck
    intro CK e3
    clear h3
    go_enter Try.func55, Try.ntmps55
    go_wp2_with (go_at_call 63; refine CK.out.mono ?_; rintro e w1 ⟨rfl, hb1⟩; have O1 := Lib.hid (O0.out.bel hb1); clear hb1)
    go_ret
    exact ⟨ret_bool E.out.symm, O1.out.2.2⟩
  have hf := check_formed h3
  have hds := depth_le_size t
  have E := Lib.hid (show scopeT t a b = scopedT t (min a 1048576) b by rw [scopeT, decide_eq_true h1, decide_eq_true h2, decide_eq_true h3, scoped_cap t a b hf]; rfl)
  rw [h3] at CK
  have CS : Hid (∀ W v, At W t.kids v → Calls Try.prog 64 #[.agg #[.int .i64 t.k, .int .i64 t.n, v], .int .i64 (min a 1048576), .int .i64 b] W fun e w' => e = .returned (.bool (scopedT t (min a 1048576) b)) ∧ Below W.heap.size W w') := fun W v hA => rscoped_any t hF (by omega) (min a 1048576) b (by omega) (by omega) W v hA
  clear h3 hf hds
  by_cases h4 : a < 1048576
  · have e4 : min a 1048576 = a := by omega
    rw [e4] at CS E
    clear e4
    go_enter Try.func55, Try.ntmps55
    go_wp2_with (first | (go_at_call 63; refine CK.out.mono ?_; rintro e w1 ⟨rfl, hb1⟩; have O1 := Lib.hid (O0.out.bel hb1); obtain ⟨⟨x0, x1, x2⟩, _⟩ := O1.out; clear hb1) | (go_at_call 64; refine (CS.out _ _ O1.out.2.1).mono ?_; rintro e w2 ⟨rfl, hb2⟩; have O2 := Lib.hid (O1.out.bel hb2); clear hb2))
    go_ret
    exact ⟨ret_bool E.out.symm, O2.out.2.2⟩
  · have e4 : min a 1048576 = 1048576 := by omega
    rw [e4] at CS E
    by_cases h5 : a = 1048576
    · subst h5
      clear e4 h4
      go_enter Try.func55, Try.ntmps55
      go_wp2_with (first | (go_at_call 63; refine CK.out.mono ?_; rintro e w1 ⟨rfl, hb1⟩; have O1 := Lib.hid (O0.out.bel hb1); obtain ⟨⟨x0, x1, x2⟩, _⟩ := O1.out; clear hb1) | (go_at_call 64; refine (CS.out _ _ O1.out.2.1).mono ?_; rintro e w2 ⟨rfl, hb2⟩; have O2 := Lib.hid (O1.out.bel hb2); clear hb2))
      go_ret
      exact ⟨ret_bool E.out.symm, O2.out.2.2⟩
    · have h6 : 1048576 < a := by omega
      clear e4 h4 h5
      go_enter Try.func55, Try.ntmps55
      go_wp2_with (first | (go_at_call 63; refine CK.out.mono ?_; rintro e w1 ⟨rfl, hb1⟩; have O1 := Lib.hid (O0.out.bel hb1); obtain ⟨⟨x0, x1, x2⟩, _⟩ := O1.out; clear hb1) | (go_at_call 64; refine (CS.out _ _ O1.out.2.1).mono ?_; rintro e w2 ⟨rfl, hb2⟩; have O2 := Lib.hid (O1.out.bel hb2); clear hb2))
      go_ret
      exact ⟨ret_bool E.out.symm, O2.out.2.2⟩
end Go.Proofs.Ytcegocmndfoflaa
