/- The page's Check, Scope and Count of a term, as the Go text computes them. Conditions: the sizes. -/
import Derived.Test.YtblebboamopffaaCt
import Derived.Test.YtblebboamopffaaRefD
import Derived.IntWalk
namespace Go.Proofs.Ytblebboamopffaa
open Go.RowKit

set_option maxRecDepth 100000 in
set_option maxHeartbeats 1000000 in
theorem c_rcheck (t : Tm) (hs : size t ≤ 1048576) (w : World) (v : Value) (hA : At w t.kids v) :
    Calls Try.prog 30 #[.agg #[.int .i64 t.k, .int .i64 t.n, v]] w fun e w' => e = .returned (.int .i64 (checkE t)) ∧ Below w.heap.size w w' := by
  obtain ⟨a1, c1, rfl⟩ := hA.shape
  have O0 := Lib.hid (one_start w t _ hA)
  have hF : Hid (∀ W v, At W t.kids v → Calls Try.prog 46 #[.agg #[.int .i64 t.k, .int .i64 t.n, v]] W fun e w' => e = .returned (.bool (formedB t)) ∧ Below W.heap.size W w') := fun W v hA => rformed_any t (by omega) W v hA
  by_cases h1 : 6000 < size t
  · have e1 : (6000 : Int) < (size t : Int) := by omega
    have E := Lib.hid (show checkE t = 4 by rw [checkE, if_pos h1])
    clear h1
    go_enter Try.func30, Try.ntmps30
    go_wp2_with (go_at_call 35; refine (c_rsize t hs _ _ O0.out.2.1).mono ?_; rintro e w1 ⟨rfl, hb1⟩; have O1 := Lib.hid (O0.out.bel hb1); clear hb1)
    go_ret
    exact ⟨ret_int E.out.symm, O1.out.2.2⟩
  have e1 : decide ((6000 : Int) < (size t : Int)) = false := by simp; omega
  by_cases h2 : 200 < depth t
  · have e2 : (200 : Int) < (depth t : Int) := by omega
    have E := Lib.hid (show checkE t = 5 by rw [checkE, if_neg h1, if_pos h2])
    clear h1 h2
    go_enter Try.func30, Try.ntmps30
    go_wp2_with (first | (go_at_call 35; refine (c_rsize t hs _ _ O0.out.2.1).mono ?_; rintro e w1 ⟨rfl, hb1⟩; have O1 := Lib.hid (O0.out.bel hb1); obtain ⟨⟨x0, x1, x2⟩, _⟩ := O1.out; clear hb1) | (go_at_call 34; refine (c_rdepth t hs _ _ O1.out.2.1).mono ?_; rintro e w2 ⟨rfl, hb2⟩; have O2 := Lib.hid (O1.out.bel hb2); clear hb2))
    go_ret
    exact ⟨ret_int E.out.symm, O2.out.2.2⟩
  have e2 : decide ((200 : Int) < (depth t : Int)) = false := by simp; omega
  cases h3 : formedB t with
  | false =>
    have E := Lib.hid (show checkE t = 1 by rw [checkE, if_neg h1, if_neg h2, if_pos h3])
    rw [h3] at hF
    clear h1 h2 h3
    go_enter Try.func30, Try.ntmps30
    go_wp2_with (first | (go_at_call 35; refine (c_rsize t hs _ _ O0.out.2.1).mono ?_; rintro e w1 ⟨rfl, hb1⟩; have O1 := Lib.hid (O0.out.bel hb1); obtain ⟨⟨x0, x1, x2⟩, _⟩ := O1.out; clear hb1) | (go_at_call 34; refine (c_rdepth t hs _ _ O1.out.2.1).mono ?_; rintro e w2 ⟨rfl, hb2⟩; have O2 := Lib.hid (O1.out.bel hb2); obtain ⟨⟨y0, y1, y2⟩, _⟩ := O2.out; clear hb2) | (go_at_call 46; refine (hF.out _ _ O2.out.2.1).mono ?_; rintro e w3 ⟨rfl, hb3⟩; have O3 := Lib.hid (O2.out.bel hb3); clear hb3))
    go_ret
    exact ⟨ret_int E.out.symm, O3.out.2.2⟩
  | true =>
    have E := Lib.hid (show checkE t = 0 by rw [checkE, if_neg h1, if_neg h2, if_neg (by rw [h3]; simp)])
    rw [h3] at hF
    clear h1 h2 h3
    go_enter Try.func30, Try.ntmps30
    go_wp2_with (first | (go_at_call 35; refine (c_rsize t hs _ _ O0.out.2.1).mono ?_; rintro e w1 ⟨rfl, hb1⟩; have O1 := Lib.hid (O0.out.bel hb1); obtain ⟨⟨x0, x1, x2⟩, _⟩ := O1.out; clear hb1) | (go_at_call 34; refine (c_rdepth t hs _ _ O1.out.2.1).mono ?_; rintro e w2 ⟨rfl, hb2⟩; have O2 := Lib.hid (O1.out.bel hb2); obtain ⟨⟨y0, y1, y2⟩, _⟩ := O2.out; clear hb2) | (go_at_call 46; refine (hF.out _ _ O2.out.2.1).mono ?_; rintro e w3 ⟨rfl, hb3⟩; have O3 := Lib.hid (O2.out.bel hb3); clear hb3))
    go_ret
    exact ⟨ret_int E.out.symm, O3.out.2.2⟩

def countE (t : Tm) (n : Int) : Nat := if 0 ≤ n ∧ n ≤ 65535 then countT t n else 0
end Go.Proofs.Ytblebboamopffaa
