/- Helpers of layer 4's statements: the contracts in the form in which the walks meet them; a term that is told and boxed. No conditions. -/
import Derived.Test.YtbfefpejcefnhaaWs
import Derived.Test.YtbfefpejcefnhaaLb
import Derived.Test.YtbfefpejcefnhaaSo
namespace Go.Proofs.Ytbfefpejcefnhaa
open Go.RowKit
set_option linter.unusedVariables false

theorem c_shift {t r : Tm} {b f e : Int} (hF : Fits t) (hs : size t ≤ 1048576) (hE : shiftE t b f = e) (hT : shiftT t b f = r) (W : World) (v : Value) (hA : At W t.kids v) :
    Calls Try.prog 23 #[.agg #[.int .i64 t.k, .int .i64 t.n, v], .int .i64 b, .int .i64 f] W (TellK W r (.int .i64 e)) := by
  subst hE hT; exact shift_any t hF hs b f W v hA
theorem c_lower {t r : Tm} {n : Int} {o : Bool} (hF : Fits t) (hs : size t ≤ 1048576) (hE : lowerB t n = o) (hT : lowerT t n = r) (W : World) (v : Value) (hA : At W t.kids v) :
    Calls Try.prog 25 #[.agg #[.int .i64 t.k, .int .i64 t.n, v], .int .i64 n] W (TellK W r (.bool o)) := by
  subst hE hT; exact lower_any t hF hs n W v hA
theorem c_count {t : Tm} {n : Int} {c : Nat} (hs : size t ≤ 1048576) (hE : cntE t n = c) (W : World) (v : Value) (hA : At W t.kids v) :
    Calls Try.prog 31 #[.agg #[.int .i64 t.k, .int .i64 t.n, v], .int .i64 n] W fun e w' => e = .returned (.int .i64 (c : Int)) ∧ Below W.heap.size W w' := by
  subst hE; exact scount_any t hs n W v hA
theorem c_same {t : Tm} (hs : size t ≤ 1048576) (W : World) (va vb : Value) (hA : At W t.kids va) (hB : At W t.kids vb) :
    Calls Try.prog 17 #[.agg #[.int .i64 t.k, .int .i64 t.n, va], .agg #[.int .i64 t.k, .int .i64 t.n, vb]] W fun e w' => e = .returned (.bool true) ∧ Below W.heap.size W w' := by
  have := c_keep t t hs hs W va vb hA hB
  rwa [eqT_self] at this
/-- A term that was told is boxed: its box, and that the world has only grown. -/
theorem boxed_tell {w w1 w2 : World} {S : Nat → Prop} {r : Tm} {a : Option Addr} {cap : Nat} (hw : Below w.heap.size w w1) (hb : Below w1.heap.size w1 w2) (hK : AtK S w2 r.kids (.slice a r.kids.length cap)) :
    One w w2.heap.size r (.slice a r.kids.length cap) (w2.alloc (.cells #[.int .i64 r.k, .int .i64 r.n, .slice a r.kids.length cap] 24)) ∧ Below w1.heap.size w1 (w2.alloc (.cells #[.int .i64 r.k, .int .i64 r.n, .slice a r.kids.length cap] 24)) := by
  obtain ⟨h1, h2, h3⟩ := one_start w2 r (.slice a r.kids.length cap) hK.ats.at
  exact ⟨⟨h1, h2, hw.trans ((hb.trans (h3.mono hb.size)).mono hw.size)⟩, hb.trans (h3.mono hb.size)⟩
theorem shiftT_ok {t : Tm} {b f : Int} (h : shiftE t b f = 0) : shiftT t b f = moveT t b f := by rw [shiftT, if_pos h]
theorem shiftT_no {t : Tm} {b f : Int} (h : shiftE t b f ≠ 0) : shiftT t b f = noT := by rw [shiftT, if_neg h]
theorem move_size (t : Tm) (b f : Int) : size (moveT t b f) = size t := mapT_size _ _ _
theorem move_fits {t : Tm} {b f : Int} (h : shiftE t b f = 0) : Fits (moveT t b f) := check_fits (shift_check h)
end Go.Proofs.Ytbfefpejcefnhaa
