/- Package term's Size and Depth: what they return for any term. -/
import Derived.Test.YtcegocmndfoflaaNw
namespace Go.Proofs.Ytcegocmndfoflaa
open Go.RowKit Go.Shelf Go Go.Joins
attribute [local go_sem] Oper.semAt_some

theorem old_of {w W : World} (h : Below w.heap.size w W) : Old w W := ⟨h.size, h.block⟩
theorem boxed_bel {W W' : World} {B D : Nat} {t : TypeId} {v : Value} (h : Boxed W B t v) (hb : Below D W W') (hD : B < D) : Boxed W' B t v := (hb.block B hD).trans h

theorem nodes_agg (t : Tm) (v : Value) (w : World) (hA : At w t.kids v) :
    Calls Try.prog 77 #[.agg #[.int .i64 t.k, .int .i64 t.n, v]] w fun e w' => e = .returned (.func (.func 80) #[] #[.pointer (some ⟨w.heap.size, 0, none⟩)]) ∧ w' = w.alloc (.cells #[.int .i64 t.k, .int .i64 t.n, v] 42) :=
  nodes_any t v w hA
theorem boxed_other {W : World} {B : Nat} {t : TypeId} {v : Value} (h : Boxed W B t v) (a : Addr) (u : Value) (hne : B ≠ a.block) : Boxed (W.setCell a u) B t v := (Below.heap_setCell W a u B hne).trans h

end Go.Proofs.Ytcegocmndfoflaa
