/- Package term's Depth, Check and Scope: what they return for any term. -/
import Derived.Test.YtcegocmndfoflaaCs
import Derived.Test.YtcegocmndfoflaaPn
namespace Go.Proofs.Ytcegocmndfoflaa
open Go.RowKit Go.Shelf Go Go.Joins
attribute [local go_sem] Oper.semAt_some

theorem max_ite (a b : Int) : max a b = if a < b then b else a := by split <;> omega
end Go.Proofs.Ytcegocmndfoflaa
