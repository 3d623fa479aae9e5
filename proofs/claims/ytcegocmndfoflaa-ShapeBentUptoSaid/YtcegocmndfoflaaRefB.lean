/- The page's depth of a term, as the Go text computes it. -/
import Derived.Test.YtcegocmndfoflaaRefA
import Derived.Test.YtcegocmndfoflaaKi
import Derived.WalkKit
import Derived.Lib.Hide
namespace Go.Proofs.Ytcegocmndfoflaa
open Go.RowKit

theorem ite_max (a b : Nat) : (if a < b then (b : Int) else (a : Int)) = ((max a b : Nat) : Int) := by split <;> omega

set_option maxRecDepth 100000 in
set_option maxHeartbeats 400000 in
theorem rdepth_any : ∀ (t : Tm), size t < 2147483648 → ∀ (w : World) (v : Value), At w t.kids v →
    Calls Try.prog 52 #[tv t v] w fun e w' => e = .returned (.int .i64 (depth t)) ∧ Below w.heap.size w w' := by
  refine tm_ind fun t ih => ?_
  intro hs w v hA
  obtain ⟨a, cap, rfl⟩ := hA.shape
  have hlen : t.kids.length < 2147483648 := by have := length_le_sizeL t.kids; have := size_eq t; omega
  unfold tv
  go_enter Try.func52, Try.ntmps52
  go_wp2_with fail
  have hB := box3_new w t (.slice a t.kids.length cap) 42
  have hb0 := (Below.refl _ w).alloc (Nat.le_refl _) (.cells #[.int .i64 t.k, .int .i64 t.n, .slice a t.kids.length cap] 42)
  have hA1 := hA.bel hb0 (Nat.le_refl _)
  revert hB hb0 hA1
  generalize hW : w.alloc (.cells #[.int .i64 t.k, .int .i64 t.n, .slice a t.kids.length cap] 42) = W
  clear hW
  intro hB hb0 hA1
  go_loopw [3, 4] (fun n i wr => ∃ j : Nat, j ≤ t.kids.length ∧ i = .int .i64 j ∧ n = .int .i64 (depthL (t.kids.take j) : Int) ∧ Below W.heap.size W wr)
    (fun _ i _ => t.kids.length - (intOf i).toNat)
  case atStart => exact ⟨0, Nat.zero_le _, rfl, by simp [depthL], Below.refl _ _⟩
  case round =>
    obtain ⟨j, hj, rfl, rfl, hbw⟩ := hrel
    obtain ⟨hBlt, c0, c1, c2⟩ := hB.bel hbw
    by_cases hlt : j < t.kids.length
    · obtain ⟨b, off, cap', vs, he, h1, h2, kk, kn, kv, ks⟩ := (hA1.bel hbw (Nat.le_refl _)).pos (by omega)
      have gk := kk j hlt
      have gn := kn j hlt
      have gv := kv j hlt
      have gs := ks j hlt
      clear kk kn kv ks
      have hsz := depthL_take_succ hlt
      have hle := size_get hlt
      have hse := size_eq t
      have hds := depth_le_size t.kids[j]
      have hdl := depthL_le_sizeL (t.kids.take j)
      have hst := sizeL_take t.kids j
      have HI := Lib.hid (ih t.kids[j] (List.getElem_mem hlt) (by omega) wr (vs j) gs)
      have HS := Lib.hid hsz
      have hb3 : depthL (t.kids.take j) < 2147483648 := by omega
      have hb4 : depth t.kids[j] < 2147483648 := by omega
      clear ih hs hle hsz hse hds hdl hst
      cases he
      go_wp2_with fail
      refine (HI.out).mono ?_
      rintro e w1 ⟨rfl, hb1⟩
      go_wp2_with fail
      go_roundw
      case rel => exact ⟨j + 1, by omega, by go_num, by rw [HS.out, ← ite_max], hbw.trans (hb1.mono hbw.size)⟩
      case measure => simp [intOf]; omega
    · obtain rfl : j = t.kids.length := by omega
      have hdb : depthL t.kids < 2147483648 := by have := depthL_le_sizeL t.kids; have := size_eq t; omega
      clear ih hs
      have hlt : decide ((t.kids.length : Int) < (t.kids.length : Int)) = false := by simp
      go_wp2_with fail
      go_ret
      exact ⟨ret_int (by rw [depth_eq]; simp), hb0.trans (hbw.mono hb0.size)⟩
end Go.Proofs.Ytcegocmndfoflaa
