/- TermBinds: the Go text returns true for any two terms that are not greater than the second form's bound, and any numbers. -/
import Derived.Test.YtcegocmndfoflaaCt
import Derived.IntWalk
namespace Go.Proofs.Ytcegocmndfoflaa
open Go.RowKit

theorem u64_nonneg' (a : Int) : 0 ≤ IntKind.u64.wrap a := by
  simp [IntKind.wrap, IntKind.signed, IntKind.bits]
  omega
theorem mod_range (a : Int) (n : Int) (h : 0 < n) (h2 : n ≤ 1000000) : 0 ≤ wrap64 ((IntKind.u64.wrap a).tmod n) ∧ wrap64 ((IntKind.u64.wrap a).tmod n) < n := by
  have hh : 0 ≤ (IntKind.u64.wrap a).tmod n ∧ (IntKind.u64.wrap a).tmod n < n := by
    rw [Int.tmod_eq_emod_of_nonneg (u64_nonneg' a)]
    exact ⟨Int.emod_nonneg _ (by omega), Int.emod_lt_of_pos _ h⟩
  rw [IntWalk.wrap64_in _ (by omega)]; exact hh
def kindAt (k : Nat) : Int := if k = 0 then 4 else if k = 1 then 5 else if k = 2 then 7 else if k = 3 then 6 else 12

theorem heavy_size {l : List Tm} (h : heavyB l = false) : sizeL l ≤ 9000 := by
  simp only [heavyB, Bool.or_eq_false_iff, decide_eq_false_iff_not] at h
  omega
/-- Of two Kids that are checked as one: what is in scope of the whole. -/
theorem binds_scope (k : Int) (a b : Tm) (v : Int) (hv : 0 ≤ v) (hk : k = 4 ∨ k = 5 ∨ k = 7 ∨ k = 6 ∨ k = 12) (hc : checkE (.node k 0 [a, b]) = 0) :
    scopeT (.node k 0 [a, b]) v 65536 = (scopeT a v 65536 && scopeT b (v + bindsI k 1) 65536) := by
  have hf := check_formed hc
  have hr := bindsI_range k 1
  have hsz : ¬ 6000 < size (.node k 0 [a, b]) := by intro h; rw [checkE, if_pos h] at hc; cases hc
  have hdp : ¬ 200 < depth (.node k 0 [a, b]) := by intro h; rw [checkE, if_neg hsz, if_pos h] at hc; cases hc
  simp only [size, sizeL, depth, depthL] at hsz hdp
  simp only [formedB, formedL, Bool.and_eq_true] at hf
  have ha : checkE a = 0 := by rw [checkE, if_neg (by omega), if_neg (by omega), if_neg (by rw [hf.2.1]; simp)]
  have hb : checkE b = 0 := by rw [checkE, if_neg (by omega), if_neg (by omega), if_neg (by rw [hf.2.2.1]; simp)]
  have h0 : bindsI k 0 = 0 := by unfold bindsI; rw [if_neg (by omega)]
  have h0' : bindsI k ((0 : Nat) : Int) = 0 := h0
  unfold scopeT
  rw [ha, hb, hc, scopedT, if_neg (by omega), if_neg (by omega), if_neg (by omega)]
  simp only [scopedL, h0', Int.add_zero, Bool.and_true]
  have h1 : decide (0 ≤ v) = true := by simpa using hv
  have h2 : decide (0 ≤ v + bindsI k 1) = true := by simp; omega
  simp [h1, h2]

theorem kindAt_in (k : Nat) : kindAt k = 4 ∨ kindAt k = 5 ∨ kindAt k = 7 ∨ kindAt k = 6 ∨ kindAt k = 12 := by
  unfold kindAt
  split
  · omega
  · split
    · omega
    · split
      · omega
      · split <;> omega
theorem kind_cell {w : World} {s kn : Nat} {ty : TypeId} (h : w.heap[s]? = some (.cells #[.int .i64 4, .int .i64 5, .int .i64 7, .int .i64 6, .int .i64 12] ty (0, 0))) (hk : kn < 5) : w.cell? ⟨s, kn, none⟩ = some (.int .i64 (kindAt kn)) := by
  have : kn = 0 ∨ kn = 1 ∨ kn = 2 ∨ kn = 3 ∨ kn = 4 := by omega
  rcases this with rfl | rfl | rfl | rfl | rfl <;> simp [World.cell?, h, kindAt]

end Go.Proofs.Ytcegocmndfoflaa
