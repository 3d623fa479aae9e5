/- The page's size and depth of a term, as the Go text computes them. -/
import Derived.Test.YtcegocmndfoflaaChecked
import Derived.Test.YtcegocmndfoflaaTm
import Derived.WalkKit
import Derived.Lib.Hide
namespace Go.Proofs.Ytcegocmndfoflaa
open Go.RowKit

/-- A boxed term: its three cells. -/
def Box3 (W : World) (B : Nat) (t : Tm) (v : Value) : Prop :=
  B < W.heap.size ∧ W.cell? ⟨B, 0, none⟩ = some (.int .i64 t.k) ∧ W.cell? ⟨B, 1, none⟩ = some (.int .i64 t.n) ∧ W.cell? ⟨B, 2, none⟩ = some v
theorem Box3.bel {W W' : World} {B : Nat} {t : Tm} {v : Value} (h : Box3 W B t v) (hb : Below W.heap.size W W') : Box3 W' B t v :=
  ⟨Nat.lt_of_lt_of_le h.1 hb.size, (hb.cell (p := ⟨B, 0, none⟩) h.1).trans h.2.1, (hb.cell (p := ⟨B, 1, none⟩) h.1).trans h.2.2.1, (hb.cell (p := ⟨B, 2, none⟩) h.1).trans h.2.2.2⟩
theorem box3_new (w : World) (t : Tm) (v : Value) (ty : TypeId) : Box3 (w.alloc (.cells #[.int .i64 t.k, .int .i64 t.n, v] ty)) w.heap.size t v := by
  refine ⟨by simp, ?_, ?_, ?_⟩ <;> simp [go_sem]

set_option maxRecDepth 100000 in
set_option maxHeartbeats 400000 in
theorem rsize_any : ∀ (t : Tm), size t < 2147483648 → ∀ (w : World) (v : Value), At w t.kids v →
    Calls Try.prog 53 #[tv t v] w fun e w' => e = .returned (.int .i64 (size t)) ∧ Below w.heap.size w w' := by
  refine tm_ind fun t ih => ?_
  intro hs w v hA
  obtain ⟨a, cap, rfl⟩ := hA.shape
  have hlen : t.kids.length < 2147483648 := by have := length_le_sizeL t.kids; have := size_eq t; omega
  unfold tv
  go_enter Try.func53, Try.ntmps53
  go_wp2_with fail
  have hB := box3_new w t (.slice a t.kids.length cap) 42
  have hb0 := (Below.refl _ w).alloc (Nat.le_refl _) (.cells #[.int .i64 t.k, .int .i64 t.n, .slice a t.kids.length cap] 42)
  have hA1 := hA.bel hb0 (Nat.le_refl _)
  revert hB hb0 hA1
  generalize hW : w.alloc (.cells #[.int .i64 t.k, .int .i64 t.n, .slice a t.kids.length cap] 42) = W
  clear hW
  intro hB hb0 hA1
  go_loopw [3, 4] (fun n i wr => ∃ j : Nat, j ≤ t.kids.length ∧ i = .int .i64 j ∧ n = .int .i64 ((sizeL (t.kids.take j) + 1 : Nat) : Int) ∧ Below W.heap.size W wr)
    (fun _ i _ => t.kids.length - (intOf i).toNat)
  case atStart => exact ⟨0, Nat.zero_le _, rfl, by simp [sizeL], Below.refl _ _⟩
  case round =>
    obtain ⟨j, hj, rfl, rfl, hbw⟩ := hrel
    obtain ⟨hBlt, c0, c1, c2⟩ := hB.bel hbw
    by_cases hlt : j < t.kids.length
    · obtain ⟨b, off, cap', vs, he, h1, h2, kk, kn, kv, ks⟩ := (hA1.bel hbw (Nat.le_refl _)).pos (by omega)
      have gk := kk j hlt
      have gn := kn j hlt
      have gv := kv j hlt
      have gs := ks j hlt
      clear kk kn kv ks
      have hsz := sizeL_take_succ hlt
      have hle := sizeL_take t.kids (j + 1)
      have hse := size_eq t
      have HI := Lib.hid (ih t.kids[j] (List.getElem_mem hlt) (by omega) wr (vs j) gs)
      have HS := Lib.hid hsz
      have hb3 : sizeL (t.kids.take j) + 1 + size t.kids[j] < 2147483648 := by omega
      have hp0 : 0 ≤ size t.kids[j] := Nat.zero_le _
      clear ih hs hle hsz hse
      cases he
      go_wp2_with fail
      refine (HI.out).mono ?_
      rintro e w1 ⟨rfl, hb1⟩
      go_wp2_with fail
      go_roundw
      case rel => exact ⟨j + 1, by omega, by go_num, by rw [HS.out]; go_num, hbw.trans (hb1.mono hbw.size)⟩
      case measure => simp [intOf]; omega
    · obtain rfl : j = t.kids.length := by omega
      have hlt : decide ((t.kids.length : Int) < (t.kids.length : Int)) = false := by simp
      go_wp2_with fail
      go_ret
      exact ⟨ret_int (by rw [List.take_length, size_eq]), hb0.trans (hbw.mono hb0.size)⟩
end Go.Proofs.Ytcegocmndfoflaa
