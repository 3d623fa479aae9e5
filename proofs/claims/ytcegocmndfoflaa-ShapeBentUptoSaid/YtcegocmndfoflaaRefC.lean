/- The page's scope of a term, as the Go text computes it. -/
import Derived.Test.YtcegocmndfoflaaRefB
import Derived.Test.YtcegocmndfoflaaPl
import Derived.WalkKit
import Derived.Lib.Hide
import Derived.IntWalk
import Derived.Deep.QuietTactic
import Derived.BigQuiet
import Derived.Deep.RegionHeld3
namespace Go.Proofs.Ytcegocmndfoflaa
open Go.RowKit

/-- What a region that draws its order may read: the boxed term's kind and Kids, one Kid's cells. -/
theorem keepS {w0 w' w1 : World} {B b o : Nat} {x0 x2 y0 y1 y2 : Value} {l : List Tm} {v : Value}
    (h : (w'.cell? ⟨B, 0, none⟩ = some x0 ∧ w'.cell? ⟨B, 2, none⟩ = some x2 ∧ w'.cell? ⟨b, o, none⟩ = some y0 ∧ w'.cell? ⟨b, o + 1, none⟩ = some y1 ∧ w'.cell? ⟨b, o + 2, none⟩ = some y2) ∧ At w' l v ∧ Below w0.heap.size w0 w')
    (hb : Below w'.heap.size w' w1) :
    (w1.cell? ⟨B, 0, none⟩ = some x0 ∧ w1.cell? ⟨B, 2, none⟩ = some x2 ∧ w1.cell? ⟨b, o, none⟩ = some y0 ∧ w1.cell? ⟨b, o + 1, none⟩ = some y1 ∧ w1.cell? ⟨b, o + 2, none⟩ = some y2) ∧ At w1 l v ∧ Below w0.heap.size w0 w1 := by
  have g : ∀ {a : Addr} {x : Value}, w'.cell? a = some x → w1.cell? a = some x := fun {a x} hx => by rw [hb.cell (World.block_lt_of_cell? w' _ hx)]; exact hx
  obtain ⟨⟨h1, h2, h3, h4, h5⟩, h6, h7⟩ := h
  exact ⟨⟨g h1, g h2, g h3, g h4, g h5⟩, h6.bel hb (Nat.le_refl _), h7.trans (hb.mono h7.size)⟩

set_option maxRecDepth 100000 in
set_option maxHeartbeats 1600000 in
theorem rscoped_any : ∀ (t : Tm), Fits t → size t < 2147483648 → ∀ (v c : Int), -1099511627776 ≤ v → v + depth t ≤ 1099511627776 → ∀ (w : World) (sv : Value), At w t.kids sv →
    Calls Try.prog 64 #[tv t sv, .int .i64 v, .int .i64 c] w fun e w' => e = .returned (.bool (scopedT t v c)) ∧ Below w.heap.size w w' := by
  refine tm_ind fun t ih => ?_
  intro hf hs v c hv0 hv1 w sv hA
  obtain ⟨a, cap, rfl⟩ := hA.shape
  have hlen : t.kids.length < 2147483648 := by have := length_le_sizeL t.kids; have := size_eq t; omega
  have hb0 := (Below.refl _ w).alloc (Nat.le_refl _) (.cells #[.int .i64 t.k, .int .i64 t.n, .slice a t.kids.length cap] 42)
  unfold tv
  by_cases h1 : t.k = 1
  · have e1 : (t.k == 1) = true := by simpa using h1
    have E := Lib.hid (show scopedT t v c = decide (t.n < v) by rw [scopedT_eq, if_pos h1])
    clear ih h1
    go_enter Try.func64, Try.ntmps64
    go_wp2_with fail
    go_ret
    exact ⟨ret_bool E.out.symm, hb0⟩
  have e1 : (t.k == 1) = false := by simpa using h1
  by_cases h2 : t.k = 2
  · have e2 : (t.k == 2) = true := by simpa using h2
    have E := Lib.hid (show scopedT t v c = decide (t.n ≤ 6) by rw [scopedT_eq, if_neg h1, if_pos h2])
    clear ih h1 h2
    go_enter Try.func64, Try.ntmps64
    go_wp2_with fail
    go_ret
    exact ⟨ret_bool E.out.symm, hb0⟩
  have e2 : (t.k == 2) = false := by simpa using h2
  by_cases h3 : t.k = 3
  · have e3 : (t.k == 3) = true := by simpa using h3
    have E := Lib.hid (show scopedT t v c = decide (t.n < c) by rw [scopedT_eq, if_neg h1, if_neg h2, if_pos h3])
    clear ih h1 h2 h3
    go_enter Try.func64, Try.ntmps64
    go_wp2_with fail
    go_ret
    exact ⟨ret_bool E.out.symm, hb0⟩
  have e3 : (t.k == 3) = false := by simpa using h3
  have E := Lib.hid (show scopedT t v c = scopedL t.kids t.k v c 0 by rw [scopedT_eq, if_neg h1, if_neg h2, if_neg h3])
  clear h1 h2 h3
  go_enter Try.func64, Try.ntmps64
  go_wp2_with fail
  have hB := box3_new w t (.slice a t.kids.length cap) 42
  have hA1 := hA.bel hb0 (Nat.le_refl _)
  clear hA e1 e2 e3
  revert hB hb0 hA1
  generalize hW : w.alloc (.cells #[.int .i64 t.k, .int .i64 t.n, .slice a t.kids.length cap] 42) = W
  clear hW
  intro hb0 hB hA1
  go_loopw [7] (fun i wr => ∃ j : Nat, j ≤ t.kids.length ∧ i = .int .i64 j ∧ scopedL (t.kids.take j) t.k v c 0 = true ∧ Below W.heap.size W wr)
    (fun i _ => t.kids.length - (intOf i).toNat)
  case atStart => exact ⟨0, Nat.zero_le _, rfl, by simp [scopedL], Below.refl _ _⟩
  case round =>
    obtain ⟨j, hj, rfl, hsc, hbw⟩ := hrel
    have HSC := Lib.hid hsc
    clear hsc
    obtain ⟨hBlt, c0, c1, c2⟩ := hB.bel hbw
    by_cases hlt : j < t.kids.length
    · obtain ⟨b, off, cap', vs, he, h1, h2, kk, kn, kv, ks⟩ := (hA1.bel hbw (Nat.le_refl _)).pos (by omega)
      have gk := kk j hlt
      have gn := kn j hlt
      have gv := kv j hlt
      have gs := ks j hlt
      clear kk kn kv ks
      have hbd := bindsI_range t.k j
      have hsz := size_get hlt
      have hse := size_eq t
      have hde := depth_get hlt
      have hdt := depth_eq t
      have hm := List.getElem_mem hlt
      have q1 : size t.kids[j] < 2147483648 := by omega
      have q2 : -1099511627776 ≤ v + bindsI t.k j := by omega
      have q3 : v + bindsI t.k j + depth t.kids[j] ≤ 1099511627776 := by omega
      have hw0 : IntKind.i64.wrap (v + bindsI t.k j) = v + bindsI t.k j := IntWalk.i64_in _ (by omega)
      have HI := Lib.hid (fun (w : World) (hw : At w t.kids[j].kids (vs j)) => ih t.kids[j] hm (hf.kids _ hm) q1 (v + bindsI t.k j) c q2 q3 w (vs j) hw)
      have HE := Lib.hid (scopedL_take_succ hlt t.k v c)
      clear ih hs hf hsz hse hde hdt q1 hm
      unfold tv at HI
      cases he
      go_wp2_with fail
      go_region_held3 (fun w' => (w'.cell? ⟨w.heap.size, 0, none⟩ = some (.int .i64 t.k) ∧ w'.cell? ⟨w.heap.size, 2, none⟩ = some (.slice (some ⟨b, off, none⟩) t.kids.length cap) ∧
          w'.cell? ⟨b, off + j * 3, none⟩ = some (.int .i64 t.kids[j].k) ∧ w'.cell? ⟨b, off + j * 3 + 1, none⟩ = some (.int .i64 t.kids[j].n) ∧ w'.cell? ⟨b, off + j * 3 + 2, none⟩ = some (vs j)) ∧ At w' t.kids[j].kids (vs j) ∧ Below wr.heap.size wr w')
        (first | exact ⟨⟨c0, c2, gk, gn, gv⟩, gs.drew, (Below.refl _ _).drew⟩ | assumption | exact keepS (w' := wr.drew) ⟨⟨c0, c2, gk, gn, gv⟩, gs.drew, (Below.refl _ _).drew⟩ hb1)
        (first | (go_at_call 69; refine (rbinds_any _ _ _).mono ?_; rintro e w' ⟨rfl, rfl⟩) | (go_at_call 64; refine (HI.out _ gs.drew).mono ?_; rintro e w' ⟨rfl, hb1⟩))
      go_wp2_with fail
      · obtain ⟨_, _, hbx⟩ := ‹(_ ∧ _ ∧ _ ∧ _ ∧ _) ∧ At _ _ _ ∧ Below _ wr _›
        have hx : (!scopedT t.kids[j] (v + bindsI t.k ↑j) c) = true := by assumption
        go_ret
        exact ⟨ret_bool (by rw [E.out, scopedL_no hlt (by simpa using hx)]), (hb0.trans (hbw.mono hb0.size)).trans (hbx.mono (Nat.le_trans hb0.size hbw.size))⟩
      · obtain ⟨_, _, hbx⟩ := ‹(_ ∧ _ ∧ _ ∧ _ ∧ _) ∧ At _ _ _ ∧ Below _ wr _›
        have hx : (!scopedT t.kids[j] (v + bindsI t.k ↑j) c) = false := by assumption
        go_roundw
        case rel => exact ⟨j + 1, by omega, by go_num, by rw [HE.out, HSC.out]; simpa using hx, hbw.trans (hbx.mono hbw.size)⟩
        case measure => simp [intOf]; omega
    · obtain rfl : j = t.kids.length := by omega
      have hlt : decide ((t.kids.length : Int) < (t.kids.length : Int)) = false := by simp
      clear ih hs hf
      go_wp2_with fail
      go_ret
      exact ⟨ret_bool (by rw [E.out]; have := HSC.out; rw [List.take_length] at this; exact this.symm), hb0.trans (hbw.mono hb0.size)⟩
end Go.Proofs.Ytcegocmndfoflaa
