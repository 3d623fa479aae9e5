/- The page's Unpack: what is got of any bytes. -/
import Derived.Test.YthcjjfgigbgdkaaUs
import Derived.RegionTactic
namespace Go.Proofs.Ythcjjfgigbgdkaa
open Go.RowKit Go Go.Joins
set_option linter.unusedVariables false

theorem rgetr_ok : ∀ (f : Nat), f ≤ 200 → RTermOk (getP f) (201 - f)
  | 0, _ => fun rb D l ao cap p m w hb hp hD hrb hR hl hm => by
    have h := rtermr_any (getP 0) 201 (by omega) (by omega) (fun h => absurd h (by omega)) rb D l ao cap p m w hb hp hD hrb hR hl hm
    rw [if_pos (by omega)] at h
    rw [show getP 0 (l.drop p) (6000 - m) = none from rfl]
    exact h
  | f + 1, hf => fun rb D l ao cap p m w hb hp hD hrb hR hl hm => by
    have hT := rgetr_ok f (by omega)
    have h := rtermr_any (getP f) (201 - ((f + 1 : Nat) : Int)) (by omega) (by omega) (fun _ => by rw [show 201 - ((f + 1 : Nat) : Int) + 1 = 201 - (f : Int) by omega]; exact hT) rb D l ao cap p m w hb hp hD hrb hR hl hm
    rw [if_neg (by omega), ← getP_step] at h
    exact h

set_option maxRecDepth 100000 in
set_option maxHeartbeats 1600000 in
theorem unpack_any (l : List Int) (a : Int) (hb : ByteL l) (hl : l.length ≤ 1048576) (w : World) (v : Value) (hR : RdBy l v w) :
    Calls Try.prog 42 #[v, .int .i64 a] w (GetPost w (getS l a)) := by
  have hbx := World.alloc_heap_new w (.cells #[.int .i64 0, .int .i64 0, .slice none 0 0] 24)
  have hb0 := below_al w (.cells #[.int .i64 0, .int .i64 0, .slice none 0 0] 24)
  have HBX := Lib.hid hbx
  have HB0 := Lib.hid hb0
  clear hbx hb0
  generalize hres : getS l a = R
  have HR := Lib.hid hres
  clear hres
  obtain ⟨ao, cap, rfl, h2, h3, h4, h5⟩ := hR
  have HIN := Lib.hid (fun w => in_any a 0 (l.length : Int) w)
  by_cases hbad : a < 0 ∨ (l.length : Int) < a
  · have HP : Hid (R = (noT, 0, 1)) := by show _ = _; rw [← HR.out, getS, if_pos hbad]
    have hi : (decide (0 ≤ a) && decide (a ≤ (l.length : Int))) = false := by simp; omega
    rw [hi] at HIN
    clear HR h4 h5 hbad hi
    go_enter Try.func42, Try.ntmps42
    go_wp2_with fail
    refine (HIN.out _).mono ?_
    rintro e w' ⟨rfl, rfl⟩
    obtain ⟨⟨x0, x1, x2⟩, y0, y1, y2⟩ := boxc HBX.out
    go_wp2_with fail
    exact bodyPost_ret (v := .tuple #[.agg #[.int .i64 0, .int .i64 0, .slice none 0 0], .int .i64 0, .int .i64 1]) (by simp [results, Try.f42, go_sem, x0, x1, x2]) rfl (by rw [HP.out]; exact GetPost.no HB0.out)
  · obtain ⟨p, rfl⟩ : ∃ p : Nat, a = p := ⟨a.toNat, by omega⟩
    have hp : p ≤ l.length := by omega
    have HS : Hid (R = match readP (l.drop p) with | none => (noT, 0, 3) | some (t, r) => (t, (l.length : Int) - r.length, 0)) := by
      show _ = _
      rw [← HR.out, getS_in hp]
      cases readP (l.drop p) <;> rfl
    have hi : (decide (0 ≤ (p : Int)) && decide ((p : Int) ≤ (l.length : Int))) = true := by rw [Bool.and_eq_true, decide_eq_true_eq, decide_eq_true_eq]; omega
    rw [hi] at HIN
    have HRD : Hid (∀ W : World, (∀ b, b < w.heap.size → W.heap[b]? = w.heap[b]?) → RdN (w.heap.size + 1) (w.heap.size + 2) l (.slice ao l.length cap) W) := fun W hW => by
      refine ⟨ao, cap, rfl, h2, h3, h4, fun h0 => ?_⟩
      obtain ⟨b, off, he, hc⟩ := h5 h0
      have hblt := World.block_lt_of_cell? w _ (hc 0 h0)
      simp only at hblt
      exact ⟨b, off, by omega, by omega, he, fun i hi => by rw [World.cell?_of_block (w := w) (hW b hblt)]; exact hc i hi⟩
    have HC : Hid (Calls Try.prog 65 #[.pointer (some ⟨w.heap.size + 1, 0, none⟩), .int .i64 1] ((w.alloc (.cells #[.int .i64 0, .int .i64 0, .slice none 0 0] 24)).alloc (.cells #[.slice ao l.length cap, .int .i64 p, .int .i64 0, .bool false] 85))
        (RGot (w.heap.size + 1) (w.heap.size + 2) l ao cap ((w.alloc (.cells #[.int .i64 0, .int .i64 0, .slice none 0 0] 24)).alloc (.cells #[.slice ao l.length cap, .int .i64 p, .int .i64 0, .bool false] 85)) (getP 200 (l.drop p) 6000))) := by
      have h1 := World.alloc_heap_new (w.alloc (.cells #[.int .i64 0, .int .i64 0, .slice none 0 0] 24)) (.cells #[.slice ao l.length cap, .int .i64 p, .int .i64 0, .bool false] 85)
      rw [World.size_alloc] at h1
      exact rgetr_ok 200 (Nat.le_refl _) (w.heap.size + 1) (w.heap.size + 2) l ao cap p 0 _ hb hp (by simp) (by omega) ⟨h1, HRD.out _ fun b hb => by rw [Below.heap_alloc _ _ b (by simp; omega), Below.heap_alloc _ _ b hb]⟩ hl (by omega)
    have HBL := Lib.hid hb
    clear HR hbad h4 h5 hi hb
    go_enter Try.func42, Try.ntmps42
    go_wp2_with fail
    refine (HIN.out _).mono ?_
    rintro e w' ⟨rfl, rfl⟩
    go_wp2_with fail
    refine HC.out.mono ?_
    rintro e w4 ⟨hk4, hno, hso⟩
    have hsz4 := hk4.1
    simp only [World.size_alloc] at hsz4
    have HB4 := Lib.hid ((HB0.out.alloc (by simp) _).trans (hk4.below (B := w.heap.size) (by omega) (by simp; omega)))
    have HBX4 := Lib.hid (((hk4.2.2.2.2 w.heap.size (by simp; omega) (by omega)).trans (Below.heap_alloc _ _ w.heap.size (by simp))).trans HBX.out)
    cases hr : getP 200 (l.drop p) 6000 with
    | none =>
      obtain ⟨k1, m1, a1, x1, c1, b1, b2, rfl, hr4⟩ := hno hr
      have HP : Hid (R = (noT, 0, 3)) := by show _ = _; rw [HS.out, readP, hr]
      have hx5 := (Below.heap_alloc w4 (.cells #[.int .i64 k1, .int .i64 m1, .slice a1 x1 c1] 24) w.heap.size (by omega)).trans HBX4.out
      have hr5 := (Below.heap_alloc w4 (.cells #[.int .i64 k1, .int .i64 m1, .slice a1 x1 c1] 24) (w.heap.size + 1) (by omega)).trans hr4.1
      obtain ⟨⟨x0, x1', x2⟩, y0, y1, y2⟩ := boxc hx5
      obtain ⟨⟨c0, c1', c2, c3⟩, f0, f1, f2, f3⟩ := cell4 hr5
      clear hk4 hno hso hr HS hx5 hr5 hr4
      go_wp2_with fail
      exact bodyPost_ret (v := .tuple #[.agg #[.int .i64 0, .int .i64 0, .slice none 0 0], .int .i64 0, .int .i64 3]) (by simp [results, Try.f42, go_sem, x0, x1', x2]) rfl (by rw [HP.out]; exact GetPost.no ((HB4.out.alloc (HB4.out.size) _).trans (below_store3 (Nat.le_refl _) _ _ _)))
    | some y =>
      obtain ⟨t, r', n'⟩ := y
      obtain ⟨a4, c4, p', m', rfl, hA4, hr4, hrr, hp', hm', hn'⟩ := hso t r' n' hr
      have HP : Hid (R = (t, (p' : Int), 0)) := by
        show _ = _
        rw [HS.out, readP, hr]
        simp only
        rw [hrr, List.length_drop, show (l.length : Int) - ((l.length - p' : Nat) : Int) = (p' : Int) by omega]
      have hx5 := (Below.heap_alloc w4 (.cells #[.int .i64 t.k, .int .i64 t.n, .slice a4 t.kids.length c4] 24) w.heap.size (by omega)).trans HBX4.out
      have hr5 := (Below.heap_alloc w4 (.cells #[.int .i64 t.k, .int .i64 t.n, .slice a4 t.kids.length c4] 24) (w.heap.size + 1) (by omega)).trans hr4.1
      have hy5 := World.alloc_heap_new w4 (.cells #[.int .i64 t.k, .int .i64 t.n, .slice a4 t.kids.length c4] 24)
      have hB5 := HB4.out.alloc HB4.out.size (.cells #[.int .i64 t.k, .int .i64 t.n, .slice a4 t.kids.length c4] 24)
      have hz5 : (w4.alloc (.cells #[.int .i64 t.k, .int .i64 t.n, .slice a4 t.kids.length c4] 24)).heap.size = w4.heap.size + 1 := by simp
      have hA5 : AtS (fun b => w.heap.size + 2 ≤ b ∧ b < w4.heap.size) (w4.alloc (.cells #[.int .i64 t.k, .int .i64 t.n, .slice a4 t.kids.length c4] 24)) t.kids (.slice a4 t.kids.length c4) := by
        refine AtS.same (S := fun b => w.heap.size + 2 ≤ b ∧ b < w4.heap.size) (fun b hb => ⟨hb, Below.heap_alloc w4 _ b hb.2⟩) (hA4.mono fun b hb => ⟨by have h1 := hb.1; simp only [World.size_alloc] at h1; omega, hb.2⟩)
      clear hk4 hno hso hr HS hA4 hr4 hrr hn'
      obtain ⟨⟨c0, c1', c2, c3⟩, f0, f1, f2, f3⟩ := cell4 hr5
      go_wp2_with fail
      revert hx5 hr5 hy5 hB5 hz5 hA5
      generalize w4.alloc (.cells #[.int .i64 t.k, .int .i64 t.n, .slice a4 t.kids.length c4] 24) = w5
      intro hx5 hr5 hy5 hB5 hz5 hA5
      have HX5 := Lib.hid hx5
      have HR5 := Lib.hid hr5
      have HY5 := Lib.hid hy5
      have HB5 := Lib.hid hB5
      have HZ5 := Lib.hid hz5
      have HA5 := Lib.hid hA5
      clear hx5 hr5 hy5 hB5 hz5 hA5 c0 c1' c2 c3 f0 f1 f2 f3
      obtain ⟨⟨c0, c1, c2, c3⟩, f0, f1, f2, f3⟩ := cell4 HR5.out
      obtain ⟨⟨x0, x1, x2⟩, y0, y1, y2⟩ := boxc HX5.out
      obtain ⟨⟨z0, z1, z2⟩, u0, u1, u2⟩ := boxc HY5.out
      have hn1 : ¬ w4.heap.size = w.heap.size := by omega
      have hn2 : ¬ w.heap.size = w4.heap.size := by omega
      go_region
      go_wp2_with fail
      refine bodyPost_ret (v := .tuple #[.agg #[.int .i64 t.k, .int .i64 t.n, .slice a4 t.kids.length c4], .int .i64 (p' : Int), .int .i64 0]) (by simp [results, Try.f42, go_sem, x0, x1, x2]) rfl ?_
      rw [HP.out]
      have hz5 : w5.heap.size = w4.heap.size + 1 := HZ5.out
      refine ⟨_, rfl, ?_, ?_⟩
      · refine AtS.same (S := fun b => w.heap.size + 2 ≤ b ∧ b < w4.heap.size) (fun b hb => ?_) HA5.out
        obtain ⟨q5, q6⟩ := hb
        refine ⟨⟨by omega, ?_⟩, ?_⟩
        · show b < (((w5.setCell ⟨w.heap.size, 0, none⟩ (.int .i64 t.k)).setCell ⟨w.heap.size, 1, none⟩ (.int .i64 t.n)).setCell ⟨w.heap.size, 2, none⟩ (.slice a4 t.kids.length c4)).heap.size
          simp; omega
        · exact other_store3 (W := w5) (by omega) _ _ _
      · exact (HB5.out.trans (below_store3 (Nat.le_refl _) _ _ _)).drew
end Go.Proofs.Ythcjjfgigbgdkaa
