/- Package pack's reader: term, by what inner does. -/
import Derived.Test.YthcjjfgigbgdkaaGl
namespace Go.Proofs.Ythcjjfgigbgdkaa
open Go.RowKit Go Go.Joins
set_option linter.unusedVariables false

def stepP (g : List Int → Nat → Got) (l : List Int) (n : Nat) : Got := match l, n with
  | [], _ => none
  | _ :: _, 0 => none
  | k :: r, n + 1 => if kidsI k = 0 then leafP k r n else innerP g k r n
theorem getP_step (f : Nat) (l : List Int) (n : Nat) : getP (f + 1) l n = stepP (getP f) l n := by
  cases l with
  | nil => rfl
  | cons k r => cases n <;> rfl
def InnerOk (g : List Int → Nat → Got) (d : Int) : Prop := ∀ (rb D : Nat) (l : List Int) (n : Nat) (k : Int) (w : World), ByteL l → 0 ≤ k → k ≤ 255 → D ≤ w.heap.size → rb < D → Rdr rb D l n w → l.length ≤ 1099511627776 → n ≤ 6000 →
    Calls Try.prog 73 #[.pointer (some ⟨rb, 0, none⟩), .int .i64 k, .int .i64 d] w (GotE rb D w (innerP g k l n))

theorem GotE.none {rb D : Nat} {w w' : World} (h : KeepR rb w w') : GotE rb D w none (.returned (.tuple #[.agg #[.int .i64 0, .int .i64 0, .slice none 0 0], .bool false])) w' :=
  ⟨h, fun _ => rfl, fun _ _ _ h => by cases h⟩
set_option maxRecDepth 100000 in
set_option maxHeartbeats 1600000 in
theorem termr_any (g : List Int → Nat → Got) (rb D : Nat) (l : List Int) (n : Nat) (d : Int) (hd1 : 1 ≤ d) (hd2 : d ≤ 201) (HI : d ≤ 200 → InnerOk g d) (hb : ByteL l) (w : World) (hD : D ≤ w.heap.size) (hrb : rb < D) (hR : Rdr rb D l n w) (hl : l.length ≤ 1099511627776) (hn : n ≤ 6000) :
    Calls Try.prog 64 #[.pointer (some ⟨rb, 0, none⟩), .int .i64 d] w (GotE rb D w (if 200 < d then none else stepP g l n)) := by
  have hR1 : Rdr rb D l n (w.alloc (.cells #[.int .i64 0, .int .i64 0, .slice none 0 0] 24)) := hR.same hrb fun b hb => Below.heap_alloc w _ b (by omega)
  have HT := Lib.hid (take_any rb D l n 1 (by omega) (by omega) _ hR1 hl)
  have HBX := Lib.hid (World.alloc_heap_new w (.cells #[.int .i64 0, .int .i64 0, .slice none 0 0] 24))
  have HK0 : Hid (KeepR rb w (w.alloc (.cells #[.int .i64 0, .int .i64 0, .slice none 0 0] 24))) := KeepR.of (below_al w _)
  generalize hres : (if 200 < d then none else stepP g l n) = R
  have HR := Lib.hid hres
  clear hR hR1 hres
  cases l with
  | nil =>
    have HP : Hid (R = none) := by show _ = _; rw [← HR.out]; split <;> rfl
    have hl2 : ([] : List Int).length < 1 := by simp
    clear HI
    go_enter Try.func64, Try.ntmps64
    go_wp2_with (go_at_call 71; refine HT.out.mono ?_; rintro e w2 ⟨_, h1, _⟩; obtain ⟨rfl, rfl⟩ := h1 hl2; obtain ⟨⟨x0, x1, x2⟩, y0, y1, y2⟩ := boxc HBX.out)
    all_goals exact bodyPost_ret (v := .tuple #[.agg #[.int .i64 0, .int .i64 0, .slice none 0 0], .bool false]) (by simp [results, Try.f64, go_sem, x0, x1, x2]) rfl (by rw [HP.out]; exact GotE.none HK0.out)
  | cons k r =>
    have hk := hb k (by simp)
    have hbr : ByteL r := fun x hx => hb x (List.mem_cons_of_mem _ hx)
    have hle : 1 ≤ (k :: r).length := by simp
    have hlr : r.length ≤ 1099511627776 := by simp at hl; omega
    have HB := Lib.hid hbr
    clear hb hbr
    by_cases hd : 200 < d
    · have HP : Hid (R = none) := by show _ = _; rw [← HR.out, if_pos hd]
      clear HI
      go_enter Try.func64, Try.ntmps64
      go_wp2_with (go_at_call 71; refine HT.out.mono ?_; rintro e w2 ⟨hk2, _, h2⟩; obtain ⟨v2, rfl, hn2, hr2⟩ := h2 hle; obtain ⟨⟨x0, x1, x2⟩, y0, y1, y2⟩ := boxc ((hk2.2.2.2.2 w.heap.size (by simp) (by omega)).trans HBX.out); have HK2 := Lib.hid (HK0.out.trans hk2); clear hk2 hn2 hr2 h2)
      all_goals exact bodyPost_ret (v := .tuple #[.agg #[.int .i64 0, .int .i64 0, .slice none 0 0], .bool false]) (by simp [results, Try.f64, go_sem, x0, x1, x2]) rfl (by rw [HP.out]; exact GotE.none (HK2.out.trans' (below_store3 (Nat.le_refl _) _ _ _)))
    have HIN := Lib.hid (HI (by omega))
    have e1 : decide (200 < d) = false := decide_eq_false hd
    clear HI
    cases n with
    | zero =>
      have HP : Hid (R = none) := by show _ = _; rw [← HR.out, if_neg hd]; rfl
      clear hd
      go_enter Try.func64, Try.ntmps64
      go_wp2_with (go_at_call 71; refine HT.out.mono ?_; rintro e w2 ⟨hk2, _, h2⟩; obtain ⟨v2, rfl, hn2, hr2⟩ := h2 hle; obtain ⟨⟨x0, x1, x2⟩, y0, y1, y2⟩ := boxc ((hk2.2.2.2.2 w.heap.size (by simp) (by omega)).trans HBX.out); have HK2 := Lib.hid (HK0.out.trans hk2); obtain ⟨vr, hcr, _⟩ := hr2; obtain ⟨⟨_, z1⟩, _, _⟩ := cell2 (y := .int .i64 0) hcr; clear hk2 hn2 hcr h2)
      all_goals exact bodyPost_ret (v := .tuple #[.agg #[.int .i64 0, .int .i64 0, .slice none 0 0], .bool false]) (by simp [results, Try.f64, go_sem, x0, x1, x2]) rfl (by rw [HP.out]; exact GotE.none (HK2.out.trans' (below_store3 (Nat.le_refl _) _ _ _)))
    | succ m =>
      obtain ⟨x, hx⟩ : ∃ x : Int, x = ((m + 1 : Nat) : Int) := ⟨_, rfl⟩
      rw [← hx] at HT
      have hx1 : 1 ≤ x := by omega
      have hx2 : x ≤ 6000 := by omega
      have hx0 : (x == 0) = false := by simp; omega
      have HX : Hid (x - 1 = (m : Int)) := by show _ = _; omega
      clear hx
      have HS : Hid (R = if kidsI k = 0 then leafP k r m else innerP g k r m) := by show _ = _; rw [← HR.out, if_neg hd]; rfl
      clear hd HR
      by_cases hlf : kidsI k = 0
      · have HRR : Hid (R = leafP k r m) := by show _ = _; rw [HS.out, if_pos hlf]
        have HL : Hid (∀ W : World, Calls Try.prog 45 #[.int .i64 k] W fun e w' => e = .returned (.bool true) ∧ W = w') := fun W => by
          have := leaf_any k W
          rwa [show (kidsI k == 0) = true by simpa using hlf] at this
        clear hlf HS
        go_enter Try.func64, Try.ntmps64
        go_wp2_with fail
        refine HT.out.mono ?_
        rintro e w2 ⟨hk2, _, h2⟩
        obtain ⟨v2, rfl, hn2, hr2⟩ := h2 hle
        have HBX2 := Lib.hid ((hk2.2.2.2.2 w.heap.size (by simp) (by omega)).trans HBX.out)
        have HK2 := Lib.hid (HK0.out.trans hk2)
        obtain ⟨av, cv, rfl, _, _, _, hcv⟩ := hn2
        obtain ⟨bb, oo, hbr, _, rfl, hcell⟩ := hcv (by simp)
        have g0 := hcell 0 (by simp)
        simp only [List.take_succ_cons, List.take_zero, List.getElem_cons_zero, Nat.add_zero] at g0
        obtain ⟨vr, hcr, hnr⟩ := hr2
        have hR3 : Rdr rb D r m (w2.setCell ⟨rb, 1, none⟩ (.int .i64 (x - 1))) := by
          rw [HX.out]
          exact ⟨vr, heap_setCell_same w2 rb 1 _ _ _ hcr, hnr.keep (KeepR.set rb w2 1 _)⟩
        have HC := Lib.hid (leafr_any rb D r m k HB.out _ (by have := hk2.1; simp at this; simp; omega) hrb hR3 hlr)
        have HK3 := Lib.hid (HK2.out.trans (KeepR.set rb w2 1 (.int .i64 (x - 1))))
        have hsz : w.heap.size + 1 ≤ w2.heap.size := by have := hk2.1; simpa using this
        have HBX3 := Lib.hid (((KeepR.set rb w2 1 (.int .i64 (x - 1))).2.2.2.2 w.heap.size (by omega) (by omega)).trans HBX2.out)
        obtain ⟨⟨z0, z1⟩, z2, z3⟩ := cell2 hcr
        clear hk2 h2 hcell hcv hR3 hcr hnr HT
        go_wp2_with fail
        refine (HL.out _).mono ?_
        rintro e w' ⟨rfl, rfl⟩
        go_wp2_with fail
        clear z0 z1 z2 z3 g0
        refine HC.out.mono ?_
        rintro e w4 ⟨hk4, hno, hso⟩
        have hsz4 := hk4.1
        simp only [World.size_setCell] at hsz4
        have HBX4 := Lib.hid ((hk4.2.2.2.2 w.heap.size (by simp; omega) (by omega)).trans HBX3.out)
        have HK4 := Lib.hid (HK3.out.trans hk4)
        obtain ⟨⟨x0, x1, x2⟩, y0, y1, y2⟩ := boxc HBX4.out
        cases hr : leafP k r m with
        | none =>
          obtain rfl := hno hr
          have HP : Hid (R = none) := by show _ = _; rw [HRR.out, hr]
          clear hk4 hno hso hr HRR
          go_wp2_with fail
          exact bodyPost_ret (v := .tuple #[.agg #[.int .i64 0, .int .i64 0, .slice none 0 0], .bool false]) (by simp [results, Try.f64, go_sem, x0, x1, x2]) rfl (by rw [HP.out]; exact GotE.none (HK4.out.trans' (below_store3 (Nat.le_refl _) _ _ _)))
        | some y =>
          obtain ⟨t, r', n'⟩ := y
          obtain ⟨v4, rfl, hA4, hR4⟩ := hso t r' n' hr
          obtain ⟨a4, c4, rfl⟩ := hA4.at.shape
          have HP : Hid (R = some (t, r', n')) := by show _ = _; rw [HRR.out, hr]
          have HA4 := Lib.hid hA4
          have HR4 := Lib.hid hR4
          clear hk4 hno hso hr HRR hA4 hR4
          go_wp2_with fail
          refine bodyPost_ret (v := .tuple #[.agg #[.int .i64 t.k, .int .i64 t.n, .slice a4 t.kids.length c4], .bool true]) (by simp [results, Try.f64, go_sem, x0, x1, x2]) rfl ?_
          rw [HP.out]
          refine ⟨HK4.out.trans' (below_store3 (Nat.le_refl _) _ _ _), fun h => (by cases h), fun t1 r1 n1 h => ?_⟩
          simp only [Option.some.injEq, Prod.mk.injEq] at h
          obtain ⟨rfl, rfl, rfl⟩ := h
          refine ⟨_, rfl, HA4.out.same fun b hb => ⟨⟨by have := hb.1; simp at this; omega, by simp; exact hb.2⟩, other_store3 (by have := hb.1; simp at this; omega) _ _ _⟩, HR4.out.same hrb fun b hb => other_store3 (by omega) _ _ _⟩
      · have HRR : Hid (R = innerP g k r m) := by show _ = _; rw [HS.out, if_neg hlf]
        have HL : Hid (∀ W : World, Calls Try.prog 45 #[.int .i64 k] W fun e w' => e = .returned (.bool false) ∧ W = w') := fun W => by
          have := leaf_any k W
          rwa [show (kidsI k == 0) = false by simpa using hlf] at this
        clear hlf HS
        go_enter Try.func64, Try.ntmps64
        go_wp2_with fail
        refine HT.out.mono ?_
        rintro e w2 ⟨hk2, _, h2⟩
        obtain ⟨v2, rfl, hn2, hr2⟩ := h2 hle
        have HBX2 := Lib.hid ((hk2.2.2.2.2 w.heap.size (by simp) (by omega)).trans HBX.out)
        have HK2 := Lib.hid (HK0.out.trans hk2)
        obtain ⟨av, cv, rfl, _, _, _, hcv⟩ := hn2
        obtain ⟨bb, oo, hbr, _, rfl, hcell⟩ := hcv (by simp)
        have g0 := hcell 0 (by simp)
        simp only [List.take_succ_cons, List.take_zero, List.getElem_cons_zero, Nat.add_zero] at g0
        obtain ⟨vr, hcr, hnr⟩ := hr2
        have hR3 : Rdr rb D r m (w2.setCell ⟨rb, 1, none⟩ (.int .i64 (x - 1))) := by
          rw [HX.out]
          exact ⟨vr, heap_setCell_same w2 rb 1 _ _ _ hcr, hnr.keep (KeepR.set rb w2 1 _)⟩
        have HC := Lib.hid (HIN.out rb D r m k _ HB.out hk.1 hk.2 (by have := hk2.1; simp at this; simp; omega) hrb hR3 hlr (by omega))
        have HK3 := Lib.hid (HK2.out.trans (KeepR.set rb w2 1 (.int .i64 (x - 1))))
        have hsz : w.heap.size + 1 ≤ w2.heap.size := by have := hk2.1; simpa using this
        have HBX3 := Lib.hid (((KeepR.set rb w2 1 (.int .i64 (x - 1))).2.2.2.2 w.heap.size (by omega) (by omega)).trans HBX2.out)
        obtain ⟨⟨z0, z1⟩, z2, z3⟩ := cell2 hcr
        clear hk2 h2 hcell hcv hR3 hcr hnr HT
        go_wp2_with fail
        refine (HL.out _).mono ?_
        rintro e w' ⟨rfl, rfl⟩
        go_wp2_with fail
        clear z0 z1 z2 z3 g0
        refine HC.out.mono ?_
        rintro e w4 ⟨hk4, hno, hso⟩
        have hsz4 := hk4.1
        simp only [World.size_setCell] at hsz4
        have HBX4 := Lib.hid ((hk4.2.2.2.2 w.heap.size (by simp; omega) (by omega)).trans HBX3.out)
        have HK4 := Lib.hid (HK3.out.trans hk4)
        obtain ⟨⟨x0, x1, x2⟩, y0, y1, y2⟩ := boxc HBX4.out
        cases hr : innerP g k r m with
        | none =>
          obtain rfl := hno hr
          have HP : Hid (R = none) := by show _ = _; rw [HRR.out, hr]
          clear hk4 hno hso hr HRR
          go_wp2_with fail
          exact bodyPost_ret (v := .tuple #[.agg #[.int .i64 0, .int .i64 0, .slice none 0 0], .bool false]) (by simp [results, Try.f64, go_sem, x0, x1, x2]) rfl (by rw [HP.out]; exact GotE.none (HK4.out.trans' (below_store3 (Nat.le_refl _) _ _ _)))
        | some y =>
          obtain ⟨t, r', n'⟩ := y
          obtain ⟨v4, rfl, hA4, hR4⟩ := hso t r' n' hr
          obtain ⟨a4, c4, rfl⟩ := hA4.at.shape
          have HP : Hid (R = some (t, r', n')) := by show _ = _; rw [HRR.out, hr]
          have HA4 := Lib.hid hA4
          have HR4 := Lib.hid hR4
          clear hk4 hno hso hr HRR hA4 hR4
          go_wp2_with fail
          refine bodyPost_ret (v := .tuple #[.agg #[.int .i64 t.k, .int .i64 t.n, .slice a4 t.kids.length c4], .bool true]) (by simp [results, Try.f64, go_sem, x0, x1, x2]) rfl ?_
          rw [HP.out]
          refine ⟨HK4.out.trans' (below_store3 (Nat.le_refl _) _ _ _), fun h => (by cases h), fun t1 r1 n1 h => ?_⟩
          simp only [Option.some.injEq, Prod.mk.injEq] at h
          obtain ⟨rfl, rfl, rfl⟩ := h
          refine ⟨_, rfl, HA4.out.same fun b hb => ⟨⟨by have := hb.1; simp at this; omega, by simp; exact hb.2⟩, other_store3 (by have := hb.1; simp at this; omega) _ _ _⟩, HR4.out.same hrb fun b hb => other_store3 (by omega) _ _ _⟩
end Go.Proofs.Ythcjjfgigbgdkaa
