/- Package tele's Pis, Lams, Spine. No conditions but sizes. -/
import Derived.Test.YtblebboamopffaaBi
import Derived.Deep.DrawnRows
import Derived.Deep.RegionLaw
import Derived.Deep.DeepCutAuto
namespace Go.Proofs.Ytblebboamopffaa
open Go.RowKit Go.Shelf Go Go.Joins
set_option linter.unusedVariables false

set_option maxRecDepth 100000 in
set_option maxHeartbeats 1000000 in
theorem spis0 (l : List Tm) (hsl : sizeL l ≤ 1048576) (t : Tm) (hs : size t ≤ 1048576) (w : World) (vl v : Value) (hL : At w l vl) (hA : At w t.kids v) :
    Calls Try.prog 12 #[vl, .agg #[.int .i64 t.k, .int .i64 t.n, v]] w (TellE w (wrapT 4 l t)) := by
  obtain ⟨a1, c1, rfl⟩ := hA.shape
  obtain ⟨pa, cp, rfl⟩ := hL.shape
  have hO := one_start w t _ hA
  have hb1 := below_al (w.alloc (.cells #[.int .i64 t.k, .int .i64 t.n, .slice a1 t.kids.length c1] 24)) (.cells #[.int .i64 0, .int .i64 0, .slice none 0 0] 24)
  have O1 := Lib.hid (hO.bel hb1)
  have Z1 := Lib.hid (World.alloc_heap_new (w.alloc (.cells #[.int .i64 t.k, .int .i64 t.n, .slice a1 t.kids.length c1] 24)) (.cells #[.int .i64 0, .int .i64 0, .slice none 0 0] 24))
  have C := Lib.hid (bind_any 4 l hsl t hs _ _ _ (hL.bel O1.out.2.2 (Nat.le_refl _)) O1.out.2.1)
  clear hA hL hO hb1
  go_enter Try.func12, Try.ntmps12
  obtain ⟨x0, x1, x2⟩ := O1.out.1
  go_wp2_with fail
  refine C.out.mono ?_
  rintro e w1 ⟨a2, c2, rfl, hS2, hb2⟩
  have hz2 := hb2.size
  have Z2 := Lib.hid ((hb2.block _ (by simp)).trans Z1.out)
  have O2 := Lib.hid (O1.out.bel hb2)
  have HS := Lib.hid (hS2.same (T := fun b => w.heap.size + 2 ≤ b ∧ b < w1.heap.size) (w' := w1) fun b hb => by
    have e := hb.1
    have e2 := hb.2
    simp only [World.size_alloc] at e
    exact ⟨⟨by omega, e2⟩, rfl⟩)
  simp only [World.size_alloc] at Z2 hz2
  clear x0 x1 x2 hS2 hb2 O1 Z1 C
  generalize wrapT 4 l t = o at *
  obtain ⟨⟨x0, x1, x2⟩, g0, g1, g2⟩ := boxc Z2.out
  go_wp2_with fail
  have hbx := box_store3 Z2.out (.int .i64 o.k) (.int .i64 o.n) (.slice a2 o.kids.length c2)
  have hAF := HS.out.same (T := newS w (put3 w1 (w.heap.size + 1) o (.slice a2 o.kids.length c2))) (w' := put3 w1 (w.heap.size + 1) o (.slice a2 o.kids.length c2)) fun b hb => ⟨⟨by omega, by simpa using hb.2⟩, other_store3 (by omega) _ _ _⟩
  have hBF := O2.out.2.2.trans (below_store3 (D := w.heap.size) (B := w.heap.size + 1) (W := w1) (by omega) (.int .i64 o.k) (.int .i64 o.n) (.slice a2 o.kids.length c2))
  obtain ⟨⟨s0, s1, s2⟩, _⟩ := boxc hbx
  exact bodyPost_ret (v := .agg #[.int .i64 o.k, .int .i64 o.n, .slice a2 o.kids.length c2]) (by simp [results, Try.f12, go_sem, s0, s1, s2]) rfl ⟨a2, c2, rfl, hAF, hBF⟩
set_option maxRecDepth 100000 in
set_option maxHeartbeats 1000000 in
theorem slams0 (l : List Tm) (hsl : sizeL l ≤ 1048576) (t : Tm) (hs : size t ≤ 1048576) (w : World) (vl v : Value) (hL : At w l vl) (hA : At w t.kids v) :
    Calls Try.prog 13 #[vl, .agg #[.int .i64 t.k, .int .i64 t.n, v]] w (TellE w (wrapT 5 l t)) := by
  obtain ⟨a1, c1, rfl⟩ := hA.shape
  obtain ⟨pa, cp, rfl⟩ := hL.shape
  have hO := one_start w t _ hA
  have hb1 := below_al (w.alloc (.cells #[.int .i64 t.k, .int .i64 t.n, .slice a1 t.kids.length c1] 24)) (.cells #[.int .i64 0, .int .i64 0, .slice none 0 0] 24)
  have O1 := Lib.hid (hO.bel hb1)
  have Z1 := Lib.hid (World.alloc_heap_new (w.alloc (.cells #[.int .i64 t.k, .int .i64 t.n, .slice a1 t.kids.length c1] 24)) (.cells #[.int .i64 0, .int .i64 0, .slice none 0 0] 24))
  have C := Lib.hid (bind_any 5 l hsl t hs _ _ _ (hL.bel O1.out.2.2 (Nat.le_refl _)) O1.out.2.1)
  clear hA hL hO hb1
  go_enter Try.func13, Try.ntmps13
  obtain ⟨x0, x1, x2⟩ := O1.out.1
  go_wp2_with fail
  refine C.out.mono ?_
  rintro e w1 ⟨a2, c2, rfl, hS2, hb2⟩
  have hz2 := hb2.size
  have Z2 := Lib.hid ((hb2.block _ (by simp)).trans Z1.out)
  have O2 := Lib.hid (O1.out.bel hb2)
  have HS := Lib.hid (hS2.same (T := fun b => w.heap.size + 2 ≤ b ∧ b < w1.heap.size) (w' := w1) fun b hb => by
    have e := hb.1
    have e2 := hb.2
    simp only [World.size_alloc] at e
    exact ⟨⟨by omega, e2⟩, rfl⟩)
  simp only [World.size_alloc] at Z2 hz2
  clear x0 x1 x2 hS2 hb2 O1 Z1 C
  generalize wrapT 5 l t = o at *
  obtain ⟨⟨x0, x1, x2⟩, g0, g1, g2⟩ := boxc Z2.out
  go_wp2_with fail
  have hbx := box_store3 Z2.out (.int .i64 o.k) (.int .i64 o.n) (.slice a2 o.kids.length c2)
  have hAF := HS.out.same (T := newS w (put3 w1 (w.heap.size + 1) o (.slice a2 o.kids.length c2))) (w' := put3 w1 (w.heap.size + 1) o (.slice a2 o.kids.length c2)) fun b hb => ⟨⟨by omega, by simpa using hb.2⟩, other_store3 (by omega) _ _ _⟩
  have hBF := O2.out.2.2.trans (below_store3 (D := w.heap.size) (B := w.heap.size + 1) (W := w1) (by omega) (.int .i64 o.k) (.int .i64 o.n) (.slice a2 o.kids.length c2))
  obtain ⟨⟨s0, s1, s2⟩, _⟩ := boxc hbx
  exact bodyPost_ret (v := .agg #[.int .i64 o.k, .int .i64 o.n, .slice a2 o.kids.length c2]) (by simp [results, Try.f13, go_sem, s0, s1, s2]) rfl ⟨a2, c2, rfl, hAF, hBF⟩
/-- The state of Spine's loop. -/
def SpineI (w : World) (BT : Nat) (o : Tm) (W : World) : Prop := BoxO (fun b => w.heap.size + 2 ≤ b ∧ b ≠ BT) BT o W ∧ W.heap[w.heap.size + 1]? = some (.cells #[.int .i64 0, .int .i64 0, .slice none 0 0] 24 (0, 0)) ∧ Below w.heap.size w W ∧ w.heap.size + 2 ≤ BT
theorem spine_step {w W w5 w6 : World} {x o : Tm} {BT c5 co : Nat} {a5 ao : Option Addr} (hg1 : w.heap.size + 2 ≤ BT) (hW4 : BT < W.heap.size)
    (hR : W.heap[w.heap.size + 1]? = some (.cells #[.int .i64 0, .int .i64 0, .slice none 0 0] 24 (0, 0))) (hB : Below w.heap.size w W)
    (hAo : AtE (fun b => w.heap.size + 2 ≤ b ∧ b ≠ BT) W o.kids (.slice ao o.kids.length co)) (hb5' : Below W.heap.size W w5) (hA5 : AtE (fun b => W.heap.size ≤ b ∧ b < w5.heap.size) w5 x.kids (.slice a5 x.kids.length c5)) (hb6 : Below w5.heap.size w5 w6)
    (hs6 : w6.heap[w5.heap.size + 3]? = some (.cells #[.int .i64 o.k, .int .i64 o.n, .slice ao o.kids.length co, .int .i64 x.k, .int .i64 x.n, .slice a5 x.kids.length c5] 24 (0, 0)))
    (hbt6 : w6.heap[BT]? = some (.cells #[.int .i64 o.k, .int .i64 o.n, .slice ao o.kids.length co] 24 (0, 0))) :
    SpineI w BT (.node 6 0 [o, x]) (put3 w6 BT (.node 6 0 [o, x]) (.slice (some ⟨w5.heap.size + 3, 0, none⟩) 2 2)) := by
  have hz5 := hb5'.size
  have hz6 := hb6.size
  have hb56 : Below W.heap.size W w6 := hb5'.trans (hb6.mono hz5)
  have hw := hB.size
  have e : ∀ b, b < W.heap.size → b ≠ BT → (put3 w6 BT (.node 6 0 [o, x]) (.slice (some ⟨w5.heap.size + 3, 0, none⟩) 2 2)).heap[b]? = W.heap[b]? := fun b h1 h2 => (other_store3 h2 _ _ _).trans (hb56.block b h1)
  have hx6 : AtE (fun b => w.heap.size + 2 ≤ b ∧ b ≠ BT) w6 x.kids (.slice a5 x.kids.length c5) := hA5.same fun b hb => ⟨⟨by omega, by omega⟩, hb6.block b hb.2⟩
  have hN := ate_two (S := fun b => w.heap.size + 2 ≤ b ∧ b ≠ BT) hs6 ⟨by omega, by omega⟩ (hAo.grw hb56) hx6
  have hRl := (Array.getElem?_eq_some_iff.1 hR).1
  exact ⟨⟨some ⟨w5.heap.size + 3, 0, none⟩, 2, box_store3 hbt6 _ _ _, hN.same fun b hb => ⟨hb, other_store3 hb.2 _ _ _⟩⟩, (e _ (by omega) (by omega)).trans hR, (hB.trans (hb56.mono hw)).trans (below_store3 (by omega) _ _ _), hg1⟩
set_option maxRecDepth 100000 in
set_option maxHeartbeats 4000000 in
theorem sspine0 (t : Tm) (hs : size t ≤ 1048576) (l : List Tm) (hsl : sizeL l ≤ 1048576) (w : World) (v vl : Value) (hA : At w t.kids v) (hL : At w l vl) :
    Calls Try.prog 14 #[.agg #[.int .i64 t.k, .int .i64 t.n, v], vl] w (TellE w (spineT t l)) := by
  obtain ⟨a1, c1, rfl⟩ := hA.shape
  obtain ⟨pa, cp, rfl⟩ := hL.shape
  have hll := length_le_sizeL l
  obtain ⟨vs, hRA⟩ := row_at hL
  have HRA := Lib.hid hRA
  have hO := one_start w t _ hA
  have hb1 := below_al (w.alloc (.cells #[.int .i64 t.k, .int .i64 t.n, .slice a1 t.kids.length c1] 24)) (.cells #[.int .i64 0, .int .i64 0, .slice none 0 0] 24)
  have O1 := Lib.hid (hO.bel hb1)
  have Z1 := Lib.hid (World.alloc_heap_new (w.alloc (.cells #[.int .i64 t.k, .int .i64 t.n, .slice a1 t.kids.length c1] 24)) (.cells #[.int .i64 0, .int .i64 0, .slice none 0 0] 24))
  have HT := Lib.hid (tclone_any t hs _ _ O1.out.2.1)
  clear hA hL hO hb1 hRA
  go_enter Try.func14, Try.ntmps14
  obtain ⟨x0, x1, x2⟩ := O1.out.1
  go_wp2_with fail
  refine HT.out.mono ?_
  rintro e w1 ⟨a2, c2, rfl, hS2, hb2⟩
  have hz2 := hb2.size
  have Z2 := Lib.hid ((hb2.block _ (by simp)).trans Z1.out)
  have O2 := Lib.hid (O1.out.bel hb2)
  simp only [World.size_alloc] at hz2 Z2
  have hb3 := below_al w1 (.cells #[.int .i64 t.k, .int .i64 t.n, .slice a2 t.kids.length c2] 24)
  have hI0 : SpineI w w1.heap.size t (w1.alloc (.cells #[.int .i64 t.k, .int .i64 t.n, .slice a2 t.kids.length c2] 24)) :=
    ⟨⟨a2, c2, World.alloc_heap_new w1 _, (hS2.same (T := fun b => w.heap.size + 2 ≤ b ∧ b ≠ w1.heap.size) (w' := w1) fun b hb => by
        have e1 := hb.1
        have e2 := hb.2
        simp only [World.size_alloc] at e1
        exact ⟨⟨by omega, by omega⟩, rfl⟩).grw hb3⟩, (hb3.block _ (by omega)).trans Z2.out, O2.out.2.2.trans (hb3.mono (by omega)), by omega⟩
  have H0 := Lib.hid hI0
  clear x0 x1 x2 hI0 hb3 hS2 hb2 O1 Z1 O2 Z2 HT
  go_wp2_with fail
  generalize w1.heap.size = BT at *
  go_loopw [12] (fun i wr => ∃ p : Nat, p ≤ l.length ∧ i = .int .i64 (p : Int) ∧ SpineI w BT (spineT t (l.take p)) wr) (fun i _ => l.length - (RowKit.intOf i).toNat)
  case atStart => exact ⟨0, Nat.zero_le _, rfl, by rw [List.take_zero]; exact H0.out⟩
  case round =>
    clear H0
    obtain ⟨p, hq, rfl, hI⟩ := hrel
    by_cases hp : p < l.length
    · have hO2 := spine_take hp t
      generalize spineT t (l.take p) = o at *
      obtain ⟨⟨ao, co, hBT, hAo⟩, hR, hB, hg1⟩ := hI
      obtain ⟨b, off, rfl, k0, k1, k2, kA⟩ := HRA.out p hp
      obtain ⟨au, cu, hvu⟩ := kA.shape
      rw [hvu] at k2 kA
      have e0 := gcell hB k0
      have e1 := gcell hB k1
      have e2 := gcell hB k2
      have hsz := size_get hp
      have CL := Lib.hid (fun W' (hW' : Below w.heap.size w W') => tclone_any l[p] (by omega) W' _ (kA.bel hW' (Nat.le_refl _)))
      obtain ⟨⟨y0, y1, y2⟩, _⟩ := boxc hBT
      have hBl : BT < wr.heap.size := (Array.getElem?_eq_some_iff.1 hBT).1
      have hpi : (p : Int) < (l.length : Int) := by omega
      have hp0 : (0 : Int) ≤ (p : Int) := by omega
      have HBT := Lib.hid hBT
      have HAo := Lib.hid hAo
      have HR := Lib.hid hR
      have HB := Lib.hid hB
      have HO2 := Lib.hid hO2
      have hal := below_al wr (.cells #[.int .i64 l[p].k, .int .i64 l[p].n, .slice au l[p].kids.length cu] 24)
      have HAL := Lib.hid hal
      have z0 := gcell hal y0
      have z1 := gcell hal y1
      have z2 := gcell hal y2
      have HBD := Lib.hid ((hB.trans (hal.mono hB.size)).drew)
      clear hBT hAo hR hB hO2 kA hvu k0 k1 k2 hal
      go_wp2_with fail
      go_region_law (first
        | (go_simp; go_at_call 37; refine (CL.out _ HBD.out).mono ?_; rintro e w5 ⟨a5, c5, rfl, hA5, hb5⟩; have r0 := gcell hb5 (show World.cell? (World.drew _) _ = _ from z0); have r1 := gcell hb5 (show World.cell? (World.drew _) _ = _ from z1); have r2 := gcell hb5 (show World.cell? (World.drew _) _ = _ from z2); have HA5 := Lib.hid hA5; have HB5 := Lib.hid hb5; clear hA5 hb5)
        | (go_simp; go_at_call 38; refine (couple_any _ _ _ _ _ _ _ _ _ _ _ w5).mono ?_; rintro e w6 ⟨rfl, hs6, hb6⟩; have HS6 := Lib.hid hs6; have HB6 := Lib.hid hb6; have hb5' : Below wr.heap.size wr w5 := HAL.out.trans ((show Below (World.heap (wr.alloc (.cells #[.int .i64 l[p].k, .int .i64 l[p].n, .slice au l[p].kids.length cu] 24))).size (wr.alloc (.cells #[.int .i64 l[p].k, .int .i64 l[p].n, .slice au l[p].kids.length cu] 24)) w5 from ⟨HB5.out.os, HB5.out.tape, HB5.out.output, HB5.out.size, HB5.out.block⟩).mono HAL.out.size); have HBW := Lib.hid hb5'; have hbt6 := (hb6.block BT (by have := hb5'.size; omega)).trans ((hb5'.block BT hBl).trans HBT.out); obtain ⟨⟨q0, q1, q2⟩, q3, q4, q5⟩ := boxc hbt6; have HBT6 := Lib.hid hbt6; clear hs6 hb6 hbt6 hb5'))
      all_goals
        have HF := Lib.hid (spine_step hg1 hBl HR.out HB.out HAo.out HBW.out (HA5.out.same (T := fun b => wr.heap.size ≤ b ∧ b < w5.heap.size) (w' := w5) fun b hb => ⟨⟨Nat.le_trans HAL.out.size hb.1, hb.2⟩, rfl⟩) HB6.out HS6.out HBT6.out)
        clear HBT HAo HR HB HAL HBD HA5 HB5 HS6 HB6 HBW HBT6 CL e0 e1 e2 y0 y1 y2 z0 z1 z2 r0 r1 r2
        go_wp2_with fail
        go_roundw
        case rel => exact ⟨p + 1, by omega, by go_num, by rw [HO2.out]; exact HF.out⟩
        case measure => simp [RowKit.intOf]; omega
    · obtain rfl : p = l.length := by omega
      have hlt : ¬ (l.length : Int) < (l.length : Int) := by omega
      rw [List.take_length] at hI
      generalize spineT t l = o at *
      obtain ⟨⟨ao, co, hBT, hAo⟩, hR, hB, hg1⟩ := hI
      obtain ⟨⟨y0, y1, y2⟩, _⟩ := boxc hBT
      obtain ⟨⟨x0, x1, x2⟩, g0, g1, g2⟩ := boxc hR
      have HR := Lib.hid hR
      have HA := Lib.hid hAo
      have HB := Lib.hid hB
      clear hR hAo hB hBT
      go_wp2_with fail
      have hbx := box_store3 HR.out (.int .i64 o.k) (.int .i64 o.n) (.slice ao o.kids.length co)
      have hAF := HA.out.lt.same (T := newS w (put3 wr (w.heap.size + 1) o (.slice ao o.kids.length co))) (w' := put3 wr (w.heap.size + 1) o (.slice ao o.kids.length co)) fun b hb => ⟨⟨by have := hb.1.1; omega, by simpa using hb.2⟩, other_store3 (by have := hb.1.1; omega) _ _ _⟩
      have hBF := HB.out.trans (below_store3 (D := w.heap.size) (B := w.heap.size + 1) (W := wr) (by omega) (.int .i64 o.k) (.int .i64 o.n) (.slice ao o.kids.length co))
      obtain ⟨⟨s0, s1, s2⟩, _⟩ := boxc hbx
      exact bodyPost_ret (v := .agg #[.int .i64 o.k, .int .i64 o.n, .slice ao o.kids.length co]) (by simp [results, Try.f14, go_sem, s0, s1, s2]) rfl ⟨ao, co, rfl, hAF, hBF⟩
end Go.Proofs.Ytblebboamopffaa
