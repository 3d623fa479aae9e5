/- Package tele's bind, Pis, Lams. No conditions but sizes. -/
import Derived.Test.YtblebboamopffaaBd
namespace Go.Proofs.Ytblebboamopffaa
open Go.RowKit Go.Shelf Go Go.Joins
set_option linter.unusedVariables false
attribute [local go_sem] Oper.semAt_some

theorem ate_two {S : Nat → Prop} {w : World} {s : Nat} {x y : Tm} {vx vy : Value} (hs : w.heap[s]? = some (.cells #[.int .i64 x.k, .int .i64 x.n, vx, .int .i64 y.k, .int .i64 y.n, vy] 24 (0, 0))) (hS : S s) (hx : AtE S w x.kids vx) (hy : AtE S w y.kids vy) : AtE S w [x, y] (.slice (some ⟨s, 0, none⟩) 2 2) := by
  refine .row [x, y] s 0 2 (fun i => if i = 0 then vx else vy) _ hS hs (Nat.le_refl _) (by decide) (fun i hi => ?_) (fun i hi => ?_)
  · have : i = 0 ∨ i = 1 := by simp at hi; omega
    rcases this with rfl | rfl <;> simp
  · have : i = 0 ∨ i = 1 := by simp at hi; omega
    rcases this with rfl | rfl
    · simpa using hx
    · simpa using hy
theorem wrapT_drop {k : Int} {l : List Tm} {t : Tm} {p : Nat} (hp : p < l.length) : wrapT k (l.drop p) t = .node k 0 [l[p], wrapT k (l.drop (p + 1)) t] := by rw [List.drop_eq_getElem_cons hp, wrapT]
/-- What a box holds while a term is built in it. -/
def BoxO (S : Nat → Prop) (B : Nat) (o : Tm) (W : World) : Prop := ∃ a c, W.heap[B]? = some (.cells #[.int .i64 o.k, .int .i64 o.n, .slice a o.kids.length c] 24 (0, 0)) ∧ AtE S W o.kids (.slice a o.kids.length c)
theorem BoxO.bel {S : Nat → Prop} {W W' : World} {B : Nat} {o : Tm} (h : BoxO S B o W) (hb : Below W.heap.size W W') : BoxO S B o W' := by
  obtain ⟨a, c, h1, h2⟩ := h
  exact ⟨a, c, (hb.block B (Array.getElem?_eq_some_iff.1 h1).1).trans h1, h2.grw hb⟩
abbrev SB (w : World) (BT : Nat) : Nat → Prop := fun b => w.heap.size + 3 ≤ b ∧ b ≠ BT ∧ b ≠ BT + 2 ∧ b ≠ BT + 3
/-- The state of bind's loop: the box of the kind, the result's box, the row's box; what is built so far. -/
def BindI (w : World) (k : Int) (l : List Tm) (t : Tm) (BT : Nat) (vl : Value) (p : Nat) (W : World) : Prop :=
  BoxO (SB w BT) BT (wrapT k (l.drop p) t) W ∧ W.heap[w.heap.size]? = some (.cells #[.int .i64 k] 3 (0, 0)) ∧ W.heap[w.heap.size + 2]? = some (.cells #[.int .i64 0, .int .i64 0, .slice none 0 0] 24 (0, 0)) ∧ W.heap[BT + 1]? = some (.cells #[vl] 22 (0, 0)) ∧ Below w.heap.size w W ∧ w.heap.size + 3 ≤ BT ∧ BT + 1 < W.heap.size
theorem BindI.bel {w W W' : World} {k : Int} {l : List Tm} {t : Tm} {BT p : Nat} {vl : Value} (h : BindI w k l t BT vl p W) (hb : Below W.heap.size W W') : BindI w k l t BT vl p W' := by
  obtain ⟨h1, h2, h3, h4, h5, h6, h7⟩ := h
  exact ⟨h1.bel hb, (hb.block _ (by omega)).trans h2, (hb.block _ (by omega)).trans h3, (hb.block _ (by omega)).trans h4, h5.trans (hb.mono h5.size), h6, Nat.lt_of_lt_of_le h7 hb.size⟩
theorem BindI.putObj {w W : World} {k : Int} {l : List Tm} {t : Tm} {BT p : Nat} {vl : Value} (h : BindI w k l t BT vl p W) (o : Obj) : BindI w k l t BT vl p (W.putObj (BT + 3) o) := by
  obtain ⟨⟨a, c, h0, h1⟩, h2, h3, h4, h5, h6, h7⟩ := h
  have e : ∀ b, b ≠ BT + 3 → (W.putObj (BT + 3) o).heap[b]? = W.heap[b]? := fun b hb => World.putObj_heap_other hb
  exact ⟨⟨a, c, (e _ (by omega)).trans h0, h1.same fun b hb => ⟨hb, e b hb.2.2.2⟩⟩, (e _ (by omega)).trans h2, (e _ (by omega)).trans h3, (e _ (by omega)).trans h4, h5.trans (below_put W (BT + 3) o (by omega)), h6, by simpa [World.putObj] using h7⟩
theorem bind_step {w W w5 w6 : World} {k : Int} {l : List Tm} {t x o : Tm} {BT p c5 co : Nat} {vl : Value} {a5 ao : Option Addr} (hg1 : w.heap.size + 3 ≤ BT) (hW4 : BT + 4 ≤ W.heap.size) (hwr : wrapT k (l.drop p) t = .node k 0 [x, o])
    (hK : W.heap[w.heap.size]? = some (.cells #[.int .i64 k] 3 (0, 0))) (hR : W.heap[w.heap.size + 2]? = some (.cells #[.int .i64 0, .int .i64 0, .slice none 0 0] 24 (0, 0))) (hS : W.heap[BT + 1]? = some (.cells #[vl] 22 (0, 0))) (hB : Below w.heap.size w W)
    (hAo : AtE (SB w BT) W o.kids (.slice ao o.kids.length co)) (hb5 : Below W.drew.heap.size W.drew w5) (hA5 : AtE (newS W.drew w5) w5 x.kids (.slice a5 x.kids.length c5)) (hb6 : Below w5.heap.size w5 w6)
    (hs6 : w6.heap[w5.heap.size + 3]? = some (.cells #[.int .i64 x.k, .int .i64 x.n, .slice a5 x.kids.length c5, .int .i64 o.k, .int .i64 o.n, .slice ao o.kids.length co] 24 (0, 0)))
    (hbt6 : w6.heap[BT]? = some (.cells #[.int .i64 o.k, .int .i64 o.n, .slice ao o.kids.length co] 24 (0, 0))) :
    KeepsOut BT (BT + 2) W (put3 w6 BT (.node k 0 [x, o]) (.slice (some ⟨w5.heap.size + 3, 0, none⟩) 2 2)) ∧ BindI w k l t BT vl p (put3 w6 BT (.node k 0 [x, o]) (.slice (some ⟨w5.heap.size + 3, 0, none⟩) 2 2)) := by
  have hb5' : Below W.heap.size W w5 := ⟨hb5.os, hb5.tape, hb5.output, hb5.size, hb5.block⟩
  have hz5 := hb5'.size
  have hz6 := hb6.size
  have hb56 : Below W.heap.size W w6 := hb5'.trans (hb6.mono hz5)
  have hw := hB.size
  have e : ∀ b, b < W.heap.size → b ≠ BT → (put3 w6 BT (.node k 0 [x, o]) (.slice (some ⟨w5.heap.size + 3, 0, none⟩) 2 2)).heap[b]? = W.heap[b]? := fun b h1 h2 => (other_store3 h2 _ _ _).trans (hb56.block b h1)
  have hx6 : AtE (SB w BT) w6 x.kids (.slice a5 x.kids.length c5) := hA5.same fun b hb => by
    have e1 : W.heap.size ≤ b := hb.1
    exact ⟨⟨by omega, by omega, by omega, by omega⟩, hb6.block b hb.2⟩
  have hN := ate_two (S := SB w BT) hs6 ⟨by omega, by omega, by omega, by omega⟩ hx6 (hAo.grw hb56)
  refine ⟨(((((KeepsOut.refl BT (BT + 2) W).below hb5').below hb6).setCell (p := ⟨BT, 0, none⟩) ⟨Nat.le_refl _, by dsimp only; omega⟩ _).setCell (p := ⟨BT, 1, none⟩) ⟨Nat.le_refl _, by dsimp only; omega⟩ _).setCell (p := ⟨BT, 2, none⟩) ⟨Nat.le_refl _, by dsimp only; omega⟩ _, ⟨some ⟨w5.heap.size + 3, 0, none⟩, 2, ?_, ?_⟩, (e _ (by omega) (by omega)).trans hK, (e _ (by omega) (by omega)).trans hR, (e _ (by omega) (by omega)).trans hS, (hB.trans (hb56.mono hw)).trans (below_store3 (by omega) _ _ _), hg1, by simp; omega⟩
  · rw [hwr]; exact box_store3 hbt6 _ _ _
  · rw [hwr]; exact hN.same fun b hb => ⟨hb, other_store3 hb.2.1 _ _ _⟩
set_option maxRecDepth 100000 in
set_option maxHeartbeats 4000000 in
theorem bind_in (k : Int) (l : List Tm) (hsl : sizeL l ≤ 1048576) (t : Tm) (hs : size t ≤ 1048576) (w : World) (vl v : Value) (hL : At w l vl) (hA : At w t.kids v) :
    CallsIn Fence.wide 6 Try.prog 36 #[.int .i64 k, vl, .agg #[.int .i64 t.k, .int .i64 t.n, v]] w (TellE w (wrapT k l t)) := by
  have h1 : 1 ≤ 6 := by omega
  obtain ⟨a1, c1, rfl⟩ := hA.shape
  obtain ⟨pa, cp, rfl⟩ := hL.shape
  have hll := length_le_sizeL l
  obtain ⟨vs, hRA⟩ := row_at hL
  have HT := Lib.hid (fun W (hW : Below w.heap.size w W) => tclone_any t hs W _ (hA.bel hW (Nat.le_refl _)))
  have HRA := Lib.hid hRA
  have HW3 := Lib.hid ((((Below.refl w.heap.size w).alloc (Nat.le_refl _) (.cells #[.int .i64 k] 3)).alloc (by simp) (.cells #[.int .i64 t.k, .int .i64 t.n, .slice a1 t.kids.length c1] 24)).alloc (by simp; omega) (.cells #[.int .i64 0, .int .i64 0, .slice none 0 0] 24))
  clear hA hL hRA
  refine callsIn_of_wp_marks Try.func36 rfl trivial ?_ rfl
  simp only [Try.ntmps36, List.size_toArray, List.length_cons, List.length_nil, Nat.reduceAdd, Nat.reduceSub, Array.replicate_succ, Array.replicate_zero, List.push_toArray, List.append_toArray, List.nil_append, List.cons_append]
  gi_wp2_with (first | (refine ⟨trivial, ?_⟩; gi_at_call 37; refine (callsIn_wide.2 (HT.out _ HW3.out)).mono ?_; rintro e w1 ⟨a2, c2, rfl, hS2, hb2⟩) | (refine ⟨trivial, ?_⟩; gi_at_call 49; refine (callsIn_wide.2 (backward_any _ ⟨_, _, _, rfl⟩ _)).mono ?_; rintro e w' ⟨rfl, rfl⟩))
  have hz2 := hb2.size
  simp only [World.size_alloc] at hz2
  have hb3 := below_al w1 (.cells #[.int .i64 t.k, .int .i64 t.n, .slice a2 t.kids.length c2] 24)
  have hb4 := below_al (w1.alloc (.cells #[.int .i64 t.k, .int .i64 t.n, .slice a2 t.kids.length c2] 24)) (.cells #[.slice pa l.length cp] 22)
  have hbk : ∀ b, b < w.heap.size + 3 → ((w1.alloc (.cells #[.int .i64 t.k, .int .i64 t.n, .slice a2 t.kids.length c2] 24)).alloc (.cells #[.slice pa l.length cp] 22)).heap[b]? = (((w.alloc (.cells #[.int .i64 k] 3)).alloc (.cells #[.int .i64 t.k, .int .i64 t.n, .slice a1 t.kids.length c1] 24)).alloc (.cells #[.int .i64 0, .int .i64 0, .slice none 0 0] 24)).heap[b]? := fun b hb =>
    (hb4.block b (by simp; omega)).trans ((hb3.block b (by omega)).trans (hb2.block b (by simp; omega)))
  have hI0 : BindI w k l t w1.heap.size (.slice pa l.length cp) l.length ((w1.alloc (.cells #[.int .i64 t.k, .int .i64 t.n, .slice a2 t.kids.length c2] 24)).alloc (.cells #[.slice pa l.length cp] 22)) := by
    refine ⟨⟨a2, c2, ?_, ?_⟩, (hbk _ (by omega)).trans ?_, (hbk _ (by omega)).trans ?_, ?_, (HW3.out.trans (hb2.mono (by simp; omega))).trans ((hb3.mono (by omega)).trans (hb4.mono (by simp; omega))), by omega, by simp⟩
    · rw [List.drop_length]; exact (hb4.block _ (by simp)).trans (World.alloc_heap_new w1 _)
    · rw [List.drop_length]
      exact ((hS2.same (T := SB w w1.heap.size) (w' := w1) fun b hb => by
        have e1 := hb.1
        have e2 := hb.2
        simp only [World.size_alloc] at e1
        exact ⟨⟨by omega, by omega, by omega, by omega⟩, rfl⟩).grw hb3).grw hb4
    · exact (Below.heap_alloc _ _ _ (by simp; omega)).trans ((Below.heap_alloc _ _ _ (by simp)).trans (World.alloc_heap_new w _))
    · have := World.alloc_heap_new ((w.alloc (.cells #[.int .i64 k] 3)).alloc (.cells #[.int .i64 t.k, .int .i64 t.n, .slice a1 t.kids.length c1] 24)) (.cells #[.int .i64 0, .int .i64 0, .slice none 0 0] 24)
      simpa using this
    · have := World.alloc_heap_new (w1.alloc (.cells #[.int .i64 t.k, .int .i64 t.n, .slice a2 t.kids.length c2] 24)) (.cells #[.slice pa l.length cp] 22)
      rwa [World.size_alloc] at this
  have hz0 : ((w1.alloc (.cells #[.int .i64 t.k, .int .i64 t.n, .slice a2 t.kids.length c2] 24)).alloc (.cells #[.slice pa l.length cp] 22)).heap.size = w1.heap.size + 2 := by simp
  have H0 := Lib.hid hI0
  clear hI0 hbk hb3 hb4 hS2 hb2 HW3 HT
  revert H0 hz0
  generalize (w1.alloc (.cells #[.int .i64 t.k, .int .i64 t.n, .slice a2 t.kids.length c2] 24)).alloc (.cells #[.slice pa l.length cp] 22) = W0
  generalize w1.heap.size = BT at *
  intro hz0 H0
  refine wpIn_rangeFunc_B h1 (n₀ := BT) (m := l.length) (vals := valsB l vs) (gf := 57) (lb := #[.pointer (some ⟨BT + 1, 0, none⟩)]) rfl (enters_of Try.func57 (by kernel_rfl) rfl)
    (BindI w k l t BT (.slice pa l.length cp)) (backward1_seq 5 (by omega) (BT + 1) w W0 l (by omega) pa cp vs HRA.out _ (fun s A h => ⟨h.2.2.2.2.1, h.2.2.2.1⟩)) (by omega) (fun p => rfl)
    (fun s A B h hb => h.bel hb) (fun s A o h => by rw [hz0]; exact h.putObj o) H0.out
    (fun p a' W => ∃ (hp : p < l.length) (D : Nat) (au : Option Addr) (cu : Nat), BT + 4 ≤ D ∧ a' = { tmps := #[.int .i64 k, .slice pa l.length cp, .agg #[.int .i64 t.k, .int .i64 t.n, .slice a1 t.kids.length c1], .pointer (some ⟨w.heap.size, 0, none⟩), undef, .pointer (some ⟨w.heap.size + 1, 0, none⟩), .pointer (some ⟨w.heap.size + 1 + 1, 0, none⟩), .pointer (some ⟨BT, 0, none⟩), undef, .pointer (some ⟨D, 0, none⟩), .agg #[.int .i64 t.k, .int .i64 t.n, .slice a1 t.kids.length c1], .agg #[.int .i64 t.k, .int .i64 t.n, .slice a2 t.kids.length c2], .slice pa l.length cp, .func (.func 57) #[] #[.pointer (some ⟨BT + 1, 0, none⟩)], .int .i64 (p : Int), .agg #[.int .i64 l[p].k, .int .i64 l[p].n, .slice au l[p].kids.length cu], undef, undef, undef, undef, undef, undef], defers := [] } ∧
      W.heap[D]? = some (.cells #[.int .i64 l[p].k, .int .i64 l[p].n, .slice au l[p].kids.length cu] 24 (0, 0)) ∧ At w l[p].kids (.slice au l[p].kids.length cu))
    (fun x a' A ld o h hld => ?put) ?assign ?body ?done
  case put =>
    obtain ⟨hp, D, au, cu, hD, e, hx, hA⟩ := h
    exact ⟨hp, D, au, cu, hD, e, (World.putObj_heap_other (by omega)).trans hx, hA⟩
  case assign =>
    rintro ld p W K hp hi hz hK
    obtain ⟨b, off, e, k0, k1, k2, kA⟩ := HRA.out p hp
    obtain ⟨au, cu, hvu⟩ := kA.shape
    have hgq : l[p]? = some l[p] := List.getElem?_eq_getElem hp
    simp only [valsB, hvu, hgq, Option.getD_some]
    rw [hvu] at kA
    have HK := Lib.hid hK
    have HI := Lib.hid hi
    have HA := Lib.hid kA
    clear hK hi k0 k1 k2 e hgq kA hvu
    gi_wp2
    exact HK.out _ _ ((KeepsOut.refl _ _ W).alloc _) (HI.out.bel (below_al W _)) ⟨hp, W.heap.size, au, cu, by omega, rfl, World.alloc_heap_new W _, HA.out⟩
  case body =>
    rintro ld p a' W hp hi hz ⟨_, D, au, cu, hD, rfl, hDx, hAu⟩
    have hW := wrapT_drop (k := k) (t := t) hp
    generalize hof : wrapT k (l.drop (p + 1)) t = o at *
    obtain ⟨⟨ao, co, hBT, hAo⟩, hK, hR, hS, hB, hg1, hg2⟩ := hi
    rw [hof] at hBT hAo
    have hsz := size_get hp
    have CL := Lib.hid (fun W' (hW' : Below w.heap.size w W') => tclone_any l[p] (by omega) W' _ (hAu.bel hW' (Nat.le_refl _)))
    obtain ⟨⟨y0, y1, y2⟩, _⟩ := boxc hBT
    obtain ⟨⟨z0, z1, z2⟩, _⟩ := boxc hDx
    have hkc : W.cell? ⟨w.heap.size, 0, none⟩ = some (.int .i64 k) := by simp [World.cell?, hK]
    have HBT := Lib.hid hBT
    have HAo := Lib.hid hAo
    have HKK := Lib.hid hK
    have HR := Lib.hid hR
    have HS := Lib.hid hS
    have HB := Lib.hid hB
    have HWR := Lib.hid hW
    clear hBT hAo hK hR hS hB hW hDx hAu hof
    have hmix : Try.prog.follows Departure.mixedOrders = true := by kernel_rfl
    gi_wp2
    gi_region_with_o (first
      | (refine ⟨trivial, ?_⟩; refine (CallsIn.inRound ld (callsIn_wide.2 (CL.out W.drew (HB.out.drew)))).mono ?_; rintro e w5 ⟨a5, c5, rfl, hA5, hb5⟩; have HA5 := Lib.hid hA5; have HB5 := Lib.hid hb5; have r0 := gcell hb5 (show W.drew.cell? _ = _ from y0); have r1 := gcell hb5 (show W.drew.cell? _ = _ from y1); have r2 := gcell hb5 (show W.drew.cell? _ = _ from y2); have rk := gcell hb5 (show W.drew.cell? _ = _ from hkc); clear hA5 hb5)
      | (refine ⟨trivial, ?_⟩; refine (CallsIn.inRound ld (callsIn_wide.2 (couple_any _ _ _ _ _ _ _ _ _ _ _ w5))).mono ?_; rintro e w6 ⟨rfl, hs6, hb6⟩; have HS6 := Lib.hid hs6; have HB6 := Lib.hid hb6; have hbt6 := (hb6.block BT (by have := HB5.out.size; have e : W.drew.heap.size = W.heap.size := rfl; omega)).trans ((HB5.out.block BT (by show BT < W.heap.size; omega)).trans HBT.out); obtain ⟨⟨q0, q1, q2⟩, q3, q4, q5⟩ := boxc hbt6; have HBT6 := Lib.hid hbt6; clear hs6 hb6 hbt6 r0 r1 r2 rk))
    all_goals
      rw [hz0]
      exact bind_step hg1 (by omega) HWR.out HKK.out HR.out HS.out HB.out HAo.out HB5.out HA5.out HB6.out HS6.out HBT6.out
  case done =>
    rintro W ⟨⟨ao, co, hBT, hAo⟩, hK, hR, hS, hB, hg1, hg2⟩ hK0
    rw [List.drop_zero] at hBT hAo
    generalize wrapT k l t = o at *
    obtain ⟨⟨y0, y1, y2⟩, _⟩ := boxc hBT
    obtain ⟨⟨x0, x1, x2⟩, g0, g1, g2⟩ := boxc hR
    have HR := Lib.hid hR
    have HA := Lib.hid hAo
    have HB := Lib.hid hB
    have HD := Lib.hid hK0
    clear hBT hAo hK hR hS hB hK0
    gi_wp2
    rw [hz0] at HD
    have hKD := (other_store3 (W := W) (B := w.heap.size + 2) (b := BT + 2) (by omega) (.int .i64 o.k) (.int .i64 o.n) (.slice ao o.kids.length co)).trans HD.out
    rw [hz0]
    refine ⟨by simp, .inl ⟨_, _, rfl, run_takeDeferred hKD, ?_⟩⟩
    have hput := below_put (B := w.heap.size) ((put3 W (w.heap.size + 2) o (.slice ao o.kids.length co))) (BT + 2) (.deferred none) (by omega)
    have e : ∀ b, b ≠ BT + 2 → ((put3 W (w.heap.size + 2) o (.slice ao o.kids.length co)).putObj (BT + 2) (.deferred none)).heap[b]? = (put3 W (w.heap.size + 2) o (.slice ao o.kids.length co)).heap[b]? := fun b hb => World.putObj_heap_other hb
    obtain ⟨⟨s0, s1, s2⟩, _⟩ := boxc ((e (w.heap.size + 2) (by omega)).trans (box_store3 HR.out (.int .i64 o.k) (.int .i64 o.n) (.slice ao o.kids.length co)))
    exact ⟨.agg #[.int .i64 o.k, .int .i64 o.n, .slice ao o.kids.length co], by simp [results, Try.f36, go_sem, s0, s1, s2], ao, co, rfl, HA.out.lt.same fun b hb => ⟨⟨by have := hb.1.1; omega, by simpa [World.putObj] using hb.2⟩, (e b hb.1.2.2.1).trans (other_store3 (by have := hb.1.1; omega) _ _ _)⟩, (HB.out.trans (below_store3 (by omega) _ _ _)).trans hput⟩
theorem bind_any (k : Int) (l : List Tm) (hsl : sizeL l ≤ 1048576) (t : Tm) (hs : size t ≤ 1048576) (w : World) (vl v : Value) (hL : At w l vl) (hA : At w t.kids v) :
    Calls Try.prog 36 #[.int .i64 k, vl, .agg #[.int .i64 t.k, .int .i64 t.n, v]] w (TellE w (wrapT k l t)) :=
  callsIn_wide.1 (bind_in k l hsl t hs w vl v hL hA)
end Go.Proofs.Ytblebboamopffaa
