/- PackEnds, of two rows: the Go text returns true. -/
import Derived.Test.YthcjjfgigbgdkaaLf
namespace Go.Proofs.Ythcjjfgigbgdkaa
open Go.RowKit Go Go.Joins
set_option linter.unusedVariables false

/-- What stands while the second row is made: the first in its box, the term's box, the rest. -/
def RowTwo (w : World) (B s8 lo : Nat) (t1 : Tm) (v1 x y z : Value) (W : World) : Prop :=
  (W.cell? ⟨s8, 0, none⟩ = some (.int .i64 t1.k) ∧ W.cell? ⟨s8, 1, none⟩ = some (.int .i64 t1.n) ∧ W.cell? ⟨s8, 2, none⟩ = some v1) ∧ AtS (fun b => lo ≤ b ∧ b < s8) W t1.kids v1 ∧ W.heap[B]? = some (.cells #[x, y, z] 24 (0, 0)) ∧ Below w.heap.size w W ∧ s8 < W.heap.size ∧ B < W.heap.size
theorem RowTwo.bel {w : World} {B s8 lo : Nat} {t1 : Tm} {v1 x y z : Value} {W W' : World} (h : RowTwo w B s8 lo t1 v1 x y z W) (hb : Below W.heap.size W W') : RowTwo w B s8 lo t1 v1 x y z W' := by
  obtain ⟨⟨a1, a2, a3⟩, h1, h2, h3, h4, h5⟩ := h
  exact ⟨⟨gcell hb a1, gcell hb a2, gcell hb a3⟩, h1.grw hb, (hb.block B h5).trans h2, h3.trans (hb.mono h3.size), by have := hb.size; omega, by have := hb.size; omega⟩
theorem RowTwo.start {w : World} {B s8 lo : Nat} {t1 : Tm} {v1 x y z : Value} {W : World} (hs8 : W.heap.size = s8) (hA : AtS (fun b => lo ≤ b ∧ b < s8) W t1.kids v1) (hB : W.heap[B]? = some (.cells #[x, y, z] 24 (0, 0))) (hw : Below w.heap.size w W) :
    RowTwo w B s8 lo t1 v1 x y z (W.alloc (.cells #[.int .i64 t1.k, .int .i64 t1.n, v1] 24)) := by
  subst hs8
  have hn := box_new3 W t1.k t1.n t1.kids v1 hA.at
  have hb := below_al W (.cells #[.int .i64 t1.k, .int .i64 t1.n, v1] 24)
  have hlt : B < W.heap.size := (Array.getElem?_eq_some_iff.1 hB).1
  exact ⟨hn.1, hA.grw hb, (hb.block B hlt).trans hB, hw.trans (hb.mono hw.size), by simp, by simp; omega⟩
theorem below_drew' (w : World) : Below w.heap.size w w.drew := ⟨rfl, rfl, rfl, Nat.le_refl _, fun _ _ => rfl⟩
theorem step_want {P : Program} {ops : Array Oper} {o : Oper} {a : Act} {w : World} {K : Act → World → Prop} {Q : Exit → Act → World → Prop} {E : Prop} (hw : Region.wanted o (yielded ops a.tmps) = true) (h : Oper.wp P o a w K Q) :
    if Region.wanted o (yielded ops a.tmps) = true then Oper.wp P o a w K Q else E := by rw [if_pos hw]; exact h

set_option maxRecDepth 100000 in
set_option maxHeartbeats 4000000 in
theorem lends_wide (over : Int) (w : World) :
    Calls Try.prog 14 #[.int .i64 over, .bool false] w fun e w' => e = .returned (.bool true) ∧ Below w.heap.size w w' := by
  have HO := Lib.hid (two_range over)
  have HU := Lib.hid (fun w => u_any 0 w)
  go_enter Try.func14, Try.ntmps14
  go_upto_region 2 with (fail)
  have hO := HO.out
  clear HO
  generalize wrap64 ((IntKind.u64.wrap over).tmod 2) = o at *
  obtain ⟨m, hm⟩ : ∃ m : Nat, (m : Int) = o := ⟨o.toNat, by omega⟩
  have hm2 : m ≤ 1 := by omega
  obtain rfl : o = (m : Int) := by omega
  clear hm
  go_wp2_with (go_at_call 32; refine (HU.out _).mono ?_; rintro e w1 ⟨rfl, hb⟩; have HB1 := Lib.hid hb; clear hb)
  have hB1 := HB1.out
  have hbox := World.alloc_heap_new w1 (.cells #[.int .i64 2, .int .i64 0, .slice none 0 0] 24)
  have hbel := hB1.trans ((below_al w1 (.cells #[.int .i64 2, .int .i64 0, .slice none 0 0] 24)).mono hB1.size)
  have hBw := hB1.size
  clear HB1 hB1
  revert hbox hbel hBw
  generalize w1.alloc (.cells #[.int .i64 2, .int .i64 0, .slice none 0 0] 24) = wb
  generalize w1.heap.size = B
  intro hbox hbel hBw
  go_loopw [7] (fun i wr => ChInv w B i 3 wr) (fun i _ => 3 - (RowKit.intOf i).toNat)
  case atStart => exact ⟨0, none, 0, Nat.zero_le _, rfl, hbox, .nl, hbel, hBw⟩
  case round =>
    obtain ⟨j, a, cap, hj, rfl, hbx, hA, hbw, hwB⟩ := hrel
    clear hbox hbel
    obtain ⟨⟨c0, c1, c2⟩, f0, f1, f2⟩ := box_cells hbx
    have hBr : B < wr.heap.size := (Array.getElem?_eq_some_iff.1 hbx).1
    have hwr := hbw.size
    by_cases hlt : j < 3
    · have HT := Lib.hid (t_anyS _ 9 [chainT j] (by simp) (by simp) _ _ (fun b (hb : (w.heap.size ≤ b ∧ b ≠ B ∧ b < wr.heap.size) ∨ b = wr.heap.size) => by rcases hb with h | h <;> (simp; omega)) (ats_cells1 hA (fun b hb => hb.2.2)))
      rw [chain_k] at HT
      have HBX := Lib.hid hbx
      have e1 : (j : Int) < 3 := by omega
      clear hA hbx
      go_wp2_with (go_at_call 33; refine HT.out.mono ?_; rintro e w2 ⟨a2, cp2, rfl, hA2, hb2⟩; have hz2 : wr.heap.size + 1 ≤ w2.heap.size := (by have := hb2.size; simp at this; omega); have hbx2 := ((hb2.block B (by simp; omega)).trans (Below.heap_alloc wr _ B hBr)).trans HBX.out; obtain ⟨⟨z0, z1, z2⟩, y0, y1, y2⟩ := box_cells hbx2)
      have hb3 : Below wr.heap.size wr w2 := (below_al wr _).trans (hb2.mono (by simp))
      go_roundw
      case rel =>
        refine ⟨j + 1, a2, cp2, by omega, by go_num, box_store3 hbx2 _ _ _, hA2.lt.same fun b hb => ?_, (hbw.trans (hb3.mono hwr)).trans (below_store3 hwB _ _ _), hwB⟩
        have hne : w.heap.size ≤ b ∧ b ≠ B := by
          rcases hb.1 with (h | h) | h
          · exact ⟨h.1, h.2.1⟩
          · omega
          · simp at h; omega
        exact ⟨⟨hne.1, hne.2, by simpa [World.setCell] using hb.2⟩, other_store3 hne.2 _ _ _⟩
      case measure => simp [RowKit.intOf]; omega
    · obtain rfl : j = 3 := by omega
      obtain ⟨s1, s2, s3, s4⟩ := wide_facts m hm2
      have hchk := wide_check m hm2
      unfold wideT at s1 s2 s3 s4 hchk
      have HF1 := Lib.hid (row_any (2998 + m) (by omega) (by omega))
      have HF2 := Lib.hid (row_any 3001 (by omega) (by omega) 3001 rfl)
      generalize rowT (2998 + m) = t1 at *
      generalize rowT 3001 = t2 at *
      have HW0 := Lib.hid hbw
      have HBX := Lib.hid hbx
      have HS : Hid (size (.node 6 0 [t1, t2]) = 6000 + m ∧ formedB (.node 6 0 [t1, t2]) = true ∧ Fits (.node 6 0 [t1, t2]) ∧ checkE (.node 6 0 [t1, t2]) = if m = 0 then 0 else 4) := ⟨s1, s2, s3, hchk⟩
      clear hA hbx s1 s2 s3 s4 hchk
      have e1 : ¬ ((3 : Nat) : Int) < 3 := by omega
      go_wp2_with fail
      refine (HF1.out _ (by omega) wr).mono ?_
      rintro e w2 ⟨ra, rc, rfl, hA2, hb2⟩
      obtain ⟨s8, hs8⟩ : ∃ s, w2.heap.size = s := ⟨_, rfl⟩
      have RB := Lib.hid (RowTwo.start (w := w) (B := B) (lo := wr.heap.size) (t1 := t1) hs8 (hs8 ▸ hA2) ((hb2.block B hBr).trans HBX.out) (HW0.out.trans (hb2.mono hwr)))
      have hw28 : wr.heap.size ≤ s8 := hs8 ▸ hb2.size
      clear hA2 HF1 HW0 HBX
      go_wp2_with fail
      revert RB
      generalize w2.alloc (.cells #[.int .i64 t1.k, .int .i64 t1.n, .slice ra t1.kids.length rc] 24) = w3
      intro RB
      refine wp_region_any (by kernel_rfl) ?_
      change wpAny _ _ _ _ _ _ _ (World.drew _)
      have RD := Lib.hid (RB.out.bel (below_drew' w3))
      clear RB hb2
      generalize w3.drew = wd at *
      obtain ⟨x0, x1, x2⟩ := RD.out.1
      refine wpAny_ready (rs := [0, 1]) (by kernel_rfl) (by simp) ?_
      refine AllReady.cons (i := 0) rfl (fun K hK => ?_) ?_
      rotate_left
      refine AllReady.cons (i := 1) rfl (fun K hK => ?_) AllReady.nil
      refine step_want (by rfl) ?_
      go_simp
      refine (HF2.out wd).mono ?_
      rintro e w4 ⟨qa, qc, rfl, hA4, hb4⟩
      have R4 := Lib.hid (RD.out.bel hb4)
      obtain ⟨y0, y1, y2⟩ := R4.out.1
      go_simp
      refine hK _ _ ?_
      clear hK K
      refine wpAny_ready (rs := [0]) (by kernel_rfl) (by simp) ?_
      refine AllReady.cons (i := 0) rfl (fun K hK => ?_) AllReady.nil
      refine step_want (by rfl) ?_
      go_simp
      refine hK _ _ ?_
      clear hK K
      rotate_left
      refine step_want (by rfl) ?_
      go_simp
      refine hK _ _ ?_
      clear hK K
      refine wpAny_ready (rs := [1]) (by kernel_rfl) (by simp) ?_
      refine AllReady.cons (i := 1) rfl (fun K hK => ?_) AllReady.nil
      refine step_want (by rfl) ?_
      go_simp
      refine (HF2.out wd).mono ?_
      rintro e w4 ⟨qa, qc, rfl, hA4, hb4⟩
      have R4 := Lib.hid (RD.out.bel hb4)
      obtain ⟨y0, y1, y2⟩ := R4.out.1
      go_simp
      refine hK _ _ ?_
      clear hK K
      all_goals
        have hd4 := RD.out.2.2.2.2.1
        have h48 := hb4.size
        have XC := ats_cells2 (S := fun b => wr.heap.size ≤ b ∧ b < w4.heap.size) (R4.out.2.1.mono fun b hb => ⟨hb.1, by omega⟩) (hA4.mono fun b hb => ⟨by omega, hb.2⟩) (fun b hb => hb.2)
        have XL := Lib.hid (t_anyS _ 6 [t1, t2] (by simp) (by simp) _ _ (fun b (hb : (wr.heap.size ≤ b ∧ b < w4.heap.size) ∨ b = w4.heap.size) => by rcases hb with h | h <;> (simp; omega)) XC)
        have R4a := Lib.hid (R4.out.bel (below_al w4 (.cells #[.int .i64 t1.k, .int .i64 t1.n, .slice ra t1.kids.length rc, .int .i64 t2.k, .int .i64 t2.n, .slice qa t2.kids.length qc] 24)))
        clear XC hA4
        refine wpAny_ready (rs := [2]) (by kernel_rfl) (by simp) ?_
        refine AllReady.cons (i := 2) rfl (fun K hK => ?_) AllReady.nil
        refine step_want (by rfl) ?_
        go_simp
        refine hK _ _ ?_
        clear hK K
        refine wpAny_ready (rs := [3]) (by kernel_rfl) (by simp) ?_
        refine AllReady.cons (i := 3) rfl (fun K hK => ?_) AllReady.nil
        refine step_want (by rfl) ?_
        go_simp
        refine XL.out.mono ?_
        rintro e w5 ⟨a5, c5, rfl, hA5, hb5⟩
        have R5 := Lib.hid (R4a.out.bel hb5)
        obtain ⟨⟨z0, z1, z2⟩, f5, f6, f7⟩ := box_cells R5.out.2.2.1
        have HA5 : Hid (AtS (fun b => b ≠ B) w5 [t1, t2] (.slice a5 2 c5)) := hA5.mono fun b hb => by
          rcases hb with (h | h) | h
          · omega
          · omega
          · simp at h; omega
        clear hA5 XL R4a R4
        go_simp
        refine hK _ _ ?_
        clear hK K
        refine wpAny_ready (rs := [4]) (by kernel_rfl) (by simp) ?_
        refine AllReady.cons (i := 4) rfl (fun K hK => ?_) AllReady.nil
        refine step_want (by rfl) ?_
        go_simp
        refine hK _ _ ?_
        clear hK K
        refine wpAny_done (by kernel_rfl) ?_ _
        have X0 := boxed_term (k := 6) (n := 0) (Below.refl _ w) R5.out.2.2.1 R5.out.2.2.2.1 hwB HA5.out
        have X1 : Hid (((((w5.setCell ⟨B, 0, none⟩ (.int .i64 6)).setCell ⟨B, 1, none⟩ (.int .i64 0)).setCell ⟨B, 2, none⟩ (.slice a5 2 c5)).cell? ⟨B, 0, none⟩ = some (.int .i64 6) ∧ (((w5.setCell ⟨B, 0, none⟩ (.int .i64 6)).setCell ⟨B, 1, none⟩ (.int .i64 0)).setCell ⟨B, 2, none⟩ (.slice a5 2 c5)).cell? ⟨B, 1, none⟩ = some (.int .i64 0) ∧ (((w5.setCell ⟨B, 0, none⟩ (.int .i64 6)).setCell ⟨B, 1, none⟩ (.int .i64 0)).setCell ⟨B, 2, none⟩ (.slice a5 2 c5)).cell? ⟨B, 2, none⟩ = some (.slice a5 2 c5)) ∧ At (((w5.setCell ⟨B, 0, none⟩ (.int .i64 6)).setCell ⟨B, 1, none⟩ (.int .i64 0)).setCell ⟨B, 2, none⟩ (.slice a5 2 c5)) [t1, t2] (.slice a5 2 c5) ∧ Below w.heap.size w (((w5.setCell ⟨B, 0, none⟩ (.int .i64 6)).setCell ⟨B, 1, none⟩ (.int .i64 0)).setCell ⟨B, 2, none⟩ (.slice a5 2 c5))) := X0.1
        clear X0 R5 HA5 z0 z1 z2 f5 f6 f7 hb5 RD y0 y1 y2 x0 x1 x2
        revert X1
        generalize ((w5.setCell ⟨B, 0, none⟩ (.int .i64 6)).setCell ⟨B, 1, none⟩ (.int .i64 0)).setCell ⟨B, 2, none⟩ (.slice a5 2 c5) = w6
        intro X1
        have HPK := Lib.hid (e_pack (.node 6 0 [t1, t2]) HS.out.2.1 (by have := HS.out.1; omega) 6 0 rfl rfl)
        have HPT := Lib.hid (e_put (.node 6 0 [t1, t2]) HS.out.2.2.1 (by have := HS.out.1; omega) 6 0 rfl rfl)
        have HEQ := Lib.hid (e_keep (.node 6 0 [t1, t2]) (by have := HS.out.1; omega) 6 0 rfl rfl)
        obtain ⟨d0, d1, d2⟩ := X1.out.1
        by_cases h9 : m = 0
        · have hc : checkE (.node 6 0 [t1, t2]) = 0 := by rw [HS.out.2.2.2, if_pos h9]
          have HPT2 := Lib.hid (fun W v hA => HPT.out W v hA 0 hc)
          have HGT := Lib.hid (e_get (.node 6 0 [t1, t2]) hc 6 0 rfl rfl)
          have e2 : ¬ (0 : Int) < (m : Int) := by omega
          clear HS HPT hc h9
          go_wp2_with fail
          refine (HPT2.out w6 _ X1.out.2.1).mono ?_
          rintro e w7 ⟨pa, pm, pc, rfl, _, hb7⟩
          have X2 := Lib.hid (carryB X1.out hb7)
          obtain ⟨d0, d1, d2⟩ := X2.out.1
          clear X1 hb7
          go_wp2_with fail
          refine (HPK.out w7 _ X2.out.2.1).mono ?_
          rintro e w8 ⟨ka, kc, rfl, hk3, hb8⟩
          have X3 := Lib.hid (carryB X2.out hb8)
          clear X2 hb8 d0 d1 d2
          go_wp2_with fail
          refine (HGT.out w8 _ hk3).mono ?_
          rintro e w9 ⟨x9, ga, gc, rfl, hA9, hb9⟩
          have O4 := Lib.hid (box_new3 w9 6 0 [t1, t2] _ hA9)
          have X4 := Lib.hid (carryB X3.out (hb9.trans (O4.out.2.2.mono hb9.size)))
          obtain ⟨⟨u0, u1, u2⟩, _⟩ := O4.out
          obtain ⟨d0, d1, d2⟩ := X4.out.1
          clear X3 hk3 hb9 hA9
          go_wp2_with fail
          refine (HEQ.out _ _ _ O4.out.2.1 X4.out.2.1).mono ?_
          rintro e w10 ⟨rfl, hb10⟩
          have X5 := Lib.hid (carryB X4.out hb10)
          clear X4 O4 hb10 u0 u1 u2 d0 d1 d2
          go_wp2_with fail
          refine (wakes3_any _).mono ?_
          rintro e w11 ⟨rfl, hb11⟩
          go_wp2_with fail
          go_ret
          exact ⟨rfl, X5.out.2.2.trans (hb11.mono X5.out.2.2.size)⟩
        · have hc : checkE (.node 6 0 [t1, t2]) = 4 := by rw [HS.out.2.2.2, if_neg h9]
          have HPT2 := Lib.hid (fun W v hA => HPT.out W v hA 4 hc)
          have HGT := Lib.hid (e_get_no (.node 6 0 [t1, t2]) HS.out.2.1 (by have := HS.out.1; omega) (by rw [hc]; decide))
          have e2 : (0 : Int) < (m : Int) := by omega
          clear HS HPT HEQ hc h9
          go_wp2_with fail
          refine (HPT2.out w6 _ X1.out.2.1).mono ?_
          rintro e w7 ⟨pa, pm, pc, rfl, hpm, hb7⟩
          obtain rfl := hpm (by decide)
          have X2 := Lib.hid (carryB X1.out hb7)
          obtain ⟨d0, d1, d2⟩ := X2.out.1
          clear X1 hb7
          go_wp2_with fail
          refine (HPK.out w7 _ X2.out.2.1).mono ?_
          rintro e w8 ⟨ka, kc, rfl, hk3, hb8⟩
          have X3 := Lib.hid (carryB X2.out hb8)
          clear X2 hb8 d0 d1 d2
          go_wp2_with fail
          refine (HGT.out w8 _ hk3).mono ?_
          rintro e w9 ⟨ga, gc, rfl, hA9, hb9⟩
          have O4 := Lib.hid (box_new3 w9 0 0 [] _ hA9)
          have X4 := Lib.hid (carryB X3.out (hb9.trans (O4.out.2.2.mono hb9.size)))
          obtain ⟨⟨u0, u1, u2⟩, _⟩ := O4.out
          obtain ⟨d0, d1, d2⟩ := X4.out.1
          clear X3 hk3 hb9 hA9
          go_wp2_with fail
          refine (c_keep_no _ _ _ O4.out.2.1).mono ?_
          rintro e w10 ⟨rfl, hb10⟩
          have X5 := Lib.hid (carryB X4.out hb10)
          clear X4 O4 hb10 u0 u1 u2 d0 d1 d2
          go_wp2_with fail
          refine (wakes3_any _).mono ?_
          rintro e w11 ⟨rfl, hb11⟩
          go_wp2_with fail
          go_ret
          exact ⟨rfl, X5.out.2.2.trans (hb11.mono X5.out.2.2.size)⟩

theorem lends_any (over : Int) (deep : Bool) (w : World) :
    Calls Try.prog 14 #[.int .i64 over, .bool deep] w fun e w' => e = .returned (.bool true) ∧ Below w.heap.size w w' := by
  cases deep
  · exact lends_wide over w
  · exact lends_deep over w
end Go.Proofs.Ythcjjfgigbgdkaa
