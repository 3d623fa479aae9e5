/- ShiftKids: the Go text returns true for any term that is not greater than the second form's bound, and any integers. -/
import Derived.Test.YtfbinoifhabgoaaT0
import Derived.Test.YtfbinoifhabgoaaRe
import Derived.Deep.DeepCutAuto
namespace Go.Proofs.Ytfbinoifhabgoaa
open Go.RowKit
set_option linter.unusedVariables false

set_option maxRecDepth 100000 in
set_option maxHeartbeats 3000000 in
theorem lkids_any (t : Tm) (hF : Fits t) (hs : size t ≤ 1048576) (b f : Int) (w : World) (v : Value) (hA : At w t.kids v) :
    Calls Try.prog 8 #[.agg #[.int .i64 t.k, .int .i64 t.n, v], .int .i64 b, .int .i64 f] w fun e w' => e = .returned (.bool true) ∧ Below w.heap.size w w' := by
  obtain ⟨a1, c1, rfl⟩ := hA.shape
  have HH := heavy1 t hs w _ hA
  have hlz := length_le_sizeL t.kids
  have hsz := size_eq t
  clear hA
  generalize hln : t.kids.length = ln at *
  have HLN := Lib.hid hln
  clear hln
  cases hh : heavyB [t] with
  | true =>
    rw [hh] at HH
    have HH := Lib.hid HH
    clear hh
    go_enter Try.func8, Try.ntmps8
    go_wp2_with fail
    refine HH.out.mono ?_
    rintro e w1 ⟨rfl, hb1⟩
    have T1 := Lib.hid hb1
    clear hb1
    go_wp2_with fail
    go_ret
    exact ⟨rfl, T1.out.2.2⟩
  | false =>
    rw [hh] at HH
    have HH := Lib.hid HH
    clear hh
    have HCK := Lib.hid (fun W v hA => c_rcheck t hs W v hA)
    by_cases hc : checkE t = 0
    rotate_left
    · generalize checkE t = ec at *
      have q0 : (ec != 0) = true := by simpa using hc
      clear hc
      go_enter Try.func8, Try.ntmps8
      go_wp2_with fail
      refine HH.out.mono ?_
      rintro e w1 ⟨rfl, hb1⟩
      have T1 := Lib.hid hb1
      obtain ⟨⟨x0, x1, x2⟩, _, _⟩ := T1.out
      clear hb1
      go_wp2_with fail
      refine (HCK.out _ _ T1.out.2.1).mono ?_
      rintro e w2 ⟨rfl, hb2⟩
      have T2 := Lib.hid (T1.out.bel hb2)
      clear hb2
      go_wp2_with fail
      go_ret
      exact ⟨rfl, T2.out.2.2⟩
    rw [hc] at HCK
    by_cases hl : ln = 0
    · subst hl
      go_enter Try.func8, Try.ntmps8
      go_wp2_with fail
      refine HH.out.mono ?_
      rintro e w1 ⟨rfl, hb1⟩
      have T1 := Lib.hid hb1
      obtain ⟨⟨x0, x1, x2⟩, _, _⟩ := T1.out
      clear hb1
      go_wp2_with fail
      refine (HCK.out _ _ T1.out.2.1).mono ?_
      rintro e w2 ⟨rfl, hb2⟩
      have T2 := Lib.hid (T1.out.bel hb2)
      obtain ⟨⟨y0, y1, y2⟩, _, _⟩ := T2.out
      clear hb2
      go_wp2_with fail
      go_ret
      exact ⟨rfl, T2.out.2.2⟩
    have q0 : ((ln : Int) == 0) = false := by simpa using hl
    have hl0 : 0 < ln := by omega
    have hl1 : 0 < t.kids.length := by rw [HLN.out]; exact hl0
    have hrb := mod_range b 1000 (by omega) (by omega)
    have hrf := mod_range f 50 (by omega) (by omega)
    have HWK := Lib.hid (fun w => wakes4_any w)
    go_enter Try.func8, Try.ntmps8
    go_wp2_with fail
    refine HH.out.mono ?_
    rintro e w1 ⟨rfl, hb1⟩
    have T1 := Lib.hid hb1
    obtain ⟨⟨x0, x1, x2⟩, _, _⟩ := T1.out
    clear hb1 hl
    go_wp2_with fail
    refine (HCK.out _ _ T1.out.2.1).mono ?_
    rintro e w2 ⟨rfl, hb2⟩
    have T2 := Lib.hid (T1.out.bel hb2)
    obtain ⟨⟨y0, y1, y2⟩, _, _⟩ := T2.out
    clear hb2 x0 x1 x2 T1 HCK HH
    go_upto_region 4 with (fail)
    generalize wrap64 ((IntKind.u64.wrap b).tmod 1000) = bb at *
    generalize wrap64 ((IntKind.u64.wrap f).tmod 50) = ff at *
    clear q0
    obtain ⟨bb0, bb1⟩ := hrb
    obtain ⟨ff0, ff1⟩ := hrf
    have hsi := shift_in (b := bb) (f := ff) hc ⟨bb0, by omega⟩ ⟨ff0, by omega⟩
    by_cases hok : shiftE t bb ff = 0
    rotate_left
    · have h6 : shiftE t bb ff = 6 := by
        rw [hsi] at hok ⊢
        split at hok
        · rename_i h; rw [if_pos h]
        · exact absurd rfl hok
      have C1 := Lib.hid (fun W v hA => c_shift (b := bb) (f := ff) hF hs h6 rfl W v hA)
      generalize shiftT t bb ff = x at *
      clear hok h6 hsi
      go_wp2_with fail
      refine (C1.out _ _ T2.out.2.1).mono ?_
      rintro e w3 ⟨a3, c3, rfl, hK3, hb3⟩
      obtain ⟨hO3, hg3⟩ := boxed_tell T2.out.2.2 hb3 hK3
      have T3 := Lib.hid (T2.out.bel hg3)
      clear hK3 hO3 hg3 hb3 T2 y0 y1 y2
      go_wp2_with fail
      refine (HWK.out _).mono ?_
      rintro e w4 ⟨rfl, hb4⟩
      have T4 := Lib.hid (T3.out.bel hb4)
      clear hb4 T3
      go_wp2_with fail
      go_ret
      exact ⟨rfl, T4.out.2.2⟩
    obtain ⟨m1, m2, m3⟩ := move_kids (t := t) (b := bb) (f := ff)
    have hko := fun i hi => kids_ok hok (by omega : ff ≤ 60) i hi
    have hx := move_size t bb ff
    have C1 := Lib.hid (fun W v hA => c_shift hF hs hok (shiftT_ok hok) W v hA)
    generalize moveT t bb ff = x at *
    have HM3 := Lib.hid m3
    have HKO := Lib.hid hko
    have hfm := check_formed hc
    have HKC := Lib.hid (kids_count (n := ff) hfm hl1)
    have hcl := countT_le t ff
    clear m3 hko hok hsi hfm
    go_wp2_with fail
    refine (C1.out _ _ T2.out.2.1).mono ?_
    rintro e w3 ⟨a3, c3, rfl, hK3, hb3⟩
    obtain ⟨hO3, hg3⟩ := boxed_tell T2.out.2.2 hb3 hK3
    have T3 := Lib.hid (T2.out.bel hg3)
    have X3 := Lib.hid hO3
    clear hK3 hO3 hg3 hb3 T2 y0 y1 y2 C1
    obtain ⟨⟨x0, x1, x2⟩, _, _⟩ := T3.out
    obtain ⟨⟨z0, z1, z2⟩, _, _⟩ := X3.out
    have hxl : x.kids.length = ln := by rw [m2, HLN.out]
    have q1 : ((x.kids.length : Int) != (ln : Int)) = false := by simp; omega
    have q2 : (x.k != t.k) = false := by simp [m1]
    have HXL := Lib.hid hxl
    have HM1 := Lib.hid m1
    clear hxl m1 m2
    go_wp2_with fail
    clear x0 x1 x2 z0 z1 z2 q1 q2 hcl hx hc
    revert T3 X3
    generalize w3.alloc (.cells #[.int .i64 x.k, .int .i64 x.n, .slice a3 x.kids.length c3] 24) = W3
    generalize w3.heap.size = B7
    intro T3 X3
    obtain ⟨bk, ok, ck, vt, he, h1, h2, tk, tn, tv, ts⟩ := T3.out.2.1.pos hl1
    rw [HLN.out] at he
    obtain ⟨bx, ox, cx, vx, he2, h3, h4, xk, xn, xv, xs⟩ := X3.out.2.1.pos (by rw [HXL.out]; exact hl0)
    cases he
    cases he2
    have HT : Hid (∀ j (hj : j < t.kids.length), (W3.cell? ⟨bk, ok + j * 3, none⟩ = some (.int .i64 t.kids[j].k) ∧ W3.cell? ⟨bk, ok + j * 3 + 1, none⟩ = some (.int .i64 t.kids[j].n) ∧ W3.cell? ⟨bk, ok + j * 3 + 2, none⟩ = some (vt j)) ∧ At W3 t.kids[j].kids (vt j)) := fun j hj => ⟨⟨tk j hj, tn j hj, tv j hj⟩, ts j hj⟩
    have HX : Hid (∀ j (hj : j < x.kids.length), (W3.cell? ⟨bx, ox + j * 3, none⟩ = some (.int .i64 x.kids[j].k) ∧ W3.cell? ⟨bx, ox + j * 3 + 1, none⟩ = some (.int .i64 x.kids[j].n) ∧ W3.cell? ⟨bx, ox + j * 3 + 2, none⟩ = some (vx j)) ∧ At W3 x.kids[j].kids (vx j)) := fun j hj => ⟨⟨xk j hj, xn j hj, xv j hj⟩, xs j hj⟩
    clear tk tn tv ts xk xn xv xs h1 h2 h3 h4
    rw [HXL.out] at X3
    go_loopw [9] (fun i wr => ∃ j : Nat, j ≤ ln ∧ i = .int .i64 j ∧ Below W3.heap.size W3 wr) (fun i _ => ln - (RowKit.intOf i).toNat)
    case atStart => exact ⟨0, Nat.zero_le _, rfl, Below.refl _ _⟩
    case round =>
      obtain ⟨j, hj, rfl, hbw⟩ := hrel
      by_cases hlt : j < ln
      · have hjt : j < t.kids.length := by rw [HLN.out]; exact hlt
        have hjx : j < x.kids.length := by rw [HXL.out]; exact hlt
        obtain ⟨⟨k0, k1, k2⟩, k3⟩ := HT.out j hjt
        obtain ⟨⟨l0, l1, l2⟩, l3⟩ := HX.out j hjx
        obtain ⟨au, cu, hvu⟩ := k3.shape
        rw [hvu] at k2 k3
        obtain ⟨ax, cx2, hvx⟩ := l3.shape
        rw [hvx] at l2 l3
        have T4 := T3.out.bel hbw
        have X4 := Lib.hid (X3.out.bel hbw)
        have hbr := bindsI_range t.k j
        have hyx : x.kids[j] = moveT t.kids[j] bb (ff + bindsI t.k j) := by
          have h1 := HM3.out j hjt
          rw [List.getElem?_eq_getElem hjx] at h1
          exact Option.some.inj h1
        have hsk : size t.kids[j] ≤ 1048576 := by have := size_le_of_mem (List.getElem_mem hjt); omega
        have hyz := move_size t.kids[j] bb (ff + bindsI t.k j)
        have HC0 := fun W v hA => c_shift (Fits.get hF.kids hjt) hsk (HKO.out j hjt) (shiftT_ok (HKO.out j hjt)) W v hA
        rw [← hyx] at HC0 hyz
        generalize x.kids[j] = yj at *
        have hys : size yj ≤ 1048576 := by omega
        have HKE := Lib.hid (fun W va vb hA hB => c_same (t := yj) hys W va vb hA hB)
        have hwb : IntKind.i64.wrap (ff + bindsI t.k j) = ff + bindsI t.k j := IntWalk.i64_in _ (by omega)
        have HC : Hid (∀ W, Below wr.heap.size wr W → Calls Try.prog 11 #[.agg #[.int .i64 t.kids[j].k, .int .i64 t.kids[j].n, .slice au t.kids[j].kids.length cu], .int .i64 bb, .int .i64 (ff + bindsI t.k j)] W (TellK W yj (.int .i64 0))) := fun W hW => HC0 W _ ((k3.bel hbw (Nat.le_refl _)).bel hW (Nat.le_refl _))
        have LX : Hid ((wr.cell? ⟨bx, ox + j * 3, none⟩ = some (.int .i64 yj.k) ∧ wr.cell? ⟨bx, ox + j * 3 + 1, none⟩ = some (.int .i64 yj.n) ∧ wr.cell? ⟨bx, ox + j * 3 + 2, none⟩ = some (.slice ax yj.kids.length cx2)) ∧ At wr yj.kids (.slice ax yj.kids.length cx2)) := ⟨⟨gcell hbw l0, gcell hbw l1, gcell hbw l2⟩, l3.bel hbw (Nat.le_refl _)⟩
        obtain ⟨⟨x0, x1, x2⟩, hAt, hBt⟩ := T4
        replace k0 := gcell hbw k0
        replace k1 := gcell hbw k1
        replace k2 := gcell hbw k2
        have hbkw : bk < wr.heap.size := World.block_lt_of_cell? wr _ k0
        have hww : w.heap.size < wr.heap.size := World.block_lt_of_cell? wr _ x0
        have HT4 : Hid (One w w.heap.size t (.slice (some ⟨bk, ok, none⟩) ln c1) wr) := ⟨⟨x0, x1, x2⟩, hAt, hBt⟩
        have HBW := Lib.hid hbw
        have HD0 : ∀ W, Below wr.heap.size wr W → W.cell? ⟨w.heap.size, 0, none⟩ = some (.int .i64 t.k) ∧ W.cell? ⟨w.heap.size, 2, none⟩ = some (.slice (some ⟨bk, ok, none⟩) ln c1) ∧ W.cell? ⟨bk, ok + j * 3, none⟩ = some (.int .i64 t.kids[j].k) ∧ W.cell? ⟨bk, ok + j * 3 + 1, none⟩ = some (.int .i64 t.kids[j].n) ∧ W.cell? ⟨bk, ok + j * 3 + 2, none⟩ = some (.slice au t.kids[j].kids.length cu) := fun W hW => ⟨gcell hW x0, gcell hW x2, gcell hW k0, gcell hW k1, gcell hW k2⟩
        have HD4 : Hid (∀ W, (W = wr.drew ∨ W = (wr.alloc (.cells #[.int .i64 0, .int .i64 0, .slice none 0 0] 24)).drew) → Below wr.heap.size wr W ∧ W.cell? ⟨w.heap.size, 0, none⟩ = some (.int .i64 t.k) ∧ W.cell? ⟨w.heap.size, 2, none⟩ = some (.slice (some ⟨bk, ok, none⟩) ln c1) ∧ W.cell? ⟨bk, ok + j * 3, none⟩ = some (.int .i64 t.kids[j].k) ∧ W.cell? ⟨bk, ok + j * 3 + 1, none⟩ = some (.int .i64 t.kids[j].n) ∧ W.cell? ⟨bk, ok + j * 3 + 2, none⟩ = some (.slice au t.kids[j].kids.length cu)) := by
          rintro W (rfl | rfl)
          · exact ⟨(Below.refl _ _).drew, HD0 _ (Below.refl _ _).drew⟩
          · exact ⟨(below_al wr _).drew, HD0 _ (below_al wr _).drew⟩
        have HZB : Hid ((wr.alloc (.cells #[.int .i64 0, .int .i64 0, .slice none 0 0] 24)).drew.heap[wr.heap.size]? = some (.cells #[.int .i64 0, .int .i64 0, .slice none 0 0] 24 (0, 0))) := World.alloc_heap_new wr (.cells #[.int .i64 0, .int .i64 0, .slice none 0 0] 24)
        have HZS : Hid ((wr.alloc (.cells #[.int .i64 0, .int .i64 0, .slice none 0 0] 24)).drew.heap.size = wr.heap.size + 1) := by show (wr.alloc _).heap.size = _; simp
        have HZ4 : Hid (∀ w4, Below wr.drew.heap.size wr.drew w4 → wr.heap.size ≤ w4.heap.size ∧ ¬ (w.heap.size = w4.heap.size) ∧ ¬ (bk = w4.heap.size) ∧ ¬ (w4.heap.size = w.heap.size) ∧ ¬ (w4.heap.size = bk)) := fun w4 hw4 => by
          have h1 : wr.heap.size ≤ w4.heap.size := hw4.size
          exact ⟨h1, by omega, by omega, by omega, by omega⟩
        have g1 : ¬ (w.heap.size = wr.heap.size) := by omega
        have g2 : ¬ (bk = wr.heap.size) := by omega
        have g3 : ¬ (wr.heap.size = w.heap.size) := by omega
        have g4 : ¬ (wr.heap.size = bk) := by omega
        have hlt0 : (0 : Int) ≤ (j : Int) := by omega
        have hlt1 : (j : Int) < (ln : Int) := by omega
        clear hvu k3 hvx l0 l1 l2 l3 hbr hyx hyz HC0 hAt hBt hbw HD0 hjx
        go_wp2_with fail
        go_region_held3 (fun W => W.cell? ⟨w.heap.size, 0, none⟩ = some (.int .i64 t.k) ∧ W.cell? ⟨w.heap.size, 2, none⟩ = some (.slice (some ⟨bk, ok, none⟩) ln c1) ∧ W.cell? ⟨bk, ok + j * 3, none⟩ = some (.int .i64 t.kids[j].k) ∧ W.cell? ⟨bk, ok + j * 3 + 1, none⟩ = some (.int .i64 t.kids[j].n) ∧ W.cell? ⟨bk, ok + j * 3 + 2, none⟩ = some (.slice au t.kids[j].kids.length cu)) (go_keep)
          (first | (go_at_call 27; refine (rbinds_any _ _ _).mono ?_; rintro e w' ⟨rfl, rfl⟩) | (go_at_call 11; obtain ⟨z3, z4, z5, z6, z7, z8⟩ := HD4.out _ (.inl rfl); refine (HC.out _ z3).mono ?_; rintro e w4 ⟨a4, c4, rfl, hK4, hb5⟩; obtain ⟨e1, e2, e3, e4, e5⟩ := HZ4.out _ hb5; replace z4 := gcell hb5 z4; replace z5 := gcell hb5 z5; replace z6 := gcell hb5 z6; replace z7 := gcell hb5 z7; replace z8 := gcell hb5 z8) | (go_at_call 11; obtain ⟨z3, z4, z5, z6, z7, z8⟩ := HD4.out _ (.inr rfl); refine (HC.out _ z3).mono ?_; rintro e w4 ⟨a4, c4, rfl, hK4, hb5⟩; obtain ⟨⟨n0, n1, n2⟩, p0, p1, p2⟩ := boxc ((hb5.block wr.heap.size (by rw [HZS.out]; omega)).trans HZB.out); replace z4 := gcell hb5 z4; replace z5 := gcell hb5 z5; replace z6 := gcell hb5 z6; replace z7 := gcell hb5 z7; replace z8 := gcell hb5 z8))
        all_goals
          have hz4 := Nat.le_trans z3.size hb5.size
          first
            | (have hON : One w w4.heap.size yj (.slice a4 yj.kids.length c4) (w4.alloc (.cells #[.int .i64 yj.k, .int .i64 yj.n, .slice a4 yj.kids.length c4] 24)) := (boxed_tell (HT4.out.2.2.trans (z3.mono (by omega))) hb5 hK4).1; have hb6 := (z3.trans (hb5.mono z3.size)).alloc hz4 (.cells #[.int .i64 yj.k, .int .i64 yj.n, .slice a4 yj.kids.length c4] 24); obtain ⟨w5, hw5⟩ : ∃ w5, w5 = w4.alloc (.cells #[.int .i64 yj.k, .int .i64 yj.n, .slice a4 yj.kids.length c4] 24) := ⟨_, rfl⟩; rw [← hw5] at hON hb6 ⊢; obtain ⟨B5, hB5⟩ : ∃ B5, B5 = w4.heap.size := ⟨_, rfl⟩; rw [← hB5] at hON ⊢)
            | (have hst := below_store3 (W := w4) (B := wr.heap.size) (Nat.le_refl _) (.int .i64 yj.k) (.int .i64 yj.n) (.slice a4 yj.kids.length c4); have hb6 := (z3.trans (hb5.mono z3.size)).trans hst; have hbs := box_store3 ((hb5.block wr.heap.size (by rw [HZS.out]; omega)).trans HZB.out) (.int .i64 yj.k) (.int .i64 yj.n) (.slice a4 yj.kids.length c4); have hON : One w wr.heap.size yj (.slice a4 yj.kids.length c4) (((w4.setCell ⟨wr.heap.size, 0, none⟩ (.int .i64 yj.k)).setCell ⟨wr.heap.size, 1, none⟩ (.int .i64 yj.n)).setCell ⟨wr.heap.size, 2, none⟩ (.slice a4 yj.kids.length c4)) := ⟨(boxc hbs).1, (hK4.same (T := fun _ => True) (w' := (((w4.setCell ⟨wr.heap.size, 0, none⟩ (.int .i64 yj.k)).setCell ⟨wr.heap.size, 1, none⟩ (.int .i64 yj.n)).setCell ⟨wr.heap.size, 2, none⟩ (.slice a4 yj.kids.length c4))) (fun b hb => ⟨trivial, other_store3 (by have := HZS.out; omega) _ _ _⟩)).ats.at, HT4.out.2.2.trans (hb6.mono (by omega))⟩; obtain ⟨w5, hw5⟩ : ∃ w5, w5 = (((w4.setCell ⟨wr.heap.size, 0, none⟩ (.int .i64 yj.k)).setCell ⟨wr.heap.size, 1, none⟩ (.int .i64 yj.n)).setCell ⟨wr.heap.size, 2, none⟩ (.slice a4 yj.kids.length c4)) := ⟨_, rfl⟩; rw [← hw5] at hON hb6 ⊢; obtain ⟨B5, hB5⟩ : ∃ B5, B5 = wr.heap.size := ⟨_, rfl⟩; rw [← hB5] at hON ⊢)
          have ON := Lib.hid hON
          have HB6 := Lib.hid hb6
          clear hw5 hB5 hON hb6 z3 z4 z5 z6 z7 z8 hK4 hb5 hz4
          go_wp2_with fail
          refine wp_region_rel (by kernel_rfl) (by kernel_rfl) (by kernel_rfl) ?_
          apply RelWalk.rest
          · kernel_rfl
          · intro X _ W hW hcl
            obtain ⟨⟨y0, y1, y2⟩, hy, _⟩ := ON.out
            obtain ⟨⟨v0, v1, v2⟩, _, _⟩ := X4.out.bel HB6.out
            obtain ⟨⟨l0, l1, l2⟩, l3⟩ := LX.out
            have q0 := fun q => gcell (hW q) y0
            have q1 := fun q => gcell (hW q) y1
            have q2 := fun q => gcell (hW q) y2
            have q3 := fun q => gcell (hW q) v2
            have q4 := fun q => gcell (hW q) (gcell HB6.out l0)
            have q5 := fun q => gcell (hW q) (gcell HB6.out l1)
            have q6 := fun q => gcell (hW q) (gcell HB6.out l2)
            have cE := Lib.hid (fun q => into hcl (HKE.out (W q) _ _ (hy.bel (hW q) (Nat.le_refl _)) ((l3.bel HB6.out (Nat.le_refl _)).bel (hW q) (Nat.le_refl _))))
            clear y0 y1 y2 v0 v1 v2 l0 l1 l2 hy l3
            repeat (go_big_quiet_step (with_reducible exact cE.out _))
            exact wpQuiet_nil rfl
          intro gq w6 hg _
          have HB7 := Lib.hid (HB6.out.trans (hg.mono HB6.out.size))
          clear hg
          simp only [Spread]
          go_wp2_with fail
          go_roundw
          case rel => exact ⟨j + 1, by omega, by go_num, HBW.out.trans (HB7.out.mono HBW.out.size)⟩
          case measure => simp [RowKit.intOf]; omega
      · obtain rfl : j = ln := by omega
        have hlt2 : decide ((j : Int) < (j : Int)) = false := by simp
        have T4 := Lib.hid (T3.out.bel hbw)
        have HT4 : Hid (∀ i (hi : i < t.kids.length), (wr.cell? ⟨bk, ok + i * 3, none⟩ = some (.int .i64 t.kids[i].k) ∧ wr.cell? ⟨bk, ok + i * 3 + 1, none⟩ = some (.int .i64 t.kids[i].n) ∧ wr.cell? ⟨bk, ok + i * 3 + 2, none⟩ = some (vt i)) ∧ At wr t.kids[i].kids (vt i)) := fun i hi => by
          obtain ⟨⟨k0, k1, k2⟩, k3⟩ := HT.out i hi
          exact ⟨⟨gcell hbw k0, gcell hbw k1, gcell hbw k2⟩, k3.bel hbw (Nat.le_refl _)⟩
        clear hbw HT HX T3 X3 HM3 HKO hj hlt
        obtain ⟨⟨x0, x1, x2⟩, _, _⟩ := T4.out
        go_wp2_with fail
        clear x0 x1 x2 hlt2
        go_loopw [12, 13] (fun n i wx => ∃ m : Nat, m ≤ j ∧ i = .int .i64 m ∧ n = .int .i64 ((countL (t.kids.take m) t.k ff 0 : Nat) : Int) ∧ Below wr.heap.size wr wx) (fun _ i _ => j - (RowKit.intOf i).toNat)
        case atStart => exact ⟨0, Nat.zero_le _, rfl, by rw [List.take_zero]; rfl, Below.refl _ _⟩
        case round =>
          obtain ⟨m, hm, rfl, rfl, hbw⟩ := hrel
          by_cases hlt : m < j
          · have hmt : m < t.kids.length := by rw [HLN.out]; exact hlt
            obtain ⟨⟨k0, k1, k2⟩, k3⟩ := HT4.out m hmt
            obtain ⟨au, cu, hvu⟩ := k3.shape
            rw [hvu] at k2 k3
            have HTS := Lib.hid (countL_take_succ hmt t.k ff)
            have hc1 := countL_le (t.kids.take (m + 1)) t.k ff 0
            have hc2 := sizeL_take t.kids (m + 1)
            have hc3 := HTS.out
            have hbr := bindsI_range t.k m
            have hwb : IntKind.i64.wrap (ff + bindsI t.k m) = ff + bindsI t.k m := IntWalk.i64_in _ (by omega)
            have hce : cntE t.kids[m] (ff + bindsI t.k m) = countT t.kids[m] (ff + bindsI t.k m) := by rw [cntE, if_pos ⟨by omega, by omega⟩]
            have hsk : size t.kids[m] ≤ 1048576 := by have := size_le_of_mem (List.getElem_mem hmt); omega
            have HC0 := Lib.hid (fun W v hA => c_count hsk hce W v hA)
            generalize countT t.kids[m] (ff + bindsI t.k m) = cc at *
            generalize hcl0 : countL (t.kids.take m) t.k ff 0 = cl at *
            have hws : IntKind.i64.wrap ((cl : Int) + (cc : Int)) = (cl : Int) + (cc : Int) := IntWalk.i64_in _ (by omega)
            have T5 := Lib.hid (T4.out.bel hbw)
            have HBW := Lib.hid hbw
            obtain ⟨⟨x0, x1, x2⟩, _, _⟩ := T5.out
            have hm0 : (0 : Int) ≤ (m : Int) := by omega
            have hm1 : (m : Int) < (j : Int) := by omega
            replace k0 := gcell hbw k0
            replace k1 := gcell hbw k1
            replace k2 := gcell hbw k2
            have K3 := Lib.hid (k3.bel hbw (Nat.le_refl _))
            clear hc1 hc2 hc3 hbr hce hsk k3 hbw hvu hcl0
            go_wp2_with fail
            refine wp_region_rel (by kernel_rfl) (by kernel_rfl) (by kernel_rfl) ?_
            apply RelWalk.rest
            · kernel_rfl
            · intro X _ W hW hcl
              have q0 := fun q => gcell (hW q) x0
              have q1 := fun q => gcell (hW q) x1
              have q2 := fun q => gcell (hW q) x2
              have q3 := fun q => gcell (hW q) k0
              have q4 := fun q => gcell (hW q) k1
              have q5 := fun q => gcell (hW q) k2
              have cB := Lib.hid (fun q => intoSame (rbinds_any t.k (m : Int) (W q)))
              have cC := Lib.hid (fun q => into hcl (HC0.out (W q) _ (K3.out.bel (hW q) (Nat.le_refl _))))
              repeat (go_big_quiet_step (first | (with_reducible exact cB.out _) | (with_reducible exact cC.out _)))
              exact wpQuiet_nil rfl
            intro gq w6 hg _
            have HB7 := Lib.hid (HBW.out.trans (hg.mono HBW.out.size))
            clear hg
            simp only [Spread]
            go_wp2_with fail
            go_roundw
            case rel => exact ⟨m + 1, by omega, by go_num, by rw [HTS.out]; go_num, HB7.out⟩
            case measure => simp [RowKit.intOf]; omega
          · obtain rfl : m = j := by omega
            have hlt2 : decide ((m : Int) < (m : Int)) = false := by simp
            have T5 := Lib.hid (T4.out.bel hbw)
            have hce : cntE t ff = countL t.kids t.k ff 0 := by rw [cntE, if_pos ⟨ff0, by omega⟩, HKC.out]
            have HC0 := Lib.hid (fun W v hA => c_count hs hce W v hA)
            rw [show t.kids.take m = t.kids from by rw [← HLN.out, List.take_length]]
            generalize countL t.kids t.k ff 0 = cl at *
            obtain ⟨⟨x0, x1, x2⟩, _, _⟩ := T5.out
            clear hce hbw T4 HT4
            go_wp2_with fail
            refine (HC0.out _ _ T5.out.2.1).mono ?_
            rintro e w6 ⟨rfl, hb6⟩
            have T6 := Lib.hid (T5.out.bel hb6)
            clear hb6 T5 x0 x1 x2
            go_wp2_with fail
            refine (HWK.out _).mono ?_
            rintro e w7 ⟨rfl, hb7⟩
            have T7 := Lib.hid (T6.out.bel hb7)
            clear hb7 T6
            go_wp2_with fail
            go_ret
            exact ⟨rfl, T7.out.2.2⟩
end Go.Proofs.Ytfbinoifhabgoaa
