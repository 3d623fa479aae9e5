/- ShiftExact: the Go text returns true for any term that is not greater than the second form's bound, and any integers. -/
import Derived.Test.YtfbinoifhabgoaaT0
import Derived.Test.YtfbinoifhabgoaaMs
import Derived.Test.YtfbinoifhabgoaaSp
namespace Go.Proofs.Ytfbinoifhabgoaa
open Go.RowKit
set_option linter.unusedVariables false

theorem boxed_ats {w w1 w2 : World} {S : Nat → Prop} {r : Tm} {a : Option Addr} {cap : Nat} (hw : Below w.heap.size w w1) (hb : Below w1.heap.size w1 w2) (hA : AtS S w2 r.kids (.slice a r.kids.length cap)) :
    One w w2.heap.size r (.slice a r.kids.length cap) (w2.alloc (.cells #[.int .i64 r.k, .int .i64 r.n, .slice a r.kids.length cap] 24)) ∧ Below w1.heap.size w1 (w2.alloc (.cells #[.int .i64 r.k, .int .i64 r.n, .slice a r.kids.length cap] 24)) := by
  obtain ⟨h1, h2, h3⟩ := one_start w2 r (.slice a r.kids.length cap) hA.at
  exact ⟨⟨h1, h2, hw.trans ((hb.trans (h3.mono hb.size)).mono hw.size)⟩, hb.trans (h3.mono hb.size)⟩
theorem Spd.below {S : Nat → Prop} {w w' : World} {B : Nat} (h : Spd S w w') (hB : B ≤ w.heap.size) (hS : ∀ b, S b → B ≤ b) : Below B w w' :=
  ⟨h.os, h.tape, h.output, h.size, fun b hb => h.other b (by omega) (fun hs => by have := hS b hs; omega)⟩
theorem shiftT_size (t : Tm) (b f : Int) : size (shiftT t b f) ≤ size t := by
  unfold shiftT
  split
  · rw [move_size]; exact Nat.le_refl _
  · have := size_pos t; exact this
theorem lowerT_size (t : Tm) (n : Int) : size (lowerT t n) ≤ size t := by
  unfold lowerT
  split
  · unfold lessT; rw [mapT_size]; exact Nat.le_refl _
  · have := size_pos t; exact this
theorem cnt_eq (t : Tm) (n : Int) : countE t n = cntE t n := rfl

set_option maxRecDepth 100000 in
set_option maxHeartbeats 3000000 in
theorem lsexact_any (t : Tm) (hF : Fits t) (hs : size t ≤ 1048576) (b f n : Int) (w : World) (v : Value) (hA : At w t.kids v) :
    Calls Try.prog 3 #[.agg #[.int .i64 t.k, .int .i64 t.n, v], .int .i64 b, .int .i64 f, .int .i64 n] w fun e w' => e = .returned (.bool true) ∧ Below w.heap.size w w' := by
  obtain ⟨a1, c1, rfl⟩ := hA.shape
  have HH := heavy1 t hs w _ hA
  clear hA
  cases hh : heavyB [t] with
  | true =>
    rw [hh] at HH
    have HH := Lib.hid HH
    clear hh
    go_enter Try.func3, Try.ntmps3
    go_wp2_with fail
    refine HH.out.mono ?_
    rintro e w1 ⟨rfl, hb1⟩
    have T1 := Lib.hid hb1
    clear hb1
    go_wp2_with fail
    go_ret
    exact ⟨rfl, T1.out.2.2⟩
  | false =>
    rw [hh] at HH
    have HH := Lib.hid HH
    clear hh
    have HWK := Lib.hid (fun w => wakes4_any w)
    have HTW := Lib.hid (fun W v hA => c_twin t hs W v hA)
    have hxz := Nat.le_trans (shiftT_size t b f) hs
    have huz := Nat.le_trans (lowerT_size t n) hs
    have C1 := Lib.hid (fun W v hA => shift_any t hF hs b f W v hA)
    have C2 := Lib.hid (fun W v hA => rshift_any t hs b f W v hA)
    have C3 := Lib.hid (fun W v hA => lower_any t hF hs n W v hA)
    have C4 := Lib.hid (fun W v hA => rlower_any t hs n W v hA)
    have K1 := Lib.hid (fun W va vb hA hB => c_same (t := shiftT t b f) hxz W va vb hA hB)
    have K2 := Lib.hid (fun W va vb hA hB => c_same (t := lowerT t n) huz W va vb hA hB)
    have K3 := Lib.hid (fun W v hA => scount_any t hs n W v hA)
    have K4 := fun W v hA => c_rcount t hs n W v hA
    rw [cnt_eq] at K4
    have K4 := Lib.hid K4
    have K5 := Lib.hid (fun W va vb hA hB => c_same (t := t) hs W va vb hA hB)
    have P1 := Lib.hid (fun S => spoil_any S (shiftT t b f) hxz)
    have P2 := Lib.hid (fun S => spoil_any S (lowerT t n) huz)
    generalize shiftT t b f = x at *
    generalize shiftE t b f = ce at *
    generalize lowerT t n = u at *
    generalize lowerB t n = ob at *
    generalize cntE t n = cn at *
    have q0 : (ce != ce) = false := by simp
    have q1 : (ob != ob) = false := by simp
    have q2 : ((cn : Int) != (cn : Int)) = false := by simp
    clear hxz huz
    go_enter Try.func3, Try.ntmps3
    go_wp2_with fail
    refine HH.out.mono ?_
    rintro e w1 ⟨rfl, hb1⟩
    have T1 := Lib.hid hb1
    obtain ⟨⟨x0, x1, x2⟩, _, _⟩ := T1.out
    clear HH hb1
    go_wp2_with fail
    refine (HTW.out _ _ T1.out.2.1).mono ?_
    rintro e w2 ⟨a2, c2, rfl, hs2, _, hb2⟩
    obtain ⟨hI, hg2⟩ := boxed_ats T1.out.2.2 hb2 hs2
    have T3 := Lib.hid (T1.out.bel hg2)
    have I3 := Lib.hid hI
    have T3z := T3
    have I3z := I3
    clear hs2 hb2 hI hg2 x0 x1 x2 T1 HTW
    obtain ⟨⟨q0, q1, q2⟩, _, _⟩ := I3.out
    go_wp2_with fail
    clear q0 q1 q2
    refine (C1.out _ _ I3.out.2.1).mono ?_
    rintro e w4 ⟨a4, c4, rfl, hK4, hb4⟩
    obtain ⟨hO, hg⟩ := boxed_tell T3.out.2.2 hb4 hK4
    have KX := Lib.hid hK4
    have GX : Hid (Below w4.heap.size w4 (w4.alloc (.cells #[.int .i64 x.k, .int .i64 x.n, .slice a4 x.kids.length c4] 24))) := below_al w4 _
    have G5 : Hid (Below (w2.alloc (.cells #[.int .i64 t.k, .int .i64 t.n, .slice a2 t.kids.length c2] 24)).heap.size (w2.alloc (.cells #[.int .i64 t.k, .int .i64 t.n, .slice a2 t.kids.length c2] 24)) (w4.alloc (.cells #[.int .i64 x.k, .int .i64 x.n, .slice a4 x.kids.length c4] 24))) := hg
    have hz4 := hb4.size
    have T5 := Lib.hid (T3.out.bel hg)
    have I5 := Lib.hid (I3.out.bel hg)
    have X5 := Lib.hid hO
    clear hO hg hK4 hb4 T3 I3
    obtain ⟨⟨q0, q1, q2⟩, _, _⟩ := T5.out
    go_wp2_with fail
    clear q0 q1 q2
    refine (C2.out _ _ T5.out.2.1).mono ?_
    rintro e w6 ⟨a6, c6, rfl, hK6, hb6⟩
    obtain ⟨hO, hg⟩ := boxed_ats T5.out.2.2 hb6 hK6
    have GX7 : Hid (Below w4.heap.size w4 (w6.alloc (.cells #[.int .i64 x.k, .int .i64 x.n, .slice a6 x.kids.length c6] 24))) := GX.out.trans (hg.mono GX.out.size)
    have G7 : Hid (Below (w2.alloc (.cells #[.int .i64 t.k, .int .i64 t.n, .slice a2 t.kids.length c2] 24)).heap.size (w2.alloc (.cells #[.int .i64 t.k, .int .i64 t.n, .slice a2 t.kids.length c2] 24)) (w6.alloc (.cells #[.int .i64 x.k, .int .i64 x.n, .slice a6 x.kids.length c6] 24))) := G5.out.trans (hg.mono G5.out.size)
    have T7 := Lib.hid (T5.out.bel hg)
    have I7 := Lib.hid (I5.out.bel hg)
    have X7 := Lib.hid (X5.out.bel hg)
    have Y7 := Lib.hid hO
    clear hO hg hK6 hb6 GX G5 T5 I5 X5
    obtain ⟨⟨q0, q1, q2⟩, _, _⟩ := I7.out
    go_wp2_with fail
    clear q0 q1 q2
    refine (C3.out _ _ I7.out.2.1).mono ?_
    rintro e w8 ⟨a8, c8, rfl, hK8, hb8⟩
    obtain ⟨hO, hg⟩ := boxed_tell T7.out.2.2 hb8 hK8
    have KU := Lib.hid hK8
    have GU : Hid (Below w8.heap.size w8 (w8.alloc (.cells #[.int .i64 u.k, .int .i64 u.n, .slice a8 u.kids.length c8] 24))) := below_al w8 _
    have hz8 := hb8.size
    have hz7 := GX7.out.size
    have G7z := Lib.hid G7.out.size
    have GX9 : Hid (Below w4.heap.size w4 (w8.alloc (.cells #[.int .i64 u.k, .int .i64 u.n, .slice a8 u.kids.length c8] 24))) := GX7.out.trans (hg.mono GX7.out.size)
    have G9 : Hid (Below (w2.alloc (.cells #[.int .i64 t.k, .int .i64 t.n, .slice a2 t.kids.length c2] 24)).heap.size (w2.alloc (.cells #[.int .i64 t.k, .int .i64 t.n, .slice a2 t.kids.length c2] 24)) (w8.alloc (.cells #[.int .i64 u.k, .int .i64 u.n, .slice a8 u.kids.length c8] 24))) := G7.out.trans (hg.mono G7.out.size)
    have T9 := Lib.hid (T7.out.bel hg)
    have I9 := Lib.hid (I7.out.bel hg)
    have X9 := Lib.hid (X7.out.bel hg)
    have Y9 := Lib.hid (Y7.out.bel hg)
    have U9 := Lib.hid hO
    clear hO hg hK8 hb8 GX7 G7 T7 I7 X7 Y7
    obtain ⟨⟨q0, q1, q2⟩, _, _⟩ := T9.out
    go_wp2_with fail
    clear q0 q1 q2
    refine (C4.out _ _ T9.out.2.1).mono ?_
    rintro e w10 ⟨a10, c10, rfl, hK10, hb10⟩
    obtain ⟨hO, hg⟩ := boxed_ats T9.out.2.2 hb10 hK10
    have GX11 : Hid (Below w4.heap.size w4 (w10.alloc (.cells #[.int .i64 u.k, .int .i64 u.n, .slice a10 u.kids.length c10] 24))) := GX9.out.trans (hg.mono GX9.out.size)
    have G11 : Hid (Below (w2.alloc (.cells #[.int .i64 t.k, .int .i64 t.n, .slice a2 t.kids.length c2] 24)).heap.size (w2.alloc (.cells #[.int .i64 t.k, .int .i64 t.n, .slice a2 t.kids.length c2] 24)) (w10.alloc (.cells #[.int .i64 u.k, .int .i64 u.n, .slice a10 u.kids.length c10] 24))) := G9.out.trans (hg.mono G9.out.size)
    have GU11 : Hid (Below w8.heap.size w8 (w10.alloc (.cells #[.int .i64 u.k, .int .i64 u.n, .slice a10 u.kids.length c10] 24))) := GU.out.trans (hg.mono GU.out.size)
    have T11 := Lib.hid (T9.out.bel hg)
    have I11 := Lib.hid (I9.out.bel hg)
    have X11 := Lib.hid (X9.out.bel hg)
    have Y11 := Lib.hid (Y9.out.bel hg)
    have U11 := Lib.hid (U9.out.bel hg)
    have V11 := Lib.hid hO
    clear hO hg hK10 hb10 GX9 G9 GU T9 I9 X9 Y9 U9
    go_wp2_with fail
    refine wp_region_rel (by kernel_rfl) (by kernel_rfl) (by kernel_rfl) ?_
    apply RelWalk.rest
    · kernel_rfl
    · intro X _ W hW hcl
      obtain ⟨⟨y0, y1, y2⟩, hT, _⟩ := T11.out
      have rT0 := fun q => gcell (hW q) y0
      have rT1 := fun q => gcell (hW q) y1
      have rT2 := fun q => gcell (hW q) y2
      clear y0 y1 y2
      obtain ⟨⟨y0, y1, y2⟩, hI, _⟩ := I11.out
      have rI0 := fun q => gcell (hW q) y0
      have rI1 := fun q => gcell (hW q) y1
      have rI2 := fun q => gcell (hW q) y2
      clear y0 y1 y2
      obtain ⟨⟨y0, y1, y2⟩, hX, _⟩ := X11.out
      have rX0 := fun q => gcell (hW q) y0
      have rX1 := fun q => gcell (hW q) y1
      have rX2 := fun q => gcell (hW q) y2
      clear y0 y1 y2
      obtain ⟨⟨y0, y1, y2⟩, hY, _⟩ := Y11.out
      have rY0 := fun q => gcell (hW q) y0
      have rY1 := fun q => gcell (hW q) y1
      have rY2 := fun q => gcell (hW q) y2
      clear y0 y1 y2
      obtain ⟨⟨y0, y1, y2⟩, hU, _⟩ := U11.out
      have rU0 := fun q => gcell (hW q) y0
      have rU1 := fun q => gcell (hW q) y1
      have rU2 := fun q => gcell (hW q) y2
      clear y0 y1 y2
      obtain ⟨⟨y0, y1, y2⟩, hV, _⟩ := V11.out
      have rV0 := fun q => gcell (hW q) y0
      have rV1 := fun q => gcell (hW q) y1
      have rV2 := fun q => gcell (hW q) y2
      clear y0 y1 y2
      have d1 := Lib.hid (fun q => into hcl (K1.out (W q) _ _ (hX.bel (hW q) (Nat.le_refl _)) (hY.bel (hW q) (Nat.le_refl _))))
      have d2 := Lib.hid (fun q => into hcl (K2.out (W q) _ _ (hU.bel (hW q) (Nat.le_refl _)) (hV.bel (hW q) (Nat.le_refl _))))
      have d3 := Lib.hid (fun q => into hcl (K3.out (W q) _ (hI.bel (hW q) (Nat.le_refl _))))
      have d4 := Lib.hid (fun q => into hcl (K4.out (W q) _ (hT.bel (hW q) (Nat.le_refl _))))
      have d5 := Lib.hid (fun q => into hcl (K5.out (W q) _ _ (hI.bel (hW q) (Nat.le_refl _)) (hT.bel (hW q) (Nat.le_refl _))))
      clear hT hI hX hY hU hV
      repeat (go_big_quiet_step (first | (with_reducible exact d1.out _) | (with_reducible exact d2.out _) | (with_reducible exact d3.out _) | (with_reducible exact d4.out _) | (with_reducible exact d5.out _)))
      exact wpQuiet_nil rfl
    intro gq w12 hg _
    simp only [Spread]
    have GX12 := Lib.hid (GX11.out.trans (hg.mono GX11.out.size))
    have G12 := Lib.hid (G11.out.trans (hg.mono G11.out.size))
    have GU12 := Lib.hid (GU11.out.trans (hg.mono GU11.out.size))
    have hz12 := hg.size
    have X12 := Lib.hid (X11.out.bel hg)
    have U12 := Lib.hid (U11.out.bel hg)
    clear hg
    obtain ⟨⟨q0, q1, q2⟩, _, _⟩ := X12.out
    go_wp2_with fail
    clear q0 q1 q2
    have hz5 := GX12.out.size
    have hz6 := GU12.out.size
    have HX := Lib.hid (P1.out (fun b => (w2.alloc (.cells #[.int .i64 t.k, .int .i64 t.n, .slice a2 t.kids.length c2] 24)).heap.size ≤ b ∧ b < w4.heap.size) x.n w12 _ (fun b hb => by have := hb.2; omega) ((KX.out.same (T := (fun b => (w2.alloc (.cells #[.int .i64 t.k, .int .i64 t.n, .slice a2 t.kids.length c2] 24)).heap.size ≤ b ∧ b < w4.heap.size)) fun b hb => ⟨hb, GX12.out.block b hb.2⟩).sk))
    refine HX.out.mono ?_
    rintro e w13 ⟨⟨r, rfl⟩, hp13⟩
    have hz13 := hp13.size
    have hnu : ∀ b, w4.heap.size ≤ b → b < w12.heap.size → w13.heap[b]? = w12.heap[b]? := fun b h1 h2 => hp13.other b h2 (fun h => by have := h.2; omega)
    have G13 := Lib.hid (G12.out.trans (hp13.below G12.out.size (fun b hb => hb.1)))
    have HU := Lib.hid (P2.out (fun b => (w6.alloc (.cells #[.int .i64 x.k, .int .i64 x.n, .slice a6 x.kids.length c6] 24)).heap.size ≤ b ∧ b < w8.heap.size) u.n w13 _ (fun b hb => by have := hb.2; omega) ((KU.out.same (T := (fun b => (w6.alloc (.cells #[.int .i64 x.k, .int .i64 x.n, .slice a6 x.kids.length c6] 24)).heap.size ≤ b ∧ b < w8.heap.size)) fun b hb => ⟨hb, (hnu b (by have := hb.1; omega) (by have := hb.2; omega)).trans (GU12.out.block b hb.2)⟩).sk))
    have U13 : w13.cell? ⟨w8.heap.size, 0, none⟩ = some (.int .i64 u.k) ∧ w13.cell? ⟨w8.heap.size, 1, none⟩ = some (.int .i64 u.n) ∧ w13.cell? ⟨w8.heap.size, 2, none⟩ = some (.slice a8 u.kids.length c8) := by
      obtain ⟨⟨q0, q1, q2⟩, _, _⟩ := U12.out
      have hlt : w8.heap.size < w12.heap.size := World.block_lt_of_cell? w12 _ q0
      have hbl := hnu w8.heap.size (by omega) hlt
      refine ⟨?_, ?_, ?_⟩
      · rw [World.cell?_of_block (w := w12) hbl]; exact q0
      · rw [World.cell?_of_block (w := w12) hbl]; exact q1
      · rw [World.cell?_of_block (w := w12) hbl]; exact q2
    obtain ⟨q0, q1, q2⟩ := U13
    clear hp13 hnu HX
    go_wp2_with fail
    clear q0 q1 q2
    refine HU.out.mono ?_
    rintro e w14 ⟨⟨r2, rfl⟩, hp14⟩
    have hb14 := G13.out.trans (hp14.below G13.out.size (fun b hb => by have := hb.1; have := G7z.out; omega))
    have T14 := Lib.hid (T3z.out.bel hb14)
    have I14 := Lib.hid (I3z.out.bel hb14)
    obtain ⟨⟨q0, q1, q2⟩, _, _⟩ := I14.out
    obtain ⟨⟨p0, p1, p2⟩, _, _⟩ := T14.out
    clear hp14 hb14 HU
    go_wp2_with fail
    clear q0 q1 q2 p0 p1 p2
    refine (K5.out _ _ _ I14.out.2.1 T14.out.2.1).mono ?_
    rintro e w15 ⟨rfl, hb15⟩
    have T15 := Lib.hid (T14.out.bel hb15)
    clear hb15 T14 I14
    go_wp2_with fail
    refine (HWK.out _).mono ?_
    rintro e w16 ⟨rfl, hb16⟩
    have T16 := Lib.hid (T15.out.bel hb16)
    clear hb16 T15
    go_wp2_with fail
    go_ret
    exact ⟨rfl, T16.out.2.2⟩
end Go.Proofs.Ytfbinoifhabgoaa
