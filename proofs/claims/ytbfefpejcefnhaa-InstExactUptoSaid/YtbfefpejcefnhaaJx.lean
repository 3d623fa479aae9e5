/- InstExact: the Go text returns true for any terms that are not greater than the second form's bound, and any integer. -/
import Derived.Test.YtbfefpejcefnhaaIb
import Derived.Deep.DeepCutAuto
import Derived.Test.YtbfefpejcefnhaaQx
import Derived.Test.YtbfefpejcefnhaaSp
namespace Go.Proofs.Ytbfefpejcefnhaa
open Go.RowKit
set_option linter.unusedVariables false

theorem boxed_ats5 {w w1 w2 : World} {S : Nat → Prop} {r : Tm} {a : Option Addr} {cap : Nat} (hw : Below w.heap.size w w1) (hb : Below w1.heap.size w1 w2) (hA : AtS S w2 r.kids (.slice a r.kids.length cap)) :
    One w w2.heap.size r (.slice a r.kids.length cap) (w2.alloc (.cells #[.int .i64 r.k, .int .i64 r.n, .slice a r.kids.length cap] 24)) ∧ Below w1.heap.size w1 (w2.alloc (.cells #[.int .i64 r.k, .int .i64 r.n, .slice a r.kids.length cap] 24)) := by
  obtain ⟨h1, h2, h3⟩ := one_start w2 r (.slice a r.kids.length cap) hA.at
  exact ⟨⟨h1, h2, hw.trans ((hb.trans (h3.mono hb.size)).mono hw.size)⟩, hb.trans (h3.mono hb.size)⟩
theorem Spd.below5 {S : Nat → Prop} {w w' : World} {B : Nat} (h : Spd S w w') (hB : B ≤ w.heap.size) (hS : ∀ b, S b → B ≤ b) : Below B w w' :=
  ⟨h.os, h.tape, h.output, h.size, fun b hb => h.other b (by omega) (fun hs => by have := hS b hs; omega)⟩
theorem instT_size (t : Tm) (A : List Tm) (u : Int) : size (instT t A u) ≤ 1048576 := by
  unfold instT
  split
  · rename_i h
    have := put_small h
    exact this
  · decide +kernel
theorem c_sameL {A : List Tm} (hsA : sizeL A ≤ 1048576) (W : World) (va vb : Value) (hA : At W A va) (hB : At W A vb) :
    Calls Try.prog 20 #[va, vb] W fun e w' => e = .returned (.bool true) ∧ Below W.heap.size W w' := by
  have hl := length_le_sizeL A
  have := terms_any A A (by omega) (by omega) (by omega) (fun x hx b hb w va vb h1 h2 => kterm_any x b (by have := size_le_of_mem hx; omega) hb w va vb h1 h2) W va vb hA hB
  rwa [show eqL A A = true from (eqL_iff A A).2 rfl] at this
theorem c_twins (A : List Tm) (hsA : sizeL A ≤ 1048576) (W : World) (v : Value) (hA : At W A v) :
    Calls Try.prog 14 #[v] W (TwinsPost W A) := by
  have hl := length_le_sizeL A
  exact twins_any A (by omega) (fun x hx => twin_any x (by have := size_le_of_mem hx; omega)) W v hA
set_option maxRecDepth 100000 in
set_option maxHeartbeats 5000000 in
theorem liexact_any (t : Tm) (A : List Tm) (hF : Fits t) (hFA : ∀ a ∈ A, Fits a) (hs : size t ≤ 1048576) (hsA : sizeL A ≤ 1048576) (u : Int) (w : World) (v va : Value) (hA : At w t.kids v) (hAA : At w A va) :
    Calls Try.prog 3 #[.agg #[.int .i64 t.k, .int .i64 t.n, v], va, .int .i64 u] w fun e w' => e = .returned (.bool true) ∧ Below w.heap.size w w' := by
  obtain ⟨a1, c1, rfl⟩ := hA.shape
  obtain ⟨pa, cp, rfl⟩ := hAA.shape
  have hAl : A.length ≤ 1048576 := Nat.le_trans (length_le_sizeL A) hsA
  have HH := heavy1 t hs w _ hA
  have HAA := Lib.hid hAA
  have HH2 : Hid (∀ W, Below w.heap.size w W → Calls Try.prog 12 #[.slice pa A.length cp] W fun e w' => e = .returned (.bool (heavyB A)) ∧ Below W.heap.size W w') := fun W hW => heavy_any A (by omega) W _ (hAA.bel hW (Nat.le_refl _))
  clear hA hAA
  cases hh : heavyB [t] with
  | true =>
    rw [hh] at HH
    have HH := Lib.hid HH
    clear hh HH2
    go_enter Try.func3, Try.ntmps3
    go_wp2_with fail
    refine HH.out.mono ?_
    rintro e w1 ⟨rfl, hb1⟩
    have T1 := Lib.hid hb1
    clear hb1
    go_wp2_with fail
    go_ret
    exact ⟨rfl, T1.out.2.2⟩
  | false =>
    rw [hh] at HH
    have HH := Lib.hid HH
    clear hh
    cases hh2 : heavyB A with
    | true =>
      rw [hh2] at HH2
      clear hh2
      go_enter Try.func3, Try.ntmps3
      go_wp2_with fail
      refine HH.out.mono ?_
      rintro e w1 ⟨rfl, hb1⟩
      have T1 := Lib.hid hb1
      clear hb1
      go_wp2_with fail
      refine (HH2.out _ T1.out.2.2).mono ?_
      rintro e w2 ⟨rfl, hb2⟩
      have T2 := Lib.hid (T1.out.bel hb2)
      clear hb2
      go_wp2_with fail
      go_ret
      exact ⟨rfl, T2.out.2.2⟩
    | false =>
      rw [hh2] at HH2
      have hp : A.length ≤ 60 := by
        have := hh2
        simp only [heavyB, Bool.or_eq_false_iff, decide_eq_false_iff_not] at this
        omega
      clear hh2
      have HWK := Lib.hid (fun w => wakes5_any w)
      go_enter Try.func3, Try.ntmps3
      go_wp2_with fail
      refine HH.out.mono ?_
      rintro e w1 ⟨rfl, hb1⟩
      have T1 := Lib.hid hb1
      clear hb1 HH
      go_wp2_with fail
      refine (HH2.out _ T1.out.2.2).mono ?_
      rintro e w2 ⟨rfl, hb2⟩
      have T2 := Lib.hid (T1.out.bel hb2)
      clear hb2 T1 HH2
      have HTW := Lib.hid (fun W v hA => c_twin t hs W v hA)
      have HTS := Lib.hid (fun W v hA => c_twins A hsA W v hA)
      have C1 := Lib.hid (fun W v va hA hM => sinst_any t hF hs A hFA hsA (by omega) u W v va hA hM)
      have C2 := Lib.hid (fun W v va hA hM => rinst_any t hs A hsA (by omega) u W v va hA hM)
      have K1 := Lib.hid (fun W va vb hA hB => c_same (t := instT t A u) (instT_size t A u) W va vb hA hB)
      have K2 := Lib.hid (fun W v va hA hM => ssizeof_any t hF hs A hFA hsA (by omega) u W v va hA hM)
      have K3 := Lib.hid (fun W v va hA hM => rsizeof_any t hs A hsA (by omega) u W v va hA hM)
      have K4 := Lib.hid (fun W va vb hA hB => c_same (t := t) hs W va vb hA hB)
      have K5 := Lib.hid (fun W va vb hA hB => c_sameL (A := A) hsA W va vb hA hB)
      have P1 := Lib.hid (fun S => spoil_any S (instT t A u) (instT_size t A u))
      generalize instT t A u = x at *
      generalize instE t A u = ce at *
      generalize sizeOfN t A u = sn at *
      have q0 : (ce != ce) = false := by simp
      have q1 : ((sn : Int) != (sn : Int)) = false := by simp
      obtain ⟨⟨x0, x1, x2⟩, _⟩ := T2.out
      go_wp2_with fail
      refine (HTW.out _ _ T2.out.2.1).mono ?_
      rintro e w3 ⟨a3, c3, rfl, hs3, _, hb3⟩
      have T3 := Lib.hid (T2.out.bel hb3)
      have I3 := Lib.hid hs3.at
      clear hs3 hb3 x0 x1 x2 T2 HTW
      go_wp2_with fail
      refine (HTS.out _ _ (HAA.out.bel T3.out.2.2 (Nat.le_refl _))).mono ?_
      rintro e w4 ⟨a4, c4, rfl, hs4, _, hb4⟩
      have T4 := Lib.hid (T3.out.bel hb4)
      have hI4 := I3.out.bel hb4 (Nat.le_refl _)
      have hO4 := one_start w4 t (.slice a3 t.kids.length c3) hI4
      have T5 := Lib.hid (T4.out.bel hO4.2.2)
      have I5 : Hid (One w w4.heap.size t (.slice a3 t.kids.length c3) (w4.alloc (.cells #[.int .i64 t.k, .int .i64 t.n, .slice a3 t.kids.length c3] 24))) := ⟨hO4.1, hO4.2.1, T4.out.2.2.trans (hO4.2.2.mono T4.out.2.2.size)⟩
      have L5 := Lib.hid (hs4.at.bel hO4.2.2 (Nat.le_refl _))
      clear hs4 hb4 hI4 hO4 T3 T4 I3 HTS
      go_wp2_with fail
      revert T5 I5 L5
      generalize w4.alloc (.cells #[.int .i64 t.k, .int .i64 t.n, .slice a3 t.kids.length c3] 24) = w5
      generalize w4.heap.size = ib
      intro T5 I5 L5
      obtain ⟨⟨y0, y1, y2⟩, _⟩ := I5.out
      go_wp2_with fail
      refine (C1.out _ _ _ I5.out.2.1 L5.out).mono ?_
      rintro e w6 ⟨a6, c6, rfl, hK6, hb6⟩
      obtain ⟨hO6, hg6⟩ := boxed_tell T5.out.2.2 hb6 hK6
      have KX := Lib.hid hK6
      have hz6 := hb6.size
      have GX : Hid (Below w6.heap.size w6 (w6.alloc (.cells #[.int .i64 x.k, .int .i64 x.n, .slice a6 x.kids.length c6] 24))) := below_al w6 _
      have T7 := Lib.hid (T5.out.bel hg6)
      have X7 := Lib.hid hO6
      have G7 := Lib.hid hg6
      clear hO6 hg6 hK6 hb6 y0 y1 y2 C1
      obtain ⟨⟨x0, x1, x2⟩, _⟩ := T7.out
      go_wp2_with fail
      refine (C2.out _ _ _ T7.out.2.1 (HAA.out.bel T7.out.2.2 (Nat.le_refl _))).mono ?_
      rintro e w8 ⟨a8, c8, rfl, hK8, hb8⟩
      obtain ⟨hO8, hg8⟩ := boxed_ats5 T7.out.2.2 hb8 hK8
      have GX9 : Hid (Below w6.heap.size w6 (w8.alloc (.cells #[.int .i64 x.k, .int .i64 x.n, .slice a8 x.kids.length c8] 24))) := GX.out.trans (hg8.mono GX.out.size)
      have G9 : Hid (Below w5.heap.size w5 (w8.alloc (.cells #[.int .i64 x.k, .int .i64 x.n, .slice a8 x.kids.length c8] 24))) := G7.out.trans (hg8.mono G7.out.size)
      have T9 := Lib.hid (T7.out.bel hg8)
      have I9 := Lib.hid (I5.out.bel G9.out)
      have X9 := Lib.hid (X7.out.bel hg8)
      have Y9 := Lib.hid hO8
      have L9 := Lib.hid (L5.out.bel G9.out (Nat.le_refl _))
      have A9 := Lib.hid (HAA.out.bel T9.out.2.2 (Nat.le_refl _))
      clear hO8 hg8 hK8 hb8 x0 x1 x2 C2 GX G7 T7 X7
      go_wp2_with fail
      revert GX9 G9 T9 I9 X9 Y9 L9 A9
      generalize w8.alloc (.cells #[.int .i64 x.k, .int .i64 x.n, .slice a8 x.kids.length c8] 24) = w9
      generalize w8.heap.size = yb
      intro GX9 G9 T9 I9 X9 Y9 L9 A9
      refine wp_region_rel (by kernel_rfl) (by kernel_rfl) (by kernel_rfl) ?_
      apply RelWalk.rest
      · kernel_rfl
      · intro XX _ W hW hcl
        obtain ⟨⟨y0, y1, y2⟩, hT, _⟩ := T9.out
        have rT0 := fun q => gcell (hW q) y0
        have rT1 := fun q => gcell (hW q) y1
        have rT2 := fun q => gcell (hW q) y2
        clear y0 y1 y2
        obtain ⟨⟨y0, y1, y2⟩, hI, _⟩ := I9.out
        have rI0 := fun q => gcell (hW q) y0
        have rI1 := fun q => gcell (hW q) y1
        have rI2 := fun q => gcell (hW q) y2
        clear y0 y1 y2
        obtain ⟨⟨y0, y1, y2⟩, hX, _⟩ := X9.out
        have rX0 := fun q => gcell (hW q) y0
        have rX1 := fun q => gcell (hW q) y1
        have rX2 := fun q => gcell (hW q) y2
        clear y0 y1 y2
        obtain ⟨⟨y0, y1, y2⟩, hY, _⟩ := Y9.out
        have rY0 := fun q => gcell (hW q) y0
        have rY1 := fun q => gcell (hW q) y1
        have rY2 := fun q => gcell (hW q) y2
        clear y0 y1 y2
        have hL := L9.out
        have hA := A9.out
        have d1 := Lib.hid (fun q => into hcl (K1.out (W q) _ _ (hX.bel (hW q) (Nat.le_refl _)) (hY.bel (hW q) (Nat.le_refl _))))
        have d2 := Lib.hid (fun q => into hcl (K2.out (W q) _ _ (hI.bel (hW q) (Nat.le_refl _)) (hL.bel (hW q) (Nat.le_refl _))))
        have d3 := Lib.hid (fun q => into hcl (K3.out (W q) _ _ (hT.bel (hW q) (Nat.le_refl _)) (hA.bel (hW q) (Nat.le_refl _))))
        have d4 := Lib.hid (fun q => into hcl (K4.out (W q) _ _ (hI.bel (hW q) (Nat.le_refl _)) (hT.bel (hW q) (Nat.le_refl _))))
        have d5 := Lib.hid (fun q => into hcl (K5.out (W q) _ _ (hL.bel (hW q) (Nat.le_refl _)) (hA.bel (hW q) (Nat.le_refl _))))
        clear hT hI hX hY hL hA
        repeat (go_big_quiet_step (first | (with_reducible exact d1.out _) | (with_reducible exact d2.out _) | (with_reducible exact d3.out _) | (with_reducible exact d4.out _) | (with_reducible exact d5.out _)))
        exact wpQuiet_nil rfl
      intro gq w12 hg _
      simp only [Spread]
      have GX12 := Lib.hid (GX9.out.trans (hg.mono GX9.out.size))
      have G12 := Lib.hid (G9.out.trans (hg.mono G9.out.size))
      have X12 := Lib.hid (X9.out.bel hg)
      clear hg
      obtain ⟨⟨x0, x1, x2⟩, _⟩ := X12.out
      have hz12 := GX12.out.size
      have HX := Lib.hid (P1.out (fun b => w5.heap.size ≤ b ∧ b < w6.heap.size) x.n w12 _ (fun b hb => by have := hb.2; omega) ((KX.out.same (T := (fun b => w5.heap.size ≤ b ∧ b < w6.heap.size)) fun b hb => ⟨hb, GX12.out.block b hb.2⟩).sk))
      clear P1 K1 K2 K3 KX X9 Y9 T9 I9 L9 A9 GX9 G9
      go_wp2_with fail
      refine HX.out.mono ?_
      rintro e w13 ⟨⟨r, rfl⟩, hp13⟩
      have G13 := Lib.hid (G12.out.trans (hp13.below5 G12.out.size (fun b hb => hb.1)))
      have T13 := Lib.hid (T5.out.bel G13.out)
      have I13 := Lib.hid (I5.out.bel G13.out)
      have L13 := Lib.hid (L5.out.bel G13.out (Nat.le_refl _))
      clear hp13 x0 x1 x2 HX X12 GX12 G12
      obtain ⟨⟨x0, x1, x2⟩, _⟩ := T13.out
      obtain ⟨⟨y0, y1, y2⟩, _⟩ := I13.out
      go_wp2_with fail
      refine (K4.out _ _ _ I13.out.2.1 T13.out.2.1).mono ?_
      rintro e w14 ⟨rfl, hb14⟩
      have T14 := Lib.hid (T13.out.bel hb14)
      have L14 := Lib.hid (L13.out.bel hb14 (Nat.le_refl _))
      clear hb14 x0 x1 x2 y0 y1 y2 T13 I13 L13
      go_wp2_with fail
      refine (K5.out _ _ _ L14.out (HAA.out.bel T14.out.2.2 (Nat.le_refl _))).mono ?_
      rintro e w15 ⟨rfl, hb15⟩
      have T15 := Lib.hid (T14.out.bel hb15)
      clear hb15 T14 L14
      go_wp2_with fail
      refine (HWK.out _).mono ?_
      rintro e w116 ⟨rfl, hb16⟩
      have T16 := Lib.hid (T15.out.bel hb16)
      clear hb16 T15
      go_wp2_with fail
      go_ret
      exact ⟨rfl, T16.out.2.2⟩
end Go.Proofs.Ytbfefpejcefnhaa
