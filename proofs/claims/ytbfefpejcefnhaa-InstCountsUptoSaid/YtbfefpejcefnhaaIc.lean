/- InstCounts: the Go text returns true for any terms that are not greater than the second form's bound, and any integer. -/
import Derived.Test.YtbfefpejcefnhaaIb
import Derived.Deep.DeepCutAuto
namespace Go.Proofs.Ytbfefpejcefnhaa
open Go.RowKit
set_option linter.unusedVariables false

theorem cnt_le (t : Tm) (n : Int) : cntE t n ≤ size t := by
  unfold cntE
  split
  · exact countT_le t n
  · omega
set_option maxRecDepth 100000 in
set_option maxHeartbeats 3000000 in
theorem lcounts5_any (t a : Tm) (hF : Fits t) (hF2 : Fits a) (hs : size t ≤ 1048576) (hs2 : size a ≤ 1048576) (n : Int) (w : World) (v v2 : Value) (hA : At w t.kids v) (hM : At w a.kids v2) :
    Calls Try.prog 11 #[.agg #[.int .i64 t.k, .int .i64 t.n, v], .agg #[.int .i64 a.k, .int .i64 a.n, v2], .int .i64 n] w fun e w' => e = .returned (.bool true) ∧ Below w.heap.size w w' := by
  obtain ⟨a1, c1, rfl⟩ := hA.shape
  obtain ⟨a2, c2, rfl⟩ := hM.shape
  have HH := heavy2 t a hs hs2 w _ _ hA hM
  clear hA hM
  cases hh : heavyB [t, a] with
  | true =>
    rw [hh] at HH
    have HH := Lib.hid HH
    clear hh
    go_enter Try.func11, Try.ntmps11
    go_wp2_with fail
    refine HH.out.mono ?_
    rintro e w1 ⟨rfl, hb1⟩
    have T1 := Lib.hid hb1.ones.1
    clear hb1
    go_wp2_with fail
    go_ret
    exact ⟨rfl, T1.out.2.2⟩
  | false =>
    rw [hh] at HH
    have HH := Lib.hid HH
    clear hh
    have hrn := mod_range n 20 (by omega) (by omega)
    have HWK := Lib.hid (fun w => wakes5_any w)
    have C1 := Lib.hid (fun W v va hA hM => c_inst (u := 0) hF hs (fits_one hF2) (size_one hs2) (by simp) rfl rfl W v va hA hM)
    go_enter Try.func11, Try.ntmps11
    go_wp2_with fail
    refine HH.out.mono ?_
    rintro e w1 ⟨rfl, hb1⟩
    have T1 := Lib.hid hb1.ones.1
    have A1 := Lib.hid hb1.ones.2
    clear HH hb1
    go_upto_region 4 with (fail)
    generalize wrap64 ((IntKind.u64.wrap n).tmod 20) = nn at *
    obtain ⟨nn0, nn1⟩ := hrn
    by_cases h0 : instE t [a] 0 = 0
    rotate_left
    · have e1 : (instE t [a] 0 != 0) = true := by simpa using h0
      generalize instE t [a] 0 = ee at *
      generalize instT t [a] 0 = r at *
      obtain ⟨⟨qT0, qT1, qT2⟩, _, _⟩ := T1.out
      obtain ⟨⟨qA0, qA1, qA2⟩, _, _⟩ := A1.out
      clear h0
      go_wp2_with fail
      refine (C1.out _ _ _ (T1.out.2.1.bel (below_al w1 _) (Nat.le_refl _)) (row1 A1.out.2.1)).mono ?_
      rintro e w2 ⟨a3, c3, rfl, hK2, hb2⟩
      have hg2 := (below_al w1 (.cells #[.int .i64 a.k, .int .i64 a.n, .slice a2 a.kids.length c2] 24)).trans (hb2.mono (by simp))
      obtain ⟨hO2, hg3⟩ := boxed_tell T1.out.2.2 hg2 hK2
      have T2 := Lib.hid (T1.out.bel hg3)
      clear hK2 hO2 hg2 hg3 hb2 T1 A1 qT0 qT1 qT2 qA0 qA1 qA2
      go_wp2_with fail
      refine (HWK.out _).mono ?_
      rintro e w3 ⟨rfl, hb3⟩
      have T3 := Lib.hid (T2.out.bel hb3)
      clear hb3 T2
      go_wp2_with fail
      go_ret
      exact ⟨rfl, T3.out.2.2⟩
    · obtain ⟨r1, r2⟩ := icounts_ok h0 nn0 (by omega)
      have C1 := Lib.hid (fun W v va hA hM => c_inst (u := 0) hF hs (fits_one hF2) (size_one hs2) (by simp) h0 (instT_put h0) W v va hA hM)
      have hfx := put_fits h0
      have hsx := put_small h0
      have hn1 : IntKind.i64.wrap (nn + 1) = nn + 1 := IntWalk.i64_in _ (by omega)
      have hb1 := cnt_le t (nn + 1)
      have hb2 := cnt_le t 0
      have hb3 := cnt_le a nn
      have hpa := size_pos a
      generalize putT [a] t 0 = r at *
      have K1 := Lib.hid (fun W v hA => c_count (t := r) (n := nn) hsx rfl W v hA)
      have K2 := Lib.hid (fun W v hA => c_count (t := t) (n := nn + 1) hs rfl W v hA)
      have K3 := Lib.hid (fun W v hA => c_count (t := t) (n := 0) hs rfl W v hA)
      have K4 := Lib.hid (fun W v hA => c_count (t := a) (n := nn) hs2 rfl W v hA)
      have K5 := Lib.hid (fun W v hA => c_size r hfx hsx W v hA)
      have K6 := Lib.hid (fun W v hA => c_size t hF hs W v hA)
      have K7 := Lib.hid (fun W v hA => c_size a hF2 hs2 W v hA)
      generalize cntE r nn = m1 at *
      generalize cntE t (nn + 1) = m2 at *
      generalize cntE t 0 = m3 at *
      generalize cntE a nn = m4 at *
      have hS5 : ((size r : Nat) : Int) = (size t : Nat) + (m3 : Int) * ((size a : Nat) - 1) := by
        rw [r2, Int.natCast_add, Int.natCast_mul, Int.natCast_sub hpa]; rfl
      have hM1 : (m1 : Int) = (m2 : Int) + (m3 : Int) * (m4 : Int) := by rw [r1, Int.natCast_add, Int.natCast_mul]
      have hp1 : m3 * m4 ≤ 1048576 * 1048576 := Nat.mul_le_mul (by omega) (by omega)
      have hp2 : m3 * (size a - 1) ≤ 1048576 * 1048576 := Nat.mul_le_mul (by omega) (by omega)
      have hp3 : ((m3 * m4 : Nat) : Int) = (m3 : Int) * (m4 : Int) := Int.natCast_mul _ _
      have hp4 : ((m3 * (size a - 1) : Nat) : Int) = (m3 : Int) * ((size a : Nat) - 1) := by rw [Int.natCast_mul, Int.natCast_sub hpa]; rfl
      have hw1 : IntKind.i64.wrap ((m3 : Int) * (m4 : Int)) = (m3 : Int) * (m4 : Int) := IntWalk.i64_in _ (by omega)
      have hw2 : IntKind.i64.wrap ((m2 : Int) + (m3 : Int) * (m4 : Int)) = (m1 : Int) := by rw [hM1]; exact IntWalk.i64_in _ (by omega)
      have hw3 : IntKind.i64.wrap (((size a : Nat) : Int) - 1) = ((size a : Nat) : Int) - 1 := IntWalk.i64_in _ (by omega)
      have hw4 : IntKind.i64.wrap ((m3 : Int) * (((size a : Nat) : Int) - 1)) = (m3 : Int) * (((size a : Nat) : Int) - 1) := IntWalk.i64_in _ (by omega)
      have hw5 : IntKind.i64.wrap (((size t : Nat) : Int) + (m3 : Int) * (((size a : Nat) : Int) - 1)) = ((size r : Nat) : Int) := by rw [hS5]; exact IntWalk.i64_in _ (by omega)
      clear h0 r1 r2 hb1 hb2 hb3 hp1 hp2 hp3 hp4 hS5 hM1
      obtain ⟨⟨qT0, qT1, qT2⟩, _, _⟩ := T1.out
      obtain ⟨⟨qA0, qA1, qA2⟩, _, _⟩ := A1.out
      go_wp2_with fail
      refine (C1.out _ _ _ (T1.out.2.1.bel (below_al w1 _) (Nat.le_refl _)) (row1 A1.out.2.1)).mono ?_
      rintro e w2 ⟨a3, c3, rfl, hK2, hb2⟩
      have hg2 := (below_al w1 (.cells #[.int .i64 a.k, .int .i64 a.n, .slice a2 a.kids.length c2] 24)).trans (hb2.mono (by simp))
      obtain ⟨hO2, hg3⟩ := boxed_tell T1.out.2.2 hg2 hK2
      have T2 := Lib.hid (T1.out.bel hg3)
      have A2 := Lib.hid (A1.out.bel hg3)
      have X2 := Lib.hid hO2
      clear hK2 hO2 hg2 hg3 hb2 T1 A1 qT0 qT1 qT2 qA0 qA1 qA2
      obtain ⟨⟨qT0, qT1, qT2⟩, _, _⟩ := T2.out
      obtain ⟨⟨qA0, qA1, qA2⟩, _, _⟩ := A2.out
      obtain ⟨⟨qX0, qX1, qX2⟩, _, _⟩ := X2.out
      go_wp2_with fail
      clear qT0 qT1 qT2 qA0 qA1 qA2 qX0 qX1 qX2
      refine wp_region_rel (by kernel_rfl) (by kernel_rfl) (by kernel_rfl) ?_
      apply RelWalk.rest
      · kernel_rfl
      · intro X _ W hW hcl
        obtain ⟨⟨x0, x1, x2⟩, _⟩ := T2.out
        obtain ⟨⟨y0, y1, y2⟩, _⟩ := A2.out
        obtain ⟨⟨z0, z1, z2⟩, _⟩ := X2.out
        have k0 := fun q => gcell (hW q) x0
        have k1 := fun q => gcell (hW q) x1
        have k2 := fun q => gcell (hW q) x2
        have k3 := fun q => gcell (hW q) y0
        have k4 := fun q => gcell (hW q) y1
        have k5 := fun q => gcell (hW q) y2
        have k6 := fun q => gcell (hW q) z0
        have k7 := fun q => gcell (hW q) z1
        have k8 := fun q => gcell (hW q) z2
        have d1 := Lib.hid (fun q => into hcl (K1.out (W q) _ (X2.out.bel (hW q)).2.1))
        have d2 := Lib.hid (fun q => into hcl (K2.out (W q) _ (T2.out.bel (hW q)).2.1))
        have d3 := Lib.hid (fun q => into hcl (K3.out (W q) _ (T2.out.bel (hW q)).2.1))
        have d4 := Lib.hid (fun q => into hcl (K4.out (W q) _ (A2.out.bel (hW q)).2.1))
        have d5 := Lib.hid (fun q => into hcl (K5.out (W q) _ (X2.out.bel (hW q)).2.1))
        have d6 := Lib.hid (fun q => into hcl (K6.out (W q) _ (T2.out.bel (hW q)).2.1))
        have d7 := Lib.hid (fun q => into hcl (K7.out (W q) _ (A2.out.bel (hW q)).2.1))
        have d8 := Lib.hid (fun q => into hcl (HWK.out (W q)))
        clear x0 x1 x2 y0 y1 y2 z0 z1 z2
        repeat (go_big_quiet_step (first | (with_reducible exact d1.out _) | (with_reducible exact d2.out _) | (with_reducible exact d3.out _) | (with_reducible exact d4.out _) | (with_reducible exact d5.out _) | (with_reducible exact d6.out _) | (with_reducible exact d7.out _) | (with_reducible exact d8.out _)))
        exact wpQuiet_nil rfl
      intro gq w6 hg _
      have T6 := Lib.hid (T2.out.bel hg)
      clear hg
      simp only [Spread]
      go_wp2_with fail
      go_ret
      exact ⟨rfl, T6.out.2.2⟩
end Go.Proofs.Ytbfefpejcefnhaa
