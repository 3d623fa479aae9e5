/- InstShifts: the Go text returns true for any terms that are not greater than the second form's bound, and any integer. -/
import Derived.Test.YtbfefpejcefnhaaIb
import Derived.Deep.DeepCutAuto
namespace Go.Proofs.Ytbfefpejcefnhaa
open Go.RowKit
set_option linter.unusedVariables false

set_option maxRecDepth 100000 in
set_option maxHeartbeats 3000000 in
theorem lishifts_any (t a : Tm) (hF : Fits t) (hF2 : Fits a) (hs : size t ≤ 1048576) (hs2 : size a ≤ 1048576) (b : Int) (w : World) (v v2 : Value) (hA : At w t.kids v) (hM : At w a.kids v2) :
    Calls Try.prog 7 #[.agg #[.int .i64 t.k, .int .i64 t.n, v], .agg #[.int .i64 a.k, .int .i64 a.n, v2], .int .i64 b] w fun e w' => e = .returned (.bool true) ∧ Below w.heap.size w w' := by
  obtain ⟨a1, c1, rfl⟩ := hA.shape
  obtain ⟨a2, c2, rfl⟩ := hM.shape
  have HH := heavy2 t a hs hs2 w _ _ hA hM
  clear hA hM
  cases hh : heavyB [t, a] with
  | true =>
    rw [hh] at HH
    have HH := Lib.hid HH
    clear hh
    go_enter Try.func7, Try.ntmps7
    go_wp2_with fail
    refine HH.out.mono ?_
    rintro e w1 ⟨rfl, hb1⟩
    have T1 := Lib.hid hb1.ones.1
    clear hb1
    go_wp2_with fail
    go_ret
    exact ⟨rfl, T1.out.2.2⟩
  | false =>
    rw [hh] at HH
    have HH := Lib.hid HH
    clear hh
    have HWK := Lib.hid (fun w => wakes5_any w)
    have hrbb := mod_range b 50 (by omega) (by omega)
    go_enter Try.func7, Try.ntmps7
    go_wp2_with fail
    refine HH.out.mono ?_
    rintro e w1 ⟨rfl, hb1⟩
    have T1 := Lib.hid hb1.ones.1
    have A1 := Lib.hid hb1.ones.2
    clear HH hb1
    go_upto_region 4 with (fail)
    generalize wrap64 ((IntKind.u64.wrap b).tmod 50) = bb at *
    obtain ⟨bb0, bb1⟩ := hrbb
    have C1 := Lib.hid (fun W v va hA hM => c_inst (u := 0) hF hs (fits_one hF2) (size_one hs2) (by simp) rfl rfl W v va hA hM)
    have C2 := Lib.hid (fun W v hA => c_shift (b := bb) (f := 1) hF hs rfl rfl W v hA)
    have C3 := Lib.hid (fun W v hA => c_shift (b := bb) (f := 0) hF2 hs2 rfl rfl W v hA)
    by_cases hok : instE t [a] 0 = 0 ∧ shiftE t bb 1 = 0 ∧ shiftE a bb 0 = 0
    rotate_left
    · generalize instE t [a] 0 = e1 at *
      generalize shiftE t bb 1 = e2 at *
      generalize shiftE a bb 0 = e3 at *
      generalize instT t [a] 0 = x at *
      generalize shiftT t bb 1 = u at *
      generalize shiftT a bb 0 = y at *
      obtain ⟨⟨qT0, qT1, qT2⟩, _, _⟩ := T1.out
      obtain ⟨⟨qA0, qA1, qA2⟩, _, _⟩ := A1.out
      go_wp2_with fail
      clear qT0 qT1 qT2 qA0 qA1 qA2
      have hrow := row1 A1.out.2.1
      try simp only [World.size_alloc] at hrow
      refine (C1.out _ _ _ (T1.out.2.1.bel (below_al _ _) (Nat.le_refl _)) hrow).mono ?_
      clear hrow
      rintro e w102 ⟨a102, c102, rfl, hK2, hb2⟩
      obtain ⟨hO2, hg2⟩ := lit_tell T1.out.2.2 hb2 hK2
      have T2 := Lib.hid (T1.out.bel hg2)
      have A2 := Lib.hid (A1.out.bel hg2)
      clear hK2 hO2 hg2 hb2 T1 A1
      obtain ⟨⟨qT0, qT1, qT2⟩, _, _⟩ := T2.out
      go_wp2_with fail
      clear qT0 qT1 qT2
      refine (C2.out _ _ T2.out.2.1).mono ?_
      rintro e w103 ⟨a103, c103, rfl, hK3, hb3⟩
      obtain ⟨hO3, hg3⟩ := boxed_tell T2.out.2.2 hb3 hK3
      have T3 := Lib.hid (T2.out.bel hg3)
      have A3 := Lib.hid (A2.out.bel hg3)
      clear hK3 hO3 hg3 hb3 T2 A2
      obtain ⟨⟨qA0, qA1, qA2⟩, _, _⟩ := A3.out
      go_wp2_with fail
      clear qA0 qA1 qA2
      refine (C3.out _ _ A3.out.2.1).mono ?_
      rintro e w104 ⟨a104, c104, rfl, hK4, hb4⟩
      obtain ⟨hO4, hg4⟩ := boxed_tell T3.out.2.2 hb4 hK4
      have T4 := Lib.hid (T3.out.bel hg4)
      have A4 := Lib.hid (A3.out.bel hg4)
      clear hK4 hO4 hg4 hb4 T3 A3
      by_cases h1 : e1 = 0
      · subst h1
        by_cases h2 : e2 = 0
        · subst h2
          have q3 : (e3 != 0) = true := by simp; intro h; exact hok ⟨rfl, rfl, h⟩
          clear hok
          go_wp2_with fail
          refine (HWK.out _).mono ?_
          rintro e w105 ⟨rfl, hb5⟩
          have T5 := Lib.hid (T4.out.bel hb5)
          have A5 := Lib.hid (A4.out.bel hb5)
          clear hb5 T4 A4
          go_wp2_with fail
          go_ret
          exact ⟨rfl, T5.out.2.2⟩
        · have q2 : (e2 != 0) = true := by simpa using h2
          clear hok h2
          go_wp2_with fail
          refine (HWK.out _).mono ?_
          rintro e w105 ⟨rfl, hb5⟩
          have T5 := Lib.hid (T4.out.bel hb5)
          have A5 := Lib.hid (A4.out.bel hb5)
          clear hb5 T4 A4
          go_wp2_with fail
          go_ret
          exact ⟨rfl, T5.out.2.2⟩
      · have q1 : (e1 != 0) = true := by simpa using h1
        clear hok h1
        go_wp2_with fail
        refine (HWK.out _).mono ?_
        rintro e w105 ⟨rfl, hb5⟩
        have T5 := Lib.hid (T4.out.bel hb5)
        have A5 := Lib.hid (A4.out.bel hb5)
        clear hb5 T4 A4
        go_wp2_with fail
        go_ret
        exact ⟨rfl, T5.out.2.2⟩
    · obtain ⟨o1, o2, o3⟩ := hok
      obtain ⟨s1, s2, s3⟩ := shifts_ok o1 o2 o3
      have C1 := Lib.hid (fun W v va hA hM => c_inst (u := 0) hF hs (fits_one hF2) (size_one hs2) (by simp) o1 (instT_put o1) W v va hA hM)
      have C2 := Lib.hid (fun W v hA => c_shift hF hs o2 (shiftT_ok o2) W v hA)
      have C3 := Lib.hid (fun W v hA => c_shift hF2 hs2 o3 (shiftT_ok o3) W v hA)
      have C4 := Lib.hid (fun W v hA => c_shift (b := bb) (f := 0) (put_fits o1) (put_small o1) rfl rfl W v hA)
      have C5 := Lib.hid (fun W v va hA hM => c_inst (u := 0) (move_fits o2) (by rw [move_size]; exact hs) (fits_one (move_fits o3)) (size_one (by rw [move_size]; exact hs2)) (by simp) rfl rfl W v va hA hM)
      have HS := Lib.hid (fun (p : shiftE (putT [a] t 0) bb 0 = 0) (q : instE (moveT t bb 1) [moveT a bb 0] 0 = 0) => show shiftT (putT [a] t 0) bb 0 = instT (moveT t bb 1) [moveT a bb 0] 0 by rw [shiftT_ok p, instT_put q]; exact s3)
      have HZ := Lib.hid (fun (p : shiftE (putT [a] t 0) bb 0 = 0) => show size (shiftT (putT [a] t 0) bb 0) ≤ 1048576 by rw [shiftT_ok p, move_size]; exact put_small o1)
      generalize shiftT (putT [a] t 0) bb 0 = y at *
      generalize instT (moveT t bb 1) [moveT a bb 0] 0 = z at *
      generalize shiftE (putT [a] t 0) bb 0 = e4 at *
      generalize instE (moveT t bb 1) [moveT a bb 0] 0 = e5 at *
      generalize putT [a] t 0 = x at *
      generalize moveT t bb 1 = u at *
      generalize moveT a bb 0 = m at *
      clear o1 o2 o3 s3
      obtain ⟨⟨qT0, qT1, qT2⟩, _, _⟩ := T1.out
      obtain ⟨⟨qA0, qA1, qA2⟩, _, _⟩ := A1.out
      go_wp2_with fail
      clear qT0 qT1 qT2 qA0 qA1 qA2
      have hrow := row1 A1.out.2.1
      try simp only [World.size_alloc] at hrow
      refine (C1.out _ _ _ (T1.out.2.1.bel (below_al _ _) (Nat.le_refl _)) hrow).mono ?_
      clear hrow
      rintro e w102 ⟨a102, c102, rfl, hK2, hb2⟩
      obtain ⟨hO2, hg2⟩ := lit_tell T1.out.2.2 hb2 hK2
      have T2 := Lib.hid (T1.out.bel hg2)
      have A2 := Lib.hid (A1.out.bel hg2)
      have X2 := Lib.hid hO2
      clear hK2 hO2 hg2 hb2 T1 A1
      obtain ⟨⟨qT0, qT1, qT2⟩, _, _⟩ := T2.out
      go_wp2_with fail
      clear qT0 qT1 qT2
      refine (C2.out _ _ T2.out.2.1).mono ?_
      rintro e w103 ⟨a103, c103, rfl, hK3, hb3⟩
      obtain ⟨hO3, hg3⟩ := boxed_tell T2.out.2.2 hb3 hK3
      have T3 := Lib.hid (T2.out.bel hg3)
      have A3 := Lib.hid (A2.out.bel hg3)
      have X3 := Lib.hid (X2.out.bel hg3)
      have U3 := Lib.hid hO3
      clear hK3 hO3 hg3 hb3 T2 A2 X2
      obtain ⟨⟨qA0, qA1, qA2⟩, _, _⟩ := A3.out
      go_wp2_with fail
      clear qA0 qA1 qA2
      refine (C3.out _ _ A3.out.2.1).mono ?_
      rintro e w104 ⟨a104, c104, rfl, hK4, hb4⟩
      obtain ⟨hO4, hg4⟩ := boxed_tell T3.out.2.2 hb4 hK4
      have T4 := Lib.hid (T3.out.bel hg4)
      have X4 := Lib.hid (X3.out.bel hg4)
      have U4 := Lib.hid (U3.out.bel hg4)
      have M4 := Lib.hid hO4
      clear hK4 hO4 hg4 hb4 T3 A3 X3 U3
      obtain ⟨⟨qX0, qX1, qX2⟩, _, _⟩ := X4.out
      go_wp2_with fail
      clear qX0 qX1 qX2
      refine (C4.out _ _ X4.out.2.1).mono ?_
      rintro e w105 ⟨a105, c105, rfl, hK5, hb5⟩
      obtain ⟨hO5, hg5⟩ := boxed_tell T4.out.2.2 hb5 hK5
      have T5 := Lib.hid (T4.out.bel hg5)
      have U5 := Lib.hid (U4.out.bel hg5)
      have M5 := Lib.hid (M4.out.bel hg5)
      have Y5 := Lib.hid hO5
      clear hK5 hO5 hg5 hb5 T4 X4 U4 M4
      obtain ⟨⟨qU0, qU1, qU2⟩, _, _⟩ := U5.out
      obtain ⟨⟨qM0, qM1, qM2⟩, _, _⟩ := M5.out
      go_wp2_with fail
      clear qU0 qU1 qU2 qM0 qM1 qM2
      have hrow := row1 M5.out.2.1
      try simp only [World.size_alloc] at hrow
      refine (C5.out _ _ _ (U5.out.2.1.bel (below_al _ _) (Nat.le_refl _)) hrow).mono ?_
      clear hrow
      rintro e w106 ⟨a106, c106, rfl, hK6, hb6⟩
      obtain ⟨hO6, hg6⟩ := lit_tell T5.out.2.2 hb6 hK6
      have T6 := Lib.hid (T5.out.bel hg6)
      have Y6 := Lib.hid (Y5.out.bel hg6)
      have Z6 := Lib.hid hO6
      clear hK6 hO6 hg6 hb6 T5 U5 M5 Y5
      by_cases h4 : e4 = 0
      · subst h4
        by_cases h5 : e5 = 0
        · subst h5
          have K := Lib.hid (fun W va vb hA hB => c_same5 (HS.out rfl rfl) (HZ.out rfl) W va vb hA hB)
          clear s1 s2
          obtain ⟨⟨qY0, qY1, qY2⟩, _, _⟩ := Y6.out
          obtain ⟨⟨qZ0, qZ1, qZ2⟩, _, _⟩ := Z6.out
          go_wp2_with fail
          clear qY0 qY1 qY2 qZ0 qZ1 qZ2
          refine (K.out _ _ _ Y6.out.2.1 Z6.out.2.1).mono ?_
          rintro e w107 ⟨rfl, hb7⟩
          have T7 := Lib.hid (T6.out.bel hb7)
          have Y7 := Lib.hid (Y6.out.bel hb7)
          have Z7 := Lib.hid (Z6.out.bel hb7)
          clear hb7 T6 Y6 Z6
          go_wp2_with fail
          refine (HWK.out _).mono ?_
          rintro e w108 ⟨rfl, hb8⟩
          have T8 := Lib.hid (T7.out.bel hb8)
          have Y8 := Lib.hid (Y7.out.bel hb8)
          have Z8 := Lib.hid (Z7.out.bel hb8)
          clear hb8 T7 Y7 Z7
          go_wp2_with fail
          go_ret
          exact ⟨rfl, T8.out.2.2⟩
        · obtain rfl : e5 = 6 := s2.resolve_left h5
          clear s1 s2 h5
          go_wp2_with fail
          refine (HWK.out _).mono ?_
          rintro e w107 ⟨rfl, hb7⟩
          have T7 := Lib.hid (T6.out.bel hb7)
          have Y7 := Lib.hid (Y6.out.bel hb7)
          have Z7 := Lib.hid (Z6.out.bel hb7)
          clear hb7 T6 Y6 Z6
          go_wp2_with fail
          go_ret
          exact ⟨rfl, T7.out.2.2⟩
      · obtain rfl : e4 = 6 := s1.resolve_left h4
        clear s1 s2 h4
        go_wp2_with fail
        refine (HWK.out _).mono ?_
        rintro e w107 ⟨rfl, hb7⟩
        have T7 := Lib.hid (T6.out.bel hb7)
        have Y7 := Lib.hid (Y6.out.bel hb7)
        have Z7 := Lib.hid (Z6.out.bel hb7)
        clear hb7 T6 Y6 Z6
        go_wp2_with fail
        go_ret
        exact ⟨rfl, T7.out.2.2⟩
end Go.Proofs.Ytbfefpejcefnhaa
