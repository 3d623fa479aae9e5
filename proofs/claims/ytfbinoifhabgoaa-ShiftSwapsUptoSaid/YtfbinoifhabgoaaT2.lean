/- ShiftSwaps: the Go text returns true for any term that is not greater than the second form's bound, and any integers. -/
import Derived.Test.YtfbinoifhabgoaaT0
import Derived.Deep.DeepCutAuto
namespace Go.Proofs.Ytfbinoifhabgoaa
open Go.RowKit
set_option linter.unusedVariables false

set_option maxRecDepth 100000 in
set_option maxHeartbeats 3000000 in
theorem lswaps_any (t : Tm) (hF : Fits t) (hs : size t ≤ 1048576) (a b i k : Int) (w : World) (v : Value) (hA : At w t.kids v) :
    Calls Try.prog 7 #[.agg #[.int .i64 t.k, .int .i64 t.n, v], .int .i64 a, .int .i64 b, .int .i64 i, .int .i64 k] w fun e w' => e = .returned (.bool true) ∧ Below w.heap.size w w' := by
  obtain ⟨a1, c1, rfl⟩ := hA.shape
  have HH := heavy1 t hs w _ hA
  clear hA
  cases hh : heavyB [t] with
  | true =>
    rw [hh] at HH
    have HH := Lib.hid HH
    clear hh
    go_enter Try.func7, Try.ntmps7
    go_wp2_with fail
    refine HH.out.mono ?_
    rintro e w1 ⟨rfl, hb1⟩
    have T1 := Lib.hid hb1
    clear hb1
    go_wp2_with fail
    go_ret
    exact ⟨rfl, T1.out.2.2⟩
  | false =>
    rw [hh] at HH
    have HH := Lib.hid HH
    clear hh
    have hraa := mod_range a 30 (by omega) (by omega)
    have hrbb := mod_range b 30 (by omega) (by omega)
    have hrii := mod_range i 10 (by omega) (by omega)
    have hrkk := mod_range k 10 (by omega) (by omega)
    go_enter Try.func7, Try.ntmps7
    go_wp2_with fail
    refine HH.out.mono ?_
    rintro e w1 ⟨rfl, hb1⟩
    have T1 := Lib.hid hb1
    clear HH hb1
    go_upto_region 4 with (fail)
    generalize wrap64 ((IntKind.u64.wrap a).tmod 30) = aa at *
    generalize wrap64 ((IntKind.u64.wrap b).tmod 30) = bb at *
    generalize wrap64 ((IntKind.u64.wrap i).tmod 10) = ii at *
    generalize wrap64 ((IntKind.u64.wrap k).tmod 10) = kk at *
    obtain ⟨aa0, aa1⟩ := hraa
    obtain ⟨bb0, bb1⟩ := hrbb
    obtain ⟨ii0, ii1⟩ := hrii
    obtain ⟨kk0, kk1⟩ := hrkk
    have ia : inR aa := ⟨aa0, by omega⟩
    have ib : inR bb := ⟨bb0, by omega⟩
    have hik0 : 0 ≤ ii + kk := by omega
    have hik1 : ii + kk ≤ 1000 := by omega
    have hika0 : 0 ≤ ii + kk + aa := by omega
    have hika1 : ii + kk + aa ≤ 1000 := by omega
    have HWK := Lib.hid (fun w => wakes4_any w)
    by_cases hok : shiftE t aa ii = 0 ∧ shiftE t bb (ii + kk) = 0
    rotate_left
    · have hne : shiftE t aa ii ≠ 0 ∨ shiftE t bb (ii + kk) ≠ 0 := by omega
      have C1 := Lib.hid (fun W v hA => c_shift (b := aa) (f := ii) hF hs rfl rfl W v hA)
      have C2 := Lib.hid (fun W v hA => c_shift (b := bb) (f := ii + kk) hF hs rfl rfl W v hA)
      generalize shiftT t aa ii = x at *
      generalize shiftT t bb (ii + kk) = z at *
      generalize shiftE t aa ii = e1 at *
      generalize shiftE t bb (ii + kk) = e2 at *
      clear hok ia ib
      obtain ⟨⟨qT0, qT1, qT2⟩, _, _⟩ := T1.out
      go_wp2_with fail
      clear qT0 qT1 qT2
      refine (C1.out _ _ T1.out.2.1).mono ?_
      rintro e w102 ⟨a102, c102, rfl, hK2, hb2⟩
      obtain ⟨hO2, hg2⟩ := boxed_tell T1.out.2.2 hb2 hK2
      have T2 := Lib.hid (T1.out.bel hg2)
      clear hK2 hO2 hg2 hb2 T1
      obtain ⟨⟨qT0, qT1, qT2⟩, _, _⟩ := T2.out
      go_wp2_with fail
      clear qT0 qT1 qT2
      refine (C2.out _ _ T2.out.2.1).mono ?_
      rintro e w103 ⟨a103, c103, rfl, hK3, hb3⟩
      obtain ⟨hO3, hg3⟩ := boxed_tell T2.out.2.2 hb3 hK3
      have T3 := Lib.hid (T2.out.bel hg3)
      clear hK3 hO3 hg3 hb3 T2
      by_cases h0 : e1 = 0
      · subst h0
        have q0 : (e2 != 0) = true := by simp; omega
        clear hne
        go_wp2_with fail
        refine (HWK.out _).mono ?_
        rintro e w104 ⟨rfl, hb4⟩
        have T4 := Lib.hid (T3.out.bel hb4)
        clear hb4 T3
        go_wp2_with fail
        go_ret
        exact ⟨rfl, T4.out.2.2⟩
      · have q0 : (e1 != 0) = true := by simpa using h0
        clear hne h0
        go_wp2_with fail
        refine (HWK.out _).mono ?_
        rintro e w104 ⟨rfl, hb4⟩
        have T4 := Lib.hid (T3.out.bel hb4)
        clear hb4 T3
        go_wp2_with fail
        go_ret
        exact ⟨rfl, T4.out.2.2⟩
    · obtain ⟨o1, o2⟩ := hok
      obtain ⟨r1, r2, r3⟩ := swap_ok ia ib kk0 o1 o2 ⟨hika0, by omega⟩
      have hx := move_size t aa ii
      have hz := move_size t bb (ii + kk)
      have hp := move_size (moveT t bb (ii + kk)) aa ii
      have C1 := Lib.hid (fun W v hA => c_shift hF hs o1 (shiftT_ok o1) W v hA)
      have C2 := Lib.hid (fun W v hA => c_shift hF hs o2 (shiftT_ok o2) W v hA)
      by_cases h0 : shiftE (moveT t aa ii) bb (ii + kk + aa) = 0
      · have h1 := r1.symm.trans h0
        have C3 := Lib.hid (fun W v hA => c_shift (move_fits o1) (by omega) h0 ((shiftT_ok h0).trans r3) W v hA)
        have C4 := Lib.hid (fun W v hA => c_shift (move_fits o2) (by omega) h1 (shiftT_ok h1) W v hA)
        have K1 := Lib.hid (fun W va vb hA hB => c_same (t := moveT (moveT t bb (ii + kk)) aa ii) (by omega) W va vb hA hB)
        generalize moveT (moveT t bb (ii + kk)) aa ii = p at *
        generalize moveT t aa ii = x at *
        generalize moveT t bb (ii + kk) = z at *
        clear o1 o2 r1 r2 r3 hx hz hp ia ib h0 h1
        obtain ⟨⟨qT0, qT1, qT2⟩, _, _⟩ := T1.out
        go_wp2_with fail
        clear qT0 qT1 qT2
        refine (C1.out _ _ T1.out.2.1).mono ?_
        rintro e w102 ⟨a102, c102, rfl, hK2, hb2⟩
        obtain ⟨hO2, hg2⟩ := boxed_tell T1.out.2.2 hb2 hK2
        have T2 := Lib.hid (T1.out.bel hg2)
        have X2 := Lib.hid hO2
        clear hK2 hO2 hg2 hb2 T1
        obtain ⟨⟨qT0, qT1, qT2⟩, _, _⟩ := T2.out
        go_wp2_with fail
        clear qT0 qT1 qT2
        refine (C2.out _ _ T2.out.2.1).mono ?_
        rintro e w103 ⟨a103, c103, rfl, hK3, hb3⟩
        obtain ⟨hO3, hg3⟩ := boxed_tell T2.out.2.2 hb3 hK3
        have T3 := Lib.hid (T2.out.bel hg3)
        have X3 := Lib.hid (X2.out.bel hg3)
        have Z3 := Lib.hid hO3
        clear hK3 hO3 hg3 hb3 T2 X2
        obtain ⟨⟨qX0, qX1, qX2⟩, _, _⟩ := X3.out
        go_wp2_with fail
        clear qX0 qX1 qX2
        refine (C3.out _ _ X3.out.2.1).mono ?_
        rintro e w104 ⟨a104, c104, rfl, hK4, hb4⟩
        obtain ⟨hO4, hg4⟩ := boxed_tell T3.out.2.2 hb4 hK4
        have T4 := Lib.hid (T3.out.bel hg4)
        have Z4 := Lib.hid (Z3.out.bel hg4)
        have P4 := Lib.hid hO4
        clear hK4 hO4 hg4 hb4 T3 X3 Z3
        obtain ⟨⟨qZ0, qZ1, qZ2⟩, _, _⟩ := Z4.out
        go_wp2_with fail
        clear qZ0 qZ1 qZ2
        refine (C4.out _ _ Z4.out.2.1).mono ?_
        rintro e w105 ⟨a105, c105, rfl, hK5, hb5⟩
        obtain ⟨hO5, hg5⟩ := boxed_tell T4.out.2.2 hb5 hK5
        have T5 := Lib.hid (T4.out.bel hg5)
        have P5 := Lib.hid (P4.out.bel hg5)
        have Q5 := Lib.hid hO5
        clear hK5 hO5 hg5 hb5 T4 Z4 P4
        obtain ⟨⟨qP0, qP1, qP2⟩, _, _⟩ := P5.out
        obtain ⟨⟨qQ0, qQ1, qQ2⟩, _, _⟩ := Q5.out
        go_wp2_with fail
        clear qP0 qP1 qP2 qQ0 qQ1 qQ2
        refine (K1.out _ _ _ P5.out.2.1 Q5.out.2.1).mono ?_
        rintro e w106 ⟨rfl, hb6⟩
        have T6 := Lib.hid (T5.out.bel hb6)
        have P6 := Lib.hid (P5.out.bel hb6)
        have Q6 := Lib.hid (Q5.out.bel hb6)
        clear hb6 T5 P5 Q5
        go_wp2_with fail
        refine (HWK.out _).mono ?_
        rintro e w107 ⟨rfl, hb7⟩
        have T7 := Lib.hid (T6.out.bel hb7)
        have P7 := Lib.hid (P6.out.bel hb7)
        have Q7 := Lib.hid (Q6.out.bel hb7)
        clear hb7 T6 P6 Q6
        go_wp2_with fail
        go_ret
        exact ⟨rfl, T7.out.2.2⟩
      · have h6 := r2.resolve_left h0
        have h1 := r1.symm.trans h6
        have C3 := Lib.hid (fun W v hA => c_shift (move_fits o1) (by omega) h6 rfl W v hA)
        have C4 := Lib.hid (fun W v hA => c_shift (move_fits o2) (by omega) h1 rfl W v hA)
        generalize shiftT (moveT t aa ii) bb (ii + kk + aa) = p at *
        generalize shiftT (moveT t bb (ii + kk)) aa ii = q at *
        generalize moveT t aa ii = x at *
        generalize moveT t bb (ii + kk) = z at *
        clear o1 o2 r1 r2 r3 hx hz hp ia ib h0 h1 h6
        obtain ⟨⟨qT0, qT1, qT2⟩, _, _⟩ := T1.out
        go_wp2_with fail
        clear qT0 qT1 qT2
        refine (C1.out _ _ T1.out.2.1).mono ?_
        rintro e w102 ⟨a102, c102, rfl, hK2, hb2⟩
        obtain ⟨hO2, hg2⟩ := boxed_tell T1.out.2.2 hb2 hK2
        have T2 := Lib.hid (T1.out.bel hg2)
        have X2 := Lib.hid hO2
        clear hK2 hO2 hg2 hb2 T1
        obtain ⟨⟨qT0, qT1, qT2⟩, _, _⟩ := T2.out
        go_wp2_with fail
        clear qT0 qT1 qT2
        refine (C2.out _ _ T2.out.2.1).mono ?_
        rintro e w103 ⟨a103, c103, rfl, hK3, hb3⟩
        obtain ⟨hO3, hg3⟩ := boxed_tell T2.out.2.2 hb3 hK3
        have T3 := Lib.hid (T2.out.bel hg3)
        have X3 := Lib.hid (X2.out.bel hg3)
        have Z3 := Lib.hid hO3
        clear hK3 hO3 hg3 hb3 T2 X2
        obtain ⟨⟨qX0, qX1, qX2⟩, _, _⟩ := X3.out
        go_wp2_with fail
        clear qX0 qX1 qX2
        refine (C3.out _ _ X3.out.2.1).mono ?_
        rintro e w104 ⟨a104, c104, rfl, hK4, hb4⟩
        obtain ⟨hO4, hg4⟩ := boxed_tell T3.out.2.2 hb4 hK4
        have T4 := Lib.hid (T3.out.bel hg4)
        have Z4 := Lib.hid (Z3.out.bel hg4)
        clear hK4 hO4 hg4 hb4 T3 X3 Z3
        obtain ⟨⟨qZ0, qZ1, qZ2⟩, _, _⟩ := Z4.out
        go_wp2_with fail
        clear qZ0 qZ1 qZ2
        refine (C4.out _ _ Z4.out.2.1).mono ?_
        rintro e w105 ⟨a105, c105, rfl, hK5, hb5⟩
        obtain ⟨hO5, hg5⟩ := boxed_tell T4.out.2.2 hb5 hK5
        have T5 := Lib.hid (T4.out.bel hg5)
        clear hK5 hO5 hg5 hb5 T4 Z4
        go_wp2_with fail
        refine (HWK.out _).mono ?_
        rintro e w106 ⟨rfl, hb6⟩
        have T6 := Lib.hid (T5.out.bel hb6)
        clear hb6 T5
        go_wp2_with fail
        go_ret
        exact ⟨rfl, T6.out.2.2⟩
end Go.Proofs.Ytfbinoifhabgoaa
