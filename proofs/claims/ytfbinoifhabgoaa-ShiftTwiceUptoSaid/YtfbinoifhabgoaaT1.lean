/- ShiftTwice: the Go text returns true for any term that is not greater than the second form's bound, and any integers. -/
import Derived.Test.YtfbinoifhabgoaaT0
import Derived.Deep.DeepCutAuto
namespace Go.Proofs.Ytfbinoifhabgoaa
open Go.RowKit
set_option linter.unusedVariables false

set_option maxRecDepth 100000 in
set_option maxHeartbeats 3000000 in
theorem ltwice_any (t : Tm) (hF : Fits t) (hs : size t ≤ 1048576) (a b f : Int) (w : World) (v : Value) (hA : At w t.kids v) :
    Calls Try.prog 4 #[.agg #[.int .i64 t.k, .int .i64 t.n, v], .int .i64 a, .int .i64 b, .int .i64 f] w fun e w' => e = .returned (.bool true) ∧ Below w.heap.size w w' := by
  obtain ⟨a1, c1, rfl⟩ := hA.shape
  have HH := heavy1 t hs w _ hA
  clear hA
  cases hh : heavyB [t] with
  | true =>
    rw [hh] at HH
    have HH := Lib.hid HH
    clear hh
    go_enter Try.func4, Try.ntmps4
    go_wp2_with fail
    refine HH.out.mono ?_
    rintro e w1 ⟨rfl, hb1⟩
    have T1 := Lib.hid hb1
    clear hb1
    go_wp2_with fail
    go_ret
    exact ⟨rfl, T1.out.2.2⟩
  | false =>
    rw [hh] at HH
    have HH := Lib.hid HH
    clear hh
    have hr1 := mod_range a 200 (by omega) (by omega)
    have hr2 := mod_range b 200 (by omega) (by omega)
    have hr3 := mod_range f 20 (by omega) (by omega)
    go_enter Try.func4, Try.ntmps4
    go_wp2_with fail
    refine HH.out.mono ?_
    rintro e w1 ⟨rfl, hb1⟩
    have T1 := Lib.hid hb1
    clear HH hb1
    go_upto_region 4 with (fail)
    generalize wrap64 ((IntKind.u64.wrap a).tmod 200) = aa at *
    generalize wrap64 ((IntKind.u64.wrap b).tmod 200) = bb at *
    generalize wrap64 ((IntKind.u64.wrap f).tmod 20) = ff at *
    obtain ⟨b1, hb1⟩ : ∃ b1, 1 + bb = b1 := ⟨_, rfl⟩
    rw [hb1]
    obtain ⟨ha0, ha1⟩ := hr1
    obtain ⟨hb0, hb2⟩ := hr2
    obtain ⟨hf0, hf1⟩ := hr3
    have ia : inR aa := ⟨ha0, by omega⟩
    have ib : inR b1 := ⟨by omega, by omega⟩
    have iab : inR (aa + b1) := ⟨by omega, by omega⟩
    have iff_ : inR ff := ⟨hf0, by omega⟩
    have hab1 : 0 ≤ aa + b1 := by omega
    have hab2 : aa + b1 ≤ 1000 := by omega
    have hb11 : 1 ≤ b1 := by omega
    clear hb1
    have HWK := Lib.hid (fun w => wakes4_any w)
    have hbad := twice_bad (t := t) ia hb11 iab iff_
    by_cases hok : shiftE t aa ff = 0 ∧ shiftE t (aa + b1) ff = 0
    rotate_left
    · have hbad := hbad (by omega)
      have hne : shiftE t aa ff ≠ 0 ∨ shiftE t (aa + b1) ff ≠ 0 := by omega
      have HCK := Lib.hid (fun W v hA => c_check t hF hs W v hA)
      have C1 := Lib.hid (fun W v hA => c_shift (b := aa) (f := ff) hF hs rfl rfl W v hA)
      have C2 := Lib.hid (fun W v hA => c_shift (b := aa + b1) (f := ff) hF hs rfl rfl W v hA)
      generalize shiftT t aa ff = x at *
      generalize shiftT t (aa + b1) ff = z at *
      generalize shiftE t aa ff = e1 at *
      generalize shiftE t (aa + b1) ff = e2 at *
      generalize checkE t = ec at *
      clear hok ia ib iab iff_
      obtain ⟨⟨qT0, qT1, qT2⟩, _, _⟩ := T1.out
      go_wp2_with fail
      clear qT0 qT1 qT2
      refine (C1.out _ _ T1.out.2.1).mono ?_
      rintro e w102 ⟨a102, c102, rfl, hK2, hb2⟩
      obtain ⟨hO2, hg2⟩ := boxed_tell T1.out.2.2 hb2 hK2
      have T2 := Lib.hid (T1.out.bel hg2)
      clear hK2 hO2 hg2 hb2 T1
      obtain ⟨⟨qT0, qT1, qT2⟩, _, _⟩ := T2.out
      go_wp2_with fail
      clear qT0 qT1 qT2
      refine (C2.out _ _ T2.out.2.1).mono ?_
      rintro e w103 ⟨a103, c103, rfl, hK3, hb3⟩
      obtain ⟨hO3, hg3⟩ := boxed_tell T2.out.2.2 hb3 hK3
      have T3 := Lib.hid (T2.out.bel hg3)
      clear hK3 hO3 hg3 hb3 T2
      by_cases h6 : e1 = 6
      · subst h6
        go_wp2_with fail
        refine (HWK.out _).mono ?_
        rintro e w104 ⟨rfl, hb4⟩
        have T4 := Lib.hid (T3.out.bel hb4)
        clear hb4 T3
        go_wp2_with fail
        go_ret
        exact ⟨rfl, T4.out.2.2⟩
      · have q6 : (e1 == 6) = false := by simpa using h6
        by_cases h7 : e2 = 6
        · subst h7
          by_cases h0 : e1 = 0
          · subst h0
            go_wp2_with fail
            refine (HWK.out _).mono ?_
            rintro e w104 ⟨rfl, hb4⟩
            have T4 := Lib.hid (T3.out.bel hb4)
            clear hb4 T3
            go_wp2_with fail
            go_ret
            exact ⟨rfl, T4.out.2.2⟩
          · have q0 : (e1 != 0) = true := by simpa using h0
            clear h0 h6
            go_wp2_with fail
            refine (HWK.out _).mono ?_
            rintro e w104 ⟨rfl, hb4⟩
            have T4 := Lib.hid (T3.out.bel hb4)
            clear hb4 T3
            go_wp2_with fail
            go_ret
            exact ⟨rfl, T4.out.2.2⟩
        · have h8 : e1 = e2 ∧ ec = e1 := (hbad.resolve_left h6).resolve_left h7
          obtain ⟨rfl, rfl⟩ := h8
          have q0 : (ec != 0) = true := by simp; omega
          clear h6 h7 hbad hne
          obtain ⟨⟨qT0, qT1, qT2⟩, _, _⟩ := T3.out
          go_wp2_with fail
          clear qT0 qT1 qT2
          refine (HCK.out _ _ T3.out.2.1).mono ?_
          rintro e w104 ⟨rfl, hb4⟩
          have T4 := Lib.hid (T3.out.bel hb4)
          clear hb4 T3
          go_wp2_with fail
          refine (HWK.out _).mono ?_
          rintro e w105 ⟨rfl, hb5⟩
          have T5 := Lib.hid (T4.out.bel hb5)
          clear hb5 T4
          go_wp2_with fail
          go_ret
          exact ⟨rfl, T5.out.2.2⟩
    · obtain ⟨o1, o2⟩ := hok
      obtain ⟨r1, r2, r3, r4, r5, r6, r7⟩ := twice_ok (t := t) ia hb11 ib iab iff_ o2
      have hx := move_size t aa ff
      have hz := move_size t (aa + b1) ff
      have hp := move_size t 1 ff
      have C1 := Lib.hid (fun W v hA => c_shift hF hs o1 (shiftT_ok o1) W v hA)
      have C2 := Lib.hid (fun W v hA => c_shift hF hs o2 (shiftT_ok o2) W v hA)
      have C3 := Lib.hid (fun W v hA => c_shift (move_fits o1) (by omega) r1 ((shiftT_ok r1).trans r2) W v hA)
      have C4 := Lib.hid (fun W v hA => c_shift hF hs r3 ((shiftT_ok r3).trans r4) W v hA)
      have C5 := Lib.hid (fun W v hA => c_shift hF hs r5 (shiftT_ok r5) W v hA)
      have C6 := Lib.hid (fun W v hA => c_lower (move_fits r5) (by omega) r6 (by rw [lowerT, r6, if_pos rfl, r7] : lowerT (moveT t 1 ff) ff = t) W v hA)
      have K1 := Lib.hid (fun W va vb hA hB => c_same (t := moveT t (aa + b1) ff) (by omega) W va vb hA hB)
      have K2 := Lib.hid (fun W va vb hA hB => c_same (t := t) hs W va vb hA hB)
      generalize moveT t aa ff = x at *
      generalize moveT t (aa + b1) ff = z at *
      generalize moveT t 1 ff = p at *
      clear hbad o1 o2 r1 r2 r3 r4 r5 r6 r7 hx hz hp ia ib iab iff_
      obtain ⟨⟨qT0, qT1, qT2⟩, _, _⟩ := T1.out
      go_wp2_with fail
      clear qT0 qT1 qT2
      refine (C1.out _ _ T1.out.2.1).mono ?_
      rintro e w102 ⟨a102, c102, rfl, hK2, hb2⟩
      obtain ⟨hO2, hg2⟩ := boxed_tell T1.out.2.2 hb2 hK2
      have T2 := Lib.hid (T1.out.bel hg2)
      have X2 := Lib.hid hO2
      clear hK2 hO2 hg2 hb2 T1
      obtain ⟨⟨qT0, qT1, qT2⟩, _, _⟩ := T2.out
      go_wp2_with fail
      clear qT0 qT1 qT2
      refine (C2.out _ _ T2.out.2.1).mono ?_
      rintro e w103 ⟨a103, c103, rfl, hK3, hb3⟩
      obtain ⟨hO3, hg3⟩ := boxed_tell T2.out.2.2 hb3 hK3
      have T3 := Lib.hid (T2.out.bel hg3)
      have X3 := Lib.hid (X2.out.bel hg3)
      have Z3 := Lib.hid hO3
      clear hK3 hO3 hg3 hb3 T2 X2
      obtain ⟨⟨qX0, qX1, qX2⟩, _, _⟩ := X3.out
      go_wp2_with fail
      clear qX0 qX1 qX2
      refine (C3.out _ _ X3.out.2.1).mono ?_
      rintro e w104 ⟨a104, c104, rfl, hK4, hb4⟩
      obtain ⟨hO4, hg4⟩ := boxed_tell T3.out.2.2 hb4 hK4
      have T4 := Lib.hid (T3.out.bel hg4)
      have Z4 := Lib.hid (Z3.out.bel hg4)
      have Y4 := Lib.hid hO4
      clear hK4 hO4 hg4 hb4 T3 X3 Z3
      obtain ⟨⟨qT0, qT1, qT2⟩, _, _⟩ := T4.out
      go_wp2_with fail
      clear qT0 qT1 qT2
      refine (C4.out _ _ T4.out.2.1).mono ?_
      rintro e w105 ⟨a105, c105, rfl, hK5, hb5⟩
      obtain ⟨hO5, hg5⟩ := boxed_tell T4.out.2.2 hb5 hK5
      have T5 := Lib.hid (T4.out.bel hg5)
      have Z5 := Lib.hid (Z4.out.bel hg5)
      have Y5 := Lib.hid (Y4.out.bel hg5)
      have O5 := Lib.hid hO5
      clear hK5 hO5 hg5 hb5 T4 Z4 Y4
      obtain ⟨⟨qT0, qT1, qT2⟩, _, _⟩ := T5.out
      go_wp2_with fail
      clear qT0 qT1 qT2
      refine (C5.out _ _ T5.out.2.1).mono ?_
      rintro e w106 ⟨a106, c106, rfl, hK6, hb6⟩
      obtain ⟨hO6, hg6⟩ := boxed_tell T5.out.2.2 hb6 hK6
      have T6 := Lib.hid (T5.out.bel hg6)
      have Z6 := Lib.hid (Z5.out.bel hg6)
      have Y6 := Lib.hid (Y5.out.bel hg6)
      have O6 := Lib.hid (O5.out.bel hg6)
      have P6 := Lib.hid hO6
      clear hK6 hO6 hg6 hb6 T5 Z5 Y5 O5
      obtain ⟨⟨qP0, qP1, qP2⟩, _, _⟩ := P6.out
      go_wp2_with fail
      clear qP0 qP1 qP2
      refine (C6.out _ _ P6.out.2.1).mono ?_
      rintro e w107 ⟨a107, c107, rfl, hK7, hb7⟩
      obtain ⟨hO7, hg7⟩ := boxed_tell T6.out.2.2 hb7 hK7
      have T7 := Lib.hid (T6.out.bel hg7)
      have Z7 := Lib.hid (Z6.out.bel hg7)
      have Y7 := Lib.hid (Y6.out.bel hg7)
      have O7 := Lib.hid (O6.out.bel hg7)
      have Q7 := Lib.hid hO7
      clear hK7 hO7 hg7 hb7 T6 Z6 Y6 O6 P6
      obtain ⟨⟨qY0, qY1, qY2⟩, _, _⟩ := Y7.out
      obtain ⟨⟨qZ0, qZ1, qZ2⟩, _, _⟩ := Z7.out
      go_wp2_with fail
      clear qY0 qY1 qY2 qZ0 qZ1 qZ2
      refine (K1.out _ _ _ Y7.out.2.1 Z7.out.2.1).mono ?_
      rintro e w108 ⟨rfl, hb8⟩
      have T8 := Lib.hid (T7.out.bel hb8)
      have Z8 := Lib.hid (Z7.out.bel hb8)
      have Y8 := Lib.hid (Y7.out.bel hb8)
      have O8 := Lib.hid (O7.out.bel hb8)
      have Q8 := Lib.hid (Q7.out.bel hb8)
      clear hb8 T7 Z7 Y7 O7 Q7
      obtain ⟨⟨qO0, qO1, qO2⟩, _, _⟩ := O8.out
      obtain ⟨⟨qT0, qT1, qT2⟩, _, _⟩ := T8.out
      go_wp2_with fail
      clear qO0 qO1 qO2 qT0 qT1 qT2
      refine (K2.out _ _ _ O8.out.2.1 T8.out.2.1).mono ?_
      rintro e w109 ⟨rfl, hb9⟩
      have T9 := Lib.hid (T8.out.bel hb9)
      have Z9 := Lib.hid (Z8.out.bel hb9)
      have Y9 := Lib.hid (Y8.out.bel hb9)
      have O9 := Lib.hid (O8.out.bel hb9)
      have Q9 := Lib.hid (Q8.out.bel hb9)
      clear hb9 T8 Z8 Y8 O8 Q8
      obtain ⟨⟨qQ0, qQ1, qQ2⟩, _, _⟩ := Q9.out
      obtain ⟨⟨qT0, qT1, qT2⟩, _, _⟩ := T9.out
      go_wp2_with fail
      clear qQ0 qQ1 qQ2 qT0 qT1 qT2
      refine (K2.out _ _ _ Q9.out.2.1 T9.out.2.1).mono ?_
      rintro e w110 ⟨rfl, hb10⟩
      have T10 := Lib.hid (T9.out.bel hb10)
      have Z10 := Lib.hid (Z9.out.bel hb10)
      have Y10 := Lib.hid (Y9.out.bel hb10)
      have O10 := Lib.hid (O9.out.bel hb10)
      have Q10 := Lib.hid (Q9.out.bel hb10)
      clear hb10 T9 Z9 Y9 O9 Q9
      go_wp2_with fail
      refine (HWK.out _).mono ?_
      rintro e w111 ⟨rfl, hb11⟩
      have T11 := Lib.hid (T10.out.bel hb11)
      have Z11 := Lib.hid (Z10.out.bel hb11)
      have Y11 := Lib.hid (Y10.out.bel hb11)
      have O11 := Lib.hid (O10.out.bel hb11)
      have Q11 := Lib.hid (Q10.out.bel hb11)
      clear hb11 T10 Z10 Y10 O10 Q10
      go_wp2_with fail
      go_ret
      exact ⟨rfl, T11.out.2.2⟩
end Go.Proofs.Ytfbinoifhabgoaa
