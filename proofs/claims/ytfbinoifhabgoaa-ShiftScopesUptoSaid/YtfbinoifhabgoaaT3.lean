/- ShiftScopes: the Go text returns true for any term that is not greater than the second form's bound, and any integers. -/
import Derived.Test.YtfbinoifhabgoaaT0
import Derived.Deep.DeepCutAuto
namespace Go.Proofs.Ytfbinoifhabgoaa
open Go.RowKit
set_option linter.unusedVariables false

set_option maxRecDepth 100000 in
set_option maxHeartbeats 3000000 in
theorem lscopes_any (t : Tm) (hF : Fits t) (hs : size t ≤ 1048576) (vars b f : Int) (w : World) (v : Value) (hA : At w t.kids v) :
    Calls Try.prog 6 #[.agg #[.int .i64 t.k, .int .i64 t.n, v], .int .i64 vars, .int .i64 b, .int .i64 f] w fun e w' => e = .returned (.bool true) ∧ Below w.heap.size w w' := by
  obtain ⟨a1, c1, rfl⟩ := hA.shape
  have HH := heavy1 t hs w _ hA
  clear hA
  cases hh : heavyB [t] with
  | true =>
    rw [hh] at HH
    have HH := Lib.hid HH
    clear hh
    go_enter Try.func6, Try.ntmps6
    go_wp2_with fail
    refine HH.out.mono ?_
    rintro e w1 ⟨rfl, hb1⟩
    have T1 := Lib.hid hb1
    clear hb1
    go_wp2_with fail
    go_ret
    exact ⟨rfl, T1.out.2.2⟩
  | false =>
    rw [hh] at HH
    have HH := Lib.hid HH
    clear hh
    have hrvv := mod_range vars 30 (by omega) (by omega)
    have hrbb := mod_range b 30 (by omega) (by omega)
    have hrff := mod_range f 30 (by omega) (by omega)
    go_enter Try.func6, Try.ntmps6
    go_wp2_with fail
    refine HH.out.mono ?_
    rintro e w1 ⟨rfl, hb1⟩
    have T1 := Lib.hid hb1
    clear HH hb1
    go_upto_region 4 with (fail)
    generalize wrap64 ((IntKind.u64.wrap vars).tmod 30) = vv at *
    generalize wrap64 ((IntKind.u64.wrap b).tmod 30) = bb at *
    generalize wrap64 ((IntKind.u64.wrap f).tmod 30) = ff at *
    obtain ⟨vv0, vv1⟩ := hrvv
    obtain ⟨bb0, bb1⟩ := hrbb
    obtain ⟨ff0, ff1⟩ := hrff
    have hv0 : 0 ≤ vv + bb := by omega
    have hv1 : vv + bb ≤ 1000 := by omega
    have HWK := Lib.hid (fun w => wakes4_any w)
    have C0 := Lib.hid (fun W v hA => c_scope t hF hs vv 65536 W v hA)
    cases hsc : scopeT t vv 65536 with
    | false =>
      rw [hsc] at C0
      obtain ⟨⟨qT0, qT1, qT2⟩, _, _⟩ := T1.out
      go_wp2_with fail
      clear qT0 qT1 qT2
      refine (C0.out _ _ T1.out.2.1).mono ?_
      rintro e w102 ⟨rfl, hb2⟩
      have T2 := Lib.hid (T1.out.bel hb2)
      clear hb2 T1
      go_wp2_with fail
      refine (HWK.out _).mono ?_
      rintro e w103 ⟨rfl, hb3⟩
      have T3 := Lib.hid (T2.out.bel hb3)
      clear hb3 T2
      go_wp2_with fail
      go_ret
      exact ⟨rfl, T3.out.2.2⟩
    | true =>
      rw [hsc] at C0
      obtain ⟨o1, o2, o3⟩ := scopes_ok (t := t) (b := bb) (f := ff) ⟨bb0, by omega⟩ (by omega) (by omega) ⟨ff0, by omega⟩ hsc
      have hx := move_size t bb ff
      have C1 := Lib.hid (fun W v hA => c_shift hF hs o1 (shiftT_ok o1) W v hA)
      have C2 := Lib.hid (fun W v hA => c_scope (moveT t bb ff) (move_fits o1) (by omega) (vv + bb) 65536 W v hA)
      rw [o2] at C2
      by_cases hvf : vv ≤ ff
      · have o4 := o3 hvf
        rw [o4] at C1 C2
        have K1 := Lib.hid (fun W va vb hA hB => c_same (t := t) hs W va vb hA hB)
        have hd : decide (ff < vv) = false := by simp; omega
        clear o1 o2 o3 o4 hx hsc hvf
        obtain ⟨⟨qT0, qT1, qT2⟩, _, _⟩ := T1.out
        go_wp2_with fail
        clear qT0 qT1 qT2
        refine (C0.out _ _ T1.out.2.1).mono ?_
        rintro e w102 ⟨rfl, hb2⟩
        have T2 := Lib.hid (T1.out.bel hb2)
        clear hb2 T1
        obtain ⟨⟨qT0, qT1, qT2⟩, _, _⟩ := T2.out
        go_wp2_with fail
        clear qT0 qT1 qT2
        refine (C1.out _ _ T2.out.2.1).mono ?_
        rintro e w103 ⟨a103, c103, rfl, hK3, hb3⟩
        obtain ⟨hO3, hg3⟩ := boxed_tell T2.out.2.2 hb3 hK3
        have T3 := Lib.hid (T2.out.bel hg3)
        have X3 := Lib.hid hO3
        clear hK3 hO3 hg3 hb3 T2
        obtain ⟨⟨qX0, qX1, qX2⟩, _, _⟩ := X3.out
        go_wp2_with fail
        clear qX0 qX1 qX2
        refine (C2.out _ _ X3.out.2.1).mono ?_
        rintro e w104 ⟨rfl, hb4⟩
        have T4 := Lib.hid (T3.out.bel hb4)
        have X4 := Lib.hid (X3.out.bel hb4)
        clear hb4 T3 X3
        obtain ⟨⟨qX0, qX1, qX2⟩, _, _⟩ := X4.out
        obtain ⟨⟨qT0, qT1, qT2⟩, _, _⟩ := T4.out
        go_wp2_with fail
        clear qX0 qX1 qX2 qT0 qT1 qT2
        refine (K1.out _ _ _ X4.out.2.1 T4.out.2.1).mono ?_
        rintro e w105 ⟨rfl, hb5⟩
        have T5 := Lib.hid (T4.out.bel hb5)
        have X5 := Lib.hid (X4.out.bel hb5)
        clear hb5 T4 X4
        go_wp2_with fail
        refine (HWK.out _).mono ?_
        rintro e w106 ⟨rfl, hb6⟩
        have T6 := Lib.hid (T5.out.bel hb6)
        have X6 := Lib.hid (X5.out.bel hb6)
        clear hb6 T5 X5
        go_wp2_with fail
        go_ret
        exact ⟨rfl, T6.out.2.2⟩
      · have hd : ff < vv := by omega
        generalize moveT t bb ff = x at *
        clear o1 o2 o3 hx hsc hvf
        obtain ⟨⟨qT0, qT1, qT2⟩, _, _⟩ := T1.out
        go_wp2_with fail
        clear qT0 qT1 qT2
        refine (C0.out _ _ T1.out.2.1).mono ?_
        rintro e w102 ⟨rfl, hb2⟩
        have T2 := Lib.hid (T1.out.bel hb2)
        clear hb2 T1
        obtain ⟨⟨qT0, qT1, qT2⟩, _, _⟩ := T2.out
        go_wp2_with fail
        clear qT0 qT1 qT2
        refine (C1.out _ _ T2.out.2.1).mono ?_
        rintro e w103 ⟨a103, c103, rfl, hK3, hb3⟩
        obtain ⟨hO3, hg3⟩ := boxed_tell T2.out.2.2 hb3 hK3
        have T3 := Lib.hid (T2.out.bel hg3)
        have X3 := Lib.hid hO3
        clear hK3 hO3 hg3 hb3 T2
        obtain ⟨⟨qX0, qX1, qX2⟩, _, _⟩ := X3.out
        go_wp2_with fail
        clear qX0 qX1 qX2
        refine (C2.out _ _ X3.out.2.1).mono ?_
        rintro e w104 ⟨rfl, hb4⟩
        have T4 := Lib.hid (T3.out.bel hb4)
        have X4 := Lib.hid (X3.out.bel hb4)
        clear hb4 T3 X3
        go_wp2_with fail
        refine (HWK.out _).mono ?_
        rintro e w105 ⟨rfl, hb5⟩
        have T5 := Lib.hid (T4.out.bel hb5)
        have X5 := Lib.hid (X4.out.bel hb5)
        clear hb5 T4 X4
        go_wp2_with fail
        go_ret
        exact ⟨rfl, T5.out.2.2⟩
end Go.Proofs.Ytfbinoifhabgoaa
