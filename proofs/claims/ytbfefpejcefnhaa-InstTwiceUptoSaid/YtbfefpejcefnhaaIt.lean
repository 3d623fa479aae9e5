/- InstTwice: the Go text returns true for any terms that are not greater than the second form's bound. -/
import Derived.Test.YtbfefpejcefnhaaIh
import Derived.Deep.DeepCutAuto
namespace Go.Proofs.Ytbfefpejcefnhaa
open Go.RowKit
set_option linter.unusedVariables false

set_option maxRecDepth 100000 in
set_option maxHeartbeats 4000000 in
theorem litwice_any (t a b : Tm) (hF : Fits t) (hF2 : Fits a) (hF3 : Fits b) (hs : size t ≤ 1048576) (hs2 : size a ≤ 1048576) (hs3 : size b ≤ 1048576) (w : World) (v v2 v3 : Value) (hA : At w t.kids v) (hM : At w a.kids v2) (hR : At w b.kids v3) :
    Calls Try.prog 9 #[.agg #[.int .i64 t.k, .int .i64 t.n, v], .agg #[.int .i64 a.k, .int .i64 a.n, v2], .agg #[.int .i64 b.k, .int .i64 b.n, v3]] w fun e w' => e = .returned (.bool true) ∧ Below w.heap.size w w' := by
  obtain ⟨a1, c1, rfl⟩ := hA.shape
  obtain ⟨a2, c2, rfl⟩ := hM.shape
  obtain ⟨a3, c3, rfl⟩ := hR.shape
  have HH := heavy3 t a b hs hs2 hs3 w _ _ _ hA hM hR
  clear hA hM hR
  cases hh : heavyB [t, a, b] with
  | true =>
    rw [hh] at HH
    have HH := Lib.hid HH
    clear hh
    go_enter Try.func9, Try.ntmps9
    go_wp2_with fail
    refine HH.out.mono ?_
    rintro e w1 ⟨rfl, hb1, _⟩
    have T1 := Lib.hid hb1
    clear hb1
    go_wp2_with fail
    go_ret
    exact ⟨rfl, T1.out.2.2⟩
  | false =>
    rw [hh] at HH
    have HH := Lib.hid HH
    clear hh
    have HWK := Lib.hid (fun w => wakes5_any w)
    go_enter Try.func9, Try.ntmps9
    go_wp2_with fail
    refine HH.out.mono ?_
    rintro e w1 ⟨rfl, hb1, hb2, hb3⟩
    have T1 := Lib.hid hb1
    have A1 := Lib.hid hb2
    have B1 := Lib.hid hb3
    clear HH hb1 hb2 hb3
    by_cases h1 : instE t [a] 0 = 0
    rotate_left
    · have C1 := Lib.hid (fun W v va hA hM => c_inst (u := 0) hF hs (fits_one hF2) (size_one hs2) (by simp) rfl rfl W v va hA hM)
      have q1 : (instE t [a] 0 != 0) = true := by simpa using h1
      generalize instE t [a] 0 = e1 at *
      generalize instT t [a] 0 = x at *
      clear h1
      obtain ⟨⟨qT0, qT1, qT2⟩, _, _⟩ := T1.out
      obtain ⟨⟨qA0, qA1, qA2⟩, _, _⟩ := A1.out
      go_wp2_with fail
      clear qT0 qT1 qT2 qA0 qA1 qA2
      have hrow := row1 A1.out.2.1
      try simp only [World.size_alloc] at hrow
      refine (C1.out _ _ _ (T1.out.2.1.bel (below_al _ _) (Nat.le_refl _)) hrow).mono ?_
      clear hrow
      rintro e w102 ⟨a102, c102, rfl, hK2, hb2⟩
      obtain ⟨hO2, hg2⟩ := lit_tell T1.out.2.2 hb2 hK2
      have T2 := Lib.hid (T1.out.bel hg2)
      clear hK2 hO2 hg2 hb2 T1 A1 B1
      go_wp2_with fail
      refine (HWK.out _).mono ?_
      rintro e w103 ⟨rfl, hb3⟩
      have T3 := Lib.hid (T2.out.bel hb3)
      clear hb3 T2
      go_wp2_with fail
      go_ret
      exact ⟨rfl, T3.out.2.2⟩
    · have C1 := Lib.hid (fun W v va hA hM => c_inst (u := 0) hF hs (fits_one hF2) (size_one hs2) (by simp) h1 (instT_put h1) W v va hA hM)
      have hfx := put_fits h1
      have hsx := put_small h1
      by_cases hok : instE (putT [a] t 0) [b] 0 = 0 ∧ instE a [b] 0 = 0
      rotate_left
      · have C2 := Lib.hid (fun W v va hA hM => c_inst (u := 0) hfx hsx (fits_one hF3) (size_one hs3) (by simp) rfl rfl W v va hA hM)
        have C3 := Lib.hid (fun W v va hA hM => c_inst (u := 0) hF2 hs2 (fits_one hF3) (size_one hs3) (by simp) rfl rfl W v va hA hM)
        generalize instE (putT [a] t 0) [b] 0 = e2 at *
        generalize instT (putT [a] t 0) [b] 0 = y at *
        generalize instE a [b] 0 = e3 at *
        generalize instT a [b] 0 = c at *
        generalize putT [a] t 0 = x at *
        clear h1 hfx hsx
        obtain ⟨⟨qT0, qT1, qT2⟩, _, _⟩ := T1.out
        obtain ⟨⟨qA0, qA1, qA2⟩, _, _⟩ := A1.out
        go_wp2_with fail
        clear qT0 qT1 qT2 qA0 qA1 qA2
        have hrow := row1 A1.out.2.1
        try simp only [World.size_alloc] at hrow
        refine (C1.out _ _ _ (T1.out.2.1.bel (below_al _ _) (Nat.le_refl _)) hrow).mono ?_
        clear hrow
        rintro e w102 ⟨a102, c102, rfl, hK2, hb2⟩
        obtain ⟨hO2, hg2⟩ := lit_tell T1.out.2.2 hb2 hK2
        have T2 := Lib.hid (T1.out.bel hg2)
        have A2 := Lib.hid (A1.out.bel hg2)
        have B2 := Lib.hid (B1.out.bel hg2)
        have X2 := Lib.hid hO2
        clear hK2 hO2 hg2 hb2 T1 A1 B1
        obtain ⟨⟨qX0, qX1, qX2⟩, _, _⟩ := X2.out
        obtain ⟨⟨qB0, qB1, qB2⟩, _, _⟩ := B2.out
        go_wp2_with fail
        clear qX0 qX1 qX2 qB0 qB1 qB2
        have hrow := row1 B2.out.2.1
        try simp only [World.size_alloc] at hrow
        refine (C2.out _ _ _ (X2.out.2.1.bel (below_al _ _) (Nat.le_refl _)) hrow).mono ?_
        clear hrow
        rintro e w103 ⟨a103, c103, rfl, hK3, hb3⟩
        obtain ⟨hO3, hg3⟩ := lit_tell T2.out.2.2 hb3 hK3
        have T3 := Lib.hid (T2.out.bel hg3)
        have A3 := Lib.hid (A2.out.bel hg3)
        have B3 := Lib.hid (B2.out.bel hg3)
        clear hK3 hO3 hg3 hb3 T2 A2 B2 X2
        obtain ⟨⟨qA0, qA1, qA2⟩, _, _⟩ := A3.out
        obtain ⟨⟨qB0, qB1, qB2⟩, _, _⟩ := B3.out
        go_wp2_with fail
        clear qA0 qA1 qA2 qB0 qB1 qB2
        have hrow := row1 B3.out.2.1
        try simp only [World.size_alloc] at hrow
        refine (C3.out _ _ _ (A3.out.2.1.bel (below_al _ _) (Nat.le_refl _)) hrow).mono ?_
        clear hrow
        rintro e w104 ⟨a104, c104, rfl, hK4, hb4⟩
        obtain ⟨hO4, hg4⟩ := lit_tell T3.out.2.2 hb4 hK4
        have T4 := Lib.hid (T3.out.bel hg4)
        clear hK4 hO4 hg4 hb4 T3 A3 B3
        by_cases h2 : e2 = 0
        · subst h2
          have q3 : (e3 != 0) = true := by simp; intro h; exact hok ⟨rfl, h⟩
          clear hok
          go_wp2_with fail
          refine (HWK.out _).mono ?_
          rintro e w105 ⟨rfl, hb5⟩
          have T5 := Lib.hid (T4.out.bel hb5)
          clear hb5 T4
          go_wp2_with fail
          go_ret
          exact ⟨rfl, T5.out.2.2⟩
        · have q2 : (e2 != 0) = true := by simpa using h2
          clear hok h2
          go_wp2_with fail
          refine (HWK.out _).mono ?_
          rintro e w105 ⟨rfl, hb5⟩
          have T5 := Lib.hid (T4.out.bel hb5)
          clear hb5 T4
          go_wp2_with fail
          go_ret
          exact ⟨rfl, T5.out.2.2⟩
      · obtain ⟨o2, o3⟩ := hok
        obtain ⟨s1, s2⟩ := twice_put h1 o3
        have hcb := check_size (argsE_ok.1 (inst_ok.1 o3).2.1 b (List.mem_singleton.2 rfl))
        have hcc := check_size (inst_check o3)
        have hfc := put_fits o3
        have C2 := Lib.hid (fun W v va hA hM => c_inst (u := 0) hfx hsx (fits_one hF3) (size_one hs3) (by simp) o2 (instT_put o2) W v va hA hM)
        have C3 := Lib.hid (fun W v va hA hM => c_inst (u := 0) hF2 hs2 (fits_one hF3) (size_one hs3) (by simp) o3 (instT_put o3) W v va hA hM)
        have C4 := Lib.hid (fun W v va hA hM => c_inst (u := 0) (A := [b, putT [b] a 0]) hF hs (fits_two hF3 hfc) (by simp only [sizeL]; omega) (by simp) rfl rfl W v va hA hM)
        have HS := Lib.hid (fun (q : instE t [b, putT [b] a 0] 0 = 0) => show putT [b] (putT [a] t 0) 0 = instT t [b, putT [b] a 0] 0 by rw [instT_put q]; exact s2)
        have HZ := Lib.hid (show size (putT [b] (putT [a] t 0) 0) ≤ 1048576 from put_small o2)
        generalize putT [b] (putT [a] t 0) 0 = y at *
        generalize instE t [b, putT [b] a 0] 0 = e4 at *
        generalize instT t [b, putT [b] a 0] 0 = z at *
        generalize putT [b] a 0 = c at *
        generalize putT [a] t 0 = x at *
        clear h1 o2 o3 s2 hcb hcc hfc hfx hsx
        obtain ⟨⟨qT0, qT1, qT2⟩, _, _⟩ := T1.out
        obtain ⟨⟨qA0, qA1, qA2⟩, _, _⟩ := A1.out
        go_wp2_with fail
        clear qT0 qT1 qT2 qA0 qA1 qA2
        have hrow := row1 A1.out.2.1
        try simp only [World.size_alloc] at hrow
        refine (C1.out _ _ _ (T1.out.2.1.bel (below_al _ _) (Nat.le_refl _)) hrow).mono ?_
        clear hrow
        rintro e w102 ⟨a102, c102, rfl, hK2, hb2⟩
        obtain ⟨hO2, hg2⟩ := lit_tell T1.out.2.2 hb2 hK2
        have T2 := Lib.hid (T1.out.bel hg2)
        have A2 := Lib.hid (A1.out.bel hg2)
        have B2 := Lib.hid (B1.out.bel hg2)
        have X2 := Lib.hid hO2
        clear hK2 hO2 hg2 hb2 T1 A1 B1
        obtain ⟨⟨qX0, qX1, qX2⟩, _, _⟩ := X2.out
        obtain ⟨⟨qB0, qB1, qB2⟩, _, _⟩ := B2.out
        go_wp2_with fail
        clear qX0 qX1 qX2 qB0 qB1 qB2
        have hrow := row1 B2.out.2.1
        try simp only [World.size_alloc] at hrow
        refine (C2.out _ _ _ (X2.out.2.1.bel (below_al _ _) (Nat.le_refl _)) hrow).mono ?_
        clear hrow
        rintro e w103 ⟨a103, c103, rfl, hK3, hb3⟩
        obtain ⟨hO3, hg3⟩ := lit_tell T2.out.2.2 hb3 hK3
        have T3 := Lib.hid (T2.out.bel hg3)
        have A3 := Lib.hid (A2.out.bel hg3)
        have B3 := Lib.hid (B2.out.bel hg3)
        have Y3 := Lib.hid hO3
        clear hK3 hO3 hg3 hb3 T2 A2 B2 X2
        obtain ⟨⟨qA0, qA1, qA2⟩, _, _⟩ := A3.out
        obtain ⟨⟨qB0, qB1, qB2⟩, _, _⟩ := B3.out
        go_wp2_with fail
        clear qA0 qA1 qA2 qB0 qB1 qB2
        have hrow := row1 B3.out.2.1
        try simp only [World.size_alloc] at hrow
        refine (C3.out _ _ _ (A3.out.2.1.bel (below_al _ _) (Nat.le_refl _)) hrow).mono ?_
        clear hrow
        rintro e w104 ⟨a104, c104, rfl, hK4, hb4⟩
        obtain ⟨hO4, hg4⟩ := lit_tell T3.out.2.2 hb4 hK4
        have T4 := Lib.hid (T3.out.bel hg4)
        have B4 := Lib.hid (B3.out.bel hg4)
        have Y4 := Lib.hid (Y3.out.bel hg4)
        have G4 := Lib.hid hO4
        clear hK4 hO4 hg4 hb4 T3 A3 B3 Y3
        obtain ⟨⟨qT0, qT1, qT2⟩, _, _⟩ := T4.out
        obtain ⟨⟨qB0, qB1, qB2⟩, _, _⟩ := B4.out
        obtain ⟨⟨qG0, qG1, qG2⟩, _, _⟩ := G4.out
        go_wp2_with fail
        clear qT0 qT1 qT2 qB0 qB1 qB2 qG0 qG1 qG2
        have hrow := row2 B4.out.2.1 G4.out.2.1
        try simp only [World.size_alloc] at hrow
        refine (C4.out _ _ _ (T4.out.2.1.bel (below_al _ _) (Nat.le_refl _)) hrow).mono ?_
        clear hrow
        rintro e w105 ⟨a105, c105, rfl, hK5, hb5⟩
        obtain ⟨hO5, hg5⟩ := lit_tell T4.out.2.2 hb5 hK5
        have T5 := Lib.hid (T4.out.bel hg5)
        have Y5 := Lib.hid (Y4.out.bel hg5)
        have Z5 := Lib.hid hO5
        clear hK5 hO5 hg5 hb5 T4 B4 Y4 G4
        by_cases h4 : e4 = 0
        · subst h4
          have K := Lib.hid (fun W va vb hA hB => c_same5 (HS.out rfl) HZ.out W va vb hA hB)
          clear s1
          obtain ⟨⟨qY0, qY1, qY2⟩, _, _⟩ := Y5.out
          obtain ⟨⟨qZ0, qZ1, qZ2⟩, _, _⟩ := Z5.out
          go_wp2_with fail
          clear qY0 qY1 qY2 qZ0 qZ1 qZ2
          refine (K.out _ _ _ Y5.out.2.1 Z5.out.2.1).mono ?_
          rintro e w106 ⟨rfl, hb6⟩
          have T6 := Lib.hid (T5.out.bel hb6)
          have Y6 := Lib.hid (Y5.out.bel hb6)
          have Z6 := Lib.hid (Z5.out.bel hb6)
          clear hb6 T5 Y5 Z5
          go_wp2_with fail
          refine (HWK.out _).mono ?_
          rintro e w107 ⟨rfl, hb7⟩
          have T7 := Lib.hid (T6.out.bel hb7)
          have Y7 := Lib.hid (Y6.out.bel hb7)
          have Z7 := Lib.hid (Z6.out.bel hb7)
          clear hb7 T6 Y6 Z6
          go_wp2_with fail
          go_ret
          exact ⟨rfl, T7.out.2.2⟩
        · rcases s1.resolve_left h4 with rfl | rfl | rfl
          · clear h4 s1
            go_wp2_with fail
            refine (HWK.out _).mono ?_
            rintro e w106 ⟨rfl, hb6⟩
            have T6 := Lib.hid (T5.out.bel hb6)
            have Y6 := Lib.hid (Y5.out.bel hb6)
            have Z6 := Lib.hid (Z5.out.bel hb6)
            clear hb6 T5 Y5 Z5
            go_wp2_with fail
            go_ret
            exact ⟨rfl, T6.out.2.2⟩
          · clear h4 s1
            go_wp2_with fail
            refine (HWK.out _).mono ?_
            rintro e w106 ⟨rfl, hb6⟩
            have T6 := Lib.hid (T5.out.bel hb6)
            have Y6 := Lib.hid (Y5.out.bel hb6)
            have Z6 := Lib.hid (Z5.out.bel hb6)
            clear hb6 T5 Y5 Z5
            go_wp2_with fail
            go_ret
            exact ⟨rfl, T6.out.2.2⟩
          · clear h4 s1
            go_wp2_with fail
            refine (HWK.out _).mono ?_
            rintro e w106 ⟨rfl, hb6⟩
            have T6 := Lib.hid (T5.out.bel hb6)
            have Y6 := Lib.hid (Y5.out.bel hb6)
            have Z6 := Lib.hid (Z5.out.bel hb6)
            clear hb6 T5 Y5 Z5
            go_wp2_with fail
            go_ret
            exact ⟨rfl, T6.out.2.2⟩
end Go.Proofs.Ytbfefpejcefnhaa
