/- The walk of layer 1's KindTells: the Go text returns true, whatever it is handed. No conditions. -/
import Derived.Test.YtihbjoklppobhaaLaw1
import Derived.Deep.DeepCutAuto
import Derived.IntWalk
namespace Go.Proofs.Ytihbjoklppobhaa
open Go.RowKit

theorem u64_nonneg (a : Int) : 0 ≤ IntKind.u64.wrap a := by
  simp [IntKind.wrap, IntKind.signed, IntKind.bits]
  omega
theorem mod_range (a m : Int) (hm : 0 < m) : 0 ≤ (IntKind.u64.wrap a).tmod m ∧ (IntKind.u64.wrap a).tmod m < m := by
  rw [Int.tmod_eq_emod_of_nonneg (u64_nonneg a)]
  exact ⟨Int.emod_nonneg _ (by omega), Int.emod_lt_of_pos _ hm⟩
theorem to_range (a : Int) : 0 ≤ wrap64 ((IntKind.u64.wrap a).tmod 60) ∧ wrap64 ((IntKind.u64.wrap a).tmod 60) < 60 := by
  have := mod_range a 60 (by omega)
  rw [IntWalk.wrap64_in _ (by omega)]; omega
theorem from_range (a : Int) : -10 ≤ wrap64 (wrap64 ((IntKind.u64.wrap a).tmod 40) - 10) ∧ wrap64 (wrap64 ((IntKind.u64.wrap a).tmod 40) - 10) < 30 := by
  have := mod_range a 40 (by omega)
  rw [IntWalk.wrap64_in ((IntKind.u64.wrap a).tmod 40) (by omega), IntWalk.wrap64_in _ (by omega)]; omega

def cntLeaf (x : Int) : Int := (if 1 < x then 1 else 0) + (if 2 < x then 1 else 0) + (if 3 < x then 1 else 0)
def cntCanon (x : Int) : Int := (if 2 < x then 1 else 0) + (if 4 < x then 1 else 0) + (if 5 < x then 1 else 0) + (if 7 < x then 1 else 0) + (if 8 < x then 1 else 0) + (if 11 < x then 1 else 0) + (if 12 < x then 1 else 0)
def cntKind (x : Int) : Int := if x ≤ 1 then 0 else if x ≤ 14 then x - 1 else 13

theorem step_if (n x : Int) (h : ¬ n = x) : (if n < x + 1 then (1 : Int) else 0) = if n < x then 1 else 0 := by
  by_cases h1 : n < x
  · rw [if_pos h1, if_pos (by omega)]
  · rw [if_neg h1, if_neg (by omega)]
theorem cnt_out (x : Int) (h : ¬ (1 ≤ x ∧ x ≤ 13)) : cntKind (x + 1) = cntKind x ∧ cntLeaf (x + 1) = cntLeaf x ∧ cntB (x + 1) = cntB x ∧ cntCanon (x + 1) = cntCanon x := by
  unfold cntLeaf cntB cntCanon
  refine ⟨?_, ?_, ?_, ?_⟩
  · unfold cntKind
    by_cases h1 : x < 1
    · rw [if_pos (by omega), if_pos (by omega)]
    · rw [if_neg (by omega), if_neg (by omega), if_neg (by omega)]
      by_cases h2 : x ≤ 14
      · rw [if_pos h2]; omega
      · rw [if_neg h2]
  · rw [step_if 1 x (by omega), step_if 2 x (by omega), step_if 3 x (by omega)]
  · rw [step_if 4 x (by omega), step_if 5 x (by omega), step_if 7 x (by omega)]
  · rw [step_if 2 x (by omega), step_if 4 x (by omega), step_if 5 x (by omega), step_if 7 x (by omega), step_if 8 x (by omega), step_if 11 x (by omega), step_if 12 x (by omega)]
theorem cnt_in (x : Int) (h : 1 ≤ x ∧ x ≤ 13) : cntKind (x + 1) = cntKind x + 1 ∧ cntLeaf (x + 1) = cntLeaf x + (if (kidsI x == 0) = true then 1 else 0) ∧ cntB (x + 1) = cntB x + bindsI x 1 ∧ cntCanon (x + 1) = cntCanon x + (if canonB x = true then 1 else 0) := by
  obtain rfl | rfl | rfl | rfl | rfl | rfl | rfl | rfl | rfl | rfl | rfl | rfl | rfl := thirteen x h
  all_goals decide
theorem cnt_end (x : Int) (h : 14 ≤ x) : cntKind x = 13 ∧ cntLeaf x = 3 ∧ cntB x = 3 ∧ cntCanon x = 7 := by
  unfold cntKind cntLeaf cntB cntCanon
  refine ⟨?_, ?_, ?_, ?_⟩
  · rw [if_neg (by omega)]; split <;> omega
  all_goals (repeat rw [if_pos (by omega)])
  all_goals rfl
theorem cnt_start (x : Int) (h : x ≤ 0) : cntKind x = 0 ∧ cntLeaf x = 0 ∧ cntB x = 0 ∧ cntCanon x = 0 := by
  unfold cntKind cntLeaf cntB cntCanon
  refine ⟨?_, ?_, ?_, ?_⟩
  · rw [if_pos (by omega)]
  all_goals (repeat rw [if_neg (by omega)])
  all_goals rfl
theorem cnt_range (x : Int) : 0 ≤ cntKind x ∧ cntKind x ≤ 13 ∧ 0 ≤ cntLeaf x ∧ cntLeaf x ≤ 3 ∧ 0 ≤ cntCanon x ∧ cntCanon x ≤ 7 := by
  unfold cntKind cntLeaf cntCanon
  refine ⟨?_, ?_, ?_, ?_, ?_, ?_⟩
  all_goals (repeat' split)
  all_goals omega
theorem letter_some (x : Int) (h : 1 ≤ x ∧ x ≤ 13) : (letterI x == 0) = false := by
  obtain rfl | rfl | rfl | rfl | rfl | rfl | rfl | rfl | rfl | rfl | rfl | rfl | rfl := thirteen x h
  all_goals decide

set_option maxHeartbeats 4000000 in
theorem tellsLaw_any (a b : Int) (w : World) :
    Calls Try.prog 6 #[.int .i64 a, .int .i64 b] w fun e w' => e = .returned (.bool true) ∧ w = w' := by
  have hA := from_range a
  have hB := to_range b
  have HA := Lib.hid hA
  have HB := Lib.hid hB
  clear hA hB
  go_enter Try.func6, Try.ntmps6
  go_upto_region 3 with (fail)
  have hA := HA.out
  have hB := HB.out
  clear HA HB
  generalize wrap64 (wrap64 ((IntKind.u64.wrap a).tmod 40) - 10) = A at *
  generalize wrap64 ((IntKind.u64.wrap b).tmod 60) = B at *
  obtain hA0 | rfl | hA0 : A < 0 ∨ A = 0 ∨ 0 < A := by omega
  all_goals obtain hB0 | hB0 : B < 20 ∨ 20 ≤ B := by omega
  all_goals
    go_wp2_with (fail)
  all_goals
    go_loop [5, 6, 7, 8, 9] (fun l b c n x => ∃ X : Int, -10 ≤ X ∧ X ≤ 60 ∧ x = .int .i64 X ∧ l = .int .i64 (cntLeaf X) ∧ b = .int .i64 (cntB X) ∧ c = .int .i64 (cntCanon X) ∧ n = .int .i64 (cntKind X)) (fun _ _ _ _ x => (61 - intOf x).toNat)
    case atStart =>
      have h0 : ∀ X : Int, X ≤ 0 → -10 ≤ X → ∃ Y : Int, -10 ≤ Y ∧ Y ≤ 60 ∧ Value.int .i64 X = .int .i64 Y ∧ Value.int .i64 0 = .int .i64 (cntLeaf Y) ∧ Value.int .i64 0 = .int .i64 (cntB Y) ∧ Value.int .i64 0 = .int .i64 (cntCanon Y) ∧ Value.int .i64 0 = .int .i64 (cntKind Y) := by
        intro X h1 h2
        obtain ⟨e1, e2, e3, e4⟩ := cnt_start X h1
        exact ⟨X, h2, by omega, rfl, by rw [e2], by rw [e3], by rw [e4], by rw [e1]⟩
      exact h0 _ (by omega) (by omega)
    case round =>
      obtain ⟨X, hx1, hx2, rfl, rfl, rfl, rfl, rfl⟩ := hrel
      have hcr := cnt_range X
      have hbr := cntB_range X
      by_cases hlt : X ≤ B ∨ X ≤ 20
      · by_cases hin : 1 ≤ X ∧ X ≤ 13
        · have c1 := Lib.hid (fun w => letter_any X w)
          have c2 := Lib.hid (fun w => kids_any X w)
          have c3 := Lib.hid (fun w => rkids_any X w)
          have c4 := Lib.hid (fun w => leaf_any X w)
          have c5 := Lib.hid (fun w => canon_any X w)
          have c6 := Lib.hid (fun w => binds_any X 1 w)
          have hk := kidsI_yes X hin
          have hb := binds_range X 1
          have hl0 := letter_some X hin
          obtain ⟨f1, f2, f3, f4⟩ := cnt_in X hin
          have hcr2 := cnt_range (X + 1)
          have hbr2 := cntB_range (X + 1)
          have hap := Lib.hid (fun J (hJ : 1 ≤ J ∧ J < X) => letters_two J X (by omega) hin)
          have F1 := Lib.hid f1
          have F3 := Lib.hid f3
          clear f1 f3
          obtain ⟨hin1, hin2⟩ := hin
          have d2 : decide (X < 1) = false := decide_eq_false (by omega)
          have d3 : decide (13 < X) = false := decide_eq_false (by omega)
          generalize letterI X = lx at *
          generalize kidsI X = kx at *
          generalize bindsI X 1 = bx at *
          have d1 : decide (kx < 0) = false := decide_eq_false (by omega)
          cases hlf : (kx == 0) <;> cases hcn : canonB X <;> simp only [hlf, hcn, if_true, if_false, Bool.false_eq_true, Int.add_zero] at f2 f4
          all_goals
            rw [hlf] at c4
            rw [hcn] at c5
            have F2 := Lib.hid f2
            have F4 := Lib.hid f4
            clear f2 f4 hlf hcn
            go_wp2_with (first
              | (go_at_call 14; (with_reducible refine (c1.out _).mono ?_); rintro e w' ⟨rfl, rfl⟩)
              | (go_at_call 9; (with_reducible refine (c2.out _).mono ?_); rintro e w' ⟨rfl, rfl⟩)
              | (go_at_call 10; (with_reducible refine (c3.out _).mono ?_); rintro e w' ⟨rfl, rfl⟩)
              | (go_at_call 13; (with_reducible refine (c4.out _).mono ?_); rintro e w' ⟨rfl, rfl⟩)
              | (go_at_call 15; (with_reducible refine (c5.out _).mono ?_); rintro e w' ⟨rfl, rfl⟩)
              | (go_at_call 11; (with_reducible refine (c6.out _).mono ?_); rintro e w' ⟨rfl, rfl⟩))
            go_loop [11] (fun j => ∃ J : Int, 1 ≤ J ∧ J ≤ X ∧ j = .int .i64 J) (fun j => (X - intOf j).toNat)
            case atStart => exact ⟨1, by omega, by omega, rfl⟩
            case round =>
              obtain ⟨J, hj1, hj2, rfl⟩ := hrel
              by_cases hj : J < X
              · have hne := hap.out J ⟨hj1, hj⟩
                rw [show (J == X) = false from beq_eq_false_iff_ne.2 (by omega)] at hne
                have c7 := Lib.hid (fun w => letter_any J w)
                go_wp2_with (go_at_call 14; first
                  | ((with_reducible refine (c1.out _).mono ?_); rintro e w' ⟨rfl, rfl⟩)
                  | ((with_reducible refine (c7.out _).mono ?_); rintro e w' ⟨rfl, rfl⟩))
                go_round
                case rel => exact ⟨J + 1, by omega, by omega, rfl⟩
                case measure => simp [intOf]; omega
              · go_wp2
                go_round
                case rel => exact ⟨X + 1, by omega, by omega, rfl, by rw [F2.out], by rw [F3.out], by rw [F4.out], by rw [F1.out]⟩
                case measure => simp [intOf]; omega
        · have c1 := Lib.hid (fun w => letter_any X w)
          have c2 := Lib.hid (fun w => kids_any X w)
          have c3 := Lib.hid (fun w => rkids_any X w)
          rw [kidsI_no X hin] at c2 c3
          rw [letterI_no X hin] at c1
          have hc := Lib.hid (cnt_out X hin)
          obtain ⟨d1, d2⟩ | ⟨d1, d2⟩ : decide (X < 1) = true ∧ X < 1 ∨ decide (X < 1) = false ∧ 13 < X := by
            by_cases h : X < 1
            · exact Or.inl ⟨decide_eq_true h, h⟩
            · exact Or.inr ⟨decide_eq_false h, by omega⟩
          all_goals
            try have d3 : decide (13 < X) = true := decide_eq_true (by omega)
            clear hin
            go_wp2_with (first
              | (go_at_call 14; (with_reducible refine (c1.out _).mono ?_); rintro e w' ⟨rfl, rfl⟩)
              | (go_at_call 9; (with_reducible refine (c2.out _).mono ?_); rintro e w' ⟨rfl, rfl⟩)
              | (go_at_call 10; (with_reducible refine (c3.out _).mono ?_); rintro e w' ⟨rfl, rfl⟩))
            go_round
            case rel => exact ⟨X + 1, by omega, by omega, rfl, by rw [hc.out.2.1], by rw [hc.out.2.2.1], by rw [hc.out.2.2.2], by rw [hc.out.1]⟩
            case measure => simp [intOf]; omega
      · obtain ⟨e1, e2, e3, e4⟩ := cnt_end X (by omega)
        rw [e1, e2, e3, e4]
        clear e1 e2 e3 e4
        go_wp2_with (go_at_call 16; (with_reducible refine (wakes_any _).mono ?_); rintro e w' ⟨rfl, rfl⟩)
        go_ret
        exact ⟨rfl, rfl⟩
end Go.Proofs.Ytihbjoklppobhaa
