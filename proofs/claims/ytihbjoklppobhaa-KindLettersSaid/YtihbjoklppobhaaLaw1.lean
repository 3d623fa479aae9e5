/- The walks of layer 1's statements: the Go text of each returns true, whatever it is handed. No conditions. -/
import Derived.Test.YtihbjoklppobhaaKind
import Derived.LoopTactic
import Derived.RowKit3
import Derived.Outline
namespace Go.Proofs.Ytihbjoklppobhaa
open Go.RowKit

def cntB (x : Int) : Int := (if 4 < x then 1 else 0) + (if 5 < x then 1 else 0) + (if 7 < x then 1 else 0)
def rowB (x j : Int) : Int := cntB x + (if 1 < j then bindsI x 1 else 0)

theorem rowB_start (x : Int) : rowB x 0 = cntB x := by unfold rowB; simp
theorem rowB_next (x j : Int) (h : 0 ≤ j) : rowB x j + bindsI x j = rowB x (j + 1) := by
  unfold rowB bindsI
  by_cases h1 : j = 1
  · subst h1; simp
  · by_cases h2 : 1 < j
    · rw [if_pos h2, if_neg (show ¬ (j = 1 ∧ (x = 4 ∨ x = 5 ∨ x = 7)) from fun h => h1 h.1), if_pos (show 1 < j + 1 by omega)]; omega
    · rw [if_neg h2, if_neg (show ¬ (j = 1 ∧ (x = 4 ∨ x = 5 ∨ x = 7)) from fun h => h1 h.1), if_neg (show ¬ 1 < j + 1 by omega)]; omega
theorem rowB_end (x : Int) : rowB x 4 = cntB (x + 1) := by
  unfold rowB bindsI cntB
  by_cases h4 : x = 4
  · subst h4; decide
  by_cases h5 : x = 5
  · subst h5; decide
  by_cases h7 : x = 7
  · subst h7; decide
  simp [h4, h5, h7]
  repeat' split
  all_goals omega
theorem cntB_range (x : Int) : 0 ≤ cntB x ∧ cntB x ≤ 3 := by
  unfold cntB; repeat' split
  all_goals omega
theorem rowB_range (x j : Int) : 0 ≤ rowB x j ∧ rowB x j ≤ 4 := by
  have := cntB_range x
  unfold rowB bindsI
  repeat' split
  all_goals omega

theorem binds_range (k i : Int) : 0 ≤ bindsI k i ∧ bindsI k i ≤ 1 := by
  unfold bindsI; split <;> omega

theorem bindsLaw_cases (k i : Int) : (i = 1 ∧ (k = 4 ∨ k = 5 ∨ k = 7)) ∨ bindsI k i = 0 := by
  unfold bindsI; split
  · exact Or.inl ‹_›
  · exact Or.inr rfl

set_option maxHeartbeats 1000000 in
theorem bindsLaw_any (k i : Int) (w : World) :
    Calls Try.prog 5 #[.int .i64 k, .int .i64 i] w fun e w' => e = .returned (.bool true) ∧ w = w' := by
  have c2 := Lib.hid (fun w => kids_any 4 w)
  have c3 := Lib.hid (fun w => kids_any 5 w)
  have c4 := Lib.hid (fun w => kids_any 7 w)
  rw [show kidsI 4 = 2 from rfl] at c2
  rw [show kidsI 5 = 2 from rfl] at c3
  rw [show kidsI 7 = 2 from rfl] at c4
  have d2 := Lib.hid (fun w => binds_any 4 1 w)
  have d3 := Lib.hid (fun w => binds_any 5 1 w)
  have d4 := Lib.hid (fun w => binds_any 7 1 w)
  have d5 := Lib.hid (fun w => binds_any k i w)
  rw [show bindsI 4 1 = 1 from rfl] at d2
  rw [show bindsI 5 1 = 1 from rfl] at d3
  rw [show bindsI 7 1 = 1 from rfl] at d4
  obtain ⟨rfl, rfl | rfl | rfl⟩ | h0 := bindsLaw_cases k i
  all_goals try (rw [h0] at d5; clear h0)
  all_goals
    go_enter Try.func5, Try.ntmps5
    go_wp2_with (first
        | (go_at_call 11; first
            | ((with_reducible refine (d2.out _).mono ?_); rintro e w' ⟨rfl, rfl⟩)
            | ((with_reducible refine (d3.out _).mono ?_); rintro e w' ⟨rfl, rfl⟩)
            | ((with_reducible refine (d4.out _).mono ?_); rintro e w' ⟨rfl, rfl⟩)
            | ((with_reducible refine (d5.out _).mono ?_); rintro e w' ⟨rfl, rfl⟩))
        | (go_at_call 9; first
            | ((with_reducible refine (c2.out _).mono ?_); rintro e w' ⟨rfl, rfl⟩)
            | ((with_reducible refine (c3.out _).mono ?_); rintro e w' ⟨rfl, rfl⟩)
            | ((with_reducible refine (c4.out _).mono ?_); rintro e w' ⟨rfl, rfl⟩)))
  all_goals
    clear c2 c3 c4 d2 d3 d4 d5
    go_loop [6, 7] (fun n x => ∃ X : Int, 1 ≤ X ∧ X ≤ 14 ∧ x = .int .i64 X ∧ n = .int .i64 (cntB X)) (fun _ x => (14 - intOf x).toNat)
    case atStart => exact ⟨1, by omega, by omega, rfl, rfl⟩
    case round =>
      obtain ⟨X, hx1, hx2, rfl, rfl⟩ := hrel
      have hr := cntB_range X
      by_cases hlt : X ≤ 13
      · have hs := Lib.hid (rowB_start X)
        have he := Lib.hid (rowB_end X)
        go_wp2
        go_loop [6, 8] (fun n j => ∃ J : Int, 0 ≤ J ∧ J ≤ 4 ∧ j = .int .i64 J ∧ n = .int .i64 (rowB X J)) (fun _ j => (4 - intOf j).toNat)
        case atStart => exact ⟨0, by omega, by omega, rfl, by rw [hs.out]⟩
        case round =>
          obtain ⟨J, hj1, hj2, rfl, rfl⟩ := hrel
          have hr1 := rowB_range X J
          have hr2 := rowB_range X (J + 1)
          have hb := binds_range X J
          have hn := Lib.hid (rowB_next X J hj1)
          by_cases hlj : J < 4
          · go_wp2_with (go_at_call 11; refine (binds_any _ _ _).mono ?_; rintro e w' ⟨rfl, rfl⟩)
            go_round
            case rel => exact ⟨J + 1, by omega, by omega, rfl, by rw [hn.out]⟩
            case measure => simp [intOf]; omega
          · obtain rfl : J = 4 := by omega
            go_wp2
            go_round
            case rel => exact ⟨X + 1, by omega, by omega, rfl, by rw [he.out]⟩
            case measure => simp [intOf]; omega
      · obtain rfl : X = 14 := by omega
        go_wp2_with (go_at_call 16; refine (wakes_any _).mono ?_; rintro e w' ⟨rfl, rfl⟩)
        go_ret
        exact ⟨rfl, rfl⟩

theorem letters_two (a b : Int) (ha : 1 ≤ a ∧ a ≤ 13) (hb : 1 ≤ b ∧ b ≤ 13) : (letterI a == letterI b) = (a == b) := by
  have h := letters_apart ⟨a.toNat, by omega⟩ ⟨b.toNat, by omega⟩ (by simp only; omega) (by simp only; omega)
  have h1 : ((a.toNat : Nat) : Int) = a := by omega
  have h2 : ((b.toNat : Nat) : Int) = b := by omega
  simpa only [h1, h2] using h

theorem of_letter (a : Int) (ha : 1 ≤ a ∧ a ≤ 13) : ofI (letterI a) = a := by
  have h := letter_of a (letterI a) ha (letter_range a)
  rw [beq_self_eq_true] at h
  exact beq_iff_eq.1 h.symm

set_option maxHeartbeats 1000000 in
theorem lettersLaw_out (a b : Int) (h : ¬ (1 ≤ a ∧ a ≤ 13)) (w : World) :
    Calls Try.prog 4 #[.int .i64 a, .int .i64 b] w fun e w' => e = .returned (.bool true) ∧ w = w' := by
  have c1 := Lib.hid (fun w => letter_any a w)
  have c2 := Lib.hid (fun w => letter_any b w)
  have c3 := Lib.hid (fun w => of_any 0 w)
  have c4 := Lib.hid (fun w => kids_any a w)
  have c5 := Lib.hid (fun w => leaf_any a w)
  have c6 := Lib.hid (fun w => canon_any a w)
  have c7 := Lib.hid (fun w => binds_any a 1 w)
  rw [letterI_no a h] at c1
  rw [show ofI 0 = 0 from rfl, show ofB 0 = false from rfl] at c3
  rw [kidsI_no a h] at c4 c5
  rw [show ((-1 : Int) == 0) = false from rfl] at c5
  rw [show canonB a = false from by unfold canonB; simp; omega] at c6
  rw [show bindsI a 1 = 0 from by unfold bindsI; rw [if_neg (by omega)]] at c7
  clear h
  go_enter Try.func4, Try.ntmps4
  go_wp2_with (first
        | (go_at_call 14; first
            | ((with_reducible refine (c1.out _).mono ?_); rintro e w' ⟨rfl, rfl⟩)
            | ((with_reducible refine (c2.out _).mono ?_); rintro e w' ⟨rfl, rfl⟩))
        | (go_at_call 7; (with_reducible refine (c3.out _).mono ?_); rintro e w' ⟨rfl, rfl⟩)
        | (go_at_call 9; (with_reducible refine (c4.out _).mono ?_); rintro e w' ⟨rfl, rfl⟩)
        | (go_at_call 13; (with_reducible refine (c5.out _).mono ?_); rintro e w' ⟨rfl, rfl⟩)
        | (go_at_call 15; (with_reducible refine (c6.out _).mono ?_); rintro e w' ⟨rfl, rfl⟩)
        | (go_at_call 11; (with_reducible refine (c7.out _).mono ?_); rintro e w' ⟨rfl, rfl⟩)
        | (go_at_call 16; (with_reducible refine (wakes_any _).mono ?_); rintro e w' ⟨rfl, rfl⟩))
  go_ret
  exact ⟨rfl, rfl⟩

set_option maxHeartbeats 1000000 in
theorem lettersLaw_in (a b : Int) (h : 1 ≤ a ∧ a ≤ 13) (w : World) :
    Calls Try.prog 4 #[.int .i64 a, .int .i64 b] w fun e w' => e = .returned (.bool true) ∧ w = w' := by
  have c1 := Lib.hid (fun w => letter_any a w)
  have c2 := Lib.hid (fun w => letter_any b w)
  have c3 := Lib.hid (fun w => of_any (letterI a) w)
  have c4 := Lib.hid (fun w => kids_any a w)
  have c8 := Lib.hid (fun w => kids_any b w)
  have c5 := Lib.hid (fun w => leaf_any a w)
  have hb : (kidsI b < 0) ∨ (0 ≤ kidsI b ∧ a = b) ∨ (0 ≤ kidsI b ∧ (a == b) = false ∧ (letterI a == letterI b) = false) := by
    by_cases hb : 1 ≤ b ∧ b ≤ 13
    · have h2 := kidsI_yes b hb
      by_cases e : a = b
      · exact Or.inr (Or.inl ⟨h2.1, e⟩)
      · have e' : (a == b) = false := beq_eq_false_iff_ne.2 e
        exact Or.inr (Or.inr ⟨h2.1, e', by rw [letters_two a b h hb, e']⟩)
    · left; rw [kidsI_no b hb]; decide
  have hk := (kidsI_yes a h).1
  rw [show ofB (letterI a) = true from by unfold ofB; rw [of_letter a h]; simp; omega, of_letter a h] at c3
  clear h
  generalize kidsI a = ka at *
  generalize hla : letterI a = la at *
  generalize hlb : letterI b = lb at *
  generalize kidsI b = kb at *
  obtain hb | ⟨hb, rfl⟩ | ⟨hb, h1, h2⟩ := hb
  all_goals try (rw [hla] at hlb; subst hlb)
  all_goals clear hla
  all_goals try clear hlb
  all_goals
    go_enter Try.func4, Try.ntmps4
    go_wp2_with (first
        | (go_at_call 14; first
            | ((with_reducible refine (c1.out _).mono ?_); rintro e w' ⟨rfl, rfl⟩)
            | ((with_reducible refine (c2.out _).mono ?_); rintro e w' ⟨rfl, rfl⟩))
        | (go_at_call 7; (with_reducible refine (c3.out _).mono ?_); rintro e w' ⟨rfl, rfl⟩)
        | (go_at_call 9; first
            | ((with_reducible refine (c4.out _).mono ?_); rintro e w' ⟨rfl, rfl⟩)
            | ((with_reducible refine (c8.out _).mono ?_); rintro e w' ⟨rfl, rfl⟩))
        | (go_at_call 13; (with_reducible refine (c5.out _).mono ?_); rintro e w' ⟨rfl, rfl⟩)
        | (go_at_call 16; (with_reducible refine (wakes_any _).mono ?_); rintro e w' ⟨rfl, rfl⟩))
    go_ret
    exact ⟨rfl, rfl⟩

theorem lettersLaw_any (a b : Int) (w : World) :
    Calls Try.prog 4 #[.int .i64 a, .int .i64 b] w fun e w' => e = .returned (.bool true) ∧ w = w' := by
  by_cases h : 1 ≤ a ∧ a ≤ 13
  · exact lettersLaw_in a b h w
  · exact lettersLaw_out a b h w

def wantI (m x : Int) : Int := if m < x then m else 0
def isB (m x : Int) : Bool := decide (1 ≤ m ∧ m < x)
theorem wantI_start (m : Int) (h : 0 ≤ m ∧ m ≤ 13) : wantI m 1 = 0 := by unfold wantI; split <;> omega
theorem isB_start (m : Int) : isB m 1 = false := by unfold isB; rw [decide_eq_false_iff_not]; omega
def notCanon (k : Int) : Prop := (k == 2) = false ∧ (k == 4) = false ∧ (k == 5) = false ∧ (k == 7) = false ∧ (k == 8) = false ∧ (k == 11) = false ∧ (k == 12) = false
theorem canon_cases (k : Int) : k = 2 ∨ k = 4 ∨ k = 5 ∨ k = 7 ∨ k = 8 ∨ k = 11 ∨ k = 12 ∨ (notCanon k ∧ canonB k = false) := by
  unfold notCanon canonB
  by_cases h2 : k = 2 <;> by_cases h4 : k = 4 <;> by_cases h5 : k = 5 <;> by_cases h7 : k = 7 <;> by_cases h8 : k = 8 <;> by_cases h11 : k = 11 <;> by_cases h12 : k = 12 <;> simp [*]

set_option maxHeartbeats 4000000 in
theorem exactLaw_any (k i c : Int) (hc : 0 ≤ c ∧ c ≤ 255) (w : World) :
    Calls Try.prog 3 #[.int .i64 k, .int .i64 i, .int .u8 c] w fun e w' => e = .returned (.bool true) ∧ w = w' := by
  have c1 := Lib.hid (fun w => letter_any k w)
  have c2 := Lib.hid (fun w => rletter_any k w)
  have c3 := Lib.hid (fun w => of_any c w)
  have c4 := Lib.hid (fun w => kids_any k w)
  have c5 := Lib.hid (fun w => rkids_any k w)
  have c6 := Lib.hid (fun w => leaf_any k w)
  have c7 := Lib.hid (fun w => canon_any k w)
  have c8 := Lib.hid (fun w => binds_any k i w)
  have c9 := Lib.hid (fun w => rbinds_any k i w)
  have cl := Lib.hid (fun x (hx : 1 ≤ x ∧ x ≤ 13) => letter_of x c hx hc)
  have hm := ofI_range c
  have e0 : ofB c = isB (ofI c) 14 := by unfold ofB isB; simp; omega
  have e1 := Lib.hid (show wantI (ofI c) 14 = ofI c from by unfold wantI; rw [if_pos (by omega)])
  rw [e0] at c3
  clear e0 hc
  obtain rfl | rfl | rfl | rfl | rfl | rfl | rfl | ⟨hk, hk0⟩ := canon_cases k
  all_goals
    first | (rw [hk0] at c7; unfold notCanon at hk; obtain ⟨k2, k4, k5, k7, k8, k11, k12⟩ := hk; clear hk0)
          | rw [show canonB 2 = true from rfl] at c7
          | rw [show canonB 4 = true from rfl] at c7
          | rw [show canonB 5 = true from rfl] at c7
          | rw [show canonB 7 = true from rfl] at c7
          | rw [show canonB 8 = true from rfl] at c7
          | rw [show canonB 11 = true from rfl] at c7
          | rw [show canonB 12 = true from rfl] at c7
  all_goals
    generalize ofI c = m at *
    go_enter Try.func3, Try.ntmps3
    go_wp2_with (go_at_call 7; (with_reducible refine (c3.out _).mono ?_); rintro e w' ⟨rfl, rfl⟩)
    go_loop [9, 10, 11] (fun n b x => ∃ X : Int, 1 ≤ X ∧ X ≤ 14 ∧ x = .int .i64 X ∧ n = .int .i64 (wantI m X) ∧ b = .bool (isB m X)) (fun _ _ x => (14 - intOf x).toNat)
    case atStart => exact ⟨1, by omega, by omega, rfl, by rw [wantI_start m hm], by rw [isB_start m]⟩
    case round =>
      obtain ⟨X, hx1, hx2, rfl, rfl, rfl⟩ := hrel
      by_cases hlt : X ≤ 13
      · have hl := cl.out X ⟨hx1, hlt⟩
        by_cases hmx : m = X
        · rw [hmx, beq_self_eq_true] at hl
          have f1 := Lib.hid (show wantI m (X + 1) = X from by unfold wantI; rw [if_pos (by omega)]; exact hmx)
          have f2 := Lib.hid (show isB m (X + 1) = true from by unfold isB; simp; omega)
          have hmx' := Lib.hid hmx
          clear hmx
          go_wp2_with (go_at_call 8; refine (rletter_any _ _).mono ?_; rintro e w' ⟨rfl, rfl⟩)
          go_round
          case rel => exact ⟨X + 1, by omega, by omega, rfl, by rw [f1.out], by rw [f2.out]⟩
          case measure => simp [intOf]; omega
        · rw [show (m == X) = false from beq_eq_false_iff_ne.2 hmx] at hl
          have f1 := Lib.hid (show wantI m (X + 1) = wantI m X from by unfold wantI; by_cases h : m < X <;> simp [h] <;> omega)
          have f2 := Lib.hid (show isB m (X + 1) = isB m X from by unfold isB; congr 1; apply propext; omega)
          go_wp2_with (go_at_call 8; refine (rletter_any _ _).mono ?_; rintro e w' ⟨rfl, rfl⟩)
          go_round
          case rel => exact ⟨X + 1, by omega, by omega, rfl, by rw [f1.out], by rw [f2.out]⟩
          case measure => simp [intOf]; omega
      · obtain rfl : X = 14 := by omega
        rw [e1.out]
        go_wp2_with (first
          | (go_at_call 14; (with_reducible refine (c1.out _).mono ?_); rintro e w' ⟨rfl, rfl⟩)
          | (go_at_call 8; (with_reducible refine (c2.out _).mono ?_); rintro e w' ⟨rfl, rfl⟩)
          | (go_at_call 9; (with_reducible refine (c4.out _).mono ?_); rintro e w' ⟨rfl, rfl⟩)
          | (go_at_call 10; (with_reducible refine (c5.out _).mono ?_); rintro e w' ⟨rfl, rfl⟩)
          | (go_at_call 13; (with_reducible refine (c6.out _).mono ?_); rintro e w' ⟨rfl, rfl⟩)
          | (go_at_call 15; (with_reducible refine (c7.out _).mono ?_); rintro e w' ⟨rfl, rfl⟩)
          | (go_at_call 11; (with_reducible refine (c8.out _).mono ?_); rintro e w' ⟨rfl, rfl⟩)
          | (go_at_call 12; (with_reducible refine (c9.out _).mono ?_); rintro e w' ⟨rfl, rfl⟩)
          | (go_at_call 16; (with_reducible refine (wakes_any _).mono ?_); rintro e w' ⟨rfl, rfl⟩))
        go_ret
        exact ⟨rfl, rfl⟩

end Go.Proofs.Ytihbjoklppobhaa
