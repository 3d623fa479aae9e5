/- The functions of package kind (layer 1), the page's twins of them, and what the statements of layer 1 wake up: each as a plain function on integers, and that the Go text computes it. No conditions. -/
import Derived.Test.YtihbjoklppobhaaChecked
import Derived.WalkKit
import Derived.Lib.Bytealg
import Derived.Deep.QuietTactic
import Derived.BigQuiet
import Derived.Lib.Hide
namespace Go.Proofs.Ytihbjoklppobhaa
open Go.RowKit

def kidsI (k : Int) : Int :=
  if k = 1 ∨ k = 2 ∨ k = 3 then 0 else if k = 9 ∨ k = 10 then 1 else
  if k = 4 ∨ k = 5 ∨ k = 6 ∨ k = 7 ∨ k = 12 then 2 else if k = 8 ∨ k = 11 ∨ k = 13 then 3 else -1
def bindsI (k i : Int) : Int := if i = 1 ∧ (k = 4 ∨ k = 5 ∨ k = 7) then 1 else 0
def canonB (k : Int) : Bool := decide (k = 2 ∨ k = 4 ∨ k = 5 ∨ k = 7 ∨ k = 8 ∨ k = 11 ∨ k = 12)
def lets : List UInt8 := [118, 117, 99, 112, 108, 97, 115, 111, 102, 103, 105, 114, 106]
def letterI (k : Int) : Int :=
  if k = 1 then 118 else if k = 2 then 117 else if k = 3 then 99 else if k = 4 then 112 else if k = 5 then 108 else if k = 6 then 97 else
  if k = 7 then 115 else if k = 8 then 111 else if k = 9 then 102 else if k = 10 then 103 else if k = 11 then 105 else if k = 12 then 114 else
  if k = 13 then 106 else 0

theorem ret_int {k : IntKind} {a b : Int} (h : a = b) : Ending.returned (.int k a) = .returned (.int k b) := by rw [h]

set_option maxRecDepth 100000 in
theorem kids_any (k : Int) (w : World) :
    Calls Try.prog 9 #[.int .i64 k] w fun e w' => e = .returned (.int .i64 (kidsI k)) ∧ w = w' := by
  go_enter Try.func9, Try.ntmps9
  go_wp2
  all_goals go_ret
  all_goals exact ⟨ret_int (by simp only [beq_iff_eq, beq_eq_false_iff_ne, ne_eq] at *; simp [kidsI, *]), rfl⟩

theorem rkids_any (k : Int) (w : World) :
    Calls Try.prog 10 #[.int .i64 k] w fun e w' => e = .returned (.int .i64 (kidsI k)) ∧ w = w' := by
  go_enter Try.func10, Try.ntmps10
  go_wp2
  all_goals go_ret
  all_goals exact ⟨ret_int (by simp only [beq_iff_eq, beq_eq_false_iff_ne, ne_eq] at *; simp [kidsI, *]), rfl⟩

theorem binds_any (k i : Int) (w : World) :
    Calls Try.prog 11 #[.int .i64 k, .int .i64 i] w fun e w' => e = .returned (.int .i64 (bindsI k i)) ∧ w = w' := by
  by_cases h : i = 1
  · go_enter Try.func11, Try.ntmps11
    go_wp2
    all_goals go_ret
    all_goals exact ⟨ret_int (by simp only [beq_iff_eq, beq_eq_false_iff_ne, ne_eq] at *; simp [bindsI, *]), rfl⟩
  · go_enter Try.func11, Try.ntmps11
    go_wp2
    all_goals go_ret
    all_goals exact ⟨ret_int (by simp [bindsI, h]), rfl⟩

theorem rbinds_any (k i : Int) (w : World) :
    Calls Try.prog 12 #[.int .i64 k, .int .i64 i] w fun e w' => e = .returned (.int .i64 (bindsI k i)) ∧ w = w' := by
  by_cases h : i = 1
  · by_cases h4 : k = 4
    · subst h4
      go_enter Try.func12, Try.ntmps12
      go_wp2
      go_ret
      exact ⟨ret_int (by simp [bindsI, h]), rfl⟩
    · by_cases h5 : k = 5
      · subst h5
        go_enter Try.func12, Try.ntmps12
        go_wp2
        go_ret
        exact ⟨ret_int (by simp [bindsI, h]), rfl⟩
      · by_cases h7 : k = 7
        · subst h7
          go_enter Try.func12, Try.ntmps12
          go_wp2
          go_ret
          exact ⟨ret_int (by simp [bindsI, h]), rfl⟩
        · have e0 : bindsI k i = 0 := by simp [bindsI, *]
          rw [e0]
          have e4 : (k == 4) = false := by simpa using h4
          have e5 : (k == 5) = false := by simpa using h5
          have e7 : (k == 7) = false := by simpa using h7
          clear e0 h4 h5 h7
          go_enter Try.func12, Try.ntmps12
          go_wp2
          go_ret
          exact ⟨rfl, rfl⟩
  · go_enter Try.func12, Try.ntmps12
    go_wp2
    go_ret
    exact ⟨ret_int (by simp [bindsI, h]), rfl⟩

theorem leaf_any (k : Int) (w : World) :
    Calls Try.prog 13 #[.int .i64 k] w fun e w' => e = .returned (.bool (kidsI k == 0)) ∧ w = w' := by
  go_enter Try.func13, Try.ntmps13
  go_wp2_with (go_at_call 9; refine (kids_any _ _).mono ?_; rintro e w' ⟨rfl, rfl⟩)
  go_ret
  exact ⟨rfl, rfl⟩

theorem canon_any (k : Int) (w : World) :
    Calls Try.prog 15 #[.int .i64 k] w fun e w' => e = .returned (.bool (canonB k)) ∧ w = w' := by
  go_enter Try.func15, Try.ntmps15
  go_wp2
  all_goals go_ret
  all_goals exact ⟨by simp only [beq_iff_eq, beq_eq_false_iff_ne, ne_eq] at *; simp [canonB, *], rfl⟩

theorem rletter_any (k : Int) (w : World) :
    Calls Try.prog 8 #[.int .i64 k] w fun e w' => e = .returned (.int .u8 (letterI k)) ∧ w = w' := by
  go_enter Try.func8, Try.ntmps8
  go_wp2
  all_goals go_ret
  all_goals exact ⟨ret_int (by simp only [beq_iff_eq, beq_eq_false_iff_ne, ne_eq] at *; simp [letterI, *]), rfl⟩

theorem known_yes (k : Int) (h : 1 ≤ k ∧ k ≤ 13) (w : World) :
    Calls Try.prog 18 #[.int .i64 k] w fun e w' => e = .returned (.bool true) ∧ w = w' := by
  obtain ⟨h1, h2⟩ := h
  go_enter Try.func18, Try.ntmps18
  go_wp2
  go_ret
  exact ⟨by simp [*], rfl⟩

theorem known_no (k : Int) (h : ¬ (1 ≤ k ∧ k ≤ 13)) (w : World) :
    Calls Try.prog 18 #[.int .i64 k] w fun e w' => e = .returned (.bool false) ∧ w = w' := by
  by_cases h1 : 1 ≤ k
  · have h2 : 13 < k := by omega
    clear h
    go_enter Try.func18, Try.ntmps18
    go_wp2
    go_ret
    exact ⟨by simp [*], rfl⟩
  · clear h
    go_enter Try.func18, Try.ntmps18
    go_wp2
    go_ret
    exact ⟨rfl, rfl⟩

theorem letterI_no (k : Int) (h : ¬ (1 ≤ k ∧ k ≤ 13)) : letterI k = 0 := by
  unfold letterI; repeat rw [if_neg (by omega)]

theorem letter_no (k : Int) (h : ¬ (1 ≤ k ∧ k ≤ 13)) (w : World) :
    Calls Try.prog 14 #[.int .i64 k] w fun e w' => e = .returned (.int .u8 (letterI k)) ∧ w = w' := by
  rw [letterI_no k h]
  go_enter Try.func14, Try.ntmps14
  go_wp2_with (go_at_call 18; refine (known_no _ h _).mono ?_; rintro e w' ⟨rfl, rfl⟩)
  go_ret
  exact ⟨rfl, rfl⟩

theorem letter_yes (k : Int) (h : 1 ≤ k ∧ k ≤ 13) (w : World) :
    Calls Try.prog 14 #[.int .i64 k] w fun e w' => e = .returned (.int .u8 (letterI k)) ∧ w = w' := by
  obtain rfl | rfl | rfl | rfl | rfl | rfl | rfl | rfl | rfl | rfl | rfl | rfl | rfl : k = 1 ∨ k = 2 ∨ k = 3 ∨ k = 4 ∨ k = 5 ∨ k = 6 ∨ k = 7 ∨ k = 8 ∨ k = 9 ∨ k = 10 ∨ k = 11 ∨ k = 12 ∨ k = 13 := by omega
  all_goals
    clear h
    go_enter Try.func14, Try.ntmps14
    go_wp2_with (go_at_call 18; refine (known_yes _ (by omega) _).mono ?_; rintro e w' ⟨rfl, rfl⟩)
    go_ret
    exact ⟨rfl, rfl⟩

theorem letter_any (k : Int) (w : World) :
    Calls Try.prog 14 #[.int .i64 k] w fun e w' => e = .returned (.int .u8 (letterI k)) ∧ w = w' := by
  by_cases h : 1 ≤ k ∧ k ≤ 13
  · exact letter_yes k h w
  · exact letter_no k h w

theorem sindex_any (s : ByteArray) (c : Int) (w : World) :
    Calls Try.prog 19 #[.string s, .int .u8 c] w fun e w' => e = .returned (.int .i64 (Lib.indexByte s.data.toList c.toNat.toUInt8)) ∧ w = w' := by
  go_enter Try.func19, Try.ntmps19
  go_wp2
  rw [run_callFunc_extern Try.func20 (by kernel_rfl) (by kernel_rfl) (by kernel_rfl) (e := Extern.BytealgIndexByte.indexByte) (by kernel_rfl), Lib.run_indexByteString]
  simp only [Result.andThen]
  rw [Oper.upon_value]
  go_wp2
  go_ret
  exact ⟨rfl, rfl⟩

theorem index_any (s : ByteArray) (c : Int) (w : World) :
    Calls Try.prog 17 #[.string s, .int .u8 c] w fun e w' => e = .returned (.int .i64 (Lib.indexByte s.data.toList c.toNat.toUInt8)) ∧ w = w' := by
  go_enter Try.func17, Try.ntmps17
  go_wp2_with (go_at_call 19; refine (sindex_any _ _ _).mono ?_; rintro e w' ⟨rfl, rfl⟩)
  go_ret
  exact ⟨rfl, rfl⟩

/-- the kind of a letter; 0: none -/
def ofI (c : Int) : Int := Lib.indexByte lets c.toNat.toUInt8 + 1
def ofB (c : Int) : Bool := decide (1 ≤ ofI c)

theorem index_lt (l : List UInt8) (c : UInt8) : Lib.indexByte l c < l.length := by
  induction l with
  | nil => simp [Lib.indexByte]
  | cons b l ih =>
    unfold Lib.indexByte
    simp only [List.length_cons]
    split
    · omega
    · split <;> omega

theorem ofI_range (c : Int) : 0 ≤ ofI c ∧ ofI c ≤ 13 := by
  have h1 := Lib.indexByte_ge lets c.toNat.toUInt8
  have h2 := index_lt lets c.toNat.toUInt8
  have h3 : lets.length = 13 := rfl
  unfold ofI
  omega

theorem letter_of_nat : ∀ n : Fin 256, ∀ x : Fin 14, 1 ≤ x.val → (letterI x.val == (n.val : Int)) = (ofI n.val == (x.val : Int)) := by decide +kernel

theorem kidsI_no (k : Int) (h : ¬ (1 ≤ k ∧ k ≤ 13)) : kidsI k = -1 := by
  unfold kidsI; repeat rw [if_neg (by omega)]
theorem thirteen (x : Int) (h : 1 ≤ x ∧ x ≤ 13) : x = 1 ∨ x = 2 ∨ x = 3 ∨ x = 4 ∨ x = 5 ∨ x = 6 ∨ x = 7 ∨ x = 8 ∨ x = 9 ∨ x = 10 ∨ x = 11 ∨ x = 12 ∨ x = 13 := by omega
theorem kidsI_yes (k : Int) (h : 1 ≤ k ∧ k ≤ 13) : 0 ≤ kidsI k ∧ kidsI k ≤ 3 := by
  obtain rfl | rfl | rfl | rfl | rfl | rfl | rfl | rfl | rfl | rfl | rfl | rfl | rfl := thirteen k h
  all_goals decide

/-- letters and kinds: the x-th letter is c just if c's kind is x -/
theorem letter_of (x c : Int) (hx : 1 ≤ x ∧ x ≤ 13) (hc : 0 ≤ c ∧ c ≤ 255) : (letterI x == c) = (ofI c == x) := by
  have h := letter_of_nat ⟨c.toNat, by omega⟩ ⟨x.toNat, by omega⟩ (by simp only; omega)
  have h1 : ((x.toNat : Nat) : Int) = x := by omega
  have h2 : ((c.toNat : Nat) : Int) = c := by omega
  simpa only [h1, h2] using h

theorem letters_apart : ∀ x : Fin 14, ∀ y : Fin 14, 1 ≤ x.val → 1 ≤ y.val → (letterI x.val == letterI y.val) = ((x.val : Int) == (y.val : Int)) := by decide +kernel

theorem letter_range (x : Int) : 0 ≤ letterI x ∧ letterI x ≤ 255 := by
  by_cases h : 1 ≤ x ∧ x ≤ 13
  · obtain rfl | rfl | rfl | rfl | rfl | rfl | rfl | rfl | rfl | rfl | rfl | rfl | rfl : x = 1 ∨ x = 2 ∨ x = 3 ∨ x = 4 ∨ x = 5 ∨ x = 6 ∨ x = 7 ∨ x = 8 ∨ x = 9 ∨ x = 10 ∨ x = 11 ∨ x = 12 ∨ x = 13 := by omega
    all_goals decide
  · rw [letterI_no x h]; decide

theorem of_any (c : Int) (w : World) :
    Calls Try.prog 7 #[.int .u8 c] w fun e w' => e = .returned (.tuple #[.int .i64 (ofI c), .bool (ofB c)]) ∧ w = w' := by
  have h1 := Lib.indexByte_ge lets c.toNat.toUInt8
  have h2 := index_lt lets c.toNat.toUInt8
  have h3 : lets.length = 13 := rfl
  have hcall : ∀ w : World, Calls Try.prog 17 #[.string { data := #[118, 117, 99, 112, 108, 97, 115, 111, 102, 103, 105, 114, 106] }, .int .u8 c] w fun e w' => e = .returned (.int .i64 (Lib.indexByte lets c.toNat.toUInt8)) ∧ w = w' := fun w => index_any _ _ _
  unfold ofB ofI
  generalize Lib.indexByte lets c.toNat.toUInt8 = n at *
  have H := Lib.hid hcall; clear hcall
  have h4 : n < 13 := by omega
  clear h2 h3
  by_cases h : n < 0
  · obtain rfl : n = -1 := by omega
    go_enter Try.func7, Try.ntmps7
    go_wp2_with (go_at_call 17; refine (H.out _).mono ?_; rintro e w' ⟨rfl, rfl⟩)
    go_ret2
    exact ⟨rfl, rfl⟩
  · go_enter Try.func7, Try.ntmps7
    go_wp2_with (go_at_call 17; refine (H.out _).mono ?_; rintro e w' ⟨rfl, rfl⟩)
    go_ret2
    have e1 : decide (1 ≤ n + 1) = true := by simp; omega
    exact ⟨by rw [e1, Int.add_comm n 1]; rfl, rfl⟩

theorem q_same {P : Program} {f : FuncId} {args : Array Value} {w : World} {n : Nat} {v : Value}
    (h : Calls P f args (w.drewN n) fun e w' => e = .returned v ∧ w.drewN n = w') : Calls P f args (w.drewN n) fun e w'' => e = .returned v ∧ ∃ m, w'' = w.drewN m :=
  h.mono fun _ _ ⟨he, hm⟩ => ⟨he, n, hm.symm⟩

theorem wakes_any (w : World) :
    Calls Try.prog 16 #[] w fun e w' => e = .returned (.bool true) ∧ w = w' := by
  have c1 : Hid (∀ w : World, Calls Try.prog 7 #[.int .u8 106] w fun e w' => e = .returned (.tuple #[.int .i64 13, .bool true]) ∧ w = w') := Lib.hid (fun w => of_any 106 w)
  have c2 : Hid (∀ w : World, Calls Try.prog 9 #[.int .i64 13] w fun e w' => e = .returned (.int .i64 3) ∧ w = w') := Lib.hid (fun w => kids_any 13 w)
  have c3 : Hid (∀ w : World, Calls Try.prog 14 #[.int .i64 13] w fun e w' => e = .returned (.int .u8 106) ∧ w = w') := Lib.hid (fun w => letter_any 13 w)
  have c4 : Hid (∀ w : World, Calls Try.prog 13 #[.int .i64 1] w fun e w' => e = .returned (.bool true) ∧ w = w') := Lib.hid (fun w => leaf_any 1 w)
  have c5 : Hid (∀ w : World, Calls Try.prog 11 #[.int .i64 5, .int .i64 1] w fun e w' => e = .returned (.int .i64 1) ∧ w = w') := Lib.hid (fun w => binds_any 5 1 w)
  have c6 : Hid (∀ w : World, Calls Try.prog 15 #[.int .i64 5] w fun e w' => e = .returned (.bool true) ∧ w = w') := Lib.hid (fun w => canon_any 5 w)
  go_enter Try.func16, Try.ntmps16
  go_wp2_with (first
    | (go_at_call 7; refine (c1.out _).mono ?_; rintro e w' ⟨rfl, rfl⟩)
    | (go_at_call 9; refine (c2.out _).mono ?_; rintro e w' ⟨rfl, rfl⟩)
    | (go_at_call 14; refine (c3.out _).mono ?_; rintro e w' ⟨rfl, rfl⟩)
    | (go_at_call 13; refine (c4.out _).mono ?_; rintro e w' ⟨rfl, rfl⟩)
    | (go_at_call 11; refine (c5.out _).mono ?_; rintro e w' ⟨rfl, rfl⟩)
    | (go_at_call 15; refine (c6.out _).mono ?_; rintro e w' ⟨rfl, rfl⟩))
  go_ret
  exact ⟨rfl, rfl⟩
end Go.Proofs.Ytihbjoklppobhaa
