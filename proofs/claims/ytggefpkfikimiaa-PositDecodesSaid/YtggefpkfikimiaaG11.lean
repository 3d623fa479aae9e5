/- Terms put for variables: mathematics alone. -/
import Derived.Test.YtggefpkfikimiaaG05
import Derived.Test.YtggefpkfikimiaaG10
namespace Go.Proofs.Ytggefpkfikimiaa
open Go.RowKit
set_option linter.unusedVariables false

/-- What is put for the variable n, under u. -/
def argA (A : List Tm) (u n : Int) : Tm := A[A.length - 1 - (n - u).toNat]?.getD noT
mutual
def putT (A : List Tm) : Tm → Int → Tm
  | .node k n l, u => if k = 1 ∧ u + A.length ≤ n then .node k (n - A.length) (putL A l k u 0) else if k = 1 ∧ u ≤ n then moveT (argA A u n) u 0 else .node k n (putL A l k u 0)
def putL (A : List Tm) : List Tm → Int → Int → Nat → List Tm | [], _, _, _ => [] | t :: l, k, u, i => putT A t (u + bindsI k i) :: putL A l k u (i + 1)
end
mutual
/-- Does a shift go beyond? -/
def putO (A : List Tm) : Tm → Int → Bool
  | .node k n l, u => if k = 1 ∧ u + A.length ≤ n then false else if k = 1 ∧ u ≤ n then overB (moveT (argA A u n) u 0) else putOL A l k u 0
def putOL (A : List Tm) : List Tm → Int → Int → Nat → Bool | [], _, _, _ => false | t :: l, k, u, i => putO A t (u + bindsI k i) || putOL A l k u (i + 1)
end
def argsE : List Tm → Int | [] => 0 | a :: l => if checkE a ≠ 0 then checkE a else argsE l
/-- Inst's error. -/
def instE (t : Tm) (A : List Tm) (u : Int) : Int := if checkE t ≠ 0 then checkE t else if argsE A ≠ 0 then argsE A else if ¬ inR u then 1 else if putO A t u = true then 6 else if 6000 < size (putT A t u) then 4 else if 200 < depth (putT A t u) then 5 else 0
def instT (t : Tm) (A : List Tm) (u : Int) : Tm := if instE t A u = 0 then putT A t u else noT
def sizeOfN (t : Tm) (A : List Tm) (u : Int) : Nat := if checkE t = 0 ∧ argsE A = 0 ∧ inR u then min (size (putT A t u)) 1099511627776 else 0

theorem putT_eq (A : List Tm) (t : Tm) (u : Int) : putT A t u = if t.k = 1 ∧ u + A.length ≤ t.n then .node t.k (t.n - A.length) (putL A t.kids t.k u 0) else if t.k = 1 ∧ u ≤ t.n then moveT (argA A u t.n) u 0 else .node t.k t.n (putL A t.kids t.k u 0) := by cases t; rfl
theorem putO_eq (A : List Tm) (t : Tm) (u : Int) : putO A t u = if t.k = 1 ∧ u + A.length ≤ t.n then false else if t.k = 1 ∧ u ≤ t.n then overB (moveT (argA A u t.n) u 0) else putOL A t.kids t.k u 0 := by cases t; rfl
theorem putL_length (A : List Tm) : ∀ (l : List Tm) (k u : Int) (i : Nat), (putL A l k u i).length = l.length
  | [], k, u, i => rfl
  | t :: l, k, u, i => by rw [putL, List.length_cons, List.length_cons, putL_length A l]
theorem putL_get (A : List Tm) : ∀ (l : List Tm) (k u : Int) (i j : Nat) (h : j < l.length), (putL A l k u i)[j]? = some (putT A l[j] (u + bindsI k ((i + j : Nat) : Int)))
  | t :: l, k, u, i, 0, h => by simp [putL]
  | t :: l, k, u, i, j + 1, h => by
    have := putL_get A l k u (i + 1) j (by simpa using h)
    rw [putL, List.getElem?_cons_succ, this]
    simp only [List.getElem_cons_succ]
    congr 4
    omega
theorem putL_append (A : List Tm) : ∀ (a b : List Tm) (k u : Int) (i : Nat), putL A (a ++ b) k u i = putL A a k u i ++ putL A b k u (i + a.length)
  | [], b, k, u, i => by simp [putL]
  | t :: a, b, k, u, i => by
    rw [List.cons_append, putL, putL, putL_append A a b, List.cons_append, List.length_cons]
    congr 3
    omega
theorem putL_take_succ (A : List Tm) {l : List Tm} {j : Nat} (h : j < l.length) (k u : Int) : putL A (l.take (j + 1)) k u 0 = putL A (l.take j) k u 0 ++ [putT A l[j] (u + bindsI k j)] := by
  rw [List.take_succ_eq_append_getElem h, putL_append]
  simp [putL, Nat.min_eq_left (Nat.le_of_lt h)]
theorem putOL_append (A : List Tm) : ∀ (a b : List Tm) (k u : Int) (i : Nat), putOL A (a ++ b) k u i = (putOL A a k u i || putOL A b k u (i + a.length))
  | [], b, k, u, i => by simp [putOL]
  | t :: a, b, k, u, i => by
    rw [List.cons_append, putOL, putOL, putOL_append A a b, List.length_cons, Bool.or_assoc]
    congr 3
    omega
theorem putOL_take_succ (A : List Tm) {l : List Tm} {j : Nat} (h : j < l.length) (k u : Int) : putOL A (l.take (j + 1)) k u 0 = (putOL A (l.take j) k u 0 || putO A l[j] (u + bindsI k j)) := by
  rw [List.take_succ_eq_append_getElem h, putOL_append]
  simp [putOL, Nat.min_eq_left (Nat.le_of_lt h)]
/-- What is put for variables. -/
theorem arg_one (a : Tm) (u : Int) : argA [a] u u = a := by simp [argA]
theorem arg_last (A : List Tm) (a : Tm) (u : Int) : argA (A ++ [a]) u u = a := by simp [argA]
theorem arg_snoc (A : List Tm) (a : Tm) {u n : Int} (h1 : u < n) (h2 : n ≤ u + A.length) : argA (A ++ [a]) u n = argA A u (n - 1) := by
  unfold argA
  obtain ⟨d, hd⟩ : ∃ d : Nat, n - u = ((d + 1 : Nat) : Int) := ⟨(n - u - 1).toNat, by omega⟩
  have e1 : (n - u).toNat = d + 1 := by omega
  have e2 : (n - 1 - u).toNat = d := by omega
  rw [e1, e2, List.length_append, List.length_singleton, List.getElem?_append_left (by omega), show A.length + 1 - 1 - (d + 1) = A.length - 1 - d by omega]
theorem arg_mem {A : List Tm} {u n : Int} (h1 : u ≤ n) (h2 : n < u + A.length) : argA A u n ∈ A := by
  unfold argA
  have hlt : A.length - 1 - (n - u).toNat < A.length := by omega
  rw [List.getElem?_eq_getElem hlt]
  exact List.getElem_mem hlt

mutual
/-- What stands free of the variables is lowered. -/
theorem put_free (A : List Tm) {u : Int} (hu : 0 ≤ u) : ∀ (t : Tm) (d : Int), putT A (mapT (mv (A.length + u)) t d) (u + d) = mapT (mv u) t d
  | .node k n l, d => by
    rw [mapT, mapT, putT, put_freeL A hu l k d 0]
    by_cases hk : k = 1
    · rw [if_pos hk, if_pos hk]
      unfold mv
      by_cases hn : d ≤ n
      · rw [if_pos hn, if_pos hn, if_pos ⟨hk, by omega⟩]
        congr 1
        omega
      · rw [if_neg hn, if_neg hn, if_neg (by omega), if_neg (by omega)]
    · rw [if_neg hk, if_neg hk, if_neg (fun h => hk h.1), if_neg (fun h => hk h.1)]
theorem put_freeL (A : List Tm) {u : Int} (hu : 0 ≤ u) : ∀ (l : List Tm) (k d : Int) (i : Nat), putL A (mapL (mv (A.length + u)) l k d i) k (u + d) i = mapL (mv u) l k d i
  | [], _, _, _ => rfl
  | t :: l, k, d, i => by
    rw [mapL, mapL, putL, put_freeL A hu l, show u + d + bindsI k i = u + (d + bindsI k i) by omega, put_free A hu t]
end
mutual
/-- The last one first, or all at once. -/
theorem put_one (A : List Tm) (a : Tm) : ∀ (t : Tm) (u : Int), 0 ≤ u → putT A (putT [moveT a A.length 0] t u) u = putT (A ++ [a]) t u
  | .node k n l, u, hu => by
    have hl := put_oneL A a l k u 0 hu
    rw [putT, putT, List.length_append]
    simp only [List.length_singleton]
    by_cases hk : k = 1
    · by_cases h1 : u + ((A.length + 1 : Nat) : Int) ≤ n
      · rw [if_pos ⟨hk, by omega⟩, if_pos ⟨hk, h1⟩, putT, if_pos ⟨hk, by omega⟩, hl]
        congr 1
        omega
      · rw [if_neg (fun h => h1 h.2) (c := k = 1 ∧ u + ((A.length + 1 : Nat) : Int) ≤ n)]
        by_cases h2 : u ≤ n
        · rw [if_pos ⟨hk, h2⟩ (c := k = 1 ∧ u ≤ n)]
          by_cases h3 : u = n
          · subst h3
            rw [if_neg (by omega), if_pos ⟨hk, Int.le_refl _⟩, arg_one, arg_last]
            have := put_free A hu a 0
            rw [Int.add_zero] at this
            rw [move_add a (by omega)]
            exact this
          · rw [if_pos ⟨hk, by omega⟩, if_pos ⟨hk, h2⟩, putT, if_neg (by omega), if_pos ⟨hk, by omega⟩, arg_snoc A a (by omega) (by omega)]
            rfl
        · rw [if_neg (fun h => h2 h.2) (c := k = 1 ∧ u ≤ n), if_neg (by omega), if_neg (fun h => h2 h.2), putT, if_neg (by omega), if_neg (fun h => h2 h.2), hl]
    · rw [if_neg (fun h => hk h.1), if_neg (fun h => hk h.1), if_neg (fun h => hk h.1), if_neg (fun h => hk h.1), putT, if_neg (fun h => hk h.1), if_neg (fun h => hk h.1), hl]
theorem put_oneL (A : List Tm) (a : Tm) : ∀ (l : List Tm) (k u : Int) (i : Nat), 0 ≤ u → putL A (putL [moveT a A.length 0] l k u i) k u i = putL (A ++ [a]) l k u i
  | [], _, _, _, _ => rfl
  | t :: l, k, u, i, hu => by
    have := (bindsI_range k i).1
    rw [putL, putL, putL, put_oneL A a l k u (i + 1) hu, put_one A a t _ (by omega)]
end
mutual
/-- What was shifted by as many is itself again. -/
theorem put_shifted (A : List Tm) : ∀ (t : Tm) (u : Int), putT A (mapT (mv A.length) t u) u = t
  | .node k n l, u => by
    rw [mapT, putT, put_shiftedL A l k u 0]
    by_cases hk : k = 1
    · rw [if_pos hk]
      unfold mv
      by_cases hn : u ≤ n
      · rw [if_pos hn, if_pos ⟨hk, by omega⟩]
        congr 1
        omega
      · rw [if_neg hn, if_neg (by omega), if_neg (by omega)]
    · rw [if_neg hk, if_neg (fun h => hk h.1), if_neg (fun h => hk h.1)]
theorem put_shiftedL (A : List Tm) : ∀ (l : List Tm) (k u : Int) (i : Nat), putL A (mapL (mv A.length) l k u i) k u i = l
  | [], _, _, _ => rfl
  | t :: l, k, u, i => by rw [mapL, putL, put_shiftedL A l, put_shifted A t]
end
mutual
/-- A variable that isn't there. -/
theorem put_none (a : Tm) : ∀ (t : Tm) (u : Int), countT t u = 0 → putT [a] t u = mapT ls t u
  | .node k n l, u, h => by
    rw [countT] at h
    rw [mapT, putT, put_noneL a l k u 0 (by omega)]
    simp only [List.length_singleton]
    by_cases hk : k = 1
    · rw [if_pos hk]
      have hn : n ≠ u := fun hn => by rw [if_pos ⟨hk, hn⟩] at h; omega
      unfold ls
      by_cases h1 : u < n
      · rw [if_pos h1, if_pos ⟨hk, by omega⟩]
        congr 1
      · rw [if_neg h1, if_neg (by omega), if_neg (by omega)]
    · rw [if_neg hk, if_neg (fun h => hk h.1), if_neg (fun h => hk h.1)]
theorem put_noneL (a : Tm) : ∀ (l : List Tm) (k u : Int) (i : Nat), countL l k u i = 0 → putL [a] l k u i = mapL ls l k u i
  | [], _, _, _, _ => rfl
  | t :: l, k, u, i, h => by
    rw [countL] at h
    rw [mapL, putL, put_noneL a l k u (i + 1) (by omega), put_none a t _ (by omega)]
end
/-- Shifts one within the other. -/
theorem move_move (t : Tm) {m e : Int} (hm : 0 ≤ m) (he : 0 ≤ e) (b : Int) : mapT (mv b) (moveT t e m) (e + m) = moveT t (e + b) m := by
  unfold moveT
  have := mapT_comp (mv b) (mv e) e t m
  rw [show e + m = m + e by omega, this]
  refine mapT_ext (fun d n => ?_) t m
  unfold mv
  by_cases h : d ≤ n
  · rw [if_pos h, if_pos (by omega), if_pos h]; omega
  · rw [if_neg h, if_neg (by omega), if_neg h]
theorem mv_ge {b d n : Int} (h : d ≤ n) : mv b d n = n + b := by unfold mv; rw [if_pos h]
theorem mv_lt {b d n : Int} (h : n < d) : mv b d n = n := by unfold mv; rw [if_neg (by omega)]
mutual
/-- Put in and shifted, or shifted and put in. -/
theorem put_shift (a : Tm) {b : Int} (hb : 0 ≤ b) : ∀ (t : Tm) (d : Int), 0 ≤ d → mapT (mv b) (putT [a] t d) d = putT [moveT a b 0] (mapT (mv b) t (1 + d)) d
  | .node k n l, d, hd => by
    have hl := put_shiftL a hb l k d 0 hd
    rw [mapT, putT, putT]
    simp only [List.length_singleton]
    by_cases hk : k = 1
    · rw [if_pos hk]
      by_cases h1 : d + 1 ≤ n
      · rw [if_pos ⟨hk, by omega⟩, mv_ge (by omega : 1 + d ≤ n), if_pos ⟨hk, by omega⟩, mapT, if_pos hk, hl, mv_ge (by omega)]
        congr 1
        omega
      · by_cases h2 : d = n
        · subst h2
          rw [if_neg (by omega), if_pos ⟨hk, Int.le_refl _⟩, mv_lt (by omega : d < 1 + d), if_neg (by omega), if_pos ⟨hk, Int.le_refl _⟩, arg_one, arg_one]
          have := move_swap a (a := d) (b := b) (i := 0) (k := 0) hd hb (Int.le_refl _)
          rw [show (0 : Int) + 0 + d = d by omega, show (0 : Int) + 0 = 0 by omega] at this
          exact this
        · rw [if_neg (by omega), if_neg (by omega), mv_lt (by omega : n < 1 + d), if_neg (by omega), if_neg (by omega), mapT, if_pos hk, hl, mv_lt (by omega)]
    · rw [if_neg hk, if_neg (fun h => hk h.1), if_neg (fun h => hk h.1), if_neg (fun h => hk h.1), if_neg (fun h => hk h.1), mapT, if_neg hk, hl]
theorem put_shiftL (a : Tm) {b : Int} (hb : 0 ≤ b) : ∀ (l : List Tm) (k d : Int) (i : Nat), 0 ≤ d → mapL (mv b) (putL [a] l k d i) k d i = putL [moveT a b 0] (mapL (mv b) l k (1 + d) i) k d i
  | [], _, _, _, _ => rfl
  | t :: l, k, d, i, hd => by
    have := (bindsI_range k i).1
    rw [mapL, putL, putL, mapL, put_shiftL a hb l k d (i + 1) hd, put_shift a hb t _ (by omega), show 1 + d + bindsI k i = 1 + (d + bindsI k i) by omega]
end
end Go.Proofs.Ytggefpkfikimiaa
/- Terms put for variables, more: one behind the other, closed terms, scopes, counts. Mathematics alone. -/
namespace Go.Proofs.Ytggefpkfikimiaa
open Go.RowKit
set_option linter.unusedVariables false

theorem arg_eq (A : List Tm) {u n u' n' : Int} (h : n - u = n' - u') : argA A u n = argA A u' n' := by unfold argA; rw [h]
mutual
/-- Put in under so many, and shifted by them. -/
theorem put_move (A : List Tm) {d : Int} (hd : 0 ≤ d) : ∀ (t : Tm) (e : Int), 0 ≤ e → putT A (mapT (mv d) t e) (d + e) = mapT (mv d) (putT A t e) e
  | .node k n l, e, he => by
    have hl := put_moveL A hd l k e 0 he
    rw [mapT, putT, putT]
    by_cases hk : k = 1
    · rw [if_pos hk]
      by_cases h1 : e + A.length ≤ n
      · rw [mv_ge (by omega : e ≤ n), if_pos ⟨hk, by omega⟩, if_pos ⟨hk, h1⟩, mapT, if_pos hk, mv_ge (by omega), hl]
        congr 1
        omega
      · by_cases h2 : e ≤ n
        · rw [mv_ge h2, if_neg (by omega), if_pos ⟨hk, by omega⟩, if_neg (fun h => h1 h.2), if_pos ⟨hk, h2⟩, arg_eq A (u := d + e) (n := n + d) (u' := e) (n' := n) (by omega)]
          have := move_move (argA A e n) (m := 0) (Int.le_refl _) he d
          rw [Int.add_zero] at this
          rw [this, show d + e = e + d by omega]
        · rw [mv_lt (by omega : n < e), if_neg (by omega), if_neg (by omega), if_neg (by omega), if_neg (by omega), mapT, if_pos hk, mv_lt (by omega), hl]
    · rw [if_neg hk, if_neg (fun h => hk h.1), if_neg (fun h => hk h.1), if_neg (fun h => hk h.1), if_neg (fun h => hk h.1), mapT, if_neg hk, hl]
theorem put_moveL (A : List Tm) {d : Int} (hd : 0 ≤ d) : ∀ (l : List Tm) (k e : Int) (i : Nat), 0 ≤ e → putL A (mapL (mv d) l k e i) k (d + e) i = mapL (mv d) (putL A l k e i) k e i
  | [], _, _, _, _ => rfl
  | t :: l, k, e, i, he => by
    have := (bindsI_range k i).1
    rw [mapL, putL, putL, mapL, put_moveL A hd l k e (i + 1) he, show d + e + bindsI k i = d + (e + bindsI k i) by omega, put_move A hd t _ (by omega)]
end
mutual
/-- Two, one behind the other. -/
theorem put_twice (a b : Tm) : ∀ (t : Tm) (d : Int), 0 ≤ d → putT [b] (putT [a] t d) d = putT [b, putT [b] a 0] t d
  | .node k n l, d, hd => by
    have hl := put_twiceL a b l k d 0 hd
    rw [putT, putT]
    simp only [List.length_cons, List.length_nil, Nat.zero_add]
    by_cases hk : k = 1
    · by_cases h1 : d + 2 ≤ n
      · rw [if_pos ⟨hk, by omega⟩, if_pos ⟨hk, by omega⟩, putT, if_pos ⟨hk, by simp; omega⟩, hl]
        congr 1
        simp; omega
      · by_cases h2 : n = d + 1
        · subst h2
          rw [if_pos ⟨hk, by omega⟩, if_neg (by omega), if_pos ⟨hk, by omega⟩, putT, if_neg (by simp; omega), if_pos ⟨hk, by omega⟩, arg_eq [b] (u := d) (n := d + 1 - ((1 : Nat) : Int)) (u' := 0) (n' := 0) (by omega), arg_one]
          have e1 : argA [b, putT [b] a 0] d (d + 1) = b := by
            unfold argA
            rw [show d + 1 - d = 1 by omega]
            rfl
          rw [e1]
        · by_cases h3 : n = d
          · subst h3
            rw [if_neg (by omega), if_pos ⟨hk, Int.le_refl _⟩, if_neg (by omega), if_pos ⟨hk, Int.le_refl _⟩, arg_one]
            have e1 : argA [b, putT [b] a 0] n n = putT [b] a 0 := arg_last [b] _ n
            rw [e1]
            have := put_move [b] hd a 0 (Int.le_refl _)
            rw [Int.add_zero] at this
            exact this
          · rw [if_neg (by omega), if_neg (by omega), if_neg (by omega), if_neg (by omega), putT, if_neg (by simp; omega), if_neg (by omega), hl]
    · rw [if_neg (fun h => hk h.1), if_neg (fun h => hk h.1), if_neg (fun h => hk h.1), if_neg (fun h => hk h.1), putT, if_neg (fun h => hk h.1), if_neg (fun h => hk h.1), hl]
theorem put_twiceL (a b : Tm) : ∀ (l : List Tm) (k d : Int) (i : Nat), 0 ≤ d → putL [b] (putL [a] l k d i) k d i = putL [b, putT [b] a 0] l k d i
  | [], _, _, _, _ => rfl
  | t :: l, k, d, i, hd => by
    have := (bindsI_range k i).1
    rw [putL, putL, putL, put_twiceL a b l k d (i + 1) hd, put_twice a b t _ (by omega)]
end
mutual
theorem put_nil : ∀ (t : Tm) (u : Int), putT [] t u = t
  | .node k n l, u => by
    rw [putT, put_nilL l k u 0]
    simp only [List.length_nil]
    by_cases h : k = 1 ∧ u ≤ n
    · rw [if_pos ⟨h.1, by omega⟩]
      congr 1
      omega
    · rw [if_neg (fun hh => h ⟨hh.1, by omega⟩), if_neg h]
theorem put_nilL : ∀ (l : List Tm) (k u : Int) (i : Nat), putL [] l k u i = l
  | [], _, _, _ => rfl
  | t :: l, k, u, i => by rw [putL, put_nilL l, put_nil t]
end
mutual
/-- What is closed is never changed. -/
theorem put_closed (A : List Tm) {c : Int} : ∀ (t : Tm) (u : Int), formedB t = true → scopedT t u c = true → putT A t u = t ∧ putO A t u = false
  | .node k n l, u, hf, h => by
    rw [formedB, Bool.and_eq_true, Bool.and_eq_true, decide_eq_true_eq] at hf
    obtain ⟨⟨a1, _⟩, a3⟩ := hf
    rw [scopedT] at h
    rw [putT, putO]
    by_cases h1 : k = 1
    · have h0 : l = [] := List.eq_nil_of_length_eq_zero (by rw [h1] at a1; have : kidsI 1 = 0 := by decide
                                                            omega)
      rw [if_pos h1, decide_eq_true_eq] at h
      rw [if_neg (by omega), if_neg (by omega), if_neg (by omega), if_neg (by omega), h0]
      exact ⟨rfl, rfl⟩
    · rw [if_neg h1] at h
      rw [if_neg (fun x => h1 x.1), if_neg (fun x => h1 x.1), if_neg (fun x => h1 x.1), if_neg (fun x => h1 x.1)]
      by_cases h2 : k = 2
      · have h0 : l = [] := List.eq_nil_of_length_eq_zero (by rw [h2] at a1; have : kidsI 2 = 0 := by decide
                                                              omega)
        rw [h0]; exact ⟨rfl, rfl⟩
      · rw [if_neg h2] at h
        by_cases h3 : k = 3
        · have h0 : l = [] := List.eq_nil_of_length_eq_zero (by rw [h3] at a1; have : kidsI 3 = 0 := by decide
                                                                omega)
          rw [h0]; exact ⟨rfl, rfl⟩
        · rw [if_neg h3] at h
          obtain ⟨q1, q2⟩ := put_closedL A l k u 0 a3 h
          rw [q1]; exact ⟨rfl, q2⟩
theorem put_closedL (A : List Tm) {c : Int} : ∀ (l : List Tm) (k u : Int) (i : Nat), formedL l = true → scopedL l k u c i = true → putL A l k u i = l ∧ putOL A l k u i = false
  | [], _, _, _, _, _ => ⟨rfl, rfl⟩
  | t :: l, k, u, i, hf, h => by
    rw [formedL, Bool.and_eq_true] at hf
    rw [scopedL, Bool.and_eq_true] at h
    obtain ⟨q1, q2⟩ := put_closedL A l k u (i + 1) hf.2 h.2
    obtain ⟨q3, q4⟩ := put_closed A t _ hf.1 h.1
    rw [putL, putOL, q1, q2, q3, q4]
    exact ⟨rfl, rfl⟩
end
mutual
/-- No shift where nothing is put. -/
theorem over_shifted (A : List Tm) : ∀ (t : Tm) (u : Int), putO A (mapT (mv A.length) t u) u = false
  | .node k n l, u => by
    rw [mapT, putO, over_shiftedL A l k u 0]
    by_cases hk : k = 1
    · rw [if_pos hk]
      by_cases hn : u ≤ n
      · rw [mv_ge hn, if_pos ⟨hk, by omega⟩]
      · rw [mv_lt (by omega), if_neg (by omega), if_neg (by omega)]
    · rw [if_neg hk, if_neg (fun h => hk h.1), if_neg (fun h => hk h.1)]
theorem over_shiftedL (A : List Tm) : ∀ (l : List Tm) (k u : Int) (i : Nat), putOL A (mapL (mv A.length) l k u i) k u i = false
  | [], _, _, _ => rfl
  | t :: l, k, u, i => by rw [mapL, putOL, over_shiftedL A l, over_shifted A t]; rfl
end
mutual
theorem over_none (a : Tm) : ∀ (t : Tm) (u : Int), countT t u = 0 → putO [a] t u = false
  | .node k n l, u, h => by
    rw [countT] at h
    rw [putO, over_noneL a l k u 0 (by omega)]
    simp only [List.length_singleton]
    by_cases hk : k = 1
    · have hn : n ≠ u := fun hn => by rw [if_pos ⟨hk, hn⟩] at h; omega
      by_cases h1 : u < n
      · rw [if_pos ⟨hk, by omega⟩]
      · rw [if_neg (by omega), if_neg (by omega)]
    · rw [if_neg (fun h => hk h.1), if_neg (fun h => hk h.1)]
theorem over_noneL (a : Tm) : ∀ (l : List Tm) (k u : Int) (i : Nat), countL l k u i = 0 → putOL [a] l k u i = false
  | [], _, _, _, _ => rfl
  | t :: l, k, u, i, h => by
    rw [countL] at h
    rw [putOL, over_noneL a l k u (i + 1) (by omega), over_none a t _ (by omega)]; rfl
end
mutual
/-- What is put in right terms is formed. -/
theorem put_formed (A : List Tm) (hA : ∀ a ∈ A, formedB a = true) : ∀ (t : Tm) (u : Int), 0 ≤ u → formedB t = true → putO A t u = false → formedB (putT A t u) = true
  | .node k n l, u, hu, h, ho => by
    have hf := h
    rw [formedB, Bool.and_eq_true, Bool.and_eq_true, decide_eq_true_eq] at h
    obtain ⟨⟨a1, a2⟩, a3⟩ := h
    rw [putO] at ho
    rw [putT]
    by_cases h1 : k = 1
    · have h0 : l = [] := List.eq_nil_of_length_eq_zero (by rw [h1] at a1; have : kidsI 1 = 0 := by decide
                                                            omega)
      subst h0
      by_cases h2 : u + A.length ≤ n
      · rw [if_pos ⟨h1, h2⟩, putL, formedB]
        rw [if_pos (show ([] : List Tm).length = 0 from rfl)] at a2 ⊢
        simp only [Bool.and_eq_true, decide_eq_true_eq] at a2 ⊢
        exact ⟨⟨a1, by omega, by omega⟩, rfl⟩
      · rw [if_neg (fun h => h2 h.2)] at ho ⊢
        by_cases h3 : u ≤ n
        · rw [if_pos ⟨h1, h3⟩] at ho ⊢
          exact mapT_formed _ (mv_nn hu) _ 0 (hA _ (arg_mem h3 (by omega))) ho
        · rw [if_neg (fun h => h3 h.2)]; exact hf
    · rw [if_neg (fun h => h1 h.1), if_neg (fun h => h1 h.1)] at ho ⊢
      rw [formedB, putL_length, put_formedL A hA l k u 0 hu a3 ho, a2, Bool.and_true, Bool.and_true, decide_eq_true_eq]
      exact a1
theorem put_formedL (A : List Tm) (hA : ∀ a ∈ A, formedB a = true) : ∀ (l : List Tm) (k u : Int) (i : Nat), 0 ≤ u → formedL l = true → putOL A l k u i = false → formedL (putL A l k u i) = true
  | [], _, _, _, _, _, _ => rfl
  | t :: l, k, u, i, hu, h, ho => by
    have := (bindsI_range k i).1
    rw [formedL, Bool.and_eq_true] at h
    rw [putOL, Bool.or_eq_false_iff] at ho
    rw [putL, formedL, put_formed A hA t _ (by omega) h.1 ho.1, put_formedL A hA l k u (i + 1) hu h.2 ho.2]
    rfl
end
end Go.Proofs.Ytggefpkfikimiaa
/- Terms put for variables: counts, sizes, scopes, the variables themselves; Inst's errors. Mathematics alone. -/
namespace Go.Proofs.Ytggefpkfikimiaa
open Go.RowKit
set_option linter.unusedVariables false

theorem formed_var {k n : Int} {l : List Tm} (h : formedB (.node k n l) = true) (hk : k = 1) : l = [] ∧ 0 ≤ n ∧ n ≤ 65535 := by
  rw [formedB, Bool.and_eq_true, Bool.and_eq_true, decide_eq_true_eq] at h
  obtain ⟨⟨a1, a2⟩, _⟩ := h
  have h0 : l = [] := List.eq_nil_of_length_eq_zero (by rw [hk] at a1; have : kidsI 1 = 0 := by decide
                                                        omega)
  subst h0
  rw [if_pos (show ([] : List Tm).length = 0 from rfl)] at a2
  simp only [Bool.and_eq_true, decide_eq_true_eq] at a2
  exact ⟨rfl, a2.1, a2.2⟩
theorem formed_kids {k n : Int} {l : List Tm} (h : formedB (.node k n l) = true) : formedL l = true := by
  rw [formedB, Bool.and_eq_true] at h
  exact h.2
mutual
/-- How often a variable is in the whole. -/
theorem put_count (a : Tm) {n0 : Int} (hn : 0 ≤ n0) : ∀ (t : Tm) (d : Int), 0 ≤ d → formedB t = true → countT (putT [a] t d) (n0 + d) = countT t (n0 + 1 + d) + countT t d * countT a n0
  | .node k n l, d, hd, hf => by
    rw [putT]
    simp only [List.length_singleton]
    by_cases hk : k = 1
    · obtain ⟨rfl, _, _⟩ := formed_var hf hk
      rw [countT, countT, countL, countL]
      by_cases h1 : d + 1 ≤ n
      · rw [if_pos ⟨hk, by omega⟩, putL, countT, countL, if_neg (fun h => by omega) (c := k = 1 ∧ n = d)]
        by_cases h2 : n = n0 + 1 + d
        · rw [if_pos ⟨hk, by omega⟩, if_pos ⟨hk, h2⟩]; omega
        · rw [if_neg (fun h => h2 (by omega)), if_neg (fun h => h2 h.2)]; omega
      · by_cases h2 : n = d
        · subst h2
          rw [if_neg (by omega), if_pos ⟨hk, Int.le_refl _⟩, arg_one, if_neg (by omega), if_pos ⟨hk, rfl⟩]
          have := count_move a (a := n) (f := 0) (n := n0) hd
          rw [if_pos hn] at this
          rw [this]; omega
        · rw [if_neg (by omega), if_neg (by omega), putL, countT, countL, if_neg (by omega), if_neg (by omega), if_neg (fun h => h2 h.2)]; omega
    · rw [if_neg (fun h => hk h.1), if_neg (fun h => hk h.1), countT, countT, countT, if_neg (fun h => hk h.1), if_neg (fun h => hk h.1), if_neg (fun h => hk h.1), Nat.zero_add, Nat.zero_add, Nat.zero_add]
      exact put_countL a hn l k d 0 hd (formed_kids hf)
theorem put_countL (a : Tm) {n0 : Int} (hn : 0 ≤ n0) : ∀ (l : List Tm) (k d : Int) (i : Nat), 0 ≤ d → formedL l = true → countL (putL [a] l k d i) k (n0 + d) i = countL l k (n0 + 1 + d) i + countL l k d i * countT a n0
  | [], _, _, _, _, _ => by simp [putL, countL]
  | t :: l, k, d, i, hd, hf => by
    have := (bindsI_range k i).1
    rw [formedL, Bool.and_eq_true] at hf
    rw [putL, countL, countL, countL, put_countL a hn l k d (i + 1) hd hf.2, show n0 + d + bindsI k i = n0 + (d + bindsI k i) by omega, put_count a hn t _ (by omega) hf.1, show n0 + 1 + (d + bindsI k i) = n0 + 1 + d + bindsI k i by omega, Nat.add_mul]
    omega
end
mutual
theorem put_size1 (a : Tm) : ∀ (t : Tm) (d : Int), formedB t = true → size (putT [a] t d) = size t + countT t d * (size a - 1)
  | .node k n l, d, hf => by
    have hp := size_pos a
    rw [putT]
    simp only [List.length_singleton]
    by_cases hk : k = 1
    · obtain ⟨rfl, _, _⟩ := formed_var hf hk
      rw [countT, countL, size, sizeL]
      by_cases h1 : d + 1 ≤ n
      · rw [if_pos ⟨hk, by omega⟩, putL, size, sizeL, if_neg (fun h => by omega)]; omega
      · by_cases h2 : n = d
        · subst h2
          rw [if_neg (by omega), if_pos ⟨hk, Int.le_refl _⟩, arg_one, if_pos ⟨hk, rfl⟩]
          unfold moveT
          rw [mapT_size]; omega
        · rw [if_neg (by omega), if_neg (by omega), putL, size, sizeL, if_neg (fun h => h2 h.2)]; omega
    · rw [if_neg (fun h => hk h.1), if_neg (fun h => hk h.1), countT, if_neg (fun h => hk h.1), Nat.zero_add, size, size, put_size1L a l k d 0 (formed_kids hf)]
      omega
theorem put_size1L (a : Tm) : ∀ (l : List Tm) (k d : Int) (i : Nat), formedL l = true → sizeL (putL [a] l k d i) = sizeL l + countL l k d i * (size a - 1)
  | [], _, _, _, _ => by simp [putL, sizeL, countL]
  | t :: l, k, d, i, hf => by
    rw [formedL, Bool.and_eq_true] at hf
    rw [putL, sizeL, sizeL, countL, put_size1L a l k d (i + 1) hf.2, put_size1 a t _ hf.1, Nat.add_mul]
    omega
end
mutual
/-- What is put in is in scope of what is left. -/
theorem put_scoped (A : List Tm) {v c : Int} (hv : 0 ≤ v) (hA : ∀ a ∈ A, scopedT a v c = true) : ∀ (t : Tm) (d : Int), 0 ≤ d → formedB t = true → scopedT t (v + A.length + d) c = true → scopedT (putT A t d) (v + d) c = true
  | .node k n l, d, hd, hf, h => by
    rw [scopedT] at h
    rw [putT]
    by_cases h1 : k = 1
    · obtain ⟨rfl, _, _⟩ := formed_var hf h1
      rw [if_pos h1, decide_eq_true_eq] at h
      by_cases h2 : d + A.length ≤ n
      · rw [if_pos ⟨h1, h2⟩, scopedT, if_pos h1, decide_eq_true_eq]; omega
      · rw [if_neg (fun x => h2 x.2)]
        by_cases h3 : d ≤ n
        · rw [if_pos ⟨h1, h3⟩]
          exact move_scoped hd _ v 0 (hA _ (arg_mem h3 (by omega)))
        · rw [if_neg (fun x => h3 x.2), scopedT, if_pos h1, decide_eq_true_eq]; omega
    · rw [if_neg h1] at h
      rw [if_neg (fun x => h1 x.1), if_neg (fun x => h1 x.1), scopedT, if_neg h1]
      by_cases h2 : k = 2
      · rw [if_pos h2] at h ⊢; exact h
      · rw [if_neg h2] at h ⊢
        by_cases h3 : k = 3
        · rw [if_pos h3] at h ⊢; exact h
        · rw [if_neg h3] at h ⊢
          exact put_scopedL A hv hA l k d 0 hd (formed_kids hf) h
theorem put_scopedL (A : List Tm) {v c : Int} (hv : 0 ≤ v) (hA : ∀ a ∈ A, scopedT a v c = true) : ∀ (l : List Tm) (k d : Int) (i : Nat), 0 ≤ d → formedL l = true → scopedL l k (v + A.length + d) c i = true → scopedL (putL A l k d i) k (v + d) c i = true
  | [], _, _, _, _, _, _ => rfl
  | t :: l, k, d, i, hd, hf, h => by
    have := (bindsI_range k i).1
    rw [formedL, Bool.and_eq_true] at hf
    rw [scopedL, Bool.and_eq_true] at h
    rw [putL, scopedL, put_scopedL A hv hA l k d (i + 1) hd hf.2 h.2, Bool.and_true, show v + d + bindsI k i = v + (d + bindsI k i) by omega]
    exact put_scoped A hv hA t _ (by omega) hf.1 (by rw [show v + A.length + (d + bindsI k i) = v + A.length + d + bindsI k i by omega]; exact h.1)
end
end Go.Proofs.Ytggefpkfikimiaa
/- What Inst answers, as mathematics; the facts of layer 5's laws. -/
namespace Go.Proofs.Ytggefpkfikimiaa
open Go.RowKit
set_option linter.unusedVariables false

theorem argsE_ok {A : List Tm} : argsE A = 0 ↔ ∀ a ∈ A, checkE a = 0 := by
  induction A with
  | nil => simp [argsE]
  | cons a A ih =>
    rw [argsE]
    by_cases h : checkE a = 0
    · rw [if_neg (by simpa using h), ih]; simp [h]
    · rw [if_pos h]
      constructor
      · intro hh; exact absurd hh h
      · intro hh; exact absurd (hh a List.mem_cons_self) h
/-- The first that isn't right. -/
theorem argsE_first {A : List Tm} {j : Nat} (h : j < A.length) (h0 : ∀ i (hi : i < j), checkE (A[i]'(by omega)) = 0) (hj : checkE A[j] ≠ 0) : argsE A = checkE A[j] := by
  induction A generalizing j with
  | nil => simp at h
  | cons a A ih =>
    rw [argsE]
    cases j with
    | zero => rw [if_pos (by simpa using hj)]; rfl
    | succ j =>
      have := h0 0 (by omega)
      simp only [List.getElem_cons_zero] at this
      rw [if_neg (by simpa using this)]
      simp only [List.getElem_cons_succ] at hj ⊢
      exact ih (by simpa using h) (fun i hi => by have := h0 (i + 1) (by omega); simpa using this) hj
theorem inst_in {t : Tm} {A : List Tm} {u : Int} (h1 : checkE t = 0) (h2 : argsE A = 0) (h3 : inR u) : instE t A u = if putO A t u = true then 6 else if 6000 < size (putT A t u) then 4 else if 200 < depth (putT A t u) then 5 else 0 := by
  unfold instE
  rw [if_neg (by simpa using h1), if_neg (by simpa using h2), if_neg (by simpa using h3)]
theorem inst_ok {t : Tm} {A : List Tm} {u : Int} : instE t A u = 0 ↔ checkE t = 0 ∧ argsE A = 0 ∧ inR u ∧ putO A t u = false ∧ size (putT A t u) ≤ 6000 ∧ depth (putT A t u) ≤ 200 := by
  constructor
  · intro h
    by_cases h1 : checkE t = 0
    · by_cases h2 : argsE A = 0
      · by_cases h3 : inR u
        · rw [inst_in h1 h2 h3] at h
          by_cases h4 : putO A t u = true
          · rw [if_pos h4] at h; omega
          · rw [if_neg h4] at h
            by_cases h5 : 6000 < size (putT A t u)
            · rw [if_pos h5] at h; omega
            · rw [if_neg h5] at h
              by_cases h6 : 200 < depth (putT A t u)
              · rw [if_pos h6] at h; omega
              · exact ⟨h1, h2, h3, by simpa using h4, by omega, by omega⟩
        · unfold instE at h; rw [if_neg (by simpa using h1), if_neg (by simpa using h2), if_pos h3] at h; omega
      · unfold instE at h; rw [if_neg (by simpa using h1), if_pos h2] at h; exact absurd h h2
    · unfold instE at h; rw [if_pos h1] at h; exact absurd h h1
  · rintro ⟨h1, h2, h3, h4, h5, h6⟩
    rw [inst_in h1 h2 h3, if_neg (by rw [h4]; decide), if_neg (by omega), if_neg (by omega)]
theorem inst_err {t : Tm} {A : List Tm} {u : Int} (h1 : checkE t = 0) (h2 : argsE A = 0) (h3 : inR u) : instE t A u = 0 ∨ instE t A u = 4 ∨ instE t A u = 5 ∨ instE t A u = 6 := by
  rw [inst_in h1 h2 h3]
  split
  · exact .inr (.inr (.inr rfl))
  · split
    · exact .inr (.inl rfl)
    · split
      · exact .inr (.inr (.inl rfl))
      · exact .inl rfl
theorem instT_ok {t : Tm} {A : List Tm} {u : Int} (h : instE t A u = 0) : instT t A u = putT A t u := by rw [instT, if_pos h]
theorem inst_check {t : Tm} {A : List Tm} {u : Int} (h : instE t A u = 0) : checkE (putT A t u) = 0 := by
  obtain ⟨h1, h2, h3, h4, h5, h6⟩ := inst_ok.1 h
  exact check_of h5 h6 (put_formed A (fun a ha => check_formed (argsE_ok.1 h2 a ha)) t u h3.1 (check_formed h1) h4)
theorem args1 {a : Tm} (h : checkE a = 0) : argsE [a] = 0 := argsE_ok.2 fun x hx => by rw [List.mem_singleton.1 hx]; exact h
theorem args2 {a b : Tm} (h : checkE a = 0) (h2 : checkE b = 0) : argsE [a, b] = 0 := argsE_ok.2 fun x hx => by
  rcases List.mem_cons.1 hx with rfl | hx
  · exact h
  · rw [List.mem_singleton.1 hx]; exact h2
theorem in0 : inR 0 := ⟨Int.le_refl _, by omega⟩
/-- InstOne: a step. -/
theorem one_ok {t Y : Tm} {A : List Tm} {i : Nat} (hi : i < A.length) (hY : putT (A.take (i + 1)) Y 0 = putT A t 0) : putT (A.take i) (putT [moveT A[i] i 0] Y 0) 0 = putT A t 0 := by
  have := put_one (A.take i) A[i] Y 0 (Int.le_refl _)
  rw [List.length_take, Nat.min_eq_left (by omega), ← List.take_succ_eq_append_getElem hi, hY] at this
  exact this
/-- InstNone. -/
theorem none_ok {t : Tm} {A : List Tm} {u : Int} (hA : argsE A = 0) (h : shiftE t A.length u = 0) : instE (moveT t A.length u) A u = 0 ∧ putT A (moveT t A.length u) u = t := by
  obtain ⟨h1, h2, h3, h4⟩ := shift_ok.1 h
  obtain ⟨c1, c2, _⟩ := check_parts h1
  have hp : putT A (moveT t A.length u) u = t := put_shifted A t u
  exact ⟨inst_ok.2 ⟨shift_check h, hA, h3, over_shifted A t u, by rw [hp]; exact c1, by rw [hp]; exact c2⟩, hp⟩
theorem none_low {t a : Tm} {u : Int} (ha : checkE a = 0) (h : lowerB t u = true) : instE t [a] u = 0 ∧ putT [a] t u = lessT t u := by
  unfold lowerB at h
  rw [decide_eq_true_eq] at h
  obtain ⟨h1, h2, h3⟩ := h
  obtain ⟨c1, c2, _⟩ := check_parts h1
  have hp : putT [a] t u = lessT t u := put_none a t u h3
  exact ⟨inst_ok.2 ⟨h1, args1 ha, h2, over_none a t u h3, by rw [hp]; unfold lessT; rw [mapT_size]; exact c1, by rw [hp]; unfold lessT; rw [mapT_depth]; exact c2⟩, hp⟩
/-- InstShifts. -/
theorem shifts_ok {t a : Tm} {b : Int} (h1 : instE t [a] 0 = 0) (h2 : shiftE t b 1 = 0) (h3 : shiftE a b 0 = 0) :
    (shiftE (putT [a] t 0) b 0 = 0 ∨ shiftE (putT [a] t 0) b 0 = 6) ∧ (instE (moveT t b 1) [moveT a b 0] 0 = 0 ∨ instE (moveT t b 1) [moveT a b 0] 0 = 6) ∧ moveT (putT [a] t 0) b 0 = putT [moveT a b 0] (moveT t b 1) 0 := by
  obtain ⟨_, q2, _, _⟩ := shift_ok.1 h2
  obtain ⟨_, _, _, _, s1, s2⟩ := inst_ok.1 h1
  have he : moveT (putT [a] t 0) b 0 = putT [moveT a b 0] (moveT t b 1) 0 := by
    have := put_shift a q2.1 t 0 (Int.le_refl _)
    rw [Int.add_zero] at this
    exact this
  refine ⟨?_, ?_, he⟩
  · rw [shift_in (inst_check h1) q2 in0]
    split
    · exact .inr rfl
    · exact .inl rfl
  · rw [inst_in (shift_check h2) (args1 (shift_check h3)) in0, ← he]
    split
    · exact .inr rfl
    · unfold moveT
      rw [mapT_size, mapT_depth, if_neg (by omega), if_neg (by omega)]
      exact .inl rfl
/-- InstKids. -/
theorem put_kids {t : Tm} {A : List Tm} {u : Int} (hf : formedB t = true) (hl : 0 < t.kids.length) : (putT A t u).k = t.k ∧ (putT A t u).n = t.n ∧ (putT A t u).kids = putL A t.kids t.k u 0 ∧ putO A t u = putOL A t.kids t.k u 0 := by
  have hk : t.k ≠ 1 := by
    intro hk
    rw [formedB_eq, Bool.and_eq_true, Bool.and_eq_true, decide_eq_true_eq] at hf
    have := hf.1.1
    rw [hk] at this
    have : kidsI 1 = 0 := by decide
    omega
  rw [putT_eq, putO_eq, if_neg (fun h => hk h.1), if_neg (fun h => hk h.1), if_neg (fun h => hk h.1), if_neg (fun h => hk h.1)]
  exact ⟨rfl, rfl, rfl, rfl⟩
theorem putOL_get {A : List Tm} : ∀ {l : List Tm} {k u : Int} {i j : Nat} (h : j < l.length), putOL A l k u i = false → putO A l[j] (u + bindsI k ((i + j : Nat) : Int)) = false
  | t :: l, k, u, i, 0, h, ho => by
    rw [putOL, Bool.or_eq_false_iff] at ho
    exact ho.1
  | t :: l, k, u, i, j + 1, h, ho => by
    rw [putOL, Bool.or_eq_false_iff] at ho
    have := putOL_get (j := j) (by simpa using h) ho.2
    simp only [List.getElem_cons_succ]
    rw [show i + (j + 1) = i + 1 + j by omega]
    exact this
theorem inst_kids {t : Tm} {A : List Tm} {u : Int} (h : instE t A u = 0) (hu : u ≤ 60) (hl : 0 < t.kids.length) :
    (putT A t u).k = t.k ∧ (putT A t u).kids.length = t.kids.length ∧ ∀ i (hi : i < t.kids.length), (putT A t u).kids[i]? = some (putT A t.kids[i] (u + bindsI t.k i)) ∧ instE t.kids[i] A (u + bindsI t.k i) = 0 := by
  obtain ⟨h1, h2, h3, h4, h5, h6⟩ := inst_ok.1 h
  obtain ⟨p1, _, p2, p3⟩ := put_kids (A := A) (u := u) (check_formed h1) hl
  refine ⟨p1, by rw [p2, putL_length], fun i hi => ?_⟩
  have hg := putL_get A t.kids t.k u 0 i hi
  rw [Nat.zero_add] at hg
  have hr := bindsI_range t.k i
  have u0 := h3.1
  have hm : putT A t.kids[i] (u + bindsI t.k i) ∈ (putT A t u).kids := by rw [p2]; exact List.mem_of_getElem? hg
  have hz := size_le_of_mem hm
  have hz2 := size_eq (putT A t u)
  have hd2 := depth_eq (putT A t u)
  have hd : depth (putT A t.kids[i] (u + bindsI t.k i)) ≤ depthL (putT A t u).kids := by
    obtain ⟨j, hj, he⟩ := List.getElem_of_mem hm
    rw [← he]; exact depth_get hj
  rw [p3] at h4
  have ho := putOL_get hi h4
  rw [Nat.zero_add] at ho
  exact ⟨by rw [p2]; exact hg, inst_ok.2 ⟨check_kid h1 (List.getElem_mem hi), h2, ⟨by omega, by omega⟩, ho, by omega, by omega⟩⟩
/-- InstTwice. -/
theorem twice_put {t a b : Tm} (h1 : instE t [a] 0 = 0) (h2 : instE a [b] 0 = 0) : (instE t [b, putT [b] a 0] 0 = 0 ∨ instE t [b, putT [b] a 0] 0 = 4 ∨ instE t [b, putT [b] a 0] 0 = 5 ∨ instE t [b, putT [b] a 0] 0 = 6) ∧ putT [b] (putT [a] t 0) 0 = putT [b, putT [b] a 0] t 0 := by
  obtain ⟨c1, _, _, _⟩ := inst_ok.1 h1
  obtain ⟨_, c2, _, _⟩ := inst_ok.1 h2
  exact ⟨inst_err c1 (args2 (argsE_ok.1 c2 b List.mem_cons_self) (inst_check h2)) in0, put_twice a b t 0 (Int.le_refl _)⟩
/-- InstCounts. -/
theorem icounts_ok {t a : Tm} {n : Int} (h : instE t [a] 0 = 0) (hn : 0 ≤ n) (hn2 : n ≤ 19) :
    cntE (putT [a] t 0) n = cntE t (n + 1) + cntE t 0 * cntE a n ∧ size (putT [a] t 0) = size t + cntE t 0 * (size a - 1) := by
  obtain ⟨h1, _, _, _⟩ := inst_ok.1 h
  have e1 := put_count a hn t 0 (Int.le_refl _) (check_formed h1)
  have e2 := put_size1 a t 0 (check_formed h1)
  rw [Int.add_zero, Int.add_zero] at e1
  unfold cntE
  rw [if_pos ⟨hn, by omega⟩, if_pos ⟨by omega, by omega⟩, if_pos in0, if_pos ⟨hn, by omega⟩]
  exact ⟨e1, e2⟩
end Go.Proofs.Ytggefpkfikimiaa
/- Layer 5's laws, more: scopes, the variables themselves, closed terms. Mathematics alone. -/
namespace Go.Proofs.Ytggefpkfikimiaa
open Go.RowKit
set_option linter.unusedVariables false

mutual
/-- No shift of what is in scope of few goes beyond. -/
theorem over_scoped (A : List Tm) {v c : Int} (hA : ∀ a ∈ A, scopedT a v c = true ∧ formedB a = true ∧ v + depth a ≤ 60000) : ∀ (t : Tm) (d : Int), 0 ≤ d → d + depth t ≤ 1000 → formedB t = true → putO A t d = false
  | .node k n l, d, hd, hd2, hf => by
    rw [depth] at hd2
    rw [putO]
    by_cases h1 : k = 1
    · by_cases h2 : d + A.length ≤ n
      · rw [if_pos ⟨h1, h2⟩]
      · rw [if_neg (fun x => h2 x.2)]
        by_cases h3 : d ≤ n
        · rw [if_pos ⟨h1, h3⟩]
          obtain ⟨q1, q2, q3⟩ := hA _ (arg_mem h3 (by omega))
          exact move_over hd _ v 0 (by omega) q2 q1
        · rw [if_neg (fun x => h3 x.2)]
          exact over_scopedL A hA l k d 0 hd (by omega) (formed_kids hf)
    · rw [if_neg (fun x => h1 x.1), if_neg (fun x => h1 x.1)]
      exact over_scopedL A hA l k d 0 hd (by omega) (formed_kids hf)
theorem over_scopedL (A : List Tm) {v c : Int} (hA : ∀ a ∈ A, scopedT a v c = true ∧ formedB a = true ∧ v + depth a ≤ 60000) : ∀ (l : List Tm) (k d : Int) (i : Nat), 0 ≤ d → d + 1 + depthL l ≤ 1000 → formedL l = true → putOL A l k d i = false
  | [], _, _, _, _, _, _ => rfl
  | t :: l, k, d, i, hd, hd2, hf => by
    have := bindsI_range k i
    rw [formedL, Bool.and_eq_true] at hf
    rw [depthL] at hd2
    rw [putOL, over_scoped A hA t _ (by omega) (by omega) hf.1, over_scopedL A hA l k d (i + 1) hd (by omega) hf.2]
    rfl
end
theorem scope_parts {t : Tm} {v c : Int} (h : scopeT t v c = true) : 0 ≤ v ∧ 0 ≤ c ∧ checkE t = 0 ∧ scopedT t v c = true := by
  unfold scopeT at h
  rw [Bool.and_eq_true, Bool.and_eq_true, Bool.and_eq_true, decide_eq_true_eq, decide_eq_true_eq, decide_eq_true_eq] at h
  exact ⟨h.1.1.1, h.1.1.2, h.1.2, h.2⟩
theorem scope_of {t : Tm} {v c : Int} (h1 : 0 ≤ v) (h2 : 0 ≤ c) (h3 : checkE t = 0) (h4 : scopedT t v c = true) : scopeT t v c = true := by
  unfold scopeT
  rw [Bool.and_eq_true, Bool.and_eq_true, Bool.and_eq_true, decide_eq_true_eq, decide_eq_true_eq, decide_eq_true_eq]
  exact ⟨⟨⟨h1, h2⟩, h3⟩, h4⟩
/-- InstScopes. -/
theorem iscopes_ok {t : Tm} {A : List Tm} {v : Int} (hv : v ≤ 1000) (hA : ∀ a ∈ A, scopeT a v 65536 = true) (h : scopeT t (v + A.length) 65536 = true) (hv0 : 0 ≤ v) :
    sizeOfN t A 0 = min (size (putT A t 0)) 1099511627776 ∧ (6000 < size (putT A t 0) → instE t A 0 = 4) ∧ (size (putT A t 0) ≤ 6000 → instE t A 0 = 0 ∨ instE t A 0 = 5) ∧ (instE t A 0 = 0 → scopeT (putT A t 0) v 65536 = true) := by
  obtain ⟨_, _, h3, h4⟩ := scope_parts h
  obtain ⟨c1, c2, c3⟩ := check_parts h3
  have hE : argsE A = 0 := argsE_ok.2 fun a ha => (scope_parts (hA a ha)).2.2.1
  have ho : putO A t 0 = false := over_scoped A (fun a ha => by
    obtain ⟨_, _, q3, q4⟩ := scope_parts (hA a ha)
    obtain ⟨_, d2, d3⟩ := check_parts q3
    exact ⟨q4, d3, by omega⟩) t 0 (Int.le_refl _) (by omega) c3
  have hi := inst_in h3 hE in0
  rw [if_neg (by rw [ho]; decide)] at hi
  refine ⟨by rw [sizeOfN, if_pos ⟨h3, hE, in0⟩], fun hz => by rw [hi, if_pos hz], fun hz => ?_, fun h0 => ?_⟩
  · rw [hi, if_neg (by omega)]
    split
    · exact .inr rfl
    · exact .inl rfl
  · refine scope_of hv0 (by omega) (inst_check h0) ?_
    have := put_scoped A hv0 (fun a ha => (scope_parts (hA a ha)).2.2.2) t 0 (Int.le_refl _) c3 (by rw [Int.add_zero]; exact h4)
    rw [Int.add_zero] at this
    exact this
/-- The variables themselves. -/
def varsT (N : Nat) (m : Nat) : List Tm := (List.range m).map fun (i : Nat) => .node 1 ((N : Int) - 1 - i) []
theorem varsT_length (N m : Nat) : (varsT N m).length = m := by simp [varsT]
theorem varsT_succ (N m : Nat) : varsT N (m + 1) = varsT N m ++ [.node 1 ((N : Int) - 1 - m) []] := by simp [varsT, List.range_succ]
theorem arg_vars {N : Nat} {u m : Int} (h1 : u ≤ m) (h2 : m < u + N) : argA (varsT N N) u m = .node 1 (m - u) [] := by
  unfold argA
  rw [varsT_length]
  have hlt : N - 1 - (m - u).toNat < N := by omega
  rw [List.getElem?_eq_getElem (by rw [varsT_length]; exact hlt)]
  simp only [varsT, List.getElem_map, List.getElem_range, Option.getD_some]
  congr 1
  omega
mutual
theorem put_vars (N : Nat) : ∀ (t : Tm) (d : Int), 0 ≤ d → formedB t = true → putT (varsT N N) (mapT (mv N) t (N + d)) d = t ∧ putO (varsT N N) (mapT (mv N) t (N + d)) d = false
  | .node k n l, d, hd, hf => by
    rw [mapT, putT, putO, varsT_length]
    by_cases hk : k = 1
    · obtain ⟨rfl, n0, n1⟩ := formed_var hf hk
      rw [if_pos hk, mapL]
      by_cases h1 : N + d ≤ n
      · rw [mv_ge h1, if_pos ⟨hk, by omega⟩, if_pos ⟨hk, by omega⟩, putL]
        exact ⟨by congr 1; omega, rfl⟩
      · have g1 : ¬ (k = 1 ∧ d + (N : Int) ≤ n) := fun x => h1 (by omega)
        rw [mv_lt (by omega), if_neg g1, if_neg g1]
        by_cases h2 : d ≤ n
        · rw [if_pos ⟨hk, h2⟩, if_pos ⟨hk, h2⟩, arg_vars h2 (by omega)]
          unfold moveT
          rw [mapT, mapL, if_pos rfl, mv_ge (by omega), overB, overL, show n - d + d = n by omega, hk]
          exact ⟨rfl, by rw [Bool.or_false, decide_eq_false_iff_not]; omega⟩
        · have g2 : ¬ (k = 1 ∧ d ≤ n) := fun x => h2 x.2
          rw [if_neg g2, if_neg g2, putL, putOL]
          exact ⟨rfl, rfl⟩
    · rw [if_neg hk, if_neg (fun x => hk x.1), if_neg (fun x => hk x.1), if_neg (fun x => hk x.1), if_neg (fun x => hk x.1)]
      obtain ⟨q1, q2⟩ := put_varsL N l k d 0 hd (formed_kids hf)
      rw [q1]
      exact ⟨rfl, q2⟩
theorem put_varsL (N : Nat) : ∀ (l : List Tm) (k d : Int) (i : Nat), 0 ≤ d → formedL l = true → putL (varsT N N) (mapL (mv N) l k (N + d) i) k d i = l ∧ putOL (varsT N N) (mapL (mv N) l k (N + d) i) k d i = false
  | [], _, _, _, _, _ => ⟨rfl, rfl⟩
  | t :: l, k, d, i, hd, hf => by
    have := (bindsI_range k i).1
    rw [formedL, Bool.and_eq_true] at hf
    obtain ⟨q1, q2⟩ := put_varsL N l k d (i + 1) hd hf.2
    obtain ⟨q3, q4⟩ := put_vars N t (d + bindsI k i) (by omega) hf.1
    rw [mapL, putL, putOL, q1, q2, show (N : Int) + d + bindsI k i = N + (d + bindsI k i) by omega, q3, q4]
    exact ⟨rfl, rfl⟩
end
theorem var_check {n : Int} (h0 : 0 ≤ n) (h1 : n ≤ 65535) : checkE (.node 1 n []) = 0 := by
  refine check_of (by simp [size, sizeL]) (by simp [depth, depthL]) ?_
  rw [formedB, formedL, if_pos (show ([] : List Tm).length = 0 from rfl)]
  simp only [Bool.and_eq_true, decide_eq_true_eq]
  exact ⟨⟨by decide, h0, h1⟩, trivial⟩
/-- InstVars: the first half. -/
theorem vars_ok {t : Tm} {N : Nat} (hN : N ≤ 60000) (h : shiftE t N N = 0) : instE (moveT t N N) (varsT N N) 0 = 0 ∧ putT (varsT N N) (moveT t N N) 0 = t := by
  obtain ⟨h1, h2, h3, h4⟩ := shift_ok.1 h
  obtain ⟨c1, c2, c3⟩ := check_parts h1
  obtain ⟨q1, q2⟩ := put_vars N t 0 (Int.le_refl _) c3
  rw [Int.add_zero] at q1 q2
  have q1' : putT (varsT N N) (moveT t N N) 0 = t := q1
  refine ⟨inst_ok.2 ⟨shift_check h, argsE_ok.2 fun a ha => ?_, in0, q2, by rw [q1']; exact c1, by rw [q1']; exact c2⟩, q1'⟩
  unfold varsT at ha
  obtain ⟨i, hi, rfl⟩ := List.mem_map.1 ha
  have := List.mem_range.1 hi
  exact var_check (by omega) (by omega)
/-- InstVars: the second half. -/
theorem vars_closed {t : Tm} {A : List Tm} (h : scopeT t 0 65536 = true) (hA : argsE A = 0) : instE t A 0 = 0 ∧ putT A t 0 = t := by
  obtain ⟨_, _, h3, h4⟩ := scope_parts h
  obtain ⟨c1, c2, c3⟩ := check_parts h3
  obtain ⟨q1, q2⟩ := put_closed A t 0 c3 h4
  exact ⟨inst_ok.2 ⟨h3, hA, in0, q2, by rw [q1]; exact c1, by rw [q1]; exact c2⟩, q1⟩
theorem inst_args {t : Tm} {A : List Tm} {u : Int} (h : checkE t = 0) (hA : argsE A ≠ 0) : instE t A u = argsE A := by
  unfold instE; rw [if_neg (by simpa using h), if_pos hA]
end Go.Proofs.Ytggefpkfikimiaa
/- How a program may count what is replaced: how often each arg is, and how far each is shifted. Mathematics alone. -/
namespace Go.Proofs.Ytggefpkfikimiaa
open Go.RowKit
set_option linter.unusedVariables false

/-- Is it that arg that is put for the variable? -/
def hits (p : Nat) (n u : Int) (i : Nat) : Prop := u ≤ n ∧ n < u + p ∧ i = p - 1 - (n - u).toNat
instance (p : Nat) (n u : Int) (i : Nat) : Decidable (hits p n u i) := by unfold hits; infer_instance
mutual
def timesT (p : Nat) : Tm → Int → Nat → Nat | .node k n l, u, i => if k = 1 then (if hits p n u i then 1 else 0) else timesL p l k u 0 i
def timesL (p : Nat) : List Tm → Int → Int → Nat → Nat → Nat | [], _, _, _, _ => 0 | t :: l, k, u, j, i => timesT p t (u + bindsI k j) i + timesL p l k u (j + 1) i
end
mutual
def farT (p : Nat) : Tm → Int → Nat → Int | .node k n l, u, i => if k = 1 then (if hits p n u i then u else 0) else farL p l k u 0 i
def farL (p : Nat) : List Tm → Int → Int → Nat → Nat → Int | [], _, _, _, _ => 0 | t :: l, k, u, j, i => max (farT p t (u + bindsI k j) i) (farL p l k u (j + 1) i)
end
theorem times_eq (p : Nat) (t : Tm) (u : Int) (i : Nat) : timesT p t u i = if t.k = 1 then (if hits p t.n u i then 1 else 0) else timesL p t.kids t.k u 0 i := by cases t; rfl
theorem far_eq (p : Nat) (t : Tm) (u : Int) (i : Nat) : farT p t u i = if t.k = 1 then (if hits p t.n u i then u else 0) else farL p t.kids t.k u 0 i := by cases t; rfl
mutual
theorem far_range (p : Nat) : ∀ (t : Tm) (u : Int) (i : Nat), 0 ≤ u → formedB t = true → 0 ≤ farT p t u i ∧ farT p t u i ≤ 65535
  | .node k n l, u, i, hu, hf => by
    rw [farT]
    by_cases hk : k = 1
    · have := formed_var hf hk
      rw [if_pos hk]
      by_cases h : hits p n u i
      · rw [if_pos h]
        obtain ⟨h1, h2, h3⟩ := h
        omega
      · rw [if_neg h]; omega
    · rw [if_neg hk]
      exact far_rangeL p l k u 0 i hu (formed_kids hf)
theorem far_rangeL (p : Nat) : ∀ (l : List Tm) (k u : Int) (j i : Nat), 0 ≤ u → formedL l = true → 0 ≤ farL p l k u j i ∧ farL p l k u j i ≤ 65535
  | [], _, _, _, _, _, _ => ⟨Int.le_refl _, by rw [farL]; omega⟩
  | t :: l, k, u, j, i, hu, h => by
    rw [formedL, Bool.and_eq_true] at h
    have := (bindsI_range k j).1
    have h1 := far_range p t (u + bindsI k j) i (by omega) h.1
    have h2 := far_rangeL p l k u (j + 1) i hu h.2
    rw [farL]
    omega
end
theorem timesL_append (p : Nat) : ∀ (a b : List Tm) (k u : Int) (j i : Nat), timesL p (a ++ b) k u j i = timesL p a k u j i + timesL p b k u (j + a.length) i
  | [], b, k, u, j, i => by simp [timesL]
  | t :: a, b, k, u, j, i => by
    have e : j + 1 + a.length = j + (t :: a).length := by simp; omega
    rw [List.cons_append, timesL, timesL, timesL_append p a b k u (j + 1) i, e]
    omega
theorem timesL_take_succ (p : Nat) {l : List Tm} {j : Nat} (h : j < l.length) (k u : Int) (i : Nat) : timesL p (l.take (j + 1)) k u 0 i = timesL p (l.take j) k u 0 i + timesT p l[j] (u + bindsI k j) i := by
  rw [List.take_succ_eq_append_getElem h, timesL_append]
  simp [timesL, Nat.min_eq_left (Nat.le_of_lt h)]
theorem farL_append (p : Nat) : ∀ (a b : List Tm) (k u : Int) (j i : Nat), 0 ≤ farL p b k u (j + a.length) i → farL p (a ++ b) k u j i = max (farL p a k u j i) (farL p b k u (j + a.length) i)
  | [], b, k, u, j, i, h => by
    simp only [List.nil_append, farL, List.length_nil, Nat.add_zero] at h ⊢
    omega
  | t :: a, b, k, u, j, i, h => by
    have e : j + 1 + a.length = j + (t :: a).length := by simp; omega
    rw [List.cons_append, farL, farL, farL_append p a b k u (j + 1) i (by rw [e]; exact h), e]
    omega
theorem farL_take_succ (p : Nat) {l : List Tm} {j : Nat} (h : j < l.length) (k u : Int) (i : Nat) (h0 : 0 ≤ farT p l[j] (u + bindsI k j) i) : farL p (l.take (j + 1)) k u 0 i = max (farL p (l.take j) k u 0 i) (farT p l[j] (u + bindsI k j) i) := by
  have e : (l.take j).length = j := by simp; omega
  have e2 : farL p [l[j]] k u (0 + (l.take j).length) i = farT p l[j] (u + bindsI k j) i := by
    rw [e, Nat.zero_add, farL, farL]
    omega
  rw [List.take_succ_eq_append_getElem h, farL_append p _ _ k u 0 i (by rw [e2]; exact h0), e2]

/-- A sum. -/
def sumI (f : Nat → Nat) : Nat → Nat | 0 => 0 | n + 1 => sumI f n + f n
theorem sumI_add (f g : Nat → Nat) : ∀ n, sumI (fun i => f i + g i) n = sumI f n + sumI g n
  | 0 => rfl
  | n + 1 => by rw [sumI, sumI, sumI, sumI_add f g n]; omega
theorem sumI_zero {f : Nat → Nat} : ∀ {n : Nat}, (∀ i, i < n → f i = 0) → sumI f n = 0
  | 0, _ => rfl
  | n + 1, h => by rw [sumI, h n (Nat.lt_succ_self n), sumI_zero fun i hi => h i (Nat.lt_succ_of_lt hi)]
theorem sumI_ext {f g : Nat → Nat} : ∀ {n : Nat}, (∀ i, i < n → f i = g i) → sumI f n = sumI g n
  | 0, _ => rfl
  | n + 1, h => by rw [sumI, sumI, h n (Nat.lt_succ_self n), sumI_ext fun i hi => h i (Nat.lt_succ_of_lt hi)]
theorem sumI_mono {f : Nat → Nat} {m : Nat} : ∀ {n : Nat}, m ≤ n → sumI f m ≤ sumI f n
  | 0, h => by rw [Nat.le_zero.1 h]; exact Nat.le_refl _
  | n + 1, h => by
    by_cases hm : m = n + 1
    · rw [hm]; exact Nat.le_refl _
    · rw [sumI]
      have := sumI_mono (f := f) (m := m) (n := n) (by omega)
      omega
theorem sumI_one {f : Nat → Nat} {j : Nat} : ∀ {n : Nat}, j < n → (∀ i, i < n → i ≠ j → f i = 0) → sumI f n = f j
  | 0, h, _ => absurd h (Nat.not_lt_zero _)
  | n + 1, h, hz => by
    by_cases hj : j = n
    · subst hj
      rw [sumI, sumI_zero fun i hi => hz i (Nat.lt_succ_of_lt hi) (by omega), Nat.zero_add]
    · rw [sumI, hz n (Nat.lt_succ_self n) (fun h => hj h.symm), sumI_one (by omega) fun i hi hne => hz i (Nat.lt_succ_of_lt hi) hne]
      rfl
/-- The arg at a place. -/
def atA (A : List Tm) (i : Nat) : Tm := A[i]?.getD noT
theorem atA_get {A : List Tm} {i : Nat} (h : i < A.length) : atA A i = A[i] := by rw [atA, List.getElem?_eq_getElem h]; rfl
theorem argA_at (A : List Tm) (u n : Int) : argA A u n = atA A (A.length - 1 - (n - u).toNat) := rfl
def gainI (A : List Tm) (F : Nat → Nat) (i : Nat) : Nat := F i * (size (atA A i) - 1)
theorem gain_add (A : List Tm) (F G : Nat → Nat) (n : Nat) : sumI (gainI A fun i => F i + G i) n = sumI (gainI A F) n + sumI (gainI A G) n := by
  rw [← sumI_add]
  exact sumI_ext fun i _ => Nat.add_mul _ _ _
mutual
/-- The size, told ahead. -/
theorem put_sizeA (A : List Tm) : ∀ (t : Tm) (u : Int), 0 ≤ u → formedB t = true → size (putT A t u) = size t + sumI (gainI A (timesT A.length t u)) A.length
  | .node k n l, u, hu, hf => by
    have hl := put_sizeAL A l k u 0 hu (formed_kids hf)
    rw [putT]
    by_cases hk : k = 1
    · have hv := (formed_var hf hk).1
      subst hv
      by_cases h1 : u + A.length ≤ n
      · rw [if_pos ⟨hk, h1⟩, putL, sumI_zero fun i _ => ?_]
        · rfl
        · rw [gainI, timesT, if_pos hk, if_neg (fun h => by have := h.2.1; omega), Nat.zero_mul]
      · rw [if_neg (fun h => h1 h.2)]
        by_cases h2 : u ≤ n
        · have hj : A.length - 1 - (n - u).toNat < A.length := by omega
          rw [if_pos ⟨hk, h2⟩, moveT, mapT_size, argA_at, sumI_one (j := A.length - 1 - (n - u).toNat) hj fun i _ hne => ?_]
          · have := size_pos (atA A (A.length - 1 - (n - u).toNat))
            rw [gainI, timesT, if_pos hk, if_pos ⟨h2, by omega, rfl⟩, size, sizeL]
            omega
          · rw [gainI, timesT, if_pos hk, if_neg (fun h => hne h.2.2), Nat.zero_mul]
        · rw [if_neg (fun h => h2 h.2), putL, sumI_zero fun i _ => ?_]
          · rfl
          · rw [gainI, timesT, if_pos hk, if_neg (fun h => h2 h.1), Nat.zero_mul]
    · have he : sumI (gainI A (timesT A.length (.node k n l) u)) A.length = sumI (gainI A (timesL A.length l k u 0)) A.length := sumI_ext fun i _ => by
        show timesT A.length (.node k n l) u i * _ = timesL A.length l k u 0 i * _
        rw [timesT, if_neg hk]
      rw [if_neg (fun h => hk h.1), if_neg (fun h => hk h.1), size, size, hl, he]
      omega
theorem put_sizeAL (A : List Tm) : ∀ (l : List Tm) (k u : Int) (j : Nat), 0 ≤ u → formedL l = true → sizeL (putL A l k u j) = sizeL l + sumI (gainI A (timesL A.length l k u j)) A.length
  | [], _, _, _, _, _ => by
    rw [putL, sumI_zero fun i _ => ?_]
    · rfl
    · show 0 * _ = 0
      rw [Nat.zero_mul]
  | t :: l, k, u, j, hu, h => by
    rw [formedL, Bool.and_eq_true] at h
    have hb := (bindsI_range k j).1
    rw [putL, sizeL, sizeL, put_sizeA A t _ (by omega) h.1, put_sizeAL A l k u (j + 1) hu h.2, show timesL A.length (t :: l) k u j = fun i => timesT A.length t (u + bindsI k j) i + timesL A.length l k u (j + 1) i from funext fun i => by rw [timesL], gain_add]
    omega
end
mutual
/-- What is put in is never vast. -/
theorem put_size_le (A : List Tm) {M : Nat} (hM : 1 ≤ M) (hA : ∀ a ∈ A, size a ≤ M) : ∀ (t : Tm) (u : Int), size (putT A t u) ≤ size t * M
  | .node k n l, u => by
    have hl := put_size_leL A hM hA l k u 0
    have h0 : sizeL l * M + 1 ≤ (sizeL l + 1) * M := by rw [Nat.add_mul]; omega
    rw [putT, size]
    by_cases h1 : k = 1 ∧ u + A.length ≤ n
    · rw [if_pos h1, size]; omega
    · rw [if_neg h1]
      by_cases h2 : k = 1 ∧ u ≤ n
      · rw [if_pos h2, moveT, mapT_size]
        have := hA _ (arg_mem (A := A) (u := u) (n := n) h2.2 (by omega))
        have h3 : 1 * M ≤ (sizeL l + 1) * M := Nat.mul_le_mul_right M (by omega)
        omega
      · rw [if_neg h2, size]; omega
theorem put_size_leL (A : List Tm) {M : Nat} (hM : 1 ≤ M) (hA : ∀ a ∈ A, size a ≤ M) : ∀ (l : List Tm) (k u : Int) (j : Nat), sizeL (putL A l k u j) ≤ sizeL l * M
  | [], _, _, _ => by rw [putL, sizeL]; omega
  | t :: l, k, u, j => by
    have h1 := put_size_le A hM hA t (u + bindsI k j)
    have h2 := put_size_leL A hM hA l k u (j + 1)
    rw [putL, sizeL, sizeL, Nat.add_mul]
    omega
end
mutual
/-- The farther of two shifts goes beyond if one does. -/
theorem over_max {x y : Int} : ∀ (t : Tm) (d : Int), overB (mapT (mv (max x y)) t d) = (overB (mapT (mv x) t d) || overB (mapT (mv y) t d))
  | .node k n l, d => by
    rw [mapT, mapT, mapT, overB, overB, overB, over_maxL l k d 0]
    by_cases hk : k = 1
    · rw [if_pos hk, if_pos hk, if_pos hk]
      have : decide (65535 < mv (max x y) d n) = (decide (65535 < mv x d n) || decide (65535 < mv y d n)) := by
        rw [Bool.eq_iff_iff, Bool.or_eq_true, decide_eq_true_eq, decide_eq_true_eq, decide_eq_true_eq]
        unfold mv
        by_cases h : d ≤ n
        · rw [if_pos h, if_pos h, if_pos h]; omega
        · rw [if_neg h, if_neg h, if_neg h]; omega
      rw [this]
      generalize decide (65535 < mv x d n) = a
      generalize decide (65535 < mv y d n) = b
      cases a <;> cases b <;> simp
    · rw [if_neg hk, if_neg hk, if_neg hk]
      generalize decide (65535 < n) = a
      cases a <;> simp
theorem over_maxL {x y : Int} : ∀ (l : List Tm) (k d : Int) (i : Nat), overL (mapL (mv (max x y)) l k d i) = (overL (mapL (mv x) l k d i) || overL (mapL (mv y) l k d i))
  | [], _, _, _ => rfl
  | t :: l, k, d, i => by
    rw [mapL, mapL, mapL, overL, overL, overL, over_max t, over_maxL l k d (i + 1)]
    generalize overB (mapT (mv x) t (d + bindsI k i)) = a
    generalize overB (mapT (mv y) t (d + bindsI k i)) = b
    cases a <;> cases b <;> simp
end
theorem over_move_max (a : Tm) (x y : Int) : overB (moveT a (max x y) 0) = (overB (moveT a x 0) || overB (moveT a y 0)) := over_max a 0
theorem over_move_zero {a : Tm} (h : formedB a = true) : overB (moveT a 0 0) = false := by
  rw [moveT, mapT_id _ (fun d n => by unfold mv; split <;> omega)]
  exact over_formed _ h
/-- Does some arg's farthest shift go beyond? -/
def beyondA (A : List Tm) (G : Nat → Int) : Prop := ∃ i, i < A.length ∧ overB (moveT (atA A i) (G i) 0) = true
theorem beyond_max (A : List Tm) (G H : Nat → Int) : beyondA A (fun i => max (G i) (H i)) ↔ beyondA A G ∨ beyondA A H := by
  unfold beyondA
  constructor
  · rintro ⟨i, hi, h⟩
    rw [over_move_max, Bool.or_eq_true] at h
    rcases h with h | h
    · exact .inl ⟨i, hi, h⟩
    · exact .inr ⟨i, hi, h⟩
  · rintro (⟨i, hi, h⟩ | ⟨i, hi, h⟩)
    · exact ⟨i, hi, by rw [over_move_max, h]; rfl⟩
    · exact ⟨i, hi, by rw [over_move_max, h, Bool.or_true]⟩
theorem beyond_zero {A : List Tm} (hA : ∀ a ∈ A, formedB a = true) {G : Nat → Int} (h : ∀ i, i < A.length → G i = 0) : ¬ beyondA A G := by
  rintro ⟨i, hi, h2⟩
  rw [h i hi, atA_get hi, over_move_zero (hA _ (List.getElem_mem hi))] at h2
  cases h2
mutual
theorem put_far (A : List Tm) (hA : ∀ a ∈ A, formedB a = true) : ∀ (t : Tm) (u : Int), formedB t = true → (putO A t u = true ↔ beyondA A (farT A.length t u))
  | .node k n l, u, hf => by
    have hl := put_farL A hA l k u 0 (formed_kids hf)
    rw [putO]
    by_cases hk : k = 1
    · have hv := (formed_var hf hk).1
      subst hv
      by_cases h1 : u + A.length ≤ n
      · rw [if_pos ⟨hk, h1⟩]
        have := beyond_zero hA (G := farT A.length (.node k n []) u) fun i _ => by rw [farT, if_pos hk, if_neg (fun h => by have := h.2.1; omega)]
        simp [this]
      · rw [if_neg (fun h => h1 h.2)]
        by_cases h2 : u ≤ n
        · have hj : A.length - 1 - (n - u).toNat < A.length := by omega
          rw [if_pos ⟨hk, h2⟩, argA_at]
          constructor
          · intro h
            exact ⟨_, hj, by rw [farT, if_pos hk, if_pos ⟨h2, by omega, rfl⟩]; exact h⟩
          · rintro ⟨i, hi, h⟩
            rw [farT, if_pos hk] at h
            by_cases hh : hits A.length n u i
            · rw [if_pos hh, hh.2.2] at h
              exact h
            · rw [if_neg hh, atA_get hi, over_move_zero (hA _ (List.getElem_mem hi))] at h
              cases h
        · rw [if_neg (fun h => h2 h.2)]
          have := beyond_zero hA (G := farT A.length (.node k n []) u) fun i _ => by rw [farT, if_pos hk, if_neg (fun h => h2 h.1)]
          simp [this, putOL]
    · rw [if_neg (fun h => hk h.1), if_neg (fun h => hk h.1), hl, show farT A.length (.node k n l) u = farL A.length l k u 0 from funext fun i => by rw [farT, if_neg hk]]
theorem put_farL (A : List Tm) (hA : ∀ a ∈ A, formedB a = true) : ∀ (l : List Tm) (k u : Int) (j : Nat), formedL l = true → (putOL A l k u j = true ↔ beyondA A (farL A.length l k u j))
  | [], _, _, _, _ => by
    have := beyond_zero hA (G := farL A.length [] 0 0 0) fun i _ => rfl
    rw [putOL]
    constructor
    · intro h; cases h
    · intro h; exact absurd h (beyond_zero hA fun i _ => rfl)
  | t :: l, k, u, j, h => by
    rw [formedL, Bool.and_eq_true] at h
    rw [putOL, Bool.or_eq_true, put_far A hA t _ h.1, put_farL A hA l k u (j + 1) h.2, show farL A.length (t :: l) k u j = fun i => max (farT A.length t (u + bindsI k j) i) (farL A.length l k u (j + 1) i) from funext fun i => by rw [farL], beyond_max]
end
/-- The args' shifts are found by their farthest ones. -/
theorem shift_far {a : Tm} {G : Int} (ha : checkE a = 0) (hG : 0 ≤ G ∧ G ≤ 65535) : shiftE a G 0 = if overB (moveT a G 0) = true then 6 else 0 := shift_in ha hG in0
theorem putO_far {A : List Tm} {t : Tm} {u : Int} (hA : ∀ a ∈ A, checkE a = 0) (hu : 0 ≤ u) (hf : formedB t = true) (h : ∀ i (hi : i < A.length), farT A.length t u i = 0 ∨ shiftE A[i] (farT A.length t u i) 0 = 0) : putO A t u = false := by
  rw [Bool.eq_false_iff]
  intro hp
  obtain ⟨i, hi, ho⟩ := (put_far A (fun a ha => check_formed (hA a ha)) t u hf).1 hp
  rw [atA_get hi] at ho
  have hr := far_range A.length t u i hu hf
  rcases h i hi with h0 | h0
  · rw [h0, over_move_zero (check_formed (hA _ (List.getElem_mem hi)))] at ho
    cases ho
  · rw [shift_far (hA _ (List.getElem_mem hi)) hr, if_pos ho] at h0
    exact absurd h0 (by decide)
theorem putO_far_no {A : List Tm} {t : Tm} {u : Int} (hA : ∀ a ∈ A, checkE a = 0) (hu : 0 ≤ u) (hf : formedB t = true) {i : Nat} (hi : i < A.length) (h : shiftE A[i] (farT A.length t u i) 0 ≠ 0) : putO A t u = true := by
  have hr := far_range A.length t u i hu hf
  rw [shift_far (hA _ (List.getElem_mem hi)) hr] at h
  refine (put_far A (fun a ha => check_formed (hA a ha)) t u hf).2 ⟨i, hi, ?_⟩
  rw [atA_get hi]
  by_cases ho : overB (moveT A[i] (farT A.length t u i) 0) = true
  · exact ho
  · rw [if_neg ho] at h; exact absurd rfl h
end Go.Proofs.Ytggefpkfikimiaa
