/- Package shift: within; the functions that Shift and Lower hand to renumber; what renumber tells, as mathematics. No conditions but bounds on integers. -/
import Derived.Test.YtblebboamopffaaSn
import Derived.Test.YtblebboamopffaaKr
import Derived.Test.YtblebboamopffaaCt
import Derived.BigQuiet
import Derived.IntWalk
namespace Go.Proofs.Ytblebboamopffaa
open Go.RowKit
set_option linter.unusedVariables false

theorem below_drewN (B : Nat) (w : World) (n : Nat) : Below B w (w.drewN n) := ⟨rfl, rfl, rfl, Nat.le_refl _, fun _ _ => rfl⟩
mutual
/-- Is a number found for each Var? -/
def okT (p : Int → Int → Bool) : Tm → Int → Bool | .node k n l, b => if k = 1 then p b n else okL p l k b 0
def okL (p : Int → Int → Bool) : List Tm → Int → Int → Nat → Bool | [], _, _, _ => true | t :: l, k, b, i => okT p t (b + bindsI k i) && okL p l k b (i + 1)
end
theorem okT_eq (p : Int → Int → Bool) (t : Tm) (b : Int) : okT p t b = if t.k = 1 then p b t.n else okL p t.kids t.k b 0 := by cases t; rfl
theorem okL_drop (p : Int → Int → Bool) {l : List Tm} {j : Nat} (h : j < l.length) (k b : Int) : okL p (l.drop j) k b j = (okT p l[j] (b + bindsI k j) && okL p (l.drop (j + 1)) k b (j + 1)) := by
  rw [List.drop_eq_getElem_cons h]; rfl
theorem okL_end (p : Int → Int → Bool) (l : List Tm) (k b : Int) : okL p (l.drop l.length) k b l.length = true := by simp [okL]

def shiftP (b f : Int) : Int → Int → Bool := fun d n => if n - d < f then true else decide (inR (n + b))
def shiftG (b f : Int) : Int → Int → Int := fun d n => if n - d < f then n else n + b
def lowerP (m : Int) : Int → Int → Bool := fun d n => decide (n - d ≠ m)
def lowerG (m : Int) : Int → Int → Int := fun d n => if m < n - d then n - 1 else n
theorem mapT_at (g : Int → Int → Int) (c : Int) (t : Tm) (d : Int) : mapT g t (d + c) = mapT (fun d n => g (d + c) n) t d := by
  have := mapT_comp g (fun _ n => n) c t d
  rw [mapT_id _ (fun _ _ => rfl)] at this
  exact this
theorem shiftG_map (b f : Int) (t : Tm) : mapT (shiftG b f) t 0 = moveT t b f := by
  unfold moveT
  have := mapT_at (mv b) f t 0
  rw [Int.zero_add] at this
  rw [this]
  refine mapT_ext (fun d n => ?_) t 0
  unfold shiftG mv
  by_cases h : n - d < f
  · rw [if_pos h, if_neg (by omega)]
  · rw [if_neg h, if_pos (by omega)]
theorem lowerG_map (m : Int) (t : Tm) : mapT (lowerG m) t 0 = lessT t m := by
  unfold lessT
  have := mapT_at ls m t 0
  rw [Int.zero_add] at this
  rw [this]
  refine mapT_ext (fun d n => ?_) t 0
  unfold lowerG ls
  by_cases h : m < n - d
  · rw [if_pos h, if_pos (by omega)]
  · rw [if_neg h, if_neg (by omega)]
mutual
theorem shiftP_ok {b f : Int} (hb : 0 ≤ b) : ∀ (t : Tm) (d : Int), formedB t = true → okT (shiftP b f) t d = !overB (mapT (shiftG b f) t d)
  | .node k n l, d, h => by
    have hz : overB (.node k n l) = false := over_formed _ h
    rw [overB, Bool.or_eq_false_iff] at hz
    rw [formedB, Bool.and_eq_true, Bool.and_eq_true, decide_eq_true_eq] at h
    obtain ⟨⟨a1, a2⟩, a3⟩ := h
    rw [okT, mapT, overB]
    by_cases h1 : k = 1
    · have h0 : l = [] := List.eq_nil_of_length_eq_zero (by rw [h1] at a1; have : kidsI 1 = 0 := by decide
                                                            omega)
      rw [if_pos h1, if_pos h1, h0, mapL, overL, Bool.or_false]
      rw [h0, if_pos (show ([] : List Tm).length = 0 from rfl)] at a2
      simp only [Bool.and_eq_true, decide_eq_true_eq] at a2
      unfold shiftP shiftG
      by_cases h2 : n - d < f
      · rw [if_pos h2, if_pos h2, decide_eq_false (by omega)]; rfl
      · rw [if_neg h2, if_neg h2]
        by_cases h3 : 65535 < n + b
        · rw [decide_eq_true h3, decide_eq_false (by unfold inR; omega)]; rfl
        · rw [decide_eq_false h3, decide_eq_true (by unfold inR; omega)]; rfl
    · rw [if_neg h1, if_neg h1, hz.1, Bool.false_or, shiftP_okL hb l k d 0 a3]
theorem shiftP_okL {b f : Int} (hb : 0 ≤ b) : ∀ (l : List Tm) (k d : Int) (i : Nat), formedL l = true → okL (shiftP b f) l k d i = !overL (mapL (shiftG b f) l k d i)
  | [], _, _, _, _ => rfl
  | t :: l, k, d, i, h => by
    rw [formedL, Bool.and_eq_true] at h
    rw [okL, mapL, overL, shiftP_ok hb t _ h.1, shiftP_okL hb l k d (i + 1) h.2, Bool.not_or]
end
mutual
theorem lowerP_ok {m : Int} : ∀ (t : Tm) (d : Int), formedB t = true → okT (lowerP m) t d = decide (countT t (m + d) = 0)
  | .node k n l, d, h => by
    rw [formedB, Bool.and_eq_true, Bool.and_eq_true, decide_eq_true_eq] at h
    obtain ⟨⟨a1, a2⟩, a3⟩ := h
    rw [okT, countT]
    by_cases h1 : k = 1
    · have h0 : l = [] := List.eq_nil_of_length_eq_zero (by rw [h1] at a1; have : kidsI 1 = 0 := by decide
                                                            omega)
      rw [if_pos h1, h0, countL]
      unfold lowerP
      by_cases h2 : n - d = m
      · rw [if_pos ⟨h1, by omega⟩, decide_eq_false (by simpa using h2), decide_eq_false (by omega)]
      · rw [if_neg (fun x => h2 (by omega)), decide_eq_true h2, decide_eq_true (by omega)]
    · rw [if_neg h1, if_neg (fun x => h1 x.1), Nat.zero_add, lowerP_okL l k d 0 a3]
theorem lowerP_okL {m : Int} : ∀ (l : List Tm) (k d : Int) (i : Nat), formedL l = true → okL (lowerP m) l k d i = decide (countL l k (m + d) i = 0)
  | [], _, _, _, _ => rfl
  | t :: l, k, d, i, h => by
    rw [formedL, Bool.and_eq_true] at h
    rw [okL, countL, lowerP_ok t _ h.1, lowerP_okL l k d (i + 1) h.2, show m + d + bindsI k i = m + (d + bindsI k i) by omega, Bool.eq_iff_iff, Bool.and_eq_true, decide_eq_true_eq, decide_eq_true_eq, decide_eq_true_eq]
    omega
end

/-- Kids that lie in rows which the call made: each row is a block of its own and is written by nobody else. -/
inductive AtK (S : Nat → Prop) (w : World) : List Tm → Value → Prop
  | nl : AtK S w [] (.slice none 0 0)
  | row (l : List Tm) (b : Nat) (vs : Nat → Value) (hS : S b) (hK : KRow l.length b l vs w) (hm : l.length ≤ maxLen) (hs : ∀ i (h : i < l.length), AtK S w l[i].kids (vs i)) : AtK S w l (.slice (some ⟨b, 0, none⟩) l.length l.length)
theorem AtK.ats {S : Nat → Prop} {w : World} {l : List Tm} {v : Value} (h : AtK S w l v) : AtS S w l v := by
  induction h with
  | nl => exact .nl
  | row l b vs hS hK hm _ ih => exact hK.ats rfl hm hS ih
theorem AtK.same {S T : Nat → Prop} {w w' : World} (h : ∀ b, S b → T b ∧ w'.heap[b]? = w.heap[b]?) {l : List Tm} {v : Value} (hA : AtK S w l v) : AtK T w' l v := by
  induction hA with
  | nl => exact .nl
  | row l b vs hS hK hm _ ih => exact .row l b vs (h b hS).1 (hK.same (h b hS).2) hm ih
theorem kidsI_le (k : Int) : kidsI k ≤ 3 := by
  unfold kidsI
  split
  · omega
  · split
    · omega
    · split
      · omega
      · split <;> omega
/-- What renumber tells: nothing, or a term in new memory. -/
def RenPost (w : World) (ok : Bool) (r : Tm) (e : Ending) (w' : World) : Prop := Below w.heap.size w w' ∧ (ok = false → e = .returned (.tuple #[.agg #[.int .i64 0, .int .i64 0, .slice none 0 0], .bool false])) ∧
  (ok = true → ∃ a cap, e = .returned (.tuple #[.agg #[.int .i64 r.k, .int .i64 r.n, .slice a r.kids.length cap], .bool true]) ∧ AtK (fun b => w.heap.size ≤ b ∧ b < w'.heap.size) w' r.kids (.slice a r.kids.length cap))
end Go.Proofs.Ytblebboamopffaa
