/- What Shift, Count and Lower say, as mathematics; the laws' facts. -/
import Derived.Test.YtggefpkfikimiaaG04
import Derived.Test.YtggefpkfikimiaaG01
import Derived.WalkKit
import Derived.Lib.Hide
import Derived.Test.YtggefpkfikimiaaG02
import Derived.IntWalk
import Derived.Deep.QuietTactic
import Derived.BigQuiet
import Derived.Deep.RegionHeld3
namespace Go.Proofs.Ytggefpkfikimiaa
open Go.RowKit
set_option linter.unusedVariables false

def mv (b : Int) : Int → Int → Int := fun f n => if f ≤ n then n + b else n
def ls : Int → Int → Int := fun m n => if m < n then n - 1 else n
def moveT (t : Tm) (b f : Int) : Tm := mapT (mv b) t f
def lessT (t : Tm) (n : Int) : Tm := mapT ls t n
def inR (n : Int) : Prop := 0 ≤ n ∧ n ≤ 65535
instance (n : Int) : Decidable (inR n) := by unfold inR; infer_instance
/-- Shift's error. -/
def shiftE (t : Tm) (b f : Int) : Int := if checkE t ≠ 0 then checkE t else if ¬ (inR b ∧ inR f) then 1 else if overB (moveT t b f) = true then 6 else 0
def shiftT (t : Tm) (b f : Int) : Tm := if shiftE t b f = 0 then moveT t b f else noT
def cntE (t : Tm) (n : Int) : Nat := if inR n then countT t n else 0
def lowerB (t : Tm) (n : Int) : Bool := decide (checkE t = 0 ∧ inR n ∧ countT t n = 0)
def lowerT (t : Tm) (n : Int) : Tm := if lowerB t n = true then lessT t n else noT

theorem shift_ok {t : Tm} {b f : Int} : shiftE t b f = 0 ↔ checkE t = 0 ∧ inR b ∧ inR f ∧ overB (moveT t b f) = false := by
  unfold shiftE
  by_cases h1 : checkE t = 0
  · rw [if_neg (by simpa using h1)]
    by_cases h2 : inR b ∧ inR f
    · rw [if_neg (by simpa using h2)]
      by_cases h3 : overB (moveT t b f) = true
      · rw [if_pos h3]; simp [h3]
      · rw [if_neg h3]; simp [h1, h2.1, h2.2, h3]
    · rw [if_pos h2]
      constructor
      · intro h; omega
      · rintro ⟨_, h3, h4, _⟩; exact absurd ⟨h3, h4⟩ h2
  · rw [if_pos h1]
    exact ⟨fun h => absurd h h1, fun h => absurd h.1 h1⟩
theorem shift_in {t : Tm} {b f : Int} (h1 : checkE t = 0) (h2 : inR b) (h3 : inR f) : shiftE t b f = if overB (moveT t b f) = true then 6 else 0 := by
  unfold shiftE
  rw [if_neg (by simpa using h1), if_neg (by simpa using ⟨h2, h3⟩)]
theorem shift_bad {t : Tm} {b f : Int} (h1 : checkE t ≠ 0) : shiftE t b f = checkE t := by unfold shiftE; rw [if_pos h1]
theorem check_parts {t : Tm} (h : checkE t = 0) : size t ≤ 6000 ∧ depth t ≤ 200 ∧ formedB t = true := by
  refine ⟨check_size h, ?_, check_formed h⟩
  have := check_size h
  by_cases h2 : 200 < depth t
  · rw [checkE, if_neg (by omega), if_pos h2] at h; cases h
  · omega
theorem check_of {t : Tm} (h1 : size t ≤ 6000) (h2 : depth t ≤ 200) (h3 : formedB t = true) : checkE t = 0 := by
  rw [checkE, if_neg (by omega), if_neg (by omega), if_neg (by rw [h3]; simp)]
theorem mv_nn {b : Int} (hb : 0 ≤ b) : ∀ d n : Int, 0 ≤ n → 0 ≤ mv b d n := fun d n h => by unfold mv; split <;> omega
/-- What is shifted is right. -/
theorem move_check {t : Tm} {b f : Int} (h : checkE t = 0) (hb : 0 ≤ b) (ho : overB (moveT t b f) = false) : checkE (moveT t b f) = 0 := by
  obtain ⟨h1, h2, h3⟩ := check_parts h
  exact check_of (by unfold moveT; rw [mapT_size]; exact h1) (by unfold moveT; rw [mapT_depth]; exact h2) (mapT_formed _ (mv_nn hb) t f h3 ho)
theorem shift_check {t : Tm} {b f : Int} (h : shiftE t b f = 0) : checkE (moveT t b f) = 0 := by
  obtain ⟨h1, h2, _, h4⟩ := shift_ok.1 h
  exact move_check h1 h2.1 h4

theorem move_zero (t : Tm) (f : Int) : moveT t 0 f = t := mapT_id _ (fun d n => by unfold mv; split <;> omega) t f
theorem move_add (t : Tm) {a : Int} (ha : 0 ≤ a) (b f : Int) : moveT (moveT t a f) b f = moveT t (a + b) f := by
  unfold moveT
  have := mapT_comp (mv b) (mv a) 0 t f
  rw [Int.add_zero] at this
  rw [this]
  refine mapT_ext (fun d n => ?_) t f
  unfold mv
  by_cases h : d ≤ n
  · rw [if_pos h, if_pos (by omega), if_pos h]; omega
  · rw [if_neg h, if_neg (by omega), if_neg h]
theorem less_move (t : Tm) (f : Int) : lessT (moveT t 1 f) f = t := by
  unfold moveT lessT
  have := mapT_comp ls (mv 1) 0 t f
  rw [Int.add_zero] at this
  rw [this]
  refine mapT_id _ (fun d n => ?_) t f
  unfold mv ls
  by_cases h : d ≤ n
  · rw [if_pos h, if_pos (by omega)]; omega
  · rw [if_neg h, if_neg (by omega)]
theorem move_swap (t : Tm) {a b i k : Int} (ha : 0 ≤ a) (hb : 0 ≤ b) (hk : 0 ≤ k) : moveT (moveT t a i) b (i + k + a) = moveT (moveT t b (i + k)) a i := by
  unfold moveT
  have h1 := mapT_comp (mv b) (mv a) (k + a) t i
  have h2 := mapT_comp (mv a) (mv b) (-k) t (i + k)
  rw [show i + (k + a) = i + k + a by omega] at h1
  rw [show i + k + -k = i by omega] at h2
  rw [h1, h2]
  have h3 : ∀ (g : Int → Int → Int) (c : Int) (t : Tm) (d : Int), mapT g t (d + c) = mapT (fun d n => g (d + c) n) t d := fun g c t d => by
    have := mapT_comp g (fun _ n => n) c t d
    rw [mapT_id _ (fun _ _ => rfl)] at this
    exact this
  rw [h3]
  refine mapT_ext (fun d n => ?_) t i
  unfold mv
  by_cases h4 : d ≤ n
  · by_cases h5 : d + k ≤ n
    · rw [if_pos h4, if_pos (by omega), if_pos h5, if_pos (by omega)]; omega
    · rw [if_pos h4, if_neg (by omega), if_neg h5, if_pos (by omega)]
  · rw [if_neg h4, if_neg (by omega), if_neg (by omega), if_neg (by omega)]
/-- No variable lies where a gap is made. -/
theorem count_gap (t : Tm) {a f j : Int} (h0 : 0 ≤ j) (h1 : j < a) : countT (moveT t a f) (f + j) = 0 :=
  count_none j (fun d n h => by unfold mv at h; split at h <;> omega) t f
theorem count_move (t : Tm) {a f n : Int} (ha : 0 ≤ a) : countT (moveT t a f) (if f ≤ n then n + a else n) = countT t n := by
  have := count_same (g := mv a) ((if f ≤ n then n + a else n) - f) (n - f) (fun d m => by
    unfold mv
    by_cases h1 : f ≤ n
    · rw [if_pos h1]
      by_cases h2 : d ≤ m
      · rw [if_pos h2]; omega
      · rw [if_neg h2]; omega
    · rw [if_neg h1]
      by_cases h2 : d ≤ m
      · rw [if_pos h2]; omega
      · rw [if_neg h2]) t f
  rw [show f + ((if f ≤ n then n + a else n) - f) = (if f ≤ n then n + a else n) by omega, show f + (n - f) = n by omega] at this
  exact this

/-- ShiftTwice's ends. -/
theorem twice_bad {t : Tm} {a b f : Int} (ha : inR a) (hb : 1 ≤ b) (hab : inR (a + b)) (hf : inR f) (h : shiftE t a f ≠ 0 ∨ shiftE t (a + b) f ≠ 0) : shiftE t a f = 6 ∨ shiftE t (a + b) f = 6 ∨ (shiftE t a f = shiftE t (a + b) f ∧ checkE t = shiftE t a f) := by
  by_cases hc : checkE t = 0
  · rw [shift_in hc ha hf, shift_in hc hab hf] at *
    rcases h with h | h
    · left; split at h <;> simp_all
    · right; left; split at h <;> simp_all
  · right; right
    rw [shift_bad hc, shift_bad hc]; exact ⟨rfl, rfl⟩
theorem over_less {t : Tm} {a b f : Int} (hc : checkE t = 0) (hab : a ≤ b) (h : overB (moveT t b f) = false) : overB (moveT t a f) = false :=
  over_mono (fun d n _ => by unfold mv; split <;> omega) t f (check_formed hc) h
theorem twice_ok {t : Tm} {a b f : Int} (ha : inR a) (hb : 1 ≤ b) (hb2 : inR b) (hab : inR (a + b)) (hf : inR f) (h : shiftE t (a + b) f = 0) :
    shiftE (moveT t a f) b f = 0 ∧ moveT (moveT t a f) b f = moveT t (a + b) f ∧ shiftE t 0 f = 0 ∧ moveT t 0 f = t ∧ shiftE t 1 f = 0 ∧ lowerB (moveT t 1 f) f = true ∧ lessT (moveT t 1 f) f = t := by
  obtain ⟨h1, _, _, h4⟩ := shift_ok.1 h
  have ha0 := ha.1
  have o1 : overB (moveT t 1 f) = false := over_less h1 (by omega) h4
  have oa : overB (moveT t a f) = false := over_less h1 (by omega) h4
  refine ⟨shift_ok.2 ⟨move_check h1 ha.1 oa, hb2, hf, ?_⟩, move_add t ha.1 b f, shift_ok.2 ⟨h1, ⟨by omega, by omega⟩, hf, ?_⟩, move_zero t f, shift_ok.2 ⟨h1, ⟨by omega, by omega⟩, hf, o1⟩, ?_, less_move t f⟩
  · rw [move_add t ha.1]; exact h4
  · rw [move_zero]; exact over_formed t (check_formed h1)
  · unfold lowerB
    rw [decide_eq_true_eq]
    have := count_gap t (a := 1) (f := f) (j := 0) (by omega) (by omega)
    rw [Int.add_zero] at this
    exact ⟨move_check h1 (by omega) o1, hf, this⟩
/-- ShiftSwaps. -/
theorem swap_ok {t : Tm} {a b i k : Int} (ha : inR a) (hb : inR b) (hk : 0 ≤ k) (h1 : shiftE t a i = 0) (h2 : shiftE t b (i + k) = 0) (hr : inR (i + k + a)) :
    shiftE (moveT t a i) b (i + k + a) = shiftE (moveT t b (i + k)) a i ∧ (shiftE (moveT t a i) b (i + k + a) = 0 ∨ shiftE (moveT t a i) b (i + k + a) = 6) ∧ moveT (moveT t a i) b (i + k + a) = moveT (moveT t b (i + k)) a i := by
  have hs := move_swap t (i := i) ha.1 hb.1 hk
  rw [shift_in (shift_check h1) hb hr, shift_in (shift_check h2) ha (shift_ok.1 h1).2.2.1, hs]
  refine ⟨rfl, ?_, rfl⟩
  split
  · exact .inr rfl
  · exact .inl rfl

mutual
/-- What is in scope of v is, shifted, in scope of b more. -/
theorem move_scoped {b c : Int} (hb : 0 ≤ b) : ∀ (t : Tm) (v f : Int), scopedT t v c = true → scopedT (mapT (mv b) t f) (v + b) c = true
  | .node k n l, v, f, h => by
    rw [scopedT] at h
    rw [mapT, scopedT]
    by_cases h1 : k = 1
    · rw [if_pos h1] at h ⊢
      rw [if_pos h1]
      rw [decide_eq_true_eq] at h ⊢
      unfold mv; split <;> omega
    · rw [if_neg h1] at h ⊢
      rw [if_neg h1]
      by_cases h2 : k = 2
      · rw [if_pos h2] at h ⊢; exact h
      · rw [if_neg h2] at h ⊢
        by_cases h3 : k = 3
        · rw [if_pos h3] at h ⊢; exact h
        · rw [if_neg h3] at h ⊢
          exact moveL_scoped hb l k v f 0 h
theorem moveL_scoped {b c : Int} (hb : 0 ≤ b) : ∀ (l : List Tm) (k v f : Int) (i : Nat), scopedL l k v c i = true → scopedL (mapL (mv b) l k f i) k (v + b) c i = true
  | [], _, _, _, _, _ => rfl
  | t :: l, k, v, f, i, h => by
    rw [scopedL, Bool.and_eq_true] at h
    rw [mapL, scopedL, moveL_scoped hb l k v f (i + 1) h.2, Bool.and_true, show v + b + bindsI k i = v + bindsI k i + b by omega]
    exact move_scoped hb t _ _ h.1
end
mutual
/-- What is in scope of no more than lie below f stays. -/
theorem move_closed {b c : Int} : ∀ (t : Tm) (v f : Int), v ≤ f → formedB t = true → scopedT t v c = true → mapT (mv b) t f = t
  | .node k n l, v, f, hv, hf, h => by
    rw [formedB, Bool.and_eq_true, Bool.and_eq_true, decide_eq_true_eq] at hf
    obtain ⟨⟨a1, _⟩, a3⟩ := hf
    rw [scopedT] at h
    rw [mapT]
    by_cases h1 : k = 1
    · rw [if_pos h1] at h
      rw [decide_eq_true_eq] at h
      have h0 : l = [] := List.eq_nil_of_length_eq_zero (by rw [h1] at a1; have : kidsI 1 = 0 := by decide
                                                            omega)
      rw [h0, if_pos h1, mapL]
      unfold mv
      rw [if_neg (by omega)]
    · rw [if_neg h1] at h ⊢
      by_cases h2 : k = 2
      · have h0 : l = [] := List.eq_nil_of_length_eq_zero (by rw [h2] at a1; have : kidsI 2 = 0 := by decide
                                                              omega)
        rw [h0, mapL]
      · rw [if_neg h2] at h
        by_cases h3 : k = 3
        · have h0 : l = [] := List.eq_nil_of_length_eq_zero (by rw [h3] at a1; have : kidsI 3 = 0 := by decide
                                                                omega)
          rw [h0, mapL]
        · rw [if_neg h3] at h
          rw [moveL_closed l k v f 0 hv a3 h]
theorem moveL_closed {b c : Int} : ∀ (l : List Tm) (k v f : Int) (i : Nat), v ≤ f → formedL l = true → scopedL l k v c i = true → mapL (mv b) l k f i = l
  | [], _, _, _, _, _, _, _ => rfl
  | t :: l, k, v, f, i, hv, hf, h => by
    rw [formedL, Bool.and_eq_true] at hf
    rw [scopedL, Bool.and_eq_true] at h
    rw [mapL, moveL_closed l k v f (i + 1) hv hf.2 h.2, move_closed t _ _ (by omega) hf.1 h.1]
end
mutual
/-- What is in scope of few variables does not come beyond the bound. -/
theorem move_over {b c : Int} (hb : 0 ≤ b) : ∀ (t : Tm) (v f : Int), v + depth t + b ≤ 65536 → formedB t = true → scopedT t v c = true → overB (mapT (mv b) t f) = false
  | .node k n l, v, f, hv, hf, h => by
    have hz : overB (.node k n l) = false := over_formed _ hf
    rw [overB, Bool.or_eq_false_iff] at hz
    rw [formedB, Bool.and_eq_true, Bool.and_eq_true, decide_eq_true_eq] at hf
    obtain ⟨⟨a1, _⟩, a3⟩ := hf
    rw [scopedT] at h
    rw [depth] at hv
    rw [mapT, overB]
    by_cases h1 : k = 1
    · rw [if_pos h1] at h
      rw [decide_eq_true_eq] at h
      have h0 : l = [] := List.eq_nil_of_length_eq_zero (by rw [h1] at a1; have : kidsI 1 = 0 := by decide
                                                            omega)
      rw [h0, if_pos h1, mapL, overL, Bool.or_false, decide_eq_false_iff_not]
      unfold mv
      split <;> omega
    · rw [if_neg h1] at h ⊢
      rw [hz.1, Bool.false_or]
      by_cases h2 : k = 2
      · have h0 : l = [] := List.eq_nil_of_length_eq_zero (by rw [h2] at a1; have : kidsI 2 = 0 := by decide
                                                              omega)
        rw [h0, mapL, overL]
      · rw [if_neg h2] at h
        by_cases h3 : k = 3
        · have h0 : l = [] := List.eq_nil_of_length_eq_zero (by rw [h3] at a1; have : kidsI 3 = 0 := by decide
                                                                omega)
          rw [h0, mapL, overL]
        · rw [if_neg h3] at h
          exact moveL_over hb l k v f 0 (by omega) a3 h
theorem moveL_over {b c : Int} (hb : 0 ≤ b) : ∀ (l : List Tm) (k v f : Int) (i : Nat), v + 1 + depthL l + b ≤ 65536 → formedL l = true → scopedL l k v c i = true → overL (mapL (mv b) l k f i) = false
  | [], _, _, _, _, _, _, _ => rfl
  | t :: l, k, v, f, i, hv, hf, h => by
    rw [formedL, Bool.and_eq_true] at hf
    rw [scopedL, Bool.and_eq_true] at h
    rw [depthL] at hv
    have := bindsI_range k i
    rw [mapL, overL, moveL_over hb l k v f (i + 1) (by omega) hf.2 h.2, move_over hb t _ _ (by omega) hf.1 h.1]
    rfl
end
/-- ShiftScopes. -/
theorem scopes_ok {t : Tm} {v b f : Int} (hb : inR b) (hb2 : b ≤ 29) (hv : v ≤ 29) (hf : inR f) (h : scopeT t v 65536 = true) :
    shiftE t b f = 0 ∧ scopeT (moveT t b f) (v + b) 65536 = true ∧ (v ≤ f → moveT t b f = t) := by
  unfold scopeT at h
  rw [Bool.and_eq_true, Bool.and_eq_true, Bool.and_eq_true, decide_eq_true_eq, decide_eq_true_eq, decide_eq_true_eq] at h
  obtain ⟨⟨⟨h1, _⟩, h3⟩, h4⟩ := h
  obtain ⟨c1, c2, c3⟩ := check_parts h3
  have ho := move_over hb.1 t v f (by omega) c3 h4
  refine ⟨shift_ok.2 ⟨h3, hb, hf, ho⟩, ?_, fun hvf => move_closed t v f hvf c3 h4⟩
  unfold scopeT
  rw [Bool.and_eq_true, Bool.and_eq_true, Bool.and_eq_true, decide_eq_true_eq, decide_eq_true_eq, decide_eq_true_eq]
  have := hb.1
  exact ⟨⟨⟨by omega, by omega⟩, move_check h3 hb.1 ho⟩, move_scoped hb.1 t v f h4⟩
end Go.Proofs.Ytggefpkfikimiaa
/- The page's depth of a term, as the Go text computes it. -/
namespace Go.Proofs.Ytggefpkfikimiaa
open Go.RowKit

theorem ite_max (a b : Nat) : (if a < b then (b : Int) else (a : Int)) = ((max a b : Nat) : Int) := by split <;> omega

set_option maxRecDepth 100000 in
set_option maxHeartbeats 400000 in
theorem rdepth_any : ∀ (t : Tm), size t < 2147483648 → ∀ (w : World) (v : Value), At w t.kids v →
    Calls Try.prog 57 #[tv t v] w fun e w' => e = .returned (.int .i64 (depth t)) ∧ Below w.heap.size w w' := by
  refine tm_ind fun t ih => ?_
  intro hs w v hA
  obtain ⟨a, cap, rfl⟩ := hA.shape
  have hlen : t.kids.length < 2147483648 := by have := length_le_sizeL t.kids; have := size_eq t; omega
  unfold tv
  go_enter Try.func57, Try.ntmps57
  go_wp2_with fail
  have hB := box3_new w t (.slice a t.kids.length cap) 25
  have hb0 := (Below.refl _ w).alloc (Nat.le_refl _) (.cells #[.int .i64 t.k, .int .i64 t.n, .slice a t.kids.length cap] 25)
  have hA1 := hA.bel hb0 (Nat.le_refl _)
  revert hB hb0 hA1
  generalize hW : w.alloc (.cells #[.int .i64 t.k, .int .i64 t.n, .slice a t.kids.length cap] 25) = W
  clear hW
  intro hB hb0 hA1
  go_loopw [3, 4] (fun n i wr => ∃ j : Nat, j ≤ t.kids.length ∧ i = .int .i64 j ∧ n = .int .i64 (depthL (t.kids.take j) : Int) ∧ Below W.heap.size W wr)
    (fun _ i _ => t.kids.length - (RowKit.intOf i).toNat)
  case atStart => exact ⟨0, Nat.zero_le _, rfl, by simp [depthL], Below.refl _ _⟩
  case round =>
    obtain ⟨j, hj, rfl, rfl, hbw⟩ := hrel
    obtain ⟨hBlt, c0, c1, c2⟩ := hB.bel hbw
    by_cases hlt : j < t.kids.length
    · obtain ⟨b, off, cap', vs, he, h1, h2, kk, kn, kv, ks⟩ := (hA1.bel hbw (Nat.le_refl _)).pos (by omega)
      have gk := kk j hlt
      have gn := kn j hlt
      have gv := kv j hlt
      have gs := ks j hlt
      clear kk kn kv ks
      have hsz := depthL_take_succ hlt
      have hle := size_get hlt
      have hse := size_eq t
      have hds := depth_le_size t.kids[j]
      have hdl := depthL_le_sizeL (t.kids.take j)
      have hst := sizeL_take t.kids j
      have HI := Lib.hid (ih t.kids[j] (List.getElem_mem hlt) (by omega) wr (vs j) gs)
      have HS := Lib.hid hsz
      have hb3 : depthL (t.kids.take j) < 2147483648 := by omega
      have hb4 : depth t.kids[j] < 2147483648 := by omega
      clear ih hs hle hsz hse hds hdl hst
      cases he
      go_wp2_with fail
      refine (HI.out).mono ?_
      rintro e w1 ⟨rfl, hb1⟩
      go_wp2_with fail
      go_roundw
      case rel => exact ⟨j + 1, by omega, by go_num, by rw [HS.out, ← ite_max], hbw.trans (hb1.mono hbw.size)⟩
      case measure => simp [RowKit.intOf]; omega
    · obtain rfl : j = t.kids.length := by omega
      have hdb : depthL t.kids < 2147483648 := by have := depthL_le_sizeL t.kids; have := size_eq t; omega
      clear ih hs
      have hlt : decide ((t.kids.length : Int) < (t.kids.length : Int)) = false := by simp
      go_wp2_with fail
      go_ret
      exact ⟨ret_int (by rw [depth_eq]; simp), hb0.trans (hbw.mono hb0.size)⟩
end Go.Proofs.Ytggefpkfikimiaa
/- The page's scope of a term, as the Go text computes it. -/
namespace Go.Proofs.Ytggefpkfikimiaa
open Go.RowKit

/-- What a region that draws its order may read: the boxed term's kind and Kids, one Kid's cells. -/
theorem keepS {w0 w' w1 : World} {B b o : Nat} {x0 x2 y0 y1 y2 : Value} {l : List Tm} {v : Value}
    (h : (w'.cell? ⟨B, 0, none⟩ = some x0 ∧ w'.cell? ⟨B, 2, none⟩ = some x2 ∧ w'.cell? ⟨b, o, none⟩ = some y0 ∧ w'.cell? ⟨b, o + 1, none⟩ = some y1 ∧ w'.cell? ⟨b, o + 2, none⟩ = some y2) ∧ At w' l v ∧ Below w0.heap.size w0 w')
    (hb : Below w'.heap.size w' w1) :
    (w1.cell? ⟨B, 0, none⟩ = some x0 ∧ w1.cell? ⟨B, 2, none⟩ = some x2 ∧ w1.cell? ⟨b, o, none⟩ = some y0 ∧ w1.cell? ⟨b, o + 1, none⟩ = some y1 ∧ w1.cell? ⟨b, o + 2, none⟩ = some y2) ∧ At w1 l v ∧ Below w0.heap.size w0 w1 := by
  have g : ∀ {a : Addr} {x : Value}, w'.cell? a = some x → w1.cell? a = some x := fun {a x} hx => by rw [hb.cell (World.block_lt_of_cell? w' _ hx)]; exact hx
  obtain ⟨⟨h1, h2, h3, h4, h5⟩, h6, h7⟩ := h
  exact ⟨⟨g h1, g h2, g h3, g h4, g h5⟩, h6.bel hb (Nat.le_refl _), h7.trans (hb.mono h7.size)⟩

set_option maxRecDepth 100000 in
set_option maxHeartbeats 1600000 in
theorem rscoped_any : ∀ (t : Tm), Fits t → size t < 2147483648 → ∀ (v c : Int), -1099511627776 ≤ v → v + depth t ≤ 1099511627776 → ∀ (w : World) (sv : Value), At w t.kids sv →
    Calls Try.prog 73 #[tv t sv, .int .i64 v, .int .i64 c] w fun e w' => e = .returned (.bool (scopedT t v c)) ∧ Below w.heap.size w w' := by
  refine tm_ind fun t ih => ?_
  intro hf hs v c hv0 hv1 w sv hA
  obtain ⟨a, cap, rfl⟩ := hA.shape
  have hlen : t.kids.length < 2147483648 := by have := length_le_sizeL t.kids; have := size_eq t; omega
  have hb0 := (Below.refl _ w).alloc (Nat.le_refl _) (.cells #[.int .i64 t.k, .int .i64 t.n, .slice a t.kids.length cap] 25)
  unfold tv
  by_cases h1 : t.k = 1
  · have e1 : (t.k == 1) = true := by simpa using h1
    have E := Lib.hid (show scopedT t v c = decide (t.n < v) by rw [scopedT_eq, if_pos h1])
    clear ih h1
    go_enter Try.func73, Try.ntmps73
    go_wp2_with fail
    go_ret
    exact ⟨ret_bool E.out.symm, hb0⟩
  have e1 : (t.k == 1) = false := by simpa using h1
  by_cases h2 : t.k = 2
  · have e2 : (t.k == 2) = true := by simpa using h2
    have E := Lib.hid (show scopedT t v c = decide (t.n ≤ 6) by rw [scopedT_eq, if_neg h1, if_pos h2])
    clear ih h1 h2
    go_enter Try.func73, Try.ntmps73
    go_wp2_with fail
    go_ret
    exact ⟨ret_bool E.out.symm, hb0⟩
  have e2 : (t.k == 2) = false := by simpa using h2
  by_cases h3 : t.k = 3
  · have e3 : (t.k == 3) = true := by simpa using h3
    have E := Lib.hid (show scopedT t v c = decide (t.n < c) by rw [scopedT_eq, if_neg h1, if_neg h2, if_pos h3])
    clear ih h1 h2 h3
    go_enter Try.func73, Try.ntmps73
    go_wp2_with fail
    go_ret
    exact ⟨ret_bool E.out.symm, hb0⟩
  have e3 : (t.k == 3) = false := by simpa using h3
  have E := Lib.hid (show scopedT t v c = scopedL t.kids t.k v c 0 by rw [scopedT_eq, if_neg h1, if_neg h2, if_neg h3])
  clear h1 h2 h3
  go_enter Try.func73, Try.ntmps73
  go_wp2_with fail
  have hB := box3_new w t (.slice a t.kids.length cap) 25
  have hA1 := hA.bel hb0 (Nat.le_refl _)
  clear hA e1 e2 e3
  revert hB hb0 hA1
  generalize hW : w.alloc (.cells #[.int .i64 t.k, .int .i64 t.n, .slice a t.kids.length cap] 25) = W
  clear hW
  intro hb0 hB hA1
  go_loopw [7] (fun i wr => ∃ j : Nat, j ≤ t.kids.length ∧ i = .int .i64 j ∧ scopedL (t.kids.take j) t.k v c 0 = true ∧ Below W.heap.size W wr)
    (fun i _ => t.kids.length - (RowKit.intOf i).toNat)
  case atStart => exact ⟨0, Nat.zero_le _, rfl, by simp [scopedL], Below.refl _ _⟩
  case round =>
    obtain ⟨j, hj, rfl, hsc, hbw⟩ := hrel
    have HSC := Lib.hid hsc
    clear hsc
    obtain ⟨hBlt, c0, c1, c2⟩ := hB.bel hbw
    by_cases hlt : j < t.kids.length
    · obtain ⟨b, off, cap', vs, he, h1, h2, kk, kn, kv, ks⟩ := (hA1.bel hbw (Nat.le_refl _)).pos (by omega)
      have gk := kk j hlt
      have gn := kn j hlt
      have gv := kv j hlt
      have gs := ks j hlt
      clear kk kn kv ks
      have hbd := bindsI_range t.k j
      have hsz := size_get hlt
      have hse := size_eq t
      have hde := depth_get hlt
      have hdt := depth_eq t
      have hm := List.getElem_mem hlt
      have q1 : size t.kids[j] < 2147483648 := by omega
      have q2 : -1099511627776 ≤ v + bindsI t.k j := by omega
      have q3 : v + bindsI t.k j + depth t.kids[j] ≤ 1099511627776 := by omega
      have hw0 : IntKind.i64.wrap (v + bindsI t.k j) = v + bindsI t.k j := IntWalk.i64_in _ (by omega)
      have HI := Lib.hid (fun (w : World) (hw : At w t.kids[j].kids (vs j)) => ih t.kids[j] hm (hf.kids _ hm) q1 (v + bindsI t.k j) c q2 q3 w (vs j) hw)
      have HE := Lib.hid (scopedL_take_succ hlt t.k v c)
      clear ih hs hf hsz hse hde hdt q1 hm
      unfold tv at HI
      cases he
      go_wp2_with fail
      go_region_held3 (fun w' => (w'.cell? ⟨w.heap.size, 0, none⟩ = some (.int .i64 t.k) ∧ w'.cell? ⟨w.heap.size, 2, none⟩ = some (.slice (some ⟨b, off, none⟩) t.kids.length cap) ∧
          w'.cell? ⟨b, off + j * 3, none⟩ = some (.int .i64 t.kids[j].k) ∧ w'.cell? ⟨b, off + j * 3 + 1, none⟩ = some (.int .i64 t.kids[j].n) ∧ w'.cell? ⟨b, off + j * 3 + 2, none⟩ = some (vs j)) ∧ At w' t.kids[j].kids (vs j) ∧ Below wr.heap.size wr w')
        (first | exact ⟨⟨c0, c2, gk, gn, gv⟩, gs.drew, (Below.refl _ _).drew⟩ | assumption | exact keepS (w' := wr.drew) ⟨⟨c0, c2, gk, gn, gv⟩, gs.drew, (Below.refl _ _).drew⟩ hb1)
        (first | (go_at_call 74; refine (rbinds_any _ _ _).mono ?_; rintro e w' ⟨rfl, rfl⟩) | (go_at_call 73; refine (HI.out _ gs.drew).mono ?_; rintro e w' ⟨rfl, hb1⟩))
      go_wp2_with fail
      · obtain ⟨_, _, hbx⟩ := ‹(_ ∧ _ ∧ _ ∧ _ ∧ _) ∧ At _ _ _ ∧ Below _ wr _›
        have hx : (!scopedT t.kids[j] (v + bindsI t.k ↑j) c) = true := by assumption
        go_ret
        exact ⟨ret_bool (by rw [E.out, scopedL_no hlt (by simpa using hx)]), (hb0.trans (hbw.mono hb0.size)).trans (hbx.mono (Nat.le_trans hb0.size hbw.size))⟩
      · obtain ⟨_, _, hbx⟩ := ‹(_ ∧ _ ∧ _ ∧ _ ∧ _) ∧ At _ _ _ ∧ Below _ wr _›
        have hx : (!scopedT t.kids[j] (v + bindsI t.k ↑j) c) = false := by assumption
        go_roundw
        case rel => exact ⟨j + 1, by omega, by go_num, by rw [HE.out, HSC.out]; simpa using hx, hbw.trans (hbx.mono hbw.size)⟩
        case measure => simp [RowKit.intOf]; omega
    · obtain rfl : j = t.kids.length := by omega
      have hlt : decide ((t.kids.length : Int) < (t.kids.length : Int)) = false := by simp
      clear ih hs hf
      go_wp2_with fail
      go_ret
      exact ⟨ret_bool (by rw [E.out]; have := HSC.out; rw [List.take_length] at this; exact this.symm), hb0.trans (hbw.mono hb0.size)⟩
end Go.Proofs.Ytggefpkfikimiaa
