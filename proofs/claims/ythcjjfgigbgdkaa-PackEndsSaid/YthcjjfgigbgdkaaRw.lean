/- PackEnds: what its rows are; what is too great, or too deep, is no bytes. -/
import Derived.Test.YthcjjfgigbgdkaaEp
import Derived.Test.YthcjjfgigbgdkaaTb
namespace Go.Proofs.Ythcjjfgigbgdkaa
open Go.RowKit Go Go.Joins
set_option linter.unusedVariables false

/-- A tree of so many nodes. -/
def rowT (n : Nat) : Tm :=
  if n < 2 then .node 2 0 [] else if n = 2 then .node 10 0 [.node 2 0 []] else .node 6 0 [rowT ((n - 1) / 2), rowT (n - 1 - (n - 1) / 2)]
termination_by n
decreasing_by all_goals omega
theorem rowT_eq (n : Nat) (h : 2 < n) : rowT n = .node 6 0 [rowT ((n - 1) / 2), rowT (n - 1 - (n - 1) / 2)] := by rw [rowT, if_neg (by omega), if_neg (by omega)]
theorem row_facts (n : Nat) (h : 1 ≤ n) : size (rowT n) = n ∧ formedB (rowT n) = true ∧ Fits (rowT n) := by
  induction n using Nat.strongRecOn with
  | _ n ih =>
    by_cases h1 : n = 1
    · subst h1
      rw [rowT, if_pos (by omega)]
      exact ⟨by decide, by decide, .mk _ _ _ (by unfold I64; omega) (by unfold I64; omega) (by simp)⟩
    · by_cases h2 : n = 2
      · subst h2
        rw [rowT, if_neg (by omega), if_pos rfl]
        exact ⟨by decide, by decide, .mk _ _ _ (by unfold I64; omega) (by unfold I64; omega) (by
          intro u hu
          obtain rfl := List.mem_singleton.1 hu
          exact .mk _ _ _ (by unfold I64; omega) (by unfold I64; omega) (by simp))⟩
      · obtain ⟨a1, a2, a3⟩ := ih ((n - 1) / 2) (by omega) (by omega)
        obtain ⟨b1, b2, b3⟩ := ih (n - 1 - (n - 1) / 2) (by omega) (by omega)
        rw [rowT_eq n (by omega)]
        refine ⟨by simp [size, sizeL, a1, b1]; omega, by simp [formedB, formedL, a2, b2, kidsI], .mk _ _ _ (by unfold I64; omega) (by unfold I64; omega) ?_⟩
        intro u hu
        rcases List.mem_cons.1 hu with rfl | hu
        · exact a3
        · obtain rfl := List.mem_singleton.1 hu; exact b3
theorem row_depth (k n : Nat) (h : n < 2 ^ k) : depth (rowT n) ≤ k + 1 := by
  induction k generalizing n with
  | zero =>
    have : n = 0 := by omega
    subst this
    rw [rowT, if_pos (by omega)]; decide
  | succ k ih =>
    by_cases h1 : n < 2
    · rw [rowT, if_pos h1]; simp [depth, depthL]
    · by_cases h2 : n = 2
      · subst h2
        rw [rowT, if_neg (by omega), if_pos rfl]
        have : depth (.node 10 0 [.node 2 0 []]) = 2 := by decide
        omega
      · rw [rowT_eq n (by omega)]
        have hp : 2 ^ (k + 1) = 2 * 2 ^ k := by rw [Nat.pow_succ]; omega
        have e1 := ih ((n - 1) / 2) (by omega)
        have e2 := ih (n - 1 - (n - 1) / 2) (by omega)
        simp only [depth, depthL]; omega

set_option maxRecDepth 100000 in
set_option maxHeartbeats 2000000 in
theorem row_any (n : Nat) (h : 1 ≤ n) (h2 : n ≤ 100000) : ∀ (x : Int) (_ : x = n) (w : World),
    Calls Try.prog 46 #[.int .i64 x] w (RetS (rowT n) w) := by
  induction n using Nat.strongRecOn with
  | _ n ih =>
    intro x hx w
    have HU := Lib.hid (fun w => u_any 0 w)
    by_cases h1 : n = 1
    · have hF : rowT n = .node 2 0 [] := by rw [h1, rowT, if_pos (by omega)]
      rw [hF]
      have hx1 : x < 2 := by omega
      clear ih hF h1 hx
      go_enter Try.func46, Try.ntmps46
      go_wp2_with (go_at_call 32; refine (HU.out _).mono ?_; rintro e w1 ⟨rfl, hb⟩; obtain ⟨⟨z0, z1, z2⟩, ⟨y0, y1, y2⟩, hB, hs⟩ := slot_of (by simpa using hb))
      exact bodyPost_ret (v := .agg #[.int .i64 2, .int .i64 0, .slice none 0 0]) (by simp [results, Try.f46, go_sem, z0, z1, z2]) rfl ⟨none, 0, rfl, .nl, hB.trans (below_store3 (Nat.le_refl _) _ _ _)⟩
    by_cases h2' : n = 2
    · have hF : rowT n = .node 10 0 [.node 2 0 []] := by rw [h2', rowT, if_neg (by omega), if_pos rfl]
      rw [hF]
      have hx1 : decide (x < 2) = false := by simp; omega
      have hx2 : (x == 2) = true := by simp; omega
      have HT := Lib.hid (fun w => t_anyS _ 10 [.node 2 0 []] (by simp) (by simp) _ _ (fun b (hb : False ∨ b = w.heap.size) => by rcases hb with h | h; exact h.elim; simp; omega) (ats_cells1 (S := fun _ => False) (w := w) (t := .node 2 0 []) (v := .slice none 0 0) .nl (fun _ h => h.elim)))
      simp only [Tm.k, Tm.n] at HT
      clear ih hF h1 h2' hx
      go_enter Try.func46, Try.ntmps46
      go_wp2_with (first | (go_at_call 32; refine (HU.out _).mono ?_; rintro e w1 ⟨rfl, hb⟩) | (go_at_call 33; refine (HT.out _).mono ?_; rintro e w2 ⟨a2, c2, rfl, hA2, hb2⟩; obtain ⟨⟨z0, z1, z2⟩, ⟨y0, y1, y2⟩, hB, hs⟩ := slot_of (w := w) (w1 := w2) (by have hz := hb.size; simp only [World.size_alloc] at hb hz hb2; exact hb.trans (((below_al w1 _).trans (hb2.mono (by omega))).mono hz))))
      have hz : w.heap.size + 1 ≤ w1.heap.size := by have := hb.size; simp at this; omega
      refine bodyPost_ret (v := .agg #[.int .i64 10, .int .i64 0, .slice a2 1 c2]) (by simp [results, Try.f46, go_sem, z0, z1, z2]) rfl ⟨a2, c2, rfl, ?_, hB.trans (below_store3 (Nat.le_refl _) _ _ _)⟩
      refine hA2.lt.same fun b hb => ?_
      have hge : w1.heap.size ≤ b := by
        rcases hb.1 with (h | h) | h
        · exact h.elim
        · omega
        · simp at h; omega
      exact ⟨⟨by omega, by simpa [World.setCell] using hb.2⟩, other_store3 (by omega) _ _ _⟩
    have hF := rowT_eq n (by omega)
    obtain ⟨ma, hma⟩ : ∃ m, (n - 1) / 2 = m := ⟨_, rfl⟩
    obtain ⟨mb, hmb⟩ : ∃ m, n - 1 - (n - 1) / 2 = m := ⟨_, rfl⟩
    rw [hmb, hma] at hF
    rw [hF]
    have hx1 : decide (x < 2) = false := by simp; omega
    have hx2 : (x == 2) = false := by simp; omega
    have hx3 : 3 ≤ x := by omega
    have hx4 : x ≤ 100000 := by omega
    have ea : ∀ y : Int, y = (x - 1) / 2 → y = (ma : Int) := fun y hy => by omega
    have eb : ∀ y : Int, y = x - 1 - (x - 1) / 2 → y = (mb : Int) := fun y hy => by omega
    have I1 := Lib.hid (ih ma (by omega) (by omega) (by omega))
    have I2 := Lib.hid (ih mb (by omega) (by omega) (by omega))
    have EA := Lib.hid ea
    have EB := Lib.hid eb
    clear ih hF h1 h2' hx ea eb hma hmb
    go_enter Try.func46, Try.ntmps46
    go_wp2_with (first | (go_at_call 46; refine (I1.out _ (EA.out _ rfl) _).mono ?_; rintro e w1 ⟨a1, c1, rfl, hA1, hb1⟩; clear I1 EA) | (go_at_call 46; refine (I2.out _ (EB.out _ rfl) _).mono ?_; rintro e w2 ⟨a2, c2, rfl, hA2, hb2⟩; have X2 := ats2 (w := w) hA1 hA2 hb2 (by first | omega | (simp; done) | (simp; omega)) (by have := hb1.size; simp at this; omega); clear hA1 hA2) | (go_at_call 33; refine (t_anyS _ 6 [rowT ma, rowT mb] (by simp) (by simp) _ _ X2.2 X2.1).mono ?_; rintro e w3 ⟨a3, c3, rfl, hA3, hb3⟩; obtain ⟨⟨z0, z1, z2⟩, ⟨y0, y1, y2⟩, hB, hs⟩ := slot_of (w := w) (w1 := w3) (by have hz := hb1.size; have hz2 := hb2.size; simp only [World.size_alloc] at hb1 hb2 hb3 hz; exact (hb1.trans (hb2.mono (by omega))).trans (((below_al w2 _).mono (by omega)).trans (hb3.mono (by omega))))))
    have hz1 : w.heap.size + 1 ≤ w1.heap.size := by have := hb1.size; simp at this; omega
    have hz2 := hb2.size
    refine bodyPost_ret (v := .agg #[.int .i64 6, .int .i64 0, .slice a3 2 c3]) (by simp [results, Try.f46, go_sem, z0, z1, z2]) rfl ⟨a3, c3, rfl, ?_, hB.trans (below_store3 (Nat.le_refl _) _ _ _)⟩
    refine hA3.lt.same fun b hb => ?_
    have hge : w.heap.size + 1 ≤ b := by
      rcases hb.1 with (h | h) | h
      · exact h.1
      · omega
      · simp at h; omega
    exact ⟨⟨by omega, by simpa [World.setCell] using hb.2⟩, other_store3 (by omega) _ _ _⟩

/-- What is not checked as right is not read, though its bytes are written by the rule. -/
theorem readP_no {t : Tm} (hf : formedB t = true) (hc : checkE t ≠ 0) : readP (packT t) = none := by
  cases h : readP (packT t) with
  | none => rfl
  | some y =>
    obtain ⟨u, r⟩ := y
    obtain ⟨h1, h2⟩ := readP_sound (packT_bytes t hf) h
    have hu := check_formed h2
    have g1 := getP_full (depth t + depth u) t [] (size t + size u) hf (by omega) (by omega)
    have g2 := getP_full (depth t + depth u) u r (size t + size u) hu (by omega) (by omega)
    rw [List.append_nil, h1, g2] at g1
    simp only [Option.some.injEq, Prod.mk.injEq] at g1
    exact absurd (g1.1 ▸ h2) hc
theorem getS_no {t : Tm} (hf : formedB t = true) (hc : checkE t ≠ 0) : getS (packT t) 0 = (noT, 0, 3) := by
  have := getS_in (l := packT t) (c := 0) (Nat.zero_le _)
  rw [List.drop_zero, readP_no hf hc] at this
  exact this
/-- Two rows below one App: of so many nodes. -/
def wideT (o : Nat) : Tm := .node 6 0 [rowT (2998 + o), rowT 3001]
theorem wide_facts (o : Nat) (ho : o ≤ 1) : size (wideT o) = 6000 + o ∧ formedB (wideT o) = true ∧ Fits (wideT o) ∧ depth (wideT o) ≤ 20 := by
  obtain ⟨a1, a2, a3⟩ := row_facts (2998 + o) (by omega)
  obtain ⟨b1, b2, b3⟩ := row_facts 3001 (by omega)
  have d1 := row_depth 12 (2998 + o) (by omega)
  have d2 := row_depth 12 3001 (by omega)
  unfold wideT
  refine ⟨by simp [size, sizeL, a1, b1]; omega, by simp [formedB, formedL, a2, b2, kidsI], .mk _ _ _ (by unfold I64; omega) (by unfold I64; omega) ?_, by simp only [depth, depthL]; omega⟩
  intro u hu
  rcases List.mem_cons.1 hu with rfl | hu
  · exact a3
  · obtain rfl := List.mem_singleton.1 hu; exact b3
theorem wide_check (o : Nat) (ho : o ≤ 1) : checkE (wideT o) = if o = 0 then 0 else 4 := by
  obtain ⟨f1, f2, _, f4⟩ := wide_facts o ho
  unfold checkE
  rw [f1, f2]
  by_cases hn : o = 0
  · rw [if_neg (by omega), if_neg (by omega), if_pos hn]; rfl
  · rw [if_pos (by omega), if_neg hn]
theorem two_range (a : Int) : wrap64 ((IntKind.u64.wrap a).tmod 2) = 0 ∨ wrap64 ((IntKind.u64.wrap a).tmod 2) = 1 := by
  have h : 0 ≤ (IntKind.u64.wrap a).tmod 2 ∧ (IntKind.u64.wrap a).tmod 2 < 2 := by
    rw [Int.tmod_eq_emod_of_nonneg (u64_nonneg a)]
    exact ⟨Int.emod_nonneg _ (by omega), Int.emod_lt_of_pos _ (by omega)⟩
  rw [IntWalk.wrap64_in _ (by omega)]
  omega
end Go.Proofs.Ythcjjfgigbgdkaa
