/- TermEnds: a term of as many nodes, as deep, as may be is right; one node more, one deeper, is not. -/
import Derived.Test.YthcjjfgigbgdkaaWk
import Derived.IntWalk
import Derived.Deep.DeepCutAuto
namespace Go.Proofs.Ythcjjfgigbgdkaa
open Go.RowKit

/-- A chain of so many nodes. -/
def chainT : Nat → Tm | 0 => .node 2 0 [] | n + 1 => .node 9 0 [chainT n]
theorem chain_facts (n : Nat) : size (chainT n) = n + 1 ∧ depth (chainT n) = n + 1 ∧ formedB (chainT n) = true := by
  induction n with
  | zero => decide
  | succ n ih =>
    obtain ⟨h1, h2, h3⟩ := ih
    refine ⟨by simp [chainT, size, sizeL, h1], by simp [chainT, depth, depthL, h2], ?_⟩
    simp [chainT, formedB, formedL, h3, kidsI]
theorem chain_fits (n : Nat) : Fits (chainT n) := by
  induction n with
  | zero => exact .mk _ _ _ (by unfold I64; omega) (by unfold I64; omega) (by simp)
  | succ n ih => exact .mk _ _ _ (by unfold I64; omega) (by unfold I64; omega) (by simpa using ih)
theorem chain_k (n : Nat) : (chainT n).n = 0 := by cases n <;> rfl

/-- A tree of so many nodes. -/
def fullT (n : Nat) : Tm :=
  if n < 2 then .node 2 0 [] else if n = 2 then .node 9 0 [.node 2 0 []] else .node 6 0 [fullT ((n - 1) / 2), fullT (n - 1 - (n - 1) / 2)]
termination_by n
decreasing_by all_goals omega
theorem fullT_eq (n : Nat) (h : 2 < n) : fullT n = .node 6 0 [fullT ((n - 1) / 2), fullT (n - 1 - (n - 1) / 2)] := by rw [fullT, if_neg (by omega), if_neg (by omega)]
theorem full_facts (n : Nat) (h : 1 ≤ n) : size (fullT n) = n ∧ formedB (fullT n) = true ∧ Fits (fullT n) := by
  induction n using Nat.strongRecOn with
  | _ n ih =>
    by_cases h1 : n = 1
    · subst h1
      rw [fullT, if_pos (by omega)]
      exact ⟨by decide, by decide, .mk _ _ _ (by unfold I64; omega) (by unfold I64; omega) (by simp)⟩
    · by_cases h2 : n = 2
      · subst h2
        rw [fullT, if_neg (by omega), if_pos rfl]
        exact ⟨by decide, by decide, .mk _ _ _ (by unfold I64; omega) (by unfold I64; omega) (by
          intro u hu
          obtain rfl := List.mem_singleton.1 hu
          exact .mk _ _ _ (by unfold I64; omega) (by unfold I64; omega) (by simp))⟩
      · obtain ⟨a1, a2, a3⟩ := ih ((n - 1) / 2) (by omega) (by omega)
        obtain ⟨b1, b2, b3⟩ := ih (n - 1 - (n - 1) / 2) (by omega) (by omega)
        rw [fullT_eq n (by omega)]
        refine ⟨by simp [size, sizeL, a1, b1]; omega, by simp [formedB, formedL, a2, b2, kidsI], .mk _ _ _ (by unfold I64; omega) (by unfold I64; omega) ?_⟩
        intro u hu
        rcases List.mem_cons.1 hu with rfl | hu
        · exact a3
        · obtain rfl := List.mem_singleton.1 hu; exact b3
theorem full_depth (k n : Nat) (h : n < 2 ^ k) : depth (fullT n) ≤ k + 1 := by
  induction k generalizing n with
  | zero =>
    have : n = 0 := by omega
    subst this
    rw [fullT, if_pos (by omega)]; decide
  | succ k ih =>
    by_cases h1 : n < 2
    · rw [fullT, if_pos h1]; simp [depth, depthL]
    · by_cases h2 : n = 2
      · subst h2
        rw [fullT, if_neg (by omega), if_pos rfl]
        have : depth (.node 9 0 [.node 2 0 []]) = 2 := by decide
        omega
      · rw [fullT_eq n (by omega)]
        have hp : 2 ^ (k + 1) = 2 * 2 ^ k := by rw [Nat.pow_succ]; omega
        have e1 := ih ((n - 1) / 2) (by omega)
        have e2 := ih (n - 1 - (n - 1) / 2) (by omega)
        simp only [depth, depthL]; omega

/-- A term in new memory, as a function returns it. -/
def RetS (t : Tm) (w : World) (e : Ending) (w' : World) : Prop := ∃ a cap, e = .returned (.agg #[.int .i64 t.k, .int .i64 t.n, .slice a t.kids.length cap]) ∧ AtS (fun b => w.heap.size ≤ b ∧ b < w'.heap.size) w' t.kids (.slice a t.kids.length cap) ∧ Below w.heap.size w w'
/-- A new block that waits for its term. -/
def Slot (w w1 : World) : Prop := (w1.cell? ⟨w.heap.size, 0, none⟩ = some (.int .i64 0) ∧ w1.cell? ⟨w.heap.size, 1, none⟩ = some (.int .i64 0) ∧ w1.cell? ⟨w.heap.size, 2, none⟩ = some (.slice none 0 0)) ∧
  (w1.frozen? ⟨w.heap.size, 0, none⟩ = false ∧ w1.frozen? ⟨w.heap.size, 1, none⟩ = false ∧ w1.frozen? ⟨w.heap.size, 2, none⟩ = false) ∧ Below w.heap.size w w1 ∧ w.heap.size + 1 ≤ w1.heap.size
theorem slot_of {w w1 : World} (hb : Below (w.heap.size + 1) (w.alloc (.cells #[.int .i64 0, .int .i64 0, .slice none 0 0] 24)) w1) : Slot w w1 := by
  have hz := World.alloc_heap_new w (.cells #[.int .i64 0, .int .i64 0, .slice none 0 0] 24)
  have hb0 := below_al w (.cells #[.int .i64 0, .int .i64 0, .slice none 0 0] 24)
  have hn1 : w1.heap[w.heap.size]? = _ := (hb.block w.heap.size (by omega)).trans hz
  refine ⟨?_, ?_, hb0.trans (hb.mono (by omega)), by have := hb.size; simp at this; omega⟩
  · refine ⟨?_, ?_, ?_⟩ <;> simp [World.cell?, hn1]
  · refine ⟨?_, ?_, ?_⟩ <;> simp [World.frozen?, hn1]

theorem ats2 {w w1 w2 : World} {D : Nat} {t u : Tm} {v v2 : Value} (hA1 : AtS (fun b => D ≤ b ∧ b < w1.heap.size) w1 t.kids v) (hA2 : AtS (fun b => w1.heap.size ≤ b ∧ b < w2.heap.size) w2 u.kids v2)
    (hb2 : Below w1.heap.size w1 w2) (hD : w.heap.size + 1 ≤ D) (h1 : w.heap.size + 1 ≤ w1.heap.size) :
    AtS (fun b => (w.heap.size + 1 ≤ b ∧ b < w2.heap.size) ∨ b = w2.heap.size) (w2.alloc (.cells #[.int .i64 t.k, .int .i64 t.n, v, .int .i64 u.k, .int .i64 u.n, v2] 24)) [t, u] (.slice (some ⟨w2.heap.size, 0, none⟩) 2 2) ∧
    ∀ b, ((w.heap.size + 1 ≤ b ∧ b < w2.heap.size) ∨ b = w2.heap.size) → b < (w2.alloc (.cells #[.int .i64 t.k, .int .i64 t.n, v, .int .i64 u.k, .int .i64 u.n, v2] 24)).heap.size := by
  have h2 := hb2.size
  refine ⟨ats_cells2 (S := fun b => w.heap.size + 1 ≤ b ∧ b < w2.heap.size) (hA1.same fun b hb => ⟨⟨by omega, by omega⟩, hb2.block b hb.2⟩) (hA2.mono fun b hb => ⟨by omega, hb.2⟩) fun b hb => hb.2, fun b hb => ?_⟩
  simp only [World.size_alloc]
  rcases hb with hb | hb <;> omega

set_option maxRecDepth 100000 in
set_option maxHeartbeats 2000000 in
theorem full_any (n : Nat) (h : 1 ≤ n) (h2 : n ≤ 100000) : ∀ (x : Int) (_ : x = n) (w : World),
    Calls Try.prog 34 #[.int .i64 x] w (RetS (fullT n) w) := by
  induction n using Nat.strongRecOn with
  | _ n ih =>
    intro x hx w
    have HU := Lib.hid (fun w => u_any 0 w)
    by_cases h1 : n = 1
    · have hF : fullT n = .node 2 0 [] := by rw [h1, fullT, if_pos (by omega)]
      rw [hF]
      have hx1 : x < 2 := by omega
      clear ih hF h1 hx
      go_enter Try.func34, Try.ntmps34
      go_wp2_with (go_at_call 32; refine (HU.out _).mono ?_; rintro e w1 ⟨rfl, hb⟩; obtain ⟨⟨z0, z1, z2⟩, ⟨y0, y1, y2⟩, hB, hs⟩ := slot_of (by simpa using hb))
      exact bodyPost_ret (v := .agg #[.int .i64 2, .int .i64 0, .slice none 0 0]) (by simp [results, Try.f34, go_sem, z0, z1, z2]) rfl ⟨none, 0, rfl, .nl, hB.trans (below_store3 (Nat.le_refl _) _ _ _)⟩
    by_cases h2' : n = 2
    · have hF : fullT n = .node 9 0 [.node 2 0 []] := by rw [h2', fullT, if_neg (by omega), if_pos rfl]
      rw [hF]
      have hx1 : decide (x < 2) = false := by simp; omega
      have hx2 : (x == 2) = true := by simp; omega
      have HT := Lib.hid (fun w => t_anyS _ 9 [.node 2 0 []] (by simp) (by simp) _ _ (fun b (hb : False ∨ b = w.heap.size) => by rcases hb with h | h; exact h.elim; simp; omega) (ats_cells1 (S := fun _ => False) (w := w) (t := .node 2 0 []) (v := .slice none 0 0) .nl (fun _ h => h.elim)))
      simp only [Tm.k, Tm.n] at HT
      clear ih hF h1 h2' hx
      go_enter Try.func34, Try.ntmps34
      go_wp2_with (first | (go_at_call 32; refine (HU.out _).mono ?_; rintro e w1 ⟨rfl, hb⟩) | (go_at_call 33; refine (HT.out _).mono ?_; rintro e w2 ⟨a2, c2, rfl, hA2, hb2⟩; obtain ⟨⟨z0, z1, z2⟩, ⟨y0, y1, y2⟩, hB, hs⟩ := slot_of (w := w) (w1 := w2) (by have hz := hb.size; simp only [World.size_alloc] at hb hz hb2; exact hb.trans (((below_al w1 _).trans (hb2.mono (by omega))).mono hz))))
      have hz : w.heap.size + 1 ≤ w1.heap.size := by have := hb.size; simp at this; omega
      refine bodyPost_ret (v := .agg #[.int .i64 9, .int .i64 0, .slice a2 1 c2]) (by simp [results, Try.f34, go_sem, z0, z1, z2]) rfl ⟨a2, c2, rfl, ?_, hB.trans (below_store3 (Nat.le_refl _) _ _ _)⟩
      refine hA2.lt.same fun b hb => ?_
      have hge : w1.heap.size ≤ b := by
        rcases hb.1 with (h | h) | h
        · exact h.elim
        · omega
        · simp at h; omega
      exact ⟨⟨by omega, by simpa [World.setCell] using hb.2⟩, other_store3 (by omega) _ _ _⟩
    have hF := fullT_eq n (by omega)
    obtain ⟨ma, hma⟩ : ∃ m, (n - 1) / 2 = m := ⟨_, rfl⟩
    obtain ⟨mb, hmb⟩ : ∃ m, n - 1 - (n - 1) / 2 = m := ⟨_, rfl⟩
    rw [hmb, hma] at hF
    rw [hF]
    have hx1 : decide (x < 2) = false := by simp; omega
    have hx2 : (x == 2) = false := by simp; omega
    have hx3 : 3 ≤ x := by omega
    have hx4 : x ≤ 100000 := by omega
    have ea : ∀ y : Int, y = (x - 1) / 2 → y = (ma : Int) := fun y hy => by omega
    have eb : ∀ y : Int, y = x - 1 - (x - 1) / 2 → y = (mb : Int) := fun y hy => by omega
    have I1 := Lib.hid (ih ma (by omega) (by omega) (by omega))
    have I2 := Lib.hid (ih mb (by omega) (by omega) (by omega))
    have EA := Lib.hid ea
    have EB := Lib.hid eb
    clear ih hF h1 h2' hx ea eb hma hmb
    go_enter Try.func34, Try.ntmps34
    go_wp2_with (first | (go_at_call 34; refine (I1.out _ (EA.out _ rfl) _).mono ?_; rintro e w1 ⟨a1, c1, rfl, hA1, hb1⟩; clear I1 EA) | (go_at_call 34; refine (I2.out _ (EB.out _ rfl) _).mono ?_; rintro e w2 ⟨a2, c2, rfl, hA2, hb2⟩; have X2 := ats2 (w := w) hA1 hA2 hb2 (by first | omega | (simp; done) | (simp; omega)) (by have := hb1.size; simp at this; omega); clear hA1 hA2) | (go_at_call 33; refine (t_anyS _ 6 [fullT ma, fullT mb] (by simp) (by simp) _ _ X2.2 X2.1).mono ?_; rintro e w3 ⟨a3, c3, rfl, hA3, hb3⟩; obtain ⟨⟨z0, z1, z2⟩, ⟨y0, y1, y2⟩, hB, hs⟩ := slot_of (w := w) (w1 := w3) (by have hz := hb1.size; have hz2 := hb2.size; simp only [World.size_alloc] at hb1 hb2 hb3 hz; exact (hb1.trans (hb2.mono (by omega))).trans (((below_al w2 _).mono (by omega)).trans (hb3.mono (by omega))))))
    have hz1 : w.heap.size + 1 ≤ w1.heap.size := by have := hb1.size; simp at this; omega
    have hz2 := hb2.size
    refine bodyPost_ret (v := .agg #[.int .i64 6, .int .i64 0, .slice a3 2 c3]) (by simp [results, Try.f34, go_sem, z0, z1, z2]) rfl ⟨a3, c3, rfl, ?_, hB.trans (below_store3 (Nat.le_refl _) _ _ _)⟩
    refine hA3.lt.same fun b hb => ?_
    have hge : w.heap.size + 1 ≤ b := by
      rcases hb.1 with (h | h) | h
      · exact h.1
      · omega
      · simp at h; omega
    exact ⟨⟨by omega, by simpa [World.setCell] using hb.2⟩, other_store3 (by omega) _ _ _⟩
end Go.Proofs.Ythcjjfgigbgdkaa
