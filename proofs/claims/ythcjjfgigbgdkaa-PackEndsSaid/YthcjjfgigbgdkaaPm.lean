/- What bytes are read as: plain mathematics. -/
import Derived.Test.YthcjjfgigbgdkaaPu
namespace Go.Proofs.Ythcjjfgigbgdkaa
def ByteL (l : List Int) : Prop := ∀ x ∈ l, 0 ≤ x ∧ x ≤ 255
abbrev Got : Type := Option (Tm × List Int × Nat)
def leafP (k : Int) (r : List Int) (n : Nat) : Got := match r with
  | a :: b :: r2 => some (.node k (a * 256 + b) [], r2, n)
  | _ => none
def kidsP (g : List Int → Nat → Got) : Nat → List Int → Nat → Option (List Tm × List Int × Nat)
  | 0, r, n => some ([], r, n)
  | c + 1, r, n => match g r n with
    | none => none
    | some (t, r1, n1) => match kidsP g c r1 n1 with
      | none => none
      | some (l, r2, n2) => some (t :: l, r2, n2)
def innerP (g : List Int → Nat → Got) (k : Int) (r : List Int) (n : Nat) : Got :=
  if kidsI k < 0 then none else match kidsP g (kidsI k).toNat r n with
    | none => none
    | some (l, r2, n2) => some (.node k 0 l, r2, n2)
def getP : Nat → List Int → Nat → Got
  | 0, _, _ => none
  | _ + 1, [], _ => none
  | _ + 1, _ :: _, 0 => none
  | f + 1, k :: r, n + 1 => if kidsI k = 0 then leafP k r n else innerP (getP f) k r n

def GetOk (g : List Int → Nat → Got) (f : Nat) : Prop := ∀ r n t r' n', ByteL r → g r n = some (t, r', n') → r = packT t ++ r' ∧ formedB t = true ∧ depth t ≤ f ∧ n = n' + size t
theorem kidsP_sound {g : List Int → Nat → Got} {f : Nat} (hg : GetOk g f) : ∀ (c : Nat) (r : List Int) (n : Nat) (l : List Tm) (r' : List Int) (n' : Nat), ByteL r → kidsP g c r n = some (l, r', n') →
    r = packK l ++ r' ∧ formedL l = true ∧ depthL l ≤ f ∧ n = n' + sizeL l ∧ l.length = c
  | 0, r, n, l, r', n', _, h => by
    simp only [kidsP, Option.some.injEq, Prod.mk.injEq] at h
    obtain ⟨rfl, rfl, rfl⟩ := h
    simp [packK, formedL, depthL, sizeL]
  | c + 1, r, n, l, r', n', hb, h => by
    rw [kidsP] at h
    cases h1 : g r n with
    | none => rw [h1] at h; cases h
    | some x =>
      obtain ⟨t, r1, n1⟩ := x
      rw [h1] at h
      obtain ⟨e1, e2, e3, e4⟩ := hg _ _ _ _ _ hb h1
      have hb1 : ByteL r1 := fun x hx => hb x (by rw [e1]; exact List.mem_append_right _ hx)
      cases h2 : kidsP g c r1 n1 with
      | none => simp only [h2] at h; cases h
      | some y =>
        obtain ⟨l2, r2, n2⟩ := y
        simp only [h2, Option.some.injEq, Prod.mk.injEq] at h
        obtain ⟨rfl, rfl, rfl⟩ := h
        obtain ⟨f1, f2, f3, f4, f5⟩ := kidsP_sound hg c r1 n1 l2 _ _ hb1 h2
        refine ⟨by rw [packK, List.append_assoc, ← f1]; exact e1, by rw [formedL, e2, f2]; rfl, ?_, by rw [sizeL]; omega, by simp [f5]⟩
        rw [depthL]; omega
theorem leafP_sound {k : Int} (hk : kidsI k = 0) {r : List Int} {n : Nat} {t : Tm} {r' : List Int} {n' : Nat} (hb : ByteL r) (h : leafP k r n = some (t, r', n')) :
    k :: r = packT t ++ r' ∧ formedB t = true ∧ depth t = 1 ∧ n = n' ∧ size t = 1 := by
  unfold leafP at h
  split at h
  · rename_i a b r2
    simp only [Option.some.injEq, Prod.mk.injEq] at h
    obtain ⟨rfl, rfl, rfl⟩ := h
    have ha := hb a (by simp)
    have hb2 := hb b (by simp)
    refine ⟨?_, ?_, by simp [depth, depthL], rfl, by simp [size, sizeL]⟩
    · rw [packT, if_pos (by rfl), show (a * 256 + b) / 256 = a from by omega, show (a * 256 + b) % 256 = b from by omega]; rfl
    · rw [formedB]
      simp [hk, formedL]
      omega
  · cases h
theorem innerP_sound {g : List Int → Nat → Got} {f : Nat} (hg : GetOk g f) {k : Int} (hk : kidsI k ≠ 0) {r : List Int} {n : Nat} {t : Tm} {r' : List Int} {n' : Nat} (hb : ByteL r) (h : innerP g k r n = some (t, r', n')) :
    k :: r = packT t ++ r' ∧ formedB t = true ∧ depth t ≤ f + 1 ∧ n + 1 = n' + size t := by
  unfold innerP at h
  by_cases h0 : kidsI k < 0
  · rw [if_pos h0] at h; cases h
  · rw [if_neg h0] at h
    cases h1 : kidsP g (kidsI k).toNat r n with
    | none => rw [h1] at h; cases h
    | some y =>
      obtain ⟨l2, r2, n2⟩ := y
      simp only [h1, Option.some.injEq, Prod.mk.injEq] at h
      obtain ⟨rfl, rfl, rfl⟩ := h
      obtain ⟨f1, f2, f3, f4, f5⟩ := kidsP_sound hg _ r n l2 _ _ hb h1
      have hl : l2.length ≠ 0 := by omega
      refine ⟨by rw [packT, if_neg hl, f1]; rfl, ?_, by rw [depth]; omega, by rw [size]; omega⟩
      rw [formedB, f2, if_neg hl]
      simp
      omega
theorem getP_sound : ∀ f, GetOk (getP f) f
  | 0 => fun r n t r' n' _ h => by simp [getP] at h
  | f + 1 => fun r n t r' n' hb h => by
    have ih := getP_sound f
    match r, n, hb, h with
    | [], _, _, h => simp [getP] at h
    | _ :: _, 0, _, h => simp [getP] at h
    | k :: r, n + 1, hb, h =>
      rw [getP] at h
      have hb1 : ByteL r := fun x hx => hb x (List.mem_cons_of_mem _ hx)
      by_cases hk : kidsI k = 0
      · rw [if_pos hk] at h
        obtain ⟨e1, e2, e3, e4, e5⟩ := leafP_sound hk hb1 h
        exact ⟨e1, e2, by omega, by omega⟩
      · rw [if_neg hk] at h
        exact innerP_sound ih hk hb1 h
theorem kidsP_full {g : List Int → Nat → Got} {f : Nat} : ∀ (l : List Tm) (r : List Int) (n : Nat), (∀ t ∈ l, ∀ r n, formedB t = true → depth t ≤ f → size t ≤ n → g (packT t ++ r) n = some (t, r, n - size t)) →
    formedL l = true → depthL l ≤ f → sizeL l ≤ n → kidsP g l.length (packK l ++ r) n = some (l, r, n - sizeL l)
  | [], r, n, _, _, _, _ => by simp [kidsP, packK, sizeL]
  | t :: l, r, n, hg, h1, h2, h3 => by
    rw [formedL, Bool.and_eq_true] at h1
    rw [depthL] at h2
    rw [sizeL] at h3
    rw [List.length_cons, kidsP, packK, List.append_assoc, hg t (by simp) (packK l ++ r) n h1.1 (by omega) (by omega)]
    simp only []
    rw [kidsP_full l r (n - size t) (fun u hu => hg u (by simp [hu])) h1.2 (by omega) (by omega)]
    simp [sizeL]
    omega
theorem getP_full : ∀ (f : Nat) (t : Tm) (r : List Int) (n : Nat), formedB t = true → depth t ≤ f → size t ≤ n → getP f (packT t ++ r) n = some (t, r, n - size t)
  | 0, t, r, n, _, h2, _ => by have := depth_eq t; omega
  | f + 1, t, r, n, h1, h2, h3 => by
    have hz := size_eq t
    have hd := depth_eq t
    obtain ⟨n, rfl⟩ : ∃ m, n = m + 1 := ⟨n - 1, by omega⟩
    rw [formedB_eq, Bool.and_eq_true, Bool.and_eq_true, decide_eq_true_eq] at h1
    obtain ⟨⟨a1, a2⟩, a3⟩ := h1
    rw [packT_eq, List.cons_append, getP]
    by_cases hl : t.kids.length = 0
    · rw [if_pos hl] at a2 ⊢
      rw [if_pos (by omega)]
      simp only [List.cons_append, List.nil_append, leafP]
      have hk0 : t.kids = [] := List.eq_nil_of_length_eq_zero hl
      cases t with
      | node k m l =>
        simp only [Tm.kids, Tm.n, Tm.k, Bool.and_eq_true] at *
        subst hk0
        rw [show m / 256 * 256 + m % 256 = m from by omega]
        simp [size, sizeL]
    · rw [if_neg hl] at a2 ⊢
      rw [if_neg (by omega)]
      unfold innerP
      rw [if_neg (by omega)]
      have hl2 : (kidsI t.k).toNat = t.kids.length := by omega
      rw [hl2, kidsP_full (f := f) t.kids r n (fun u hu r n => getP_full f u r n) a3 (by omega) (by omega)]
      cases t with
      | node k m l =>
        simp only [Tm.kids, Tm.n, Tm.k] at *
        obtain rfl : m = 0 := of_decide_eq_true a2
        simp [size]
/-- What the bytes begin with, and what lies behind. -/
def readP (l : List Int) : Option (Tm × List Int) := match getP 200 l 6000 with | none => none | some (t, r, _) => some (t, r)
theorem readP_sound {l r : List Int} {t : Tm} (hb : ByteL l) (h : readP l = some (t, r)) : l = packT t ++ r ∧ checkE t = 0 := by
  unfold readP at h
  cases h1 : getP 200 l 6000 with
  | none => rw [h1] at h; cases h
  | some x =>
    obtain ⟨u, r1, n1⟩ := x
    simp only [h1, Option.some.injEq, Prod.mk.injEq] at h
    obtain ⟨rfl, rfl⟩ := h
    obtain ⟨e1, e2, e3, e4⟩ := getP_sound 200 _ _ _ _ _ hb h1
    exact ⟨e1, by rw [checkE, if_neg (by omega), if_neg (by omega), e2]; rfl⟩
theorem readP_full {t : Tm} (r : List Int) (h : checkE t = 0) : readP (packT t ++ r) = some (t, r) := by
  unfold checkE at h
  by_cases h1 : 6000 < size t
  · rw [if_pos h1] at h; omega
  rw [if_neg h1] at h
  by_cases h2 : 200 < depth t
  · rw [if_pos h2] at h; omega
  rw [if_neg h2] at h
  cases h3 : formedB t with
  | false => rw [h3] at h; simp at h
  | true => unfold readP; rw [getP_full 200 t r 6000 h3 (by omega) (by omega)]
theorem packT_pos (t : Tm) : 0 < (packT t).length := by rw [packT_eq]; simp
theorem readP_cut {t : Tm} (h : checkE t = 0) (hb : ByteL (packT t)) {m : Nat} (hm : m < (packT t).length) : readP ((packT t).take m) = none := by
  cases h1 : readP ((packT t).take m) with
  | none => rfl
  | some x =>
    obtain ⟨u, r⟩ := x
    obtain ⟨e1, e2⟩ := readP_sound (fun x hx => hb x (List.mem_of_mem_take hx)) h1
    have h2 := readP_full (r ++ (packT t).drop m) e2
    rw [← List.append_assoc, ← e1, List.take_append_drop] at h2
    have h3 := readP_full [] h
    rw [List.append_nil, h2] at h3
    simp only [Option.some.injEq, Prod.mk.injEq, List.append_eq_nil_iff] at h3
    have := congrArg List.length h3.2.2
    simp at this
    omega
theorem packT_inj {t u : Tm} (h : checkE t = 0) (h2 : checkE u = 0) (e : packT t = packT u) : t = u := by
  have a := readP_full [] h
  have b := readP_full [] h2
  rw [e, b] at a
  simp at a
  exact a.symm
mutual
theorem packT_bytes : ∀ t : Tm, formedB t = true → ByteL (packT t)
  | .node k n l, h => by
    rw [formedB, Bool.and_eq_true, Bool.and_eq_true, decide_eq_true_eq] at h
    obtain ⟨⟨h1, h2⟩, h3⟩ := h
    have hk : 1 ≤ k ∧ k ≤ 13 := by
      have : 0 ≤ kidsI k := by omega
      unfold kidsI at this
      split at this
      · omega
      · split at this
        · omega
        · split at this
          · omega
          · split at this <;> omega
    intro x hx
    rw [packT] at hx
    rcases List.mem_cons.1 hx with rfl | hx
    · omega
    · by_cases hl : l.length = 0
      · rw [if_pos hl] at hx h2
        simp at hx h2
        rcases hx with rfl | rfl <;> omega
      · rw [if_neg hl] at hx
        exact packK_bytes l h3 x hx
theorem packK_bytes : ∀ l : List Tm, formedL l = true → ByteL (packK l)
  | [], _ => by simp [packK, ByteL]
  | t :: l, h => by
    rw [formedL, Bool.and_eq_true] at h
    intro x hx
    rw [packK] at hx
    rcases List.mem_append.1 hx with hx | hx
    · exact packT_bytes t h.1 x hx
    · exact packK_bytes l h.2 x hx
end
mutual
def leavesT : Tm → Nat | .node _ _ l => if l.length = 0 then 1 else leavesL l
def leavesL : List Tm → Nat | [] => 0 | t :: l => leavesT t + leavesL l
end
mutual
theorem packT_leaves : ∀ t : Tm, (packT t).length = size t + 2 * leavesT t
  | .node k n l => by
    rw [packT, size, leavesT]
    by_cases hl : l.length = 0
    · rw [if_pos hl, if_pos hl]
      have : l = [] := List.eq_nil_of_length_eq_zero hl
      subst this
      simp [sizeL]
    · rw [if_neg hl, if_neg hl, List.length_cons, packK_leaves l]; omega
theorem packK_leaves : ∀ l : List Tm, (packK l).length = sizeL l + 2 * leavesL l
  | [] => by simp [packK, sizeL, leavesL]
  | t :: l => by rw [packK, List.length_append, packT_leaves t, packK_leaves l, sizeL, leavesL]; omega
end
end Go.Proofs.Ythcjjfgigbgdkaa
