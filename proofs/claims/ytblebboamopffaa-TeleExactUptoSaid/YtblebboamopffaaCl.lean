/- The constants of a term: a rising list, each once. No conditions. -/
import Derived.Test.YtblebboamopffaaNd
import Derived.Maps.Views
import Derived.Lib.SlKeysI
namespace Go.Proofs.Ytblebboamopffaa
open Go.RowKit Go Go.Maps
set_option linter.unusedVariables false

mutual
def constT : Tm → List Int | .node k n l => (if k = 3 then [n] else []) ++ constK l
def constK : List Tm → List Int | [] => [] | t :: l => constT t ++ constK l
end
theorem constT_eq (t : Tm) : constT t = (if t.k = 3 then [t.n] else []) ++ constK t.kids := by cases t; rfl
theorem constK_append (a b : List Tm) : constK (a ++ b) = constK a ++ constK b := by
  induction a with
  | nil => simp [constK]
  | cons x a ih => simp [constK, ih]
theorem constK_take_succ {l : List Tm} {j : Nat} (h : j < l.length) : constK (l.take (j + 1)) = constK (l.take j) ++ constT l[j] := by
  rw [List.take_succ_eq_append_getElem h, constK_append]; simp [constK]
mutual
theorem constT_len : ∀ t : Tm, (constT t).length ≤ size t
  | .node k n l => by
    have := constK_len l
    simp only [constT, List.length_append, size]
    split <;> simp <;> omega
theorem constK_len : ∀ l : List Tm, (constK l).length ≤ sizeL l
  | [] => by simp [constK, sizeL]
  | t :: l => by have := constT_len t; have := constK_len l; simp only [constK, sizeL, List.length_append]; omega
end
mutual
theorem constT_nodes : ∀ (t : Tm) (d b n : Int), n ∈ constT t ↔ ∃ x ∈ nodesT t d b, x.2.2.k = 3 ∧ x.2.2.n = n
  | .node k m l, d, b, n => by
    rw [constT, nodesT, List.mem_append, constK_nodes l k (d + 1) b 0 n]
    constructor
    · rintro (h | ⟨x, hx, h⟩)
      · by_cases hk : k = 3
        · rw [if_pos hk] at h
          exact ⟨_, List.mem_cons_self, hk, (List.mem_singleton.1 h).symm⟩
        · rw [if_neg hk] at h; cases h
      · exact ⟨x, List.mem_cons_of_mem _ hx, h⟩
    · rintro ⟨x, hx, h1, h2⟩
      rcases List.mem_cons.1 hx with rfl | hx
      · have h1 : k = 3 := h1
        have h2 : m = n := h2
        left; rw [if_pos h1, h2]; exact List.mem_singleton.2 rfl
      · exact .inr ⟨x, hx, h1, h2⟩
theorem constK_nodes : ∀ (l : List Tm) (k d b : Int) (i : Nat) (n : Int), n ∈ constK l ↔ ∃ x ∈ nodesL l k d b i, x.2.2.k = 3 ∧ x.2.2.n = n
  | [], _, _, _, _, _ => by simp [constK, nodesL]
  | t :: l, k, d, b, i, n => by
    rw [constK, nodesL, List.mem_append, constT_nodes t d (b + bindsI k i) n, constK_nodes l k d b (i + 1) n]
    constructor
    · rintro (⟨x, hx, h⟩ | ⟨x, hx, h⟩)
      · exact ⟨x, List.mem_append_left _ hx, h⟩
      · exact ⟨x, List.mem_append_right _ hx, h⟩
    · rintro ⟨x, hx, h⟩
      rcases List.mem_append.1 hx with hx | hx
      · exact .inl ⟨x, hx, h⟩
      · exact .inr ⟨x, hx, h⟩
end

/-- A number more, at its place, once. -/
def joinI : List Int → Int → List Int
  | [], n => [n]
  | a :: l, n => if a < n then a :: joinI l n else if a = n then a :: l else n :: a :: l
theorem joinI_mem (l : List Int) (n x : Int) : x ∈ joinI l n ↔ x ∈ l ∨ x = n := by
  induction l with
  | nil => simp [joinI]
  | cons a l ih =>
    unfold joinI
    split
    · simp [ih, or_assoc]
    · split
      · rename_i h; subst h
        simp only [List.mem_cons]
        constructor
        · exact fun h => .inl h
        · rintro (h | h)
          · exact h
          · exact .inl h
      · simp only [List.mem_cons]
        constructor
        · rintro (h | h)
          · exact .inr h
          · exact .inl h
        · rintro (h | h)
          · exact .inr h
          · exact .inl h
theorem joinI_asc {l : List Int} (h : l.Pairwise (· < ·)) (n : Int) : (joinI l n).Pairwise (· < ·) := by
  induction l with
  | nil => simp [joinI]
  | cons a l ih =>
    rw [List.pairwise_cons] at h
    unfold joinI
    split
    · rename_i hlt
      rw [List.pairwise_cons]
      refine ⟨fun x hx => ?_, ih h.2⟩
      rcases (joinI_mem l n x).1 hx with hx | rfl
      · exact h.1 x hx
      · exact hlt
    · split
      · rw [List.pairwise_cons]; exact h
      · rw [List.pairwise_cons, List.pairwise_cons]
        refine ⟨fun x hx => ?_, h⟩
        rcases List.mem_cons.1 hx with rfl | hx
        · omega
        · have := h.1 x hx; omega
def consI (l : List Int) : List Int := l.foldl joinI []
theorem foldl_join_mem (l acc : List Int) (x : Int) : x ∈ l.foldl joinI acc ↔ x ∈ acc ∨ x ∈ l := by
  induction l generalizing acc with
  | nil => simp
  | cons a l ih => rw [List.foldl_cons, ih, joinI_mem]; simp [or_assoc]
theorem foldl_join_asc (l acc : List Int) (h : acc.Pairwise (· < ·)) : (l.foldl joinI acc).Pairwise (· < ·) := by
  induction l generalizing acc with
  | nil => exact h
  | cons a l ih => rw [List.foldl_cons]; exact ih _ (joinI_asc h a)
theorem consI_mem (l : List Int) (x : Int) : x ∈ consI l ↔ x ∈ l := by rw [consI, foldl_join_mem]; simp
theorem consI_asc (l : List Int) : (consI l).Pairwise (· < ·) := foldl_join_asc l [] List.Pairwise.nil
theorem joinI_len (l : List Int) (n : Int) : (joinI l n).length ≤ l.length + 1 := by
  induction l with
  | nil => simp [joinI]
  | cons a l ih =>
    unfold joinI
    split
    · simp; omega
    · split <;> simp
theorem consI_len (l : List Int) : (consI l).length ≤ l.length := by
  have : ∀ acc : List Int, (l.foldl joinI acc).length ≤ acc.length + l.length := by
    induction l with
    | nil => simp
    | cons a l ih => intro acc; have := ih (joinI acc a); have := joinI_len acc a; simp only [List.foldl_cons, List.length_cons]; omega
  have h := this []
  rw [List.length_nil, Nat.zero_add] at h
  exact h
theorem asc_unique : ∀ {a b : List Int}, a.Pairwise (· < ·) → b.Pairwise (· < ·) → (∀ x, x ∈ a ↔ x ∈ b) → a = b
  | [], [], _, _, _ => rfl
  | [], y :: b, _, _, h => by have := (h y).2 List.mem_cons_self; cases this
  | x :: a, [], _, _, h => by have := (h x).1 List.mem_cons_self; cases this
  | x :: a, y :: b, ha, hb, h => by
    rw [List.pairwise_cons] at ha hb
    have hxy : x = y := by
      rcases List.mem_cons.1 ((h x).1 List.mem_cons_self) with e | e
      · exact e
      · rcases List.mem_cons.1 ((h y).2 List.mem_cons_self) with e' | e'
        · exact e'.symm
        · have := hb.1 x e; have := ha.1 y e'; omega
    subst hxy
    rw [asc_unique ha.2 hb.2 fun z => ?_]
    constructor
    · intro hz
      rcases List.mem_cons.1 ((h z).1 (List.mem_cons_of_mem _ hz)) with e | e
      · subst e; have := ha.1 z hz; omega
      · exact e
    · intro hz
      rcases List.mem_cons.1 ((h z).2 (List.mem_cons_of_mem _ hz)) with e | e
      · subst e; have := hb.1 z hz; omega
      · exact e
/-- What the page's Join folds: the list of a list, joined. -/
theorem consI_append (a b : List Int) : consI (a ++ b) = (consI b).foldl joinI (consI a) := by
  refine asc_unique (consI_asc _) (foldl_join_asc _ _ (consI_asc a)) fun x => ?_
  rw [consI_mem, foldl_join_mem, consI_mem, consI_mem, List.mem_append]

/-- The keys of a set of ints. -/
def AllInt {H : Type} (D : DataW H) : Prop := ∃ es, D = .map es ∧ ∀ p ∈ es, ∃ x, p.1 = .int .i64 x
theorem AllInt.put {H : Type} {D : DataW H} (h : AllInt D) (x : Int) (d : DataW H) : AllInt (D.put (.int .i64 x) d) := by
  obtain ⟨es, rfl, hp⟩ := h
  refine ⟨_, rfl, fun p hm => ?_⟩
  rcases List.mem_cons.1 ((Go.WideShapes.insert_perm _ _).mem_iff.1 hm) with rfl | hm
  · exact ⟨x, rfl⟩
  · exact hp p (List.mem_filter.1 hm).1
theorem isKey (x : Int) : WideAt.IsKeyLit (.int .i64 x) := by trivial
def litOf (l : List Int) : List Lit := l.map (Lit.int .i64)
theorem litOf_key (l : List Int) : ∀ x ∈ litOf l, WideAt.IsKeyLit x := fun x hx => by
  obtain ⟨y, _, rfl⟩ := List.mem_map.1 hx; exact isKey y
theorem allInt_setOf {H : Type} (u : DataW H) (l : List Int) : AllInt (setOf u (litOf l)) := by
  have : ∀ (m : DataW H), AllInt m → AllInt ((litOf l).foldl (fun m x => m.put x u) m) := by
    induction l with
    | nil => exact fun m h => h
    | cons a l ih => intro m h; exact ih _ (h.put a u)
  exact this _ ⟨[], rfl, by simp⟩
theorem has_set {H : Type} (u : DataW H) (l : List Int) (x : Int) : has (setOf u (litOf l)) (.int .i64 x) = true ↔ x ∈ l := by
  rw [has_setOf u _ _ (litOf_key l), List.any_eq_true]
  constructor
  · rintro ⟨y, hy, hs⟩
    obtain ⟨z, hz, rfl⟩ := List.mem_map.1 hy
    have := WideAt.sameKey_eq hs
    cases this; exact hz
  · intro h; exact ⟨_, List.mem_map.2 ⟨x, h, rfl⟩, WideAt.sameKey_self (isKey x)⟩
/-- The keys, sorted, are the rising list. -/
theorem sorted_set {H : Type} (u : DataW H) (l ss : List Int) (h : ss.Perm (intKeys (setOf u (litOf l)))) : ss.mergeSort (fun x y => decide (x ≤ y)) = consI l := by
  obtain ⟨es, he, hint⟩ := allInt_setOf u l
  obtain ⟨es', he', hpw⟩ := tidy_setOf u _ (litOf_key l)
  rw [he] at he'
  cases he'
  have hmem : ∀ x, x ∈ intKeys (DataW.map es) ↔ x ∈ l := fun x => by
    rw [← has_set u l x, he]
    show x ∈ es.map (fun p => intOf p.1) ↔ es.any (fun p => p.1.sameKey (.int .i64 x)) = true
    rw [List.mem_map, List.any_eq_true]
    constructor
    · rintro ⟨p, hp, rfl⟩
      obtain ⟨y, hy⟩ := hint p hp
      exact ⟨p, hp, by rw [hy]; exact WideAt.sameKey_self (isKey y)⟩
    · rintro ⟨p, hp, hs⟩
      exact ⟨p, hp, by rw [WideAt.sameKey_eq hs]; rfl⟩
  have hnd : (intKeys (DataW.map es)).Pairwise (· ≠ ·) := by
    show (es.map (fun p => intOf p.1)).Pairwise (· ≠ ·)
    rw [List.pairwise_map]
    refine hpw.imp_of_mem fun {p q} hp hq hne e => hne ?_
    obtain ⟨x, hx⟩ := hint p hp
    obtain ⟨y, hy⟩ := hint q hq
    rw [hx, hy] at e ⊢
    have e : x = y := e
    rw [e]
  rw [he] at h
  have tr : ∀ a b c : Int, leI a b = true → leI b c = true → leI a c = true := fun a b c h1 h2 => by simp only [leI, decide_eq_true_eq] at *; exact Int.le_trans h1 h2
  have to : ∀ a b : Int, (leI a b || leI b a) = true := fun a b => by simp only [leI, Bool.or_eq_true, decide_eq_true_eq]; exact Int.le_total a b
  have hp2 := (List.mergeSort_perm ss leI).trans h
  have hle := List.pairwise_mergeSort tr to ss
  have hne : (ss.mergeSort leI).Pairwise (· ≠ ·) := (hp2.pairwise_iff (fun {a b} (h : a ≠ b) => h.symm)).2 hnd
  refine asc_unique (a := ss.mergeSort leI) ?_ (consI_asc l) fun x => ?_
  · refine (hle.and hne).imp fun {a b} hab => ?_
    have := hab.1
    simp only [leI, decide_eq_true_eq] at this
    have := hab.2
    omega
  · rw [consI_mem, hp2.mem_iff, hmem]
/-- A list of ints in memory. -/
def RowI (w : World) (l : List Int) (v : Value) : Prop := ∃ a cap, v = .slice a l.length cap ∧ l.length ≤ cap ∧ cap ≤ maxLen ∧ (0 < l.length → ∃ b off, a = some ⟨b, off, none⟩ ∧ ∀ i (_ : i < l.length), w.cell? ⟨b, off + i, none⟩ = some (.int .i64 l[i]))
theorem RowI.bel {w w' : World} {l : List Int} {v : Value} (h : RowI w l v) (hb : Below w.heap.size w w') : RowI w' l v := by
  obtain ⟨a, cap, h1, h2, h3, h4⟩ := h
  refine ⟨a, cap, h1, h2, h3, fun hl => ?_⟩
  obtain ⟨b, off, h5, h6⟩ := h4 hl
  exact ⟨b, off, h5, fun i hi => by rw [hb.cell (World.block_lt_of_cell? w _ (h6 i hi))]; exact h6 i hi⟩
theorem rowI_of_owns {w : World} {base : Nat} {e : TypeId} {v : Value} {l : List Int} (h : w.ownsRow base e 1 v l.length (l.map (Value.int .i64))) : RowI w l v := by
  rcases h.2 with ⟨rfl, h0⟩ | ⟨g, cap, cur, rfl, hb, hg, h1, h2, h3, htake⟩
  · exact ⟨none, 0, by rw [h0], by omega, by decide, fun hl => by omega⟩
  · refine ⟨_, cap, rfl, h1, h2, fun hl => ⟨g, 0, rfl, fun i hi => ?_⟩⟩
    have := h.cellAt i (by omega)
    rw [Nat.zero_add, this]
    simp [hi]
end Go.Proofs.Ytblebboamopffaa
