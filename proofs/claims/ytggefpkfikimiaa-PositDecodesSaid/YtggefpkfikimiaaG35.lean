/- A block of one's own, one part of it bent: what the rest is still. No conditions but sizes. -/
import Derived.Test.YtggefpkfikimiaaG22
import Derived.Test.YtggefpkfikimiaaG24
import Derived.Test.YtggefpkfikimiaaG25
import Derived.Test.YtggefpkfikimiaaG34
import Derived.OrdersHeld
import Derived.StillTail
import Derived.RegionTactic
import Derived.Test.YtggefpkfikimiaaG01
namespace Go.Proofs.Ytggefpkfikimiaa
open Go.RowKit Go.Joins
set_option linter.unusedVariables false

theorem BlkO.grw {N : Nat} {w w' : World} {b : BlkT} {vs vc : Value} (hb : Below w.heap.size w w') (h : BlkO N w b vs vc) : BlkO N w' b vs vc := by
  obtain ⟨L, h1, h2, h3, h4⟩ := h
  have hz := hb.size
  exact ⟨L, h1, by omega, h3.same sortO_local fun b hb1 hb2 => hb.block b (by omega), RowOw.top hz (h4.same (conP_local N) fun b hb1 hb2 => hb.block b hb2)⟩
theorem cellOf {w : World} {g : Nat} {cur : Array Value} {ty : TypeId} (h : w.heap[g]? = some (.cells cur ty (0, 0))) (i : Nat) : w.cell? ⟨g, i, none⟩ = cur[i]? := by simp [World.cell?, h]
theorem frozenOf {w : World} {g : Nat} {cur : Array Value} {ty : TypeId} (h : w.heap[g]? = some (.cells cur ty (0, 0))) (i : Nat) : w.frozen? ⟨g, i, none⟩ = false := by simp [World.frozen?, h]
/-- The k-th con of a block of one's own, and what is left when it alone is changed. -/
theorem BlkO.con {N : Nat} {w : World} {b : BlkT} {vs vc : Value} (h : BlkO N w b vs vc) {k : Nat} (hk : k < b.cons.length) :
    ∃ (g cap : Nat) (cur : Array Value) (ty : TypeId) (lo hi s1 e1 s2 e2 s3 e3 : Nat) (va vi vt : Value), vc = .slice (some ⟨g, 0, none⟩) b.cons.length cap ∧ w.heap[g]? = some (.cells cur ty (0, 0)) ∧ b.cons.length * 6 ≤ cur.size ∧
      Apart3 lo hi s1 e1 s2 e2 s3 e3 ∧ N ≤ lo ∧ hi ≤ w.heap.size ∧ (g < lo ∨ hi ≤ g) ∧ N ≤ g ∧ g < w.heap.size ∧
      ArgsOwn (In s1 e1) N w b.cons[k].args va ∧ TermsOwn (In s2 e2) N w b.cons[k].idx vi ∧ AtS (In s3 e3) w b.cons[k].dec.kids vt ∧
      (cur[k * 6]? = some (.int .i64 b.cons[k].sort) ∧ cur[k * 6 + 1]? = some va ∧ cur[k * 6 + 2]? = some vi ∧ cur[k * 6 + 3]? = some (.int .i64 b.cons[k].dec.k) ∧ cur[k * 6 + 4]? = some (.int .i64 b.cons[k].dec.n) ∧ cur[k * 6 + 5]? = some vt) ∧
      ∀ (w' : World) (cur' : Array Value) (c' : ConT) (cs' : List Value), (∀ j, j < w.heap.size → j ≠ g → ¬ In lo hi j → w'.heap[j]? = w.heap[j]?) → w'.heap[g]? = some (.cells cur' ty (0, 0)) → (∀ i, i < b.cons.length → i ≠ k → ∀ r, r < 6 → cur'[i * 6 + r]? = cur[i * 6 + r]?) →
        (∀ r, r < 6 → cur'[k * 6 + r]? = cs'[r]?) → conC w' c' cs' → cs'.length = 6 → BAt w' (setC b k c') vs vc := by
  obtain ⟨L, hNL, hL, hS, hC⟩ := h
  obtain ⟨ht, f, lo, hi, hown, hel, hpw⟩ := hC
  obtain ⟨g, cap, rfl⟩ := ownsRow_form hown (by omega)
  have hgl := hown.lt g rfl
  have hxl := hown.1
  obtain ⟨g', cap', cur, hv, hb', hg, hcap, hcm, hcs, htake⟩ : ∃ g' cap' cur, Value.slice (some ⟨g, 0, none⟩) b.cons.length cap = .slice (some ⟨g', 0, none⟩) b.cons.length cap' ∧ L ≤ g' ∧ w.heap[g']? = some (.cells cur 35 (0, 0)) ∧ b.cons.length ≤ cap' ∧ cap' ≤ maxLen ∧ cur.size = cap' * 6 ∧ cur.toList.take (b.cons.length * 6) = (List.range b.cons.length).flatMap f := by
    rcases hown.2 with ⟨h', _⟩ | h'
    · cases h'
    · exact h'
  cases hv
  have hfl : ∀ i, i < b.cons.length → (f i).length = 6 := fun i hi' => (conP_c _ _ _ _ _ _ (hel i hi').2.2.2.1).2
  have hcell : ∀ i r, i < b.cons.length → r < 6 → cur[i * 6 + r]? = (f i)[r]? := fun i r hi' hr => by
    have h1 := flatG_get f hfl i r hi' hr
    have hle : (i + 1) * 6 ≤ b.cons.length * 6 := Nat.mul_le_mul_right 6 hi'
    rw [← htake, List.getElem?_take, if_pos (by omega)] at h1
    rw [← h1]; simp
  obtain ⟨a1, a2, a3, a4, a5⟩ := hel k hk
  obtain ⟨s1, e1, s2, e2, s3, e3, va, vi, vt, hap, hfk, hA, hI, hD⟩ := a4
  have q := fun r hr => hcell k r hk hr
  rw [hfk] at q
  refine ⟨g, cap, cur, _, lo k, hi k, s1, e1, s2, e2, s3, e3, va, vi, vt, rfl, hg, by rw [hcs]; omega, hap, by omega, a3, a5 g rfl, by omega, hgl.2, hA, hI, hD, ⟨q 0 (by omega), q 1 (by omega), q 2 (by omega), q 3 (by omega), q 4 (by omega), q 5 (by omega)⟩, ?_⟩
  intro w' cur' c' cs' hout hg' hrow hkc hcc hlen
  refine ⟨(hS.same sortO_local fun j h1 h2 => hout j (by omega) (by omega) (fun h => by have := h.1; omega)).row (by decide) fun lo hi a cs h => sortO_c lo hi w' a cs h, ?_⟩
  have hl : (b.cons.set k c').length = b.cons.length := by simp
  have : GAt 6 (conC w') w' (b.cons.set k c') (.slice (some ⟨g, 0, none⟩) (b.cons.set k c').length cap) := by
    refine .row _ g 0 cap (fun i => if i = k then cs' else f i) (by omega) (by omega) hcm (fun i hi' => ?_) (fun i hi' r hr => ?_)
    · rw [hl] at hi'
      by_cases e : i = k
      · subst e
        simp only [if_pos]
        rw [List.getElem_set_self]
        exact ⟨hcc, hlen⟩
      · simp only [if_neg e]
        rw [List.getElem_set_ne (Ne.symm e)]
        obtain ⟨c1, c2, c3, c4, c5⟩ := hel i hi'
        have hloc := conP_local N _ _ w w' _ _ (fun j hj hj2 => hout j (by omega) (fun e => by subst e; rcases c5 j rfl with h | h <;> omega) (fun h => by have h1 := h.1; have h2 := h.2; rcases hpw i k hi' hk e with h | h <;> omega)) c4
        exact conP_c _ _ _ _ _ _ hloc
    · rw [hl] at hi'
      rw [Nat.zero_add, cellOf hg']
      by_cases e : i = k
      · subst e
        simp only [if_pos]
        exact hkc r hr
      · simp only [if_neg e]
        rw [hrow i hi' e r hr]
        exact hcell i r hi' hr
  rw [hl] at this
  exact this
/-- The first sort of a block of one's own, its level changed. -/
theorem BlkO.sort0 {N : Nat} {w : World} {b : BlkT} {vs vc : Value} (h : BlkO N w b vs vc) {s : SortT} {l : List SortT} (hb : b.sorts = s :: l) :
    ∃ (g cap : Nat), vs = .slice (some ⟨g, 0, none⟩) b.sorts.length cap ∧ N ≤ g ∧ g < w.heap.size ∧ w.cell? ⟨g, 1, none⟩ = some (.int .i64 s.level) ∧ w.frozen? ⟨g, 1, none⟩ = false ∧
      ∀ lv : Int, BAt (w.setCell ⟨g, 1, none⟩ (.int .i64 lv)) { b with sorts := { s with level := lv } :: l } vs vc := by
  obtain ⟨L, hNL, hL, hS, hC⟩ := h
  have hlen : b.sorts.length = l.length + 1 := by rw [hb]; rfl
  obtain ⟨ht, f, lo, hi, hown, hel, hpw⟩ := hS
  obtain ⟨g, cap, rfl⟩ := ownsRow_form hown (by omega)
  have hgl := hown.lt g rfl
  have hgL := ht g rfl
  obtain ⟨g', cap', cur, hv, hb', hg, hcap, hcm, hcs, htake⟩ : ∃ g' cap' cur, Value.slice (some ⟨g, 0, none⟩) b.sorts.length cap = .slice (some ⟨g', 0, none⟩) b.sorts.length cap' ∧ N ≤ g' ∧ w.heap[g']? = some (.cells cur 29 (0, 0)) ∧ b.sorts.length ≤ cap' ∧ cap' ≤ maxLen ∧ cur.size = cap' * 6 ∧ cur.toList.take (b.sorts.length * 6) = (List.range b.sorts.length).flatMap f := by
    rcases hown.2 with ⟨h', _⟩ | h'
    · cases h'
    · exact h'
  cases hv
  have hfl : ∀ i, i < b.sorts.length → (f i).length = 6 := fun i hi' => (sortO_c _ _ _ _ _ (hel i hi').2.2.2.1).2
  have hcell : ∀ i r, i < b.sorts.length → r < 6 → cur[i * 6 + r]? = (f i)[r]? := fun i r hi' hr => by
    have h1 := flatG_get f hfl i r hi' hr
    have hle : (i + 1) * 6 ≤ b.sorts.length * 6 := Nat.mul_le_mul_right 6 hi'
    rw [← htake, List.getElem?_take, if_pos (by omega)] at h1
    rw [← h1]; simp
  have h0 : 0 < b.sorts.length := by omega
  obtain ⟨a1, a2, a3, a4, a5⟩ := hel 0 h0
  obtain ⟨va, vt, hf0, hI, hD⟩ := a4
  have hs0 : b.sorts[0] = s := by simp [hb]
  rw [hs0] at hf0 hI hD
  have q1 := hcell 0 1 h0 (by omega)
  rw [hf0] at q1
  refine ⟨g, cap, rfl, by omega, hgl.2, ?_, frozenOf hg 1, fun lv => ?_⟩
  · rw [cellOf hg]; exact q1
  have hg2 := heap_setCell_same w g 1 cur _ (.int .i64 lv) hg
  have hoth : ∀ j, j ≠ g → (w.setCell ⟨g, 1, none⟩ (.int .i64 lv)).heap[j]? = w.heap[j]? := fun j hj => Below.heap_setCell _ _ _ _ (by simpa using hj)
  have hsz : 6 ≤ cur.size := by rw [hcs]; omega
  refine ⟨?_, (hC.same (conP_local N) fun j h1 h2 => hoth j (by omega)).row (by decide) fun lo hi a cs h => conP_c N lo hi _ a cs h⟩
  have hl : ({ s with level := lv } :: l).length = b.sorts.length := by rw [hb]; rfl
  have : GAt 6 (sortC (w.setCell ⟨g, 1, none⟩ (.int .i64 lv))) (w.setCell ⟨g, 1, none⟩ (.int .i64 lv)) ({ s with level := lv } :: l) (.slice (some ⟨g, 0, none⟩) ({ s with level := lv } :: l).length cap) := by
    refine .row _ g 0 cap (fun i => if i = 0 then [va, .int .i64 lv, .bool s.dec, .int .i64 s.decT.k, .int .i64 s.decT.n, vt] else f i) (by simp) (by omega) hcm (fun i hi' => ?_) (fun i hi' r hr => ?_)
    · rw [hl] at hi'
      by_cases e : i = 0
      · subst e
        simp only [if_true, List.getElem_cons_zero]
        have sm : ∀ j, In (lo 0) (hi 0) j → True ∧ (w.setCell ⟨g, 1, none⟩ (.int .i64 lv)).heap[j]? = w.heap[j]? := fun j hj => ⟨trivial, hoth j (fun e => by subst e; have h1 := hj.1; have h2 := hj.2; rcases a5 j rfl with h | h <;> omega)⟩
        exact ⟨⟨va, vt, rfl, (hI.same sm).at, (hD.same sm).at⟩, rfl⟩
      · simp only [if_neg e]
        obtain ⟨i', rfl⟩ : ∃ m, i = m + 1 := ⟨i - 1, by omega⟩
        obtain ⟨c1, c2, c3, c4, c5⟩ := hel (i' + 1) hi'
        have hloc := sortO_local _ _ w (w.setCell ⟨g, 1, none⟩ (.int .i64 lv)) _ _ (fun j hj hj2 => hoth j (fun e => by subst e; rcases c5 j rfl with h | h <;> omega)) c4
        have hget : b.sorts[i' + 1] = l[i']'(by omega) := by simp [hb]
        rw [hget] at hloc
        rw [List.getElem_cons_succ]
        exact sortO_c _ _ _ _ _ hloc
    · rw [hl] at hi'
      rw [Nat.zero_add, cellOf hg2]
      by_cases e : i = 0
      · subst e
        simp only [if_true, Nat.zero_mul, Nat.zero_add, Array.getElem?_setIfInBounds]
        have q := hcell 0 r h0 hr
        rw [hf0, Nat.zero_mul, Nat.zero_add] at q
        by_cases e1 : 1 = r
        · subst e1; simp; omega
        · rw [if_neg e1, q]
          match r, hr, e1 with
          | 0, _, _ => rfl
          | 2, _, _ => rfl
          | 3, _, _ => rfl
          | 4, _, _ => rfl
          | 5, _, _ => rfl
      · simp only [if_neg e, Array.getElem?_setIfInBounds]
        rw [if_neg (by omega)]
        exact hcell i r hi' hr
  rw [hl] at this
  exact this
end Go.Proofs.Ytggefpkfikimiaa
/- Bent blocks: how great their parts are. No conditions but sizes. -/
namespace Go.Proofs.Ytggefpkfikimiaa
open Go.RowKit
set_option linter.unusedVariables false

theorem small_of {b : BlkT} (h : blkN b ≤ 1048576) : SmallB b := by
  have h1 := sortsN_len b.sorts
  have h2 := consN_len b.cons
  have e : blkN b = sortsN b.sorts + consN b.cons + 1 := rfl
  exact ⟨by omega, by omega, fun s hs => by have := sortN_le hs; omega, fun c hc => by have := conN_le hc; omega⟩
theorem con_room {b : BlkT} (h : blkN b ≤ 1048576) (h0 : 0 < b.sorts.length) {c : ConT} (hc : c ∈ b.cons) : conN c + 3 ≤ 1048576 := by
  have e : blkN b = sortsN b.sorts + consN b.cons + 1 := rfl
  have h1 := conN_le hc
  have h2 := sortN_le (List.getElem_mem h0)
  have e2 : sortN b.sorts[0] = argsN b.sorts[0].idx + size b.sorts[0].decT + 1 := rfl
  have h3 := size_pos b.sorts[0].decT
  omega
theorem small_set {b : BlkT} (h : blkN b ≤ 1048576) (k : Nat) {c : ConT} (hc : conN c ≤ 1048576) : SmallB (setC b k c) := by
  obtain ⟨h1, h2, h3, h4⟩ := small_of h
  refine ⟨h1, by simpa [setC] using h2, h3, fun x hx => ?_⟩
  rcases List.mem_or_eq_of_mem_set hx with hx | rfl
  · exact h4 x hx
  · exact hc
theorem fits_set {b : BlkT} (h : b.fits) (k : Nat) {c : ConT} (hc : c.fits) : (setC b k c).fits := by
  refine ⟨h.1, fun x hx => ?_, h.2.2⟩
  rcases List.mem_or_eq_of_mem_set hx with hx | rfl
  · exact h.2.1 x hx
  · exact hc
theorem argsN_snoc (a : ArgT) : ∀ l : List ArgT, argsN (l ++ [a]) = argsN l + argN a
  | [] => by simp [argsN]
  | x :: l => by have := argsN_snoc a l; simp only [List.cons_append, argsN]; omega
theorem sizeL_snoc (t : Tm) : ∀ l : List Tm, sizeL (l ++ [t]) = sizeL l + size t
  | [] => by simp [sizeL]
  | x :: l => by have := sizeL_snoc t l; simp only [List.cons_append, sizeL]; omega
theorem leaf_fits (k n : Int) (hk : I64 k) (hn : I64 n) : Fits (.node k n []) := .mk k n [] hk hn fun x hx => nomatch hx
theorem small_nosorts {b : BlkT} (h : blkN b ≤ 1048576) : SmallB { b with sorts := [] } := by
  obtain ⟨h1, h2, h3, h4⟩ := small_of h
  exact ⟨by simp, h2, (fun s hs => by cases hs), h4⟩
theorem small_level {b : BlkT} (h : blkN b ≤ 1048576) {s : SortT} {l : List SortT} (hb : b.sorts = s :: l) (lv : Int) : SmallB { b with sorts := { s with level := lv } :: l } := by
  obtain ⟨h1, h2, h3, h4⟩ := small_of h
  refine ⟨by rw [hb] at h1; exact h1, h2, fun x hx => ?_, h4⟩
  rcases List.mem_cons.1 hx with rfl | hx
  · exact h3 s (by rw [hb]; simp)
  · exact h3 x (by rw [hb]; simp [hx])
theorem fits_level {b : BlkT} (h : b.fits) {s : SortT} {l : List SortT} (hb : b.sorts = s :: l) {lv : Int} (hlv : I64 lv) : ({ b with sorts := { s with level := lv } :: l } : BlkT).fits := by
  refine ⟨fun x hx => ?_, h.2.1, h.2.2⟩
  rcases List.mem_cons.1 hx with rfl | hx
  · have := h.1 s (by rw [hb]; simp)
    exact ⟨this.1, hlv, this.2.2⟩
  · exact h.1 x (by rw [hb]; simp [hx])
theorem dec_put {W : World} {g n : Nat} {cur : Array Value} {ty : TypeId} (h : W.heap[g]? = some (.cells cur ty (0, 0))) (y3 y4 y5 : Value) :
    (((W.setCell ⟨g, n + 3, none⟩ y3).setCell ⟨g, n + 4, none⟩ y4).setCell ⟨g, n + 5, none⟩ y5).heap[g]? = some (.cells (((cur.setIfInBounds (n + 3) y3).setIfInBounds (n + 4) y4).setIfInBounds (n + 5) y5) ty (0, 0)) := by
  have h1 := heap_setCell_same W g (n + 3) cur ty y3 h
  have h2 := heap_setCell_same _ g (n + 4) _ ty y4 h1
  exact heap_setCell_same _ g (n + 5) _ ty y5 h2
theorem dec_oth {W : World} {g n j : Nat} (hj : j ≠ g) (y3 y4 y5 : Value) : (((W.setCell ⟨g, n + 3, none⟩ y3).setCell ⟨g, n + 4, none⟩ y4).setCell ⟨g, n + 5, none⟩ y5).heap[j]? = W.heap[j]? := by
  rw [Below.heap_setCell _ _ _ _ (by simpa using hj), Below.heap_setCell _ _ _ _ (by simpa using hj), Below.heap_setCell _ _ _ _ (by simpa using hj)]
theorem dec_bel {W : World} {g n D : Nat} (hD : D ≤ g) (y3 y4 y5 : Value) : Below D W (((W.setCell ⟨g, n + 3, none⟩ y3).setCell ⟨g, n + 4, none⟩ y4).setCell ⟨g, n + 5, none⟩ y5) :=
  (((Below.refl D W).setCell (p := ⟨g, n + 3, none⟩) hD y3).setCell (p := ⟨g, n + 4, none⟩) hD y4).setCell (p := ⟨g, n + 5, none⟩) hD y5
theorem dec_row {cur : Array Value} {k i r : Nat} (hi : i ≠ k) (hr : r < 6) (y3 y4 y5 : Value) : (((cur.setIfInBounds (k * 6 + 3) y3).setIfInBounds (k * 6 + 4) y4).setIfInBounds (k * 6 + 5) y5)[i * 6 + r]? = cur[i * 6 + r]? := by
  rw [Array.getElem?_setIfInBounds, if_neg (by omega), Array.getElem?_setIfInBounds, if_neg (by omega), Array.getElem?_setIfInBounds, if_neg (by omega)]
theorem dec_own {cur : Array Value} {k : Nat} (hs : k * 6 + 6 ≤ cur.size) {x0 x1 x2 : Value} (h0 : cur[k * 6]? = some x0) (h1 : cur[k * 6 + 1]? = some x1) (h2 : cur[k * 6 + 2]? = some x2) (y3 y4 y5 : Value) :
    ∀ r, r < 6 → (((cur.setIfInBounds (k * 6 + 3) y3).setIfInBounds (k * 6 + 4) y4).setIfInBounds (k * 6 + 5) y5)[k * 6 + r]? = ([x0, x1, x2, y3, y4, y5] : List Value)[r]? := fun r hr => by
  simp only [Array.getElem?_setIfInBounds, Array.size_setIfInBounds]
  match r, hr with
  | 0, _ => rw [if_neg (by omega), if_neg (by omega), if_neg (by omega)]; exact h0
  | 1, _ => rw [if_neg (by omega), if_neg (by omega), if_neg (by omega)]; exact h1
  | 2, _ => rw [if_neg (by omega), if_neg (by omega), if_neg (by omega)]; exact h2
  | 3, _ => rw [if_neg (by omega), if_neg (by omega), if_pos rfl, if_pos (by omega)]; rfl
  | 4, _ => rw [if_neg (by omega), if_pos rfl, if_pos (by omega)]; rfl
  | 5, _ => rw [if_pos rfl, if_pos (by omega)]; rfl
/-- One cell of a con's six put anew. -/
theorem one_row {cur : Array Value} {k i r p : Nat} (hp : p < 6) (hi : i ≠ k) (hr : r < 6) (y : Value) : (cur.setIfInBounds (k * 6 + p) y)[i * 6 + r]? = cur[i * 6 + r]? := by
  rw [Array.getElem?_setIfInBounds, if_neg (by omega)]
theorem one_own1 {cur : Array Value} {k : Nat} (hs : k * 6 + 6 ≤ cur.size) {x0 x2 x3 x4 x5 : Value} (h0 : cur[k * 6]? = some x0) (h2 : cur[k * 6 + 2]? = some x2) (h3 : cur[k * 6 + 3]? = some x3) (h4 : cur[k * 6 + 4]? = some x4) (h5 : cur[k * 6 + 5]? = some x5) (y : Value) :
    ∀ r, r < 6 → (cur.setIfInBounds (k * 6 + 1) y)[k * 6 + r]? = ([x0, y, x2, x3, x4, x5] : List Value)[r]? := fun r hr => by
  rw [Array.getElem?_setIfInBounds]
  match r, hr with
  | 0, _ => rw [if_neg (by omega)]; exact h0
  | 1, _ => rw [if_pos rfl, if_pos (by omega)]; rfl
  | 2, _ => rw [if_neg (by omega)]; exact h2
  | 3, _ => rw [if_neg (by omega)]; exact h3
  | 4, _ => rw [if_neg (by omega)]; exact h4
  | 5, _ => rw [if_neg (by omega)]; exact h5
theorem one_own2 {cur : Array Value} {k : Nat} (hs : k * 6 + 6 ≤ cur.size) {x0 x1 x3 x4 x5 : Value} (h0 : cur[k * 6]? = some x0) (h1 : cur[k * 6 + 1]? = some x1) (h3 : cur[k * 6 + 3]? = some x3) (h4 : cur[k * 6 + 4]? = some x4) (h5 : cur[k * 6 + 5]? = some x5) (y : Value) :
    ∀ r, r < 6 → (cur.setIfInBounds (k * 6 + 2) y)[k * 6 + r]? = ([x0, x1, y, x3, x4, x5] : List Value)[r]? := fun r hr => by
  rw [Array.getElem?_setIfInBounds]
  match r, hr with
  | 0, _ => rw [if_neg (by omega)]; exact h0
  | 1, _ => rw [if_neg (by omega)]; exact h1
  | 2, _ => rw [if_pos rfl, if_pos (by omega)]; rfl
  | 3, _ => rw [if_neg (by omega)]; exact h3
  | 4, _ => rw [if_neg (by omega)]; exact h4
  | 5, _ => rw [if_neg (by omega)]; exact h5
end Go.Proofs.Ytggefpkfikimiaa
/- A region whose operations may come in any order: loads taken first, where nobody but one last operation writes their cells. No conditions. -/
namespace Go.Proofs.Ytggefpkfikimiaa
open Go

section
variable {P : Program} {ops : Array Oper} {Q : Exit → Act → World → Prop} {S : World → Prop} {F : Nat}

/-- Whatever order is picked from here on; S holds behind every operation as long as the last one, F, has not come. -/
def wpAnyF (P : Program) (ops : Array Oper) (Q : Exit → Act → World → Prop) (S : World → Prop) (F : Nat) : Nat → Array Bool → Act → World → Prop
  | 0, listed, a, w => Region.ready .any ops listed = [] ∧ Q .normal a w
  | fuel + 1, listed, a, w =>
    (Region.ready .any ops listed = [] → Q .normal a w) ∧
    ∀ i ∈ Region.ready .any ops listed, wpOp P ops Q i (fun a' w' => ((listed.setIfInBounds i true).getD F true = false → S w') ∧ wpAnyF P ops Q S F fuel (listed.setIfInBounds i true) a' w') a w
theorem wpAny_of_F : ∀ (fuel : Nat) (listed : Array Bool) (a : Act) (w : World), wpAnyF P ops Q S F fuel listed a w → wpAny P .any ops Q fuel listed a w
  | 0, _, _, _, h => h
  | fuel + 1, _, _, _, h => ⟨h.1, fun i hi => wpOp_mono (fun a' w' h' => wpAny_of_F fuel _ a' w' h'.2) (h.2 i hi)⟩
theorem wpAnyF_first {i : Nat} {oi : Oper} {v : Value} (hi : ops[i]? = some oi) (hsel : ∀ (j : Nat) (o : Oper) cs b, ops[j]? = some o → o.op ≠ .select cs b)
    (hQ : ∀ c a w, Q (.panic c) (a.put oi.dst v) w → Q (.panic c) a w) (hFi : ∀ oF, ops[F]? = some oF → ∃ e ∈ oF.after, Region.binds .any e = true ∧ e.on = i) :
    ∀ (fuel : Nat) (listed : Array Bool) (a : Act) (w : World),
      (∀ j oj, ops[j]? = some oj → j ≠ i → listed.getD j true = false → (∀ e ∈ oj.after, Region.binds .any e = true → e.on ≠ i) → oi.apart ops oj = true) →
      listed.getD F true = false → i ∈ Region.ready .any ops listed → YieldsIf P ops S oi v a → S w →
      wpAnyF P ops Q S F fuel (listed.setIfInBounds i true) (a.put oi.dst v) w → wpAnyF P ops Q S F (fuel + 1) listed a w := by
  intro fuel
  have stuck : ∀ (listed : Array Bool) (j : Nat) (oj : Oper), i ∈ Region.ready .any ops listed → ops[j]? = some oj → (∀ e ∈ oj.after, Region.binds .any e = true → listed.getD e.on false = true) → ∀ e ∈ oj.after, Region.binds .any e = true → e.on ≠ i := by
    intro listed j oj hr _ hall e he hb heq
    have h1 := hall e he hb
    have h0 := (mem_ready.1 hr).1
    rw [heq, getD_both h0] at h1
    cases h1
  induction fuel with
  | zero =>
    intro listed a w _ _ hr hy hS H
    refine ⟨fun h => (by rw [h] at hr; cases hr), fun j hj => ?_⟩
    by_cases hji : j = i
    · subst hji; exact hy.wpOp hi hS ⟨fun _ => hS, H⟩
    · have := ready_mono hj hji
      rw [H.1] at this
      cases this
  | succ fuel ih =>
    intro listed a w hfree hFl hr hy hS H
    refine ⟨fun h => (by rw [h] at hr; cases hr), fun j hj => ?_⟩
    by_cases hji : j = i
    · subst hji; exact hy.wpOp hi hS ⟨fun _ => hS, H⟩
    · have h1 := H.2 j (ready_mono hj hji)
      obtain ⟨hjun, oj, hoj, hall⟩ := mem_ready.1 hj
      have hnot := stuck listed j oj hr hoj hall
      have hjF : j ≠ F := fun e => by
        subst e
        obtain ⟨e, he, hb, heq⟩ := hFi oj hoj
        exact hnot e he hb heq
      have h2 := wpOp_putIf hoj (hfree j oj hoj hji hjun hnot) (fun cs b => hsel i oi cs b hi) (fun cs b => hsel j oj cs b hoj) hQ hy h1
      have hFl' : (listed.setIfInBounds j true).getD F true = false := by rw [getD_set_ne true hjF]; exact hFl
      have hiF : i ≠ F := fun e => by
        obtain ⟨_, oi', hoi', hall'⟩ := mem_ready.1 hr
        rw [e] at hoi'
        obtain ⟨e2, he2, hb2, heq2⟩ := hFi oi' hoi'
        have h3 := hall' e2 he2 hb2
        rw [heq2, getD_both (mem_ready.1 hr).1] at h3
        cases h3
      have later : ∀ k, (listed.setIfInBounds j true).getD k true = false → listed.getD k true = false := fun k hk => by
        by_cases e : k = j
        · rw [e]; exact hjun
        · rwa [getD_set_ne true (Ne.symm e)] at hk
      refine wpOp_mono (fun a' w' h3 => ?_) h2
      have hS' : S w' := h3.2.1 (by rw [getD_set_ne true hjF, getD_set_ne true hiF]; exact hFl)
      refine ⟨fun _ => hS', ih _ a' w' (fun k ok hk hki hun => hfree k ok hk hki (later k hun)) hFl' (ready_mono hr (Ne.symm hji)) h3.1 hS' ?_⟩
      rw [Array.setIfInBounds_comm _ _ hji]
      exact h3.2.2
/-- Number i is taken first: it yields v in every world that meets S, and F waits for it. -/
theorem wpAnyF_take {i : Nat} {oi : Oper} {v : Value} {fuel : Nat} {listed : Array Bool} {a : Act} {w : World} (hi : ops[i]? = some oi)
    (hs : Region.noSelect ops = true) (hf : Region.free .any ops listed i = true) (hr : (Region.ready .any ops listed).contains i = true) (hF : Region.waitsFor .any ops F i = true) (hFl : listed.getD F true = false)
    (hQ : ∀ c a w, Q (.panic c) (a.put oi.dst v) w → Q (.panic c) a w) (hy : YieldsIf P ops S oi v a) (hS : S w)
    (h : wpAnyF P ops Q S F fuel (listed.setIfInBounds i true) (a.put oi.dst v) w) : wpAnyF P ops Q S F (fuel + 1) listed a w :=
  wpAnyF_first hi (Region.noSelect_spec hs) hQ (fun oF hoF => by
    obtain ⟨oj, hoj, h2⟩ := Region.waitsFor_spec hF
    rw [hoF] at hoj; cases hoj; exact h2) fuel listed a w (Region.free_spec hi hf) hFl (by simpa using hr) hy hS h
/-- One alone may come. -/
theorem wpAnyF_one {i : Nat} {oi : Oper} {fuel : Nat} {listed : Array Bool} {a : Act} {w : World} (hr : Region.ready .any ops listed = [i]) (ho : ops[i]? = some oi) (hw : Region.wanted oi (yielded ops a.tmps) = true)
    (h : ∀ K' : Act → World → Prop, (∀ a' w', ((listed.setIfInBounds i true).getD F true = false → S w') → wpAnyF P ops Q S F fuel (listed.setIfInBounds i true) a' w' → K' a' w') → Oper.wp P oi a w K' Q) : wpAnyF P ops Q S F (fuel + 1) listed a w := by
  refine ⟨fun h0 => (by rw [hr] at h0; cases h0), fun j hj => ?_⟩
  rw [hr] at hj
  have : j = i := by simpa using hj
  subst this
  exact wpOp_step ho fun K' hK => by rw [if_pos hw]; exact h K' fun a' w' h1 h2 => hK a' w' ⟨h1, h2⟩
theorem wpAnyF_done {listed : Array Bool} {a : Act} {w : World} (hr : Region.ready .any ops listed = []) (h : Q .normal a w) : ∀ fuel, wpAnyF P ops Q S F fuel listed a w
  | 0 => ⟨hr, h⟩
  | _ + 1 => ⟨fun _ => h, by rw [hr]; simp⟩
theorem wp_region_F {id : Nat} {a : Act} {w : World} (S : World → Prop) (F : Nat) (hm : P.follows .mixedOrders = true)
    (h : wpAnyF P ops Q S F ops.size (Array.replicate ops.size false) a w.drew) : (Code.region id ops true).wp P Q a w := wp_region_any hm (wpAny_of_F _ _ _ _ h)
end
end Go.Proofs.Ytggefpkfikimiaa
/- A con whose arguments, whose indices, have one more at their end: in memory. No conditions. -/
namespace Go.Proofs.Ytggefpkfikimiaa
open Go.RowKit Go.Joins
set_option linter.unusedVariables false

theorem set_tail3 {xs : List Value} {n : Nat} (h : xs.length = n) (a b c x y z : Value) : (((xs ++ [a, b, c]).set n x).set (n + 1) y).set (n + 2) z = xs ++ [x, y, z] := by
  subst h; simp
theorem oth3 {W : World} {B n j : Nat} (hj : j ≠ B) (x y z : Value) : (((W.setCell ⟨B, n, none⟩ x).setCell ⟨B, n + 1, none⟩ y).setCell ⟨B, n + 2, none⟩ z).heap[j]? = W.heap[j]? := by
  rw [Below.heap_setCell _ _ _ _ (by simpa using hj), Below.heap_setCell _ _ _ _ (by simpa using hj), Below.heap_setCell _ _ _ _ (by simpa using hj)]
theorem bel3 {W : World} {B n D : Nat} (hD : D ≤ B) (x y z : Value) : Below D W (((W.setCell ⟨B, n, none⟩ x).setCell ⟨B, n + 1, none⟩ y).setCell ⟨B, n + 2, none⟩ z) :=
  (((Below.refl D W).setCell (p := ⟨B, n, none⟩) hD x).setCell (p := ⟨B, n + 1, none⟩) hD y).setCell (p := ⟨B, n + 2, none⟩) hD z
/-- The cells of an argument without terms below it. -/
def bareC (a : ArgT) : List Value := [.bool a.r, .int .i64 a.ty.k, .int .i64 a.ty.n, .slice none 0 0, .slice none 0 0, .int .i64 a.sort, .slice none 0 0]
theorem con_args {N g lo hi s1 e1 s2 e2 s3 e3 : Nat} {w4 W : World} {c : ConT} {va vi vt v' : Value} {a : ArgT} {f : Nat → List Value} (hap : Apart3 lo hi s1 e1 s2 e2 s3 e3) (hhi : hi ≤ w4.heap.size) (hgo : g < lo ∨ hi ≤ g)
    (ho1 : ∀ b, va.ownBlock = some b → In s1 e1 b) (ho2 : w4.ownsRow N 38 7 va c.args.length ((List.range c.args.length).flatMap f)) (ho3 : ∀ i (_ : i < c.args.length), argCS (fun b => In s1 e1 b ∧ some b ≠ va.ownBlock) w4 c.args[i] (f i))
    (hPI : TermsOwn (In s2 e2) N w4 c.idx vi) (hPD : AtS (In s3 e3) w4 c.dec.kids vt) (hW : ∀ j, j < w4.heap.size → j ≠ g → some j ≠ va.ownBlock → W.heap[j]? = w4.heap[j]?)
    (hown : W.ownsRow N 38 7 v' (c.args.length + 1) ((List.range c.args.length).flatMap f ++ bareC a)) (hn1 : a.ty.kids = []) (hn2 : a.dom = []) (hn3 : a.idx = []) :
    conC W { c with args := c.args ++ [a] } [.int .i64 c.sort, v', vi, .int .i64 c.dec.k, .int .i64 c.dec.n, vt] := by
  unfold Apart3 at hap
  have hl : (c.args ++ [a]).length = c.args.length + 1 := by simp
  have hin : ∀ b, In s1 e1 b → lo ≤ b ∧ b < hi := fun b hb => by have h1 := hb.1; have h2 := hb.2; omega
  have sm1 : ∀ b, (In s1 e1 b ∧ some b ≠ va.ownBlock) → True ∧ W.heap[b]? = w4.heap[b]? := fun b hb => ⟨trivial, hW b (by have := hin b hb.1; omega) (fun e => by have := hin b hb.1; omega) hb.2⟩
  have sm2 : ∀ b, In s2 e2 b → True ∧ W.heap[b]? = w4.heap[b]? := fun b hb => ⟨trivial, hW b (by have := hb.2; omega) (fun e => by have := hb.1; have := hb.2; omega) (fun e => by have h1 := ho1 b e.symm; have h2 := h1.1; have h3 := h1.2; have h4 := hb.1; have h5 := hb.2; omega)⟩
  have sm3 : ∀ b, In s3 e3 b → True ∧ W.heap[b]? = w4.heap[b]? := fun b hb => ⟨trivial, hW b (by have := hb.2; omega) (fun e => by have := hb.1; have := hb.2; omega) (fun e => by have h1 := ho1 b e.symm; have h2 := h1.1; have h3 := h1.2; have h4 := hb.1; have h5 := hb.2; omega)⟩
  have hrow : W.ownsRow N 38 7 v' (c.args ++ [a]).length ((List.range (c.args ++ [a]).length).flatMap fun i => if i < c.args.length then f i else bareC a) := by
    rw [hl, flatG_snoc f (fun i => if i < c.args.length then f i else bareC a) (fun i hi => by rw [if_pos hi]), if_neg (by omega)]
    exact hown
  refine ⟨v', vi, vt, rfl, ?_, (hPI.same sm2).at, (hPD.same sm3).at⟩
  refine (gats_of_row (S := fun _ => True) (C := argC W) hrow (by decide) (fun _ _ => trivial) fun i hi' => ?_).at fun _ _ h => h
  by_cases e : i < c.args.length
  · simp only [if_pos e]
    rw [List.getElem_append_left e]
    exact ⟨((ho3 i e).same sm1).c, (ho3 i e).len⟩
  · obtain rfl : i = c.args.length := by rw [hl] at hi'; omega
    simp only [if_neg e]
    have : (c.args ++ [a])[c.args.length] = a := by simp
    rw [this]
    exact ⟨⟨_, _, _, rfl, by rw [hn1]; exact .nl, by rw [hn2]; exact .nl, by rw [hn3]; exact .nl⟩, rfl⟩
theorem con_terms {N g lo hi s1 e1 s2 e2 s3 e3 : Nat} {w4 W : World} {c : ConT} {va vi vt v' : Value} {t : Tm} {us : Nat → Value} (hap : Apart3 lo hi s1 e1 s2 e2 s3 e3) (hhi : hi ≤ w4.heap.size) (hgo : g < lo ∨ hi ≤ g)
    (ho1 : ∀ b, vi.ownBlock = some b → In s2 e2 b) (ho3 : ∀ i (_ : i < c.idx.length), AtS (fun b => In s2 e2 b ∧ some b ≠ vi.ownBlock) w4 c.idx[i].kids (us i))
    (hPA : ArgsOwn (In s1 e1) N w4 c.args va) (hPD : AtS (In s3 e3) w4 c.dec.kids vt) (hW : ∀ j, j < w4.heap.size → j ≠ g → some j ≠ vi.ownBlock → W.heap[j]? = w4.heap[j]?)
    (hown : W.ownsRow N 25 3 v' (c.idx.length + 1) (cells3 c.idx us ++ [.int .i64 t.k, .int .i64 t.n, .slice none 0 0])) (hn : t.kids = []) :
    conC W { c with idx := c.idx ++ [t] } [.int .i64 c.sort, va, v', .int .i64 c.dec.k, .int .i64 c.dec.n, vt] := by
  unfold Apart3 at hap
  have hl : (c.idx ++ [t]).length = c.idx.length + 1 := by simp
  have hin : ∀ b, In s2 e2 b → lo ≤ b ∧ b < hi := fun b hb => by have h1 := hb.1; have h2 := hb.2; omega
  have sm2 : ∀ b, (In s2 e2 b ∧ some b ≠ vi.ownBlock) → True ∧ W.heap[b]? = w4.heap[b]? := fun b hb => ⟨trivial, hW b (by have := hin b hb.1; omega) (fun e => by have := hin b hb.1; omega) hb.2⟩
  have sm1 : ∀ b, In s1 e1 b → True ∧ W.heap[b]? = w4.heap[b]? := fun b hb => ⟨trivial, hW b (by have := hb.2; omega) (fun e => by have := hb.1; have := hb.2; omega) (fun e => by have h1 := ho1 b e.symm; have h2 := h1.1; have h3 := h1.2; have h4 := hb.1; have h5 := hb.2; omega)⟩
  have sm3 : ∀ b, In s3 e3 b → True ∧ W.heap[b]? = w4.heap[b]? := fun b hb => ⟨trivial, hW b (by have := hb.2; omega) (fun e => by have := hb.1; have := hb.2; omega) (fun e => by have h1 := ho1 b e.symm; have h2 := h1.1; have h3 := h1.2; have h4 := hb.1; have h5 := hb.2; omega)⟩
  refine ⟨va, v', vt, rfl, (hPA.same sm1).row.at, ?_, (hPD.same sm3).at⟩
  refine at_of_row (base := N) (vs := fun i => if i < c.idx.length then us i else .slice none 0 0) ?_ fun i hi' => ?_
  · show W.ownsRow N 25 3 v' (c.idx ++ [t]).length (cells3 (c.idx ++ [t]) _)
    rw [hl, cells3_snoc c.idx t us _ fun i hi => by rw [if_pos hi]]
    simp only [if_neg (Nat.lt_irrefl _)]
    exact hown
  · show At W (c.idx ++ [t])[i].kids (if i < c.idx.length then us i else .slice none 0 0)
    by_cases e : i < c.idx.length
    · rw [if_pos e, List.getElem_append_left e]
      exact ((ho3 i e).same sm2).at
    · obtain rfl : i = c.idx.length := by have : i < (c.idx ++ [t]).length := hi'; rw [hl] at this; omega
      have : (c.idx ++ [t])[c.idx.length] = t := by simp
      rw [if_neg e, this, hn]
      exact .nl
end Go.Proofs.Ytggefpkfikimiaa
