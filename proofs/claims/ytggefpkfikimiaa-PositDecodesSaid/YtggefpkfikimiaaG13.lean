/- slices.Reverse at a row of terms, in place. No conditions but its length. -/
import Derived.Test.YtggefpkfikimiaaG12
import Derived.Test.YtggefpkfikimiaaG10
import Derived.Deep.DrawnRows
import Derived.Deep.RegionLaw
import Derived.Deep.DeepCutAuto
import Derived.Test.YtggefpkfikimiaaG09
namespace Go.Proofs.Ytggefpkfikimiaa
open Go.RowKit
set_option linter.unusedVariables false

def sigR (n i k : Nat) : Nat := if k < i ∨ n ≤ k + i then n - 1 - k else k
def trR (L : List Tm) (vs : Nat → Value) (s : Nat) (r : Nat) : Option Value := ([.int .i64 (L[s]?.getD default).k, .int .i64 (L[s]?.getD default).n, vs s] : List Value)[r]?
def RevI (g cap : Nat) (L : List Tm) (vs : Nat → Value) (i : Nat) (W : World) : Prop := ∃ cs : Array Value, W.heap[g]? = some (.cells cs 25 (0, 0)) ∧ cs.size = cap * 3 ∧ ∀ k, k < L.length → ∀ r, r < 3 → cs[k * 3 + r]? = trR L vs (sigR L.length i k) r
theorem revi_step {g cap : Nat} {L : List Tm} {vs : Nat → Value} {i j : Nat} {W : World} (h : RevI g cap L vs i W) (hij : i < j) (hj : j + i + 1 = L.length) (hcap : L.length ≤ cap) :
    RevI g cap L vs (i + 1) ((((((W.setCell ⟨g, i * 3, none⟩ (.int .i64 (L[j]?.getD default).k)).setCell ⟨g, i * 3 + 1, none⟩ (.int .i64 (L[j]?.getD default).n)).setCell ⟨g, i * 3 + 2, none⟩ (vs j)).setCell ⟨g, j * 3, none⟩ (.int .i64 (L[i]?.getD default).k)).setCell ⟨g, j * 3 + 1, none⟩ (.int .i64 (L[i]?.getD default).n)).setCell ⟨g, j * 3 + 2, none⟩ (vs i)) := by
  obtain ⟨cs, h1, h2, h3⟩ := h
  have r1 := row_store3 h1 (i * 3) (.int .i64 (L[j]?.getD default).k) (.int .i64 (L[j]?.getD default).n) (vs j)
  have r2 := row_store3 r1 (j * 3) (.int .i64 (L[i]?.getD default).k) (.int .i64 (L[i]?.getD default).n) (vs i)
  refine ⟨_, r2, by simpa using h2, fun k hk r hr => ?_⟩
  by_cases hki : k = i
  · subst hki
    have e : sigR L.length (k + 1) k = j := by unfold sigR; rw [if_pos (by omega)]; omega
    rw [e, Array.getElem?_setIfInBounds_ne (by omega), Array.getElem?_setIfInBounds_ne (by omega), Array.getElem?_setIfInBounds_ne (by omega)]
    have : r = 0 ∨ r = 1 ∨ r = 2 := by omega
    rcases this with rfl | rfl | rfl
    · simp only [Nat.add_zero]; rw [Array.getElem?_setIfInBounds_ne (by omega), Array.getElem?_setIfInBounds_ne (by omega), Array.getElem?_setIfInBounds_self_of_lt (by omega)]; rfl
    · rw [Array.getElem?_setIfInBounds_ne (by omega), Array.getElem?_setIfInBounds_self_of_lt (by simp; omega)]; rfl
    · rw [Array.getElem?_setIfInBounds_self_of_lt (by simp; omega)]; rfl
  · by_cases hkj : k = j
    · subst hkj
      have e : sigR L.length (i + 1) k = i := by unfold sigR; rw [if_pos (by omega)]; omega
      rw [e]
      have : r = 0 ∨ r = 1 ∨ r = 2 := by omega
      rcases this with rfl | rfl | rfl
      · simp only [Nat.add_zero]; rw [Array.getElem?_setIfInBounds_ne (by omega), Array.getElem?_setIfInBounds_ne (by omega), Array.getElem?_setIfInBounds_self_of_lt (by simp; omega)]; rfl
      · rw [Array.getElem?_setIfInBounds_ne (by omega), Array.getElem?_setIfInBounds_self_of_lt (by simp; omega)]; rfl
      · rw [Array.getElem?_setIfInBounds_self_of_lt (by simp; omega)]; rfl
    · have e : sigR L.length (i + 1) k = sigR L.length i k := by
        unfold sigR
        by_cases hc : k < i ∨ L.length ≤ k + i
        · rw [if_pos hc, if_pos (by omega)]
        · rw [if_neg hc, if_neg (by omega)]
      rw [e, Array.getElem?_setIfInBounds_ne (by omega), Array.getElem?_setIfInBounds_ne (by omega), Array.getElem?_setIfInBounds_ne (by omega), Array.getElem?_setIfInBounds_ne (by omega), Array.getElem?_setIfInBounds_ne (by omega), Array.getElem?_setIfInBounds_ne (by omega)]
      exact h3 k hk r hr
theorem drew_heap (W : World) (b : Nat) : W.drew.heap[b]? = W.heap[b]? := rfl
theorem RevI.drew {g cap : Nat} {L : List Tm} {vs : Nat → Value} {i : Nat} {W : World} (h : RevI g cap L vs i W) : RevI g cap L vs i W.drew := h
/-- A round: what it leaves, in the block and elsewhere. -/
def RevTo (g cap : Nat) (L : List Tm) (vs : Nat → Value) (i : Nat) (W X : World) : Prop := RevI g cap L vs i X ∧ Below g W X ∧ ∀ b, b ≠ g → X.heap[b]? = W.heap[b]?
theorem revi_to {g cap : Nat} {L : List Tm} {vs : Nat → Value} {i j : Nat} {W : World} (h : RevI g cap L vs i W) (hij : i < j) (hj : j + i + 1 = L.length) (hcap : L.length ≤ cap) :
    RevTo g cap L vs (i + 1) W ((((((W.setCell ⟨g, i * 3, none⟩ (.int .i64 (L[j]?.getD default).k)).setCell ⟨g, i * 3 + 1, none⟩ (.int .i64 (L[j]?.getD default).n)).setCell ⟨g, i * 3 + 2, none⟩ (vs j)).setCell ⟨g, j * 3, none⟩ (.int .i64 (L[i]?.getD default).k)).setCell ⟨g, j * 3 + 1, none⟩ (.int .i64 (L[i]?.getD default).n)).setCell ⟨g, j * 3 + 2, none⟩ (vs i)) :=
  ⟨revi_step h hij hj hcap, (below_row3 (D := g) (B := g) (o := i * 3) (W := W) (Nat.le_refl _) _ _ _).trans (below_row3 (D := g) (B := g) (o := j * 3) (Nat.le_refl _) _ _ _), fun b hb => (other_row3 (o := j * 3) hb _ _ _).trans (other_row3 (o := i * 3) (W := W) hb _ _ _)⟩
theorem RevTo.drew {g cap : Nat} {L : List Tm} {vs : Nat → Value} {i : Nat} {W X : World} (h : RevTo g cap L vs i W X) : RevTo g cap L vs i W X.drew := ⟨h.1.drew, h.2.1.drew, fun b hb => (drew_heap X b).trans (h.2.2 b hb)⟩
/-- The loop's state. -/
def RevSt (g cap : Nat) (L : List Tm) (vs : Nat → Value) (i : Nat) (w wr : World) : Prop := (0 < L.length → RevI g cap L vs i wr) ∧ Below g w wr ∧ ∀ b, b ≠ g → wr.heap[b]? = w.heap[b]?
theorem RevTo.st {g cap : Nat} {L : List Tm} {vs : Nat → Value} {i : Nat} {w W X : World} (h : RevTo g cap L vs i W X) (hw : Below g w W) (hO : ∀ b, b ≠ g → W.heap[b]? = w.heap[b]?) : RevSt g cap L vs i w X := ⟨fun _ => h.1, hw.trans h.2.1, fun b hb => (h.2.2 b hb).trans (hO b hb)⟩
theorem revi_cells {g cap : Nat} {L : List Tm} {vs : Nat → Value} {i k : Nat} {W : World} (h : RevI g cap L vs i W) (hk : k < L.length) (hi : i ≤ k) (hki : k + i < L.length) :
    (W.cell? ⟨g, k * 3, none⟩ = some (.int .i64 (L[k]?.getD default).k) ∧ W.cell? ⟨g, k * 3 + 1, none⟩ = some (.int .i64 (L[k]?.getD default).n) ∧ W.cell? ⟨g, k * 3 + 2, none⟩ = some (vs k)) ∧ W.frozen? ⟨g, k * 3, none⟩ = false ∧ W.frozen? ⟨g, k * 3 + 1, none⟩ = false ∧ W.frozen? ⟨g, k * 3 + 2, none⟩ = false := by
  obtain ⟨cs, h1, h2, h3⟩ := h
  have e : sigR L.length i k = k := by unfold sigR; rw [if_neg (by omega)]
  have c0 := h3 k hk 0 (by omega)
  have c1 := h3 k hk 1 (by omega)
  have c2 := h3 k hk 2 (by omega)
  rw [e] at c0 c1 c2
  rw [Nat.add_zero] at c0
  refine ⟨⟨?_, ?_, ?_⟩, ?_, ?_, ?_⟩
  · simp [World.cell?, h1, c0, trR]
  · simp [World.cell?, h1, c1, trR]
  · simp [World.cell?, h1, c2, trR]
  all_goals simp [World.frozen?, h1]
set_option maxRecDepth 100000 in
set_option maxHeartbeats 4000000 in
theorem reverse_any (g cap : Nat) (L : List Tm) (vs : Nat → Value) (hvs : ∀ i, i < L.length → ∃ a m c, vs i = .slice a m c) (hL : L.length ≤ 1048576) (hcap : L.length ≤ cap) (w : World) (h0 : 0 < L.length → RevI g cap L vs 0 w) (v : Value) (hv : v = .slice (some ⟨g, 0, none⟩) L.length cap ∨ (L.length = 0 ∧ v = .slice none 0 0)) :
    Calls Try.prog 90 #[v] w fun e w' => (∃ v, e = .returned v) ∧ (0 < L.length → ∃ i, L.length ≤ i + i + 1 ∧ RevI g cap L vs i w') ∧ Below g w w' ∧ ∀ b, b ≠ g → w'.heap[b]? = w.heap[b]? := by
  obtain ⟨ao, co, hvv⟩ : ∃ ao co, v = .slice ao L.length co := by
    rcases hv with h | ⟨h0, h⟩
    · exact ⟨_, _, h⟩
    · exact ⟨none, 0, by rw [h, h0]⟩
  have HV : Hid (0 < L.length → ao = some ⟨g, 0, none⟩) := fun h => by
    rcases hv with h' | ⟨h0, h'⟩
    · rw [h'] at hvv; cases hvv; rfl
    · omega
  subst hvv
  have H0 := Lib.hid h0
  have HVS := Lib.hid hvs
  have hw0 : IntKind.i64.wrap ((L.length : Int) - 1) = (L.length : Int) - 1 := IntWalk.i64_in _ (by omega)
  clear hv h0 hvs
  go_enter Try.func90, Try.ntmps90
  go_wp2_with fail
  go_loopw [2, 3] (fun si sj wr => ∃ i : Nat, si = .int .i64 (i : Int) ∧ sj = .int .i64 ((L.length : Int) - 1 - i) ∧ i ≤ L.length ∧ RevSt g cap L vs i w wr) (fun si sj _ => (RowKit.intOf sj - RowKit.intOf si).toNat)
  case atStart => exact ⟨0, rfl, by simp, Nat.zero_le _, H0.out, Below.refl _ _, fun _ _ => rfl⟩
  case round =>
    clear H0
    obtain ⟨i, rfl, rfl, hi, hR, hB, hO⟩ := hrel
    by_cases hlt : (i : Int) < (L.length : Int) - 1 - i
    · obtain ⟨j, hj⟩ : ∃ j : Nat, j + i + 1 = L.length := ⟨L.length - 1 - i, by omega⟩
      have hjj : (L.length : Int) - 1 - i = (j : Int) := by omega
      have hij : i < j := by omega
      have hR1 := hR (by omega)
      have hao := HV.out (by omega)
      subst hao
      obtain ⟨⟨x0, x1, x2⟩, f0, f1, f2⟩ := revi_cells hR1 (k := i) (by omega) (Nat.le_refl _) (by omega)
      obtain ⟨⟨y0, y1, y2⟩, g0, g1, g2⟩ := revi_cells hR1 (k := j) (by omega) (by omega) (by omega)
      obtain ⟨ai, mi, ci, hvi⟩ := HVS.out i (by omega)
      obtain ⟨aj, mj, cj, hvj⟩ := HVS.out j (by omega)
      have HS := Lib.hid (((revi_to hR1 hij hj hcap).drew).st hB hO)
      rw [hvi] at x2 HS
      rw [hvj] at y2 HS
      rw [hjj] at hlt ⊢
      have hil : (i : Int) < (L.length : Int) := by omega
      have hjl : (j : Int) < (L.length : Int) := by omega
      have hi0 : (0 : Int) ≤ (i : Int) := by omega
      have hj0 : (0 : Int) ≤ (j : Int) := by omega
      have HB := Lib.hid hB
      have HO := Lib.hid hO
      have HJ := Lib.hid (And.intro hj hjj)
      clear hR hR1 hB hO hvi hvj hj hjj hw0
      generalize L[i]?.getD default = ui at *
      generalize L[j]?.getD default = uj at *
      go_wp2_with fail
      go_region
      all_goals
        have hw1 : IntKind.i64.wrap ((j : Int) - 1) = (L.length : Int) - 1 - ((i + 1 : Nat) : Int) := by rw [IntWalk.i64_in _ (by omega)]; have := HJ.out.2; omega
        have HJ2 := HJ.out.1
        go_wp2_with fail
        go_roundw
        case rel => exact ⟨i + 1, by go_num, rfl, by omega, HS.out⟩
        case measure => simp [RowKit.intOf]; omega
    · have HR := Lib.hid hR
      have HB := Lib.hid hB
      have HO := Lib.hid hO
      clear hR hB hO
      go_wp2_with fail
      go_end0
      exact ⟨⟨_, rfl⟩, fun h => ⟨i, by omega, HR.out h⟩, HB.out, HO.out⟩
end Go.Proofs.Ytggefpkfikimiaa
/- A row of the call's own, appended to, turned round; its terms may be written over. No conditions. -/
namespace Go.Proofs.Ytggefpkfikimiaa
open Go.RowKit
set_option linter.unusedVariables false

def RowE (B : Nat) (L : List Tm) (v : Value) (w : World) : Prop := ∃ vs, w.ownsRow B 25 3 v L.length (cells3 L vs) ∧ ∀ i (_ : i < L.length), AtE (fun b => B ≤ b ∧ b < w.heap.size ∧ some b ≠ v.ownBlock) w L[i].kids (vs i)
theorem RowE.start (B : Nat) (w : World) : RowE B [] (.slice none 0 0) w := ⟨fun _ => .slice none 0 0, World.ownsRow_nil _ _ _ _, fun i hi => absurd hi (Nat.not_lt_zero _)⟩
theorem RowE.keep {B : Nat} {L : List Tm} {v : Value} {w w' : World} (h : RowE B L v w) (hb : Below w.heap.size w w') : RowE B L v w' := by
  obtain ⟨vs, h2, h3⟩ := h
  exact ⟨vs, h2.kept (row := none) ⟨hb.os, hb.tape, hb.output, hb.size, fun k hk _ => hb.block k hk⟩ (by cases v.ownBlock <;> simp), fun i hi => (h3 i hi).same fun b hb' => ⟨⟨hb'.1, Nat.lt_of_lt_of_le hb'.2.1 hb.size, hb'.2.2⟩, hb.block b hb'.2.1⟩⟩
theorem RowE.put {B C : Nat} {L : List Tm} {v : Value} {w : World} {x y z : Value} (h : RowE B L v w) (hC : C < B) : RowE B L v (((w.setCell ⟨C, 0, none⟩ x).setCell ⟨C, 1, none⟩ y).setCell ⟨C, 2, none⟩ z) := by
  obtain ⟨vs, h2, h3⟩ := h
  have hne : v.ownBlock ≠ some C := fun e => by have := (h2.lt C e).1; omega
  exact ⟨vs, ownsRow_setCell_other (ownsRow_setCell_other (ownsRow_setCell_other h2 (a := ⟨C, 0, none⟩) hne x) (a := ⟨C, 1, none⟩) hne y) (a := ⟨C, 2, none⟩) hne z, fun i hi => (h3 i hi).same fun b hb => ⟨⟨hb.1, by simpa using hb.2.1, hb.2.2⟩, other_store3 (by omega) _ _ _⟩⟩
theorem RowE.ate {B : Nat} {L : List Tm} {v : Value} {w : World} (h : RowE B L v w) : AtE (fun b => B ≤ b ∧ b < w.heap.size) w L v := by
  obtain ⟨vs, h2, h3⟩ := h
  have hl := h2.lt
  rcases h2.2 with ⟨rfl, h0⟩ | ⟨g, cap, cur, rfl, e1, e2, e3, e4, e5, e6⟩
  · rw [List.eq_nil_of_length_eq_zero h0]; exact .nl
  · have key : ∀ i (hi : i < L.length) r, r < 3 → cur[i * 3 + r]? = ([.int .i64 L[i].k, .int .i64 L[i].n, vs i] : List Value)[r]? := fun i hi r hr => by
      have := congrArg (fun l => l[i * 3 + r]?) e6
      simp only [List.getElem?_take] at this
      rw [if_pos (by omega)] at this
      rw [cells3_get L vs i r hi hr] at this
      simpa using this
    refine .row L g 0 cap vs cur (hl g rfl) e2 e3 e4 (fun i hi => ?_) (fun i hi => (h3 i hi).same fun b hb => ⟨⟨hb.1, hb.2.1⟩, rfl⟩)
    rw [Nat.zero_add]
    exact ⟨by have := key i hi 0 (by omega); simpa using this, by have := key i hi 1 (by omega); simpa using this, by have := key i hi 2 (by omega); simpa using this⟩
theorem rowe_beside {w w7 : World} {B g : Nat} {v : Value} {n cap : Nat} (hgrow : w.grownBy w7 v.ownBlock) (hat : v.ownBlock = some g ∨ g = w.heap.size) {l : List Tm} {x : Value} (h : AtE (fun b => B ≤ b ∧ b < w.heap.size ∧ some b ≠ v.ownBlock) w l x) :
    AtE (fun b => B ≤ b ∧ b < w7.heap.size ∧ some b ≠ (Value.slice (some ⟨g, 0, none⟩) n cap).ownBlock) w7 l x :=
  h.same fun b ⟨q1, q2, q3⟩ => ⟨⟨q1, Nat.lt_of_lt_of_le q2 hgrow.size, fun e => by
    have e2 : some b = some g := e
    cases e2
    rcases hat with h | h
    · exact q3 h.symm
    · omega⟩, hgrow.block b q2 q3⟩
theorem rowe_step {w w7 : World} {B g cap cu : Nat} {L : List Tm} {u : Tm} {v : Value} {vs : Nat → Value} {au : Option Addr}
    (hats : ∀ i (_ : i < L.length), AtE (fun b => B ≤ b ∧ b < w.heap.size ∧ some b ≠ v.ownBlock) w L[i].kids (vs i))
    (hu : AtE (fun b => B ≤ b ∧ b < w.heap.size ∧ some b ≠ v.ownBlock) w u.kids (.slice au u.kids.length cu))
    (hown7 : w7.ownsRow B 25 3 (.slice (some ⟨g, 0, none⟩) (L.length + 1) cap) (L.length + 1) (cells3 L vs ++ [.int .i64 u.k, .int .i64 u.n, .slice au u.kids.length cu]))
    (hgrow : w.grownBy w7 v.ownBlock) (hat : v.ownBlock = some g ∨ g = w.heap.size) : RowE B (L ++ [u]) (.slice (some ⟨g, 0, none⟩) (L ++ [u]).length cap) w7 := by
  have hlen : (L ++ [u]).length = L.length + 1 := by simp
  refine ⟨fun i => if i < L.length then vs i else .slice au u.kids.length cu, ?_, fun i hi => ?_⟩
  · rw [hlen, cells3_snoc L u vs _ (fun i hi => by rw [if_pos hi]), if_neg (by omega)]
    exact hown7
  · by_cases hil : i < L.length
    · simp only [if_pos hil]
      rw [List.getElem_append_left hil]
      exact rowe_beside hgrow hat (hats i hil)
    · obtain rfl : i = L.length := by omega
      simp only [if_neg hil]
      rw [List.getElem_append_right (Nat.le_refl _)]
      simp only [Nat.sub_self, List.getElem_singleton]
      exact rowe_beside hgrow hat hu
set_option maxRecDepth 100000 in
theorem reverse_empty (a : Option Addr) (c : Nat) (w : World) :
    Calls Try.prog 90 #[.slice a 0 c] w fun e w' => (∃ u, e = .returned u) ∧ w' = w := by
  go_enter Try.func90, Try.ntmps90
  go_wp2_with fail
  go_loopw [2, 3] (fun si sj wr => si = .int .i64 0 ∧ sj = .int .i64 (-1) ∧ wr = w) (fun _ _ _ => 0)
  case atStart => exact ⟨rfl, rfl, rfl⟩
  case round =>
    obtain ⟨rfl, rfl, rfl⟩ := hrel
    go_wp2_with fail
    go_end0
    exact ⟨⟨_, rfl⟩, rfl⟩
theorem getD_get {L : List Tm} {i : Nat} (h : i < L.length) : L[i]?.getD default = L[i] := by rw [List.getElem?_eq_getElem h]; rfl
theorem rowe_rev {B : Nat} {L : List Tm} (hL : L.length ≤ 1048576) {a : Option Addr} {c : Nat} {w : World} (h : RowE B L (.slice a L.length c) w) (hBw : B ≤ w.heap.size) :
    Calls Try.prog 90 #[.slice a L.length c] w fun e w' => (∃ u, e = .returned u) ∧ RowE B L.reverse (.slice a L.length c) w' ∧ Below B w w' := by
  obtain ⟨vs, h2, h3⟩ := h
  by_cases h0 : 0 < L.length
  · rcases h2.2 with ⟨e, e0⟩ | ⟨g, cap, cur, e, e1, e2, e3, e4, e5, e6⟩
    · omega
    · have he : a = some ⟨g, 0, none⟩ ∧ c = cap := by simpa using e
      obtain ⟨rfl, rfl⟩ := he
      have hvs : ∀ i, i < L.length → ∃ a m c, vs i = .slice a m c := fun i hi => by obtain ⟨a, c, e⟩ := (h3 i hi).at.shape; exact ⟨a, _, c, e⟩
      have hI : RevI g c L vs 0 w := by
        refine ⟨cur, e2, e5, fun k hk r hr => ?_⟩
        have es : sigR L.length 0 k = k := by unfold sigR; rw [if_neg (by omega)]
        have := congrArg (fun l => l[k * 3 + r]?) e6
        simp only [List.getElem?_take] at this
        rw [if_pos (by omega), cells3_get L vs k r hk hr] at this
        rw [es]; unfold trR
        rw [getD_get hk]
        simpa using this
      refine (reverse_any g c L vs hvs hL e3 w (fun _ => hI) _ (.inl rfl)).mono ?_
      rintro e w' ⟨hu, hr, hb, ho⟩
      obtain ⟨i, hi, cs, k1, k2, k3⟩ := hr h0
      refine ⟨hu, ⟨fun k => vs (L.length - 1 - k), ⟨by rw [cells3_len], .inr ⟨g, c, cs, by rw [List.length_reverse], e1, k1, by rw [List.length_reverse]; exact e3, e4, k2, ?_⟩⟩, fun k hk => ?_⟩, hb.mono e1⟩
      · apply List.ext_getElem?
        intro j
        rw [List.getElem?_take]
        by_cases hj : j < L.reverse.length * 3
        · rw [if_pos hj]
          rw [List.length_reverse] at hj
          have hq : j / 3 < L.length := by omega
          have hr3 : j % 3 < 3 := by omega
          have hjj : j / 3 * 3 + j % 3 = j := by omega
          have g1 := k3 (j / 3) hq (j % 3) hr3
          have g2 := cells3_get L.reverse (fun k => vs (L.length - 1 - k)) (j / 3) (j % 3) (by rw [List.length_reverse]; exact hq) hr3
          rw [hjj] at g1 g2
          have es : sigR L.length i (j / 3) = L.length - 1 - j / 3 := by
            unfold sigR
            by_cases hc : j / 3 < i ∨ L.length ≤ j / 3 + i
            · rw [if_pos hc]
            · rw [if_neg hc]; omega
          rw [es] at g1
          unfold trR at g1
          rw [getD_get (by omega)] at g1
          rw [List.getElem_reverse] at g2
          rw [g2]
          simpa using g1
        · rw [if_neg hj]
          symm
          rw [List.getElem?_eq_none_iff, cells3_len]; omega
      · rw [List.getElem_reverse]
        exact (h3 (L.length - 1 - k) (by rw [List.length_reverse] at hk; omega)).same fun b hb' => ⟨⟨hb'.1, Nat.lt_of_lt_of_le hb'.2.1 hb.size, hb'.2.2⟩, ho b fun e => hb'.2.2 (by rw [e]; rfl)⟩
  · have hl : L = [] := List.eq_nil_of_length_eq_zero (by omega)
    subst hl
    refine (reverse_empty a c w).mono ?_
    rintro e w' ⟨hu, rfl⟩
    exact ⟨hu, ⟨vs, h2, h3⟩, Below.refl _ _⟩
end Go.Proofs.Ytggefpkfikimiaa
/- The page's wrap, Pis, Lams, Spine: no conditions but sizes. -/
namespace Go.Proofs.Ytggefpkfikimiaa
open Go.RowKit
set_option linter.unusedVariables false

/-- A term that was made of new blocks. -/
def MadeN (w : World) (r : Tm) (e : Ending) (w' : World) : Prop := ∃ a cap, e = .returned (.agg #[.int .i64 r.k, .int .i64 r.n, .slice a r.kids.length cap]) ∧ AtS (fun b => w.heap.size ≤ b) w' r.kids (.slice a r.kids.length cap) ∧ Below w.heap.size w w'
/-- In a region that draws: a term whose Kids lie apart from a box; a row of two such; a term made of these. -/
def RA (S : Nat → Prop) (r : Tm) : VP := fun v s e w => ∃ a cap, v = .agg #[.int .i64 r.k, .int .i64 r.n, .slice a r.kids.length cap] ∧ AtS S w r.kids (.slice a r.kids.length cap)
theorem RA.mono (S : Nat → Prop) (r : Tm) : Mono (RA S r) := fun v s e w w' hg ⟨a, c, h1, h2⟩ => ⟨a, c, h1, h2.grw hg⟩
def RB (S : Nat → Prop) (x y : Tm) : VP := fun v s e w => v = .slice (some ⟨s, 0, none⟩) 2 2 ∧ s < w.heap.size ∧ ∃ vx vy, w.heap[s]? = some (.cells #[.int .i64 x.k, .int .i64 x.n, vx, .int .i64 y.k, .int .i64 y.n, vy] 25 (0, 0)) ∧ AtS S w x.kids vx ∧ AtS S w y.kids vy
theorem RB.mono (S : Nat → Prop) (x y : Tm) : Mono (RB S x y) := fun v s e w w' hg ⟨h1, h2, vx, vy, h4, h5, h6⟩ => ⟨h1, Nat.lt_of_lt_of_le h2 hg.size, vx, vy, (hg.block s (Array.getElem?_eq_some_iff.1 h4).1).trans h4, h5.grw hg, h6.grw hg⟩
theorem ra_twin {S : Nat → Prop} {r : Tm} (hs : size r ≤ 1048576) {W : World} (hB : ∀ b, W.heap.size ≤ b → S b) {v : Value} (hA : At W r.kids v) : Calls Try.prog 38 #[.agg #[.int .i64 r.k, .int .i64 r.n, v]] W fun e w' => ∃ v', e = .returned v' ∧ Grw W w' ∧ RA S r v' W.heap.size w'.heap.size w' :=
  (c_twin r hs W v hA).mono fun e w' ⟨a, c, he, hS, _, hb⟩ => ⟨_, he, hb, a, c, rfl, hS.same fun b h => ⟨hB b h.1, rfl⟩⟩
theorem ra_t {S : Nat → Prop} {x y : Tm} {W : World} (hB : ∀ b, W.heap.size ≤ b → S b) {k : Int} {v : Value} {s e : Nat} (h : RB S x y v s e W) : Calls Try.prog 24 #[.int .i64 k, v] W fun e w' => ∃ v', e = .returned v' ∧ Grw W w' ∧ RA S (.node k 0 [x, y]) v' W.heap.size w'.heap.size w' := by
  obtain ⟨rfl, h2, vx, vy, h4, h5, h6⟩ := h
  refine (t_anyR (fun b => S b ∧ b < W.heap.size) k [x, y] (by simp) (by simp) W _ (fun b h => h.2) (row_of2 h4 h5.lt h6.lt)).mono fun e w' h => ?_
  obtain ⟨a, c, he, hS, hb⟩ := h
  exact ⟨_, he, hb, a, c, rfl, hS.same fun b h => ⟨h.elim (fun h => h.1) (hB b), rfl⟩⟩
/-- The loop's boxes: the result's is untouched, the other holds what was made so far. -/
def OutB (w : World) (B R : Nat) (o : Tm) (W : World) : Prop := ∃ a c, W.heap[B]? = some (.cells #[.int .i64 o.k, .int .i64 o.n, .slice a o.kids.length c] 25 (0, 0)) ∧ W.heap[R]? = some (.cells #[.int .i64 0, .int .i64 0, .slice none 0 0] 25 (0, 0)) ∧ AtS (fun b => w.heap.size ≤ b ∧ b ≠ B ∧ b ≠ R) W o.kids (.slice a o.kids.length c) ∧ Below w.heap.size w W ∧ w.heap.size ≤ B ∧ R ≠ B ∧ w.heap.size ≤ R
set_option maxRecDepth 100000 in
set_option maxHeartbeats 2000000 in
theorem rspine_any (t : Tm) (hs : size t ≤ 1048576) (l : List Tm) (hsl : sizeL l ≤ 1048576) (w : World) (v vl : Value) (hA : At w t.kids v) (hL : At w l vl) :
    Calls Try.prog 21 #[.agg #[.int .i64 t.k, .int .i64 t.n, v], vl] w (MadeN w (spineT t l)) := by
  obtain ⟨a1, c1, rfl⟩ := hA.shape
  obtain ⟨pa, cp, rfl⟩ := hL.shape
  have hll := length_le_sizeL l
  have HL := Lib.hid hL
  have HT := Lib.hid (fun W v hA => c_twin t hs W v hA)
  have hO := one_start w t _ hA
  have hb1 := below_al (w.alloc (.cells #[.int .i64 t.k, .int .i64 t.n, .slice a1 t.kids.length c1] 25)) (.cells #[.int .i64 0, .int .i64 0, .slice none 0 0] 25)
  have O1 := Lib.hid (hO.bel hb1)
  have Z1 := Lib.hid (World.alloc_heap_new (w.alloc (.cells #[.int .i64 t.k, .int .i64 t.n, .slice a1 t.kids.length c1] 25)) (.cells #[.int .i64 0, .int .i64 0, .slice none 0 0] 25))
  clear hA hL hO hb1
  go_enter Try.func21, Try.ntmps21
  obtain ⟨⟨x0, x1, x2⟩, _⟩ := O1.out
  go_wp2_with fail
  refine (HT.out _ _ O1.out.2.1).mono ?_
  rintro e w1 ⟨a2, c2, rfl, hS2, _, hb2⟩
  have Z2 := Lib.hid ((hb2.block _ (by simp)).trans Z1.out)
  have O2 := Lib.hid (O1.out.bel hb2)
  have HS2 := Lib.hid (hS2.same (T := fun b => w.heap.size ≤ b ∧ b ≠ w1.heap.size ∧ b ≠ w.heap.size + 1) (w' := w1) fun b h => ⟨by have := h.1; have := h.2; simp only [World.size_alloc] at *; omega, rfl⟩)
  have hz2 := hb2.size
  simp only [World.size_alloc] at hz2
  clear x0 x1 x2 HT O1 Z1 hS2 hb2
  simp only [World.size_alloc] at Z2
  have hO3 : OutB w w1.heap.size (w.heap.size + 1) t (w1.alloc (.cells #[.int .i64 t.k, .int .i64 t.n, .slice a2 t.kids.length c2] 25)) := by
    refine ⟨a2, c2, World.alloc_heap_new w1 _, ?_, HS2.out.grw (below_al w1 _), O2.out.2.2.trans ((below_al w1 _).mono (by omega)), by omega, by omega, by omega⟩
    exact ((below_al w1 _).block _ (by omega)).trans Z2.out
  have O3 := Lib.hid hO3
  clear hO3 HS2 Z2 O2
  go_wp2_with fail
  generalize w1.heap.size = B at *
  go_loopw [6] (fun i wr => ∃ p : Nat, p ≤ l.length ∧ i = .int .i64 (p : Int) ∧ OutB w B (w.heap.size + 1) (spineT t (l.take p)) wr) (fun i _ => l.length - (RowKit.intOf i).toNat)
  case atStart => exact ⟨0, Nat.zero_le _, rfl, by rw [List.take_zero]; exact O3.out⟩
  case round =>
    obtain ⟨p, hq, rfl, hO⟩ := hrel
    by_cases hp : p < l.length
    rotate_left
    · obtain rfl : p = l.length := by omega
      have hlt : ¬ (l.length : Int) < (l.length : Int) := by omega
      rw [List.take_length] at hO
      generalize spineT t l = o at *
      obtain ⟨a, c, z1, z2, z3, z4, z5, z6, z7⟩ := hO
      obtain ⟨⟨y0, y1, y2⟩, f0, f1, f2⟩ := boxc z1
      obtain ⟨⟨x0, x1, x2⟩, g0, g1, g2⟩ := boxc z2
      have HZ2 := Lib.hid z2
      have HZ3 := Lib.hid z3
      have HZ4 := Lib.hid z4
      clear z1 z2 z3 z4
      go_wp2_with fail
      have hbx := box_store3 HZ2.out (.int .i64 o.k) (.int .i64 o.n) (.slice a o.kids.length c)
      have hAF := HZ3.out.same (T := fun b => w.heap.size ≤ b) (w' := put3 wr (w.heap.size + 1) o (.slice a o.kids.length c)) fun b hb => ⟨hb.1, other_store3 hb.2.2 _ _ _⟩
      have hBF := HZ4.out.trans (below_store3 (D := w.heap.size) (W := wr) z7 (.int .i64 o.k) (.int .i64 o.n) (.slice a o.kids.length c))
      obtain ⟨⟨s0, s1, s2⟩, _⟩ := boxc hbx
      exact bodyPost_ret (v := .agg #[.int .i64 o.k, .int .i64 o.n, .slice a o.kids.length c]) (by simp [results, Try.f21, go_sem, s0, s1, s2]) rfl ⟨a, c, rfl, hAF, hBF⟩
    · have hO2 : spineT t (l.take (p + 1)) = .node 6 0 [spineT t (l.take p), l[p]] := by rw [List.take_succ_eq_append_getElem hp, spine_append]; rfl
      generalize spineT t (l.take p) = o at *
      obtain ⟨a, c, z1, z2, z3, z4, z5, z6, z7⟩ := hO
      obtain ⟨b, off, cap', vs, he, h1, h2, kk, kn, kv, ks⟩ := (HL.out.bel z4 (Nat.le_refl _)).pos (by omega)
      cases he
      have gs := ks p hp
      obtain ⟨au, cu, hvu⟩ := gs.shape
      have gv := kv p hp
      rw [hvu] at gv gs
      have GP := Lib.hid (And.intro (And.intro (kk p hp) (And.intro (kn p hp) gv)) (And.intro gs trivial))
      obtain ⟨⟨y0, y1, y2⟩, f0, f1, f2⟩ := boxc z1
      have GB := Lib.hid (And.intro (And.intro y0 (And.intro y1 y2)) (And.intro z3 trivial))
      have hpi : (p : Int) < (l.length : Int) := by omega
      have hp0 : (0 : Int) ≤ (p : Int) := by omega
      have hsz := size_get hp
      have hBw : B < wr.heap.size := (Array.getElem?_eq_some_iff.1 z1).1
      have hRw : w.heap.size + 1 < wr.heap.size := (Array.getElem?_eq_some_iff.1 z2).1
      have CT := Lib.hid (fun W (hW : Below wr.heap.size wr W) => ra_twin (S := fun b => w.heap.size ≤ b ∧ b ≠ B ∧ b ≠ w.heap.size + 1) (r := l[p]) (by omega) (W := W) (fun b hb => by have := hW.size; omega) (gs.bel hW (Nat.le_refl _)))
      have HZ1 := Lib.hid z1
      have HZ2 := Lib.hid z2
      have HZ4 := Lib.hid z4
      clear kk kn kv ks gs gv y0 y1 y2 f0 f1 f2 z1 z2 z3 z4 h1 h2 hvu
      go_wp2_with fail
      refine wp_region_rel_tail 8 (by kernel_rfl) (by kernel_rfl) (by kernel_rfl) ?_
      simp only [List.take_succ_cons, List.take_zero]
      simp only [List.drop_succ_cons, List.drop_zero]
      apply RelWalk.next 5
      · kernel_rfl
      · intro X _ W hW hcl
        simp only [List.take_succ_cons, List.take_zero]
        obtain ⟨⟨z0, z1, z2⟩, hB, _⟩ := GB.out
        have rB0 := fun q => gcell (hW q) z0
        have rB1 := fun q => gcell (hW q) z1
        have rB2 := fun q => gcell (hW q) z2
        clear z0 z1 z2
        obtain ⟨⟨z0, z1, z2⟩, hP, _⟩ := GP.out
        have rP0 := fun q => gcell (hW q) z0
        have rP1 := fun q => gcell (hW q) z1
        have rP2 := fun q => gcell (hW q) z2
        clear z0 z1 z2
        repeat (go_big_quiet_step (fail))
        exact wpQuiet_nil rfl
      simp only [List.drop_succ_cons, List.drop_zero]
      refine RelWalk.made0 (RA (fun b => w.heap.size ≤ b ∧ b ≠ B ∧ b ≠ w.heap.size + 1) l[p]) rfl (by kernel_rfl) (by kernel_rfl) rfl (RA.mono _ l[p]) (fun w2 hg => ?_) ?_
      · have hc := Lib.hid (CT.out w2 hg)
        go_simp
        exact rel_enter hc.out
      simp only [Act.put, List.setIfInBounds_toArray, List.set_cons_zero, List.set_cons_succ]
      refine RelWalk.made1 (RB (fun b => w.heap.size ≤ b ∧ b ≠ B ∧ b ≠ w.heap.size + 1) o l[p]) rfl (by kernel_rfl) (by kernel_rfl) rfl (RB.mono _ o l[p]) (fun g w2 hg v1 hv1 => ?_) ?_
      · obtain ⟨a9, c9, rfl, hA9⟩ := hv1
        go_simp
        have h3 := GB.out.2.1.grw hg
        have h0 := hg.size
        exact ⟨below_al w2 _, rfl, by simp, _, _, World.alloc_heap_new w2 _, h3.grw (below_al w2 _), hA9.grw (below_al w2 _)⟩
      simp only [Act.put, List.setIfInBounds_toArray, List.set_cons_zero, List.set_cons_succ]
      refine RelWalk.made1 (RA (fun b => w.heap.size ≤ b ∧ b ≠ B ∧ b ≠ w.heap.size + 1) (.node 6 0 [o, l[p]])) rfl (by kernel_rfl) (by kernel_rfl) rfl (RA.mono _ _) (fun g w2 hg v1 hv1 => ?_) ?_
      · have h0 := hg.size
        have hc := Lib.hid (ra_t (k := 6) (fun b hb => by omega) hv1)
        obtain ⟨rfl, hrest⟩ := hv1
        clear hrest
        go_simp
        exact rel_enter hc.out
      simp only [Act.put, List.setIfInBounds_toArray, List.set_cons_zero, List.set_cons_succ]
      refine RelWalk.done fun g w5 hg hP => ?_
      simp only [Spread]
      rintro v22 ⟨a26, c26, rfl, h26⟩ v21 ⟨rfl, _⟩ v20 ⟨a23, c23, rfl, _⟩
      clear hP
      have HG := Lib.hid hg
      have H26 := Lib.hid h26
      have HB5 := Lib.hid ((hg.block B hBw).trans HZ1.out)
      have HR5 := Lib.hid ((hg.block (w.heap.size + 1) (Array.getElem?_eq_some_iff.1 HZ2.out).1).trans HZ2.out)
      have hz5 := hg.size
      clear hg h26 HZ1 HZ2 GP GB CT
      obtain ⟨⟨y0, y1, y2⟩, f0, f1, f2⟩ := boxc HB5.out
      go_wp2_with fail
      have hF : OutB w B (w.heap.size + 1) (.node 6 0 [o, l[p]]) (put3 w5 B (.node 6 0 [o, l[p]]) (.slice a26 2 c26)) :=
        ⟨a26, c26, box_store3 HB5.out _ _ _, (other_store3 z6 _ _ _).trans HR5.out, H26.out.same fun b hb => ⟨hb, other_store3 hb.2.1 _ _ _⟩, (HZ4.out.trans (HG.out.mono HZ4.out.size)).trans (below_store3 z5 _ _ _), z5, z6, z7⟩
      have HF := Lib.hid hF
      clear hF y0 y1 y2 f0 f1 f2 HB5 HR5 H26 HG HZ4
      go_roundw
      case rel => exact ⟨p + 1, by omega, by go_num, by rw [hO2]; exact HF.out⟩
      case measure => simp [RowKit.intOf]; omega
end Go.Proofs.Ytggefpkfikimiaa
