/- Package subst: replacement, check. Conditions: bounds on integers, the sizes. -/
import Derived.Test.YtbfefpejcefnhaaMb
import Derived.Test.YtbfefpejcefnhaaSu
import Derived.Test.YtbfefpejcefnhaaSf
import Derived.Deep.RegionHeld3
import Derived.Deep.DrawnRows
import Derived.Test.YtbfefpejcefnhaaT0
namespace Go.Proofs.Ytbfefpejcefnhaa
open Go.RowKit Go Go.Joins
set_option linter.unusedVariables false

/-- Which arg stands for a variable, if one does. -/
def replB (p : Nat) (n u : Int) : Bool := decide (u ≤ n ∧ n < u + p)
def replI (p : Nat) (n u : Int) : Int := if u ≤ n ∧ n < u + p then p - 1 - (n - u) else 0
theorem repl_any (p : Nat) (n u : Int) (hn : 0 ≤ n ∧ n ≤ 65535) (hu : 0 ≤ u ∧ u ≤ 1000000) (hp : p ≤ 2147483647) (w : World) :
    Calls Try.prog 63 #[.int .i64 n, .int .i64 u, .int .i64 p] w fun e w' => e = .returned (.tuple #[.int .i64 (replI p n u), .bool (replB p n u)]) ∧ Below w.heap.size w w' := by
  have hw1 : IntKind.i64.wrap (n - u) = n - u := IntWalk.i64_in _ (by omega)
  have hw2 : IntKind.i64.wrap ((p : Int) - 1) = p - 1 := IntWalk.i64_in _ (by omega)
  have hw3 : IntKind.i64.wrap ((p : Int) - 1 - (n - u)) = p - 1 - (n - u) := IntWalk.i64_in _ (by omega)
  by_cases h : n < u
  · rw [show replI p n u = 0 by unfold replI; rw [if_neg (by omega)], show replB p n u = false by unfold replB; exact decide_eq_false (by omega)]
    go_enter Try.func63, Try.ntmps63
    go_wp2_with fail
    refine bodyPost_ret (v := .tuple #[.int .i64 0, .bool false]) (by simp [results, Try.f63, go_sem]) rfl ?_
    exact ⟨rfl, Below.refl _ _⟩
  · have h1 : decide (n < u) = false := decide_eq_false h
    by_cases h2 : (p : Int) ≤ n - u
    · rw [show replI p n u = 0 by unfold replI; rw [if_neg (by omega)], show replB p n u = false by unfold replB; exact decide_eq_false (by omega)]
      have h3 : u ≤ n := by omega
      go_enter Try.func63, Try.ntmps63
      go_wp2_with fail
      refine bodyPost_ret (v := .tuple #[.int .i64 0, .bool false]) (by simp [results, Try.f63, go_sem]) rfl ?_
      exact ⟨rfl, Below.refl _ _⟩
    · rw [show replI p n u = p - 1 - (n - u) by unfold replI; rw [if_pos (by omega)], show replB p n u = true by unfold replB; exact decide_eq_true (by omega)]
      have h3 : n - u < p := by omega
      have h4 : u ≤ n := by omega
      have h5 : decide ((p : Int) ≤ n - u) = false := decide_eq_false h2
      go_enter Try.func63, Try.ntmps63
      go_wp2_with fail
      refine bodyPost_ret (v := .tuple #[.int .i64 (p - 1 - (n - u)), .bool true]) (by simp [results, Try.f63, go_sem]) rfl ?_
      exact ⟨rfl, Below.refl _ _⟩

/-- The first of the errors that are no shift's. -/
def ckE (t : Tm) (A : List Tm) (u : Int) : Int := if checkE t ≠ 0 then checkE t else if argsE A ≠ 0 then argsE A else if ¬ inR u then 1 else 0
theorem ck_ok {t : Tm} {A : List Tm} {u : Int} (h : ckE t A u = 0) : checkE t = 0 ∧ argsE A = 0 ∧ inR u := by
  unfold ckE at h
  split at h
  · rename_i h1; exact absurd h h1
  · split at h
    · rename_i h1 h2; exact absurd h h2
    · split at h
      · cases h
      · rename_i h1 h2 h3
        exact ⟨Decidable.not_not.1 h1, Decidable.not_not.1 h2, Decidable.not_not.1 h3⟩
theorem ck_inst {t : Tm} {A : List Tm} {u : Int} (h : ckE t A u ≠ 0) : instE t A u = ckE t A u ∧ sizeOfN t A u = 0 := by
  unfold ckE at h ⊢
  unfold instE sizeOfN
  by_cases h1 : checkE t ≠ 0
  · rw [if_pos h1, if_pos h1, if_neg (fun hh => h1 hh.1)]
    exact ⟨rfl, rfl⟩
  · rw [if_neg h1, if_neg h1]
    by_cases h2 : argsE A ≠ 0
    · rw [if_pos h2, if_pos h2, if_neg (fun hh => h2 hh.2.1)]
      exact ⟨rfl, rfl⟩
    · rw [if_neg h2, if_neg h2]
      by_cases h3 : ¬ inR u
      · rw [if_pos h3, if_pos h3, if_neg (fun hh => h3 hh.2.2)]
        exact ⟨rfl, rfl⟩
      · rw [if_neg h1, if_neg h2, if_neg h3] at h
        exact absurd rfl h
set_option maxRecDepth 100000 in
set_option maxHeartbeats 2000000 in
theorem scheck_any (t : Tm) (hF : Fits t) (hs : size t ≤ 1048576) (A : List Tm) (hFA : ∀ a ∈ A, Fits a) (hsA : sizeL A ≤ 1048576) (u : Int) (w : World) (v va : Value) (hA : At w t.kids v) (hAA : At w A va) :
    Calls Try.prog 34 #[.agg #[.int .i64 t.k, .int .i64 t.n, v], va, .int .i64 u] w fun e w' => e = .returned (.int .i64 (ckE t A u)) ∧ Below w.heap.size w w' := by
  obtain ⟨pa, cp, rfl⟩ := hAA.shape
  have hAl : A.length ≤ 1048576 := Nat.le_trans (length_le_sizeL A) hsA
  have hO := one_start w t v hA
  have HO := Lib.hid (fun W (h : Below (w.alloc (.cells #[.int .i64 t.k, .int .i64 t.n, v] 24)).heap.size (w.alloc (.cells #[.int .i64 t.k, .int .i64 t.n, v] 24)) W) => hO.bel h)
  have HC := Lib.hid (c_check t hF hs _ v hO.2.1)
  have HFA := Lib.hid hFA
  have HAA := Lib.hid hAA
  clear hA hAA hO hFA
  by_cases hc : checkE t = 0
  rotate_left
  · have e1 : (checkE t != 0) = true := by simpa using hc
    rw [show ckE t A u = checkE t by unfold ckE; rw [if_pos hc]]
    generalize checkE t = ce at *
    clear hc
    go_enter Try.func34, Try.ntmps34
    go_wp2_with fail
    refine HC.out.mono ?_
    rintro e w1 ⟨rfl, hb1⟩
    have H1 := Lib.hid (HO.out w1 hb1)
    clear hb1
    go_wp2_with fail
    refine bodyPost_ret (v := .int .i64 ce) (by simp [results, Try.f34, go_sem]) rfl ⟨rfl, H1.out.2.2⟩
  rw [hc] at HC
  have HKE : Hid (ckE t A u = if argsE A ≠ 0 then argsE A else if ¬ inR u then 1 else 0) := by unfold Hid ckE; rw [if_neg (by simpa using hc)]
  clear hc
  go_enter Try.func34, Try.ntmps34
  go_wp2_with fail
  refine HC.out.mono ?_
  rintro e w1 ⟨rfl, hb1⟩
  have HB1 := Lib.hid (HO.out w1 hb1).2.2
  clear hb1 HC HO
  go_wp2_with fail
  go_loopw [18] (fun i wr => ∃ j : Nat, j ≤ A.length ∧ i = .int .i64 j ∧ (∀ q (hq : q < A.length), q < j → checkE A[q] = 0) ∧ Below w.heap.size w wr)
    (fun i _ => A.length - (RowKit.intOf i).toNat)
  case atStart => exact ⟨0, Nat.zero_le _, rfl, fun q hq h => absurd h (Nat.not_lt_zero _), HB1.out⟩
  case round =>
    obtain ⟨j, hj, rfl, hck, hbr⟩ := hrel
    have HCK := Lib.hid hck
    have HBR := Lib.hid hbr
    have hzr := hbr.size
    clear hck
    by_cases hlt : j < A.length
    · obtain ⟨b, off, cap', vs, he, h1, h2, kk, kn, kv, ks⟩ := (HAA.out.bel hbr (Nat.le_refl _)).pos (by omega)
      have gk := kk j hlt
      have gn := kn j hlt
      have gv := kv j hlt
      have gs := ks j hlt
      obtain ⟨au, cu, hvu⟩ := gs.shape
      rw [hvu] at gv gs
      have hsz := size_get hlt
      have HD : Hid (∀ W, Below wr.heap.size wr W → Calls Try.prog 24 #[.agg #[.int .i64 A[j].k, .int .i64 A[j].n, (.slice au A[j].kids.length cu)]] W fun e w' => e = .returned (.int .i64 (checkE A[j])) ∧ Below W.heap.size W w') := fun W hW => c_check A[j] (HFA.out _ (List.getElem_mem hlt)) (by omega) W _ (gs.bel hW (Nat.le_refl _))
      have hl1 : (j : Int) < (A.length : Int) := by omega
      have hl0 : (0 : Int) ≤ (j : Int) := by omega
      have hD := HD.out _ (below_al wr (.cells #[.int .i64 A[j].k, .int .i64 A[j].n, .slice au A[j].kids.length cu] 24))
      have hbA := hbr.trans ((below_al wr (.cells #[.int .i64 A[j].k, .int .i64 A[j].n, .slice au A[j].kids.length cu] 24)).mono hzr)
      have HD := Lib.hid hD
      have HBA := Lib.hid hbA
      clear kk kn kv ks gs hsz hbr hD hbA hvu
      cases he
      by_cases hcj : checkE A[j] = 0
      · rw [hcj] at HD
        have HH := Lib.hid hcj
        clear hcj
        go_wp2_with fail
        refine HD.out.mono ?_
        rintro e w3 ⟨rfl, hb3⟩
        go_wp2_with fail
        go_roundw
        case rel =>
          refine ⟨j + 1, by omega, by go_num, fun q hq h => ?_, HBA.out.trans (hb3.mono HBA.out.size)⟩
          by_cases hqj : q < j
          · exact HCK.out q hq hqj
          · obtain rfl : q = j := by omega
            exact HH.out
        case measure => simp [RowKit.intOf]; omega
      · have e1 : (checkE A[j] != 0) = true := by simpa using hcj
        have hf := argsE_first hlt (fun i hi => HCK.out i (by omega) hi) hcj
        have hE : ckE t A u = checkE A[j] := by rw [HKE.out, if_pos (by rw [hf]; exact hcj), hf]
        have HE := Lib.hid hE
        generalize checkE A[j] = ce at *
        clear hE hcj hf
        go_wp2_with fail
        refine HD.out.mono ?_
        rintro e w3 ⟨rfl, hb3⟩
        go_wp2_with fail
        refine bodyPost_ret (v := .int .i64 ce) (by simp [results, Try.f34, go_sem]) rfl ⟨by rw [HE.out], HBA.out.trans (hb3.mono HBA.out.size)⟩
    · obtain rfl : j = A.length := by omega
      have hlt1 : decide ((A.length : Int) < (A.length : Int)) = false := by simp
      have hA0 : argsE A = 0 := argsE_ok.2 fun a ha => by
        obtain ⟨q, hq, rfl⟩ := List.mem_iff_getElem.1 ha
        exact HCK.out q hq hq
      have hE : ckE t A u = if ¬ inR u then 1 else 0 := by rw [HKE.out, if_neg (by simpa using hA0)]
      have HE := Lib.hid hE
      clear hlt HCK hj hA0 HKE hbr hE
      by_cases h0 : u < 0
      · have hE : ckE t A u = 1 := by rw [HE.out, if_pos (fun h => by have := h.1; omega)]
        have HE := Lib.hid hE
        clear hE
        go_wp2_with fail
        refine bodyPost_ret (v := .int .i64 1) (by simp [results, Try.f34, go_sem]) rfl ⟨by rw [HE.out], HBR.out⟩
      · have e0 : decide (u < 0) = false := decide_eq_false h0
        by_cases h1 : 65535 < u
        · have hE : ckE t A u = 1 := by rw [HE.out, if_pos (fun h => by have := h.2; omega)]
          have HE := Lib.hid hE
          clear hE
          go_wp2_with fail
          refine bodyPost_ret (v := .int .i64 1) (by simp [results, Try.f34, go_sem]) rfl ⟨by rw [HE.out], HBR.out⟩
        · have e2 : decide (65535 < u) = false := decide_eq_false h1
          have e3 : u ≤ 65535 := by omega
          have e4 : 0 ≤ u := by omega
          have hE : ckE t A u = 0 := by rw [HE.out, if_neg (fun h => h ⟨e4, e3⟩)]
          have HE := Lib.hid hE
          clear hE
          go_wp2_with fail
          refine bodyPost_ret (v := .int .i64 0) (by simp [results, Try.f34, go_sem]) rfl ⟨by rw [HE.out], HBR.out⟩
end Go.Proofs.Ytbfefpejcefnhaa
/- Package subst: note counts what is replaced, in a row that the call made. Conditions: bounds on integers. -/
namespace Go.Proofs.Ytbfefpejcefnhaa
open Go.RowKit Go Go.Joins
set_option linter.unusedVariables false

/-- A block of p counts: how often, how far. -/
def URow (p B : Nat) (F : Nat → Nat) (G : Nat → Int) (w : World) : Prop := ∃ cs : Array Value, w.heap[B]? = some (.cells cs 77 (0, 0)) ∧ cs.size = p * 2 ∧
  ∀ i (_ : i < p), cs[i * 2]? = some (.int .i64 (F i)) ∧ cs[i * 2 + 1]? = some (.int .i64 (G i))
theorem URow.same {p B : Nat} {F : Nat → Nat} {G : Nat → Int} {w w' : World} (h : URow p B F G w) (hb : w'.heap[B]? = w.heap[B]?) : URow p B F G w' := by
  obtain ⟨cs, h1, h2⟩ := h
  exact ⟨cs, hb.trans h1, h2⟩
theorem URow.lt {p B : Nat} {F : Nat → Nat} {G : Nat → Int} {w : World} (h : URow p B F G w) : B < w.heap.size := by
  obtain ⟨cs, h1, _⟩ := h
  exact (Array.getElem?_eq_some_iff.1 h1).1
theorem URow.ext {p B : Nat} {F F' : Nat → Nat} {G G' : Nat → Int} {w : World} (h : URow p B F G w) (hF : ∀ i, i < p → F i = F' i) (hG : ∀ i, i < p → G i = G' i) : URow p B F' G' w := by
  obtain ⟨cs, h1, h2, h3⟩ := h
  exact ⟨cs, h1, h2, fun i hi => by rw [← hF i hi, ← hG i hi]; exact h3 i hi⟩
theorem URow.slots {p B : Nat} {F : Nat → Nat} {G : Nat → Int} {w : World} (h : URow p B F G w) {j : Nat} (hj : j < p) :
    (w.cell? ⟨B, j * 2, none⟩ = some (.int .i64 (F j)) ∧ w.cell? ⟨B, j * 2 + 1, none⟩ = some (.int .i64 (G j))) ∧ w.frozen? ⟨B, j * 2, none⟩ = false ∧ w.frozen? ⟨B, j * 2 + 1, none⟩ = false := by
  obtain ⟨cs, h1, h2, h3⟩ := h
  obtain ⟨a1, a2⟩ := h3 j hj
  refine ⟨⟨?_, ?_⟩, ?_, ?_⟩
  · simp [World.cell?, h1, a1]
  · simp [World.cell?, h1, a2]
  · simp [World.frozen?, h1]
  · simp [World.frozen?, h1]
theorem URow.times {p B : Nat} {F : Nat → Nat} {G : Nat → Int} {w : World} (h : URow p B F G w) {j : Nat} (hj : j < p) (n : Nat) : URow p B (fun i => if i = j then n else F i) G (w.setCell ⟨B, j * 2, none⟩ (.int .i64 n)) := by
  obtain ⟨cs, h1, h2, h3⟩ := h
  refine ⟨_, heap_setCell_same w B (j * 2) cs _ _ h1, by simpa using h2, fun i hi => ?_⟩
  obtain ⟨a1, a2⟩ := h3 i hi
  by_cases hij : i = j
  · subst hij
    dsimp only
    rw [if_pos rfl]
    refine ⟨?_, ?_⟩
    · rw [Array.getElem?_setIfInBounds_self_of_lt (by omega)]
    · rw [Array.getElem?_setIfInBounds_ne (by omega)]; exact a2
  · dsimp only
    rw [if_neg hij]
    refine ⟨?_, ?_⟩
    · rw [Array.getElem?_setIfInBounds_ne (by omega)]; exact a1
    · rw [Array.getElem?_setIfInBounds_ne (by omega)]; exact a2
theorem URow.far {p B : Nat} {F : Nat → Nat} {G : Nat → Int} {w : World} (h : URow p B F G w) {j : Nat} (hj : j < p) (n : Int) : URow p B F (fun i => if i = j then n else G i) (w.setCell ⟨B, j * 2 + 1, none⟩ (.int .i64 n)) := by
  obtain ⟨cs, h1, h2, h3⟩ := h
  refine ⟨_, heap_setCell_same w B (j * 2 + 1) cs _ _ h1, by simpa using h2, fun i hi => ?_⟩
  obtain ⟨a1, a2⟩ := h3 i hi
  by_cases hij : i = j
  · subst hij
    dsimp only
    rw [if_pos rfl]
    refine ⟨?_, ?_⟩
    · rw [Array.getElem?_setIfInBounds_ne (by omega)]; exact a1
    · rw [Array.getElem?_setIfInBounds_self_of_lt (by omega)]
  · dsimp only
    rw [if_neg hij]
    refine ⟨?_, ?_⟩
    · rw [Array.getElem?_setIfInBounds_ne (by omega)]; exact a1
    · rw [Array.getElem?_setIfInBounds_ne (by omega)]; exact a2
/-- What a call that writes to one block alone leaves. -/
theorem sv_below {w w' : World} (R : Nat) (h : Below w.heap.size w w') : w.grownBy w' (some R) := ⟨h.os, h.tape, h.output, h.size, fun k hk _ => h.block k hk⟩
theorem sv_set (w : World) (R o : Nat) (v : Value) : w.grownBy (w.setCell ⟨R, o, none⟩ v) (some R) := ⟨rfl, rfl, rfl, by simp, fun k _ hne => Below.heap_setCell w _ _ k (by simpa using hne)⟩
theorem sv_cell {w w' : World} {R : Nat} (h : w.grownBy w' (some R)) {b o : Nat} {x : Value} (hne : b ≠ R) (hx : w.cell? ⟨b, o, none⟩ = some x) : w'.cell? ⟨b, o, none⟩ = some x := by
  rw [h.cell_far _ (World.block_lt_of_cell? w _ hx) (by simpa using hne)]; exact hx
theorem sv_ats {w w' : World} {R : Nat} {l : List Tm} {v : Value} (h : w.grownBy w' (some R)) (hA : AtS (fun b => b ≠ R) w l v) : AtS (fun b => b ≠ R) w' l v := hA.lt.same fun b hb => ⟨hb.1, h.block b hb.2 (by simpa using hb.1)⟩
theorem sv_of_below {B : Nat} {a w w' : World} {R : Nat} (h : Below B a w) (hg : w.grownBy w' (some R)) (hB : B ≤ w.heap.size) (hR : B ≤ R) : Below B a w' := h.grown hg hB fun k hk => by cases hk; exact hR
mutual
theorem times_le (p : Nat) : ∀ (t : Tm) (u : Int) (i : Nat), timesT p t u i ≤ size t
  | .node k n l, u, i => by
    rw [timesT, size]
    have := timesL_le p l k u 0 i
    split
    · split <;> omega
    · omega
theorem timesL_le (p : Nat) : ∀ (l : List Tm) (k u : Int) (j i : Nat), timesL p l k u j i ≤ sizeL l
  | [], _, _, _, _ => Nat.le_refl _
  | t :: l, k, u, j, i => by
    have h1 := times_le p t (u + bindsI k j) i
    have h2 := timesL_le p l k u (j + 1) i
    rw [timesL, sizeL]
    omega
end

theorem note_put {p R : Nat} {F : Nat → Nat} {G : Nat → Int} {w : World} {n u x : Int} {j : Nat} (hU : URow p R F G w) (hj : j < p) (hh : ∀ i, hits p n u i ↔ i = j) (hG0 : ∀ i, i < p → 0 ≤ G i) (hx : x = max (G j) u) :
    URow p R (fun i => F i + if hits p n u i then 1 else 0) (fun i => max (G i) (if hits p n u i then u else 0)) ((w.setCell ⟨R, j * 2, none⟩ (.int .i64 ((F j : Int) + 1))).setCell ⟨R, j * 2 + 1, none⟩ (.int .i64 x)) := by
  have h := (hU.times hj (F j + 1)).far hj x
  rw [show ((F j + 1 : Nat) : Int) = (F j : Int) + 1 by omega] at h
  refine h.ext (fun i hi => ?_) (fun i hi => ?_)
  · by_cases hij : i = j
    · rw [if_pos hij, if_pos ((hh i).2 hij), hij]
    · rw [if_neg hij, if_neg (fun x => hij ((hh i).1 x))]; rfl
  · by_cases hij : i = j
    · rw [if_pos hij, if_pos ((hh i).2 hij), hij, hx]
    · rw [if_neg hij, if_neg (fun x => hij ((hh i).1 x))]
      have := hG0 i hi
      omega
theorem sv_set2 {w w' : World} (R o o2 : Nat) (v v2 : Value) (h : Below w.heap.size w w') : w.grownBy ((w'.setCell ⟨R, o, none⟩ v).setCell ⟨R, o2, none⟩ v2) (some R) := ((sv_below R h).trans (sv_set w' R o v)).trans (sv_set _ R o2 v2)

def NotePost (p R : Nat) (F : Nat → Nat) (G : Nat → Int) (w : World) (e : Ending) (w' : World) : Prop := (∃ r, e = .returned r) ∧ w.grownBy w' (some R) ∧ URow p R F G w'
def NoteOk (p R : Nat) (t : Tm) : Prop := formedB t = true → ∀ (F : Nat → Nat) (G : Nat → Int) (u : Int) (w : World) (v : Value), 0 ≤ u → u + depth t ≤ 1000000 → (∀ i, i < p → F i + size t ≤ 1099511627776) → (∀ i, i < p → 0 ≤ G i) → URow p R F G w → AtS (fun b => b ≠ R) w t.kids v →
    Calls Try.prog 56 #[.slice (some ⟨R, 0, none⟩) p p, .agg #[.int .i64 t.k, .int .i64 t.n, v], .int .i64 u] w (NotePost p R (fun i => F i + timesT p t u i) (fun i => max (G i) (farT p t u i)) w)
set_option maxRecDepth 100000 in
set_option maxHeartbeats 2000000 in
theorem note_var (p R : Nat) (hp : p ≤ 2147483647) (n u : Int) (hn : 0 ≤ n ∧ n ≤ 65535) (hu : 0 ≤ u ∧ u ≤ 1000000) (F : Nat → Nat) (G : Nat → Int) (w : World) (v : Value) (hF : ∀ i, i < p → F i + 1 ≤ 1099511627776) (hG0 : ∀ i, i < p → 0 ≤ G i) (hU : URow p R F G w) :
    Calls Try.prog 56 #[.slice (some ⟨R, 0, none⟩) p p, .agg #[.int .i64 1, .int .i64 n, v], .int .i64 u] w (NotePost p R (fun i => F i + if hits p n u i then 1 else 0) (fun i => max (G i) (if hits p n u i then u else 0)) w) := by
  have HR := Lib.hid (fun W => repl_any p n u hn hu hp W)
  have hRw := hU.lt
  by_cases h : u ≤ n ∧ n < u + p
  · have hj : p - 1 - (n - u).toNat < p := by omega
    have hi : replI p n u = ((p - 1 - (n - u).toNat : Nat) : Int) := by unfold replI; rw [if_pos h]; omega
    have hb : replB p n u = true := decide_eq_true h
    rw [hi, hb] at HR
    have hh : ∀ i, hits p n u i ↔ i = p - 1 - (n - u).toNat := fun i => ⟨fun x => x.2.2, fun x => ⟨h.1, h.2, x⟩⟩
    generalize p - 1 - (n - u).toNat = j at *
    have hFj := hF j hj
    have hw1 : IntKind.i64.wrap ((F j : Int) + 1) = ((F j + 1 : Nat) : Int) := by rw [IntWalk.i64_in _ (by omega)]; omega
    have HH := Lib.hid hh
    have HG := Lib.hid hG0
    have HU := Lib.hid hU
    have hl0 : (0 : Int) ≤ (j : Int) := by omega
    have hl1 : (j : Int) < (p : Int) := by omega
    clear hi hb h hh hF hFj hU hG0
    go_enter Try.func56, Try.ntmps56
    go_wp2_with fail
    refine (HR.out _).mono ?_
    rintro e w3 ⟨rfl, hb3⟩
    have hb4 := (below_al w (.cells #[.int .i64 1, .int .i64 n, v] 24)).trans (hb3.mono (by simp))
    have hU3 := HU.out.same (w' := w3) (hb4.block R hRw)
    obtain ⟨⟨c0, c1⟩, g0, g1⟩ := hU3.slots hj
    have HB4 := Lib.hid hb4
    have HU3 := Lib.hid hU3
    clear hb3 hb4 hU3 HR
    go_wp2_with fail
    all_goals refine bodyPost_ret (v := .tuple #[]) (by simp [results, Try.f56, go_sem]) rfl ⟨⟨_, rfl⟩, sv_set2 R _ _ _ _ HB4.out, note_put HU3.out hj HH.out HG.out (by omega)⟩
  · have hi : replI p n u = 0 := by unfold replI; rw [if_neg h]
    have hb : replB p n u = false := decide_eq_false h
    rw [hi, hb] at HR
    have hU2 : URow p R (fun i => F i + if hits p n u i then 1 else 0) (fun i => max (G i) (if hits p n u i then u else 0)) w := hU.ext (fun i hi => by rw [if_neg (fun x => h ⟨x.1, x.2.1⟩)]; rfl) (fun i hi => by rw [if_neg (fun x => h ⟨x.1, x.2.1⟩)]; have := hG0 i hi; omega)
    have HU := Lib.hid hU2
    clear hi hb h hF hU hG0 hU2
    go_enter Try.func56, Try.ntmps56
    go_wp2_with fail
    refine (HR.out _).mono ?_
    rintro e w3 ⟨rfl, hb3⟩
    have hb4 := (below_al w (.cells #[.int .i64 1, .int .i64 n, v] 24)).trans (hb3.mono (by simp))
    have HB4 := Lib.hid hb4
    clear hb3 hb4 HR
    go_wp2_with fail
    refine bodyPost_ret (v := .tuple #[]) (by simp [results, Try.f56, go_sem]) rfl ⟨⟨_, rfl⟩, sv_below R HB4.out, HU.out.same (HB4.out.block R hRw)⟩
set_option maxRecDepth 100000 in
set_option maxHeartbeats 2000000 in
theorem note_any (p R : Nat) (hp : p ≤ 2147483647) : ∀ t : Tm, NoteOk p R t := by
  refine tm_ind fun t ih => ?_
  intro hf F G u w v hu0 hu1 hF hG0 hU hA
  obtain ⟨a, cap, rfl⟩ := hA.at.shape
  have hff := hf
  rw [formedB_eq, Bool.and_eq_true, Bool.and_eq_true, decide_eq_true_eq] at hf
  obtain ⟨⟨f1, f2⟩, f3⟩ := hf
  by_cases hk : t.k = 1
  · have hl0 : t.kids.length = 0 := by rw [hk] at f1; have : kidsI 1 = 0 := by decide
                                       omega
    rw [if_pos hl0, Bool.and_eq_true, decide_eq_true_eq, decide_eq_true_eq] at f2
    have := note_var p R hp t.n u f2 ⟨hu0, by omega⟩ F G w (.slice a t.kids.length cap) (fun i hi => by have := hF i hi; have := size_pos t; omega) hG0 hU
    rw [show (fun i => F i + timesT p t u i) = fun i => F i + if hits p t.n u i then 1 else 0 from funext fun i => by rw [times_eq, if_pos hk], show (fun i => max (G i) (farT p t u i)) = fun i => max (G i) (if hits p t.n u i then u else 0) from funext fun i => by rw [far_eq, if_pos hk], hk]
    exact this
  · have hl3 : t.kids.length ≤ 3 := by have := kidsI_le t.k; omega
    rw [show (fun i => F i + timesT p t u i) = fun i => F i + timesL p t.kids t.k u 0 i from funext fun i => by rw [times_eq, if_neg hk], show (fun i => max (G i) (farT p t u i)) = fun i => max (G i) (farL p t.kids t.k u 0 i) from funext fun i => by rw [far_eq, if_neg hk]]
    have e1 : (t.k == 1) = false := by simpa using hk
    have hRw := hU.lt
    have hbx := (box3_new w t (.slice a t.kids.length cap) 24).2
    have hb1 := below_al w (.cells #[.int .i64 t.k, .int .i64 t.n, .slice a t.kids.length cap] 24)
    have HDT := Lib.hid (depth_eq t)
    have HST := Lib.hid (size_eq t)
    have HIH : Hid (∀ u ∈ t.kids, NoteOk p R u) := ih
    have HFL := Lib.hid f3
    have HF := Lib.hid hF
    have HG := Lib.hid hG0
    have HI0 : Hid ((w.alloc (.cells #[.int .i64 t.k, .int .i64 t.n, .slice a t.kids.length cap] 24)).cell? ⟨w.heap.size, 0, none⟩ = some (.int .i64 t.k) ∧ w.grownBy (w.alloc (.cells #[.int .i64 t.k, .int .i64 t.n, .slice a t.kids.length cap] 24)) (some R) ∧ URow p R F G (w.alloc (.cells #[.int .i64 t.k, .int .i64 t.n, .slice a t.kids.length cap] 24)) ∧ AtS (fun b => b ≠ R) (w.alloc (.cells #[.int .i64 t.k, .int .i64 t.n, .slice a t.kids.length cap] 24)) t.kids (.slice a t.kids.length cap)) :=
      ⟨hbx.1, sv_below R hb1, hU.same (hb1.block R hRw), sv_ats (sv_below R hb1) hA⟩
    clear hbx hb1 hA hU hG0 hF f1 f2 f3 hff ih hk
    go_enter Try.func56, Try.ntmps56
    go_wp2_with fail
    go_loopw [45] (fun i wr => ∃ j : Nat, j ≤ t.kids.length ∧ i = .int .i64 j ∧ wr.cell? ⟨w.heap.size, 0, none⟩ = some (.int .i64 t.k) ∧ w.grownBy wr (some R) ∧ URow p R (fun i => F i + timesL p (t.kids.take j) t.k u 0 i) (fun i => max (G i) (farL p (t.kids.take j) t.k u 0 i)) wr ∧ AtS (fun b => b ≠ R) wr t.kids (.slice a t.kids.length cap)) (fun i _ => t.kids.length - (RowKit.intOf i).toNat)
    case atStart =>
      obtain ⟨h1, h2, h3, h4⟩ := HI0.out
      exact ⟨0, Nat.zero_le _, rfl, h1, h2, h3.ext (fun i hi => by rw [List.take_zero]; rfl) (fun i hi => by rw [List.take_zero, farL]; have := HG.out i hi; omega), h4⟩
    case round =>
      obtain ⟨j, hj, rfl, x0, hg, hUr, hAr⟩ := hrel
      clear HI0
      have hzr := hg.size
      by_cases hlt : j < t.kids.length
      · obtain ⟨b, off, cap', vs, he, h1, h2, hbR, kk, kn, kv, ks⟩ := hAr.pos (by omega)
        have gk := kk j hlt
        have gn := kn j hlt
        have gv := kv j hlt
        have gs := ks j hlt
        obtain ⟨au, cu, hvu⟩ := gs.at.shape
        rw [hvu] at gv gs
        have hbr := bindsI_range t.k j
        have hdj : depth t.kids[j] ≤ depthL t.kids := depth_get hlt
        have hdt := HDT.out
        have hst := HST.out
        have hsj := sizeL_take_succ hlt
        have hsl := sizeL_take t.kids (j + 1)
        have hwb : IntKind.i64.wrap (u + bindsI t.k j) = u + bindsI t.k j := IntWalk.i64_in _ (by omega)
        have hb1 := below_al wr (.cells #[.int .i64 t.kids[j].k, .int .i64 t.kids[j].n, .slice au t.kids[j].kids.length cu] 24)
        have hx1 := gcell hb1 x0
        have HC : Hid (∀ W, Below wr.heap.size wr W → Calls Try.prog 56 #[.slice (some ⟨R, 0, none⟩) p p, .agg #[.int .i64 t.kids[j].k, .int .i64 t.kids[j].n, .slice au t.kids[j].kids.length cu], .int .i64 (u + bindsI t.k j)] W (NotePost p R (fun i => F i + timesL p (t.kids.take j) t.k u 0 i + timesT p t.kids[j] (u + bindsI t.k j) i) (fun i => max (max (G i) (farL p (t.kids.take j) t.k u 0 i)) (farT p t.kids[j] (u + bindsI t.k j) i)) W)) := fun W hW =>
          HIH.out t.kids[j] (List.getElem_mem hlt) (formedL_mem HFL.out (List.getElem_mem hlt)) _ _ (u + bindsI t.k j) W (.slice au t.kids[j].kids.length cu) (by omega) (by omega) (fun i hi => by have := HF.out i hi; have := timesL_le p (t.kids.take j) t.k u 0 i; omega) (fun i hi => by have := HG.out i hi; omega) (hUr.same (hW.block R hUr.lt)) (sv_ats (sv_below R hW) gs)
        obtain ⟨y0, y1, y2⟩ := (boxc (World.alloc_heap_new wr (.cells #[.int .i64 t.kids[j].k, .int .i64 t.kids[j].n, .slice au t.kids[j].kids.length cu] 24))).1
        have HUr := Lib.hid hUr
        have HAr := Lib.hid hAr
        have HGr := Lib.hid hg
        have HX := Lib.hid x0
        cases he
        have hRr : R < wr.heap.size := by omega
        have hl0 : (0 : Int) ≤ (j : Int) := by omega
        have hl1 : (j : Int) < (t.kids.length : Int) := by omega
        have HB1 := Lib.hid hb1
        clear kk kn kv ks gs hvu hbr hdj hdt hst hsj hsl hg hUr hAr hb1 h1 h2
        have HD : Hid (Below wr.heap.size wr (wr.alloc (.cells #[.int .i64 t.kids[j].k, .int .i64 t.kids[j].n, .slice au t.kids[j].kids.length cu] 24)).drew) := HB1.out.drew
        go_wp2_with fail
        go_region_held3 (fun w' => w'.cell? ⟨w.heap.size, 0, none⟩ = some (.int .i64 t.k) ∧ w'.cell? ⟨wr.heap.size, 0, none⟩ = some (.int .i64 t.kids[j].k) ∧ w'.cell? ⟨wr.heap.size, 1, none⟩ = some (.int .i64 t.kids[j].n) ∧ w'.cell? ⟨wr.heap.size, 2, none⟩ = some (.slice au t.kids[j].kids.length cu)) (go_keep)
          (first | (go_at_call 54; refine (binds_any _ _ _).mono ?_; rintro e w' ⟨rfl, rfl⟩) | (go_at_call 56; refine (HC.out _ HD.out).mono ?_; rintro e w4 ⟨⟨r, rfl⟩, hg4, hU4⟩; have z0 := sv_cell hg4 (Nat.ne_of_gt hRw) hx1; have z1 := sv_cell hg4 (Nat.ne_of_gt hRr) y0; have z2 := sv_cell hg4 (Nat.ne_of_gt hRr) y1; have z3 := sv_cell hg4 (Nat.ne_of_gt hRr) y2))
        all_goals
          have hgF := HGr.out.trans ((sv_below R HD.out).trans hg4)
          have HgF := Lib.hid hgF
          have HU4 := Lib.hid hU4
          have HgR := Lib.hid ((sv_below R HD.out).trans hg4)
          have HX4 := Lib.hid z0
          clear hgF hU4 hg4 z0 z1 z2 z3
          go_wp2_with fail
          go_roundw
          case rel =>
            refine ⟨j + 1, by omega, by go_num, HX4.out, HgF.out, HU4.out.ext (fun i hi => ?_) (fun i hi => ?_), sv_ats HgR.out HAr.out⟩
            · rw [timesL_take_succ p hlt]; omega
            · have hr := (far_range p t.kids[j] (u + bindsI t.k j) i (by have := (bindsI_range t.k j).1; omega) (formedL_mem HFL.out (List.getElem_mem hlt))).1
              rw [farL_take_succ p hlt t.k u i hr]
              omega
          case measure => simp [RowKit.intOf]; omega
      · obtain rfl : j = t.kids.length := by omega
        have hlt1 : decide ((t.kids.length : Int) < (t.kids.length : Int)) = false := by simp
        rw [List.take_length] at hUr
        have HUr := Lib.hid hUr
        have HGr := Lib.hid hg
        clear hlt hj hUr hg hAr
        go_wp2_with fail
        go_end0
        exact ⟨⟨_, rfl⟩, HGr.out, HUr.out⟩
end Go.Proofs.Ytbfefpejcefnhaa
/- Package subst: uses, shiftable, size. Conditions: bounds on integers, the sizes. -/
namespace Go.Proofs.Ytbfefpejcefnhaa
open Go.RowKit Go Go.Joins
set_option linter.unusedVariables false

theorem Try.infoU : (Try.prog.info? 77).map (fun i => (i.zero, i.size, i.bytes)) = some (some (.agg #[.int .i64 0, .int .i64 0]), 2, 16) := by kernel_rfl
def zerosU (p : Nat) : Array Value := madeCells (Value.agg #[.int .i64 0, .int .i64 0]).cells (p * 2)
theorem zerosU_get (p i : Nat) (h : i < p) : (zerosU p)[i * 2]? = some (.int .i64 0) ∧ (zerosU p)[i * 2 + 1]? = some (.int .i64 0) := by
  have hc : (Value.agg #[.int .i64 0, .int .i64 0]).cells = #[.int .i64 0, .int .i64 0] := by simp [Value.cells]
  unfold zerosU madeCells
  rw [hc]
  have m0 : (i * 2) % 2 = 0 := by omega
  have m1 : (i * 2 + 1) % 2 = 1 := by omega
  refine ⟨?_, ?_⟩
  · rw [Array.getElem?_map, Array.getElem?_range, if_pos (by omega)]
    simp [m0]
  · rw [Array.getElem?_map, Array.getElem?_range, if_pos (by omega)]
    simp [m1]
theorem run_makeU (c : Nat) (hc : c ≤ 1099511627776) (w : World) : (Instr.makeSlice 52 (.int .i64 (c : Int)) (.int .i64 (c : Int))).run Try.prog w = .ok (.slice (some ⟨w.heap.size, 0, none⟩) c c) (w.alloc (.cells (zerosU c) 77)) := by
  obtain ⟨i0, hi, hz0, hz1, hz2⟩ := info_parts Try.infoU
  have := run_make (P := Try.prog) w 52 77 i0 _ Try.underlying52 hi hz0 .i64 .i64 (c : Int) (c : Int) (by omega) (Int.le_refl _) (by rw [hz2]; omega) (by omega)
  rw [hz1] at this
  exact this
theorem urow_new (w : World) (p : Nat) : URow p w.heap.size (fun _ => 0) (fun _ => 0) (w.alloc (.cells (zerosU p) 77)) :=
  ⟨zerosU p, World.alloc_heap_new w _, size_madeCells _ _, fun i hi => zerosU_get p i hi⟩

/-- What uses tells: a block of counts in new memory. -/
def UsePost (p : Nat) (F : Nat → Nat) (G : Nat → Int) (w : World) (e : Ending) (w' : World) : Prop := ∃ R, w.heap.size ≤ R ∧ e = .returned (.slice (some ⟨R, 0, none⟩) p p) ∧ URow p R F G w' ∧ Below w.heap.size w w'
set_option maxRecDepth 100000 in
set_option maxHeartbeats 2000000 in
theorem uses_any (t : Tm) (hf : formedB t = true) (hs : size t ≤ 1048576) (p : Nat) (hp : p ≤ 1048576) (pa : Option Addr) (cp : Nat) (u : Int) (hu : 0 ≤ u ∧ u ≤ 70000) (hd : depth t ≤ 900000) (w : World) (v : Value) (hA : At w t.kids v) :
    Calls Try.prog 35 #[.agg #[.int .i64 t.k, .int .i64 t.n, v], .slice pa p cp, .int .i64 u] w (UsePost p (timesT p t u) (farT p t u) w) := by
  have hO := one_start w t v hA
  have hU := urow_new (w.alloc (.cells #[.int .i64 t.k, .int .i64 t.n, v] 24)) p
  rw [World.size_alloc] at hU
  have hb2 := below_al (w.alloc (.cells #[.int .i64 t.k, .int .i64 t.n, v] 24)) (.cells (zerosU p) 77)
  obtain ⟨⟨x0, x1, x2⟩, hA2, hb⟩ := hO.bel hb2
  have hmk := run_makeU p (by omega)
  have hz : ((w.alloc (.cells #[.int .i64 t.k, .int .i64 t.n, v] 24)).alloc (.cells (zerosU p) 77)).heap.size = w.heap.size + 2 := by simp
  have HC := Lib.hid (note_any p (w.heap.size + 1) (by omega) t hf (fun _ => 0) (fun _ => 0) u _ v hu.1 (by omega) (fun i _ => by omega) (fun i _ => Int.le_refl _) hU ((hA.toS.same (T := fun b => b ≠ w.heap.size + 1) fun b hb' => ⟨by omega, hb.block b hb'⟩)))
  have HB := Lib.hid hb
  have hfr : ∀ i, 0 ≤ farT p t u i := fun i => (far_range p t u i hu.1 hf).1
  have HFR := Lib.hid hfr
  clear hO hU hb2 hA hA2 hb hfr
  go_enter Try.func35, Try.ntmps35
  go_wp2_with fail
  refine HC.out.mono ?_
  rintro e w3 ⟨⟨r, rfl⟩, hg3, hU3⟩
  have HP : Hid (UsePost p (timesT p t u) (farT p t u) w (.returned (.slice (some ⟨w.heap.size + 1, 0, none⟩) p p)) w3) := ⟨_, Nat.le_succ _, rfl, hU3.ext (fun i _ => by simp) (fun i _ => by have := HFR.out i; omega), sv_of_below HB.out hg3 (by omega) (Nat.le_succ _)⟩
  clear hg3 hU3 x0 x1 x2 hmk
  go_wp2_with fail
  exact bodyPost_ret (v := .slice (some ⟨w.heap.size + 1, 0, none⟩) p p) (by simp [results, Try.f35, go_sem]) rfl HP.out
set_option maxRecDepth 100000 in
set_option maxHeartbeats 2000000 in
theorem ssize_any (t : Tm) (hF : Fits t) (hs : size t ≤ 1048576) (A : List Tm) (hFA : ∀ a ∈ A, Fits a) (hsA : sizeL A ≤ 1048576) (F : Nat → Nat) (G : Nat → Int) (hT : size t + sumI (gainI A F) A.length ≤ 1099511627776) (R : Nat) (w : World) (v va : Value) (hA : At w t.kids v) (hAA : At w A va) (hU : URow A.length R F G w) :
    Calls Try.prog 37 #[.agg #[.int .i64 t.k, .int .i64 t.n, v], va, .slice (some ⟨R, 0, none⟩) A.length A.length] w fun e w' => e = .returned (.int .i64 ((size t + sumI (gainI A F) A.length : Nat) : Int)) ∧ Below w.heap.size w w' := by
  obtain ⟨pa, cp, rfl⟩ := hAA.shape
  have hAl : A.length ≤ 1048576 := Nat.le_trans (length_le_sizeL A) hsA
  have hRw := hU.lt
  have hO := one_start w t v hA
  have HC := Lib.hid (c_size t hF hs _ v hO.2.1)
  have HO := Lib.hid (fun W (h : Below (w.alloc (.cells #[.int .i64 t.k, .int .i64 t.n, v] 24)).heap.size (w.alloc (.cells #[.int .i64 t.k, .int .i64 t.n, v] 24)) W) => (hO.bel h).2.2)
  have HFA := Lib.hid hFA
  have HAA := Lib.hid hAA
  have HU := Lib.hid hU
  have HT := Lib.hid hT
  clear hA hAA hO hFA hU hT
  go_enter Try.func37, Try.ntmps37
  go_wp2_with fail
  refine HC.out.mono ?_
  rintro e w1 ⟨rfl, hb1⟩
  have HB1 := Lib.hid (HO.out w1 hb1)
  clear hb1 HC HO
  go_wp2_with fail
  go_loopw [7, 14] (fun n i wr => ∃ j : Nat, j ≤ A.length ∧ i = .int .i64 j ∧ n = .int .i64 ((size t + sumI (gainI A F) j : Nat) : Int) ∧ Below w.heap.size w wr)
    (fun _ i _ => A.length - (RowKit.intOf i).toNat)
  case atStart => exact ⟨0, Nat.zero_le _, rfl, rfl, HB1.out⟩
  case round =>
    obtain ⟨j, hj, rfl, rfl, hbr⟩ := hrel
    clear HB1
    have hmj := sumI_mono (f := gainI A F) hj
    have hT := HT.out
    have hzr := hbr.size
    have HBR := Lib.hid hbr
    by_cases hlt : j < A.length
    · obtain ⟨b, off, cap', vs, he, h1, h2, kk, kn, kv, ks⟩ := (HAA.out.bel hbr (Nat.le_refl _)).pos (by omega)
      have gk := kk j hlt
      have gn := kn j hlt
      have gv := kv j hlt
      have gs := ks j hlt
      obtain ⟨au, cu, hvu⟩ := gs.shape
      rw [hvu] at gv gs
      have hsz := size_get hlt
      have hUr := HU.out.same (w' := wr) (hbr.block R hRw)
      obtain ⟨⟨c0, c1⟩, _⟩ := hUr.slots hlt
      have hb2 := below_al wr (.cells #[.int .i64 A[j].k, .int .i64 A[j].n, .slice au A[j].kids.length cu] 24)
      obtain ⟨y0, y1, y2⟩ := (boxc (World.alloc_heap_new wr (.cells #[.int .i64 A[j].k, .int .i64 A[j].n, .slice au A[j].kids.length cu] 24))).1
      have d0 := gcell hb2 c0
      have HB2 := Lib.hid (hbr.trans (hb2.mono hzr))
      have HD : Hid (∀ W, Below wr.heap.size wr W → Calls Try.prog 27 #[.agg #[.int .i64 A[j].k, .int .i64 A[j].n, (.slice au A[j].kids.length cu)]] W fun e w' => e = .returned (.int .i64 (size A[j])) ∧ Below W.heap.size W w') := fun W hW => c_size A[j] (HFA.out _ (List.getElem_mem hlt)) (by omega) W _ (gs.bel hW (Nat.le_refl _))
      have HB3 := Lib.hid hb2.drew
      have hl1 : (j : Int) < (A.length : Int) := by omega
      have hl0 : (0 : Int) ≤ (j : Int) := by omega
      have hgj : gainI A F j = F j * (size A[j] - 1) := by unfold gainI; rw [atA_get hlt]
      have hsp := size_pos A[j]
      have hss : sumI (gainI A F) (j + 1) = sumI (gainI A F) j + F j * (size A[j] - 1) := by rw [← hgj]; rfl
      have hm1 : sumI (gainI A F) (j + 1) ≤ sumI (gainI A F) A.length := sumI_mono hlt
      have hRr : R < wr.heap.size := by omega
      cases he
      by_cases hz : F j = 0
      · have e1 : decide (0 < F j) = false := decide_eq_false (by omega)
        rw [hz, Nat.zero_mul] at hss
        have HSS := Lib.hid (show sumI (gainI A F) (j + 1) = sumI (gainI A F) j by omega)
        have HZ := Lib.hid hz
        clear kk kn kv ks gs hsz hbr hvu hUr hb2 hgj hss hm1 hmj hT hz h1 h2
        go_wp2_with fail
        go_roundw
        case rel => exact ⟨j + 1, by omega, by go_num, by rw [HSS.out], HB2.out⟩
        case measure => simp [RowKit.intOf]; omega
      · have e1 : 0 < F j := by omega
        have hw1 : IntKind.i64.wrap ((size A[j] : Int) - 1) = ((size A[j] - 1 : Nat) : Int) := by rw [IntWalk.i64_in _ (by omega)]; omega
        have hle : F j * (size A[j] - 1) ≤ 1099511627776 := by omega
        have hw2 : IntKind.i64.wrap ((F j : Int) * ((size A[j] - 1 : Nat) : Int)) = ((F j * (size A[j] - 1) : Nat) : Int) := by rw [← Int.natCast_mul, IntWalk.i64_in _ (by omega)]
        have hw3 : IntKind.i64.wrap (((size t + sumI (gainI A F) j : Nat) : Int) + ((F j * (size A[j] - 1) : Nat) : Int)) = ((size t + sumI (gainI A F) (j + 1) : Nat) : Int) := by rw [hss, IntWalk.i64_in _ (by omega)]; omega
        obtain ⟨S1, HS1⟩ : ∃ S1, Hid (S1 = size t + sumI (gainI A F) (j + 1)) := ⟨_, rfl⟩
        rw [← HS1.out] at hw3
        generalize size t + sumI (gainI A F) j = S0 at *
        clear kk kn kv ks gs hsz hbr hvu hUr hgj hss hm1 hmj hT h1 h2 hle
        go_wp2_with fail
        go_region_held3 (fun w' => w'.cell? ⟨R, j * 2, none⟩ = some (.int .i64 (F j)) ∧ w'.cell? ⟨wr.heap.size, 0, none⟩ = some (.int .i64 A[j].k) ∧ w'.cell? ⟨wr.heap.size, 1, none⟩ = some (.int .i64 A[j].n) ∧ w'.cell? ⟨wr.heap.size, 2, none⟩ = some (.slice au A[j].kids.length cu)) (go_keep)
          (first | (go_at_call 27; refine (HD.out _ HB3.out).mono ?_; rintro e w4 ⟨rfl, hb4⟩; have z0 := gcell hb4 d0; have z1 := gcell hb4 y0; have z2 := gcell hb4 y1; have z3 := gcell hb4 y2))
        have HB4 := Lib.hid (HB2.out.drew.trans (hb4.mono HB2.out.drew.size))
        clear hb4 z0 z1 z2 z3
        go_wp2_with fail
        go_roundw
        case rel => exact ⟨j + 1, by omega, by go_num, by rw [← HS1.out, ← hw3, Int.natCast_mul], HB4.out⟩
        case measure => simp [RowKit.intOf]; omega
    · obtain rfl : j = A.length := by omega
      have hlt1 : decide ((A.length : Int) < (A.length : Int)) = false := by simp
      clear hlt hbr hmj hT
      go_wp2_with fail
      exact bodyPost_ret (v := .int .i64 ((size t + sumI (gainI A F) A.length : Nat) : Int)) (by simp [results, Try.f37, go_sem]) rfl ⟨rfl, HBR.out⟩
set_option maxRecDepth 100000 in
set_option maxHeartbeats 2000000 in
theorem shiftable_any (A : List Tm) (hFA : ∀ a ∈ A, Fits a) (hsA : sizeL A ≤ 1048576) (hck : ∀ a ∈ A, checkE a = 0) (t : Tm) (hf : formedB t = true) (u : Int) (hu : 0 ≤ u) (F : Nat → Nat) (R : Nat) (w : World) (va : Value) (hAA : At w A va) (hU : URow A.length R F (farT A.length t u) w) :
    Calls Try.prog 36 #[va, .slice (some ⟨R, 0, none⟩) A.length A.length] w fun e w' => e = .returned (.bool (!putO A t u)) ∧ Below w.heap.size w w' := by
  obtain ⟨pa, cp, rfl⟩ := hAA.shape
  have hAl : A.length ≤ 1048576 := Nat.le_trans (length_le_sizeL A) hsA
  have hRw := hU.lt
  have HYES := Lib.hid (putO_far hck hu hf)
  have HNO := Lib.hid (fun i (hi : i < A.length) => putO_far_no hck hu hf hi)
  generalize putO A t u = P at *
  generalize farT A.length t u = G at *
  have HFA := Lib.hid hFA
  have HAA := Lib.hid hAA
  have HU := Lib.hid hU
  clear hAA hFA hU hck hf hu
  go_enter Try.func36, Try.ntmps36
  go_wp2_with fail
  go_loopw [11] (fun i wr => ∃ j : Nat, j ≤ A.length ∧ i = .int .i64 j ∧ (∀ q (hq : q < A.length), q < j → G q = 0 ∨ shiftE A[q] (G q) 0 = 0) ∧ Below w.heap.size w wr)
    (fun i _ => A.length - (RowKit.intOf i).toNat)
  case atStart => exact ⟨0, Nat.zero_le _, rfl, fun q hq h => absurd h (Nat.not_lt_zero _), Below.refl _ _⟩
  case round =>
    obtain ⟨j, hj, rfl, hok, hbr⟩ := hrel
    have HOK := Lib.hid hok
    have hzr := hbr.size
    have HBR := Lib.hid hbr
    clear hok
    by_cases hlt : j < A.length
    · obtain ⟨b, off, cap', vs, he, h1, h2, kk, kn, kv, ks⟩ := (HAA.out.bel hbr (Nat.le_refl _)).pos (by omega)
      have gk := kk j hlt
      have gn := kn j hlt
      have gv := kv j hlt
      have gs := ks j hlt
      obtain ⟨au, cu, hvu⟩ := gs.shape
      rw [hvu] at gv gs
      have hsz := size_get hlt
      have hUr := HU.out.same (w' := wr) (hbr.block R hRw)
      obtain ⟨⟨c0, c1⟩, _⟩ := hUr.slots hlt
      have hb2 := below_al wr (.cells #[.int .i64 A[j].k, .int .i64 A[j].n, .slice au A[j].kids.length cu] 24)
      obtain ⟨y0, y1, y2⟩ := (boxc (World.alloc_heap_new wr (.cells #[.int .i64 A[j].k, .int .i64 A[j].n, .slice au A[j].kids.length cu] 24))).1
      have d1 := gcell hb2 c1
      have HB2 := Lib.hid (hbr.trans (hb2.mono hzr))
      have hl1 : (j : Int) < (A.length : Int) := by omega
      have hl0 : (0 : Int) ≤ (j : Int) := by omega
      have hRr : R < wr.heap.size := by omega
      cases he
      by_cases hz : G j = 0
      · have e1 : (G j == 0) = true := by simpa using hz
        have HZ := Lib.hid hz
        clear kk kn kv ks gs hsz hbr hvu hUr hb2 hz h1 h2
        go_wp2_with fail
        go_roundw
        case rel =>
          refine ⟨j + 1, by omega, by go_num, fun q hq h => ?_, HB2.out⟩
          by_cases hqj : q < j
          · exact HOK.out q hq hqj
          · obtain rfl : q = j := by omega
            exact .inl HZ.out
        case measure => simp [RowKit.intOf]; omega
      · have e1 : (G j == 0) = false := by simpa using hz
        have HD : Hid (∀ W, Below wr.heap.size wr W → Calls Try.prog 23 #[.agg #[.int .i64 A[j].k, .int .i64 A[j].n, (.slice au A[j].kids.length cu)], .int .i64 (G j), .int .i64 0] W (TellK W (shiftT A[j] (G j) 0) (.int .i64 (shiftE A[j] (G j) 0)))) := fun W hW => shift_any A[j] (HFA.out _ (List.getElem_mem hlt)) (by omega) (G j) 0 W _ (gs.bel hW (Nat.le_refl _))
        have HJ : Hid (shiftE A[j] (G j) 0 = 0 ∨ P = true) := by
          by_cases h : shiftE A[j] (G j) 0 = 0
          · exact .inl h
          · exact .inr (HNO.out j hlt h)
        generalize hse : shiftE A[j] (G j) 0 = se at *
        generalize shiftT A[j] (G j) 0 = r at *
        have HSE := Lib.hid hse
        have HD4 : Hid (∀ W, (W = (wr.alloc (.cells #[.int .i64 A[j].k, .int .i64 A[j].n, .slice au A[j].kids.length cu] 24)).drew ∨ ∃ o, W = ((wr.alloc (.cells #[.int .i64 A[j].k, .int .i64 A[j].n, .slice au A[j].kids.length cu] 24)).alloc o).drew) → Below wr.heap.size wr W ∧ W.cell? ⟨R, j * 2 + 1, none⟩ = some (.int .i64 (G j)) ∧ W.cell? ⟨wr.heap.size, 0, none⟩ = some (.int .i64 A[j].k) ∧ W.cell? ⟨wr.heap.size, 1, none⟩ = some (.int .i64 A[j].n) ∧ W.cell? ⟨wr.heap.size, 2, none⟩ = some (.slice au A[j].kids.length cu)) := by
          have h0 : ∀ W, Below (wr.alloc (.cells #[.int .i64 A[j].k, .int .i64 A[j].n, .slice au A[j].kids.length cu] 24)).heap.size (wr.alloc (.cells #[.int .i64 A[j].k, .int .i64 A[j].n, .slice au A[j].kids.length cu] 24)) W → Below wr.heap.size wr W ∧ W.cell? ⟨R, j * 2 + 1, none⟩ = some (.int .i64 (G j)) ∧ W.cell? ⟨wr.heap.size, 0, none⟩ = some (.int .i64 A[j].k) ∧ W.cell? ⟨wr.heap.size, 1, none⟩ = some (.int .i64 A[j].n) ∧ W.cell? ⟨wr.heap.size, 2, none⟩ = some (.slice au A[j].kids.length cu) := fun W hW => ⟨hb2.trans (hW.mono (by simp)), gcell hW d1, gcell hW y0, gcell hW y1, gcell hW y2⟩
          rintro W (rfl | ⟨o, rfl⟩)
          · exact h0 _ (Below.refl _ _).drew
          · exact h0 _ (((Below.refl (wr.alloc (.cells #[.int .i64 A[j].k, .int .i64 A[j].n, .slice au A[j].kids.length cu] 24)).heap.size (wr.alloc (.cells #[.int .i64 A[j].k, .int .i64 A[j].n, .slice au A[j].kids.length cu] 24))).alloc (Nat.le_refl _) o).drew)
        have hzb := World.alloc_heap_new (wr.alloc (.cells #[.int .i64 A[j].k, .int .i64 A[j].n, .slice au A[j].kids.length cu] 24)) (.cells #[.int .i64 0, .int .i64 0, .slice none 0 0] 24)
        rw [World.size_alloc] at hzb
        have HZB : Hid (((wr.alloc (.cells #[.int .i64 A[j].k, .int .i64 A[j].n, .slice au A[j].kids.length cu] 24)).alloc (.cells #[.int .i64 0, .int .i64 0, .slice none 0 0] 24)).drew.heap[wr.heap.size + 1]? = some (.cells #[.int .i64 0, .int .i64 0, .slice none 0 0] 24 (0, 0))) := hzb
        have HZ4 : Hid (∀ w4, Below (wr.alloc (.cells #[.int .i64 A[j].k, .int .i64 A[j].n, .slice au A[j].kids.length cu] 24)).drew.heap.size (wr.alloc (.cells #[.int .i64 A[j].k, .int .i64 A[j].n, .slice au A[j].kids.length cu] 24)).drew w4 → wr.heap.size + 1 ≤ w4.heap.size ∧ ¬ (R = w4.heap.size) ∧ ¬ (wr.heap.size = w4.heap.size)) := fun w4 hw4 => by
          have h0 : (wr.alloc (.cells #[.int .i64 A[j].k, .int .i64 A[j].n, .slice au A[j].kids.length cu] 24)).drew.heap.size = wr.heap.size + 1 := by show (wr.alloc _).heap.size = _; simp
          have h1 := hw4.size
          rw [h0] at h1
          exact ⟨h1, by omega, by omega⟩
        have hq1 : ¬ (R = wr.heap.size + 1) := by omega
        have hq0 : ¬ (wr.heap.size + 1 = R) := by omega
        clear kk kn kv ks gs hsz hbr hvu hUr hb2 hz hse hzb h1 h2
        go_wp2_with fail
        go_region_held3 (fun w' => w'.cell? ⟨R, j * 2 + 1, none⟩ = some (.int .i64 (G j)) ∧ w'.cell? ⟨wr.heap.size, 0, none⟩ = some (.int .i64 A[j].k) ∧ w'.cell? ⟨wr.heap.size, 1, none⟩ = some (.int .i64 A[j].n) ∧ w'.cell? ⟨wr.heap.size, 2, none⟩ = some (.slice au A[j].kids.length cu)) (go_keep)
          (first | (go_at_call 23; obtain ⟨z3, z4, z5, z6, z7⟩ := HD4.out _ (.inl rfl); refine (HD.out _ z3).mono ?_; rintro e w4 ⟨a4, c4, rfl, hK4, hb5⟩; obtain ⟨hq4, hq2, hq3⟩ := HZ4.out _ hb5; replace z4 := gcell hb5 z4; replace z5 := gcell hb5 z5; replace z6 := gcell hb5 z6; replace z7 := gcell hb5 z7) | (go_at_call 23; obtain ⟨z3, z4, z5, z6, z7⟩ := HD4.out _ (.inr ⟨_, rfl⟩); refine (HD.out _ z3).mono ?_; rintro e w4 ⟨a4, c4, rfl, hK4, hb5⟩; obtain ⟨⟨n0, n1, n2⟩, p0, p1, p2⟩ := boxc ((hb5.block (wr.heap.size + 1) (by show _ < ((wr.alloc _).alloc _).heap.size; simp)).trans HZB.out); replace z4 := gcell hb5 z4; replace z5 := gcell hb5 z5; replace z6 := gcell hb5 z6; replace z7 := gcell hb5 z7))
        all_goals
          have hz4 := Nat.le_trans z3.size hb5.size
          first
            | (have hb6 := ((z3.trans (hb5.mono z3.size)).alloc hz4 (.cells #[.int .i64 r.k, .int .i64 r.n, .slice a4 r.kids.length c4] 24)); obtain ⟨w5, hw5⟩ : ∃ w5, w5 = w4.alloc (.cells #[.int .i64 r.k, .int .i64 r.n, .slice a4 r.kids.length c4] 24) := ⟨_, rfl⟩; rw [← hw5] at hb6 ⊢)
            | (have hb6 := (z3.trans (hb5.mono z3.size)).trans (below_store3 (W := w4) (B := wr.heap.size + 1) (Nat.le_succ _) (.int .i64 r.k) (.int .i64 r.n) (.slice a4 r.kids.length c4)); obtain ⟨w5, hw5⟩ : ∃ w5, w5 = (((w4.setCell ⟨wr.heap.size + 1, 0, none⟩ (.int .i64 r.k)).setCell ⟨wr.heap.size + 1, 1, none⟩ (.int .i64 r.n)).setCell ⟨wr.heap.size + 1, 2, none⟩ (.slice a4 r.kids.length c4)) := ⟨_, rfl⟩; rw [← hw5] at hb6 ⊢)
          have HB7 := Lib.hid (HBR.out.trans (hb6.mono HBR.out.size))
          clear hw5 hb5 hb6 z3 z4 z5 z6 z7 hK4
          rcases Decidable.em (se = 0) with rfl | hse
          · go_wp2_with fail
            go_roundw
            case rel =>
              refine ⟨j + 1, by omega, by go_num, fun q hq h => ?_, HB7.out⟩
              by_cases hqj : q < j
              · exact HOK.out q hq hqj
              · obtain rfl : q = j := by omega
                exact .inr HSE.out
            case measure => simp [RowKit.intOf]; omega
          · have e2 : (se != 0) = true := by simpa using hse
            obtain rfl : P = true := HJ.out.resolve_left hse
            clear hse
            go_wp2_with fail
            exact bodyPost_ret (v := .bool false) (by simp [results, Try.f36, go_sem]) rfl ⟨rfl, HB7.out⟩
    · obtain rfl : j = A.length := by omega
      have hlt1 : decide ((A.length : Int) < (A.length : Int)) = false := by simp
      obtain rfl : P = false := HYES.out fun i hi => HOK.out i hi hi
      clear hlt hbr
      go_wp2_with fail
      exact bodyPost_ret (v := .bool true) (by simp [results, Try.f36, go_sem]) rfl ⟨rfl, HBR.out⟩
end Go.Proofs.Ytbfefpejcefnhaa
/- Package subst: forVar, build: a right term, the args put in, in new memory. Conditions: bounds on integers, the sizes. -/
namespace Go.Proofs.Ytbfefpejcefnhaa
open Go.RowKit Go Go.Joins
set_option linter.unusedVariables false

/-- A term that is told alone: its Kids lie in new rows. -/
def TellB (w : World) (r : Tm) (e : Ending) (w' : World) : Prop := ∃ a cap, e = .returned (.agg #[.int .i64 r.k, .int .i64 r.n, .slice a r.kids.length cap]) ∧ AtK (fun b => w.heap.size ≤ b ∧ b < w'.heap.size) w' r.kids (.slice a r.kids.length cap) ∧ Below w.heap.size w w'
def varT (A : List Tm) (n u : Int) : Tm := if u + A.length ≤ n then .node 1 (n - A.length) [] else if u ≤ n then moveT (argA A u n) u 0 else .node 1 n []
theorem put_varT {A : List Tm} {t : Tm} {u : Int} (hk : t.k = 1) (hl : t.kids = []) : putT A t u = varT A t.n u := by
  rw [putT_eq, hl]
  unfold varT
  by_cases h1 : u + A.length ≤ t.n
  · rw [if_pos ⟨hk, h1⟩, if_pos h1, hk]; rfl
  · rw [if_neg (fun h => h1 h.2), if_neg h1]
    by_cases h2 : u ≤ t.n
    · rw [if_pos ⟨hk, h2⟩, if_pos h2]
    · rw [if_neg (fun h => h2 h.2), if_neg h2, hk]; rfl
set_option maxRecDepth 100000 in
set_option maxHeartbeats 2000000 in
theorem forvar_any (A : List Tm) (hFA : ∀ a ∈ A, Fits a) (hsA : sizeL A ≤ 1048576) (n u : Int) (hn : 0 ≤ n ∧ n ≤ 65535) (hu : 0 ≤ u ∧ u ≤ 1000000) (hsh : u ≤ n → n < u + A.length → shiftE (argA A u n) u 0 = 0) (w : World) (va : Value) (hAA : At w A va) :
    Calls Try.prog 57 #[.int .i64 n, va, .int .i64 u] w (TellB w (varT A n u)) := by
  obtain ⟨pa, cp, rfl⟩ := hAA.shape
  have hAl : A.length ≤ 1048576 := Nat.le_trans (length_le_sizeL A) hsA
  have HR := Lib.hid (fun W => repl_any A.length n u hn hu (by omega) W)
  have hbn := World.alloc_heap_new w (.cells #[.int .i64 0, .int .i64 0, .slice none 0 0] 24)
  have hb1 := below_al w (.cells #[.int .i64 0, .int .i64 0, .slice none 0 0] 24)
  by_cases h : u ≤ n ∧ n < u + A.length
  · have hj : A.length - 1 - (n - u).toNat < A.length := by omega
    have hi : replI A.length n u = ((A.length - 1 - (n - u).toNat : Nat) : Int) := by unfold replI; rw [if_pos h]; omega
    have hb : replB A.length n u = true := decide_eq_true h
    have hv : varT A n u = shiftT A[A.length - 1 - (n - u).toNat] u 0 := by
      have he := hsh h.1 h.2
      rw [argA_at, atA_get hj] at he
      unfold varT
      rw [if_neg (by omega), if_pos h.1, argA_at, atA_get hj, shiftT, if_pos he]
    rw [hi, hb] at HR
    rw [hv]
    generalize A.length - 1 - (n - u).toNat = j at *
    obtain ⟨b, off, cap', vs, he, h1, h2, kk, kn, kv, ks⟩ := hAA.pos (by omega)
    have gk := gcell hb1 (kk j hj)
    have gn := gcell hb1 (kn j hj)
    have gv := gcell hb1 (kv j hj)
    have gs := ks j hj
    obtain ⟨au, cu, hvu⟩ := gs.shape
    rw [hvu] at gv gs
    have hsz := size_get hj
    have HD : Hid (∀ W, Below w.heap.size w W → Calls Try.prog 23 #[.agg #[.int .i64 A[j].k, .int .i64 A[j].n, (.slice au A[j].kids.length cu)], .int .i64 u, .int .i64 0] W (TellK W (shiftT A[j] u 0) (.int .i64 (shiftE A[j] u 0)))) := fun W hW => shift_any A[j] (hFA _ (List.getElem_mem hj)) (by omega) u 0 W _ (gs.bel hW (Nat.le_refl _))
    generalize shiftE A[j] u 0 = se at *
    generalize shiftT A[j] u 0 = r at *
    have HB1 := Lib.hid hb1
    have HBN := Lib.hid hbn
    have hl0 : (0 : Int) ≤ (j : Int) := by omega
    have hl1 : (j : Int) < (A.length : Int) := by omega
    cases he
    clear hi hb hv hsh hAA kk kn kv ks gs hvu hsz hFA h hbn hb1 h1 h2
    go_enter Try.func57, Try.ntmps57
    go_wp2_with fail
    refine (HR.out _).mono ?_
    rintro e w3 ⟨rfl, hb3⟩
    have gk3 := gcell hb3 gk
    have gn3 := gcell hb3 gn
    have gv3 := gcell hb3 gv
    have hz3 := hb3.size
    rw [World.size_alloc] at hz3
    have HB3 := Lib.hid (HB1.out.trans (hb3.mono (by simp)))
    have HN3 := Lib.hid ((hb3.block w.heap.size (by simp)).trans HBN.out)
    clear hb3 gk gn gv HR
    go_wp2_with fail
    refine (HD.out _ HB3.out).mono ?_
    rintro e w4 ⟨a4, c4, rfl, hK4, hb4⟩
    have hz4 := hb4.size
    have hx4 := (Below.heap_alloc w4 (.cells #[.int .i64 r.k, .int .i64 r.n, .slice a4 r.kids.length c4] 24) w.heap.size (by omega)).trans ((hb4.block w.heap.size (by omega)).trans HN3.out)
    obtain ⟨⟨c0, c1, c2⟩, g0, g1, g2⟩ := boxc hx4
    obtain ⟨y0, y1, y2⟩ := (boxc (World.alloc_heap_new w4 (.cells #[.int .i64 r.k, .int .i64 r.n, .slice a4 r.kids.length c4] 24))).1
    have HB4 := Lib.hid (HB3.out.trans (hb4.mono HB3.out.size))
    have HK4 := Lib.hid hK4
    clear hx4 hb4 hK4 gk3 gn3 gv3 HD
    go_wp2_with fail
    exact bodyPost_ret (v := .agg #[.int .i64 r.k, .int .i64 r.n, .slice a4 r.kids.length c4]) (by simp [results, Try.f57, go_sem, c0, c1, c2]) rfl ⟨a4, c4, rfl, HK4.out.same fun b' hb' => ⟨⟨by omega, by simp; omega⟩, (other_store3 (by omega) _ _ _).trans (Below.heap_alloc w4 _ b' hb'.2)⟩, (HB4.out.alloc (by omega) _).trans (below_store3 (Nat.le_refl _) _ _ _)⟩
  · have hi : replI A.length n u = 0 := by unfold replI; rw [if_neg h]
    have hb : replB A.length n u = false := decide_eq_false h
    rw [hi, hb] at HR
    have HB1 := Lib.hid hb1
    have HBN := Lib.hid hbn
    clear hi hb hsh hAA hFA hbn hb1
    by_cases h1 : n < u
    · rw [show varT A n u = .node 1 n [] by unfold varT; rw [if_neg (by omega), if_neg (by omega)]]
      clear h
      go_enter Try.func57, Try.ntmps57
      go_wp2_with fail
      refine (HR.out _).mono ?_
      rintro e w3 ⟨rfl, hb3⟩
      have HB3 := Lib.hid (HB1.out.trans (hb3.mono (by simp)))
      obtain ⟨⟨c0, c1, c2⟩, g0, g1, g2⟩ := boxc ((hb3.block w.heap.size (by simp)).trans HBN.out)
      clear hb3 HR
      go_wp2_with fail
      exact bodyPost_ret (v := .agg #[.int .i64 1, .int .i64 n, .slice none 0 0]) (by simp [results, Try.f57, go_sem, c0, c1, c2]) rfl ⟨none, 0, rfl, .nl, HB3.out.trans (below_store3 (Nat.le_refl _) _ _ _)⟩
    · rw [show varT A n u = .node 1 (n - A.length) [] by unfold varT; rw [if_pos (by omega)]]
      have e1 : decide (n < u) = false := decide_eq_false h1
      have hw : IntKind.i64.wrap (n - (A.length : Int)) = n - A.length := IntWalk.i64_in _ (by omega)
      clear h
      go_enter Try.func57, Try.ntmps57
      go_wp2_with fail
      refine (HR.out _).mono ?_
      rintro e w3 ⟨rfl, hb3⟩
      have HB3 := Lib.hid (HB1.out.trans (hb3.mono (by simp)))
      obtain ⟨⟨c0, c1, c2⟩, g0, g1, g2⟩ := boxc ((hb3.block w.heap.size (by simp)).trans HBN.out)
      clear hb3 HR
      go_wp2_with fail
      exact bodyPost_ret (v := .agg #[.int .i64 1, .int .i64 (n - A.length), .slice none 0 0]) (by simp [results, Try.f57, go_sem, c0, c1, c2]) rfl ⟨none, 0, rfl, .nl, HB3.out.trans (below_store3 (Nat.le_refl _) _ _ _)⟩

def BInv (A : List Tm) (t : Tm) (u : Int) (w : World) (i : Value) (wr : World) : Prop := ∃ (j : Nat) (vs : Nat → Value), j ≤ t.kids.length ∧ i = .int .i64 j ∧
  KRow t.kids.length (w.heap.size + 2) (putL A (t.kids.take j) t.k u 0) vs wr ∧ (∀ i (_ : i < j) (r : Tm), (putL A (t.kids.take j) t.k u 0)[i]? = some r → AtK (fun b => w.heap.size + 3 ≤ b ∧ b < wr.heap.size) wr r.kids (vs i)) ∧
  wr.cell? ⟨w.heap.size, 0, none⟩ = some (.int .i64 t.k) ∧ wr.heap[w.heap.size + 1]? = some (.cells #[.int .i64 0, .int .i64 0, .slice none 0 0] 24 (0, 0)) ∧ Below w.heap.size w wr ∧ w.heap.size + 3 ≤ wr.heap.size
theorem bStep {A : List Tm} {t uj : Tm} {u : Int} {w wr w5 : World} {a4 : Option Addr} {c4 j : Nat} {vs : Nat → Value} (hlt : j < t.kids.length)
    (hK : KRow t.kids.length (w.heap.size + 2) (putL A (t.kids.take j) t.k u 0) vs w5) (hats : ∀ i (_ : i < j) (r : Tm), (putL A (t.kids.take j) t.k u 0)[i]? = some r → AtK (fun b => w.heap.size + 3 ≤ b ∧ b < wr.heap.size) wr r.kids (vs i))
    (hK5 : AtK (fun b => wr.heap.size ≤ b ∧ b < w5.heap.size) w5 uj.kids (.slice a4 uj.kids.length c4)) (hgj : putT A t.kids[j] (u + bindsI t.k j) = uj)
    (x0 : wr.cell? ⟨w.heap.size, 0, none⟩ = some (.int .i64 t.k)) (hbn : wr.heap[w.heap.size + 1]? = some (.cells #[.int .i64 0, .int .i64 0, .slice none 0 0] 24 (0, 0)))
    (hbw : Below w.heap.size w wr) (hb6 : Below wr.heap.size wr w5) (hsz : w.heap.size + 3 ≤ wr.heap.size) :
    BInv A t u w (.int .i64 ((j + 1 : Nat) : Int)) (((w5.setCell ⟨w.heap.size + 2, j * 3, none⟩ (.int .i64 uj.k)).setCell ⟨w.heap.size + 2, j * 3 + 1, none⟩ (.int .i64 uj.n)).setCell ⟨w.heap.size + 2, j * 3 + 2, none⟩ (.slice a4 uj.kids.length c4)) := by
  have hLl : (putL A (t.kids.take j) t.k u 0).length = j := by rw [putL_length, List.length_take]; omega
  have hput := hK.put (by omega) uj (.slice a4 uj.kids.length c4)
  have hst := below_row3 (W := w5) (B := w.heap.size + 2) (D := w.heap.size) (o := j * 3) (by omega) (.int .i64 uj.k) (.int .i64 uj.n) (.slice a4 uj.kids.length c4)
  have hoth : ∀ b', b' ≠ w.heap.size + 2 → (((w5.setCell ⟨w.heap.size + 2, j * 3, none⟩ (.int .i64 uj.k)).setCell ⟨w.heap.size + 2, j * 3 + 1, none⟩ (.int .i64 uj.n)).setCell ⟨w.heap.size + 2, j * 3 + 2, none⟩ (.slice a4 uj.kids.length c4)).heap[b']? = w5.heap[b']? := fun b' hb' => other_row3 hb' _ _ _
  rw [hLl, ← hgj, ← putL_take_succ A hlt] at hput
  rw [hgj] at hput
  revert hput hst hoth
  generalize (((w5.setCell ⟨w.heap.size + 2, j * 3, none⟩ (.int .i64 uj.k)).setCell ⟨w.heap.size + 2, j * 3 + 1, none⟩ (.int .i64 uj.n)).setCell ⟨w.heap.size + 2, j * 3 + 2, none⟩ (.slice a4 uj.kids.length c4)) = w6
  intro hput hst hoth
  have hz6 := hst.size
  have hz5 := hb6.size
  have hbF : Below w.heap.size w w6 := (hbw.trans (hb6.mono hbw.size)).trans hst
  refine ⟨j + 1, fun i => if i < j then vs i else .slice a4 uj.kids.length c4, by omega, rfl, hput, fun i hi r hu => ?_, ?_, ?_, hbF, by omega⟩
  · rw [putL_take_succ A hlt, hgj] at hu
    by_cases hij : i < j
    · simp only [if_pos hij]
      rw [List.getElem?_append_left (by omega)] at hu
      exact (hats i hij r hu).same fun b' hb' => ⟨⟨hb'.1, by omega⟩, (hoth b' (by omega)).trans (hb6.block b' hb'.2)⟩
    · obtain rfl : i = j := by omega
      simp only [if_neg hij]
      rw [List.getElem?_append_right (by omega), hLl] at hu
      simp only [Nat.sub_self, List.getElem?_cons_zero, Option.some.injEq] at hu
      subst hu
      exact hK5.same fun b' hb' => ⟨⟨by omega, by omega⟩, hoth b' (by omega)⟩
  · rw [World.cell?_of_block (w := w5) (hoth w.heap.size (by omega))]
    exact gcell hb6 x0
  · exact (hoth _ (by omega)).trans ((hb6.block _ (by omega)).trans hbn)
def BuildOk (A : List Tm) (t : Tm) : Prop := formedB t = true → ∀ (u : Int) (w : World) (v va : Value), 0 ≤ u → u + depth t ≤ 1000000 → putO A t u = false → At w t.kids v → At w A va →
    Calls Try.prog 38 #[.agg #[.int .i64 t.k, .int .i64 t.n, v], va, .int .i64 u] w (TellB w (putT A t u))
end Go.Proofs.Ytbfefpejcefnhaa
/- Package subst: build. Conditions: bounds on integers, the sizes. -/
namespace Go.Proofs.Ytbfefpejcefnhaa
open Go.RowKit Go Go.Joins
set_option linter.unusedVariables false

set_option maxRecDepth 100000 in
set_option maxHeartbeats 2000000 in
theorem build_any (A : List Tm) (hFA : ∀ a ∈ A, Fits a) (hsA : sizeL A ≤ 1048576) (hck : ∀ a ∈ A, checkE a = 0) : ∀ t : Tm, BuildOk A t := by
  refine tm_ind fun t ih => ?_
  intro hf u w v va hu0 hu1 hov hA hAA
  obtain ⟨a, cap, rfl⟩ := hA.shape
  have hAl : A.length ≤ 1048576 := Nat.le_trans (length_le_sizeL A) hsA
  obtain ⟨pa, cp, rfl⟩ := hAA.shape
  have hbx := (box3_new w t (.slice a t.kids.length cap) 24).2
  have hbn := World.alloc_heap_new (w.alloc (.cells #[.int .i64 t.k, .int .i64 t.n, .slice a t.kids.length cap] 24)) (.cells #[.int .i64 0, .int .i64 0, .slice none 0 0] 24)
  rw [World.size_alloc] at hbn
  have hb2 : Below w.heap.size w ((w.alloc (.cells #[.int .i64 t.k, .int .i64 t.n, .slice a t.kids.length cap] 24)).alloc (.cells #[.int .i64 0, .int .i64 0, .slice none 0 0] 24)) := ((Below.refl _ w).alloc (Nat.le_refl _) _).alloc (by simp) _
  obtain ⟨x0, x1, x2⟩ := hbx
  have hb2' := below_al (w.alloc (.cells #[.int .i64 t.k, .int .i64 t.n, .slice a t.kids.length cap] 24)) (.cells #[.int .i64 0, .int .i64 0, .slice none 0 0] 24)
  replace x0 := gcell hb2' x0
  replace x1 := gcell hb2' x1
  replace x2 := gcell hb2' x2
  have hz2 : ((w.alloc (.cells #[.int .i64 t.k, .int .i64 t.n, .slice a t.kids.length cap] 24)).alloc (.cells #[.int .i64 0, .int .i64 0, .slice none 0 0] 24)).heap.size = w.heap.size + 2 := by simp
  have hff := hf
  rw [formedB_eq, Bool.and_eq_true, Bool.and_eq_true, decide_eq_true_eq] at hf
  obtain ⟨⟨f1, f2⟩, f3⟩ := hf
  by_cases hk : t.k = 1
  · have hl0 : t.kids.length = 0 := by rw [hk] at f1; have : kidsI 1 = 0 := by decide
                                       omega
    rw [if_pos hl0, Bool.and_eq_true, decide_eq_true_eq, decide_eq_true_eq] at f2
    have hsh : u ≤ t.n → t.n < u + A.length → shiftE (argA A u t.n) u 0 = 0 := fun h1 h2 => by
      rw [putO_eq, if_neg (fun h => by have := h.2; omega), if_pos ⟨hk, h1⟩] at hov
      rw [shift_far (hck _ (arg_mem h1 h2)) ⟨hu0, by omega⟩, if_neg (by rw [hov]; decide)]
    have HV := Lib.hid (forvar_any A hFA hsA t.n u f2 ⟨hu0, by omega⟩ hsh _ (.slice pa A.length cp) (hAA.bel hb2 (Nat.le_refl _)))
    rw [put_varT hk (List.eq_nil_of_length_eq_zero hl0)]
    have HB2 := Lib.hid hb2
    have HBN := Lib.hid hbn
    have e1 : (t.k == 1) = true := by simpa using hk
    generalize varT A t.n u = r at *
    clear hb2' hA hAA hb2 ih f1 f2 f3 hl0 hk hbn hov hsh hff
    go_enter Try.func38, Try.ntmps38
    go_wp2_with fail
    refine HV.out.mono ?_
    rintro e w3 ⟨a3, c3, rfl, hK3, hb3⟩
    have hz3 := hb3.size
    obtain ⟨⟨c0, c1, c2⟩, g0, g1, g2⟩ := boxc ((hb3.block (w.heap.size + 1) (by omega)).trans HBN.out)
    have HB3 := Lib.hid (HB2.out.trans (hb3.mono (by omega)))
    have HK3 := Lib.hid hK3
    clear hb3 hK3 HV x0 x1 x2
    go_wp2_with fail
    exact bodyPost_ret (v := .agg #[.int .i64 r.k, .int .i64 r.n, .slice a3 r.kids.length c3]) (by simp [results, Try.f38, go_sem, c0, c1, c2]) rfl ⟨a3, c3, rfl, HK3.out.same fun b' hb' => ⟨⟨by omega, by simp; omega⟩, other_store3 (by omega) _ _ _⟩, HB3.out.trans (below_store3 (by omega) _ _ _)⟩
  · have e1 : (t.k == 1) = false := by simpa using hk
    have HLF : Hid (∀ W : World, Calls Try.prog 58 #[.int .i64 t.k] W fun e w' => e = .returned (.bool (kidsI t.k == 0)) ∧ W = w') := fun W => leaf_any t.k W
    rw [putT_eq, if_neg (fun h => hk h.1), if_neg (fun h => hk h.1)]
    by_cases hl0 : t.kids.length = 0
    · have hkz : (kidsI t.k == 0) = true := by simp; omega
      rw [hkz] at HLF
      rw [show putL A t.kids t.k u 0 = [] by rw [List.eq_nil_of_length_eq_zero hl0]; rfl]
      obtain ⟨⟨c0, c1, c2⟩, g0, g1, g2⟩ := boxc hbn
      have HB2 := Lib.hid hb2
      clear hb2' hA hAA hb2 ih f1 f2 f3 hl0 hk hkz hbn hov hff
      go_enter Try.func38, Try.ntmps38
      go_wp2_with fail
      refine (HLF.out _).mono ?_
      rintro e w3 ⟨rfl, rfl⟩
      go_wp2_with fail
      exact bodyPost_ret (v := .agg #[.int .i64 t.k, .int .i64 t.n, .slice none 0 0]) (by simp [results, Try.f38, go_sem]) rfl ⟨none, 0, rfl, .nl, ((Below.refl _ w).alloc (Nat.le_refl _) _).alloc (by simp) _⟩
    · have hkz : (kidsI t.k == 0) = false := by simp; omega
      rw [hkz] at HLF
      have hk3 : kidsI t.k ≤ 3 := kidsI_le t.k
      have hc0 : 0 < t.kids.length := by omega
      have hc3 : t.kids.length ≤ 3 := by omega
      have hmk := run_makeT t.kids.length (by omega)
      have hb3 := below_al ((w.alloc (.cells #[.int .i64 t.k, .int .i64 t.n, .slice a t.kids.length cap] 24)).alloc (.cells #[.int .i64 0, .int .i64 0, .slice none 0 0] 24)) (.cells (zerosC t.kids.length) 24)
      have hkr := krow_new ((w.alloc (.cells #[.int .i64 t.k, .int .i64 t.n, .slice a t.kids.length cap] 24)).alloc (.cells #[.int .i64 0, .int .i64 0, .slice none 0 0] 24)) t.kids.length (fun _ => .slice none 0 0)
      have HI0 : Hid (BInv A t u w (.int .i64 0) (((w.alloc (.cells #[.int .i64 t.k, .int .i64 t.n, .slice a t.kids.length cap] 24)).alloc (.cells #[.int .i64 0, .int .i64 0, .slice none 0 0] 24)).alloc (.cells (zerosC t.kids.length) 24))) :=
        ⟨0, fun _ => .slice none 0 0, Nat.zero_le _, rfl, by rw [hz2] at hkr; exact hkr, fun i hi => absurd hi (Nat.not_lt_zero _), gcell hb3 x0, (hb3.block _ (by rw [hz2]; omega)).trans hbn, hb2.trans (hb3.mono (by rw [hz2]; omega)), by simp⟩
      have HA0 := Lib.hid hA
      have HAA := Lib.hid hAA
      have HIH : Hid (∀ u ∈ t.kids, BuildOk A u) := ih
      have HFL := Lib.hid f3
      have HOV : Hid (putOL A t.kids t.k u 0 = false) := by
        rw [putO_eq, if_neg (fun h => hk h.1), if_neg (fun h => hk h.1)] at hov
        exact hov
      have HN0 : Hid (t.n = 0) := by
        rw [if_neg hl0, decide_eq_true_eq] at f2
        exact f2
      have HDT := Lib.hid (depth_eq t)
      have hx23 := gcell hb3 x2
      clear hb2' hA hAA hb2 ih f1 f2 f3 hl0 hk hkz hbn hb3 hkr hk3 hov hff
      go_enter Try.func38, Try.ntmps38
      go_wp2_with fail
      refine (HLF.out _).mono ?_
      rintro e w3 ⟨rfl, rfl⟩
      go_wp2_with fail
      clear hmk x0 x1 x2 hz2 HLF hx23
      go_loopw [33] (fun i wr => BInv A t u w i wr) (fun i _ => t.kids.length - (RowKit.intOf i).toNat)
      case atStart => exact HI0.out
      case round =>
        obtain ⟨j, vs, hj, rfl, hK, hats, x0, hbn, hbw, hsz⟩ := hrel
        clear HI0
        by_cases hlt : j < t.kids.length
        · obtain ⟨bk, ok, ck, vk, he, h1, h2, kk, kn, kv, ks⟩ := (HA0.out.bel hbw (Nat.le_refl _)).pos (by omega)
          have gk := kk j hlt
          have gn := kn j hlt
          have gv := kv j hlt
          obtain ⟨au, cu, hvu⟩ := (ks j hlt).shape
          rw [hvu] at gv
          have hbr := bindsI_range t.k j
          have hdj : depth t.kids[j] ≤ depthL t.kids := depth_get hlt
          have hdt := HDT.out
          have hwb : IntKind.i64.wrap (u + bindsI t.k j) = u + bindsI t.k j := IntWalk.i64_in _ (by omega)
          have hovj := putOL_get hlt HOV.out
          rw [Nat.zero_add] at hovj
          have HC : Hid (∀ W, Below wr.heap.size wr W → Calls Try.prog 38 #[.agg #[.int .i64 t.kids[j].k, .int .i64 t.kids[j].n, .slice au t.kids[j].kids.length cu], .slice pa A.length cp, .int .i64 (u + bindsI t.k j)] W (TellB W (putT A t.kids[j] (u + bindsI t.k j)))) := fun W hW =>
            HIH.out t.kids[j] (List.getElem_mem hlt) (formedL_mem HFL.out (List.getElem_mem hlt)) (u + bindsI t.k j) W (.slice au t.kids[j].kids.length cu) (.slice pa A.length cp) (by omega) (by omega) hovj (by rw [← hvu]; exact (ks j hlt).bel hW (Nat.le_refl _)) (HAA.out.bel (hbw.trans (hW.mono hbw.size)) (Nat.le_refl _))
          generalize hgj : putT A t.kids[j] (u + bindsI t.k j) = uj at HC
          have HGJ := Lib.hid hgj
          have HK := Lib.hid hK
          have HAT := Lib.hid hats
          have HBN := Lib.hid hbn
          have HBW := Lib.hid hbw
          cases he
          have hlt0 : (0 : Int) ≤ (j : Int) := by omega
          have hlt1 : (j : Int) < (t.kids.length : Int) := by omega
          have hx3 := gcell (below_al wr (.cells #[.int .i64 t.kids[j].k, .int .i64 t.kids[j].n, .slice au t.kids[j].kids.length cu] 24)) x0
          have hb4 := below_al wr (.cells #[.int .i64 t.kids[j].k, .int .i64 t.kids[j].n, .slice au t.kids[j].kids.length cu] 24)
          obtain ⟨y0, y1, y2⟩ := (boxc (World.alloc_heap_new wr (.cells #[.int .i64 t.kids[j].k, .int .i64 t.kids[j].n, .slice au t.kids[j].kids.length cu] 24))).1
          have HB4 := Lib.hid hb4.drew
          have hq1 : ¬ (wr.heap.size = w.heap.size + 2) := by omega
          have hq0 : ¬ (w.heap.size + 2 = wr.heap.size) := by omega
          have HX0 := Lib.hid x0
          clear kk kn kv ks hvu hbr hdj hdt hgj hK hats hbn hbw hb4 h1 h2 hovj
          go_wp2_with fail
          go_region_held3 (fun w' => w'.cell? ⟨w.heap.size, 0, none⟩ = some (.int .i64 t.k) ∧ w'.cell? ⟨wr.heap.size, 0, none⟩ = some (.int .i64 t.kids[j].k) ∧ w'.cell? ⟨wr.heap.size, 1, none⟩ = some (.int .i64 t.kids[j].n) ∧ w'.cell? ⟨wr.heap.size, 2, none⟩ = some (.slice au t.kids[j].kids.length cu)) (go_keep)
            (first | (go_at_call 54; refine (binds_any _ _ _).mono ?_; rintro e w' ⟨rfl, rfl⟩) | (go_at_call 38; refine (HC.out _ HB4.out).mono ?_; rintro e w4 ⟨a4, c4, rfl, hK4, hb5⟩; have z4 := gcell hb5 hx3; have z5 := gcell hb5 y0; have z6 := gcell hb5 y1; have z7 := gcell hb5 y2; have hb6 := HB4.out.trans (hb5.mono HB4.out.size); obtain ⟨⟨s0, s1, s2, q0, q1, q2⟩, r0, r1, r2⟩ := (HK.out.same (w' := w4) (hb6.block (w.heap.size + 2) (by omega))).slots hlt))
          all_goals
            have hz4 := HB4.out.size
            have HS := Lib.hid (bStep hlt (HK.out.same (w' := w4) (hb6.block (w.heap.size + 2) (by omega))) HAT.out (hK4.same (T := fun b => wr.heap.size ≤ b ∧ b < w4.heap.size) fun b hb => ⟨⟨Nat.le_trans hz4 hb.1, hb.2⟩, rfl⟩) HGJ.out HX0.out HBN.out HBW.out hb6 hsz)
            clear hz4 hb6 hb5 hK4 z4 z5 z6 z7 q0 q1 q2 r0 r1 r2
            revert HS
            generalize (((w4.setCell ⟨w.heap.size + 2, j * 3, none⟩ (.int .i64 uj.k)).setCell ⟨w.heap.size + 2, j * 3 + 1, none⟩ (.int .i64 uj.n)).setCell ⟨w.heap.size + 2, j * 3 + 2, none⟩ (.slice a4 uj.kids.length c4)) = w6 at *
            intro HS
            go_wp2_with fail
            go_roundw
            case rel =>
              have := HS.out
              rwa [show ((j + 1 : Nat) : Int) = (j : Int) + 1 by omega] at this
            case measure => simp [RowKit.intOf]; omega
        · obtain rfl : j = t.kids.length := by omega
          have hlt1 : decide ((t.kids.length : Int) < (t.kids.length : Int)) = false := by simp
          rw [List.take_length] at hK hats
          have HK := Lib.hid hK
          have HAT := Lib.hid hats
          have HBW := Lib.hid hbw
          obtain ⟨⟨c0, c1, c2⟩, g0, g1, g2⟩ := boxc hbn
          clear hK hats hbw hbn hlt hj
          go_wp2_with fail
          refine bodyPost_ret (v := .agg #[.int .i64 t.k, .int .i64 0, .slice (some ⟨w.heap.size + 2, 0, none⟩) t.kids.length t.kids.length]) (by simp [results, Try.f38, go_sem, c0, c1, c2]) rfl ?_
          have hLl : (putL A t.kids t.k u 0).length = t.kids.length := putL_length _ _ _ _ _
          refine ⟨some ⟨w.heap.size + 2, 0, none⟩, t.kids.length, ?_, ?_, HBW.out.trans (below_store3 (by omega) _ _ _)⟩
          · show _ = Ending.returned (.agg #[.int .i64 t.k, .int .i64 t.n, .slice (some ⟨w.heap.size + 2, 0, none⟩) (putL A t.kids t.k u 0).length t.kids.length])
            rw [HN0.out, hLl]
          · show AtK _ _ (putL A t.kids t.k u 0) (.slice (some ⟨w.heap.size + 2, 0, none⟩) (putL A t.kids t.k u 0).length t.kids.length)
            have hKF := HK.out.same (w' := ((wr.setCell ⟨w.heap.size + 1, 0, none⟩ (.int .i64 t.k)).setCell ⟨w.heap.size + 1, 1, none⟩ (.int .i64 0)).setCell ⟨w.heap.size + 1, 2, none⟩ (.slice (some ⟨w.heap.size + 2, 0, none⟩) t.kids.length t.kids.length)) (other_store3 (by omega) _ _ _)
            rw [← hLl] at hKF
            have hR := AtK.row (S := fun b => w.heap.size ≤ b ∧ b < (((wr.setCell ⟨w.heap.size + 1, 0, none⟩ (.int .i64 t.k)).setCell ⟨w.heap.size + 1, 1, none⟩ (.int .i64 0)).setCell ⟨w.heap.size + 1, 2, none⟩ (.slice (some ⟨w.heap.size + 2, 0, none⟩) t.kids.length t.kids.length)).heap.size) (putL A t.kids t.k u 0) (w.heap.size + 2) vs ⟨by omega, by simp; omega⟩ (by rw [hLl] at hKF ⊢; exact hKF) (by unfold maxLen; omega) fun i hi => (HAT.out i (by omega) _ (List.getElem?_eq_getElem hi)).same fun b' hb' => ⟨⟨by omega, by simp; omega⟩, other_store3 (by omega) _ _ _⟩
            rw [hLl] at hR ⊢
            exact hR
end Go.Proofs.Ytbfefpejcefnhaa
/- Package subst's Inst and SizeOf: what they return for any terms and any integer. Conditions: the sizes. -/
namespace Go.Proofs.Ytbfefpejcefnhaa
open Go.RowKit Go Go.Joins
set_option linter.unusedVariables false

theorem instT_no {t : Tm} {A : List Tm} {u e : Int} (h : instE t A u = e) (he : e ≠ 0) : instT t A u = noT := by rw [instT, if_neg (by rw [h]; exact he)]
theorem put_told {t : Tm} {A : List Tm} {u : Int} (hc : checkE t = 0) (hA : argsE A = 0) (hu : inR u) :
    size t + sumI (gainI A (timesT A.length t u)) A.length = size (putT A t u) ∧ size (putT A t u) ≤ 36000000 := by
  have hck := check_parts hc
  refine ⟨(put_sizeA A t u hu.1 hck.2.2).symm, Nat.le_trans (put_size_le A (M := 6000) (by omega) (fun a ha => (check_parts (argsE_ok.1 hA a ha)).1) t u) ?_⟩
  have := Nat.mul_le_mul_right 6000 hck.1
  omega
theorem TellK.of_no {t : Tm} {A : List Tm} {u e : Int} {w w' : World} (h : instE t A u = e) (he : e ≠ 0) (hb : Below w.heap.size w w') : TellK w (instT t A u) (.int .i64 (instE t A u)) (.returned (.tuple #[.agg #[.int .i64 0, .int .i64 0, .slice none 0 0], .int .i64 e])) w' := by
  rw [instT_no h he, h]; exact TellK.no _ hb
set_option maxRecDepth 100000 in
set_option maxHeartbeats 3000000 in
theorem sinst_any (t : Tm) (hF : Fits t) (hs : size t ≤ 1048576) (A : List Tm) (hFA : ∀ a ∈ A, Fits a) (hsA : sizeL A ≤ 1048576) (hp : A.length ≤ 65535) (u : Int) (w : World) (v va : Value) (hA : At w t.kids v) (hAA : At w A va) :
    Calls Try.prog 15 #[.agg #[.int .i64 t.k, .int .i64 t.n, v], va, .int .i64 u] w (TellK w (instT t A u) (.int .i64 (instE t A u))) := by
  obtain ⟨a, cap, rfl⟩ := hA.shape
  obtain ⟨pa, cp, rfl⟩ := hAA.shape
  have hHB := start2 w t a cap hA
  have h0 := hHB _ (Below.refl _ _)
  have HC := Lib.hid (scheck_any t hF hs A hFA hsA u _ (.slice a t.kids.length cap) (.slice pa A.length cp) h0.2.2.1 (hAA.bel h0.2.2.2.1 (Nat.le_refl _)))
  have HB := Lib.hid hHB
  have HAA := Lib.hid hAA
  clear hA hAA hHB h0
  by_cases hc : ckE t A u = 0
  rotate_left
  · have e1 : (ckE t A u != 0) = true := by simpa using hc
    have HE := Lib.hid (ck_inst hc).1
    have HNE := Lib.hid hc
    generalize ckE t A u = ce at *
    clear hc
    go_enter Try.func15, Try.ntmps15
    go_wp2_with fail
    refine HC.out.mono ?_
    rintro e w1 ⟨rfl, hb1⟩
    obtain ⟨⟨x0, x1, x2⟩, x5, x6, x7, x8⟩ := HB.out w1 hb1
    obtain ⟨⟨c0, c1, c2⟩, g0, g1, g2⟩ := boxc x5
    have X7 := Lib.hid x7
    clear hb1 x6 x5 x7
    go_wp2_with fail
    exact bodyPost_ret (v := .tuple #[.agg #[.int .i64 0, .int .i64 0, .slice none 0 0], .int .i64 ce]) (by simp [results, Try.f15, go_sem, c0, c1, c2]) rfl (TellK.of_no HE.out HNE.out (X7.out.trans (below_store3 (by omega) _ _ _)))
  obtain ⟨hct, hca, hu⟩ := ck_ok hc
  rw [hc] at HC
  have hck := check_parts hct
  have hcA : ∀ a ∈ A, checkE a = 0 := argsE_ok.1 hca
  obtain ⟨hsz, hsm⟩ := put_told hct hca hu
  have hE := inst_in hct hca hu
  have hu1 := hu.1
  have hu2 := hu.2
  have HU : Hid (∀ W, At W t.kids (.slice a t.kids.length cap) → Calls Try.prog 35 #[.agg #[.int .i64 t.k, .int .i64 t.n, .slice a t.kids.length cap], .slice pa A.length cp, .int .i64 u] W (UsePost A.length (timesT A.length t u) (farT A.length t u) W)) := fun W hA => uses_any t hck.2.2 hs A.length (by omega) pa cp u (by omega) (by omega) W _ hA
  have HS : Hid (∀ W R, At W A (.slice pa A.length cp) → URow A.length R (timesT A.length t u) (farT A.length t u) W → Calls Try.prog 36 #[.slice pa A.length cp, .slice (some ⟨R, 0, none⟩) A.length A.length] W fun e w' => e = .returned (.bool (!putO A t u)) ∧ Below W.heap.size W w') := fun W R hA hU => shiftable_any A hFA hsA hcA t hck.2.2 u hu1 _ R W _ hA hU
  have HZ : Hid (∀ W R, At W t.kids (.slice a t.kids.length cap) → At W A (.slice pa A.length cp) → URow A.length R (timesT A.length t u) (farT A.length t u) W → Calls Try.prog 37 #[.agg #[.int .i64 t.k, .int .i64 t.n, .slice a t.kids.length cap], .slice pa A.length cp, .slice (some ⟨R, 0, none⟩) A.length A.length] W fun e w' => e = .returned (.int .i64 (size (putT A t u))) ∧ Below W.heap.size W w') := fun W R hA hAA hU => by
    have := ssize_any t hF hs A hFA hsA _ _ (by rw [hsz]; omega) R W _ _ hA hAA hU
    rw [hsz] at this
    exact this
  have HBD : Hid (putO A t u = false → ∀ W, At W t.kids (.slice a t.kids.length cap) → At W A (.slice pa A.length cp) → Calls Try.prog 38 #[.agg #[.int .i64 t.k, .int .i64 t.n, .slice a t.kids.length cap], .slice pa A.length cp, .int .i64 u] W (TellB W (putT A t u))) := fun ho W hA hAA => build_any A hFA hsA hcA t hck.2.2 u W _ _ hu1 (by omega) ho hA hAA
  have HDP : Hid (putO A t u = false → size (putT A t u) ≤ 6000 → ∀ W v, At W (putT A t u).kids v → Calls Try.prog 39 #[.agg #[.int .i64 (putT A t u).k, .int .i64 (putT A t u).n, v]] W fun e w' => e = .returned (.int .i64 (depth (putT A t u))) ∧ Below W.heap.size W w') := fun ho h6 W v hA => c_depth _ (fits_formed _ (put_formed A (fun a ha => check_formed (hcA a ha)) t u hu1 hck.2.2 ho)) (by omega) W v hA
  have HOK : Hid (instE t A u = 0 → instT t A u = putT A t u) := instT_ok
  have HE := Lib.hid hE
  clear hc hct hca hu hck hcA hsz hsm hE hu1 hu2 hFA
  go_enter Try.func15, Try.ntmps15
  go_wp2_with fail
  refine HC.out.mono ?_
  rintro e w1 ⟨rfl, hb1⟩
  have HW := Lib.hid (fun W' (h : Below w1.heap.size w1 W') => HB.out W' (hb1.trans (h.mono hb1.size)))
  clear hb1 HB HC
  obtain ⟨⟨x0, x1, x2⟩, x5, x6, x7, x8⟩ := HW.out _ (Below.refl _ _)
  have HU1 := Lib.hid (HU.out w1 x6)
  clear x5 x6 x7 HU
  go_wp2_with fail
  refine HU1.out.mono ?_
  rintro e w2 ⟨R, hR, rfl, hU2, hb2⟩
  have HB2 := Lib.hid hb2
  have HU2 := Lib.hid hU2
  clear hb2 hU2 HU1 x0 x1 x2 x8
  obtain ⟨⟨x0, x1, x2⟩, x5, x6, x7, x8⟩ := HW.out _ HB2.out
  have HS2 := Lib.hid (HS.out w2 R (HAA.out.bel x7 (Nat.le_refl _)) HU2.out)
  clear x5 x6 x7 HS
  go_wp2_with fail
  refine HS2.out.mono ?_
  rintro e w3 ⟨rfl, hb3⟩
  have HU3 := Lib.hid (HU2.out.same (hb3.block R HU2.out.lt))
  have HB3 := Lib.hid (HB2.out.trans (hb3.mono HB2.out.size))
  clear hb3 HS2 HU2 x0 x1 x2 x8 HB2
  obtain ⟨⟨x0, x1, x2⟩, x5, x6, x7, x8⟩ := HW.out _ HB3.out
  cases hov : putO A t u with
  | true =>
    have hE := HE.out
    rw [if_pos hov] at hE
    have HE2 := Lib.hid hE
    obtain ⟨⟨c0, c1, c2⟩, g0, g1, g2⟩ := boxc x5
    have X7 := Lib.hid x7
    clear hE hov x5 x6 x7
    go_wp2_with fail
    exact bodyPost_ret (v := .tuple #[.agg #[.int .i64 0, .int .i64 0, .slice none 0 0], .int .i64 6]) (by simp [results, Try.f15, go_sem, c0, c1, c2]) rfl (TellK.of_no HE2.out (by decide) (X7.out.trans (below_store3 (by omega) _ _ _)))
  | false =>
    have hE := HE.out
    rw [if_neg (by rw [hov]; decide)] at hE
    have HE2 := Lib.hid hE
    have HZ3 := Lib.hid (HZ.out w3 R x6 (HAA.out.bel x7 (Nat.le_refl _)) HU3.out)
    have HBD3 := Lib.hid (HBD.out hov)
    have HDP3 := Lib.hid (HDP.out hov)
    clear hE hov x5 x6 x7 HZ HBD HDP HE
    go_wp2_with fail
    refine HZ3.out.mono ?_
    rintro e w4 ⟨rfl, hb4⟩
    have HB4 := Lib.hid (HB3.out.trans (hb4.mono HB3.out.size))
    clear hb4 HZ3 HU3 x0 x1 x2 x8 HB3
    obtain ⟨⟨x0, x1, x2⟩, x5, x6, x7, x8⟩ := HW.out _ HB4.out
    by_cases hbig : 6000 < size (putT A t u)
    · have hb2 : (6000 : Int) < (size (putT A t u) : Int) := by omega
      have hE := HE2.out
      rw [if_pos hbig] at hE
      have HE3 := Lib.hid hE
      obtain ⟨⟨c0, c1, c2⟩, g0, g1, g2⟩ := boxc x5
      have X7 := Lib.hid x7
      clear hE x5 x6 x7
      go_wp2_with fail
      exact bodyPost_ret (v := .tuple #[.agg #[.int .i64 0, .int .i64 0, .slice none 0 0], .int .i64 4]) (by simp [results, Try.f15, go_sem, c0, c1, c2]) rfl (TellK.of_no HE3.out (by decide) (X7.out.trans (below_store3 (by omega) _ _ _)))
    · have hb2 : (size (putT A t u) : Int) ≤ (6000 : Int) := by omega
      have hE := HE2.out
      rw [if_neg hbig] at hE
      have HBD4 := Lib.hid (HBD3.out w4 x6 (HAA.out.bel x7 (Nat.le_refl _)))
      have HDP4 := Lib.hid (HDP3.out (by omega))
      have hbig2 : ¬ (6000 < size (putT A t u)) := hbig
      have HE3 := Lib.hid hE
      clear hE HBD3 HDP3 HE2 hbig x6
      generalize putT A t u = r at *
      have X5 := Lib.hid x5
      have X7 := Lib.hid x7
      clear x5 x7
      go_wp2_with fail
      refine HBD4.out.mono ?_
      rintro e w5 ⟨a5, c5, rfl, hK5, hb5⟩
      have hz5 := hb5.size
      have hx5 := (Below.heap_alloc w5 (.cells #[.int .i64 r.k, .int .i64 r.n, .slice a5 r.kids.length c5] 24) (w.heap.size + 1) (by omega)).trans ((hb5.block (w.heap.size + 1) (by omega)).trans X5.out)
      have HX5 := Lib.hid hx5
      have HB5 := Lib.hid ((X7.out.trans (hb5.mono X7.out.size)).alloc (Nat.le_trans X7.out.size hz5) (.cells #[.int .i64 r.k, .int .i64 r.n, .slice a5 r.kids.length c5] 24))
      have HK5 := Lib.hid (hK5.same (T := fun b => w.heap.size + 2 ≤ b ∧ b < w5.heap.size) (w' := w5.alloc (.cells #[.int .i64 r.k, .int .i64 r.n, .slice a5 r.kids.length c5] 24)) fun b hb => ⟨⟨by omega, hb.2⟩, Below.heap_alloc w5 _ b hb.2⟩)
      obtain ⟨y0, y1, y2⟩ := (boxc (World.alloc_heap_new w5 (.cells #[.int .i64 r.k, .int .i64 r.n, .slice a5 r.kids.length c5] 24))).1
      have HDP5 := Lib.hid (HDP4.out (w5.alloc (.cells #[.int .i64 r.k, .int .i64 r.n, .slice a5 r.kids.length c5] 24)) _ HK5.out.ats.at)
      have hz6 : (w5.alloc (.cells #[.int .i64 r.k, .int .i64 r.n, .slice a5 r.kids.length c5] 24)).heap.size = w5.heap.size + 1 := by simp
      clear hK5 hb5 hx5 HBD4 HDP4 x0 x1 x2
      go_wp2_with fail
      refine HDP5.out.mono ?_
      rintro e w6 ⟨rfl, hb6⟩
      have hz7 := hb6.size
      obtain ⟨⟨c0, c1, c2⟩, g0, g1, g2⟩ := boxc ((hb6.block (w.heap.size + 1) (by omega)).trans HX5.out)
      replace y0 := gcell hb6 y0
      replace y1 := gcell hb6 y1
      replace y2 := gcell hb6 y2
      have HB6 := Lib.hid (HB5.out.trans (hb6.mono HB5.out.size))
      have HK6 := Lib.hid (HK5.out.same (T := fun b => w.heap.size + 2 ≤ b ∧ b < w6.heap.size) (w' := w6) fun b hb => ⟨⟨hb.1, by omega⟩, hb6.block b (by omega)⟩)
      clear hb6 HDP5
      by_cases hd : 200 < depth r
      · have hd2 : (200 : Int) < (depth r : Int) := by omega
        have hE := HE3.out
        rw [if_pos hd] at hE
        have HE4 := Lib.hid hE
        clear hE hd
        go_wp2_with fail
        exact bodyPost_ret (v := .tuple #[.agg #[.int .i64 0, .int .i64 0, .slice none 0 0], .int .i64 5]) (by simp [results, Try.f15, go_sem, c0, c1, c2]) rfl (TellK.of_no HE4.out (by decide) (HB6.out.trans (below_store3 (by omega) _ _ _)))
      · have hd2 : (depth r : Int) ≤ (200 : Int) := by omega
        have hE := HE3.out
        rw [if_neg hd] at hE
        have HE4 := Lib.hid hE
        have HT := Lib.hid (HOK.out hE)
        clear hE hd
        go_wp2_with fail
        exact bodyPost_ret (v := .tuple #[.agg #[.int .i64 r.k, .int .i64 r.n, .slice a5 r.kids.length c5], .int .i64 0]) (by simp [results, Try.f15, go_sem, c0, c1, c2]) rfl (by rw [HT.out, HE4.out]; exact ⟨a5, c5, rfl, HK6.out.same fun b' hb' => ⟨⟨by omega, by simp; omega⟩, other_store3 (by omega) _ _ _⟩, HB6.out.trans (below_store3 (by omega) _ _ _)⟩)
set_option maxRecDepth 100000 in
set_option maxHeartbeats 3000000 in
theorem ssizeof_any (t : Tm) (hF : Fits t) (hs : size t ≤ 1048576) (A : List Tm) (hFA : ∀ a ∈ A, Fits a) (hsA : sizeL A ≤ 1048576) (hp : A.length ≤ 65535) (u : Int) (w : World) (v va : Value) (hA : At w t.kids v) (hAA : At w A va) :
    Calls Try.prog 18 #[.agg #[.int .i64 t.k, .int .i64 t.n, v], va, .int .i64 u] w fun e w' => e = .returned (.int .i64 (sizeOfN t A u)) ∧ Below w.heap.size w w' := by
  obtain ⟨a, cap, rfl⟩ := hA.shape
  obtain ⟨pa, cp, rfl⟩ := hAA.shape
  have hO := one_start w t (.slice a t.kids.length cap) hA
  have HC := Lib.hid (scheck_any t hF hs A hFA hsA u _ (.slice a t.kids.length cap) (.slice pa A.length cp) hO.2.1 (hAA.alloc _))
  have HO := Lib.hid hO
  have HAA := Lib.hid hAA
  clear hA hAA hO
  by_cases hc : ckE t A u = 0
  rotate_left
  · have e1 : (ckE t A u != 0) = true := by simpa using hc
    rw [(ck_inst hc).2]
    generalize ckE t A u = ce at *
    clear hc
    go_enter Try.func18, Try.ntmps18
    go_wp2_with fail
    refine HC.out.mono ?_
    rintro e w1 ⟨rfl, hb1⟩
    have H1 := Lib.hid (HO.out.bel hb1).2.2
    clear hb1
    go_wp2_with fail
    exact bodyPost_ret (v := .int .i64 0) (by simp [results, Try.f18, go_sem]) rfl ⟨rfl, H1.out⟩
  obtain ⟨hct, hca, hu⟩ := ck_ok hc
  rw [hc] at HC
  have hck := check_parts hct
  have hcA : ∀ a ∈ A, checkE a = 0 := argsE_ok.1 hca
  obtain ⟨hsz, hsm⟩ := put_told hct hca hu
  have hu1 := hu.1
  have hu2 := hu.2
  have hSN : sizeOfN t A u = size (putT A t u) := by rw [sizeOfN, if_pos ⟨hct, hca, hu⟩]; omega
  rw [hSN]
  have HU : Hid (∀ W, At W t.kids (.slice a t.kids.length cap) → Calls Try.prog 35 #[.agg #[.int .i64 t.k, .int .i64 t.n, .slice a t.kids.length cap], .slice pa A.length cp, .int .i64 u] W (UsePost A.length (timesT A.length t u) (farT A.length t u) W)) := fun W hA => uses_any t hck.2.2 hs A.length (by omega) pa cp u (by omega) (by omega) W _ hA
  have HZ : Hid (∀ W R, At W t.kids (.slice a t.kids.length cap) → At W A (.slice pa A.length cp) → URow A.length R (timesT A.length t u) (farT A.length t u) W → Calls Try.prog 37 #[.agg #[.int .i64 t.k, .int .i64 t.n, .slice a t.kids.length cap], .slice pa A.length cp, .slice (some ⟨R, 0, none⟩) A.length A.length] W fun e w' => e = .returned (.int .i64 (size (putT A t u))) ∧ Below W.heap.size W w') := fun W R hA hAA hU => by
    have := ssize_any t hF hs A hFA hsA _ _ (by rw [hsz]; omega) R W _ _ hA hAA hU
    rw [hsz] at this
    exact this
  generalize size (putT A t u) = sz at *
  clear hc hct hca hu hck hcA hsz hsm hu1 hu2 hFA hSN
  go_enter Try.func18, Try.ntmps18
  go_wp2_with fail
  refine HC.out.mono ?_
  rintro e w1 ⟨rfl, hb1⟩
  have HO1 := Lib.hid (HO.out.bel hb1)
  clear hb1 HC HO
  obtain ⟨⟨x0, x1, x2⟩, _⟩ := HO1.out
  go_wp2_with fail
  have HU1 := Lib.hid (HU.out w1.drew HO1.out.2.1.drew)
  clear HU
  have HX0 : ∀ {o : Nat} {x : Value} {w2 : World}, Below w1.drew.heap.size w1.drew w2 → w1.cell? ⟨w.heap.size, o, none⟩ = some x → w2.cell? ⟨w.heap.size, o, none⟩ = some x := fun hb hx => gcell (w := w1.drew) hb hx
  go_region_held3 (fun w' => w'.cell? ⟨w.heap.size, 0, none⟩ = some (.int .i64 t.k) ∧ w'.cell? ⟨w.heap.size, 1, none⟩ = some (.int .i64 t.n) ∧ w'.cell? ⟨w.heap.size, 2, none⟩ = some (.slice a t.kids.length cap)) (go_keep)
    (first | (go_at_call 35; refine HU1.out.mono ?_; rintro e w2 ⟨R, hR, rfl, hU2, hb2⟩; have z0 := HX0 hb2 x0; have z1 := HX0 hb2 x1; have z2 := HX0 hb2 x2; have hO2 := HO1.out.bel (W' := w2) ((Below.refl w1.heap.size w1).drew.trans hb2)) | (go_at_call 37; refine (HZ.out w2 R hO2.2.1 (HAA.out.bel hO2.2.2 (Nat.le_refl _)) hU2).mono ?_; rintro e w3 ⟨rfl, hb3⟩; replace z0 := gcell hb3 z0; replace z1 := gcell hb3 z1; replace z2 := gcell hb3 z2))
  all_goals
    have HB3 := Lib.hid (hO2.2.2.trans (hb3.mono hO2.2.2.size))
    clear hb3 hb2 hU2 hO2 z0 z1 z2 HX0
    go_wp2_with fail
    exact bodyPost_ret (v := .int .i64 sz) (by simp [results, Try.f18, go_sem]) rfl ⟨rfl, HB3.out⟩
end Go.Proofs.Ytbfefpejcefnhaa
