/- The page's forms: whether a term is well formed, checked, in scope, how often a variable is in it. -/
import Derived.Test.YtggefpkfikimiaaG05
import Derived.Test.YtggefpkfikimiaaG03
import Derived.Test.YtggefpkfikimiaaG04
import Derived.Test.YtggefpkfikimiaaG06
import Derived.Deep.RegionWith
namespace Go.Proofs.Ytggefpkfikimiaa
open Go.RowKit

theorem carry3 {n B : Nat} {w W W' : World} {t : Tm} {v : Value} (h : Box3 W B t v ∧ At W t.kids v ∧ Below n w W) (hb : Below W.heap.size W W') (hn : n ≤ w.heap.size) : Box3 W' B t v ∧ At W' t.kids v ∧ Below n w W' :=
  ⟨h.1.bel hb, h.2.1.bel hb (Nat.le_refl _), h.2.2.trans (hb.mono (Nat.le_trans hn h.2.2.size))⟩
theorem start3 (w : World) (t : Tm) (v : Value) (ty : TypeId) (hA : At w t.kids v) : Box3 (w.alloc (.cells #[.int .i64 t.k, .int .i64 t.n, v] ty)) w.heap.size t v ∧ At (w.alloc (.cells #[.int .i64 t.k, .int .i64 t.n, v] ty)) t.kids v ∧ Below w.heap.size w (w.alloc (.cells #[.int .i64 t.k, .int .i64 t.n, v] ty)) :=
  ⟨box3_new w t v ty, hA.alloc _, below_al w _⟩

set_option maxRecDepth 100000 in
set_option maxHeartbeats 1600000 in
theorem rformed_any : ∀ (t : Tm), size t < 2147483648 → ∀ (w : World) (sv : Value), At w t.kids sv →
    Calls Try.prog 86 #[tv t sv] w fun e w' => e = .returned (.bool (formedB t)) ∧ Below w.heap.size w w' := by
  refine tm_ind fun t ih => ?_
  intro hs w sv hA
  obtain ⟨a, cap, rfl⟩ := hA.shape
  have hlen : t.kids.length < 2147483648 := by have := length_le_sizeL t.kids; have := size_eq t; omega
  have hb0 := below_al w (.cells #[.int .i64 t.k, .int .i64 t.n, .slice a t.kids.length cap] 25)
  have hK := Lib.hid (fun w => rkids_any t.k w)
  unfold tv
  by_cases hk : (t.kids.length : Int) = kidsI t.k
  rotate_left
  · have e1 : ((t.kids.length : Int) != kidsI t.k) = true := by simpa using hk
    have HE := Lib.hid (show formedB t = false by rw [formedB_eq, decide_eq_false hk]; rfl)
    clear ih hk
    go_enter Try.func86, Try.ntmps86
    go_wp2_with fail
    go_quiet ((go_at_call 95; exact q_same (hK.out _)))
    go_wp2_with fail
    go_ret
    exact ⟨ret_bool HE.out.symm, belowN hb0 _⟩
  have e1 : ((t.kids.length : Int) != kidsI t.k) = false := by simpa using hk
  by_cases hbad : (if t.kids.length = 0 then decide (0 ≤ t.n) && decide (t.n ≤ 65535) else decide (t.n = 0)) = false
  · have HE := Lib.hid (show formedB t = false by rw [formedB_eq, hbad]; simp)
    by_cases h0 : t.kids.length = 0
    · rw [if_pos h0] at hbad
      have hI := Lib.hid (fun w => in_any t.n 0 65535 w)
      rw [hbad] at hI
      have e2 : ((t.kids.length : Int) == 0) = true := by simp [h0]
      clear ih hk hbad h0
      go_enter Try.func86, Try.ntmps86
      go_wp2_with fail
      go_quiet ((go_at_call 95; exact q_same (hK.out _)))
      go_wp2_with (go_at_call 63; refine (hI.out _).mono ?_; rintro e w' ⟨rfl, rfl⟩)
      go_ret
      exact ⟨ret_bool HE.out.symm, belowN hb0 _⟩
    · rw [if_neg h0] at hbad
      have e2 : ((t.kids.length : Int) == 0) = false := by simpa using h0
      have e3 : 0 < t.kids.length := by omega
      have e4 : (t.n != 0) = true := by simpa using hbad
      clear ih hk hbad h0
      go_enter Try.func86, Try.ntmps86
      go_wp2_with fail
      go_quiet ((go_at_call 95; exact q_same (hK.out _)))
      go_wp2_with fail
      go_ret
      exact ⟨ret_bool HE.out.symm, belowN hb0 _⟩
  have hok : (if t.kids.length = 0 then decide (0 ≤ t.n) && decide (t.n ≤ 65535) else decide (t.n = 0)) = true := eq_true_of_ne_false hbad
  have E := Lib.hid (show formedB t = formedL t.kids by rw [formedB_eq, decide_eq_true hk, hok]; rfl)
  have main : ∀ (W : World), Box3 W w.heap.size t (.slice a t.kids.length cap) ∧ At W t.kids (.slice a t.kids.length cap) ∧ Below w.heap.size w W → True := fun _ _ => trivial
  by_cases h0 : t.kids.length = 0
  · rw [if_pos h0] at hok
    have hI := Lib.hid (fun w => in_any t.n 0 65535 w)
    rw [hok] at hI
    have e2 : ((t.kids.length : Int) == 0) = true := by simp [h0]
    have e5 : ¬ 0 < t.kids.length := by omega
    have hnil : t.kids = [] := List.eq_nil_of_length_eq_zero h0
    have E2 := Lib.hid (show formedL t.kids = true by rw [hnil]; rfl)
    have hX := Lib.hid (start3 w t (.slice a t.kids.length cap) 25 hA)
    clear ih hk hok h0 hnil main hbad
    go_enter Try.func86, Try.ntmps86
    go_wp2_with fail
    go_quiet ((go_at_call 95; exact q_same (hK.out _)))
    go_wp2_with (go_at_call 63; refine (hI.out _).mono ?_; rintro e w' ⟨rfl, rfl⟩)
    go_loopw [3] (fun i wr => i = .int .i64 0 ∧ wr = (w.alloc (.cells #[.int .i64 t.k, .int .i64 t.n, .slice a t.kids.length cap] 25)).drewN nq) (fun _ _ => 0)
    case atStart => exact ⟨rfl, rfl⟩
    case round =>
      obtain ⟨rfl, rfl⟩ := hrel
      go_wp2_with fail
      go_ret
      exact ⟨ret_bool (by rw [E.out, E2.out]), belowN hb0 _⟩
  · rw [if_neg h0] at hok
    have e2 : ((t.kids.length : Int) == 0) = false := by simpa using h0
    have e3 : 0 < t.kids.length := by omega
    have e4 : (t.n != 0) = false := by simpa using hok
    have hX := Lib.hid (start3 w t (.slice a t.kids.length cap) 25 hA)
    clear hk hok main hbad
    go_enter Try.func86, Try.ntmps86
    go_wp2_with fail
    go_quiet ((go_at_call 95; exact q_same (hK.out _)))
    go_wp2_with fail
    have hX2 := carry3 hX.out (belowN (Below.refl _ (w.alloc (.cells #[.int .i64 t.k, .int .i64 t.n, .slice a t.kids.length cap] 25))) nq) (Nat.le_refl _)
    clear hX hb0 e1 e2 e3 e4 hK
    revert hX2
    generalize (w.alloc (.cells #[.int .i64 t.k, .int .i64 t.n, .slice a t.kids.length cap] 25)).drewN nq = W
    rintro ⟨hB, hA1, hb0⟩
    go_loopw [3] (fun i wr => ∃ j : Nat, j ≤ t.kids.length ∧ i = .int .i64 j ∧ formedL (t.kids.take j) = true ∧ Below W.heap.size W wr)
      (fun i _ => t.kids.length - (RowKit.intOf i).toNat)
    case atStart => exact ⟨0, Nat.zero_le _, rfl, by simp [formedL], Below.refl _ _⟩
    case round =>
      obtain ⟨j, hj, rfl, hsc, hbw⟩ := hrel
      have HSC := Lib.hid hsc
      clear hsc
      obtain ⟨hBlt, c0, c1, c2⟩ := hB.bel hbw
      by_cases hlt : j < t.kids.length
      · obtain ⟨b, off, cap', vs, he, h1, h2, kk, kn, kv, ks⟩ := (hA1.bel hbw (Nat.le_refl _)).pos (by omega)
        have gk := kk j hlt
        have gn := kn j hlt
        have gv := kv j hlt
        have gs := ks j hlt
        clear kk kn kv ks
        have hsz := size_get hlt
        have hse := size_eq t
        have hm := List.getElem_mem hlt
        have HI := ih t.kids[j] hm (by omega) wr (vs j) gs
        unfold tv at HI
        have HE := Lib.hid (formedL_take_succ hlt)
        cases hv : formedB t.kids[j] with
        | true =>
          rw [hv] at HI HE
          have HI := Lib.hid HI
          clear ih hs hsz hse hv hm
          cases he
          go_wp2_with (go_at_call 86; refine HI.out.mono ?_; rintro e w1 ⟨rfl, hb1⟩)
          go_roundw
          case rel => exact ⟨j + 1, by omega, by go_num, by rw [HE.out, HSC.out]; rfl, hbw.trans (hb1.mono hbw.size)⟩
          case measure => simp [RowKit.intOf]; omega
        | false =>
          have HN := Lib.hid (formedL_no hlt hv)
          rw [hv] at HI HE
          have HI := Lib.hid HI
          clear ih hs hsz hse hv hm
          cases he
          go_wp2_with (go_at_call 86; refine HI.out.mono ?_; rintro e w1 ⟨rfl, hb1⟩)
          go_ret
          exact ⟨ret_bool (by rw [E.out, HN.out]), (hb0.trans (hbw.mono hb0.size)).trans (hb1.mono (Nat.le_trans hb0.size hbw.size))⟩
      · obtain rfl : j = t.kids.length := by omega
        have hlt : decide ((t.kids.length : Int) < (t.kids.length : Int)) = false := by simp
        clear ih hs
        go_wp2_with fail
        go_ret
        exact ⟨ret_bool (by rw [E.out]; have := HSC.out; rw [List.take_length] at this; exact this.symm), hb0.trans (hbw.mono hb0.size)⟩
end Go.Proofs.Ytggefpkfikimiaa
/- A twin of a term is that term, in new memory. -/
namespace Go.Proofs.Ytggefpkfikimiaa
open Go.RowKit Go.Joins

theorem twin_end {w w1 W2 : World} {t : Tm} {a1 : Option Addr} {cap1 : Nat} (hz : w.heap.size + 2 ≤ W2.heap.size) (hBw : Below w.heap.size w w1)
    (hs1 : AtS (fun b => W2.heap.size ≤ b ∧ b < w1.heap.size) w1 t.kids (.slice a1 t.kids.length cap1)) (hr1 : ∃ vs, w1.ownsRow W2.heap.size 25 3 (.slice a1 t.kids.length cap1) t.kids.length (cells3 t.kids vs) ∧ ∀ i (_ : i < t.kids.length), AtS (fun b => W2.heap.size ≤ b ∧ b < w1.heap.size ∧ some b ≠ (Value.slice a1 t.kids.length cap1).ownBlock) w1 t.kids[i].kids (vs i)) (x y z : Value) :
    TwinPost w t (.returned (.agg #[.int .i64 t.k, .int .i64 t.n, .slice a1 t.kids.length cap1])) (((w1.setCell ⟨w.heap.size + 1, 0, none⟩ x).setCell ⟨w.heap.size + 1, 1, none⟩ y).setCell ⟨w.heap.size + 1, 2, none⟩ z) := by
  obtain ⟨vs, hr, hk⟩ := hr1
  have hne : (Value.slice a1 t.kids.length cap1).ownBlock ≠ some (w.heap.size + 1) := fun e => by have := (hr.lt _ e).1; omega
  have h1 := ownsRow_setCell_other (ownsRow_setCell_other (ownsRow_setCell_other hr (a := ⟨w.heap.size + 1, 0, none⟩) hne x) (a := ⟨w.heap.size + 1, 1, none⟩) hne y) (a := ⟨w.heap.size + 1, 2, none⟩) hne z
  refine ⟨a1, cap1, rfl, hs1.same fun b hb => ⟨⟨by omega, by simpa [World.setCell] using hb.2⟩, ?_⟩, ⟨vs, ownsRow_le h1 (by omega), fun i hi => (hk i hi).same fun b hb => ⟨⟨by omega, by simpa [World.setCell] using hb.2.1, hb.2.2⟩, by rw [Below.heap_setCell _ _ _ _ (by dsimp only; omega), Below.heap_setCell _ _ _ _ (by dsimp only; omega), Below.heap_setCell _ _ _ _ (by dsimp only; omega)]⟩⟩, ((hBw.setCell (by dsimp only; omega) _).setCell (by dsimp only; omega) _).setCell (by dsimp only; omega) _⟩
  rw [Below.heap_setCell _ _ _ _ (by dsimp only; omega), Below.heap_setCell _ _ _ _ (by dsimp only; omega), Below.heap_setCell _ _ _ _ (by dsimp only; omega)]

set_option maxRecDepth 100000 in
set_option maxHeartbeats 3000000 in
theorem twin_any : ∀ (t : Tm), size t < 2147483648 → TwinOk t := by
  refine tm_ind fun t ih => ?_
  intro hs w v hA
  have hse := size_eq t
  have hle := length_le_sizeL t.kids
  obtain ⟨a, cap, rfl⟩ := hA.shape
  have HI := Lib.hid (fun w hA => twins_any t.kids (by omega) (fun u hu => ih u hu (by have := size_le_of_mem hu; omega)) w (.slice a t.kids.length cap) hA)
  have hX := Lib.hid (start3 w t (.slice a t.kids.length cap) 25 hA)
  have hA2 := ((hA.alloc (.cells #[.int .i64 t.k, .int .i64 t.n, .slice a t.kids.length cap] 25)).alloc (.cells #[.int .i64 0, .int .i64 0, .slice none 0 0] 25)).drew
  have HB : Hid (∀ w1, Below (((w.alloc (.cells #[.int .i64 t.k, .int .i64 t.n, .slice a t.kids.length cap] 25)).alloc (.cells #[.int .i64 0, .int .i64 0, .slice none 0 0] 25)).drew).heap.size (((w.alloc (.cells #[.int .i64 t.k, .int .i64 t.n, .slice a t.kids.length cap] 25)).alloc (.cells #[.int .i64 0, .int .i64 0, .slice none 0 0] 25)).drew) w1 →
      (w1.cell? ⟨w.heap.size, 0, none⟩ = some (.int .i64 t.k) ∧ w1.cell? ⟨w.heap.size, 1, none⟩ = some (.int .i64 t.n)) ∧ (w1.cell? ⟨w.heap.size + 1, 0, none⟩ = some (.int .i64 0) ∧ w1.cell? ⟨w.heap.size + 1, 1, none⟩ = some (.int .i64 0) ∧ w1.cell? ⟨w.heap.size + 1, 2, none⟩ = some (.slice none 0 0)) ∧
      (w1.frozen? ⟨w.heap.size + 1, 0, none⟩ = false ∧ w1.frozen? ⟨w.heap.size + 1, 1, none⟩ = false ∧ w1.frozen? ⟨w.heap.size + 1, 2, none⟩ = false) ∧ Below w.heap.size w w1 ∧ w.heap.size + 2 ≤ w1.heap.size) := by
    intro w1 hb
    have h0 := ((box3_new w t (.slice a t.kids.length cap) 25).bel (below_al _ (.cells #[.int .i64 0, .int .i64 0, .slice none 0 0] 25))).bel ((Below.refl _ _).drew)
    have h1 := h0.bel hb
    have hn := World.alloc_heap_new (w.alloc (.cells #[.int .i64 t.k, .int .i64 t.n, .slice a t.kids.length cap] 25)) (.cells #[.int .i64 0, .int .i64 0, .slice none 0 0] 25)
    rw [World.size_alloc] at hn
    have hn1 : w1.heap[w.heap.size + 1]? = _ := (hb.block (w.heap.size + 1) (by show _ < ((w.alloc _).alloc _).heap.size; simp)).trans hn
    refine ⟨⟨h1.2.1, h1.2.2.1⟩, ?_, ?_, ?_, ?_⟩
    · refine ⟨?_, ?_, ?_⟩ <;> simp [World.cell?, hn1]
    · refine ⟨?_, ?_, ?_⟩ <;> simp [World.frozen?, hn1]
    · exact ((((Below.refl _ w).alloc (Nat.le_refl _) _).alloc (by simp) _).drew).trans (hb.mono (by show _ ≤ ((w.alloc _).alloc _).heap.size; simp; omega))
    · have := hb.size
      have e : (((w.alloc (.cells #[.int .i64 t.k, .int .i64 t.n, .slice a t.kids.length cap] 25)).alloc (.cells #[.int .i64 0, .int .i64 0, .slice none 0 0] 25)).drew).heap.size = w.heap.size + 2 := by show ((w.alloc _).alloc _).heap.size = _; simp
      omega
  clear ih hs hse hle hA hX
  have HI := Lib.hid (HI.out _ hA2)
  clear hA2
  go_enter Try.func38, Try.ntmps38
  go_wp2_with fail
  go_region_with ((go_at_call 60; refine HI.out.mono ?_; rintro e w1 ⟨a1, cap1, rfl, hs1, hr1, hb1⟩; obtain ⟨⟨x0, x1⟩, ⟨z0, z1, z2⟩, ⟨y0, y1, y2⟩, hBw, hsw⟩ := HB.out w1 hb1))
  all_goals
    go_wp2_with fail
    exact bodyPost_ret (v := .agg #[.int .i64 t.k, .int .i64 t.n, .slice a1 t.kids.length cap1]) (by simp [results, Try.f38, go_sem, z0, z1, z2]) rfl (twin_end (by show _ ≤ ((w.alloc _).alloc _).heap.size; simp) hBw hs1 hr1 _ _ _)
end Go.Proofs.Ytggefpkfikimiaa
/- Two terms are the same: package porismkeep's comparisons. -/
namespace Go.Proofs.Ytggefpkfikimiaa
set_option linter.unusedVariables false
open Go.RowKit

mutual
def eqT : Tm → Tm → Bool | .node k n l, .node k' n' l' => decide (k = k') && decide (n = n') && eqL l l'
def eqL : List Tm → List Tm → Bool | [], [] => true | a :: l, b :: m => eqT a b && eqL l m | _, _ => false
end
mutual
theorem eqT_iff : ∀ (a b : Tm), eqT a b = true ↔ a = b
  | .node k n l, .node k' n' l' => by
    have := eqL_iff l l'
    simp [eqT, this, and_assoc]
theorem eqL_iff : ∀ (a b : List Tm), eqL a b = true ↔ a = b
  | [], [] => by simp [eqL]
  | a :: l, b :: m => by
    have h1 := eqT_iff a b
    have h2 := eqL_iff l m
    simp [eqL, h1, h2]
  | [], _ :: _ => by simp [eqL]
  | _ :: _, [] => by simp [eqL]
end
theorem eqT_eq (a b : Tm) : eqT a b = (decide (a.k = b.k) && decide (a.n = b.n) && eqL a.kids b.kids) := by cases a; cases b; rfl
theorem eqL_len {a b : List Tm} (h : a.length ≠ b.length) : eqL a b = false := by
  rw [Bool.eq_false_iff]; intro hh; exact h (by rw [(eqL_iff a b).1 hh])
theorem eqL_take {a b : List Tm} {j : Nat} (ha : j < a.length) (hb : j < b.length) : eqL (a.take (j + 1)) (b.take (j + 1)) = (eqL (a.take j) (b.take j) && eqT a[j] b[j]) := by
  rw [Bool.eq_iff_iff, Bool.and_eq_true, eqL_iff, eqL_iff, eqT_iff, List.take_succ_eq_append_getElem ha, List.take_succ_eq_append_getElem hb]
  constructor
  · intro h
    have := List.append_inj h (by simp; omega)
    simpa using this
  · rintro ⟨h1, h2⟩
    rw [h1, h2]
theorem eqL_no {a b : List Tm} {j : Nat} (ha : j < a.length) (hb : j < b.length) (h : eqT a[j] b[j] = false) : eqL a b = false := by
  rw [Bool.eq_false_iff]; intro hh
  have := (eqL_iff a b).1 hh
  subst this
  rw [(eqT_iff _ _).2 rfl] at h; cases h

theorem keepS2 {w0 w' w1 : World} {b o b2 o2 : Nat} {y0 y1 y2 z0 z1 z2 : Value}
    (h : (w'.cell? ⟨b, o, none⟩ = some y0 ∧ w'.cell? ⟨b, o + 1, none⟩ = some y1 ∧ w'.cell? ⟨b, o + 2, none⟩ = some y2) ∧ (w'.cell? ⟨b2, o2, none⟩ = some z0 ∧ w'.cell? ⟨b2, o2 + 1, none⟩ = some z1 ∧ w'.cell? ⟨b2, o2 + 2, none⟩ = some z2) ∧ Below w0.heap.size w0 w')
    (hb : Below w'.heap.size w' w1) :
    (w1.cell? ⟨b, o, none⟩ = some y0 ∧ w1.cell? ⟨b, o + 1, none⟩ = some y1 ∧ w1.cell? ⟨b, o + 2, none⟩ = some y2) ∧ (w1.cell? ⟨b2, o2, none⟩ = some z0 ∧ w1.cell? ⟨b2, o2 + 1, none⟩ = some z1 ∧ w1.cell? ⟨b2, o2 + 2, none⟩ = some z2) ∧ Below w0.heap.size w0 w1 := by
  have g : ∀ {a : Addr} {x : Value}, w'.cell? a = some x → w1.cell? a = some x := fun {a x} hx => by rw [hb.cell (World.block_lt_of_cell? w' _ hx)]; exact hx
  obtain ⟨⟨h1, h2, h3⟩, ⟨h4, h5, h6⟩, h7⟩ := h
  exact ⟨⟨g h1, g h2, g h3⟩, ⟨g h4, g h5, g h6⟩, h7.trans (hb.mono h7.size)⟩

end Go.Proofs.Ytggefpkfikimiaa
