/- Two terms are the same: package porismkeep's comparisons. -/
import Derived.Test.YtcegocmndfoflaaRefC
namespace Go.Proofs.Ytcegocmndfoflaa
set_option linter.unusedVariables false
open Go.RowKit

mutual
def eqT : Tm → Tm → Bool | .node k n l, .node k' n' l' => decide (k = k') && decide (n = n') && eqL l l'
def eqL : List Tm → List Tm → Bool | [], [] => true | a :: l, b :: m => eqT a b && eqL l m | _, _ => false
end
mutual
theorem eqT_iff : ∀ (a b : Tm), eqT a b = true ↔ a = b
  | .node k n l, .node k' n' l' => by
    have := eqL_iff l l'
    simp [eqT, this, and_assoc]
theorem eqL_iff : ∀ (a b : List Tm), eqL a b = true ↔ a = b
  | [], [] => by simp [eqL]
  | a :: l, b :: m => by
    have h1 := eqT_iff a b
    have h2 := eqL_iff l m
    simp [eqL, h1, h2]
  | [], _ :: _ => by simp [eqL]
  | _ :: _, [] => by simp [eqL]
end
theorem eqT_eq (a b : Tm) : eqT a b = (decide (a.k = b.k) && decide (a.n = b.n) && eqL a.kids b.kids) := by cases a; cases b; rfl
theorem eqL_len {a b : List Tm} (h : a.length ≠ b.length) : eqL a b = false := by
  rw [Bool.eq_false_iff]; intro hh; exact h (by rw [(eqL_iff a b).1 hh])
theorem eqL_take {a b : List Tm} {j : Nat} (ha : j < a.length) (hb : j < b.length) : eqL (a.take (j + 1)) (b.take (j + 1)) = (eqL (a.take j) (b.take j) && eqT a[j] b[j]) := by
  rw [Bool.eq_iff_iff, Bool.and_eq_true, eqL_iff, eqL_iff, eqT_iff, List.take_succ_eq_append_getElem ha, List.take_succ_eq_append_getElem hb]
  constructor
  · intro h
    have := List.append_inj h (by simp; omega)
    simpa using this
  · rintro ⟨h1, h2⟩
    rw [h1, h2]
theorem eqL_no {a b : List Tm} {j : Nat} (ha : j < a.length) (hb : j < b.length) (h : eqT a[j] b[j] = false) : eqL a b = false := by
  rw [Bool.eq_false_iff]; intro hh
  have := (eqL_iff a b).1 hh
  subst this
  rw [(eqT_iff _ _).2 rfl] at h; cases h

def TermOk (a : Tm) : Prop := ∀ (b : Tm), size b < 2147483648 → ∀ (w : World) (va vb : Value), At w a.kids va → At w b.kids vb →
    Calls Try.prog 49 #[.agg #[.int .i64 a.k, .int .i64 a.n, va], .agg #[.int .i64 b.k, .int .i64 b.n, vb]] w fun e w' => e = .returned (.bool (eqT a b)) ∧ Below w.heap.size w w'

theorem keepS2 {w0 w' w1 : World} {b o b2 o2 : Nat} {y0 y1 y2 z0 z1 z2 : Value}
    (h : (w'.cell? ⟨b, o, none⟩ = some y0 ∧ w'.cell? ⟨b, o + 1, none⟩ = some y1 ∧ w'.cell? ⟨b, o + 2, none⟩ = some y2) ∧ (w'.cell? ⟨b2, o2, none⟩ = some z0 ∧ w'.cell? ⟨b2, o2 + 1, none⟩ = some z1 ∧ w'.cell? ⟨b2, o2 + 2, none⟩ = some z2) ∧ Below w0.heap.size w0 w')
    (hb : Below w'.heap.size w' w1) :
    (w1.cell? ⟨b, o, none⟩ = some y0 ∧ w1.cell? ⟨b, o + 1, none⟩ = some y1 ∧ w1.cell? ⟨b, o + 2, none⟩ = some y2) ∧ (w1.cell? ⟨b2, o2, none⟩ = some z0 ∧ w1.cell? ⟨b2, o2 + 1, none⟩ = some z1 ∧ w1.cell? ⟨b2, o2 + 2, none⟩ = some z2) ∧ Below w0.heap.size w0 w1 := by
  have g : ∀ {a : Addr} {x : Value}, w'.cell? a = some x → w1.cell? a = some x := fun {a x} hx => by rw [hb.cell (World.block_lt_of_cell? w' _ hx)]; exact hx
  obtain ⟨⟨h1, h2, h3⟩, ⟨h4, h5, h6⟩, h7⟩ := h
  exact ⟨⟨g h1, g h2, g h3⟩, ⟨g h4, g h5, g h6⟩, h7.trans (hb.mono h7.size)⟩

set_option maxRecDepth 100000 in
set_option maxHeartbeats 1600000 in
theorem terms_any (l m : List Tm) (hl : l.length < 2147483648) (hm : m.length < 2147483648) (hsm : sizeL m < 2147483648) (ok : ∀ u ∈ l, TermOk u) (w : World) (va vb : Value) (hA : At w l va) (hM : At w m vb) :
    Calls Try.prog 60 #[va, vb] w fun e w' => e = .returned (.bool (eqL l m)) ∧ Below w.heap.size w w' := by
  obtain ⟨a1, cap1, rfl⟩ := hA.shape
  obtain ⟨a2, cap2, rfl⟩ := hM.shape
  by_cases hlm : l.length = m.length
  rotate_left
  · have e1 : ((l.length : Int) != (m.length : Int)) = true := by simp; omega
    have HE := Lib.hid (eqL_len hlm)
    clear hlm
    go_enter Try.func60, Try.ntmps60
    go_wp2_with fail
    go_ret
    exact ⟨ret_bool HE.out.symm, Below.refl _ _⟩
  have e1 : ((l.length : Int) != (m.length : Int)) = false := by simp; omega
  have HLM := Lib.hid hlm
  have hlm1 : l.length ≤ m.length := by omega
  have hlm2 : m.length ≤ l.length := by omega
  clear hlm
  go_enter Try.func60, Try.ntmps60
  go_wp2_with fail
  go_loopw [5] (fun i wr => ∃ j : Nat, j ≤ l.length ∧ i = .int .i64 j ∧ eqL (l.take j) (m.take j) = true ∧ Below w.heap.size w wr)
    (fun i _ => l.length - (intOf i).toNat)
  case atStart => exact ⟨0, Nat.zero_le _, rfl, by simp [eqL], Below.refl _ _⟩
  case round =>
    obtain ⟨j, hj, rfl, hsc, hbw⟩ := hrel
    have HSC := Lib.hid hsc
    clear hsc
    by_cases hlt : j < l.length
    · have hlt2 : j < m.length := by omega
      obtain ⟨b, off, cap', vs, he, h1, h2, kk, kn, kv, ks⟩ := (hA.bel hbw (Nat.le_refl _)).pos (by omega)
      obtain ⟨b2, off2, cap2', vs2, he2, h12, h22, kk2, kn2, kv2, ks2⟩ := (hM.bel hbw (Nat.le_refl _)).pos (by omega)
      have gk := kk j hlt
      have gn := kn j hlt
      have gv := kv j hlt
      have gs := ks j hlt
      have gk2 := kk2 j hlt2
      have gn2 := kn2 j hlt2
      have gv2 := kv2 j hlt2
      have gs2 := ks2 j hlt2
      clear kk kn kv ks kk2 kn2 kv2 ks2
      have HI := ok l[j] (List.getElem_mem hlt) m[j] (Nat.lt_of_le_of_lt (size_get hlt2) hsm) wr.drew (vs j) (vs2 j) gs.drew gs2.drew
      have HE := Lib.hid (eqL_take hlt hlt2)
      have HNO := Lib.hid (fun h => eqL_no hlt hlt2 h)
      have HI := Lib.hid HI
      have hl1 : (j : Int) < (l.length : Int) := by omega
      have hl2 : (j : Int) < (m.length : Int) := by omega
      have hl0 : (0 : Int) ≤ (j : Int) := by omega
      clear ok
      cases he
      cases he2
      go_wp2_with fail
      go_region_held3 (fun w' => (w'.cell? ⟨b, off + j * 3, none⟩ = some (.int .i64 l[j].k) ∧ w'.cell? ⟨b, off + j * 3 + 1, none⟩ = some (.int .i64 l[j].n) ∧ w'.cell? ⟨b, off + j * 3 + 2, none⟩ = some (vs j)) ∧ (w'.cell? ⟨b2, off2 + j * 3, none⟩ = some (.int .i64 m[j].k) ∧ w'.cell? ⟨b2, off2 + j * 3 + 1, none⟩ = some (.int .i64 m[j].n) ∧ w'.cell? ⟨b2, off2 + j * 3 + 2, none⟩ = some (vs2 j)) ∧ Below wr.heap.size wr w')
        (first | exact ⟨⟨gk, gn, gv⟩, ⟨gk2, gn2, gv2⟩, (Below.refl _ _).drew⟩ | assumption | exact keepS2 (w' := wr.drew) ⟨⟨gk, gn, gv⟩, ⟨gk2, gn2, gv2⟩, (Below.refl _ _).drew⟩ hb1)
        (first | (go_at_call 49; refine HI.out.mono ?_; rintro e w' ⟨rfl, hb1⟩))
      go_wp2_with fail
      · obtain ⟨_, _, hbx⟩ := ‹(_ ∧ _ ∧ _) ∧ (_ ∧ _ ∧ _) ∧ Below _ wr _›
        have hx : (!eqT l[j] m[j]) = true := by assumption
        go_ret
        exact ⟨ret_bool (by rw [HNO.out (by simpa using hx)]), hbw.trans (hbx.mono hbw.size)⟩
      · obtain ⟨_, _, hbx⟩ := ‹(_ ∧ _ ∧ _) ∧ (_ ∧ _ ∧ _) ∧ Below _ wr _›
        have hx : (!eqT l[j] m[j]) = false := by assumption
        go_roundw
        case rel => exact ⟨j + 1, by omega, by go_num, by rw [HE.out, HSC.out]; simpa using hx, hbw.trans (hbx.mono hbw.size)⟩
        case measure => simp [intOf]; omega
    · obtain rfl : j = l.length := by omega
      have hlt : decide ((l.length : Int) < (l.length : Int)) = false := by simp
      clear ok
      go_wp2_with fail
      go_ret
      exact ⟨ret_bool (by have := HSC.out; rw [List.take_length, List.take_of_length_le (by omega)] at this; exact this.symm), hbw⟩

set_option maxRecDepth 100000 in
set_option maxHeartbeats 1600000 in
theorem term_ok : ∀ (a : Tm), size a < 2147483648 → TermOk a := by
  refine tm_ind fun a ih => ?_
  intro hsa b hsb w va vb hA hM
  have hse := size_eq a
  have hle := length_le_sizeL a.kids
  have hse2 := size_eq b
  have hle2 := length_le_sizeL b.kids
  have HT := terms_any a.kids b.kids (by omega) (by omega) (by omega) (fun u hu => ih u hu (by have := size_le_of_mem hu; omega)) ((w.alloc (.cells #[.int .i64 a.k, .int .i64 a.n, va] 42)).alloc (.cells #[.int .i64 b.k, .int .i64 b.n, vb] 42)) va vb ((hA.alloc _).alloc _) ((hM.alloc _).alloc _)
  have hb0 : Below w.heap.size w ((w.alloc (.cells #[.int .i64 a.k, .int .i64 a.n, va] 42)).alloc (.cells #[.int .i64 b.k, .int .i64 b.n, vb] 42)) := ((Below.refl _ w).alloc (Nat.le_refl _) _).alloc (by simp) _
  have hsz : w.heap.size ≤ ((w.alloc (.cells #[.int .i64 a.k, .int .i64 a.n, va] 42)).alloc (.cells #[.int .i64 b.k, .int .i64 b.n, vb] 42)).heap.size := hb0.size
  obtain ⟨a1, cap1, rfl⟩ := hA.shape
  obtain ⟨a2, cap2, rfl⟩ := hM.shape
  have HT := Lib.hid HT
  have HB := Lib.hid (And.intro hb0 hsz)
  have E := Lib.hid (eqT_eq a b)
  clear ih hsa hsb hse hle hse2 hle2 hA hM hb0 hsz
  by_cases hk : a.k = b.k
  · have e1 : (a.k == b.k) = true := by simpa using hk
    by_cases hn : a.n = b.n
    · have e2 : (a.n == b.n) = true := by simpa using hn
      have E2 := Lib.hid (show eqT a b = eqL a.kids b.kids by rw [E.out, decide_eq_true hk, decide_eq_true hn]; rfl)
      clear hk hn E
      go_enter Try.func49, Try.ntmps49
      go_wp2_with (go_at_call 60; refine HT.out.mono ?_; rintro e w' ⟨rfl, hb1⟩)
      go_ret
      exact ⟨ret_bool E2.out.symm, HB.out.1.trans (hb1.mono HB.out.2)⟩
    · have e2 : (a.n == b.n) = false := by simpa using hn
      have E2 := Lib.hid (show eqT a b = false by rw [E.out, decide_eq_false hn]; simp)
      clear hk hn E
      go_enter Try.func49, Try.ntmps49
      go_wp2_with fail
      go_ret
      exact ⟨ret_bool E2.out.symm, HB.out.1⟩
  · have e1 : (a.k == b.k) = false := by simpa using hk
    have E2 := Lib.hid (show eqT a b = false by rw [E.out, decide_eq_false hk]; simp)
    clear hk E
    go_enter Try.func49, Try.ntmps49
    go_wp2_with fail
    go_ret
    exact ⟨ret_bool E2.out.symm, HB.out.1⟩
theorem kterm_any (a b : Tm) (ha : size a < 2147483648) (hb : size b < 2147483648) (w : World) (va vb : Value) (hA : At w a.kids va) (hB : At w b.kids vb) :
    Calls Try.prog 49 #[tv a va, tv b vb] w fun e w' => e = .returned (.bool (eqT a b)) ∧ Below w.heap.size w w' := term_ok a ha b hb w va vb hA hB
end Go.Proofs.Ytcegocmndfoflaa
