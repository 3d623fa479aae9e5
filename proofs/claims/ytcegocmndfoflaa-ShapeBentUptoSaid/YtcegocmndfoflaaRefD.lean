/- The page's forms: whether a term is well formed, checked, in scope, how often a variable is in it. -/
import Derived.Test.YtcegocmndfoflaaRefC
import Derived.Test.YtcegocmndfoflaaPn
import Derived.Test.YtcegocmndfoflaaCi
namespace Go.Proofs.Ytcegocmndfoflaa
open Go.RowKit

theorem carry3 {n B : Nat} {w W W' : World} {t : Tm} {v : Value} (h : Box3 W B t v ∧ At W t.kids v ∧ Below n w W) (hb : Below W.heap.size W W') (hn : n ≤ w.heap.size) : Box3 W' B t v ∧ At W' t.kids v ∧ Below n w W' :=
  ⟨h.1.bel hb, h.2.1.bel hb (Nat.le_refl _), h.2.2.trans (hb.mono (Nat.le_trans hn h.2.2.size))⟩
theorem start3 (w : World) (t : Tm) (v : Value) (ty : TypeId) (hA : At w t.kids v) : Box3 (w.alloc (.cells #[.int .i64 t.k, .int .i64 t.n, v] ty)) w.heap.size t v ∧ At (w.alloc (.cells #[.int .i64 t.k, .int .i64 t.n, v] ty)) t.kids v ∧ Below w.heap.size w (w.alloc (.cells #[.int .i64 t.k, .int .i64 t.n, v] ty)) :=
  ⟨box3_new w t v ty, hA.alloc _, below_al w _⟩

set_option maxRecDepth 100000 in
set_option maxHeartbeats 1600000 in
theorem rformed_any : ∀ (t : Tm), size t < 2147483648 → ∀ (w : World) (sv : Value), At w t.kids sv →
    Calls Try.prog 68 #[tv t sv] w fun e w' => e = .returned (.bool (formedB t)) ∧ Below w.heap.size w w' := by
  refine tm_ind fun t ih => ?_
  intro hs w sv hA
  obtain ⟨a, cap, rfl⟩ := hA.shape
  have hlen : t.kids.length < 2147483648 := by have := length_le_sizeL t.kids; have := size_eq t; omega
  have hb0 := below_al w (.cells #[.int .i64 t.k, .int .i64 t.n, .slice a t.kids.length cap] 42)
  have hK := Lib.hid (fun w => rkids_any t.k w)
  unfold tv
  by_cases hk : (t.kids.length : Int) = kidsI t.k
  rotate_left
  · have e1 : ((t.kids.length : Int) != kidsI t.k) = true := by simpa using hk
    have HE := Lib.hid (show formedB t = false by rw [formedB_eq, decide_eq_false hk]; rfl)
    clear ih hk
    go_enter Try.func68, Try.ntmps68
    go_wp2_with fail
    go_quiet ((go_at_call 72; exact q_same (hK.out _)))
    go_wp2_with fail
    go_ret
    exact ⟨ret_bool HE.out.symm, belowN hb0 _⟩
  have e1 : ((t.kids.length : Int) != kidsI t.k) = false := by simpa using hk
  by_cases hbad : (if t.kids.length = 0 then decide (0 ≤ t.n) && decide (t.n ≤ 65535) else decide (t.n = 0)) = false
  · have HE := Lib.hid (show formedB t = false by rw [formedB_eq, hbad]; simp)
    by_cases h0 : t.kids.length = 0
    · rw [if_pos h0] at hbad
      have hI := Lib.hid (fun w => in_any t.n 0 65535 w)
      rw [hbad] at hI
      have e2 : ((t.kids.length : Int) == 0) = true := by simp [h0]
      clear ih hk hbad h0
      go_enter Try.func68, Try.ntmps68
      go_wp2_with fail
      go_quiet ((go_at_call 72; exact q_same (hK.out _)))
      go_wp2_with (go_at_call 73; refine (hI.out _).mono ?_; rintro e w' ⟨rfl, rfl⟩)
      go_ret
      exact ⟨ret_bool HE.out.symm, belowN hb0 _⟩
    · rw [if_neg h0] at hbad
      have e2 : ((t.kids.length : Int) == 0) = false := by simpa using h0
      have e3 : 0 < t.kids.length := by omega
      have e4 : (t.n != 0) = true := by simpa using hbad
      clear ih hk hbad h0
      go_enter Try.func68, Try.ntmps68
      go_wp2_with fail
      go_quiet ((go_at_call 72; exact q_same (hK.out _)))
      go_wp2_with fail
      go_ret
      exact ⟨ret_bool HE.out.symm, belowN hb0 _⟩
  have hok : (if t.kids.length = 0 then decide (0 ≤ t.n) && decide (t.n ≤ 65535) else decide (t.n = 0)) = true := eq_true_of_ne_false hbad
  have E := Lib.hid (show formedB t = formedL t.kids by rw [formedB_eq, decide_eq_true hk, hok]; rfl)
  have main : ∀ (W : World), Box3 W w.heap.size t (.slice a t.kids.length cap) ∧ At W t.kids (.slice a t.kids.length cap) ∧ Below w.heap.size w W → True := fun _ _ => trivial
  by_cases h0 : t.kids.length = 0
  · rw [if_pos h0] at hok
    have hI := Lib.hid (fun w => in_any t.n 0 65535 w)
    rw [hok] at hI
    have e2 : ((t.kids.length : Int) == 0) = true := by simp [h0]
    have e5 : ¬ 0 < t.kids.length := by omega
    have hnil : t.kids = [] := List.eq_nil_of_length_eq_zero h0
    have E2 := Lib.hid (show formedL t.kids = true by rw [hnil]; rfl)
    have hX := Lib.hid (start3 w t (.slice a t.kids.length cap) 42 hA)
    clear ih hk hok h0 hnil main hbad
    go_enter Try.func68, Try.ntmps68
    go_wp2_with fail
    go_quiet ((go_at_call 72; exact q_same (hK.out _)))
    go_wp2_with (go_at_call 73; refine (hI.out _).mono ?_; rintro e w' ⟨rfl, rfl⟩)
    go_loopw [3] (fun i wr => i = .int .i64 0 ∧ wr = (w.alloc (.cells #[.int .i64 t.k, .int .i64 t.n, .slice a t.kids.length cap] 42)).drewN nq) (fun _ _ => 0)
    case atStart => exact ⟨rfl, rfl⟩
    case round =>
      obtain ⟨rfl, rfl⟩ := hrel
      go_wp2_with fail
      go_ret
      exact ⟨ret_bool (by rw [E.out, E2.out]), belowN hb0 _⟩
  · rw [if_neg h0] at hok
    have e2 : ((t.kids.length : Int) == 0) = false := by simpa using h0
    have e3 : 0 < t.kids.length := by omega
    have e4 : (t.n != 0) = false := by simpa using hok
    have hX := Lib.hid (start3 w t (.slice a t.kids.length cap) 42 hA)
    clear hk hok main hbad
    go_enter Try.func68, Try.ntmps68
    go_wp2_with fail
    go_quiet ((go_at_call 72; exact q_same (hK.out _)))
    go_wp2_with fail
    have hX2 := carry3 hX.out (belowN (Below.refl _ (w.alloc (.cells #[.int .i64 t.k, .int .i64 t.n, .slice a t.kids.length cap] 42))) nq) (Nat.le_refl _)
    clear hX hb0 e1 e2 e3 e4 hK
    revert hX2
    generalize (w.alloc (.cells #[.int .i64 t.k, .int .i64 t.n, .slice a t.kids.length cap] 42)).drewN nq = W
    rintro ⟨hB, hA1, hb0⟩
    go_loopw [3] (fun i wr => ∃ j : Nat, j ≤ t.kids.length ∧ i = .int .i64 j ∧ formedL (t.kids.take j) = true ∧ Below W.heap.size W wr)
      (fun i _ => t.kids.length - (intOf i).toNat)
    case atStart => exact ⟨0, Nat.zero_le _, rfl, by simp [formedL], Below.refl _ _⟩
    case round =>
      obtain ⟨j, hj, rfl, hsc, hbw⟩ := hrel
      have HSC := Lib.hid hsc
      clear hsc
      obtain ⟨hBlt, c0, c1, c2⟩ := hB.bel hbw
      by_cases hlt : j < t.kids.length
      · obtain ⟨b, off, cap', vs, he, h1, h2, kk, kn, kv, ks⟩ := (hA1.bel hbw (Nat.le_refl _)).pos (by omega)
        have gk := kk j hlt
        have gn := kn j hlt
        have gv := kv j hlt
        have gs := ks j hlt
        clear kk kn kv ks
        have hsz := size_get hlt
        have hse := size_eq t
        have hm := List.getElem_mem hlt
        have HI := ih t.kids[j] hm (by omega) wr (vs j) gs
        unfold tv at HI
        have HE := Lib.hid (formedL_take_succ hlt)
        cases hv : formedB t.kids[j] with
        | true =>
          rw [hv] at HI HE
          have HI := Lib.hid HI
          clear ih hs hsz hse hv hm
          cases he
          go_wp2_with (go_at_call 68; refine HI.out.mono ?_; rintro e w1 ⟨rfl, hb1⟩)
          go_roundw
          case rel => exact ⟨j + 1, by omega, by go_num, by rw [HE.out, HSC.out]; rfl, hbw.trans (hb1.mono hbw.size)⟩
          case measure => simp [intOf]; omega
        | false =>
          have HN := Lib.hid (formedL_no hlt hv)
          rw [hv] at HI HE
          have HI := Lib.hid HI
          clear ih hs hsz hse hv hm
          cases he
          go_wp2_with (go_at_call 68; refine HI.out.mono ?_; rintro e w1 ⟨rfl, hb1⟩)
          go_ret
          exact ⟨ret_bool (by rw [E.out, HN.out]), (hb0.trans (hbw.mono hb0.size)).trans (hb1.mono (Nat.le_trans hb0.size hbw.size))⟩
      · obtain rfl : j = t.kids.length := by omega
        have hlt : decide ((t.kids.length : Int) < (t.kids.length : Int)) = false := by simp
        clear ih hs
        go_wp2_with fail
        go_ret
        exact ⟨ret_bool (by rw [E.out]; have := HSC.out; rw [List.take_length] at this; exact this.symm), hb0.trans (hbw.mono hb0.size)⟩
end Go.Proofs.Ytcegocmndfoflaa
