/- PackBack: the Go text returns true for any two terms that are not greater than the second form's bound, and any number. -/
import Derived.Test.YthcjjfgigbgdkaaLr
import Derived.IntWalk
import Derived.Deep.DeepCutAuto
namespace Go.Proofs.Ythcjjfgigbgdkaa
open Go.RowKit Go Go.Joins
set_option linter.unusedVariables false

theorem RdBy.first {l : List Int} {ao : Option Addr} {cap c : Nat} {w : World} (h : RdBy l (.slice ao l.length cap) w) (hc : c ≤ l.length) : RdBy (l.take c) (.slice ao c cap) w := by
  obtain ⟨a, cap', he, h2, h3, h4, h5⟩ := h
  cases he
  have hl : (l.take c).length = c := by simp; omega
  refine ⟨ao, cap, by rw [hl], by omega, h3, fun h => ?_, fun hp => ?_⟩
  · have := h4 h; exact ⟨by omega, this.2⟩
  · obtain ⟨b, off, rfl, hcell⟩ := h5 (by omega)
    refine ⟨b, off, rfl, fun i hi => ?_⟩
    rw [hcell i (by omega)]
    simp
theorem getS_cut {t u : Tm} (h : checkE t = 0) (h2 : checkE u = 0) {m : Nat} (hm : m < (packT u).length) : getS ((packT t ++ packT u).take ((packT t).length + m)) ((packT t).length : Nat) = (noT, 0, 3) := by
  have hl : ((packT t ++ packT u).take ((packT t).length + m)).length = (packT t).length + m := by simp; omega
  have e : ((packT t ++ packT u).take ((packT t).length + m)).drop (packT t).length = (packT u).take m := by
    rw [List.drop_take, List.drop_left]
    congr 1
    omega
  rw [getS_in (by omega), e, readP_cut h2 (packT_byteL h2) hm]
theorem getS_second {t u : Tm} (h2 : checkE u = 0) : getS (packT t ++ packT u) ((packT t).length : Nat) = (u, ((packT t ++ packT u).length : Int), 0) := by
  have := getS_full h2 (packT t) []
  rw [List.append_nil] at this
  rw [this, List.length_append]
theorem getS_first {t : Tm} (r : List Int) (h : checkE t = 0) : getS (packT t ++ r) 0 = (t, ((packT t).length : Int), 0) := by
  have := getS_full h [] r
  simpa using this
theorem byteL_append {a b : List Int} (ha : ByteL a) (hb : ByteL b) : ByteL (a ++ b) := fun x hx => by
  rcases List.mem_append.1 hx with h | h
  · exact ha x h
  · exact hb x h
theorem byteL_take {a : List Int} (ha : ByteL a) (n : Nat) : ByteL (a.take n) := fun x hx => ha x (List.mem_of_mem_take hx)
theorem pack_eq {t u : Tm} (h : checkE t = 0) (h2 : checkE u = 0) : decide (packT t = packT u) = eqT t u := by
  by_cases e : t = u
  · subst e; rw [eqT_self]; exact decide_eq_true rfl
  · rw [eqT_ne e]; exact decide_eq_false fun hh => e (packT_inj h h2 hh)
/-- Put, of nothing ahead. -/
theorem c_put (b : List Int) (t : Tm) (hc : checkE t = 0) (hl : b.length ≤ 1048576) (w : World) (vb v : Value) (hR : RdBy b vb w) (hA : At w t.kids v) :
    Calls Try.prog 38 #[vb, .agg #[.int .i64 t.k, .int .i64 t.n, v]] w fun e w' => ∃ a c, e = .returned (.tuple #[.slice a (b ++ packT t).length c, .int .i64 0]) ∧ RdBy (b ++ packT t) (.slice a (b ++ packT t).length c) w' ∧ Below w.heap.size w w' := by
  have := put_any b t (check_fits hc) (by have := check_size hc; omega) hl w vb v hR hA
  rw [hc] at this
  refine this.mono fun e w' ⟨v', h1, h2, _, h4⟩ => ?_
  obtain ⟨a, c, rfl⟩ := (h2 rfl).rd.shape
  exact ⟨a, c, h1, (h2 rfl).rd, h4⟩
theorem c_put_no (b : List Int) (t : Tm) (hc : checkE t ≠ 0) (hF : Fits t) (hs : size t ≤ 1048576) (hl : b.length ≤ 1048576) (w : World) (vb v : Value) (hR : RdBy b vb w) (hA : At w t.kids v) :
    Calls Try.prog 38 #[vb, .agg #[.int .i64 t.k, .int .i64 t.n, v]] w fun e w' => e = .returned (.tuple #[.slice none 0 0, .int .i64 (checkE t)]) ∧ Below w.heap.size w w' := by
  have := put_any b t hF hs hl w vb v hR hA
  refine this.mono fun e w' ⟨v', h1, _, h3, h4⟩ => ?_
  rw [h3 hc] at h1
  exact ⟨h1, h4⟩
theorem Two.a {w0 W : World} {B1 B2 : Nat} {t u : Tm} {v v2 : Value} (h : Two w0 B1 B2 t u v v2 W) : At W t.kids v := h.2.2.1
theorem Two.b {w0 W : World} {B1 B2 : Nat} {t u : Tm} {v v2 : Value} (h : Two w0 B1 B2 t u v v2 W) : At W u.kids v2 := h.2.2.2.1
theorem Two.w {w0 W : World} {B1 B2 : Nat} {t u : Tm} {v v2 : Value} (h : Two w0 B1 B2 t u v v2 W) : Below w0.heap.size w0 W := h.2.2.2.2

theorem cut_at (cut : Int) (p1 p3 : Nat) (h1 : p1 < p3) (h2 : p3 ≤ 36000) : ∃ m : Nat, m < p3 - p1 ∧ wrap64 (↑p1 + wrap64 ((IntKind.u64.wrap cut).tmod (↑p3 - ↑p1))) = ((p1 + m : Nat) : Int) := by
  have h0 : 0 ≤ IntKind.u64.wrap cut := by rw [IntKind.wrap_u64]; omega
  generalize IntKind.u64.wrap cut = y at h0
  rw [Int.tmod_eq_emod_of_nonneg h0]
  obtain ⟨d, hd⟩ : ∃ d : Int, d = (p3 : Int) - p1 := ⟨_, rfl⟩
  rw [← hd]
  have a1 := Int.emod_nonneg y (show d ≠ 0 by omega)
  have a2 := Int.emod_lt_of_pos y (show 0 < d by omega)
  generalize y % d = z at a1 a2
  rw [IntWalk.wrap64_in z (by omega), IntWalk.wrap64_in _ (by omega)]
  exact ⟨z.toNat, by omega, by omega⟩

set_option maxRecDepth 100000 in
set_option maxHeartbeats 4000000 in
theorem lback_any (t u : Tm) (hF : Fits t) (hF2 : Fits u) (hs : size t ≤ 1048576) (hs2 : size u ≤ 1048576) (cut : Int) (w : World) (v v2 : Value) (hA : At w t.kids v) (hM : At w u.kids v2) :
    Calls Try.prog 11 #[tv t v, tv u v2, .int .i64 cut] w fun e w' => e = .returned (.bool true) ∧ Below w.heap.size w w' := by
  have HH := heavy2 t u hs hs2 w v v2 hA hM
  obtain ⟨a1, c1, rfl⟩ := hA.shape
  obtain ⟨a2, c2, rfl⟩ := hM.shape
  clear hA hM
  unfold tv
  cases hh : heavyB [t, u] with
  | true =>
    rw [hh] at HH
    have HH := Lib.hid HH
    clear hh
    go_enter Try.func11, Try.ntmps11
    go_wp2_with fail
    refine HH.out.mono ?_
    rintro e w1 ⟨rfl, hb1⟩
    have T1 := Lib.hid hb1
    clear hb1
    go_wp2_with fail
    go_ret
    exact ⟨rfl, T1.out.w⟩
  | false =>
    rw [hh] at HH
    have HH := Lib.hid HH
    clear hh
    have HFF := Lib.hid (And.intro hF hF2)
    clear hF hF2
    by_cases hc : checkE t = 0
    rotate_left
    · have e1 : (checkE t != 0) = true := by simpa using hc
      have HC := Lib.hid hc
      clear hc
      go_enter Try.func11, Try.ntmps11
      go_wp2_with fail
      refine HH.out.mono ?_
      rintro e w1 ⟨rfl, hb1⟩
      have T1 := Lib.hid hb1
      clear hb1 HH
      obtain ⟨⟨x0, x1, x2⟩, _⟩ := T1.out
      have HP := Lib.hid (c_put_no [] t HC.out HFF.out.1 hs (by simp) w1 (.slice none 0 0) _ (RdBy.nil _) T1.out.a)
      go_wp2_with fail
      refine HP.out.mono ?_
      rintro e w2 ⟨rfl, hb2⟩
      have B2 := Lib.hid (T1.out.w.trans (hb2.mono T1.out.w.size))
      clear hb2 HP x0 x1 x2
      go_wp2_with fail
      refine (wakes3_any _).mono ?_
      rintro e wz ⟨rfl, hbz⟩
      go_wp2_with fail
      go_ret
      exact ⟨rfl, B2.out.trans (hbz.mono B2.out.size)⟩
    have HC := Lib.hid hc
    have hls := check_packlen hc
    by_cases hc2 : checkE u = 0
    rotate_left
    · have e1 : (checkE u != 0) = true := by simpa using hc2
      have HC2 := Lib.hid hc2
      clear hc hc2
      go_enter Try.func11, Try.ntmps11
      go_wp2_with fail
      refine HH.out.mono ?_
      rintro e w1 ⟨rfl, hb1⟩
      have T1 := Lib.hid hb1
      clear hb1 HH
      obtain ⟨⟨x0, x1, x2⟩, _⟩ := T1.out
      have HP := Lib.hid (c_put [] t HC.out (by simp) w1 (.slice none 0 0) _ (RdBy.nil _) T1.out.a)
      simp only [List.nil_append] at HP
      go_wp2_with fail
      refine HP.out.mono ?_
      rintro e w2 ⟨a3, c3, rfl, hr2, hb2⟩
      have R2 := Lib.hid hr2
      have T2 := Lib.hid (T1.out.bel hb2)
      clear hb2 hr2 HP x0 x1 x2 T1
      obtain ⟨_, ⟨x0, x1, x2⟩, _⟩ := T2.out
      have HP := Lib.hid (c_put_no (packT t) u HC2.out HFF.out.2 hs2 (by omega) w2 _ _ R2.out T2.out.b)
      go_wp2_with fail
      refine HP.out.mono ?_
      rintro e w3 ⟨rfl, hb3⟩
      have B3 := Lib.hid (T2.out.w.trans (hb3.mono T2.out.w.size))
      clear hb3 HP x0 x1 x2 T2
      go_wp2_with fail
      refine (wakes3_any _).mono ?_
      rintro e wz ⟨rfl, hbz⟩
      go_wp2_with fail
      go_ret
      exact ⟨rfl, B3.out.trans (hbz.mono B3.out.size)⟩
    have HC2 := Lib.hid hc2
    have hls2 := check_packlen hc2
    have hp1 := packT_pos t
    have hp2 := packT_pos u
    have hbl : ByteL (packT t ++ packT u) := byteL_append (packT_byteL hc) (packT_byteL hc2)
    have HBL := Lib.hid hbl
    have HEQ := Lib.hid (pack_eq hc hc2)
    have G1 := Lib.hid (getS_first (packT u) hc)
    have G2 := Lib.hid (getS_second (t := t) hc2)
    have G3 := Lib.hid (fun m hm => getS_cut hc hc2 (m := m) hm)
    obtain ⟨p1, hq1⟩ : ∃ p1, p1 = (packT t).length := ⟨_, rfl⟩
    obtain ⟨p2, hq2⟩ : ∃ p2, p2 = (packT u).length := ⟨_, rfl⟩
    obtain ⟨p3, hq3⟩ : ∃ p3, p3 = (packT t ++ packT u).length := ⟨_, rfl⟩
    have h3 : p3 = p1 + p2 := by rw [hq1, hq2, hq3, List.length_append]
    have Q := Lib.hid (And.intro hq1 (And.intro hq2 (And.intro hq3 h3)))
    have n1 : 0 < p1 := by omega
    have n2 : p1 < p3 := by omega
    have n3 : p3 ≤ 36000 := by omega
    have n4 : 0 < p2 := by omega
    have e5 : decide (p3 ≤ p1) = false := decide_eq_false (by omega)
    have e6 : decide ((p3 : Int) ≤ (p1 : Int)) = false := decide_eq_false (by omega)
    have e7 : ((p1 : Int) == 0) = false := by simp; omega
    rw [← hq1] at G1 G2 G3
    rw [← hq2] at G3
    rw [← hq3] at G2
    have CP1 : Hid (∀ (W : World) (x : Value), At W t.kids x → Calls Try.prog 38 #[.slice none 0 0, .agg #[.int .i64 t.k, .int .i64 t.n, x]] W fun e w' => ∃ a c, e = .returned (.tuple #[.slice a p1 c, .int .i64 0]) ∧ RdBy (packT t) (.slice a p1 c) w' ∧ Below W.heap.size W w') := fun W x hx => by
      have := c_put [] t HC.out (by simp) W (.slice none 0 0) x (RdBy.nil _) hx
      rw [List.nil_append, ← Q.out.1] at this
      exact this
    have CP2 : Hid (∀ (W : World) (y x : Value), RdBy (packT t) y W → At W u.kids x → Calls Try.prog 38 #[y, .agg #[.int .i64 u.k, .int .i64 u.n, x]] W fun e w' => ∃ a c, e = .returned (.tuple #[.slice a p3 c, .int .i64 0]) ∧ RdBy (packT t ++ packT u) (.slice a p3 c) w' ∧ Below W.heap.size W w') := fun W y x hy hx => by
      have := c_put (packT t) u HC2.out (by have := Q.out.1; omega) W y x hy hx
      rw [← Q.out.2.2.1] at this
      exact this
    clear hq1 hq2 hq3 h3 hc hc2 hbl hp1 hp2 hls hls2
    go_enter Try.func11, Try.ntmps11
    go_wp2_with fail
    refine HH.out.mono ?_
    rintro e w1 ⟨rfl, hb1⟩
    have T1 := Lib.hid hb1
    clear hb1 HH
    obtain ⟨⟨x0, x1, x2⟩, _⟩ := T1.out
    go_wp2_with fail
    refine (CP1.out w1 _ T1.out.a).mono ?_
    rintro e w2 ⟨a3, c3, rfl, hr2, hb2⟩
    have R2 := Lib.hid hr2
    have T2 := Lib.hid (T1.out.bel hb2)
    clear hb2 hr2 CP1 x0 x1 x2 T1
    obtain ⟨_, ⟨x0, x1, x2⟩, _⟩ := T2.out
    go_wp2_with fail
    refine (CP2.out w2 _ _ R2.out T2.out.b).mono ?_
    rintro e w3 ⟨a4, c4, rfl, hr3, hb3⟩
    have R3 := Lib.hid hr3
    have S3 := Lib.hid (R2.out.bel hb3)
    have T3 := Lib.hid (T2.out.bel hb3)
    clear hb3 hr3 CP2 x0 x1 x2 T2 R2
    have CG1 := Lib.hid (c_get_yes _ 0 _ t G1.out HBL.out (by have := Q.out.2.2.1; omega) w3 _ R3.out)
    go_wp2_with fail
    refine CG1.out.mono ?_
    rintro e w4 ⟨a5, c5, rfl, hA4, hb4⟩
    have X4 := Lib.hid (one_start w4 t _ hA4)
    have R4 := Lib.hid ((R3.out.bel hb4).bel (below_al w4 (.cells #[.int .i64 t.k, .int .i64 t.n, .slice a5 t.kids.length c5] 24)))
    have S4 := Lib.hid ((S3.out.bel hb4).bel (below_al w4 (.cells #[.int .i64 t.k, .int .i64 t.n, .slice a5 t.kids.length c5] 24)))
    have T4 := Lib.hid ((T3.out.bel hb4).bel (below_al w4 (.cells #[.int .i64 t.k, .int .i64 t.n, .slice a5 t.kids.length c5] 24)))
    clear hA4 hb4 CG1 R3 S3 T3
    have CG2 := Lib.hid (c_get_yes _ _ _ u G2.out HBL.out (by have := Q.out.2.2.1; omega) _ _ R4.out)
    go_wp2_with fail
    refine CG2.out.mono ?_
    rintro e w5 ⟨a6, c6, rfl, hA5, hb5⟩
    have Y5 := Lib.hid (one_start w5 u _ hA5)
    have X5 := Lib.hid ((X4.out.bel hb5).bel (below_al w5 (.cells #[.int .i64 u.k, .int .i64 u.n, .slice a6 u.kids.length c6] 24)))
    have R5 := Lib.hid ((R4.out.bel hb5).bel (below_al w5 (.cells #[.int .i64 u.k, .int .i64 u.n, .slice a6 u.kids.length c6] 24)))
    have S5 := Lib.hid ((S4.out.bel hb5).bel (below_al w5 (.cells #[.int .i64 u.k, .int .i64 u.n, .slice a6 u.kids.length c6] 24)))
    have T5 := Lib.hid ((T4.out.bel hb5).bel (below_al w5 (.cells #[.int .i64 u.k, .int .i64 u.n, .slice a6 u.kids.length c6] 24)))
    clear hA5 hb5 CG2 X4 R4 S4 T4
    obtain ⟨⟨x0, x1, x2⟩, _⟩ := X5.out
    obtain ⟨⟨z0, z1, z2⟩, _⟩ := T5.out
    have K1 := c_keep t t hs hs _ _ _ X5.out.2.1 T5.out.a
    rw [eqT_self] at K1
    have K1 := Lib.hid K1
    go_wp2_with fail
    refine K1.out.mono ?_
    rintro e w6 ⟨rfl, hb6⟩
    have Y6 := Lib.hid (Y5.out.bel hb6)
    have R6 := Lib.hid (R5.out.bel hb6)
    have S6 := Lib.hid (S5.out.bel hb6)
    have T6 := Lib.hid (T5.out.bel hb6)
    clear hb6 K1 X5 R5 S5 T5 Y5 x0 x1 x2 z0 z1 z2
    obtain ⟨⟨x0, x1, x2⟩, _⟩ := Y6.out
    obtain ⟨_, ⟨z0, z1, z2⟩, _⟩ := T6.out
    have K2 := c_keep u u hs2 hs2 _ _ _ Y6.out.2.1 T6.out.b
    rw [eqT_self] at K2
    have K2 := Lib.hid K2
    go_wp2_with fail
    refine K2.out.mono ?_
    rintro e w7 ⟨rfl, hb7⟩
    have R7 := Lib.hid (R6.out.bel hb7)
    have S7 := Lib.hid (S6.out.bel hb7)
    have T7 := Lib.hid (T6.out.bel hb7)
    clear hb7 K2 R6 S6 T6 Y6 x0 x1 x2 z0 z1 z2
    go_upto_region 16 with (fail)
    obtain ⟨m, hm, he⟩ := cut_at cut p1 p3 n2 n3
    rw [he]
    have hm2 : m < p2 := by have := Q.out.2.2.2; omega
    obtain ⟨q, hq⟩ : ∃ q, q = p1 + m := ⟨_, rfl⟩
    rw [← hq]
    have G4 := G3.out m (by have := Q.out.2.1; omega)
    rw [← hq] at G4
    have hq1 : p1 ≤ q := by omega
    have hq2 : q ≤ p3 := by omega
    have hcap : p3 ≤ c4 := by obtain ⟨a, c, h0, h1, _⟩ := R7.out; cases h0; have := Q.out.2.2.1; omega
    have m1 : (0 : Int) ≤ (q : Int) := by omega
    have m2 : (q : Int) ≤ (c4 : Int) := by omega
    have m3 : q ≤ c4 := by omega
    have RQ : RdBy ((packT t ++ packT u).take q) (.slice a4 q c4) w7 := by
      have h1 := R7.out
      rw [Q.out.2.2.1] at h1
      exact h1.first (by have := Q.out.2.2.1; omega)
    have CG3 := Lib.hid (c_get_no _ _ _ G4 (byteL_take HBL.out _) (by have := Q.out.2.2.1; simp; omega) w7 _ RQ)
    clear G4 hm he hm2 hq RQ G3
    go_wp2_with fail
    refine CG3.out.mono ?_
    rintro e w8 ⟨a7, c7, rfl, hA8, hb8⟩
    have R8 := Lib.hid ((R7.out.bel hb8).bel (below_al w8 (.cells #[.int .i64 0, .int .i64 0, .slice a7 0 c7] 24)))
    have S8 := Lib.hid ((S7.out.bel hb8).bel (below_al w8 (.cells #[.int .i64 0, .int .i64 0, .slice a7 0 c7] 24)))
    have T8 := Lib.hid ((T7.out.bel hb8).bel (below_al w8 (.cells #[.int .i64 0, .int .i64 0, .slice a7 0 c7] 24)))
    clear hA8 hb8 CG3 R7 S7 T7
    go_wp2_with fail
    have o1 : (0 : Int) ≤ (p1 : Int) := by omega
    have o2 : (p1 : Int) ≤ (p3 : Int) := by omega
    have o3 : (p3 : Int) ≤ (c4 : Int) := by omega
    have o4 : ¬ c4 = p1 := by omega
    have o5 : p1 ≤ p3 := by omega
    have PB : Hid (∀ W : World, Grw (w8.alloc (.cells #[.int .i64 0, .int .i64 0, .slice a7 0 c7] 24)) W → Calls Try.prog 39 #[.slice a3 p1 c3, .slice (a4.map fun x => x.add p1) (p3 - p1) (c4 - p1)] W fun e w' => e = .returned (.bool (eqT t u)) ∧ Below W.heap.size W w') := fun W hW => by
      have h1 := R8.out.bel hW
      have h2 := S8.out.bel hW
      rw [Q.out.2.2.1] at h1
      have h3 := h1.part (c := p1) (n := p2) n4 (by have := Q.out.2.2.1; have := Q.out.2.2.2; omega)
      have h4 : ((packT t ++ packT u).drop p1).take p2 = packT u := by rw [Q.out.1, List.drop_left, Q.out.2.1, List.take_length]
      rw [h4, show p2 = p3 - p1 by have := Q.out.2.2.2; omega] at h3
      have := bytes_any (packT t) (packT u) (by have := Q.out.1; omega) (by have := Q.out.2.1; have := Q.out.2.2.2; omega) W _ _ h2 h3
      rw [HEQ.out] at this
      exact this
    have PK : Hid (∀ W : World, Grw (w8.alloc (.cells #[.int .i64 0, .int .i64 0, .slice a7 0 c7] 24)) W → Calls Try.prog 24 #[.agg #[.int .i64 t.k, .int .i64 t.n, .slice a1 t.kids.length c1], .agg #[.int .i64 u.k, .int .i64 u.n, .slice a2 u.kids.length c2]] W fun e w' => e = .returned (.bool (eqT t u)) ∧ Below W.heap.size W w') := fun W hW =>
      c_keep t u hs hs2 W _ _ (T8.out.bel hW).a (T8.out.bel hW).b
    obtain ⟨b, hb⟩ : ∃ b, b = eqT t u := ⟨_, rfl⟩
    rw [← hb] at PB PK
    clear hb
    refine wp_region_rel (by kernel_rfl) (by kernel_rfl) (by kernel_rfl) ?_
    apply RelWalk.rest
    · kernel_rfl
    · intro X _ W hW hcl
      obtain ⟨⟨x0, x1, x2⟩, ⟨y0, y1, y2⟩, _⟩ := T8.out
      have k0 := fun q => gcell (hW q) x0
      have k1 := fun q => gcell (hW q) x1
      have k2 := fun q => gcell (hW q) x2
      have k3 := fun q => gcell (hW q) y0
      have k4 := fun q => gcell (hW q) y1
      have k5 := fun q => gcell (hW q) y2
      have C1 := Lib.hid (fun q => into hcl (PB.out (W q) (hW q)))
      have C2 := Lib.hid (fun q => into hcl (PK.out (W q) (hW q)))
      have C3 := Lib.hid (fun q => into hcl (wakes3_any (W q)))
      clear x0 x1 x2 y0 y1 y2
      repeat (go_big_quiet_step (first | (with_reducible exact C1.out _) | (with_reducible exact C2.out _) | (with_reducible exact C3.out _)))
      exact wpQuiet_nil rfl
    intro g w9 hg _
    have B9 := Lib.hid (T8.out.bel hg).w
    clear hg
    simp only [Spread]
    go_wp2_with fail
    go_ret
    exact ⟨rfl, B9.out⟩
end Go.Proofs.Ythcjjfgigbgdkaa
