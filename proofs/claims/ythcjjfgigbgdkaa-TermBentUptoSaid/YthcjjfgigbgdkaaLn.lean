/- TermBent: the Go text returns true for any term that is not greater than the second form's bound, and any number. -/
import Derived.Test.YthcjjfgigbgdkaaRe
import Derived.IntWalk
namespace Go.Proofs.Ythcjjfgigbgdkaa
open Go.RowKit Go.Joins
set_option linter.unusedVariables false

theorem tm_k (k n : Int) (l : List Tm) : Tm.k (.node k n l) = k := rfl
theorem tm_n (k n : Int) (l : List Tm) : Tm.n (.node k n l) = n := rfl
theorem tm_kids (k n : Int) (l : List Tm) : Tm.kids (.node k n l) = l := rfl
theorem bent_of {t x : Tm} (h6 : size x ≤ 6000) (h2 : depth x ≤ 200) (hf : formedB x = false) (hF : Fits x) : checkE x = 1 ∧ scopeT x 100 100 = false ∧ size x ≤ 1048576 ∧ Fits x := by
  have hc : checkE x = 1 := by rw [checkE, if_neg (by omega), if_neg (by omega), if_pos hf]
  refine ⟨hc, ?_, by omega, hF⟩
  rw [scopeT, hc]; simp
theorem formed_of_check {t : Tm} (h : checkE t = 0) : (t.kids.length : Int) = kidsI t.k ∧ (if t.kids.length = 0 then decide (0 ≤ t.n) && decide (t.n ≤ 65535) else decide (t.n = 0)) = true ∧ formedL t.kids = true := by
  have hf := check_formed h
  rw [formedB_eq] at hf
  simp only [Bool.and_eq_true] at hf
  exact ⟨by simpa using hf.1.1, hf.1.2, hf.2⟩
theorem bent0 {t : Tm} (hF : Fits t) (hc : checkE t = 0) (hs : size t < 6000) (hd : depth t < 200) : checkE (.node 14 t.n t.kids) = 1 ∧ scopeT (.node 14 t.n t.kids) 100 100 = false ∧ size (.node 14 t.n t.kids) ≤ 1048576 ∧ Fits (.node 14 t.n t.kids) := by
  refine bent_of (t := t) (by have := size_eq t; simp only [size]; omega) (by have := depth_eq t; simp only [depth]; omega) ?_ (.mk _ _ _ (by unfold I64; omega) hF.n hF.kids)
  rw [formedB]
  have : decide ((t.kids.length : Int) = kidsI 14) = false := by rw [decide_eq_false_iff_not]; have : kidsI 14 = -1 := by decide
                                                                 omega
  rw [this]; rfl
theorem bent1 {t : Tm} (hF : Fits t) (hs : size t < 6000) (hd : depth t < 200) (n : Int) (hn : I64 n) (hbad : (if t.kids.length = 0 then decide (0 ≤ n) && decide (n ≤ 65535) else decide (n = 0)) = false) :
    checkE (.node t.k n t.kids) = 1 ∧ scopeT (.node t.k n t.kids) 100 100 = false ∧ size (.node t.k n t.kids) ≤ 1048576 ∧ Fits (.node t.k n t.kids) := by
  refine bent_of (t := t) (by have := size_eq t; simp only [size]; omega) (by have := depth_eq t; simp only [depth]; omega) ?_ (.mk _ _ _ hF.k hn hF.kids)
  rw [formedB, hbad]; simp
theorem bent2 {t : Tm} (hF : Fits t) (hc : checkE t = 0) (hs : size t < 6000) (hd : depth t < 200) : checkE (.node t.k t.n (t.kids ++ [.node 2 0 []])) = 1 ∧ scopeT (.node t.k t.n (t.kids ++ [.node 2 0 []])) 100 100 = false ∧ size (.node t.k t.n (t.kids ++ [.node 2 0 []])) ≤ 1048576 ∧ Fits (.node t.k t.n (t.kids ++ [.node 2 0 []])) := by
  obtain ⟨h1, _, _⟩ := formed_of_check hc
  refine bent_of (t := t) (by have := size_eq t; simp only [size, sizeL_append, sizeL]; omega) (by have := depth_eq t; simp only [depth, depthL_append, depthL]; omega) ?_ (.mk _ _ _ hF.k hF.n (fun u hu => ?_))
  · rw [formedB]
    have : decide (((t.kids ++ [Tm.node 2 0 []]).length : Int) = kidsI t.k) = false := by rw [decide_eq_false_iff_not]; simp; omega
    rw [this]; rfl
  · rcases List.mem_append.1 hu with hu | hu
    · exact hF.kids u hu
    · obtain rfl := List.mem_singleton.1 hu
      exact .mk _ _ _ (by unfold I64; omega) (by unfold I64; omega) (by simp)
theorem bent3 {t : Tm} (hF : Fits t) (hc : checkE t = 0) (hs : size t < 6000) (hd : depth t < 200) (hl : 0 < t.kids.length) : checkE (.node t.k t.n (t.kids.take (t.kids.length - 1))) = 1 ∧ scopeT (.node t.k t.n (t.kids.take (t.kids.length - 1))) 100 100 = false ∧ size (.node t.k t.n (t.kids.take (t.kids.length - 1))) ≤ 1048576 ∧ Fits (.node t.k t.n (t.kids.take (t.kids.length - 1))) := by
  obtain ⟨h1, _, _⟩ := formed_of_check hc
  have e : t.kids.take (t.kids.length - 1) ++ t.kids.drop (t.kids.length - 1) = t.kids := List.take_append_drop _ _
  have hz := sizeL_append (t.kids.take (t.kids.length - 1)) (t.kids.drop (t.kids.length - 1))
  have hz2 := depthL_append (t.kids.take (t.kids.length - 1)) (t.kids.drop (t.kids.length - 1))
  rw [e] at hz hz2
  refine bent_of (t := t) (by have := size_eq t; simp only [size]; omega) (by have := depth_eq t; simp only [depth]; omega) ?_ (.mk _ _ _ hF.k hF.n (fun u hu => hF.kids u (List.mem_of_mem_take hu)))
  rw [formedB]
  have : decide (((t.kids.take (t.kids.length - 1)).length : Int) = kidsI t.k) = false := by rw [decide_eq_false_iff_not]; simp; omega
  rw [this]; rfl
theorem at_cap {w : World} {l : List Tm} {a : Option Addr} {n c : Nat} (h : At w l (.slice a n c)) : l.length ≤ c := by
  cases h with
  | nl => simp
  | em a cap => simp
  | row l b off cap vs h1 => exact h1
/-- A shorter slice of the same row. -/
theorem at_take {w : World} {l : List Tm} {a : Option Addr} {n cap : Nat} (h : At w l (.slice a n cap)) (m : Nat) (hm : m ≤ l.length) (hl : 0 < l.length) : At w (l.take m) (.slice a m cap) := by
  obtain ⟨b, off, cap', vs, he, h1, h2, kk, kn, kv, ks⟩ := h.pos hl
  cases he
  by_cases h0 : m = 0
  · subst h0; rw [List.take_zero]; exact .em _ _
  · have hlen : (l.take m).length = m := by simp; omega
    have := At.row (w := w) (l.take m) b off cap vs (by omega) h2 (fun i hi => by rw [List.getElem_take]; exact kk i (by omega)) (fun i hi => by rw [List.getElem_take]; exact kn i (by omega)) (fun i hi => kv i (by omega)) (fun i hi => by rw [List.getElem_take]; exact ks i (by omega))
    rwa [hlen] at this
/-- An own row of Kids with one term more. -/
theorem at_snoc {w : World} {base : Nat} {v : Value} {l : List Tm} {u : Tm} {vs : Nat → Value} {x : Value} (h : w.ownsRow base 24 3 v (l.length + 1) (cells3 l vs ++ [.int .i64 u.k, .int .i64 u.n, x])) (hs : ∀ i (_ : i < l.length), At w l[i].kids (vs i)) (hx : At w u.kids x) : At w (l ++ [u]) v := by
  have hlen : (l ++ [u]).length = l.length + 1 := by simp
  refine at_of_row (vs := fun i => if i < l.length then vs i else x) (base := base) ?_ (fun i hi => ?_)
  · rw [hlen, cells3_snoc l u vs _ (fun i hi => if_pos hi), if_neg (by omega)]; exact h
  · by_cases hil : i < l.length
    · rw [if_pos hil, List.getElem_append_left hil]; exact hs i hil
    · rw [if_neg hil]
      have : i = l.length := by omega
      subst this
      simpa using hx

theorem mod4 (a : Int) : (IntKind.u64.wrap a).tmod 4 = 0 ∨ (IntKind.u64.wrap a).tmod 4 = 1 ∨ (IntKind.u64.wrap a).tmod 4 = 2 ∨ (IntKind.u64.wrap a).tmod 4 = 3 := by
  have hu : 0 ≤ IntKind.u64.wrap a := by
    simp [IntKind.wrap, IntKind.signed, IntKind.bits]
    omega
  rw [Int.tmod_eq_emod_of_nonneg hu]
  have h1 := Int.emod_nonneg (IntKind.u64.wrap a) (show (4 : Int) ≠ 0 by omega)
  have h2 := Int.emod_lt_of_pos (IntKind.u64.wrap a) (show (0 : Int) < 4 by omega)
  omega
set_option maxRecDepth 100000 in
set_option maxHeartbeats 1000000 in
theorem lbent_any (t : Tm) (what : Int) (hF : Fits t) (hs : size t ≤ 1048576) (w : World) (v : Value) (hA : At w t.kids v) :
    Calls Try.prog 7 #[tv t v, .int .i64 what] w fun e w' => e = .returned (.bool true) ∧ Below w.heap.size w w' := by
  have HH := heavy1 t hs w v hA
  obtain ⟨a1, c1, rfl⟩ := hA.shape
  clear hA
  unfold tv
  have CK : Hid (∀ W v, At W t.kids v → Calls Try.prog 18 #[.agg #[.int .i64 t.k, .int .i64 t.n, v]] W fun e w' => e = .returned (.int .i64 (checkE t)) ∧ Below W.heap.size W w') := fun W v hA => c_rcheck t hs W v hA
  have CT : Hid (∀ W v, At W t.kids v → Calls Try.prog 17 #[.agg #[.int .i64 t.k, .int .i64 t.n, v]] W fun e w' => e = .returned (.int .i64 (checkE t)) ∧ Below W.heap.size W w') := fun W v hA => c_check t hF hs W v hA
  by_cases hh : heavyB [t] = true
  · rw [hh] at HH
    have HH := Lib.hid HH
    clear hh
    go_enter Try.func7, Try.ntmps7
    go_wp2_with (go_at_call 15; refine HH.out.mono ?_; rintro e w1 ⟨rfl, hb1⟩; have T1 := Lib.hid hb1; clear hb1)
    go_ret
    exact ⟨rfl, T1.out.2.2⟩
  rw [Bool.eq_false_iff.2 hh] at HH
  have HH := Lib.hid HH
  clear hh
  by_cases hc : checkE t = 0
  rotate_left
  · have e1 : (checkE t != 0) = true := by simpa using hc
    revert e1 CK
    generalize checkE t = ck
    intro CK e1
    clear hc CT
    go_enter Try.func7, Try.ntmps7
    go_wp2_with (first | (go_at_call 15; refine HH.out.mono ?_; rintro e w1 ⟨rfl, hb1⟩; have T1 := Lib.hid hb1; obtain ⟨⟨x0, x1, x2⟩, _⟩ := T1.out; clear hb1) | (go_at_call 18; refine (CK.out _ _ T1.out.2.1).mono ?_; rintro e w2 ⟨rfl, hb2⟩; have T2 := Lib.hid (T1.out.bel hb2); clear hb2 x0 x1 x2 T1))
    go_ret
    exact ⟨rfl, T2.out.2.2⟩
  by_cases hz : 6000 ≤ size t
  · have e2 : (6000 : Int) ≤ (size t : Int) := by omega
    rw [hc] at CK
    clear hc hz CT
    go_enter Try.func7, Try.ntmps7
    go_wp2_with (first | (go_at_call 15; refine HH.out.mono ?_; rintro e w1 ⟨rfl, hb1⟩; have T1 := Lib.hid hb1; obtain ⟨⟨x0, x1, x2⟩, _⟩ := T1.out; clear hb1) | (go_at_call 18; refine (CK.out _ _ T1.out.2.1).mono ?_; rintro e w2 ⟨rfl, hb2⟩; have T2 := Lib.hid (T1.out.bel hb2); obtain ⟨⟨y0, y1, y2⟩, _⟩ := T2.out; clear hb2 x0 x1 x2 T1) | (go_at_call 20; refine (c_rsize t hs _ _ T2.out.2.1).mono ?_; rintro e w3 ⟨rfl, hb3⟩; have T3 := Lib.hid (T2.out.bel hb3); clear hb3 y0 y1 y2 T2))
    go_ret
    exact ⟨rfl, T3.out.2.2⟩
  have e2 : decide ((6000 : Int) ≤ (size t : Int)) = false := by simp; omega
  by_cases hd : 200 ≤ depth t
  · have e3 : (200 : Int) ≤ (depth t : Int) := by omega
    rw [hc] at CK
    clear hc hz hd CT
    go_enter Try.func7, Try.ntmps7
    go_wp2_with (first | (go_at_call 15; refine HH.out.mono ?_; rintro e w1 ⟨rfl, hb1⟩; have T1 := Lib.hid hb1; obtain ⟨⟨x0, x1, x2⟩, _⟩ := T1.out; clear hb1) | (go_at_call 18; refine (CK.out _ _ T1.out.2.1).mono ?_; rintro e w2 ⟨rfl, hb2⟩; have T2 := Lib.hid (T1.out.bel hb2); obtain ⟨⟨y0, y1, y2⟩, _⟩ := T2.out; clear hb2 x0 x1 x2 T1) | (go_at_call 20; refine (c_rsize t hs _ _ T2.out.2.1).mono ?_; rintro e w3 ⟨rfl, hb3⟩; have T3 := Lib.hid (T2.out.bel hb3); obtain ⟨⟨z0, z1, z2⟩, _⟩ := T3.out; clear hb3 y0 y1 y2 T2) | (go_at_call 22; refine (c_rdepth t hs _ _ T3.out.2.1).mono ?_; rintro e w4 ⟨rfl, hb4⟩; have T4 := Lib.hid (T3.out.bel hb4); clear hb4 z0 z1 z2 T3))
    go_ret
    exact ⟨rfl, T4.out.2.2⟩
  have e3 : decide ((200 : Int) ≤ (depth t : Int)) = false := by simp; omega
  rw [hc] at CK CT
  have hlen : t.kids.length < 6000 := by have := length_le_sizeL t.kids; have := size_eq t; omega
  have hr := mod4 what
  rcases hr with hm | hm | hm | hm
  · have hX := Lib.hid (bent0 hF hc (by omega) (by omega))
    clear hc hz hd
    go_enter Try.func7, Try.ntmps7
    go_wp2_with (first | (go_at_call 15; refine HH.out.mono ?_; rintro e w1 ⟨rfl, hb1⟩; have T1 := Lib.hid hb1; obtain ⟨⟨x0, x1, x2⟩, _⟩ := T1.out; clear hb1) | (go_at_call 18; refine (CK.out _ _ T1.out.2.1).mono ?_; rintro e w2 ⟨rfl, hb2⟩; have T2 := Lib.hid (T1.out.bel hb2); obtain ⟨⟨y0, y1, y2⟩, _⟩ := T2.out; clear hb2 x0 x1 x2 T1) | (go_at_call 20; refine (c_rsize t hs _ _ T2.out.2.1).mono ?_; rintro e w3 ⟨rfl, hb3⟩; have T3 := Lib.hid (T2.out.bel hb3); obtain ⟨⟨z0, z1, z2⟩, _⟩ := T3.out; clear hb3 y0 y1 y2 T2) | (go_at_call 22; refine (c_rdepth t hs _ _ T3.out.2.1).mono ?_; rintro e w4 ⟨rfl, hb4⟩; have T4 := Lib.hid (T3.out.bel hb4); obtain ⟨⟨u0, u1, u2⟩, _⟩ := T4.out; clear hb4 z0 z1 z2 T3) | (go_at_call 16; refine (c_twin t hs _ _ T4.out.2.1).mono ?_; rintro e w5 ⟨a5, c5, rfl, hs5, hr5, hb5⟩; have q0 := gcell hb5 u0; have q1 := gcell hb5 u1; have q2 := gcell hb5 u2; have hlt5 : w.heap.size < w5.heap.size := (World.block_lt_of_cell? w5 ⟨w.heap.size, 0, none⟩ q0); have hcp5 := at_cap hs5.at; have HS5 := Lib.hid hs5; have HR5 := Lib.hid hr5; have T5 := Lib.hid (T4.out.bel hb5); have HG5 := Lib.hid hb5; clear hs5 hr5 hb5 u0 u1 u2))
    have OX := Lib.hid (one_start w5 (.node 14 t.n t.kids) (.slice a5 t.kids.length c5) (HS5.out.at))
    have TX := Lib.hid (fun o => T5.out.bel (below_al w5 o))
    have TA := Lib.hid (fun o => (T5.out.bel (below_al w5 o)).2.1)
    obtain ⟨f1, f2, f3, f4⟩ := hX.out
    have CX : Hid (∀ W v, At W (Tm.kids (.node 14 t.n t.kids)) v → Calls Try.prog 17 #[.agg #[.int .i64 (Tm.k (.node 14 t.n t.kids)), .int .i64 (Tm.n (.node 14 t.n t.kids)), v]] W fun e w' => e = .returned (.int .i64 1) ∧ Below W.heap.size W w') := fun W v hA => by have := c_check (.node 14 t.n t.kids) f4 f3 W v hA; rw [f1] at this; exact this
    have SX : Hid (∀ W v, At W (Tm.kids (.node 14 t.n t.kids)) v → Calls Try.prog 25 #[.agg #[.int .i64 (Tm.k (.node 14 t.n t.kids)), .int .i64 (Tm.n (.node 14 t.n t.kids)), v], .int .i64 100, .int .i64 100] W fun e w' => e = .returned (.bool false) ∧ Below W.heap.size W w') := fun W v hA => by have := c_scope (.node 14 t.n t.kids) f4 f3 100 100 W v hA; rw [f2] at this; exact this
    simp only [tm_k, tm_n, tm_kids] at CX SX OX
    clear f1 f2 f3 f4 hX
    go_wp2_with (first | (go_at_call 17; (with_reducible refine (CT.out _ _ (TA.out _)).mono ?_); rintro e w6 ⟨rfl, hb6⟩; have T6 := Lib.hid ((TX.out _).bel (hb6.mono (by simp))); have O6 := Lib.hid (OX.out.bel (hb6.mono (by simp))); have A6 := Lib.hid O6.out.2.1; simp only [tm_kids] at A6; obtain ⟨⟨p0, p1, p2⟩, _⟩ := O6.out; simp only [tm_k, tm_n] at p0 p1; clear hb6 q0 q1 q2 OX) | (go_at_call 17; (with_reducible refine (CX.out _ _ A6.out).mono ?_); rintro e w7 ⟨rfl, hb7⟩; have T7 := Lib.hid (T6.out.bel hb7); have O7 := Lib.hid (O6.out.bel hb7); have A7 := Lib.hid O7.out.2.1; simp only [tm_kids] at A7; obtain ⟨⟨r0, r1, r2⟩, _⟩ := O7.out; simp only [tm_k, tm_n] at r0 r1; clear hb7 p0 p1 p2 O6 T6) | (go_at_call 25; (with_reducible refine (SX.out _ _ A7.out).mono ?_); rintro e w8 ⟨rfl, hb8⟩; have T8 := Lib.hid (T7.out.bel hb8); clear hb8 r0 r1 r2 O7 T7) | (go_at_call 30; refine (wakes_any _).mono ?_; rintro e w9 ⟨rfl, hb9⟩; have T9 := Lib.hid (T8.out.bel hb9); clear hb9 T8))
    go_ret
    exact ⟨rfl, T9.out.2.2⟩
  · by_cases hl : 0 < t.kids.length
    · have hX := Lib.hid (bent1 hF (by omega) (by omega) 1 (by unfold I64; omega) (by rw [if_neg (by omega)]; rfl))
      have e4 : (0 : Int) < (t.kids.length : Int) := by omega
      clear hc hz hd hl
      go_enter Try.func7, Try.ntmps7
      go_wp2_with (first | (go_at_call 15; refine HH.out.mono ?_; rintro e w1 ⟨rfl, hb1⟩; have T1 := Lib.hid hb1; obtain ⟨⟨x0, x1, x2⟩, _⟩ := T1.out; clear hb1) | (go_at_call 18; refine (CK.out _ _ T1.out.2.1).mono ?_; rintro e w2 ⟨rfl, hb2⟩; have T2 := Lib.hid (T1.out.bel hb2); obtain ⟨⟨y0, y1, y2⟩, _⟩ := T2.out; clear hb2 x0 x1 x2 T1) | (go_at_call 20; refine (c_rsize t hs _ _ T2.out.2.1).mono ?_; rintro e w3 ⟨rfl, hb3⟩; have T3 := Lib.hid (T2.out.bel hb3); obtain ⟨⟨z0, z1, z2⟩, _⟩ := T3.out; clear hb3 y0 y1 y2 T2) | (go_at_call 22; refine (c_rdepth t hs _ _ T3.out.2.1).mono ?_; rintro e w4 ⟨rfl, hb4⟩; have T4 := Lib.hid (T3.out.bel hb4); obtain ⟨⟨u0, u1, u2⟩, _⟩ := T4.out; clear hb4 z0 z1 z2 T3) | (go_at_call 16; refine (c_twin t hs _ _ T4.out.2.1).mono ?_; rintro e w5 ⟨a5, c5, rfl, hs5, hr5, hb5⟩; have q0 := gcell hb5 u0; have q1 := gcell hb5 u1; have q2 := gcell hb5 u2; have hlt5 : w.heap.size < w5.heap.size := (World.block_lt_of_cell? w5 ⟨w.heap.size, 0, none⟩ q0); have hcp5 := at_cap hs5.at; have HS5 := Lib.hid hs5; have HR5 := Lib.hid hr5; have T5 := Lib.hid (T4.out.bel hb5); have HG5 := Lib.hid hb5; clear hs5 hr5 hb5 u0 u1 u2))
      have OX := Lib.hid (one_start w5 (.node t.k 1 t.kids) (.slice a5 t.kids.length c5) (HS5.out.at))
      have TX := Lib.hid (fun o => T5.out.bel (below_al w5 o))
      have TA := Lib.hid (fun o => (T5.out.bel (below_al w5 o)).2.1)
      obtain ⟨f1, f2, f3, f4⟩ := hX.out
      have CX : Hid (∀ W v, At W (Tm.kids (.node t.k 1 t.kids)) v → Calls Try.prog 17 #[.agg #[.int .i64 (Tm.k (.node t.k 1 t.kids)), .int .i64 (Tm.n (.node t.k 1 t.kids)), v]] W fun e w' => e = .returned (.int .i64 1) ∧ Below W.heap.size W w') := fun W v hA => by have := c_check (.node t.k 1 t.kids) f4 f3 W v hA; rw [f1] at this; exact this
      have SX : Hid (∀ W v, At W (Tm.kids (.node t.k 1 t.kids)) v → Calls Try.prog 25 #[.agg #[.int .i64 (Tm.k (.node t.k 1 t.kids)), .int .i64 (Tm.n (.node t.k 1 t.kids)), v], .int .i64 100, .int .i64 100] W fun e w' => e = .returned (.bool false) ∧ Below W.heap.size W w') := fun W v hA => by have := c_scope (.node t.k 1 t.kids) f4 f3 100 100 W v hA; rw [f2] at this; exact this
      simp only [tm_k, tm_n, tm_kids] at CX SX OX
      clear f1 f2 f3 f4 hX
      go_wp2_with (first | (go_at_call 17; (with_reducible refine (CT.out _ _ (TA.out _)).mono ?_); rintro e w6 ⟨rfl, hb6⟩; have T6 := Lib.hid ((TX.out _).bel (hb6.mono (by simp))); have O6 := Lib.hid (OX.out.bel (hb6.mono (by simp))); have A6 := Lib.hid O6.out.2.1; simp only [tm_kids] at A6; obtain ⟨⟨p0, p1, p2⟩, _⟩ := O6.out; simp only [tm_k, tm_n] at p0 p1; clear hb6 q0 q1 q2 OX) | (go_at_call 17; (with_reducible refine (CX.out _ _ A6.out).mono ?_); rintro e w7 ⟨rfl, hb7⟩; have T7 := Lib.hid (T6.out.bel hb7); have O7 := Lib.hid (O6.out.bel hb7); have A7 := Lib.hid O7.out.2.1; simp only [tm_kids] at A7; obtain ⟨⟨r0, r1, r2⟩, _⟩ := O7.out; simp only [tm_k, tm_n] at r0 r1; clear hb7 p0 p1 p2 O6 T6) | (go_at_call 25; (with_reducible refine (SX.out _ _ A7.out).mono ?_); rintro e w8 ⟨rfl, hb8⟩; have T8 := Lib.hid (T7.out.bel hb8); clear hb8 r0 r1 r2 O7 T7) | (go_at_call 30; refine (wakes_any _).mono ?_; rintro e w9 ⟨rfl, hb9⟩; have T9 := Lib.hid (T8.out.bel hb9); clear hb9 T8))
      go_ret
      exact ⟨rfl, T9.out.2.2⟩
    · have hl0 : t.kids.length = 0 := by omega
      have hX := Lib.hid (bent1 hF (by omega) (by omega) 65536 (by unfold I64; omega) (by rw [if_pos hl0]; rfl))
      have e4 : ¬ 0 < t.kids.length := by omega
      clear hc hz hd hl hl0
      go_enter Try.func7, Try.ntmps7
      go_wp2_with (first | (go_at_call 15; refine HH.out.mono ?_; rintro e w1 ⟨rfl, hb1⟩; have T1 := Lib.hid hb1; obtain ⟨⟨x0, x1, x2⟩, _⟩ := T1.out; clear hb1) | (go_at_call 18; refine (CK.out _ _ T1.out.2.1).mono ?_; rintro e w2 ⟨rfl, hb2⟩; have T2 := Lib.hid (T1.out.bel hb2); obtain ⟨⟨y0, y1, y2⟩, _⟩ := T2.out; clear hb2 x0 x1 x2 T1) | (go_at_call 20; refine (c_rsize t hs _ _ T2.out.2.1).mono ?_; rintro e w3 ⟨rfl, hb3⟩; have T3 := Lib.hid (T2.out.bel hb3); obtain ⟨⟨z0, z1, z2⟩, _⟩ := T3.out; clear hb3 y0 y1 y2 T2) | (go_at_call 22; refine (c_rdepth t hs _ _ T3.out.2.1).mono ?_; rintro e w4 ⟨rfl, hb4⟩; have T4 := Lib.hid (T3.out.bel hb4); obtain ⟨⟨u0, u1, u2⟩, _⟩ := T4.out; clear hb4 z0 z1 z2 T3) | (go_at_call 16; refine (c_twin t hs _ _ T4.out.2.1).mono ?_; rintro e w5 ⟨a5, c5, rfl, hs5, hr5, hb5⟩; have q0 := gcell hb5 u0; have q1 := gcell hb5 u1; have q2 := gcell hb5 u2; have hlt5 : w.heap.size < w5.heap.size := (World.block_lt_of_cell? w5 ⟨w.heap.size, 0, none⟩ q0); have hcp5 := at_cap hs5.at; have HS5 := Lib.hid hs5; have HR5 := Lib.hid hr5; have T5 := Lib.hid (T4.out.bel hb5); have HG5 := Lib.hid hb5; clear hs5 hr5 hb5 u0 u1 u2))
      have OX := Lib.hid (one_start w5 (.node t.k 65536 t.kids) (.slice a5 t.kids.length c5) (HS5.out.at))
      have TX := Lib.hid (fun o => T5.out.bel (below_al w5 o))
      have TA := Lib.hid (fun o => (T5.out.bel (below_al w5 o)).2.1)
      obtain ⟨f1, f2, f3, f4⟩ := hX.out
      have CX : Hid (∀ W v, At W (Tm.kids (.node t.k 65536 t.kids)) v → Calls Try.prog 17 #[.agg #[.int .i64 (Tm.k (.node t.k 65536 t.kids)), .int .i64 (Tm.n (.node t.k 65536 t.kids)), v]] W fun e w' => e = .returned (.int .i64 1) ∧ Below W.heap.size W w') := fun W v hA => by have := c_check (.node t.k 65536 t.kids) f4 f3 W v hA; rw [f1] at this; exact this
      have SX : Hid (∀ W v, At W (Tm.kids (.node t.k 65536 t.kids)) v → Calls Try.prog 25 #[.agg #[.int .i64 (Tm.k (.node t.k 65536 t.kids)), .int .i64 (Tm.n (.node t.k 65536 t.kids)), v], .int .i64 100, .int .i64 100] W fun e w' => e = .returned (.bool false) ∧ Below W.heap.size W w') := fun W v hA => by have := c_scope (.node t.k 65536 t.kids) f4 f3 100 100 W v hA; rw [f2] at this; exact this
      simp only [tm_k, tm_n, tm_kids] at CX SX OX
      clear f1 f2 f3 f4 hX
      go_wp2_with (first | (go_at_call 17; (with_reducible refine (CT.out _ _ (TA.out _)).mono ?_); rintro e w6 ⟨rfl, hb6⟩; have T6 := Lib.hid ((TX.out _).bel (hb6.mono (by simp))); have O6 := Lib.hid (OX.out.bel (hb6.mono (by simp))); have A6 := Lib.hid O6.out.2.1; simp only [tm_kids] at A6; obtain ⟨⟨p0, p1, p2⟩, _⟩ := O6.out; simp only [tm_k, tm_n] at p0 p1; clear hb6 q0 q1 q2 OX) | (go_at_call 17; (with_reducible refine (CX.out _ _ A6.out).mono ?_); rintro e w7 ⟨rfl, hb7⟩; have T7 := Lib.hid (T6.out.bel hb7); have O7 := Lib.hid (O6.out.bel hb7); have A7 := Lib.hid O7.out.2.1; simp only [tm_kids] at A7; obtain ⟨⟨r0, r1, r2⟩, _⟩ := O7.out; simp only [tm_k, tm_n] at r0 r1; clear hb7 p0 p1 p2 O6 T6) | (go_at_call 25; (with_reducible refine (SX.out _ _ A7.out).mono ?_); rintro e w8 ⟨rfl, hb8⟩; have T8 := Lib.hid (T7.out.bel hb8); clear hb8 r0 r1 r2 O7 T7) | (go_at_call 30; refine (wakes_any _).mono ?_; rintro e w9 ⟨rfl, hb9⟩; have T9 := Lib.hid (T8.out.bel hb9); clear hb9 T8))
      go_ret
      exact ⟨rfl, T9.out.2.2⟩
  · have hX := Lib.hid (bent2 hF hc (by omega) (by omega))
    clear hc hz hd
    go_enter Try.func7, Try.ntmps7
    go_wp2_with (first | (go_at_call 15; refine HH.out.mono ?_; rintro e w1 ⟨rfl, hb1⟩; have T1 := Lib.hid hb1; obtain ⟨⟨x0, x1, x2⟩, _⟩ := T1.out; clear hb1) | (go_at_call 18; refine (CK.out _ _ T1.out.2.1).mono ?_; rintro e w2 ⟨rfl, hb2⟩; have T2 := Lib.hid (T1.out.bel hb2); obtain ⟨⟨y0, y1, y2⟩, _⟩ := T2.out; clear hb2 x0 x1 x2 T1) | (go_at_call 20; refine (c_rsize t hs _ _ T2.out.2.1).mono ?_; rintro e w3 ⟨rfl, hb3⟩; have T3 := Lib.hid (T2.out.bel hb3); obtain ⟨⟨z0, z1, z2⟩, _⟩ := T3.out; clear hb3 y0 y1 y2 T2) | (go_at_call 22; refine (c_rdepth t hs _ _ T3.out.2.1).mono ?_; rintro e w4 ⟨rfl, hb4⟩; have T4 := Lib.hid (T3.out.bel hb4); obtain ⟨⟨u0, u1, u2⟩, _⟩ := T4.out; clear hb4 z0 z1 z2 T3) | (go_at_call 16; refine (c_twin t hs _ _ T4.out.2.1).mono ?_; rintro e w5 ⟨a5, c5, rfl, hs5, hr5, hb5⟩; have q0 := gcell hb5 u0; have q1 := gcell hb5 u1; have q2 := gcell hb5 u2; have hlt5 : w.heap.size < w5.heap.size := (World.block_lt_of_cell? w5 ⟨w.heap.size, 0, none⟩ q0); have hcp5 := at_cap hs5.at; have HS5 := Lib.hid hs5; have HR5 := Lib.hid hr5; have T5 := Lib.hid (T4.out.bel hb5); have HG5 := Lib.hid hb5; clear hs5 hr5 hb5 u0 u1 u2))
    have HX := Lib.hid (one_start w5 t (.slice a5 t.kids.length c5) HS5.out.at)
    have TX := Lib.hid (fun o => T5.out.bel (below_al w5 o))
    refine wp_region_rel_tail 4 (by kernel_rfl) (by kernel_rfl) (by kernel_rfl) ?_
    simp only [List.take_succ_cons, List.take_zero]
    simp only [List.drop_succ_cons, List.drop_zero]
    apply RelWalk.next 3
    · kernel_rfl
    · intro X _ W hW hcl
      simp only [List.take_succ_cons, List.take_zero]
      obtain ⟨⟨x0, x1, x2⟩, _⟩ := HX.out
      have k0 := fun q => gcell (hW q) x0
      have k1 := fun q => gcell (hW q) x1
      have k2 := fun q => gcell (hW q) x2
      have cU := Lib.hid (fun q => into hcl (u_any 0 (W q)))
      clear x0 x1 x2
      repeat (go_big_quiet_step (with_reducible exact cU.out _))
      exact wpQuiet_nil rfl
    simp only [List.drop_succ_cons, List.drop_zero]
    refine RelWalk.made0 (fun v s e w => v = .slice (some ⟨s, 0, none⟩) 1 1 ∧ w.heap[s]? = some (.cells #[.int .i64 2, .int .i64 0, .slice none 0 0] 24 (0, 0)) ∧ s < w.heap.size) rfl (by kernel_rfl) (by kernel_rfl) rfl (fun v s e w w' hg h => ⟨h.1, (hg.block s h.2.2).trans h.2.1, Nat.lt_of_lt_of_le h.2.2 hg.size⟩) (fun w2 hg => ?_) ?_
    · go_simp
      exact ⟨below_al w2 _, rfl, World.alloc_heap_new w2 _, by simp⟩
    simp only [Act.put, List.setIfInBounds_toArray, List.set_cons_zero, List.set_cons_succ]
    refine .done fun g w6 hg hpt => ?_
    simp only [Spread]
    rintro v58 ⟨rfl, hbx, hlt⟩
    simp only [Act.put, List.setIfInBounds_toArray, List.set_cons_zero, List.set_cons_succ]
    have hp58 := (hpt.1 58 (List.mem_of_elem_eq_true (by kernel_rfl))).1
    clear hpt
    generalize (g 58).1 = s58 at *
    obtain ⟨vs5, hr5, hk5⟩ := HR5.out
    have hol := hr5.lt
    have hown := (hr5.alloc (.cells #[.int .i64 t.k, .int .i64 t.n, .slice a5 t.kids.length c5] 24)).kept (w' := w6) (row := none) ⟨hg.os, hg.tape, hg.output, hg.size, fun k hk _ => hg.block k hk⟩ (by cases (Value.slice a5 t.kids.length c5).ownBlock <;> simp)
    have hgz := hg.size
    simp only [World.size_alloc] at hgz hp58
    have hz45 := HG5.out.size
    have hm1 : t.kids.length + 1 ≤ maxLen := by unfold maxLen; omega
    have hm2 : (t.kids.length + 1) * 40 ≤ 140737488355328 := by omega
    obtain ⟨i0, hi, hz0, hz1, hz2⟩ := info_parts Try.infoT
    have HN := Lib.hid (World.news_of_block (cs := #[.int .i64 2, .int .i64 0, .slice none 0 0]) hbx)
    have HO := Lib.hid hown
    have HK := Lib.hid hk5
    have HOL := Lib.hid hol
    have hBX := (hg.block w5.heap.size (by simp)).trans (World.alloc_heap_new w5 _)
    have HBX := Lib.hid hBX
    have HG := Lib.hid hg
    clear hr5 hk5 hol hown hbx hBX hg HR5
    go_wp2_with (at_builtin; refine wpList_append_lies _ rfl (.tmp 56) (.tmp 58) 22 rfl w4.heap.size 24 i0 _ 3 40 Try.underlying22 hi hz0 hz1 hz2 rfl (by decide) (.slice a5 t.kids.length c5) t.kids.length _ rfl HO.out ⟨s58, 0, none⟩ 1 1 [.int .i64 2, .int .i64 0, .slice none 0 0] rfl rfl HN.out (by simp [Value.oneCell']) (by decide) hm1 hm2 (by omega) w6.heap.size rfl ?_; intro g7 cap7 w7 hown7 hgrow7 hat7 hlt7; have hbz := (hgrow7.block w5.heap.size (by omega) (fun e => by have := (HOL.out _ e.symm).2; omega)).trans HBX.out; have hbt := hgrow7.block w.heap.size (by omega) (fun e => by have := (HOL.out _ e.symm).1; have := T4.out.2.2.size; have := World.block_lt_of_cell? w4 ⟨w.heap.size, 0, none⟩ T4.out.1.1; simp only at this; omega); obtain ⟨⟨s0, s1, s2⟩, _⟩ := ((TX.out (.cells #[.int .i64 t.k, .int .i64 t.n, .slice a5 t.kids.length c5] 24)).bel HG.out); rw [← World.cell?_of_block hbt] at s0 s1 s2; obtain ⟨⟨z0, z1, z2⟩, ⟨y0, y1, y2⟩⟩ := boxc hbz; have HBZ := Lib.hid hbz; clear hbz hbt)
    have hlt6 : w.heap.size < w7.heap.size := World.block_lt_of_cell? w7 ⟨w.heap.size, 0, none⟩ s0
    have OL := HOL.out
    have blk : ∀ b, b < w5.heap.size → some b ≠ (Value.slice a5 t.kids.length c5).ownBlock → (w7.setCell ⟨w5.heap.size, 2, none⟩ (.slice (some ⟨g7, 0, none⟩) (t.kids.length + 1) cap7)).heap[b]? = w5.heap[b]? := fun b hb hne => by
      rw [Below.heap_setCell _ _ _ _ (by dsimp only; omega)]
      exact ((hgrow7.block b (by omega) hne).trans (HG.out.block b (by simp; omega))).trans (Below.heap_alloc w5 _ b hb)
    have hg7 : g7 ≠ w5.heap.size := by
      rcases hat7 with h | h
      · have := (OL _ h).2; omega
      · omega
    have hA8 : At (w7.setCell ⟨w5.heap.size, 2, none⟩ (.slice (some ⟨g7, 0, none⟩) (t.kids.length + 1) cap7)) t.kids (.slice a1 t.kids.length c1) :=
      ((T4.out.2.1.toS).same (T := fun _ => True) fun b hb => ⟨trivial, (blk b (by omega) (fun e => by have := (OL _ e.symm).1; omega)).trans (HG5.out.block b hb)⟩).at
    have hX8 : At (w7.setCell ⟨w5.heap.size, 2, none⟩ (.slice (some ⟨g7, 0, none⟩) (t.kids.length + 1) cap7)) (t.kids ++ [.node 2 0 []]) (.slice (some ⟨g7, 0, none⟩) (t.kids.length + 1) cap7) := by
      refine at_snoc (u := .node 2 0 []) (x := .slice none 0 0) (ownsRow_setCell_other hown7 (a := ⟨w5.heap.size, 2, none⟩) (by simp [Value.ownBlock]; omega) _) (fun i hi => ?_) .nl
      exact ((HK.out i hi).same (T := fun _ => True) fun b hb => ⟨trivial, blk b hb.2.1 hb.2.2⟩).at
    have hc8 : (w7.setCell ⟨w5.heap.size, 2, none⟩ (.slice (some ⟨g7, 0, none⟩) (t.kids.length + 1) cap7)).cell? ⟨w5.heap.size, 0, none⟩ = some (.int .i64 t.k) ∧ (w7.setCell ⟨w5.heap.size, 2, none⟩ (.slice (some ⟨g7, 0, none⟩) (t.kids.length + 1) cap7)).cell? ⟨w5.heap.size, 1, none⟩ = some (.int .i64 t.n) ∧ (w7.setCell ⟨w5.heap.size, 2, none⟩ (.slice (some ⟨g7, 0, none⟩) (t.kids.length + 1) cap7)).cell? ⟨w5.heap.size, 2, none⟩ = some (.slice (some ⟨g7, 0, none⟩) (t.kids.length + 1) cap7) := (boxc (heap_setCell_same w7 w5.heap.size 2 _ 24 (.slice (some ⟨g7, 0, none⟩) (t.kids.length + 1) cap7) HBZ.out)).1
    have hB8 : Below w.heap.size w (w7.setCell ⟨w5.heap.size, 2, none⟩ (.slice (some ⟨g7, 0, none⟩) (t.kids.length + 1) cap7)) :=
      ((((TX.out (.cells #[.int .i64 t.k, .int .i64 t.n, .slice a5 t.kids.length c5] 24)).bel HG.out).2.2).grown hgrow7 (by omega) (fun k hk => by have := (OL k hk).1; have := T4.out.2.2.size; omega)).setCell (by dsimp only; omega) _
    have T8 := Lib.hid (And.intro hA8 hB8)
    have O8 := Lib.hid (And.intro hc8 hX8)
    clear hA8 hB8 hX8 hc8 blk OL HOL HK HO HN HBX HBZ hown7 hgrow7 hat7 z0 z1 z2 y0 y1 y2
    obtain ⟨f1, f2, f3, f4⟩ := hX.out
    have CX : Hid (∀ W v, At W (Tm.kids (.node t.k t.n (t.kids ++ [.node 2 0 []]))) v → Calls Try.prog 17 #[.agg #[.int .i64 (Tm.k (.node t.k t.n (t.kids ++ [.node 2 0 []]))), .int .i64 (Tm.n (.node t.k t.n (t.kids ++ [.node 2 0 []]))), v]] W fun e w' => e = .returned (.int .i64 1) ∧ Below W.heap.size W w') := fun W v hA => by have := c_check (.node t.k t.n (t.kids ++ [.node 2 0 []])) f4 f3 W v hA; rw [f1] at this; exact this
    have SX : Hid (∀ W v, At W (Tm.kids (.node t.k t.n (t.kids ++ [.node 2 0 []]))) v → Calls Try.prog 25 #[.agg #[.int .i64 (Tm.k (.node t.k t.n (t.kids ++ [.node 2 0 []]))), .int .i64 (Tm.n (.node t.k t.n (t.kids ++ [.node 2 0 []]))), v], .int .i64 100, .int .i64 100] W fun e w' => e = .returned (.bool false) ∧ Below W.heap.size W w') := fun W v hA => by have := c_scope (.node t.k t.n (t.kids ++ [.node 2 0 []])) f4 f3 100 100 W v hA; rw [f2] at this; exact this
    simp only [tm_k, tm_n, tm_kids] at CX SX
    clear f1 f2 f3 f4 hX
    revert T8 O8
    generalize w7.setCell ⟨w5.heap.size, 2, none⟩ (.slice (some ⟨g7, 0, none⟩) (t.kids.length + 1) cap7) = w8
    intro T8 O8
    have TA := Lib.hid T8.out.1
    go_wp2_with (first | (go_at_call 17; (with_reducible refine (CT.out _ _ TA.out).mono ?_); rintro e w9 ⟨rfl, hb9⟩; have p0 := gcell hb9 O8.out.1.1; have p1 := gcell hb9 O8.out.1.2.1; have p2 := gcell hb9 O8.out.1.2.2; have A9 := Lib.hid (O8.out.2.bel hb9 (Nat.le_refl _)); have B9 := Lib.hid (T8.out.2.trans (hb9.mono T8.out.2.size)); clear hb9 T8) | (go_at_call 17; (with_reducible refine (CX.out _ _ A9.out).mono ?_); rintro e w10 ⟨rfl, hb10⟩; have r0 := gcell hb10 p0; have r1 := gcell hb10 p1; have r2 := gcell hb10 p2; have A10 := Lib.hid (A9.out.bel hb10 (Nat.le_refl _)); have B10 := Lib.hid (B9.out.trans (hb10.mono B9.out.size)); clear hb10 p0 p1 p2 B9) | (go_at_call 25; (with_reducible refine (SX.out _ _ A10.out).mono ?_); rintro e w11 ⟨rfl, hb11⟩; have B11 := Lib.hid (B10.out.trans (hb11.mono B10.out.size)); clear hb11 r0 r1 r2 B10) | (go_at_call 30; refine (wakes_any _).mono ?_; rintro e w12 ⟨rfl, hb12⟩; have B12 := Lib.hid (B11.out.trans (hb12.mono B11.out.size)); clear hb12 B11))
    go_ret
    exact ⟨rfl, B12.out⟩
  · by_cases hl : 0 < t.kids.length
    · have hX := Lib.hid (bent3 hF hc (by omega) (by omega) hl)
      have HL := Lib.hid hl
      have e4 : ((t.kids.length : Int) == 0) = false := beq_eq_false_iff_ne.2 (by omega)
      have e5 : (1 : Int) ≤ (t.kids.length : Int) := by omega
      clear hc hz hd hl
      go_enter Try.func7, Try.ntmps7
      go_wp2_with (first | (go_at_call 15; refine HH.out.mono ?_; rintro e w1 ⟨rfl, hb1⟩; have T1 := Lib.hid hb1; obtain ⟨⟨x0, x1, x2⟩, _⟩ := T1.out; clear hb1) | (go_at_call 18; refine (CK.out _ _ T1.out.2.1).mono ?_; rintro e w2 ⟨rfl, hb2⟩; have T2 := Lib.hid (T1.out.bel hb2); obtain ⟨⟨y0, y1, y2⟩, _⟩ := T2.out; clear hb2 x0 x1 x2 T1) | (go_at_call 20; refine (c_rsize t hs _ _ T2.out.2.1).mono ?_; rintro e w3 ⟨rfl, hb3⟩; have T3 := Lib.hid (T2.out.bel hb3); obtain ⟨⟨z0, z1, z2⟩, _⟩ := T3.out; clear hb3 y0 y1 y2 T2) | (go_at_call 22; refine (c_rdepth t hs _ _ T3.out.2.1).mono ?_; rintro e w4 ⟨rfl, hb4⟩; have T4 := Lib.hid (T3.out.bel hb4); obtain ⟨⟨u0, u1, u2⟩, _⟩ := T4.out; clear hb4 z0 z1 z2 T3) | (go_at_call 16; refine (c_twin t hs _ _ T4.out.2.1).mono ?_; rintro e w5 ⟨a5, c5, rfl, hs5, hr5, hb5⟩; have q0 := gcell hb5 u0; have q1 := gcell hb5 u1; have q2 := gcell hb5 u2; have hlt5 : w.heap.size < w5.heap.size := (World.block_lt_of_cell? w5 ⟨w.heap.size, 0, none⟩ q0); have hcp5 := at_cap hs5.at; have HS5 := Lib.hid hs5; have HR5 := Lib.hid hr5; have T5 := Lib.hid (T4.out.bel hb5); have HG5 := Lib.hid hb5; clear hs5 hr5 hb5 u0 u1 u2))
      have OX := Lib.hid (one_start w5 (.node t.k t.n (t.kids.take (t.kids.length - 1))) (.slice a5 (t.kids.length - 1) c5) (at_take HS5.out.at _ (by omega) HL.out))
      have TX := Lib.hid (fun o => T5.out.bel (below_al w5 o))
      have TA := Lib.hid (fun o => (T5.out.bel (below_al w5 o)).2.1)
      obtain ⟨f1, f2, f3, f4⟩ := hX.out
      have CX : Hid (∀ W v, At W (Tm.kids (.node t.k t.n (t.kids.take (t.kids.length - 1)))) v → Calls Try.prog 17 #[.agg #[.int .i64 (Tm.k (.node t.k t.n (t.kids.take (t.kids.length - 1)))), .int .i64 (Tm.n (.node t.k t.n (t.kids.take (t.kids.length - 1)))), v]] W fun e w' => e = .returned (.int .i64 1) ∧ Below W.heap.size W w') := fun W v hA => by have := c_check (.node t.k t.n (t.kids.take (t.kids.length - 1))) f4 f3 W v hA; rw [f1] at this; exact this
      have SX : Hid (∀ W v, At W (Tm.kids (.node t.k t.n (t.kids.take (t.kids.length - 1)))) v → Calls Try.prog 25 #[.agg #[.int .i64 (Tm.k (.node t.k t.n (t.kids.take (t.kids.length - 1)))), .int .i64 (Tm.n (.node t.k t.n (t.kids.take (t.kids.length - 1)))), v], .int .i64 100, .int .i64 100] W fun e w' => e = .returned (.bool false) ∧ Below W.heap.size W w') := fun W v hA => by have := c_scope (.node t.k t.n (t.kids.take (t.kids.length - 1))) f4 f3 100 100 W v hA; rw [f2] at this; exact this
      simp only [tm_k, tm_n, tm_kids] at CX SX OX
      clear f1 f2 f3 f4 hX
      go_wp2_with (first | (go_at_call 17; (with_reducible refine (CT.out _ _ (TA.out _)).mono ?_); rintro e w6 ⟨rfl, hb6⟩; have T6 := Lib.hid ((TX.out _).bel (hb6.mono (by simp))); have O6 := Lib.hid (OX.out.bel (hb6.mono (by simp))); have A6 := Lib.hid O6.out.2.1; simp only [tm_kids] at A6; obtain ⟨⟨p0, p1, p2⟩, _⟩ := O6.out; simp only [tm_k, tm_n] at p0 p1; clear hb6 q0 q1 q2 OX) | (go_at_call 17; (with_reducible refine (CX.out _ _ A6.out).mono ?_); rintro e w7 ⟨rfl, hb7⟩; have T7 := Lib.hid (T6.out.bel hb7); have O7 := Lib.hid (O6.out.bel hb7); have A7 := Lib.hid O7.out.2.1; simp only [tm_kids] at A7; obtain ⟨⟨r0, r1, r2⟩, _⟩ := O7.out; simp only [tm_k, tm_n] at r0 r1; clear hb7 p0 p1 p2 O6 T6) | (go_at_call 25; (with_reducible refine (SX.out _ _ A7.out).mono ?_); rintro e w8 ⟨rfl, hb8⟩; have T8 := Lib.hid (T7.out.bel hb8); clear hb8 r0 r1 r2 O7 T7) | (go_at_call 30; refine (wakes_any _).mono ?_; rintro e w9 ⟨rfl, hb9⟩; have T9 := Lib.hid (T8.out.bel hb9); clear hb9 T8))
      go_ret
      exact ⟨rfl, T9.out.2.2⟩
    · have hl0 : t.kids.length = 0 := by omega
      have hX := Lib.hid (bent1 hF (by omega) (by omega) (-1) (by unfold I64; omega) (by rw [if_pos hl0]; rfl))
      have e4 : ((t.kids.length : Int) == 0) = true := beq_iff_eq.2 (by omega)
      clear hc hz hd hl hl0
      go_enter Try.func7, Try.ntmps7
      go_wp2_with (first | (go_at_call 15; refine HH.out.mono ?_; rintro e w1 ⟨rfl, hb1⟩; have T1 := Lib.hid hb1; obtain ⟨⟨x0, x1, x2⟩, _⟩ := T1.out; clear hb1) | (go_at_call 18; refine (CK.out _ _ T1.out.2.1).mono ?_; rintro e w2 ⟨rfl, hb2⟩; have T2 := Lib.hid (T1.out.bel hb2); obtain ⟨⟨y0, y1, y2⟩, _⟩ := T2.out; clear hb2 x0 x1 x2 T1) | (go_at_call 20; refine (c_rsize t hs _ _ T2.out.2.1).mono ?_; rintro e w3 ⟨rfl, hb3⟩; have T3 := Lib.hid (T2.out.bel hb3); obtain ⟨⟨z0, z1, z2⟩, _⟩ := T3.out; clear hb3 y0 y1 y2 T2) | (go_at_call 22; refine (c_rdepth t hs _ _ T3.out.2.1).mono ?_; rintro e w4 ⟨rfl, hb4⟩; have T4 := Lib.hid (T3.out.bel hb4); obtain ⟨⟨u0, u1, u2⟩, _⟩ := T4.out; clear hb4 z0 z1 z2 T3) | (go_at_call 16; refine (c_twin t hs _ _ T4.out.2.1).mono ?_; rintro e w5 ⟨a5, c5, rfl, hs5, hr5, hb5⟩; have q0 := gcell hb5 u0; have q1 := gcell hb5 u1; have q2 := gcell hb5 u2; have hlt5 : w.heap.size < w5.heap.size := (World.block_lt_of_cell? w5 ⟨w.heap.size, 0, none⟩ q0); have hcp5 := at_cap hs5.at; have HS5 := Lib.hid hs5; have HR5 := Lib.hid hr5; have T5 := Lib.hid (T4.out.bel hb5); have HG5 := Lib.hid hb5; clear hs5 hr5 hb5 u0 u1 u2))
      have OX := Lib.hid (one_start w5 (.node t.k (-1) t.kids) (.slice a5 t.kids.length c5) (HS5.out.at))
      have TX := Lib.hid (fun o => T5.out.bel (below_al w5 o))
      have TA := Lib.hid (fun o => (T5.out.bel (below_al w5 o)).2.1)
      obtain ⟨f1, f2, f3, f4⟩ := hX.out
      have CX : Hid (∀ W v, At W (Tm.kids (.node t.k (-1) t.kids)) v → Calls Try.prog 17 #[.agg #[.int .i64 (Tm.k (.node t.k (-1) t.kids)), .int .i64 (Tm.n (.node t.k (-1) t.kids)), v]] W fun e w' => e = .returned (.int .i64 1) ∧ Below W.heap.size W w') := fun W v hA => by have := c_check (.node t.k (-1) t.kids) f4 f3 W v hA; rw [f1] at this; exact this
      have SX : Hid (∀ W v, At W (Tm.kids (.node t.k (-1) t.kids)) v → Calls Try.prog 25 #[.agg #[.int .i64 (Tm.k (.node t.k (-1) t.kids)), .int .i64 (Tm.n (.node t.k (-1) t.kids)), v], .int .i64 100, .int .i64 100] W fun e w' => e = .returned (.bool false) ∧ Below W.heap.size W w') := fun W v hA => by have := c_scope (.node t.k (-1) t.kids) f4 f3 100 100 W v hA; rw [f2] at this; exact this
      simp only [tm_k, tm_n, tm_kids] at CX SX OX
      clear f1 f2 f3 f4 hX
      go_wp2_with (first | (go_at_call 17; (with_reducible refine (CT.out _ _ (TA.out _)).mono ?_); rintro e w6 ⟨rfl, hb6⟩; have T6 := Lib.hid ((TX.out _).bel (hb6.mono (by simp))); have O6 := Lib.hid (OX.out.bel (hb6.mono (by simp))); have A6 := Lib.hid O6.out.2.1; simp only [tm_kids] at A6; obtain ⟨⟨p0, p1, p2⟩, _⟩ := O6.out; simp only [tm_k, tm_n] at p0 p1; clear hb6 q0 q1 q2 OX) | (go_at_call 17; (with_reducible refine (CX.out _ _ A6.out).mono ?_); rintro e w7 ⟨rfl, hb7⟩; have T7 := Lib.hid (T6.out.bel hb7); have O7 := Lib.hid (O6.out.bel hb7); have A7 := Lib.hid O7.out.2.1; simp only [tm_kids] at A7; obtain ⟨⟨r0, r1, r2⟩, _⟩ := O7.out; simp only [tm_k, tm_n] at r0 r1; clear hb7 p0 p1 p2 O6 T6) | (go_at_call 25; (with_reducible refine (SX.out _ _ A7.out).mono ?_); rintro e w8 ⟨rfl, hb8⟩; have T8 := Lib.hid (T7.out.bel hb8); clear hb8 r0 r1 r2 O7 T7) | (go_at_call 30; refine (wakes_any _).mono ?_; rintro e w9 ⟨rfl, hb9⟩; have T9 := Lib.hid (T8.out.bel hb9); clear hb9 T8))
      go_ret
      exact ⟨rfl, T9.out.2.2⟩
end Go.Proofs.Ythcjjfgigbgdkaa
