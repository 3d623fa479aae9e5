/- PackSizes: the Go text returns true for any term that is not greater than the second form's bound. -/
import Derived.Test.YthcjjfgigbgdkaaLk
import Derived.Test.YthcjjfgigbgdkaaRe
namespace Go.Proofs.Ythcjjfgigbgdkaa
open Go.RowKit Go Go.Joins
set_option linter.unusedVariables false

theorem leavesT_eq (t : Tm) : leavesT t = if t.kids.length = 0 then 1 else leavesL t.kids := by cases t; rfl
theorem leavesL_append (a b : List Tm) : leavesL (a ++ b) = leavesL a + leavesL b := by
  induction a with
  | nil => simp [leavesL]
  | cons x a ih => simp [leavesL, ih]; omega
theorem leavesL_take_succ {l : List Tm} {j : Nat} (h : j < l.length) : leavesL (l.take (j + 1)) = leavesL (l.take j) + leavesT l[j] := by
  rw [List.take_succ_eq_append_getElem h, leavesL_append]; simp [leavesL]
mutual
theorem leavesT_le : ∀ t : Tm, leavesT t ≤ size t
  | .node k n l => by have := leavesL_le l; rw [leavesT, size]; split <;> omega
theorem leavesL_le : ∀ l : List Tm, leavesL l ≤ sizeL l
  | [] => by simp [leavesL, sizeL]
  | t :: l => by have := leavesT_le t; have := leavesL_le l; rw [leavesL, sizeL]; omega
end
theorem check_kid {t u : Tm} (h : checkE t = 0) (hu : u ∈ t.kids) : checkE u = 0 := by
  have hf := check_formed h
  have h1 := check_size h
  have h2 : ¬ 200 < depth t := fun hh => by rw [checkE, if_neg (by omega), if_pos hh] at h; cases h
  rw [formedB_eq, Bool.and_eq_true] at hf
  have h3 := formedL_mem hf.2 hu
  have h4 := size_le_of_mem hu
  have h5 := size_eq t
  have h6 : depth u ≤ depthL t.kids := by
    obtain ⟨i, hi, rfl⟩ := List.getElem_of_mem hu
    exact depth_get hi
  have h7 := depth_eq t
  rw [checkE, if_neg (by omega), if_neg (by omega), if_neg (by rw [h3]; simp)]

set_option maxRecDepth 100000 in
set_option maxHeartbeats 400000 in
theorem leaves_any : ∀ (t : Tm), size t < 2147483648 → ∀ (w : World) (v : Value), At w t.kids v →
    Calls Try.prog 44 #[.agg #[.int .i64 t.k, .int .i64 t.n, v]] w fun e w' => e = .returned (.int .i64 (leavesT t)) ∧ Below w.heap.size w w' := by
  refine tm_ind fun t ih => ?_
  intro hs w v hA
  obtain ⟨a, cap, rfl⟩ := hA.shape
  have hlen : t.kids.length < 2147483648 := by have := length_le_sizeL t.kids; have := size_eq t; omega
  by_cases h0 : t.kids.length = 0
  · have e1 : ((t.kids.length : Int) == 0) = true := by simp [h0]
    have HL : Hid (leavesT t = 1) := by show _ = _; rw [leavesT_eq, if_pos h0]
    clear ih h0
    go_enter Try.func44, Try.ntmps44
    go_wp2_with fail
    go_ret
    exact ⟨ret_int (by rw [HL.out]; rfl), below_al w _⟩
  have e1 : ((t.kids.length : Int) == 0) = false := beq_eq_false_iff_ne.2 (by omega)
  have HL : Hid (leavesT t = leavesL t.kids) := by show _ = _; rw [leavesT_eq, if_neg h0]
  clear h0
  go_enter Try.func44, Try.ntmps44
  go_wp2_with fail
  have hB := box3_new w t (.slice a t.kids.length cap) 24
  have hb0 := (Below.refl _ w).alloc (Nat.le_refl _) (.cells #[.int .i64 t.k, .int .i64 t.n, .slice a t.kids.length cap] 24)
  have hA1 := hA.bel hb0 (Nat.le_refl _)
  revert hB hb0 hA1
  generalize hW : w.alloc (.cells #[.int .i64 t.k, .int .i64 t.n, .slice a t.kids.length cap] 24) = W
  clear hW
  intro hB hb0 hA1
  clear e1
  go_loopw [3, 4] (fun n i wr => ∃ j : Nat, j ≤ t.kids.length ∧ i = .int .i64 j ∧ n = .int .i64 ((leavesL (t.kids.take j) : Nat) : Int) ∧ Below W.heap.size W wr)
    (fun _ i _ => t.kids.length - (RowKit.intOf i).toNat)
  case atStart => exact ⟨0, Nat.zero_le _, rfl, by simp [leavesL], Below.refl _ _⟩
  case round =>
    obtain ⟨j, hj, rfl, rfl, hbw⟩ := hrel
    obtain ⟨hBlt, c0, c1, c2⟩ := hB.bel hbw
    by_cases hlt : j < t.kids.length
    · obtain ⟨b, off, cap', vs, he, h1, h2, kk, kn, kv, ks⟩ := (hA1.bel hbw (Nat.le_refl _)).pos (by omega)
      have gk := kk j hlt
      have gn := kn j hlt
      have gv := kv j hlt
      have gs := ks j hlt
      clear kk kn kv ks
      have hsz := leavesL_take_succ hlt
      have hle := leavesL_le (t.kids.take j)
      have hle2 := sizeL_take t.kids j
      have hle3 := leavesT_le t.kids[j]
      have hle4 := size_get hlt
      have hse := size_eq t
      have HI := Lib.hid (ih t.kids[j] (List.getElem_mem hlt) (by omega) wr (vs j) gs)
      have HS := Lib.hid hsz
      have hb3 : leavesL (t.kids.take j) < 2147483648 := by omega
      have hb4 : leavesT t.kids[j] < 2147483648 := by omega
      clear ih hs hle hsz hse hle2 hle3 hle4
      cases he
      go_wp2_with fail
      refine (HI.out).mono ?_
      rintro e w1 ⟨rfl, hb1⟩
      go_wp2_with fail
      go_roundw
      case rel => exact ⟨j + 1, by omega, by go_num, by rw [HS.out]; go_num, hbw.trans (hb1.mono hbw.size)⟩
      case measure => simp [RowKit.intOf]; omega
    · obtain rfl : j = t.kids.length := by omega
      have hlt : decide ((t.kids.length : Int) < (t.kids.length : Int)) = false := by simp
      go_wp2_with fail
      go_ret
      exact ⟨ret_int (by rw [List.take_length, HL.out]), hb0.trans (hbw.mono hb0.size)⟩

theorem RdBy.cell {l : List Int} {b o n c : Nat} {w : World} (h : RdBy l (.slice (some ⟨b, o, none⟩) n c) w) {i : Nat} (hi : i < l.length) : w.cell? ⟨b, o + i, none⟩ = some (.int .u8 l[i]) := by
  obtain ⟨a, cap, he, _, _, _, h5⟩ := h
  simp only [Value.slice.injEq] at he
  obtain ⟨b', o', he2, h6⟩ := h5 (by omega)
  rw [← he.1] at he2
  cases he2
  exact h6 i hi
theorem packT_kids {t : Tm} (h0 : t.kids.length ≠ 0) {i : Nat} (hi : i < t.kids.length) : packT t = (t.k :: packK (t.kids.take i)) ++ (packT t.kids[i] ++ packK (t.kids.drop (i + 1))) := by
  rw [packT_eq, if_neg h0, List.cons_append, ← List.append_assoc, ← packK_take_succ hi, ← packK_append, List.take_append_drop]
def posK (t : Tm) (i : Nat) : Nat := 1 + (packK (t.kids.take i)).length
theorem getS_kid {t : Tm} (h : checkE t = 0) (h0 : t.kids.length ≠ 0) {i : Nat} (hi : i < t.kids.length) : getS (packT t) ((1 + (packK (t.kids.take i)).length : Nat) : Int) = (t.kids[i], ((1 + (packK (t.kids.take (i + 1))).length : Nat) : Int), 0) := by
  have h1 := getS_full (check_kid h (List.getElem_mem hi)) (t.k :: packK (t.kids.take i)) (packK (t.kids.drop (i + 1)))
  rw [← packT_kids h0 hi] at h1
  rw [packK_take_succ hi, List.length_append]
  simp only [List.length_cons] at h1
  rw [show 1 + (packK (t.kids.take i)).length = (packK (t.kids.take i)).length + 1 by omega, show 1 + ((packK (t.kids.take i)).length + (packT t.kids[i]).length) = (packK (t.kids.take i)).length + 1 + (packT t.kids[i]).length by omega]
  exact h1

set_option maxRecDepth 100000 in
set_option maxHeartbeats 2000000 in
theorem lsizes_any (t : Tm) (hF : Fits t) (hs : size t ≤ 1048576) (w : World) (v : Value) (hA : At w t.kids v) :
    Calls Try.prog 13 #[tv t v] w fun e w' => e = .returned (.bool true) ∧ Below w.heap.size w w' := by
  have HH := heavy1 t hs w v hA
  obtain ⟨a1, c1, rfl⟩ := hA.shape
  clear hA
  unfold tv
  cases hh : heavyB [t] with
  | true =>
    rw [hh] at HH
    have H := Lib.hid HH
    clear hh HH
    go_enter Try.func13, Try.ntmps13
    go_wp2_with fail
    refine H.out.mono ?_
    rintro e w1 ⟨rfl, hb1⟩
    have T1 := Lib.hid hb1
    clear hb1
    go_wp2_with fail
    go_ret
    exact ⟨rfl, T1.out.2.2⟩
  | false =>
    rw [hh] at HH
    have H := Lib.hid HH
    clear hh HH
    have HFF := Lib.hid hF
    clear hF
    by_cases hc : checkE t = 0
    rotate_left
    · have e1 : (checkE t != 0) = true := by simpa using hc
      clear hc
      go_enter Try.func13, Try.ntmps13
      go_wp2_with fail
      refine H.out.mono ?_
      rintro e w1 ⟨rfl, hb1⟩
      have T1 := Lib.hid hb1
      clear hb1 H
      obtain ⟨⟨x0, x1, x2⟩, _⟩ := T1.out
      have HR := Lib.hid (c_rcheck t hs w1 _ T1.out.2.1)
      go_wp2_with fail
      refine HR.out.mono ?_
      rintro e w2 ⟨rfl, hb2⟩
      have T2 := Lib.hid (T1.out.bel hb2)
      clear hb2 HR T1 x0 x1 x2
      go_wp2_with fail
      go_ret
      exact ⟨rfl, T2.out.2.2⟩
    have HC := Lib.hid hc
    have hpl := check_packlen hc
    have hpp := packT_pos t
    have hlv := packT_leaves t
    have hsz := check_size hc
    have hlvs := leavesT_le t
    obtain ⟨p, hp⟩ : ∃ p, p = (packT t).length := ⟨_, rfl⟩
    have HP := Lib.hid hp
    have hk := (packT_bytes t (check_formed hc)) t.k (by rw [packT_eq]; simp)
    have CP : Hid (∀ (W : World) (x : Value), At W t.kids x → Calls Try.prog 38 #[.slice none 0 0, .agg #[.int .i64 t.k, .int .i64 t.n, x]] W fun e w' => ∃ a c, e = .returned (.tuple #[.slice a p c, .int .i64 0]) ∧ RdBy (packT t) (.slice a p c) w' ∧ Below W.heap.size W w') := fun W x hx => by
      have := c_put [] t HC.out (by simp) W (.slice none 0 0) x (RdBy.nil _) hx
      rw [List.nil_append, ← HP.out] at this
      exact this
    have CZ : Hid (∀ (W : World) (x : Value), At W t.kids x → Calls Try.prog 19 #[.agg #[.int .i64 t.k, .int .i64 t.n, x]] W fun e w' => e = .returned (.int .i64 (size t)) ∧ Below W.heap.size W w') := fun W x hx => c_size t HFF.out hs W x hx
    have CL : Hid (∀ (W : World) (x : Value), At W t.kids x → Calls Try.prog 44 #[.agg #[.int .i64 t.k, .int .i64 t.n, x]] W fun e w' => e = .returned (.int .i64 (leavesT t)) ∧ Below W.heap.size W w') := fun W x hx => leaves_any t (by omega) W x hx
    obtain ⟨z, hz⟩ : ∃ z, z = size t := ⟨_, rfl⟩
    obtain ⟨y, hy⟩ : ∃ y, y = leavesT t := ⟨_, rfl⟩
    rw [← hz] at CZ hsz hlvs hlv
    rw [← hy] at CL hlvs hlv
    rw [← hp] at hlv hpp hpl
    have q1 : ((p : Int) != (z : Int) + 2 * (y : Int)) = false := by simp; omega
    have q2 : ((p : Int) == 0) = false := by simp; omega
    have q3 : IntKind.i64.wrap (2 * (y : Int)) = 2 * (y : Int) := IntWalk.i64_in _ (by omega)
    have q4 : IntKind.i64.wrap ((z : Int) + 2 * (y : Int)) = (z : Int) + 2 * (y : Int) := IntWalk.i64_in _ (by omega)
    have q5 : (0 : Int) < (p : Int) := by omega
    have q6 : 0 < p := hpp
    have q7 : (t.k != t.k) = false := by simp
    have HQ := Lib.hid (And.intro q1 (And.intro q3 q4))
    clear hp hy hz hlv q1 q3 q4 hc hsz hlvs
    go_enter Try.func13, Try.ntmps13
    go_wp2_with fail
    refine H.out.mono ?_
    rintro e w1 ⟨rfl, hb1⟩
    have T1 := Lib.hid hb1
    clear hb1 H
    obtain ⟨⟨x0, x1, x2⟩, _⟩ := T1.out
    have HR := c_rcheck t hs w1 _ T1.out.2.1
    rw [HC.out] at HR
    have HR2 := Lib.hid HR
    clear HR
    go_wp2_with fail
    refine HR2.out.mono ?_
    rintro e w2 ⟨rfl, hb2⟩
    have T2 := Lib.hid (T1.out.bel hb2)
    clear hb2 HR2 T1 x0 x1 x2
    obtain ⟨⟨x0, x1, x2⟩, _⟩ := T2.out
    go_wp2_with fail
    refine (CP.out w2 _ T2.out.2.1).mono ?_
    rintro e w3 ⟨a3, c3, rfl, hr3, hb3⟩
    have R3 := Lib.hid hr3
    have T3 := Lib.hid (T2.out.bel hb3)
    clear hb3 hr3 CP T2 x0 x1 x2
    go_wp2_with fail
    have HD : Hid (∃ b0 o0, a3 = some ⟨b0, o0, none⟩ ∧ ∀ i (_ : i < (packT t).length), w3.cell? ⟨b0, o0 + i, none⟩ = some (.int .u8 (packT t)[i])) := by
      obtain ⟨a, c, he, _, _, _, h5⟩ := R3.out
      cases he
      exact h5 (packT_pos t)
    obtain ⟨b0, o0, rfl, hcell⟩ := HD.out
    have G0 : Hid (w3.cell? ⟨b0, o0, none⟩ = some (.int .u8 t.k)) := by
      have h := hcell 0 (packT_pos t)
      rw [Nat.add_zero] at h
      rw [show (packT t)[0]'(packT_pos t) = t.k by simp [packT_eq]] at h
      exact h
    clear hcell
    refine wp_region_rel (by kernel_rfl) (by kernel_rfl) (by kernel_rfl) ?_
    apply RelWalk.rest
    · kernel_rfl
    · intro X _ W hW hcl
      obtain ⟨⟨x0, x1, x2⟩, _⟩ := T3.out
      have k0 := fun q => gcell (hW q) x0
      have k1 := fun q => gcell (hW q) x1
      have k2 := fun q => gcell (hW q) x2
      have k3 := fun q => gcell (hW q) G0.out
      have C1 := Lib.hid (fun q => into hcl (CZ.out (W q) _ (T3.out.bel (hW q)).2.1))
      have C2 := Lib.hid (fun q => into hcl (CL.out (W q) _ (T3.out.bel (hW q)).2.1))
      obtain ⟨q1, q3, q4⟩ := HQ.out
      clear x0 x1 x2
      repeat (go_big_quiet_step (first | (with_reducible exact C1.out _) | (with_reducible exact C2.out _)))
      exact wpQuiet_nil rfl
    intro g w4 hg _
    have T4 := Lib.hid (T3.out.bel hg)
    have R4 := Lib.hid (R3.out.bel hg)
    clear hg T3 R3 G0 HD
    simp only [Spread]
    have hfm := check_formed HC.out
    rw [formedB_eq, Bool.and_eq_true, Bool.and_eq_true, decide_eq_true_eq] at hfm
    obtain ⟨⟨f1, f2⟩, _⟩ := hfm
    have HLF := Lib.hid (fun W => leaf_any t.k W)
    obtain ⟨⟨x0, x1, x2⟩, _⟩ := T4.out
    clear q2 q5 q6 q7 HQ CZ CL
    by_cases h0 : t.kids.length = 0
    · rw [show (kidsI t.k == 0) = true by simp; omega] at HLF
      rw [if_pos h0, Bool.and_eq_true, decide_eq_true_eq, decide_eq_true_eq] at f2
      have hpk : packT t = [t.k, t.n / 256, t.n % 256] := by rw [packT_eq, if_pos h0]
      obtain ⟨n1, hn1⟩ : ∃ n1, n1 = t.n / 256 := ⟨_, rfl⟩
      obtain ⟨n2, hn2⟩ : ∃ n2, n2 = t.n % 256 := ⟨_, rfl⟩
      have hor : bits .or .i64 (n1 * 256) n2 = t.n := by rw [or_bytes (by omega) (by omega)]; omega
      have hn1b : 0 ≤ n1 ∧ n1 ≤ 255 := by omega
      rw [← hn1, ← hn2] at hpk
      have hp3 : p = 3 := by rw [HP.out, hpk]; rfl
      have HPK := Lib.hid hpk
      have HOR := Lib.hid hor
      have hn2b : 0 ≤ n2 ∧ n2 ≤ 255 := by omega
      obtain ⟨h1, h2⟩ := hn1b
      obtain ⟨h3, h4⟩ := hn2b
      subst hp3
      clear f1 f2 h0 hpk hor hn1 hn2
      go_wp2_with fail
      refine (HLF.out _).mono ?_
      rintro e w' ⟨rfl, rfl⟩
      clear x0 x1 x2
      go_wp2_with fail
      have HD : Hid (w4.cell? ⟨b0, o0 + 1, none⟩ = some (.int .u8 n1) ∧ w4.cell? ⟨b0, o0 + 2, none⟩ = some (.int .u8 n2)) := by
        have hl : (packT t).length = 3 := by rw [HPK.out]; rfl
        have g1 := R4.out.cell (i := 1) (by omega)
        have g2 := R4.out.cell (i := 2) (by omega)
        rw [show (packT t)[1]'(by omega) = n1 by simp [HPK.out]] at g1
        rw [show (packT t)[2]'(by omega) = n2 by simp [HPK.out]] at g2
        exact ⟨g1, g2⟩
      refine wp_region_rel (by kernel_rfl) (by kernel_rfl) (by kernel_rfl) ?_
      apply RelWalk.rest
      · kernel_rfl
      · intro X _ W hW hcl
        obtain ⟨⟨x0, x1, x2⟩, _⟩ := T4.out
        have k0 := fun q => gcell (hW q) x0
        have k1 := fun q => gcell (hW q) x1
        have k2 := fun q => gcell (hW q) x2
        have k3 := fun q => gcell (hW q) HD.out.1
        have k4 := fun q => gcell (hW q) HD.out.2
        have C3 := Lib.hid (fun q => into hcl (wakes3_any (W q)))
        have hor := HOR.out
        clear x0 x1 x2
        repeat (go_big_quiet_step (first | (with_reducible exact C3.out _)))
        exact wpQuiet_nil rfl
      intro g w5 hg _
      have T5 := Lib.hid (T4.out.bel hg)
      clear hg
      simp only [Spread]
      go_wp2_with fail
      go_ret
      exact ⟨rfl, T5.out.2.2⟩
    · have hzf : (kidsI t.k == 0) = false := by rw [beq_eq_false_iff_ne]; omega
      rw [hzf] at HLF
      have HGS := Lib.hid (fun i hi => getS_kid (i := i) HC.out h0 hi)
      have HPO : Hid (posK t t.kids.length = p) := by
        show _ = _
        rw [posK, List.take_length, HP.out, packT_eq, if_neg h0, List.length_cons]; omega
      have hk2 : ∀ i, posK t i ≤ 18001 := fun i => by
        have h1 := packK_len (t.kids.take i)
        have h2 := sizeL_take t.kids i
        have h3 := size_eq t
        have h4 := check_size HC.out
        unfold posK
        omega
      have HKB := Lib.hid hk2
      have hb := packT_byteL HC.out
      have HBY := Lib.hid hb
      have HPS : Hid (posK t 0 = 1) := by show _ = _; simp [posK, packK]
      clear f1 f2 h0 hzf hk2 hb
      go_wp2_with fail
      refine (HLF.out _).mono ?_
      rintro e w' ⟨rfl, rfl⟩
      clear x0 x1 x2
      go_wp2_with fail
      go_loopw [5, 6] (fun at1 i wr => ∃ j : Nat, j ≤ t.kids.length ∧ i = .int .i64 j ∧ at1 = .int .i64 (posK t j : Nat) ∧ Grw w4 wr)
        (fun _ i _ => t.kids.length - (RowKit.intOf i).toNat)
      case atStart => exact ⟨0, Nat.zero_le _, rfl, by rw [HPS.out]; rfl, Grw.rfl _⟩
      case round =>
        obtain ⟨j, hj, rfl, rfl, hg⟩ := hrel
        have T6 := Lib.hid (T4.out.bel hg)
        have R6 := Lib.hid (R4.out.bel hg)
        have HG := Lib.hid hg
        clear hg
        obtain ⟨⟨x0, x1, x2⟩, _⟩ := T6.out
        by_cases hlt : j < t.kids.length
        · have CG := Lib.hid (c_get_yes (packT t) _ _ t.kids[j] (HGS.out j hlt) HBY.out (by have := HP.out; omega) wr _ R6.out)
          have CG2 : Hid (Calls Try.prog 41 #[.slice (some ⟨b0, o0, none⟩) p c3, .int .i64 (posK t j : Nat)] wr fun e w' => ∃ b c, e = .returned (.tuple #[.agg #[.int .i64 t.kids[j].k, .int .i64 t.kids[j].n, .slice b t.kids[j].kids.length c], .int .i64 (posK t (j + 1) : Nat), .int .i64 0]) ∧ At w' t.kids[j].kids (.slice b t.kids[j].kids.length c) ∧ Below wr.heap.size wr w') := CG.out
          have hm := List.getElem_mem hlt
          have hsk : size t.kids[j] ≤ 1048576 := by have := size_le_of_mem hm; have := size_eq t; omega
          have hkl : t.kids.length ≤ 1048576 := by have := length_le_sizeL t.kids; have := size_eq t; omega
          have hl1 : (j : Int) < (t.kids.length : Int) := by omega
          have hl0 : (0 : Int) ≤ (j : Int) := by omega
          clear CG hm
          go_wp2_with fail
          refine CG2.out.mono ?_
          rintro e w6 ⟨a6, c6, rfl, hA6, hb6⟩
          have X7 := Lib.hid (one_start w6 t.kids[j] _ hA6)
          have T7 := Lib.hid ((T6.out.bel hb6).bel (below_al w6 (.cells #[.int .i64 t.kids[j].k, .int .i64 t.kids[j].n, .slice a6 t.kids[j].kids.length c6] 24)))
          have H7 := Lib.hid ((HG.out.tr hb6).tr (below_al w6 (.cells #[.int .i64 t.kids[j].k, .int .i64 t.kids[j].n, .slice a6 t.kids[j].kids.length c6] 24)))
          clear hA6 hb6 CG2 x0 x1 x2 T6 R6
          go_wp2_with fail
          obtain ⟨b, off, cap', vs, he, h1, h2, kk, kn, kv, ks⟩ := T7.out.2.1.pos (by omega)
          have gk := kk j hlt
          have gn := kn j hlt
          have gv := kv j hlt
          have gs := ks j hlt
          obtain ⟨a8, c8, hv8⟩ := gs.shape
          rw [hv8] at gv gs
          have KC := Lib.hid (And.intro gk (And.intro gn (And.intro gv gs)))
          clear kk kn kv ks gk gn gv gs hv8
          cases he
          refine wp_region_rel (by kernel_rfl) (by kernel_rfl) (by kernel_rfl) ?_
          apply RelWalk.rest
          · kernel_rfl
          · intro X _ W hW hcl
            obtain ⟨⟨x0, x1, x2⟩, _⟩ := T7.out
            obtain ⟨⟨y0, y1, y2⟩, _⟩ := X7.out
            obtain ⟨gk, gn, gv, gs⟩ := KC.out
            have k2 := fun q => gcell (hW q) x2
            have k3 := fun q => gcell (hW q) y0
            have k4 := fun q => gcell (hW q) y1
            have k5 := fun q => gcell (hW q) y2
            have k6 := fun q => gcell (hW q) gk
            have k7 := fun q => gcell (hW q) gn
            have k8 := fun q => gcell (hW q) gv
            have C3 : Hid (∀ q, Calls Try.prog 24 #[.agg #[.int .i64 t.kids[j].k, .int .i64 t.kids[j].n, .slice a6 t.kids[j].kids.length c6], .agg #[.int .i64 t.kids[j].k, .int .i64 t.kids[j].n, .slice a8 t.kids[j].kids.length c8]] (W q) fun e w'' => e = .returned (.bool true) ∧ ∃ q', w'' = W q') := fun q => by
              have := c_keep t.kids[j] t.kids[j] hsk hsk (W q) _ _ (X7.out.bel (hW q)).2.1 (gs.bel (hW q) (Nat.le_refl _))
              rw [eqT_self] at this
              exact into hcl this
            clear x0 x1 x2 y0 y1 y2 gk gn gv gs
            repeat (go_big_quiet_step (first | (with_reducible exact C3.out _)))
            exact wpQuiet_nil rfl
          intro g w8 hg _
          have H8 := Lib.hid (H7.out.tr hg)
          clear hg T7 X7 KC H7
          simp only [Spread]
          go_wp2_with fail
          go_roundw
          case rel => exact ⟨j + 1, by omega, by go_num, rfl, H8.out⟩
          case measure => simp [RowKit.intOf]; omega
        · obtain rfl : j = t.kids.length := by omega
          have hlt : decide ((t.kids.length : Int) < (t.kids.length : Int)) = false := by simp
          rw [HPO.out]
          go_wp2_with fail
          refine (wakes3_any _).mono ?_
          rintro e wz ⟨rfl, hbz⟩
          go_wp2_with fail
          go_ret
          exact ⟨rfl, (T6.out.bel hbz).2.2⟩
end Go.Proofs.Ythcjjfgigbgdkaa
