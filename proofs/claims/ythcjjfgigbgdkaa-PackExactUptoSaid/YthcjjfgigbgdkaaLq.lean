/- PackExact: the Go text returns true for any bytes, any term and any number that are not greater than the second form's bound. -/
import Derived.Test.YthcjjfgigbgdkaaUn
import Derived.Test.YthcjjfgigbgdkaaTb
namespace Go.Proofs.Ythcjjfgigbgdkaa
open Go.RowKit Go Go.Joins
set_option linter.unusedVariables false

theorem RowBy.ne {B : Nat} {l : List Int} {v : Value} {w : World} (h : RowBy B l v w) {s : Nat} {cs : Array Value} {fr : Nat × Nat} (hs : w.heap[s]? = some (.cells cs 24 fr)) : v.ownBlock ≠ some s := by
  intro e
  rcases h.2 with ⟨rfl, _⟩ | ⟨g, cap, cur, rfl, _, hg, _⟩
  · cases e
  · cases e
    rw [hs] at hg
    cases hg
theorem RowBy.some {B : Nat} {l : List Int} {v : Value} {w : World} (h : RowBy B l v w) (hl : 0 < l.length) : ∃ g c, v = .slice (some ⟨g, 0, none⟩) l.length c ∧ ∀ j u, (l.map (Value.int .u8))[j]? = some u → w.cell? ((⟨g, 0, none⟩ : Addr).add j) = some u := by
  rcases h.2 with ⟨_, h0⟩ | ⟨g, cap, cur, rfl, _⟩
  · omega
  · exact ⟨g, cap, rfl, World.ownsRow.cells h rfl⟩
theorem step_wanted {P : Program} {ops : Array Oper} {o : Oper} {a : Act} {w : World} {K : Act → World → Prop} {Q : Exit → Act → World → Prop} {E : Prop} (hw : Region.wanted o (yielded ops a.tmps) = true) (h : Oper.wp P o a w K Q) :
    if Region.wanted o (yielded ops a.tmps) = true then Oper.wp P o a w K Q else E := by rw [if_pos hw]; exact h
theorem below_drew (w : World) : Below w.heap.size w w.drew := ⟨rfl, rfl, rfl, Nat.le_refl _, fun _ _ => rfl⟩
/-- What the law has in hand: the term in its box, its twin in another, the bytes' twin, the bytes. -/
def Bun (w : World) (s8 : Nat) (t : Tm) (v v3 : Value) (l : List Int) (v7 v0 : Value) (W : World) : Prop := One w w.heap.size t v W ∧ One w s8 t v3 W ∧ RowBy 0 l v7 W ∧ RdBy l v0 W
theorem Bun.bel {w : World} {s8 : Nat} {t : Tm} {v v3 : Value} {l : List Int} {v7 v0 : Value} {W W' : World} (h : Bun w s8 t v v3 l v7 v0 W) (hb : Below W.heap.size W W') : Bun w s8 t v v3 l v7 v0 W' :=
  ⟨h.1.bel hb, h.2.1.bel hb, h.2.2.1.bel hb, h.2.2.2.bel hb⟩
theorem getS_size (l : List Int) (a : Int) (hb : ByteL l) : size (getS l a).1 ≤ 1048576 := by
  unfold getS
  split
  · simp [noT, size, sizeL]
  · split
    · simp [noT, size, sizeL]
    · rename_i h
      have := check_size (readP_sound (fun x hx => hb x (List.mem_of_mem_drop hx)) h).2
      dsimp only
      omega

set_option maxRecDepth 100000 in
set_option maxHeartbeats 4000000 in
theorem lexact_any (l : List Int) (hB : ByteL l) (hlb : l.length ≤ 1048576) (t : Tm) (hF : Fits t) (hs : size t ≤ 1048576) (a : Int) (w : World) (v0 v : Value) (hR : RdBy l v0 w) (hA : At w t.kids v) :
    Calls Try.prog 10 #[v0, tv t v, .int .i64 a] w fun e w' => e = .returned (.bool true) ∧ Below w.heap.size w w' := by
  have HH := heavy1 t hs w v hA
  obtain ⟨a1, c1, rfl⟩ := hA.shape
  obtain ⟨a0, c0, rfl⟩ := hR.shape
  clear hA
  unfold tv
  cases hh : heavyB [t] with
  | true =>
    rw [hh] at HH
    have H := Lib.hid HH
    clear hh HH hR
    go_enter Try.func10, Try.ntmps10
    go_wp2_with fail
    refine H.out.mono ?_
    rintro e w1 ⟨rfl, hb1⟩
    have T1 := Lib.hid hb1
    clear hb1
    go_wp2_with fail
    go_ret
    exact ⟨rfl, T1.out.2.2⟩
  | false =>
    rw [hh] at HH
    have H := Lib.hid HH
    have HFF := Lib.hid hF
    have HBL := Lib.hid hB
    have R0 := Lib.hid hR
    clear hh HH hF hB hR
    by_cases hl : 3000 < l.length
    · have e1 : decide ((3000 : Int) < (l.length : Int)) = true := decide_eq_true (by omega)
      go_enter Try.func10, Try.ntmps10
      go_wp2_with fail
      refine H.out.mono ?_
      rintro e w1 ⟨rfl, hb1⟩
      have T1 := Lib.hid hb1
      clear hb1
      go_wp2_with fail
      go_ret
      exact ⟨rfl, T1.out.2.2⟩
    have e1 : decide ((3000 : Int) < (l.length : Int)) = false := decide_eq_false (by omega)
    obtain ⟨x1, x2, x3, hX, hsz⟩ : ∃ x1 x2 x3, getS l a = (x1, x2, x3) ∧ size x1 ≤ 1048576 := ⟨_, _, _, rfl, getS_size l a HBL.out⟩
    have HGT : Hid (∀ W v, RdBy l v W → Calls Try.prog 41 #[v, .int .i64 a] W (GetPost W (x1, x2, x3))) := fun W v h => hX ▸ get_any l a HBL.out hlb W v h
    have HUN : Hid (∀ W v, RdBy l v W → Calls Try.prog 42 #[v, .int .i64 a] W (GetPost W (x1, x2, x3))) := fun W v h => hX ▸ unpack_any l a HBL.out hlb W v h
    have HSZ := Lib.hid hsz
    clear hX hsz
    go_enter Try.func10, Try.ntmps10
    go_wp2_with fail
    refine H.out.mono ?_
    rintro e w1 ⟨rfl, hb1⟩
    have T1 := Lib.hid hb1
    have RR1 : Hid (RdBy l (.slice a0 l.length c0) w1) := by
      have := hb1.2.2
      exact R0.out.bel this
    clear hb1 H R0
    go_wp2_with fail
    refine wp_region_rel_tail 6 (by kernel_rfl) (by kernel_rfl) (by kernel_rfl) ?_
    apply RelWalk.next 1
    · kernel_rfl
    · intro X _ W hW hcl
      try simp only [List.take_succ_cons, List.take_zero]
      repeat (go_big_quiet_step (fail))
      exact wpQuiet_nil rfl
    try simp only [List.drop_succ_cons, List.drop_zero]
    refine RelWalk.made0 (plain fun v w => ∃ a c, v = .slice a l.length c ∧ RowBy 0 l (.slice a l.length c) w) rfl (by kernel_rfl) (by kernel_rfl) rfl (fun v s e w w' hg ⟨a, c, h1, h2⟩ => ⟨a, c, h1, h2.bel hg⟩) (fun w2 hg => ?_) ?_
    · have hc := Lib.hid (twinb_any l hlb w2 _ (RR1.out.bel hg))
      go_simp
      refine rel_enter (hc.out.mono fun e w3 ⟨v', he, hr, hb⟩ => ?_)
      obtain ⟨a3, c3, rfl⟩ := hr.rd.shape
      exact ⟨_, he, hb, a3, c3, rfl, hr.le (Nat.zero_le _)⟩
    simp only [Act.put, List.setIfInBounds_toArray, List.set_cons_zero, List.set_cons_succ]
    apply RelWalk.next 1
    · kernel_rfl
    · intro X _ W hW hcl
      try simp only [List.take_succ_cons, List.take_zero]
      obtain ⟨⟨x0, x1, x2⟩, _⟩ := T1.out
      have k0 := fun q => gcell (hW q) x0
      have k1 := fun q => gcell (hW q) x1
      have k2 := fun q => gcell (hW q) x2
      clear x0 x1 x2
      repeat (go_big_quiet_step (fail))
      exact wpQuiet_nil rfl
    try simp only [List.drop_succ_cons, List.drop_zero]
    refine RelWalk.made0 (fun v s e w => ∃ a c, v = .agg #[.int .i64 t.k, .int .i64 t.n, .slice a t.kids.length c] ∧ AtS (fun b => s ≤ b ∧ b < e) w t.kids (.slice a t.kids.length c)) rfl (by kernel_rfl) (by kernel_rfl) rfl (fun v s e w w' hg ⟨a, c, h1, h2⟩ => ⟨a, c, h1, h2.grw hg⟩) (fun w2 hg => ?_) ?_
    · have hc := Lib.hid (c_twin t hs w2 _ (T1.out.bel hg).2.1)
      go_simp
      refine rel_enter (hc.out.mono fun e w3 ⟨a3, c3, he, hA3, _, hb3⟩ => ⟨_, he, hb3, a3, c3, rfl, hA3⟩)
    simp only [Act.put, List.setIfInBounds_toArray, List.set_cons_zero, List.set_cons_succ]
    refine RelWalk.made0 (fun v s e w => v = .pointer (some ⟨s, 0, none⟩) ∧ w.heap[s]? = some (.cells #[.int .i64 0, .int .i64 0, .slice none 0 0] 24 (0, 0)) ∧ s < e ∧ s < w.heap.size) rfl (by kernel_rfl) (by kernel_rfl) rfl (fun v s e w w' hg h => ⟨h.1, (hg.block s h.2.2.2).trans h.2.1, h.2.2.1, Nat.lt_of_lt_of_le h.2.2.2 hg.size⟩) (fun w2 hg => ?_) ?_
    · go_simp
      exact ⟨below_al w2 _, rfl, World.alloc_heap_new w2 _, by simp, by simp⟩
    simp only [Act.put, List.setIfInBounds_toArray, List.set_cons_zero, List.set_cons_succ]
    refine RelWalk.made1 (plain fun v w => ∃ a c, v = .slice a l.length c ∧ RowBy 0 l (.slice a l.length c) w) rfl (by kernel_rfl) (by kernel_rfl) rfl (fun v s e w w' hg ⟨a, c, h1, h2⟩ => ⟨a, c, h1, h2.bel hg⟩) (fun g w2 hg v1 hv1 => ?_) ?_
    · go_simp
      exact ⟨Grw.rfl _, hv1⟩
    simp only [Act.put, List.setIfInBounds_toArray, List.set_cons_zero, List.set_cons_succ]
    refine .done fun g w2 hg hpt => ?_
    simp only [Spread]
    rintro v7 ⟨a7, c7, rfl, hv7⟩ v8 ⟨rfl, hbx, hse, hlt⟩ v28 ⟨a3, c3, rfl, hA3⟩ v26 ⟨_, _, rfl, _⟩
    simp only [Act.put, List.setIfInBounds_toArray, List.set_cons_zero, List.set_cons_succ]
    have hn7 : (Value.slice a7 l.length c7).ownBlock ≠ some (g 8).1 := hv7.ne hbx
    have hp8 := (hpt.1 8 (List.mem_of_elem_eq_true (by kernel_rfl))).1
    have hpp := hpt.2 8 (List.mem_of_elem_eq_true (by kernel_rfl)) 28 (List.mem_of_elem_eq_true (by kernel_rfl)) (by decide)
    clear hpt
    obtain ⟨s8, h8⟩ : ∃ s, (g 8).1 = s := ⟨_, rfl⟩
    rw [h8] at hbx hlt hp8 hpp hse hn7 ⊢
    have hA4 : AtS (fun b => b ≠ s8) w2 t.kids (.slice a3 t.kids.length c3) := hA3.same fun b hb => ⟨by omega, rfl⟩
    clear hA3 hpp hse
    obtain ⟨⟨z0, z1, z2⟩, ⟨y0, y1, y2⟩⟩ := boxc hbx
    have HBX := Lib.hid hbx
    have HA4 := Lib.hid hA4
    have HG := Lib.hid hg
    have HV7 := Lib.hid (ownsRow_setCell_other (a := ⟨s8, 2, none⟩) (ownsRow_setCell_other (a := ⟨s8, 1, none⟩) (ownsRow_setCell_other (a := ⟨s8, 0, none⟩) hv7 hn7 (.int .i64 t.k)) hn7 (.int .i64 t.n)) hn7 (.slice a3 t.kids.length c3))
    clear hbx hA4 hg h8 hv7 hn7
    have HX := Lib.hid (boxed_term (k := t.k) (n := t.n) T1.out.2.2 HBX.out HG.out hp8 HA4.out)
    clear HBX HG HA4
    go_wp2_with fail
    revert HX HV7
    generalize ((w2.setCell ⟨s8, 0, none⟩ (.int .i64 t.k)).setCell ⟨s8, 1, none⟩ (.int .i64 t.n)).setCell ⟨s8, 2, none⟩ (.slice a3 t.kids.length c3) = w3
    intro HV7 HX
    have T3 := Lib.hid (T1.out.bel HX.out.2)
    have O3 : Hid (One w s8 t (.slice a3 t.kids.length c3) w3) := by cases t; exact HX.out.1
    have R3 : Hid (RowBy 0 l (.slice a7 l.length c7) w3) := HV7.out
    have RR3 := Lib.hid (RR1.out.bel HX.out.2)
    clear HX HV7 T1 RR1 z0 z1 z2 y0 y1 y2
    obtain ⟨⟨z0, z1, z2⟩, _⟩ := O3.out
    go_wp2_with fail
    refine (put_any l t HFF.out hs hlb w3 _ _ R3.out.rd O3.out.2.1).mono ?_
    rintro e w4 ⟨v9, rfl, hp1, hp2, hb4⟩
    have T4 := Lib.hid (T3.out.bel hb4)
    have O4 := Lib.hid (O3.out.bel hb4)
    have R4 := Lib.hid (R3.out.bel hb4)
    have RR4 := Lib.hid (RR3.out.bel hb4)
    have P4 := Lib.hid (And.intro hp1 hp2)
    clear T3 O3 R3 hb4 hp1 hp2 z0 z1 z2
    obtain ⟨⟨x0, x1, x2⟩, _⟩ := T4.out
    go_wp2_with fail
    refine (c_rcheck t hs w4 _ T4.out.2.1).mono ?_
    rintro e w5 ⟨rfl, hb5⟩
    have T5 : Hid (Bun w s8 t (.slice a1 t.kids.length c1) (.slice a3 t.kids.length c3) l (.slice a7 l.length c7) (.slice a0 l.length c0) w5) := ⟨T4.out.bel hb5, O4.out.bel hb5, R4.out.bel hb5, RR4.out.bel hb5⟩
    by_cases hc : checkE t = 0
    rotate_left
    · obtain rfl := P4.out.2 hc
      have e2 : (checkE t != 0) = true := by simpa using hc
      have e3 : (checkE t == 0) = false := by simpa using hc
      have e4 : (checkE t != checkE t) = false := by simp
      clear T4 O4 R4 RR4 hb5 x0 x1 x2 P4 hc
      revert e2 e3 e4
      generalize checkE t = ck
      intro e2 e3 e4
      go_wp2_with fail
      refine wp_region_rel (by kernel_rfl) (by kernel_rfl) (by kernel_rfl) ?_
      apply RelWalk.rest
      · kernel_rfl
      · intro X _ W hW hcl
        obtain ⟨⟨⟨x0, x1, x2⟩, _⟩, ⟨⟨y0, y1, y2⟩, _⟩, _⟩ := T5.out
        have k0 := fun q => gcell (hW q) x0
        have k1 := fun q => gcell (hW q) x1
        have k2 := fun q => gcell (hW q) x2
        have k3 := fun q => gcell (hW q) y0
        have k4 := fun q => gcell (hW q) y1
        have k5 := fun q => gcell (hW q) y2
        clear x0 x1 x2 y0 y1 y2
        have cK := Lib.hid (fun q => into hcl (c_keep t t hs hs (W q) _ _ (T5.out.bel (hW q)).2.1.2.1 (T5.out.bel (hW q)).1.2.1))
        rw [eqT_self] at cK
        repeat (go_big_quiet_step (first | (with_reducible exact cK.out _)))
        exact wpQuiet_nil rfl
      intro g w10 hg _
      have T6 := Lib.hid (T5.out.bel hg)
      clear T5 hg
      simp only [Spread]
      go_wp2_with fail
      -- REST1
      refine (HGT.out w10 _ T6.out.2.2.1.rd).mono ?_
      rintro e w11 ⟨v11, rfl, hA11, hb11⟩
      replace hA11 : AtS _ w11 x1.kids v11 := hA11
      obtain ⟨ga, gc, rfl⟩ := hA11.at.shape
      have O7 := Lib.hid (one_start w11 x1 _ hA11.at)
      have T7 := Lib.hid (T6.out.bel (hb11.trans ((below_al w11 (.cells #[.int .i64 x1.k, .int .i64 x1.n, .slice ga x1.kids.length gc] 24)).mono hb11.size)))
      clear T6 hA11 hb11
      go_wp2_with fail
      revert O7 T7
      generalize w11.alloc (.cells #[.int .i64 x1.k, .int .i64 x1.n, .slice ga x1.kids.length gc] 24) = w11b
      intro O7 T7
      refine (HUN.out w11b _ T7.out.2.2.2).mono ?_
      rintro e w12 ⟨v12, rfl, hA12, hb12⟩
      replace hA12 : AtS _ w12 x1.kids v12 := hA12
      obtain ⟨ua, uc, rfl⟩ := hA12.at.shape
      have O8 := Lib.hid (one_start w12 x1 _ hA12.at)
      have hb12b := hb12.trans ((below_al w12 (.cells #[.int .i64 x1.k, .int .i64 x1.n, .slice ua x1.kids.length uc] 24)).mono hb12.size)
      have T8 := Lib.hid (T7.out.bel hb12b)
      have O9 := Lib.hid (O7.out.bel hb12b)
      clear T7 O7 hA12 hb12 hb12b
      obtain ⟨⟨u0, u1, u2⟩, _⟩ := O8.out
      obtain ⟨⟨r0, r1, r2⟩, _⟩ := O9.out
      go_wp2_with fail
      refine (c_keep x1 x1 HSZ.out HSZ.out _ _ _ O9.out.2.1 O8.out.2.1).mono ?_
      rintro e w13 ⟨rfl, hb13⟩
      rw [eqT_self]
      have T9 := Lib.hid (T8.out.bel hb13)
      clear T8 O8 O9 hb13 u0 u1 u2 r0 r1 r2
      go_wp2_with fail
      refine (bytes_any l l (by omega) (by omega) w13 _ _ T9.out.2.2.1.rd T9.out.2.2.2).mono ?_
      rintro e w14 ⟨rfl, hb14⟩
      rw [decide_eq_true (rfl : l = l)]
      have T10 := Lib.hid (T9.out.bel hb14)
      clear T9 hb14
      go_wp2_with fail
      refine (wakes3_any _).mono ?_
      rintro e wz ⟨rfl, hbz⟩
      go_wp2_with fail
      go_ret
      exact ⟨rfl, T10.out.1.2.2.trans (hbz.mono T10.out.1.2.2.size)⟩
      -- REST1END
    · have HP := Lib.hid ((P4.out.1 hc).bel hb5)
      have HC := Lib.hid hc
      have hpl := check_packlen hc
      have hpz := packT_pos t
      have e3 : (checkE t == 0) = true := by simpa using hc
      have m1 : l.length + (packT t).length ≤ maxLen := by unfold maxLen; omega
      have m2 : (l.length + (packT t).length) * 1 ≤ 140737488355328 := by omega
      clear T4 O4 R4 RR4 hb5 x0 x1 x2 P4 e3
      rw [hc]
      obtain ⟨i0, hi, hz0, hz1, hz2⟩ := info_parts Try.infoByte
      obtain ⟨a9, c9, rfl⟩ := HP.out.rd.shape
      rw [List.length_append] at HP ⊢
      obtain ⟨⟨⟨x0, x1, x2⟩, _⟩, ⟨⟨y0, y1, y2⟩, _⟩, _⟩ := T5.out
      clear hc
      go_wp2_with fail
      refine wp_region_any (by kernel_rfl) ?_
      change wpAny _ _ _ _ _ _ _ (World.drew _)
      have TD := Lib.hid (T5.out.bel (below_drew w5))
      have HPD := Lib.hid (HP.out.bel (below_drew w5))
      have hbd := below_drew w5
      clear x0 x1 x2 y0 y1 y2
      generalize w5.drew = w5d at TD HPD hbd
      obtain ⟨⟨⟨x0, x1, x2⟩, _⟩, ⟨⟨y0, y1, y2⟩, _⟩, _⟩ := TD.out
      clear T5 HP hbd
      refine wpAny_take (i := 0) (v := (.int .i64 0)) rfl (by kernel_rfl) (by kernel_rfl) (by kernel_rfl) (fun _ _ _ h => h) (Or.inl ⟨by rfl, fun W => by go_simp⟩) ?_
      change wpAny _ _ _ _ _ _ (Act.put _ (some 37) _) _
      simp only [Act.put, List.setIfInBounds_toArray, List.set_cons_zero, List.set_cons_succ]
      refine wpAny_take (i := 1) (v := (.int .i64 0)) rfl (by kernel_rfl) (by kernel_rfl) (by kernel_rfl) (fun _ _ _ h => h) (Or.inl ⟨by rfl, fun W => by go_simp⟩) ?_
      change wpAny _ _ _ _ _ _ (Act.put _ (some 38) _) _
      simp only [Act.put, List.setIfInBounds_toArray, List.set_cons_zero, List.set_cons_succ]
      refine wpAny_take (i := 2) (v := (.bool false)) rfl (by kernel_rfl) (by kernel_rfl) (by kernel_rfl) (fun _ _ _ h => h) (Or.inl ⟨by rfl, fun W => by go_simp⟩) ?_
      change wpAny _ _ _ _ _ _ (Act.put _ (some 39) _) _
      simp only [Act.put, List.setIfInBounds_toArray, List.set_cons_zero, List.set_cons_succ]
      refine wpAny_take (i := 3) (v := (.bool false)) rfl (by kernel_rfl) (by kernel_rfl) (by kernel_rfl) (fun _ _ _ h => h) (Or.inl ⟨by rfl, fun W => by go_simp⟩) ?_
      change wpAny _ _ _ _ _ _ (Act.put _ (some 40) _) _
      simp only [Act.put, List.setIfInBounds_toArray, List.set_cons_zero, List.set_cons_succ]
      refine wpAny_take (i := 4) (v := (.int .i64 0)) rfl (by kernel_rfl) (by kernel_rfl) (by kernel_rfl) (fun _ _ _ h => h) (Or.inl ⟨by rfl, fun W => by go_simp⟩) ?_
      change wpAny _ _ _ _ _ _ (Act.put _ (some 41) _) _
      simp only [Act.put, List.setIfInBounds_toArray, List.set_cons_zero, List.set_cons_succ]
      refine wpAny_take (i := 5) (v := (.bool false)) rfl (by kernel_rfl) (by kernel_rfl) (by kernel_rfl) (fun _ _ _ h => h) (Or.inl ⟨by rfl, fun W => by go_simp⟩) ?_
      change wpAny _ _ _ _ _ _ (Act.put _ (some 42) _) _
      simp only [Act.put, List.setIfInBounds_toArray, List.set_cons_zero, List.set_cons_succ]
      refine wpAny_take (i := 6) (v := (.bool false)) rfl (by kernel_rfl) (by kernel_rfl) (by kernel_rfl) (fun _ _ _ h => h) (Or.inl ⟨by rfl, fun W => by go_simp⟩) ?_
      change wpAny _ _ _ _ _ _ (Act.put _ (some 43) _) _
      simp only [Act.put, List.setIfInBounds_toArray, List.set_cons_zero, List.set_cons_succ]
      refine wpAny_take (i := 7) (v := undef) rfl (by kernel_rfl) (by kernel_rfl) (by kernel_rfl) (fun _ _ _ h => h) (Or.inr ⟨by rfl, rfl⟩) ?_
      change wpAny _ _ _ _ _ _ (Act.put _ (some 44) _) _
      simp only [Act.put, List.setIfInBounds_toArray, List.set_cons_zero, List.set_cons_succ]
      refine wpAny_take (i := 8) (v := undef) rfl (by kernel_rfl) (by kernel_rfl) (by kernel_rfl) (fun _ _ _ h => h) (Or.inr ⟨by rfl, rfl⟩) ?_
      change wpAny _ _ _ _ _ _ (Act.put _ (some 45) _) _
      simp only [Act.put, List.setIfInBounds_toArray, List.set_cons_zero, List.set_cons_succ]
      refine wpAny_take (i := 9) (v := undef) rfl (by kernel_rfl) (by kernel_rfl) (by kernel_rfl) (fun _ _ _ h => h) (Or.inr ⟨by rfl, rfl⟩) ?_
      change wpAny _ _ _ _ _ _ (Act.put _ (some 46) _) _
      simp only [Act.put, List.setIfInBounds_toArray, List.set_cons_zero, List.set_cons_succ]
      refine wpAny_take (i := 10) (v := (.bool false)) rfl (by kernel_rfl) (by kernel_rfl) (by kernel_rfl) (fun _ _ _ h => h) (Or.inl ⟨by rfl, fun W => by go_simp⟩) ?_
      change wpAny _ _ _ _ _ _ (Act.put _ (some 47) _) _
      simp only [Act.put, List.setIfInBounds_toArray, List.set_cons_zero, List.set_cons_succ]
      refine wpAny_take (i := 11) (v := (.bool false)) rfl (by kernel_rfl) (by kernel_rfl) (by kernel_rfl) (fun _ _ _ h => h) (Or.inl ⟨by rfl, fun W => by go_simp⟩) ?_
      change wpAny _ _ _ _ _ _ (Act.put _ (some 48) _) _
      simp only [Act.put, List.setIfInBounds_toArray, List.set_cons_zero, List.set_cons_succ]
      refine wpAny_take (i := 12) (v := (.bool false)) rfl (by kernel_rfl) (by kernel_rfl) (by kernel_rfl) (fun _ _ _ h => h) (Or.inl ⟨by rfl, fun W => by go_simp⟩) ?_
      change wpAny _ _ _ _ _ _ (Act.put _ (some 49) _) _
      simp only [Act.put, List.setIfInBounds_toArray, List.set_cons_zero, List.set_cons_succ]
      refine wpAny_take (i := 13) (v := (.int .i64 0)) rfl (by kernel_rfl) (by kernel_rfl) (by kernel_rfl) (fun _ _ _ h => h) (Or.inl ⟨by rfl, fun W => by go_simp⟩) ?_
      change wpAny _ _ _ _ _ _ (Act.put _ (some 50) _) _
      simp only [Act.put, List.setIfInBounds_toArray, List.set_cons_zero, List.set_cons_succ]
      refine wpAny_take (i := 14) (v := (.bool true)) rfl (by kernel_rfl) (by kernel_rfl) (by kernel_rfl) (fun _ _ _ h => h) (Or.inl ⟨by rfl, fun W => by go_simp⟩) ?_
      change wpAny _ _ _ _ _ _ (Act.put _ (some 51) _) _
      simp only [Act.put, List.setIfInBounds_toArray, List.set_cons_zero, List.set_cons_succ]
      refine wpAny_take (i := 15) (v := (.bool true)) rfl (by kernel_rfl) (by kernel_rfl) (by kernel_rfl) (fun _ _ _ h => h) (Or.inl ⟨by rfl, fun W => by go_simp⟩) ?_
      change wpAny _ _ _ _ _ _ (Act.put _ (some 52) _) _
      simp only [Act.put, List.setIfInBounds_toArray, List.set_cons_zero, List.set_cons_succ]
      refine wpAny_take (i := 16) (v := (.slice a9 (l.length + (packT t).length) c9)) rfl (by kernel_rfl) (by kernel_rfl) (by kernel_rfl) (fun _ _ _ h => h) (Or.inl ⟨by rfl, fun W => by go_simp⟩) ?_
      change wpAny _ _ _ _ _ _ (Act.put _ (some 53) _) _
      simp only [Act.put, List.setIfInBounds_toArray, List.set_cons_zero, List.set_cons_succ]
      refine wpAny_take (i := 17) (v := (.slice a0 l.length c0)) rfl (by kernel_rfl) (by kernel_rfl) (by kernel_rfl) (fun _ _ _ h => h) (Or.inl ⟨by rfl, fun W => by go_simp⟩) ?_
      change wpAny _ _ _ _ _ _ (Act.put _ (some 54) _) _
      simp only [Act.put, List.setIfInBounds_toArray, List.set_cons_zero, List.set_cons_succ]
      refine wpAny_ready (rs := [18, 19]) (by kernel_rfl) (by simp) ?_
      refine AllReady.cons (i := 18) rfl (fun K hK => ?_) ?_
      rotate_left
      refine AllReady.cons (i := 19) rfl (fun K hK => ?_) AllReady.nil
      refine step_wanted (by rfl) ?_
      go_simp
      refine hK _ _ ?_
      clear hK K
      try change wpAny _ _ _ _ _ _ (Act.put _ (some 56) _) _
      try simp only [Act.put, List.setIfInBounds_toArray, List.set_cons_zero, List.set_cons_succ]
      refine wpAny_ready (rs := [18]) (by kernel_rfl) (by simp) ?_
      refine AllReady.cons (i := 18) rfl (fun K hK => ?_) AllReady.nil
      refine step_wanted (by rfl) ?_
      go_simp
      refine (twinb_any l hlb _ _ TD.out.2.2.2).mono ?_
      rintro e w6 ⟨v6, rfl, hr6, hb6⟩
      obtain ⟨a6, c6, rfl⟩ := hr6.rd.shape
      have R6 := Lib.hid hr6
      have k0 := gcell hb6 x0
      have k1 := gcell hb6 x1
      have k2 := gcell hb6 x2
      go_simp
      refine hK _ _ ?_
      clear hK K
      try change wpAny _ _ _ _ _ _ (Act.put _ (some 55) _) _
      try simp only [Act.put, List.setIfInBounds_toArray, List.set_cons_zero, List.set_cons_succ]
      rotate_left
      refine step_wanted (by rfl) ?_
      go_simp
      refine (twinb_any l hlb _ _ TD.out.2.2.2).mono ?_
      rintro e w6 ⟨v6, rfl, hr6, hb6⟩
      obtain ⟨a6, c6, rfl⟩ := hr6.rd.shape
      have R6 := Lib.hid hr6
      have k0 := gcell hb6 x0
      have k1 := gcell hb6 x1
      have k2 := gcell hb6 x2
      go_simp
      refine hK _ _ ?_
      clear hK K
      try change wpAny _ _ _ _ _ _ (Act.put _ (some 55) _) _
      try simp only [Act.put, List.setIfInBounds_toArray, List.set_cons_zero, List.set_cons_succ]
      refine wpAny_ready (rs := [19]) (by kernel_rfl) (by simp) ?_
      refine AllReady.cons (i := 19) rfl (fun K hK => ?_) AllReady.nil
      refine step_wanted (by rfl) ?_
      go_simp
      refine hK _ _ ?_
      clear hK K
      try change wpAny _ _ _ _ _ _ (Act.put _ (some 56) _) _
      try simp only [Act.put, List.setIfInBounds_toArray, List.set_cons_zero, List.set_cons_succ]
      all_goals
        refine wpAny_ready (rs := [20]) (by kernel_rfl) (by simp) ?_
        refine AllReady.cons (i := 20) rfl (fun K hK => ?_) AllReady.nil
        refine step_wanted (by rfl) ?_
        go_simp
        refine (rpack_ok t (check_formed HC.out) hs w6 _ (TD.out.bel hb6).1.2.1).mono ?_
        rintro e w7 ⟨v7b, rfl, hr7, hb7⟩
        obtain ⟨g7, c7b, rfl, hn7⟩ := hr7.some hpz
        have B7 := Lib.hid (hb6.trans (hb7.mono hb6.size))
        go_simp
        refine hK _ _ ?_
        clear hK K
        try change wpAny _ _ _ _ _ _ (Act.put _ (some 57) _) _
        try simp only [Act.put, List.setIfInBounds_toArray, List.set_cons_zero, List.set_cons_succ]
        refine wpAny_ready (rs := [21]) (by kernel_rfl) (by simp) ?_
        refine AllReady.cons (i := 21) rfl (fun K hK => ?_) AllReady.nil
        refine step_wanted (by rfl) ?_
        refine wp_append_lies _ (.tmp 55) (.tmp 57) 47 (by rfl) 0 5 i0 _ 1 1 Try.underlying47 hi hz0 hz1 hz2 rfl (by decide) (.slice a6 l.length c6) l.length _ (by rfl) ((R6.out.bel hb7).le (Nat.zero_le _)) ⟨g7, 0, none⟩ (packT t).length c7b _ (by rfl) (by simp) hn7 (ints_oneCell _ _) hpz m1 m2 (Nat.zero_le _) w7.heap.size rfl ?_
        intro g8 c8 w8 hown8 hgrow8 _ _
        have B8 := Lib.hid (B7.out.grown hgrow8 B7.out.size (fun k hk => (R6.out.lt k hk).1))
        have T8 := Lib.hid (TD.out.bel B8.out)
        have HP8 := Lib.hid (HPD.out.bel B8.out)
        have R8 : Hid (RowBy 0 (l ++ packT t) (.slice (some ⟨g8, 0, none⟩) (l.length + (packT t).length) c8) w8) := by show RowBy _ _ _ _; unfold RowBy; rw [List.length_append, List.map_append]; exact hown8
        refine hK _ _ ?_
        clear hK K
        try change wpAny _ _ _ _ _ _ (Act.put _ (some 58) _) _
        try simp only [Act.put, List.setIfInBounds_toArray, List.set_cons_zero, List.set_cons_succ]
        refine wpAny_ready (rs := [22]) (by kernel_rfl) (by simp) ?_
        refine AllReady.cons (i := 22) rfl (fun K hK => ?_) AllReady.nil
        refine step_wanted (by rfl) ?_
        go_simp
        refine (bytes_any (l ++ packT t) (l ++ packT t) (by simp; omega) (by simp; omega) w8 _ _ HP8.out.rd R8.out.rd).mono ?_
        rintro e w9 ⟨rfl, hb9⟩
        have T9 := Lib.hid (T8.out.bel hb9)
        rw [decide_eq_true (rfl : l ++ packT t = l ++ packT t)]
        obtain ⟨⟨⟨p0, p1, p2⟩, _⟩, ⟨⟨q0, q1, q2⟩, _⟩, _⟩ := T9.out
        go_simp
        refine hK _ _ ?_
        clear hK K
        try change wpAny _ _ _ _ _ _ (Act.put _ (some 59) _) _
        try simp only [Act.put, List.setIfInBounds_toArray, List.set_cons_zero, List.set_cons_succ]
        refine wpAny_take (i := 23) (v := (.bool false)) rfl (by kernel_rfl) (by kernel_rfl) (by kernel_rfl) (fun _ _ _ h => h) (Or.inl ⟨by rfl, fun W => by go_simp⟩) ?_
        change wpAny _ _ _ _ _ _ (Act.put _ (some 60) _) _
        simp only [Act.put, List.setIfInBounds_toArray, List.set_cons_zero, List.set_cons_succ]
        refine wpAny_take (i := 24) (v := (.bool false)) rfl (by kernel_rfl) (by kernel_rfl) (by kernel_rfl) (fun _ _ _ h => h) (Or.inl ⟨by rfl, fun W => by go_simp⟩) ?_
        change wpAny _ _ _ _ _ _ (Act.put _ (some 61) _) _
        simp only [Act.put, List.setIfInBounds_toArray, List.set_cons_zero, List.set_cons_succ]
        refine wpAny_take (i := 25) (v := (.bool false)) rfl (by kernel_rfl) (by kernel_rfl) (by kernel_rfl) (fun _ _ _ h => h) (Or.inl ⟨by rfl, fun W => by go_simp⟩) ?_
        change wpAny _ _ _ _ _ _ (Act.put _ (some 62) _) _
        simp only [Act.put, List.setIfInBounds_toArray, List.set_cons_zero, List.set_cons_succ]
        refine wpAny_take (i := 26) (v := (.bool false)) rfl (by kernel_rfl) (by kernel_rfl) (by kernel_rfl) (fun _ _ _ h => h) (Or.inl ⟨by rfl, fun W => by go_simp⟩) ?_
        change wpAny _ _ _ _ _ _ (Act.put _ (some 63) _) _
        simp only [Act.put, List.setIfInBounds_toArray, List.set_cons_zero, List.set_cons_succ]
        refine wpAny_ready (rs := [27, 28]) (by kernel_rfl) (by simp) ?_
        refine AllReady.cons (i := 27) rfl (fun K hK => ?_) ?_
        rotate_left
        refine AllReady.cons (i := 28) rfl (fun K hK => ?_) AllReady.nil
        refine step_wanted (by rfl) ?_
        go_simp
        refine hK _ _ ?_
        clear hK K
        try change wpAny _ _ _ _ _ _ (Act.put _ (some 65) _) _
        try simp only [Act.put, List.setIfInBounds_toArray, List.set_cons_zero, List.set_cons_succ]
        refine wpAny_ready (rs := [27]) (by kernel_rfl) (by simp) ?_
        refine AllReady.cons (i := 27) rfl (fun K hK => ?_) AllReady.nil
        refine step_wanted (by rfl) ?_
        go_simp
        refine hK _ _ ?_
        clear hK K
        try change wpAny _ _ _ _ _ _ (Act.put _ (some 64) _) _
        try simp only [Act.put, List.setIfInBounds_toArray, List.set_cons_zero, List.set_cons_succ]
        rotate_left
        refine step_wanted (by rfl) ?_
        go_simp
        refine hK _ _ ?_
        clear hK K
        try change wpAny _ _ _ _ _ _ (Act.put _ (some 64) _) _
        try simp only [Act.put, List.setIfInBounds_toArray, List.set_cons_zero, List.set_cons_succ]
        refine wpAny_ready (rs := [28]) (by kernel_rfl) (by simp) ?_
        refine AllReady.cons (i := 28) rfl (fun K hK => ?_) AllReady.nil
        refine step_wanted (by rfl) ?_
        go_simp
        refine hK _ _ ?_
        clear hK K
        try change wpAny _ _ _ _ _ _ (Act.put _ (some 65) _) _
        try simp only [Act.put, List.setIfInBounds_toArray, List.set_cons_zero, List.set_cons_succ]
        all_goals
          refine wpAny_ready (rs := [29]) (by kernel_rfl) (by simp) ?_
          refine AllReady.cons (i := 29) rfl (fun K hK => ?_) AllReady.nil
          refine step_wanted (by rfl) ?_
          go_simp
          refine (c_keep t t hs hs w9 _ _ T9.out.2.1.2.1 T9.out.1.2.1).mono ?_
          rintro e w10 ⟨rfl, hb10⟩
          have T6 := Lib.hid (T9.out.bel hb10)
          rw [eqT_self]
          go_simp
          refine hK _ _ ?_
          clear hK K
          try change wpAny _ _ _ _ _ _ (Act.put _ (some 66) _) _
          try simp only [Act.put, List.setIfInBounds_toArray, List.set_cons_zero, List.set_cons_succ]
          refine wpAny_take (i := 30) (v := (.bool false)) rfl (by kernel_rfl) (by kernel_rfl) (by kernel_rfl) (fun _ _ _ h => h) (Or.inl ⟨by rfl, fun W => by go_simp⟩) ?_
          change wpAny _ _ _ _ _ _ (Act.put _ (some 67) _) _
          simp only [Act.put, List.setIfInBounds_toArray, List.set_cons_zero, List.set_cons_succ]
          refine wpAny_take (i := 31) (v := (.bool false)) rfl (by kernel_rfl) (by kernel_rfl) (by kernel_rfl) (fun _ _ _ h => h) (Or.inl ⟨by rfl, fun W => by go_simp⟩) ?_
          change wpAny _ _ _ _ _ _ (Act.put _ (some 68) _) _
          simp only [Act.put, List.setIfInBounds_toArray, List.set_cons_zero, List.set_cons_succ]
          refine wpAny_done (by kernel_rfl) ?_ _
          clear HPD TD R6 hr6 hb6 k0 k1 k2 hn7 hr7 hb7 B7 hown8 hgrow8 B8 T8 HP8 R8 hb9 T9 p0 p1 p2 q0 q1 q2 hb10 x0 x1 x2 y0 y1 y2
          go_wp2_with fail
      all_goals
        refine (HGT.out w10 _ T6.out.2.2.1.rd).mono ?_
        rintro e w11 ⟨v11, rfl, hA11, hb11⟩
        replace hA11 : AtS _ w11 x1.kids v11 := hA11
        obtain ⟨ga, gc, rfl⟩ := hA11.at.shape
        have O7 := Lib.hid (one_start w11 x1 _ hA11.at)
        have T7 := Lib.hid (T6.out.bel (hb11.trans ((below_al w11 (.cells #[.int .i64 x1.k, .int .i64 x1.n, .slice ga x1.kids.length gc] 24)).mono hb11.size)))
        clear T6 hA11 hb11
        go_wp2_with fail
        revert O7 T7
        generalize w11.alloc (.cells #[.int .i64 x1.k, .int .i64 x1.n, .slice ga x1.kids.length gc] 24) = w11b
        intro O7 T7
        refine (HUN.out w11b _ T7.out.2.2.2).mono ?_
        rintro e w12 ⟨v12, rfl, hA12, hb12⟩
        replace hA12 : AtS _ w12 x1.kids v12 := hA12
        obtain ⟨ua, uc, rfl⟩ := hA12.at.shape
        have O8 := Lib.hid (one_start w12 x1 _ hA12.at)
        have hb12b := hb12.trans ((below_al w12 (.cells #[.int .i64 x1.k, .int .i64 x1.n, .slice ua x1.kids.length uc] 24)).mono hb12.size)
        have T8 := Lib.hid (T7.out.bel hb12b)
        have O9 := Lib.hid (O7.out.bel hb12b)
        clear T7 O7 hA12 hb12 hb12b
        obtain ⟨⟨u0, u1, u2⟩, _⟩ := O8.out
        obtain ⟨⟨r0, r1, r2⟩, _⟩ := O9.out
        go_wp2_with fail
        refine (c_keep x1 x1 HSZ.out HSZ.out _ _ _ O9.out.2.1 O8.out.2.1).mono ?_
        rintro e w13 ⟨rfl, hb13⟩
        rw [eqT_self]
        have T9 := Lib.hid (T8.out.bel hb13)
        clear T8 O8 O9 hb13 u0 u1 u2 r0 r1 r2
        go_wp2_with fail
        refine (bytes_any l l (by omega) (by omega) w13 _ _ T9.out.2.2.1.rd T9.out.2.2.2).mono ?_
        rintro e w14 ⟨rfl, hb14⟩
        rw [decide_eq_true (rfl : l = l)]
        have T10 := Lib.hid (T9.out.bel hb14)
        clear T9 hb14
        go_wp2_with fail
        refine (wakes3_any _).mono ?_
        rintro e wz ⟨rfl, hbz⟩
        go_wp2_with fail
        go_ret
        exact ⟨rfl, T10.out.1.2.2.trans (hbz.mono T10.out.1.2.2.size)⟩
end Go.Proofs.Ythcjjfgigbgdkaa
