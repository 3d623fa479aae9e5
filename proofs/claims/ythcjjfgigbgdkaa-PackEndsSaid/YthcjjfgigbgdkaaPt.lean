/- slices.Clone, package pack's Put; package porismkeep's Bytes. -/
import Derived.Test.YthcjjfgigbgdkaaPu
import Derived.Test.YthcjjfgigbgdkaaRc
namespace Go.Proofs.Ythcjjfgigbgdkaa
open Go.RowKit Go Go.Joins
set_option linter.unusedVariables false

/-- A row of bytes that can be read. -/
def RdBy (l : List Int) (v : Value) (w : World) : Prop := ∃ a cap, v = .slice a l.length cap ∧ l.length ≤ cap ∧ cap ≤ maxLen ∧ (a = none → l.length = 0 ∧ cap = 0) ∧
  (0 < l.length → ∃ b off, a = some ⟨b, off, none⟩ ∧ ∀ i (_ : i < l.length), w.cell? ⟨b, off + i, none⟩ = some (.int .u8 l[i]))
theorem RdBy.bel {l : List Int} {v : Value} {w w' : World} (h : RdBy l v w) (hb : Below w.heap.size w w') : RdBy l v w' := by
  obtain ⟨a, cap, h1, h2, h3, h4, h5⟩ := h
  refine ⟨a, cap, h1, h2, h3, h4, fun hl => ?_⟩
  obtain ⟨b, off, h6, h7⟩ := h5 hl
  exact ⟨b, off, h6, fun i hi => gcell hb (h7 i hi)⟩
theorem RowBy.rd {B : Nat} {l : List Int} {v : Value} {w : World} (h : RowBy B l v w) : RdBy l v w := by
  have h : w.ownsRow B 5 1 v l.length (l.map (Value.int .u8)) := h
  rcases h.2 with ⟨rfl, h0⟩ | ⟨g, cap, cur, rfl, hb, hg, h1, h2, h3, htake⟩
  · exact ⟨none, 0, by rw [h0], by omega, by decide, fun _ => ⟨h0, rfl⟩, fun hl => by omega⟩
  · refine ⟨_, cap, rfl, h1, h2, (fun e => by cases e), fun hl => ⟨g, 0, rfl, fun i hi => ?_⟩⟩
    rw [Nat.zero_add, h.cellAt i (by omega)]
    simp [hi]
theorem RdBy.nil (w : World) : RdBy [] (.slice none 0 0) w := ⟨none, 0, rfl, by simp, by decide, fun _ => ⟨rfl, rfl⟩, fun h => by simp at h⟩
theorem rowBy_nil (B : Nat) (w : World) : RowBy B [] (.slice none 0 0) w := World.ownsRow_nil _ _ _ _
theorem rowBy_empty {B : Nat} {w : World} {ty : TypeId} (hB : B ≤ w.heap.size) : (w.alloc (.cells #[] 5)).ownsRow B 5 1 (.slice (some ⟨w.heap.size, 0, none⟩) 0 0) 0 [] :=
  ⟨rfl, .inr ⟨w.heap.size, 0, #[], rfl, hB, World.alloc_heap_new w _, Nat.le_refl _, by decide, rfl, rfl⟩⟩

theorem eql_nil (w : World) (a : Addr) (l c : Nat) : (binOp .eql 47 (.slice (some a) l c) (.slice none 0 0)).run Try.prog w = .ok (.bool false) w := by kernel_rfl
theorem eql_nil0 (w : World) : (binOp .eql 47 (.slice none 0 0) (.slice none 0 0)).run Try.prog w = .ok (.bool true) w := by kernel_rfl
set_option maxRecDepth 100000 in
set_option maxHeartbeats 1600000 in
theorem clone_any (l : List Int) (hl : l.length ≤ 1099511627776) (w : World) (v : Value) (hR : RdBy l v w) :
    Calls Try.prog 61 #[v] w fun e w' => ∃ v', e = .returned v' ∧ RowBy w.heap.size l v' w' ∧ Below w.heap.size w w' := by
  obtain ⟨a, cap, rfl, h2, h3, h4, h5⟩ := hR
  obtain ⟨i0, hi, hz0, hz1, hz2⟩ := info_parts Try.infoByte
  cases a with
  | none =>
    obtain ⟨h0, rfl⟩ := h4 rfl
    obtain rfl : l = [] := List.eq_nil_of_length_eq_zero h0
    clear h2 h3 h4 h5 h0
    have hE := eql_nil0
    simp only [List.length_nil]
    go_enter Try.func61, Try.ntmps61
    go_wp2_with fail
    go_ret
    exact ⟨_, rfl, rowBy_nil _ _, Below.refl _ _⟩
  | some a =>
    have H5 := Lib.hid h5
    have hm1 : 0 + l.length ≤ maxLen := by unfold maxLen; omega
    have hm2 : (0 + l.length) * 1 ≤ 140737488355328 := by omega
    clear h4 h5
    have hE := fun w => eql_nil w a l.length cap
    go_enter Try.func61, Try.ntmps61
    go_wp2_with (at_builtin; go_loud (refine wpList_append_own_gen rfl (.tmp 5) (.tmp 6) 47 rfl w.heap.size 5 i0 _ 1 1 Try.underlying47 hi hz0 hz1 hz2 rfl (by decide) _ 0 [] rfl (rowBy_empty (ty := 5) (Nat.le_refl _)) l.length (l.map (Value.int .u8)) _ _ rfl (by simp) ?_ ?_ (ints_oneCell _ _) hm1 hm2 (by simp) ?_); rotate_left 2; intro v1 w1 hown1 hgrow1)
    · go_ret
      refine ⟨_, rfl, ?_, (below_al w _).grown hgrow1 (by simp) (fun k hk => by cases hk; exact Nat.le_refl _)⟩
      unfold RowBy
      simpa using hown1
    · intro h
      cases h
    · intro ad h
      cases h
      intro j u hu
      have hj : j < l.length := by simpa using (List.getElem?_eq_some_iff.1 hu).1
      obtain ⟨b, off, e, hc⟩ := H5.out (by omega)
      cases e
      rw [Addr.add_lit, gcell (below_al w _) (hc j hj)]
      rw [List.getElem?_map, List.getElem?_eq_getElem hj] at hu
      exact hu

theorem ats_of_at {w w' : World} {B : Nat} {l : List Tm} {v : Value} (hA : At w l v) (hB : w.heap.size ≤ B) (hb : Below w.heap.size w w') : AtS (fun b => b < B) w' l v :=
  (hA.toS).same fun b hb2 => ⟨by omega, hb.block b hb2⟩

set_option maxRecDepth 100000 in
set_option maxHeartbeats 2000000 in
theorem put_any (b : List Int) (t : Tm) (hF : Fits t) (hs : size t ≤ 1048576) (hl : b.length ≤ 1048576) (w : World) (vb v : Value) (hR : RdBy b vb w) (hA : At w t.kids v) :
    Calls Try.prog 38 #[vb, .agg #[.int .i64 t.k, .int .i64 t.n, v]] w fun e w' => ∃ v', e = .returned (.tuple #[v', .int .i64 (checkE t)]) ∧ (checkE t = 0 → RowBy w.heap.size (b ++ packT t) v' w') ∧ (checkE t ≠ 0 → v' = .slice none 0 0) ∧ Below w.heap.size w w' := by
  have hc0 := c_check t hF hs
  obtain ⟨a1, c1, rfl⟩ := hA.shape
  have O0 := Lib.hid (one_start w t _ hA)
  have R0 := Lib.hid (hR.bel (below_al w (.cells #[.int .i64 t.k, .int .i64 t.n, .slice a1 t.kids.length c1] 24)))
  have HC := Lib.hid hc0
  clear hA hc0 hR
  go_enter Try.func38, Try.ntmps38
  have A0 := Lib.hid O0.out.2.1
  obtain ⟨⟨x0, x1, x2⟩, _⟩ := O0.out
  go_wp2_with fail
  refine (HC.out _ _ A0.out).mono ?_
  rintro e w2 ⟨rfl, hb2⟩
  have O2 := Lib.hid (O0.out.bel hb2)
  have R2 := Lib.hid (R0.out.bel hb2)
  clear hb2 O0 R0 A0 x0 x1 x2 HC
  by_cases hck : checkE t = 0
  rotate_left
  · have e0 : (checkE t != 0) = true := by simpa using hck
    have HN := Lib.hid hck
    clear hck
    go_wp2_with fail
    go_ret2
    exact ⟨_, rfl, fun h => absurd h HN.out, fun _ => rfl, O2.out.2.2⟩
  · have HN := Lib.hid hck
    have hfm := Lib.hid (check_formed hck)
    rw [hck]
    clear hck
    go_wp2_with fail
    refine wp_region_rel_tail 3 (by kernel_rfl) (by kernel_rfl) (by kernel_rfl) ?_
    simp only [List.take_succ_cons, List.take_zero]
    simp only [List.drop_succ_cons, List.drop_zero]
    apply RelWalk.next 1
    · kernel_rfl
    · intro X _ W hW hcl
      simp only [List.take_succ_cons, List.take_zero]
      repeat (go_big_quiet_step (fail))
      exact wpQuiet_nil rfl
    simp only [List.drop_succ_cons, List.drop_zero]
    refine RelWalk.made0 (plain fun v w => RowBy w2.heap.size b v w) rfl (by kernel_rfl) (by kernel_rfl) rfl (mono_plain fun v w w' hg h => h.bel hg) (fun w6 hg => ?_) ?_
    · have hc := Lib.hid ((clone_any b (by omega) w6 _ (R2.out.bel hg)).mono fun e w' ⟨v', h1, h2, h3⟩ => (⟨v', h1, h3, h2.le hg.size⟩ : ∃ v', e = Ending.returned v' ∧ Grw w6 w' ∧ RowBy w2.heap.size b v' w'))
      go_simp
      exact rel_enter hc.out
    simp only [Act.put, List.setIfInBounds_toArray, List.set_cons_zero, List.set_cons_succ]
    apply RelWalk.rest
    · kernel_rfl
    · intro X _ W hW hcl
      obtain ⟨⟨x0, x1, x2⟩, _⟩ := O2.out
      have k0 := fun q => gcell (hW q) x0
      have k1 := fun q => gcell (hW q) x1
      have k2 := fun q => gcell (hW q) x2
      clear x0 x1 x2
      repeat (go_big_quiet_step (fail))
      exact wpQuiet_nil rfl
    intro g w7 hg _
    have HG := Lib.hid hg
    clear hg
    simp only [Spread]
    rintro v13 h13
    have H13 := Lib.hid (show RowBy w2.heap.size b v13 w7 from h13)
    clear h13
    simp only [Act.put, List.setIfInBounds_toArray, List.set_cons_zero, List.set_cons_succ]
    have HW := Lib.hid (write_ok t hfm.out b w2.heap.size w7 v13 _ (by omega) HG.out.size H13.out (ats_of_at O2.out.2.1 (Nat.le_refl _) HG.out))
    go_wp2_with (go_at_call 60; refine HW.out.mono ?_; rintro e w8 ⟨v8, rfl, hr8, hb8⟩)
    go_ret2
    have hB := O2.out.2.2
    exact ⟨v8, by rw [HN.out]; rfl, fun _ => hr8.le hB.size, fun h => absurd HN.out h, hB.trans (((HG.out.trans hb8)).mono hB.size)⟩
set_option maxRecDepth 100000 in
set_option maxHeartbeats 1600000 in
theorem bytes_any (a b : List Int) (ha : a.length ≤ 1099511627776) (hb : b.length ≤ 1099511627776) (w : World) (va vb : Value) (hA : RdBy a va w) (hB : RdBy b vb w) :
    Calls Try.prog 39 #[va, vb] w fun e w' => e = .returned (.bool (decide (a = b))) ∧ Below w.heap.size w w' := by
  obtain ⟨aa, ca, rfl, a1, a2, _, hca⟩ := hA
  obtain ⟨ab, cb, rfl, b1, b2, _, hcb⟩ := hB
  by_cases hlm : a.length = b.length
  rotate_left
  · have e1 : ((a.length : Int) != (b.length : Int)) = true := by simp; omega
    have HE := Lib.hid (show decide (a = b) = false from decide_eq_false (fun h => hlm (by rw [h])))
    clear hlm
    go_enter Try.func39, Try.ntmps39
    go_wp2_with fail
    go_ret
    exact ⟨ret_bool HE.out.symm, Below.refl _ _⟩
  have e1 : ((a.length : Int) != (b.length : Int)) = false := by simp; omega
  have HLM := Lib.hid hlm
  have CA := Lib.hid hca
  have CB := Lib.hid hcb
  have hlm1 : a.length ≤ b.length := by omega
  have hlm2 : b.length ≤ a.length := by omega
  clear hlm hca hcb
  go_enter Try.func39, Try.ntmps39
  go_wp2_with fail
  go_loopw [5] (fun i wr => ∃ j : Nat, j ≤ a.length ∧ i = .int .i64 j ∧ a.take j = b.take j ∧ Grw w wr)
    (fun i _ => a.length - (RowKit.intOf i).toNat)
  case atStart => exact ⟨0, Nat.zero_le _, rfl, by simp, Grw.rfl _⟩
  case round =>
    obtain ⟨j, hj, rfl, hsc, hg⟩ := hrel
    have HG := Lib.hid hg
    have HSC := Lib.hid hsc
    clear hg hsc
    by_cases hlt : j < a.length
    · have hlt2 : j < b.length := by omega
      obtain ⟨ba, oa, rfl, hca⟩ := CA.out (by omega)
      obtain ⟨bb, ob, rfl, hcb⟩ := CB.out (by omega)
      obtain ⟨x, hx⟩ : ∃ x : Int, a[j] = x := ⟨_, rfl⟩
      obtain ⟨y, hy⟩ : ∃ y : Int, b[j] = y := ⟨_, rfl⟩
      have hp := hca j hlt
      have hq := hcb j hlt2
      rw [hx] at hp
      rw [hy] at hq
      have HP := Lib.hid (And.intro hp hq)
      have hl1 : (j : Int) < (a.length : Int) := by omega
      have hl2 : (j : Int) < (b.length : Int) := by omega
      have hl0 : (0 : Int) ≤ (j : Int) := by omega
      clear hca hcb hp hq
      by_cases hxy : x = y
      · have e2 : (x != y) = false := by simpa using hxy
        have HT := Lib.hid (eqI_take hlt hlt2 HSC.out (by rw [hx, hy, hxy]))
        clear hx hy hxy
        go_wp2_with fail
        refine wp_region_rel (by kernel_rfl) (by kernel_rfl) (by kernel_rfl) ?_
        apply RelWalk.rest
        · kernel_rfl
        · intro X _ W hW hcl
          have hp := gcell HG.out HP.out.1
          have hq := gcell HG.out HP.out.2
          have k0 := fun q => gcell (hW q) hp
          have k1 := fun q => gcell (hW q) hq
          clear hp hq
          repeat (go_big_quiet_step (fail))
          exact wpQuiet_nil rfl
        intro g w2 hg _
        have HG2 := Lib.hid (HG.out.tr hg)
        clear HG hg
        simp only [Spread]
        go_wp2_with fail
        go_roundw
        case rel => exact ⟨j + 1, by omega, by go_num, HT.out, HG2.out⟩
        case measure => simp [RowKit.intOf]; omega
      · have e2 : (x != y) = true := by simpa using hxy
        have HE := Lib.hid (show decide (a = b) = false from decide_eq_false (fun h => by subst h; exact hxy (hx.symm.trans hy)))
        clear hx hy hxy
        go_wp2_with fail
        refine wp_region_rel (by kernel_rfl) (by kernel_rfl) (by kernel_rfl) ?_
        apply RelWalk.rest
        · kernel_rfl
        · intro X _ W hW hcl
          have hp := gcell HG.out HP.out.1
          have hq := gcell HG.out HP.out.2
          have k0 := fun q => gcell (hW q) hp
          have k1 := fun q => gcell (hW q) hq
          clear hp hq
          repeat (go_big_quiet_step (fail))
          exact wpQuiet_nil rfl
        intro g w2 hg _
        have HG2 := Lib.hid (HG.out.tr hg)
        clear HG hg
        simp only [Spread]
        go_wp2_with fail
        go_ret
        exact ⟨ret_bool HE.out.symm, HG2.out⟩
    · obtain rfl : j = a.length := by omega
      have hlt2 : decide ((a.length : Int) < (a.length : Int)) = false := by simp
      have HE := Lib.hid (show decide (a = b) = true from decide_eq_true (by
        have := HSC.out
        rw [List.take_length, List.take_of_length_le (by omega)] at this
        exact this))
      go_wp2_with fail
      go_ret
      exact ⟨ret_bool HE.out.symm, HG.out⟩

end Go.Proofs.Ythcjjfgigbgdkaa
