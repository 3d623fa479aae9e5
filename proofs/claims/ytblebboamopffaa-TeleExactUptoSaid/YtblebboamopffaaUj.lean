/- The page's wrap, Pis, Lams, Spine: no conditions but sizes. -/
import Derived.Test.YtblebboamopffaaUb
import Derived.Test.YtblebboamopffaaRr
import Derived.Deep.DeepCutAuto
namespace Go.Proofs.Ytblebboamopffaa
open Go.RowKit
set_option linter.unusedVariables false

/-- A term that was made of new blocks. -/
def MadeN (w : World) (r : Tm) (e : Ending) (w' : World) : Prop := ∃ a cap, e = .returned (.agg #[.int .i64 r.k, .int .i64 r.n, .slice a r.kids.length cap]) ∧ AtS (fun b => w.heap.size ≤ b) w' r.kids (.slice a r.kids.length cap) ∧ Below w.heap.size w w'
/-- In a region that draws: a term whose Kids lie apart from a box; a row of two such; a term made of these. -/
def RA (S : Nat → Prop) (r : Tm) : VP := fun v s e w => ∃ a cap, v = .agg #[.int .i64 r.k, .int .i64 r.n, .slice a r.kids.length cap] ∧ AtS S w r.kids (.slice a r.kids.length cap)
theorem RA.mono (S : Nat → Prop) (r : Tm) : Mono (RA S r) := fun v s e w w' hg ⟨a, c, h1, h2⟩ => ⟨a, c, h1, h2.grw hg⟩
def RB (S : Nat → Prop) (x y : Tm) : VP := fun v s e w => v = .slice (some ⟨s, 0, none⟩) 2 2 ∧ s < w.heap.size ∧ ∃ vx vy, w.heap[s]? = some (.cells #[.int .i64 x.k, .int .i64 x.n, vx, .int .i64 y.k, .int .i64 y.n, vy] 24 (0, 0)) ∧ AtS S w x.kids vx ∧ AtS S w y.kids vy
theorem RB.mono (S : Nat → Prop) (x y : Tm) : Mono (RB S x y) := fun v s e w w' hg ⟨h1, h2, vx, vy, h4, h5, h6⟩ => ⟨h1, Nat.lt_of_lt_of_le h2 hg.size, vx, vy, (hg.block s (Array.getElem?_eq_some_iff.1 h4).1).trans h4, h5.grw hg, h6.grw hg⟩
theorem ra_twin {S : Nat → Prop} {r : Tm} (hs : size r ≤ 1048576) {W : World} (hB : ∀ b, W.heap.size ≤ b → S b) {v : Value} (hA : At W r.kids v) : Calls Try.prog 11 #[.agg #[.int .i64 r.k, .int .i64 r.n, v]] W fun e w' => ∃ v', e = .returned v' ∧ Grw W w' ∧ RA S r v' W.heap.size w'.heap.size w' :=
  (c_twin r hs W v hA).mono fun e w' ⟨a, c, he, hS, _, hb⟩ => ⟨_, he, hb, a, c, rfl, hS.same fun b h => ⟨hB b h.1, rfl⟩⟩
theorem ra_t {S : Nat → Prop} {x y : Tm} {W : World} (hB : ∀ b, W.heap.size ≤ b → S b) {k : Int} {v : Value} {s e : Nat} (h : RB S x y v s e W) : Calls Try.prog 42 #[.int .i64 k, v] W fun e w' => ∃ v', e = .returned v' ∧ Grw W w' ∧ RA S (.node k 0 [x, y]) v' W.heap.size w'.heap.size w' := by
  obtain ⟨rfl, h2, vx, vy, h4, h5, h6⟩ := h
  refine (t_anyR (fun b => S b ∧ b < W.heap.size) k [x, y] (by simp) (by simp) W _ (fun b h => h.2) (row_of2 h4 h5.lt h6.lt)).mono fun e w' h => ?_
  obtain ⟨a, c, he, hS, hb⟩ := h
  exact ⟨_, he, hb, a, c, rfl, hS.same fun b h => ⟨h.elim (fun h => h.1) (hB b), rfl⟩⟩
/-- The loop's boxes: the result's is untouched, the other holds what was made so far. -/
def OutB (w : World) (B R : Nat) (o : Tm) (W : World) : Prop := ∃ a c, W.heap[B]? = some (.cells #[.int .i64 o.k, .int .i64 o.n, .slice a o.kids.length c] 24 (0, 0)) ∧ W.heap[R]? = some (.cells #[.int .i64 0, .int .i64 0, .slice none 0 0] 24 (0, 0)) ∧ AtS (fun b => w.heap.size ≤ b ∧ b ≠ B ∧ b ≠ R) W o.kids (.slice a o.kids.length c) ∧ Below w.heap.size w W ∧ w.heap.size ≤ B ∧ R ≠ B ∧ w.heap.size ≤ R
set_option maxRecDepth 100000 in
set_option maxHeartbeats 2000000 in
theorem rwrap_any (k : Int) (l : List Tm) (hsl : sizeL l ≤ 1048576) (t : Tm) (hs : size t ≤ 1048576) (w : World) (vl v : Value) (hL : At w l vl) (hA : At w t.kids v) :
    Calls Try.prog 41 #[.int .i64 k, vl, .agg #[.int .i64 t.k, .int .i64 t.n, v]] w (MadeN w (wrapT k l t)) := by
  obtain ⟨a1, c1, rfl⟩ := hA.shape
  obtain ⟨pa, cp, rfl⟩ := hL.shape
  have hll := length_le_sizeL l
  have HL := Lib.hid hL
  have HT := Lib.hid (fun W v hA => c_twin t hs W v hA)
  have hO := one_start w t _ hA
  have hb1 := below_al (w.alloc (.cells #[.int .i64 t.k, .int .i64 t.n, .slice a1 t.kids.length c1] 24)) (.cells #[.int .i64 0, .int .i64 0, .slice none 0 0] 24)
  have O1 := Lib.hid (hO.bel hb1)
  have Z1 := Lib.hid (World.alloc_heap_new (w.alloc (.cells #[.int .i64 t.k, .int .i64 t.n, .slice a1 t.kids.length c1] 24)) (.cells #[.int .i64 0, .int .i64 0, .slice none 0 0] 24))
  clear hA hL hO hb1
  have hw0 : IntKind.i64.wrap ((l.length : Int) - 1) = (l.length : Int) - 1 := IntWalk.i64_in _ (by omega)
  go_enter Try.func41, Try.ntmps41
  obtain ⟨⟨x0, x1, x2⟩, _⟩ := O1.out
  go_wp2_with fail
  refine (HT.out _ _ O1.out.2.1).mono ?_
  rintro e w1 ⟨a2, c2, rfl, hS2, _, hb2⟩
  have Z2 := Lib.hid ((hb2.block _ (by simp)).trans Z1.out)
  have O2 := Lib.hid (O1.out.bel hb2)
  have HS2 := Lib.hid (hS2.same (T := fun b => w.heap.size ≤ b ∧ b ≠ w1.heap.size ∧ b ≠ w.heap.size + 1) (w' := w1) fun b h => ⟨by have := h.1; have := h.2; simp only [World.size_alloc] at *; omega, rfl⟩)
  have hz2 := hb2.size
  simp only [World.size_alloc] at hz2
  clear x0 x1 x2 HT O1 Z1 hS2 hb2
  simp only [World.size_alloc] at Z2
  have hO3 : OutB w w1.heap.size (w.heap.size + 1) t (w1.alloc (.cells #[.int .i64 t.k, .int .i64 t.n, .slice a2 t.kids.length c2] 24)) := by
    refine ⟨a2, c2, World.alloc_heap_new w1 _, ?_, HS2.out.grw (below_al w1 _), O2.out.2.2.trans ((below_al w1 _).mono (by omega)), by omega, by omega, by omega⟩
    exact ((below_al w1 _).block _ (by omega)).trans Z2.out
  have O3 := Lib.hid hO3
  clear hO3 HS2 Z2 O2
  go_wp2_with fail
  generalize w1.heap.size = B at *
  go_loopw [8] (fun i wr => ∃ q : Nat, q ≤ l.length ∧ i = .int .i64 ((q : Int) - 1) ∧ OutB w B (w.heap.size + 1) (wrapT k (l.drop q) t) wr) (fun i _ => (RowKit.intOf i + 1).toNat)
  case atStart => exact ⟨l.length, Nat.le_refl _, rfl, by rw [List.drop_length]; exact O3.out⟩
  case round =>
    obtain ⟨q, hq, rfl, hO⟩ := hrel
    cases q with
    | zero =>
      have hlt : ¬ (0 : Int) ≤ ((0 : Nat) : Int) - 1 := by omega
      rw [List.drop_zero] at hO
      generalize wrapT k l t = o at *
      obtain ⟨a, c, z1, z2, z3, z4, z5, z6, z7⟩ := hO
      obtain ⟨⟨y0, y1, y2⟩, f0, f1, f2⟩ := boxc z1
      obtain ⟨⟨x0, x1, x2⟩, g0, g1, g2⟩ := boxc z2
      have HZ2 := Lib.hid z2
      have HZ3 := Lib.hid z3
      have HZ4 := Lib.hid z4
      clear z1 z2 z3 z4
      go_wp2_with fail
      have hbx := box_store3 HZ2.out (.int .i64 o.k) (.int .i64 o.n) (.slice a o.kids.length c)
      have hAF := HZ3.out.same (T := fun b => w.heap.size ≤ b) (w' := put3 wr (w.heap.size + 1) o (.slice a o.kids.length c)) fun b hb => ⟨hb.1, other_store3 hb.2.2 _ _ _⟩
      have hBF := HZ4.out.trans (below_store3 (D := w.heap.size) (W := wr) z7 (.int .i64 o.k) (.int .i64 o.n) (.slice a o.kids.length c))
      obtain ⟨⟨s0, s1, s2⟩, _⟩ := boxc hbx
      exact bodyPost_ret (v := .agg #[.int .i64 o.k, .int .i64 o.n, .slice a o.kids.length c]) (by simp [results, Try.f41, go_sem, s0, s1, s2]) rfl ⟨a, c, rfl, hAF, hBF⟩
    | succ p =>
      have e1 : ((p + 1 : Nat) : Int) - 1 = (p : Int) := by omega
      have hp : p < l.length := by omega
      rw [e1]
      have hO2 : wrapT k (l.drop p) t = .node k 0 [l[p], wrapT k (l.drop (p + 1)) t] := by rw [List.drop_eq_getElem_cons hp, wrapT]
      generalize wrapT k (l.drop (p + 1)) t = o at *
      obtain ⟨a, c, z1, z2, z3, z4, z5, z6, z7⟩ := hO
      obtain ⟨b, off, cap', vs, he, h1, h2, kk, kn, kv, ks⟩ := (HL.out.bel z4 (Nat.le_refl _)).pos (by omega)
      cases he
      have gs := ks p hp
      obtain ⟨au, cu, hvu⟩ := gs.shape
      have gv := kv p hp
      rw [hvu] at gv gs
      have GP := Lib.hid (And.intro (And.intro (kk p hp) (And.intro (kn p hp) gv)) (And.intro gs trivial))
      obtain ⟨⟨y0, y1, y2⟩, f0, f1, f2⟩ := boxc z1
      have GB := Lib.hid (And.intro (And.intro y0 (And.intro y1 y2)) (And.intro z3 trivial))
      have hpi : (p : Int) < (l.length : Int) := by omega
      have hp0 : (0 : Int) ≤ (p : Int) := by omega
      have hsz := size_get hp
      have hBw : B < wr.heap.size := (Array.getElem?_eq_some_iff.1 z1).1
      have hRw : w.heap.size + 1 < wr.heap.size := (Array.getElem?_eq_some_iff.1 z2).1
      have CT := Lib.hid (fun W (hW : Below wr.heap.size wr W) => ra_twin (S := fun b => w.heap.size ≤ b ∧ b ≠ B ∧ b ≠ w.heap.size + 1) (r := l[p]) (by omega) (W := W) (fun b hb => by have := hW.size; omega) (gs.bel hW (Nat.le_refl _)))
      have HZ1 := Lib.hid z1
      have HZ2 := Lib.hid z2
      have HZ4 := Lib.hid z4
      clear kk kn kv ks gs gv y0 y1 y2 f0 f1 f2 z1 z2 z3 z4 h1 h2 hvu
      go_wp2_with fail
      refine wp_region_rel_tail 9 (by kernel_rfl) (by kernel_rfl) (by kernel_rfl) ?_
      simp only [List.take_succ_cons, List.take_zero]
      simp only [List.drop_succ_cons, List.drop_zero]
      apply RelWalk.next 5
      · kernel_rfl
      · intro X _ W hW hcl
        simp only [List.take_succ_cons, List.take_zero]
        obtain ⟨⟨z0, z1, z2⟩, hP, _⟩ := GP.out
        have rP0 := fun q => gcell (hW q) z0
        have rP1 := fun q => gcell (hW q) z1
        have rP2 := fun q => gcell (hW q) z2
        clear z0 z1 z2
        repeat (go_big_quiet_step (fail))
        exact wpQuiet_nil rfl
      simp only [List.drop_succ_cons, List.drop_zero]
      refine RelWalk.made0 (RA (fun b => w.heap.size ≤ b ∧ b ≠ B ∧ b ≠ w.heap.size + 1) l[p]) rfl (by kernel_rfl) (by kernel_rfl) rfl (RA.mono _ l[p]) (fun w2 hg => ?_) ?_
      · have hc := Lib.hid (CT.out w2 hg)
        go_simp
        exact rel_enter hc.out
      simp only [Act.put, List.setIfInBounds_toArray, List.set_cons_zero, List.set_cons_succ]
      apply RelWalk.next 1
      · kernel_rfl
      · intro X _ W hW hcl
        simp only [List.take_succ_cons, List.take_zero]
        obtain ⟨⟨z0, z1, z2⟩, hB, _⟩ := GB.out
        have rB0 := fun q => gcell (hW q) z0
        have rB1 := fun q => gcell (hW q) z1
        have rB2 := fun q => gcell (hW q) z2
        clear z0 z1 z2
        repeat (go_big_quiet_step (fail))
        exact wpQuiet_nil rfl
      simp only [List.drop_succ_cons, List.drop_zero]
      refine RelWalk.made1 (RB (fun b => w.heap.size ≤ b ∧ b ≠ B ∧ b ≠ w.heap.size + 1) l[p] o) rfl (by kernel_rfl) (by kernel_rfl) rfl (RB.mono _ l[p] o) (fun g w2 hg v1 hv1 => ?_) ?_
      · obtain ⟨a9, c9, rfl, hA9⟩ := hv1
        go_simp
        have h3 := GB.out.2.1.grw hg
        have h0 := hg.size
        exact ⟨below_al w2 _, rfl, by simp, _, _, World.alloc_heap_new w2 _, hA9.grw (below_al w2 _), h3.grw (below_al w2 _)⟩
      simp only [Act.put, List.setIfInBounds_toArray, List.set_cons_zero, List.set_cons_succ]
      refine RelWalk.made1 (RA (fun b => w.heap.size ≤ b ∧ b ≠ B ∧ b ≠ w.heap.size + 1) (.node k 0 [l[p], o])) rfl (by kernel_rfl) (by kernel_rfl) rfl (RA.mono _ _) (fun g w2 hg v1 hv1 => ?_) ?_
      · have h0 := hg.size
        have hc := Lib.hid (ra_t (k := k) (fun b hb => by omega) hv1)
        obtain ⟨rfl, hrest⟩ := hv1
        clear hrest
        go_simp
        exact rel_enter hc.out
      simp only [Act.put, List.setIfInBounds_toArray, List.set_cons_zero, List.set_cons_succ]
      refine RelWalk.done fun g w5 hg hP => ?_
      simp only [Spread]
      rintro v26 ⟨a26, c26, rfl, h26⟩ v25 ⟨rfl, _⟩ v23 ⟨a23, c23, rfl, _⟩
      clear hP
      have HG := Lib.hid hg
      have H26 := Lib.hid h26
      have HB5 := Lib.hid ((hg.block B hBw).trans HZ1.out)
      have HR5 := Lib.hid ((hg.block (w.heap.size + 1) (Array.getElem?_eq_some_iff.1 HZ2.out).1).trans HZ2.out)
      have hz5 := hg.size
      clear hg h26 HZ1 HZ2 GP GB CT
      obtain ⟨⟨y0, y1, y2⟩, f0, f1, f2⟩ := boxc HB5.out
      go_wp2_with fail
      have hF : OutB w B (w.heap.size + 1) (.node k 0 [l[p], o]) (put3 w5 B (.node k 0 [l[p], o]) (.slice a26 2 c26)) :=
        ⟨a26, c26, box_store3 HB5.out _ _ _, (other_store3 z6 _ _ _).trans HR5.out, H26.out.same fun b hb => ⟨hb, other_store3 hb.2.1 _ _ _⟩, (HZ4.out.trans (HG.out.mono HZ4.out.size)).trans (below_store3 z5 _ _ _), z5, z6, z7⟩
      have HF := Lib.hid hF
      clear hF y0 y1 y2 f0 f1 f2 HB5 HR5 H26 HG HZ4
      go_roundw
      case rel => exact ⟨p, by omega, by go_num, by rw [hO2]; exact HF.out⟩
      case measure => simp [RowKit.intOf]
set_option maxRecDepth 100000 in
set_option maxHeartbeats 2000000 in
theorem rspine_any (t : Tm) (hs : size t ≤ 1048576) (l : List Tm) (hsl : sizeL l ≤ 1048576) (w : World) (v vl : Value) (hA : At w t.kids v) (hL : At w l vl) :
    Calls Try.prog 22 #[.agg #[.int .i64 t.k, .int .i64 t.n, v], vl] w (MadeN w (spineT t l)) := by
  obtain ⟨a1, c1, rfl⟩ := hA.shape
  obtain ⟨pa, cp, rfl⟩ := hL.shape
  have hll := length_le_sizeL l
  have HL := Lib.hid hL
  have HT := Lib.hid (fun W v hA => c_twin t hs W v hA)
  have hO := one_start w t _ hA
  have hb1 := below_al (w.alloc (.cells #[.int .i64 t.k, .int .i64 t.n, .slice a1 t.kids.length c1] 24)) (.cells #[.int .i64 0, .int .i64 0, .slice none 0 0] 24)
  have O1 := Lib.hid (hO.bel hb1)
  have Z1 := Lib.hid (World.alloc_heap_new (w.alloc (.cells #[.int .i64 t.k, .int .i64 t.n, .slice a1 t.kids.length c1] 24)) (.cells #[.int .i64 0, .int .i64 0, .slice none 0 0] 24))
  clear hA hL hO hb1
  go_enter Try.func22, Try.ntmps22
  obtain ⟨⟨x0, x1, x2⟩, _⟩ := O1.out
  go_wp2_with fail
  refine (HT.out _ _ O1.out.2.1).mono ?_
  rintro e w1 ⟨a2, c2, rfl, hS2, _, hb2⟩
  have Z2 := Lib.hid ((hb2.block _ (by simp)).trans Z1.out)
  have O2 := Lib.hid (O1.out.bel hb2)
  have HS2 := Lib.hid (hS2.same (T := fun b => w.heap.size ≤ b ∧ b ≠ w1.heap.size ∧ b ≠ w.heap.size + 1) (w' := w1) fun b h => ⟨by have := h.1; have := h.2; simp only [World.size_alloc] at *; omega, rfl⟩)
  have hz2 := hb2.size
  simp only [World.size_alloc] at hz2
  clear x0 x1 x2 HT O1 Z1 hS2 hb2
  simp only [World.size_alloc] at Z2
  have hO3 : OutB w w1.heap.size (w.heap.size + 1) t (w1.alloc (.cells #[.int .i64 t.k, .int .i64 t.n, .slice a2 t.kids.length c2] 24)) := by
    refine ⟨a2, c2, World.alloc_heap_new w1 _, ?_, HS2.out.grw (below_al w1 _), O2.out.2.2.trans ((below_al w1 _).mono (by omega)), by omega, by omega, by omega⟩
    exact ((below_al w1 _).block _ (by omega)).trans Z2.out
  have O3 := Lib.hid hO3
  clear hO3 HS2 Z2 O2
  go_wp2_with fail
  generalize w1.heap.size = B at *
  go_loopw [6] (fun i wr => ∃ p : Nat, p ≤ l.length ∧ i = .int .i64 (p : Int) ∧ OutB w B (w.heap.size + 1) (spineT t (l.take p)) wr) (fun i _ => l.length - (RowKit.intOf i).toNat)
  case atStart => exact ⟨0, Nat.zero_le _, rfl, by rw [List.take_zero]; exact O3.out⟩
  case round =>
    obtain ⟨p, hq, rfl, hO⟩ := hrel
    by_cases hp : p < l.length
    rotate_left
    · obtain rfl : p = l.length := by omega
      have hlt : ¬ (l.length : Int) < (l.length : Int) := by omega
      rw [List.take_length] at hO
      generalize spineT t l = o at *
      obtain ⟨a, c, z1, z2, z3, z4, z5, z6, z7⟩ := hO
      obtain ⟨⟨y0, y1, y2⟩, f0, f1, f2⟩ := boxc z1
      obtain ⟨⟨x0, x1, x2⟩, g0, g1, g2⟩ := boxc z2
      have HZ2 := Lib.hid z2
      have HZ3 := Lib.hid z3
      have HZ4 := Lib.hid z4
      clear z1 z2 z3 z4
      go_wp2_with fail
      have hbx := box_store3 HZ2.out (.int .i64 o.k) (.int .i64 o.n) (.slice a o.kids.length c)
      have hAF := HZ3.out.same (T := fun b => w.heap.size ≤ b) (w' := put3 wr (w.heap.size + 1) o (.slice a o.kids.length c)) fun b hb => ⟨hb.1, other_store3 hb.2.2 _ _ _⟩
      have hBF := HZ4.out.trans (below_store3 (D := w.heap.size) (W := wr) z7 (.int .i64 o.k) (.int .i64 o.n) (.slice a o.kids.length c))
      obtain ⟨⟨s0, s1, s2⟩, _⟩ := boxc hbx
      exact bodyPost_ret (v := .agg #[.int .i64 o.k, .int .i64 o.n, .slice a o.kids.length c]) (by simp [results, Try.f22, go_sem, s0, s1, s2]) rfl ⟨a, c, rfl, hAF, hBF⟩
    · have hO2 : spineT t (l.take (p + 1)) = .node 6 0 [spineT t (l.take p), l[p]] := by rw [List.take_succ_eq_append_getElem hp, spine_append]; rfl
      generalize spineT t (l.take p) = o at *
      obtain ⟨a, c, z1, z2, z3, z4, z5, z6, z7⟩ := hO
      obtain ⟨b, off, cap', vs, he, h1, h2, kk, kn, kv, ks⟩ := (HL.out.bel z4 (Nat.le_refl _)).pos (by omega)
      cases he
      have gs := ks p hp
      obtain ⟨au, cu, hvu⟩ := gs.shape
      have gv := kv p hp
      rw [hvu] at gv gs
      have GP := Lib.hid (And.intro (And.intro (kk p hp) (And.intro (kn p hp) gv)) (And.intro gs trivial))
      obtain ⟨⟨y0, y1, y2⟩, f0, f1, f2⟩ := boxc z1
      have GB := Lib.hid (And.intro (And.intro y0 (And.intro y1 y2)) (And.intro z3 trivial))
      have hpi : (p : Int) < (l.length : Int) := by omega
      have hp0 : (0 : Int) ≤ (p : Int) := by omega
      have hsz := size_get hp
      have hBw : B < wr.heap.size := (Array.getElem?_eq_some_iff.1 z1).1
      have hRw : w.heap.size + 1 < wr.heap.size := (Array.getElem?_eq_some_iff.1 z2).1
      have CT := Lib.hid (fun W (hW : Below wr.heap.size wr W) => ra_twin (S := fun b => w.heap.size ≤ b ∧ b ≠ B ∧ b ≠ w.heap.size + 1) (r := l[p]) (by omega) (W := W) (fun b hb => by have := hW.size; omega) (gs.bel hW (Nat.le_refl _)))
      have HZ1 := Lib.hid z1
      have HZ2 := Lib.hid z2
      have HZ4 := Lib.hid z4
      clear kk kn kv ks gs gv y0 y1 y2 f0 f1 f2 z1 z2 z3 z4 h1 h2 hvu
      go_wp2_with fail
      refine wp_region_rel_tail 8 (by kernel_rfl) (by kernel_rfl) (by kernel_rfl) ?_
      simp only [List.take_succ_cons, List.take_zero]
      simp only [List.drop_succ_cons, List.drop_zero]
      apply RelWalk.next 5
      · kernel_rfl
      · intro X _ W hW hcl
        simp only [List.take_succ_cons, List.take_zero]
        obtain ⟨⟨z0, z1, z2⟩, hB, _⟩ := GB.out
        have rB0 := fun q => gcell (hW q) z0
        have rB1 := fun q => gcell (hW q) z1
        have rB2 := fun q => gcell (hW q) z2
        clear z0 z1 z2
        obtain ⟨⟨z0, z1, z2⟩, hP, _⟩ := GP.out
        have rP0 := fun q => gcell (hW q) z0
        have rP1 := fun q => gcell (hW q) z1
        have rP2 := fun q => gcell (hW q) z2
        clear z0 z1 z2
        repeat (go_big_quiet_step (fail))
        exact wpQuiet_nil rfl
      simp only [List.drop_succ_cons, List.drop_zero]
      refine RelWalk.made0 (RA (fun b => w.heap.size ≤ b ∧ b ≠ B ∧ b ≠ w.heap.size + 1) l[p]) rfl (by kernel_rfl) (by kernel_rfl) rfl (RA.mono _ l[p]) (fun w2 hg => ?_) ?_
      · have hc := Lib.hid (CT.out w2 hg)
        go_simp
        exact rel_enter hc.out
      simp only [Act.put, List.setIfInBounds_toArray, List.set_cons_zero, List.set_cons_succ]
      refine RelWalk.made1 (RB (fun b => w.heap.size ≤ b ∧ b ≠ B ∧ b ≠ w.heap.size + 1) o l[p]) rfl (by kernel_rfl) (by kernel_rfl) rfl (RB.mono _ o l[p]) (fun g w2 hg v1 hv1 => ?_) ?_
      · obtain ⟨a9, c9, rfl, hA9⟩ := hv1
        go_simp
        have h3 := GB.out.2.1.grw hg
        have h0 := hg.size
        exact ⟨below_al w2 _, rfl, by simp, _, _, World.alloc_heap_new w2 _, h3.grw (below_al w2 _), hA9.grw (below_al w2 _)⟩
      simp only [Act.put, List.setIfInBounds_toArray, List.set_cons_zero, List.set_cons_succ]
      refine RelWalk.made1 (RA (fun b => w.heap.size ≤ b ∧ b ≠ B ∧ b ≠ w.heap.size + 1) (.node 6 0 [o, l[p]])) rfl (by kernel_rfl) (by kernel_rfl) rfl (RA.mono _ _) (fun g w2 hg v1 hv1 => ?_) ?_
      · have h0 := hg.size
        have hc := Lib.hid (ra_t (k := 6) (fun b hb => by omega) hv1)
        obtain ⟨rfl, hrest⟩ := hv1
        clear hrest
        go_simp
        exact rel_enter hc.out
      simp only [Act.put, List.setIfInBounds_toArray, List.set_cons_zero, List.set_cons_succ]
      refine RelWalk.done fun g w5 hg hP => ?_
      simp only [Spread]
      rintro v22 ⟨a26, c26, rfl, h26⟩ v21 ⟨rfl, _⟩ v20 ⟨a23, c23, rfl, _⟩
      clear hP
      have HG := Lib.hid hg
      have H26 := Lib.hid h26
      have HB5 := Lib.hid ((hg.block B hBw).trans HZ1.out)
      have HR5 := Lib.hid ((hg.block (w.heap.size + 1) (Array.getElem?_eq_some_iff.1 HZ2.out).1).trans HZ2.out)
      have hz5 := hg.size
      clear hg h26 HZ1 HZ2 GP GB CT
      obtain ⟨⟨y0, y1, y2⟩, f0, f1, f2⟩ := boxc HB5.out
      go_wp2_with fail
      have hF : OutB w B (w.heap.size + 1) (.node 6 0 [o, l[p]]) (put3 w5 B (.node 6 0 [o, l[p]]) (.slice a26 2 c26)) :=
        ⟨a26, c26, box_store3 HB5.out _ _ _, (other_store3 z6 _ _ _).trans HR5.out, H26.out.same fun b hb => ⟨hb, other_store3 hb.2.1 _ _ _⟩, (HZ4.out.trans (HG.out.mono HZ4.out.size)).trans (below_store3 z5 _ _ _), z5, z6, z7⟩
      have HF := Lib.hid hF
      clear hF y0 y1 y2 f0 f1 f2 HB5 HR5 H26 HG HZ4
      go_roundw
      case rel => exact ⟨p + 1, by omega, by go_num, by rw [hO2]; exact HF.out⟩
      case measure => simp [RowKit.intOf]; omega
set_option maxRecDepth 100000 in
set_option maxHeartbeats 1000000 in
theorem rpis_any (l : List Tm) (hsl : sizeL l ≤ 1048576) (t : Tm) (hs : size t ≤ 1048576) (w : World) (vl v : Value) (hL : At w l vl) (hA : At w t.kids v) :
    Calls Try.prog 20 #[vl, .agg #[.int .i64 t.k, .int .i64 t.n, v]] w (MadeN w (wrapT 4 l t)) := by
  obtain ⟨a1, c1, rfl⟩ := hA.shape
  obtain ⟨pa, cp, rfl⟩ := hL.shape
  have hO := one_start w t _ hA
  have hb1 := below_al (w.alloc (.cells #[.int .i64 t.k, .int .i64 t.n, .slice a1 t.kids.length c1] 24)) (.cells #[.int .i64 0, .int .i64 0, .slice none 0 0] 24)
  have O1 := Lib.hid (hO.bel hb1)
  have Z1 := Lib.hid (World.alloc_heap_new (w.alloc (.cells #[.int .i64 t.k, .int .i64 t.n, .slice a1 t.kids.length c1] 24)) (.cells #[.int .i64 0, .int .i64 0, .slice none 0 0] 24))
  have C := Lib.hid (rwrap_any 4 l hsl t hs _ _ _ (hL.bel O1.out.2.2 (Nat.le_refl _)) O1.out.2.1)
  clear hA hL hO hb1
  go_enter Try.func20, Try.ntmps20
  obtain ⟨⟨x0, x1, x2⟩, _⟩ := O1.out
  go_wp2_with fail
  refine C.out.mono ?_
  rintro e w1 ⟨a2, c2, rfl, hS2, hb2⟩
  have hz2 := hb2.size
  have Z2 := Lib.hid ((hb2.block _ (by simp)).trans Z1.out)
  have O2 := Lib.hid (O1.out.bel hb2)
  simp only [World.size_alloc] at Z2 hz2 hS2
  have HS := Lib.hid hS2
  clear x0 x1 x2 hS2 hb2 O1 Z1 C
  generalize wrapT 4 l t = o at *
  obtain ⟨⟨x0, x1, x2⟩, g0, g1, g2⟩ := boxc Z2.out
  go_wp2_with fail
  have hbx := box_store3 Z2.out (.int .i64 o.k) (.int .i64 o.n) (.slice a2 o.kids.length c2)
  have hAF := HS.out.same (T := fun b => w.heap.size ≤ b) (w' := put3 w1 (w.heap.size + 1) o (.slice a2 o.kids.length c2)) fun b hb => ⟨by omega, other_store3 (by omega) _ _ _⟩
  have hBF := O2.out.2.2.trans (below_store3 (D := w.heap.size) (B := w.heap.size + 1) (W := w1) (by omega) (.int .i64 o.k) (.int .i64 o.n) (.slice a2 o.kids.length c2))
  obtain ⟨⟨s0, s1, s2⟩, _⟩ := boxc hbx
  exact bodyPost_ret (v := .agg #[.int .i64 o.k, .int .i64 o.n, .slice a2 o.kids.length c2]) (by simp [results, Try.f20, go_sem, s0, s1, s2]) rfl ⟨a2, c2, rfl, hAF, hBF⟩
set_option maxRecDepth 100000 in
set_option maxHeartbeats 1000000 in
theorem rlams_any (l : List Tm) (hsl : sizeL l ≤ 1048576) (t : Tm) (hs : size t ≤ 1048576) (w : World) (vl v : Value) (hL : At w l vl) (hA : At w t.kids v) :
    Calls Try.prog 21 #[vl, .agg #[.int .i64 t.k, .int .i64 t.n, v]] w (MadeN w (wrapT 5 l t)) := by
  obtain ⟨a1, c1, rfl⟩ := hA.shape
  obtain ⟨pa, cp, rfl⟩ := hL.shape
  have hO := one_start w t _ hA
  have hb1 := below_al (w.alloc (.cells #[.int .i64 t.k, .int .i64 t.n, .slice a1 t.kids.length c1] 24)) (.cells #[.int .i64 0, .int .i64 0, .slice none 0 0] 24)
  have O1 := Lib.hid (hO.bel hb1)
  have Z1 := Lib.hid (World.alloc_heap_new (w.alloc (.cells #[.int .i64 t.k, .int .i64 t.n, .slice a1 t.kids.length c1] 24)) (.cells #[.int .i64 0, .int .i64 0, .slice none 0 0] 24))
  have C := Lib.hid (rwrap_any 5 l hsl t hs _ _ _ (hL.bel O1.out.2.2 (Nat.le_refl _)) O1.out.2.1)
  clear hA hL hO hb1
  go_enter Try.func21, Try.ntmps21
  obtain ⟨⟨x0, x1, x2⟩, _⟩ := O1.out
  go_wp2_with fail
  refine C.out.mono ?_
  rintro e w1 ⟨a2, c2, rfl, hS2, hb2⟩
  have hz2 := hb2.size
  have Z2 := Lib.hid ((hb2.block _ (by simp)).trans Z1.out)
  have O2 := Lib.hid (O1.out.bel hb2)
  simp only [World.size_alloc] at Z2 hz2 hS2
  have HS := Lib.hid hS2
  clear x0 x1 x2 hS2 hb2 O1 Z1 C
  generalize wrapT 5 l t = o at *
  obtain ⟨⟨x0, x1, x2⟩, g0, g1, g2⟩ := boxc Z2.out
  go_wp2_with fail
  have hbx := box_store3 Z2.out (.int .i64 o.k) (.int .i64 o.n) (.slice a2 o.kids.length c2)
  have hAF := HS.out.same (T := fun b => w.heap.size ≤ b) (w' := put3 w1 (w.heap.size + 1) o (.slice a2 o.kids.length c2)) fun b hb => ⟨by omega, other_store3 (by omega) _ _ _⟩
  have hBF := O2.out.2.2.trans (below_store3 (D := w.heap.size) (B := w.heap.size + 1) (W := w1) (by omega) (.int .i64 o.k) (.int .i64 o.n) (.slice a2 o.kids.length c2))
  obtain ⟨⟨s0, s1, s2⟩, _⟩ := boxc hbx
  exact bodyPost_ret (v := .agg #[.int .i64 o.k, .int .i64 o.n, .slice a2 o.kids.length c2]) (by simp [results, Try.f21, go_sem, s0, s1, s2]) rfl ⟨a2, c2, rfl, hAF, hBF⟩
end Go.Proofs.Ytblebboamopffaa
