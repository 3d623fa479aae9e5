/- Package tele's Unspine, Unpis. No conditions but sizes. -/
import Derived.Test.YtblebboamopffaaRx
namespace Go.Proofs.Ytblebboamopffaa
open Go.RowKit
set_option linter.unusedVariables false

theorem unspine_c {c x y : Tm} (hk : c.k = 6) (hl : c.kids = [x, y]) : unspine c = ((unspine x).1, (unspine x).2 ++ [y]) := by
  obtain ⟨k, n, l⟩ := c
  simp only [Tm.kids, Tm.k] at hk hl
  subst hl
  exact unspine_app k n x y hk
theorem unpis_c {c x y : Tm} (hk : c.k = 4) (hl : c.kids = [x, y]) : unpis c = (x :: (unpis y).1, (unpis y).2) := by
  obtain ⟨k, n, l⟩ := c
  simp only [Tm.kids, Tm.k] at hk hl
  subst hl
  exact unpis_pi k n x y hk
def UnsI (w : World) (t : Tm) (k : Nat) (v : Value) (wr : World) : Prop := ∃ (D : List Tm) (c : Tm) (aK : Option Addr) (cK : Nat) (ac : Option Addr) (cc : Nat), v = .slice aK D.length cK ∧ RowE (w.heap.size + 2) D (.slice aK D.length cK) wr ∧
  wr.heap[w.heap.size]? = some (.cells #[.int .i64 c.k, .int .i64 c.n, .slice ac c.kids.length cc] 24 (0, 0)) ∧ wr.heap[w.heap.size + 1]? = some (.cells #[.int .i64 0, .int .i64 0, .slice none 0 0] 24 (0, 0)) ∧
  At w c.kids (.slice ac c.kids.length cc) ∧ Below w.heap.size w wr ∧ unspine t = ((unspine c).1, (unspine c).2 ++ D.reverse) ∧ D.length + size c ≤ size t ∧ size c ≤ k
set_option maxRecDepth 100000 in
set_option maxHeartbeats 4000000 in
theorem sunspine0 (t : Tm) (hs : size t ≤ 1048576) (w : World) (v : Value) (hA : At w t.kids v) :
    Calls Try.prog 15 #[.agg #[.int .i64 t.k, .int .i64 t.n, v]] w (TellTL w (unspine t).1 (unspine t).2) := by
  obtain ⟨a1, c1, rfl⟩ := hA.shape
  have hO := one_start w t _ hA
  have hb0 := World.alloc_heap_new w (.cells #[.int .i64 t.k, .int .i64 t.n, .slice a1 t.kids.length c1] 24)
  have hb1 := below_al (w.alloc (.cells #[.int .i64 t.k, .int .i64 t.n, .slice a1 t.kids.length c1] 24)) (.cells #[.int .i64 0, .int .i64 0, .slice none 0 0] 24)
  have hz := World.alloc_heap_new (w.alloc (.cells #[.int .i64 t.k, .int .i64 t.n, .slice a1 t.kids.length c1] 24)) (.cells #[.int .i64 0, .int .i64 0, .slice none 0 0] 24)
  rw [World.size_alloc] at hz
  have hI0 : UnsI w t (size t) (.slice none 0 0) ((w.alloc (.cells #[.int .i64 t.k, .int .i64 t.n, .slice a1 t.kids.length c1] 24)).alloc (.cells #[.int .i64 0, .int .i64 0, .slice none 0 0] 24)) :=
    ⟨[], t, none, 0, a1, c1, rfl, RowE.start _ _, (hb1.block _ (by simp)).trans hb0, hz, hA, hO.2.2.trans (hb1.mono (by simp)), by simp, by simp, Nat.le_refl _⟩
  have H0 := Lib.hid hI0
  clear hA hO hb0 hb1 hz hI0
  go_enter Try.func15, Try.ntmps15
  go_wp2_with fail
  go_loopg [4] (size t) (fun k v wr => UnsI w t k v wr)
  case atStart => exact H0.out
  case round =>
    clear H0
    obtain ⟨D, c, aK, cK, ac, cc, rfl, hX, hb, hz, hA, hw, hu, hsz, hk⟩ := hrel
    have hz1 := hw.size
    have hlz : w.heap.size + 1 < wr.heap.size := (Array.getElem?_eq_some_iff.1 hz).1
    by_cases h : c.k = 6 ∧ c.kids.length = 2
    · obtain ⟨hck, hcl⟩ := h
      obtain ⟨x, y, hxy⟩ := two_kids hcl
      obtain ⟨b, off, cap', vs, he, h1, h2, kk, kn, kv, ks⟩ := hA.pos (by omega)
      cases he
      have e0 : c.kids[0] = x := by simp [hxy]
      have e1 : c.kids[1] = y := by simp [hxy]
      have k0 := kk 0 (by omega)
      have k1 := kn 0 (by omega)
      have k2 := kv 0 (by omega)
      have k3 := ks 0 (by omega)
      have m0 := kk 1 (by omega)
      have m1 := kn 1 (by omega)
      have m2 := kv 1 (by omega)
      have m3 := ks 1 (by omega)
      rw [e0] at k0 k1 k3
      rw [e1] at m0 m1 m3
      obtain ⟨ax, cx, hvx⟩ := k3.shape
      obtain ⟨ay, cy, hvy⟩ := m3.shape
      rw [hvx] at k2 k3
      rw [hvy] at m2 m3
      simp only [Nat.zero_mul, Nat.one_mul, Nat.add_zero] at k0 k1 k2 m0 m1 m2
      have hblt : b < w.heap.size := World.block_lt_of_cell? w _ k0
      have hszc : size c = size x + size y + 1 := by have := size_eq c; rw [hxy] at this; simp only [sizeL] at this; omega
      have hsx := size_pos x
      have hsy := size_pos y
      obtain ⟨⟨x0, x1, x2⟩, _⟩ := boxc hb
      rw [hcl] at x2 hb
      have hti := hw.trans (Below.refl w.heap.size wr)
      have HIC := Lib.hid (iscouple_any 6 c.k c.n (some ⟨b, off, none⟩) 2 cc wr)
      have hdec : (decide (c.k = 6) && decide ((2 : Nat) = 2)) = true := by simp [hck]
      rw [hdec] at HIC
      have HX := Lib.hid hX
      have HB := Lib.hid hb
      have HZ := Lib.hid hz
      have HW := Lib.hid hw
      have HK := Lib.hid (And.intro (And.intro k0 (And.intro k1 k2)) (And.intro (And.intro m0 (And.intro m1 m2)) (And.intro k3 m3)))
      have HU := Lib.hid (And.intro hu (And.intro hsz (And.intro hk (And.intro hck (And.intro hxy (And.intro hszc (And.intro hsx hsy)))))))
      have hdl : D.length ≤ 1048576 := by omega
      have hsE : size y ≤ 1048576 := by omega
      clear hX hb hz hw hti k0 k1 k2 k3 m0 m1 m2 m3 e0 e1 kk kn kv ks hvx hvy hu hA hsz hk hck hxy hszc hdec h1 h2 hsx hsy
      go_wp2_with fail
      refine HIC.out.mono ?_
      rintro e w2 ⟨rfl, hb2⟩
      have hz2 := hb2.size
      have HX2 := Lib.hid (HX.out.keep hb2)
      have HB2 := Lib.hid ((hb2.block _ (by omega)).trans HB.out)
      have HZ2 := Lib.hid ((hb2.block _ (by omega)).trans HZ.out)
      have HW2 := Lib.hid (HW.out.trans (hb2.mono hz1))
      have HT := Lib.hid (tclone_any y hsE w2 _ (HK.out.2.2.2.bel HW2.out (Nat.le_refl _)))
      clear hb2 x0 x1 x2 HIC HX HB HZ HW
      obtain ⟨⟨x0, x1, x2⟩, f0, f1, f2⟩ := boxc HB2.out
      obtain ⟨q0, q1, q2⟩ := HK.out.2.1
      have y0 := gcell HW2.out q0
      have y1 := gcell HW2.out q1
      have y2 := gcell HW2.out q2
      clear q0 q1 q2
      go_wp2_with fail
      refine HT.out.mono ?_
      rintro e w5 ⟨a4, c4, rfl, hK5, hb5⟩
      obtain ⟨vs2, hO5, hats5⟩ := HX2.out.keep hb5
      have HO5 := Lib.hid hO5
      have HATS := Lib.hid hats5
      have hz5 := hb5.size
      have HOL0 : Hid (∀ k, (Value.slice aK D.length cK).ownBlock = some k → w.heap.size + 2 ≤ k ∧ k < w2.heap.size) := fun k hk => by obtain ⟨vs0, hO0, _⟩ := HX2.out; exact hO0.lt k hk
      have HK5 := Lib.hid hK5
      have HG5 := Lib.hid hb5
      have hm1 : D.length + 1 ≤ maxLen := by unfold maxLen; omega
      have hm2 : (D.length + 1) * 40 ≤ 140737488355328 := by omega
      obtain ⟨i0, hi, hi0, hi1, hi2⟩ := info_parts Try.infoT
      clear hO5 hats5 hb5 hK5 x0 x1 x2 f0 f1 f2 y0 y1 y2 HT
      go_wp2_with (at_builtin; refine wpList_append_lies _ rfl (.tmp 7) (.tmp 13) 22 rfl (w.heap.size + 2) 24 i0 _ 3 40 Try.underlying22 hi hi0 hi1 hi2 rfl (by decide) (.slice aK D.length cK) _ _ rfl (HO5.out.alloc _) ⟨w5.heap.size, 0, none⟩ 1 1 [.int .i64 y.k, .int .i64 y.n, .slice a4 y.kids.length c4] rfl rfl (by have := World.news_of_block (World.alloc_heap_new w5 (.cells #[.int .i64 y.k, .int .i64 y.n, .slice a4 y.kids.length c4] 24)); simpa using this) (by simp [Value.oneCell']) (by decide) hm1 hm2 (by rw [World.size_alloc]; omega) (w5.heap.size + 1) (by rw [World.size_alloc]) ?_; intro g7 cp w7 hown7 hgrow7 hat7 hlt7; have hk7 : ∀ B, B < w.heap.size + 2 → w7.heap[B]? = w2.heap[B]? := (fun B hB => ((hgrow7.block B (by rw [World.size_alloc]; omega) (fun e => by have := (HOL0.out _ e.symm).1; omega)).trans (Below.heap_alloc w5 _ B (by omega))).trans (HG5.out.block B (by omega))); obtain ⟨⟨p0, p1, p2⟩, p3, p4, p5⟩ := boxc ((hk7 _ (by omega)).trans HB2.out); obtain ⟨t0, t1, t2⟩ := HK.out.1; have r0 := (World.cell?_of_block (hk7 b (by omega))).trans (gcell HW2.out t0); have r1 := (World.cell?_of_block (hk7 b (by omega))).trans (gcell HW2.out t1); have r2 := (World.cell?_of_block (hk7 b (by omega))).trans (gcell HW2.out t2); clear t0 t1 t2)
      have hlen : (D ++ [y]).length = D.length + 1 := by simp
      have hAl := below_al w5 (.cells #[.int .i64 y.k, .int .i64 y.n, .slice a4 y.kids.length c4] 24)
      have hat8 : (Value.slice aK D.length cK).ownBlock = some g7 ∨ g7 = (w5.alloc (.cells #[.int .i64 y.k, .int .i64 y.n, .slice a4 y.kids.length c4] 24)).heap.size := by rw [World.size_alloc]; exact hat7
      have hz8 : (w5.alloc (.cells #[.int .i64 y.k, .int .i64 y.n, .slice a4 y.kids.length c4] 24)).heap.size = w5.heap.size + 1 := World.size_alloc _ _
      have hHA : ∀ i (_ : i < D.length), AtE (fun b => w.heap.size + 2 ≤ b ∧ b < (w5.alloc (.cells #[.int .i64 y.k, .int .i64 y.n, .slice a4 y.kids.length c4] 24)).heap.size ∧ some b ≠ (Value.slice aK D.length cK).ownBlock) (w5.alloc (.cells #[.int .i64 y.k, .int .i64 y.n, .slice a4 y.kids.length c4] 24)) D[i].kids (vs2 i) := fun i hi => (HATS.out i hi).same fun b hb => ⟨⟨hb.1, by omega, hb.2.2⟩, hAl.block b hb.2.1⟩
      have hHY : AtE (fun b => w.heap.size + 2 ≤ b ∧ b < (w5.alloc (.cells #[.int .i64 y.k, .int .i64 y.n, .slice a4 y.kids.length c4] 24)).heap.size ∧ some b ≠ (Value.slice aK D.length cK).ownBlock) (w5.alloc (.cells #[.int .i64 y.k, .int .i64 y.n, .slice a4 y.kids.length c4] 24)) y.kids (.slice a4 y.kids.length c4) :=
        HK5.out.same fun b hb => by
          have e1 : w2.heap.size ≤ b := hb.1
          have e2 : b < w5.heap.size := hb.2
          exact ⟨⟨by omega, by omega, fun e => by have := (HOL0.out b e.symm).2; omega⟩, hAl.block b e2⟩
      have HRow := Lib.hid ((rowe_step hHA hHY hown7 hgrow7 hat8).put (C := w.heap.size) (x := .int .i64 x.k) (y := .int .i64 x.n) (z := .slice ax x.kids.length cx) (by omega))
      have HBox := Lib.hid (box_store3 ((hk7 _ (by omega)).trans HB2.out) (.int .i64 x.k) (.int .i64 x.n) (.slice ax x.kids.length cx))
      have HZero := Lib.hid ((other_store3 (W := w7) (B := w.heap.size) (b := w.heap.size + 1) (by omega) (.int .i64 x.k) (.int .i64 x.n) (.slice ax x.kids.length cx)).trans ((hk7 _ (by omega)).trans HZ2.out))
      have HBel := Lib.hid ((((HW2.out.trans (HG5.out.mono HW2.out.size)).trans (hAl.mono (by have := HW2.out.size; omega))).grown hgrow7 (by have := HW2.out.size; omega) (fun k e => by have := (HOL0.out k e).1; omega)).trans (below_store3 (D := w.heap.size) (B := w.heap.size) (W := w7) (Nat.le_refl _) (.int .i64 x.k) (.int .i64 x.n) (.slice ax x.kids.length cx)))
      obtain ⟨hu, hsz, hk, hck, hxy, hszc, hsx, hsy⟩ := HU.out
      go_roundg (size x)
      case measure => omega
      case rel => exact ⟨D ++ [y], x, some ⟨g7, 0, none⟩, cp, ax, cx, by rw [hlen], HRow.out, HBox.out, HZero.out, HK.out.2.2.1, HBel.out, by rw [hu, unspine_c hck hxy]; simp, by rw [hlen]; omega, Nat.le_refl _⟩
    · obtain ⟨⟨x0, x1, x2⟩, _⟩ := boxc hb
      have HIC := Lib.hid (iscouple_any 6 c.k c.n ac c.kids.length cc wr)
      have hdec : (decide (c.k = 6) && decide (c.kids.length = 2)) = false := by
        rw [Bool.and_eq_false_iff, decide_eq_false_iff_not, decide_eq_false_iff_not]; omega
      rw [hdec] at HIC
      rw [unspine_no h] at hu
      have HX := Lib.hid hX
      have HB := Lib.hid hb
      have HZ := Lib.hid hz
      have HW := Lib.hid hw
      have HA := Lib.hid hA
      have HU := Lib.hid hu
      have hdl : D.length ≤ 1048576 := by have := size_pos c; omega
      have hsE : size c ≤ 1048576 := by omega
      clear hX hb hz hw hA hu hdec hsz hk h
      go_wp2_with fail
      refine HIC.out.mono ?_
      rintro e w2 ⟨rfl, hb2⟩
      have hz2 := hb2.size
      have HX2 := Lib.hid (HX.out.keep hb2)
      have HB2 := Lib.hid ((hb2.block _ (by omega)).trans HB.out)
      have HZ2 := Lib.hid ((hb2.block _ (by omega)).trans HZ.out)
      have HW2 := Lib.hid (HW.out.trans (hb2.mono hz1))
      clear hb2 x0 x1 x2 HIC HX HB HZ HW
      have HRV := Lib.hid (rowe_rev hdl HX2.out (by omega))
      go_wp2_with fail
      refine HRV.out.mono ?_
      rintro e w3 ⟨⟨uu, rfl⟩, hX3, hb3⟩
      have hz3 := hb3.size
      have HX3 := Lib.hid hX3
      have HB3 := Lib.hid ((hb3.block _ (by omega)).trans HB2.out)
      have HZ3 := Lib.hid ((hb3.block _ (by omega)).trans HZ2.out)
      have HW3 := Lib.hid (HW2.out.trans (hb3.mono (by omega)))
      clear hb3 hX3 HRV HX2 HB2 HZ2 HW2
      have HT := Lib.hid (tclone_any c hsE w3 _ (HA.out.bel HW3.out (Nat.le_refl _)))
      obtain ⟨⟨x0, x1, x2⟩, _⟩ := boxc HB3.out
      go_wp2_with fail
      refine HT.out.mono ?_
      rintro e w5 ⟨a4, c4, rfl, hK5, hb5⟩
      have hz5 := hb5.size
      have Z5 := Lib.hid ((hb5.block _ (by omega)).trans HZ3.out)
      have HX5 := Lib.hid (HX3.out.keep hb5)
      have HW5 := Lib.hid (HW3.out.trans (hb5.mono HW3.out.size))
      have HK5 := Lib.hid hK5
      clear hb5 hK5 x0 x1 x2 HT HX3 HZ3 HB3 HW3
      obtain ⟨⟨y0, y1, y2⟩, g0, g1, g2⟩ := boxc Z5.out
      go_wp2_with fail
      have hAF := HK5.out.same (T := newS w (put3 w5 (w.heap.size + 1) c (.slice a4 c.kids.length c4))) (w' := put3 w5 (w.heap.size + 1) c (.slice a4 c.kids.length c4)) fun b hb => by
        have e1 : w3.heap.size ≤ b := hb.1
        have e2 : b < w5.heap.size := hb.2
        exact ⟨⟨by omega, by simpa using e2⟩, other_store3 (by omega) _ _ _⟩
      have hRF := (HX5.out.put (C := w.heap.size + 1) (x := .int .i64 c.k) (y := .int .i64 c.n) (z := .slice a4 c.kids.length c4) (by omega)).ate.same (T := newS w (put3 w5 (w.heap.size + 1) c (.slice a4 c.kids.length c4))) (w' := put3 w5 (w.heap.size + 1) c (.slice a4 c.kids.length c4)) fun b hb => ⟨⟨by omega, hb.2⟩, rfl⟩
      have hBF := HW5.out.trans (below_store3 (D := w.heap.size) (B := w.heap.size + 1) (W := w5) (by omega) (.int .i64 c.k) (.int .i64 c.n) (.slice a4 c.kids.length c4))
      obtain ⟨⟨s0, s1, s2⟩, _⟩ := boxc (box_store3 Z5.out (.int .i64 c.k) (.int .i64 c.n) (.slice a4 c.kids.length c4))
      refine bodyPost_ret (v := .tuple #[.agg #[.int .i64 c.k, .int .i64 c.n, .slice a4 c.kids.length c4], .slice aK D.length cK]) (by simp [results, Try.f15, go_sem, s0, s1, s2]) rfl ?_
      rw [HU.out]
      have hrl : D.reverse.length = D.length := List.length_reverse
      refine ⟨a4, c4, aK, cK, ?_, hAF, ?_, hBF⟩
      · simp
      · simpa using hRF
def UpsI (w : World) (t : Tm) (k : Nat) (v : Value) (wr : World) : Prop := ∃ (D : List Tm) (c : Tm) (aK : Option Addr) (cK : Nat) (ac : Option Addr) (cc : Nat), v = .slice aK D.length cK ∧ RowE (w.heap.size + 2) D (.slice aK D.length cK) wr ∧
  wr.heap[w.heap.size]? = some (.cells #[.int .i64 c.k, .int .i64 c.n, .slice ac c.kids.length cc] 24 (0, 0)) ∧ wr.heap[w.heap.size + 1]? = some (.cells #[.int .i64 0, .int .i64 0, .slice none 0 0] 24 (0, 0)) ∧
  At w c.kids (.slice ac c.kids.length cc) ∧ Below w.heap.size w wr ∧ unpis t = (D ++ (unpis c).1, (unpis c).2) ∧ D.length + size c ≤ size t ∧ size c ≤ k
set_option maxRecDepth 100000 in
set_option maxHeartbeats 4000000 in
theorem sunpis0 (t : Tm) (hs : size t ≤ 1048576) (w : World) (v : Value) (hA : At w t.kids v) :
    Calls Try.prog 16 #[.agg #[.int .i64 t.k, .int .i64 t.n, v]] w (TellLT w (unpis t).1 (unpis t).2) := by
  obtain ⟨a1, c1, rfl⟩ := hA.shape
  have hO := one_start w t _ hA
  have hb0 := World.alloc_heap_new w (.cells #[.int .i64 t.k, .int .i64 t.n, .slice a1 t.kids.length c1] 24)
  have hb1 := below_al (w.alloc (.cells #[.int .i64 t.k, .int .i64 t.n, .slice a1 t.kids.length c1] 24)) (.cells #[.int .i64 0, .int .i64 0, .slice none 0 0] 24)
  have hz := World.alloc_heap_new (w.alloc (.cells #[.int .i64 t.k, .int .i64 t.n, .slice a1 t.kids.length c1] 24)) (.cells #[.int .i64 0, .int .i64 0, .slice none 0 0] 24)
  rw [World.size_alloc] at hz
  have hI0 : UpsI w t (size t) (.slice none 0 0) ((w.alloc (.cells #[.int .i64 t.k, .int .i64 t.n, .slice a1 t.kids.length c1] 24)).alloc (.cells #[.int .i64 0, .int .i64 0, .slice none 0 0] 24)) :=
    ⟨[], t, none, 0, a1, c1, rfl, RowE.start _ _, (hb1.block _ (by simp)).trans hb0, hz, hA, hO.2.2.trans (hb1.mono (by simp)), by simp, by simp, Nat.le_refl _⟩
  have H0 := Lib.hid hI0
  clear hA hO hb0 hb1 hz hI0
  go_enter Try.func16, Try.ntmps16
  go_wp2_with fail
  go_loopg [4] (size t) (fun k v wr => UpsI w t k v wr)
  case atStart => exact H0.out
  case round =>
    clear H0
    obtain ⟨D, c, aK, cK, ac, cc, rfl, hX, hb, hz, hA, hw, hu, hsz, hk⟩ := hrel
    have hz1 := hw.size
    have hlz : w.heap.size + 1 < wr.heap.size := (Array.getElem?_eq_some_iff.1 hz).1
    by_cases h : c.k = 4 ∧ c.kids.length = 2
    · obtain ⟨hck, hcl⟩ := h
      obtain ⟨x, y, hxy⟩ := two_kids hcl
      obtain ⟨b, off, cap', vs, he, h1, h2, kk, kn, kv, ks⟩ := hA.pos (by omega)
      cases he
      have e0 : c.kids[0] = x := by simp [hxy]
      have e1 : c.kids[1] = y := by simp [hxy]
      have k0 := kk 0 (by omega)
      have k1 := kn 0 (by omega)
      have k2 := kv 0 (by omega)
      have k3 := ks 0 (by omega)
      have m0 := kk 1 (by omega)
      have m1 := kn 1 (by omega)
      have m2 := kv 1 (by omega)
      have m3 := ks 1 (by omega)
      rw [e0] at k0 k1 k3
      rw [e1] at m0 m1 m3
      obtain ⟨ax, cx, hvx⟩ := k3.shape
      obtain ⟨ay, cy, hvy⟩ := m3.shape
      rw [hvx] at k2 k3
      rw [hvy] at m2 m3
      simp only [Nat.zero_mul, Nat.one_mul, Nat.add_zero] at k0 k1 k2 m0 m1 m2
      have hblt : b < w.heap.size := World.block_lt_of_cell? w _ k0
      have hszc : size c = size x + size y + 1 := by have := size_eq c; rw [hxy] at this; simp only [sizeL] at this; omega
      have hsx := size_pos x
      have hsy := size_pos y
      obtain ⟨⟨x0, x1, x2⟩, _⟩ := boxc hb
      rw [hcl] at x2 hb
      have hti := hw.trans (Below.refl w.heap.size wr)
      have HIC := Lib.hid (iscouple_any 4 c.k c.n (some ⟨b, off, none⟩) 2 cc wr)
      have hdec : (decide (c.k = 4) && decide ((2 : Nat) = 2)) = true := by simp [hck]
      rw [hdec] at HIC
      have HX := Lib.hid hX
      have HB := Lib.hid hb
      have HZ := Lib.hid hz
      have HW := Lib.hid hw
      have HK := Lib.hid (And.intro (And.intro k0 (And.intro k1 k2)) (And.intro (And.intro m0 (And.intro m1 m2)) (And.intro k3 m3)))
      have HU := Lib.hid (And.intro hu (And.intro hsz (And.intro hk (And.intro hck (And.intro hxy (And.intro hszc (And.intro hsx hsy)))))))
      have hdl : D.length ≤ 1048576 := by omega
      have hsE : size x ≤ 1048576 := by omega
      clear hX hb hz hw hti k0 k1 k2 k3 m0 m1 m2 m3 e0 e1 kk kn kv ks hvx hvy hu hA hsz hk hck hxy hszc hdec h1 h2 hsx hsy
      go_wp2_with fail
      refine HIC.out.mono ?_
      rintro e w2 ⟨rfl, hb2⟩
      have hz2 := hb2.size
      have HX2 := Lib.hid (HX.out.keep hb2)
      have HB2 := Lib.hid ((hb2.block _ (by omega)).trans HB.out)
      have HZ2 := Lib.hid ((hb2.block _ (by omega)).trans HZ.out)
      have HW2 := Lib.hid (HW.out.trans (hb2.mono hz1))
      have HT := Lib.hid (tclone_any x hsE w2 _ (HK.out.2.2.1.bel HW2.out (Nat.le_refl _)))
      clear hb2 x0 x1 x2 HIC HX HB HZ HW
      obtain ⟨⟨x0, x1, x2⟩, f0, f1, f2⟩ := boxc HB2.out
      obtain ⟨q0, q1, q2⟩ := HK.out.1
      have y0 := gcell HW2.out q0
      have y1 := gcell HW2.out q1
      have y2 := gcell HW2.out q2
      clear q0 q1 q2
      go_wp2_with fail
      refine HT.out.mono ?_
      rintro e w5 ⟨a4, c4, rfl, hK5, hb5⟩
      obtain ⟨vs2, hO5, hats5⟩ := HX2.out.keep hb5
      have HO5 := Lib.hid hO5
      have HATS := Lib.hid hats5
      have hz5 := hb5.size
      have HOL0 : Hid (∀ k, (Value.slice aK D.length cK).ownBlock = some k → w.heap.size + 2 ≤ k ∧ k < w2.heap.size) := fun k hk => by obtain ⟨vs0, hO0, _⟩ := HX2.out; exact hO0.lt k hk
      have HK5 := Lib.hid hK5
      have HG5 := Lib.hid hb5
      have hm1 : D.length + 1 ≤ maxLen := by unfold maxLen; omega
      have hm2 : (D.length + 1) * 40 ≤ 140737488355328 := by omega
      obtain ⟨i0, hi, hi0, hi1, hi2⟩ := info_parts Try.infoT
      clear hO5 hats5 hb5 hK5 x0 x1 x2 f0 f1 f2 y0 y1 y2 HT
      go_wp2_with (at_builtin; refine wpList_append_lies _ rfl (.tmp 7) (.tmp 13) 22 rfl (w.heap.size + 2) 24 i0 _ 3 40 Try.underlying22 hi hi0 hi1 hi2 rfl (by decide) (.slice aK D.length cK) _ _ rfl (HO5.out.alloc _) ⟨w5.heap.size, 0, none⟩ 1 1 [.int .i64 x.k, .int .i64 x.n, .slice a4 x.kids.length c4] rfl rfl (by have := World.news_of_block (World.alloc_heap_new w5 (.cells #[.int .i64 x.k, .int .i64 x.n, .slice a4 x.kids.length c4] 24)); simpa using this) (by simp [Value.oneCell']) (by decide) hm1 hm2 (by rw [World.size_alloc]; omega) (w5.heap.size + 1) (by rw [World.size_alloc]) ?_; intro g7 cp w7 hown7 hgrow7 hat7 hlt7; have hk7 : ∀ B, B < w.heap.size + 2 → w7.heap[B]? = w2.heap[B]? := (fun B hB => ((hgrow7.block B (by rw [World.size_alloc]; omega) (fun e => by have := (HOL0.out _ e.symm).1; omega)).trans (Below.heap_alloc w5 _ B (by omega))).trans (HG5.out.block B (by omega))); obtain ⟨⟨p0, p1, p2⟩, p3, p4, p5⟩ := boxc ((hk7 _ (by omega)).trans HB2.out); obtain ⟨t0, t1, t2⟩ := HK.out.2.1; have r0 := (World.cell?_of_block (hk7 b (by omega))).trans (gcell HW2.out t0); have r1 := (World.cell?_of_block (hk7 b (by omega))).trans (gcell HW2.out t1); have r2 := (World.cell?_of_block (hk7 b (by omega))).trans (gcell HW2.out t2); clear t0 t1 t2)
      have hlen : (D ++ [x]).length = D.length + 1 := by simp
      have hAl := below_al w5 (.cells #[.int .i64 x.k, .int .i64 x.n, .slice a4 x.kids.length c4] 24)
      have hat8 : (Value.slice aK D.length cK).ownBlock = some g7 ∨ g7 = (w5.alloc (.cells #[.int .i64 x.k, .int .i64 x.n, .slice a4 x.kids.length c4] 24)).heap.size := by rw [World.size_alloc]; exact hat7
      have hz8 : (w5.alloc (.cells #[.int .i64 x.k, .int .i64 x.n, .slice a4 x.kids.length c4] 24)).heap.size = w5.heap.size + 1 := World.size_alloc _ _
      have hHA : ∀ i (_ : i < D.length), AtE (fun b => w.heap.size + 2 ≤ b ∧ b < (w5.alloc (.cells #[.int .i64 x.k, .int .i64 x.n, .slice a4 x.kids.length c4] 24)).heap.size ∧ some b ≠ (Value.slice aK D.length cK).ownBlock) (w5.alloc (.cells #[.int .i64 x.k, .int .i64 x.n, .slice a4 x.kids.length c4] 24)) D[i].kids (vs2 i) := fun i hi => (HATS.out i hi).same fun b hb => ⟨⟨hb.1, by omega, hb.2.2⟩, hAl.block b hb.2.1⟩
      have hHY : AtE (fun b => w.heap.size + 2 ≤ b ∧ b < (w5.alloc (.cells #[.int .i64 x.k, .int .i64 x.n, .slice a4 x.kids.length c4] 24)).heap.size ∧ some b ≠ (Value.slice aK D.length cK).ownBlock) (w5.alloc (.cells #[.int .i64 x.k, .int .i64 x.n, .slice a4 x.kids.length c4] 24)) x.kids (.slice a4 x.kids.length c4) :=
        HK5.out.same fun b hb => by
          have e1 : w2.heap.size ≤ b := hb.1
          have e2 : b < w5.heap.size := hb.2
          exact ⟨⟨by omega, by omega, fun e => by have := (HOL0.out b e.symm).2; omega⟩, hAl.block b e2⟩
      have HRow := Lib.hid ((rowe_step hHA hHY hown7 hgrow7 hat8).put (C := w.heap.size) (x := .int .i64 y.k) (y := .int .i64 y.n) (z := .slice ay y.kids.length cy) (by omega))
      have HBox := Lib.hid (box_store3 ((hk7 _ (by omega)).trans HB2.out) (.int .i64 y.k) (.int .i64 y.n) (.slice ay y.kids.length cy))
      have HZero := Lib.hid ((other_store3 (W := w7) (B := w.heap.size) (b := w.heap.size + 1) (by omega) (.int .i64 y.k) (.int .i64 y.n) (.slice ay y.kids.length cy)).trans ((hk7 _ (by omega)).trans HZ2.out))
      have HBel := Lib.hid ((((HW2.out.trans (HG5.out.mono HW2.out.size)).trans (hAl.mono (by have := HW2.out.size; omega))).grown hgrow7 (by have := HW2.out.size; omega) (fun k e => by have := (HOL0.out k e).1; omega)).trans (below_store3 (D := w.heap.size) (B := w.heap.size) (W := w7) (Nat.le_refl _) (.int .i64 y.k) (.int .i64 y.n) (.slice ay y.kids.length cy)))
      obtain ⟨hu, hsz, hk, hck, hxy, hszc, hsx, hsy⟩ := HU.out
      go_roundg (size y)
      case measure => omega
      case rel => exact ⟨D ++ [x], y, some ⟨g7, 0, none⟩, cp, ay, cy, by rw [hlen], HRow.out, HBox.out, HZero.out, HK.out.2.2.2, HBel.out, by rw [hu, unpis_c hck hxy]; simp, by rw [hlen]; omega, Nat.le_refl _⟩
    · obtain ⟨⟨x0, x1, x2⟩, _⟩ := boxc hb
      have HIC := Lib.hid (iscouple_any 4 c.k c.n ac c.kids.length cc wr)
      have hdec : (decide (c.k = 4) && decide (c.kids.length = 2)) = false := by
        rw [Bool.and_eq_false_iff, decide_eq_false_iff_not, decide_eq_false_iff_not]; omega
      rw [hdec] at HIC
      rw [unpis_no h] at hu
      have HX := Lib.hid hX
      have HB := Lib.hid hb
      have HZ := Lib.hid hz
      have HW := Lib.hid hw
      have HA := Lib.hid hA
      have HU := Lib.hid hu
      have hdl : D.length ≤ 1048576 := by have := size_pos c; omega
      have hsE : size c ≤ 1048576 := by omega
      clear hX hb hz hw hA hu hdec hsz hk h
      go_wp2_with fail
      refine HIC.out.mono ?_
      rintro e w2 ⟨rfl, hb2⟩
      have hz2 := hb2.size
      have HX2 := Lib.hid (HX.out.keep hb2)
      have HB2 := Lib.hid ((hb2.block _ (by omega)).trans HB.out)
      have HZ2 := Lib.hid ((hb2.block _ (by omega)).trans HZ.out)
      have HW2 := Lib.hid (HW.out.trans (hb2.mono hz1))
      clear hb2 x0 x1 x2 HIC HX HB HZ HW
      obtain ⟨w3, hw3⟩ : ∃ w3, w3 = w2 := ⟨_, rfl⟩
      rw [← hw3]
      have hz3 : w2.heap.size ≤ w3.heap.size := by rw [hw3]; exact Nat.le_refl _
      have HX3 := Lib.hid HX2.out
      have HB3 := Lib.hid HB2.out
      have HZ3 := Lib.hid HZ2.out
      have HW3 := Lib.hid HW2.out
      rw [← hw3] at HX3 HB3 HZ3 HW3
      clear hw3 HX2 HB2 HZ2 HW2
      have HT := Lib.hid (tclone_any c hsE w3 _ (HA.out.bel HW3.out (Nat.le_refl _)))
      obtain ⟨⟨x0, x1, x2⟩, _⟩ := boxc HB3.out
      go_wp2_with fail
      refine HT.out.mono ?_
      rintro e w5 ⟨a4, c4, rfl, hK5, hb5⟩
      have hz5 := hb5.size
      have Z5 := Lib.hid ((hb5.block _ (by omega)).trans HZ3.out)
      have HX5 := Lib.hid (HX3.out.keep hb5)
      have HW5 := Lib.hid (HW3.out.trans (hb5.mono HW3.out.size))
      have HK5 := Lib.hid hK5
      clear hb5 hK5 x0 x1 x2 HT HX3 HZ3 HB3 HW3
      obtain ⟨⟨y0, y1, y2⟩, g0, g1, g2⟩ := boxc Z5.out
      go_wp2_with fail
      have hAF := HK5.out.same (T := newS w (put3 w5 (w.heap.size + 1) c (.slice a4 c.kids.length c4))) (w' := put3 w5 (w.heap.size + 1) c (.slice a4 c.kids.length c4)) fun b hb => by
        have e1 : w3.heap.size ≤ b := hb.1
        have e2 : b < w5.heap.size := hb.2
        exact ⟨⟨by omega, by simpa using e2⟩, other_store3 (by omega) _ _ _⟩
      have hRF := (HX5.out.put (C := w.heap.size + 1) (x := .int .i64 c.k) (y := .int .i64 c.n) (z := .slice a4 c.kids.length c4) (by omega)).ate.same (T := newS w (put3 w5 (w.heap.size + 1) c (.slice a4 c.kids.length c4))) (w' := put3 w5 (w.heap.size + 1) c (.slice a4 c.kids.length c4)) fun b hb => ⟨⟨by omega, hb.2⟩, rfl⟩
      have hBF := HW5.out.trans (below_store3 (D := w.heap.size) (B := w.heap.size + 1) (W := w5) (by omega) (.int .i64 c.k) (.int .i64 c.n) (.slice a4 c.kids.length c4))
      obtain ⟨⟨s0, s1, s2⟩, _⟩ := boxc (box_store3 Z5.out (.int .i64 c.k) (.int .i64 c.n) (.slice a4 c.kids.length c4))
      refine bodyPost_ret (v := .tuple #[.slice aK D.length cK, .agg #[.int .i64 c.k, .int .i64 c.n, .slice a4 c.kids.length c4]]) (by simp [results, Try.f16, go_sem, s0, s1, s2]) rfl ?_
      rw [HU.out]
      refine ⟨a4, c4, aK, cK, ?_, hAF, ?_, hBF⟩
      · simp
      · simpa using hRF
end Go.Proofs.Ytblebboamopffaa
