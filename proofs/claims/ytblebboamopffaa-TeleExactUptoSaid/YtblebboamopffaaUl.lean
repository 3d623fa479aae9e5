/- The page's Unpis. -/
import Derived.Test.YtblebboamopffaaUk
namespace Go.Proofs.Ytblebboamopffaa
open Go.RowKit
set_option linter.unusedVariables false

def sliceLen : Value → Nat
  | .slice _ n _ => n
  | _ => 0
/-- The loop's state: what was taken off so far, and what is left in the box. -/
def PisInv (w : World) (t : Tm) (d : List Tm) (c : Tm) (v : Value) (vc : Value) (W : World) : Prop :=
  RowO (w.heap.size + 1 + 1) d v W ∧ W.heap[w.heap.size]? = some (.cells #[.int .i64 c.k, .int .i64 c.n, vc] 24 (0, 0)) ∧ W.heap[w.heap.size + 1]? = some (.cells #[.int .i64 0, .int .i64 0, .slice none 0 0] 24 (0, 0)) ∧
  At w c.kids vc ∧ Below w.heap.size w W ∧ unpis t = (d ++ (unpis c).1, (unpis c).2) ∧ d.length + size c ≤ size t
def UpiPost (w : World) (d : List Tm) (r : Tm) (e : Ending) (w' : World) : Prop := ∃ a c a2 c2, e = .returned (.tuple #[.slice a2 d.length c2, .agg #[.int .i64 r.k, .int .i64 r.n, .slice a r.kids.length c]]) ∧ At w' r.kids (.slice a r.kids.length c) ∧ At w' d (.slice a2 d.length c2) ∧ Below w.heap.size w w'
set_option maxRecDepth 100000 in
set_option maxHeartbeats 2000000 in
theorem runpis_any (t : Tm) (hs : size t ≤ 1048576) (w : World) (v : Value) (hA : At w t.kids v) :
    Calls Try.prog 18 #[.agg #[.int .i64 t.k, .int .i64 t.n, v]] w (UpiPost w (unpis t).1 (unpis t).2) := by
  obtain ⟨a1, c1, rfl⟩ := hA.shape
  have hb0 := below_al w (.cells #[.int .i64 t.k, .int .i64 t.n, .slice a1 t.kids.length c1] 24)
  have hb1 := below_al (w.alloc (.cells #[.int .i64 t.k, .int .i64 t.n, .slice a1 t.kids.length c1] 24)) (.cells #[.int .i64 0, .int .i64 0, .slice none 0 0] 24)
  have hI : PisInv w t [] t (.slice none 0 0) (.slice a1 t.kids.length c1) ((w.alloc (.cells #[.int .i64 t.k, .int .i64 t.n, .slice a1 t.kids.length c1] 24)).alloc (.cells #[.int .i64 0, .int .i64 0, .slice none 0 0] 24)) :=
    ⟨RowO.start _ _, (hb1.block _ (by simp)).trans (World.alloc_heap_new w _), by have := World.alloc_heap_new (w.alloc (.cells #[.int .i64 t.k, .int .i64 t.n, .slice a1 t.kids.length c1] 24)) (.cells #[.int .i64 0, .int .i64 0, .slice none 0 0] 24); simpa using this, hA, hb0.trans (hb1.mono (by simp)), by simp, by simp⟩
  have HI := Lib.hid hI
  clear hI hb0 hb1 hA
  go_enter Try.func18, Try.ntmps18
  go_wp2_with fail
  go_loopw [4] (fun l wr => ∃ (d : List Tm) (c : Tm) (aK : Option Addr) (cK : Nat) (ac : Option Addr) (cc : Nat), l = .slice aK d.length cK ∧ PisInv w t d c (.slice aK d.length cK) (.slice ac c.kids.length cc) wr) (fun l _ => size t - sliceLen l)
  case atStart => exact ⟨[], t, none, 0, a1, c1, rfl, HI.out⟩
  case round =>
    obtain ⟨d, c, aK, cK, ac, cc, rfl, hX, hb, hz, hA, hw, hu, hsz⟩ := hrel
    clear HI
    obtain ⟨⟨x0, x1, x2⟩, f0, f1, f2⟩ := boxc hb
    have HX := Lib.hid hX
    have HA := Lib.hid hA
    have HW := Lib.hid hw
    have HZ := Lib.hid hz
    have HU := Lib.hid hu
    have hBw : w.heap.size + 1 < wr.heap.size := (Array.getElem?_eq_some_iff.1 hz).1
    have hsc := size_pos c
    by_cases h : c.k = 4 ∧ c.kids.length = 2
    · obtain ⟨hk, hl⟩ := h
      obtain ⟨x, y, hxy⟩ := two_kids hl
      have hcu : unpis c = (x :: (unpis y).1, (unpis y).2) := by
        obtain ⟨k, n, l⟩ := c
        obtain rfl : l = [x, y] := hxy
        exact unpis_pi k n x y hk
      have hcs : size c = 1 + size x + size y := by rw [size_eq, hxy]; simp [sizeL]; omega
      have hsx : size x ≤ 1048576 := by omega
      obtain ⟨b, off, cap', vs, he, h1, h2, kk, kn, kv, ks⟩ := hA.pos (by omega)
      have e0 : c.kids[0] = x := by simp [hxy]
      have e1 : c.kids[1] = y := by simp [hxy]
      have k0 := gcell hw (kk 0 (by omega))
      have k1 := gcell hw (kn 0 (by omega))
      have k2 := gcell hw (kv 0 (by omega))
      have k3 := ks 0 (by omega)
      have m0 := gcell hw (kk 1 (by omega))
      have m1 := gcell hw (kn 1 (by omega))
      have m2 := gcell hw (kv 1 (by omega))
      have m3 := ks 1 (by omega)
      rw [e0] at k0 k1 k3
      rw [e1] at m0 m1 m3
      obtain ⟨ax, cx, hvx⟩ := k3.shape
      obtain ⟨ay, cy, hvy⟩ := m3.shape
      rw [hvx] at k2 k3
      rw [hvy] at m2 m3
      cases he
      have hbw : b < w.heap.size := World.block_lt_of_cell? w _ (kk 0 (by omega))
      simp only [Nat.zero_mul, Nat.one_mul, Nat.add_zero] at k0 k1 k2 m0 m1 m2
      rw [hl] at x2 hb
      have HM := Lib.hid (And.intro m0 (And.intro m1 m2))
      have HY := Lib.hid m3
      have HB := Lib.hid hb
      have HT := Lib.hid (c_twin x hsx wr _ (k3.bel hw (Nat.le_refl _)))
      have q1 : (c.k == 4) = true := by simpa using hk
      have hdl : d.length ≤ 1048576 := by omega
      have hm1 : d.length + 1 ≤ maxLen := by unfold maxLen; omega
      have hm2 : (d.length + 1) * 40 ≤ 140737488355328 := by omega
      obtain ⟨i0, hi, hz0, hz1', hz2'⟩ := info_parts Try.infoT
      have HCU := Lib.hid hcu
      clear kk kn kv ks hvx hvy k3 m0 m1 m2 m3 e0 e1 h1 h2 hk hl hxy hX hA hb hw hu hcu
      go_wp2_with fail
      refine HT.out.mono ?_
      rintro e w5 ⟨a4, c4, rfl, hK5, _, hb5⟩
      obtain ⟨vs2, hO5, hats5⟩ := HX.out.keep hb5
      have HO5 := Lib.hid hO5
      have HATS := Lib.hid hats5
      have HOL := Lib.hid hO5.lt
      have hz5 := hb5.size
      have HOL0 : Hid (∀ k, (Value.slice aK d.length cK).ownBlock = some k → w.heap.size + 1 + 1 ≤ k ∧ k < wr.heap.size) := fun k hk => by obtain ⟨vs0, hO0, _⟩ := HX.out; exact hO0.lt k hk
      have HK5 := Lib.hid hK5
      have HG5 := Lib.hid hb5
      clear hO5 hats5 hb5 hK5 x0 x1 x2 f0 f1 f2 k0 k1 k2 hz HT
      go_wp2_with (at_builtin; refine wpList_append_lies _ rfl (.tmp 14) (.tmp 20) 22 rfl (w.heap.size + 1 + 1) 24 i0 _ 3 40 Try.underlying22 hi hz0 hz1' hz2' rfl (by decide) (.slice aK d.length cK) _ _ rfl (HO5.out.alloc _) ⟨w5.heap.size, 0, none⟩ 1 1 [.int .i64 x.k, .int .i64 x.n, .slice a4 x.kids.length c4] rfl rfl (by have := World.news_of_block (World.alloc_heap_new w5 (.cells #[.int .i64 x.k, .int .i64 x.n, .slice a4 x.kids.length c4] 24)); simpa using this) (by simp [Value.oneCell']) (by decide) hm1 hm2 (by rw [World.size_alloc]; omega) (w5.heap.size + 1) (by rw [World.size_alloc]) ?_; intro g7 cp w7 hown7 hgrow7 hat7 hlt7; have hk7 : ∀ B, B < w.heap.size + 1 + 1 → w7.heap[B]? = wr.heap[B]? := (fun B hB => ((hgrow7.block B (by rw [World.size_alloc]; omega) (fun e => by have := (HOL0.out _ e.symm).1; omega)).trans (Below.heap_alloc w5 _ B (by omega))).trans (HG5.out.block B (by omega))); obtain ⟨⟨p0, p1, p2⟩, p3, p4, p5⟩ := boxc ((hk7 _ (by omega)).trans HB.out); have r0 := (World.cell?_of_block (a := ⟨b, off + 3, none⟩) (hk7 b (by omega))).trans HM.out.1; have r1 := (World.cell?_of_block (a := ⟨b, off + 3 + 1, none⟩) (hk7 b (by omega))).trans HM.out.2.1; have r2 := (World.cell?_of_block (a := ⟨b, off + 3 + 2, none⟩) (hk7 b (by omega))).trans HM.out.2.2)
      have hlen : (d ++ [x]).length = d.length + 1 := by simp
      have hAl := below_al w5 (.cells #[.int .i64 x.k, .int .i64 x.n, .slice a4 x.kids.length c4] 24)
      have hat8 : (Value.slice aK d.length cK).ownBlock = some g7 ∨ g7 = (w5.alloc (.cells #[.int .i64 x.k, .int .i64 x.n, .slice a4 x.kids.length c4] 24)).heap.size := by rw [World.size_alloc]; exact hat7
      have hz8 : (w5.alloc (.cells #[.int .i64 x.k, .int .i64 x.n, .slice a4 x.kids.length c4] 24)).heap.size = w5.heap.size + 1 := World.size_alloc _ _
      have hHA : ∀ i (_ : i < d.length), AtS (fun b => w.heap.size + 1 + 1 ≤ b ∧ b < (w5.alloc (.cells #[.int .i64 x.k, .int .i64 x.n, .slice a4 x.kids.length c4] 24)).heap.size ∧ some b ≠ (Value.slice aK d.length cK).ownBlock) (w5.alloc (.cells #[.int .i64 x.k, .int .i64 x.n, .slice a4 x.kids.length c4] 24)) d[i].kids (vs2 i) := fun i hi => (HATS.out i hi).same fun b hb => ⟨⟨hb.1, by omega, hb.2.2⟩, hAl.block b hb.2.1⟩
      have hHY : AtS (fun b => w.heap.size + 1 + 1 ≤ b ∧ b < (w5.alloc (.cells #[.int .i64 x.k, .int .i64 x.n, .slice a4 x.kids.length c4] 24)).heap.size ∧ some b ≠ (Value.slice aK d.length cK).ownBlock) (w5.alloc (.cells #[.int .i64 x.k, .int .i64 x.n, .slice a4 x.kids.length c4] 24)) x.kids (.slice a4 x.kids.length c4) :=
        HK5.out.same fun b hb => ⟨⟨by omega, by omega, fun e => by have := (HOL0.out b e.symm).2; omega⟩, hAl.block b hb.2⟩
      have HRow := Lib.hid ((rowo_step hHA hHY hown7 hgrow7 hat8).put (C := w.heap.size) (x := .int .i64 y.k) (y := .int .i64 y.n) (z := .slice ay y.kids.length cy) (by omega))
      have HBox := Lib.hid (box_store3 ((hk7 _ (by omega)).trans HB.out) (.int .i64 y.k) (.int .i64 y.n) (.slice ay y.kids.length cy))
      have HZero := Lib.hid ((other_store3 (W := w7) (B := w.heap.size) (b := w.heap.size + 1) (by omega) (.int .i64 y.k) (.int .i64 y.n) (.slice ay y.kids.length cy)).trans ((hk7 _ (by omega)).trans HZ.out))
      have HBel := Lib.hid ((((HW.out.trans (HG5.out.mono HW.out.size)).trans (hAl.mono (by have := HW.out.size; omega))).grown hgrow7 (by have := HW.out.size; omega) (fun k e => by have := (HOL0.out k e).1; omega)).trans (below_store3 (D := w.heap.size) (B := w.heap.size) (W := w7) (Nat.le_refl _) (.int .i64 y.k) (.int .i64 y.n) (.slice ay y.kids.length cy)))
      have HUN : Hid (unpis t = ((d ++ [x]) ++ (unpis y).1, (unpis y).2)) := by unfold Hid; rw [HU.out, HCU.out]; simp
      clear hAl hat8 hHA hHY hown7 hgrow7 hat7 hlt7 HK5 HATS HO5 HG5 HOL HOL0 HU HCU HB HM HZ HW HX HA
      go_wp2_with fail
      go_roundw
      case rel => exact ⟨d ++ [x], y, some ⟨g7, 0, none⟩, cp, ay, cy, by rw [hlen], HRow.out, HBox.out, HZero.out, HY.out, HBel.out, HUN.out, by rw [hlen]; have := size_pos x; omega⟩
      case measure => simp [sliceLen]; omega
    · have hT := unpis_no (t := c) h
      have HT := Lib.hid (fun W v hA => c_twin c (by omega) W v hA)
      have hA' := hA.bel hw (Nat.le_refl _)
      rw [hT, List.append_nil] at hu
      have fin : ∀ w1 a2 c2, Below wr.heap.size wr w1 → At w1 c.kids (.slice a2 c.kids.length c2) → AtS (fun b => wr.heap.size ≤ b) w1 c.kids (.slice a2 c.kids.length c2) →
          UpiPost w (unpis t).1 (unpis t).2 (.returned (.tuple #[.slice aK d.length cK, .agg #[.int .i64 c.k, .int .i64 c.n, .slice a2 c.kids.length c2]])) (put3 w1 (w.heap.size + 1) c (.slice a2 c.kids.length c2)) := fun w1 a2 c2 h1 h2 h3 => by
        rw [hu]
        exact ⟨a2, c2, aK, cK, rfl, (h3.same (T := fun _ => True) (w' := put3 w1 (w.heap.size + 1) c (.slice a2 c.kids.length c2)) fun b hb => ⟨trivial, other_store3 (by omega) _ _ _⟩).at, ((HX.out.keep h1).put (by omega)).ats.at, (HW.out.trans (h1.mono HW.out.size)).trans (below_store3 (by omega) _ _ _)⟩
      have FIN := Lib.hid fin
      have HAT := Lib.hid hA'
      have hk : c.k ≠ 4 ∨ (c.k = 4 ∧ c.kids.length ≠ 2) := by omega
      clear fin hA' hu hX hb hA hw h hT HU
      rcases hk with hk | hk
      · have k1 : (c.k == 4) = false := by simpa using hk
        clear hk
        go_wp2_with fail
        refine (HT.out _ _ HAT.out).mono ?_
        rintro e w1 ⟨a2, c2, rfl, hS2, _, hb2⟩
        have Z2 := (hb2.block _ (by omega)).trans hz
        obtain ⟨⟨y0, y1, y2⟩, g0, g1, g2⟩ := boxc Z2
        have HF := Lib.hid (FIN.out w1 a2 c2 hb2 hS2.at (hS2.same fun b hb => ⟨hb.1, rfl⟩))
        have HZ2 := Lib.hid Z2
        clear Z2 hS2 hb2 FIN HT
        go_wp2_with fail
        obtain ⟨⟨s0, s1, s2⟩, _⟩ := boxc (box_store3 HZ2.out (.int .i64 c.k) (.int .i64 c.n) (.slice a2 c.kids.length c2))
        exact bodyPost_ret (v := .tuple #[.slice aK d.length cK, .agg #[.int .i64 c.k, .int .i64 c.n, .slice a2 c.kids.length c2]]) (by simp [results, Try.f18, go_sem, s0, s1, s2]) rfl HF.out
      · have k1 : (c.k == 4) = true := by simpa using hk.1
        have k2 : ((c.kids.length : Int) == 2) = false := by simp; omega
        have hk2 := hk.2
        clear hk
        go_wp2_with fail
        refine (HT.out _ _ HAT.out).mono ?_
        rintro e w1 ⟨a2, c2, rfl, hS2, _, hb2⟩
        have Z2 := (hb2.block _ (by omega)).trans hz
        obtain ⟨⟨y0, y1, y2⟩, g0, g1, g2⟩ := boxc Z2
        have HF := Lib.hid (FIN.out w1 a2 c2 hb2 hS2.at (hS2.same fun b hb => ⟨hb.1, rfl⟩))
        have HZ2 := Lib.hid Z2
        clear Z2 hS2 hb2 FIN HT
        go_wp2_with fail
        obtain ⟨⟨s0, s1, s2⟩, _⟩ := boxc (box_store3 HZ2.out (.int .i64 c.k) (.int .i64 c.n) (.slice a2 c.kids.length c2))
        exact bodyPost_ret (v := .tuple #[.slice aK d.length cK, .agg #[.int .i64 c.k, .int .i64 c.n, .slice a2 c.kids.length c2]]) (by simp [results, Try.f18, go_sem, s0, s1, s2]) rfl HF.out
end Go.Proofs.Ytblebboamopffaa
