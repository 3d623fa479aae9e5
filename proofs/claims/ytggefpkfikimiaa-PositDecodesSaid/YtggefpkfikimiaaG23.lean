/- The page's place.more. No conditions but sizes. -/
import Derived.Test.YtggefpkfikimiaaG21
import Derived.Test.YtggefpkfikimiaaG22
import Derived.Test.YtggefpkfikimiaaG14
import Derived.Test.YtggefpkfikimiaaG09
import Derived.BigQuiet
import Derived.Test.YtggefpkfikimiaaG13
import Derived.Deep.AppendLies
import Derived.OneCell
namespace Go.Proofs.Ytggefpkfikimiaa
open Go.RowKit
set_option linter.unusedVariables false

theorem box_p4 {W : World} {B : Nat} {ty : TypeId} {x0 x1 x2 x3 x4 x5 : Value} (h : W.heap[B]? = some (.cells #[x0, x1, x2, x3, x4, x5] ty (0, 0))) (y : Value) : (W.setCell ⟨B, 4, none⟩ y).heap[B]? = some (.cells #[x0, x1, x2, x3, y, x5] ty (0, 0)) := by
  have h1 := heap_setCell_same _ B 4 _ ty y h
  simpa using h1
theorem below_p4 {W : World} {B D : Nat} (hD : D ≤ B) (y : Value) : Below D W (W.setCell ⟨B, 4, none⟩ y) := (Below.refl D W).setCell (p := ⟨B, 4, none⟩) hD y
theorem other_p4 {W : World} {B b : Nat} (hb : b ≠ B) (y : Value) : (W.setCell ⟨B, 4, none⟩ y).heap[b]? = W.heap[b]? := Below.heap_setCell W _ y _ (by simpa using hb)
theorem moreP_succ (vars : List Int) (j : Nat) : moreP vars ((j + 1 : Nat) : Int) = moreP vars (j : Int) ++ [-1] := by
  simp only [moreP, Int.toNat_natCast]
  rw [List.replicate_succ', ← List.append_assoc]
theorem moreP_zero (vars : List Int) : moreP vars ((0 : Nat) : Int) = vars := by simp [moreP]
theorem irow_one (w : World) (n : Int) : IRow (w.alloc (.cells #[.int .i64 n] 3)) [n] (.slice (some ⟨w.heap.size, 0, none⟩) 1 1) := by
  refine .row [n] w.heap.size 0 1 (fun _ => [.int .i64 n]) (by simp) (by simp) (by decide) (fun i hi => ?_) fun i hi r hr => ?_
  · obtain rfl : i = 0 := by simpa using hi
    exact ⟨rfl, rfl⟩
  · obtain rfl : i = 0 := by simpa using hi
    obtain rfl : r = 0 := by omega
    have := World.alloc_heap_new w (.cells #[.int .i64 n] 3)
    simp only [Nat.zero_mul, Nat.add_zero, World.cell?, this]
    rfl
def MorePost (w : World) (b : BlkT) (base : Int) (vars : List Int) (args : List ArgT) (vs vc va : Value) (e : Ending) (w' : World) : Prop :=
  ∃ a c, e = .returned (.agg #[vs, vc, .int .i64 b.elim, .int .i64 base, .slice a vars.length c, va]) ∧ PAt w' b vars args vs vc (.slice a vars.length c) va ∧ Below w.heap.size w w'
end Go.Proofs.Ytggefpkfikimiaa
/- The page's at: the context of Args. No conditions but sizes. -/
namespace Go.Proofs.Ytggefpkfikimiaa
open Go.RowKit
set_option linter.unusedVariables false

theorem atFrom_snoc (a : ArgT) : ∀ (l : List ArgT) (i : Nat), atFrom i (l ++ [a]) = atFrom i l ++ [if a.r then ((i + l.length : Nat) : Int) else -1]
  | [], i => by simp [atFrom]
  | x :: l, i => by
    rw [List.cons_append, atFrom, atFrom, atFrom_snoc a l (i + 1), List.cons_append, List.length_cons]
    rw [show i + 1 + l.length = i + (l.length + 1) by omega]
theorem atP_take {l : List ArgT} {j : Nat} (h : j < l.length) : atP (l.take (j + 1)) = atP (l.take j) ++ [if l[j].r then (j : Int) else -1] := by
  rw [List.take_succ_eq_append_getElem h, atP, atFrom_snoc, Nat.zero_add, List.length_take, Nat.min_eq_left (by omega)]
  rfl
end Go.Proofs.Ytggefpkfikimiaa
/- The page's decoding, where clean is known of the smaller terms. No conditions but sizes. -/
namespace Go.Proofs.Ytggefpkfikimiaa
open Go.RowKit
set_option linter.unusedVariables false

theorem unspine_formed : ∀ t : Tm, formedB t = true → formedB (unspine t).1 = true ∧ formedL (unspine t).2 = true := by
  refine tm_ind fun t ih hf => ?_
  obtain ⟨k, n, l⟩ := t
  by_cases hk : k = 6
  · obtain ⟨h0, a, b, rfl, ha, hb⟩ := app_formed hf (.inl hk)
    obtain ⟨e1, e2⟩ := ih a (by simp [Tm.kids]) ha
    rw [unspine_app _ _ _ _ hk]
    refine ⟨e1, ?_⟩
    show formedL ((unspine a).2 ++ [b]) = true
    rw [formedL_append, e2]
    simp [formedL, hb]
  · rw [unspine_no (t := .node k n l) (fun h => hk h.1)]
    exact ⟨hf, rfl⟩
theorem last_at {l : List Tm} (h : 0 < l.length) : ∃ m : Nat, (m : Int) = (l.length : Int) - 1 ∧ ∃ hm : m < l.length, lastT l = l[m] := by
  refine ⟨l.length - 1, by omega, by omega, ?_⟩
  rw [lastT, List.getElem?_eq_getElem (by omega)]
  rfl
theorem drop_at {l : List Tm} {j : Nat} (h : j < l.length - 1) (r : Tm → Bool) : (l.dropLast.drop j).all r = (r (l[j]'(by omega)) && (l.dropLast.drop (j + 1)).all r) := by
  have hlen : j < l.dropLast.length := by rw [List.length_dropLast]; exact h
  rw [List.drop_eq_getElem_cons hlen, List.all_cons, List.getElem_dropLast]
theorem drop_end {l : List Tm} {j : Nat} (h : l.length - 1 ≤ j) (r : Tm → Bool) : (l.dropLast.drop j).all r = true := by
  rw [List.drop_of_length_le (by rw [List.length_dropLast]; exact h)]
  rfl
end Go.Proofs.Ytggefpkfikimiaa
/- Package posit's parts: a spine taken apart, nothing copied. No conditions but sizes. -/
namespace Go.Proofs.Ytggefpkfikimiaa
open Go.RowKit
set_option linter.unusedVariables false

/-- A row of the call's own, of terms whose Kids lie in a world of before. -/
def RowP (w0 : World) (B : Nat) (L : List Tm) (v : Value) (w : World) : Prop := ∃ vs, w.ownsRow B 25 3 v L.length (cells3 L vs) ∧ ∀ i (_ : i < L.length), At w0 L[i].kids (vs i)
theorem RowP.start (w0 : World) (B : Nat) (w : World) : RowP w0 B [] (.slice none 0 0) w := ⟨fun _ => .slice none 0 0, World.ownsRow_nil _ _ _ _, fun i hi => absurd hi (Nat.not_lt_zero _)⟩
theorem RowP.keep {w0 : World} {B : Nat} {L : List Tm} {v : Value} {w w' : World} (h : RowP w0 B L v w) (hb : Below w.heap.size w w') : RowP w0 B L v w' := by
  obtain ⟨vs, h2, h3⟩ := h
  exact ⟨vs, h2.kept (row := none) ⟨hb.os, hb.tape, hb.output, hb.size, fun k hk _ => hb.block k hk⟩ (by cases v.ownBlock <;> simp), h3⟩
theorem RowP.put {w0 : World} {B C : Nat} {L : List Tm} {v : Value} {w : World} {x y z : Value} (h : RowP w0 B L v w) (hC : C < B) : RowP w0 B L v (((w.setCell ⟨C, 0, none⟩ x).setCell ⟨C, 1, none⟩ y).setCell ⟨C, 2, none⟩ z) := by
  obtain ⟨vs, h2, h3⟩ := h
  have hne : v.ownBlock ≠ some C := fun e => by have := (h2.lt C e).1; omega
  exact ⟨vs, ownsRow_setCell_other (ownsRow_setCell_other (ownsRow_setCell_other h2 (a := ⟨C, 0, none⟩) hne x) (a := ⟨C, 1, none⟩) hne y) (a := ⟨C, 2, none⟩) hne z, h3⟩
theorem RowP.at {w0 : World} {B : Nat} {L : List Tm} {v : Value} {w : World} (h : RowP w0 B L v w) (hb : Below w0.heap.size w0 w) : At w L v := by
  obtain ⟨vs, h2, h3⟩ := h
  exact (ats_of_row (S := fun b => b < w.heap.size) h2 (fun b hb => (h2.lt b hb).2) fun i hi => ((h3 i hi).bel hb (Nat.le_refl _)).toS).at
theorem rowp_step {w0 w w7 : World} {B g cap cu : Nat} {L : List Tm} {u : Tm} {vs : Nat → Value} {au : Option Addr}
    (hats : ∀ i (_ : i < L.length), At w0 L[i].kids (vs i)) (hu : At w0 u.kids (.slice au u.kids.length cu))
    (hown7 : w7.ownsRow B 25 3 (.slice (some ⟨g, 0, none⟩) (L.length + 1) cap) (L.length + 1) (cells3 L vs ++ [.int .i64 u.k, .int .i64 u.n, .slice au u.kids.length cu])) :
    RowP w0 B (L ++ [u]) (.slice (some ⟨g, 0, none⟩) (L ++ [u]).length cap) w7 := by
  have hlen : (L ++ [u]).length = L.length + 1 := by simp
  refine ⟨fun i => if i < L.length then vs i else .slice au u.kids.length cu, ?_, fun i hi => ?_⟩
  · rw [hlen, cells3_snoc L u vs _ (fun i hi => by rw [if_pos hi]), if_neg (by omega)]
    exact hown7
  · by_cases hil : i < L.length
    · simp only [if_pos hil]
      rw [List.getElem_append_left hil]
      exact hats i hil
    · obtain rfl : i = L.length := by omega
      simp only [if_neg hil]
      rw [List.getElem_append_right (Nat.le_refl _)]
      simp only [Nat.sub_self, List.getElem_singleton]
      exact hu
theorem rowp_rev {w0 : World} {B : Nat} {L : List Tm} (hL : L.length ≤ 1048576) {a : Option Addr} {c : Nat} {w : World} (h : RowP w0 B L (.slice a L.length c) w) :
    Calls Try.prog 90 #[.slice a L.length c] w fun e w' => (∃ u, e = .returned u) ∧ RowP w0 B L.reverse (.slice a L.length c) w' ∧ Below B w w' := by
  obtain ⟨vs, h2, h3⟩ := h
  by_cases h0 : 0 < L.length
  · rcases h2.2 with ⟨e, e0⟩ | ⟨g, cap, cur, e, e1, e2, e3, e4, e5, e6⟩
    · omega
    · have he : a = some ⟨g, 0, none⟩ ∧ c = cap := by simpa using e
      obtain ⟨rfl, rfl⟩ := he
      have hvs : ∀ i, i < L.length → ∃ a m c, vs i = .slice a m c := fun i hi => by obtain ⟨a, c, e⟩ := (h3 i hi).shape; exact ⟨a, _, c, e⟩
      have hI : RevI g c L vs 0 w := by
        refine ⟨cur, e2, e5, fun k hk r hr => ?_⟩
        have es : sigR L.length 0 k = k := by unfold sigR; rw [if_neg (by omega)]
        have := congrArg (fun l => l[k * 3 + r]?) e6
        simp only [List.getElem?_take] at this
        rw [if_pos (by omega), cells3_get L vs k r hk hr] at this
        rw [es]; unfold trR
        rw [getD_get hk]
        simpa using this
      refine (reverse_any g c L vs hvs hL e3 w (fun _ => hI) _ (.inl rfl)).mono ?_
      rintro e w' ⟨hu, hr, hb, ho⟩
      obtain ⟨i, hi, cs, k1, k2, k3⟩ := hr h0
      refine ⟨hu, ⟨fun k => vs (L.length - 1 - k), ⟨by rw [cells3_len], .inr ⟨g, c, cs, by rw [List.length_reverse], e1, k1, by rw [List.length_reverse]; exact e3, e4, k2, ?_⟩⟩, fun k hk => ?_⟩, hb.mono e1⟩
      · apply List.ext_getElem?
        intro j
        rw [List.getElem?_take]
        by_cases hj : j < L.reverse.length * 3
        · rw [if_pos hj]
          rw [List.length_reverse] at hj
          have hq : j / 3 < L.length := by omega
          have hr3 : j % 3 < 3 := by omega
          have hjj : j / 3 * 3 + j % 3 = j := by omega
          have g1 := k3 (j / 3) hq (j % 3) hr3
          have g2 := cells3_get L.reverse (fun k => vs (L.length - 1 - k)) (j / 3) (j % 3) (by rw [List.length_reverse]; exact hq) hr3
          rw [hjj] at g1 g2
          have es : sigR L.length i (j / 3) = L.length - 1 - j / 3 := by
            unfold sigR
            by_cases hc : j / 3 < i ∨ L.length ≤ j / 3 + i
            · rw [if_pos hc]
            · rw [if_neg hc]; omega
          rw [es] at g1
          unfold trR at g1
          rw [getD_get (by omega)] at g1
          rw [List.getElem_reverse] at g2
          rw [g2]
          simpa using g1
        · rw [if_neg hj]
          symm
          rw [List.getElem?_eq_none_iff, cells3_len]; omega
      · rw [List.getElem_reverse]
        exact h3 (L.length - 1 - k) (by rw [List.length_reverse] at hk; omega)
  · have hl : L = [] := List.eq_nil_of_length_eq_zero (by omega)
    subst hl
    refine (reverse_empty a c w).mono ?_
    rintro e w' ⟨hu, rfl⟩
    exact ⟨hu, ⟨vs, h2, h3⟩, Below.refl _ _⟩
theorem unspine_at {c x y : Tm} (hk : c.k = 6) (hl : c.kids = [x, y]) : unspine c = ((unspine x).1, (unspine x).2 ++ [y]) := by
  obtain ⟨k, n, l⟩ := c
  simp only [Tm.kids, Tm.k] at hk hl
  subst hl
  exact unspine_app k n x y hk
/-- What parts tells: the head and a row of the args. -/
def PartsPost (w : World) (f : Tm) (X : List Tm) (e : Ending) (w' : World) : Prop := ∃ a c a2 c2, e = .returned (.tuple #[.agg #[.int .i64 f.k, .int .i64 f.n, .slice a f.kids.length c], .slice a2 X.length c2]) ∧
  At w f.kids (.slice a f.kids.length c) ∧ At w' X (.slice a2 X.length c2) ∧ Below w.heap.size w w'
def PtsI (w : World) (t : Tm) (k : Nat) (v : Value) (wr : World) : Prop := ∃ (D : List Tm) (c : Tm) (aK : Option Addr) (cK : Nat) (ac : Option Addr) (cc : Nat), v = .slice aK D.length cK ∧ RowP w (w.heap.size + 2) D (.slice aK D.length cK) wr ∧
  wr.heap[w.heap.size]? = some (.cells #[.int .i64 c.k, .int .i64 c.n, .slice ac c.kids.length cc] 25 (0, 0)) ∧ wr.heap[w.heap.size + 1]? = some (.cells #[.int .i64 0, .int .i64 0, .slice none 0 0] 25 (0, 0)) ∧
  At w c.kids (.slice ac c.kids.length cc) ∧ Below w.heap.size w wr ∧ unspine t = ((unspine c).1, (unspine c).2 ++ D.reverse) ∧ D.length + size c ≤ size t ∧ size c ≤ k ∧ formedB c = true
set_option maxRecDepth 100000 in
set_option maxHeartbeats 4000000 in
theorem parts_any (t : Tm) (hs : size t ≤ 1048576) (hf : formedB t = true) (w : World) (v : Value) (hA : At w t.kids v) :
    Calls Try.prog 80 #[.agg #[.int .i64 t.k, .int .i64 t.n, v]] w (PartsPost w (unspine t).1 (unspine t).2) := by
  obtain ⟨a1, c1, rfl⟩ := hA.shape
  have hO := one_start w t _ hA
  have hb0 := World.alloc_heap_new w (.cells #[.int .i64 t.k, .int .i64 t.n, .slice a1 t.kids.length c1] 25)
  have hb1 := below_al (w.alloc (.cells #[.int .i64 t.k, .int .i64 t.n, .slice a1 t.kids.length c1] 25)) (.cells #[.int .i64 0, .int .i64 0, .slice none 0 0] 25)
  have hz := World.alloc_heap_new (w.alloc (.cells #[.int .i64 t.k, .int .i64 t.n, .slice a1 t.kids.length c1] 25)) (.cells #[.int .i64 0, .int .i64 0, .slice none 0 0] 25)
  rw [World.size_alloc] at hz
  have hI0 : PtsI w t (size t) (.slice none 0 0) ((w.alloc (.cells #[.int .i64 t.k, .int .i64 t.n, .slice a1 t.kids.length c1] 25)).alloc (.cells #[.int .i64 0, .int .i64 0, .slice none 0 0] 25)) :=
    ⟨[], t, none, 0, a1, c1, rfl, RowP.start _ _ _, (hb1.block _ (by simp)).trans hb0, hz, hA, hO.2.2.trans (hb1.mono (by simp)), by simp, by simp, Nat.le_refl _, hf⟩
  have H0 := Lib.hid hI0
  clear hA hO hb0 hb1 hz hI0 hf
  go_enter Try.func80, Try.ntmps80
  go_wp2_with fail
  go_loopg [4] (size t) (fun k v wr => PtsI w t k v wr)
  case atStart => exact H0.out
  case round =>
    clear H0
    obtain ⟨D, c, aK, cK, ac, cc, rfl, hX, hb, hz, hA, hw, hu, hsz, hk, hfc⟩ := hrel
    have hz1 := hw.size
    have hlz : w.heap.size + 1 < wr.heap.size := (Array.getElem?_eq_some_iff.1 hz).1
    by_cases hck : c.k = 6
    · obtain ⟨hn0, x, y, hxy, hfx, hfy⟩ : c.n = 0 ∧ ∃ a b, c.kids = [a, b] ∧ formedB a = true ∧ formedB b = true := by
        obtain ⟨k, n, l⟩ := c
        exact app_formed hfc (.inl hck)
      have hcl : c.kids.length = 2 := by rw [hxy]; rfl
      obtain ⟨b, off, cap', vs, he, h1, h2, kk, kn, kv, ks⟩ := hA.pos (by omega)
      cases he
      have e0 : c.kids[0] = x := by simp [hxy]
      have e1 : c.kids[1] = y := by simp [hxy]
      have k0 := kk 0 (by omega)
      have k1 := kn 0 (by omega)
      have k2 := kv 0 (by omega)
      have k3 := ks 0 (by omega)
      have m0 := kk 1 (by omega)
      have m1 := kn 1 (by omega)
      have m2 := kv 1 (by omega)
      have m3 := ks 1 (by omega)
      rw [e0] at k0 k1 k3
      rw [e1] at m0 m1 m3
      obtain ⟨ax, cx, hvx⟩ := k3.shape
      obtain ⟨ay, cy, hvy⟩ := m3.shape
      rw [hvx] at k2 k3
      rw [hvy] at m2 m3
      simp only [Nat.zero_mul, Nat.one_mul, Nat.add_zero] at k0 k1 k2 m0 m1 m2
      have hblt : b < w.heap.size := World.block_lt_of_cell? w _ k0
      have hszc : size c = size x + size y + 1 := by have := size_eq c; rw [hxy] at this; simp only [sizeL] at this; omega
      have hsx := size_pos x
      have hsy := size_pos y
      obtain ⟨⟨x0, x1, x2⟩, f0, f1, f2⟩ := boxc hb
      rw [hcl] at x2 hb
      rw [hck] at x0
      obtain ⟨vs2, hO5, hats5⟩ := hX
      have HO5 := Lib.hid hO5
      have HATS := Lib.hid hats5
      have HOL0 : Hid (∀ k, (Value.slice aK D.length cK).ownBlock = some k → w.heap.size + 2 ≤ k ∧ k < wr.heap.size) := fun k hk => hO5.lt k hk
      have HB := Lib.hid hb
      have HZ := Lib.hid hz
      have HW := Lib.hid hw
      have y0 := gcell hw m0
      have y1 := gcell hw m1
      have y2 := gcell hw m2
      have HK := Lib.hid (And.intro (And.intro k0 (And.intro k1 k2)) (And.intro k3 m3))
      have HU := Lib.hid (And.intro hu (And.intro hsz (And.intro hk (And.intro hck (And.intro hxy (And.intro hszc (And.intro hsx (And.intro hsy (And.intro hfx hfy)))))))))
      have hm1 : D.length + 1 ≤ maxLen := by unfold maxLen; omega
      have hm2 : (D.length + 1) * 40 ≤ 140737488355328 := by omega
      obtain ⟨i0, hi, hi0, hi1, hi2⟩ := info_parts Try.infoT
      clear hO5 hats5 hb hz hw k0 k1 k2 k3 m0 m1 m2 m3 e0 e1 kk kn kv ks hvx hvy hu hA hsz hk hck hxy hszc h1 h2 hsx hsy hfx hfy hn0 hfc
      go_wp2_with (at_builtin; refine wpList_append_lies _ rfl (.tmp 8) (.tmp 13) 23 rfl (w.heap.size + 2) 25 i0 _ 3 40 Try.underlying23 hi hi0 hi1 hi2 rfl (by decide) (.slice aK D.length cK) _ _ rfl (HO5.out.alloc _) ⟨wr.heap.size, 0, none⟩ 1 1 [.int .i64 y.k, .int .i64 y.n, .slice ay y.kids.length cy] rfl rfl (by have := World.news_of_block (World.alloc_heap_new wr (.cells #[.int .i64 y.k, .int .i64 y.n, .slice ay y.kids.length cy] 25)); simpa using this) (by simp [Value.oneCell']) (by decide) hm1 hm2 (by rw [World.size_alloc]; omega) (wr.heap.size + 1) (by rw [World.size_alloc]) ?_; intro g7 cp w7 hown7 hgrow7 hat7 hlt7; have hk7 : ∀ B, B < w.heap.size + 2 → w7.heap[B]? = wr.heap[B]? := (fun B hB => ((hgrow7.block B (by rw [World.size_alloc]; omega) (fun e => by have := (HOL0.out _ e.symm).1; omega)).trans (Below.heap_alloc wr _ B (by omega)))); obtain ⟨⟨p0, p1, p2⟩, p3, p4, p5⟩ := boxc ((hk7 _ (by omega)).trans HB.out); obtain ⟨t0, t1, t2⟩ := HK.out.1; have r0 := (World.cell?_of_block (hk7 b (by omega))).trans (gcell HW.out t0); have r1 := (World.cell?_of_block (hk7 b (by omega))).trans (gcell HW.out t1); have r2 := (World.cell?_of_block (hk7 b (by omega))).trans (gcell HW.out t2); clear t0 t1 t2)
      have hlen : (D ++ [y]).length = D.length + 1 := by simp
      have hz8 : (wr.alloc (.cells #[.int .i64 y.k, .int .i64 y.n, .slice ay y.kids.length cy] 25)).heap.size = wr.heap.size + 1 := World.size_alloc _ _
      have hAl := below_al wr (.cells #[.int .i64 y.k, .int .i64 y.n, .slice ay y.kids.length cy] 25)
      have HRow := Lib.hid ((rowp_step (w := wr) HATS.out HK.out.2.2 hown7).put (C := w.heap.size) (x := .int .i64 x.k) (y := .int .i64 x.n) (z := .slice ax x.kids.length cx) (by omega))
      have HBox := Lib.hid (box_store3 ((hk7 _ (by omega)).trans HB.out) (.int .i64 x.k) (.int .i64 x.n) (.slice ax x.kids.length cx))
      have HZero := Lib.hid ((other_store3 (W := w7) (B := w.heap.size) (b := w.heap.size + 1) (by omega) (.int .i64 x.k) (.int .i64 x.n) (.slice ax x.kids.length cx)).trans ((hk7 _ (by omega)).trans HZ.out))
      have HBel := Lib.hid (((HW.out.trans (hAl.mono (by have := HW.out.size; omega))).grown hgrow7 (by have := HW.out.size; omega) (fun k e => by have := (HOL0.out k e).1; omega)).trans (below_store3 (D := w.heap.size) (B := w.heap.size) (W := w7) (Nat.le_refl _) (.int .i64 x.k) (.int .i64 x.n) (.slice ax x.kids.length cx)))
      obtain ⟨hu, hsz, hk, hck, hxy, hszc, hsx, hsy, hfx, hfy⟩ := HU.out
      go_roundg (size x)
      case measure => omega
      case rel => exact ⟨D ++ [y], x, some ⟨g7, 0, none⟩, cp, ax, cx, by rw [hlen], HRow.out, HBox.out, HZero.out, HK.out.2.1, HBel.out, by rw [hu, unspine_at hck hxy]; simp, by rw [hlen]; omega, Nat.le_refl _, hfx⟩
    · obtain ⟨⟨x0, x1, x2⟩, _⟩ := boxc hb
      rw [unspine_no (fun h => hck h.1)] at hu
      have HX := Lib.hid hX
      have HB := Lib.hid hb
      have HZ := Lib.hid hz
      have HW := Lib.hid hw
      have HA := Lib.hid hA
      have HU := Lib.hid hu
      have hdl : D.length ≤ 1048576 := by have := size_pos c; omega
      have hRV := Lib.hid (rowp_rev hdl hX)
      clear hX hb hz hw hA hu hsz hk hfc
      go_wp2_with fail
      refine hRV.out.mono ?_
      rintro e w3 ⟨⟨uu, rfl⟩, hX3, hb3⟩
      have hz3 := hb3.size
      have HX3 := Lib.hid hX3
      have HB3 := Lib.hid ((hb3.block _ (by omega)).trans HB.out)
      have HZ3 := Lib.hid ((hb3.block _ (by omega)).trans HZ.out)
      have HW3 := Lib.hid (HW.out.trans (hb3.mono (by omega)))
      clear hb3 hX3 hRV HX HB HZ x0 x1 x2
      obtain ⟨⟨x0, x1, x2⟩, _⟩ := boxc HB3.out
      obtain ⟨⟨y0, y1, y2⟩, g0, g1, g2⟩ := boxc HZ3.out
      go_wp2_with fail
      have hRF := HX3.out.put (C := w.heap.size + 1) (x := .int .i64 c.k) (y := .int .i64 c.n) (z := .slice ac c.kids.length cc) (by omega)
      have hBF := HW3.out.trans (below_store3 (D := w.heap.size) (B := w.heap.size + 1) (W := w3) (by omega) (.int .i64 c.k) (.int .i64 c.n) (.slice ac c.kids.length cc))
      obtain ⟨⟨s0, s1, s2⟩, _⟩ := boxc (box_store3 HZ3.out (.int .i64 c.k) (.int .i64 c.n) (.slice ac c.kids.length cc))
      refine bodyPost_ret (v := .tuple #[.agg #[.int .i64 c.k, .int .i64 c.n, .slice ac c.kids.length cc], .slice aK D.length cK]) (by simp [results, Try.f80, go_sem, s0, s1, s2]) rfl ?_
      rw [HU.out]
      have hrl : D.reverse.length = D.length := List.length_reverse
      refine ⟨ac, cc, aK, cK, ?_, HA.out, ?_, hBF⟩
      · simp
      · have := hRF.at hBF
        simpa using this
end Go.Proofs.Ytggefpkfikimiaa
