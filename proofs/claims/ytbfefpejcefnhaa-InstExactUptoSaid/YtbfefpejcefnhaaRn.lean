/- Package shift: renumber, with the numbers that Shift hands it: a right term, each Var renumbered, in new memory; or nothing. No conditions but bounds on integers. -/
import Derived.Test.YtbfefpejcefnhaaRk
import Derived.Deep.RegionHeld3
import Derived.Deep.DrawnRows
namespace Go.Proofs.Ytbfefpejcefnhaa
open Go.RowKit Go Go.Joins
set_option linter.unusedVariables false

def RenOkS (by_ fr : Int) (t : Tm) : Prop := formedB t = true → ∀ (b : Int) (w : World) (v : Value) (B1 B2 : Nat), 0 ≤ b → b + depth t ≤ 1000 → (w.cell? ⟨B1, 0, none⟩ = some (.int .i64 fr) ∧ w.cell? ⟨B2, 0, none⟩ = some (.int .i64 by_)) → At w t.kids v →
    Calls Try.prog 47 #[.agg #[.int .i64 t.k, .int .i64 t.n, v], .int .i64 b, .func (.func 48) #[] #[.pointer (some ⟨B1, 0, none⟩), .pointer (some ⟨B2, 0, none⟩)]] w (RenPost w (okT (shiftP by_ fr) t b) (mapT (shiftG by_ fr) t b))
def RenInvS (by_ fr : Int) (t : Tm) (b : Int) (w : World) (a : Option Addr) (cap : Nat) (B1 B2 : Nat) (i : Value) (wr : World) : Prop := ∃ (j : Nat) (vs : Nat → Value), j ≤ t.kids.length ∧ i = .int .i64 j ∧
  okL (shiftP by_ fr) t.kids t.k b 0 = okL (shiftP by_ fr) (t.kids.drop j) t.k b j ∧ KRow t.kids.length (w.heap.size + 2) (mapL (shiftG by_ fr) (t.kids.take j) t.k b 0) vs wr ∧ (∀ i (_ : i < j) (u : Tm), (mapL (shiftG by_ fr) (t.kids.take j) t.k b 0)[i]? = some u → AtK (fun b => w.heap.size + 3 ≤ b ∧ b < wr.heap.size) wr u.kids (vs i)) ∧
  (wr.cell? ⟨w.heap.size, 0, none⟩ = some (.int .i64 t.k) ∧ wr.cell? ⟨w.heap.size, 1, none⟩ = some (.int .i64 t.n) ∧ wr.cell? ⟨w.heap.size, 2, none⟩ = some (.slice a t.kids.length cap)) ∧ wr.heap[w.heap.size + 1]? = some (.cells #[.int .i64 0, .int .i64 0, .slice none 0 0] 24 (0, 0)) ∧
  (wr.cell? ⟨B1, 0, none⟩ = some (.int .i64 fr) ∧ wr.cell? ⟨B2, 0, none⟩ = some (.int .i64 by_)) ∧ At wr t.kids (.slice a t.kids.length cap) ∧ Below w.heap.size w wr ∧ w.heap.size + 3 ≤ wr.heap.size
theorem renStepS (by_ fr : Int) {t uj : Tm} {b : Int} {w wr w5 : World} {a a4 : Option Addr} {cap c4 j : Nat} {B1 B2 : Nat} {vs : Nat → Value} (hlt : j < t.kids.length)
    (hK : KRow t.kids.length (w.heap.size + 2) (mapL (shiftG by_ fr) (t.kids.take j) t.k b 0) vs w5) (hats : ∀ i (_ : i < j) (u : Tm), (mapL (shiftG by_ fr) (t.kids.take j) t.k b 0)[i]? = some u → AtK (fun b => w.heap.size + 3 ≤ b ∧ b < wr.heap.size) wr u.kids (vs i))
    (hK5 : AtK (fun b => wr.heap.size + 1 ≤ b ∧ b < w5.heap.size) w5 uj.kids (.slice a4 uj.kids.length c4)) (hgj : mapT (shiftG by_ fr) t.kids[j] (b + bindsI t.k j) = uj) (hok : okL (shiftP by_ fr) t.kids t.k b 0 = (true && okL (shiftP by_ fr) (t.kids.drop (j + 1)) t.k b (j + 1)))
    (x0 : wr.cell? ⟨w.heap.size, 0, none⟩ = some (.int .i64 t.k)) (x1 : wr.cell? ⟨w.heap.size, 1, none⟩ = some (.int .i64 t.n)) (x2 : wr.cell? ⟨w.heap.size, 2, none⟩ = some (.slice a t.kids.length cap)) (hbn : wr.heap[w.heap.size + 1]? = some (.cells #[.int .i64 0, .int .i64 0, .slice none 0 0] 24 (0, 0)))
    (hC : ∀ W, Below w.heap.size w W → (W.cell? ⟨B1, 0, none⟩ = some (.int .i64 fr) ∧ W.cell? ⟨B2, 0, none⟩ = some (.int .i64 by_))) (hA0 : At w t.kids (.slice a t.kids.length cap)) (hbw : Below w.heap.size w wr) (hb6 : Below wr.heap.size wr w5) (hsz : w.heap.size + 3 ≤ wr.heap.size) :
    RenInvS by_ fr t b w a cap B1 B2 (.int .i64 ((j + 1 : Nat) : Int)) (((w5.setCell ⟨w.heap.size + 2, j * 3, none⟩ (.int .i64 uj.k)).setCell ⟨w.heap.size + 2, j * 3 + 1, none⟩ (.int .i64 uj.n)).setCell ⟨w.heap.size + 2, j * 3 + 2, none⟩ (.slice a4 uj.kids.length c4)) := by
  have hLl : (mapL (shiftG by_ fr) (t.kids.take j) t.k b 0).length = j := by rw [mapL_length, List.length_take]; omega
  have hput := hK.put (by omega) uj (.slice a4 uj.kids.length c4)
  have hst := below_row3 (W := w5) (B := w.heap.size + 2) (D := w.heap.size) (o := j * 3) (by omega) (.int .i64 uj.k) (.int .i64 uj.n) (.slice a4 uj.kids.length c4)
  have hoth : ∀ b', b' ≠ w.heap.size + 2 → (((w5.setCell ⟨w.heap.size + 2, j * 3, none⟩ (.int .i64 uj.k)).setCell ⟨w.heap.size + 2, j * 3 + 1, none⟩ (.int .i64 uj.n)).setCell ⟨w.heap.size + 2, j * 3 + 2, none⟩ (.slice a4 uj.kids.length c4)).heap[b']? = w5.heap[b']? := fun b' hb' => other_row3 hb' _ _ _
  rw [hLl, ← hgj, ← mapL_take_succ (shiftG by_ fr) hlt] at hput
  rw [hgj] at hput
  revert hput hst hoth
  generalize (((w5.setCell ⟨w.heap.size + 2, j * 3, none⟩ (.int .i64 uj.k)).setCell ⟨w.heap.size + 2, j * 3 + 1, none⟩ (.int .i64 uj.n)).setCell ⟨w.heap.size + 2, j * 3 + 2, none⟩ (.slice a4 uj.kids.length c4)) = w6
  intro hput hst hoth
  have hz6 := hst.size
  have hz5 := hb6.size
  have hbF : Below w.heap.size w w6 := (hbw.trans (hb6.mono hbw.size)).trans hst
  have hup : ∀ {o : Nat} {x : Value}, wr.cell? ⟨w.heap.size, o, none⟩ = some x → w6.cell? ⟨w.heap.size, o, none⟩ = some x := fun {o x} hx => by
    rw [World.cell?_of_block (w := w5) (hoth w.heap.size (by omega))]
    exact gcell hb6 hx
  refine ⟨j + 1, fun i => if i < j then vs i else .slice a4 uj.kids.length c4, by omega, rfl, by rw [hok, Bool.true_and], hput, fun i hi u hu => ?_, ⟨hup x0, hup x1, hup x2⟩, ?_, hC w6 hbF, hA0.bel hbF (Nat.le_refl _), hbF, by omega⟩
  · rw [mapL_take_succ (shiftG by_ fr) hlt, hgj] at hu
    by_cases hij : i < j
    · simp only [if_pos hij]
      rw [List.getElem?_append_left (by omega)] at hu
      exact (hats i hij u hu).same fun b' hb' => ⟨⟨hb'.1, by omega⟩, (hoth b' (by omega)).trans (hb6.block b' hb'.2)⟩
    · obtain rfl : i = j := by omega
      simp only [if_neg hij]
      rw [List.getElem?_append_right (by omega), hLl] at hu
      simp only [Nat.sub_self, List.getElem?_cons_zero, Option.some.injEq] at hu
      subst hu
      exact hK5.same fun b' hb' => ⟨⟨by omega, by omega⟩, hoth b' (by omega)⟩
  · exact (hoth _ (by omega)).trans ((hb6.block _ (by omega)).trans hbn)
set_option maxRecDepth 100000 in
set_option maxHeartbeats 2000000 in
theorem renS_any (by_ fr : Int) (hby : 0 ≤ by_ ∧ by_ ≤ 65535) : ∀ t : Tm, RenOkS by_ fr t := by
  refine tm_ind fun t ih => ?_
  intro hf b w v B1 B2 hb0 hb1 hcs hA
  obtain ⟨a, cap, rfl⟩ := hA.shape
  have hC : ∀ W, Below w.heap.size w W → (W.cell? ⟨B1, 0, none⟩ = some (.int .i64 fr) ∧ W.cell? ⟨B2, 0, none⟩ = some (.int .i64 by_)) := fun W hW => ⟨gcell hW hcs.1, gcell hW hcs.2⟩
  have hbx := (box3_new w t (.slice a t.kids.length cap) 24).2
  have hbn := World.alloc_heap_new (w.alloc (.cells #[.int .i64 t.k, .int .i64 t.n, .slice a t.kids.length cap] 24)) (.cells #[.int .i64 0, .int .i64 0, .slice none 0 0] 24)
  rw [World.size_alloc] at hbn
  have hb2 : Below w.heap.size w ((w.alloc (.cells #[.int .i64 t.k, .int .i64 t.n, .slice a t.kids.length cap] 24)).alloc (.cells #[.int .i64 0, .int .i64 0, .slice none 0 0] 24)) := ((Below.refl _ w).alloc (Nat.le_refl _) _).alloc (by simp) _
  have hA2 := (hA.alloc (.cells #[.int .i64 t.k, .int .i64 t.n, .slice a t.kids.length cap] 24)).alloc (.cells #[.int .i64 0, .int .i64 0, .slice none 0 0] 24)
  obtain ⟨x0, x1, x2⟩ := hbx
  have hb2' := below_al (w.alloc (.cells #[.int .i64 t.k, .int .i64 t.n, .slice a t.kids.length cap] 24)) (.cells #[.int .i64 0, .int .i64 0, .slice none 0 0] 24)
  replace x0 := gcell hb2' x0
  replace x1 := gcell hb2' x1
  replace x2 := gcell hb2' x2
  have hz2 : ((w.alloc (.cells #[.int .i64 t.k, .int .i64 t.n, .slice a t.kids.length cap] 24)).alloc (.cells #[.int .i64 0, .int .i64 0, .slice none 0 0] 24)).heap.size = w.heap.size + 2 := by simp
  rw [formedB_eq, Bool.and_eq_true, Bool.and_eq_true, decide_eq_true_eq] at hf
  obtain ⟨⟨f1, f2⟩, f3⟩ := hf
  rw [okT_eq, mapT_eq]
  by_cases hk : t.k = 1
  · have hl0 : t.kids.length = 0 := by rw [hk] at f1; have : kidsI 1 = 0 := by decide
                                       omega
    rw [if_pos hl0, Bool.and_eq_true, decide_eq_true_eq, decide_eq_true_eq] at f2
    rw [if_pos hk, if_pos hk, show mapL (shiftG by_ fr) t.kids t.k b 0 = [] by rw [List.eq_nil_of_length_eq_zero hl0]; rfl]
    have hw : IntKind.i64.wrap (t.n - b) = t.n - b := IntWalk.i64_in _ (by have := depth_eq t; omega)
    have HN : Hid (∀ W, Below w.heap.size w W → Calls Try.prog 48 #[.int .i64 t.n, .int .i64 (t.n - b), .pointer (some ⟨B1, 0, none⟩), .pointer (some ⟨B2, 0, none⟩)] W fun e w' => e = .returned (.tuple #[.int .i64 (shiftG by_ fr b t.n), .bool (shiftP by_ fr b t.n)]) ∧ Below W.heap.size W w') := fun W hW => snum_any by_ fr t.n (t.n - b) f2 hby W B1 B2 (hC W hW).1 (hC W hW).2
    generalize hx : (shiftG by_ fr) b t.n = x at *
    generalize hp : (shiftP by_ fr) b t.n = p at *
    have HB2 := Lib.hid hb2
    have e1 : (t.k == 1) = true := by simpa using hk
    have HK := Lib.hid hk
    clear hx hp hb2' hA hA2 hb2 ih hC hcs f1 f2 f3 hl0 hk
    go_enter Try.func47, Try.ntmps47
    go_wp2_with fail
    refine (HN.out _ HB2.out).mono ?_
    rintro e w3 ⟨rfl, hb3⟩
    have hbn3 := (hb3.block (w.heap.size + 1) (by rw [hz2]; omega)).trans hbn
    obtain ⟨⟨c0, c1, c2⟩, g0, g1, g2⟩ := boxc hbn3
    have hb4 := Lib.hid (HB2.out.trans (hb3.mono (by rw [hz2]; omega)))
    clear x0 x1 x2 hbn hbn3 hb3 HB2 HN
    cases p with
    | false =>
      go_wp2_with fail
      exact bodyPost_ret (v := .tuple #[.agg #[.int .i64 0, .int .i64 0, .slice none 0 0], .bool false]) (by simp [results, Try.f47, go_sem, c0, c1, c2]) rfl ⟨hb4.out.trans (below_store3 (by omega) _ _ _), fun _ => rfl, fun h => by cases h⟩
    | true =>
      go_wp2_with fail
      exact bodyPost_ret (v := .tuple #[.agg #[.int .i64 1, .int .i64 x, .slice none 0 0], .bool true]) (by simp [results, Try.f47, go_sem, c0, c1, c2]) rfl ⟨hb4.out.trans (below_store3 (by omega) _ _ _), fun h => (by cases h), fun _ => ⟨none, 0, by rw [show (Tm.node t.k x []).k = 1 from HK.out]; rfl, .nl⟩⟩
  · have e1 : (t.k == 1) = false := by simpa using hk
    have HLF : Hid (∀ W : World, Calls Try.prog 58 #[.int .i64 t.k] W fun e w' => e = .returned (.bool (kidsI t.k == 0)) ∧ W = w') := fun W => leaf_any t.k W
    rw [if_neg hk, if_neg hk]
    by_cases hl0 : t.kids.length = 0
    · have hkz : (kidsI t.k == 0) = true := by simp; omega
      rw [hkz] at HLF
      rw [show mapL (shiftG by_ fr) t.kids t.k b 0 = [] by rw [List.eq_nil_of_length_eq_zero hl0]; rfl, show okL (shiftP by_ fr) t.kids t.k b 0 = true by rw [List.eq_nil_of_length_eq_zero hl0]; rfl]
      clear hb2' hA hA2 hb2 ih hC hcs f1 f2 f3 hl0 hk hkz hbn
      go_enter Try.func47, Try.ntmps47
      go_wp2_with fail
      refine (HLF.out _).mono ?_
      rintro e w3 ⟨rfl, rfl⟩
      go_wp2_with fail
      exact bodyPost_ret (v := .tuple #[.agg #[.int .i64 t.k, .int .i64 t.n, .slice none 0 0], .bool true]) (by simp [results, Try.f47, go_sem]) rfl ⟨((Below.refl _ w).alloc (Nat.le_refl _) _).alloc (by simp) _, fun h => (by cases h), fun _ => ⟨none, 0, rfl, .nl⟩⟩
    · have hkz : (kidsI t.k == 0) = false := by simp; omega
      rw [hkz] at HLF
      have hk3 : kidsI t.k ≤ 3 := kidsI_le t.k
      have hc0 : 0 < t.kids.length := by omega
      have hc3 : t.kids.length ≤ 3 := by omega
      have hmk := run_makeT t.kids.length (by omega)
      have hb3 := below_al ((w.alloc (.cells #[.int .i64 t.k, .int .i64 t.n, .slice a t.kids.length cap] 24)).alloc (.cells #[.int .i64 0, .int .i64 0, .slice none 0 0] 24)) (.cells (zerosC t.kids.length) 24)
      have hkr := krow_new ((w.alloc (.cells #[.int .i64 t.k, .int .i64 t.n, .slice a t.kids.length cap] 24)).alloc (.cells #[.int .i64 0, .int .i64 0, .slice none 0 0] 24)) t.kids.length (fun _ => .slice none 0 0)
      have HI0 : Hid (RenInvS by_ fr t b w a cap B1 B2 (.int .i64 0) (((w.alloc (.cells #[.int .i64 t.k, .int .i64 t.n, .slice a t.kids.length cap] 24)).alloc (.cells #[.int .i64 0, .int .i64 0, .slice none 0 0] 24)).alloc (.cells (zerosC t.kids.length) 24))) :=
        ⟨0, fun _ => .slice none 0 0, Nat.zero_le _, rfl, rfl, by rw [hz2] at hkr; exact hkr, fun i hi => absurd hi (Nat.not_lt_zero _), ⟨gcell hb3 x0, gcell hb3 x1, gcell hb3 x2⟩, (hb3.block _ (by rw [hz2]; omega)).trans hbn, hC _ (hb2.trans (hb3.mono (by rw [hz2]; omega))), hA2.alloc _, hb2.trans (hb3.mono (by rw [hz2]; omega)), by simp⟩
      have HCC : Hid (∀ W, Below w.heap.size w W → (W.cell? ⟨B1, 0, none⟩ = some (.int .i64 fr) ∧ W.cell? ⟨B2, 0, none⟩ = some (.int .i64 by_))) := hC
      have HA0 := Lib.hid hA
      have HIH : Hid (∀ u ∈ t.kids, RenOkS by_ fr u) := ih
      have HFL := Lib.hid f3
      have HN0 : Hid (t.n = 0) := by
        rw [if_neg hl0, decide_eq_true_eq] at f2
        exact f2
      have HDT := Lib.hid (depth_eq t)
      clear hb2' hA hA2 hb2 ih hC hcs f1 f2 f3 hl0 hk hkz hbn hb3 hkr hk3
      go_enter Try.func47, Try.ntmps47
      go_wp2_with fail
      refine (HLF.out _).mono ?_
      rintro e w3 ⟨rfl, rfl⟩
      go_wp2_with fail
      clear hmk x0 x1 x2 hz2 HLF
      go_loopw [49] (fun i wr => RenInvS by_ fr t b w a cap B1 B2 i wr) (fun i _ => t.kids.length - (RowKit.intOf i).toNat)
      case atStart => exact HI0.out
      case round =>
        obtain ⟨j, vs, hj, rfl, hok, hK, hats, ⟨x0, x1, x2⟩, hbn, hcs, hA, hbw, hsz⟩ := hrel
        clear HI0
        by_cases hlt : j < t.kids.length
        · obtain ⟨bk, ok, ck, vk, he, h1, h2, kk, kn, kv, ks⟩ := hA.pos (by omega)
          have gk := kk j hlt
          have gn := kn j hlt
          have gv := kv j hlt
          obtain ⟨au, cu, hvu⟩ := (ks j hlt).shape
          rw [hvu] at gv
          have hbr := bindsI_range t.k j
          have hdj : depth t.kids[j] ≤ depthL t.kids := depth_get hlt
          have hdt := HDT.out
          have hwb : IntKind.i64.wrap (b + bindsI t.k j) = b + bindsI t.k j := IntWalk.i64_in _ (by omega)
          have HC : Hid (∀ W, Below wr.heap.size wr W → Calls Try.prog 47 #[.agg #[.int .i64 t.kids[j].k, .int .i64 t.kids[j].n, .slice au t.kids[j].kids.length cu], .int .i64 (b + bindsI t.k j), .func (.func 48) #[] #[.pointer (some ⟨B1, 0, none⟩), .pointer (some ⟨B2, 0, none⟩)]] W (RenPost W (okT (shiftP by_ fr) t.kids[j] (b + bindsI t.k j)) (mapT (shiftG by_ fr) t.kids[j] (b + bindsI t.k j)))) := fun W hW =>
            HIH.out t.kids[j] (List.getElem_mem hlt) (formedL_mem HFL.out (List.getElem_mem hlt)) (b + bindsI t.k j) W (.slice au t.kids[j].kids.length cu) B1 B2 (by omega) (by omega) (⟨gcell hW hcs.1, gcell hW hcs.2⟩) (by rw [← hvu]; exact (ks j hlt).bel hW (Nat.le_refl _))
          have hd := okL_drop (shiftP by_ fr) hlt t.k b
          generalize hpj : okT (shiftP by_ fr) t.kids[j] (b + bindsI t.k j) = pj at HC hd
          generalize hgj : mapT (shiftG by_ fr) t.kids[j] (b + bindsI t.k j) = uj at HC
          have HGJ := Lib.hid hgj
          have HOK := Lib.hid (hok.trans hd)
          have HK := Lib.hid hK
          have HAT := Lib.hid hats
          have HBN := Lib.hid hbn
          have HCS := Lib.hid hcs
          have HA := Lib.hid hA
          have HBW := Lib.hid hbw
          cases he
          clear kk kn kv ks hvu hbr hdj hdt hd hpj hgj hok hK hats hbn hcs hA hbw
          have hlt0 : (0 : Int) ≤ (j : Int) := by omega
          have hlt1 : (j : Int) < (t.kids.length : Int) := by omega
          have hx3 := gcell (below_al wr (.cells #[.int .i64 t.kids[j].k, .int .i64 t.kids[j].n, .slice au t.kids[j].kids.length cu] 24)) x0
          have hb4 := below_al wr (.cells #[.int .i64 t.kids[j].k, .int .i64 t.kids[j].n, .slice au t.kids[j].kids.length cu] 24)
          obtain ⟨y0, y1, y2⟩ := (boxc (World.alloc_heap_new wr (.cells #[.int .i64 t.kids[j].k, .int .i64 t.kids[j].n, .slice au t.kids[j].kids.length cu] 24))).1
          have HD4 : Hid (∀ W, (W = (wr.alloc (.cells #[.int .i64 t.kids[j].k, .int .i64 t.kids[j].n, .slice au t.kids[j].kids.length cu] 24)).drew ∨ ∃ o, W = ((wr.alloc (.cells #[.int .i64 t.kids[j].k, .int .i64 t.kids[j].n, .slice au t.kids[j].kids.length cu] 24)).alloc o).drew) → Below wr.heap.size wr W ∧ W.cell? ⟨w.heap.size, 0, none⟩ = some (.int .i64 t.k) ∧ W.cell? ⟨wr.heap.size, 0, none⟩ = some (.int .i64 t.kids[j].k) ∧ W.cell? ⟨wr.heap.size, 1, none⟩ = some (.int .i64 t.kids[j].n) ∧ W.cell? ⟨wr.heap.size, 2, none⟩ = some (.slice au t.kids[j].kids.length cu)) := by
            have h0 : ∀ W, Below (wr.alloc (.cells #[.int .i64 t.kids[j].k, .int .i64 t.kids[j].n, .slice au t.kids[j].kids.length cu] 24)).heap.size (wr.alloc (.cells #[.int .i64 t.kids[j].k, .int .i64 t.kids[j].n, .slice au t.kids[j].kids.length cu] 24)) W → Below wr.heap.size wr W ∧ W.cell? ⟨w.heap.size, 0, none⟩ = some (.int .i64 t.k) ∧ W.cell? ⟨wr.heap.size, 0, none⟩ = some (.int .i64 t.kids[j].k) ∧ W.cell? ⟨wr.heap.size, 1, none⟩ = some (.int .i64 t.kids[j].n) ∧ W.cell? ⟨wr.heap.size, 2, none⟩ = some (.slice au t.kids[j].kids.length cu) := fun W hW => ⟨hb4.trans (hW.mono (by simp)), gcell hW hx3, gcell hW y0, gcell hW y1, gcell hW y2⟩
            rintro W (rfl | ⟨o, rfl⟩)
            · exact h0 _ (Below.refl _ _).drew
            · exact h0 _ (((Below.refl (wr.alloc (.cells #[.int .i64 t.kids[j].k, .int .i64 t.kids[j].n, .slice au t.kids[j].kids.length cu] 24)).heap.size (wr.alloc (.cells #[.int .i64 t.kids[j].k, .int .i64 t.kids[j].n, .slice au t.kids[j].kids.length cu] 24))).alloc (Nat.le_refl _) o).drew)
          have hzb := World.alloc_heap_new (wr.alloc (.cells #[.int .i64 t.kids[j].k, .int .i64 t.kids[j].n, .slice au t.kids[j].kids.length cu] 24)) (.cells #[.int .i64 0, .int .i64 0, .slice none 0 0] 24)
          rw [World.size_alloc] at hzb
          have HZB : Hid (((wr.alloc (.cells #[.int .i64 t.kids[j].k, .int .i64 t.kids[j].n, .slice au t.kids[j].kids.length cu] 24)).alloc (.cells #[.int .i64 0, .int .i64 0, .slice none 0 0] 24)).drew.heap[wr.heap.size + 1]? = some (.cells #[.int .i64 0, .int .i64 0, .slice none 0 0] 24 (0, 0))) := hzb
          clear hb4 hzb
          have HZ4 : Hid (∀ w4, Below (wr.alloc (.cells #[.int .i64 t.kids[j].k, .int .i64 t.kids[j].n, .slice au t.kids[j].kids.length cu] 24)).drew.heap.size (wr.alloc (.cells #[.int .i64 t.kids[j].k, .int .i64 t.kids[j].n, .slice au t.kids[j].kids.length cu] 24)).drew w4 → wr.heap.size + 1 ≤ w4.heap.size ∧ ¬ (w.heap.size = w4.heap.size) ∧ ¬ (wr.heap.size = w4.heap.size)) := fun w4 hw4 => by
            have h0 : (wr.alloc (.cells #[.int .i64 t.kids[j].k, .int .i64 t.kids[j].n, .slice au t.kids[j].kids.length cu] 24)).drew.heap.size = wr.heap.size + 1 := by show (wr.alloc _).heap.size = _; simp
            have h1 := hw4.size
            rw [h0] at h1
            exact ⟨h1, by omega, by omega⟩
          have hq1 : ¬ (w.heap.size = wr.heap.size + 1) := by omega
          have hq0 : ¬ (wr.heap.size + 1 = w.heap.size) := by omega
          go_wp2_with fail
          cases pj with
          | false =>
            go_region_held3 (fun w' => w'.cell? ⟨w.heap.size, 0, none⟩ = some (.int .i64 t.k) ∧ w'.cell? ⟨wr.heap.size, 0, none⟩ = some (.int .i64 t.kids[j].k) ∧ w'.cell? ⟨wr.heap.size, 1, none⟩ = some (.int .i64 t.kids[j].n) ∧ w'.cell? ⟨wr.heap.size, 2, none⟩ = some (.slice au t.kids[j].kids.length cu)) (go_keep)
              (first | (go_at_call 54; refine (binds_any _ _ _).mono ?_; rintro e w' ⟨rfl, rfl⟩) | (go_at_call 47; obtain ⟨z3, z4, z5, z6, z7⟩ := HD4.out _ (.inl rfl); refine (HC.out _ z3).mono ?_; rintro e w4 ⟨hb5, hno, hso⟩; obtain ⟨hq4, hq2, hq3⟩ := HZ4.out _ hb5; replace z4 := gcell hb5 z4; replace z5 := gcell hb5 z5; replace z6 := gcell hb5 z6; replace z7 := gcell hb5 z7; obtain rfl := hno rfl) | (go_at_call 47; obtain ⟨z3, z4, z5, z6, z7⟩ := HD4.out _ (.inr ⟨_, rfl⟩); refine (HC.out _ z3).mono ?_; rintro e w4 ⟨hb5, hno, hso⟩; obtain ⟨⟨n0, n1, n2⟩, p0, p1, p2⟩ := boxc ((hb5.block (wr.heap.size + 1) (by show _ < ((wr.alloc _).alloc _).heap.size; simp)).trans HZB.out); replace z4 := gcell hb5 z4; replace z5 := gcell hb5 z5; replace z6 := gcell hb5 z6; replace z7 := gcell hb5 z7; obtain rfl := hno rfl))
            all_goals
              have hz4 := Nat.le_trans z3.size hb5.size
              first
                | (have hb6 := ((z3.trans (hb5.mono z3.size)).alloc hz4 (.cells #[.int .i64 0, .int .i64 0, .slice none 0 0] 24)); obtain ⟨w5, hw5⟩ : ∃ w5, w5 = w4.alloc (.cells #[.int .i64 0, .int .i64 0, .slice none 0 0] 24) := ⟨_, rfl⟩; rw [← hw5] at hb6 ⊢)
                | (have hb6 := (z3.trans (hb5.mono z3.size)).trans (below_store3 (W := w4) (B := wr.heap.size + 1) (Nat.le_succ _) (.int .i64 0) (.int .i64 0) (.slice none 0 0)); obtain ⟨w5, hw5⟩ : ∃ w5, w5 = (((w4.setCell ⟨wr.heap.size + 1, 0, none⟩ (.int .i64 0)).setCell ⟨wr.heap.size + 1, 1, none⟩ (.int .i64 0)).setCell ⟨wr.heap.size + 1, 2, none⟩ (.slice none 0 0)) := ⟨_, rfl⟩; rw [← hw5] at hb6 ⊢)
              have HB6 := Lib.hid hb6
              obtain ⟨⟨c0, c1, c2⟩, g0, g1, g2⟩ := boxc ((hb6.block (w.heap.size + 1) (by omega)).trans HBN.out)
              have HB7 := Lib.hid (HBW.out.trans (hb6.mono HBW.out.size))
              have HOF := Lib.hid (HOK.out.trans (Bool.false_and _))
              clear hw5 hb5 hb6 z3 z4 z5 z6 z7
              go_wp2_with fail
              refine bodyPost_ret (v := .tuple #[.agg #[.int .i64 0, .int .i64 0, .slice none 0 0], .bool false]) (by simp [results, Try.f47, go_sem, c0, c1, c2]) rfl ?_
              rw [HOF.out]
              exact ⟨HB7.out.trans (below_store3 (by omega) _ _ _), fun _ => rfl, fun h => (by cases h)⟩
          | true =>
            go_region_held3 (fun w' => w'.cell? ⟨w.heap.size, 0, none⟩ = some (.int .i64 t.k) ∧ w'.cell? ⟨wr.heap.size, 0, none⟩ = some (.int .i64 t.kids[j].k) ∧ w'.cell? ⟨wr.heap.size, 1, none⟩ = some (.int .i64 t.kids[j].n) ∧ w'.cell? ⟨wr.heap.size, 2, none⟩ = some (.slice au t.kids[j].kids.length cu)) (go_keep)
              (first | (go_at_call 54; refine (binds_any _ _ _).mono ?_; rintro e w' ⟨rfl, rfl⟩) | (go_at_call 47; obtain ⟨z3, z4, z5, z6, z7⟩ := HD4.out _ (.inl rfl); refine (HC.out _ z3).mono ?_; rintro e w4 ⟨hb5, hno, hso⟩; obtain ⟨hq4, hq2, hq3⟩ := HZ4.out _ hb5; replace z4 := gcell hb5 z4; replace z5 := gcell hb5 z5; replace z6 := gcell hb5 z6; replace z7 := gcell hb5 z7; obtain ⟨a4, c4, rfl, hK4⟩ := hso rfl) | (go_at_call 47; obtain ⟨z3, z4, z5, z6, z7⟩ := HD4.out _ (.inr ⟨_, rfl⟩); refine (HC.out _ z3).mono ?_; rintro e w4 ⟨hb5, hno, hso⟩; obtain ⟨⟨n0, n1, n2⟩, p0, p1, p2⟩ := boxc ((hb5.block (wr.heap.size + 1) (by show _ < ((wr.alloc _).alloc _).heap.size; simp)).trans HZB.out); replace z4 := gcell hb5 z4; replace z5 := gcell hb5 z5; replace z6 := gcell hb5 z6; replace z7 := gcell hb5 z7; obtain ⟨a4, c4, rfl, hK4⟩ := hso rfl))
            all_goals
              have hz4 := Nat.le_trans z3.size hb5.size
              have hza : (wr.alloc (.cells #[.int .i64 t.kids[j].k, .int .i64 t.kids[j].n, .slice au t.kids[j].kids.length cu] 24)).drew.heap.size = wr.heap.size + 1 := by show (wr.alloc _).heap.size = _; simp
              have hzb2 : ((wr.alloc (.cells #[.int .i64 t.kids[j].k, .int .i64 t.kids[j].n, .slice au t.kids[j].kids.length cu] 24)).alloc (.cells #[.int .i64 0, .int .i64 0, .slice none 0 0] 24)).drew.heap.size = wr.heap.size + 2 := by show ((wr.alloc _).alloc _).heap.size = _; simp
              have hz5 := hb5.size
              first
                | (have hb6 := ((z3.trans (hb5.mono z3.size)).alloc hz4 (.cells #[.int .i64 uj.k, .int .i64 uj.n, .slice a4 uj.kids.length c4] 24)); have hK5 := hK4.same (T := fun b => wr.heap.size + 1 ≤ b ∧ b < (w4.alloc (.cells #[.int .i64 uj.k, .int .i64 uj.n, .slice a4 uj.kids.length c4] 24)).heap.size) (w' := w4.alloc (.cells #[.int .i64 uj.k, .int .i64 uj.n, .slice a4 uj.kids.length c4] 24)) (fun b hb => ⟨⟨by rw [hza] at hb; omega, by simp; omega⟩, Below.heap_alloc w4 _ b hb.2⟩); have hn5 := World.alloc_heap_new w4 (.cells #[.int .i64 uj.k, .int .i64 uj.n, .slice a4 uj.kids.length c4] 24); obtain ⟨w5, hw5⟩ : ∃ w5, w5 = w4.alloc (.cells #[.int .i64 uj.k, .int .i64 uj.n, .slice a4 uj.kids.length c4] 24) := ⟨_, rfl⟩; rw [← hw5] at hb6 hK5 hn5 ⊢; obtain ⟨B5, hB5, hB6⟩ : ∃ B5, B5 = w4.heap.size ∧ wr.heap.size ≤ B5 := ⟨_, rfl, hz4⟩; rw [← hB5] at hn5 ⊢)
                | (have hst := below_store3 (W := w4) (B := wr.heap.size + 1) (Nat.le_succ _) (.int .i64 uj.k) (.int .i64 uj.n) (.slice a4 uj.kids.length c4); have hb6 := (z3.trans (hb5.mono z3.size)).trans hst; have hK5 := hK4.same (T := fun b => wr.heap.size + 1 ≤ b ∧ b < (((w4.setCell ⟨wr.heap.size + 1, 0, none⟩ (.int .i64 uj.k)).setCell ⟨wr.heap.size + 1, 1, none⟩ (.int .i64 uj.n)).setCell ⟨wr.heap.size + 1, 2, none⟩ (.slice a4 uj.kids.length c4)).heap.size) (w' := (((w4.setCell ⟨wr.heap.size + 1, 0, none⟩ (.int .i64 uj.k)).setCell ⟨wr.heap.size + 1, 1, none⟩ (.int .i64 uj.n)).setCell ⟨wr.heap.size + 1, 2, none⟩ (.slice a4 uj.kids.length c4))) (fun b hb => ⟨⟨by rw [hzb2] at hb; omega, by have := hst.size; omega⟩, other_store3 (by rw [hzb2] at hb; omega) _ _ _⟩); have hn5 := box_store3 ((hb5.block (wr.heap.size + 1) (by rw [hzb2]; omega)).trans HZB.out) (.int .i64 uj.k) (.int .i64 uj.n) (.slice a4 uj.kids.length c4); obtain ⟨w5, hw5⟩ : ∃ w5, w5 = (((w4.setCell ⟨wr.heap.size + 1, 0, none⟩ (.int .i64 uj.k)).setCell ⟨wr.heap.size + 1, 1, none⟩ (.int .i64 uj.n)).setCell ⟨wr.heap.size + 1, 2, none⟩ (.slice a4 uj.kids.length c4)) := ⟨_, rfl⟩; rw [← hw5] at hb6 hK5 hn5 ⊢; obtain ⟨B5, hB5, hB6⟩ : ∃ B5, B5 = wr.heap.size + 1 ∧ wr.heap.size ≤ B5 := ⟨_, rfl, Nat.le_succ _⟩; rw [← hB5] at hn5 ⊢)
              have HB6 := Lib.hid hb6
              have HK5 := Lib.hid hK5
              have hzw5 := hb6.size
              obtain ⟨⟨c0, c1, c2⟩, g0, g1, g2⟩ := boxc hn5
              have HKR := Lib.hid (HK.out.same (w' := w5) (hb6.block (w.heap.size + 2) (by omega)))
              obtain ⟨⟨s0, s1, s2, q0, q1, q2⟩, r0, r1, r2⟩ := HKR.out.slots hlt
              clear hw5 hB5 hK5 hb5 hb6 z3 z4 z5 z6 z7 hn5 hK4 hno hso HC
              go_wp2_with fail
              go_roundw
              case rel =>
                have := renStepS by_ fr hlt HKR.out HAT.out HK5.out HGJ.out HOK.out x0 x1 x2 HBN.out HCC.out HA0.out HBW.out HB6.out hsz
                rwa [show ((j + 1 : Nat) : Int) = (j : Int) + 1 by omega] at this
              case measure => simp [RowKit.intOf]; omega
        · obtain rfl : j = t.kids.length := by omega
          have hlt1 : decide ((t.kids.length : Int) < (t.kids.length : Int)) = false := by simp
          rw [List.take_length] at hK hats
          rw [okL_end] at hok
          have HK := Lib.hid hK
          have HAT := Lib.hid hats
          have HOK := Lib.hid hok
          have HBW := Lib.hid hbw
          obtain ⟨⟨c0, c1, c2⟩, g0, g1, g2⟩ := boxc hbn
          clear hK hats hok hbw hbn hcs hA hlt hj
          go_wp2_with fail
          refine bodyPost_ret (v := .tuple #[.agg #[.int .i64 t.k, .int .i64 0, .slice (some ⟨w.heap.size + 2, 0, none⟩) t.kids.length t.kids.length], .bool true]) (by simp [results, Try.f47, go_sem, c0, c1, c2]) rfl ?_
          rw [HOK.out]
          have hLl : (mapL (shiftG by_ fr) t.kids t.k b 0).length = t.kids.length := mapL_length _ _ _ _ _
          refine ⟨HBW.out.trans (below_store3 (by omega) _ _ _), fun h => (by cases h), fun _ => ⟨some ⟨w.heap.size + 2, 0, none⟩, t.kids.length, ?_, ?_⟩⟩
          · show _ = Ending.returned (.tuple #[.agg #[.int .i64 t.k, .int .i64 t.n, .slice (some ⟨w.heap.size + 2, 0, none⟩) (mapL (shiftG by_ fr) t.kids t.k b 0).length t.kids.length], .bool true])
            rw [HN0.out, hLl]
          · show AtK _ _ (mapL (shiftG by_ fr) t.kids t.k b 0) (.slice (some ⟨w.heap.size + 2, 0, none⟩) (mapL (shiftG by_ fr) t.kids t.k b 0).length t.kids.length)
            have hKF := HK.out.same (w' := ((wr.setCell ⟨w.heap.size + 1, 0, none⟩ (.int .i64 t.k)).setCell ⟨w.heap.size + 1, 1, none⟩ (.int .i64 0)).setCell ⟨w.heap.size + 1, 2, none⟩ (.slice (some ⟨w.heap.size + 2, 0, none⟩) t.kids.length t.kids.length)) (other_store3 (by omega) _ _ _)
            rw [← hLl] at hKF
            have hR := AtK.row (S := fun b => w.heap.size ≤ b ∧ b < (((wr.setCell ⟨w.heap.size + 1, 0, none⟩ (.int .i64 t.k)).setCell ⟨w.heap.size + 1, 1, none⟩ (.int .i64 0)).setCell ⟨w.heap.size + 1, 2, none⟩ (.slice (some ⟨w.heap.size + 2, 0, none⟩) t.kids.length t.kids.length)).heap.size) (mapL (shiftG by_ fr) t.kids t.k b 0) (w.heap.size + 2) vs ⟨by omega, by simp; omega⟩ (by rw [hLl] at hKF ⊢; exact hKF) (by unfold maxLen; omega) fun i hi => (HAT.out i (by omega) _ (List.getElem?_eq_getElem hi)).same fun b' hb' => ⟨⟨by omega, by simp; omega⟩, other_store3 (by omega) _ _ _⟩
            rw [hLl] at hR ⊢
            exact hR
end Go.Proofs.Ytbfefpejcefnhaa
