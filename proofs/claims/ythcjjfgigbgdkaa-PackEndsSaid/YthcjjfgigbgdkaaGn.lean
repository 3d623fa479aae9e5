/- Package pack's reader: inner, by what term does. -/
import Derived.Test.YthcjjfgigbgdkaaGr
import Derived.Laws.MakeOwn
namespace Go.Proofs.Ythcjjfgigbgdkaa
open Go.RowKit Go Go.Joins
set_option linter.unusedVariables false

def TermOkR (g : List Int → Nat → Got) (d : Int) : Prop := ∀ (rb D : Nat) (l : List Int) (n : Nat) (w : World), ByteL l → D ≤ w.heap.size → rb < D → Rdr rb D l n w → l.length ≤ 1099511627776 → n ≤ 6000 →
    Calls Try.prog 64 #[.pointer (some ⟨rb, 0, none⟩), .int .i64 d] w (GotE rb D w (g l n))

/-- A block of c terms, the first of which are known. -/
def KRow (c : Nat) (B : Nat) (L : List Tm) (vs : Nat → Value) (w : World) : Prop := ∃ cs : Array Value, w.heap[B]? = some (.cells cs 24 (0, 0)) ∧ cs.size = c * 3 ∧
  ∀ i (_ : i < L.length), cs[i * 3]? = some (.int .i64 L[i].k) ∧ cs[i * 3 + 1]? = some (.int .i64 L[i].n) ∧ cs[i * 3 + 2]? = some (vs i)
theorem KRow.same {c B : Nat} {L : List Tm} {vs : Nat → Value} {w w' : World} (h : KRow c B L vs w) (hb : w'.heap[B]? = w.heap[B]?) : KRow c B L vs w' := by
  obtain ⟨cs, h1, h2⟩ := h
  exact ⟨cs, hb.trans h1, h2⟩
theorem KRow.slots {c B : Nat} {L : List Tm} {vs : Nat → Value} {w : World} (h : KRow c B L vs w) {j : Nat} (hj : j < c) :
    (∃ x y z, w.cell? ⟨B, j * 3, none⟩ = some x ∧ w.cell? ⟨B, j * 3 + 1, none⟩ = some y ∧ w.cell? ⟨B, j * 3 + 2, none⟩ = some z) ∧ w.frozen? ⟨B, j * 3, none⟩ = false ∧ w.frozen? ⟨B, j * 3 + 1, none⟩ = false ∧ w.frozen? ⟨B, j * 3 + 2, none⟩ = false := by
  obtain ⟨cs, h1, h2, _⟩ := h
  refine ⟨⟨cs[j * 3]'(by omega), cs[j * 3 + 1]'(by omega), cs[j * 3 + 2]'(by omega), ?_, ?_, ?_⟩, ?_, ?_, ?_⟩
  all_goals first
    | (simp [World.frozen?, h1]; done)
    | (simp only [World.cell?, h1]; simp [*]; done)
    | (simp [World.cell?, h1]; omega)
theorem row_store3 {W : World} {B : Nat} {ty : TypeId} {cs : Array Value} (h : W.heap[B]? = some (.cells cs ty (0, 0))) (o : Nat) (x y z : Value) :
    (((W.setCell ⟨B, o, none⟩ x).setCell ⟨B, o + 1, none⟩ y).setCell ⟨B, o + 2, none⟩ z).heap[B]? = some (.cells (((cs.setIfInBounds o x).setIfInBounds (o + 1) y).setIfInBounds (o + 2) z) ty (0, 0)) := by
  have h1 := heap_setCell_same W B o cs ty x h
  have h2 := heap_setCell_same _ B (o + 1) _ ty y h1
  exact heap_setCell_same _ B (o + 2) _ ty z h2
theorem other_row3 {W : World} {B o b : Nat} (hb : b ≠ B) (x' y' z' : Value) : (((W.setCell ⟨B, o, none⟩ x').setCell ⟨B, o + 1, none⟩ y').setCell ⟨B, o + 2, none⟩ z').heap[b]? = W.heap[b]? := by
  rw [Below.heap_setCell _ _ _ _ hb, Below.heap_setCell _ _ _ _ hb, Below.heap_setCell _ _ _ _ hb]
theorem below_row3 {W : World} {B D o : Nat} (hD : D ≤ B) (x' y' z' : Value) : Below D W (((W.setCell ⟨B, o, none⟩ x').setCell ⟨B, o + 1, none⟩ y').setCell ⟨B, o + 2, none⟩ z') :=
  (((Below.refl D W).setCell (p := ⟨B, o, none⟩) hD x').setCell (p := ⟨B, o + 1, none⟩) hD y').setCell (p := ⟨B, o + 2, none⟩) hD z'
theorem KRow.put {c B : Nat} {L : List Tm} {vs : Nat → Value} {w : World} (h : KRow c B L vs w) (hj : L.length < c) (t : Tm) (v : Value) :
    KRow c B (L ++ [t]) (fun i => if i < L.length then vs i else v) (((w.setCell ⟨B, L.length * 3, none⟩ (.int .i64 t.k)).setCell ⟨B, L.length * 3 + 1, none⟩ (.int .i64 t.n)).setCell ⟨B, L.length * 3 + 2, none⟩ v) := by
  obtain ⟨cs, h1, h2, h3⟩ := h
  refine ⟨_, row_store3 h1 _ _ _ _, by simpa using h2, fun i hi => ?_⟩
  simp only [List.length_append, List.length_singleton] at hi
  by_cases hil : i < L.length
  · obtain ⟨a1, a2, a3⟩ := h3 i hil
    simp only [if_pos hil]
    rw [List.getElem_append_left hil]
    refine ⟨?_, ?_, ?_⟩
    · rw [Array.getElem?_setIfInBounds_ne (by omega), Array.getElem?_setIfInBounds_ne (by omega), Array.getElem?_setIfInBounds_ne (by omega)]; exact a1
    · rw [Array.getElem?_setIfInBounds_ne (by omega), Array.getElem?_setIfInBounds_ne (by omega), Array.getElem?_setIfInBounds_ne (by omega)]; exact a2
    · rw [Array.getElem?_setIfInBounds_ne (by omega), Array.getElem?_setIfInBounds_ne (by omega), Array.getElem?_setIfInBounds_ne (by omega)]; exact a3
  · obtain rfl : i = L.length := by omega
    rw [List.getElem_append_right (Nat.le_refl _)]
    simp only [if_neg hil, Nat.sub_self, List.getElem_singleton]
    refine ⟨?_, ?_, ?_⟩
    · rw [Array.getElem?_setIfInBounds_ne (by omega), Array.getElem?_setIfInBounds_ne (by omega), Array.getElem?_setIfInBounds_self_of_lt (by omega)]
    · rw [Array.getElem?_setIfInBounds_ne (by omega), Array.getElem?_setIfInBounds_self_of_lt (by simp; omega)]
    · rw [Array.getElem?_setIfInBounds_self_of_lt (by simp; omega)]
theorem KRow.ats {S : Nat → Prop} {c B : Nat} {L : List Tm} {vs : Nat → Value} {w : World} (h : KRow c B L vs w) (hL : L.length = c) (hc : c ≤ maxLen) (hS : S B) (hs : ∀ i (h : i < L.length), AtS S w L[i].kids (vs i)) : AtS S w L (.slice (some ⟨B, 0, none⟩) c c) := by
  obtain ⟨cs, h1, h2, h3⟩ := h
  subst hL
  refine .row L B 0 L.length vs (fun _ => hS) (Nat.le_refl _) hc (fun i hi => ?_) (fun i hi => ?_) (fun i hi => ?_) hs
  · rw [Nat.zero_add]; simp [World.cell?, h1, (h3 i hi).1]
  · rw [Nat.zero_add]; simp [World.cell?, h1, (h3 i hi).2.1]
  · rw [Nat.zero_add]; simp [World.cell?, h1, (h3 i hi).2.2]
/-- What the Kids that are left make of those that were read. -/
def moreP (L : List Tm) : Option (List Tm × List Int × Nat) → Option (List Tm × List Int × Nat) | none => none | some (l, r, n) => some (L ++ l, r, n)
theorem moreP_none {g : List Int → Nat → Got} {c : Nat} {r : List Int} {n : Nat} {L : List Tm} (h : g r n = none) : moreP L (kidsP g (c + 1) r n) = none := by rw [kidsP, h]; rfl
theorem moreP_some {g : List Int → Nat → Got} {c : Nat} {r r1 : List Int} {n n1 : Nat} {L : List Tm} {t : Tm} (h : g r n = some (t, r1, n1)) : moreP L (kidsP g (c + 1) r n) = moreP (L ++ [t]) (kidsP g c r1 n1) := by
  rw [kidsP, h]
  simp only
  cases kidsP g c r1 n1 with
  | none => rfl
  | some y => obtain ⟨l, r2, n2⟩ := y; simp [moreP]
def KInv (g : List Int → Nat → Got) (rb D c : Nat) (res : Option (List Tm × List Int × Nat)) (w : World) (i : Value) (wr : World) : Prop := ∃ (L : List Tm) (r : List Int) (n : Nat) (vs : Nat → Value), L.length ≤ c ∧ i = .int .i64 (L.length : Nat) ∧
  moreP L (kidsP g (c - L.length) r n) = res ∧ ByteL r ∧ r.length ≤ 1099511627776 ∧ n ≤ 6000 ∧ Rdr rb D r n wr ∧ KRow c (w.heap.size + 1) L vs wr ∧ (∀ i (_ : i < L.length), AtS (fun b => w.heap.size + 2 ≤ b ∧ b < wr.heap.size) wr L[i].kids (vs i)) ∧ KeepR rb w wr ∧
  w.heap.size + 2 ≤ wr.heap.size ∧ wr.heap[w.heap.size]? = some (.cells #[.int .i64 0, .int .i64 0, .slice none 0 0] 24 (0, 0))
def zerosC (c : Nat) : Array Value := madeCells (Value.agg #[.int .i64 0, .int .i64 0, .slice none 0 0]).cells (c * 3)
theorem run_makeT (c : Nat) (hc : c ≤ 1099511627776) (w : World) : (Instr.makeSlice 22 (.int .i64 (c : Int)) (.int .i64 (c : Int))).run Try.prog w = .ok (.slice (some ⟨w.heap.size, 0, none⟩) c c) (w.alloc (.cells (zerosC c) 24)) := by
  obtain ⟨i0, hi, hz0, hz1, hz2⟩ := info_parts Try.infoT
  have := run_make (P := Try.prog) w 22 24 i0 _ Try.underlying22 hi hz0 .i64 .i64 (c : Int) (c : Int) (by omega) (Int.le_refl _) (by rw [hz2]; omega) (by omega)
  rw [hz1] at this
  exact this
theorem krow_new (w : World) (c : Nat) (vs : Nat → Value) : KRow c w.heap.size [] vs (w.alloc (.cells (zerosC c) 24)) :=
  ⟨zerosC c, World.alloc_heap_new w _, size_madeCells _ _, fun i hi => absurd hi (Nat.not_lt_zero _)⟩

set_option maxRecDepth 100000 in
set_option maxHeartbeats 1600000 in
theorem innerr_any (g : List Int → Nat → Got) (hg : ∀ r n t r' n', ByteL r → g r n = some (t, r', n') → ByteL r' ∧ r'.length ≤ r.length ∧ n' ≤ n) (d : Int) (hd1 : 1 ≤ d) (hd2 : d ≤ 200) (HT : TermOkR g (d + 1)) : InnerOk g d := by
  intro rb D l n k w hb hk0 hk1 hD hrb hR hl hn
  have hR1 : Rdr rb D l n (w.alloc (.cells #[.int .i64 0, .int .i64 0, .slice none 0 0] 24)) := hR.same hrb fun b hb => Below.heap_alloc w _ b (by omega)
  have HBX := Lib.hid (World.alloc_heap_new w (.cells #[.int .i64 0, .int .i64 0, .slice none 0 0] 24))
  have HK0 : Hid (KeepR rb w (w.alloc (.cells #[.int .i64 0, .int .i64 0, .slice none 0 0] 24))) := KeepR.of (below_al w _)
  have HTT := Lib.hid HT
  have HGG := Lib.hid hg
  generalize hres : innerP g k l n = R
  have HR := Lib.hid hres
  clear hR hres HT hg
  by_cases hneg : kidsI k < 0
  · have HP : Hid (R = none) := by show _ = _; rw [← HR.out, innerP, if_pos hneg]
    obtain ⟨x, hx⟩ : ∃ x : Int, kidsI k = x := ⟨_, rfl⟩
    have HL : Hid (∀ W : World, Calls Try.prog 35 #[.int .i64 k] W fun e w' => e = .returned (.int .i64 x) ∧ W = w') := fun W => by
      have := kids_any k W
      rwa [hx] at this
    rw [hx] at hneg
    clear hx hR1
    go_enter Try.func73, Try.ntmps73
    go_wp2_with fail
    obtain ⟨⟨x0, x1, x2⟩, y0, y1, y2⟩ := boxc HBX.out
    refine (HL.out _).mono ?_
    rintro e w' ⟨rfl, rfl⟩
    go_wp2_with fail
    exact bodyPost_ret (v := .tuple #[.agg #[.int .i64 0, .int .i64 0, .slice none 0 0], .bool false]) (by simp [results, Try.f73, go_sem, x0, x1, x2]) rfl (by rw [HP.out]; exact GotE.none HK0.out)
  · obtain ⟨c, hc⟩ : ∃ c : Nat, kidsI k = c := ⟨(kidsI k).toNat, by omega⟩
    have hc3 : c ≤ 3 := by
      have : kidsI k ≤ 3 := by
        unfold kidsI
        split
        · omega
        · split
          · omega
          · split
            · omega
            · split <;> omega
      omega
    have HS : Hid (R = match kidsP g c l n with | none => none | some (l, r2, n2) => some (.node k 0 l, r2, n2)) := by
      show _ = _
      rw [← HR.out, innerP, if_neg hneg, hc]
      rfl
    have HL : Hid (∀ W : World, Calls Try.prog 35 #[.int .i64 k] W fun e w' => e = .returned (.int .i64 c) ∧ W = w') := fun W => by
      have := kids_any k W
      rwa [hc] at this
    have e1 : decide ((c : Int) < 0) = false := decide_eq_false (by omega)
    have hmk := run_makeT c (by omega)
    generalize hres2 : kidsP g c l n = R2 at HS
    have HR2 := Lib.hid hres2
    clear hc hneg HR hres2
    have HI0 : Hid (∀ w2, w2 = (w.alloc (.cells #[.int .i64 0, .int .i64 0, .slice none 0 0] 24)).alloc (.cells (zerosC c) 24) → KInv g rb D c R2 w (.int .i64 0) w2) := by
      intro w2 hw2
      have hkr := krow_new (w.alloc (.cells #[.int .i64 0, .int .i64 0, .slice none 0 0] 24)) c (fun _ => .slice none 0 0)
      rw [← hw2, World.size_alloc] at hkr
      have hb2 : Below (w.heap.size + 1) (w.alloc (.cells #[.int .i64 0, .int .i64 0, .slice none 0 0] 24)) w2 := by
        have := below_al (w.alloc (.cells #[.int .i64 0, .int .i64 0, .slice none 0 0] 24)) (.cells (zerosC c) 24)
        rw [← hw2, World.size_alloc] at this
        exact this
      refine ⟨[], l, n, fun _ => .slice none 0 0, Nat.zero_le _, rfl, ?_, hb, hl, hn, hR1.same hrb fun b hb => hb2.block b (by omega), hkr, fun i hi => absurd hi (Nat.not_lt_zero _), HK0.out.trans' (hb2.mono (by omega)), by rw [hw2]; simp, (hb2.block _ (by omega)).trans HBX.out⟩
      rw [show c - ([] : List Tm).length = c from rfl, HR2.out]
      cases R2 with
      | none => rfl
      | some y => rfl
    clear hb hR1 HR2
    go_enter Try.func73, Try.ntmps73
    go_wp2_with fail
    refine (HL.out _).mono ?_
    rintro e w' ⟨rfl, rfl⟩
    go_wp2_with fail
    clear hmk e1
    go_loopw [22] (fun i wr => KInv g rb D c R2 w i wr) (fun i _ => c - (RowKit.intOf i).toNat)
    case atStart => exact HI0.out _ rfl
    case round =>
      obtain ⟨L, r, n1, vs, hLc, rfl, hmore, hb, hl1, hn1, hR, hK, hA, hk, hsz, hbx⟩ := hrel
      by_cases hlt : L.length < c
      · obtain ⟨m, hm⟩ : ∃ m, c - L.length = m + 1 := ⟨c - L.length - 1, by omega⟩
        rw [hm] at hmore
        have HC := Lib.hid (HTT.out rb D r n1 wr hb (by have := hk.1; omega) hrb hR hl1 hn1)
        have hi1 : (L.length : Int) < (c : Int) := by omega
        have hi0 : (0 : Int) ≤ (L.length : Int) := by omega
        have HM := Lib.hid hmore
        have HB := Lib.hid hb
        have HK := Lib.hid hK
        have HA := Lib.hid hA
        have HKK := Lib.hid hk
        have HBW := Lib.hid hbx
        have HM1 := Lib.hid hm
        clear hmore hb hR hK hA hk hbx hm
        go_wp2_with fail
        refine HC.out.mono ?_
        rintro e w4 ⟨hk4, hno, hso⟩
        have hsz4 := hk4.1
        have HK4 := Lib.hid (HKK.out.trans hk4)
        have HBX4 := Lib.hid ((hk4.2.2.2.2 w.heap.size (by omega) (by omega)).trans HBW.out)
        have HBX5 := fun o => Lib.hid ((Below.heap_alloc w4 o w.heap.size (by omega)).trans HBX4.out)
        cases hr : g r n1 with
        | none =>
          obtain rfl := hno hr
          have HP : Hid (R = none) := by show _ = _; rw [HS.out, ← HM.out, moreP_none hr]
          clear hk4 hno hso hr HC
          obtain ⟨⟨x0, x1, x2⟩, y0, y1, y2⟩ := boxc (HBX5 (.cells #[.int .i64 0, .int .i64 0, .slice none 0 0] 24)).out
          clear HBX5
          go_wp2_with fail
          exact bodyPost_ret (v := .tuple #[.agg #[.int .i64 0, .int .i64 0, .slice none 0 0], .bool false]) (by simp [results, Try.f73, go_sem, x0, x1, x2]) rfl (by rw [HP.out]; exact GotE.none ((HK4.out.trans (KeepR.of (below_al w4 _))).trans' (below_store3 (Nat.le_refl _) _ _ _)))
        | some y =>
          obtain ⟨t, r', n'⟩ := y
          obtain ⟨v4, rfl, hA4, hR4⟩ := hso t r' n' hr
          obtain ⟨a4, c4, rfl⟩ := hA4.at.shape
          obtain ⟨g1, g2, g3⟩ := HGG.out _ _ _ _ _ HB.out hr
          have HM2 : Hid (moreP (L ++ [t]) (kidsP g (c - (L ++ [t]).length) r' n') = R2) := by
            show _ = _
            have h5 := HM1.out
            rw [← HM.out, moreP_some hr, List.length_append, List.length_singleton, show c - (L.length + 1) = m by omega]
          have HA4 := Lib.hid hA4
          have HR4 := Lib.hid hR4
          have HG := Lib.hid (And.intro g1 (And.intro g2 g3))
          have HK5 := Lib.hid (HK.out.same (w' := w4.alloc (.cells #[.int .i64 t.k, .int .i64 t.n, .slice a4 t.kids.length c4] 24)) ((Below.heap_alloc w4 _ _ (by omega)).trans (hk4.2.2.2.2 (w.heap.size + 1) (by omega) (by omega))))
          obtain ⟨⟨s0, s1, s2, q0, q1, q2⟩, z0, z1, z2⟩ := HK5.out.slots hlt
          have HO4 : Hid (∀ b, w.heap.size + 2 ≤ b → b < wr.heap.size → w4.heap[b]? = wr.heap[b]?) := fun b h1 h2 => hk4.2.2.2.2 b h2 (by omega)
          clear hk4 hno hso hr HC hA4 hR4 g1 g2 g3 HBX5 HM HM1
          go_wp2_with fail
          go_roundw
          case rel =>
            have hsw : w.heap.size + 2 ≤ w4.heap.size := by omega
            have hoth : ∀ b, b < w4.heap.size → b ≠ w.heap.size + 1 → ((((w4.alloc (.cells #[.int .i64 t.k, .int .i64 t.n, .slice a4 t.kids.length c4] 24)).setCell ⟨w.heap.size + 1, L.length * 3, none⟩ (.int .i64 t.k)).setCell ⟨w.heap.size + 1, L.length * 3 + 1, none⟩ (.int .i64 t.n)).setCell ⟨w.heap.size + 1, L.length * 3 + 2, none⟩ (.slice a4 t.kids.length c4)).heap[b]? = w4.heap[b]? := fun b h1 h2 =>
              (other_row3 h2 _ _ _).trans (Below.heap_alloc w4 _ b h1)
            refine ⟨L ++ [t], r', n', _, by simp; omega, by rw [List.length_append, List.length_singleton]; go_num, HM2.out, HG.out.1, by have := HG.out.2.1; omega, by have := HG.out.2.2; omega, HR4.out.same hrb fun b hb => hoth b (by omega) (by omega), HK5.out.put hlt t (.slice a4 t.kids.length c4), fun i hi => ?_, (HK4.out.trans (KeepR.of (below_al w4 _))).trans' (below_row3 (by omega) _ _ _), by simp; omega, (hoth _ (by omega) (by omega)).trans HBX4.out⟩
            by_cases hil : i < L.length
            · simp only [if_pos hil]
              rw [List.getElem_append_left hil]
              exact (HA.out i hil).same fun b hb => ⟨⟨hb.1, by simp; omega⟩, (hoth b (by omega) (by omega)).trans (HO4.out b hb.1 hb.2)⟩
            · obtain rfl : i = L.length := by simp at hi; omega
              simp only [if_neg hil]
              rw [List.getElem_append_right (Nat.le_refl _)]
              simp only [Nat.sub_self, List.getElem_singleton]
              exact HA4.out.same fun b hb => ⟨⟨by omega, by simp; omega⟩, hoth b (by omega) (by omega)⟩
          case measure => simp [RowKit.intOf]; omega
      · obtain rfl : L.length = c := by omega
        have hlt : decide ((L.length : Int) < (L.length : Int)) = false := by simp
        have HP : Hid (R = some (.node k 0 L, r, n1)) := by
          show _ = _
          rw [HS.out, ← hmore, Nat.sub_self, kidsP]
          simp [moreP]
        have HK := Lib.hid hK
        have HA := Lib.hid hA
        have HKK := Lib.hid hk
        have HR4 := Lib.hid hR
        have hLm : L.length ≤ maxLen := by unfold maxLen; omega
        obtain ⟨⟨x0, x1, x2⟩, y0, y1, y2⟩ := boxc hbx
        clear hmore hK hA hk hR hbx hb HS HI0 HL
        go_wp2_with fail
        refine bodyPost_ret (v := .tuple #[.agg #[.int .i64 k, .int .i64 0, .slice (some ⟨w.heap.size + 1, 0, none⟩) L.length L.length], .bool true]) (by simp [results, Try.f73, go_sem, x0, x1, x2]) rfl ?_
        rw [HP.out]
        refine ⟨HKK.out.trans' (below_store3 (by omega) _ _ _), fun h => (by cases h), fun t1 r1 n2 h => ?_⟩
        simp only [Option.some.injEq, Prod.mk.injEq] at h
        obtain ⟨rfl, rfl, rfl⟩ := h
        exact ⟨_, rfl, (HK.out.same (other_store3 (by omega) _ _ _)).ats rfl hLm ⟨by omega, by simp; omega⟩ fun i hi => (HA.out i hi).same fun b hb => ⟨⟨by omega, by simp; omega⟩, other_store3 (by omega) _ _ _⟩, HR4.out.same hrb fun b hb => other_store3 (by omega) _ _ _⟩
end Go.Proofs.Ythcjjfgigbgdkaa
