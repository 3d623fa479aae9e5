/- Package pack's Get: what is got of any bytes, from any place on. -/
import Derived.Test.YthcjjfgigbgdkaaGn
import Derived.Deep.DeepCutAuto
namespace Go.Proofs.Ythcjjfgigbgdkaa
open Go.RowKit Go Go.Joins
set_option linter.unusedVariables false

theorem getP_bounds (f : Nat) : ∀ r n t r' n', ByteL r → getP f r n = some (t, r', n') → ByteL r' ∧ r'.length ≤ r.length ∧ n' ≤ n := fun r n t r' n' hb h => by
  obtain ⟨e1, _, _, e4⟩ := getP_sound f r n t r' n' hb h
  refine ⟨fun x hx => hb x (by rw [e1]; exact List.mem_append_right _ hx), ?_, by omega⟩
  rw [e1, List.length_append]; omega
theorem getr_ok : ∀ (f : Nat), f ≤ 200 → TermOkR (getP f) (201 - f)
  | 0, _ => fun rb D l n w hb hD hrb hR hl hn => by
    have h := termr_any (getP 0) rb D l n 201 (by omega) (by omega) (fun h => absurd h (by omega)) hb w hD hrb hR hl hn
    rw [if_pos (by omega)] at h
    rw [show getP 0 l n = none from rfl]
    exact h
  | f + 1, hf => fun rb D l n w hb hD hrb hR hl hn => by
    have hT := getr_ok f (by omega)
    have hI : InnerOk (getP f) (201 - ((f + 1 : Nat) : Int)) := innerr_any (getP f) (getP_bounds f) _ (by omega) (by omega) (by rw [show 201 - ((f + 1 : Nat) : Int) + 1 = 201 - (f : Int) by omega]; exact hT)
    have h := termr_any (getP f) rb D l n (201 - ((f + 1 : Nat) : Int)) (by omega) (by omega) (fun _ => hI) hb w hD hrb hR hl hn
    rw [if_neg (by omega), ← getP_step] at h
    exact h

def noT : Tm := .node 0 0 []
/-- A term, where it ends, and why there is none. -/
def getS (l : List Int) (a : Int) : Tm × Int × Int :=
  if a < 0 ∨ (l.length : Int) < a then (noT, 0, 1) else match readP (l.drop a.toNat) with
    | none => (noT, 0, 3)
    | some (t, r) => (t, (l.length : Int) - r.length, 0)
def GetPost (w : World) (x : Tm × Int × Int) (e : Ending) (w' : World) : Prop := ∃ v, e = .returned (.tuple #[.agg #[.int .i64 x.1.k, .int .i64 x.1.n, v], .int .i64 x.2.1, .int .i64 x.2.2]) ∧
  AtS (fun b => w.heap.size ≤ b ∧ b < w'.heap.size) w' x.1.kids v ∧ Below w.heap.size w w'
theorem GetPost.no {w w' : World} {x : Int} (h : Below w.heap.size w w') : GetPost w (noT, 0, x) (.returned (.tuple #[.agg #[.int .i64 0, .int .i64 0, .slice none 0 0], .int .i64 0, .int .i64 x])) w' := ⟨_, rfl, .nl, h⟩
theorem KeepR.below {rb B : Nat} {w w' : World} (h : KeepR rb w w') (hB : B ≤ rb) (hw : B ≤ w.heap.size) : Below B w w' :=
  ⟨h.2.1, h.2.2.1, h.2.2.2.1, h.1, fun b hb => h.2.2.2.2 b (by omega) (by omega)⟩

theorem rdn_drop {rb D c cap : Nat} {l : List Int} {ao : Option Addr} {w w' : World} (h2 : l.length ≤ cap) (h3 : cap ≤ maxLen) (h4 : ao = none → l.length = 0 ∧ cap = 0)
    (h5 : 0 < l.length → ∃ b off, ao = some ⟨b, off, none⟩ ∧ ∀ i (_ : i < l.length), w.cell? ⟨b, off + i, none⟩ = some (.int .u8 l[i])) (hc : c ≤ l.length) (hcap : ¬ cap = c)
    (hk : ∀ b, b < w.heap.size → w'.heap[b]? = w.heap[b]?) (hrb : w.heap.size ≤ rb) (hD : w.heap.size ≤ D) : RdN rb D (l.drop c) (.slice (ao.map (·.add c)) (l.length - c) (cap - c)) w' := by
  refine ⟨_, cap - c, by rw [List.length_drop], by rw [List.length_drop]; omega, by omega, fun h => ?_, fun hl => ?_⟩
  · cases ao with
    | none => have := h4 rfl; omega
    | some x => cases h
  · rw [List.length_drop] at hl
    obtain ⟨b, off, rfl, hcell⟩ := h5 (by omega)
    have hblt := World.block_lt_of_cell? w _ (hcell 0 (by omega))
    refine ⟨b, off + c, by simp at hblt; omega, by simp at hblt; omega, by rw [Option.map_some, Addr.add_lit], fun i hi => ?_⟩
    rw [List.length_drop] at hi
    rw [World.cell?_of_block (w := w) (hk b (by simpa using hblt)), Nat.add_assoc, hcell (c + i) (by omega)]
    simp
theorem rdn_end {rb D c : Nat} {l : List Int} {ao : Option Addr} {w' : World} (h4 : ao = none → l.length = 0 ∧ c = 0) (hc : l.length = c) : RdN rb D (l.drop c) (.slice ao (l.length - c) 0) w' :=
  ⟨ao, 0, by rw [List.length_drop], by rw [List.length_drop]; omega, by decide, fun _ => ⟨by rw [List.length_drop]; omega, rfl⟩, fun h => by rw [List.length_drop] at h; omega⟩
theorem setCell_self {w : World} {B o : Nat} {v : Value} (h : w.cell? ⟨B, o, none⟩ = some v) : w.setCell ⟨B, o, none⟩ v = w := by
  have key : w.heap.modify B (fun | .cells c elem frozen => .cells (if (none : Option Nat).isSome then c else c.setIfInBounds o v) elem frozen | o => o) = w.heap := by
    apply Array.ext
    · simp
    · intro i h1 h2
      rw [Array.getElem_modify]
      split
      · rename_i e
        subst e
        unfold World.cell? at h
        rw [Array.getElem?_eq_getElem h2] at h
        revert h
        generalize w.heap[B] = ob
        intro h
        cases ob with
        | cells c ty fr =>
          have ho : c[o]? = some v := h
          obtain ⟨hO, ho'⟩ := Array.getElem?_eq_some_iff.1 ho
          simp only [Option.isSome_none, Bool.false_eq_true, if_false]
          congr 1
          apply Array.ext
          · simp
          · intro k k1 k2
            rw [Array.getElem_setIfInBounds]
            split
            · rename_i e; subst e; exact ho'.symm
            · rfl
        | _ => rfl
      · rfl
  exact congrArg (fun h => ({ w with heap := h } : World)) key
theorem box2_new (w : World) (x y : Value) (ty : TypeId) : (w.alloc (.cells #[x, y] ty)).heap[w.heap.size]? = some (.cells #[x, y] ty (0, 0)) := World.alloc_heap_new w _

set_option maxRecDepth 100000 in
set_option maxHeartbeats 1600000 in
theorem get_any (l : List Int) (a : Int) (hb : ByteL l) (hl : l.length ≤ 1048576) (w : World) (v : Value) (hR : RdBy l v w) :
    Calls Try.prog 41 #[v, .int .i64 a] w (GetPost w (getS l a)) := by
  have hbx := World.alloc_heap_new w (.cells #[.int .i64 0, .int .i64 0, .slice none 0 0] 24)
  have hb0 := below_al w (.cells #[.int .i64 0, .int .i64 0, .slice none 0 0] 24)
  have HBX := Lib.hid hbx
  have HB0 := Lib.hid hb0
  clear hbx hb0
  generalize hres : getS l a = R
  have HR := Lib.hid hres
  clear hres
  obtain ⟨ao, cap, rfl, h2, h3, h4, h5⟩ := hR
  by_cases hbad : a < 0 ∨ (l.length : Int) < a
  · have HP : Hid (R = (noT, 0, 1)) := by show _ = _; rw [← HR.out, getS, if_pos hbad]
    clear HR h4 h5
    have e1 : (decide (a < 0) || decide ((l.length : Int) < a)) = true := by simpa using hbad
    by_cases h0 : a < 0
    · clear hbad e1
      go_enter Try.func41, Try.ntmps41
      go_wp2_with fail
      obtain ⟨⟨x0, x1, x2⟩, y0, y1, y2⟩ := boxc HBX.out
      exact bodyPost_ret (v := .tuple #[.agg #[.int .i64 0, .int .i64 0, .slice none 0 0], .int .i64 0, .int .i64 1]) (by simp [results, Try.f41, go_sem, x0, x1, x2]) rfl (by rw [HP.out]; exact GetPost.no HB0.out)
    · have h1 : (l.length : Int) < a := by omega
      have e0 : decide (a < 0) = false := decide_eq_false h0
      clear hbad e1 h0
      go_enter Try.func41, Try.ntmps41
      go_wp2_with fail
      obtain ⟨⟨x0, x1, x2⟩, y0, y1, y2⟩ := boxc HBX.out
      exact bodyPost_ret (v := .tuple #[.agg #[.int .i64 0, .int .i64 0, .slice none 0 0], .int .i64 0, .int .i64 1]) (by simp [results, Try.f41, go_sem, x0, x1, x2]) rfl (by rw [HP.out]; exact GetPost.no HB0.out)
  · obtain ⟨c, rfl⟩ : ∃ c : Nat, a = c := ⟨a.toNat, by omega⟩
    have hc : c ≤ l.length := by omega
    have HS : Hid (R = match readP (l.drop c) with | none => (noT, 0, 3) | some (t, r) => (t, (l.length : Int) - r.length, 0)) := by
      show _ = _
      rw [← HR.out, getS, if_neg hbad]
      rfl
    have e0 : decide ((c : Int) < 0) = false := decide_eq_false (by omega)
    have e1 : decide ((l.length : Int) < (c : Int)) = false := decide_eq_false (by omega)
    have e2 : decide (l.length < c) = false := decide_eq_false (by omega)
    have hc1 : (c : Int) ≤ (l.length : Int) := by omega
    have hc2 : (c : Int) ≤ (cap : Int) := by omega
    have hc3 : (0 : Int) ≤ (c : Int) := by omega
    have HN1 : ∀ sv, Hid ((∀ W, (∀ b, b < w.heap.size → W.heap[b]? = w.heap[b]?) → RdN (w.heap.size + 1) (w.heap.size + 2) (l.drop c) sv W) → Calls Try.prog 64 #[.pointer (some ⟨w.heap.size + 1, 0, none⟩), .int .i64 1] ((w.alloc (.cells #[.int .i64 0, .int .i64 0, .slice none 0 0] 24)).alloc (.cells #[sv, .int .i64 6000] 80)) (GotE (w.heap.size + 1) (w.heap.size + 2) ((w.alloc (.cells #[.int .i64 0, .int .i64 0, .slice none 0 0] 24)).alloc (.cells #[sv, .int .i64 6000] 80)) (getP 200 (l.drop c) 6000))) := fun sv hsv => by
      have h1 := box2_new (w.alloc (.cells #[.int .i64 0, .int .i64 0, .slice none 0 0] 24)) sv (.int .i64 6000) 80
      rw [World.size_alloc] at h1
      exact getr_ok 200 (Nat.le_refl _) (w.heap.size + 1) (w.heap.size + 2) (l.drop c) 6000 _ (fun x hx => hb x (List.mem_of_mem_drop hx)) (by simp) (by omega) ⟨sv, h1, hsv _ fun b hb => by rw [Below.heap_alloc _ _ b (by simp; omega), Below.heap_alloc _ _ b hb]⟩ (by rw [List.length_drop]; omega) (Nat.le_refl _)
    have HBL := Lib.hid hb
    clear HR hbad hb
    by_cases hcap : cap = c
    · have hlc : l.length = c := by omega
      have HN2 := Lib.hid ((HN1 (.slice ao (l.length - c) 0)).out fun W _ => rdn_end (fun h => by have := h4 h; omega) hlc)
      have hr : getP 200 (l.drop c) 6000 = none := by rw [List.drop_of_length_le (by omega)]; rfl
      have hrH := Lib.hid hr
      clear HN1 h4 h5 hr
      have hlcH := Lib.hid hlc
      clear hlc
      go_enter Try.func41, Try.ntmps41
      go_wp2_with fail
      refine HN2.out.mono ?_
      rintro e w4 ⟨hk4, hno, hso⟩
      have hsz4 := hk4.1
      simp only [World.size_alloc] at hsz4
      have HB4 := Lib.hid ((HB0.out.alloc (by simp) _).trans (hk4.below (B := w.heap.size) (by omega) (by simp; omega)))
      have HBX4 := Lib.hid (((hk4.2.2.2.2 w.heap.size (by simp; omega) (by omega)).trans (Below.heap_alloc _ _ w.heap.size (by simp))).trans HBX.out)
      obtain ⟨⟨x0, x1, x2⟩, y0, y1, y2⟩ := boxc HBX4.out
      have hr := hrH.out
      obtain rfl := hno hr
      have HP : Hid (R = (noT, 0, 3)) := by show _ = _; rw [HS.out, readP, hr]
      clear hk4 hno hso hr HS
      go_upto_region 6 with (fail)
      have hst := box_store3 HBX4.out (.int .i64 0) (.int .i64 0) (.slice none 0 0)
      have HB6 := Lib.hid (HB4.out.trans (below_store3 (W := w4) (B := w.heap.size) (Nat.le_refl _) (.int .i64 0) (.int .i64 0) (.slice none 0 0)))
      revert hst HB6
      generalize (((w4.setCell ⟨w.heap.size, 0, none⟩ (.int .i64 0)).setCell ⟨w.heap.size, 1, none⟩ (.int .i64 0)).setCell ⟨w.heap.size, 2, none⟩ (.slice none 0 0)) = w6
      intro hst HB6
      clear x0 x1 x2 y0 y1 y2
      obtain ⟨⟨x0, x1, x2⟩, y0, y1, y2⟩ := boxc hst
      clear hst
      go_wp2_with fail
      exact bodyPost_ret (v := .tuple #[.agg #[.int .i64 0, .int .i64 0, .slice none 0 0], .int .i64 0, .int .i64 3]) (by simp [results, Try.f41, go_sem, x0, x1, x2]) rfl (by rw [HP.out]; exact GetPost.no (HB6.out.trans (below_store3 (Nat.le_refl _) _ _ _)))
    · have HN2 := Lib.hid ((HN1 (.slice (ao.map (·.add c)) (l.length - c) (cap - c))).out fun W hW => rdn_drop h2 h3 h4 h5 hc hcap hW (by omega) (by omega))
      clear HN1 h4 h5
      go_enter Try.func41, Try.ntmps41
      go_wp2_with fail
      refine HN2.out.mono ?_
      rintro e w4 ⟨hk4, hno, hso⟩
      have hsz4 := hk4.1
      simp only [World.size_alloc] at hsz4
      have HB4 := Lib.hid ((HB0.out.alloc (by simp) _).trans (hk4.below (B := w.heap.size) (by omega) (by simp; omega)))
      have HBX4 := Lib.hid (((hk4.2.2.2.2 w.heap.size (by simp; omega) (by omega)).trans (Below.heap_alloc _ _ w.heap.size (by simp))).trans HBX.out)
      obtain ⟨⟨x0, x1, x2⟩, y0, y1, y2⟩ := boxc HBX4.out
      cases hr : getP 200 (l.drop c) 6000 with
      | none =>
        obtain rfl := hno hr
        have HP : Hid (R = (noT, 0, 3)) := by show _ = _; rw [HS.out, readP, hr]
        clear hk4 hno hso hr HS
        go_upto_region 6 with (fail)
        have hst := box_store3 HBX4.out (.int .i64 0) (.int .i64 0) (.slice none 0 0)
        have HB6 := Lib.hid (HB4.out.trans (below_store3 (W := w4) (B := w.heap.size) (Nat.le_refl _) (.int .i64 0) (.int .i64 0) (.slice none 0 0)))
        revert hst HB6
        generalize (((w4.setCell ⟨w.heap.size, 0, none⟩ (.int .i64 0)).setCell ⟨w.heap.size, 1, none⟩ (.int .i64 0)).setCell ⟨w.heap.size, 2, none⟩ (.slice none 0 0)) = w6
        intro hst HB6
        clear x0 x1 x2 y0 y1 y2
        obtain ⟨⟨x0, x1, x2⟩, y0, y1, y2⟩ := boxc hst
        clear hst
        go_wp2_with fail
        exact bodyPost_ret (v := .tuple #[.agg #[.int .i64 0, .int .i64 0, .slice none 0 0], .int .i64 0, .int .i64 3]) (by simp [results, Try.f41, go_sem, x0, x1, x2]) rfl (by rw [HP.out]; exact GetPost.no (HB6.out.trans (below_store3 (Nat.le_refl _) _ _ _)))
      | some y =>
        obtain ⟨t, r', n'⟩ := y
        obtain ⟨v4, rfl, hA4, hR4⟩ := hso t r' n' hr
        obtain ⟨a4, c4, rfl⟩ := hA4.at.shape
        have hle : r'.length ≤ l.length := by
          have hz := (getP_bounds 200 _ _ _ _ _ (fun x hx => ?hbb) hr).2.1
          · rw [List.length_drop] at hz; omega
          · exact HBL.out x (List.mem_of_mem_drop hx)
        have HP : Hid (R = (t, (l.length : Int) - r'.length, 0)) := by show _ = _; rw [HS.out, readP, hr]
        obtain ⟨vr, hcr, ar, cr, rfl, _⟩ := hR4
        have HCR := Lib.hid hcr
        have HA4 := Lib.hid hA4
        clear hk4 hno hso hr HS hcr hA4
        go_wp2_with fail
        have hst := box_store3 HBX4.out (.int .i64 t.k) (.int .i64 t.n) (.slice a4 t.kids.length c4)
        have HB6 := Lib.hid (HB4.out.trans (below_store3 (W := w4) (B := w.heap.size) (Nat.le_refl _) (.int .i64 t.k) (.int .i64 t.n) (.slice a4 t.kids.length c4)))
        have HO6 : Hid (∀ b, b ≠ w.heap.size → (((w4.setCell ⟨w.heap.size, 0, none⟩ (.int .i64 t.k)).setCell ⟨w.heap.size, 1, none⟩ (.int .i64 t.n)).setCell ⟨w.heap.size, 2, none⟩ (.slice a4 t.kids.length c4)).heap[b]? = w4.heap[b]?) := fun b hb => other_store3 hb _ _ _
        have HZ6 : Hid ((((w4.setCell ⟨w.heap.size, 0, none⟩ (.int .i64 t.k)).setCell ⟨w.heap.size, 1, none⟩ (.int .i64 t.n)).setCell ⟨w.heap.size, 2, none⟩ (.slice a4 t.kids.length c4)).heap.size = w4.heap.size) := by show _ = _; simp
        revert hst HB6 HO6 HZ6
        generalize (((w4.setCell ⟨w.heap.size, 0, none⟩ (.int .i64 t.k)).setCell ⟨w.heap.size, 1, none⟩ (.int .i64 t.n)).setCell ⟨w.heap.size, 2, none⟩ (.slice a4 t.kids.length c4)) = w6
        intro hst HB6 HO6 HZ6
        clear x0 x1 x2 y0 y1 y2
        have HST := Lib.hid hst
        have HC6 := Lib.hid ((HO6.out (w.heap.size + 1) (by omega)).trans HCR.out)
        have HWR : Hid (IntKind.i64.wrap ((l.length : Int) - (r'.length : Int)) = (l.length : Int) - (r'.length : Int)) := IntWalk.i64_in _ (by omega)
        clear hst
        refine wp_region_rel (by kernel_rfl) (by kernel_rfl) (by kernel_rfl) ?_
        apply RelWalk.rest
        · kernel_rfl
        · intro X _ W hW hcl
          obtain ⟨⟨x0, x1, x2⟩, y0, y1, y2⟩ := boxc HST.out
          obtain ⟨⟨z0, _⟩, _, _⟩ := cell2 HC6.out
          have k0 := fun q => gcell (hW q) x0
          have k1 := fun q => gcell (hW q) x1
          have k2 := fun q => gcell (hW q) x2
          have k3 := fun q => gcell (hW q) z0
          have s0 := fun q => setCell_self (k0 q)
          have s1 := fun q => setCell_self (k1 q)
          have s2 := fun q => setCell_self (k2 q)
          have hbl := (Array.getElem?_eq_some_iff.1 HST.out).1
          have f0 := fun q => ((hW q).frozen (p := ⟨w.heap.size, 0, none⟩) hbl).trans y0
          have f1 := fun q => ((hW q).frozen (p := ⟨w.heap.size, 1, none⟩) hbl).trans y1
          have f2 := fun q => ((hW q).frozen (p := ⟨w.heap.size, 2, none⟩) hbl).trans y2
          have hwr := HWR.out
          clear x0 x1 x2 y0 y1 y2 z0 hbl
          repeat (go_big_quiet_step (fail))
          exact wpQuiet_nil rfl
        intro g w7 hg _
        have HG := Lib.hid hg
        clear hg
        simp only [Spread]
        have hbl := (Array.getElem?_eq_some_iff.1 HST.out).1
        obtain ⟨⟨x0, x1, x2⟩, _⟩ := boxc ((HG.out.block w.heap.size hbl).trans HST.out)
        go_wp2_with fail
        refine bodyPost_ret (v := .tuple #[.agg #[.int .i64 t.k, .int .i64 t.n, .slice a4 t.kids.length c4], .int .i64 ((l.length : Int) - (r'.length : Int)), .int .i64 0]) (by simp [results, Try.f41, go_sem, x0, x1, x2]) rfl ?_
        rw [HP.out]
        have hz6 : w6.heap.size = w4.heap.size := HZ6.out
        have hz7 := HG.out.size
        have hAA : AtS (fun b => w.heap.size + 2 ≤ b ∧ b < w4.heap.size) w4 t.kids (.slice a4 t.kids.length c4) := HA4.out.mono fun b hb => ⟨by have h1 := hb.1; simp only [World.size_alloc] at h1; omega, hb.2⟩
        exact ⟨_, rfl, hAA.same fun b hb => ⟨⟨by omega, by omega⟩, (HG.out.block b (by omega)).trans (HO6.out b (by omega))⟩, HB6.out.trans (HG.out.mono HB6.out.size)⟩
end Go.Proofs.Ythcjjfgigbgdkaa
