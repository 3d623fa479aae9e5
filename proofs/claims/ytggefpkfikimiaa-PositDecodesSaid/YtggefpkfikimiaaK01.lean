/- An argument that is a term: what reads as one is a tree in memory, no greater than its reading. -/
import Derived.Test.YtggefpkfikimiaaRows
import Derived.Test.YtggefpkfikimiaaG01
import Derived.Deep.Slices
import Derived.ChangeShapes
import Derived.ChangeSame
import Derived.Carry
import Derived.JoinedCond
import Derived.ProofKit
import Derived.OpenShut
import Derived.Test.YtggefpkfikimiaaG15
namespace Go.Proofs.Ytggefpkfikimiaa
open Go.ChangeShapes Go.WideShapes Go.ChangeAt Go.RowKit Go.Deep

theorem Try.cellsT : Try.prog.cellsOf 25 = 3 := by kernel_rfl
theorem Try.cellsI : Try.prog.cellsOf 3 = 1 := by kernel_rfl
theorem Try.cellsS : Try.prog.cellsOf 23 = 1 := by kernel_rfl

theorem bulk_append {H : Type} (a b : List (DataW H)) : Rows.uptoBulkAll (a ++ b) = Rows.uptoBulkAll a + Rows.uptoBulkAll b := by
  induction a with
  | nil => simp [Rows.uptoBulkAll]
  | cons x a ih => simp only [List.cons_append, Rows.uptoBulkAll, ih]; omega
theorem i64_of_wf {x : Int} (h : (Lit.int .i64 x).wf = true) : I64 x := by
  simp [Lit.wf, IntKind.min, IntKind.max, IntKind.signed, IntKind.bits] at h
  unfold I64; omega

/-- The sizes of a row of trees, index by index, against a row of readings. -/
theorem sizes_le {H : Type} (l : List Tm) (ds : List (DataW H)) (hl : l.length = ds.length) (h : ∀ i (h1 : i < l.length) (h2 : i < ds.length), size l[i] ≤ Rows.uptoBulk ds[i]) : sizeL l ≤ Rows.uptoBulkAll ds := by
  induction l generalizing ds with
  | nil => simp [sizeL]
  | cons t l ih =>
    cases ds with
    | nil => simp at hl
    | cons d ds =>
      have h0 := h 0 (by simp) (by simp)
      have hr := ih ds (by simpa using hl) fun i h1 h2 => by
        have := h (i + 1) (by simp; omega) (by simp; omega)
        simpa using this
      simp only [sizeL, Rows.uptoBulkAll]
      simp at h0
      omega

set_option maxRecDepth 100000 in
theorem open_tm {H : Type} {enc : TypeId × Value → H} {w : World} {base : Nat} {sp : Nat → Bool} {hd : Bool} : ∀ (fuel : Nat) (cs : List Value) (x : DataW H × List MemPlace), DataW.trod enc Try.prog w base sp hd fuel 25 cs = some x →
    ∃ (t : Tm) (sv : Value), cs = [.int .i64 t.k, .int .i64 t.n, sv] ∧ At w t.kids sv ∧ Fits t ∧ size t ≤ Rows.uptoBulk x.1 := by
  intro fuel
  induction fuel using Nat.strongRecOn with
  | _ fuel ih =>
    intro cs x h
    obtain ⟨xs, m, rfl, rfl, hl, hlen, hf⟩ := DataW.trod_struct Try.underlying25 h
    rw [Try.cellsT] at hl
    match xs, hlen, cs, hl with
    | [y0, y1, y2], _, [v0, v1, v2], _ =>
      have g0 := hf 0 _ rfl
      have g1 := hf 1 _ rfl
      have g2 := hf 2 _ rfl
      simp [Try.cellsI, Try.cellsS] at g0 g1 g2
      obtain ⟨k, hv, rfl, wk⟩ := DataW.trod_int Try.underlying3 g0
      obtain ⟨n, hv', rfl, wn⟩ := DataW.trod_int Try.underlying3 g1
      simp at hv hv'
      subst hv
      subst hv'
      rcases DataW.trod_slice Try.underlying23 g2 with ⟨hcs, rfl⟩ | ⟨a, len, cap, elems, rest, m', rfl, hcs, rfl, hb, hl, hm, hlen, hel, _, _⟩
      · simp at hcs
        subst hcs
        refine ⟨.node k n [], .slice none 0 0, rfl, .nl, .mk _ _ _ (i64_of_wf wk) (i64_of_wf wn) (by simp), ?_⟩
        simp [size, sizeL, Rows.uptoBulk, Rows.uptoBulkAll]
      · simp at hcs
        subst hcs
        rw [Try.cellsT] at hel
        have key : ∀ i, i < len → ∃ r : Tm × Value, w.cell? (a.add (i * 3)) = some (.int .i64 r.1.k) ∧ w.cell? (a.add (i * 3 + 1)) = some (.int .i64 r.1.n) ∧ w.cell? (a.add (i * 3 + 2)) = some r.2 ∧ At w r.1.kids r.2 ∧ Fits r.1 ∧
            ∃ y, elems[i]? = some y ∧ size r.1 ≤ Rows.uptoBulk y.1 := fun i hi => by
          have he := hel i hi
          have hi' : i < elems.length := by omega
          rw [List.getElem?_eq_getElem hi'] at he
          obtain ⟨cs', h1, h2⟩ := Option.bind_eq_some_iff.1 he
          obtain ⟨t, sv, rfl, hA, hF, hS⟩ := ih m' (by omega) cs' _ h2
          obtain ⟨_, _, hc⟩ := World.cells?_some h1
          have c0 := hc 0 (by omega)
          have c1 := hc 1 (by omega)
          have c2 := hc 2 (by omega)
          rw [add_add] at c0 c1 c2
          exact ⟨(t, sv), by simpa using c0, by simpa using c1, by simpa using c2, hA, hF, _, List.getElem?_eq_getElem hi', hS⟩
        obtain ⟨F, hF⟩ := choose_lt (α := Tm × Value) key
        have hlF : ((List.range len).map fun i => (F i).1).length = len := by simp
        have hget : ∀ i (h : i < ((List.range len).map fun i => (F i).1).length), ((List.range len).map fun i => (F i).1)[i] = (F i).1 := fun i h => by simp
        refine ⟨.node k n ((List.range len).map fun i => (F i).1), .slice (some a) len cap, rfl, ?_, .mk _ _ _ (i64_of_wf wk) (i64_of_wf wn) ?_, ?_⟩
        · show At w ((List.range len).map fun i => (F i).1) (.slice (some a) len cap)
          by_cases h0 : len = 0
          · subst h0; exact .em a cap
          · obtain ⟨b, off, spot⟩ := a
            have hspot : spot = none := by
              have := World.cell?_spot (hF 0 (by omega)).1
              simpa [Addr.add] using this
            subst hspot
            have hrow := At.row (w := w) ((List.range len).map fun i => (F i).1) b off cap (fun i => (F i).2) (by simpa using hl) hm
              (fun i h => by rw [hget i h]; have := (hF i (by simpa using h)).1; rwa [add_plain] at this)
              (fun i h => by rw [hget i h]; have := (hF i (by simpa using h)).2.1; rwa [add_plain, ← Nat.add_assoc] at this)
              (fun i h => by have := (hF i (by simpa using h)).2.2.1; rwa [add_plain, ← Nat.add_assoc] at this)
              (fun i h => by rw [hget i h]; exact (hF i (by simpa using h)).2.2.2.1)
            rwa [hlF] at hrow
        · intro u hu
          obtain ⟨i, hi, rfl⟩ := List.mem_map.1 hu
          exact (hF i (by simpa using hi)).2.2.2.2.1
        · have hs := sizes_le ((List.range len).map fun i => (F i).1) (elems.map (·.1)) (by simp [hlen]) fun i h1 h2 => by
            have hi : i < len := by simpa using h1
            obtain ⟨y, hy, hsz⟩ := (hF i hi).2.2.2.2.2
            rw [hget i h1]
            have : (elems.map (·.1))[i] = y.1 := by
              have hi' : i < elems.length := by omega
              rw [List.getElem?_eq_getElem hi'] at hy
              simp at hy
              simp [hy]
            rw [this]; exact hsz
          simp only [size, Rows.uptoBulk, Rows.uptoBulkAll, List.map_cons, List.map_nil]
          omega

set_option maxRecDepth 100000 in
theorem open_term {H : Type} {enc : TypeId × Value → H} {W : World} {base : Nat} {v : Value} {d : DataW H} {p : List MemPlace} (hv : Value.okWide Try.prog W .any base 25 v) (h : DataW.Trod enc Try.prog W 0 (fun _ => true) true 25 v d p) :
    ∃ (t : Tm) (sv : Value), v = tv t sv ∧ At W t.kids sv ∧ Fits t ∧ size t ≤ Rows.uptoBulk d := by
  obtain ⟨cs, rfl, hsz⟩ := okWide_struct Try.underlying25 hv
  obtain ⟨fuel, hf⟩ := h
  obtain ⟨t, sv, hcs, hA, hF, hS⟩ := open_tm fuel _ _ hf
  refine ⟨t, sv, ?_, hA, hF, hS⟩
  obtain ⟨l⟩ := cs
  simp [Value.cells] at hcs
  rw [hcs]; rfl
end Go.Proofs.Ytggefpkfikimiaa
/- An argument that is a row of terms: what reads as one is a row of trees in memory, no greater than its reading. -/
namespace Go.Proofs.Ytggefpkfikimiaa
open Go.ChangeShapes Go.WideShapes Go.ChangeAt Go.RowKit Go.Deep

set_option maxRecDepth 100000 in
theorem open_trow {H : Type} {enc : TypeId × Value → H} {w : World} {base : Nat} {sp : Nat → Bool} {hd : Bool} (fuel : Nat) (cs : List Value) (x : DataW H × List MemPlace) (h : DataW.trod enc Try.prog w base sp hd fuel 23 cs = some x) :
    ∃ (A : List Tm) (sv : Value), cs = [sv] ∧ At w A sv ∧ (∀ u ∈ A, Fits u) ∧ sizeL A ≤ Rows.uptoBulk x.1 := by
  rcases DataW.trod_slice Try.underlying23 h with ⟨hcs, rfl⟩ | ⟨a, len, cap, elems, rest, m', rfl, hcs, rfl, hb, hl, hm, hlen, hel, _, _⟩
  · exact ⟨[], .slice none 0 0, by simpa using hcs, .nl, by simp, by simp [sizeL]⟩
  · rw [Try.cellsT] at hel
    have key : ∀ i, i < len → ∃ r : Tm × Value, w.cell? (a.add (i * 3)) = some (.int .i64 r.1.k) ∧ w.cell? (a.add (i * 3 + 1)) = some (.int .i64 r.1.n) ∧ w.cell? (a.add (i * 3 + 2)) = some r.2 ∧ At w r.1.kids r.2 ∧ Fits r.1 ∧
        ∃ y, elems[i]? = some y ∧ size r.1 ≤ Rows.uptoBulk y.1 := fun i hi => by
      have he := hel i hi
      have hi' : i < elems.length := by omega
      rw [List.getElem?_eq_getElem hi'] at he
      obtain ⟨cs', h1, h2⟩ := Option.bind_eq_some_iff.1 he
      obtain ⟨t, sv, rfl, hA, hF, hS⟩ := open_tm m' cs' _ h2
      obtain ⟨_, _, hc⟩ := World.cells?_some h1
      have c0 := hc 0 (by omega)
      have c1 := hc 1 (by omega)
      have c2 := hc 2 (by omega)
      rw [add_add] at c0 c1 c2
      exact ⟨(t, sv), by simpa using c0, by simpa using c1, by simpa using c2, hA, hF, _, List.getElem?_eq_getElem hi', hS⟩
    obtain ⟨F, hF⟩ := choose_lt (α := Tm × Value) key
    have hlF : ((List.range len).map fun i => (F i).1).length = len := by simp
    have hget : ∀ i (h : i < ((List.range len).map fun i => (F i).1).length), ((List.range len).map fun i => (F i).1)[i] = (F i).1 := fun i h => by simp
    refine ⟨(List.range len).map fun i => (F i).1, .slice (some a) len cap, by simpa using hcs, ?_, ?_, ?_⟩
    · by_cases h0 : len = 0
      · subst h0; exact .em a cap
      · obtain ⟨b, off, spot⟩ := a
        have hspot : spot = none := by
          have := World.cell?_spot (hF 0 (by omega)).1
          simpa [Addr.add] using this
        subst hspot
        have hrow := At.row (w := w) ((List.range len).map fun i => (F i).1) b off cap (fun i => (F i).2) (by simpa using hl) hm
          (fun i h => by rw [hget i h]; have := (hF i (by simpa using h)).1; rwa [add_plain] at this)
          (fun i h => by rw [hget i h]; have := (hF i (by simpa using h)).2.1; rwa [add_plain, ← Nat.add_assoc] at this)
          (fun i h => by have := (hF i (by simpa using h)).2.2.1; rwa [add_plain, ← Nat.add_assoc] at this)
          (fun i h => by rw [hget i h]; exact (hF i (by simpa using h)).2.2.2.1)
        rwa [hlF] at hrow
    · intro u hu
      obtain ⟨i, hi, rfl⟩ := List.mem_map.1 hu
      exact (hF i (by simpa using hi)).2.2.2.2.1
    · have hs := sizes_le ((List.range len).map fun i => (F i).1) (elems.map (·.1)) (by simp [hlen]) fun i h1 h2 => by
        have hi : i < len := by simpa using h1
        obtain ⟨y, hy, hsz⟩ := (hF i hi).2.2.2.2.2
        rw [hget i h1]
        have : (elems.map (·.1))[i] = y.1 := by
          have hi' : i < elems.length := by omega
          rw [List.getElem?_eq_getElem hi'] at hy
          simp at hy
          simp [hy]
        rw [this]; exact hsz
      simp only [Rows.uptoBulk]
      omega
set_option maxRecDepth 100000 in
theorem open_termRow {H : Type} {enc : TypeId × Value → H} {W : World} {base : Nat} {v : Value} {d : DataW H} {p : List MemPlace} (hv : Value.okWide Try.prog W .any base 23 v) (h : DataW.Trod enc Try.prog W 0 (fun _ => true) true 23 v d p) :
    ∃ A : List Tm, At W A v ∧ (∀ u ∈ A, Fits u) ∧ sizeL A ≤ Rows.uptoBulk d := by
  obtain ⟨a1, len, cap, rfl⟩ := okWide_slice Try.underlying23 hv
  obtain ⟨fuel, hf⟩ := h
  obtain ⟨A, sv, hcs, hA, hF, hS⟩ := open_trow fuel _ _ hf
  simp [Value.cells] at hcs
  exact ⟨A, by rw [hcs]; exact hA, hF, hS⟩
end Go.Proofs.Ytggefpkfikimiaa
/- An argument that is a block: what reads as one is a block in memory, no greater than its reading. -/
namespace Go.Proofs.Ytggefpkfikimiaa
open Go.ChangeShapes Go.WideShapes Go.ChangeAt Go.RowKit Go.Deep

theorem Try.cellsArg : Try.prog.cellsOf 38 = 7 := by kernel_rfl
theorem Try.cellsSort : Try.prog.cellsOf 29 = 6 := by kernel_rfl
theorem Try.cellsCon : Try.prog.cellsOf 35 = 6 := by kernel_rfl
theorem Try.cellsBlk : Try.prog.cellsOf 33 = 3 := by kernel_rfl
theorem Try.cellsBool : Try.prog.cellsOf 4 = 1 := by kernel_rfl
theorem Try.cellsSA : Try.prog.cellsOf 27 = 1 := by kernel_rfl
theorem Try.cellsSS : Try.prog.cellsOf 30 = 1 := by kernel_rfl
theorem Try.cellsSC : Try.prog.cellsOf 31 = 1 := by kernel_rfl
instance : Inhabited ArgT := ⟨⟨false, default, [], 0, []⟩⟩
instance : Inhabited SortT := ⟨⟨[], 0, false, default⟩⟩
instance : Inhabited ConT := ⟨⟨0, [], [], default⟩⟩
def sumN {α : Type} (N : α → Nat) : List α → Nat | [] => 0 | a :: l => N a + sumN N l
theorem sumN_args (l : List ArgT) : sumN argN l = argsN l := by
  induction l with
  | nil => rfl
  | cons a l ih => simp only [sumN, argsN, ih]
theorem sumN_sorts (l : List SortT) : sumN sortN l = sortsN l := by
  induction l with
  | nil => rfl
  | cons a l ih => simp only [sumN, sortsN, ih]
theorem sumN_cons (l : List ConT) : sumN conN l = consN l := by
  induction l with
  | nil => rfl
  | cons a l ih => simp only [sumN, consN, ih]
theorem sums_le {H α : Type} (N : α → Nat) (l : List α) (ds : List (DataW H)) (hl : l.length = ds.length) (h : ∀ i (h1 : i < l.length) (h2 : i < ds.length), N l[i] ≤ Rows.uptoBulk ds[i]) : sumN N l ≤ Rows.uptoBulkAll ds := by
  induction l generalizing ds with
  | nil => simp [sumN]
  | cons t l ih =>
    cases ds with
    | nil => simp at hl
    | cons d ds =>
      have h0 := h 0 (by simp) (by simp)
      have hr := ih ds (by simpa using hl) fun i h1 h2 => by
        have := h (i + 1) (by simp; omega) (by simp; omega)
        simpa using this
      simp only [sumN, Rows.uptoBulkAll]
      simp at h0
      omega
/-- A row of things, each opened by itself. -/
theorem open_grow {H α : Type} [Inhabited α] {enc : TypeId × Value → H} {w : World} {base : Nat} {sp : Nat → Bool} {hd : Bool} (T E : TypeId) (sz : Nat) (hT : Try.prog.underlying T = some (.slice E)) (hE : Try.prog.cellsOf E = sz) (hsz : 0 < sz) (C : α → List Value → Prop) (N : α → Nat) (F : α → Prop)
    (ho : ∀ (fuel : Nat) (cs : List Value) (x : DataW H × List MemPlace), DataW.trod enc Try.prog w base sp hd fuel E cs = some x → ∃ a, C a cs ∧ cs.length = sz ∧ F a ∧ N a ≤ Rows.uptoBulk x.1)
    (fuel : Nat) (cs : List Value) (x : DataW H × List MemPlace) (h : DataW.trod enc Try.prog w base sp hd fuel T cs = some x) :
    ∃ (l : List α) (sv : Value), cs = [sv] ∧ GAt sz C w l sv ∧ (∀ u ∈ l, F u) ∧ sumN N l + 1 ≤ Rows.uptoBulk x.1 := by
  rcases DataW.trod_slice hT h with ⟨hcs, rfl⟩ | ⟨a, len, cap, elems, rest, m', rfl, hcs, rfl, hb, hl, hm, hlen, hel, _, _⟩
  · exact ⟨[], .slice none 0 0, hcs, .nl, by simp, by simp [sumN, Rows.uptoBulk]⟩
  · rw [hE] at hel
    have key : ∀ i, i < len → ∃ r : α × List Value, C r.1 r.2 ∧ r.2.length = sz ∧ F r.1 ∧ (∀ j, j < sz → w.cell? (a.add (i * sz + j)) = r.2[j]?) ∧ ∃ y, elems[i]? = some y ∧ N r.1 ≤ Rows.uptoBulk y.1 := fun i hi => by
      have he := hel i hi
      have hi' : i < elems.length := by omega
      rw [List.getElem?_eq_getElem hi'] at he
      obtain ⟨cs', h1, h2⟩ := Option.bind_eq_some_iff.1 he
      obtain ⟨t, hC, hlc, hF, hN⟩ := ho m' cs' _ h2
      obtain ⟨_, _, hc⟩ := World.cells?_some h1
      exact ⟨(t, cs'), hC, hlc, hF, fun j hj => by have := hc j hj; rwa [add_add] at this, _, List.getElem?_eq_getElem hi', hN⟩
    obtain ⟨G, hG⟩ := choose_lt (α := α × List Value) key
    have hlF : ((List.range len).map fun i => (G i).1).length = len := by simp
    have hget : ∀ i (h : i < ((List.range len).map fun i => (G i).1).length), ((List.range len).map fun i => (G i).1)[i] = (G i).1 := fun i h => by simp
    refine ⟨(List.range len).map fun i => (G i).1, .slice (some a) len cap, hcs, ?_, ?_, ?_⟩
    · by_cases h0 : len = 0
      · subst h0; exact .em a cap
      · obtain ⟨b, off, spot⟩ := a
        have hspot : spot = none := by
          have hg := hG 0 (by omega)
          have hc := hg.2.2.2.1 0 hsz
          rw [List.getElem?_eq_getElem (by rw [hg.2.1]; exact hsz)] at hc
          have := World.cell?_spot hc
          simpa [Addr.add] using this
        subst hspot
        have hrow := GAt.row (sz := sz) (C := C) (w := w) ((List.range len).map fun i => (G i).1) b off cap (fun i => (G i).2) (by rw [hlF]; omega) (by simpa using hl) hm
          (fun i h => by rw [hget i h]; have := hG i (by simpa using h); exact ⟨this.1, this.2.1⟩)
          (fun i h r hr => by have := (hG i (by simpa using h)).2.2.2.1 r hr; rwa [add_plain, ← Nat.add_assoc] at this)
        rwa [hlF] at hrow
    · intro u hu
      obtain ⟨i, hi, rfl⟩ := List.mem_map.1 hu
      exact (hG i (by simpa using hi)).2.2.1
    · have hs := sums_le N ((List.range len).map fun i => (G i).1) (elems.map (·.1)) (by simp [hlen]) fun i h1 h2 => by
        have hi : i < len := by simpa using h1
        obtain ⟨y, hy, hsz⟩ := (hG i hi).2.2.2.2
        rw [hget i h1]
        have : (elems.map (·.1))[i] = y.1 := by
          have hi' : i < elems.length := by omega
          rw [List.getElem?_eq_getElem hi'] at hy
          simp at hy
          simp [hy]
        rw [this]; exact hsz
      simp only [Rows.uptoBulk]
      omega
set_option maxRecDepth 100000 in
theorem open_arg {H : Type} {enc : TypeId × Value → H} {w : World} {base : Nat} {sp : Nat → Bool} {hd : Bool} (fuel : Nat) (cs : List Value) (x : DataW H × List MemPlace) (h : DataW.trod enc Try.prog w base sp hd fuel 38 cs = some x) :
    ∃ a : ArgT, argC w a cs ∧ cs.length = 7 ∧ a.fits ∧ argN a ≤ Rows.uptoBulk x.1 := by
  obtain ⟨xs, m, rfl, rfl, hl, hlen, hf⟩ := DataW.trod_struct Try.underlying38 h
  rw [Try.cellsArg] at hl
  match xs, hlen, cs, hl with
  | [y0, y1, y2, y3, y4], _, [v0, v1, v2, v3, v4, v5, v6], _ =>
    have g0 := hf 0 _ rfl
    have g1 := hf 1 _ rfl
    have g2 := hf 2 _ rfl
    have g3 := hf 3 _ rfl
    have g4 := hf 4 _ rfl
    simp [Try.cellsI, Try.cellsS, Try.cellsT, Try.cellsBool] at g0 g1 g2 g3 g4
    obtain ⟨r, hv, rfl⟩ := DataW.trod_bool Try.underlying4 g0
    obtain ⟨t, sv, hv1, hA, hF, hS⟩ := open_tm _ _ _ g1
    obtain ⟨D, sd, hv2, hD, hFD, hSD⟩ := open_trow _ _ _ g2
    obtain ⟨s, hv3, rfl, ws⟩ := DataW.trod_int Try.underlying3 g3
    obtain ⟨I, si, hv4, hI, hFI, hSI⟩ := open_trow _ _ _ g4
    simp at hv hv1 hv2 hv3 hv4
    obtain ⟨rfl, rfl, rfl⟩ := hv1
    subst hv hv2 hv3 hv4
    refine ⟨⟨r, t, D, s, I⟩, ⟨_, _, _, rfl, hA, hD, hI⟩, rfl, ⟨hF, hFD, i64_of_wf ws, hFI⟩, ?_⟩
    simp only [argN, List.map_cons, List.map_nil, Rows.uptoBulk, Rows.uptoBulkAll]
    omega
set_option maxRecDepth 100000 in
theorem open_sort {H : Type} {enc : TypeId × Value → H} {w : World} {base : Nat} {sp : Nat → Bool} {hd : Bool} (fuel : Nat) (cs : List Value) (x : DataW H × List MemPlace) (h : DataW.trod enc Try.prog w base sp hd fuel 29 cs = some x) :
    ∃ a : SortT, sortC w a cs ∧ cs.length = 6 ∧ a.fits ∧ sortN a ≤ Rows.uptoBulk x.1 := by
  obtain ⟨xs, m, rfl, rfl, hl, hlen, hf⟩ := DataW.trod_struct Try.underlying29 h
  rw [Try.cellsSort] at hl
  match xs, hlen, cs, hl with
  | [y0, y1, y2, y3], _, [v0, v1, v2, v3, v4, v5], _ =>
    have g0 := hf 0 _ rfl
    have g1 := hf 1 _ rfl
    have g2 := hf 2 _ rfl
    have g3 := hf 3 _ rfl
    simp [Try.cellsI, Try.cellsSA, Try.cellsT, Try.cellsBool] at g0 g1 g2 g3
    obtain ⟨I, si, hv0, hI, hFI, hSI⟩ := open_grow 27 38 7 Try.underlying27 Try.cellsArg (by decide) (argC w) argN ArgT.fits open_arg _ _ _ g0
    obtain ⟨s, hv1, rfl, ws⟩ := DataW.trod_int Try.underlying3 g1
    obtain ⟨r, hv2, rfl⟩ := DataW.trod_bool Try.underlying4 g2
    obtain ⟨t, sv, hv3, hA, hF, hS⟩ := open_tm _ _ _ g3
    simp at hv0 hv1 hv2 hv3
    obtain ⟨rfl, rfl, rfl⟩ := hv3
    subst hv0 hv1 hv2
    rw [sumN_args] at hSI
    refine ⟨⟨I, s, r, t⟩, ⟨_, _, rfl, hI, hA⟩, rfl, ⟨hFI, i64_of_wf ws, hF⟩, ?_⟩
    simp only [sortN, List.map_cons, List.map_nil, Rows.uptoBulk, Rows.uptoBulkAll]
    omega
set_option maxRecDepth 100000 in
theorem open_con {H : Type} {enc : TypeId × Value → H} {w : World} {base : Nat} {sp : Nat → Bool} {hd : Bool} (fuel : Nat) (cs : List Value) (x : DataW H × List MemPlace) (h : DataW.trod enc Try.prog w base sp hd fuel 35 cs = some x) :
    ∃ a : ConT, conC w a cs ∧ cs.length = 6 ∧ a.fits ∧ conN a ≤ Rows.uptoBulk x.1 := by
  obtain ⟨xs, m, rfl, rfl, hl, hlen, hf⟩ := DataW.trod_struct Try.underlying35 h
  rw [Try.cellsCon] at hl
  match xs, hlen, cs, hl with
  | [y0, y1, y2, y3], _, [v0, v1, v2, v3, v4, v5], _ =>
    have g0 := hf 0 _ rfl
    have g1 := hf 1 _ rfl
    have g2 := hf 2 _ rfl
    have g3 := hf 3 _ rfl
    simp [Try.cellsI, Try.cellsSA, Try.cellsT, Try.cellsS] at g0 g1 g2 g3
    obtain ⟨s, hv0, rfl, ws⟩ := DataW.trod_int Try.underlying3 g0
    obtain ⟨I, si, hv1, hI, hFI, hSI⟩ := open_grow 27 38 7 Try.underlying27 Try.cellsArg (by decide) (argC w) argN ArgT.fits open_arg _ _ _ g1
    obtain ⟨D, sd, hv2, hD, hFD, hSD⟩ := open_trow _ _ _ g2
    obtain ⟨t, sv, hv3, hA, hF, hS⟩ := open_tm _ _ _ g3
    simp at hv0 hv1 hv2 hv3
    obtain ⟨rfl, rfl, rfl⟩ := hv3
    subst hv0 hv1 hv2
    rw [sumN_args] at hSI
    refine ⟨⟨s, I, D, t⟩, ⟨_, _, _, rfl, hI, hD, hA⟩, rfl, ⟨i64_of_wf ws, hFI, hFD, hF⟩, ?_⟩
    simp only [conN, List.map_cons, List.map_nil, Rows.uptoBulk, Rows.uptoBulkAll]
    omega
/-- A block as a value. -/
def bv (b : BlkT) (vs vc : Value) : Value := .agg #[vs, vc, .int .i64 b.elim]
set_option maxRecDepth 100000 in
theorem open_block {H : Type} {enc : TypeId × Value → H} {W : World} {base : Nat} {v : Value} {d : DataW H} {p : List MemPlace} (hv : Value.okWide Try.prog W .any base 33 v) (h : DataW.Trod enc Try.prog W 0 (fun _ => true) true 33 v d p) :
    ∃ (b : BlkT) (vs vc : Value), v = bv b vs vc ∧ BAt W b vs vc ∧ b.fits ∧ blkN b ≤ Rows.uptoBulk d := by
  obtain ⟨cs, rfl, hsz⟩ := okWide_struct Try.underlying33 hv
  obtain ⟨fuel, hf0⟩ := h
  obtain ⟨xs, m, rfl, hd, hl, hlen, hf⟩ := DataW.trod_struct Try.underlying33 hf0
  rw [Try.cellsBlk] at hl
  generalize hcs : (Value.agg cs).cells.toList = L at *
  match xs, hlen, L, hl with
  | [y0, y1, y2], _, [v0, v1, v2], _ =>
    have g0 := hf 0 _ rfl
    have g1 := hf 1 _ rfl
    have g2 := hf 2 _ rfl
    simp [Try.cellsI, Try.cellsSS, Try.cellsSC] at g0 g1 g2
    obtain ⟨S, sv, hv0, hS, hFS, hSS⟩ := open_grow 30 29 6 Try.underlying30 Try.cellsSort (by decide) (sortC W) sortN SortT.fits open_sort _ _ _ g0
    obtain ⟨C, sc, hv1, hC, hFC, hSC⟩ := open_grow 31 35 6 Try.underlying31 Try.cellsCon (by decide) (conC W) conN ConT.fits open_con _ _ _ g1
    obtain ⟨s, hv2, rfl, ws⟩ := DataW.trod_int Try.underlying3 g2
    simp at hv0 hv1 hv2
    subst hv0 hv1 hv2
    rw [sumN_sorts] at hSS
    rw [sumN_cons] at hSC
    refine ⟨⟨S, C, s⟩, v0, v1, ?_, ⟨hS, hC⟩, ⟨hFS, hFC, i64_of_wf ws⟩, ?_⟩
    · obtain ⟨l⟩ := cs
      simp [Value.cells] at hcs
      rw [hcs]; rfl
    · have hd1 := congrArg Prod.fst hd
      simp only at hd1
      rw [hd1]
      simp only [blkN, List.map_cons, List.map_nil, Rows.uptoBulk, Rows.uptoBulkAll]
      omega
end Go.Proofs.Ytggefpkfikimiaa
