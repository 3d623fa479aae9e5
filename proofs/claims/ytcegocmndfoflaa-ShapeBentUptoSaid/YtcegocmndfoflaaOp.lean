/- An argument that is a term: what reads as one is a tree in memory, no greater than its reading. -/
import Derived.Test.YtcegocmndfoflaaRows
import Derived.Test.YtcegocmndfoflaaTm
import Derived.Deep.Slices
import Derived.ChangeShapes
import Derived.ChangeSame
import Derived.Carry
import Derived.JoinedCond
import Derived.ProofKit
import Derived.OpenShut
namespace Go.Proofs.Ytcegocmndfoflaa
open Go.ChangeShapes Go.WideShapes Go.ChangeAt Go.RowKit Go.Deep

theorem Try.cellsT : Try.prog.cellsOf 42 = 3 := by kernel_rfl
theorem Try.cellsI : Try.prog.cellsOf 3 = 1 := by kernel_rfl
theorem Try.cellsS : Try.prog.cellsOf 40 = 1 := by kernel_rfl

theorem bulk_append {H : Type} (a b : List (DataW H)) : Rows.uptoBulkAll (a ++ b) = Rows.uptoBulkAll a + Rows.uptoBulkAll b := by
  induction a with
  | nil => simp [Rows.uptoBulkAll]
  | cons x a ih => simp only [List.cons_append, Rows.uptoBulkAll, ih]; omega
theorem i64_of_wf {x : Int} (h : (Lit.int .i64 x).wf = true) : I64 x := by
  simp [Lit.wf, IntKind.min, IntKind.max, IntKind.signed, IntKind.bits] at h
  unfold I64; omega

/-- The sizes of a row of trees, index by index, against a row of readings. -/
theorem sizes_le {H : Type} (l : List Tm) (ds : List (DataW H)) (hl : l.length = ds.length) (h : ∀ i (h1 : i < l.length) (h2 : i < ds.length), size l[i] ≤ Rows.uptoBulk ds[i]) : sizeL l ≤ Rows.uptoBulkAll ds := by
  induction l generalizing ds with
  | nil => simp [sizeL]
  | cons t l ih =>
    cases ds with
    | nil => simp at hl
    | cons d ds =>
      have h0 := h 0 (by simp) (by simp)
      have hr := ih ds (by simpa using hl) fun i h1 h2 => by
        have := h (i + 1) (by simp; omega) (by simp; omega)
        simpa using this
      simp only [sizeL, Rows.uptoBulkAll]
      simp at h0
      omega

set_option maxRecDepth 100000 in
theorem open_tm {H : Type} {enc : TypeId × Value → H} {w : World} {base : Nat} {sp : Nat → Bool} {hd : Bool} : ∀ (fuel : Nat) (cs : List Value) (x : DataW H × List MemPlace), DataW.trod enc Try.prog w base sp hd fuel 42 cs = some x →
    ∃ (t : Tm) (sv : Value), cs = [.int .i64 t.k, .int .i64 t.n, sv] ∧ At w t.kids sv ∧ Fits t ∧ size t ≤ Rows.uptoBulk x.1 := by
  intro fuel
  induction fuel using Nat.strongRecOn with
  | _ fuel ih =>
    intro cs x h
    obtain ⟨xs, m, rfl, rfl, hl, hlen, hf⟩ := DataW.trod_struct Try.underlying42 h
    rw [Try.cellsT] at hl
    match xs, hlen, cs, hl with
    | [y0, y1, y2], _, [v0, v1, v2], _ =>
      have g0 := hf 0 _ rfl
      have g1 := hf 1 _ rfl
      have g2 := hf 2 _ rfl
      simp [Try.cellsI, Try.cellsS] at g0 g1 g2
      obtain ⟨k, hv, rfl, wk⟩ := DataW.trod_int Try.underlying3 g0
      obtain ⟨n, hv', rfl, wn⟩ := DataW.trod_int Try.underlying3 g1
      simp at hv hv'
      subst hv
      subst hv'
      rcases DataW.trod_slice Try.underlying40 g2 with ⟨hcs, rfl⟩ | ⟨a, len, cap, elems, rest, m', rfl, hcs, rfl, hb, hl, hm, hlen, hel, _, _⟩
      · simp at hcs
        subst hcs
        refine ⟨.node k n [], .slice none 0 0, rfl, .nl, .mk _ _ _ (i64_of_wf wk) (i64_of_wf wn) (by simp), ?_⟩
        simp [size, sizeL, Rows.uptoBulk, Rows.uptoBulkAll]
      · simp at hcs
        subst hcs
        rw [Try.cellsT] at hel
        have key : ∀ i, i < len → ∃ r : Tm × Value, w.cell? (a.add (i * 3)) = some (.int .i64 r.1.k) ∧ w.cell? (a.add (i * 3 + 1)) = some (.int .i64 r.1.n) ∧ w.cell? (a.add (i * 3 + 2)) = some r.2 ∧ At w r.1.kids r.2 ∧ Fits r.1 ∧
            ∃ y, elems[i]? = some y ∧ size r.1 ≤ Rows.uptoBulk y.1 := fun i hi => by
          have he := hel i hi
          have hi' : i < elems.length := by omega
          rw [List.getElem?_eq_getElem hi'] at he
          obtain ⟨cs', h1, h2⟩ := Option.bind_eq_some_iff.1 he
          obtain ⟨t, sv, rfl, hA, hF, hS⟩ := ih m' (by omega) cs' _ h2
          obtain ⟨_, _, hc⟩ := World.cells?_some h1
          have c0 := hc 0 (by omega)
          have c1 := hc 1 (by omega)
          have c2 := hc 2 (by omega)
          rw [add_add] at c0 c1 c2
          exact ⟨(t, sv), by simpa using c0, by simpa using c1, by simpa using c2, hA, hF, _, List.getElem?_eq_getElem hi', hS⟩
        obtain ⟨F, hF⟩ := choose_lt (α := Tm × Value) key
        have hlF : ((List.range len).map fun i => (F i).1).length = len := by simp
        have hget : ∀ i (h : i < ((List.range len).map fun i => (F i).1).length), ((List.range len).map fun i => (F i).1)[i] = (F i).1 := fun i h => by simp
        refine ⟨.node k n ((List.range len).map fun i => (F i).1), .slice (some a) len cap, rfl, ?_, .mk _ _ _ (i64_of_wf wk) (i64_of_wf wn) ?_, ?_⟩
        · show At w ((List.range len).map fun i => (F i).1) (.slice (some a) len cap)
          by_cases h0 : len = 0
          · subst h0; exact .em a cap
          · obtain ⟨b, off, spot⟩ := a
            have hspot : spot = none := by
              have := World.cell?_spot (hF 0 (by omega)).1
              simpa [Addr.add] using this
            subst hspot
            have hrow := At.row (w := w) ((List.range len).map fun i => (F i).1) b off cap (fun i => (F i).2) (by simpa using hl) hm
              (fun i h => by rw [hget i h]; have := (hF i (by simpa using h)).1; rwa [add_plain] at this)
              (fun i h => by rw [hget i h]; have := (hF i (by simpa using h)).2.1; rwa [add_plain, ← Nat.add_assoc] at this)
              (fun i h => by have := (hF i (by simpa using h)).2.2.1; rwa [add_plain, ← Nat.add_assoc] at this)
              (fun i h => by rw [hget i h]; exact (hF i (by simpa using h)).2.2.2.1)
            rwa [hlF] at hrow
        · intro u hu
          obtain ⟨i, hi, rfl⟩ := List.mem_map.1 hu
          exact (hF i (by simpa using hi)).2.2.2.2.1
        · have hs := sizes_le ((List.range len).map fun i => (F i).1) (elems.map (·.1)) (by simp [hlen]) fun i h1 h2 => by
            have hi : i < len := by simpa using h1
            obtain ⟨y, hy, hsz⟩ := (hF i hi).2.2.2.2.2
            rw [hget i h1]
            have : (elems.map (·.1))[i] = y.1 := by
              have hi' : i < elems.length := by omega
              rw [List.getElem?_eq_getElem hi'] at hy
              simp at hy
              simp [hy]
            rw [this]; exact hsz
          simp only [size, Rows.uptoBulk, Rows.uptoBulkAll, List.map_cons, List.map_nil]
          omega

set_option maxRecDepth 100000 in
theorem open_term {H : Type} {enc : TypeId × Value → H} {W : World} {base : Nat} {v : Value} {d : DataW H} {p : List MemPlace} (hv : Value.okWide Try.prog W .any base 42 v) (h : DataW.Trod enc Try.prog W 0 (fun _ => true) true 42 v d p) :
    ∃ (t : Tm) (sv : Value), v = tv t sv ∧ At W t.kids sv ∧ Fits t ∧ size t ≤ Rows.uptoBulk d := by
  obtain ⟨cs, rfl, hsz⟩ := okWide_struct Try.underlying42 hv
  obtain ⟨fuel, hf⟩ := h
  obtain ⟨t, sv, hcs, hA, hF, hS⟩ := open_tm fuel _ _ hf
  refine ⟨t, sv, ?_, hA, hF, hS⟩
  obtain ⟨l⟩ := cs
  simp [Value.cells] at hcs
  rw [hcs]; rfl
end Go.Proofs.Ytcegocmndfoflaa
