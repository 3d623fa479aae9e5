/- An argument that is a row of terms: what reads as one is a row of trees in memory, no greater than its reading. -/
import Derived.Test.YtcegocmndfoflaaOp
namespace Go.Proofs.Ytcegocmndfoflaa
open Go.ChangeShapes Go.WideShapes Go.ChangeAt Go.RowKit Go.Deep

set_option maxRecDepth 100000 in
theorem open_trow {H : Type} {enc : TypeId × Value → H} {w : World} {base : Nat} {sp : Nat → Bool} {hd : Bool} (fuel : Nat) (cs : List Value) (x : DataW H × List MemPlace) (h : DataW.trod enc Try.prog w base sp hd fuel 40 cs = some x) :
    ∃ (A : List Tm) (sv : Value), cs = [sv] ∧ At w A sv ∧ (∀ u ∈ A, Fits u) ∧ sizeL A ≤ Rows.uptoBulk x.1 := by
  rcases DataW.trod_slice Try.underlying40 h with ⟨hcs, rfl⟩ | ⟨a, len, cap, elems, rest, m', rfl, hcs, rfl, hb, hl, hm, hlen, hel, _, _⟩
  · exact ⟨[], .slice none 0 0, by simpa using hcs, .nl, by simp, by simp [sizeL]⟩
  · rw [Try.cellsT] at hel
    have key : ∀ i, i < len → ∃ r : Tm × Value, w.cell? (a.add (i * 3)) = some (.int .i64 r.1.k) ∧ w.cell? (a.add (i * 3 + 1)) = some (.int .i64 r.1.n) ∧ w.cell? (a.add (i * 3 + 2)) = some r.2 ∧ At w r.1.kids r.2 ∧ Fits r.1 ∧
        ∃ y, elems[i]? = some y ∧ size r.1 ≤ Rows.uptoBulk y.1 := fun i hi => by
      have he := hel i hi
      have hi' : i < elems.length := by omega
      rw [List.getElem?_eq_getElem hi'] at he
      obtain ⟨cs', h1, h2⟩ := Option.bind_eq_some_iff.1 he
      obtain ⟨t, sv, rfl, hA, hF, hS⟩ := open_tm m' cs' _ h2
      obtain ⟨_, _, hc⟩ := World.cells?_some h1
      have c0 := hc 0 (by omega)
      have c1 := hc 1 (by omega)
      have c2 := hc 2 (by omega)
      rw [add_add] at c0 c1 c2
      exact ⟨(t, sv), by simpa using c0, by simpa using c1, by simpa using c2, hA, hF, _, List.getElem?_eq_getElem hi', hS⟩
    obtain ⟨F, hF⟩ := choose_lt (α := Tm × Value) key
    have hlF : ((List.range len).map fun i => (F i).1).length = len := by simp
    have hget : ∀ i (h : i < ((List.range len).map fun i => (F i).1).length), ((List.range len).map fun i => (F i).1)[i] = (F i).1 := fun i h => by simp
    refine ⟨(List.range len).map fun i => (F i).1, .slice (some a) len cap, by simpa using hcs, ?_, ?_, ?_⟩
    · by_cases h0 : len = 0
      · subst h0; exact .em a cap
      · obtain ⟨b, off, spot⟩ := a
        have hspot : spot = none := by
          have := World.cell?_spot (hF 0 (by omega)).1
          simpa [Addr.add] using this
        subst hspot
        have hrow := At.row (w := w) ((List.range len).map fun i => (F i).1) b off cap (fun i => (F i).2) (by simpa using hl) hm
          (fun i h => by rw [hget i h]; have := (hF i (by simpa using h)).1; rwa [add_plain] at this)
          (fun i h => by rw [hget i h]; have := (hF i (by simpa using h)).2.1; rwa [add_plain, ← Nat.add_assoc] at this)
          (fun i h => by have := (hF i (by simpa using h)).2.2.1; rwa [add_plain, ← Nat.add_assoc] at this)
          (fun i h => by rw [hget i h]; exact (hF i (by simpa using h)).2.2.2.1)
        rwa [hlF] at hrow
    · intro u hu
      obtain ⟨i, hi, rfl⟩ := List.mem_map.1 hu
      exact (hF i (by simpa using hi)).2.2.2.2.1
    · have hs := sizes_le ((List.range len).map fun i => (F i).1) (elems.map (·.1)) (by simp [hlen]) fun i h1 h2 => by
        have hi : i < len := by simpa using h1
        obtain ⟨y, hy, hsz⟩ := (hF i hi).2.2.2.2.2
        rw [hget i h1]
        have : (elems.map (·.1))[i] = y.1 := by
          have hi' : i < elems.length := by omega
          rw [List.getElem?_eq_getElem hi'] at hy
          simp at hy
          simp [hy]
        rw [this]; exact hsz
      simp only [Rows.uptoBulk]
      omega
set_option maxRecDepth 100000 in
theorem open_termRow {H : Type} {enc : TypeId × Value → H} {W : World} {base : Nat} {v : Value} {d : DataW H} {p : List MemPlace} (hv : Value.okWide Try.prog W .any base 40 v) (h : DataW.Trod enc Try.prog W 0 (fun _ => true) true 40 v d p) :
    ∃ A : List Tm, At W A v ∧ (∀ u ∈ A, Fits u) ∧ sizeL A ≤ Rows.uptoBulk d := by
  obtain ⟨a1, len, cap, rfl⟩ := okWide_slice Try.underlying40 hv
  obtain ⟨fuel, hf⟩ := h
  obtain ⟨A, sv, hcs, hA, hF, hS⟩ := open_trow fuel _ _ hf
  simp [Value.cells] at hcs
  exact ⟨A, by rw [hcs]; exact hA, hF, hS⟩
end Go.Proofs.Ytcegocmndfoflaa
