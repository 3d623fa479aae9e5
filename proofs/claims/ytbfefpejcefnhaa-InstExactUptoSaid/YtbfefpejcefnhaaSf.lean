/- Package shift's Shift: what it returns for any term and any integers. -/
import Derived.Test.YtbfefpejcefnhaaRn
namespace Go.Proofs.Ytbfefpejcefnhaa
open Go.RowKit Go Go.Joins
set_option linter.unusedVariables false

/-- A term that is told beside something: its Kids lie in new rows. -/
def TellK (w : World) (r : Tm) (x : Value) (e : Ending) (w' : World) : Prop := ∃ a cap, e = .returned (.tuple #[.agg #[.int .i64 r.k, .int .i64 r.n, .slice a r.kids.length cap], x]) ∧ AtK (fun b => w.heap.size ≤ b ∧ b < w'.heap.size) w' r.kids (.slice a r.kids.length cap) ∧ Below w.heap.size w w'
theorem TellK.no {w w' : World} (x : Value) (hb : Below w.heap.size w w') : TellK w noT x (.returned (.tuple #[.agg #[.int .i64 0, .int .i64 0, .slice none 0 0], x])) w' := ⟨none, 0, rfl, .nl, hb⟩
set_option maxRecDepth 100000 in
set_option maxHeartbeats 2000000 in
theorem shift_any (t : Tm) (hF : Fits t) (hs : size t ≤ 1048576) (b f : Int) (w : World) (v : Value) (hA : At w t.kids v) :
    Calls Try.prog 23 #[.agg #[.int .i64 t.k, .int .i64 t.n, v], .int .i64 b, .int .i64 f] w (TellK w (shiftT t b f) (.int .i64 (shiftE t b f))) := by
  obtain ⟨a, cap, rfl⟩ := hA.shape
  obtain ⟨W, hW⟩ : ∃ W, W = (((w.alloc (.cells #[.int .i64 t.k, .int .i64 t.n, .slice a t.kids.length cap] 24)).alloc (.cells #[.int .i64 b] 3)).alloc (.cells #[.int .i64 f] 3)).alloc (.cells #[.int .i64 0, .int .i64 0, .slice none 0 0] 24) := ⟨_, rfl⟩
  have hz : W.heap.size = w.heap.size + 4 := by rw [hW]; simp
  have HB : Hid (∀ W', Below W.heap.size W W' → (W'.cell? ⟨w.heap.size, 0, none⟩ = some (.int .i64 t.k) ∧ W'.cell? ⟨w.heap.size, 1, none⟩ = some (.int .i64 t.n) ∧ W'.cell? ⟨w.heap.size, 2, none⟩ = some (.slice a t.kids.length cap)) ∧ W'.cell? ⟨w.heap.size + 1, 0, none⟩ = some (.int .i64 b) ∧ W'.cell? ⟨w.heap.size + 1 + 1, 0, none⟩ = some (.int .i64 f) ∧
      W'.heap[w.heap.size + 1 + 1 + 1]? = some (.cells #[.int .i64 0, .int .i64 0, .slice none 0 0] 24 (0, 0)) ∧ At W' t.kids (.slice a t.kids.length cap) ∧ Below w.heap.size w W' ∧ w.heap.size + 4 ≤ W'.heap.size) := fun W' hb => by
    have hbW : Below w.heap.size w W := by rw [hW]; exact ((((Below.refl _ w).alloc (Nat.le_refl _) _).alloc (by simp) _).alloc (by simp; omega) _).alloc (by simp; omega) _
    have hn := World.alloc_heap_new (((w.alloc (.cells #[.int .i64 t.k, .int .i64 t.n, .slice a t.kids.length cap] 24)).alloc (.cells #[.int .i64 b] 3)).alloc (.cells #[.int .i64 f] 3)) (.cells #[.int .i64 0, .int .i64 0, .slice none 0 0] 24)
    simp only [World.size_alloc] at hn
    rw [← hW] at hn
    refine ⟨⟨gcell hb ?_, gcell hb ?_, gcell hb ?_⟩, gcell hb ?_, gcell hb ?_, (hb.block _ (by omega)).trans hn, hA.bel (hbW.trans (hb.mono (by omega))) (Nat.le_refl _), hbW.trans (hb.mono (by omega)), by have := hb.size; omega⟩
    all_goals (rw [hW]; simp [go_sem])
  have HC := Lib.hid (c_check t hF hs W (.slice a t.kids.length cap) (HB.out W (Below.refl _ _)).2.2.2.2.1)
  have hcr := check_range t
  by_cases hc : checkE t = 0
  · rw [hc] at HC
    have HWB := Lib.hid (within_any b)
    have HWF := Lib.hid (within_any f)
    by_cases hb : inR b
    · rw [decide_eq_true hb] at HWB
      by_cases hf : inR f
      · rw [decide_eq_true hf] at HWF
        have hE := shift_in hc hb hf
        have HR := Lib.hid (renS_any b f hb t (check_formed hc) 0)
        have hck := check_parts hc
        have hok := shiftP_ok (f := f) hb.1 t 0 (check_formed hc)
        rw [shiftG_map] at hok HR
        have hd0 : (0 : Int) + depth t ≤ 1000 := by omega
        generalize okT (shiftP b f) t 0 = p at hok HR
        have HE : Hid (p = false → shiftE t b f = 6 ∧ shiftT t b f = noT) := fun hp => by
          rw [hp] at hok
          have h6 : shiftE t b f = 6 := by rw [hE, if_pos (by simpa using hok.symm)]
          exact ⟨h6, by rw [shiftT, if_neg (by rw [h6]; decide)]⟩
        have HE2 : Hid (p = true → shiftE t b f = 0 ∧ shiftT t b f = moveT t b f) := fun hp => by
          rw [hp] at hok
          have h6 : shiftE t b f = 0 := by rw [hE, if_neg (by simpa using hok.symm)]
          exact ⟨h6, by rw [shiftT, if_pos h6]⟩
        generalize shiftE t b f = ce at *
        generalize shiftT t b f = r at *
        generalize moveT t b f = r2 at *
        subst hW
        clear hA hcr hE hz hc hck hok
        go_enter Try.func23, Try.ntmps23
        go_wp2_with fail
        refine HC.out.mono ?_
        rintro e w1 ⟨rfl, hb1⟩
        obtain ⟨⟨x0, x1, x2⟩, x3, x4, x5, x6, x7, x8⟩ := HB.out w1 hb1
        have X7 := Lib.hid x7
        have X5 := Lib.hid x5
        have HR2 := Lib.hid (HR.out w1 (.slice a t.kids.length cap) (w.heap.size + 1 + 1) (w.heap.size + 1) (Int.le_refl _) hd0 ⟨x4, x3⟩ x6)
        clear hb1 x6 x5 x7 HR
        go_wp2_with fail
        refine (HWB.out _).mono ?_
        rintro e w2 ⟨rfl, rfl⟩
        go_wp2_with fail
        refine (HWF.out _).mono ?_
        rintro e w2 ⟨rfl, rfl⟩
        go_wp2_with fail
        refine HR2.out.mono ?_
        rintro e w3 ⟨hb3, hno, hso⟩
        have hz3 := hb3.size
        have hx3 := (hb3.block (w.heap.size + 1 + 1 + 1) (by omega)).trans X5.out
        have X8 := Lib.hid (X7.out.trans (hb3.mono (by omega)))
        cases p with
        | false =>
          obtain rfl := hno rfl
          obtain ⟨rfl, rfl⟩ := HE.out rfl
          have hx4 := (Below.heap_alloc w3 (.cells #[.int .i64 0, .int .i64 0, .slice none 0 0] 24) (w.heap.size + 1 + 1 + 1) (by omega)).trans hx3
          obtain ⟨⟨c0, c1, c2⟩, g0, g1, g2⟩ := boxc hx4
          clear hb3 hno hso hx3 hx4 x0 x1 x2 x3 x4
          go_wp2_with fail
          exact bodyPost_ret (v := .tuple #[.agg #[.int .i64 0, .int .i64 0, .slice none 0 0], .int .i64 6]) (by simp [results, Try.f23, go_sem, c0, c1, c2]) rfl (TellK.no _ ((X8.out.alloc (by omega) _).trans (below_store3 (by omega) _ _ _)))
        | true =>
          obtain ⟨a4, c4, rfl, hK4⟩ := hso rfl
          obtain ⟨rfl, rfl⟩ := HE2.out rfl
          have hx4 := (Below.heap_alloc w3 (.cells #[.int .i64 r.k, .int .i64 r.n, .slice a4 r.kids.length c4] 24) (w.heap.size + 1 + 1 + 1) (by omega)).trans hx3
          obtain ⟨⟨c0, c1, c2⟩, g0, g1, g2⟩ := boxc hx4
          have HK4 := Lib.hid hK4
          clear hb3 hno hso hx3 hx4 x0 x1 x2 x3 x4 hK4
          go_wp2_with fail
          exact bodyPost_ret (v := .tuple #[.agg #[.int .i64 r.k, .int .i64 r.n, .slice a4 r.kids.length c4], .int .i64 0]) (by simp [results, Try.f23, go_sem, c0, c1, c2]) rfl ⟨a4, c4, rfl, HK4.out.same fun b' hb' => ⟨⟨by omega, by simp; omega⟩, (other_store3 (by omega) _ _ _).trans (Below.heap_alloc w3 _ b' hb'.2)⟩, (X8.out.alloc (by omega) _).trans (below_store3 (by omega) _ _ _)⟩
      · rw [decide_eq_false hf] at HWF
        have hE : shiftE t b f = 1 := by rw [shiftE, if_neg (by simpa using hc), if_pos (fun h => hf h.2)]
        have hT : shiftT t b f = noT := by rw [shiftT, if_neg (by rw [hE]; decide)]
        rw [hE, hT]
        subst hW
        clear hA hcr hE hT hz hc
        go_enter Try.func23, Try.ntmps23
        go_wp2_with fail
        refine HC.out.mono ?_
        rintro e w1 ⟨rfl, hb1⟩
        obtain ⟨⟨x0, x1, x2⟩, x3, x4, x5, x6, x7, x8⟩ := HB.out w1 hb1
        obtain ⟨⟨c0, c1, c2⟩, g0, g1, g2⟩ := boxc x5
        have X7 := Lib.hid x7
        clear hb1 x6 x5 x7
        go_wp2_with fail
        refine (HWB.out _).mono ?_
        rintro e w2 ⟨rfl, rfl⟩
        go_wp2_with fail
        refine (HWF.out _).mono ?_
        rintro e w2 ⟨rfl, rfl⟩
        go_wp2_with fail
        exact bodyPost_ret (v := .tuple #[.agg #[.int .i64 0, .int .i64 0, .slice none 0 0], .int .i64 1]) (by simp [results, Try.f23, go_sem, c0, c1, c2]) rfl (TellK.no _ (X7.out.trans (below_store3 (by omega) _ _ _)))
    · rw [decide_eq_false hb] at HWB
      have hE : shiftE t b f = 1 := by rw [shiftE, if_neg (by simpa using hc), if_pos (fun h => hb h.1)]
      have hT : shiftT t b f = noT := by rw [shiftT, if_neg (by rw [hE]; decide)]
      rw [hE, hT]
      subst hW
      clear hA hcr hE hT hz hc
      go_enter Try.func23, Try.ntmps23
      go_wp2_with fail
      refine HC.out.mono ?_
      rintro e w1 ⟨rfl, hb1⟩
      obtain ⟨⟨x0, x1, x2⟩, x3, x4, x5, x6, x7, x8⟩ := HB.out w1 hb1
      obtain ⟨⟨c0, c1, c2⟩, g0, g1, g2⟩ := boxc x5
      have X7 := Lib.hid x7
      clear hb1 x6 x5 x7
      go_wp2_with fail
      refine (HWB.out _).mono ?_
      rintro e w2 ⟨rfl, rfl⟩
      go_wp2_with fail
      exact bodyPost_ret (v := .tuple #[.agg #[.int .i64 0, .int .i64 0, .slice none 0 0], .int .i64 1]) (by simp [results, Try.f23, go_sem, c0, c1, c2]) rfl (TellK.no _ (X7.out.trans (below_store3 (by omega) _ _ _)))
  · have e1 : (checkE t != 0) = true := by simpa using hc
    have hE : shiftE t b f = checkE t := shift_bad hc
    have hT : shiftT t b f = noT := by rw [shiftT, if_neg (by rw [hE]; exact hc)]
    rw [hE, hT]
    generalize checkE t = ce at *
    subst hW
    clear hA hcr hE hT hz hc
    go_enter Try.func23, Try.ntmps23
    go_wp2_with fail
    refine HC.out.mono ?_
    rintro e w1 ⟨rfl, hb1⟩
    obtain ⟨⟨x0, x1, x2⟩, x3, x4, x5, x6, x7, x8⟩ := HB.out w1 hb1
    obtain ⟨⟨c0, c1, c2⟩, g0, g1, g2⟩ := boxc x5
    have X7 := Lib.hid x7
    clear hb1 x6 x5 x7
    go_wp2_with fail
    exact bodyPost_ret (v := .tuple #[.agg #[.int .i64 0, .int .i64 0, .slice none 0 0], .int .i64 ce]) (by simp [results, Try.f23, go_sem, c0, c1, c2]) rfl (TellK.no _ (X7.out.trans (below_store3 (by omega) _ _ _)))
end Go.Proofs.Ytbfefpejcefnhaa
