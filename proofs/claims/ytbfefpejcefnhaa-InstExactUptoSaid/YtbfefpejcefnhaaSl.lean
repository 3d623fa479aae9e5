/- Package shift's Lower: what it returns for any term and any integer. -/
import Derived.Test.YtbfefpejcefnhaaSf
import Derived.Test.YtbfefpejcefnhaaRo
namespace Go.Proofs.Ytbfefpejcefnhaa
open Go.RowKit Go Go.Joins
set_option linter.unusedVariables false

set_option maxRecDepth 100000 in
set_option maxHeartbeats 2000000 in
theorem lower_any (t : Tm) (hF : Fits t) (hs : size t ≤ 1048576) (n : Int) (w : World) (v : Value) (hA : At w t.kids v) :
    Calls Try.prog 25 #[.agg #[.int .i64 t.k, .int .i64 t.n, v], .int .i64 n] w (TellK w (lowerT t n) (.bool (lowerB t n))) := by
  obtain ⟨a, cap, rfl⟩ := hA.shape
  obtain ⟨W, hW⟩ : ∃ W, W = ((w.alloc (.cells #[.int .i64 t.k, .int .i64 t.n, .slice a t.kids.length cap] 24)).alloc (.cells #[.int .i64 n] 3)).alloc (.cells #[.int .i64 0, .int .i64 0, .slice none 0 0] 24) := ⟨_, rfl⟩
  have hz : W.heap.size = w.heap.size + 3 := by rw [hW]; simp
  have HB : Hid (∀ W', Below W.heap.size W W' → (W'.cell? ⟨w.heap.size, 0, none⟩ = some (.int .i64 t.k) ∧ W'.cell? ⟨w.heap.size, 1, none⟩ = some (.int .i64 t.n) ∧ W'.cell? ⟨w.heap.size, 2, none⟩ = some (.slice a t.kids.length cap)) ∧ W'.cell? ⟨w.heap.size + 1, 0, none⟩ = some (.int .i64 n) ∧
      W'.heap[w.heap.size + 1 + 1]? = some (.cells #[.int .i64 0, .int .i64 0, .slice none 0 0] 24 (0, 0)) ∧ At W' t.kids (.slice a t.kids.length cap) ∧ Below w.heap.size w W' ∧ w.heap.size + 3 ≤ W'.heap.size) := fun W' hb => by
    have hbW : Below w.heap.size w W := by rw [hW]; exact (((Below.refl _ w).alloc (Nat.le_refl _) _).alloc (by simp) _).alloc (by simp; omega) _
    have hn := World.alloc_heap_new ((w.alloc (.cells #[.int .i64 t.k, .int .i64 t.n, .slice a t.kids.length cap] 24)).alloc (.cells #[.int .i64 n] 3)) (.cells #[.int .i64 0, .int .i64 0, .slice none 0 0] 24)
    simp only [World.size_alloc] at hn
    rw [← hW] at hn
    refine ⟨⟨gcell hb ?_, gcell hb ?_, gcell hb ?_⟩, gcell hb ?_, (hb.block _ (by omega)).trans hn, hA.bel (hbW.trans (hb.mono (by omega))) (Nat.le_refl _), hbW.trans (hb.mono (by omega)), by have := hb.size; omega⟩
    all_goals (rw [hW]; simp [go_sem])
  have HC := Lib.hid (c_check t hF hs W (.slice a t.kids.length cap) (HB.out W (Below.refl _ _)).2.2.2.1)
  by_cases hc : checkE t = 0
  · rw [hc] at HC
    have HWN := Lib.hid (within_any n)
    by_cases hn : inR n
    · rw [decide_eq_true hn] at HWN
      have HR := Lib.hid (renL_any n trivial t (check_formed hc) 0)
      have hck := check_parts hc
      have hok := lowerP_ok (m := n) t 0 (check_formed hc)
      rw [lowerG_map] at HR
      rw [Int.add_zero] at hok
      have hd0 : (0 : Int) + depth t ≤ 1000 := by omega
      have hE : lowerB t n = okT (lowerP n) t 0 := by rw [hok, lowerB, Bool.eq_iff_iff, decide_eq_true_eq, decide_eq_true_eq]; exact ⟨fun h => h.2.2, fun h => ⟨hc, hn, h⟩⟩
      rw [hE]
      have hT : lowerT t n = if okT (lowerP n) t 0 = true then lessT t n else noT := by rw [lowerT, hE]
      rw [hT]
      generalize okT (lowerP n) t 0 = p at HR
      generalize lessT t n = r at *
      subst hW
      clear hA hE hz hc hck hok hT
      cases p with
      | false =>
        rw [if_neg (by decide)]
        go_enter Try.func25, Try.ntmps25
        go_wp2_with fail
        refine HC.out.mono ?_
        rintro e w1 ⟨rfl, hb1⟩
        obtain ⟨⟨x0, x1, x2⟩, x3, x5, x6, x7, x8⟩ := HB.out w1 hb1
        have X7 := Lib.hid x7
        have X5 := Lib.hid x5
        have HR2 := Lib.hid (HR.out w1 (.slice a t.kids.length cap) (w.heap.size + 1) (Int.le_refl _) hd0 x3 x6)
        clear hb1 x6 x5 x7 HR
        go_wp2_with fail
        refine (HWN.out _).mono ?_
        rintro e w2 ⟨rfl, rfl⟩
        go_wp2_with fail
        refine HR2.out.mono ?_
        rintro e w3 ⟨hb3, hno, hso⟩
        obtain rfl := hno rfl
        have hz3 := hb3.size
        have hx3 := (hb3.block (w.heap.size + 1 + 1) (by omega)).trans X5.out
        have X8 := Lib.hid (X7.out.trans (hb3.mono (by omega)))
        obtain ⟨⟨c0, c1, c2⟩, g0, g1, g2⟩ := boxc hx3
        clear hb3 hno hso hx3 x0 x1 x2 x3
        go_wp2_with fail
        exact bodyPost_ret (v := .tuple #[.agg #[.int .i64 0, .int .i64 0, .slice none 0 0], .bool false]) (by simp [results, Try.f25, go_sem, c0, c1, c2]) rfl (TellK.no _ (X8.out.trans (below_store3 (by omega) _ _ _)))
      | true =>
        rw [if_pos rfl]
        go_enter Try.func25, Try.ntmps25
        go_wp2_with fail
        refine HC.out.mono ?_
        rintro e w1 ⟨rfl, hb1⟩
        obtain ⟨⟨x0, x1, x2⟩, x3, x5, x6, x7, x8⟩ := HB.out w1 hb1
        have X7 := Lib.hid x7
        have X5 := Lib.hid x5
        have HR2 := Lib.hid (HR.out w1 (.slice a t.kids.length cap) (w.heap.size + 1) (Int.le_refl _) hd0 x3 x6)
        clear hb1 x6 x5 x7 HR
        go_wp2_with fail
        refine (HWN.out _).mono ?_
        rintro e w2 ⟨rfl, rfl⟩
        go_wp2_with fail
        refine HR2.out.mono ?_
        rintro e w3 ⟨hb3, hno, hso⟩
        obtain ⟨a4, c4, rfl, hK4⟩ := hso rfl
        have hz3 := hb3.size
        have hx3 := (hb3.block (w.heap.size + 1 + 1) (by omega)).trans X5.out
        have X8 := Lib.hid (X7.out.trans (hb3.mono (by omega)))
        obtain ⟨⟨c0, c1, c2⟩, g0, g1, g2⟩ := boxc hx3
        have HK4 := Lib.hid hK4
        clear hb3 hno hso hx3 x0 x1 x2 x3 hK4
        go_wp2_with fail
        exact bodyPost_ret (v := .tuple #[.agg #[.int .i64 r.k, .int .i64 r.n, .slice a4 r.kids.length c4], .bool true]) (by simp [results, Try.f25, go_sem, c0, c1, c2]) rfl ⟨a4, c4, rfl, HK4.out.same fun b' hb' => ⟨⟨by omega, by simp; omega⟩, other_store3 (by omega) _ _ _⟩, X8.out.trans (below_store3 (by omega) _ _ _)⟩
    · rw [decide_eq_false hn] at HWN
      have hE : lowerB t n = false := by rw [lowerB, decide_eq_false_iff_not]; exact fun h => hn h.2.1
      have hT : lowerT t n = noT := by rw [lowerT, hE]; rfl
      rw [hE, hT]
      subst hW
      clear hA hE hT hz hc
      go_enter Try.func25, Try.ntmps25
      go_wp2_with fail
      refine HC.out.mono ?_
      rintro e w1 ⟨rfl, hb1⟩
      obtain ⟨⟨x0, x1, x2⟩, x3, x5, x6, x7, x8⟩ := HB.out w1 hb1
      obtain ⟨⟨c0, c1, c2⟩, g0, g1, g2⟩ := boxc x5
      have X7 := Lib.hid x7
      clear hb1 x6 x5 x7
      go_wp2_with fail
      refine (HWN.out _).mono ?_
      rintro e w2 ⟨rfl, rfl⟩
      go_wp2_with fail
      exact bodyPost_ret (v := .tuple #[.agg #[.int .i64 0, .int .i64 0, .slice none 0 0], .bool false]) (by simp [results, Try.f25, go_sem, c0, c1, c2]) rfl (TellK.no _ (X7.out.trans (below_store3 (by omega) _ _ _)))
  · have e1 : (checkE t != 0) = true := by simpa using hc
    have hE : lowerB t n = false := by rw [lowerB, decide_eq_false_iff_not]; exact fun h => hc h.1
    have hT : lowerT t n = noT := by rw [lowerT, hE]; rfl
    rw [hE, hT]
    generalize checkE t = ce at *
    subst hW
    clear hA hE hT hz hc
    go_enter Try.func25, Try.ntmps25
    go_wp2_with fail
    refine HC.out.mono ?_
    rintro e w1 ⟨rfl, hb1⟩
    obtain ⟨⟨x0, x1, x2⟩, x3, x5, x6, x7, x8⟩ := HB.out w1 hb1
    obtain ⟨⟨c0, c1, c2⟩, g0, g1, g2⟩ := boxc x5
    have X7 := Lib.hid x7
    clear hb1 x6 x5 x7
    go_wp2_with fail
    exact bodyPost_ret (v := .tuple #[.agg #[.int .i64 0, .int .i64 0, .slice none 0 0], .bool false]) (by simp [results, Try.f25, go_sem, c0, c1, c2]) rfl (TellK.no _ (X7.out.trans (below_store3 (by omega) _ _ _)))
end Go.Proofs.Ytbfefpejcefnhaa
