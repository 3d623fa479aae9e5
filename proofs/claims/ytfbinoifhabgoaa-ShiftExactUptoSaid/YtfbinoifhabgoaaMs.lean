/- The page's Shift and Lower: what they return for any term and any integers. -/
import Derived.Test.YtfbinoifhabgoaaMv
import Derived.Test.YtfbinoifhabgoaaMl
import Derived.Test.YtfbinoifhabgoaaRe
import Derived.Test.YtfbinoifhabgoaaRk
namespace Go.Proofs.Ytfbinoifhabgoaa
open Go.RowKit Go Go.Joins
set_option linter.unusedVariables false

theorem TellS.no {w w' : World} (x : Value) (hb : Below w.heap.size w w') : TellS w noT x (.returned (.tuple #[.agg #[.int .i64 0, .int .i64 0, .slice none 0 0], x])) w' := ⟨none, 0, rfl, .nl, hb⟩
theorem inr_any (n : Int) (w : World) :
    Calls Try.prog 34 #[.int .i64 n, .int .i64 0, .int .i64 65535] w fun e w' => e = .returned (.bool (decide (inR n))) ∧ w = w' := by
  have := in_any n 0 65535 w
  rwa [show (decide (0 ≤ n) && decide (n ≤ 65535)) = decide (inR n) by rw [Bool.eq_iff_iff, Bool.and_eq_true, decide_eq_true_eq, decide_eq_true_eq, decide_eq_true_eq]; exact Iff.rfl] at this
/-- The boxes at a call's beginning: the term's, and the result's. -/
theorem start2 (w : World) (t : Tm) (a : Option Addr) (cap : Nat) (hA : At w t.kids (.slice a t.kids.length cap)) : ∀ W', Below ((w.alloc (.cells #[.int .i64 t.k, .int .i64 t.n, .slice a t.kids.length cap] 24)).alloc (.cells #[.int .i64 0, .int .i64 0, .slice none 0 0] 24)).heap.size ((w.alloc (.cells #[.int .i64 t.k, .int .i64 t.n, .slice a t.kids.length cap] 24)).alloc (.cells #[.int .i64 0, .int .i64 0, .slice none 0 0] 24)) W' →
    (W'.cell? ⟨w.heap.size, 0, none⟩ = some (.int .i64 t.k) ∧ W'.cell? ⟨w.heap.size, 1, none⟩ = some (.int .i64 t.n) ∧ W'.cell? ⟨w.heap.size, 2, none⟩ = some (.slice a t.kids.length cap)) ∧
      W'.heap[w.heap.size + 1]? = some (.cells #[.int .i64 0, .int .i64 0, .slice none 0 0] 24 (0, 0)) ∧ At W' t.kids (.slice a t.kids.length cap) ∧ Below w.heap.size w W' ∧ w.heap.size + 2 ≤ W'.heap.size := fun W' hb => by
  have hbW : Below w.heap.size w ((w.alloc (.cells #[.int .i64 t.k, .int .i64 t.n, .slice a t.kids.length cap] 24)).alloc (.cells #[.int .i64 0, .int .i64 0, .slice none 0 0] 24)) := ((Below.refl _ w).alloc (Nat.le_refl _) _).alloc (by simp) _
  have hn := World.alloc_heap_new (w.alloc (.cells #[.int .i64 t.k, .int .i64 t.n, .slice a t.kids.length cap] 24)) (.cells #[.int .i64 0, .int .i64 0, .slice none 0 0] 24)
  simp only [World.size_alloc] at hn
  have hz : ((w.alloc (.cells #[.int .i64 t.k, .int .i64 t.n, .slice a t.kids.length cap] 24)).alloc (.cells #[.int .i64 0, .int .i64 0, .slice none 0 0] 24)).heap.size = w.heap.size + 2 := by simp
  refine ⟨⟨gcell hb ?_, gcell hb ?_, gcell hb ?_⟩, (hb.block _ (by omega)).trans hn, hA.bel (hbW.trans (hb.mono (by omega))) (Nat.le_refl _), hbW.trans (hb.mono (by omega)), by have := hb.size; omega⟩
  all_goals simp [go_sem]

set_option maxRecDepth 100000 in
set_option maxHeartbeats 2000000 in
theorem rshift_any (t : Tm) (hs : size t ≤ 1048576) (b f : Int) (w : World) (v : Value) (hA : At w t.kids v) :
    Calls Try.prog 12 #[.agg #[.int .i64 t.k, .int .i64 t.n, v], .int .i64 b, .int .i64 f] w (TellS w (shiftT t b f) (.int .i64 (shiftE t b f))) := by
  obtain ⟨a, cap, rfl⟩ := hA.shape
  have HB := Lib.hid (start2 w t a cap hA)
  have HC := Lib.hid (c_rcheck t hs _ (.slice a t.kids.length cap) (HB.out _ (Below.refl _ _)).2.2.1)
  have hcr := check_range t
  by_cases hc : checkE t = 0
  · rw [hc] at HC
    have HWB := Lib.hid (inr_any b)
    have HWF := Lib.hid (inr_any f)
    by_cases hb : inR b
    · rw [decide_eq_true hb] at HWB
      by_cases hf : inR f
      · rw [decide_eq_true hf] at HWF
        have hck := check_parts hc
        have HR := Lib.hid (fun W v hA => rmove_any b hb.1 hb.2 t (check_formed hc) f W v hf.1 (by have := hf.2; omega) hA)
        have hE := shift_in hc hb hf
        have HM : Hid (mapT (mv b) t f = moveT t b f) := rfl
        have HE : Hid (overB (moveT t b f) = true → shiftE t b f = 6 ∧ shiftT t b f = noT) := fun hp => by
          have h6 : shiftE t b f = 6 := by rw [hE, if_pos hp]
          exact ⟨h6, by rw [shiftT, if_neg (by rw [h6]; decide)]⟩
        have HE2 : Hid (overB (moveT t b f) = false → shiftE t b f = 0 ∧ shiftT t b f = moveT t b f) := fun hp => by
          have h6 : shiftE t b f = 0 := by rw [hE, if_neg (by rw [hp]; decide)]
          exact ⟨h6, by rw [shiftT, if_pos h6]⟩
        rw [HM.out] at HR
        generalize shiftE t b f = ce at *
        generalize shiftT t b f = r at *
        generalize moveT t b f = r2 at *
        clear hA hcr hE hc hck HM
        go_enter Try.func12, Try.ntmps12
        go_wp2_with fail
        refine HC.out.mono ?_
        rintro e w1 ⟨rfl, hb1⟩
        obtain ⟨⟨x0, x1, x2⟩, x5, x6, x7, x8⟩ := HB.out w1 hb1
        have X7 := Lib.hid x7
        have X5 := Lib.hid x5
        have HR2 := Lib.hid (HR.out w1 _ x6)
        clear hb1 x6 x5 x7 HR
        go_wp2_with fail
        refine (HWB.out _).mono ?_
        rintro e w2 ⟨rfl, rfl⟩
        go_wp2_with fail
        refine (HWF.out _).mono ?_
        rintro e w2 ⟨rfl, rfl⟩
        go_wp2_with fail
        refine HR2.out.mono ?_
        rintro e w3 ⟨a4, c4, rfl, hK4, hb3⟩
        have hz3 := hb3.size
        have hx3 := (hb3.block (w.heap.size + 1) (by omega)).trans X5.out
        have X8 := Lib.hid (X7.out.trans (hb3.mono (by omega)))
        have hx4 := (Below.heap_alloc w3 (.cells #[.int .i64 r2.k, .int .i64 r2.n, .slice a4 r2.kids.length c4] 24) (w.heap.size + 1) (by omega)).trans hx3
        obtain ⟨⟨c0, c1, c2⟩, g0, g1, g2⟩ := boxc hx4
        have HK4 := Lib.hid hK4
        cases hov : overB r2 with
        | true =>
          obtain ⟨rfl, rfl⟩ := HE.out hov
          clear hb3 hx3 hx4 x0 x1 x2 hK4 hov
          go_wp2_with fail
          exact bodyPost_ret (v := .tuple #[.agg #[.int .i64 0, .int .i64 0, .slice none 0 0], .int .i64 6]) (by simp [results, Try.f12, go_sem, c0, c1, c2]) rfl (TellS.no _ ((X8.out.alloc (by omega) _).trans (below_store3 (by omega) _ _ _)))
        | false =>
          obtain ⟨rfl, rfl⟩ := HE2.out hov
          clear hb3 hx3 hx4 x0 x1 x2 hK4 hov
          go_wp2_with fail
          exact bodyPost_ret (v := .tuple #[.agg #[.int .i64 r.k, .int .i64 r.n, .slice a4 r.kids.length c4], .int .i64 0]) (by simp [results, Try.f12, go_sem, c0, c1, c2]) rfl ⟨a4, c4, rfl, HK4.out.same fun b' hb' => ⟨⟨by omega, by simp; omega⟩, (other_store3 (by omega) _ _ _).trans (Below.heap_alloc w3 _ b' hb'.2)⟩, (X8.out.alloc (by omega) _).trans (below_store3 (by omega) _ _ _)⟩
      · rw [decide_eq_false hf] at HWF
        have hE : shiftE t b f = 1 := by rw [shiftE, if_neg (by simpa using hc), if_pos (fun h => hf h.2)]
        have hT : shiftT t b f = noT := by rw [shiftT, if_neg (by rw [hE]; decide)]
        rw [hE, hT]
        clear hA hcr hE hT hc
        go_enter Try.func12, Try.ntmps12
        go_wp2_with fail
        refine HC.out.mono ?_
        rintro e w1 ⟨rfl, hb1⟩
        obtain ⟨⟨x0, x1, x2⟩, x5, x6, x7, x8⟩ := HB.out w1 hb1
        obtain ⟨⟨c0, c1, c2⟩, g0, g1, g2⟩ := boxc x5
        have X7 := Lib.hid x7
        clear hb1 x6 x5 x7
        go_wp2_with fail
        refine (HWB.out _).mono ?_
        rintro e w2 ⟨rfl, rfl⟩
        go_wp2_with fail
        refine (HWF.out _).mono ?_
        rintro e w2 ⟨rfl, rfl⟩
        go_wp2_with fail
        exact bodyPost_ret (v := .tuple #[.agg #[.int .i64 0, .int .i64 0, .slice none 0 0], .int .i64 1]) (by simp [results, Try.f12, go_sem, c0, c1, c2]) rfl (TellS.no _ (X7.out.trans (below_store3 (by omega) _ _ _)))
    · rw [decide_eq_false hb] at HWB
      have hE : shiftE t b f = 1 := by rw [shiftE, if_neg (by simpa using hc), if_pos (fun h => hb h.1)]
      have hT : shiftT t b f = noT := by rw [shiftT, if_neg (by rw [hE]; decide)]
      rw [hE, hT]
      clear hA hcr hE hT hc
      go_enter Try.func12, Try.ntmps12
      go_wp2_with fail
      refine HC.out.mono ?_
      rintro e w1 ⟨rfl, hb1⟩
      obtain ⟨⟨x0, x1, x2⟩, x5, x6, x7, x8⟩ := HB.out w1 hb1
      obtain ⟨⟨c0, c1, c2⟩, g0, g1, g2⟩ := boxc x5
      have X7 := Lib.hid x7
      clear hb1 x6 x5 x7
      go_wp2_with fail
      refine (HWB.out _).mono ?_
      rintro e w2 ⟨rfl, rfl⟩
      go_wp2_with fail
      exact bodyPost_ret (v := .tuple #[.agg #[.int .i64 0, .int .i64 0, .slice none 0 0], .int .i64 1]) (by simp [results, Try.f12, go_sem, c0, c1, c2]) rfl (TellS.no _ (X7.out.trans (below_store3 (by omega) _ _ _)))
  · have e1 : (checkE t != 0) = true := by simpa using hc
    have hE : shiftE t b f = checkE t := shift_bad hc
    have hT : shiftT t b f = noT := by rw [shiftT, if_neg (by rw [hE]; exact hc)]
    rw [hE, hT]
    generalize checkE t = ce at *
    clear hA hcr hE hT hc
    go_enter Try.func12, Try.ntmps12
    go_wp2_with fail
    refine HC.out.mono ?_
    rintro e w1 ⟨rfl, hb1⟩
    obtain ⟨⟨x0, x1, x2⟩, x5, x6, x7, x8⟩ := HB.out w1 hb1
    obtain ⟨⟨c0, c1, c2⟩, g0, g1, g2⟩ := boxc x5
    have X7 := Lib.hid x7
    clear hb1 x6 x5 x7
    go_wp2_with fail
    exact bodyPost_ret (v := .tuple #[.agg #[.int .i64 0, .int .i64 0, .slice none 0 0], .int .i64 ce]) (by simp [results, Try.f12, go_sem, c0, c1, c2]) rfl (TellS.no _ (X7.out.trans (below_store3 (by omega) _ _ _)))

set_option maxRecDepth 100000 in
set_option maxHeartbeats 2000000 in
theorem rlower_any (t : Tm) (hs : size t ≤ 1048576) (n : Int) (w : World) (v : Value) (hA : At w t.kids v) :
    Calls Try.prog 14 #[.agg #[.int .i64 t.k, .int .i64 t.n, v], .int .i64 n] w (TellS w (lowerT t n) (.bool (lowerB t n))) := by
  obtain ⟨a, cap, rfl⟩ := hA.shape
  have HB := Lib.hid (start2 w t a cap hA)
  have HC := Lib.hid (c_rcheck t hs _ (.slice a t.kids.length cap) (HB.out _ (Below.refl _ _)).2.2.1)
  by_cases hc : checkE t = 0
  · rw [hc] at HC
    have HWN := Lib.hid (inr_any n)
    by_cases hn : inR n
    · rw [decide_eq_true hn] at HWN
      have hck := check_parts hc
      have HCN := fun W v hA => c_rcount t hs n W v hA
      have hce : countE t n = countT t n := by rw [countE, if_pos ⟨hn.1, hn.2⟩]
      rw [hce] at HCN
      have HCN := Lib.hid HCN
      have HR := Lib.hid (fun W v hA => rless_any t (check_formed hc) n W v hn.1 (by have := hn.2; omega) hA)
      have HM : Hid (mapT ls t n = lessT t n) := rfl
      rw [HM.out] at HR
      by_cases h0 : countT t n = 0
      · have hE : lowerB t n = true := by rw [lowerB, decide_eq_true_eq]; exact ⟨hc, hn, h0⟩
        have hT : lowerT t n = lessT t n := by rw [lowerT, if_pos hE]
        rw [hE, hT]
        rw [h0] at HCN
        generalize lessT t n = r at *
        clear hA hE hT hc hck HM h0 hce
        go_enter Try.func14, Try.ntmps14
        go_wp2_with fail
        refine HC.out.mono ?_
        rintro e w1 ⟨rfl, hb1⟩
        obtain ⟨⟨x0, x1, x2⟩, x5, x6, x7, x8⟩ := HB.out w1 hb1
        have X7 := Lib.hid x7
        have X5 := Lib.hid x5
        have X6 := Lib.hid x6
        clear hb1 x6 x5 x7
        go_wp2_with fail
        refine (HWN.out _).mono ?_
        rintro e w2 ⟨rfl, rfl⟩
        go_wp2_with fail
        refine (HCN.out _ _ X6.out).mono ?_
        rintro e w2 ⟨rfl, hb2⟩
        have hz2 := hb2.size
        replace x0 := gcell hb2 x0
        replace x1 := gcell hb2 x1
        replace x2 := gcell hb2 x2
        have Y7 := Lib.hid (X7.out.trans (hb2.mono (by omega)))
        have Y5 := Lib.hid ((hb2.block _ (by omega)).trans X5.out)
        have HR2 := Lib.hid (HR.out w2 _ (X6.out.bel hb2 (Nat.le_refl _)))
        clear hb2 X7 X5 X6
        go_wp2_with fail
        refine HR2.out.mono ?_
        rintro e w3 ⟨a4, c4, rfl, hK4, hb3⟩
        have hz3 := hb3.size
        have X8 := Lib.hid (Y7.out.trans (hb3.mono (by omega)))
        obtain ⟨⟨c0, c1, c2⟩, g0, g1, g2⟩ := boxc ((hb3.block (w.heap.size + 1) (by omega)).trans Y5.out)
        have HK4 := Lib.hid hK4
        clear hb3 x0 x1 x2 hK4
        go_wp2_with fail
        exact bodyPost_ret (v := .tuple #[.agg #[.int .i64 r.k, .int .i64 r.n, .slice a4 r.kids.length c4], .bool true]) (by simp [results, Try.f14, go_sem, c0, c1, c2]) rfl ⟨a4, c4, rfl, HK4.out.same fun b' hb' => ⟨⟨by omega, by simp; omega⟩, other_store3 (by omega) _ _ _⟩, X8.out.trans (below_store3 (by omega) _ _ _)⟩
      · have hE : lowerB t n = false := by rw [lowerB, decide_eq_false_iff_not]; exact fun h => h0 h.2.2
        have hT : lowerT t n = noT := by rw [lowerT, hE]; rfl
        rw [hE, hT]
        have q0 : (0 : Int) < (countT t n : Int) := by omega
        generalize countT t n = cc at *
        clear hA hE hT hc hck HM h0 hce HR
        go_enter Try.func14, Try.ntmps14
        go_wp2_with fail
        refine HC.out.mono ?_
        rintro e w1 ⟨rfl, hb1⟩
        obtain ⟨⟨x0, x1, x2⟩, x5, x6, x7, x8⟩ := HB.out w1 hb1
        have X7 := Lib.hid x7
        have X5 := Lib.hid x5
        have X6 := Lib.hid x6
        clear hb1 x6 x5 x7
        go_wp2_with fail
        refine (HWN.out _).mono ?_
        rintro e w2 ⟨rfl, rfl⟩
        go_wp2_with fail
        refine (HCN.out _ _ X6.out).mono ?_
        rintro e w2 ⟨rfl, hb2⟩
        have hz2 := hb2.size
        have Y7 := Lib.hid (X7.out.trans (hb2.mono (by omega)))
        obtain ⟨⟨c0, c1, c2⟩, g0, g1, g2⟩ := boxc ((hb2.block (w.heap.size + 1) (by omega)).trans X5.out)
        clear hb2 X7 X5 X6 x0 x1 x2
        go_wp2_with fail
        exact bodyPost_ret (v := .tuple #[.agg #[.int .i64 0, .int .i64 0, .slice none 0 0], .bool false]) (by simp [results, Try.f14, go_sem, c0, c1, c2]) rfl (TellS.no _ (Y7.out.trans (below_store3 (by omega) _ _ _)))
    · rw [decide_eq_false hn] at HWN
      have hE : lowerB t n = false := by rw [lowerB, decide_eq_false_iff_not]; exact fun h => hn h.2.1
      have hT : lowerT t n = noT := by rw [lowerT, hE]; rfl
      rw [hE, hT]
      clear hA hE hT hc
      go_enter Try.func14, Try.ntmps14
      go_wp2_with fail
      refine HC.out.mono ?_
      rintro e w1 ⟨rfl, hb1⟩
      obtain ⟨⟨x0, x1, x2⟩, x5, x6, x7, x8⟩ := HB.out w1 hb1
      obtain ⟨⟨c0, c1, c2⟩, g0, g1, g2⟩ := boxc x5
      have X7 := Lib.hid x7
      clear hb1 x6 x5 x7
      go_wp2_with fail
      refine (HWN.out _).mono ?_
      rintro e w2 ⟨rfl, rfl⟩
      go_wp2_with fail
      exact bodyPost_ret (v := .tuple #[.agg #[.int .i64 0, .int .i64 0, .slice none 0 0], .bool false]) (by simp [results, Try.f14, go_sem, c0, c1, c2]) rfl (TellS.no _ (X7.out.trans (below_store3 (by omega) _ _ _)))
  · have e1 : (checkE t != 0) = true := by simpa using hc
    have hE : lowerB t n = false := by rw [lowerB, decide_eq_false_iff_not]; exact fun h => hc h.1
    have hT : lowerT t n = noT := by rw [lowerT, hE]; rfl
    rw [hE, hT]
    generalize checkE t = ce at *
    clear hA hE hT hc
    go_enter Try.func14, Try.ntmps14
    go_wp2_with fail
    refine HC.out.mono ?_
    rintro e w1 ⟨rfl, hb1⟩
    obtain ⟨⟨x0, x1, x2⟩, x5, x6, x7, x8⟩ := HB.out w1 hb1
    obtain ⟨⟨c0, c1, c2⟩, g0, g1, g2⟩ := boxc x5
    have X7 := Lib.hid x7
    clear hb1 x6 x5 x7
    go_wp2_with fail
    exact bodyPost_ret (v := .tuple #[.agg #[.int .i64 0, .int .i64 0, .slice none 0 0], .bool false]) (by simp [results, Try.f14, go_sem, c0, c1, c2]) rfl (TellS.no _ (X7.out.trans (below_store3 (by omega) _ _ _)))
end Go.Proofs.Ytfbinoifhabgoaa
