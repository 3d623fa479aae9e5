/- Package term's Depth, Check and Scope: what they return for any term. -/
import Derived.Test.YtcegocmndfoflaaCs
import Derived.Test.YtcegocmndfoflaaCg
namespace Go.Proofs.Ytcegocmndfoflaa
open Go.RowKit Go.Shelf Go Go.Joins
attribute [local go_sem] Oper.semAt_some

theorem KeepsOut.below' {n₀ n₁ D : Nat} {A B C : World} (h : KeepsOut n₀ n₁ A B) (hb : Below D B C) (hD : B.heap.size ≤ D) : KeepsOut n₀ n₁ A C := h.trans ⟨hb.size, fun k hk _ => hb.block k (Nat.lt_of_lt_of_le hk hD)⟩
set_option maxRecDepth 100000 in
set_option maxHeartbeats 2000000 in
theorem tcheck_in (t : Tm) (v : Value) (w : World) (hf : Fits t) (hs : size t < 2147483648) (hA : At w t.kids v) :
    CallsIn Fence.wide 6 Try.prog 76 #[tv t v] w fun e w' => e = .returned (.int .i64 (checkE t)) ∧ Below w.heap.size w w' := by
  have h1 : 1 ≤ 6 := by omega
  unfold tv
  refine callsIn_of_wp_marks Try.func76 rfl trivial ?_ rfl
  simp only [Try.ntmps76, List.size_toArray, List.length_cons, List.length_nil, Nat.reduceAdd, Nat.reduceSub, Array.replicate_succ, Array.replicate_zero, List.push_toArray, List.append_toArray, List.nil_append, List.cons_append]
  gi_wp2_with (refine ⟨trivial, ?_⟩; gi_at_call 77; refine (callsIn_wide.2 (nodes_agg t v _ (((((hA.alloc _).alloc _).alloc _).alloc _).alloc _))).mono ?_; rintro e w' ⟨rfl, rfl⟩)
  have hb3 := box3_new (((((w.alloc (.cells #[.int .i64 t.k, .int .i64 t.n, v] 42)).alloc (.cells #[.int .i64 0] 28)).alloc (.cells #[.int .i64 0] 3)).alloc (.cells #[.int .i64 0] 3)).alloc (.cells #[.bool true] 4)) t v 42
  have hb1 := ((((Boxed.new (w.alloc (.cells #[.int .i64 t.k, .int .i64 t.n, v] 42)) 28 (.int .i64 0)).alloc (.cells #[.int .i64 0] 3)).alloc (.cells #[.int .i64 0] 3)).alloc (.cells #[.bool true] 4)).alloc (.cells #[.int .i64 t.k, .int .i64 t.n, v] 42)
  have hb2 := (((Boxed.new ((w.alloc (.cells #[.int .i64 t.k, .int .i64 t.n, v] 42)).alloc (.cells #[.int .i64 0] 28)) 3 (.int .i64 0)).alloc (.cells #[.int .i64 0] 3)).alloc (.cells #[.bool true] 4)).alloc (.cells #[.int .i64 t.k, .int .i64 t.n, v] 42)
  have hb4 := ((Boxed.new (((w.alloc (.cells #[.int .i64 t.k, .int .i64 t.n, v] 42)).alloc (.cells #[.int .i64 0] 28)).alloc (.cells #[.int .i64 0] 3)) 3 (.int .i64 0)).alloc (.cells #[.bool true] 4)).alloc (.cells #[.int .i64 t.k, .int .i64 t.n, v] 42)
  have hb5 := (Boxed.new ((((w.alloc (.cells #[.int .i64 t.k, .int .i64 t.n, v] 42)).alloc (.cells #[.int .i64 0] 28)).alloc (.cells #[.int .i64 0] 3)).alloc (.cells #[.int .i64 0] 3)) 4 (.bool true)).alloc (.cells #[.int .i64 t.k, .int .i64 t.n, v] 42)
  have hB0 : Below w.heap.size w ((((((w.alloc (.cells #[.int .i64 t.k, .int .i64 t.n, v] 42)).alloc (.cells #[.int .i64 0] 28)).alloc (.cells #[.int .i64 0] 3)).alloc (.cells #[.int .i64 0] 3)).alloc (.cells #[.bool true] 4)).alloc (.cells #[.int .i64 t.k, .int .i64 t.n, v] 42)) := ((((((Below.refl _ w).alloc (Nat.le_refl _) _).alloc (by simp) _).alloc (by simp; omega) _).alloc (by simp; omega) _).alloc (by simp; omega) _).alloc (by simp; omega) _
  have hsz : ((((((w.alloc (.cells #[.int .i64 t.k, .int .i64 t.n, v] 42)).alloc (.cells #[.int .i64 0] 28)).alloc (.cells #[.int .i64 0] 3)).alloc (.cells #[.int .i64 0] 3)).alloc (.cells #[.bool true] 4)).alloc (.cells #[.int .i64 t.k, .int .i64 t.n, v] 42)).heap.size = w.heap.size + 6 := by simp
  simp only [World.size_alloc] at hb3 hb1 hb2 hb4 hb5
  revert hb3 hb1 hb2 hb4 hb5 hB0 hsz
  generalize ((((((w.alloc (.cells #[.int .i64 t.k, .int .i64 t.n, v] 42)).alloc (.cells #[.int .i64 0] 28)).alloc (.cells #[.int .i64 0] 3)).alloc (.cells #[.int .i64 0] 3)).alloc (.cells #[.bool true] 4)).alloc (.cells #[.int .i64 t.k, .int .i64 t.n, v] 42)) = W0
  intro hB0 hsz hb3 hb1 hb2 hb4 hb5
  have hz1 : W0.heap.size ≤ w.heap.size + 6 := by omega
  have hz2 : w.heap.size + 6 ≤ W0.heap.size := by omega
  clear hsz
  refine wpIn_rangeFunc_N h1 (gf := 80) (lb := #[.pointer (some ⟨w.heap.size + 1 + 1 + 1 + 1 + 1, 0, none⟩)]) rfl (enters_of Try.func80 (by kernel_rfl) rfl)
    (nodes_seq 5 (by omega) (w.heap.size + 1 + 1 + 1 + 1 + 1) w W0 t v hf hs hA (old_of hB0) hb3) (Below.refl _ _) (by omega) rfl
    (fun pre W => (Boxed W (w.heap.size + 1) 28 (.int .i64 0) ∧ Boxed W (w.heap.size + 1 + 1) 3 (.int .i64 pre.length) ∧ Boxed W (w.heap.size + 1 + 1 + 1) 3 (.int .i64 (maxD pre)) ∧ Boxed W (w.heap.size + 1 + 1 + 1 + 1) 4 (.bool (allF pre)) ∧ pre.length ≤ 6000) ∧ Below w.heap.size w W)
    (fun c pre W => c = .ret ∧ Boxed W (w.heap.size + 1) 28 (.int .i64 4) ∧ 6000 < pre.length ∧ Below w.heap.size w W)
    (fun s A B hs hb => ⟨⟨boxed_bel hs.1.1 hb (by omega), boxed_bel hs.1.2.1 hb (by omega), boxed_bel hs.1.2.2.1 hb (by omega), boxed_bel hs.1.2.2.2.1 hb (by omega), hs.1.2.2.2.2⟩, hs.2.trans (hb.mono (by omega))⟩)
    (fun c s A B hs hb => ⟨hs.1, boxed_bel hs.2.1 hb (by omega), hs.2.2.1, hs.2.2.2.trans (hb.mono (by omega))⟩)
    ⟨⟨hb1, hb2, hb4, hb5, by simp⟩, hB0⟩
    (fun x a' W => ∃ Bx, W0.heap.size + 2 ≤ Bx ∧ W.heap[Bx]? = some (.cells #[.int .i64 x.d, .int .i64 x.b] 90 (0, 0)) ∧ W.heap[Bx + 1]? = some (.cells #[.int .i64 x.t.k, .int .i64 x.t.n, x.v] 42 (0, 0)) ∧ a' = { tmps := #[.agg #[.int .i64 t.k, .int .i64 t.n, v], .pointer (some ⟨w.heap.size, 0, none⟩), .pointer (some ⟨w.heap.size + 1, 0, none⟩), .pointer (some ⟨w.heap.size + 1 + 1, 0, none⟩), .pointer (some ⟨w.heap.size + 1 + 1 + 1, 0, none⟩), .pointer (some ⟨w.heap.size + 1 + 1 + 1 + 1, 0, none⟩), .pointer (some ⟨Bx, 0, none⟩), .pointer (some ⟨Bx + 1, 0, none⟩), .agg #[.int .i64 t.k, .int .i64 t.n, v], .func (.func 80) #[] #[.pointer (some ⟨w.heap.size + 1 + 1 + 1 + 1 + 1, 0, none⟩)], .agg #[.int .i64 x.d, .int .i64 x.b], .agg #[.int .i64 x.t.k, .int .i64 x.t.n, x.v], undef, undef, undef, undef, undef, undef, undef, undef, undef, undef, undef, undef, undef, undef, undef, undef, undef], defers := [] })
    (fun x a' A l o hs hl => by obtain ⟨Bx, h1, h2, h2', h3⟩ := hs; exact ⟨Bx, h1, (World.putObj_heap_other (by omega)).trans h2, (World.putObj_heap_other (by omega)).trans h2', h3⟩)
    ?assign ?body ?done ?stop
  case assign =>
    rintro l pre x W K hc ⟨⟨g1, g2, g4, g5, g6⟩, hB⟩ hszW hK
    obtain ⟨ax, cx, hv⟩ := hc.mem.2
    obtain ⟨xd, xb, xt, xv⟩ := x
    simp only at hv
    subst hv
    simp only [El.vals, tv]
    gi_wp2
    have hnew := World.alloc_heap_new (W.alloc (.cells #[.int .i64 xd, .int .i64 xb] 90)) (.cells #[.int .i64 xt.k, .int .i64 xt.n, .slice ax xt.kids.length cx] 42)
    rw [World.size_alloc] at hnew
    exact hK _ _ (((KeepsOut.refl _ _ _).alloc _).alloc _) ⟨⟨(g1.alloc _).alloc _, (g2.alloc _).alloc _, (g4.alloc _).alloc _, (g5.alloc _).alloc _, g6⟩, (hB.alloc hB.size _).alloc (by simp; have := hB.size; omega) _⟩
      ⟨W.heap.size, by omega, (Below.heap_alloc _ _ _ (by simp)).trans (World.alloc_heap_new W _), hnew, by simp⟩
  case body =>
    rintro l pre x a' W hc ⟨⟨g1, g2, g4, g5, g6⟩, hB⟩ hszW ⟨Bx, hBx, hbx, hbt, rfl⟩
    obtain ⟨ax, cx, hv⟩ := hc.mem.2
    obtain ⟨xd, xb, xt, xv⟩ := x
    simp only at hv
    subst hv
    have hr := maxD_range hc.init
    have hdz := depth_le_size t
    have hin := hc.mem.1
    have hlk : xt.kids.length < 2147483648 := by
      have h5 := hc.length
      have h6 := nodesT_sub t 1 0 _ hin
      have h7 := length_le_sizeL xt.kids
      have h8 := size_eq xt
      simp only [El.p] at h6
      omega
    have c1 := g1.cell
    have f1 := g1.frozen
    have c2 := g2.cell
    have f2 := g2.frozen
    have c4 := g4.cell
    have f4 := g4.frozen
    have c5 := g5.cell
    have f5 := g5.frozen
    have x0 : W.cell? ⟨Bx, 0, none⟩ = some (.int .i64 xd) := by simp [World.cell?, hbx]
    obtain ⟨n0, n1, n2⟩ : W.cell? ⟨Bx + 1, 0, none⟩ = some (.int .i64 xt.k) ∧ W.cell? ⟨Bx + 1, 1, none⟩ = some (.int .i64 xt.n) ∧ W.cell? ⟨Bx + 1, 2, none⟩ = some (.slice ax xt.kids.length cx) := by
      refine ⟨?_, ?_, ?_⟩ <;> simp [World.cell?, hbt]
    have hsn := Lib.hid (maxD_snoc pre ⟨xd, xb, xt, .slice ax xt.kids.length cx⟩)
    have hsf := Lib.hid (allF_snoc pre ⟨xd, xb, xt, .slice ax xt.kids.length cx⟩)
    have HC := Lib.hid hc
    clear hbx hbt hin hdz hc
    by_cases h6 : pre.length < 6000
    · have HF := Lib.hid (fun w => fits_any xt.k xt.n ax xt.kids.length cx hlk w)
      have e6 : decide ((6000 : Int) < (pre.length : Int) + 1) = false := by simp; omega
      cases hfl : allF pre with
      | true =>
        rw [hfl] at c5
        have HFL := Lib.hid hfl
        clear hfl
        gi_wp2_with (refine ⟨trivial, ?_⟩; gi_at_call 79; refine (CallsIn.inRound l (callsIn_wide.2 (HF.out _))).mono ?_; rintro e w' ⟨rfl, hbf⟩; have g1' := boxed_bel (boxed_other (boxed_other g1 _ _ (by first | omega | (dsimp only; omega))) _ _ (by first | omega | (dsimp only; omega))) hbf (by first | omega | (simp; omega)); have g2' := boxed_bel (boxed_other (g2.set _) _ _ (by first | omega | (dsimp only; omega))) hbf (by first | omega | (simp; omega)); have g4' := boxed_bel ((boxed_other g4 _ _ (by first | omega | (dsimp only; omega))).set _) hbf (by first | omega | (simp; omega)); have g5' := boxed_bel (boxed_other (boxed_other g5 _ _ (by first | omega | (dsimp only; omega))) _ _ (by first | omega | (dsimp only; omega))) hbf (by first | omega | (simp; omega)); have hB' := ((hB.setCell (by first | omega | (dsimp only; omega)) _).setCell (by first | omega | (dsimp only; omega)) _).trans (hbf.mono (by first | omega | (simp; omega))); have hK' := (((KeepsOut.refl w.heap.size W0.heap.size W).setCell (by first | omega | (dsimp only; omega)) _).setCell (by first | omega | (dsimp only; omega)) _).below' hbf (by simp); have c5' := g5'.cell; have f5' := g5'.frozen)
        all_goals
          refine ⟨hK'.setCell (by first | omega | (dsimp only; omega)) _, ⟨boxed_other g1' _ _ (by first | omega | (dsimp only; omega)), ?_, ?_, ?_, by simp; omega⟩, hB'.setCell (by first | omega | (dsimp only; omega)) _⟩
          · have := boxed_other g2' ⟨w.heap.size + 1 + 1 + 1 + 1, 0, none⟩ (.bool (fitsB xt.k xt.n xt.kids.length)) (by first | omega | (dsimp only; omega))
            simpa using this
          · rw [hsn.out]
            show Boxed _ _ _ (.int .i64 (max (maxD pre) xd))
            first | (rw [max_ite]; exact boxed_other g4' _ _ (by first | omega | (dsimp only; omega))) | (rw [Int.max_eq_right (by omega)]; exact boxed_other g4' _ _ (by first | omega | (dsimp only; omega))) | (rw [Int.max_eq_left (by omega)]; exact boxed_other g4' _ _ (by first | omega | (dsimp only; omega)))
          · have := g5'.set (.bool (fitsB xt.k xt.n xt.kids.length))
            rw [hsf.out, HFL.out, Bool.true_and]
            exact this
      | false =>
        rw [hfl] at c5
        have HFL := Lib.hid hfl
        clear hfl HF
        gi_wp2
        all_goals (refine ⟨trivial, ?_⟩; gi_wp2)
        all_goals
          refine ⟨(((KeepsOut.refl _ _ _).setCell (by first | omega | (dsimp only; omega)) _).setCell (by first | omega | (dsimp only; omega)) _).setCell (by first | omega | (dsimp only; omega)) _, ⟨boxed_other (boxed_other (boxed_other g1 _ _ (by first | omega | (dsimp only; omega))) _ _ (by first | omega | (dsimp only; omega))) _ _ (by first | omega | (dsimp only; omega)), ?_, ?_, ?_, by simp; omega⟩, ((hB.setCell (by first | omega | (dsimp only; omega)) _).setCell (by first | omega | (dsimp only; omega)) _).setCell (by first | omega | (dsimp only; omega)) _⟩
          · rw [show ((pre ++ [(⟨xd, xb, xt, .slice ax xt.kids.length cx⟩ : El)]).length : Int) = (pre.length : Int) + 1 by simp]
            exact boxed_other (boxed_other (g2.set _) _ _ (by first | omega | (dsimp only; omega))) _ _ (by first | omega | (dsimp only; omega))
          · rw [hsn.out]
            show Boxed _ _ _ (.int .i64 (max (maxD pre) xd))
            first | (rw [Int.max_eq_right (by omega)]; exact boxed_other ((boxed_other g4 _ _ (by first | omega | (dsimp only; omega))).set _) _ _ (by first | omega | (dsimp only; omega))) | (rw [Int.max_eq_left (by omega)]; exact boxed_other ((boxed_other g4 _ _ (by first | omega | (dsimp only; omega))).set _) _ _ (by first | omega | (dsimp only; omega)))
          · rw [hsf.out, HFL.out, Bool.false_and]
            exact (boxed_other (boxed_other g5 _ _ (by first | omega | (dsimp only; omega))) _ _ (by first | omega | (dsimp only; omega))).set _
    · have e6 : decide ((6000 : Int) < (pre.length : Int) + 1) = true := by simp; omega
      gi_wp2
      exact ⟨((KeepsOut.refl _ _ _).setCell (by first | omega | (dsimp only; omega)) _).setCell (by first | omega | (dsimp only; omega)) _, rfl, (boxed_other g1 _ _ (by first | omega | (dsimp only; omega))).set _, by simp; omega, (hB.setCell (by first | omega | (dsimp only; omega)) _).setCell (by first | omega | (dsimp only; omega)) _⟩
  case done =>
    rintro D zs W hD hall ⟨⟨g1, g2, g4, g5, g6⟩, hB⟩ hK
    have hlz : zs.length = size t := by have := hall.1.length_eq; rw [nodesT_len] at this; simpa using this
    have hmd := maxD_all hall
    have haf := allF_all hall
    rw [hmd] at g4
    rw [haf] at g5
    have c1 := g1.cell
    have f1 := g1.frozen
    have c4 := g4.cell
    have c5 := g5.cell
    have hle : ¬ 6000 < size t := by omega
    have fin : ∀ x : Int, checkE t = x → (W.setCell ⟨w.heap.size + 1, 0, none⟩ (.int .i64 x)).heap[D]? = some (.deferred (some [])) ∧ Below w.heap.size w (W.setCell ⟨w.heap.size + 1, 0, none⟩ (.int .i64 x)) := fun x _ =>
      ⟨(Below.heap_setCell W _ _ D (by first | omega | (dsimp only; omega))).trans hK, hB.setCell (by first | omega | (dsimp only; omega)) _⟩
    clear hall hmd haf hlz
    by_cases h2 : 200 < depth t
    · have e2 : decide ((200 : Int) < (depth t : Int)) = true := by simp; omega
      have HE := Lib.hid (show checkE t = 5 by rw [checkE, if_neg hle, if_pos h2])
      gi_wp2
      obtain ⟨hK', hB'⟩ := fin 5 HE.out
      refine ⟨by simp, .inl ⟨_, _, rfl, run_takeDeferred hK', ?_⟩⟩
      have hc5 := cell_kept (g1.set (.int .i64 5)).cell (grownBy_putObj' _ D (.deferred none)) (fun r e => by cases e; exact ⟨_, hK', rfl⟩)
      refine ⟨.int .i64 5, ?_, by rw [HE.out], hB'.trans (belowK_b (w := w) (Nat.le_refl _) _ D _ _ (by omega) hK' rfl rfl)⟩
      simp [results, Try.f76, go_sem, hc5]
    · have e2 : decide ((200 : Int) < (depth t : Int)) = false := by simp; omega
      cases hfb : formedB t with
      | false =>
        rw [hfb] at c5
        have HE := Lib.hid (show checkE t = 1 by rw [checkE, if_neg hle, if_neg h2, if_pos hfb])
        clear hfb
        gi_wp2
        obtain ⟨hK', hB'⟩ := fin 1 HE.out
        refine ⟨by simp, .inl ⟨_, _, rfl, run_takeDeferred hK', ?_⟩⟩
        have hc5 := cell_kept (g1.set (.int .i64 1)).cell (grownBy_putObj' _ D (.deferred none)) (fun r e => by cases e; exact ⟨_, hK', rfl⟩)
        refine ⟨.int .i64 1, ?_, by rw [HE.out], hB'.trans (belowK_b (w := w) (Nat.le_refl _) _ D _ _ (by omega) hK' rfl rfl)⟩
        simp [results, Try.f76, go_sem, hc5]
      | true =>
        rw [hfb] at c5
        have HE := Lib.hid (show checkE t = 0 by rw [checkE, if_neg hle, if_neg h2, if_neg (by rw [hfb]; simp)])
        clear hfb
        gi_wp2
        obtain ⟨hK', hB'⟩ := fin 0 HE.out
        refine ⟨by simp, .inl ⟨_, _, rfl, run_takeDeferred hK', ?_⟩⟩
        have hc5 := cell_kept (g1.set (.int .i64 0)).cell (grownBy_putObj' _ D (.deferred none)) (fun r e => by cases e; exact ⟨_, hK', rfl⟩)
        refine ⟨.int .i64 0, ?_, by rw [HE.out], hB'.trans (belowK_b (w := w) (Nat.le_refl _) _ D _ _ (by omega) hK' rfl rfl)⟩
        simp [results, Try.f76, go_sem, hc5]
  case stop =>
    rintro D c pre W hD hcm ⟨rfl, g1, hlen, hB⟩ hK
    have hl := hcm.length
    rw [nodesT_len] at hl
    have HE := Lib.hid (show checkE t = 4 by rw [checkE, if_pos (by omega)])
    clear hcm hl
    gi_wp2
    refine ⟨by simp, .inl ⟨_, _, rfl, run_takeDeferred hK, ?_⟩⟩
    have hc5 := cell_kept g1.cell (grownBy_putObj' _ D (.deferred none)) (fun r e => by cases e; exact ⟨_, hK, rfl⟩)
    refine ⟨.int .i64 4, ?_, by rw [HE.out], hB.trans (belowK_b (w := w) (Nat.le_refl _) W D _ _ (by omega) hK rfl rfl)⟩
    simp [results, Try.f76, go_sem, hc5]
theorem tcheck_any (t : Tm) (v : Value) (w : World) (hf : Fits t) (hs : size t < 2147483648) (hA : At w t.kids v) :
    Calls Try.prog 76 #[tv t v] w fun e w' => e = .returned (.int .i64 (checkE t)) ∧ Below w.heap.size w w' :=
  callsIn_wide.1 (tcheck_in t v w hf hs hA)

end Go.Proofs.Ytcegocmndfoflaa
