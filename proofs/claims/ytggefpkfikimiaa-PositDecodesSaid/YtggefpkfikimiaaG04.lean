/- Package term's Scope: what it returns for any term. -/
import Derived.Test.YtggefpkfikimiaaG03
namespace Go.Proofs.Ytggefpkfikimiaa
open Go.RowKit Go.Shelf Go Go.Joins
attribute [local go_sem] Oper.semAt_some

def scopeT (t : Tm) (v c : Int) : Bool := decide (0 ≤ v) && decide (0 ≤ c) && decide (checkE t = 0) && scopedT t v c
theorem check_formed {t : Tm} (h : checkE t = 0) : formedB t = true := by
  unfold checkE at h
  by_cases h1 : 6000 < size t
  · rw [if_pos h1] at h; omega
  · rw [if_neg h1] at h
    by_cases h2 : 200 < depth t
    · rw [if_pos h2] at h; omega
    · rw [if_neg h2] at h
      cases hf : formedB t with
      | true => rfl
      | false => rw [if_pos hf] at h; omega
theorem check_range (t : Tm) : 0 ≤ checkE t ∧ checkE t ≤ 5 := by
  unfold checkE
  split
  · omega
  · split
    · omega
    · split <;> omega
theorem allS_snoc (v c : Int) (l : List El) (x : El) : allS v c (l ++ [x]) = (allS v c l && inB x.t.k x.t.n x.b v c) := by simp [allS, inP, El.p]
theorem check_agg (t : Tm) (v : Value) (w : World) (hf : Fits t) (hs : size t < 2147483648) (hA : At w t.kids v) :
    Calls Try.prog 104 #[.agg #[.int .i64 t.k, .int .i64 t.n, v]] w fun e w' => e = .returned (.int .i64 (checkE t)) ∧ Below w.heap.size w w' := tcheck_any t v w hf hs hA

set_option maxRecDepth 100000 in
set_option maxHeartbeats 2000000 in
theorem tscope_in (t : Tm) (v : Value) (w : World) (a b : Int) (ha : 0 ≤ a) (hb : 0 ≤ b) (hck : checkE t = 0) (hf : Fits t) (hs : size t < 2147483648) (hA : At w t.kids v) :
    CallsIn Fence.wide 6 Try.prog 96 #[tv t v, .int .i64 a, .int .i64 b] w fun e w' => e = .returned (.bool ((nodesT t 1 0).all (inP a b))) ∧ Below w.heap.size w w' := by
  have h1 : 1 ≤ 6 := by omega
  have d1 : decide (a < 0) = false := by simp; omega
  have d2 : decide (b < 0) = false := by simp; omega
  have hfm := check_formed hck
  have hA4 : At ((((w.alloc (.cells #[.int .i64 t.k, .int .i64 t.n, v] 25)).alloc (.cells #[.int .i64 a] 3)).alloc (.cells #[.int .i64 b] 3)).alloc (.cells #[.bool false] 4)) t.kids v := (((hA.alloc _).alloc _).alloc _).alloc _
  have hbW4 : Below w.heap.size w ((((w.alloc (.cells #[.int .i64 t.k, .int .i64 t.n, v] 25)).alloc (.cells #[.int .i64 a] 3)).alloc (.cells #[.int .i64 b] 3)).alloc (.cells #[.bool false] 4)) := ((((Below.refl _ w).alloc (Nat.le_refl _) _).alloc (by simp) _).alloc (by simp; omega) _).alloc (by simp; omega) _
  have HCK := Lib.hid (check_agg t v ((((w.alloc (.cells #[.int .i64 t.k, .int .i64 t.n, v] 25)).alloc (.cells #[.int .i64 a] 3)).alloc (.cells #[.int .i64 b] 3)).alloc (.cells #[.bool false] 4)) hf hs hA4)
  rw [hck] at HCK
  have k0 := ((((box3_new w t v 25).bel (below_al _ (.cells #[.int .i64 a] 3))).bel (below_al _ (.cells #[.int .i64 b] 3))).bel (below_al _ (.cells #[.bool false] 4)))
  have k1 := ((Boxed.new (w.alloc (.cells #[.int .i64 t.k, .int .i64 t.n, v] 25)) 3 (.int .i64 a)).alloc (.cells #[.int .i64 b] 3)).alloc (.cells #[.bool false] 4)
  have k2 := (Boxed.new ((w.alloc (.cells #[.int .i64 t.k, .int .i64 t.n, v] 25)).alloc (.cells #[.int .i64 a] 3)) 3 (.int .i64 b)).alloc (.cells #[.bool false] 4)
  have k3 := Boxed.new (((w.alloc (.cells #[.int .i64 t.k, .int .i64 t.n, v] 25)).alloc (.cells #[.int .i64 a] 3)).alloc (.cells #[.int .i64 b] 3)) 4 (.bool false)
  have hz4 : ((((w.alloc (.cells #[.int .i64 t.k, .int .i64 t.n, v] 25)).alloc (.cells #[.int .i64 a] 3)).alloc (.cells #[.int .i64 b] 3)).alloc (.cells #[.bool false] 4)).heap.size = w.heap.size + 4 := by simp
  simp only [World.size_alloc] at k1 k2 k3
  have HK : Hid (∀ wc, Below ((((w.alloc (.cells #[.int .i64 t.k, .int .i64 t.n, v] 25)).alloc (.cells #[.int .i64 a] 3)).alloc (.cells #[.int .i64 b] 3)).alloc (.cells #[.bool false] 4)).heap.size ((((w.alloc (.cells #[.int .i64 t.k, .int .i64 t.n, v] 25)).alloc (.cells #[.int .i64 a] 3)).alloc (.cells #[.int .i64 b] 3)).alloc (.cells #[.bool false] 4)) wc → (Box3 wc w.heap.size t v ∧ Boxed wc (w.heap.size + 1) 3 (.int .i64 a) ∧ Boxed wc (w.heap.size + 1 + 1) 3 (.int .i64 b) ∧ Boxed wc (w.heap.size + 1 + 1 + 1) 4 (.bool false)) ∧ At wc t.kids v ∧ Below w.heap.size w wc ∧ w.heap.size + 4 ≤ wc.heap.size) := fun wc hbc =>
    ⟨⟨k0.bel hbc, boxed_bel k1 hbc (by omega), boxed_bel k2 hbc (by omega), boxed_bel k3 hbc (by omega)⟩, hA4.bel hbc (Nat.le_refl _), hbW4.trans (hbc.mono (by omega)), by have := hbc.size; omega⟩
  clear k0 k1 k2 k3 hz4 hck hbW4 hA4
  unfold tv
  refine callsIn_of_wp_marks Try.func96 rfl trivial ?_ rfl
  simp only [Try.ntmps96, List.size_toArray, List.length_cons, List.length_nil, Nat.reduceAdd, Nat.reduceSub, Array.replicate_succ, Array.replicate_zero, List.push_toArray, List.append_toArray, List.nil_append, List.cons_append]
  gi_wp2_with (refine ⟨trivial, ?_⟩; first | (gi_at_call 104; refine (callsIn_wide.2 HCK.out).mono ?_; rintro e wc ⟨rfl, hbc⟩; obtain ⟨⟨⟨hb0, c0, c1, c2⟩, g1, g2, g3⟩, hAc, hBc, hzc⟩ := HK.out wc hbc; clear HCK HK hbc) | (gi_at_call 105; refine (callsIn_wide.2 (nodes_agg t v _ hAc)).mono ?_; rintro e w' ⟨rfl, rfl⟩))
  clear c0 c1 c2
  have hb3 := box3_new wc t v 25
  replace g1 := g1.alloc (.cells #[.int .i64 t.k, .int .i64 t.n, v] 25)
  replace g2 := g2.alloc (.cells #[.int .i64 t.k, .int .i64 t.n, v] 25)
  replace g3 := g3.alloc (.cells #[.int .i64 t.k, .int .i64 t.n, v] 25)
  have hB0 := hBc.alloc (by omega) (.cells #[.int .i64 t.k, .int .i64 t.n, v] 25)
  have hsz : (wc.alloc (.cells #[.int .i64 t.k, .int .i64 t.n, v] 25)).heap.size = wc.heap.size + 1 := by simp
  revert hb3 g1 g2 g3 hB0 hsz
  generalize wc.alloc (.cells #[.int .i64 t.k, .int .i64 t.n, v] 25) = W0
  generalize hBC : wc.heap.size = Bc at *
  intro hb3 g1 g2 g3 hB0 hsz
  have hz1 : W0.heap.size ≤ Bc + 1 := by omega
  have hz2 : Bc + 1 ≤ W0.heap.size := by omega
  clear hsz hBC
  refine wpIn_rangeFunc_N h1 (gf := 109) (lb := #[.pointer (some ⟨Bc, 0, none⟩)]) rfl (enters_of Try.func109 (by kernel_rfl) rfl)
    (nodes_seq 5 (by omega) Bc w W0 t v hf hs hA (old_of hB0) hb3) (Below.refl _ _) (by omega) rfl
    (fun pre W => (Boxed W (w.heap.size + 1) 3 (.int .i64 a) ∧ Boxed W (w.heap.size + 1 + 1) 3 (.int .i64 b) ∧ Boxed W (w.heap.size + 1 + 1 + 1) 4 (.bool false) ∧ allS a b pre = true) ∧ Below w.heap.size w W)
    (fun c pre W => c = .ret ∧ Boxed W (w.heap.size + 1 + 1 + 1) 4 (.bool false) ∧ (nodesT t 1 0).all (inP a b) = false ∧ Below w.heap.size w W)
    (fun s A B hs hb => ⟨⟨boxed_bel hs.1.1 hb (by omega), boxed_bel hs.1.2.1 hb (by omega), boxed_bel hs.1.2.2.1 hb (by omega), hs.1.2.2.2⟩, hs.2.trans (hb.mono (by omega))⟩)
    (fun c s A B hs hb => ⟨hs.1, boxed_bel hs.2.1 hb (by omega), hs.2.2.1, hs.2.2.2.trans (hb.mono (by omega))⟩)
    ⟨⟨g1, g2, g3, rfl⟩, hB0⟩
    (fun x a' W => ∃ Bx, W0.heap.size + 2 ≤ Bx ∧ W.heap[Bx]? = some (.cells #[.int .i64 x.d, .int .i64 x.b] 118 (0, 0)) ∧ W.heap[Bx + 1]? = some (.cells #[.int .i64 x.t.k, .int .i64 x.t.n, x.v] 25 (0, 0)) ∧ a' = { tmps := #[.agg #[.int .i64 t.k, .int .i64 t.n, v], .int .i64 a, .int .i64 b, .pointer (some ⟨w.heap.size, 0, none⟩), .pointer (some ⟨w.heap.size + 1, 0, none⟩), .pointer (some ⟨w.heap.size + 1 + 1, 0, none⟩), .pointer (some ⟨w.heap.size + 1 + 1 + 1, 0, none⟩), .pointer (some ⟨Bx, 0, none⟩), .pointer (some ⟨Bx + 1, 0, none⟩), .int .i64 a, .bool false, .bool false, .int .i64 b, .bool false, .bool false, .bool false, .agg #[.int .i64 t.k, .int .i64 t.n, v], .int .i64 0, .bool false, .bool false, .agg #[.int .i64 t.k, .int .i64 t.n, v], .func (.func 109) #[] #[.pointer (some ⟨Bc, 0, none⟩)], .agg #[.int .i64 x.d, .int .i64 x.b], .agg #[.int .i64 x.t.k, .int .i64 x.t.n, x.v], undef, undef, undef, undef, undef, undef, undef], defers := [] })
    (fun x a' A l o hs hl => by obtain ⟨Bx, h1, h2, h2', h3⟩ := hs; exact ⟨Bx, h1, (World.putObj_heap_other (by omega)).trans h2, (World.putObj_heap_other (by omega)).trans h2', h3⟩)
    ?assign ?body ?done ?stop
  case assign =>
    rintro l pre x W K hc ⟨⟨g1, g2, g3, g6⟩, hB⟩ hszW hK
    obtain ⟨ax, cx, hv⟩ := hc.mem.2
    obtain ⟨xd, xb, xt, xv⟩ := x
    simp only at hv
    subst hv
    simp only [El.vals, tv]
    gi_wp2
    have hnew := World.alloc_heap_new (W.alloc (.cells #[.int .i64 xd, .int .i64 xb] 118)) (.cells #[.int .i64 xt.k, .int .i64 xt.n, .slice ax xt.kids.length cx] 25)
    rw [World.size_alloc] at hnew
    exact hK _ _ (((KeepsOut.refl _ _ _).alloc _).alloc _) ⟨⟨(g1.alloc _).alloc _, (g2.alloc _).alloc _, (g3.alloc _).alloc _, g6⟩, (hB.alloc hB.size _).alloc (by simp; have := hB.size; omega) _⟩
      ⟨W.heap.size, by omega, (Below.heap_alloc _ _ _ (by simp)).trans (World.alloc_heap_new W _), hnew, by simp⟩
  case body =>
    rintro l pre x a' W hc ⟨⟨g1, g2, g3, g6⟩, hB⟩ hszW ⟨Bx, hBx, hbx, hbt, rfl⟩
    obtain ⟨ax, cx, hv⟩ := hc.mem.2
    have hmem := hc.mem.1
    have hfit := fitsP_n (List.all_eq_true.1 ((formed_all t 1 0).symm.trans hfm) _ hmem)
    have hrng := nodesT_in t 1 0 _ hmem
    have hdz := depth_le_size t
    obtain ⟨xd, xb, xt, xv⟩ := x
    simp only at hv
    subst hv
    simp only [El.p] at hfit hrng
    have hi := Lib.hid (fun w => inscope_any xt.k xt.n xb a b hfit.1 hfit.2 (by omega) (by omega) (.slice ax xt.kids.length cx) w)
    have c1 := g1.cell
    have c2 := g2.cell
    have x1 : W.cell? ⟨Bx, 1, none⟩ = some (.int .i64 xb) := by simp [World.cell?, hbx]
    obtain ⟨n0, n1, n2⟩ : W.cell? ⟨Bx + 1, 0, none⟩ = some (.int .i64 xt.k) ∧ W.cell? ⟨Bx + 1, 1, none⟩ = some (.int .i64 xt.n) ∧ W.cell? ⟨Bx + 1, 2, none⟩ = some (.slice ax xt.kids.length cx) := by
      refine ⟨?_, ?_, ?_⟩ <;> simp [World.cell?, hbt]
    have HS := Lib.hid (show allS a b (pre ++ [⟨xd, xb, xt, .slice ax xt.kids.length cx⟩]) = inB xt.k xt.n xb a b by rw [allS_snoc, g6]; rfl)
    have HC := Lib.hid hc
    have HM := Lib.hid hmem
    clear hbx hbt hmem hdz hc hrng hfit g6
    cases hin : inB xt.k xt.n xb a b with
    | true =>
      rw [hin] at hi HS
      clear hin
      gi_wp2_with (refine ⟨trivial, ?_⟩; gi_at_call 106; refine (CallsIn.inRound l (callsIn_wide.2 (hi.out _))).mono ?_; rintro e w' ⟨rfl, hbf⟩)
      exact ⟨(KeepsOut.refl _ _ _).below' hbf (Nat.le_refl _), ⟨boxed_bel g1 hbf (by omega), boxed_bel g2 hbf (by omega), boxed_bel g3 hbf (by omega), HS.out⟩, hB.trans (hbf.mono (by omega))⟩
    | false =>
      have HN := Lib.hid (allS_no (v := a) (c := b) HC.out (by simpa [inP, El.p] using hin))
      rw [hin] at hi HS
      clear hin
      gi_wp2_with (refine ⟨trivial, ?_⟩; gi_at_call 106; refine (CallsIn.inRound l (callsIn_wide.2 (hi.out _))).mono ?_; rintro e w' ⟨rfl, hbf⟩; have g3' := boxed_bel g3 hbf (by omega); have c3' := g3'.cell; have f3' := g3'.frozen)
      exact ⟨((KeepsOut.refl _ _ _).below' hbf (Nat.le_refl _)).setCell (by first | omega | (dsimp only; omega)) _, rfl, g3'.set _, HN.out, (hB.trans (hbf.mono (by omega))).setCell (by first | omega | (dsimp only; omega)) _⟩
  case done =>
    rintro D zs W hD hall ⟨⟨g1, g2, g3, g6⟩, hB⟩ hK
    have HE := Lib.hid ((allS_all a b hall).symm.trans g6)
    have c3 := g3.cell
    have f3 := g3.frozen
    clear hall g6
    gi_wp2
    have hK' : (W.setCell ⟨w.heap.size + 1 + 1 + 1, 0, none⟩ (.bool true)).heap[D]? = some (.deferred (some [])) := (Below.heap_setCell W _ _ D (by first | omega | (dsimp only; omega))).trans hK
    refine ⟨by simp, .inl ⟨_, _, rfl, run_takeDeferred hK', ?_⟩⟩
    have hc5 := cell_kept (g3.set (.bool true)).cell (grownBy_putObj' _ D (.deferred none)) (fun r e => by cases e; exact ⟨_, hK', rfl⟩)
    refine ⟨.bool true, ?_, by rw [HE.out], (hB.setCell (by first | omega | (dsimp only; omega)) _).trans (belowK_b (w := w) (Nat.le_refl _) _ D _ _ (by omega) hK' rfl rfl)⟩
    simp [results, Try.f96, go_sem, hc5]
  case stop =>
    rintro D c pre W hD hcm ⟨rfl, g3, hno, hB⟩ hK
    have HE := Lib.hid hno
    clear hcm hno
    gi_wp2
    refine ⟨by simp, .inl ⟨_, _, rfl, run_takeDeferred hK, ?_⟩⟩
    have hc5 := cell_kept g3.cell (grownBy_putObj' _ D (.deferred none)) (fun r e => by cases e; exact ⟨_, hK, rfl⟩)
    refine ⟨.bool false, ?_, by rw [HE.out], hB.trans (belowK_b (w := w) (Nat.le_refl _) W D _ _ (by omega) hK rfl rfl)⟩
    simp [results, Try.f96, go_sem, hc5]

set_option maxRecDepth 100000 in
set_option maxHeartbeats 1000000 in
theorem tscope_any (t : Tm) (v : Value) (w : World) (a b : Int) (hf : Fits t) (hs : size t < 2147483648) (hA : At w t.kids v) :
    Calls Try.prog 96 #[tv t v, .int .i64 a, .int .i64 b] w fun e w' => e = .returned (.bool (scopeT t a b)) ∧ Below w.heap.size w w' := by
  by_cases ha : a < 0
  · have d1 : decide (a < 0) = true := by simpa using ha
    have HE := Lib.hid (show scopeT t a b = false by rw [scopeT, decide_eq_false (by omega)]; rfl)
    have hB := ((((Below.refl _ w).alloc (Nat.le_refl _) (.cells #[.int .i64 t.k, .int .i64 t.n, v] 25)).alloc (by simp) (.cells #[.int .i64 a] 3)).alloc (by simp; omega) (.cells #[.int .i64 b] 3)).alloc (by simp; omega) (.cells #[.bool false] 4)
    unfold tv
    go_enter Try.func96, Try.ntmps96
    go_wp2
    exact bodyPost_ret (v := .bool false) (by simp [results, Try.f96, go_sem]) rfl ⟨by rw [HE.out], hB⟩
  by_cases hb : b < 0
  · have d1 : decide (a < 0) = false := by simpa using ha
    have d2 : decide (b < 0) = true := by simpa using hb
    have HE := Lib.hid (show scopeT t a b = false by rw [scopeT, decide_eq_false (p := 0 ≤ b) (by omega)]; simp)
    have hB := ((((Below.refl _ w).alloc (Nat.le_refl _) (.cells #[.int .i64 t.k, .int .i64 t.n, v] 25)).alloc (by simp) (.cells #[.int .i64 a] 3)).alloc (by simp; omega) (.cells #[.int .i64 b] 3)).alloc (by simp; omega) (.cells #[.bool false] 4)
    unfold tv
    go_enter Try.func96, Try.ntmps96
    go_wp2
    exact bodyPost_ret (v := .bool false) (by simp [results, Try.f96, go_sem]) rfl ⟨by rw [HE.out], hB⟩
  by_cases hck : checkE t = 0
  · have h := callsIn_wide.1 (tscope_in t v w a b (by omega) (by omega) hck hf hs hA)
    have HE : scopeT t a b = (nodesT t 1 0).all (inP a b) := by
      rw [scopeT, scoped_nodes t a b (check_formed hck), decide_eq_true (by omega), decide_eq_true (p := 0 ≤ b) (by omega), decide_eq_true hck]; rfl
    rw [HE]
    exact h
  · have d1 : decide (a < 0) = false := by simpa using ha
    have d2 : decide (b < 0) = false := by simpa using hb
    have d3 : (checkE t != 0) = true := by simpa using hck
    have HE := Lib.hid (show scopeT t a b = false by rw [scopeT, decide_eq_false hck]; simp)
    have hA4 : At ((((w.alloc (.cells #[.int .i64 t.k, .int .i64 t.n, v] 25)).alloc (.cells #[.int .i64 a] 3)).alloc (.cells #[.int .i64 b] 3)).alloc (.cells #[.bool false] 4)) t.kids v := (((hA.alloc _).alloc _).alloc _).alloc _
    have hbW4 : Below w.heap.size w ((((w.alloc (.cells #[.int .i64 t.k, .int .i64 t.n, v] 25)).alloc (.cells #[.int .i64 a] 3)).alloc (.cells #[.int .i64 b] 3)).alloc (.cells #[.bool false] 4)) := ((((Below.refl _ w).alloc (Nat.le_refl _) _).alloc (by simp) _).alloc (by simp; omega) _).alloc (by simp; omega) _
    have k3 := Boxed.new (((w.alloc (.cells #[.int .i64 t.k, .int .i64 t.n, v] 25)).alloc (.cells #[.int .i64 a] 3)).alloc (.cells #[.int .i64 b] 3)) 4 (.bool false)
    have hz4 : ((((w.alloc (.cells #[.int .i64 t.k, .int .i64 t.n, v] 25)).alloc (.cells #[.int .i64 a] 3)).alloc (.cells #[.int .i64 b] 3)).alloc (.cells #[.bool false] 4)).heap.size = w.heap.size + 4 := by simp
    simp only [World.size_alloc] at k3
    have HCK := Lib.hid (check_agg t v ((((w.alloc (.cells #[.int .i64 t.k, .int .i64 t.n, v] 25)).alloc (.cells #[.int .i64 a] 3)).alloc (.cells #[.int .i64 b] 3)).alloc (.cells #[.bool false] 4)) hf hs hA4)
    have HK : Hid (∀ wc, Below ((((w.alloc (.cells #[.int .i64 t.k, .int .i64 t.n, v] 25)).alloc (.cells #[.int .i64 a] 3)).alloc (.cells #[.int .i64 b] 3)).alloc (.cells #[.bool false] 4)).heap.size ((((w.alloc (.cells #[.int .i64 t.k, .int .i64 t.n, v] 25)).alloc (.cells #[.int .i64 a] 3)).alloc (.cells #[.int .i64 b] 3)).alloc (.cells #[.bool false] 4)) wc → Boxed wc (w.heap.size + 1 + 1 + 1) 4 (.bool false) ∧ Below w.heap.size w wc) := fun wc hbc =>
      ⟨boxed_bel k3 hbc (by omega), hbW4.trans (hbc.mono (by omega))⟩
    clear hck k3 hz4 hbW4 hA4
    unfold tv
    go_enter Try.func96, Try.ntmps96
    go_wp2_with (go_at_call 104; refine HCK.out.mono ?_; rintro e wc ⟨rfl, hbc⟩; obtain ⟨g3, hBc⟩ := HK.out wc hbc; have c3 := g3.cell; have f3 := g3.frozen; clear HCK HK hbc)
    have hc5 := (g3.set (.bool false)).cell
    exact bodyPost_ret (v := .bool false) (by simp [results, Try.f96, go_sem, hc5]) rfl ⟨by rw [HE.out], hBc.setCell (by first | omega | (dsimp only; omega)) _⟩
end Go.Proofs.Ytggefpkfikimiaa
/- Facts about right terms. No conditions. -/
namespace Go.Proofs.Ytggefpkfikimiaa
open Go.RowKit
set_option linter.unusedVariables false

/-- The empty term. -/
def noT : Tm := .node 0 0 []
theorem formedL_mem {l : List Tm} (h : formedL l = true) {u : Tm} (hu : u ∈ l) : formedB u = true := by
  induction l with
  | nil => cases hu
  | cons a l ih =>
    rw [formedL, Bool.and_eq_true] at h
    rcases List.mem_cons.1 hu with rfl | hu
    · exact h.1
    · exact ih h.2 hu
theorem kidsI_kind {k : Int} (h : 0 ≤ kidsI k) : 1 ≤ k ∧ k ≤ 13 := by
  unfold kidsI at h
  split at h
  · omega
  · split at h
    · omega
    · split at h
      · omega
      · split at h <;> omega
mutual
theorem fits_formed : ∀ t : Tm, formedB t = true → Fits t
  | .node k n l, h => by
    rw [formedB, Bool.and_eq_true, Bool.and_eq_true, decide_eq_true_eq] at h
    obtain ⟨⟨h1, h2⟩, h3⟩ := h
    have hk := kidsI_kind (k := k) (by omega)
    refine .mk _ _ _ (by unfold I64; omega) ?_ (fitsL_formed l h3)
    by_cases hl : l.length = 0
    · rw [if_pos hl] at h2; simp at h2; unfold I64; omega
    · rw [if_neg hl] at h2; simp at h2; unfold I64; omega
theorem fitsL_formed : ∀ l : List Tm, formedL l = true → ∀ u ∈ l, Fits u
  | [], _ => fun u hu => by cases hu
  | t :: l, h => fun u hu => by
    rw [formedL, Bool.and_eq_true] at h
    rcases List.mem_cons.1 hu with h0 | hu
    · rw [h0]; exact fits_formed t h.1
    · exact fitsL_formed l h.2 u hu
end
theorem check_size {t : Tm} (h : checkE t = 0) : size t ≤ 6000 := by
  unfold checkE at h
  by_cases h1 : 6000 < size t
  · rw [if_pos h1] at h; omega
  · omega
theorem check_fits {t : Tm} (h : checkE t = 0) : Fits t := fits_formed t (check_formed h)
theorem check_kid {t u : Tm} (h : checkE t = 0) (hu : u ∈ t.kids) : checkE u = 0 := by
  have hf := check_formed h
  have h1 := check_size h
  have h2 : ¬ 200 < depth t := fun hh => by rw [checkE, if_neg (by omega), if_pos hh] at h; cases h
  rw [formedB_eq, Bool.and_eq_true] at hf
  have h3 := formedL_mem hf.2 hu
  have h4 := size_le_of_mem hu
  have h5 := size_eq t
  have h6 : depth u ≤ depthL t.kids := by
    obtain ⟨i, hi, rfl⟩ := List.getElem_of_mem hu
    exact depth_get hi
  have h7 := depth_eq t
  rw [checkE, if_neg (by omega), if_neg (by omega), if_neg (by rw [h3]; simp)]
end Go.Proofs.Ytggefpkfikimiaa
/- Terms whose variables are renumbered: mathematics alone. -/
namespace Go.Proofs.Ytggefpkfikimiaa
open Go.RowKit
set_option linter.unusedVariables false

mutual
/-- Each Var's number by what g says of it, d being one more within a binder. -/
def mapT (g : Int → Int → Int) : Tm → Int → Tm | .node k n l, d => .node k (if k = 1 then g d n else n) (mapL g l k d 0)
def mapL (g : Int → Int → Int) : List Tm → Int → Int → Nat → List Tm | [], _, _, _ => [] | t :: l, k, d, i => mapT g t (d + bindsI k i) :: mapL g l k d (i + 1)
end
mutual
def overB : Tm → Bool | .node _ n l => decide (65535 < n) || overL l
def overL : List Tm → Bool | [] => false | t :: l => overB t || overL l
end
theorem mapT_eq (g : Int → Int → Int) (t : Tm) (d : Int) : mapT g t d = .node t.k (if t.k = 1 then g d t.n else t.n) (mapL g t.kids t.k d 0) := by cases t; rfl
theorem overB_eq (t : Tm) : overB t = (decide (65535 < t.n) || overL t.kids) := by cases t; rfl
theorem mapL_length (g : Int → Int → Int) : ∀ (l : List Tm) (k d : Int) (i : Nat), (mapL g l k d i).length = l.length
  | [], _, _, _ => rfl
  | t :: l, k, d, i => by rw [mapL, List.length_cons, List.length_cons, mapL_length g l]
theorem mapL_get (g : Int → Int → Int) : ∀ (l : List Tm) (k d : Int) (i j : Nat) (h : j < l.length), (mapL g l k d i)[j]? = some (mapT g l[j] (d + bindsI k ((i + j : Nat) : Int)))
  | t :: l, k, d, i, 0, h => by simp [mapL]
  | t :: l, k, d, i, j + 1, h => by
    have := mapL_get g l k d (i + 1) j (by simpa using h)
    rw [mapL, List.getElem?_cons_succ, this]
    simp only [List.getElem_cons_succ]
    congr 4
    omega
theorem mapL_append (g : Int → Int → Int) : ∀ (a b : List Tm) (k d : Int) (i : Nat), mapL g (a ++ b) k d i = mapL g a k d i ++ mapL g b k d (i + a.length)
  | [], b, k, d, i => by simp [mapL]
  | t :: a, b, k, d, i => by
    rw [List.cons_append, mapL, mapL, mapL_append g a b, List.cons_append, List.length_cons]
    congr 3
    omega
theorem mapL_take_succ (g : Int → Int → Int) {l : List Tm} {j : Nat} (h : j < l.length) (k d : Int) : mapL g (l.take (j + 1)) k d 0 = mapL g (l.take j) k d 0 ++ [mapT g l[j] (d + bindsI k j)] := by
  rw [List.take_succ_eq_append_getElem h, mapL_append]
  simp [mapL, Nat.min_eq_left (Nat.le_of_lt h)]
theorem overL_append (a b : List Tm) : overL (a ++ b) = (overL a || overL b) := by
  induction a with
  | nil => simp [overL]
  | cons x a ih => simp [overL, ih, Bool.or_assoc]
mutual
theorem mapT_id (g : Int → Int → Int) (hg : ∀ d n, g d n = n) : ∀ (t : Tm) (d : Int), mapT g t d = t
  | .node k n l, d => by rw [mapT, mapL_id g hg l, hg]; simp
theorem mapL_id (g : Int → Int → Int) (hg : ∀ d n, g d n = n) : ∀ (l : List Tm) (k d : Int) (i : Nat), mapL g l k d i = l
  | [], _, _, _ => rfl
  | t :: l, k, d, i => by rw [mapL, mapT_id g hg t, mapL_id g hg l]
end
mutual
/-- One behind the other, from places that are c apart. -/
theorem mapT_comp (g h : Int → Int → Int) (c : Int) : ∀ (t : Tm) (d : Int), mapT g (mapT h t d) (d + c) = mapT (fun d n => g (d + c) (h d n)) t d
  | .node k n l, d => by
    rw [mapT, mapT, mapT, mapL_comp g h c l]
    congr 1
    split <;> rfl
theorem mapL_comp (g h : Int → Int → Int) (c : Int) : ∀ (l : List Tm) (k d : Int) (i : Nat), mapL g (mapL h l k d i) k (d + c) i = mapL (fun d n => g (d + c) (h d n)) l k d i
  | [], _, _, _ => rfl
  | t :: l, k, d, i => by
    rw [mapL, mapL, mapL, mapL_comp g h c l, show d + c + bindsI k i = d + bindsI k i + c by omega, mapT_comp g h c t]
end
theorem mapT_ext {g h : Int → Int → Int} (H : ∀ d n, g d n = h d n) (t : Tm) (d : Int) : mapT g t d = mapT h t d := by
  rw [show g = h from funext fun d => funext fun n => H d n]
mutual
theorem mapT_size (g : Int → Int → Int) : ∀ (t : Tm) (d : Int), size (mapT g t d) = size t
  | .node k n l, d => by rw [mapT, size, size, mapL_size g l]
theorem mapL_size (g : Int → Int → Int) : ∀ (l : List Tm) (k d : Int) (i : Nat), sizeL (mapL g l k d i) = sizeL l
  | [], _, _, _ => rfl
  | t :: l, k, d, i => by rw [mapL, sizeL, sizeL, mapT_size g t, mapL_size g l]
end
mutual
theorem mapT_depth (g : Int → Int → Int) : ∀ (t : Tm) (d : Int), depth (mapT g t d) = depth t
  | .node k n l, d => by rw [mapT, depth, depth, mapL_depth g l]
theorem mapL_depth (g : Int → Int → Int) : ∀ (l : List Tm) (k d : Int) (i : Nat), depthL (mapL g l k d i) = depthL l
  | [], _, _, _ => rfl
  | t :: l, k, d, i => by rw [mapL, depthL, depthL, mapT_depth g t, mapL_depth g l]
end
mutual
/-- Renumbered it is formed as it was, where no number is too great. -/
theorem mapT_formed (g : Int → Int → Int) (hg : ∀ d n, 0 ≤ n → 0 ≤ g d n) : ∀ (t : Tm) (d : Int), formedB t = true → overB (mapT g t d) = false → formedB (mapT g t d) = true
  | .node k n l, d, h1, h2 => by
    rw [formedB, Bool.and_eq_true, Bool.and_eq_true, decide_eq_true_eq] at h1
    obtain ⟨⟨a1, a2⟩, a3⟩ := h1
    rw [mapT, overB, Bool.or_eq_false_iff, decide_eq_false_iff_not] at h2
    rw [mapT, formedB, mapL_length, mapL_formed g hg l k d 0 a3 h2.2, Bool.and_true, Bool.and_eq_true, decide_eq_true_eq]
    refine ⟨a1, ?_⟩
    by_cases hl : l.length = 0
    · rw [if_pos hl] at a2 ⊢
      simp only [Bool.and_eq_true, decide_eq_true_eq] at a2 ⊢
      have h3 := h2.1
      by_cases hk : k = 1
      · rw [if_pos hk] at h3 ⊢
        exact ⟨hg d n a2.1, by omega⟩
      · rw [if_neg hk]; exact a2
    · rw [if_neg hl] at a2 ⊢
      have hk : k ≠ 1 := fun hk => hl (by rw [hk] at a1; have : kidsI 1 = 0 := by decide
                                          omega)
      rw [if_neg hk]; exact a2
theorem mapL_formed (g : Int → Int → Int) (hg : ∀ d n, 0 ≤ n → 0 ≤ g d n) : ∀ (l : List Tm) (k d : Int) (i : Nat), formedL l = true → overL (mapL g l k d i) = false → formedL (mapL g l k d i) = true
  | [], _, _, _, _, _ => rfl
  | t :: l, k, d, i, h1, h2 => by
    rw [formedL, Bool.and_eq_true] at h1
    rw [mapL, overL, Bool.or_eq_false_iff] at h2
    rw [mapL, formedL, mapT_formed g hg t _ h1.1 h2.1, mapL_formed g hg l k d (i + 1) h1.2 h2.2]
    rfl
end
mutual
/-- What stays below the bound where numbers are no greater. -/
theorem over_mono {g h : Int → Int → Int} (H : ∀ d n, 0 ≤ n → h d n ≤ g d n) : ∀ (t : Tm) (d : Int), formedB t = true → overB (mapT g t d) = false → overB (mapT h t d) = false
  | .node k n l, d, h1, h2 => by
    rw [formedB, Bool.and_eq_true, Bool.and_eq_true, decide_eq_true_eq] at h1
    obtain ⟨⟨a1, a2⟩, a3⟩ := h1
    rw [mapT, overB, Bool.or_eq_false_iff, decide_eq_false_iff_not] at h2
    rw [mapT, overB, overL_mono H l k d 0 a3 h2.2, Bool.or_false, decide_eq_false_iff_not]
    have h3 := h2.1
    by_cases hk : k = 1
    · rw [if_pos hk] at h3 ⊢
      have hn : 0 ≤ n := by
        split at a2
        · simp only [Bool.and_eq_true, decide_eq_true_eq] at a2; exact a2.1
        · simp only [decide_eq_true_eq] at a2; omega
      have := H d n hn
      omega
    · rw [if_neg hk] at h3 ⊢; exact h3
theorem overL_mono {g h : Int → Int → Int} (H : ∀ d n, 0 ≤ n → h d n ≤ g d n) : ∀ (l : List Tm) (k d : Int) (i : Nat), formedL l = true → overL (mapL g l k d i) = false → overL (mapL h l k d i) = false
  | [], _, _, _, _, _ => rfl
  | t :: l, k, d, i, h1, h2 => by
    rw [formedL, Bool.and_eq_true] at h1
    rw [mapL, overL, Bool.or_eq_false_iff] at h2
    rw [mapL, overL, over_mono H t _ h1.1 h2.1, overL_mono H l k d (i + 1) h1.2 h2.2]
    rfl
end
mutual
theorem over_formed : ∀ (t : Tm), formedB t = true → overB t = false
  | .node k n l, h1 => by
    rw [formedB, Bool.and_eq_true, Bool.and_eq_true, decide_eq_true_eq] at h1
    obtain ⟨⟨a1, a2⟩, a3⟩ := h1
    rw [overB, overL_formed l a3, Bool.or_false, decide_eq_false_iff_not]
    split at a2
    · simp only [Bool.and_eq_true, decide_eq_true_eq] at a2; omega
    · simp only [decide_eq_true_eq] at a2; omega
theorem overL_formed : ∀ (l : List Tm), formedL l = true → overL l = false
  | [], _ => rfl
  | t :: l, h1 => by
    rw [formedL, Bool.and_eq_true] at h1
    rw [overL, over_formed t h1.1, overL_formed l h1.2]; rfl
end
mutual
/-- A variable that none becomes. -/
theorem count_none {g : Int → Int → Int} (c : Int) (H : ∀ d n, g d n ≠ d + c) : ∀ (t : Tm) (d : Int), countT (mapT g t d) (d + c) = 0
  | .node k n l, d => by
    rw [mapT, countT, countL_none c H l, if_neg]
    rintro ⟨hk, h⟩
    rw [if_pos hk] at h
    exact H d n h
theorem countL_none {g : Int → Int → Int} (c : Int) (H : ∀ d n, g d n ≠ d + c) : ∀ (l : List Tm) (k d : Int) (i : Nat), countL (mapL g l k d i) k (d + c) i = 0
  | [], _, _, _ => rfl
  | t :: l, k, d, i => by
    rw [mapL, countL, countL_none c H l, show d + c + bindsI k i = d + bindsI k i + c by omega, count_none c H t]
end
mutual
/-- A variable that becomes another, and no third one does. -/
theorem count_same {g : Int → Int → Int} (c c' : Int) (H : ∀ d n, g d n = d + c ↔ n = d + c') : ∀ (t : Tm) (d : Int), countT (mapT g t d) (d + c) = countT t (d + c')
  | .node k n l, d => by
    rw [mapT, countT, countT, countL_same c c' H l]
    congr 1
    by_cases hk : k = 1
    · rw [if_pos hk]
      by_cases h : n = d + c'
      · rw [if_pos ⟨hk, (H d n).2 h⟩, if_pos ⟨hk, h⟩]
      · rw [if_neg fun x => h ((H d n).1 x.2), if_neg fun x => h x.2]
    · rw [if_neg fun x => hk x.1, if_neg fun x => hk x.1]
theorem countL_same {g : Int → Int → Int} (c c' : Int) (H : ∀ d n, g d n = d + c ↔ n = d + c') : ∀ (l : List Tm) (k d : Int) (i : Nat), countL (mapL g l k d i) k (d + c) i = countL l k (d + c') i
  | [], _, _, _ => rfl
  | t :: l, k, d, i => by
    rw [mapL, countL, countL, countL_same c c' H l, show d + c + bindsI k i = d + bindsI k i + c by omega, count_same c c' H t, show d + c' + bindsI k i = d + bindsI k i + c' by omega]
end
end Go.Proofs.Ytggefpkfikimiaa
