/- Package term's Size and Depth: what they return for any term. -/
import Derived.Test.YtblebboamopffaaNw
namespace Go.Proofs.Ytblebboamopffaa
open Go.RowKit Go.Shelf Go Go.Joins
attribute [local go_sem] Oper.semAt_some

theorem old_of {w W : World} (h : Below w.heap.size w W) : Old w W := ⟨h.size, h.block⟩
theorem boxed_bel {W W' : World} {B D : Nat} {t : TypeId} {v : Value} (h : Boxed W B t v) (hb : Below D W W') (hD : B < D) : Boxed W' B t v := (hb.block B hD).trans h

theorem nodes_agg (t : Tm) (v : Value) (w : World) (hA : At w t.kids v) :
    Calls Try.prog 45 #[.agg #[.int .i64 t.k, .int .i64 t.n, v]] w fun e w' => e = .returned (.func (.func 51) #[] #[.pointer (some ⟨w.heap.size, 0, none⟩)]) ∧ w' = w.alloc (.cells #[.int .i64 t.k, .int .i64 t.n, v] 24) :=
  nodes_any t v w hA
theorem boxed_other {W : World} {B : Nat} {t : TypeId} {v : Value} (h : Boxed W B t v) (a : Addr) (u : Value) (hne : B ≠ a.block) : Boxed (W.setCell a u) B t v := (Below.heap_setCell W a u B hne).trans h

set_option maxRecDepth 100000 in
set_option maxHeartbeats 1000000 in
theorem tsize_in (t : Tm) (v : Value) (w : World) (hf : Fits t) (hs : size t < 2147483648) (hA : At w t.kids v) :
    CallsIn Fence.wide 6 Try.prog 29 #[tv t v] w fun e w' => e = .returned (.int .i64 (size t)) ∧ Below w.heap.size w w' := by
  have h1 : 1 ≤ 6 := by omega
  unfold tv
  refine callsIn_of_wp_marks Try.func29 rfl trivial ?_ rfl
  simp only [Try.ntmps29, List.size_toArray, List.length_cons, List.length_nil, Nat.reduceAdd, Nat.reduceSub, Array.replicate_succ, Array.replicate_zero, List.push_toArray, List.append_toArray, List.nil_append, List.cons_append]
  gi_wp2_with (refine ⟨trivial, ?_⟩; gi_at_call 45; refine (callsIn_wide.2 (nodes_agg t v _ ((hA.alloc _).alloc _))).mono ?_; rintro e w' ⟨rfl, rfl⟩)
  have hb3 := box3_new ((w.alloc (.cells #[.int .i64 t.k, .int .i64 t.n, v] 24)).alloc (.cells #[.int .i64 0] 3)) t v 24
  have hbc := (Boxed.new (w.alloc (.cells #[.int .i64 t.k, .int .i64 t.n, v] 24)) 3 (.int .i64 0)).alloc (.cells #[.int .i64 t.k, .int .i64 t.n, v] 24)
  have hB0 : Below w.heap.size w (((w.alloc (.cells #[.int .i64 t.k, .int .i64 t.n, v] 24)).alloc (.cells #[.int .i64 0] 3)).alloc (.cells #[.int .i64 t.k, .int .i64 t.n, v] 24)) := (((Below.refl _ w).alloc (Nat.le_refl _) _).alloc (by simp) _).alloc (by simp; omega) _
  have hsz : (((w.alloc (.cells #[.int .i64 t.k, .int .i64 t.n, v] 24)).alloc (.cells #[.int .i64 0] 3)).alloc (.cells #[.int .i64 t.k, .int .i64 t.n, v] 24)).heap.size = w.heap.size + 3 := by simp
  simp only [World.size_alloc] at hb3 hbc
  revert hb3 hbc hB0 hsz
  generalize ((w.alloc (.cells #[.int .i64 t.k, .int .i64 t.n, v] 24)).alloc (.cells #[.int .i64 0] 3)).alloc (.cells #[.int .i64 t.k, .int .i64 t.n, v] 24) = W0
  intro hB0 hsz hb3 hbc
  refine wpIn_rangeFunc_N h1 (gf := 51) (lb := #[.pointer (some ⟨w.heap.size + 1 + 1, 0, none⟩)]) rfl (enters_of Try.func51 (by kernel_rfl) rfl)
    (nodes_seq 5 (by omega) (w.heap.size + 1 + 1) w W0 t v hf hs hA (old_of hB0) hb3) (Below.refl _ _) (by omega) rfl
    (fun pre W => Boxed W (w.heap.size + 1) 3 (.int .i64 pre.length) ∧ Below w.heap.size w W)
    (fun _ _ _ => False)
    (fun s A B hs hb => ⟨boxed_bel hs.1 hb (by omega), hs.2.trans (hb.mono (by omega))⟩)
    (fun _ _ _ _ hs _ => hs)
    ⟨hbc, hB0⟩
    (fun x a' _ => a' = { tmps := #[.agg #[.int .i64 t.k, .int .i64 t.n, v], .pointer (some ⟨w.heap.size, 0, none⟩), .int .i64 0, .pointer (some ⟨w.heap.size + 1, 0, none⟩), .agg #[.int .i64 t.k, .int .i64 t.n, v], .func (.func 51) #[] #[.pointer (some ⟨w.heap.size + 1 + 1, 0, none⟩)], .agg #[.int .i64 x.d, .int .i64 x.b], .agg #[.int .i64 x.t.k, .int .i64 x.t.n, x.v], undef, undef, undef], defers := [] })
    (fun _ _ _ _ _ hs _ => hs)
    ?assign ?body ?done ?stop
  case assign =>
    rintro l pre x W K hc hi _ hK
    simp only [El.vals, tv]
    gi_wp2
    exact hK _ _ (KeepsOut.refl _ _ _) hi (by simp)
  case body =>
    rintro l pre x a' W hc ⟨hb, hB⟩ _ rfl
    have hlen := hc.length
    rw [nodesT_len] at hlen
    simp only [List.length_append, List.length_singleton] at hlen
    have cS := hb.cell
    have fS := hb.frozen
    gi_wp2
    refine ⟨(KeepsOut.refl _ _ _).setCell (p := ⟨w.heap.size + 1, 0, none⟩) ⟨by simp, by simp; omega⟩ _, ?_, hB.setCell (p := ⟨w.heap.size + 1, 0, none⟩) (by simp) _⟩
    have := hb.set (.int .i64 ((pre ++ [x]).length : Int))
    simpa using this
  case done =>
    rintro D zs W hD hall ⟨hb, hB⟩ hK
    have cS := hb.cell
    have HL := Lib.hid (show zs.length = size t by have := hall.1.length_eq; rw [nodesT_len] at this; simpa using this)
    clear hall
    gi_wp2
    refine ⟨by simp, .inl ⟨_, _, rfl, run_takeDeferred hK, ?_⟩⟩
    exact ⟨_, results_tmp rfl _ _ _, by simp [HL.out], hB.trans (belowK_b (w := w) (Nat.le_refl _) W D _ _ (by omega) hK rfl rfl)⟩
  case stop =>
    rintro D c pre W _ _ h _
    exact h.elim
theorem tsize_any (t : Tm) (v : Value) (w : World) (hf : Fits t) (hs : size t < 2147483648) (hA : At w t.kids v) :
    Calls Try.prog 29 #[tv t v] w fun e w' => e = .returned (.int .i64 (size t)) ∧ Below w.heap.size w w' :=
  callsIn_wide.1 (tsize_in t v w hf hs hA)
end Go.Proofs.Ytblebboamopffaa
