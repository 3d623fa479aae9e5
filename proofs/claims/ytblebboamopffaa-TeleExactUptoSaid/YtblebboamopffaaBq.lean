/- A row of terms gone through from its end (slices.Backward). No conditions. -/
import Derived.Test.YtblebboamopffaaCs
import Derived.Test.YtblebboamopffaaRr
namespace Go.Proofs.Ytblebboamopffaa
open Go.RowKit Go.Shelf Go Go.Joins
set_option linter.unusedVariables false
attribute [local go_sem] Oper.semAt_some

/-- An iterator that hands on the values of the places m - 1 down to 0; what the rounds keep is told by I. -/
def SeqB (n : Nat) (P : Program) (g : Nat) (lb : Array Value) (m : Nat) (vals : Nat → Array Value) (I : Nat → World → Prop) (w : World) : Prop :=
  ∀ (l : Nat) (J : Nat → World → Prop) (W : World), Below w.heap.size w W → (∀ s A, J s A → I s A) →
    (∀ p W1, p < m → J (p + 1) W1 → YieldAt Fence.wide (n - 1) P l (vals p) W1 fun e W' => e = .returned (.bool true) ∧ J p W') →
    J m W → CallsIn Fence.wide n P g (#[.func (.yield l) #[] #[]] ++ lb) W fun e W' => (∃ v, e = .returned v) ∧ J 0 W'
def postB (n₀ n₁ : Nat) (I : Nat → World → Prop) (p : Nat) (W : World) : Exit → Act → World → Prop
  | .normal, _, W' => KeepsOut n₀ n₁ W W' ∧ I p W'
  | _, _, _ => False
theorem wpIn_rangeFunc_B {n : Nat} {P : Program} {g : Operand} {ps : Array Tmp} {assign body : Code} {Q : Exit → Act → World → Prop} {a : Act} {w : World}
    (h1 : 1 ≤ n) {gf : Nat} {lb : Array Value} (hg : a.eval g = .func (.func gf) #[] lb) (eg : ∀ args w, (callFunc gf args).run P w = .ok (.enter gf args) w)
    {n₀ m : Nat} {vals : Nat → Array Value} (I : Nat → World → Prop) (hseq : SeqB (n - 1) P gf lb m vals I w) (hn₀ : n₀ ≤ w.heap.size) (hps : ∀ p, ps.size = (vals p).size)
    (hI : ∀ s A B, I s A → Below A.heap.size A B → I s B) (hIP : ∀ s A o, I s A → I s (A.putObj (w.heap.size + 1) o)) (h0 : I m w)
    (Ax : Nat → Act → World → Prop) (hAx : ∀ x a' A l o, Ax x a' A → l < w.heap.size + 2 → Ax x a' (A.putObj l o))
    (hassign : ∀ (l : Nat) (p : Nat) (W : World) (K : Act → World → Prop), p < m → I (p + 1) W → w.heap.size + 2 ≤ W.heap.size → (∀ a' W', KeepsOut n₀ w.heap.size W W' → I (p + 1) W' → Ax p a' W' → K a' W') →
      assign.wpIn (Fence.wide.inRound l) (n - 1 - 1) P (Exit.then K (fun _ _ _ => False)) { tmps := (ps.zip (vals p)).foldl (fun t (p, v) => t.setIfInBounds p v) a.tmps, defers := [] } W)
    (hbody : ∀ (l : Nat) (p : Nat) (a' : Act) (W : World), p < m → I (p + 1) W → w.heap.size + 2 ≤ W.heap.size → Ax p a' W → body.wpIn (Fence.wide.inRound l) (n - 1 - 1) P (postB n₀ w.heap.size I p W) a' W)
    (hdone : ∀ (W : World), I 0 W → W.heap[w.heap.size]? = some (.deferred (some [])) → Q .normal { a with defers := { target := .collected w.heap.size, args := #[] } :: a.defers } W) :
    (Code.rangeFunc g ps assign body).wpIn Fence.wide n P Q a w := by
  refine wpIn_rangeFunc ?_
  intro fn hfn
  obtain ⟨rec, hrec⟩ : ∃ rec : LoopState → Option Code → Loop, rec = fun st pe => { state := st, pending := pe, fn, tmps := a.tmps, params := ps, assign, body, defers := w.heap.size } := ⟨_, rfl⟩
  obtain ⟨W1, hW1⟩ : ∃ W1, (w.alloc (.deferred (some []))).alloc (.loop (rec .ready none)) = W1 := ⟨_, rfl⟩
  have hz1 : W1.heap.size = w.heap.size + 2 := by rw [← hW1]; simp
  have hL1 : W1.heap[w.heap.size + 1]? = some (.loop (rec .ready none)) := by
    rw [← hW1]; have := World.alloc_heap_new (w.alloc (.deferred (some []))) (.loop (rec .ready none)); rwa [World.size_alloc] at this
  have hK1 : W1.heap[w.heap.size]? = some (.deferred (some [])) := by
    rw [← hW1]; exact (Below.heap_alloc _ _ _ (by simp)).trans (World.alloc_heap_new w _)
  have hbW : Below w.heap.size w W1 := by rw [← hW1]; exact ((Below.refl _ w).alloc (Nat.le_refl _) _).alloc (by simp) _
  have hI1 : I m W1 := hI _ _ _ h0 hbW
  refine ⟨w.heap.size + 1, [{ target := .collected w.heap.size, args := #[] }], W1, { target := .fn (.func gf) lb, args := #[.func (.yield (w.heap.size + 1)) #[] #[]] }, W1, gf,
    #[.func (.yield (w.heap.size + 1)) #[] #[]] ++ lb, W1, ?_, ?_, ?_, ?_, fun _ => h1, ?_⟩
  · rw [← hW1, hrec]; exact run_enterLoop_outer _ _ _ _ _
  · simp only [resolve, hg]
    simp [go_sem]
  · intro f' hf'; exact trivial
  · simp [invoke, go_sem, eg]
  · refine (hseq (w.heap.size + 1)
      (fun pre W => I pre W ∧ W.heap[w.heap.size + 1]? = some (.loop (rec .ready none)) ∧ W.heap[w.heap.size]? = some (.deferred (some [])))
      W1 hbW
      (fun s A hs => hs.1)
      ?_ ⟨hI1, hL1, hK1⟩).mono ?_
    · -- one round
      rintro p W hcame ⟨hi, hl, hk⟩
      have hsz := (Array.getElem?_eq_some_iff.1 hl).1
      have hy := run_yield (P := P) (args := vals p) hl (by rw [hrec]; exact (hps p).symm)
      rw [hrec] at hy
      refine ⟨fn, _, assign, body, hy, roundIn_of_wpIn hfn (hassign _ p W _ hcame hi (by omega) ?_)⟩
      clear hy
      intro a' Wa hka hia hax
      have hla : Wa.heap[w.heap.size + 1]? = some (.loop (rec .ready none)) := (hka.block _ (by omega) (by omega)).trans hl
      have hka2 : Wa.heap[w.heap.size]? = some (.deferred (some [])) := (hka.block _ (by omega) (by omega)).trans hk
      have hlt : w.heap.size + 1 < Wa.heap.size := (Array.getElem?_eq_some_iff.1 hla).1
      refine ⟨_, run_beginRound hla (by rw [hrec]), ?_⟩
      have hl2 : (Wa.putObj (w.heap.size + 1) (.loop { rec .ready none with state := .busy })).heap[w.heap.size + 1]? = some (.loop { rec .ready none with state := .busy }) := World.putObj_heap_same hlt
      have hk2 : (Wa.putObj (w.heap.size + 1) (.loop { rec .ready none with state := .busy })).heap[w.heap.size]? = some (.deferred (some [])) := (World.putObj_heap_other (by omega)).trans hka2
      have hsa : w.heap.size + 2 ≤ (Wa.putObj (w.heap.size + 1) (.loop { rec .ready none with state := .busy })).heap.size := by simp [World.putObj]; omega
      refine wpIn_mono (hbody _ p a' _ hcame (hIP _ _ _ hia) hsa (hAx _ _ _ _ _ hax (by omega))) ?_
      have hKW : KeepsOut n₀ W1.heap.size W (Wa.putObj (w.heap.size + 1) (.loop { rec .ready none with state := .busy })) := (hka.mono (Nat.le_refl _) (by omega)).putObj ⟨by omega, by omega⟩ _
      have fin : ∀ (jump : Option Code) (W3 : World), KeepsOut n₀ w.heap.size (Wa.putObj (w.heap.size + 1) (.loop { rec .ready none with state := .busy })) W3 →
          (Instr.endRound (w.heap.size + 1) jump).run P W3 = .ok (.bool jump.isNone) (W3.putObj (w.heap.size + 1) (.loop (rec (if jump.isNone then .ready else .done) jump))) ∧
          (W3.putObj (w.heap.size + 1) (.loop (rec (if jump.isNone then .ready else .done) jump))).heap[w.heap.size + 1]? = some (.loop (rec (if jump.isNone then .ready else .done) jump)) ∧
          (W3.putObj (w.heap.size + 1) (.loop (rec (if jump.isNone then .ready else .done) jump))).heap[w.heap.size]? = some (.deferred (some [])) := fun jump W3 hk3 => by
        have hl3 := (hk3.block _ (by omega) (by omega)).trans hl2
        have hk3' := (hk3.block _ (by omega) (by omega)).trans hk2
        have := run_endRound (P := P) jump hl3
        rw [hrec] at this ⊢
        exact ⟨this, World.putObj_heap_same (Array.getElem?_eq_some_iff.1 hl3).1, (World.putObj_heap_other (by omega)).trans hk3'⟩
      rintro e a3 W3 hp
      cases e with
      | normal =>
        obtain ⟨hk3, hi3⟩ := hp
        obtain ⟨hr, hl4, hk4⟩ := fin none W3 hk3
        exact ⟨_, _, hr, rfl, hIP _ _ _ hi3, hl4, hk4⟩
      | ret => exact hp.elim
      | exit id => exact hp.elim
      | goto t => exact hp.elim
      | panic ch => exact hp.elim
      | outgrown => exact hp.elim
    · -- behind the iterator
      rintro e W2 ⟨⟨v, rfl⟩, hi, hl, hk⟩
      exact ⟨none, _, by have := run_endLoop (P := P) hl (by rw [hrec]; simp); rw [hrec] at this; exact this, hdone _ (hIP _ _ _ hi) ((World.putObj_heap_other (by omega)).trans hk)⟩
/-- What is handed on: a place, and the term there. -/
def valsB (l : List Tm) (vs : Nat → Value) (p : Nat) : Array Value := #[.int .i64 (p : Int), .agg #[.int .i64 (l[p]?.getD default).k, .int .i64 (l[p]?.getD default).n, vs p]]
def RowAt (w0 : World) (l : List Tm) (a : Option Addr) (vs : Nat → Value) : Prop := ∀ i (_ : i < l.length), ∃ b off, a = some ⟨b, off, none⟩ ∧ w0.cell? ⟨b, off + i * 3, none⟩ = some (.int .i64 l[i].k) ∧ w0.cell? ⟨b, off + i * 3 + 1, none⟩ = some (.int .i64 l[i].n) ∧ w0.cell? ⟨b, off + i * 3 + 2, none⟩ = some (vs i) ∧ At w0 l[i].kids (vs i)
theorem row_at {w0 : World} {l : List Tm} {a : Option Addr} {c : Nat} (hA : At w0 l (.slice a l.length c)) : ∃ vs, RowAt w0 l a vs := by
  by_cases h0 : 0 < l.length
  · obtain ⟨b, off, cap', vs, he, h1, h2, kk, kn, kv, ks⟩ := hA.pos h0
    cases he
    exact ⟨vs, fun i hi => ⟨b, off, rfl, kk i hi, kn i hi, kv i hi, ks i hi⟩⟩
  · exact ⟨fun _ => .slice none 0 0, fun i hi => by omega⟩
set_option maxRecDepth 100000 in
set_option maxHeartbeats 2000000 in
theorem backward1_seq (n : Nat) (hn : 1 ≤ n) (bs : Nat) (w0 w : World) (l : List Tm) (hl : l.length ≤ 1048576) (a : Option Addr) (c : Nat) (vs : Nat → Value) (hA : RowAt w0 l a vs) (I : Nat → World → Prop)
    (hI : ∀ s A, I s A → Below w0.heap.size w0 A ∧ A.heap[bs]? = some (.cells #[.slice a l.length c] 22 (0, 0))) :
    SeqB n Try.prog 57 #[.pointer (some ⟨bs, 0, none⟩)] l.length (valsB l vs) I w := by
  intro ld J W hbW hJI hY h0
  have HI : Hid (∀ s A, J s A → Below w0.heap.size w0 A ∧ A.heap[bs]? = some (.cells #[.slice a l.length c] 22 (0, 0))) := fun s A hs => hI s A (hJI s A hs)
  have HY := Lib.hid hY
  have H0 := Lib.hid h0
  have HA := Lib.hid hA
  have hw0 : IntKind.i64.wrap ((l.length : Int) - 1) = (l.length : Int) - 1 := IntWalk.i64_in _ (by omega)
  have hbx := (HI.out _ _ h0).2
  have c0 : W.cell? ⟨bs, 0, none⟩ = some (.slice a l.length c) := by simp [World.cell?, hbx]
  clear hY h0 hA hbx hJI hI
  refine callsIn_of_wp Try.func57 rfl trivial ?_ rfl
  simp only [Try.ntmps57, List.size_toArray, List.length_cons, List.length_nil, Nat.reduceAdd, Nat.reduceSub, Array.replicate_succ, Array.replicate_zero, List.push_toArray, List.append_toArray, List.nil_append, List.cons_append]
  gi_wp2
  clear c0
  gi_loopw [3] (fun i wr => ∃ p : Nat, p ≤ l.length ∧ i = .int .i64 ((p : Int) - 1) ∧ J p wr) (fun i _ => (RowKit.intOf i + 1).toNat)
  case atStart => exact ⟨l.length, Nat.le_refl _, rfl, H0.out⟩
  case round =>
    obtain ⟨p, hp, rfl, hj⟩ := hrel
    cases p with
    | zero =>
      have HJ0 := Lib.hid hj
      clear hj
      have hlt : ¬ (((0 : Nat) : Int) - 1 ≥ 0) := by omega
      gi_wp2
      go_end0
      exact ⟨⟨_, rfl⟩, HJ0.out⟩
    | succ q =>
      have e1 : ((q + 1 : Nat) : Int) - 1 = (q : Int) := by omega
      rw [e1]
      have hq : q < l.length := by omega
      obtain ⟨b, off, rfl, k0, k1, k2, kA⟩ := HA.out q hq
      obtain ⟨hb, hbx⟩ := HI.out _ _ hj
      obtain ⟨au, cu, hvu⟩ := kA.shape
      have x0 := gcell hb k0
      have x1 := gcell hb k1
      have x2 := gcell hb k2
      have c0 : wr.cell? ⟨bs, 0, none⟩ = some (.slice (some ⟨b, off, none⟩) l.length c) := by simp [World.cell?, hbx]
      obtain ⟨fn, tmps, assign, body, hy, hR⟩ := HY.out q wr hq hj
      have HRR := Lib.hid hR
      have hgq : l[q]? = some l[q] := List.getElem?_eq_getElem hq
      simp only [valsB, hgq, Option.getD_some] at hy
      rw [hvu] at x2 hy
      have hqi : (q : Int) < (l.length : Int) := by omega
      have hq0 : (0 : Int) ≤ (q : Int) := by omega
      have hwq : IntKind.i64.wrap ((q : Int) - 1) = (q : Int) - 1 := IntWalk.i64_in _ (by omega)
      clear hb hbx hvu kA k0 k1 k2 hR hj hgq e1
      gi_wp2
      refine HRR.out.mono ?_
      rintro e W3 ⟨rfl, hJ3⟩
      have H3 := Lib.hid hJ3
      clear hJ3 hy x0 x1 x2 c0
      gi_wp2
      go_roundw
      case rel => exact ⟨q, by omega, by go_num, H3.out⟩
      case measure => simp [RowKit.intOf]
end Go.Proofs.Ytblebboamopffaa
