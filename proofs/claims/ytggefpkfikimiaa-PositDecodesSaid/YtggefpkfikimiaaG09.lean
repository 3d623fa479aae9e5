/- A region whose operations may come in any order, and whose operations only make memory: walked once, in the order of the text, where some values (those that lie in new memory) are known by a predicate alone. No conditions. -/
import Derived.Lib.QuietBelow
import Derived.StillTail
import Derived.WalkKit
namespace Go.Proofs.Ytggefpkfikimiaa
set_option linter.unusedVariables false
open Go Go.RowKit

/-- A value, the first block that its making laid, the first one behind them, the world. -/
abbrev VP := Value → Nat → Nat → World → Prop
def plain (R : Value → World → Prop) : VP := fun v _ _ w => R v w
/-- w' is w grown. -/
abbrev Grw (w w' : World) : Prop := Below w.heap.size w w'
theorem Grw.rfl (w : World) : Grw w w := Below.refl _ w
theorem Grw.tr {a b c : World} (h : Grw a b) (k : Grw b c) : Grw a c := h.trans (k.mono h.size)
def Mono (R : VP) : Prop := ∀ v s e w w', Grw w w' → R v s e w → R v s e w'
theorem mono_plain {R : Value → World → Prop} (h : ∀ v w w', Grw w w' → R v w → R v w') : Mono (plain R) := fun v _ _ w w' hg hr => h v w w' hg hr

section
variable {P : Program} {ops : Array Oper} {w0 : World} {K : Act → World → Prop}

def relUpon (P : Program) (w : World) (R : VP) : Result Next → Prop
  | .ok (.value u) w' => Grw w w' ∧ R u w.heap.size w'.heap.size w'
  | .ok .skip w' => Grw w w' ∧ R undef w.heap.size w'.heap.size w'
  | .ok (.enter f args) w' => Grw w w' ∧ Calls P f args w' (fun e w'' => ∃ v, e = .returned v ∧ Grw w' w'' ∧ R v w.heap.size w''.heap.size w'')
  | _ => False
def relOp (P : Program) (o : Oper) (a : Act) (w : World) (R : VP) : Prop := relUpon P w R ((execOp a.eval o).run P w)
/-- An operation in some order: if it is wanted it yields what R says; else R says it of nothing. -/
def opOk (P : Program) (ops : Array Oper) (o : Oper) (R : VP) (a : Act) (w : World) : Prop :=
  (Region.wanted o (yielded ops a.tmps) = true → relOp P o a w R) ∧ (Region.wanted o (yielded ops a.tmps) = false → R undef w.heap.size w.heap.size w)

/-- What is known of the slots. -/
abbrev Own := Tmp → Nat × Nat
abbrev Know := Own → Tmp → Option Value → World → Prop
def upd (σ : Know) (d : Option Tmp) (R : VP) : Know := fun g t => if d = some t then fun ov w => ∃ v, ov = some v ∧ R v (g t).1 (g t).2 w else σ g t
/-- What was made lies in new blocks, each operation's in its own. -/
def Parted (g : Own) (ds : List Tmp) (w0 w : World) : Prop := (∀ d ∈ ds, w0.heap.size ≤ (g d).1 ∧ (g d).1 ≤ (g d).2 ∧ (g d).2 ≤ w.heap.size) ∧ ∀ d ∈ ds, ∀ d' ∈ ds, d ≠ d' → (g d).2 ≤ (g d').1 ∨ (g d').2 ≤ (g d).1
def sem (P : Program) (ops : Array Oper) (w0 : World) (K : Act → World → Prop) (D : List Deferred) (n : Nat) (ds : List Tmp) : List Oper → Know → Prop
  | [], σ => ∀ g a' w, Grw w0 w → Parted g ds w0 w → a'.defers = D → a'.tmps.size = n → (∀ t, σ g t a'.tmps[t]? w) → K a' w
  | o :: rest, σ => ∃ R : VP, Mono R ∧ (∀ g a' w, Grw w0 w → (∀ t ∈ o.looksAt ops, σ g t a'.tmps[t]? w) → opOk P ops o R a' w) ∧ sem P ops w0 K D n ds rest (upd σ o.dst R)

theorem upd_mono {σ τ : Know} (h : ∀ g t ov w, τ g t ov w → σ g t ov w) (d : Option Tmp) (R : VP) : ∀ g t ov w, upd τ d R g t ov w → upd σ d R g t ov w := fun g t ov w hh => by
  unfold upd at *
  split
  · rename_i hd; rw [if_pos hd] at hh; exact hh
  · rename_i hd; rw [if_neg hd] at hh; exact h _ _ _ _ hh
theorem sem_mono {D : List Deferred} {n : Nat} {ds : List Tmp} : ∀ {l : List Oper} {σ τ : Know}, (∀ g t ov w, τ g t ov w → σ g t ov w) → sem P ops w0 K D n ds l σ → sem P ops w0 K D n ds l τ
  | [], _, _, h, hh => fun g a' w h1 h0 h2 h3 h4 => hh g a' w h1 h0 h2 h3 fun t => h _ _ _ _ (h4 t)
  | _ :: _, _, _, h, ⟨R, hR, hs, hr⟩ => ⟨R, hR, fun g a' w h1 h2 => hs g a' w h1 fun t ht => h _ _ _ _ (h2 t ht), sem_mono (upd_mono h _ _) hr⟩

/-- The Bool over a region: whatever an operation looks at is written by one that it waits for, ahead of it in the text, or by one that waits for it, or by none; no slot is written twice. -/
def waitsFor (o : Oper) (i : Nat) : Bool := o.after.toList.any fun e => Region.binds .any e && e.on == i
def relB1 (ops : Array Oper) (n : Nat) : Nat → List Oper → Bool
  | _, [] => true
  | j, o :: rest =>
    (o.after.toList.all fun e => !Region.binds .any e || decide (e.on < j)) &&
    (match o.dst with | some d => decide (d < n) && rest.all (fun x => x.dst != some d) | none => true) &&
    (match o.op with | .select _ _ => false | _ => true) &&
    relB1 ops n (j + 1) rest
def relB2 (ops : Array Oper) (H : List Oper) : Nat → List Oper → Bool
  | _, [] => true
  | j, o :: rest =>
    ((H.zipIdx).all fun (x, i) => match x.dst with | some d => !((o.looksAt ops).contains d) || (decide (i < j) && waitsFor o i) || (decide (j < i) && waitsFor x j) | none => true) && relB2 ops H (j + 1) rest
def relB (ops : Array Oper) (n m : Nat) : Bool := relB1 ops n 0 (ops.toList.take m) && relB2 ops (ops.toList.take m) 0 (ops.toList.take m)

theorem relB1_spec {n : Nat} : ∀ {l : List Oper} {k : Nat}, relB1 ops n k l = true → ∀ j o, l[j]? = some o →
    (∀ e ∈ o.after, Region.binds .any e = true → e.on < k + j) ∧ (∀ d, o.dst = some d → d < n ∧ ∀ i x, j < i → l[i]? = some x → x.dst ≠ some d) ∧ (∀ cs b, o.op ≠ .select cs b)
  | [], _, _, j, o, h => by simp at h
  | x :: l, k, hB, j, o, h => by
    simp only [relB1, Bool.and_eq_true] at hB
    obtain ⟨⟨⟨h1, h2⟩, h3⟩, h4⟩ := hB
    cases j with
    | zero =>
      simp at h
      subst h
      refine ⟨fun e he hb => ?_, fun d hd => ?_, fun cs b hop => ?_⟩
      · have := List.all_eq_true.1 h1 e (by simpa using he)
        simp [hb] at this; omega
      · rw [hd] at h2
        simp only [Bool.and_eq_true, decide_eq_true_eq] at h2
        refine ⟨h2.1, fun i y hi hy hyd => ?_⟩
        obtain ⟨i, rfl⟩ : ∃ m, i = m + 1 := ⟨i - 1, by omega⟩
        have := List.all_eq_true.1 h2.2 y (List.mem_of_getElem? (by simpa using hy))
        simp [hyd] at this
      · rw [hop] at h3; simp at h3
    | succ j =>
      have := relB1_spec h4 j o (by simpa using h)
      refine ⟨fun e he hb => by have := this.1 e he hb; omega, fun d hd => ⟨(this.2.1 d hd).1, fun i y hi hy => ?_⟩, this.2.2⟩
      obtain ⟨i, rfl⟩ : ∃ m, i = m + 1 := ⟨i - 1, by omega⟩
      exact (this.2.1 d hd).2 i y (by omega) (by simpa using hy)
theorem relB2_spec {H : List Oper} : ∀ {l : List Oper} {k : Nat}, relB2 ops H k l = true → ∀ j o, l[j]? = some o → ∀ i x d, H[i]? = some x → x.dst = some d → d ∈ o.looksAt ops → (i < k + j ∧ ∃ e ∈ o.after, Region.binds .any e = true ∧ e.on = i) ∨ (k + j < i ∧ ∃ e ∈ x.after, Region.binds .any e = true ∧ e.on = k + j)
  | [], _, _, j, o, h => by simp at h
  | y :: l, k, hB, j, o, h => by
    simp only [relB2, Bool.and_eq_true] at hB
    obtain ⟨h1, h2⟩ := hB
    intro i x d hx hd hl
    cases j with
    | zero =>
      simp at h
      subst h
      have hm : (x, i) ∈ H.zipIdx := by
        rw [List.mem_zipIdx_iff_getElem?]; exact hx
      have := List.all_eq_true.1 h1 (x, i) hm
      simp only [hd] at this
      have hc : (y.looksAt ops).contains d = true := by simpa using hl
      rw [hc] at this
      simp only [Bool.not_true, Bool.false_or, Bool.or_eq_true, Bool.and_eq_true, decide_eq_true_eq] at this
      rcases this with ⟨g1, g2⟩ | ⟨g1, g2⟩
      · unfold waitsFor at g2
        obtain ⟨e, he, hbb⟩ := List.any_eq_true.1 g2
        simp only [Bool.and_eq_true, beq_iff_eq] at hbb
        exact .inl ⟨by omega, e, by simpa using he, hbb.1, hbb.2⟩
      · unfold waitsFor at g2
        obtain ⟨e, he, hbb⟩ := List.any_eq_true.1 g2
        simp only [Bool.and_eq_true, beq_iff_eq] at hbb
        exact .inr ⟨by omega, e, by simpa using he, hbb.1, by omega⟩
    | succ j =>
      rcases relB2_spec h2 j o (by simpa using h) i x d hx hd hl with ⟨g1, g2⟩ | ⟨g1, e, he, hb, heq⟩
      · exact .inl ⟨by omega, g2⟩
      · exact .inr ⟨by omega, e, he, hb, by omega⟩

/-- What is known of the slots ahead of operation k. -/
def knowAt (RR : Nat → VP) (ops : Array Oper) : Nat → Know → Know
  | 0, σ => σ
  | k + 1, σ => upd (knowAt RR ops k σ) ((ops[k]?).bind (·.dst)) (RR k)

theorem sem_family {D : List Deferred} {n : Nat} {ds : List Tmp} : ∀ (l : List Oper) (k : Nat) (σ : Know), (∀ j, j < l.length → l[j]? = ops[k + j]?) → sem P ops w0 K D n ds l σ →
    ∃ RR : Nat → VP, (∀ j, Mono (RR j)) ∧ (∀ j o, l[j]? = some o → ∀ g a' w, Grw w0 w → (∀ t ∈ o.looksAt ops, (List.range j).foldl (fun τ i => upd τ ((ops[k + i]?).bind (·.dst)) (RR (k + i))) σ g t a'.tmps[t]? w) → opOk P ops o (RR (k + j)) a' w) ∧
      (∀ g a' w, Grw w0 w → Parted g ds w0 w → a'.defers = D → a'.tmps.size = n → (∀ t, (List.range l.length).foldl (fun τ i => upd τ ((ops[k + i]?).bind (·.dst)) (RR (k + i))) σ g t a'.tmps[t]? w) → K a' w)
  | [], k, σ, _, h => ⟨fun _ _ _ _ _ => True, fun _ _ _ _ _ _ _ _ => trivial, fun j o hj => by simp at hj, fun g a' w h1 h0 h2 h3 h4 => h g a' w h1 h0 h2 h3 (by simpa using h4)⟩
  | o :: l, k, σ, hl, ⟨R, hR, hs, hr⟩ => by
    obtain ⟨RR, h1, h2, h3⟩ := sem_family l (k + 1) _ (fun j hj => by have := hl (j + 1) (by simp; omega); simpa [Nat.add_assoc, Nat.add_comm 1 j] using this) hr
    have h0 : ops[k]? = some o := by simpa using (hl 0 (by simp)).symm
    have hst : ∀ m (τ : Know), (List.range (m + 1)).foldl (fun τ i => upd τ ((ops[k + i]?).bind (·.dst)) (if k + i = k then R else RR (k + i))) σ =
        (List.range m).foldl (fun τ i => upd τ ((ops[k + 1 + i]?).bind (·.dst)) (RR (k + 1 + i))) (upd σ o.dst R) := fun m τ => by
      rw [List.range_succ_eq_map, List.foldl_cons, List.foldl_map]
      simp only [Nat.add_zero, if_true, h0, Option.bind_some]
      congr 1
      funext τ i
      rw [if_neg (by omega), show k + i.succ = k + 1 + i by omega]
    refine ⟨fun j => if j = k then R else RR j, fun j => ?_, fun j x hj => ?_, fun g a' w g1 g0 g2 g3 g4 => ?_⟩
    · show Mono (if j = k then R else RR j)
      by_cases e : j = k
      · rw [if_pos e]; exact hR
      · rw [if_neg e]; exact h1 j
    · show ∀ g a' w, Grw w0 w → (∀ t ∈ x.looksAt ops, (List.range j).foldl (fun τ i => upd τ ((ops[k + i]?).bind (·.dst)) (if k + i = k then R else RR (k + i))) σ g t a'.tmps[t]? w) → opOk P ops x (if k + j = k then R else RR (k + j)) a' w
      cases j with
      | zero =>
        simp at hj
        subst hj
        intro g a' w g1 g2
        rw [if_pos (by omega)]
        exact hs g a' w g1 (by simpa using g2)
      | succ j =>
        intro g a' w g1 g2
        rw [if_neg (by omega), show k + (j + 1) = k + 1 + j by omega]
        refine h2 j x (by simpa using hj) g a' w g1 fun t ht => ?_
        have := g2 t ht
        rwa [hst j σ] at this
    · refine h3 g a' w g1 g0 g2 g3 fun t => ?_
      have := g4 t
      rwa [List.length_cons, hst l.length σ] at this

/-- What the fold over the first k says of a slot. -/
theorem fold_spec (RR : Nat → VP) (σ : Know) (g : Own) (t : Tmp) (ov : Option Value) (w : World) : ∀ k, (∀ i, i < k → (ops[i]?).bind (·.dst) = some t → ∃ v, ov = some v ∧ RR i v (g t).1 (g t).2 w) → ((∀ i, i < k → (ops[i]?).bind (·.dst) ≠ some t) → σ g t ov w) →
    (List.range k).foldl (fun τ i => upd τ ((ops[0 + i]?).bind (·.dst)) (RR (0 + i))) σ g t ov w
  | 0, _, h2 => by simpa using h2 (by simp)
  | k + 1, h1, h2 => by
    rw [List.range_succ, List.foldl_append, List.foldl_cons, List.foldl_nil, Nat.zero_add]
    unfold upd
    split
    · rename_i hd; exact h1 k (by omega) hd
    · rename_i hd
      exact fold_spec RR σ g t ov w k (fun i hi => h1 i (by omega)) fun h => h2 fun i hi => by
        by_cases e : i = k
        · subst e; exact hd
        · exact h i (by omega)

theorem bind_dst {i : Nat} {t : Tmp} (h : (ops[i]?).bind (·.dst) = some t) : ∃ o, ops[i]? = some o ∧ o.dst = some t := by
  cases ho : ops[i]? with
  | none => rw [ho] at h; simp at h
  | some o => rw [ho] at h; exact ⟨o, rfl, by simpa using h⟩

theorem wp_of_rel {Q : Exit → Act → World → Prop} {o : Oper} {a : Act} {w : World} {R : VP} {K' : Act → World → Prop} (h : relOp P o a w R) (hK : ∀ v w', Grw w w' → R v w.heap.size w'.heap.size w' → K' (a.put o.dst v) w') : o.wp P a w K' Q := by
  unfold relOp at h
  unfold Oper.wp
  generalize (execOp a.eval o).run P w = r at *
  cases r with
  | ok nx w' =>
    cases nx <;> simp only [relUpon] at h <;> simp only [Oper.upon]
    case value u => exact hK _ _ h.1 h.2
    case skip => exact hK _ _ h.1 h.2
    case enter f args =>
      obtain ⟨h1, hc⟩ := h
      exact hc.mono fun e w'' ⟨v, he, hg, hr⟩ => by subst he; exact hK _ _ (h1.tr hg) hr
  | halt x w' => simp only [relUpon] at h

/-- The invariant of all orders. -/
structure Inv (P : Program) (ops : Array Oper) (w0 : World) (RR : Nat → VP) (a0 : Act) (g : Own) (listed : Array Bool) (a : Act) (w : World) : Prop where
  grown : Grw w0 w
  size : listed.size = ops.size
  defers : a.defers = a0.defers
  tmps : a.tmps.size = a0.tmps.size
  came : ∀ i o t, ops[i]? = some o → o.dst = some t → listed.getD i false = true → ∃ v, a.tmps[t]? = some v ∧ RR i v (g t).1 (g t).2 w
  new : ∀ i o t, ops[i]? = some o → o.dst = some t → listed.getD i false = true → w0.heap.size ≤ (g t).1 ∧ (g t).1 ≤ (g t).2 ∧ (g t).2 ≤ w.heap.size
  parted : ∀ i o t i' o' t', ops[i]? = some o → o.dst = some t → listed.getD i false = true → ops[i']? = some o' → o'.dst = some t' → listed.getD i' false = true → t ≠ t' → (g t).2 ≤ (g t').1 ∨ (g t').2 ≤ (g t).1
  stays : ∀ t, (∀ i o, ops[i]? = some o → listed.getD i false = true → o.dst ≠ some t) → a.tmps[t]? = a0.tmps[t]?

theorem put_size (a : Act) (d : Option Tmp) (v : Value) : (a.put d v).tmps.size = a.tmps.size := by cases d <;> simp [Act.put]
theorem put_defers (a : Act) (d : Option Tmp) (v : Value) : (a.put d v).defers = a.defers := by cases d <;> rfl
theorem put_get_same (a : Act) {d : Tmp} (v : Value) (h : d < a.tmps.size) : (a.put (some d) v).tmps[d]? = some v := by simp [Act.put, h]
theorem put_get_other (a : Act) {d : Option Tmp} (v : Value) {t : Tmp} (h : d ≠ some t) : (a.put d v).tmps[t]? = a.tmps[t]? := by
  cases d with
  | none => rfl
  | some d =>
    have : d ≠ t := fun e => h (by rw [e])
    simp [Act.put, this]

theorem getD_tf {l : Array Bool} {i : Nat} (h : i < l.size) : l.getD i true = l.getD i false := by simp [Array.getD, h]
/-- The first m came, no other. -/
def canon (m n : Nat) : Array Bool := (Array.range n).map fun i => decide (i < m)
theorem canon_eq {m n : Nat} {listed : Array Bool} (hs : listed.size = n) (h1 : ∀ i, i < m → i < n → listed.getD i false = true) (h2 : ∀ i, m ≤ i → i < n → listed.getD i true = false) : listed = canon m n := by
  apply Array.ext
  · simp [canon, hs]
  · intro i hi hi2
    have hin : i < n := by omega
    simp only [canon, Array.getElem_map, Array.getElem_range]
    by_cases h : i < m
    · have := h1 i h hin
      simp [Array.getD, hi] at this
      simp [this, h]
    · have := h2 i (by omega) hin
      simp [Array.getD, hi] at this
      simp [this, h]
def tailB (ops : Array Oper) (m : Nat) : Bool := decide (m ≤ ops.size) && (decide (m = ops.size) || (Region.sinkB .any ops m && Region.chainB .any ops m)) && Region.seqB .any ops (ops.size - m) m (canon m ops.size)

theorem wpAny_of_inv {Q : Exit → Act → World → Prop} {RR : Nat → VP} {a0 : Act} {m : Nat} {ds : List Tmp} (hds : ∀ d ∈ ds, ∃ i o, i < m ∧ ops[i]? = some o ∧ o.dst = some d) (hT : tailB ops m = true) (hB : relB ops a0.tmps.size m = true) (hM : ∀ j, Mono (RR j))
    (hS : ∀ j o, j < m → ops[j]? = some o → ∀ g a' w, Grw w0 w → (∀ t ∈ o.looksAt ops, (List.range j).foldl (fun τ i => upd τ ((ops[0 + i]?).bind (·.dst)) (RR (0 + i))) (fun _ t ov _ => ov = a0.tmps[t]?) g t a'.tmps[t]? w) → opOk P ops o (RR j) a' w)
    (hE : ∀ g a' w, Grw w0 w → Parted g ds w0 w → a'.defers = a0.defers → a'.tmps.size = a0.tmps.size → (∀ t, (List.range m).foldl (fun τ i => upd τ ((ops[0 + i]?).bind (·.dst)) (RR (0 + i))) (fun _ t ov _ => ov = a0.tmps[t]?) g t a'.tmps[t]? w) → wpList P ops Q (ops.toList.drop m) a' w) :
    ∀ (c : Nat) (g : Own) (listed : Array Bool) (a : Act) (w : World), (List.range m).countP (fun i => !listed.getD i false) = c → HeadInv .any ops m listed → Inv P ops w0 RR a0 g listed a w → wpAny P .any ops Q (c + (ops.size - m)) listed a w := by
  simp only [relB, Bool.and_eq_true] at hB
  obtain ⟨hB1, hB2⟩ := hB
  simp only [tailB, Bool.and_eq_true, decide_eq_true_eq] at hT
  obtain ⟨⟨hm, hT2⟩, hseq⟩ := hT
  have tk : ∀ j o, j < m → ops[j]? = some o → (ops.toList.take m)[j]? = some o := fun j o hj h => by rw [List.getElem?_take, if_pos hj]; simpa using h
  have s1 := fun j o (hj : j < m) (h : ops[j]? = some o) => relB1_spec hB1 j o (tk j o hj h)
  have s2 := fun j o (hj : j < m) (h : ops[j]? = some o) => relB2_spec hB2 j o (tk j o hj h)
  intro c
  induction c with
  | zero =>
    intro g listed a w hc HI I
    rw [List.countP_eq_zero] at hc
    have ha : ∀ i, i < m → listed.getD i false = true := fun i hi => by simpa using hc i (List.mem_range.2 hi)
    have hcan : listed = canon m ops.size := canon_eq I.size (fun i hi _ => ha i hi) HI.tail
    have hfin : wpList P ops Q (ops.toList.drop m) a w := by
      refine hE g a w I.grown ⟨fun d hd => ?_, fun d hd d' hd' hne => ?_⟩ I.defers I.tmps fun t => fold_spec RR _ g t _ w _ (fun i hi hd => ?_) fun h => ?_
      · obtain ⟨i, o, him, ho, hdo⟩ := hds d hd
        exact I.new i o d ho hdo (ha i him)
      · obtain ⟨i, o, him, ho, hdo⟩ := hds d hd
        obtain ⟨i', o', him', ho', hdo'⟩ := hds d' hd'
        exact I.parted i o d i' o' d' ho hdo (ha i him) ho' hdo' (ha i' him') hne
      · obtain ⟨o, ho, hd⟩ := bind_dst hd
        exact I.came i o t ho hd (ha i hi)
      · refine I.stays t fun i o ho hl hd => ?_
        have hi : i < ops.size := (Array.getElem?_eq_some_iff.1 ho).1
        by_cases him : i < m
        · exact h i him (by rw [ho]; simpa using hd)
        · have := HI.tail i (by omega) hi
          rw [getD_tf (by have := I.size; omega), hl] at this
          cases this
    have hlen : (ops.toList.drop m).length = ops.size - m := by simp
    rw [Nat.zero_add, ← hlen]
    exact wpAny_of_seq (md := .any) _ m _ a w (fun j => by simp [List.getElem?_drop]) (by rw [hlen, hcan]; exact hseq) hfin
  | succ c ih =>
    intro g listed a w hc HI I
    rw [show c + 1 + (ops.size - m) = (c + (ops.size - m)) + 1 by omega]
    have hex : ∃ i, i < m ∧ listed.getD i false = false := by
      have : 0 < (List.range m).countP (fun i => !listed.getD i false) := by omega
      obtain ⟨i, hi, hl⟩ := List.countP_pos_iff.1 this
      exact ⟨i, List.mem_range.1 hi, by simpa using hl⟩
    have hready : ∀ i, i < m → listed.getD i false = false → ∃ j, j ∈ Region.ready .any ops listed := by
      intro i
      induction i using Nat.strongRecOn with
      | _ i ihi =>
        intro him hl
        have hi : i < ops.size := by omega
        have ho : ops[i]? = some ops[i] := Array.getElem?_eq_getElem hi
        by_cases hall : ∀ e ∈ ops[i].after, Region.binds .any e = true → listed.getD e.on false = true
        · refine ⟨i, ?_⟩
          unfold Region.ready
          rw [List.mem_filter]
          refine ⟨List.mem_range.2 hi, ?_⟩
          rw [ho, getD_tf (by have := I.size; omega), hl]
          simp only [Option.map_some, Option.getD_some, Bool.not_false, Bool.true_and]
          rw [Array.all_eq_true']
          intro e he
          by_cases hb : Region.binds .any e = true
          · rw [hall e he hb]; simp
          · simp [hb]
        · rw [Classical.not_forall] at hall
          obtain ⟨e, he⟩ := hall
          rw [Classical.not_imp] at he
          obtain ⟨he, he2⟩ := he
          rw [Classical.not_imp] at he2
          have hlt := (s1 i _ him ho).1 e he he2.1
          exact ihi e.on (by omega) (by omega) (by simpa using he2.2)
    refine ⟨fun h0 => ?_, fun i hi => ?_⟩
    · obtain ⟨i, h1, h2⟩ := hex
      obtain ⟨j, hj⟩ := hready i h1 h2
      rw [h0] at hj; cases hj
    have him : i < m := by
      obtain ⟨k, h1, h2⟩ := hex
      rcases Nat.lt_or_ge i m with h | h
      · exact h
      · exfalso
        have hin : i < ops.size := by
          unfold Region.ready at hi
          rw [List.mem_filter] at hi
          exact List.mem_range.1 hi.1
        have hTT : (Region.sinkB .any ops m && Region.chainB .any ops m) = true := by
          rw [Bool.or_eq_true, decide_eq_true_eq] at hT2
          rcases hT2 with h' | h'
          · omega
          · exact h'
        rw [Bool.and_eq_true] at hTT
        exact tail_waits hTT.1 hTT.2 (by omega) HI _ k rfl h1 (by rw [getD_tf (by have := I.size; omega)]; exact h2) i h hi
    have hi0 := hi
    unfold Region.ready at hi
    rw [List.mem_filter] at hi
    obtain ⟨h1, h2⟩ := hi
    have hi' := List.mem_range.1 h1
    have ho : ops[i]? = some ops[i] := Array.getElem?_eq_getElem hi'
    rw [ho] at h2
    simp only [Option.map_some, Option.getD_some, Bool.and_eq_true] at h2
    obtain ⟨h3, h4⟩ := h2
    rw [getD_tf (by have := I.size; omega)] at h3
    have h3 : listed.getD i false = false := by simpa using h3
    rw [Array.all_eq_true'] at h4
    have hlm : ∀ k x, ops[k]? = some x → listed.getD k false = true → k < m := fun k x hx hl => by
      rcases Nat.lt_or_ge k m with h | h
      · exact h
      · have hk : k < ops.size := (Array.getElem?_eq_some_iff.1 hx).1
        have := HI.tail k h hk
        rw [getD_tf (by have := I.size; omega), hl] at this
        cases this
    have hok := hS i _ him ho g a w I.grown fun t ht => fold_spec RR _ g t _ w _ (fun k hk hd => ?_) fun h => ?_
    rotate_left
    · obtain ⟨x, hx, hd⟩ := bind_dst hd
      obtain ⟨e, he, hb, heq⟩ : ∃ e ∈ ops[i].after, Region.binds .any e = true ∧ e.on = k := by
        rcases s2 i _ him ho k x t (tk k x (by omega) hx) hd ht with ⟨_, g⟩ | ⟨g, _⟩
        · exact g
        · omega
      have := h4 e he
      rw [heq] at this
      simp [hb] at this
      exact I.came k x t hx hd (by simpa [Array.getD_eq_getD_getElem?] using this)
    · refine I.stays t fun k x hx hl hd => ?_
      rcases s2 i _ him ho k x t (tk k x (hlm k x hx hl) hx) hd ht with ⟨g, _⟩ | ⟨g, e, he, hb, heq⟩
      · exact h k (by omega) (by rw [hx]; simpa using hd)
      · have := HI.closed k x hx hl e he hb
        rw [heq, Nat.zero_add, h3] at this
        cases this
    -- behind the operation
    have hnext : ∀ v w', Grw w w' → RR i v w.heap.size w'.heap.size w' → wpAny P .any ops Q (c + (ops.size - m)) (listed.setIfInBounds i true) (a.put ops[i].dst v) w' := by
      intro v w' hg hr
      have hls : ∀ k, (listed.setIfInBounds i true).getD k false = if k = i then true else listed.getD k false := fun k => by
        have hz := I.size
        simp only [Array.getD_eq_getD_getElem?, Array.getElem?_setIfInBounds]
        by_cases e : i = k
        · subst e; have hlt : i < listed.size := by omega
          simp [hlt]
        · rw [if_neg e, if_neg (Ne.symm e)]
      have hcount : (List.range m).countP (fun k => !(listed.setIfInBounds i true).getD k false) + 1 = (List.range m).countP (fun k => !listed.getD k false) := by
        have key : ∀ l : List Nat, l.Nodup → i ∈ l → l.countP (fun k => !(listed.setIfInBounds i true).getD k false) + 1 = l.countP (fun k => !listed.getD k false) := by
          intro l
          induction l with
          | nil => intro _ hm; cases hm
          | cons x l ihl =>
            intro hnd hm
            rw [List.nodup_cons] at hnd
            by_cases e : x = i
            · subst e
              have hrest : ∀ k ∈ l, (!(listed.setIfInBounds x true).getD k false) = (!listed.getD k false) := fun k hk => by
                rw [hls, if_neg (fun hki : k = x => hnd.1 (by rw [← hki]; exact hk))]
              rw [List.countP_cons, List.countP_cons, List.countP_congr (q := fun k => !listed.getD k false) (fun k hk => by rw [hrest k hk])]
              simp [hls, h3]
            · have := ihl hnd.2 (by rcases List.mem_cons.1 hm with h | h; exact absurd h.symm e; exact h)
              rw [List.countP_cons, List.countP_cons]
              have : (if (!(listed.setIfInBounds i true).getD x false) = true then 1 else 0) = (if (!listed.getD x false) = true then 1 else 0) := by rw [hls, if_neg e]
              omega
        exact key _ List.nodup_range (List.mem_range.2 him)
      have hgs : ∀ t, ops[i].dst ≠ some t → (if ops[i].dst = some t then (w.heap.size, w'.heap.size) else g t) = g t := fun t h => if_neg h
      have hgi : ∀ t, ops[i].dst = some t → (if ops[i].dst = some t then (w.heap.size, w'.heap.size) else g t) = (w.heap.size, w'.heap.size) := fun t h => if_pos h
      have hother : ∀ k x t, ops[k]? = some x → x.dst = some t → k ≠ i → k < m → ops[i].dst ≠ some t := fun k x t hx hd e hkm hdi => by
        rcases Nat.lt_or_ge k i with hlt | hge
        · exact ((s1 k x hkm hx).2.1 t hd).2 i _ hlt (tk i _ him ho) hdi
        · exact ((s1 i _ him ho).2.1 t hdi).2 k x (by omega) (tk k x hkm hx) hd
      have hw0 := I.grown.size
      have hww := hg.size
      refine ih (fun t => if ops[i].dst = some t then (w.heap.size, w'.heap.size) else g t) _ _ _ (by omega) (HI.set hi0 him) ?_
      refine ⟨I.grown.tr hg, by simpa using I.size, by rw [put_defers]; exact I.defers, by rw [put_size]; exact I.tmps, fun k x t hx hd hl => ?_, fun k x t hx hd hl => ?_, fun k x t k' x' t' hx hd hl hx' hd' hl' hne => ?_, fun t h => ?_⟩
      · by_cases e : k = i
        · subst e
          rw [ho] at hx
          cases hx
          have hb := ((s1 k _ him ho).2.1 t hd).1
          refine ⟨v, by rw [hd]; exact put_get_same a v (by rw [I.tmps]; exact hb), ?_⟩
          rw [hgi t hd]; exact hr
        · rw [hls, if_neg e] at hl
          obtain ⟨u, hu, hru⟩ := I.came k x t hx hd hl
          have hot := hother k x t hx hd e (hlm k x hx hl)
          refine ⟨u, by rw [put_get_other a v hot]; exact hu, ?_⟩
          rw [hgs t hot]
          exact hM k _ _ _ _ _ hg hru
      · by_cases e : k = i
        · subst e
          rw [ho] at hx
          cases hx
          rw [hgi t hd]
          exact ⟨hw0, hww, Nat.le_refl _⟩
        · rw [hls, if_neg e] at hl
          rw [hgs t (hother k x t hx hd e (hlm k x hx hl))]
          have := I.new k x t hx hd hl
          exact ⟨this.1, this.2.1, Nat.le_trans this.2.2 hww⟩
      · by_cases e : k = i
        · subst e
          rw [ho] at hx
          cases hx
          have e' : k' ≠ k := fun e' => by subst e'; rw [ho] at hx'; cases hx'; rw [hd] at hd'; injection hd' with h; exact hne h
          rw [hls, if_neg e'] at hl'
          rw [hgi t hd, hgs t' (hother k' x' t' hx' hd' e' (hlm k' x' hx' hl'))]
          exact .inr (I.new k' x' t' hx' hd' hl').2.2
        · rw [hls, if_neg e] at hl
          rw [hgs t (hother k x t hx hd e (hlm k x hx hl))]
          by_cases e' : k' = i
          · subst e'
            rw [ho] at hx'
            cases hx'
            rw [hgi t' hd']
            exact .inl (I.new k x t hx hd hl).2.2
          · rw [hls, if_neg e'] at hl'
            rw [hgs t' (hother k' x' t' hx' hd' e' (hlm k' x' hx' hl'))]
            exact I.parted k x t k' x' t' hx hd hl hx' hd' hl' hne
      · rw [put_get_other a v]
        · exact I.stays t fun k x hx hl => h k x hx (by
            by_cases e : k = i
            · rw [hls, if_pos e]
            · rw [hls, if_neg e]; exact hl)
        · exact h i _ ho (by rw [hls, if_pos rfl])
    unfold wpOp
    rw [ho]
    simp only
    by_cases hw : Region.wanted ops[i] (yielded ops a.tmps) = true
    · rw [if_pos hw]
      exact .inl (wp_of_rel (hok.1 hw) hnext)
    · rw [if_neg hw]
      exact hnext _ _ (Grw.rfl _) (hok.2 (by simpa using hw))

/-- A region, by what is known of its slots: its first m operations in any order, the others in the order of the text. -/
theorem wp_region_sem {id : Nat} {Q : Exit → Act → World → Prop} {a : Act} {w : World} {l : List Oper} {ds : List Tmp} (m : Nat) (hds : ds = (l.take m).filterMap (·.dst)) (hm : P.follows .mixedOrders = true) (hT : tailB l.toArray m = true) (hB : relB l.toArray a.tmps.size m = true)
    (h : sem P l.toArray w (fun a' w' => wpList P l.toArray Q (l.drop m) a' w') a.defers a.tmps.size ds (l.take m) (fun _ t ov _ => ov = a.tmps[t]?)) : (Code.region id l.toArray true).wp P Q a w := by
  have hml : m ≤ l.length := by
    simp only [tailB, Bool.and_eq_true, decide_eq_true_eq] at hT
    simpa using hT.1.1
  have htl : (l.take m).length = m := by simp; omega
  obtain ⟨RR, h1, h2, h3⟩ := sem_family (ops := l.toArray) (l.take m) 0 _ (fun j hj => by
    rw [htl] at hj
    simp [hj]) h
  rw [htl] at h3
  refine wp_region_any hm ?_
  have := wpAny_of_inv (P := P) (Q := Q) (w0 := w) (RR := RR) (a0 := a) (ds := ds) (fun d hd => by
      rw [hds, List.mem_filterMap] at hd
      obtain ⟨o, ho, hdo⟩ := hd
      obtain ⟨i, hi⟩ := List.mem_iff_getElem?.1 ho
      rw [List.getElem?_take] at hi
      split at hi
      · exact ⟨i, o, ‹_›, by simpa using hi, hdo⟩
      · cases hi) hT hB h1 (fun j o hjm hj => by
      have := h2 j o (by rw [List.getElem?_take, if_pos hjm]; simpa using hj)
      rwa [Nat.zero_add] at this)
    (fun g a' w' g1 g0 g2 g3 g4 => h3 g a' w' g1 g0 g2 g3 g4) _ (fun _ => (0, 0)) (Array.replicate l.toArray.size false) a { w with drawn := w.drawn + 1 } rfl
    ⟨by simp, fun j oj _ hl => (by rw [getD_replicate_false] at hl; cases hl), fun t _ ht => getD_in (by simpa using ht) (getD_replicate_false _ _)⟩
    ⟨⟨rfl, rfl, rfl, Nat.le_refl _, fun _ _ => rfl⟩, by simp, rfl, rfl, fun i o t ho hd hl => (by rw [getD_replicate_false] at hl; cases hl), fun i o t ho hd hl => (by rw [getD_replicate_false] at hl; cases hl), fun i o t i' o' t' ho hd hl => (by rw [getD_replicate_false] at hl; cases hl), fun t _ => rfl⟩
  have hcount : (List.range m).countP (fun i => !(Array.replicate l.toArray.size false).getD i false) = m := by
    rw [List.countP_eq_length.2 (fun i _ => by rw [getD_replicate_false]; rfl), List.length_range]
  rw [hcount, show m + (l.toArray.size - m) = l.toArray.size by simp; omega] at this
  exact this

/-! ### The walk: a frame that is written out, and some slots of which a predicate alone is known. -/
def look (F : List (Tmp × VP)) (t : Tmp) : Option VP := (F.find? fun p => p.1 == t).map (·.2)
def know (a : Act) (F : List (Tmp × VP)) : Know := fun g t ov w => match look F t with | some R => ∃ v, ov = some v ∧ R v (g t).1 (g t).2 w | none => ov = a.tmps[t]?
def Spread (g : Own) (K : Act → World → Prop) : List (Tmp × VP) → Act → World → Prop
  | [], a, w => K a w
  | (d, R) :: F, a, w => ∀ v, R v (g d).1 (g d).2 w → Spread g K F (a.put (some d) v) w
def plainB (ops : Array Oper) (fs : List Tmp) (n : Nat) : List Oper → Bool
  | [] => true
  | o :: l => ((o.looksAt ops).all fun t => !fs.contains t) && (match o.dst with | some d => !fs.contains d && decide (d < n) && l.all (fun x => x.dst != some d) | none => true) &&
    (match o.op with | .select _ _ => false | _ => true) && plainB ops fs n l
def guardB (ops : Array Oper) (fs : List Tmp) (n : Nat) (o : Oper) : Bool :=
  (match o.guard with | some (g, _) => (((ops[g]?).bind (·.dst)).toList).all (fun t => !fs.contains t) | none => true) && (match o.dst with | some d => !fs.contains d && decide (d < n) | none => false) &&
  (match o.op with | .select _ _ => false | _ => true)
def SegOk (P : Program) (ops : Array Oper) (w0 : World) (l : List Oper) (a a1 : Act) : Prop :=
  ∀ (X : Type) [Inhabited X] (W : X → World), (∀ q, Grw w0 (W q)) → (∀ q w'', Grw (W q) w'' → ∃ q', w'' = W q') → wpQuiet P ops (fun w => ∃ q, w = W q) (fun a' => a' = a1) l a

inductive RelWalk (P : Program) (ops : Array Oper) (w0 : World) (ds : List Tmp) (K : Act → World → Prop) : List Oper → Act → List (Tmp × VP) → Prop
  | done {a : Act} {F : List (Tmp × VP)} (h : ∀ g w, Grw w0 w → Parted g ds w0 w → Spread g K F a w) : RelWalk P ops w0 ds K [] a F
  | seg {l1 l2 : List Oper} {a a1 : Act} {F : List (Tmp × VP)} (hB : plainB ops (F.map (·.1)) a.tmps.size l1 = true) (hs : SegOk P ops w0 l1 a a1) (h : RelWalk P ops w0 ds K l2 a1 F) : RelWalk P ops w0 ds K (l1 ++ l2) a F
  | made {o : Oper} {rest : List Oper} {a : Act} {F : List (Tmp × VP)} {d : Tmp} (R : VP) (hd : o.dst = some d) (hB : guardB ops (F.map (·.1)) a.tmps.size o = true) (hw : Region.wanted o (yielded ops a.tmps) = true) (hR : Mono R)
      (hs : ∀ (g : Own) w, Grw w0 w → Spread g (fun a' w => relOp P o a' w R) (F.filter fun p => (o.looksAt ops).contains p.1) a w) (h : RelWalk P ops w0 ds K rest (a.put (some d) undef) ((d, R) :: F)) : RelWalk P ops w0 ds K (o :: rest) a F
  | used {o : Oper} {rest : List Oper} {a : Act} {F : List (Tmp × VP)} {d : Tmp} (c : Value) (hd : o.dst = some d) (hB : guardB ops (F.map (·.1)) a.tmps.size o = true) (hw : Region.wanted o (yielded ops a.tmps) = true)
      (hs : ∀ (g : Own) w, Grw w0 w → Spread g (fun a' w => relOp P o a' w (fun v _ _ _ => v = c)) (F.filter fun p => (o.looksAt ops).contains p.1) a w) (h : RelWalk P ops w0 ds K rest (a.put (some d) c) F) : RelWalk P ops w0 ds K (o :: rest) a F

theorem look_none {F : List (Tmp × VP)} {t : Tmp} (h : t ∉ F.map (·.1)) : look F t = none := by
  unfold look
  rw [Option.map_eq_none_iff, List.find?_eq_none]
  intro p hp he
  exact h (List.mem_map.2 ⟨p, hp, by simpa using he⟩)
theorem look_mem {F : List (Tmp × VP)} {t : Tmp} {R : VP} (h : look F t = some R) : (t, R) ∈ F := by
  unfold look at h
  obtain ⟨p, hp, rfl⟩ := Option.map_eq_some_iff.1 h
  have := List.find?_some hp
  have hm := List.mem_of_find?_eq_some hp
  obtain ⟨x, y⟩ := p
  simp at this
  subst this
  exact hm
theorem look_cons {F : List (Tmp × VP)} {d : Tmp} {R : VP} (t : Tmp) : look ((d, R) :: F) t = if d = t then some R else look F t := by
  unfold look
  by_cases e : d = t
  · simp [e]
  · simp [e]
theorem look_of_mem : ∀ {F : List (Tmp × VP)}, (F.map (·.1)).Nodup → ∀ {t : Tmp} {R : VP}, (t, R) ∈ F → look F t = some R
  | [], _, _, _, h => by cases h
  | (d, S) :: F, hn, t, R, h => by
    simp only [List.map_cons, List.nodup_cons] at hn
    rw [look_cons]
    rcases List.mem_cons.1 h with h | h
    · cases h; rw [if_pos rfl]
    · rw [if_neg (fun e : d = t => hn.1 (by rw [e]; exact List.mem_map.2 ⟨_, h, rfl⟩))]
      exact look_of_mem hn.2 h

theorem act_ext {a b : Act} (h1 : a.defers = b.defers) (h2 : ∀ t : Nat, a.tmps[t]? = b.tmps[t]?) : a = b := by
  obtain ⟨x, y⟩ := a
  obtain ⟨x', y'⟩ := b
  have : x = x' := Array.ext_getElem? h2
  subst this
  have : y = y' := h1
  subst this
  rfl
theorem spread_frame {g : Own} {K : Act → World → Prop} {w : World} {a' : Act} : ∀ (F : List (Tmp × VP)) (a : Act), (F.map (·.1)).Nodup → (∀ p ∈ F, p.1 < a.tmps.size) → (∀ p ∈ F, ∃ v, a'.tmps[p.1]? = some v ∧ p.2 v (g p.1).1 (g p.1).2 w) → Spread g K F a w →
    ∃ a'', K a'' w ∧ a''.defers = a.defers ∧ a''.tmps.size = a.tmps.size ∧ (∀ t ∈ F.map (·.1), a''.tmps[t]? = a'.tmps[t]?) ∧ (∀ t, t ∉ F.map (·.1) → a''.tmps[t]? = a.tmps[t]?)
  | [], a, _, _, _, h => ⟨a, h, rfl, rfl, by simp, by simp⟩
  | (d, R) :: F, a, hn, hs, hv, h => by
    simp only [List.map_cons, List.nodup_cons] at hn
    obtain ⟨v, h1, h2⟩ := hv (d, R) List.mem_cons_self
    have hd : d < a.tmps.size := hs (d, R) List.mem_cons_self
    obtain ⟨a'', k1, k2, k3, k4, k5⟩ := spread_frame F (a.put (some d) v) hn.2 (fun p hp => by rw [put_size]; exact hs p (List.mem_cons_of_mem _ hp)) (fun p hp => hv p (List.mem_cons_of_mem _ hp)) (h v h2)
    refine ⟨a'', k1, by rw [k2, put_defers], by rw [k3, put_size], fun t ht => ?_, fun t ht => ?_⟩
    · by_cases e : t ∈ F.map (·.1)
      · exact k4 t e
      · rw [k5 t e]
        simp only [List.map_cons, List.mem_cons] at ht
        rcases ht with rfl | ht
        · rw [put_get_same a v hd]; exact h1.symm
        · exact absurd ht e
    · simp only [List.map_cons, List.mem_cons, not_or] at ht
      rw [k5 t ht.2, put_get_other a v (fun e => ht.1 (by injection e with e; exact e.symm))]

theorem wanted_same {o : Oper} {a a' : Act} (h : ∀ g b t, o.guard = some (g, b) → (ops[g]?).bind (·.dst) = some t → a'.tmps[t]? = a.tmps[t]?) : Region.wanted o (yielded ops a'.tmps) = Region.wanted o (yielded ops a.tmps) := by
  unfold Region.wanted
  cases hg : o.guard with
  | none => rfl
  | some p =>
    obtain ⟨g, b⟩ := p
    simp only
    unfold yielded
    cases hd : (ops[g]?).bind (·.dst) with
    | none => rfl
    | some t => simp only [Option.bind_some]; rw [h g b t hg hd]
theorem guard_looks {o : Oper} {g : Nat} {b : Bool} {t : Tmp} (hg : o.guard = some (g, b)) (hd : (ops[g]?).bind (·.dst) = some t) : t ∈ o.looksAt ops := by
  unfold Oper.looksAt
  rw [hg]
  exact List.mem_append_right _ (by simp [hd])
theorem exec_same {o : Oper} {a a' : Act} (hs : ∀ cs b, o.op ≠ .select cs b) (h : ∀ t ∈ o.looksAt ops, a'.tmps[t]? = a.tmps[t]?) : execOp a'.eval o = execOp a.eval o := by
  refine execOp_congr o hs fun x hx => ?_
  cases x with
  | tmp t =>
    have := h t (List.mem_append_left _ (List.mem_filterMap.2 ⟨.tmp t, by simpa using hx, rfl⟩))
    simp only [Act.eval, Array.getD_eq_getD_getElem?, this]
  | _ => rfl

theorem relOp_of_spread {g : Own} {o : Oper} {a a' : Act} {w : World} {R : VP} {F : List (Tmp × VP)} (hn : (F.map (·.1)).Nodup) (hsel : ∀ cs b, o.op ≠ .select cs b) (hsz : ∀ p ∈ F, p.1 < a.tmps.size)
    (hk : ∀ t ∈ o.looksAt ops, know a F g t a'.tmps[t]? w) (h : Spread g (fun a' w => relOp P o a' w R) (F.filter fun p => (o.looksAt ops).contains p.1) a w) : relOp P o a' w R := by
  have hn2 : ((F.filter fun p => (o.looksAt ops).contains p.1).map (·.1)).Nodup := List.Nodup.sublist (List.Sublist.map _ List.filter_sublist) hn
  obtain ⟨a'', k1, _, _, k4, k5⟩ := spread_frame (a' := a') _ a hn2 (fun p hp => hsz p (List.mem_filter.1 hp).1) (fun p hp => by
    rw [List.mem_filter] at hp
    have := hk p.1 (by simpa using hp.2)
    unfold know at this
    rw [look_of_mem hn (t := p.1) (R := p.2) hp.1] at this
    exact this) h
  unfold relOp at *
  rw [exec_same (ops := ops) hsel (a := a'') fun t ht => ?_]
  · exact k1
  · by_cases e : t ∈ (F.filter fun p => (o.looksAt ops).contains p.1).map (·.1)
    · exact (k4 t e).symm
    · rw [k5 t e]
      have := hk t ht
      unfold know at this
      cases hl : look F t with
      | none => rw [hl] at this; exact this
      | some R' =>
        exfalso
        exact e (List.mem_map.2 ⟨(t, R'), List.mem_filter.2 ⟨look_mem hl, by simpa using ht⟩, rfl⟩)

theorem guardB_spec {fs : List Tmp} {n : Nat} {o : Oper} {d : Tmp} (hd : o.dst = some d) (h : guardB ops fs n o = true) :
    (∀ g b t, o.guard = some (g, b) → (ops[g]?).bind (·.dst) = some t → t ∉ fs) ∧ d ∉ fs ∧ d < n ∧ ∀ cs b, o.op ≠ .select cs b := by
  simp only [guardB, Bool.and_eq_true, hd] at h
  obtain ⟨⟨h1, h2⟩, h3⟩ := h
  refine ⟨fun g b t hg ht hm => ?_, ?_, ?_, fun cs b e => by rw [e] at h3; simp at h3⟩
  · rw [hg] at h1
    simp [ht, hm] at h1
  · intro hm; simp [hm] at h2
  · simpa using h2.2

theorem know_upd_made {a : Act} {F : List (Tmp × VP)} {d : Tmp} {R : VP} (u : Value) : ∀ g t ov w, upd (know a F) (some d) R g t ov w → know (a.put (some d) u) ((d, R) :: F) g t ov w := fun g t ov w h => by
  unfold upd at h
  unfold know
  rw [look_cons]
  by_cases e : d = t
  · rw [if_pos e]; rw [if_pos (by rw [e])] at h; exact h
  · rw [if_neg e]
    rw [if_neg (fun h => e (by injection h))] at h
    unfold know at h
    cases hl : look F t with
    | some R' => rw [hl] at h; exact h
    | none => rw [hl] at h; simp only at h ⊢; rw [put_get_other a u (fun h => e (by injection h))]; exact h
theorem know_upd_used {a : Act} {F : List (Tmp × VP)} {d : Tmp} (c : Value) (hd : d < a.tmps.size) (hf : d ∉ F.map (·.1)) : ∀ g t ov w, upd (know a F) (some d) (fun v _ _ _ => v = c) g t ov w → know (a.put (some d) c) F g t ov w := fun g t ov w h => by
  unfold upd at h
  by_cases e : d = t
  · subst e
    rw [if_pos rfl] at h
    obtain ⟨v, rfl, rfl⟩ := h
    unfold know
    rw [look_none hf]
    simp only
    exact (put_get_same a v hd).symm
  · rw [if_neg (fun h => e (by injection h))] at h
    unfold know at h ⊢
    cases hl : look F t with
    | some R' => rw [hl] at h; exact h
    | none => rw [hl] at h; simp only at h ⊢; rw [put_get_other a c (fun h => e (by injection h))]; exact h

theorem quiet_keeps {C : World → Prop} {a1 : Act} : ∀ (l : List Oper) (a : Act), wpQuiet P ops C (fun a' => a' = a1) l a → a1.defers = a.defers ∧ a1.tmps.size = a.tmps.size ∧ ∀ t, (∀ o ∈ l, o.dst ≠ some t) → a1.tmps[t]? = a.tmps[t]?
  | [], a, h => by
    have h : a = a1 := h
    subst h; exact ⟨rfl, rfl, fun _ _ => rfl⟩
  | o :: l, a, h => by
    have key : ∃ v, wpQuiet P ops C (fun a' => a' = a1) l (a.put o.dst v) := by
      unfold wpQuiet at h
      split at h
      · obtain ⟨v, _, hn⟩ := h; exact ⟨v, hn⟩
      · exact ⟨_, h⟩
    obtain ⟨v, hv⟩ := key
    obtain ⟨k1, k2, k3⟩ := quiet_keeps l _ hv
    refine ⟨by rw [k1, put_defers], by rw [k2, put_size], fun t ht => ?_⟩
    rw [k3 t fun x hx => ht x (List.mem_cons_of_mem _ hx), put_get_other a v (ht o List.mem_cons_self)]

/-- All worlds that have grown out of one. -/
abbrev GrwT (w : World) : Type := { w' : World // Grw w w' }
instance (w : World) : Inhabited (GrwT w) := ⟨⟨w, Grw.rfl w⟩⟩
theorem seg_at {l : List Oper} {a a1 : Act} (h : SegOk P ops w0 l a a1) {w : World} (hw : Grw w0 w) : wpQuiet P ops (fun w' => ∃ q : GrwT w, w' = q.1) (fun a' => a' = a1) l a :=
  h (GrwT w) (fun q => q.1) (fun q => hw.tr q.2) fun q w'' hq => ⟨⟨w'', q.2.tr hq⟩, rfl⟩

theorem seg_sem {D : List Deferred} {n : Nat} {ds fs : List Tmp} {F : List (Tmp × VP)} (hF : F.map (·.1) = fs) {l2 : List Oper} : ∀ (l1 : List Oper) (a a1 : Act), a.tmps.size = n → plainB ops fs n l1 = true → SegOk P ops w0 l1 a a1 →
    sem P ops w0 K D n ds l2 (know a1 F) → sem P ops w0 K D n ds (l1 ++ l2) (know a F)
  | [], a, a1, _, _, hs, h => by
    have : a = a1 := seg_at hs (Grw.rfl w0)
    subst this; exact h
  | o :: l1, a, a1, hz, hB, hs, h => by
    simp only [plainB, Bool.and_eq_true] at hB
    obtain ⟨⟨⟨b1, b2⟩, b3⟩, b4⟩ := hB
    have hsel : ∀ cs b, o.op ≠ .select cs b := fun cs b e => by rw [e] at b3; simp at b3
    have hpl : ∀ t ∈ o.looksAt ops, t ∉ F.map (·.1) := fun t ht hm => by
      have := List.all_eq_true.1 b1 t ht
      rw [hF] at hm
      simp [hm] at this
    have hsame : ∀ {g : Own} {a' : Act} {w : World}, (∀ t ∈ o.looksAt ops, know a F g t a'.tmps[t]? w) → ∀ t ∈ o.looksAt ops, a'.tmps[t]? = a.tmps[t]? := fun hk t ht => by
      have := hk t ht
      unfold know at this
      rw [look_none (hpl t ht)] at this
      exact this
    have hwant : ∀ {g : Own} {a' : Act} {w : World}, (∀ t ∈ o.looksAt ops, know a F g t a'.tmps[t]? w) → Region.wanted o (yielded ops a'.tmps) = Region.wanted o (yielded ops a.tmps) := fun hk =>
      wanted_same fun g b t hg hd => hsame hk t (guard_looks hg hd)
    cases hw : Region.wanted o (yielded ops a.tmps) with
    | false =>
      have hs' : SegOk P ops w0 l1 (a.put o.dst undef) a1 := fun X _ W h1 h2 => by
        have := hs X W h1 h2
        unfold wpQuiet at this
        rw [if_neg (by rw [hw]; exact Bool.false_ne_true)] at this
        exact this
      refine ⟨fun v _ _ _ => v = undef, fun _ _ _ _ _ _ h => h, fun g a' w hg hk => ⟨fun hh => ?_, fun _ => rfl⟩, ?_⟩
      · rw [hwant hk, hw] at hh; cases hh
      · refine sem_mono ?_ (seg_sem hF l1 _ a1 (by rw [put_size]; exact hz) b4 hs' h)
        cases hd : o.dst with
        | none => intro g t ov w hh; unfold upd at hh; rw [if_neg (by simp)] at hh; exact hh
        | some d =>
          rw [hd] at b2
          simp only [Bool.and_eq_true] at b2
          exact know_upd_used undef (by rw [hz]; simpa using b2.1.2) (by rw [hF]; intro hm; simp [hm] at b2)
    | true =>
      obtain ⟨v0, _, hv0⟩ : o.quiet P a _ _ := by
        have := seg_at hs (Grw.rfl w0)
        unfold wpQuiet at this
        rwa [if_pos hw] at this
      have huni : ∀ {C : World → Prop} {v : Value}, wpQuiet P ops C (fun a' => a' = a1) l1 (a.put o.dst v) → a.put o.dst v = a.put o.dst v0 ∧ (∀ d, o.dst = some d → v = v0) := fun {C v} hv => by
        cases hd : o.dst with
        | none => exact ⟨rfl, fun d e => by cases e⟩
        | some d =>
          rw [hd] at hv hv0 b2
          simp only [Bool.and_eq_true] at b2
          have hb : d < a.tmps.size := by rw [hz]; simpa using b2.1.2
          have hno : ∀ x ∈ l1, x.dst ≠ some d := fun x hx e => by
            have := List.all_eq_true.1 b2.2 x hx
            simp [e] at this
          have e1 := (quiet_keeps l1 _ hv).2.2 d hno
          have e2 := (quiet_keeps l1 _ hv0).2.2 d hno
          rw [put_get_same a _ hb] at e1 e2
          rw [e1] at e2
          have : v = v0 := by injection e2
          subst this
          exact ⟨rfl, fun _ _ => rfl⟩
      have hs' : SegOk P ops w0 l1 (a.put o.dst v0) a1 := fun X _ W h1 h2 => by
        have := hs X W h1 h2
        unfold wpQuiet at this
        rw [if_pos hw] at this
        obtain ⟨v, _, hv⟩ := this
        rw [← (huni hv).1]; exact hv
      refine ⟨fun v _ _ _ => ∀ d, o.dst = some d → v = v0, fun _ _ _ _ _ _ h => h, fun g a' w hg hk => ⟨fun _ => ?_, fun hh => ?_⟩, ?_⟩
      · have := seg_at hs hg
        unfold wpQuiet at this
        rw [if_pos hw] at this
        obtain ⟨v, hq, hv⟩ := this
        have hv1 := (huni hv).2
        have := hq w ⟨⟨w, Grw.rfl w⟩, rfl⟩
        unfold relOp
        rw [exec_same (ops := ops) hsel (hsame hk)]
        unfold Oper.quietAt at this
        generalize (execOp a.eval o).run P w = r at *
        cases r with
        | ok nx w' =>
          cases nx <;> simp only [Oper.quietUpon] at this <;> simp only [relUpon]
          case value u => obtain ⟨rfl, rfl⟩ := this; exact ⟨Grw.rfl _, hv1⟩
          case skip => obtain ⟨rfl, rfl⟩ := this; exact ⟨Grw.rfl _, hv1⟩
          case enter f args =>
            obtain ⟨rfl, hc⟩ := this
            exact ⟨Grw.rfl _, hc.mono fun e w'' ⟨he, q, hq⟩ => ⟨v, he, by rw [hq]; exact q.2, hv1⟩⟩
        | halt x w' => simp only [Oper.quietUpon] at this
      · rw [hwant hk, hw] at hh; cases hh
      · refine sem_mono ?_ (seg_sem hF l1 _ a1 (by rw [put_size]; exact hz) b4 hs' h)
        cases hd : o.dst with
        | none => intro g t ov w hh; unfold upd at hh; rw [if_neg (by simp)] at hh; exact hh
        | some d =>
          rw [hd] at b2
          simp only [Bool.and_eq_true] at b2
          intro g t ov w hh
          refine know_upd_used v0 (by rw [hz]; simpa using b2.1.2) (by rw [hF]; intro hm; simp [hm] at b2) g t ov w ?_
          unfold upd at hh ⊢
          split
          · rename_i e
            rw [if_pos e] at hh
            obtain ⟨v, h1, h2⟩ := hh
            exact ⟨v, h1, h2 d rfl⟩
          · rename_i e; rw [if_neg e] at hh; exact hh

theorem relwalk_sem {D : List Deferred} {n : Nat} {ds : List Tmp} {l : List Oper} {a : Act} {F : List (Tmp × VP)} (h : RelWalk P ops w0 ds K l a F) : a.defers = D → a.tmps.size = n → (F.map (·.1)).Nodup → (∀ p ∈ F, p.1 < n) → sem P ops w0 K D n ds l (know a F) := by
  induction h with
  | @done a F h =>
    intro hD hn hnd hFn g a' w hg hpt h1 h2 h3
    obtain ⟨a'', k1, k2, k3, k4, k5⟩ := spread_frame (a' := a') F a hnd (fun p hp => by rw [hn]; exact hFn p hp) (fun p hp => by
      have := h3 p.1
      unfold know at this
      rw [look_of_mem hnd (t := p.1) (R := p.2) hp] at this
      exact this) (h g w hg hpt)
    have : a'' = a' := act_ext (by rw [k2, h1, hD]) fun t => by
      by_cases e : t ∈ F.map (·.1)
      · exact k4 t e
      · rw [k5 t e]
        have := h3 t
        unfold know at this
        rw [look_none e] at this
        exact this.symm
    rw [← this]; exact k1
  | @seg l1 l2 a a1 F hB hs h ih =>
    intro hD hn hnd hFn
    obtain ⟨e1, e2, _⟩ := quiet_keeps l1 a (seg_at hs (Grw.rfl w0))
    exact seg_sem rfl l1 a a1 hn (by rw [← hn]; exact hB) hs (ih (by rw [e1, hD]) (by rw [e2, hn]) hnd hFn)
  | @made o rest a F d R hd hB hw hR hs h ih =>
    intro hD hn hnd hFn
    obtain ⟨g1, g2, g3, g4⟩ := guardB_spec hd hB
    refine ⟨R, hR, fun g a' w hg hk => ⟨fun _ => ?_, fun hh => ?_⟩, ?_⟩
    · exact relOp_of_spread hnd g4 (fun p hp => by rw [hn]; exact hFn p hp) hk (hs g w hg)
    · rw [wanted_same fun g b t hgu hdst => ?_, hw] at hh
      · cases hh
      · have := hk t (guard_looks hgu hdst)
        unfold know at this
        rw [look_none (g1 g b t hgu hdst)] at this
        exact this
    · rw [hd]
      exact sem_mono (know_upd_made undef) (ih (by rw [put_defers]; exact hD) (by rw [put_size]; exact hn) (by simp only [List.map_cons, List.nodup_cons]; exact ⟨g2, hnd⟩) (fun p hp => by
        rcases List.mem_cons.1 hp with rfl | hp
        · rw [← hn]; exact g3
        · exact hFn p hp))
  | @used o rest a F d c hd hB hw hs h ih =>
    intro hD hn hnd hFn
    obtain ⟨g1, g2, g3, g4⟩ := guardB_spec hd hB
    refine ⟨fun v _ _ _ => v = c, fun _ _ _ _ _ _ h => h, fun g a' w hg hk => ⟨fun _ => ?_, fun hh => ?_⟩, ?_⟩
    · exact relOp_of_spread hnd g4 (fun p hp => by rw [hn]; exact hFn p hp) hk (hs g w hg)
    · rw [wanted_same fun g b t hgu hdst => ?_, hw] at hh
      · cases hh
      · have := hk t (guard_looks hgu hdst)
        unfold know at this
        rw [look_none (g1 g b t hgu hdst)] at this
        exact this
    · rw [hd]
      exact sem_mono (know_upd_used c g3 g2) (ih (by rw [put_defers]; exact hD) (by rw [put_size]; exact hn) hnd hFn)

/-- **The region**: one walk in the order of the text. -/
theorem wp_region_rel {id : Nat} {Q : Exit → Act → World → Prop} {a : Act} {w : World} {l : List Oper} (hm : P.follows .mixedOrders = true) (hT : tailB l.toArray l.length = true) (hB : relB l.toArray a.tmps.size l.length = true)
    (h : RelWalk P l.toArray w (l.filterMap (·.dst)) (fun a' w' => Q .normal a' w') l a []) : (Code.region id l.toArray true).wp P Q a w :=
  wp_region_sem (ds := l.filterMap (·.dst)) l.length (by rw [List.take_length]) hm hT hB (by
    rw [List.take_length, List.drop_length]
    exact relwalk_sem h rfl rfl List.nodup_nil (by simp))
/-- .. whose last operations (stores) come in the order of the text, behind all others. -/
theorem wp_region_rel_tail {id : Nat} {Q : Exit → Act → World → Prop} {a : Act} {w : World} {l : List Oper} (m : Nat) (hm : P.follows .mixedOrders = true) (hT : tailB l.toArray m = true) (hB : relB l.toArray a.tmps.size m = true)
    (h : RelWalk P l.toArray w ((l.take m).filterMap (·.dst)) (fun a' w' => wpList P l.toArray Q (l.drop m) a' w') (l.take m) a []) : (Code.region id l.toArray true).wp P Q a w :=
  wp_region_sem m rfl hm hT hB (relwalk_sem h rfl rfl List.nodup_nil (by simp))
/-- The rest, all of it quiet. -/
theorem RelWalk.rest {ds : List Tmp} {l : List Oper} {a a1 : Act} {F : List (Tmp × VP)} (hB : plainB ops (F.map (·.1)) a.tmps.size l = true) (hs : SegOk P ops w0 l a a1) (h : ∀ g w, Grw w0 w → Parted g ds w0 w → Spread g K F a1 w) : RelWalk P ops w0 ds K l a F := by
  have := RelWalk.seg (l2 := []) hB hs (.done h)
  rwa [List.append_nil] at this
/-- The next n, all of them quiet. -/
theorem RelWalk.next {ds : List Tmp} (n : Nat) {l : List Oper} {a a1 : Act} {F : List (Tmp × VP)} (hB : plainB ops (F.map (·.1)) a.tmps.size (l.take n) = true) (hs : SegOk P ops w0 (l.take n) a a1) (h : RelWalk P ops w0 ds K (l.drop n) a1 F) : RelWalk P ops w0 ds K l a F := by
  have := RelWalk.seg hB hs h
  rwa [List.take_append_drop] at this
/-- A callee's contract, met in a world of the class. -/
theorem into {X : Type} {W : X → World} (hcl : ∀ q w'', Grw (W q) w'' → ∃ q', w'' = W q') {f : FuncId} {args : Array Value} {q : X} {v : Value} (h : Calls P f args (W q) fun e w' => e = .returned v ∧ Below (W q).heap.size (W q) w') : Calls P f args (W q) fun e w'' => e = .returned v ∧ ∃ q', w'' = W q' :=
  h.mono fun _ _ ⟨he, hb⟩ => ⟨he, hcl _ _ hb⟩
theorem intoSame {X : Type} {W : X → World} {f : FuncId} {args : Array Value} {q : X} {v : Value} (h : Calls P f args (W q) fun e w' => e = .returned v ∧ W q = w') : Calls P f args (W q) fun e w'' => e = .returned v ∧ ∃ q', w'' = W q' :=
  h.mono fun _ _ ⟨he, hb⟩ => ⟨he, q, hb.symm⟩
theorem gcell {w w' : World} (h : Grw w w') {a : Addr} {v : Value} (hc : w.cell? a = some v) : w'.cell? a = some v := by rw [h.cell (World.block_lt_of_cell? w _ hc)]; exact hc
theorem RelWalk.made0 {ds : List Tmp} {o : Oper} {rest : List Oper} {a : Act} {F : List (Tmp × VP)} {d : Tmp} (R : VP) (hd : o.dst = some d) (hB : guardB ops (F.map (·.1)) a.tmps.size o = true) (hw : Region.wanted o (yielded ops a.tmps) = true) (hF : (F.filter fun p => (o.looksAt ops).contains p.1) = []) (hR : Mono R)
    (hs : ∀ w, Grw w0 w → relUpon P w R ((execOp a.eval o).run P w)) (h : RelWalk P ops w0 ds K rest (a.put (some d) undef) ((d, R) :: F)) : RelWalk P ops w0 ds K (o :: rest) a F :=
  .made R hd hB hw hR (fun g w hg => by rw [hF]; exact hs w hg) h
theorem RelWalk.made1 {ds : List Tmp} {o : Oper} {rest : List Oper} {a : Act} {F : List (Tmp × VP)} {d d1 : Tmp} {R1 : VP} (R : VP) (hd : o.dst = some d) (hB : guardB ops (F.map (·.1)) a.tmps.size o = true) (hw : Region.wanted o (yielded ops a.tmps) = true) (hF : (F.filter fun p => (o.looksAt ops).contains p.1) = [(d1, R1)]) (hR : Mono R)
    (hs : ∀ (g : Own) w, Grw w0 w → ∀ v, R1 v (g d1).1 (g d1).2 w → relUpon P w R ((execOp (a.put (some d1) v).eval o).run P w)) (h : RelWalk P ops w0 ds K rest (a.put (some d) undef) ((d, R) :: F)) : RelWalk P ops w0 ds K (o :: rest) a F :=
  .made R hd hB hw hR (fun g w hg => by rw [hF]; exact hs g w hg) h
theorem RelWalk.made2 {ds : List Tmp} {o : Oper} {rest : List Oper} {a : Act} {F : List (Tmp × VP)} {d d1 d2 : Tmp} {R1 R2 : VP} (R : VP) (hd : o.dst = some d) (hB : guardB ops (F.map (·.1)) a.tmps.size o = true) (hw : Region.wanted o (yielded ops a.tmps) = true) (hF : (F.filter fun p => (o.looksAt ops).contains p.1) = [(d1, R1), (d2, R2)]) (hR : Mono R)
    (hs : ∀ (g : Own) w, Grw w0 w → ∀ v, R1 v (g d1).1 (g d1).2 w → ∀ v2, R2 v2 (g d2).1 (g d2).2 w → relUpon P w R ((execOp ((a.put (some d1) v).put (some d2) v2).eval o).run P w)) (h : RelWalk P ops w0 ds K rest (a.put (some d) undef) ((d, R) :: F)) : RelWalk P ops w0 ds K (o :: rest) a F :=
  .made R hd hB hw hR (fun g w hg => by rw [hF]; exact hs g w hg) h
theorem RelWalk.used1 {ds : List Tmp} {o : Oper} {rest : List Oper} {a : Act} {F : List (Tmp × VP)} {d d1 : Tmp} {R1 : VP} (c : Value) (hd : o.dst = some d) (hB : guardB ops (F.map (·.1)) a.tmps.size o = true) (hw : Region.wanted o (yielded ops a.tmps) = true) (hF : (F.filter fun p => (o.looksAt ops).contains p.1) = [(d1, R1)])
    (hs : ∀ (g : Own) w, Grw w0 w → ∀ v, R1 v (g d1).1 (g d1).2 w → relUpon P w (fun v _ _ _ => v = c) ((execOp (a.put (some d1) v).eval o).run P w)) (h : RelWalk P ops w0 ds K rest (a.put (some d) c) F) : RelWalk P ops w0 ds K (o :: rest) a F :=
  .used c hd hB hw (fun g w hg => by rw [hF]; exact hs g w hg) h
theorem RelWalk.used2 {ds : List Tmp} {o : Oper} {rest : List Oper} {a : Act} {F : List (Tmp × VP)} {d d1 d2 : Tmp} {R1 R2 : VP} (c : Value) (hd : o.dst = some d) (hB : guardB ops (F.map (·.1)) a.tmps.size o = true) (hw : Region.wanted o (yielded ops a.tmps) = true) (hF : (F.filter fun p => (o.looksAt ops).contains p.1) = [(d1, R1), (d2, R2)])
    (hs : ∀ (g : Own) w, Grw w0 w → ∀ v, R1 v (g d1).1 (g d1).2 w → ∀ v2, R2 v2 (g d2).1 (g d2).2 w → relUpon P w (fun v _ _ _ => v = c) ((execOp ((a.put (some d1) v).put (some d2) v2).eval o).run P w)) (h : RelWalk P ops w0 ds K rest (a.put (some d) c) F) : RelWalk P ops w0 ds K (o :: rest) a F :=
  .used c hd hB hw (fun g w hg => by rw [hF]; exact hs g w hg) h
/-- An operation that enters a function. -/
theorem rel_enter {w : World} {R : VP} {f : FuncId} {args : Array Value} (h : Calls P f args w fun e w' => ∃ v, e = .returned v ∧ Grw w w' ∧ R v w.heap.size w'.heap.size w') : relUpon P w R (.ok (.enter f args) w) := ⟨Grw.rfl w, h⟩
theorem rel_enter_c {w : World} {c : Value} {f : FuncId} {args : Array Value} (h : Calls P f args w fun e w' => e = .returned c ∧ Below w.heap.size w w') : relUpon P w (fun v _ _ _ => v = c) (.ok (.enter f args) w) := ⟨Grw.rfl w, h.mono fun _ _ ⟨h1, h2⟩ => ⟨c, h1, h2, rfl⟩⟩
end
end Go.Proofs.Ytggefpkfikimiaa
