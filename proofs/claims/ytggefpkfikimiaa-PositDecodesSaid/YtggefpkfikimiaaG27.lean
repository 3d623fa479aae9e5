/- Strict positivity as a program by spines asks for it: the same as by Kids. Mathematics alone. -/
import Derived.Test.YtggefpkfikimiaaG17
import Derived.Test.YtggefpkfikimiaaG24
import Derived.Test.YtggefpkfikimiaaG26
import Derived.Test.YtggefpkfikimiaaG18
import Derived.Test.YtggefpkfikimiaaG23
namespace Go.Proofs.Ytggefpkfikimiaa
open Go.RowKit
set_option linter.unusedVariables false

theorem moreP_nil8 (vars : List Int) : moreP vars 0 = vars := by simp [moreP]
theorem moreP_more (vars : List Int) (m n : Nat) : moreP (moreP vars (m : Int)) (n : Int) = moreP vars ((m + n : Nat) : Int) := by
  simp only [moreP, Int.toNat_natCast, List.append_assoc, List.replicate_append_replicate]
/-- Of a decoder the sort is one of the block's. -/
theorem of_dec (b : BlkT) {base n : Int} {w : Int} (h : ofB b base n = (4, w)) : ∃ k : Nat, w = (k : Int) ∧ ∃ hk : k < b.sorts.length, idxLen b w = (b.sorts[k].idx.length : Int) := by
  by_cases hn : n < 0
  · rw [of_neg b hn] at h; simp at h
  rcases ofB_spec b base n (by omega) with ⟨v, h1 | ⟨h1, h2⟩ | h1 | h1⟩ | h1
  · rw [h] at h1; simp at h1
  · rw [h] at h1
    obtain rfl : w = v := by simpa using h1
    have h3 : 0 ≤ w ∧ w < (b.sorts.length : Int) := by
      unfold decoderB at h2
      by_cases hc : (inZ base 0 65535 && inZ w 0 (nsB b - 1) && hasDec b w) = true
      · simp only [Bool.and_eq_true, inZ, decide_eq_true_eq, nsB] at hc
        obtain ⟨⟨_, h4, h5⟩, _⟩ := hc
        have h5' : w ≤ (b.sorts.length : Int) - 1 := of_decide_eq_true h5
        omega
      · rw [if_neg hc] at h2; omega
    refine ⟨w.toNat, by omega, by omega, ?_⟩
    rw [idxLen, List.getElem?_eq_getElem (by omega)]
    rfl
  · rw [h] at h1; simp at h1
  · rw [h] at h1; simp at h1
  · rw [h] at h1; simp at h1
/-- Of a constructor the number is one of the block's. -/
theorem of_con (b : BlkT) {base n : Int} {w : Int} (h : ofB b base n = (5, w)) : ∃ k : Nat, w = (k : Int) ∧ ∃ hk : k < b.cons.length, conArgs b w = b.cons[k].args := by
  by_cases hn : n < 0
  · rw [of_neg b hn] at h; simp at h
  rcases ofB_spec b base n (by omega) with ⟨v, h1 | h1 | h1 | ⟨h1, h2⟩⟩ | h1
  · rw [h] at h1; simp at h1
  · rw [h] at h1; simp at h1
  · rw [h] at h1; simp at h1
  · rw [h] at h1
    obtain rfl : w = v := by simpa using h1
    have h3 : 0 ≤ w ∧ w < (b.cons.length : Int) := by
      unfold ctorB at h2
      by_cases hc : (inZ base 0 65535 && inZ w 0 (ncB b - 1)) = true
      · simp only [Bool.and_eq_true, inZ, decide_eq_true_eq, ncB] at hc
        obtain ⟨_, h4, h5⟩ := hc
        have h5' : w ≤ (b.cons.length : Int) - 1 := of_decide_eq_true h5
        omega
      · rw [if_neg hc] at h2; omega
    refine ⟨w.toNat, by omega, by omega, ?_⟩
    rw [conArgs, List.getElem?_eq_getElem (by omega)]
    rfl
  · rw [h] at h1; simp at h1
/-- What a decoding ends in. -/
def decodB (b : BlkT) (base : Int) (vars : List Int) (u : Tm) : Bool := decide ((unspine u).1.k = 1) && decide (0 ≤ guardP vars (unspine u).1.n) && (unspine u).2.all (cleanB b base vars)
/-- A head that is neither an App nor a constant of the block. -/
def headB (b : BlkT) (base : Int) (vars : List Int) (f : Tm) : Bool := if f.k = 1 then decide (guardP vars f.n < 0) else kidsStep (cleanB b base) vars f.k 0 f.kids
def spineB (b : BlkT) (base : Int) (vars : List Int) (f : Tm) (X : List Tm) : Bool :=
  if f.k = 3 then
    if (ofB b base f.n).1 = 4 then
      (if h : (idxLen b (ofB b base f.n).2).toNat < X.length then
        ((X.take (idxLen b (ofB b base f.n).2).toNat).all (cleanB b base vars) && decodB b base vars X[(idxLen b (ofB b base f.n).2).toNat]) && (X.drop ((idxLen b (ofB b base f.n).2).toNat + 1)).all (cleanB b base vars) else false)
    else decide ((ofB b base f.n).1 = 0) && X.all (cleanB b base vars)
  else headB b base vars f && X.all (cleanB b base vars)
theorem all_snoc (p : Tm → Bool) (l : List Tm) (a : Tm) : (l ++ [a]).all p = (l.all p && p a) := by simp
theorem decgB_snoc (b : BlkT) (base : Int) (vars : List Int) (X : List Tm) (a : Tm) : decgB b base vars (X ++ [a]) = (X.all (cleanB b base vars) && decodB b base vars a) := by
  have h1 : (X ++ [a]).dropLast = X := List.dropLast_concat
  have h2 : lastT (X ++ [a]) = a := by simp [lastT]
  rw [decgB, decgStep, h1, h2, decodB]
theorem clean_spine (b : BlkT) (base : Int) (vars : List Int) : ∀ t : Tm, formedB t = true → cleanB b base vars t = spineB b base vars (unspine t).1 (unspine t).2 := by
  refine tm_ind fun t ih hf => ?_
  obtain ⟨k, n, l⟩ := t
  by_cases hk : k = 6
  · obtain ⟨h0, a, c, rfl, ha, hc⟩ := app_formed hf (.inl hk)
    have e1 := ih a (by simp [Tm.kids]) ha
    have hu := unspine_app k n a c hk
    rw [hu]
    have hkids : cleanB b base vars a = true ∧ True → True := fun _ => trivial
    have hK : ∀ (h : isDecg b base (.node k n [a, c]) = false), cleanB b base vars (.node k n [a, c]) = (spineB b base vars (unspine a).1 (unspine a).2 && cleanB b base vars c) := by
      intro h
      rw [clean_kids b base vars (by show k ≠ 1; omega) (by show k ≠ 3; omega) h]
      show (cleanB b base (moreP vars (bindsI k 0)) a && (cleanB b base (moreP vars (bindsI k 1)) c && true)) = _
      rw [show bindsI k 0 = 0 from if_neg (by omega), show bindsI k 1 = 0 from if_neg (by omega), moreP_nil8, e1, Bool.and_true]
    generalize hF : (unspine a).1 = f at *
    generalize hX : (unspine a).2 = X at *
    by_cases hc3 : f.k = 3
    · rcases hof : ofB b base f.n with ⟨p, q⟩
      by_cases hp : p = 4
      · subst hp
        obtain ⟨m, rfl, hm, hl⟩ := of_dec b hof
        have hdl : isDecg b base (.node k n [a, c]) = decide (X.length = b.sorts[m].idx.length) := by
          rw [isDecg, hu]
          dsimp only
          rw [hof]
          dsimp only
          rw [hl, decide_eq_true hc3, List.length_append, List.length_singleton, decide_eq_true (show 0 < X.length + 1 by omega), Bool.true_and, Bool.true_and, decide_eq_true rfl, Bool.true_and]
          by_cases hh : X.length = b.sorts[m].idx.length
          · rw [decide_eq_true hh, decide_eq_true]; omega
          · rw [decide_eq_false hh, decide_eq_false]; omega
        have hS : ∀ Z : List Tm, spineB b base vars f Z = if h : b.sorts[m].idx.length < Z.length then
            ((Z.take b.sorts[m].idx.length).all (cleanB b base vars) && decodB b base vars Z[b.sorts[m].idx.length]) && (Z.drop (b.sorts[m].idx.length + 1)).all (cleanB b base vars) else false := by
          intro Z
          unfold spineB
          rw [if_pos hc3]
          simp only [hof, hl, Int.toNat_natCast, if_true]
        by_cases hh : X.length = b.sorts[m].idx.length
        · rw [clean_decg b base vars (by show k ≠ 1; omega) (by show k ≠ 3; omega) (by rw [hdl]; exact decide_eq_true hh), hu, hS]
          dsimp only
          rw [decgB_snoc, dif_pos (by rw [List.length_append, List.length_singleton]; omega)]
          have e2 : (X ++ [c]).take b.sorts[m].idx.length = X := by rw [← hh]; simp
          have e3 : (X ++ [c]).drop (b.sorts[m].idx.length + 1) = [] := by apply List.drop_of_length_le; rw [List.length_append, List.length_singleton]; omega
          have e4 : (X ++ [c])[b.sorts[m].idx.length]'(by rw [List.length_append, List.length_singleton]; omega) = c := by simp [← hh]
          rw [e2, e3, e4]
          simp
        · rw [hK (by rw [hdl]; exact decide_eq_false hh), hS, hS]
          by_cases hlt : b.sorts[m].idx.length < X.length
          · rw [dif_pos hlt, dif_pos (by rw [List.length_append]; omega)]
            have e2 : (X ++ [c]).take b.sorts[m].idx.length = X.take b.sorts[m].idx.length := List.take_append_of_le_length (by omega)
            have e3 : (X ++ [c]).drop (b.sorts[m].idx.length + 1) = X.drop (b.sorts[m].idx.length + 1) ++ [c] := List.drop_append_of_le_length (by omega)
            have e4 : (X ++ [c])[b.sorts[m].idx.length]'(by rw [List.length_append, List.length_singleton]; omega) = X[b.sorts[m].idx.length] := List.getElem_append_left hlt
            rw [e2, e3, e4, all_snoc, Bool.and_assoc, Bool.and_assoc]
          · rw [dif_neg hlt, dif_neg (by rw [List.length_append, List.length_singleton]; omega), Bool.false_and]
      · have hdl : isDecg b base (.node k n [a, c]) = false := by
          rw [isDecg, hu]
          dsimp only
          rw [hof]
          dsimp only
          rw [decide_eq_false hp, Bool.and_false, Bool.false_and]
        rw [hK hdl]
        unfold spineB
        rw [if_pos hc3, if_pos hc3, hof]
        dsimp only
        rw [if_neg hp, if_neg hp, all_snoc, Bool.and_assoc]
    · have hdl : isDecg b base (.node k n [a, c]) = false := by
        rw [isDecg, hu]
        dsimp only
        rw [decide_eq_false hc3, Bool.false_and, Bool.false_and, Bool.false_and]
      rw [hK hdl]
      unfold spineB
      rw [if_neg hc3, if_neg hc3, all_snoc, Bool.and_assoc]
  · rw [unspine_no (t := .node k n l) (fun h => hk h.1)]
    dsimp only
    unfold spineB headB
    by_cases h1 : k = 1
    · rw [if_neg (show ¬ (Tm.node k n l).k = 3 by show ¬ k = 3; omega), if_pos (show (Tm.node k n l).k = 1 from h1), clean_var b base vars (t := .node k n l) h1]
      simp
    · by_cases h3 : k = 3
      · rw [if_pos (show (Tm.node k n l).k = 3 from h3), clean_const b base vars (t := .node k n l) h3]
        rcases hof : ofB b base (Tm.node k n l).n with ⟨p, q⟩
        dsimp only
        by_cases hp : p = 4
        · rw [if_pos hp, dif_neg (by simp), hp]; rfl
        · rw [if_neg hp]; simp
      · rw [if_neg (show ¬ (Tm.node k n l).k = 3 from h3), if_neg (show ¬ (Tm.node k n l).k = 1 from h1), clean_kids b base vars (t := .node k n l) h1 h3 (by
          rw [isDecg, unspine_no (t := .node k n l) (fun h => hk h.1)]
          dsimp only
          rw [decide_eq_false (show ¬ (Tm.node k n l).k = 3 from h3), Bool.false_and, Bool.false_and, Bool.false_and])]
        simp
/-! ### The program's variables -/
/-- The Args, and r variables more. -/
def viewP (args : List ArgT) (r : Nat) : List Int := moreP (atP args) (r : Int)
theorem viewP_length (args : List ArgT) (r : Nat) : (viewP args r).length = args.length + r := by rw [viewP, moreP_length, atP_length]
theorem atFrom_get : ∀ (l : List ArgT) (i j : Nat) (h : j < l.length), (atFrom i l)[j]'(by rw [atFrom_length]; exact h) = if l[j].r then ((i + j : Nat) : Int) else -1
  | a :: l, i, 0, _ => by simp only [atFrom, List.getElem_cons_zero, Nat.add_zero]
  | a :: l, i, j + 1, h => by
    simp only [atFrom, List.getElem_cons_succ]
    rw [atFrom_get l (i + 1) j (by simpa using h), Nat.add_right_comm, Nat.add_assoc]
/-- Which Arg a variable belongs to, and whether it is guarded. -/
theorem view_guard (args : List ArgT) (r : Nat) (n : Int) (hn : 0 ≤ n) :
    (∀ k : Nat, (k : Int) = (args.length : Int) - 1 - (n - r) → ∀ hk : k < args.length, guardP (viewP args r) n = if args[k].r then (k : Int) else -1) ∧
    ((args.length : Int) - 1 - (n - r) < 0 ∨ (args.length : Int) ≤ (args.length : Int) - 1 - (n - r) → guardP (viewP args r) n = -1) := by
  have hl := viewP_length args r
  constructor
  · intro k hk1 hk
    obtain ⟨h, e⟩ := guard_at (vars := viewP args r) (n := n) hn (by omega)
    have hi : (viewP args r).length - 1 - n.toNat = k := by omega
    rw [e]
    simp only [hi]
    have h2 : (viewP args r)[k]'(by omega) = (atP args)[k]'(by rw [atP_length]; exact hk) := List.getElem_append_left (by rw [atP_length]; exact hk)
    rw [h2]
    have h3 := atFrom_get args 0 k hk
    rw [Nat.zero_add] at h3
    exact h3
  · rintro (h | h)
    · unfold guardP
      rw [if_pos (by omega)]
    · obtain ⟨hh, e⟩ := guard_at (vars := viewP args r) (n := n) hn (by omega)
      rw [e]
      have h2 : args.length ≤ (viewP args r).length - 1 - n.toNat := by omega
      have key : ∀ (i : Nat) (hi : i < (viewP args r).length), args.length ≤ i → (viewP args r)[i] = -1 := by
        unfold viewP moreP
        intro i hi h3
        rw [List.getElem_append_right (by rw [atP_length]; exact h3), List.getElem_replicate]
      exact key _ hh h2
theorem view_more (args : List ArgT) (r m : Nat) : moreP (viewP args r) (m : Int) = viewP args (r + m) := by rw [viewP, moreP_more, viewP]
theorem view_ok (args : List ArgT) (r : Nat) : VarsOk (viewP args r) args.length := varsOk_more (varsOk_at args) r
theorem view_zero (args : List ArgT) : viewP args 0 = atP args := moreP_nil8 _
end Go.Proofs.Ytggefpkfikimiaa
/- Package posit's view in memory; its under, behind, guarded, constant. No conditions but sizes. -/
namespace Go.Proofs.Ytggefpkfikimiaa
open Go.RowKit
set_option linter.unusedVariables false

theorem boxc7 {W : World} {B : Nat} {ty : TypeId} {a b c d e f g : Value} (h : W.heap[B]? = some (.cells #[a, b, c, d, e, f, g] ty (0, 0))) :
    W.cell? ⟨B, 0, none⟩ = some a ∧ W.cell? ⟨B, 1, none⟩ = some b ∧ W.cell? ⟨B, 2, none⟩ = some c ∧ W.cell? ⟨B, 3, none⟩ = some d ∧ W.cell? ⟨B, 4, none⟩ = some e ∧ W.cell? ⟨B, 5, none⟩ = some f ∧ W.cell? ⟨B, 6, none⟩ = some g := by
  refine ⟨?_, ?_, ?_, ?_, ?_, ?_, ?_⟩ <;> simp [World.cell?, h]
/-- A view's parts. -/
def VAt (w : World) (b : BlkT) (args : List ArgT) (vs vc va : Value) : Prop := BAt w b vs vc ∧ ARow w args va
theorem VAt.bel {w w' : World} (hg : Below w.heap.size w w') {b : BlkT} {args : List ArgT} {vs vc va : Value} (h : VAt w b args vs vc va) : VAt w' b args vs vc va := ⟨h.1.bel hg, ARow.bel hg h.2⟩
theorem VAt.shape {w : World} {b : BlkT} {args : List ArgT} {vs vc va : Value} (h : VAt w b args vs vc va) :
    ∃ ps cs pc cc pa ca, vs = .slice ps b.sorts.length cs ∧ vc = .slice pc b.cons.length cc ∧ va = .slice pa args.length ca := by
  obtain ⟨ps, cs, pc, cc, e1, e2⟩ := h.1.shape
  obtain ⟨pa, ca, e4⟩ := h.2.shape
  exact ⟨ps, cs, pc, cc, pa, ca, e1, e2, e4⟩
/-- A view in its box. -/
def OneW (w0 : World) (B1 : Nat) (b : BlkT) (base : Int) (args : List ArgT) (r c : Int) (vs vc va : Value) (W : World) : Prop :=
  W.heap[B1]? = some (.cells #[vs, vc, .int .i64 b.elim, .int .i64 base, va, .int .i64 r, .int .i64 c] 85 (0, 0)) ∧ VAt W b args vs vc va ∧ Below w0.heap.size w0 W
theorem OneW.bel {w0 W W' : World} {B1 : Nat} {b : BlkT} {base : Int} {args : List ArgT} {r c : Int} {vs vc va : Value} (h : OneW w0 B1 b base args r c vs vc va W) (hb : Below W.heap.size W W') : OneW w0 B1 b base args r c vs vc va W' :=
  ⟨(hb.block _ (Array.getElem?_eq_some_iff.1 h.1).1).trans h.1, h.2.1.bel hb, h.2.2.trans (hb.mono h.2.2.size)⟩
theorem onew_start (w : World) (b : BlkT) (base : Int) (args : List ArgT) (r c : Int) (vs vc va : Value) (h : VAt w b args vs vc va) :
    OneW w w.heap.size b base args r c vs vc va (w.alloc (.cells #[vs, vc, .int .i64 b.elim, .int .i64 base, va, .int .i64 r, .int .i64 c] 85)) :=
  ⟨World.alloc_heap_new w _, h.bel (below_al w _), below_al w _⟩
theorem OneW.cells {w0 W : World} {B1 : Nat} {b : BlkT} {base : Int} {args : List ArgT} {r c : Int} {vs vc va : Value} (h : OneW w0 B1 b base args r c vs vc va W) :
    W.cell? ⟨B1, 0, none⟩ = some vs ∧ W.cell? ⟨B1, 1, none⟩ = some vc ∧ W.cell? ⟨B1, 2, none⟩ = some (.int .i64 b.elim) ∧ W.cell? ⟨B1, 3, none⟩ = some (.int .i64 base) ∧ W.cell? ⟨B1, 4, none⟩ = some va ∧ W.cell? ⟨B1, 5, none⟩ = some (.int .i64 r) ∧ W.cell? ⟨B1, 6, none⟩ = some (.int .i64 c) := by
  have h1 := h.1
  refine ⟨?_, ?_, ?_, ?_, ?_, ?_, ?_⟩ <;> · rw [World.cell?, h1]; rfl
set_option maxRecDepth 100000 in
set_option maxHeartbeats 2000000 in
theorem sunder_any (b : BlkT) (base : Int) (args : List ArgT) (r m c : Int) (hr : I64 (r + m)) (w : World) (vs vc va : Value) (hA : VAt w b args vs vc va) :
    Calls Try.prog 89 #[.agg #[vs, vc, .int .i64 b.elim, .int .i64 base, va, .int .i64 r, .int .i64 c], .int .i64 m] w fun e w' => e = .returned (.agg #[vs, vc, .int .i64 b.elim, .int .i64 base, va, .int .i64 (r + m), .int .i64 c]) ∧ Below w.heap.size w w' := by
  obtain ⟨ps, cs, pc, cc, pa, ca, rfl, rfl, rfl⟩ := hA.shape
  have hw : IntKind.i64.wrap (r + m) = r + m := IntWalk.i64_in _ (by have := hr; unfold I64 at this; omega)
  clear hA
  go_enter Try.func89, Try.ntmps89
  go_wp2_with fail
  have hn := World.alloc_heap_new (w.alloc (.cells #[.slice ps b.sorts.length cs, .slice pc b.cons.length cc, .int .i64 b.elim, .int .i64 base, .slice pa args.length ca, .int .i64 (r + m), .int .i64 c] 85)) (.cells #[.slice ps b.sorts.length cs, .slice pc b.cons.length cc, .int .i64 b.elim, .int .i64 base, .slice pa args.length ca, .int .i64 (r + m), .int .i64 c] 85)
  rw [World.size_alloc] at hn
  obtain ⟨s0, s1, s2, s3, s4, s5, s6⟩ := boxc7 hn
  refine bodyPost_ret (v := .agg #[.slice ps b.sorts.length cs, .slice pc b.cons.length cc, .int .i64 b.elim, .int .i64 base, .slice pa args.length ca, .int .i64 (r + m), .int .i64 c]) (by simp [results, Try.f89, go_sem, s0, s1, s2, s3, s4, s5, s6]) rfl ⟨rfl, (below_al _ _).trans ((below_al _ _).mono (by simp))⟩
set_option maxRecDepth 100000 in
set_option maxHeartbeats 2000000 in
theorem sbehind_any (b : BlkT) (base : Int) (args args2 : List ArgT) (r c : Int) (w : World) (vs vc va va2 : Value) (hA : VAt w b args vs vc va) (hB : ARow w args2 va2) :
    Calls Try.prog 69 #[.agg #[vs, vc, .int .i64 b.elim, .int .i64 base, va, .int .i64 r, .int .i64 c], va2] w fun e w' => e = .returned (.agg #[vs, vc, .int .i64 b.elim, .int .i64 base, va2, .int .i64 r, .int .i64 c]) ∧ Below w.heap.size w w' := by
  obtain ⟨ps, cs, pc, cc, pa, ca, rfl, rfl, rfl⟩ := hA.shape
  obtain ⟨pa2, ca2, rfl⟩ := hB.shape
  clear hA hB
  go_enter Try.func69, Try.ntmps69
  go_wp2_with fail
  have hn := World.alloc_heap_new (w.alloc (.cells #[.slice ps b.sorts.length cs, .slice pc b.cons.length cc, .int .i64 b.elim, .int .i64 base, .slice pa2 args2.length ca2, .int .i64 r, .int .i64 c] 85)) (.cells #[.slice ps b.sorts.length cs, .slice pc b.cons.length cc, .int .i64 b.elim, .int .i64 base, .slice pa2 args2.length ca2, .int .i64 r, .int .i64 c] 85)
  rw [World.size_alloc] at hn
  obtain ⟨s0, s1, s2, s3, s4, s5, s6⟩ := boxc7 hn
  refine bodyPost_ret (v := .agg #[.slice ps b.sorts.length cs, .slice pc b.cons.length cc, .int .i64 b.elim, .int .i64 base, .slice pa2 args2.length ca2, .int .i64 r, .int .i64 c]) (by simp [results, Try.f69, go_sem, s0, s1, s2, s3, s4, s5, s6]) rfl ⟨rfl, (below_al _ _).trans ((below_al _ _).mono (by simp))⟩
/-- Whether a term is a guarded variable, and how many Doms its Arg has. -/
def gokB (args : List ArgT) (r : Nat) (t : Tm) : Bool := decide (t.k = 1) && decide (0 ≤ guardP (viewP args r) t.n)
def gdomB (args : List ArgT) (r : Nat) (t : Tm) : Int := if gokB args r t then domLen args (guardP (viewP args r) t.n) else 0
set_option maxRecDepth 100000 in
set_option maxHeartbeats 2000000 in
theorem sguarded_any (b : BlkT) (base : Int) (args : List ArgT) (hl : args.length ≤ 1048576) (r : Nat) (hr : r ≤ 10000000) (c : Int) (t : Tm) (hn : t.k = 1 → 0 ≤ t.n ∧ t.n ≤ 10000000) (w : World) (vs vc va v : Value) (hA : VAt w b args vs vc va) (hT : At w t.kids v) :
    Calls Try.prog 92 #[.agg #[vs, vc, .int .i64 b.elim, .int .i64 base, va, .int .i64 (r : Int), .int .i64 c], .agg #[.int .i64 t.k, .int .i64 t.n, v]] w fun e w' => e = .returned (.tuple #[.int .i64 (gdomB args r t), .bool (gokB args r t)]) ∧ Below w.heap.size w w' := by
  obtain ⟨ps, cs, pc, cc, pa, ca, rfl, rfl, rfl⟩ := hA.shape
  obtain ⟨at0, ct0, rfl⟩ := hT.shape
  have O0 := onew_start w b base args (r : Int) c _ _ _ hA
  have HB := Lib.hid (O0.2.2.trans ((below_al _ (.cells #[.int .i64 t.k, .int .i64 t.n, .slice at0 t.kids.length ct0] 25)).mono O0.2.2.size))
  have HR := Lib.hid hA.2
  clear O0 hA hT
  by_cases hk : t.k = 1
  rotate_left
  · have e1 : gokB args r t = false := by rw [gokB, decide_eq_false hk, Bool.false_and]
    have e2 : gdomB args r t = 0 := by rw [gdomB, e1]; rfl
    rw [e1, e2]
    have hk' : (t.k != 1) = true := by simpa using hk
    clear e1 e2 hk
    go_enter Try.func92, Try.ntmps92
    go_wp2_with fail
    exact bodyPost_ret (v := .tuple #[.int .i64 0, .bool false]) (by simp [results, Try.f92, go_sem]) rfl ⟨rfl, HB.out⟩
  obtain ⟨hn0, hn1⟩ := hn hk
  obtain ⟨hv1, hv2⟩ := view_guard args r t.n hn0
  have hw1 : IntKind.i64.wrap ((args.length : Int) - 1) = (args.length : Int) - 1 := IntWalk.i64_in _ (by omega)
  have hw2 : IntKind.i64.wrap (t.n - (r : Int)) = t.n - (r : Int) := IntWalk.i64_in _ (by omega)
  have hw3 : IntKind.i64.wrap ((args.length : Int) - 1 - (t.n - (r : Int))) = (args.length : Int) - 1 - (t.n - (r : Int)) := IntWalk.i64_in _ (by omega)
  have hk' : (t.k != 1) = false := by simpa using hk
  by_cases h1 : (args.length : Int) - 1 - (t.n - (r : Int)) < 0
  · have hg := hv2 (.inl h1)
    have e1 : gokB args r t = false := by rw [gokB, hg]; simp
    have e2 : gdomB args r t = 0 := by rw [gdomB, e1]; rfl
    rw [e1, e2]
    clear e1 e2 hv1 hv2 hg hn hk hn0 hn1
    go_enter Try.func92, Try.ntmps92
    go_wp2_with fail
    exact bodyPost_ret (v := .tuple #[.int .i64 0, .bool false]) (by simp [results, Try.f92, go_sem]) rfl ⟨rfl, HB.out⟩
  by_cases h2 : (args.length : Int) ≤ (args.length : Int) - 1 - (t.n - (r : Int))
  · have hg := hv2 (.inr h2)
    have e1 : gokB args r t = false := by rw [gokB, hg]; simp
    have e2 : gdomB args r t = 0 := by rw [gdomB, e1]; rfl
    rw [e1, e2]
    clear e1 e2 hv1 hv2 hg hn hk hn0 hn1
    go_enter Try.func92, Try.ntmps92
    go_wp2_with fail
    exact bodyPost_ret (v := .tuple #[.int .i64 0, .bool false]) (by simp [results, Try.f92, go_sem]) rfl ⟨rfl, HB.out⟩
  obtain ⟨k, hkk⟩ : ∃ k : Nat, (k : Int) = (args.length : Int) - 1 - (t.n - (r : Int)) := ⟨((args.length : Int) - 1 - (t.n - (r : Int))).toNat, by omega⟩
  have hkl : k < args.length := by omega
  have hg := hv1 k hkk hkl
  rw [← hkk] at h1 h2
  replace hw3 := hw3.trans hkk.symm
  have h3 : (k : Int) < (args.length : Int) := by omega
  have h4 : 0 ≤ (k : Int) := by omega
  obtain ⟨bA, oA, vt, vd, vi, he, t1, t2, t3, y0, y1, y2, y3, y4, y5, y6⟩ := ARow.at (ARow.bel HB.out HR.out) hkl
  cases he
  obtain ⟨ad, cd, rfl⟩ := t2.shape
  clear t1 t2 t3 y1 y2 y3 y5 y6
  cases hrec : args[k].r with
  | false =>
    have e1 : gokB args r t = false := by rw [gokB, hg, hrec]; simp
    have e2 : gdomB args r t = 0 := by rw [gdomB, e1]; rfl
    rw [e1, e2]
    rw [hrec] at y0
    clear e1 e2 hv1 hv2 hg hn hk hn0 hn1 hrec hkk
    go_enter Try.func92, Try.ntmps92
    go_wp2_with fail
    exact bodyPost_ret (v := .tuple #[.int .i64 0, .bool false]) (by simp [results, Try.f92, go_sem]) rfl ⟨rfl, HB.out⟩
  | true =>
    have e1 : gokB args r t = true := by rw [gokB, hg, hrec, decide_eq_true hk]; simp
    have e2 : gdomB args r t = (args[k].dom.length : Int) := by
      rw [gdomB, e1, hg, hrec]
      show domLen args (k : Int) = _
      rw [domLen, Int.toNat_natCast, List.getElem?_eq_getElem hkl]
      rfl
    rw [e1, e2]
    rw [hrec] at y0
    clear e1 e2 hv1 hv2 hg hn hk hn0 hn1 hrec hkk
    go_enter Try.func92, Try.ntmps92
    go_wp2_with fail
    exact bodyPost_ret (v := .tuple #[.int .i64 (args[k].dom.length : Int), .bool true]) (by simp [results, Try.f92, go_sem]) rfl ⟨rfl, HB.out⟩
/-- Which constant of the block a term is. -/
def cstB (b : BlkT) (base : Int) (t : Tm) : Int × Int := if t.k = 3 then ofB b base t.n else (0, 0)
set_option maxRecDepth 100000 in
set_option maxHeartbeats 2000000 in
theorem sconstant_any (b : BlkT) (hs : blkN b ≤ 1048576) (base : Int) (args : List ArgT) (r c : Int) (t : Tm) (hI : I64 t.n) (w : World) (vs vc va v : Value) (hA : VAt w b args vs vc va) (hT : At w t.kids v) :
    Calls Try.prog 81 #[.agg #[vs, vc, .int .i64 b.elim, .int .i64 base, va, .int .i64 r, .int .i64 c], .agg #[.int .i64 t.k, .int .i64 t.n, v]] w fun e w' => e = .returned (.tuple #[.int .i64 (cstB b base t).1, .int .i64 (cstB b base t).2]) ∧ Below w.heap.size w w' := by
  obtain ⟨ps, cs, pc, cc, pa, ca, rfl, rfl, rfl⟩ := hA.shape
  obtain ⟨at0, ct0, rfl⟩ := hT.shape
  have O0 := onew_start w b base args r c _ _ _ hA
  have B1 := below_al (w.alloc (.cells #[.slice ps b.sorts.length cs, .slice pc b.cons.length cc, .int .i64 b.elim, .int .i64 base, .slice pa args.length ca, .int .i64 r, .int .i64 c] 85)) (.cells #[.int .i64 t.k, .int .i64 t.n, .slice at0 t.kids.length ct0] 25)
  have O1 := Lib.hid (O0.bel B1)
  clear O0 B1 hA hT
  by_cases hk : t.k = 3
  · have hk' : (t.k != 3) = false := by simpa using hk
    have HS := Lib.hid (sof_any b hs base t.n hI _ _ _ O1.out.2.1.1)
    rw [cstB, if_pos hk]
    generalize ofB b base t.n = PP at *
    obtain ⟨p, q⟩ := PP
    clear hk
    go_enter Try.func81, Try.ntmps81
    go_wp2_with fail
    refine HS.out.mono ?_
    rintro e w2 ⟨rfl, hb⟩
    have O2 := Lib.hid (O1.out.bel hb)
    clear hb
    go_wp2_with fail
    exact bodyPost_ret (v := .tuple #[.int .i64 p, .int .i64 q]) (by simp [results, Try.f81, go_sem]) rfl ⟨rfl, O2.out.2.2⟩
  · have hk' : (t.k != 3) = true := by simpa using hk
    rw [cstB, if_neg hk]
    clear hk
    go_enter Try.func81, Try.ntmps81
    go_wp2_with fail
    exact bodyPost_ret (v := .tuple #[.int .i64 0, .int .i64 0]) (by simp [results, Try.f81, go_sem]) rfl ⟨rfl, O1.out.2.2⟩
end Go.Proofs.Ytggefpkfikimiaa
/- Package posit's areClean, isDecodable, where isClean is known of the terms. No conditions but sizes. -/
namespace Go.Proofs.Ytggefpkfikimiaa
open Go.RowKit
set_option linter.unusedVariables false

/-- The program's isClean answers as the document says. -/
def ClP (b : BlkT) (base : Int) (args : List ArgT) (r : Nat) (u : Tm) : Prop := ∀ (c : Int) (w : World) (vs vc va v : Value), VAt w b args vs vc va → At w u.kids v →
  Calls Try.prog 70 #[.agg #[vs, vc, .int .i64 b.elim, .int .i64 base, va, .int .i64 (r : Int), .int .i64 c], .agg #[.int .i64 u.k, .int .i64 u.n, v]] w fun e w' => e = .returned (.bool (cleanB b base (viewP args r) u)) ∧ Below w.heap.size w w'
set_option maxRecDepth 100000 in
set_option maxHeartbeats 2000000 in
theorem sareclean_any (b : BlkT) (base : Int) (args : List ArgT) (r : Nat) (c : Int) (l : List Tm) (hl : l.length ≤ 1048576) (ih : ∀ u ∈ l, ClP b base args r u) (w : World) (vs vc va v : Value) (hA : VAt w b args vs vc va) (hL : At w l v) :
    Calls Try.prog 83 #[.agg #[vs, vc, .int .i64 b.elim, .int .i64 base, va, .int .i64 (r : Int), .int .i64 c], v] w fun e w' => e = .returned (.bool (l.all (cleanB b base (viewP args r)))) ∧ Below w.heap.size w w' := by
  obtain ⟨ps, cs, pc, cc, pa, ca, rfl, rfl, rfl⟩ := hA.shape
  obtain ⟨aL, cL, rfl⟩ := hL.shape
  have O0 := Lib.hid (onew_start w b base args (r : Int) c _ _ _ hA)
  have A0 := Lib.hid (hL.bel O0.out.2.2 (Nat.le_refl _))
  have IH := Lib.hid ih
  clear hA hL ih
  go_enter Try.func83, Try.ntmps83
  go_wp2_with fail
  revert O0 A0
  generalize w.alloc (.cells #[.slice ps b.sorts.length cs, .slice pc b.cons.length cc, .int .i64 b.elim, .int .i64 base, .slice pa args.length ca, .int .i64 (r : Int), .int .i64 c] 85) = W0
  intro O0 A0
  go_loopw [9] (fun i wr => ∃ j : Nat, j ≤ l.length ∧ i = .int .i64 j ∧ l.all (cleanB b base (viewP args r)) = (l.drop j).all (cleanB b base (viewP args r)) ∧ OneW w w.heap.size b base args (r : Int) c (.slice ps b.sorts.length cs) (.slice pc b.cons.length cc) (.slice pa args.length ca) wr ∧ At wr l (.slice aL l.length cL)) (fun i _ => l.length - (RowKit.intOf i).toNat)
  case atStart => exact ⟨0, Nat.zero_le _, rfl, rfl, O0.out, A0.out⟩
  case round =>
    clear O0 A0
    obtain ⟨j, hj, rfl, hE, hO, hAX⟩ := hrel
    have OJ := Lib.hid hO
    have AJ := Lib.hid hAX
    have HE := Lib.hid hE
    clear hE hO hAX
    by_cases hlt : j < l.length
    · have hI := Lib.hid (IH.out l[j] (List.getElem_mem hlt))
      have hw1 : IntKind.i64.wrap ((j : Int) + 1) = ((j + 1 : Nat) : Int) := by rw [IntWalk.i64_in _ (by omega)]; omega
      have HDA := Lib.hid (show (l.drop j).all (cleanB b base (viewP args r)) = (cleanB b base (viewP args r) l[j] && (l.drop (j + 1)).all (cleanB b base (viewP args r))) by rw [List.drop_eq_getElem_cons hlt, List.all_cons])
      obtain ⟨bX, oX, kX, us, he, hcapX, hcmX, g0, g1, g2, g3⟩ := AJ.out.pos (by omega)
      cases he
      obtain ⟨y0, y1, y2, y3⟩ := And.intro (g0 j hlt) (And.intro (g1 j hlt) (And.intro (g2 j hlt) (g3 j hlt)))
      obtain ⟨au, cu, hau⟩ := y3.shape
      rw [hau] at y2 y3
      have Y3 := Lib.hid y3
      clear g0 g1 g2 g3 hcapX hcmX y3 hau
      go_upto_region 4 with (fail)
      obtain ⟨w4, hw4⟩ : ∃ w4, w4 = wr.alloc (.cells #[.int .i64 l[j].k, .int .i64 l[j].n, .slice au l[j].kids.length cu] 25) := ⟨_, rfl⟩
      have Z4 : Hid (w4.heap[wr.heap.size]? = some (.cells #[.int .i64 l[j].k, .int .i64 l[j].n, .slice au l[j].kids.length cu] 25 (0, 0))) := by unfold Hid; rw [hw4]; exact World.alloc_heap_new wr _
      have B4 : Below wr.heap.size wr w4 := by rw [hw4]; exact below_al _ _
      rw [← hw4]
      have O4 := Lib.hid (OJ.out.bel B4)
      have A4 := Lib.hid (AJ.out.bel B4 (Nat.le_refl _))
      have K4 := Lib.hid (Y3.out.bel B4 (Nat.le_refl _))
      clear hw4 B4 OJ AJ Y3 y0 y1 y2
      obtain ⟨⟨z0, z1, z2⟩, _⟩ := boxc Z4.out
      obtain ⟨x0, x1, x2, x3, x4, x5, x6⟩ := O4.out.cells
      have HC := Lib.hid (hI.out c _ _ _ _ _ O4.out.2.1 K4.out)
      cases hc : cleanB b base (viewP args r) l[j] with
      | true =>
        rw [hc] at HC
        have HE2 := Lib.hid (HE.out.trans (by rw [HDA.out, hc, Bool.true_and]))
        clear hc hI HE HDA
        go_wp2_with fail
        refine HC.out.mono ?_
        rintro e w5 ⟨rfl, hb5⟩
        have O5 := Lib.hid (O4.out.bel hb5)
        have A5 := Lib.hid (A4.out.bel hb5 (Nat.le_refl _))
        clear hb5 x0 x1 x2 x3 x4 x5 x6 z0 z1 z2 O4 A4 K4 Z4 HC
        go_wp2_with fail
        go_roundw
        case rel => exact ⟨j + 1, by omega, by go_num, HE2.out, O5.out, A5.out⟩
        case measure => simp [RowKit.intOf] <;> omega
      | false =>
        rw [hc] at HC
        have HE2 := Lib.hid (HE.out.trans (by rw [HDA.out, hc, Bool.false_and]))
        clear hc hI HE HDA
        go_wp2_with fail
        refine HC.out.mono ?_
        rintro e w5 ⟨rfl, hb5⟩
        have O5 := Lib.hid (O4.out.bel hb5)
        clear hb5 x0 x1 x2 x3 x4 x5 x6 z0 z1 z2 O4 A4 K4 Z4 HC
        go_wp2_with fail
        go_ret
        exact ⟨ret_bool HE2.out.symm, O5.out.2.2⟩
    · obtain rfl : j = l.length := by omega
      go_wp2_with fail
      go_ret
      exact ⟨ret_bool (by rw [HE.out, List.drop_length]; rfl), OJ.out.2.2⟩
set_option maxRecDepth 100000 in
set_option maxHeartbeats 2000000 in
theorem sisdecodable_any (b : BlkT) (base : Int) (args : List ArgT) (hla : args.length ≤ 1048576) (r : Nat) (hr : r ≤ 10000000) (c : Int) (t : Tm) (hs : size t ≤ 1048576) (hf : formedB t = true) (hn : (unspine t).1.k = 1 → 0 ≤ (unspine t).1.n ∧ (unspine t).1.n ≤ 10000000) (ih : ∀ u ∈ (unspine t).2, ClP b base args r u)
    (w : World) (vs vc va v : Value) (hA : VAt w b args vs vc va) (hT : At w t.kids v) :
    Calls Try.prog 84 #[.agg #[vs, vc, .int .i64 b.elim, .int .i64 base, va, .int .i64 (r : Int), .int .i64 c], .agg #[.int .i64 t.k, .int .i64 t.n, v]] w fun e w' => e = .returned (.bool (decodB b base (viewP args r) t)) ∧ Below w.heap.size w w' := by
  obtain ⟨ps, cs, pc, cc, pa, ca, rfl, rfl, rfl⟩ := hA.shape
  obtain ⟨at0, ct0, rfl⟩ := hT.shape
  have O0 := onew_start w b base args (r : Int) c _ _ _ hA
  have T0 := hT.bel O0.2.2 (Nat.le_refl _)
  have B1 := below_al (w.alloc (.cells #[.slice ps b.sorts.length cs, .slice pc b.cons.length cc, .int .i64 b.elim, .int .i64 base, .slice pa args.length ca, .int .i64 (r : Int), .int .i64 c] 85)) (.cells #[.int .i64 t.k, .int .i64 t.n, .slice at0 t.kids.length ct0] 25)
  have O1 := Lib.hid (O0.bel B1)
  have HP := Lib.hid (parts_any t hs hf _ _ (T0.bel B1 (Nat.le_refl _)))
  have hl0 := unspine_sizes t
  have hl1 := length_le_sizeL (unspine t).2
  have hXl : (unspine t).2.length ≤ 1048576 := by omega
  have HD := Lib.hid (show decodB b base (viewP args r) t = (gokB args r (unspine t).1 && (unspine t).2.all (cleanB b base (viewP args r))) from rfl)
  clear O0 T0 B1 hA hT hl0 hl1 hf hs
  have HN := Lib.hid hn
  have IH := Lib.hid ih
  clear hn ih
  revert HP HD HN IH hXl
  generalize (unspine t).1 = f
  generalize (unspine t).2 = X
  intro HP hXl HD HN IH
  go_enter Try.func84, Try.ntmps84
  go_wp2_with fail
  refine HP.out.mono ?_
  rintro e w3 ⟨af, cf, aX, cX, rfl, hfk, hX, hb3⟩
  have O3 := Lib.hid (O1.out.bel hb3)
  have AX := Lib.hid hX
  have AF := Lib.hid (hfk.bel hb3 (Nat.le_refl _))
  clear hfk hX hb3 O1 HP
  go_upto_region 2 with (fail)
  obtain ⟨w4, hw4⟩ : ∃ w4, w4 = w3.alloc (.cells #[.int .i64 f.k, .int .i64 f.n, .slice af f.kids.length cf] 25) := ⟨_, rfl⟩
  have Z4 : Hid (w4.heap[w3.heap.size]? = some (.cells #[.int .i64 f.k, .int .i64 f.n, .slice af f.kids.length cf] 25 (0, 0))) := by unfold Hid; rw [hw4]; exact World.alloc_heap_new w3 _
  have B4 : Below w3.heap.size w3 w4 := by rw [hw4]; exact below_al _ _
  rw [← hw4]
  have O4 := Lib.hid (O3.out.bel B4)
  have A4 := Lib.hid (AX.out.bel B4 (Nat.le_refl _))
  have F4 := Lib.hid (AF.out.bel B4 (Nat.le_refl _))
  clear hw4 B4 O3 AX AF
  obtain ⟨⟨z0, z1, z2⟩, _⟩ := boxc Z4.out
  obtain ⟨x0, x1, x2, x3, x4, x5, x6⟩ := O4.out.cells
  have HG := Lib.hid (sguarded_any b base args hla r hr c f HN.out w4 _ _ _ _ O4.out.2.1 F4.out)
  generalize gdomB args r f = dd at *
  cases hg : gokB args r f with
  | true =>
    rw [hg] at HG
    have HE2 := Lib.hid (HD.out.trans (show _ = X.all (cleanB b base (viewP args r)) by rw [hg, Bool.true_and]))
    clear hg HD
    go_wp2_with fail
    refine HG.out.mono ?_
    rintro e w5 ⟨rfl, hb5⟩
    have O5 := Lib.hid (O4.out.bel hb5)
    have A5 := Lib.hid (A4.out.bel hb5 (Nat.le_refl _))
    clear hb5 x0 x1 x2 x3 x4 x5 x6 z0 z1 z2 O4 A4 F4 Z4 HG
    obtain ⟨x0, x1, x2, x3, x4, x5, x6⟩ := O5.out.cells
    have HC := Lib.hid (sareclean_any b base args r c X hXl IH.out w5 _ _ _ _ O5.out.2.1 A5.out)
    go_wp2_with fail
    refine HC.out.mono ?_
    rintro e w6 ⟨rfl, hb6⟩
    have O6 := Lib.hid (O5.out.bel hb6)
    clear hb6 x0 x1 x2 x3 x4 x5 x6 O5 A5 HC
    go_wp2_with fail
    go_ret
    exact ⟨ret_bool HE2.out.symm, O6.out.2.2⟩
  | false =>
    rw [hg] at HG
    have HE2 := Lib.hid (HD.out.trans (show _ = false by rw [hg, Bool.false_and]))
    clear hg HD
    go_wp2_with fail
    refine HG.out.mono ?_
    rintro e w5 ⟨rfl, hb5⟩
    have O5 := Lib.hid (O4.out.bel hb5)
    clear hb5 x0 x1 x2 x3 x4 x5 x6 z0 z1 z2 O4 A4 F4 Z4 HG
    go_wp2_with fail
    go_ret
    exact ⟨ret_bool HE2.out.symm, O5.out.2.2⟩
end Go.Proofs.Ytggefpkfikimiaa
/- The page's clean, where it is known of the smaller terms. No conditions but sizes. -/
namespace Go.Proofs.Ytggefpkfikimiaa
open Go.RowKit
set_option linter.unusedVariables false

/-- A term in its box. -/
def OneT8 (B1 : Nat) (t : Tm) (v : Value) (W : World) : Prop := W.heap[B1]? = some (.cells #[.int .i64 t.k, .int .i64 t.n, v] 25 (0, 0)) ∧ At W t.kids v
theorem OneT8.bel {B1 : Nat} {t : Tm} {v : Value} {W W' : World} (h : OneT8 B1 t v W) (hb : Below W.heap.size W W') : OneT8 B1 t v W' :=
  ⟨(hb.block _ (Array.getElem?_eq_some_iff.1 h.1).1).trans h.1, h.2.bel hb (Nat.le_refl _)⟩
theorem kids_at {r : List Int → Tm → Bool} {vars : List Int} {k : Int} {l : List Tm} {j : Nat} (h : j < l.length) : kidsStep r vars k j (l.drop j) = (r (moreP vars (bindsI k j)) l[j] && kidsStep r vars k (j + 1) (l.drop (j + 1))) := by
  rw [List.drop_eq_getElem_cons h, kidsStep]
end Go.Proofs.Ytggefpkfikimiaa
