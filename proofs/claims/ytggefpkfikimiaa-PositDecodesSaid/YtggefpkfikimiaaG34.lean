/- The laws' terms: all terms of Args, in one row; appending any row to a row of the call's own. No conditions but sizes. -/
import Derived.Test.YtggefpkfikimiaaG23
import Derived.Test.YtggefpkfikimiaaG15
import Derived.Laws.AppendOwnNone
import Derived.Deep.AppendLies
import Derived.Test.YtggefpkfikimiaaG21
namespace Go.Proofs.Ytggefpkfikimiaa
open Go.RowKit
set_option linter.unusedVariables false

/-- A row of terms to be appended: it lies in w, the terms' Kids in w0. -/
def SrcP (w0 w : World) (k : List Tm) (v : Value) : Prop := (k = [] ∧ (v = .slice none 0 0 ∨ ∃ a c, v = .slice (some a) 0 c)) ∨ (0 < k.length ∧ ∃ (b off cp : Nat) (ws : Nat → Value), v = .slice (some ⟨b, off, none⟩) k.length cp ∧
  (∀ i (h : i < k.length), w.cell? ⟨b, off + i * 3, none⟩ = some (.int .i64 k[i].k)) ∧ (∀ i (h : i < k.length), w.cell? ⟨b, off + i * 3 + 1, none⟩ = some (.int .i64 k[i].n)) ∧ (∀ i (h : i < k.length), w.cell? ⟨b, off + i * 3 + 2, none⟩ = some (ws i)) ∧ ∀ i (h : i < k.length), At w0 k[i].kids (ws i))
theorem SrcP.bel {w0 w w' : World} {k : List Tm} {v : Value} (h : SrcP w0 w k v) (hb : Below w.heap.size w w') : SrcP w0 w' k v := by
  rcases h with h | ⟨h0, b, off, cp, ws, e, h1, h2, h3, h4⟩
  · exact .inl h
  · exact .inr ⟨h0, b, off, cp, ws, e, fun i hi => gcell hb (h1 i hi), fun i hi => gcell hb (h2 i hi), fun i hi => gcell hb (h3 i hi), h4⟩
theorem SrcP.shape {w0 w : World} {k : List Tm} {v : Value} (h : SrcP w0 w k v) : ∃ a c, v = .slice a k.length c := by
  rcases h with ⟨rfl, e | ⟨a, c, e⟩⟩ | ⟨h0, b, off, cp, ws, e, _⟩
  · exact ⟨none, 0, e⟩
  · exact ⟨_, c, e⟩
  · exact ⟨_, cp, e⟩
theorem srcp_of_at {w0 w : World} {k : List Tm} {v : Value} (hb : Below w0.heap.size w0 w) (h : At w0 k v) : SrcP w0 w k v := by
  cases h with
  | nl => exact .inl ⟨rfl, .inl rfl⟩
  | em a c => exact .inl ⟨rfl, .inr ⟨_, _, rfl⟩⟩
  | row l b off cp ws h1 h2 kk kn kv ks =>
    by_cases h0 : 0 < k.length
    · exact .inr ⟨h0, b, off, cp, ws, rfl, fun i hi => gcell hb (kk i hi), fun i hi => gcell hb (kn i hi), fun i hi => gcell hb (kv i hi), ks⟩
    · obtain rfl : k = [] := List.eq_nil_of_length_eq_zero (by omega)
      exact .inl ⟨rfl, .inr ⟨_, _, rfl⟩⟩
theorem srcp_of_row {w0 w : World} {B : Nat} {k : List Tm} {v : Value} (h : RowP w0 B k v w) : SrcP w0 w k v := by
  obtain ⟨vs, h2, h3⟩ := h
  by_cases h0 : 0 < k.length
  · rcases h2.2 with ⟨e, e0⟩ | ⟨g, cap, cur, e, e1, e2, e3, e4, e5, e6⟩
    · omega
    · have key : ∀ i (hi : i < k.length) r, r < 3 → w.cell? ⟨g, i * 3 + r, none⟩ = ([.int .i64 k[i].k, .int .i64 k[i].n, vs i] : List Value)[r]? := fun i hi r hr => by
        have h5 : w.ownsRow B 25 3 (.slice (some ⟨g, 0, none⟩) k.length cap) k.length (cells3 k vs) := by rw [← e]; exact h2
        rw [h5.cellAt _ (by omega), cells3_get k vs i r hi hr]
      refine .inr ⟨h0, g, 0, cap, vs, e, fun i hi => ?_, fun i hi => ?_, fun i hi => ?_, h3⟩
      · have := key i hi 0 (by omega); simpa using this
      · have := key i hi 1 (by omega); simpa using this
      · have := key i hi 2 (by omega); simpa using this
  · obtain rfl : k = [] := List.eq_nil_of_length_eq_zero (by omega)
    rcases h2.2 with ⟨e, e0⟩ | ⟨g, cap, cur, e, _⟩
    · exact .inl ⟨rfl, .inl e⟩
    · exact .inl ⟨rfl, .inr ⟨_, _, e⟩⟩
theorem srcp_one {w0 w : World} {B : Nat} {t : Tm} {a : Option Addr} {c : Nat} (h : w.heap[B]? = some (.cells #[.int .i64 t.k, .int .i64 t.n, .slice a t.kids.length c] 25 (0, 0))) (hk : At w0 t.kids (.slice a t.kids.length c)) : SrcP w0 w [t] (.slice (some ⟨B, 0, none⟩) 1 1) := by
  obtain ⟨⟨z0, z1, z2⟩, _⟩ := boxc h
  refine .inr ⟨by simp, B, 0, 1, fun _ => .slice a t.kids.length c, rfl, fun i hi => ?_, fun i hi => ?_, fun i hi => ?_, fun i hi => ?_⟩
  all_goals
    obtain rfl : i = 0 := by simpa using hi
    first | exact z0 | exact z1 | exact z2 | exact hk
theorem cells3_app8 (l k : List Tm) (vs ws : Nat → Value) : cells3 (l ++ k) (fun i => if i < l.length then vs i else ws (i - l.length)) = cells3 l vs ++ cells3 k ws := by
  unfold cells3
  rw [List.length_append, List.range_add, List.flatMap_append]
  congr 1
  · rw [List.flatMap_def, List.flatMap_def]
    congr 1
    apply List.map_congr_left
    intro i hi
    have hi' : i < l.length := by simpa using hi
    rw [List.getElem?_append_left hi']
    simp only [if_pos hi']
  · rw [List.flatMap_def, List.flatMap_def, List.map_map]
    congr 1
    apply List.map_congr_left
    intro i hi
    simp only [Function.comp_apply]
    rw [List.getElem?_append_right (by omega), if_neg (by omega), Nat.add_sub_cancel_left]
theorem rowp_app {w0 w' : World} {B : Nat} {l k : List Tm} {v' : Value} {vs ws : Nat → Value} (hl : ∀ i (_ : i < l.length), At w0 l[i].kids (vs i)) (hk : ∀ i (_ : i < k.length), At w0 k[i].kids (ws i))
    (hown : w'.ownsRow B 25 3 v' (l.length + k.length) (cells3 l vs ++ cells3 k ws)) : RowP w0 B (l ++ k) v' w' := by
  rw [← cells3_app8, ← List.length_append] at hown
  refine ⟨_, hown, fun i hi => ?_⟩
  by_cases h : i < l.length
  · rw [if_pos h, List.getElem_append_left h]
    exact hl i h
  · rw [if_neg h, List.getElem_append_right (by omega)]
    exact hk (i - l.length) (by rw [List.length_append] at hi; omega)
theorem RowP.shape {w0 w : World} {B : Nat} {l : List Tm} {v : Value} (h : RowP w0 B l v w) : ∃ a c, v = .slice a l.length c := (srcp_of_row h).shape
theorem wpList_append_rowp {ops : Array Oper} {rest : List Oper} {o : Oper} {a : Act} {Q : Exit → Act → World → Prop} (hgd : o.guard = none) (s x : Operand)
    (ho : o.op = .call { callee := .builtin .append, args := #[s, x], argTypes := #[23, 23] })
    {w0 w : World} {B : Nat} {l k : List Tm} {v vk : Value} (hs : a.eval s = v) (hx : a.eval x = vk) (hn : l.length + k.length ≤ 4000000)
    (hown : RowP w0 B l v w) (hB : B ≤ w.heap.size) (hk : SrcP w0 w k vk)
    (h : ∀ a1 cp w', RowP w0 B (l ++ k) (.slice a1 (l ++ k).length cp) w' → Below B w w' → wpList Try.prog ops Q rest (a.put o.dst (.slice a1 (l ++ k).length cp)) w') : wpList Try.prog ops Q (o :: rest) a w := by
  obtain ⟨vs, hO, hL⟩ := hown
  obtain ⟨i0, hi, hz0, hz1, hz2⟩ := info_parts Try.infoT
  have hu : Try.prog.underlying 23 = some (.slice 25) := Try.underlying23
  rcases hk with ⟨rfl, rfl | ⟨ad, c, rfl⟩⟩ | ⟨h0, b, off, cp, ws, rfl, kk, kn, kv, ks⟩
  · refine wpList_append_own_none hgd s x 23 ho B 25 i0 3 hu hi _ l.length _ hs hO hx ?_
    have hr : RowP w0 B (l ++ []) v w := by rw [List.append_nil]; exact ⟨vs, hO, hL⟩
    obtain ⟨a1, c1, e⟩ := hr.shape
    have := h a1 c1 w (by rw [← e]; exact hr) (Below.refl _ _)
    rw [← e] at this
    exact this
  · refine wpList_append_own_at w hgd s x 23 ho B 25 i0 _ 3 40 hu hi hz0 hz1 hz2 rfl (by decide) _ l.length _ hs hO ad 0 c [] hx rfl (fun j u e => by simp at e) (fun u e => by cases e) (by unfold maxLen; simp at hn; omega) (by simp at hn; omega) hB ?_
    intro v' w' h1 h2 h3 h4
    have hb2 : Below B w w' := (Below.refl B w).grown h2 hB (fun k e => (hO.lt k e).1)
    have hA := rowp_app (k := []) (ws := fun _ => .slice none 0 0) hL (fun i h => absurd h (Nat.not_lt_zero _)) h1
    obtain ⟨a1, cp, hv⟩ := hA.shape
    rw [hv] at hA ⊢
    exact h a1 cp w' hA hb2
  · refine wpList_append_lies w hgd s x 23 ho B 25 i0 _ 3 40 hu hi hz0 hz1 hz2 rfl (by decide) _ l.length _ hs hO ⟨b, off, none⟩ k.length cp (cells3 k ws) hx (cells3_len k ws)
      (news3 kk kn kv) (one3 fun i hi => by obtain ⟨a, c, he⟩ := (ks i hi).shape; exact ⟨_, _, _, he⟩) h0 (by unfold maxLen; omega) (by omega) hB _ rfl ?_
    intro g cp1 w' h1 h2 h3 h4
    have hb2 : Below B w w' := (Below.refl B w).grown h2 hB (fun k e => (hO.lt k e).1)
    have hA := rowp_app hL ks h1
    have hlen : (l ++ k).length = l.length + k.length := List.length_append
    have hF := h (some ⟨g, 0, none⟩) cp1 w'
    rw [hlen] at hF
    exact hF hA hb2
/-- At the operation, for a region that draws its order. -/
theorem wp_append_rowp {o : Oper} {a : Act} {K : Act → World → Prop} {Q : Exit → Act → World → Prop} (s x : Operand)
    (ho : o.op = .call { callee := .builtin .append, args := #[s, x], argTypes := #[23, 23] })
    {w0 w : World} {B : Nat} {l k : List Tm} {v vk : Value} (hs : a.eval s = v) (hx : a.eval x = vk) (hn : l.length + k.length ≤ 4000000)
    (hown : RowP w0 B l v w) (hB : B ≤ w.heap.size) (hk : SrcP w0 w k vk)
    (h : ∀ a1 cp w', RowP w0 B (l ++ k) (.slice a1 (l ++ k).length cp) w' → Below B w w' → K (a.put o.dst (.slice a1 (l ++ k).length cp)) w') : o.wp Try.prog a w K Q := by
  obtain ⟨vs, hO, hL⟩ := hown
  obtain ⟨i0, hi, hz0, hz1, hz2⟩ := info_parts Try.infoT
  have hu : Try.prog.underlying 23 = some (.slice 25) := Try.underlying23
  rcases hk with ⟨rfl, rfl | ⟨ad, c, rfl⟩⟩ | ⟨h0, b, off, cp, ws, rfl, kk, kn, kv, ks⟩
  · have hrun := run_append_owned_none (P := Try.prog) (w := w) B 23 o.type 25 i0 3 hu hi v l.length _ hO
    unfold Oper.wp
    simp [execOp, ho, resolve, invoke, builtin, hs, hx, hrun, Result.andThen]
    have hr : RowP w0 B (l ++ []) v w := by rw [List.append_nil]; exact ⟨vs, hO, hL⟩
    obtain ⟨a1, c1, e⟩ := hr.shape
    have := h a1 c1 w (by rw [← e]; exact hr) (Below.refl _ _)
    rw [← e] at this
    exact this
  · obtain ⟨v', w', hr, h1, h2, h3, h4⟩ := run_append_own_at (P := Try.prog) w B 23 o.type 25 i0 _ 3 40 hu hi hz0 hz1 hz2 rfl (by decide) v l.length _ hO ad 0 c [] rfl (fun j u e => by simp at e) (fun u e => by cases e) (by unfold maxLen; simp at hn; omega) (by simp at hn; omega) hB
    unfold Oper.wp execOp
    simp only [ho, resolve, invoke, builtin, Sem.run_bind, Sem.run_pure, Result.andThen_ok, List.map_toArray, List.map_cons, List.map_nil, hs, hx, hr]
    have hb2 : Below B w w' := (Below.refl B w).grown h2 hB (fun k e => (hO.lt k e).1)
    have hA := rowp_app (k := []) (ws := fun _ => .slice none 0 0) hL (fun i h => absurd h (Nat.not_lt_zero _)) h1
    obtain ⟨a1, cp, hv⟩ := hA.shape
    rw [hv] at hA ⊢
    exact h a1 cp w' hA hb2
  · refine wp_append_lies w s x 23 ho B 25 i0 _ 3 40 hu hi hz0 hz1 hz2 rfl (by decide) _ l.length _ hs hO ⟨b, off, none⟩ k.length cp (cells3 k ws) hx (cells3_len k ws)
      (news3 kk kn kv) (one3 fun i hi => by obtain ⟨a, c, he⟩ := (ks i hi).shape; exact ⟨_, _, _, he⟩) h0 (by unfold maxLen; omega) (by omega) hB _ rfl ?_
    intro g cp1 w' h1 h2 h3 h4
    have hb2 : Below B w w' := (Below.refl B w).grown h2 hB (fun k e => (hO.lt k e).1)
    have hA := rowp_app hL ks h1
    have hlen : (l ++ k).length = l.length + k.length := List.length_append
    have hF := h (some ⟨g, 0, none⟩) cp1 w'
    rw [hlen] at hF
    exact hF hA hb2
end Go.Proofs.Ytggefpkfikimiaa
/- The page's Nat: its block, in new memory. No conditions. -/
namespace Go.Proofs.Ytggefpkfikimiaa
open Go.RowKit
set_option linter.unusedVariables false

def zT : Tm := .node 0 0 []
def natB : BlkT := ⟨[⟨[], 0, false, zT⟩], [⟨0, [], [], zT⟩, ⟨0, [⟨true, zT, [], 0, []⟩], [], zT⟩], 0⟩
set_option maxRecDepth 100000 in
set_option maxHeartbeats 1000000 in
theorem nrec_any (w : World) :
    Calls Try.prog 46 #[.int .i64 0, .slice none 0 0] w fun e w' => e = .returned (.agg #[.bool true, .int .i64 0, .int .i64 0, .slice none 0 0, .slice none 0 0, .int .i64 0, .slice none 0 0]) ∧ Below w.heap.size w w' := by
  have hb := Lib.hid (below_al w (.cells #[.bool false, .int .i64 0, .int .i64 0, .slice none 0 0, .slice none 0 0, .int .i64 0, .slice none 0 0] 38))
  go_enter Try.func46, Try.ntmps46
  go_wp2_with fail
  exact bodyPost_ret (v := .agg #[.bool true, .int .i64 0, .int .i64 0, .slice none 0 0, .slice none 0 0, .int .i64 0, .slice none 0 0]) (by simp [results, Try.f46, go_sem]) rfl ⟨rfl, below_al w _⟩
set_option maxRecDepth 100000 in
set_option maxHeartbeats 1000000 in
theorem ndecl_any (w : World) (vs vc : Value) (el : Int) (h1 : ∃ a n c, vs = .slice a n c) (h2 : ∃ a n c, vc = .slice a n c) :
    Calls Try.prog 45 #[.agg #[vs, vc, .int .i64 el]] w fun e w' => e = .returned (.agg #[.int .i64 3, .int .i64 0, .int .i64 0, .slice none 0 0, .int .i64 0, .int .i64 0, .slice none 0 0, vs, vc, .int .i64 el]) ∧ Below w.heap.size w w' := by
  obtain ⟨a1, n1, c1, rfl⟩ := h1
  obtain ⟨a2, n2, c2, rfl⟩ := h2
  go_enter Try.func45, Try.ntmps45
  go_wp2_with fail
  have hb1 := below_al w (.cells #[.slice a1 n1 c1, .slice a2 n2 c2, .int .i64 el] 33)
  exact bodyPost_ret (v := .agg #[.int .i64 3, .int .i64 0, .int .i64 0, .slice none 0 0, .int .i64 0, .int .i64 0, .slice none 0 0, .slice a1 n1 c1, .slice a2 n2 c2, .int .i64 el]) (by simp [results, Try.f45, go_sem]) rfl ⟨rfl, hb1.trans ((below_al _ _).mono hb1.size)⟩
theorem nat_at {W : World} {S A C : Nat} (hS : W.heap[S]? = some (.cells #[.slice none 0 0, .int .i64 0, .bool false, .int .i64 0, .int .i64 0, .slice none 0 0] 29)) (hA : W.heap[A]? = some (.cells #[.bool true, .int .i64 0, .int .i64 0, .slice none 0 0, .slice none 0 0, .int .i64 0, .slice none 0 0] 38)) (hC : W.heap[C]? = some (.cells #[.int .i64 0, .slice none 0 0, .slice none 0 0, .int .i64 0, .int .i64 0, .slice none 0 0, .int .i64 0, .slice (some ⟨A, 0, none⟩) 1 1, .slice none 0 0, .int .i64 0, .int .i64 0, .slice none 0 0] 35)) : BAt W natB (.slice (some ⟨S, 0, none⟩) 1 1) (.slice (some ⟨C, 0, none⟩) 2 2) := by
  have hAr : ARow W [⟨true, zT, [], 0, []⟩] (.slice (some ⟨A, 0, none⟩) 1 1) := by
    refine GAt.row [(⟨true, zT, [], 0, []⟩ : ArgT)] A 0 1 (fun _ => [.bool true, .int .i64 0, .int .i64 0, .slice none 0 0, .slice none 0 0, .int .i64 0, .slice none 0 0]) (by decide) (by decide) (by decide) (fun i hi => ?_) (fun i hi r hr => ?_)
    · obtain rfl : i = 0 := by simpa using hi
      exact ⟨⟨.slice none 0 0, .slice none 0 0, .slice none 0 0, rfl, .nl, .nl, .nl⟩, rfl⟩
    · obtain rfl : i = 0 := by simpa using hi
      simp [World.cell?, hA]
  refine ⟨?_, ?_⟩
  · refine GAt.row [(⟨[], 0, false, zT⟩ : SortT)] S 0 1 (fun _ => [.slice none 0 0, .int .i64 0, .bool false, .int .i64 0, .int .i64 0, .slice none 0 0]) (by decide) (by decide) (by decide) (fun i hi => ?_) (fun i hi r hr => ?_)
    · obtain rfl : i = 0 := by simpa using hi
      exact ⟨⟨.slice none 0 0, .slice none 0 0, rfl, .nl, .nl⟩, rfl⟩
    · obtain rfl : i = 0 := by simpa using hi
      simp [World.cell?, hS]
  · refine GAt.row [(⟨0, [], [], zT⟩ : ConT), ⟨0, [⟨true, zT, [], 0, []⟩], [], zT⟩] C 0 2 (fun i => if i = 0 then [.int .i64 0, .slice none 0 0, .slice none 0 0, .int .i64 0, .int .i64 0, .slice none 0 0] else [.int .i64 0, .slice (some ⟨A, 0, none⟩) 1 1, .slice none 0 0, .int .i64 0, .int .i64 0, .slice none 0 0]) (by decide) (by decide) (by decide) (fun i hi => ?_) (fun i hi r hr => ?_)
    · have h2 : i < 2 := hi
      have : i = 0 ∨ i = 1 := by omega
      rcases this with rfl | rfl
      · exact ⟨⟨.slice none 0 0, .slice none 0 0, .slice none 0 0, rfl, .nl, .nl, .nl⟩, rfl⟩
      · exact ⟨⟨.slice (some ⟨A, 0, none⟩) 1 1, .slice none 0 0, .slice none 0 0, rfl, hAr, .nl, .nl⟩, rfl⟩
    · have h2 : i < 2 := hi
      have : i = 0 ∨ i = 1 := by omega
      have hr6 : r = 0 ∨ r = 1 ∨ r = 2 ∨ r = 3 ∨ r = 4 ∨ r = 5 := by omega
      rcases this with rfl | rfl <;> rcases hr6 with rfl | rfl | rfl | rfl | rfl | rfl <;> simp [World.cell?, hC]
theorem below_store10 {W : World} {B D : Nat} (hD : D ≤ B) (x0 x1 x2 x3 x4 x5 x6 x7 x8 x9 : Value) : Below D W ((((((((((W.setCell ⟨B, 0, none⟩ x0).setCell ⟨B, 1, none⟩ x1).setCell ⟨B, 2, none⟩ x2).setCell ⟨B, 3, none⟩ x3).setCell ⟨B, 4, none⟩ x4).setCell ⟨B, 5, none⟩ x5).setCell ⟨B, 6, none⟩ x6).setCell ⟨B, 7, none⟩ x7).setCell ⟨B, 8, none⟩ x8).setCell ⟨B, 9, none⟩ x9) := (((((((((((Below.refl D W).setCell (p := ⟨B, 0, none⟩) hD x0).setCell (p := ⟨B, 1, none⟩) hD x1).setCell (p := ⟨B, 2, none⟩) hD x2).setCell (p := ⟨B, 3, none⟩) hD x3).setCell (p := ⟨B, 4, none⟩) hD x4).setCell (p := ⟨B, 5, none⟩) hD x5).setCell (p := ⟨B, 6, none⟩) hD x6).setCell (p := ⟨B, 7, none⟩) hD x7).setCell (p := ⟨B, 8, none⟩) hD x8).setCell (p := ⟨B, 9, none⟩) hD x9)
theorem other_store10 {W : World} {B b : Nat} (hb : b ≠ B) (x0 x1 x2 x3 x4 x5 x6 x7 x8 x9 : Value) : ((((((((((W.setCell ⟨B, 0, none⟩ x0).setCell ⟨B, 1, none⟩ x1).setCell ⟨B, 2, none⟩ x2).setCell ⟨B, 3, none⟩ x3).setCell ⟨B, 4, none⟩ x4).setCell ⟨B, 5, none⟩ x5).setCell ⟨B, 6, none⟩ x6).setCell ⟨B, 7, none⟩ x7).setCell ⟨B, 8, none⟩ x8).setCell ⟨B, 9, none⟩ x9).heap[b]? = W.heap[b]? := by
  rw [Below.heap_setCell _ _ _ _ (by simpa using hb), Below.heap_setCell _ _ _ _ (by simpa using hb), Below.heap_setCell _ _ _ _ (by simpa using hb), Below.heap_setCell _ _ _ _ (by simpa using hb), Below.heap_setCell _ _ _ _ (by simpa using hb), Below.heap_setCell _ _ _ _ (by simpa using hb), Below.heap_setCell _ _ _ _ (by simpa using hb), Below.heap_setCell _ _ _ _ (by simpa using hb), Below.heap_setCell _ _ _ _ (by simpa using hb), Below.heap_setCell _ _ _ _ (by simpa using hb)]
set_option maxRecDepth 100000 in
set_option maxHeartbeats 2000000 in
theorem nat_any (w : World) :
    Calls Try.prog 27 #[] w fun e w' => ∃ vs vc, e = .returned (.agg #[.int .i64 3, .int .i64 0, .int .i64 0, .slice none 0 0, .int .i64 0, .int .i64 0, .slice none 0 0, vs, vc, .int .i64 0]) ∧ BAt w' natB vs vc ∧ Below w.heap.size w w' := by
  have HR := Lib.hid (fun W => nrec_any W)
  have HD := Lib.hid (fun W vs vc h1 h2 => ndecl_any W vs vc 0 h1 h2)
  have b1 := below_al w (.cells #[.int .i64 0, .int .i64 0, .int .i64 0, .slice none 0 0, .int .i64 0, .int .i64 0, .slice none 0 0, .slice none 0 0, .slice none 0 0, .int .i64 0] 53)
  have b2 := below_al (w.alloc (.cells #[.int .i64 0, .int .i64 0, .int .i64 0, .slice none 0 0, .int .i64 0, .int .i64 0, .slice none 0 0, .slice none 0 0, .slice none 0 0, .int .i64 0] 53)) (.cells #[.slice none 0 0, .int .i64 0, .bool false, .int .i64 0, .int .i64 0, .slice none 0 0] 29)
  have hbD := Lib.hid ((b2.block w.heap.size (by simp)).trans (World.alloc_heap_new w (.cells #[.int .i64 0, .int .i64 0, .int .i64 0, .slice none 0 0, .int .i64 0, .int .i64 0, .slice none 0 0, .slice none 0 0, .slice none 0 0, .int .i64 0] 53)))
  have hbS := World.alloc_heap_new (w.alloc (.cells #[.int .i64 0, .int .i64 0, .int .i64 0, .slice none 0 0, .int .i64 0, .int .i64 0, .slice none 0 0, .slice none 0 0, .slice none 0 0, .int .i64 0] 53)) (.cells #[.slice none 0 0, .int .i64 0, .bool false, .int .i64 0, .int .i64 0, .slice none 0 0] 29)
  rw [World.size_alloc] at hbS
  have hbS := Lib.hid hbS
  have hb0 := Lib.hid (b1.trans (b2.mono b1.size))
  have hz0 := Lib.hid (show ((w.alloc (.cells #[.int .i64 0, .int .i64 0, .int .i64 0, .slice none 0 0, .int .i64 0, .int .i64 0, .slice none 0 0, .slice none 0 0, .slice none 0 0, .int .i64 0] 53)).alloc (.cells #[.slice none 0 0, .int .i64 0, .bool false, .int .i64 0, .int .i64 0, .slice none 0 0] 29)).heap.size = w.heap.size + 2 by simp)
  clear b1 b2
  go_enter Try.func27, Try.ntmps27
  go_wp2_with fail
  refine (HR.out _).mono ?_
  rintro e w1 ⟨rfl, hb1⟩
  have hD1 := Lib.hid ((hb1.block w.heap.size (by rw [hz0.out]; omega)).trans hbD.out)
  have hS1 := Lib.hid ((hb1.block (w.heap.size + 1) (by rw [hz0.out]; omega)).trans hbS.out)
  have hG1 := Lib.hid (hb0.out.trans (hb1.mono hb0.out.size))
  have hz1 := Lib.hid (show w.heap.size + 2 ≤ w1.heap.size by rw [← hz0.out]; exact hb1.size)
  clear hbD hbS hb0 hz0 hb1
  have c1 := below_al w1 (.cells #[.bool true, .int .i64 0, .int .i64 0, .slice none 0 0, .slice none 0 0, .int .i64 0, .slice none 0 0] 38)
  have c2 := below_al (w1.alloc (.cells #[.bool true, .int .i64 0, .int .i64 0, .slice none 0 0, .slice none 0 0, .int .i64 0, .slice none 0 0] 38)) (.cells #[.int .i64 0, .slice none 0 0, .slice none 0 0, .int .i64 0, .int .i64 0, .slice none 0 0, .int .i64 0, .slice (some ⟨w1.heap.size, 0, none⟩) 1 1, .slice none 0 0, .int .i64 0, .int .i64 0, .slice none 0 0] 35)
  have hA2 := Lib.hid ((c2.block w1.heap.size (by simp)).trans (World.alloc_heap_new w1 (.cells #[.bool true, .int .i64 0, .int .i64 0, .slice none 0 0, .slice none 0 0, .int .i64 0, .slice none 0 0] 38)))
  have hC2 := World.alloc_heap_new (w1.alloc (.cells #[.bool true, .int .i64 0, .int .i64 0, .slice none 0 0, .slice none 0 0, .int .i64 0, .slice none 0 0] 38)) (.cells #[.int .i64 0, .slice none 0 0, .slice none 0 0, .int .i64 0, .int .i64 0, .slice none 0 0, .int .i64 0, .slice (some ⟨w1.heap.size, 0, none⟩) 1 1, .slice none 0 0, .int .i64 0, .int .i64 0, .slice none 0 0] 35)
  rw [World.size_alloc] at hC2
  have hC2 := Lib.hid hC2
  have hc := Lib.hid (c1.trans (c2.mono c1.size))
  have hzc := Lib.hid (show ((w1.alloc (.cells #[.bool true, .int .i64 0, .int .i64 0, .slice none 0 0, .slice none 0 0, .int .i64 0, .slice none 0 0] 38)).alloc (.cells #[.int .i64 0, .slice none 0 0, .slice none 0 0, .int .i64 0, .int .i64 0, .slice none 0 0, .int .i64 0, .slice (some ⟨w1.heap.size, 0, none⟩) 1 1, .slice none 0 0, .int .i64 0, .int .i64 0, .slice none 0 0] 35)).heap.size = w1.heap.size + 2 by simp)
  clear c1 c2
  go_wp2_with fail
  refine (HD.out _ _ _ ⟨_, _, _, rfl⟩ ⟨_, _, _, rfl⟩).mono ?_
  rintro e w2 ⟨rfl, hb2⟩
  have hs1 := hz1.out
  have HD2 := Lib.hid ((hb2.block w.heap.size (by rw [hzc.out]; omega)).trans ((hc.out.block w.heap.size (by omega)).trans hD1.out))
  have HS2 := Lib.hid ((hb2.block (w.heap.size + 1) (by rw [hzc.out]; omega)).trans ((hc.out.block (w.heap.size + 1) (by omega)).trans hS1.out))
  have HA2 := Lib.hid ((hb2.block w1.heap.size (by rw [hzc.out]; omega)).trans hA2.out)
  have HC2 := Lib.hid ((hb2.block (w1.heap.size + 1) (by rw [hzc.out]; omega)).trans hC2.out)
  have G2 := Lib.hid ((hG1.out.trans (hc.out.mono hG1.out.size)).trans (hb2.mono (hG1.out.trans (hc.out.mono hG1.out.size)).size))
  clear hb2 hc hzc hA2 hC2 hD1 hS1 hG1 hz1 HR HD
  have z0 : w2.cell? ⟨w.heap.size, 0, none⟩ = some (.int .i64 0) := by simp [World.cell?, HD2.out]
  have y0 : w2.frozen? ⟨w.heap.size, 0, none⟩ = false := by simp [World.frozen?, HD2.out]
  have z1 : w2.cell? ⟨w.heap.size, 1, none⟩ = some (.int .i64 0) := by simp [World.cell?, HD2.out]
  have y1 : w2.frozen? ⟨w.heap.size, 1, none⟩ = false := by simp [World.frozen?, HD2.out]
  have z2 : w2.cell? ⟨w.heap.size, 2, none⟩ = some (.int .i64 0) := by simp [World.cell?, HD2.out]
  have y2 : w2.frozen? ⟨w.heap.size, 2, none⟩ = false := by simp [World.frozen?, HD2.out]
  have z3 : w2.cell? ⟨w.heap.size, 3, none⟩ = some (.slice none 0 0) := by simp [World.cell?, HD2.out]
  have y3 : w2.frozen? ⟨w.heap.size, 3, none⟩ = false := by simp [World.frozen?, HD2.out]
  have z4 : w2.cell? ⟨w.heap.size, 4, none⟩ = some (.int .i64 0) := by simp [World.cell?, HD2.out]
  have y4 : w2.frozen? ⟨w.heap.size, 4, none⟩ = false := by simp [World.frozen?, HD2.out]
  have z5 : w2.cell? ⟨w.heap.size, 5, none⟩ = some (.int .i64 0) := by simp [World.cell?, HD2.out]
  have y5 : w2.frozen? ⟨w.heap.size, 5, none⟩ = false := by simp [World.frozen?, HD2.out]
  have z6 : w2.cell? ⟨w.heap.size, 6, none⟩ = some (.slice none 0 0) := by simp [World.cell?, HD2.out]
  have y6 : w2.frozen? ⟨w.heap.size, 6, none⟩ = false := by simp [World.frozen?, HD2.out]
  have z7 : w2.cell? ⟨w.heap.size, 7, none⟩ = some (.slice none 0 0) := by simp [World.cell?, HD2.out]
  have y7 : w2.frozen? ⟨w.heap.size, 7, none⟩ = false := by simp [World.frozen?, HD2.out]
  have z8 : w2.cell? ⟨w.heap.size, 8, none⟩ = some (.slice none 0 0) := by simp [World.cell?, HD2.out]
  have y8 : w2.frozen? ⟨w.heap.size, 8, none⟩ = false := by simp [World.frozen?, HD2.out]
  have z9 : w2.cell? ⟨w.heap.size, 9, none⟩ = some (.int .i64 0) := by simp [World.cell?, HD2.out]
  have y9 : w2.frozen? ⟨w.heap.size, 9, none⟩ = false := by simp [World.frozen?, HD2.out]
  go_wp2_with fail
  exact bodyPost_ret (v := .agg #[.int .i64 3, .int .i64 0, .int .i64 0, .slice none 0 0, .int .i64 0, .int .i64 0, .slice none 0 0, .slice (some ⟨w.heap.size + 1, 0, none⟩) 1 1, .slice (some ⟨w1.heap.size + 1, 0, none⟩) 2 2, .int .i64 0]) (by simp [results, Try.f27, go_sem, z0, z1, z2, z3, z4, z5, z6, z7, z8, z9]) rfl
    ⟨_, _, rfl, nat_at ((other_store10 (by omega) _ _ _ _ _ _ _ _ _ _).trans HS2.out) ((other_store10 (by omega) _ _ _ _ _ _ _ _ _ _).trans HA2.out) ((other_store10 (by omega) _ _ _ _ _ _ _ _ _ _).trans HC2.out), G2.out.trans (below_store10 (Nat.le_refl _) _ _ _ _ _ _ _ _ _ _)⟩
end Go.Proofs.Ytggefpkfikimiaa
