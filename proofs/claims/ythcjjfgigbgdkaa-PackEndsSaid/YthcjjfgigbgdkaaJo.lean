/- The page's Join, and package porismkeep's Ints. -/
import Derived.Test.YthcjjfgigbgdkaaCt
import Derived.Test.YthcjjfgigbgdkaaCl
import Derived.Laws.AppendOwn
import Derived.Laws.AppendOwnNone
import Derived.OwnWalk
import Derived.Deep.AppendLies
import Derived.Laws.OwnMore
import Derived.Lib.SmallJoins
namespace Go.Proofs.Ythcjjfgigbgdkaa
open Go.RowKit Go Go.Joins
set_option linter.unusedVariables false

theorem wpList_append_own_gen {P : Program} {w : World} {ops : Array Oper} {rest : List Oper} {o : Oper} {a : Act} {Q : Exit → Act → World → Prop} (hgd : o.guard = none) (s x : Operand) (t : TypeId)
    (ho : o.op = .call { callee := .builtin .append, args := #[s, x], argTypes := #[t, t] })
    (base : Nat) (e : TypeId) (i : TypeInfo) (z : Value) (size bytes : Nat) (ht : P.underlying t = some (.slice e)) (hi : P.info? e = some i) (hz : i.zero = some z)
    (hsize : i.size = size) (hby : i.bytes = bytes) (hzs : z.cells.size = size) (hsz : 0 < size)
    (v : Value) (n : Nat) (xs : List Value) (hs : a.eval s = v) (hown : w.ownsRow base e size v n xs)
    (m : Nat) (news : List Value) (ao : Option Addr) (c : Nat) (hx : a.eval x = .slice ao m c) (hl : news.length = m * size) (hnone : ao = none → m = 0 ∧ c = 0)
    (hnews : ∀ ad, ao = some ad → ∀ j u, news[j]? = some u → w.cell? (ad.add j) = some u) (h1 : ∀ u ∈ news, u.oneCell' = true)
    (h63 : n + m ≤ maxLen) (hbytes : (n + m) * bytes ≤ 140737488355328) (hbase : base ≤ w.heap.size)
    (h : ∀ v' w', w'.ownsRow base e size v' (n + m) (xs ++ news) → w.grownBy w' v.ownBlock → wpList P ops Q rest (a.put o.dst v') w') : wpList P ops Q (o :: rest) a w := by
  cases ao with
  | some ad => exact wpList_append_own w hgd s x t ho base e i z size bytes ht hi hz hsize hby hzs hsz v n xs hs hown ad m c news hx hl (hnews ad rfl) h1 h63 hbytes hbase fun v' w' h2 h3 _ => h v' w' h2 h3
  | none =>
    obtain ⟨rfl, rfl⟩ := hnone rfl
    have hn : news = [] := List.eq_nil_of_length_eq_zero (by simpa using hl)
    subst hn
    subst hsize
    exact wpList_append_own_none hgd s x t ho base e i i.size ht hi v n xs hs hown hx (h v w (by simpa using hown) (World.grownBy.refl w _))

theorem Try.infoInt : (Try.prog.info? 3).map (fun i => (i.zero, i.size, i.bytes)) = some (some (.int .i64 0), 1, 8) := by kernel_rfl

theorem joinI_pre {l : List Int} {n : Int} {k : Nat} (h : ∀ x ∈ l.take k, x < n) : joinI l n = l.take k ++ joinI (l.drop k) n := by
  induction k generalizing l with
  | zero => simp
  | succ k ih =>
    cases l with
    | nil => simp
    | cons a l =>
      rw [List.take_succ_cons] at h ⊢
      rw [List.drop_succ_cons, List.cons_append, joinI, if_pos (h a List.mem_cons_self), ih fun x hx => h x (List.mem_cons_of_mem _ hx)]
theorem joinI_end {l : List Int} {n : Int} (h : ∀ x ∈ l.take l.length, x < n) : joinI l n = l ++ [n] := by
  rw [joinI_pre h, List.take_length, List.drop_length, joinI]
theorem joinI_has {l : List Int} {n : Int} {k : Nat} (h : ∀ x ∈ l.take k, x < n) (hk : k < l.length) (he : l[k] = n) : joinI l n = l := by
  rw [joinI_pre h, List.drop_eq_getElem_cons hk, joinI, he, if_neg (by omega), if_pos rfl]
  conv => rhs; rw [← List.take_append_drop k l, List.drop_eq_getElem_cons hk, he]
theorem joinI_mid {l : List Int} {n : Int} {k : Nat} (h : ∀ x ∈ l.take k, x < n) (hk : k < l.length) (he : n < l[k]) : joinI l n = (l.take k ++ [n]) ++ l.drop k := by
  rw [joinI_pre h, List.drop_eq_getElem_cons hk, joinI, if_neg (by omega), if_neg (by omega), List.append_assoc, List.singleton_append]

set_option maxRecDepth 100000 in
set_option maxHeartbeats 1600000 in
theorem join_any (l : List Int) (n : Int) (hl : l.length ≤ 1048576) (B : Nat) (w : World) (v : Value) (hB : B ≤ w.heap.size) (hO : w.ownsRow B 3 1 v l.length (l.map (Value.int .i64))) :
    Calls Try.prog 56 #[v, .int .i64 n] w fun e w' => ∃ v', e = .returned v' ∧ w'.ownsRow B 3 1 v' (joinI l n).length ((joinI l n).map (Value.int .i64)) ∧ Below w.heap.size w w' := by
  obtain ⟨ao, cap, rfl, hnone, hcell⟩ : ∃ ao cap, v = .slice ao l.length cap ∧ (ao = none → l.length = 0 ∧ cap = 0) ∧ (l.length ≤ cap ∧ ∀ i (_ : i < l.length), ∃ g, ao = some ⟨g, 0, none⟩ ∧ w.cell? ⟨g, i, none⟩ = some (.int .i64 l[i])) := by
    rcases hO.2 with ⟨rfl, h0⟩ | ⟨g, cap, cur, rfl, hb, hg, h1, h2, h3, htake⟩
    · exact ⟨none, 0, by rw [h0], fun _ => ⟨h0, rfl⟩, by omega, fun i hi => by omega⟩
    · refine ⟨_, cap, rfl, (fun h => by cases h), h1, fun i hi => ⟨g, rfl, ?_⟩⟩
      rw [hO.cellAt i (by omega)]
      simp [hi]
  obtain ⟨hlc, hcell⟩ := hcell
  have HG : Hid (ao = none ∨ ∃ g, ao = some ⟨g, 0, none⟩) := by
    rcases hO.2 with ⟨h, _⟩ | ⟨g, cap2, cur, h, _⟩
    · simp only [Value.slice.injEq] at h; exact .inl h.1
    · simp only [Value.slice.injEq] at h; exact .inr ⟨g, h.1⟩
  have HO := Lib.hid hO
  have HN := Lib.hid hnone
  have HC := Lib.hid hcell
  clear hO hnone hcell
  go_enter Try.func56, Try.ntmps56
  go_wp2_with fail
  go_loop [5] (fun i => ∃ k : Nat, k ≤ l.length ∧ i = .int .i64 k ∧ Hid (∀ x ∈ l.take k, x < n)) (fun i => l.length - (RowKit.intOf i).toNat)
  case atStart => exact ⟨0, Nat.zero_le _, rfl, Lib.hid (by simp)⟩
  case round =>
    obtain ⟨k, hk, rfl, hlo⟩ := hrel
    by_cases hlt : k < l.length
    · obtain ⟨g, rfl, hc⟩ := HC.out k hlt
      obtain ⟨x, hx⟩ : ∃ x : Int, l[k] = x := ⟨_, rfl⟩
      rw [hx] at hc
      have hk1 : (k : Int) < (l.length : Int) := by omega
      have hk0 : (0 : Int) ≤ (k : Int) := by omega
      by_cases hxn : x < n
      · have HT : Hid (∀ y ∈ l.take (k + 1), y < n) := fun y hy => by
          rw [List.take_succ_eq_append_getElem hlt, List.mem_append, List.mem_singleton, hx] at hy
          rcases hy with hy | rfl
          · exact hlo.out y hy
          · exact hxn
        clear hx
        go_wp2_with fail
        go_round
        case rel => exact ⟨k + 1, by omega, by go_num, HT⟩
        case measure => simp [RowKit.intOf]; omega
      · have hxn1 : decide (x < n) = false := decide_eq_false hxn
        by_cases hxe : x = n
        · subst hxe
          have HE := Lib.hid (joinI_has hlo.out hlt hx)
          clear hx
          go_wp2_with fail
          go_ret
          exact ⟨_, rfl, by rw [HE.out]; exact HO.out, Below.refl _ _⟩
        · have hxe1 : (x == n) = false := by simpa using hxe
          have HE := Lib.hid (joinI_mid hlo.out hlt (by omega))
          have hm0 : 0 + k ≤ maxLen := by unfold maxLen; omega
          have hm1 : (0 + k) * 8 ≤ 140737488355328 := by omega
          have hm2 : 0 + k + 1 ≤ maxLen := by unfold maxLen; omega
          have hm3 : (0 + k + 1) * 8 ≤ 140737488355328 := by omega
          have hm4 : 0 + k + 1 + (l.length - k) ≤ maxLen := by unfold maxLen; omega
          have hm5 : (0 + k + 1 + (l.length - k)) * 8 ≤ 140737488355328 := by omega
          obtain ⟨i0, hi, hz0, hz1, hz2⟩ := info_parts Try.infoInt
          clear hx
          have hsrc0 : ∀ j u, (l.map (Value.int .i64))[j]? = some u → w.cell? ⟨g, j, none⟩ = some u := fun j u hu => by
            rw [HO.out.cellAt j (by have := (List.getElem?_eq_some_iff.1 hu).1; simp at this; omega)]
            exact hu
          have HSRC := Lib.hid hsrc0
          clear hsrc0
          go_wp2_with (first
            | (at_builtin; refine wpList_append_own_gen rfl (.tmp 34) (.tmp 37) 33 rfl w.heap.size 3 i0 _ 1 8 Try.underlying33 hi hz0 hz1 hz2 rfl (by decide) _ 0 [] rfl (World.ownsRow_nil _ _ _ _) (k) ((l.take k).map (Value.int .i64)) _ _ rfl (by simp; try omega) ?_ ?_ (ints_oneCell _ _) hm0 hm1 (Nat.le_refl _) ?_; rotate_left 2; intro v1 w1 hown1 hgrow1)
            | (at_builtin; refine wpList_append_own_gen rfl (.tmp 38) (.tmp 40) 33 rfl w.heap.size 3 i0 _ 1 8 Try.underlying33 hi hz0 hz1 hz2 rfl (by decide) _ (0 + k) _ rfl (hown1.alloc _) 1 [Value.int .i64 n] _ _ rfl rfl ?_ ?_ (by simp [Value.oneCell']) hm2 hm3 (by have := hgrow1.size; simp; omega) ?_; rotate_left 2; intro v2 w2 hown2 hgrow2)
            | (at_builtin; refine wpList_append_own_gen rfl (.tmp 42) (.tmp 45) 33 rfl w.heap.size 3 i0 _ 1 8 Try.underlying33 hi hz0 hz1 hz2 rfl (by decide) _ (0 + k + 1) _ rfl hown2 (l.length - k) ((l.drop k).map (Value.int .i64)) _ _ rfl (by simp) ?_ ?_ (ints_oneCell _ _) hm4 hm5 (by have := hgrow1.size; have := hgrow2.size; simp at this; omega) ?_; rotate_left 2; intro v3 w3 hown3 hgrow3))
          · have hb1 : Below w.heap.size w w1 := (Below.refl _ w).grown hgrow1 (Nat.le_refl _) (fun k hk => by cases hk)
            have hb2 : Below w.heap.size w w2 := (hb1.alloc hb1.size _).grown hgrow2 (by have := hb1.size; simp; omega) (fun k hk => (hown1.lt k hk).1)
            have hb3 : Below w.heap.size w w3 := hb2.grown hgrow3 hb2.size (fun k hk => (hown2.lt k hk).1)
            have e1 : [] ++ (l.take k).map (Value.int .i64) ++ [Value.int .i64 n] ++ (l.drop k).map (Value.int .i64) = (joinI l n).map (Value.int .i64) := by rw [HE.out]; simp
            have e2 : 0 + k + 1 + (l.length - k) = (joinI l n).length := by rw [HE.out]; simp; try omega
            rw [e1, e2] at hown3
            go_ret
            exact ⟨_, rfl, ownsRow_le hown3 hB, hb3⟩
          · intro j a ha
            have h1 := HSRC.out (k + j) (.int .i64 a) (by simp [ha])
            have hb1 : Below w.heap.size w w1 := (Below.refl _ w).grown hgrow1 (Nat.le_refl _) (fun k hk => by cases hk)
            have hb2 : Below w.heap.size w w2 := (hb1.alloc hb1.size _).grown hgrow2 (by have := hb1.size; simp; omega) (fun k hk => (hown1.lt k hk).1)
            rw [hb2.cell (World.block_lt_of_cell? w _ h1)]
            exact h1
          · intro j u hu
            rw [List.getElem?_take] at hu
            split at hu
            · exact HSRC.out j u hu
            · cases hu
    · obtain rfl : k = l.length := by omega
      have hlt1 : decide ((l.length : Int) < (l.length : Int)) = false := by simp
      have HE := Lib.hid (joinI_end hlo.out)
      obtain ⟨i0, hi, hz0, hz1, hz2⟩ := info_parts Try.infoInt
      have hm0 : 0 + l.length ≤ maxLen := by unfold maxLen; omega
      have hm1 : (0 + l.length) * 8 ≤ 140737488355328 := by omega
      have hm2 : 0 + l.length + 1 ≤ maxLen := by unfold maxLen; omega
      have hm3 : (0 + l.length + 1) * 8 ≤ 140737488355328 := by omega
      have hm4 : 0 + l.length + 1 + 0 ≤ maxLen := by unfold maxLen; omega
      have hm5 : (0 + l.length + 1 + 0) * 8 ≤ 140737488355328 := by omega
      rcases HG.out with hg | ⟨g, hg⟩
      · obtain ⟨h0, rfl⟩ := HN.out hg
        subst hg
        obtain rfl : l = [] := List.eq_nil_of_length_eq_zero h0
        have hE0 : joinI [] n = [n] := rfl
        simp only [List.length_nil] at *
        go_wp2_with (first
          | (at_builtin; refine wpList_append_own_gen rfl (.tmp 34) (.tmp 37) 33 rfl w.heap.size 3 i0 _ 1 8 Try.underlying33 hi hz0 hz1 hz2 rfl (by decide) _ 0 [] rfl (World.ownsRow_nil _ _ _ _) 0 [] none 0 rfl rfl ?_ ?_ (by simp) hm0 hm1 (Nat.le_refl _) ?_; rotate_left 2; intro v1 w1 hown1 hgrow1)
          | (at_builtin; refine wpList_append_own_gen rfl (.tmp 38) (.tmp 40) 33 rfl w.heap.size 3 i0 _ 1 8 Try.underlying33 hi hz0 hz1 hz2 rfl (by decide) _ (0 + 0) _ rfl (hown1.alloc _) 1 [Value.int .i64 n] _ _ rfl rfl ?_ ?_ (by simp [Value.oneCell']) hm2 hm3 (by have := hgrow1.size; simp; omega) ?_; rotate_left 2; intro v2 w2 hown2 hgrow2)
          | (at_builtin; refine wpList_append_own_gen rfl (.tmp 42) (.tmp 45) 33 rfl w.heap.size 3 i0 _ 1 8 Try.underlying33 hi hz0 hz1 hz2 rfl (by decide) _ (0 + 0 + 1) _ rfl hown2 0 [] none 0 rfl (by simp) ?_ ?_ (by simp) hm4 hm5 (by have := hgrow1.size; have := hgrow2.size; simp at this; omega) ?_; rotate_left 2; intro v3 w3 hown3 hgrow3))
        all_goals first
          | (intro ad h; cases h; done)
          | (intro h; cases h; done)
          | (intro ad h; cases h; exact World.news_of_block (cs := #[.int .i64 n]) (World.alloc_heap_new w1 _))
          | (have hb1 : Below w.heap.size w w1 := (Below.refl _ w).grown hgrow1 (Nat.le_refl _) (fun k hk => by cases hk)
             have hb2 : Below w.heap.size w w2 := (hb1.alloc hb1.size _).grown hgrow2 (by have := hb1.size; simp; omega) (fun k hk => (hown1.lt k hk).1)
             have hb3 : Below w.heap.size w w3 := hb2.grown hgrow3 hb2.size (fun k hk => (hown2.lt k hk).1)
             have e1 : [] ++ [] ++ [Value.int .i64 n] ++ [] = (joinI [] n).map (Value.int .i64) := by rw [HE.out]; simp
             have e2 : 0 + 0 + 1 + 0 = (joinI [] n).length := by rw [HE.out]; simp; try omega
             rw [e1, e2] at hown3
             go_ret
             exact ⟨_, rfl, ownsRow_le hown3 hB, hb3⟩)
      · obtain rfl : ao = some ⟨g, 0, none⟩ := hg
        have hsrc0 : ∀ j u, (l.map (Value.int .i64))[j]? = some u → w.cell? ⟨g, j, none⟩ = some u := fun j u hu => by
          rw [HO.out.cellAt j (by have := (List.getElem?_eq_some_iff.1 hu).1; simp at this; omega)]
          exact hu
        have HSRC := Lib.hid hsrc0
        clear hsrc0
        go_wp2_with (first
          | (at_builtin; refine wpList_append_own_gen rfl (.tmp 34) (.tmp 37) 33 rfl w.heap.size 3 i0 _ 1 8 Try.underlying33 hi hz0 hz1 hz2 rfl (by decide) _ 0 [] rfl (World.ownsRow_nil _ _ _ _) (l.length) (l.map (Value.int .i64)) _ _ rfl (by simp; try omega) ?_ ?_ (ints_oneCell _ _) hm0 hm1 (Nat.le_refl _) ?_; rotate_left 2; intro v1 w1 hown1 hgrow1)
          | (at_builtin; refine wpList_append_own_gen rfl (.tmp 38) (.tmp 40) 33 rfl w.heap.size 3 i0 _ 1 8 Try.underlying33 hi hz0 hz1 hz2 rfl (by decide) _ (0 + l.length) _ rfl (hown1.alloc _) 1 [Value.int .i64 n] _ _ rfl rfl ?_ ?_ (by simp [Value.oneCell']) hm2 hm3 (by have := hgrow1.size; simp; omega) ?_; rotate_left 2; intro v2 w2 hown2 hgrow2)
          | (at_builtin; refine wpList_append_own_gen rfl (.tmp 42) (.tmp 45) 33 rfl w.heap.size 3 i0 _ 1 8 Try.underlying33 hi hz0 hz1 hz2 rfl (by decide) _ (0 + l.length + 1) _ rfl hown2 (0) ([]) _ _ rfl (by simp) ?_ ?_ (by simp) hm4 hm5 (by have := hgrow1.size; have := hgrow2.size; simp at this; omega) ?_; rotate_left 2; intro v3 w3 hown3 hgrow3))
        all_goals first
          | (intro j a ha
             exact HSRC.out j _ (by simp [ha]))
          | (have hb1 : Below w.heap.size w w1 := (Below.refl _ w).grown hgrow1 (Nat.le_refl _) (fun k hk => by cases hk)
             have hb2 : Below w.heap.size w w2 := (hb1.alloc hb1.size _).grown hgrow2 (by have := hb1.size; simp; omega) (fun k hk => (hown1.lt k hk).1)
             have hb3 : Below w.heap.size w w3 := hb2.grown hgrow3 hb2.size (fun k hk => (hown2.lt k hk).1)
             have e1 : [] ++ l.map (Value.int .i64) ++ [Value.int .i64 n] ++ [] = (joinI l n).map (Value.int .i64) := by rw [HE.out]; simp
             have e2 : 0 + l.length + 1 + 0 = (joinI l n).length := by rw [HE.out]; simp; try omega
             rw [e1, e2] at hown3
             go_ret
             exact ⟨_, rfl, ownsRow_le hown3 hB, hb3⟩)
end Go.Proofs.Ythcjjfgigbgdkaa
