/- The page's Vars, Unspine, Unpis. -/
import Derived.Test.YtblebboamopffaaUj
import Derived.Deep.AppendLies
import Derived.OneCell
import Derived.Deep.DrawnRows
import Derived.Deep.RegionLaw
import Derived.Deep.DeepCutAuto
import Derived.Lib.SmallJoins
namespace Go.Proofs.Ytblebboamopffaa
open Go.RowKit
set_option linter.unusedVariables false

/-- A row of variables that the call appended to. -/
def VRow6 (B N j : Nat) (v : Value) (w : World) : Prop := w.ownsRow B 24 3 v j (cells3 (varsT N j) (fun _ => .slice none 0 0))
theorem VRow6.bel {B N j : Nat} {v : Value} {w w' : World} (h : VRow6 B N j v w) (hb : Below w.heap.size w w') : VRow6 B N j v w' :=
  World.ownsRow.kept (row := none) h ⟨hb.os, hb.tape, hb.output, hb.size, fun k hk _ => hb.block k hk⟩ (by cases v.ownBlock <;> simp)
theorem VRow6.at {B N j : Nat} {v : Value} {w : World} (h : VRow6 B N j v w) : At w (varsT N j) v := by
  have h2 : w.ownsRow B 24 3 v (varsT N j).length (cells3 (varsT N j) (fun _ => .slice none 0 0)) := by rw [varsT_length]; exact h
  refine (ats_of_row (S := fun _ => True) h2 (fun _ _ => trivial) fun i hi => ?_).at
  have : (varsT N j)[i].kids = [] := by simp [varsT, Tm.kids]
  rw [this]
  exact .nl
theorem vrow6_next {N j : Nat} : cells3 (varsT N (j + 1)) (fun _ => .slice none 0 0) = cells3 (varsT N j) (fun _ => .slice none 0 0) ++ [.int .i64 1, .int .i64 ((N : Int) - 1 - j), .slice none 0 0] := by
  rw [varsT_succ, cells3_snoc _ _ _ _ (fun _ _ => rfl)]; rfl
set_option maxRecDepth 100000 in
set_option maxHeartbeats 2000000 in
theorem rvars_any (n : Int) (h1 : -60000 ≤ n) (h2 : n ≤ 60000) (w : World) :
    Calls Try.prog 25 #[.int .i64 n] w fun e w' => ∃ a cap, e = .returned (.slice a (varsL n).length cap) ∧ At w' (varsL n) (.slice a (varsL n).length cap) ∧ Below w.heap.size w w' := by
  obtain ⟨N, hN⟩ : ∃ N : Nat, N = n.toNat := ⟨_, rfl⟩
  have hL : varsL n = varsT N N := by
    by_cases h : 1 ≤ n
    · rw [hN, ← varsL_nat (by omega), Int.toNat_of_nonneg (by omega)]
    · rw [varsL_out (by omega)]
      obtain rfl : N = 0 := by omega
      rfl
  rw [hL, varsT_length]
  have hd1 : n ≤ (N : Int) := by omega
  have hd2 : (N : Int) ≤ n ∨ N < 1 := by omega
  clear hL hN
  have hw0 : IntKind.i64.wrap (n - 1) = n - 1 := IntWalk.i64_in _ (by omega)
  have hn : n ≤ 65536 := by omega
  go_enter Try.func25, Try.ntmps25
  go_wp2_with fail
  go_loopw [3, 4] (fun s i wr => ∃ (j : Nat) (aK : Option Addr) (cK : Nat), j ≤ N ∧ i = .int .i64 (n - 1 - j) ∧ s = .slice aK j cK ∧ VRow6 w.heap.size N j (.slice aK j cK) wr ∧ Below w.heap.size w wr) (fun _ i _ => (RowKit.intOf i + 1).toNat)
  case atStart => exact ⟨0, none, 0, Nat.zero_le _, by simp, rfl, World.ownsRow_nil _ _ _ _, Below.refl _ _⟩
  case round =>
    obtain ⟨j, aK, cK, hj, rfl, rfl, hV, hbr⟩ := hrel
    have HV := Lib.hid hV
    have HBR := Lib.hid hbr
    have hzr := hbr.size
    have hol := hV.lt
    clear hV hbr
    by_cases hlt : j < N
    · have hnN : n = (N : Int) := by omega
      subst hnN
      have hij : (0 : Int) ≤ (N : Int) - 1 - j := by omega
      have hw1 : IntKind.i64.wrap ((N : Int) - 1 - j - 1) = (N : Int) - 1 - ((j + 1 : Nat) : Int) := by rw [IntWalk.i64_in _ (by omega)]; omega
      have HVV := Lib.hid (v_any ((N : Int) - 1 - j) wr)
      have hm1 : j + 1 ≤ maxLen := by unfold maxLen; omega
      have hm2 : (j + 1) * 40 ≤ 140737488355328 := by omega
      obtain ⟨i0, hi, hz0, hz1, hz2⟩ := info_parts Try.infoT
      go_wp2_with fail
      refine HVV.out.mono ?_
      rintro e w5 ⟨rfl, hb5⟩
      have HV5 := Lib.hid (HV.out.bel hb5)
      have HB5 := Lib.hid (HBR.out.trans (hb5.mono HBR.out.size))
      have hz5 := hb5.size
      have HOL : Hid (∀ b, (Value.slice aK j cK).ownBlock = some b → w.heap.size ≤ b) := fun b hb => (hol b hb).1
      clear hb5 HVV HV hol
      go_wp2_with (at_builtin; refine wpList_append_lies _ rfl (.tmp 15) (.tmp 18) 22 rfl w.heap.size 24 i0 _ 3 40 Try.underlying22 hi hz0 hz1 hz2 rfl (by decide) (.slice aK j cK) _ _ rfl ((show w5.ownsRow w.heap.size 24 3 (.slice aK j cK) j (cells3 (varsT N j) (fun _ => .slice none 0 0)) from HV5.out).alloc _) ⟨w5.heap.size, 0, none⟩ 1 1 [.int .i64 1, .int .i64 ((N : Int) - 1 - j), .slice none 0 0] rfl rfl (by have := World.news_of_block (World.alloc_heap_new w5 (.cells #[.int .i64 1, .int .i64 ((N : Int) - 1 - j), .slice none 0 0] 24)); simpa using this) (by simp [Value.oneCell']) (by decide) hm1 hm2 (by simp; omega) (w5.heap.size + 1) (by simp) ?_; intro g cp' w7 hown7 hgrow7 hat7 hlt7)
      have HV7 : Hid (VRow6 w.heap.size N (j + 1) (.slice (some ⟨g, 0, none⟩) (j + 1) cp') w7) := by
        unfold Hid VRow6
        rw [vrow6_next]
        exact hown7
      have HB7 := Lib.hid ((HB5.out.alloc (by omega) (.cells #[.int .i64 1, .int .i64 ((N : Int) - 1 - j), .slice none 0 0] 24)).grown hgrow7 (by simp; omega) HOL.out)
      clear hown7 hgrow7 hat7 hlt7
      go_wp2_with fail
      go_roundw
      case rel => exact ⟨j + 1, some ⟨g, 0, none⟩, cp', by omega, by rw [show ((j + 1 : Nat) : Int) = (j : Int) + 1 by omega], rfl, HV7.out, HB7.out⟩
      case measure => simp [RowKit.intOf] <;> omega
    · obtain rfl : N = j := by omega
      have e1 : n - 1 - (N : Int) < 0 := by omega
      have hhv := HV.out.at
      go_wp2_with fail
      go_ret
      exact ⟨aK, cK, rfl, hhv, HBR.out⟩
/-- A row of terms of the call's own, whose Kids lie beside it, from a block on. -/
def RowO (B : Nat) (L : List Tm) (v : Value) (w : World) : Prop := ∃ vs, w.ownsRow B 24 3 v L.length (cells3 L vs) ∧ ∀ i (_ : i < L.length), AtS (fun b => B ≤ b ∧ b < w.heap.size ∧ some b ≠ v.ownBlock) w L[i].kids (vs i)
theorem RowO.start (B : Nat) (w : World) : RowO B [] (.slice none 0 0) w := ⟨fun _ => .slice none 0 0, World.ownsRow_nil _ _ _ _, fun i hi => absurd hi (Nat.not_lt_zero _)⟩
theorem RowO.keep {B : Nat} {L : List Tm} {v : Value} {w w' : World} (h : RowO B L v w) (hb : Below w.heap.size w w') : RowO B L v w' := by
  obtain ⟨vs, h2, h3⟩ := h
  exact ⟨vs, h2.kept (row := none) ⟨hb.os, hb.tape, hb.output, hb.size, fun k hk _ => hb.block k hk⟩ (by cases v.ownBlock <;> simp), fun i hi => (h3 i hi).same fun b hb' => ⟨⟨hb'.1, Nat.lt_of_lt_of_le hb'.2.1 hb.size, hb'.2.2⟩, hb.block b hb'.2.1⟩⟩
theorem RowO.from {B D : Nat} {L : List Tm} {v : Value} {w : World} (h : RowO B L v w) (hD : D ≤ B) : RowO D L v w := by
  obtain ⟨vs, h2, h3⟩ := h
  exact ⟨vs, ⟨h2.1, h2.2.imp_right fun ⟨g, cap, cur, e1, e2, e3⟩ => ⟨g, cap, cur, e1, Nat.le_trans hD e2, e3⟩⟩, fun i hi => (h3 i hi).same fun b hb => ⟨⟨Nat.le_trans hD hb.1, hb.2⟩, rfl⟩⟩
theorem RowO.put {B C : Nat} {L : List Tm} {v : Value} {w : World} {x y z : Value} (h : RowO B L v w) (hC : C < B) : RowO B L v (((w.setCell ⟨C, 0, none⟩ x).setCell ⟨C, 1, none⟩ y).setCell ⟨C, 2, none⟩ z) := by
  obtain ⟨vs, h2, h3⟩ := h
  have hne : v.ownBlock ≠ some C := fun e => by have := (h2.lt C e).1; omega
  exact ⟨vs, ownsRow_setCell_other (ownsRow_setCell_other (ownsRow_setCell_other h2 (a := ⟨C, 0, none⟩) hne x) (a := ⟨C, 1, none⟩) hne y) (a := ⟨C, 2, none⟩) hne z, fun i hi => (h3 i hi).same fun b hb => ⟨⟨hb.1, by simpa using hb.2.1, hb.2.2⟩, other_store3 (by omega) _ _ _⟩⟩
theorem RowO.ats {B : Nat} {L : List Tm} {v : Value} {w : World} (h : RowO B L v w) : AtS (fun b => B ≤ b ∧ b < w.heap.size) w L v := by
  obtain ⟨vs, h2, h3⟩ := h
  exact ats_of_row h2 (fun b hb => h2.lt b hb) fun i hi => (h3 i hi).same fun b hb => ⟨⟨hb.1, hb.2.1⟩, rfl⟩
/-- What lies beside the row lies so behind an append. -/
theorem rowo_beside {w w7 : World} {B g : Nat} {v : Value} {n cap : Nat} (hgrow : w.grownBy w7 v.ownBlock) (hat : v.ownBlock = some g ∨ g = w.heap.size) {l : List Tm} {x : Value} (h : AtS (fun b => B ≤ b ∧ b < w.heap.size ∧ some b ≠ v.ownBlock) w l x) :
    AtS (fun b => B ≤ b ∧ b < w7.heap.size ∧ some b ≠ (Value.slice (some ⟨g, 0, none⟩) n cap).ownBlock) w7 l x :=
  h.same fun b ⟨q1, q2, q3⟩ => ⟨⟨q1, Nat.lt_of_lt_of_le q2 hgrow.size, fun e => by
    have e2 : some b = some g := e
    cases e2
    rcases hat with h | h
    · exact q3 h.symm
    · omega⟩, hgrow.block b q2 q3⟩
theorem rowo_step {w w7 : World} {B g cap cu : Nat} {L : List Tm} {u : Tm} {v : Value} {vs : Nat → Value} {au : Option Addr}
    (hats : ∀ i (_ : i < L.length), AtS (fun b => B ≤ b ∧ b < w.heap.size ∧ some b ≠ v.ownBlock) w L[i].kids (vs i))
    (hu : AtS (fun b => B ≤ b ∧ b < w.heap.size ∧ some b ≠ v.ownBlock) w u.kids (.slice au u.kids.length cu))
    (hown7 : w7.ownsRow B 24 3 (.slice (some ⟨g, 0, none⟩) (L.length + 1) cap) (L.length + 1) (cells3 L vs ++ [.int .i64 u.k, .int .i64 u.n, .slice au u.kids.length cu]))
    (hgrow : w.grownBy w7 v.ownBlock) (hat : v.ownBlock = some g ∨ g = w.heap.size) : RowO B (L ++ [u]) (.slice (some ⟨g, 0, none⟩) (L ++ [u]).length cap) w7 := by
  have hlen : (L ++ [u]).length = L.length + 1 := by simp
  refine ⟨fun i => if i < L.length then vs i else .slice au u.kids.length cu, ?_, fun i hi => ?_⟩
  · rw [hlen, cells3_snoc L u vs _ (fun i hi => by rw [if_pos hi]), if_neg (by omega)]
    exact hown7
  · by_cases hil : i < L.length
    · simp only [if_pos hil]
      rw [List.getElem_append_left hil]
      exact rowo_beside hgrow hat (hats i hil)
    · obtain rfl : i = L.length := by omega
      simp only [if_neg hil]
      rw [List.getElem_append_right (Nat.le_refl _)]
      simp only [Nat.sub_self, List.getElem_singleton]
      exact rowo_beside hgrow hat hu
theorem below_drew6 (w : World) : Below w.heap.size w w.drew := ⟨rfl, rfl, rfl, Nat.le_refl _, fun _ _ => rfl⟩
def UnsPost (w : World) (f : Tm) (X : List Tm) (e : Ending) (w' : World) : Prop := ∃ a c a2 c2, e = .returned (.tuple #[.agg #[.int .i64 f.k, .int .i64 f.n, .slice a f.kids.length c], .slice a2 X.length c2]) ∧
  AtS (fun b => w.heap.size ≤ b ∧ b < w'.heap.size ∧ some b ≠ (Value.slice a2 X.length c2).ownBlock) w' f.kids (.slice a f.kids.length c) ∧ RowO w.heap.size X (.slice a2 X.length c2) w' ∧ Below w.heap.size w w'
set_option maxRecDepth 100000 in
set_option maxHeartbeats 2000000 in
theorem runspine_no (t : Tm) (hs : size t ≤ 1048576) (h : ¬ (t.k = 6 ∧ t.kids.length = 2)) (w : World) (v : Value) (hA : At w t.kids v) :
    Calls Try.prog 17 #[.agg #[.int .i64 t.k, .int .i64 t.n, v]] w (UnsPost w t []) := by
  obtain ⟨a1, c1, rfl⟩ := hA.shape
  have hO := one_start w t _ hA
  have hb1 := below_al (w.alloc (.cells #[.int .i64 t.k, .int .i64 t.n, .slice a1 t.kids.length c1] 24)) (.cells #[.int .i64 0, .int .i64 0, .slice none 0 0] 24)
  have O1 := Lib.hid (hO.bel hb1)
  have Z1 := Lib.hid (World.alloc_heap_new (w.alloc (.cells #[.int .i64 t.k, .int .i64 t.n, .slice a1 t.kids.length c1] 24)) (.cells #[.int .i64 0, .int .i64 0, .slice none 0 0] 24))
  have HT := Lib.hid (fun W v hA => c_twin t hs W v hA)
  clear hA hO hb1
  go_enter Try.func17, Try.ntmps17
  obtain ⟨⟨x0, x1, x2⟩, _⟩ := O1.out
  have hk : t.k ≠ 6 ∨ (t.k = 6 ∧ t.kids.length ≠ 2) := by omega
  have fin : ∀ w1 a2 c2, w1.heap[w.heap.size + 1]? = some (.cells #[.int .i64 0, .int .i64 0, .slice none 0 0] 24 (0, 0)) → Below w.heap.size w w1 → AtS (fun b => w.heap.size + 1 + 1 ≤ b ∧ b < w1.heap.size) w1 t.kids (.slice a2 t.kids.length c2) →
      UnsPost w t [] (.returned (.tuple #[.agg #[.int .i64 t.k, .int .i64 t.n, .slice a2 t.kids.length c2], .slice none 0 0])) (put3 w1 (w.heap.size + 1) t (.slice a2 t.kids.length c2)) := fun w1 a2 c2 h1 h2 h3 =>
    ⟨a2, c2, none, 0, rfl, h3.same fun b hb => ⟨⟨by omega, by simpa using hb.2, by simp [Value.ownBlock]⟩, other_store3 (by omega) _ _ _⟩, RowO.start _ _, h2.trans (below_store3 (by omega) _ _ _)⟩
  have FIN := Lib.hid fin
  clear fin
  rcases hk with hk | hk
  · have k1 : (t.k != 6) = true := by simpa using hk
    clear h hk
    go_wp2_with fail
    refine (HT.out _ _ O1.out.2.1).mono ?_
    rintro e w1 ⟨a2, c2, rfl, hS2, _, hb2⟩
    have Z2 := Lib.hid ((hb2.block _ (by simp)).trans Z1.out)
    have O2 := Lib.hid (O1.out.bel hb2)
    simp only [World.size_alloc] at Z2 hS2
    have HS := Lib.hid hS2
    clear x0 x1 x2 hS2 hb2 O1 Z1 HT
    obtain ⟨⟨x0, x1, x2⟩, g0, g1, g2⟩ := boxc Z2.out
    go_wp2_with fail
    obtain ⟨⟨s0, s1, s2⟩, _⟩ := boxc (box_store3 Z2.out (.int .i64 t.k) (.int .i64 t.n) (.slice a2 t.kids.length c2))
    exact bodyPost_ret (v := .tuple #[.agg #[.int .i64 t.k, .int .i64 t.n, .slice a2 t.kids.length c2], .slice none 0 0]) (by simp [results, Try.f17, go_sem, s0, s1, s2]) rfl (FIN.out _ _ _ Z2.out O2.out.2.2 HS.out)
  · have k1 : (t.k != 6) = false := by simpa using hk.1
    have k2 : ((t.kids.length : Int) != 2) = true := by simp; omega
    have hk2 := hk.2
    clear h hk
    go_wp2_with fail
    refine (HT.out _ _ O1.out.2.1).mono ?_
    rintro e w1 ⟨a2, c2, rfl, hS2, _, hb2⟩
    have Z2 := Lib.hid ((hb2.block _ (by simp)).trans Z1.out)
    have O2 := Lib.hid (O1.out.bel hb2)
    simp only [World.size_alloc] at Z2 hS2
    have HS := Lib.hid hS2
    clear x0 x1 x2 hS2 hb2 O1 Z1 HT
    obtain ⟨⟨x0, x1, x2⟩, g0, g1, g2⟩ := boxc Z2.out
    go_wp2_with fail
    obtain ⟨⟨s0, s1, s2⟩, _⟩ := boxc (box_store3 Z2.out (.int .i64 t.k) (.int .i64 t.n) (.slice a2 t.kids.length c2))
    exact bodyPost_ret (v := .tuple #[.agg #[.int .i64 t.k, .int .i64 t.n, .slice a2 t.kids.length c2], .slice none 0 0]) (by simp [results, Try.f17, go_sem, s0, s1, s2]) rfl (FIN.out _ _ _ Z2.out O2.out.2.2 HS.out)
/-- A row of one term, in a block of its own. -/
def R1 (S : Nat → Prop) (y : Tm) : VP := fun v s e w => v = .slice (some ⟨s, 0, none⟩) 1 1 ∧ s < w.heap.size ∧ ∃ a c, w.heap[s]? = some (.cells #[.int .i64 y.k, .int .i64 y.n, .slice a y.kids.length c] 24 (0, 0)) ∧ AtS S w y.kids (.slice a y.kids.length c)
theorem R1.mono (S : Nat → Prop) (y : Tm) : Mono (R1 S y) := fun v s e w w' hg ⟨h1, h2, a, c, h3, h4⟩ => ⟨h1, Nat.lt_of_lt_of_le h2 hg.size, a, c, (hg.block s h2).trans h3, h4.grw hg⟩
set_option maxRecDepth 100000 in
set_option maxHeartbeats 2000000 in
theorem runspine_app (t x y f : Tm) (X : List Tm) (hs : size t ≤ 1048576) (hk : t.k = 6) (hl : t.kids = [x, y]) (hXl : X.length ≤ 1048576) (ih : ∀ (w : World) (v : Value), At w x.kids v → Calls Try.prog 17 #[.agg #[.int .i64 x.k, .int .i64 x.n, v]] w (UnsPost w f X)) (w : World) (v : Value) (hA : At w t.kids v) :
    Calls Try.prog 17 #[.agg #[.int .i64 t.k, .int .i64 t.n, v]] w (UnsPost w f (X ++ [y])) := by
  obtain ⟨a1, c1, rfl⟩ := hA.shape
  have hl2 : t.kids.length = 2 := by rw [hl]; rfl
  have hsy : size y ≤ 1048576 := by have := size_le_of_mem (l := t.kids) (t := y) (by rw [hl]; simp); have := size_eq t; omega
  have hO := one_start w t _ hA
  have hb1 := below_al (w.alloc (.cells #[.int .i64 t.k, .int .i64 t.n, .slice a1 t.kids.length c1] 24)) (.cells #[.int .i64 0, .int .i64 0, .slice none 0 0] 24)
  have O1 := Lib.hid (hO.bel hb1)
  have Z1 := Lib.hid (World.alloc_heap_new (w.alloc (.cells #[.int .i64 t.k, .int .i64 t.n, .slice a1 t.kids.length c1] 24)) (.cells #[.int .i64 0, .int .i64 0, .slice none 0 0] 24))
  clear hA hO hb1
  obtain ⟨b, off, cap', vs, he, h1, h2, kk, kn, kv, ks⟩ := O1.out.2.1.pos (by omega)
  have e0 : t.kids[0] = x := by simp [hl]
  have e1 : t.kids[1] = y := by simp [hl]
  have k0 := kk 0 (by omega)
  have k1 := kn 0 (by omega)
  have k2 := kv 0 (by omega)
  have k3 := ks 0 (by omega)
  have m0 := kk 1 (by omega)
  have m1 := kn 1 (by omega)
  have m2 := kv 1 (by omega)
  have m3 := ks 1 (by omega)
  rw [e0] at k0 k1 k3
  rw [e1] at m0 m1 m3
  obtain ⟨ax, cx, hvx⟩ := k3.shape
  obtain ⟨ay, cy, hvy⟩ := m3.shape
  rw [hvx] at k2 k3
  rw [hvy] at m2 m3
  cases he
  simp only [Nat.zero_mul, Nat.one_mul, Nat.add_zero] at k0 k1 k2 m0 m1 m2
  rw [hl2] at k0 k1 k2 k3 m0 m1 m2 m3 h1 O1 Z1
  have HM := Lib.hid (And.intro (And.intro m0 (And.intro m1 m2)) (And.intro m3 trivial))
  have HI := Lib.hid (ih _ _ k3)
  have q1 : (t.k != 6) = false := by simpa using hk
  rw [hl2]
  clear kk kn kv ks hvx hvy k3 m0 m1 m2 m3 e0 e1 h1 h2 hk hl ih
  go_enter Try.func17, Try.ntmps17
  obtain ⟨⟨x0, x1, x2⟩, _⟩ := O1.out
  go_wp2_with fail
  refine HI.out.mono ?_
  rintro e w2 ⟨af, cf, aX, cX, rfl, hf, hX, hb2⟩
  have Z2 := Lib.hid ((hb2.block _ (by simp)).trans Z1.out)
  have O2 := Lib.hid (O1.out.bel hb2)
  have M2 := Lib.hid (And.intro (And.intro (gcell hb2 HM.out.1.1) (And.intro (gcell hb2 HM.out.1.2.1) (gcell hb2 HM.out.1.2.2))) (And.intro (HM.out.2.1.bel hb2 (Nat.le_refl _)) trivial))
  have hz2 := hb2.size
  simp only [World.size_alloc] at Z2 hf hX hz2
  have HF2 := Lib.hid hf
  have HX2 := Lib.hid hX
  clear x0 x1 x2 k0 k1 k2 hb2 hf hX O1 Z1 HI HM
  obtain ⟨⟨x0, x1, x2⟩, _⟩ := O2.out
  go_wp2_with fail
  have hw3 : ∃ w3, w3 = w2.alloc (.cells #[.int .i64 f.k, .int .i64 f.n, .slice af f.kids.length cf] 24) := ⟨_, rfl⟩
  obtain ⟨w3, hw3⟩ := hw3
  have hg3 : Below w2.heap.size w2 w3 := by rw [hw3]; exact below_al _ _
  have hbx : w3.heap[w2.heap.size]? = some (.cells #[.int .i64 f.k, .int .i64 f.n, .slice af f.kids.length cf] 24 (0, 0)) := by rw [hw3]; exact World.alloc_heap_new w2 _
  have hz3 := hg3.size
  rw [← hw3]
  have O3 := Lib.hid (O2.out.bel hg3)
  have F3 := Lib.hid (HF2.out.same (T := fun b => w.heap.size + 1 + 1 ≤ b ∧ b < w3.heap.size ∧ some b ≠ (Value.slice aX X.length cX).ownBlock) (w' := w3) fun b hb => ⟨⟨hb.1, by omega, hb.2.2⟩, hg3.block b hb.2.1⟩)
  have X3 := Lib.hid (HX2.out.keep hg3)
  have Z3 := Lib.hid ((hg3.block _ (by omega)).trans Z2.out)
  have M3 := Lib.hid (And.intro (And.intro (gcell hg3 M2.out.1.1) (And.intro (gcell hg3 M2.out.1.2.1) (gcell hg3 M2.out.1.2.2))) (And.intro (M2.out.2.1.bel hg3 (Nat.le_refl _)) trivial))
  have hbx3 := hbx
  have hlt3 : w2.heap.size < w3.heap.size := (Array.getElem?_eq_some_iff.1 hbx).1
  have HBX := Lib.hid hbx3
  have HOL : Hid (∀ k, (Value.slice aX X.length cX).ownBlock = some k → w.heap.size + 1 + 1 ≤ k ∧ k < w2.heap.size) := fun k hk => by obtain ⟨vs0, hO0, _⟩ := HX2.out; exact hO0.lt k hk
  have HT := Lib.hid (c_twin y hsy w3.drew _ (M3.out.2.1.bel (below_drew6 w3) (Nat.le_refl _)))
  clear x0 x1 x2 hbx hbx3 hg3 hw3 HF2 HX2 Z2 M2 O2
  obtain ⟨⟨x0, x1, x2⟩, _⟩ := O3.out
  obtain ⟨⟨b0, b1, b2⟩, _⟩ := boxc HBX.out
  obtain ⟨m0, m1, m2⟩ := M3.out.1
  have hm1 : X.length + 1 ≤ maxLen := by unfold maxLen; omega
  have hm2 : (X.length + 1) * 40 ≤ 140737488355328 := by omega
  obtain ⟨i0, hi, hz0, hz1', hz2'⟩ := info_parts Try.infoT
  clear M3
  go_region_law (first
    | (refine step_append_lies _ (by rfl) (.tmp 26) (.tmp 32) 22 (by rfl) (w.heap.size + 1 + 1) 24 i0 _ 3 40 Try.underlying22 hi hz0 hz1' hz2' rfl (by decide) (.slice aX X.length cX) X.length _ (by rfl) (HO6.out.alloc _) ⟨w6.heap.size, 0, none⟩ 1 1 [.int .i64 y.k, .int .i64 y.n, .slice a4 y.kids.length c4] (by rfl) (by rfl) (World.news_of_block (cs := #[.int .i64 y.k, .int .i64 y.n, .slice a4 y.kids.length c4]) (World.alloc_heap_new w6 _)) (by simp [Value.oneCell']) (by decide) hm1 hm2 (by rw [World.size_alloc]; omega) (w6.heap.size + 1) (by rw [World.size_alloc]) ?_; intro g7 cp w7 hown7 hgrow7 hat7 hlt7; have hZ7 := ((hgrow7.block (w.heap.size + 1) (by simp; omega) (fun e => by have := (HOL.out _ e.symm).1; omega)).trans (Below.heap_alloc w6 _ (w.heap.size + 1) (by omega))).trans Z6.out; obtain ⟨⟨p0, p1, p2⟩, p3, p4, p5⟩ := boxc hZ7; have hB7 := ((hgrow7.block w2.heap.size (by simp; omega) (fun e => by have := (HOL.out _ e.symm).2; omega)).trans (Below.heap_alloc w6 _ w2.heap.size (by omega))).trans BX6.out; obtain ⟨⟨t0, t1, t2⟩, _⟩ := boxc hB7)
    | (go_simp; go_at_call 11; refine HT.out.mono ?_; rintro e w6 ⟨a4, c4, rfl, hK6, _, hb6⟩; have hg6 : Below w3.heap.size w3 w6 := ⟨hb6.os, hb6.tape, hb6.output, hb6.size, hb6.block⟩; have hz6 := hg6.size; obtain ⟨vs, hO6, hats6⟩ := X3.out.keep hg6; have HO6 := Lib.hid hO6; have HATS := Lib.hid hats6; have Z6 := Lib.hid ((hg6.block _ (by omega)).trans Z3.out); have BX6 := Lib.hid ((hg6.block _ (by omega)).trans HBX.out); have q0 := gcell hg6 b0; have q1 := gcell hg6 b1; have q2 := gcell hg6 b2; have q3 := gcell (below_al w6 (.cells #[.int .i64 y.k, .int .i64 y.n, .slice a4 y.kids.length c4] 24)) q0; have q4 := gcell (below_al w6 (.cells #[.int .i64 y.k, .int .i64 y.n, .slice a4 y.kids.length c4] 24)) q1; have q5 := gcell (below_al w6 (.cells #[.int .i64 y.k, .int .i64 y.n, .slice a4 y.kids.length c4] 24)) q2; clear hO6 hats6))
  all_goals
    have hlen : (X ++ [y]).length = X.length + 1 := by simp
    have hAl := below_al w6 (.cells #[.int .i64 y.k, .int .i64 y.n, .slice a4 y.kids.length c4] 24)
    have hat8 : (Value.slice aX X.length cX).ownBlock = some g7 ∨ g7 = (w6.alloc (.cells #[.int .i64 y.k, .int .i64 y.n, .slice a4 y.kids.length c4] 24)).heap.size := by rw [World.size_alloc]; exact hat7
    have hz8 : (w6.alloc (.cells #[.int .i64 y.k, .int .i64 y.n, .slice a4 y.kids.length c4] 24)).heap.size = w6.heap.size + 1 := World.size_alloc _ _
    have hHA : ∀ i (_ : i < X.length), AtS (fun b => w.heap.size + 1 + 1 ≤ b ∧ b < (w6.alloc (.cells #[.int .i64 y.k, .int .i64 y.n, .slice a4 y.kids.length c4] 24)).heap.size ∧ some b ≠ (Value.slice aX X.length cX).ownBlock) (w6.alloc (.cells #[.int .i64 y.k, .int .i64 y.n, .slice a4 y.kids.length c4] 24)) X[i].kids (vs i) := fun i hi => (HATS.out i hi).same fun b hb => ⟨⟨hb.1, by omega, hb.2.2⟩, hAl.block b hb.2.1⟩
    have hHY : AtS (fun b => w.heap.size + 1 + 1 ≤ b ∧ b < (w6.alloc (.cells #[.int .i64 y.k, .int .i64 y.n, .slice a4 y.kids.length c4] 24)).heap.size ∧ some b ≠ (Value.slice aX X.length cX).ownBlock) (w6.alloc (.cells #[.int .i64 y.k, .int .i64 y.n, .slice a4 y.kids.length c4] 24)) y.kids (.slice a4 y.kids.length c4) :=
      hK6.same fun b hb => by
        have h1 : w3.heap.size ≤ b := hb.1
        exact ⟨⟨by omega, by omega, fun e => by have := (HOL.out b e.symm).2; omega⟩, hAl.block b hb.2⟩
    have hHF : AtS (fun b => w.heap.size + 1 + 1 ≤ b ∧ b < (w6.alloc (.cells #[.int .i64 y.k, .int .i64 y.n, .slice a4 y.kids.length c4] 24)).heap.size ∧ some b ≠ (Value.slice aX X.length cX).ownBlock) (w6.alloc (.cells #[.int .i64 y.k, .int .i64 y.n, .slice a4 y.kids.length c4] 24)) f.kids (.slice af f.kids.length cf) :=
      F3.out.same fun b hb => ⟨⟨hb.1, by omega, hb.2.2⟩, (hAl.block b (by omega)).trans (hg6.block b hb.2.1)⟩
    have hR := ((rowo_step hHA hHY hown7 hgrow7 hat8).put (C := w.heap.size + 1) (x := .int .i64 f.k) (y := .int .i64 f.n) (z := .slice af f.kids.length cf) (by omega)).from (D := w.heap.size) (by omega)
    have hFF := (rowo_beside (n := (X ++ [y]).length) (cap := cp) hgrow7 hat8 hHF).same (T := fun b => w.heap.size ≤ b ∧ b < (put3 w7 (w.heap.size + 1) f (.slice af f.kids.length cf)).heap.size ∧ some b ≠ (Value.slice (some ⟨g7, 0, none⟩) (X ++ [y]).length cp).ownBlock) (w' := put3 w7 (w.heap.size + 1) f (.slice af f.kids.length cf)) fun b hb => ⟨⟨by omega, by simpa using hb.2.1, hb.2.2⟩, other_store3 (by omega) _ _ _⟩
    have hBF := (((O3.out.2.2.trans (hg6.mono O3.out.2.2.size)).trans (hAl.mono (by have := O3.out.2.2.size; omega))).grown hgrow7 (by omega) (fun k e => by have := (HOL.out k e).1; omega)).trans (below_store3 (D := w.heap.size) (B := w.heap.size + 1) (W := w7) (by omega) (.int .i64 f.k) (.int .i64 f.n) (.slice af f.kids.length cf))
    obtain ⟨⟨s0, s1, s2⟩, _⟩ := boxc (box_store3 hZ7 (.int .i64 f.k) (.int .i64 f.n) (.slice af f.kids.length cf))
    have HR := Lib.hid hR
    have HFF := Lib.hid hFF
    have HBF := Lib.hid hBF
    clear hR hFF hBF hHF hHY hHA hat8 hAl hK6 hb6 hg6 hown7 hgrow7 hat7 hlt7 hZ7 hB7
    go_wp2_with fail
    exact bodyPost_ret (v := .tuple #[.agg #[.int .i64 f.k, .int .i64 f.n, .slice af f.kids.length cf], .slice (some ⟨g7, 0, none⟩) (X.length + 1) cp]) (by simp [results, Try.f17, go_sem, s0, s1, s2]) rfl ⟨af, cf, some ⟨g7, 0, none⟩, cp, by rw [hlen], HFF.out, HR.out, HBF.out⟩
theorem runspine_any : ∀ (t : Tm), size t ≤ 1048576 → ∀ (w : World) (v : Value), At w t.kids v → Calls Try.prog 17 #[.agg #[.int .i64 t.k, .int .i64 t.n, v]] w (UnsPost w (unspine t).1 (unspine t).2) := by
  refine tm_ind fun t ih hs w v hA => ?_
  by_cases h : t.k = 6 ∧ t.kids.length = 2
  · obtain ⟨k, n, l⟩ := t
    obtain ⟨x, y, rfl⟩ := two_kids h.2
    have hu := unspine_sizes (.node k n [x, y])
    have hx : size x ≤ 1048576 := by have := size_le_of_mem (l := [x, y]) (t := x) (by simp); have := size_eq (.node k n [x, y]); simp only [Tm.kids] at *; omega
    have hux := unspine_sizes x
    have hll := length_le_sizeL (unspine x).2
    rw [unspine_app k n x y h.1]
    exact runspine_app (.node k n [x, y]) x y _ _ hs h.1 rfl (by omega) (fun w v hA => ih x (by simp [Tm.kids]) hx w v hA) w v hA
  · rw [unspine_no h]
    exact runspine_no t hs h w v hA
end Go.Proofs.Ytblebboamopffaa
