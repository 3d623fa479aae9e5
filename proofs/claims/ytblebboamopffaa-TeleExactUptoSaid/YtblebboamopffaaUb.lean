/- Package tele's answers: rows and terms in new memory, as spoiling them wants them said. No conditions. -/
import Derived.Test.YtblebboamopffaaRk
import Derived.Test.YtblebboamopffaaTa
namespace Go.Proofs.Ytblebboamopffaa
open Go.RowKit
set_option linter.unusedVariables false

/-- Rows of terms in blocks of a set, that may be written over. -/
inductive AtE (S : Nat → Prop) (w : World) : List Tm → Value → Prop
  | nl : AtE S w [] (.slice none 0 0)
  | em (a : Addr) (cap : Nat) : AtE S w [] (.slice (some a) 0 cap)
  | row (l : List Tm) (b off cap : Nat) (vs : Nat → Value) (cs : Array Value) (hS : S b) (hcs : w.heap[b]? = some (.cells cs 24 (0, 0))) (hlen : l.length ≤ cap) (hm : cap ≤ maxLen)
      (hk : ∀ i (_ : i < l.length), cs[off + i * 3]? = some (.int .i64 l[i].k) ∧ cs[off + i * 3 + 1]? = some (.int .i64 l[i].n) ∧ cs[off + i * 3 + 2]? = some (vs i)) (hs : ∀ i (h : i < l.length), AtE S w l[i].kids (vs i)) : AtE S w l (.slice (some ⟨b, off, none⟩) l.length cap)
theorem AtE.ats {S : Nat → Prop} {w : World} {l : List Tm} {v : Value} (h : AtE S w l v) : AtS S w l v := by
  induction h with
  | nl => exact .nl
  | em a cap => exact .em a cap
  | row l b off cap vs cs hS hcs hlen hm hk _ ih =>
    refine .row l b off cap vs (fun _ => hS) hlen hm (fun i hi => ?_) (fun i hi => ?_) (fun i hi => ?_) ih
    · simp [World.cell?, hcs, (hk i hi).1]
    · simp [World.cell?, hcs, (hk i hi).2.1]
    · simp [World.cell?, hcs, (hk i hi).2.2]
theorem AtE.at {S : Nat → Prop} {w : World} {l : List Tm} {v : Value} (h : AtE S w l v) : At w l v := h.ats.at
theorem AtE.same {S T : Nat → Prop} {w w' : World} (h : ∀ b, S b → T b ∧ w'.heap[b]? = w.heap[b]?) {l : List Tm} {v : Value} (hA : AtE S w l v) : AtE T w' l v := by
  induction hA with
  | nl => exact .nl
  | em a cap => exact .em a cap
  | row l b off cap vs cs hS hcs hlen hm hk _ ih => exact .row l b off cap vs cs (h b hS).1 ((h b hS).2.trans hcs) hlen hm hk ih
theorem AtK.ate {S : Nat → Prop} {w : World} {l : List Tm} {v : Value} (h : AtK S w l v) : AtE S w l v := by
  induction h with
  | nl => exact .nl
  | row l b vs hS hK hm _ ih =>
    obtain ⟨cs, h1, h2, h3⟩ := hK
    exact .row l b 0 l.length vs cs hS h1 (Nat.le_refl _) hm (fun i hi => by rw [Nat.zero_add]; exact h3 i hi) ih
def newS (w w' : World) : Nat → Prop := fun b => w.heap.size ≤ b ∧ b < w'.heap.size
/-- A term that is told; a term and a row beside it; a row. -/
def TellE (w : World) (r : Tm) (e : Ending) (w' : World) : Prop := ∃ a cap, e = .returned (.agg #[.int .i64 r.k, .int .i64 r.n, .slice a r.kids.length cap]) ∧ AtE (newS w w') w' r.kids (.slice a r.kids.length cap) ∧ Below w.heap.size w w'
def TellTL (w : World) (r : Tm) (l : List Tm) (e : Ending) (w' : World) : Prop := ∃ a cap a2 cap2, e = .returned (.tuple #[.agg #[.int .i64 r.k, .int .i64 r.n, .slice a r.kids.length cap], .slice a2 l.length cap2]) ∧ AtE (newS w w') w' r.kids (.slice a r.kids.length cap) ∧ AtE (newS w w') w' l (.slice a2 l.length cap2) ∧ Below w.heap.size w w'
def TellLT (w : World) (l : List Tm) (r : Tm) (e : Ending) (w' : World) : Prop := ∃ a cap a2 cap2, e = .returned (.tuple #[.slice a2 l.length cap2, .agg #[.int .i64 r.k, .int .i64 r.n, .slice a r.kids.length cap]]) ∧ AtE (newS w w') w' r.kids (.slice a r.kids.length cap) ∧ AtE (newS w w') w' l (.slice a2 l.length cap2) ∧ Below w.heap.size w w'
def TellL (w : World) (l : List Tm) (e : Ending) (w' : World) : Prop := ∃ a cap, e = .returned (.slice a l.length cap) ∧ AtE (newS w w') w' l (.slice a l.length cap) ∧ Below w.heap.size w w'
def varsL (n : Int) : List Tm := if 1 ≤ n ∧ n ≤ 65536 then varsT n.toNat n.toNat else []
/-- A term that was told is boxed. -/
theorem boxed_at {w w1 w2 : World} {r : Tm} {a : Option Addr} {cap : Nat} (hw : Below w.heap.size w w1) (hb : Below w1.heap.size w1 w2) (hA : At w2 r.kids (.slice a r.kids.length cap)) :
    One w w2.heap.size r (.slice a r.kids.length cap) (w2.alloc (.cells #[.int .i64 r.k, .int .i64 r.n, .slice a r.kids.length cap] 24)) ∧ Below w1.heap.size w1 (w2.alloc (.cells #[.int .i64 r.k, .int .i64 r.n, .slice a r.kids.length cap] 24)) := by
  obtain ⟨h1, h2, h3⟩ := one_start w2 r (.slice a r.kids.length cap) hA
  exact ⟨⟨h1, h2, hw.trans ((hb.trans (h3.mono hb.size)).mono hw.size)⟩, hb.trans (h3.mono hb.size)⟩
/-- A part of a row. -/
theorem at_drop {w : World} {l : List Tm} {b off cap j : Nat} (h : At w l (.slice (some ⟨b, off, none⟩) l.length cap)) (hj : j ≤ l.length) (h0 : 0 < l.length) : At w (l.drop j) (.slice (some ⟨b, off + j * 3, none⟩) (l.length - j) (cap - j)) := by
  obtain ⟨b', off', cap', vs, he, h1, h2, kk, kn, kv, ks⟩ := h.pos h0
  cases he
  have hl : (l.drop j).length = l.length - j := List.length_drop
  rw [← hl]
  refine .row (l.drop j) b (off + j * 3) (cap - j) (fun i => vs (j + i)) (by omega) (by omega) (fun i hi => ?_) (fun i hi => ?_) (fun i hi => ?_) (fun i hi => ?_)
  · rw [List.getElem_drop, show off + j * 3 + i * 3 = off + (j + i) * 3 by omega]; exact kk (j + i) (by omega)
  · rw [List.getElem_drop, show off + j * 3 + i * 3 = off + (j + i) * 3 by omega]; exact kn (j + i) (by omega)
  · rw [show off + j * 3 + i * 3 = off + (j + i) * 3 by omega]; exact kv (j + i) (by omega)
  · rw [List.getElem_drop]; exact ks (j + i) (by omega)
theorem at_take {w : World} {l : List Tm} {b off cap j : Nat} (h : At w l (.slice (some ⟨b, off, none⟩) l.length cap)) (hj : j ≤ l.length) (h0 : 0 < l.length) : At w (l.take j) (.slice (some ⟨b, off, none⟩) j cap) := by
  obtain ⟨b', off', cap', vs, he, h1, h2, kk, kn, kv, ks⟩ := h.pos h0
  cases he
  have hl : (l.take j).length = j := by simp; omega
  have : At w (l.take j) (.slice (some ⟨b, off, none⟩) (l.take j).length cap) := by
    refine .row (l.take j) b off cap vs (by omega) h2 (fun i hi => ?_) (fun i hi => ?_) (fun i hi => ?_) (fun i hi => ?_)
    · rw [List.getElem_take]; exact kk i (by omega)
    · rw [List.getElem_take]; exact kn i (by omega)
    · exact kv i (by omega)
    · rw [List.getElem_take]; exact ks i (by omega)
  rwa [hl] at this
theorem AtE.grw {S : Nat → Prop} {w w' : World} (hg : Below w.heap.size w w') {l : List Tm} {v : Value} (hA : AtE S w l v) : AtE S w' l v := by
  induction hA with
  | nl => exact .nl
  | em a cap => exact .em a cap
  | row l b off cap vs cs hS hcs hlen hm hk _ ih => exact .row l b off cap vs cs hS ((hg.block b (Array.getElem?_eq_some_iff.1 hcs).1).trans hcs) hlen hm hk ih
/-- In a region that draws its order: a term that is told, a box that is made for one. -/
def RT (r : Tm) : VP := fun v s e w => ∃ a cap, v = .agg #[.int .i64 r.k, .int .i64 r.n, .slice a r.kids.length cap] ∧ AtE (fun b => s ≤ b ∧ b < e) w r.kids (.slice a r.kids.length cap)
theorem RT.mono (r : Tm) : Mono (RT r) := fun v s e w w' hg ⟨a, c, h1, h2⟩ => ⟨a, c, h1, h2.grw hg⟩
def RZ : VP := fun v s e w => v = .pointer (some ⟨s, 0, none⟩) ∧ w.heap[s]? = some (.cells #[.int .i64 0, .int .i64 0, .slice none 0 0] 24 (0, 0)) ∧ s < e
theorem RZ.mono : Mono RZ := fun v s e w w' hg h => ⟨h.1, (hg.block s (Array.getElem?_eq_some_iff.1 h.2.1).1).trans h.2.1, h.2.2⟩
theorem rt_of {P : Program} {w : World} {r : Tm} {f : FuncId} {args : Array Value} (h : Calls P f args w (TellE w r)) : Calls P f args w fun e w' => ∃ v, e = .returned v ∧ Grw w w' ∧ RT r v w.heap.size w'.heap.size w' :=
  h.mono fun e w' ⟨a, c, he, hA, hb⟩ => ⟨_, he, hb, a, c, rfl, hA⟩
abbrev put3 (W : World) (s : Nat) (r : Tm) (v : Value) : World := ((W.setCell ⟨s, 0, none⟩ (.int .i64 r.k)).setCell ⟨s, 1, none⟩ (.int .i64 r.n)).setCell ⟨s, 2, none⟩ v
/-- Two terms are told, and stored into boxes. -/
theorem two_told {w w4 w5 : World} {p q : Tm} {s6 s7 : Nat} {v v2 : Value} {S S2 : Nat → Prop} (hw : Below w.heap.size w w4) (hg : Below w4.heap.size w4 w5) (h6 : w4.heap.size ≤ s6) (h7 : w4.heap.size ≤ s7) (hne : s6 ≠ s7)
    (z6 : w5.heap[s6]? = some (.cells #[.int .i64 0, .int .i64 0, .slice none 0 0] 24 (0, 0))) (z7 : w5.heap[s7]? = some (.cells #[.int .i64 0, .int .i64 0, .slice none 0 0] 24 (0, 0)))
    (hp : AtE S w5 p.kids v) (hq : AtE S2 w5 q.kids v2) (d1 : ∀ b, S b → b ≠ s6 ∧ b ≠ s7) (d2 : ∀ b, S2 b → b ≠ s6 ∧ b ≠ s7) :
    One w s6 p v (put3 (put3 w5 s6 p v) s7 q v2) ∧ One w s7 q v2 (put3 (put3 w5 s6 p v) s7 q v2) ∧ Below w4.heap.size w4 (put3 (put3 w5 s6 p v) s7 q v2) := by
  have hB : Below w4.heap.size w4 (put3 (put3 w5 s6 p v) s7 q v2) := (hg.trans (below_store3 h6 _ _ _)).trans (below_store3 h7 _ _ _)
  have hW := hw.trans (hB.mono hw.size)
  have b6 : (put3 (put3 w5 s6 p v) s7 q v2).heap[s6]? = _ := (other_store3 hne _ _ _).trans (box_store3 z6 _ _ _)
  have b7 : (put3 (put3 w5 s6 p v) s7 q v2).heap[s7]? = _ := box_store3 ((other_store3 (fun h => hne h.symm) _ _ _).trans z7) _ _ _
  have hp' := hp.same (T := fun _ => True) (w' := put3 (put3 w5 s6 p v) s7 q v2) fun b hb => ⟨trivial, (other_store3 (d1 b hb).2 _ _ _).trans (other_store3 (d1 b hb).1 _ _ _)⟩
  have hq' := hq.same (T := fun _ => True) (w' := put3 (put3 w5 s6 p v) s7 q v2) fun b hb => ⟨trivial, (other_store3 (d2 b hb).2 _ _ _).trans (other_store3 (d2 b hb).1 _ _ _)⟩
  exact ⟨⟨(boxc b6).1, hp'.at, hW⟩, ⟨(boxc b7).1, hq'.at, hW⟩, hB⟩
theorem at_cap {w : World} {l : List Tm} {a : Option Addr} {cap : Nat} (h : At w l (.slice a l.length cap)) : l.length ≤ cap := by
  by_cases h0 : 0 < l.length
  · obtain ⟨b, off, cap', vs, he, h1, _⟩ := h.pos h0
    cases he
    exact h1
  · omega
theorem at_empty {w : World} {a : Option Addr} {cap cap2 : Nat} (h : At w [] (.slice a 0 cap)) (hc : cap2 ≤ cap) (a2 : Option Addr) (h2 : a = none → a2 = none) (h3 : ∀ x, a = some x → ∃ y, a2 = some y) : At w [] (.slice a2 0 cap2) := by
  cases a with
  | none =>
    rw [h2 rfl]
    cases h with
    | nl => rw [Nat.le_zero.1 hc]; exact .nl
  | some x =>
    obtain ⟨y, rfl⟩ := h3 x rfl
    exact .em y cap2
/-- A row from a place on, as Go slices it. -/
theorem at_low {w : World} {l : List Tm} {a : Option Addr} {cap j : Nat} (h : At w l (.slice a l.length cap)) (hj : j ≤ l.length) : At w (l.drop j) (.slice (Option.map (fun x => x.add (j * 3)) a) (l.length - j) (cap - j)) := by
  by_cases h0 : 0 < l.length
  · obtain ⟨b, off, cap', vs, he, h1, _⟩ := h.pos h0
    cases he
    have hadd : (⟨b, off, none⟩ : Addr).add (j * 3) = ⟨b, off + j * 3, none⟩ := by unfold Addr.add; split <;> simp_all
    show At w _ (.slice (some ((⟨b, off, none⟩ : Addr).add (j * 3))) _ _)
    rw [hadd]
    exact at_drop h hj h0
  · have hl : l = [] := List.eq_nil_of_length_eq_zero (by omega)
    subst hl
    obtain rfl : j = 0 := by simpa using hj
    refine at_empty (a := a) (cap := cap) h (Nat.sub_le _ _) _ (fun e => by rw [e]; rfl) (fun x e => ⟨x.add (0 * 3), by rw [e]; rfl⟩)
theorem at_low_end {w : World} {l : List Tm} {a : Option Addr} {cap j : Nat} (h : At w l (.slice a l.length cap)) (hj : j ≤ l.length) (hc : cap = j) : At w (l.drop j) (.slice a (l.length - j) 0) := by
  have h1 := at_cap h
  have e1 : l.length - j = 0 := by omega
  have e2 : l.drop j = [] := List.drop_eq_nil_of_le (by omega)
  rw [e1, e2]
  by_cases h0 : 0 < l.length
  · obtain ⟨b, off, cap', vs, he, _⟩ := h.pos h0
    cases he
    exact .em _ _
  · have hl : l = [] := List.eq_nil_of_length_eq_zero (by omega)
    subst hl
    exact at_empty (a := a) (cap := cap) h (Nat.zero_le _) _ (fun e => e) (fun x e => ⟨x, e⟩)
theorem at_high {w : World} {l : List Tm} {a : Option Addr} {cap j : Nat} (h : At w l (.slice a l.length cap)) (hj : j ≤ l.length) : At w (l.take j) (.slice a j cap) := by
  by_cases h0 : 0 < l.length
  · obtain ⟨b, off, cap', vs, he, _⟩ := h.pos h0
    cases he
    exact at_take h hj h0
  · have hl : l = [] := List.eq_nil_of_length_eq_zero (by omega)
    subst hl
    obtain rfl : j = 0 := by simpa using hj
    exact h
set_option maxHeartbeats 1000000 in
theorem c3_any (n : Int) (w : World) :
    Calls Try.prog 31 #[.int .i64 n] w fun e w' => e = .returned (.agg #[.int .i64 3, .int .i64 n, .slice none 0 0]) ∧ Below w.heap.size w w' := by
  have hb := below_al w (.cells #[.int .i64 3, .int .i64 n, .slice none 0 0] 24)
  go_enter Try.func31, Try.ntmps31
  go_wp2
  exact bodyPost_ret (v := .agg #[.int .i64 3, .int .i64 n, .slice none 0 0]) (by simp [results, Try.f31, go_sem]) rfl ⟨rfl, hb⟩
theorem varsL_nat {N : Nat} (h : N ≤ 65536) : varsL (N : Int) = varsT N N := by
  unfold varsL
  by_cases h0 : N = 0
  · subst h0; rfl
  · rw [if_pos (by omega), Int.toNat_natCast]
theorem varsL_out {n : Int} (h : n < 1 ∨ 65536 < n) : varsL n = [] := if_neg (by omega)
end Go.Proofs.Ytblebboamopffaa
