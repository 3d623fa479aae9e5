/- The page's Vars, Unspine, Unpis. -/
import Derived.Test.YtggefpkfikimiaaG13
import Derived.Deep.AppendLies
import Derived.OneCell
import Derived.Deep.DrawnRows
import Derived.Deep.RegionLaw
import Derived.Deep.DeepCutAuto
import Derived.Lib.SmallJoins
import Derived.Test.YtggefpkfikimiaaG10
import Derived.Test.YtggefpkfikimiaaG07
import Derived.IntWalk
namespace Go.Proofs.Ytggefpkfikimiaa
open Go.RowKit
set_option linter.unusedVariables false

/-- A row of variables that the call appended to. -/
def VRow6 (B N j : Nat) (v : Value) (w : World) : Prop := w.ownsRow B 25 3 v j (cells3 (varsT N j) (fun _ => .slice none 0 0))
theorem VRow6.bel {B N j : Nat} {v : Value} {w w' : World} (h : VRow6 B N j v w) (hb : Below w.heap.size w w') : VRow6 B N j v w' :=
  World.ownsRow.kept (row := none) h ⟨hb.os, hb.tape, hb.output, hb.size, fun k hk _ => hb.block k hk⟩ (by cases v.ownBlock <;> simp)
theorem VRow6.at {B N j : Nat} {v : Value} {w : World} (h : VRow6 B N j v w) : At w (varsT N j) v := by
  have h2 : w.ownsRow B 25 3 v (varsT N j).length (cells3 (varsT N j) (fun _ => .slice none 0 0)) := by rw [varsT_length]; exact h
  refine (ats_of_row (S := fun _ => True) h2 (fun _ _ => trivial) fun i hi => ?_).at
  have : (varsT N j)[i].kids = [] := by simp [varsT, Tm.kids]
  rw [this]
  exact .nl
theorem vrow6_next {N j : Nat} : cells3 (varsT N (j + 1)) (fun _ => .slice none 0 0) = cells3 (varsT N j) (fun _ => .slice none 0 0) ++ [.int .i64 1, .int .i64 ((N : Int) - 1 - j), .slice none 0 0] := by
  rw [varsT_succ, cells3_snoc _ _ _ _ (fun _ _ => rfl)]; rfl
/-- A row of terms of the call's own, whose Kids lie beside it, from a block on. -/
def RowO (B : Nat) (L : List Tm) (v : Value) (w : World) : Prop := ∃ vs, w.ownsRow B 25 3 v L.length (cells3 L vs) ∧ ∀ i (_ : i < L.length), AtS (fun b => B ≤ b ∧ b < w.heap.size ∧ some b ≠ v.ownBlock) w L[i].kids (vs i)
theorem RowO.start (B : Nat) (w : World) : RowO B [] (.slice none 0 0) w := ⟨fun _ => .slice none 0 0, World.ownsRow_nil _ _ _ _, fun i hi => absurd hi (Nat.not_lt_zero _)⟩
theorem RowO.keep {B : Nat} {L : List Tm} {v : Value} {w w' : World} (h : RowO B L v w) (hb : Below w.heap.size w w') : RowO B L v w' := by
  obtain ⟨vs, h2, h3⟩ := h
  exact ⟨vs, h2.kept (row := none) ⟨hb.os, hb.tape, hb.output, hb.size, fun k hk _ => hb.block k hk⟩ (by cases v.ownBlock <;> simp), fun i hi => (h3 i hi).same fun b hb' => ⟨⟨hb'.1, Nat.lt_of_lt_of_le hb'.2.1 hb.size, hb'.2.2⟩, hb.block b hb'.2.1⟩⟩
theorem RowO.from {B D : Nat} {L : List Tm} {v : Value} {w : World} (h : RowO B L v w) (hD : D ≤ B) : RowO D L v w := by
  obtain ⟨vs, h2, h3⟩ := h
  exact ⟨vs, ⟨h2.1, h2.2.imp_right fun ⟨g, cap, cur, e1, e2, e3⟩ => ⟨g, cap, cur, e1, Nat.le_trans hD e2, e3⟩⟩, fun i hi => (h3 i hi).same fun b hb => ⟨⟨Nat.le_trans hD hb.1, hb.2⟩, rfl⟩⟩
theorem RowO.put {B C : Nat} {L : List Tm} {v : Value} {w : World} {x y z : Value} (h : RowO B L v w) (hC : C < B) : RowO B L v (((w.setCell ⟨C, 0, none⟩ x).setCell ⟨C, 1, none⟩ y).setCell ⟨C, 2, none⟩ z) := by
  obtain ⟨vs, h2, h3⟩ := h
  have hne : v.ownBlock ≠ some C := fun e => by have := (h2.lt C e).1; omega
  exact ⟨vs, ownsRow_setCell_other (ownsRow_setCell_other (ownsRow_setCell_other h2 (a := ⟨C, 0, none⟩) hne x) (a := ⟨C, 1, none⟩) hne y) (a := ⟨C, 2, none⟩) hne z, fun i hi => (h3 i hi).same fun b hb => ⟨⟨hb.1, by simpa using hb.2.1, hb.2.2⟩, other_store3 (by omega) _ _ _⟩⟩
theorem RowO.ats {B : Nat} {L : List Tm} {v : Value} {w : World} (h : RowO B L v w) : AtS (fun b => B ≤ b ∧ b < w.heap.size) w L v := by
  obtain ⟨vs, h2, h3⟩ := h
  exact ats_of_row h2 (fun b hb => h2.lt b hb) fun i hi => (h3 i hi).same fun b hb => ⟨⟨hb.1, hb.2.1⟩, rfl⟩
/-- What lies beside the row lies so behind an append. -/
theorem rowo_beside {w w7 : World} {B g : Nat} {v : Value} {n cap : Nat} (hgrow : w.grownBy w7 v.ownBlock) (hat : v.ownBlock = some g ∨ g = w.heap.size) {l : List Tm} {x : Value} (h : AtS (fun b => B ≤ b ∧ b < w.heap.size ∧ some b ≠ v.ownBlock) w l x) :
    AtS (fun b => B ≤ b ∧ b < w7.heap.size ∧ some b ≠ (Value.slice (some ⟨g, 0, none⟩) n cap).ownBlock) w7 l x :=
  h.same fun b ⟨q1, q2, q3⟩ => ⟨⟨q1, Nat.lt_of_lt_of_le q2 hgrow.size, fun e => by
    have e2 : some b = some g := e
    cases e2
    rcases hat with h | h
    · exact q3 h.symm
    · omega⟩, hgrow.block b q2 q3⟩
theorem rowo_step {w w7 : World} {B g cap cu : Nat} {L : List Tm} {u : Tm} {v : Value} {vs : Nat → Value} {au : Option Addr}
    (hats : ∀ i (_ : i < L.length), AtS (fun b => B ≤ b ∧ b < w.heap.size ∧ some b ≠ v.ownBlock) w L[i].kids (vs i))
    (hu : AtS (fun b => B ≤ b ∧ b < w.heap.size ∧ some b ≠ v.ownBlock) w u.kids (.slice au u.kids.length cu))
    (hown7 : w7.ownsRow B 25 3 (.slice (some ⟨g, 0, none⟩) (L.length + 1) cap) (L.length + 1) (cells3 L vs ++ [.int .i64 u.k, .int .i64 u.n, .slice au u.kids.length cu]))
    (hgrow : w.grownBy w7 v.ownBlock) (hat : v.ownBlock = some g ∨ g = w.heap.size) : RowO B (L ++ [u]) (.slice (some ⟨g, 0, none⟩) (L ++ [u]).length cap) w7 := by
  have hlen : (L ++ [u]).length = L.length + 1 := by simp
  refine ⟨fun i => if i < L.length then vs i else .slice au u.kids.length cu, ?_, fun i hi => ?_⟩
  · rw [hlen, cells3_snoc L u vs _ (fun i hi => by rw [if_pos hi]), if_neg (by omega)]
    exact hown7
  · by_cases hil : i < L.length
    · simp only [if_pos hil]
      rw [List.getElem_append_left hil]
      exact rowo_beside hgrow hat (hats i hil)
    · obtain rfl : i = L.length := by omega
      simp only [if_neg hil]
      rw [List.getElem_append_right (Nat.le_refl _)]
      simp only [Nat.sub_self, List.getElem_singleton]
      exact rowo_beside hgrow hat hu
theorem below_drew6 (w : World) : Below w.heap.size w w.drew := ⟨rfl, rfl, rfl, Nat.le_refl _, fun _ _ => rfl⟩
def UnsPost (w : World) (f : Tm) (X : List Tm) (e : Ending) (w' : World) : Prop := ∃ a c a2 c2, e = .returned (.tuple #[.agg #[.int .i64 f.k, .int .i64 f.n, .slice a f.kids.length c], .slice a2 X.length c2]) ∧
  AtS (fun b => w.heap.size ≤ b ∧ b < w'.heap.size ∧ some b ≠ (Value.slice a2 X.length c2).ownBlock) w' f.kids (.slice a f.kids.length c) ∧ RowO w.heap.size X (.slice a2 X.length c2) w' ∧ Below w.heap.size w w'
/-- A row of one term, in a block of its own. -/
def R1 (S : Nat → Prop) (y : Tm) : VP := fun v s e w => v = .slice (some ⟨s, 0, none⟩) 1 1 ∧ s < w.heap.size ∧ ∃ a c, w.heap[s]? = some (.cells #[.int .i64 y.k, .int .i64 y.n, .slice a y.kids.length c] 25 (0, 0)) ∧ AtS S w y.kids (.slice a y.kids.length c)
theorem R1.mono (S : Nat → Prop) (y : Tm) : Mono (R1 S y) := fun v s e w w' hg ⟨h1, h2, a, c, h3, h4⟩ => ⟨h1, Nat.lt_of_lt_of_le h2 hg.size, a, c, (hg.block s h2).trans h3, h4.grw hg⟩
end Go.Proofs.Ytggefpkfikimiaa
/- The page's Check, Scope and Count of a term, as the Go text computes them. Conditions: the sizes. -/
namespace Go.Proofs.Ytggefpkfikimiaa
open Go.RowKit

set_option maxRecDepth 100000 in
set_option maxHeartbeats 1000000 in
theorem c_rcheck (t : Tm) (hs : size t ≤ 1048576) (w : World) (v : Value) (hA : At w t.kids v) :
    Calls Try.prog 72 #[.agg #[.int .i64 t.k, .int .i64 t.n, v]] w fun e w' => e = .returned (.int .i64 (checkE t)) ∧ Below w.heap.size w w' := by
  obtain ⟨a1, c1, rfl⟩ := hA.shape
  have O0 := Lib.hid (one_start w t _ hA)
  have hF : Hid (∀ W v, At W t.kids v → Calls Try.prog 86 #[.agg #[.int .i64 t.k, .int .i64 t.n, v]] W fun e w' => e = .returned (.bool (formedB t)) ∧ Below W.heap.size W w') := fun W v hA => rformed_any t (by omega) W v hA
  by_cases h1 : 6000 < size t
  · have e1 : (6000 : Int) < (size t : Int) := by omega
    have E := Lib.hid (show checkE t = 4 by rw [checkE, if_pos h1])
    clear h1
    go_enter Try.func72, Try.ntmps72
    go_wp2_with (go_at_call 58; refine (c_rsize t hs _ _ O0.out.2.1).mono ?_; rintro e w1 ⟨rfl, hb1⟩; have O1 := Lib.hid (O0.out.bel hb1); clear hb1)
    go_ret
    exact ⟨ret_int E.out.symm, O1.out.2.2⟩
  have e1 : decide ((6000 : Int) < (size t : Int)) = false := by simp; omega
  by_cases h2 : 200 < depth t
  · have e2 : (200 : Int) < (depth t : Int) := by omega
    have E := Lib.hid (show checkE t = 5 by rw [checkE, if_neg h1, if_pos h2])
    clear h1 h2
    go_enter Try.func72, Try.ntmps72
    go_wp2_with (first | (go_at_call 58; refine (c_rsize t hs _ _ O0.out.2.1).mono ?_; rintro e w1 ⟨rfl, hb1⟩; have O1 := Lib.hid (O0.out.bel hb1); obtain ⟨⟨x0, x1, x2⟩, _⟩ := O1.out; clear hb1) | (go_at_call 57; refine (c_rdepth t hs _ _ O1.out.2.1).mono ?_; rintro e w2 ⟨rfl, hb2⟩; have O2 := Lib.hid (O1.out.bel hb2); clear hb2))
    go_ret
    exact ⟨ret_int E.out.symm, O2.out.2.2⟩
  have e2 : decide ((200 : Int) < (depth t : Int)) = false := by simp; omega
  cases h3 : formedB t with
  | false =>
    have E := Lib.hid (show checkE t = 1 by rw [checkE, if_neg h1, if_neg h2, if_pos h3])
    rw [h3] at hF
    clear h1 h2 h3
    go_enter Try.func72, Try.ntmps72
    go_wp2_with (first | (go_at_call 58; refine (c_rsize t hs _ _ O0.out.2.1).mono ?_; rintro e w1 ⟨rfl, hb1⟩; have O1 := Lib.hid (O0.out.bel hb1); obtain ⟨⟨x0, x1, x2⟩, _⟩ := O1.out; clear hb1) | (go_at_call 57; refine (c_rdepth t hs _ _ O1.out.2.1).mono ?_; rintro e w2 ⟨rfl, hb2⟩; have O2 := Lib.hid (O1.out.bel hb2); obtain ⟨⟨y0, y1, y2⟩, _⟩ := O2.out; clear hb2) | (go_at_call 86; refine (hF.out _ _ O2.out.2.1).mono ?_; rintro e w3 ⟨rfl, hb3⟩; have O3 := Lib.hid (O2.out.bel hb3); clear hb3))
    go_ret
    exact ⟨ret_int E.out.symm, O3.out.2.2⟩
  | true =>
    have E := Lib.hid (show checkE t = 0 by rw [checkE, if_neg h1, if_neg h2, if_neg (by rw [h3]; simp)])
    rw [h3] at hF
    clear h1 h2 h3
    go_enter Try.func72, Try.ntmps72
    go_wp2_with (first | (go_at_call 58; refine (c_rsize t hs _ _ O0.out.2.1).mono ?_; rintro e w1 ⟨rfl, hb1⟩; have O1 := Lib.hid (O0.out.bel hb1); obtain ⟨⟨x0, x1, x2⟩, _⟩ := O1.out; clear hb1) | (go_at_call 57; refine (c_rdepth t hs _ _ O1.out.2.1).mono ?_; rintro e w2 ⟨rfl, hb2⟩; have O2 := Lib.hid (O1.out.bel hb2); obtain ⟨⟨y0, y1, y2⟩, _⟩ := O2.out; clear hb2) | (go_at_call 86; refine (hF.out _ _ O2.out.2.1).mono ?_; rintro e w3 ⟨rfl, hb3⟩; have O3 := Lib.hid (O2.out.bel hb3); clear hb3))
    go_ret
    exact ⟨ret_int E.out.symm, O3.out.2.2⟩

set_option maxRecDepth 100000 in
set_option maxHeartbeats 1600000 in
theorem rcount_any : ∀ (t : Tm), size t ≤ 1048576 → ∀ (n : Int), -1099511627776 ≤ n → n + depth t ≤ 1099511627776 → ∀ (w : World) (v : Value), At w t.kids v →
    Calls Try.prog 64 #[.agg #[.int .i64 t.k, .int .i64 t.n, v], .int .i64 n] w fun e w' => e = .returned (.int .i64 (countT t n)) ∧ Below w.heap.size w w' := by
  refine tm_ind fun t ih => ?_
  intro hs n hn0 hn1 w v hA
  obtain ⟨a1, c1, rfl⟩ := hA.shape
  have hlen : t.kids.length < 2147483648 := by have := length_le_sizeL t.kids; have := size_eq t; omega
  have hlen2 := length_le_sizeL t.kids
  have hse := size_eq t
  have hdt := depth_eq t
  have O0 := Lib.hid (one_start w t _ hA)
  clear hA
  by_cases h1 : t.k = 1
  rotate_left
  · have e1 : (t.k == 1) = false := by simpa using h1
    have HC := Lib.hid (show countT t n = 0 + countL t.kids t.k n 0 by rw [countT_eq, if_neg (fun h => h1 h.1)])
    clear h1
    go_enter Try.func64, Try.ntmps64
    go_wp2_with fail
    revert O0
    generalize w.alloc (.cells #[.int .i64 t.k, .int .i64 t.n, .slice a1 t.kids.length c1] 25) = W0
    intro O0
    go_loopw [5, 6] (fun s i wr => ∃ j : Nat, j ≤ t.kids.length ∧ i = .int .i64 j ∧ s = .int .i64 ((0 + countL (t.kids.take j) t.k n 0 : Nat) : Int) ∧ One w w.heap.size t (.slice a1 t.kids.length c1) wr)
      (fun _ i _ => t.kids.length - (RowKit.intOf i).toNat)
    case atStart => exact ⟨0, Nat.zero_le _, rfl, by simp [countL], O0.out⟩
    case round =>
      obtain ⟨j, hj, rfl, rfl, hO⟩ := hrel
      have O1 := Lib.hid hO
      obtain ⟨⟨x0, x1, x2⟩, hA1, _⟩ := hO
      clear O0
      by_cases hlt : j < t.kids.length
      · obtain ⟨b, off, cap', vs, he, h1, h2, kk, kn, kv, ks⟩ := hA1.pos (by omega)
        have gk := kk j hlt
        have gn := kn j hlt
        have gv := kv j hlt
        have gs := ks j hlt
        clear kk kn kv ks hA1
        have hbd := bindsI_range t.k j
        have hsz := size_get hlt
        have hde := depth_get hlt
        have hm := List.getElem_mem hlt
        have hw0 : IntKind.i64.wrap (n + bindsI t.k j) = n + bindsI t.k j := IntWalk.i64_in _ (by omega)
        have HI := Lib.hid (fun (W : World) (hW : At W t.kids[j].kids (vs j)) => ih t.kids[j] hm (by omega) (n + bindsI t.k j) (by omega) (by omega) W (vs j) hW)
        have hct := countT_le t.kids[j] (n + bindsI t.k j)
        have hcl := countL_le (t.kids.take j) t.k n 0
        have hst := sizeL_take t.kids j
        have HE := Lib.hid (countL_take_succ hlt t.k n)
        have hcn : countL (t.kids.take j) t.k n 0 ≤ 1048576 := by omega
        have hct2 : countT t.kids[j] (n + bindsI t.k j) ≤ 1048576 := by omega
        have hcp : 0 ≤ (countL (t.kids.take j) t.k n 0 : Int) + (countT t.kids[j] (n + bindsI t.k j) : Int) := by omega
        have hl1 : (j : Int) < (t.kids.length : Int) := by omega
        have hl0 : (0 : Int) ≤ (j : Int) := by omega
        have hl5 : t.kids.length ≤ 1048576 := by omega
        clear ih hs hsz hde hm hse hdt hct hcl hst
        cases he
        go_wp2_with fail
        have HX := Lib.hid (And.intro (And.intro x0 (And.intro x1 x2)) (And.intro (And.intro gk (And.intro gn gv)) gs))
        clear x0 x1 x2 gk gn gv gs
        refine wp_region_rel_tail 14 (by kernel_rfl) (by kernel_rfl) (by kernel_rfl) ?_
        simp only [List.take_succ_cons, List.take_zero, List.drop_succ_cons, List.drop_zero]
        apply RelWalk.rest
        · kernel_rfl
        · intro X _ W hW hcl
          obtain ⟨⟨x0, x1, x2⟩, ⟨gk, gn, gv⟩, gs⟩ := HX.out
          have k0 := fun q => gcell (hW q) x0
          have k1 := fun q => gcell (hW q) x1
          have k2 := fun q => gcell (hW q) x2
          have k3 := fun q => gcell (hW q) gk
          have k4 := fun q => gcell (hW q) gn
          have k5 := fun q => gcell (hW q) gv
          have cB := Lib.hid (fun q => intoSame (W := W) (q := q) (rbinds_any t.k j (W q)))
          have cC := Lib.hid (fun q => into hcl (HI.out (W q) (gs.bel (hW q) (Nat.le_refl _))))
          clear x0 x1 x2 gk gn gv gs
          repeat (go_big_quiet_step (first | (with_reducible exact cB.out _) | (with_reducible exact cC.out _)))
          exact wpQuiet_nil rfl
        intro g w2 hg _
        have O2 := Lib.hid (O1.out.bel hg)
        clear O1 hg
        simp only [Spread]
        go_wp2_with fail
        go_roundw
        case rel => exact ⟨j + 1, by omega, by go_num, by rw [HE.out]; go_num, O2.out⟩
        case measure => simp [RowKit.intOf]; omega
      · obtain rfl : j = t.kids.length := by omega
        have hlt : decide ((t.kids.length : Int) < (t.kids.length : Int)) = false := by simp
        clear ih hs hse hdt
        go_wp2_with fail
        go_ret
        exact ⟨ret_int (by rw [HC.out, List.take_length]), O1.out.2.2⟩
  have e1 : (t.k == 1) = true := by simpa using h1
  by_cases h2 : t.n = n
  rotate_left
  · have e2 : (t.n == n) = false := by simpa using h2
    have HC := Lib.hid (show countT t n = 0 + countL t.kids t.k n 0 by rw [countT_eq, if_neg (fun h => h2 h.2)])
    clear h1 h2
    go_enter Try.func64, Try.ntmps64
    go_wp2_with fail
    revert O0
    generalize w.alloc (.cells #[.int .i64 t.k, .int .i64 t.n, .slice a1 t.kids.length c1] 25) = W0
    intro O0
    go_loopw [5, 6] (fun s i wr => ∃ j : Nat, j ≤ t.kids.length ∧ i = .int .i64 j ∧ s = .int .i64 ((0 + countL (t.kids.take j) t.k n 0 : Nat) : Int) ∧ One w w.heap.size t (.slice a1 t.kids.length c1) wr)
      (fun _ i _ => t.kids.length - (RowKit.intOf i).toNat)
    case atStart => exact ⟨0, Nat.zero_le _, rfl, by simp [countL], O0.out⟩
    case round =>
      obtain ⟨j, hj, rfl, rfl, hO⟩ := hrel
      have O1 := Lib.hid hO
      obtain ⟨⟨x0, x1, x2⟩, hA1, _⟩ := hO
      clear O0
      by_cases hlt : j < t.kids.length
      · obtain ⟨b, off, cap', vs, he, h1, h2, kk, kn, kv, ks⟩ := hA1.pos (by omega)
        have gk := kk j hlt
        have gn := kn j hlt
        have gv := kv j hlt
        have gs := ks j hlt
        clear kk kn kv ks hA1
        have hbd := bindsI_range t.k j
        have hsz := size_get hlt
        have hde := depth_get hlt
        have hm := List.getElem_mem hlt
        have hw0 : IntKind.i64.wrap (n + bindsI t.k j) = n + bindsI t.k j := IntWalk.i64_in _ (by omega)
        have HI := Lib.hid (fun (W : World) (hW : At W t.kids[j].kids (vs j)) => ih t.kids[j] hm (by omega) (n + bindsI t.k j) (by omega) (by omega) W (vs j) hW)
        have hct := countT_le t.kids[j] (n + bindsI t.k j)
        have hcl := countL_le (t.kids.take j) t.k n 0
        have hst := sizeL_take t.kids j
        have HE := Lib.hid (countL_take_succ hlt t.k n)
        have hcn : countL (t.kids.take j) t.k n 0 ≤ 1048576 := by omega
        have hct2 : countT t.kids[j] (n + bindsI t.k j) ≤ 1048576 := by omega
        have hcp : 0 ≤ (countL (t.kids.take j) t.k n 0 : Int) + (countT t.kids[j] (n + bindsI t.k j) : Int) := by omega
        have hl1 : (j : Int) < (t.kids.length : Int) := by omega
        have hl0 : (0 : Int) ≤ (j : Int) := by omega
        have hl5 : t.kids.length ≤ 1048576 := by omega
        clear ih hs hsz hde hm hse hdt hct hcl hst
        cases he
        go_wp2_with fail
        have HX := Lib.hid (And.intro (And.intro x0 (And.intro x1 x2)) (And.intro (And.intro gk (And.intro gn gv)) gs))
        clear x0 x1 x2 gk gn gv gs
        refine wp_region_rel_tail 14 (by kernel_rfl) (by kernel_rfl) (by kernel_rfl) ?_
        simp only [List.take_succ_cons, List.take_zero, List.drop_succ_cons, List.drop_zero]
        apply RelWalk.rest
        · kernel_rfl
        · intro X _ W hW hcl
          obtain ⟨⟨x0, x1, x2⟩, ⟨gk, gn, gv⟩, gs⟩ := HX.out
          have k0 := fun q => gcell (hW q) x0
          have k1 := fun q => gcell (hW q) x1
          have k2 := fun q => gcell (hW q) x2
          have k3 := fun q => gcell (hW q) gk
          have k4 := fun q => gcell (hW q) gn
          have k5 := fun q => gcell (hW q) gv
          have cB := Lib.hid (fun q => intoSame (W := W) (q := q) (rbinds_any t.k j (W q)))
          have cC := Lib.hid (fun q => into hcl (HI.out (W q) (gs.bel (hW q) (Nat.le_refl _))))
          clear x0 x1 x2 gk gn gv gs
          repeat (go_big_quiet_step (first | (with_reducible exact cB.out _) | (with_reducible exact cC.out _)))
          exact wpQuiet_nil rfl
        intro g w2 hg _
        have O2 := Lib.hid (O1.out.bel hg)
        clear O1 hg
        simp only [Spread]
        go_wp2_with fail
        go_roundw
        case rel => exact ⟨j + 1, by omega, by go_num, by rw [HE.out]; go_num, O2.out⟩
        case measure => simp [RowKit.intOf]; omega
      · obtain rfl : j = t.kids.length := by omega
        have hlt : decide ((t.kids.length : Int) < (t.kids.length : Int)) = false := by simp
        clear ih hs hse hdt
        go_wp2_with fail
        go_ret
        exact ⟨ret_int (by rw [HC.out, List.take_length]), O1.out.2.2⟩
  · have e2 : (t.n == n) = true := by simpa using h2
    have HC := Lib.hid (show countT t n = 1 + countL t.kids t.k n 0 by rw [countT_eq, if_pos ⟨h1, h2⟩])
    clear h1 h2
    go_enter Try.func64, Try.ntmps64
    go_wp2_with fail
    revert O0
    generalize w.alloc (.cells #[.int .i64 t.k, .int .i64 t.n, .slice a1 t.kids.length c1] 25) = W0
    intro O0
    go_loopw [5, 6] (fun s i wr => ∃ j : Nat, j ≤ t.kids.length ∧ i = .int .i64 j ∧ s = .int .i64 ((1 + countL (t.kids.take j) t.k n 0 : Nat) : Int) ∧ One w w.heap.size t (.slice a1 t.kids.length c1) wr)
      (fun _ i _ => t.kids.length - (RowKit.intOf i).toNat)
    case atStart => exact ⟨0, Nat.zero_le _, rfl, by simp [countL], O0.out⟩
    case round =>
      obtain ⟨j, hj, rfl, rfl, hO⟩ := hrel
      have O1 := Lib.hid hO
      obtain ⟨⟨x0, x1, x2⟩, hA1, _⟩ := hO
      clear O0
      by_cases hlt : j < t.kids.length
      · obtain ⟨b, off, cap', vs, he, h1, h2, kk, kn, kv, ks⟩ := hA1.pos (by omega)
        have gk := kk j hlt
        have gn := kn j hlt
        have gv := kv j hlt
        have gs := ks j hlt
        clear kk kn kv ks hA1
        have hbd := bindsI_range t.k j
        have hsz := size_get hlt
        have hde := depth_get hlt
        have hm := List.getElem_mem hlt
        have hw0 : IntKind.i64.wrap (n + bindsI t.k j) = n + bindsI t.k j := IntWalk.i64_in _ (by omega)
        have HI := Lib.hid (fun (W : World) (hW : At W t.kids[j].kids (vs j)) => ih t.kids[j] hm (by omega) (n + bindsI t.k j) (by omega) (by omega) W (vs j) hW)
        have hct := countT_le t.kids[j] (n + bindsI t.k j)
        have hcl := countL_le (t.kids.take j) t.k n 0
        have hst := sizeL_take t.kids j
        have HE := Lib.hid (countL_take_succ hlt t.k n)
        have hcn : countL (t.kids.take j) t.k n 0 ≤ 1048576 := by omega
        have hct2 : countT t.kids[j] (n + bindsI t.k j) ≤ 1048576 := by omega
        have hcp : 0 ≤ (countL (t.kids.take j) t.k n 0 : Int) + (countT t.kids[j] (n + bindsI t.k j) : Int) := by omega
        have hl1 : (j : Int) < (t.kids.length : Int) := by omega
        have hl0 : (0 : Int) ≤ (j : Int) := by omega
        have hl5 : t.kids.length ≤ 1048576 := by omega
        clear ih hs hsz hde hm hse hdt hct hcl hst
        cases he
        go_wp2_with fail
        have HX := Lib.hid (And.intro (And.intro x0 (And.intro x1 x2)) (And.intro (And.intro gk (And.intro gn gv)) gs))
        clear x0 x1 x2 gk gn gv gs
        refine wp_region_rel_tail 14 (by kernel_rfl) (by kernel_rfl) (by kernel_rfl) ?_
        simp only [List.take_succ_cons, List.take_zero, List.drop_succ_cons, List.drop_zero]
        apply RelWalk.rest
        · kernel_rfl
        · intro X _ W hW hcl
          obtain ⟨⟨x0, x1, x2⟩, ⟨gk, gn, gv⟩, gs⟩ := HX.out
          have k0 := fun q => gcell (hW q) x0
          have k1 := fun q => gcell (hW q) x1
          have k2 := fun q => gcell (hW q) x2
          have k3 := fun q => gcell (hW q) gk
          have k4 := fun q => gcell (hW q) gn
          have k5 := fun q => gcell (hW q) gv
          have cB := Lib.hid (fun q => intoSame (W := W) (q := q) (rbinds_any t.k j (W q)))
          have cC := Lib.hid (fun q => into hcl (HI.out (W q) (gs.bel (hW q) (Nat.le_refl _))))
          clear x0 x1 x2 gk gn gv gs
          repeat (go_big_quiet_step (first | (with_reducible exact cB.out _) | (with_reducible exact cC.out _)))
          exact wpQuiet_nil rfl
        intro g w2 hg _
        have O2 := Lib.hid (O1.out.bel hg)
        clear O1 hg
        simp only [Spread]
        go_wp2_with fail
        go_roundw
        case rel => exact ⟨j + 1, by omega, by go_num, by rw [HE.out]; go_num, O2.out⟩
        case measure => simp [RowKit.intOf]; omega
      · obtain rfl : j = t.kids.length := by omega
        have hlt : decide ((t.kids.length : Int) < (t.kids.length : Int)) = false := by simp
        clear ih hs hse hdt
        go_wp2_with fail
        go_ret
        exact ⟨ret_int (by rw [HC.out, List.take_length]), O1.out.2.2⟩

def countE (t : Tm) (n : Int) : Nat := if 0 ≤ n ∧ n ≤ 65535 then countT t n else 0
set_option maxRecDepth 100000 in
set_option maxHeartbeats 1000000 in
theorem c_rcount (t : Tm) (hs : size t ≤ 1048576) (n : Int) (w : World) (v : Value) (hA : At w t.kids v) :
    Calls Try.prog 53 #[.agg #[.int .i64 t.k, .int .i64 t.n, v], .int .i64 n] w fun e w' => e = .returned (.int .i64 (countE t n)) ∧ Below w.heap.size w w' := by
  obtain ⟨a1, c1, rfl⟩ := hA.shape
  have O0 := Lib.hid (one_start w t _ hA)
  have hI := Lib.hid (fun w => in_any n 0 65535 w)
  clear hA
  by_cases h : 0 ≤ n ∧ n ≤ 65535
  · have E := Lib.hid (show countE t n = countT t n by rw [countE, if_pos h])
    have hds := depth_le_size t
    have HCT := Lib.hid (rcount_any t hs n (by omega) (by omega))
    rw [decide_eq_true h.1, decide_eq_true h.2] at hI
    clear h hds
    go_enter Try.func53, Try.ntmps53
    go_wp2_with (first | (go_at_call 63; refine (hI.out _).mono ?_; rintro e w' ⟨rfl, rfl⟩) | (go_at_call 64; refine (HCT.out _ _ O0.out.2.1).mono ?_; rintro e w2 ⟨rfl, hb2⟩; have O2 := Lib.hid (O0.out.bel hb2); clear hb2))
    go_ret
    exact ⟨ret_int (by rw [E.out]), O2.out.2.2⟩
  · have E := Lib.hid (show countE t n = 0 by rw [countE, if_neg h])
    have hf : (decide (0 ≤ n) && decide (n ≤ 65535)) = false := by rw [Bool.eq_false_iff]; intro hh; simp at hh; exact h hh
    rw [hf] at hI
    clear h hf
    go_enter Try.func53, Try.ntmps53
    go_wp2_with (go_at_call 63; refine (hI.out _).mono ?_; rintro e w' ⟨rfl, rfl⟩)
    go_ret
    exact ⟨ret_int (by rw [E.out]; rfl), O0.out.2.2⟩

set_option maxRecDepth 100000 in
set_option maxHeartbeats 1000000 in
theorem c_rscope (t : Tm) (hF : Fits t) (hs : size t ≤ 1048576) (a b : Int) (w : World) (v : Value) (hA : At w t.kids v) :
    Calls Try.prog 62 #[.agg #[.int .i64 t.k, .int .i64 t.n, v], .int .i64 a, .int .i64 b] w fun e w' => e = .returned (.bool (scopeT t a b)) ∧ Below w.heap.size w w' := by
  obtain ⟨a1, c1, rfl⟩ := hA.shape
  have O0 := Lib.hid (one_start w t _ hA)
  clear hA
  by_cases h1 : 0 ≤ a
  rotate_left
  · have e1 : decide (0 ≤ a) = false := by simpa using h1
    have E := Lib.hid (show scopeT t a b = false by rw [scopeT, e1]; simp)
    clear h1
    go_enter Try.func62, Try.ntmps62
    go_wp2_with fail
    go_ret
    exact ⟨ret_bool E.out.symm, O0.out.2.2⟩
  by_cases h2 : 0 ≤ b
  rotate_left
  · have e2 : decide (0 ≤ b) = false := by simpa using h2
    have E := Lib.hid (show scopeT t a b = false by rw [scopeT, e2]; simp)
    clear h2
    go_enter Try.func62, Try.ntmps62
    go_wp2_with fail
    go_ret
    exact ⟨ret_bool E.out.symm, O0.out.2.2⟩
  have CK := Lib.hid (c_rcheck t hs _ _ O0.out.2.1)
  by_cases h3 : checkE t = 0
  rotate_left
  · have e3 : (checkE t == 0) = false := by simpa using h3
    have E := Lib.hid (show scopeT t a b = false by rw [scopeT, decide_eq_false h3]; simp)
    revert e3 CK
    generalize checkE t = ck
    intro CK e3
    clear h3
    go_enter Try.func62, Try.ntmps62
    go_wp2_with (go_at_call 72; refine CK.out.mono ?_; rintro e w1 ⟨rfl, hb1⟩; have O1 := Lib.hid (O0.out.bel hb1); clear hb1)
    go_ret
    exact ⟨ret_bool E.out.symm, O1.out.2.2⟩
  have hf := check_formed h3
  have hds := depth_le_size t
  have E := Lib.hid (show scopeT t a b = scopedT t (min a 1048576) b by rw [scopeT, decide_eq_true h1, decide_eq_true h2, decide_eq_true h3, scoped_cap t a b hf]; rfl)
  rw [h3] at CK
  have CS : Hid (∀ W v, At W t.kids v → Calls Try.prog 73 #[.agg #[.int .i64 t.k, .int .i64 t.n, v], .int .i64 (min a 1048576), .int .i64 b] W fun e w' => e = .returned (.bool (scopedT t (min a 1048576) b)) ∧ Below W.heap.size W w') := fun W v hA => rscoped_any t hF (by omega) (min a 1048576) b (by omega) (by omega) W v hA
  clear h3 hf hds
  by_cases h4 : a < 1048576
  · have e4 : min a 1048576 = a := by omega
    rw [e4] at CS E
    clear e4
    go_enter Try.func62, Try.ntmps62
    go_wp2_with (first | (go_at_call 72; refine CK.out.mono ?_; rintro e w1 ⟨rfl, hb1⟩; have O1 := Lib.hid (O0.out.bel hb1); obtain ⟨⟨x0, x1, x2⟩, _⟩ := O1.out; clear hb1) | (go_at_call 73; refine (CS.out _ _ O1.out.2.1).mono ?_; rintro e w2 ⟨rfl, hb2⟩; have O2 := Lib.hid (O1.out.bel hb2); clear hb2))
    go_ret
    exact ⟨ret_bool E.out.symm, O2.out.2.2⟩
  · have e4 : min a 1048576 = 1048576 := by omega
    rw [e4] at CS E
    by_cases h5 : a = 1048576
    · subst h5
      clear e4 h4
      go_enter Try.func62, Try.ntmps62
      go_wp2_with (first | (go_at_call 72; refine CK.out.mono ?_; rintro e w1 ⟨rfl, hb1⟩; have O1 := Lib.hid (O0.out.bel hb1); obtain ⟨⟨x0, x1, x2⟩, _⟩ := O1.out; clear hb1) | (go_at_call 73; refine (CS.out _ _ O1.out.2.1).mono ?_; rintro e w2 ⟨rfl, hb2⟩; have O2 := Lib.hid (O1.out.bel hb2); clear hb2))
      go_ret
      exact ⟨ret_bool E.out.symm, O2.out.2.2⟩
    · have h6 : 1048576 < a := by omega
      clear e4 h4 h5
      go_enter Try.func62, Try.ntmps62
      go_wp2_with (first | (go_at_call 72; refine CK.out.mono ?_; rintro e w1 ⟨rfl, hb1⟩; have O1 := Lib.hid (O0.out.bel hb1); obtain ⟨⟨x0, x1, x2⟩, _⟩ := O1.out; clear hb1) | (go_at_call 73; refine (CS.out _ _ O1.out.2.1).mono ?_; rintro e w2 ⟨rfl, hb2⟩; have O2 := Lib.hid (O1.out.bel hb2); clear hb2))
      go_ret
      exact ⟨ret_bool E.out.symm, O2.out.2.2⟩
end Go.Proofs.Ytggefpkfikimiaa
