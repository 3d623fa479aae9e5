/- The page's Check, Scope and Count of a term, as the Go text computes them. Conditions: the sizes. -/
import Derived.Test.YtggefpkfikimiaaGreatG10
import Derived.Test.YtggefpkfikimiaaGreatG07
import Derived.IntWalk
import Derived.Test.YtggefpkfikimiaaGreatG09
import Derived.Test.YtggefpkfikimiaaGreatG08
namespace Go.Proofs.YtggefpkfikimiaaGreat
open Go.RowKit

set_option maxRecDepth 100000 in
set_option maxHeartbeats 1000000 in
theorem c_rcheck (t : Tm) (hs : size t ≤ 1048576) (w : World) (v : Value) (hA : At w t.kids v) :
    Calls Tryz.prog 82 #[.agg #[.int .i64 t.k, .int .i64 t.n, v]] w fun e w' => e = .returned (.int .i64 (checkE t)) ∧ Below w.heap.size w w' := by
  obtain ⟨a1, c1, rfl⟩ := hA.shape
  have O0 := Lib.hid (one_start w t _ hA)
  have hF : Hid (∀ W v, At W t.kids v → Calls Tryz.prog 92 #[.agg #[.int .i64 t.k, .int .i64 t.n, v]] W fun e w' => e = .returned (.bool (formedB t)) ∧ Below W.heap.size W w') := fun W v hA => rformed_any t (by omega) W v hA
  by_cases h1 : 6000 < size t
  · have e1 : (6000 : Int) < (size t : Int) := by omega
    have E := Lib.hid (show checkE t = 4 by rw [checkE, if_pos h1])
    clear h1
    go_enter Tryz.func82, Tryz.ntmps82
    go_wp2_with (go_at_call 43; refine (c_rsize t hs _ _ O0.out.2.1).mono ?_; rintro e w1 ⟨rfl, hb1⟩; have O1 := Lib.hid (O0.out.bel hb1); clear hb1)
    go_ret
    exact ⟨ret_int E.out.symm, O1.out.2.2⟩
  have e1 : decide ((6000 : Int) < (size t : Int)) = false := by simp; omega
  by_cases h2 : 200 < depth t
  · have e2 : (200 : Int) < (depth t : Int) := by omega
    have E := Lib.hid (show checkE t = 5 by rw [checkE, if_neg h1, if_pos h2])
    clear h1 h2
    go_enter Tryz.func82, Tryz.ntmps82
    go_wp2_with (first | (go_at_call 43; refine (c_rsize t hs _ _ O0.out.2.1).mono ?_; rintro e w1 ⟨rfl, hb1⟩; have O1 := Lib.hid (O0.out.bel hb1); obtain ⟨⟨x0, x1, x2⟩, _⟩ := O1.out; clear hb1) | (go_at_call 42; refine (c_rdepth t hs _ _ O1.out.2.1).mono ?_; rintro e w2 ⟨rfl, hb2⟩; have O2 := Lib.hid (O1.out.bel hb2); clear hb2))
    go_ret
    exact ⟨ret_int E.out.symm, O2.out.2.2⟩
  have e2 : decide ((200 : Int) < (depth t : Int)) = false := by simp; omega
  cases h3 : formedB t with
  | false =>
    have E := Lib.hid (show checkE t = 1 by rw [checkE, if_neg h1, if_neg h2, if_pos h3])
    rw [h3] at hF
    clear h1 h2 h3
    go_enter Tryz.func82, Tryz.ntmps82
    go_wp2_with (first | (go_at_call 43; refine (c_rsize t hs _ _ O0.out.2.1).mono ?_; rintro e w1 ⟨rfl, hb1⟩; have O1 := Lib.hid (O0.out.bel hb1); obtain ⟨⟨x0, x1, x2⟩, _⟩ := O1.out; clear hb1) | (go_at_call 42; refine (c_rdepth t hs _ _ O1.out.2.1).mono ?_; rintro e w2 ⟨rfl, hb2⟩; have O2 := Lib.hid (O1.out.bel hb2); obtain ⟨⟨y0, y1, y2⟩, _⟩ := O2.out; clear hb2) | (go_at_call 92; refine (hF.out _ _ O2.out.2.1).mono ?_; rintro e w3 ⟨rfl, hb3⟩; have O3 := Lib.hid (O2.out.bel hb3); clear hb3))
    go_ret
    exact ⟨ret_int E.out.symm, O3.out.2.2⟩
  | true =>
    have E := Lib.hid (show checkE t = 0 by rw [checkE, if_neg h1, if_neg h2, if_neg (by rw [h3]; simp)])
    rw [h3] at hF
    clear h1 h2 h3
    go_enter Tryz.func82, Tryz.ntmps82
    go_wp2_with (first | (go_at_call 43; refine (c_rsize t hs _ _ O0.out.2.1).mono ?_; rintro e w1 ⟨rfl, hb1⟩; have O1 := Lib.hid (O0.out.bel hb1); obtain ⟨⟨x0, x1, x2⟩, _⟩ := O1.out; clear hb1) | (go_at_call 42; refine (c_rdepth t hs _ _ O1.out.2.1).mono ?_; rintro e w2 ⟨rfl, hb2⟩; have O2 := Lib.hid (O1.out.bel hb2); obtain ⟨⟨y0, y1, y2⟩, _⟩ := O2.out; clear hb2) | (go_at_call 92; refine (hF.out _ _ O2.out.2.1).mono ?_; rintro e w3 ⟨rfl, hb3⟩; have O3 := Lib.hid (O2.out.bel hb3); clear hb3))
    go_ret
    exact ⟨ret_int E.out.symm, O3.out.2.2⟩

def countE (t : Tm) (n : Int) : Nat := if 0 ≤ n ∧ n ≤ 65535 then countT t n else 0
set_option maxRecDepth 100000 in
set_option maxHeartbeats 1000000 in
theorem c_rscope (t : Tm) (hF : Fits t) (hs : size t ≤ 1048576) (a b : Int) (w : World) (v : Value) (hA : At w t.kids v) :
    Calls Tryz.prog 69 #[.agg #[.int .i64 t.k, .int .i64 t.n, v], .int .i64 a, .int .i64 b] w fun e w' => e = .returned (.bool (scopeT t a b)) ∧ Below w.heap.size w w' := by
  obtain ⟨a1, c1, rfl⟩ := hA.shape
  have O0 := Lib.hid (one_start w t _ hA)
  clear hA
  by_cases h1 : 0 ≤ a
  rotate_left
  · have e1 : decide (0 ≤ a) = false := by simpa using h1
    have E := Lib.hid (show scopeT t a b = false by rw [scopeT, e1]; simp)
    clear h1
    go_enter Tryz.func69, Tryz.ntmps69
    go_wp2_with fail
    go_ret
    exact ⟨ret_bool E.out.symm, O0.out.2.2⟩
  by_cases h2 : 0 ≤ b
  rotate_left
  · have e2 : decide (0 ≤ b) = false := by simpa using h2
    have E := Lib.hid (show scopeT t a b = false by rw [scopeT, e2]; simp)
    clear h2
    go_enter Tryz.func69, Tryz.ntmps69
    go_wp2_with fail
    go_ret
    exact ⟨ret_bool E.out.symm, O0.out.2.2⟩
  have CK := Lib.hid (c_rcheck t hs _ _ O0.out.2.1)
  by_cases h3 : checkE t = 0
  rotate_left
  · have e3 : (checkE t == 0) = false := by simpa using h3
    have E := Lib.hid (show scopeT t a b = false by rw [scopeT, decide_eq_false h3]; simp)
    revert e3 CK
    generalize checkE t = ck
    intro CK e3
    clear h3
    go_enter Tryz.func69, Tryz.ntmps69
    go_wp2_with (go_at_call 82; refine CK.out.mono ?_; rintro e w1 ⟨rfl, hb1⟩; have O1 := Lib.hid (O0.out.bel hb1); clear hb1)
    go_ret
    exact ⟨ret_bool E.out.symm, O1.out.2.2⟩
  have hf := check_formed h3
  have hds := depth_le_size t
  have E := Lib.hid (show scopeT t a b = scopedT t (min a 1048576) b by rw [scopeT, decide_eq_true h1, decide_eq_true h2, decide_eq_true h3, scoped_cap t a b hf]; rfl)
  rw [h3] at CK
  have CS : Hid (∀ W v, At W t.kids v → Calls Tryz.prog 83 #[.agg #[.int .i64 t.k, .int .i64 t.n, v], .int .i64 (min a 1048576), .int .i64 b] W fun e w' => e = .returned (.bool (scopedT t (min a 1048576) b)) ∧ Below W.heap.size W w') := fun W v hA => rscoped_any t hF (by omega) (min a 1048576) b (by omega) (by omega) W v hA
  clear h3 hf hds
  by_cases h4 : a < 1048576
  · have e4 : min a 1048576 = a := by omega
    rw [e4] at CS E
    clear e4
    go_enter Tryz.func69, Tryz.ntmps69
    go_wp2_with (first | (go_at_call 82; refine CK.out.mono ?_; rintro e w1 ⟨rfl, hb1⟩; have O1 := Lib.hid (O0.out.bel hb1); obtain ⟨⟨x0, x1, x2⟩, _⟩ := O1.out; clear hb1) | (go_at_call 83; refine (CS.out _ _ O1.out.2.1).mono ?_; rintro e w2 ⟨rfl, hb2⟩; have O2 := Lib.hid (O1.out.bel hb2); clear hb2))
    go_ret
    exact ⟨ret_bool E.out.symm, O2.out.2.2⟩
  · have e4 : min a 1048576 = 1048576 := by omega
    rw [e4] at CS E
    by_cases h5 : a = 1048576
    · subst h5
      clear e4 h4
      go_enter Tryz.func69, Tryz.ntmps69
      go_wp2_with (first | (go_at_call 82; refine CK.out.mono ?_; rintro e w1 ⟨rfl, hb1⟩; have O1 := Lib.hid (O0.out.bel hb1); obtain ⟨⟨x0, x1, x2⟩, _⟩ := O1.out; clear hb1) | (go_at_call 83; refine (CS.out _ _ O1.out.2.1).mono ?_; rintro e w2 ⟨rfl, hb2⟩; have O2 := Lib.hid (O1.out.bel hb2); clear hb2))
      go_ret
      exact ⟨ret_bool E.out.symm, O2.out.2.2⟩
    · have h6 : 1048576 < a := by omega
      clear e4 h4 h5
      go_enter Tryz.func69, Tryz.ntmps69
      go_wp2_with (first | (go_at_call 82; refine CK.out.mono ?_; rintro e w1 ⟨rfl, hb1⟩; have O1 := Lib.hid (O0.out.bel hb1); obtain ⟨⟨x0, x1, x2⟩, _⟩ := O1.out; clear hb1) | (go_at_call 83; refine (CS.out _ _ O1.out.2.1).mono ?_; rintro e w2 ⟨rfl, hb2⟩; have O2 := Lib.hid (O1.out.bel hb2); clear hb2))
      go_ret
      exact ⟨ret_bool E.out.symm, O2.out.2.2⟩
end Go.Proofs.YtggefpkfikimiaaGreat
/- Blocks as plain trees; when a block lies in memory; how it is carried from world to world. No conditions. -/
namespace Go.Proofs.YtggefpkfikimiaaGreat
open Go.RowKit
set_option linter.unusedVariables false

structure ArgT where
  r : Bool
  ty : Tm
  dom : List Tm
  sort : Int
  idx : List Tm
structure SortT where
  idx : List ArgT
  level : Int
  dec : Bool
  decT : Tm
structure ConT where
  sort : Int
  args : List ArgT
  idx : List Tm
  dec : Tm
structure BlkT where
  sorts : List SortT
  cons : List ConT
  elim : Int
/-- A row of things, each of sz cells, of which C tells. -/
inductive GAt {α : Type} (sz : Nat) (C : α → List Value → Prop) (w : World) : List α → Value → Prop
  | nl : GAt sz C w [] (.slice none 0 0)
  | em (a : Addr) (cap : Nat) : GAt sz C w [] (.slice (some a) 0 cap)
  | row (l : List α) (b off cap : Nat) (cs : Nat → List Value) (h0 : 0 < l.length) (hlen : l.length ≤ cap) (hm : cap ≤ maxLen) (hC : ∀ i (_ : i < l.length), C l[i] (cs i) ∧ (cs i).length = sz)
      (hk : ∀ i (_ : i < l.length), ∀ r, r < sz → w.cell? ⟨b, off + i * sz + r, none⟩ = (cs i)[r]?) : GAt sz C w l (.slice (some ⟨b, off, none⟩) l.length cap)
theorem GAt.shape {α : Type} {sz : Nat} {C : α → List Value → Prop} {w : World} {l : List α} {v : Value} (h : GAt sz C w l v) : ∃ a cap, v = .slice a l.length cap := by
  cases h with
  | nl => exact ⟨none, 0, rfl⟩
  | em a cap => exact ⟨some a, cap, rfl⟩
  | row l b off cap => exact ⟨_, _, rfl⟩
theorem GAt.pos {α : Type} {sz : Nat} {C : α → List Value → Prop} {w : World} {l : List α} {v : Value} (h : GAt sz C w l v) (h0 : 0 < l.length) : ∃ (b off cap : Nat) (cs : Nat → List Value), v = .slice (some ⟨b, off, none⟩) l.length cap ∧ l.length ≤ cap ∧ cap ≤ maxLen ∧
    (∀ i (_ : i < l.length), C l[i] (cs i) ∧ (cs i).length = sz) ∧ ∀ i (_ : i < l.length), ∀ r, r < sz → w.cell? ⟨b, off + i * sz + r, none⟩ = (cs i)[r]? := by
  cases h with
  | nl => simp at h0
  | em a cap => simp at h0
  | row l b off cap cs _ h1 h2 h3 h4 => exact ⟨b, off, cap, cs, rfl, h1, h2, h3, h4⟩
theorem GAt.bel {α : Type} {sz : Nat} {C C' : α → List Value → Prop} {w w' : World} (hg : Below w.heap.size w w') (hC' : ∀ a cs, C a cs → C' a cs) {l : List α} {v : Value} (h : GAt sz C w l v) : GAt sz C' w' l v := by
  cases h with
  | nl => exact .nl
  | em a cap => exact .em a cap
  | row l b off cap cs h0 h1 h2 h3 h4 =>
    refine .row l b off cap cs h0 h1 h2 (fun i hi => ⟨hC' _ _ (h3 i hi).1, (h3 i hi).2⟩) fun i hi r hr => ?_
    have hc := h4 i hi r hr
    have hlt : r < (cs i).length := by rw [(h3 i hi).2]; exact hr
    rw [List.getElem?_eq_getElem hlt] at hc ⊢
    exact gcell hg hc
def argC (w : World) (a : ArgT) (cs : List Value) : Prop := ∃ vt vd vi, cs = [.bool a.r, .int .i64 a.ty.k, .int .i64 a.ty.n, vt, vd, .int .i64 a.sort, vi] ∧ At w a.ty.kids vt ∧ At w a.dom vd ∧ At w a.idx vi
abbrev ARow (w : World) : List ArgT → Value → Prop := GAt 7 (argC w) w
def sortC (w : World) (s : SortT) (cs : List Value) : Prop := ∃ va vt, cs = [va, .int .i64 s.level, .bool s.dec, .int .i64 s.decT.k, .int .i64 s.decT.n, vt] ∧ ARow w s.idx va ∧ At w s.decT.kids vt
def conC (w : World) (c : ConT) (cs : List Value) : Prop := ∃ va vi vt, cs = [.int .i64 c.sort, va, vi, .int .i64 c.dec.k, .int .i64 c.dec.n, vt] ∧ ARow w c.args va ∧ At w c.idx vi ∧ At w c.dec.kids vt
abbrev SRow (w : World) : List SortT → Value → Prop := GAt 6 (sortC w) w
abbrev CRow (w : World) : List ConT → Value → Prop := GAt 6 (conC w) w
def BAt (w : World) (b : BlkT) (vs vc : Value) : Prop := SRow w b.sorts vs ∧ CRow w b.cons vc
theorem argC_bel {w w' : World} (hg : Below w.heap.size w w') (a : ArgT) (cs : List Value) (h : argC w a cs) : argC w' a cs := by
  obtain ⟨vt, vd, vi, e, h1, h2, h3⟩ := h
  exact ⟨vt, vd, vi, e, h1.bel hg (Nat.le_refl _), h2.bel hg (Nat.le_refl _), h3.bel hg (Nat.le_refl _)⟩
theorem ARow.bel {w w' : World} (hg : Below w.heap.size w w') {l : List ArgT} {v : Value} (h : ARow w l v) : ARow w' l v := GAt.bel hg (argC_bel hg) h
theorem sortC_bel {w w' : World} (hg : Below w.heap.size w w') (a : SortT) (cs : List Value) (h : sortC w a cs) : sortC w' a cs := by
  obtain ⟨va, vt, e, h1, h2⟩ := h
  exact ⟨va, vt, e, ARow.bel hg h1, h2.bel hg (Nat.le_refl _)⟩
theorem conC_bel {w w' : World} (hg : Below w.heap.size w w') (a : ConT) (cs : List Value) (h : conC w a cs) : conC w' a cs := by
  obtain ⟨va, vi, vt, e, h1, h2, h3⟩ := h
  exact ⟨va, vi, vt, e, ARow.bel hg h1, h2.bel hg (Nat.le_refl _), h3.bel hg (Nat.le_refl _)⟩
theorem BAt.bel {w w' : World} (hg : Below w.heap.size w w') {b : BlkT} {vs vc : Value} (h : BAt w b vs vc) : BAt w' b vs vc := ⟨GAt.bel hg (sortC_bel hg) h.1, GAt.bel hg (conC_bel hg) h.2⟩
/-- All numbers are such as an int holds. -/
def ArgT.fits (a : ArgT) : Prop := Fits a.ty ∧ (∀ u ∈ a.dom, Fits u) ∧ I64 a.sort ∧ ∀ u ∈ a.idx, Fits u
def SortT.fits (s : SortT) : Prop := (∀ a ∈ s.idx, ArgT.fits a) ∧ I64 s.level ∧ Fits s.decT
def ConT.fits (c : ConT) : Prop := I64 c.sort ∧ (∀ a ∈ c.args, ArgT.fits a) ∧ (∀ u ∈ c.idx, Fits u) ∧ Fits c.dec
def BlkT.fits (b : BlkT) : Prop := (∀ s ∈ b.sorts, SortT.fits s) ∧ (∀ c ∈ b.cons, ConT.fits c) ∧ I64 b.elim
/-- How great they are. -/
def argN (a : ArgT) : Nat := size a.ty + sizeL a.dom + sizeL a.idx + 1
def argsN : List ArgT → Nat | [] => 0 | a :: l => argN a + argsN l
def sortN (s : SortT) : Nat := argsN s.idx + size s.decT + 1
def sortsN : List SortT → Nat | [] => 0 | a :: l => sortN a + sortsN l
def conN (c : ConT) : Nat := argsN c.args + sizeL c.idx + size c.dec + 1
def consN : List ConT → Nat | [] => 0 | a :: l => conN a + consN l
def blkN (b : BlkT) : Nat := sortsN b.sorts + consN b.cons + 1
theorem argN_le {l : List ArgT} {a : ArgT} (h : a ∈ l) : argN a ≤ argsN l := by
  induction l with
  | nil => cases h
  | cons x l ih =>
    simp only [argsN]
    rcases List.mem_cons.1 h with rfl | h
    · omega
    · have := ih h; omega
theorem sortN_le {l : List SortT} {a : SortT} (h : a ∈ l) : sortN a ≤ sortsN l := by
  induction l with
  | nil => cases h
  | cons x l ih =>
    simp only [sortsN]
    rcases List.mem_cons.1 h with rfl | h
    · omega
    · have := ih h; omega
theorem conN_le {l : List ConT} {a : ConT} (h : a ∈ l) : conN a ≤ consN l := by
  induction l with
  | nil => cases h
  | cons x l ih =>
    simp only [consN]
    rcases List.mem_cons.1 h with rfl | h
    · omega
    · have := ih h; omega
theorem argsN_len (l : List ArgT) : l.length ≤ argsN l := by
  induction l with
  | nil => simp [argsN]
  | cons a l ih => simp only [argsN, argN, List.length_cons]; omega
theorem sortsN_len (l : List SortT) : l.length ≤ sortsN l := by
  induction l with
  | nil => simp [sortsN]
  | cons a l ih => simp only [sortsN, sortN, List.length_cons]; omega
theorem consN_len (l : List ConT) : l.length ≤ consN l := by
  induction l with
  | nil => simp [consN]
  | cons a l ih => simp only [consN, conN, List.length_cons]; omega
/-- A row, read off place by place. -/
theorem ARow.at {w : World} {l : List ArgT} {a : Option Addr} {c : Nat} (h : ARow w l (.slice a l.length c)) {i : Nat} (hi : i < l.length) : ∃ b off vt vd vi, a = some ⟨b, off, none⟩ ∧ At w l[i].ty.kids vt ∧ At w l[i].dom vd ∧ At w l[i].idx vi ∧
    w.cell? ⟨b, off + i * 7, none⟩ = some (.bool l[i].r) ∧ w.cell? ⟨b, off + i * 7 + 1, none⟩ = some (.int .i64 l[i].ty.k) ∧ w.cell? ⟨b, off + i * 7 + 2, none⟩ = some (.int .i64 l[i].ty.n) ∧ w.cell? ⟨b, off + i * 7 + 3, none⟩ = some vt ∧ w.cell? ⟨b, off + i * 7 + 4, none⟩ = some vd ∧ w.cell? ⟨b, off + i * 7 + 5, none⟩ = some (.int .i64 l[i].sort) ∧ w.cell? ⟨b, off + i * 7 + 6, none⟩ = some vi := by
  obtain ⟨b, off, cap, cs, e, h1, h2, h3, h4⟩ := h.pos (by omega)
  cases e
  obtain ⟨⟨vt, vd, vi, ec, g1, g2, g3⟩, _⟩ := h3 i hi
  have k := h4 i hi
  rw [ec] at k
  exact ⟨b, off, vt, vd, vi, rfl, g1, g2, g3, k 0 (by omega), k 1 (by omega), k 2 (by omega), k 3 (by omega), k 4 (by omega), k 5 (by omega), k 6 (by omega)⟩
theorem SRow.at {w : World} {l : List SortT} {a : Option Addr} {c : Nat} (h : SRow w l (.slice a l.length c)) {i : Nat} (hi : i < l.length) : ∃ b off va vt, a = some ⟨b, off, none⟩ ∧ ARow w l[i].idx va ∧ At w l[i].decT.kids vt ∧
    w.cell? ⟨b, off + i * 6, none⟩ = some va ∧ w.cell? ⟨b, off + i * 6 + 1, none⟩ = some (.int .i64 l[i].level) ∧ w.cell? ⟨b, off + i * 6 + 2, none⟩ = some (.bool l[i].dec) ∧ w.cell? ⟨b, off + i * 6 + 3, none⟩ = some (.int .i64 l[i].decT.k) ∧ w.cell? ⟨b, off + i * 6 + 4, none⟩ = some (.int .i64 l[i].decT.n) ∧ w.cell? ⟨b, off + i * 6 + 5, none⟩ = some vt := by
  obtain ⟨b, off, cap, cs, e, h1, h2, h3, h4⟩ := h.pos (by omega)
  cases e
  obtain ⟨⟨va, vt, ec, g1, g2⟩, _⟩ := h3 i hi
  have k := h4 i hi
  rw [ec] at k
  exact ⟨b, off, va, vt, rfl, g1, g2, k 0 (by omega), k 1 (by omega), k 2 (by omega), k 3 (by omega), k 4 (by omega), k 5 (by omega)⟩
theorem CRow.at {w : World} {l : List ConT} {a : Option Addr} {c : Nat} (h : CRow w l (.slice a l.length c)) {i : Nat} (hi : i < l.length) : ∃ b off va vi vt, a = some ⟨b, off, none⟩ ∧ ARow w l[i].args va ∧ At w l[i].idx vi ∧ At w l[i].dec.kids vt ∧
    w.cell? ⟨b, off + i * 6, none⟩ = some (.int .i64 l[i].sort) ∧ w.cell? ⟨b, off + i * 6 + 1, none⟩ = some va ∧ w.cell? ⟨b, off + i * 6 + 2, none⟩ = some vi ∧ w.cell? ⟨b, off + i * 6 + 3, none⟩ = some (.int .i64 l[i].dec.k) ∧ w.cell? ⟨b, off + i * 6 + 4, none⟩ = some (.int .i64 l[i].dec.n) ∧ w.cell? ⟨b, off + i * 6 + 5, none⟩ = some vt := by
  obtain ⟨b, off, cap, cs, e, h1, h2, h3, h4⟩ := h.pos (by omega)
  cases e
  obtain ⟨⟨va, vi, vt, ec, g1, g2, g3⟩, _⟩ := h3 i hi
  have k := h4 i hi
  rw [ec] at k
  exact ⟨b, off, va, vi, vt, rfl, g1, g2, g3, k 0 (by omega), k 1 (by omega), k 2 (by omega), k 3 (by omega), k 4 (by omega), k 5 (by omega)⟩
/-! ### The document's functions on blocks -/
def decsN (b : BlkT) (k : Int) : Int := ((b.sorts.take k.toNat).countP (·.dec) : Nat)
def nsB (b : BlkT) : Int := b.sorts.length
def ncB (b : BlkT) : Int := b.cons.length
def countB (b : BlkT) : Int := 2 * nsB b + decsN b (nsB b) + ncB b
def inZ (n lo hi : Int) : Bool := decide (lo ≤ n) && decide (n ≤ hi)
def formerB (b : BlkT) (base k : Int) : Int := if inZ base 0 65535 && inZ k 0 (nsB b - 1) then base + k else -1
def hasDec (b : BlkT) (k : Int) : Bool := ((b.sorts[k.toNat]?).map (·.dec)).getD false
def decoderB (b : BlkT) (base k : Int) : Int := if inZ base 0 65535 && inZ k 0 (nsB b - 1) && hasDec b k then base + nsB b + decsN b k else -1
def ctorB (b : BlkT) (base c : Int) : Int := if inZ base 0 65535 && inZ c 0 (ncB b - 1) then base + nsB b + decsN b (nsB b) + c else -1
def elimB (b : BlkT) (base k : Int) : Int := if inZ base 0 65535 && inZ k 0 (nsB b - 1) then base + nsB b + decsN b (nsB b) + ncB b + k else -1
def noneT (t : Tm) : Bool := decide (t.k = 0) && decide (t.n = 0) && decide (t.kids.length = 0)
def openT (t : Tm) (v : Int) : Bool := scopeT t v 65536
def opensFrom : List Tm → Int → Bool | [], _ => true | t :: l, v => openT t v && opensFrom l (v + 1)
def opensAll (l : List Tm) (v : Int) : Bool := l.all fun t => openT t v
def idxLen (b : BlkT) (s : Int) : Int := ((b.sorts[s.toNat]?).map (fun x => (x.idx.length : Int))).getD (-1)
def argOk (b : BlkT) (a : ArgT) (i : Int) : Bool :=
  if a.r then noneT a.ty && decide (a.dom.length ≤ 12) && inZ a.sort 0 (nsB b - 1) && decide ((a.idx.length : Int) = idxLen b a.sort) && opensFrom a.dom i && opensAll a.idx (i + a.dom.length)
  else openT a.ty i && decide (a.dom.length + a.idx.length = 0) && decide (a.sort = 0)
def argsOk (b : BlkT) : List ArgT → Int → Bool | [], _ => true | a :: l, i => argOk b a i && argsOk b l (i + 1)
def idxOk (b : BlkT) (k : Int) : List ArgT → Int → Bool | [], _ => true | a :: l, i => (argOk b a i && (!a.r || (decide (a.dom.length = 0) && decide (a.sort < k)))) && idxOk b k l (i + 1)
def sortOk (b : BlkT) (s : SortT) (k : Int) : Bool := decide (s.idx.length ≤ 12) && inZ s.level 0 6 && idxOk b k s.idx 0 && (if s.dec then !(s.idx.any (·.r)) && openT s.decT s.idx.length else noneT s.decT)
def sortsOk (b : BlkT) : List SortT → Int → Bool | [], _ => true | s :: l, k => sortOk b s k && sortsOk b l (k + 1)
def conOk (b : BlkT) (c : ConT) : Bool := inZ c.sort 0 (nsB b - 1) && decide (c.args.length ≤ 12) && decide ((c.idx.length : Int) = idxLen b c.sort) && argsOk b c.args 0 && opensAll c.idx c.args.length && (if hasDec b c.sort then openT c.dec c.args.length else noneT c.dec)
def shapeB (b : BlkT) : Bool := inZ (nsB b) 1 4 && decide (b.cons.length ≤ 8) && inZ b.elim 0 6 && sortsOk b b.sorts 0 && b.cons.all (conOk b)
end Go.Proofs.YtggefpkfikimiaaGreat
/- porismlaw07's Heavy: no conditions but sizes. -/
namespace Go.Proofs.YtggefpkfikimiaaGreat
open Go.RowKit
set_option linter.unusedVariables false

def heavyA (a : ArgT) : Bool := heavyB [a.ty] || heavyB a.dom || heavyB a.idx
def heavyArgsB (l : List ArgT) : Bool := decide (20 < l.length) || l.any heavyA
/-- A term in a literal row of one. -/
theorem heavy_lit (t : Tm) (hs : size t ≤ 1048576) (w : World) (v : Value) (hA : At w t.kids v) :
    Calls Tryz.prog 19 #[.slice (some ⟨w.heap.size, 0, none⟩) 1 1] (w.alloc (.cells #[.int .i64 t.k, .int .i64 t.n, v] 37)) fun e w' => e = .returned (.bool (heavyB [t])) ∧ Below w.heap.size w w' := by
  have HH := heavy_any [t] (by simp [sizeL]; omega) _ _ (ats_cells1 hA.toS fun _ h => h).at
  exact HH.mono fun e w' ⟨he, hb⟩ => ⟨he, (below_al w _).trans (hb.mono (by simp))⟩
theorem anyA_take {α : Type} {l : List α} {j : Nat} (h : j < l.length) (f : α → Bool) : (l.take (j + 1)).any f = ((l.take j).any f || f l[j]) := by
  rw [List.take_succ_eq_append_getElem h, List.any_append]; simp
theorem any_of {α : Type} {l : List α} {j : Nat} (h : j < l.length) (f : α → Bool) (hf : f l[j] = true) : l.any f = true := List.any_eq_true.2 ⟨l[j], List.getElem_mem h, hf⟩
set_option maxRecDepth 100000 in
set_option maxHeartbeats 2000000 in
theorem heavyargs_any (l : List ArgT) (hs : argsN l ≤ 1048576) (w : World) (v : Value) (hA : ARow w l v) :
    Calls Tryz.prog 18 #[v] w fun e w' => e = .returned (.bool (heavyArgsB l)) ∧ Below w.heap.size w w' := by
  obtain ⟨a, cap, rfl⟩ := hA.shape
  have hll := argsN_len l
  by_cases h20 : 20 < l.length
  · have e1 : decide ((20 : Int) < (l.length : Int)) = true := by simp; omega
    have HE := Lib.hid (show heavyArgsB l = true by rw [heavyArgsB, decide_eq_true h20]; rfl)
    clear hA
    go_enter Tryz.func18, Tryz.ntmps18
    go_wp2_with fail
    go_ret
    exact ⟨ret_bool HE.out.symm, Below.refl _ _⟩
  have e1 : decide ((20 : Int) < (l.length : Int)) = false := by simp; omega
  have E := Lib.hid (show heavyArgsB l = l.any heavyA by rw [heavyArgsB, decide_eq_false h20]; rfl)
  have HA := Lib.hid hA
  clear h20 hA
  go_enter Tryz.func18, Tryz.ntmps18
  go_wp2_with fail
  go_loopw [3] (fun i wr => ∃ j : Nat, j ≤ l.length ∧ i = .int .i64 j ∧ (l.take j).any heavyA = false ∧ Below w.heap.size w wr) (fun i _ => l.length - (RowKit.intOf i).toNat)
  case atStart => exact ⟨0, Nat.zero_le _, rfl, rfl, Below.refl _ _⟩
  case round =>
    obtain ⟨j, hj, rfl, han, hbw⟩ := hrel
    by_cases hlt : j < l.length
    · obtain ⟨b, off, vt, vd, vi, rfl, gt, gd, gi, k0, k1, k2, k3, k4, k5, k6⟩ := (HA.out.bel hbw).at hlt
      obtain ⟨at1, ct1, hvt⟩ := gt.shape
      obtain ⟨ad1, cd1, hvd⟩ := gd.shape
      obtain ⟨ai1, ci1, hvi⟩ := gi.shape
      rw [hvt] at gt k3
      rw [hvd] at gd k4
      rw [hvi] at gi k6
      have hsz := argN_le (List.getElem_mem hlt)
      have hn : argN l[j] = size l[j].ty + sizeL l[j].dom + sizeL l[j].idx + 1 := rfl
      have H1 := Lib.hid (heavy_lit l[j].ty (by omega) wr _ gt)
      have H2 := Lib.hid (fun W (hW : Below wr.heap.size wr W) => heavy_any l[j].dom (by omega) W _ (gd.bel hW (Nat.le_refl _)))
      have H3 := Lib.hid (fun W (hW : Below wr.heap.size wr W) => heavy_any l[j].idx (by omega) W _ (gi.bel hW (Nat.le_refl _)))
      have HT := Lib.hid (anyA_take hlt heavyA)
      have HAN := Lib.hid han
      have HB := Lib.hid hbw
      have K := Lib.hid (And.intro k4 k6)
      have hji : (j : Int) < (l.length : Int) := by omega
      have hj0 : (0 : Int) ≤ (j : Int) := by omega
      have hjm : j < 1048576 := by omega
      clear gt gd gi hvt hvd hvi han hbw k0 k4 k5 k6 hn hsz hs
      cases h1 : heavyB [l[j].ty] with
      | true =>
        rw [h1] at H1
        have HF := Lib.hid (any_of hlt heavyA (by rw [heavyA, h1]; rfl))
        clear h1
        go_wp2_with fail
        refine H1.out.mono ?_
        rintro e w1 ⟨rfl, hb1⟩
        have HB1 := Lib.hid (HB.out.trans (hb1.mono HB.out.size))
        clear hb1
        go_wp2_with fail
        go_ret
        exact ⟨ret_bool (by rw [E.out, HF.out]), HB1.out⟩
      | false =>
        rw [h1] at H1
        cases h2 : heavyB l[j].dom with
        | true =>
          rw [h2] at H2
          have HF := Lib.hid (any_of hlt heavyA (by rw [heavyA, h1, h2]; rfl))
          clear h1 h2
          go_wp2_with fail
          refine H1.out.mono ?_
          rintro e w1 ⟨rfl, hb1⟩
          have q4 := gcell hb1 K.out.1
          have HB1 := Lib.hid hb1
          clear hb1 k1 k2 k3
          go_wp2_with fail
          refine (H2.out w1 HB1.out).mono ?_
          rintro e w2 ⟨rfl, hb2⟩
          have HB2 := Lib.hid ((HB.out.trans (HB1.out.mono HB.out.size)).trans (hb2.mono (Nat.le_trans HB.out.size HB1.out.size)))
          clear hb2 q4
          go_wp2_with fail
          go_ret
          exact ⟨ret_bool (by rw [E.out, HF.out]), HB2.out⟩
        | false =>
          rw [h2] at H2
          cases h3 : heavyB l[j].idx with
          | true =>
            rw [h3] at H3
            have HF := Lib.hid (any_of hlt heavyA (by rw [heavyA, h1, h2, h3]; rfl))
            clear h1 h2 h3
            go_wp2_with fail
            refine H1.out.mono ?_
            rintro e w1 ⟨rfl, hb1⟩
            have q4 := gcell hb1 K.out.1
            have HB1 := Lib.hid hb1
            clear hb1 k1 k2 k3
            go_wp2_with fail
            refine (H2.out w1 HB1.out).mono ?_
            rintro e w2 ⟨rfl, hb2⟩
            have HB2 := Lib.hid (HB1.out.trans (hb2.mono HB1.out.size))
            have q6 := gcell HB2.out K.out.2
            clear hb2 q4
            go_wp2_with fail
            refine (H3.out w2 HB2.out).mono ?_
            rintro e w3 ⟨rfl, hb3⟩
            have HB3 := Lib.hid ((HB.out.trans (HB2.out.mono HB.out.size)).trans (hb3.mono (Nat.le_trans HB.out.size HB2.out.size)))
            clear hb3 q6
            go_wp2_with fail
            go_ret
            exact ⟨ret_bool (by rw [E.out, HF.out]), HB3.out⟩
          | false =>
            rw [h3] at H3
            have HF := Lib.hid (show heavyA l[j] = false by rw [heavyA, h1, h2, h3]; rfl)
            clear h1 h2 h3
            go_wp2_with fail
            refine H1.out.mono ?_
            rintro e w1 ⟨rfl, hb1⟩
            have q4 := gcell hb1 K.out.1
            have HB1 := Lib.hid hb1
            clear hb1 k1 k2 k3
            go_wp2_with fail
            refine (H2.out w1 HB1.out).mono ?_
            rintro e w2 ⟨rfl, hb2⟩
            have HB2 := Lib.hid (HB1.out.trans (hb2.mono HB1.out.size))
            have q6 := gcell HB2.out K.out.2
            clear hb2 q4
            go_wp2_with fail
            refine (H3.out w2 HB2.out).mono ?_
            rintro e w3 ⟨rfl, hb3⟩
            have HB3 := Lib.hid ((HB.out.trans (HB2.out.mono HB.out.size)).trans (hb3.mono (Nat.le_trans HB.out.size HB2.out.size)))
            clear hb3 q6
            go_wp2_with fail
            go_roundw
            case rel => exact ⟨j + 1, hlt, by go_num, by rw [HT.out, HAN.out, HF.out]; rfl, HB3.out⟩
            case measure => simp [RowKit.intOf]; omega
    · obtain rfl : j = l.length := by omega
      have hnl : ¬ (l.length : Int) < (l.length : Int) := by omega
      have HAN := Lib.hid han
      have HB := Lib.hid hbw
      clear han hbw
      go_wp2_with fail
      go_ret
      exact ⟨ret_bool (by have := HAN.out; rw [List.take_length] at this; rw [E.out, this]), HB.out⟩
end Go.Proofs.YtggefpkfikimiaaGreat
