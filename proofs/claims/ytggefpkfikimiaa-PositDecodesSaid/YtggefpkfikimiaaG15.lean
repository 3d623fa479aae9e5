/- Blocks as plain trees; when a block lies in memory; how it is carried from world to world. No conditions. -/
import Derived.Test.YtggefpkfikimiaaG14
import Derived.Test.YtggefpkfikimiaaG09
import Derived.Test.YtggefpkfikimiaaG10
import Derived.Test.YtggefpkfikimiaaG08
namespace Go.Proofs.Ytggefpkfikimiaa
open Go.RowKit
set_option linter.unusedVariables false

structure ArgT where
  r : Bool
  ty : Tm
  dom : List Tm
  sort : Int
  idx : List Tm
structure SortT where
  idx : List ArgT
  level : Int
  dec : Bool
  decT : Tm
structure ConT where
  sort : Int
  args : List ArgT
  idx : List Tm
  dec : Tm
structure BlkT where
  sorts : List SortT
  cons : List ConT
  elim : Int
/-- A row of things, each of sz cells, of which C tells. -/
inductive GAt {α : Type} (sz : Nat) (C : α → List Value → Prop) (w : World) : List α → Value → Prop
  | nl : GAt sz C w [] (.slice none 0 0)
  | em (a : Addr) (cap : Nat) : GAt sz C w [] (.slice (some a) 0 cap)
  | row (l : List α) (b off cap : Nat) (cs : Nat → List Value) (h0 : 0 < l.length) (hlen : l.length ≤ cap) (hm : cap ≤ maxLen) (hC : ∀ i (_ : i < l.length), C l[i] (cs i) ∧ (cs i).length = sz)
      (hk : ∀ i (_ : i < l.length), ∀ r, r < sz → w.cell? ⟨b, off + i * sz + r, none⟩ = (cs i)[r]?) : GAt sz C w l (.slice (some ⟨b, off, none⟩) l.length cap)
theorem GAt.shape {α : Type} {sz : Nat} {C : α → List Value → Prop} {w : World} {l : List α} {v : Value} (h : GAt sz C w l v) : ∃ a cap, v = .slice a l.length cap := by
  cases h with
  | nl => exact ⟨none, 0, rfl⟩
  | em a cap => exact ⟨some a, cap, rfl⟩
  | row l b off cap => exact ⟨_, _, rfl⟩
theorem GAt.pos {α : Type} {sz : Nat} {C : α → List Value → Prop} {w : World} {l : List α} {v : Value} (h : GAt sz C w l v) (h0 : 0 < l.length) : ∃ (b off cap : Nat) (cs : Nat → List Value), v = .slice (some ⟨b, off, none⟩) l.length cap ∧ l.length ≤ cap ∧ cap ≤ maxLen ∧
    (∀ i (_ : i < l.length), C l[i] (cs i) ∧ (cs i).length = sz) ∧ ∀ i (_ : i < l.length), ∀ r, r < sz → w.cell? ⟨b, off + i * sz + r, none⟩ = (cs i)[r]? := by
  cases h with
  | nl => simp at h0
  | em a cap => simp at h0
  | row l b off cap cs _ h1 h2 h3 h4 => exact ⟨b, off, cap, cs, rfl, h1, h2, h3, h4⟩
theorem GAt.bel {α : Type} {sz : Nat} {C C' : α → List Value → Prop} {w w' : World} (hg : Below w.heap.size w w') (hC' : ∀ a cs, C a cs → C' a cs) {l : List α} {v : Value} (h : GAt sz C w l v) : GAt sz C' w' l v := by
  cases h with
  | nl => exact .nl
  | em a cap => exact .em a cap
  | row l b off cap cs h0 h1 h2 h3 h4 =>
    refine .row l b off cap cs h0 h1 h2 (fun i hi => ⟨hC' _ _ (h3 i hi).1, (h3 i hi).2⟩) fun i hi r hr => ?_
    have hc := h4 i hi r hr
    have hlt : r < (cs i).length := by rw [(h3 i hi).2]; exact hr
    rw [List.getElem?_eq_getElem hlt] at hc ⊢
    exact gcell hg hc
def argC (w : World) (a : ArgT) (cs : List Value) : Prop := ∃ vt vd vi, cs = [.bool a.r, .int .i64 a.ty.k, .int .i64 a.ty.n, vt, vd, .int .i64 a.sort, vi] ∧ At w a.ty.kids vt ∧ At w a.dom vd ∧ At w a.idx vi
abbrev ARow (w : World) : List ArgT → Value → Prop := GAt 7 (argC w) w
def sortC (w : World) (s : SortT) (cs : List Value) : Prop := ∃ va vt, cs = [va, .int .i64 s.level, .bool s.dec, .int .i64 s.decT.k, .int .i64 s.decT.n, vt] ∧ ARow w s.idx va ∧ At w s.decT.kids vt
def conC (w : World) (c : ConT) (cs : List Value) : Prop := ∃ va vi vt, cs = [.int .i64 c.sort, va, vi, .int .i64 c.dec.k, .int .i64 c.dec.n, vt] ∧ ARow w c.args va ∧ At w c.idx vi ∧ At w c.dec.kids vt
abbrev SRow (w : World) : List SortT → Value → Prop := GAt 6 (sortC w) w
abbrev CRow (w : World) : List ConT → Value → Prop := GAt 6 (conC w) w
def BAt (w : World) (b : BlkT) (vs vc : Value) : Prop := SRow w b.sorts vs ∧ CRow w b.cons vc
theorem argC_bel {w w' : World} (hg : Below w.heap.size w w') (a : ArgT) (cs : List Value) (h : argC w a cs) : argC w' a cs := by
  obtain ⟨vt, vd, vi, e, h1, h2, h3⟩ := h
  exact ⟨vt, vd, vi, e, h1.bel hg (Nat.le_refl _), h2.bel hg (Nat.le_refl _), h3.bel hg (Nat.le_refl _)⟩
theorem ARow.bel {w w' : World} (hg : Below w.heap.size w w') {l : List ArgT} {v : Value} (h : ARow w l v) : ARow w' l v := GAt.bel hg (argC_bel hg) h
theorem sortC_bel {w w' : World} (hg : Below w.heap.size w w') (a : SortT) (cs : List Value) (h : sortC w a cs) : sortC w' a cs := by
  obtain ⟨va, vt, e, h1, h2⟩ := h
  exact ⟨va, vt, e, ARow.bel hg h1, h2.bel hg (Nat.le_refl _)⟩
theorem conC_bel {w w' : World} (hg : Below w.heap.size w w') (a : ConT) (cs : List Value) (h : conC w a cs) : conC w' a cs := by
  obtain ⟨va, vi, vt, e, h1, h2, h3⟩ := h
  exact ⟨va, vi, vt, e, ARow.bel hg h1, h2.bel hg (Nat.le_refl _), h3.bel hg (Nat.le_refl _)⟩
theorem BAt.bel {w w' : World} (hg : Below w.heap.size w w') {b : BlkT} {vs vc : Value} (h : BAt w b vs vc) : BAt w' b vs vc := ⟨GAt.bel hg (sortC_bel hg) h.1, GAt.bel hg (conC_bel hg) h.2⟩
/-- All numbers are such as an int holds. -/
def ArgT.fits (a : ArgT) : Prop := Fits a.ty ∧ (∀ u ∈ a.dom, Fits u) ∧ I64 a.sort ∧ ∀ u ∈ a.idx, Fits u
def SortT.fits (s : SortT) : Prop := (∀ a ∈ s.idx, ArgT.fits a) ∧ I64 s.level ∧ Fits s.decT
def ConT.fits (c : ConT) : Prop := I64 c.sort ∧ (∀ a ∈ c.args, ArgT.fits a) ∧ (∀ u ∈ c.idx, Fits u) ∧ Fits c.dec
def BlkT.fits (b : BlkT) : Prop := (∀ s ∈ b.sorts, SortT.fits s) ∧ (∀ c ∈ b.cons, ConT.fits c) ∧ I64 b.elim
/-- How great they are. -/
def argN (a : ArgT) : Nat := size a.ty + sizeL a.dom + sizeL a.idx + 1
def argsN : List ArgT → Nat | [] => 0 | a :: l => argN a + argsN l
def sortN (s : SortT) : Nat := argsN s.idx + size s.decT + 1
def sortsN : List SortT → Nat | [] => 0 | a :: l => sortN a + sortsN l
def conN (c : ConT) : Nat := argsN c.args + sizeL c.idx + size c.dec + 1
def consN : List ConT → Nat | [] => 0 | a :: l => conN a + consN l
def blkN (b : BlkT) : Nat := sortsN b.sorts + consN b.cons + 1
theorem argN_le {l : List ArgT} {a : ArgT} (h : a ∈ l) : argN a ≤ argsN l := by
  induction l with
  | nil => cases h
  | cons x l ih =>
    simp only [argsN]
    rcases List.mem_cons.1 h with rfl | h
    · omega
    · have := ih h; omega
theorem sortN_le {l : List SortT} {a : SortT} (h : a ∈ l) : sortN a ≤ sortsN l := by
  induction l with
  | nil => cases h
  | cons x l ih =>
    simp only [sortsN]
    rcases List.mem_cons.1 h with rfl | h
    · omega
    · have := ih h; omega
theorem conN_le {l : List ConT} {a : ConT} (h : a ∈ l) : conN a ≤ consN l := by
  induction l with
  | nil => cases h
  | cons x l ih =>
    simp only [consN]
    rcases List.mem_cons.1 h with rfl | h
    · omega
    · have := ih h; omega
theorem argsN_len (l : List ArgT) : l.length ≤ argsN l := by
  induction l with
  | nil => simp [argsN]
  | cons a l ih => simp only [argsN, argN, List.length_cons]; omega
theorem sortsN_len (l : List SortT) : l.length ≤ sortsN l := by
  induction l with
  | nil => simp [sortsN]
  | cons a l ih => simp only [sortsN, sortN, List.length_cons]; omega
theorem consN_len (l : List ConT) : l.length ≤ consN l := by
  induction l with
  | nil => simp [consN]
  | cons a l ih => simp only [consN, conN, List.length_cons]; omega
/-- A row, read off place by place. -/
theorem ARow.at {w : World} {l : List ArgT} {a : Option Addr} {c : Nat} (h : ARow w l (.slice a l.length c)) {i : Nat} (hi : i < l.length) : ∃ b off vt vd vi, a = some ⟨b, off, none⟩ ∧ At w l[i].ty.kids vt ∧ At w l[i].dom vd ∧ At w l[i].idx vi ∧
    w.cell? ⟨b, off + i * 7, none⟩ = some (.bool l[i].r) ∧ w.cell? ⟨b, off + i * 7 + 1, none⟩ = some (.int .i64 l[i].ty.k) ∧ w.cell? ⟨b, off + i * 7 + 2, none⟩ = some (.int .i64 l[i].ty.n) ∧ w.cell? ⟨b, off + i * 7 + 3, none⟩ = some vt ∧ w.cell? ⟨b, off + i * 7 + 4, none⟩ = some vd ∧ w.cell? ⟨b, off + i * 7 + 5, none⟩ = some (.int .i64 l[i].sort) ∧ w.cell? ⟨b, off + i * 7 + 6, none⟩ = some vi := by
  obtain ⟨b, off, cap, cs, e, h1, h2, h3, h4⟩ := h.pos (by omega)
  cases e
  obtain ⟨⟨vt, vd, vi, ec, g1, g2, g3⟩, _⟩ := h3 i hi
  have k := h4 i hi
  rw [ec] at k
  exact ⟨b, off, vt, vd, vi, rfl, g1, g2, g3, k 0 (by omega), k 1 (by omega), k 2 (by omega), k 3 (by omega), k 4 (by omega), k 5 (by omega), k 6 (by omega)⟩
theorem SRow.at {w : World} {l : List SortT} {a : Option Addr} {c : Nat} (h : SRow w l (.slice a l.length c)) {i : Nat} (hi : i < l.length) : ∃ b off va vt, a = some ⟨b, off, none⟩ ∧ ARow w l[i].idx va ∧ At w l[i].decT.kids vt ∧
    w.cell? ⟨b, off + i * 6, none⟩ = some va ∧ w.cell? ⟨b, off + i * 6 + 1, none⟩ = some (.int .i64 l[i].level) ∧ w.cell? ⟨b, off + i * 6 + 2, none⟩ = some (.bool l[i].dec) ∧ w.cell? ⟨b, off + i * 6 + 3, none⟩ = some (.int .i64 l[i].decT.k) ∧ w.cell? ⟨b, off + i * 6 + 4, none⟩ = some (.int .i64 l[i].decT.n) ∧ w.cell? ⟨b, off + i * 6 + 5, none⟩ = some vt := by
  obtain ⟨b, off, cap, cs, e, h1, h2, h3, h4⟩ := h.pos (by omega)
  cases e
  obtain ⟨⟨va, vt, ec, g1, g2⟩, _⟩ := h3 i hi
  have k := h4 i hi
  rw [ec] at k
  exact ⟨b, off, va, vt, rfl, g1, g2, k 0 (by omega), k 1 (by omega), k 2 (by omega), k 3 (by omega), k 4 (by omega), k 5 (by omega)⟩
theorem CRow.at {w : World} {l : List ConT} {a : Option Addr} {c : Nat} (h : CRow w l (.slice a l.length c)) {i : Nat} (hi : i < l.length) : ∃ b off va vi vt, a = some ⟨b, off, none⟩ ∧ ARow w l[i].args va ∧ At w l[i].idx vi ∧ At w l[i].dec.kids vt ∧
    w.cell? ⟨b, off + i * 6, none⟩ = some (.int .i64 l[i].sort) ∧ w.cell? ⟨b, off + i * 6 + 1, none⟩ = some va ∧ w.cell? ⟨b, off + i * 6 + 2, none⟩ = some vi ∧ w.cell? ⟨b, off + i * 6 + 3, none⟩ = some (.int .i64 l[i].dec.k) ∧ w.cell? ⟨b, off + i * 6 + 4, none⟩ = some (.int .i64 l[i].dec.n) ∧ w.cell? ⟨b, off + i * 6 + 5, none⟩ = some vt := by
  obtain ⟨b, off, cap, cs, e, h1, h2, h3, h4⟩ := h.pos (by omega)
  cases e
  obtain ⟨⟨va, vi, vt, ec, g1, g2, g3⟩, _⟩ := h3 i hi
  have k := h4 i hi
  rw [ec] at k
  exact ⟨b, off, va, vi, vt, rfl, g1, g2, g3, k 0 (by omega), k 1 (by omega), k 2 (by omega), k 3 (by omega), k 4 (by omega), k 5 (by omega)⟩
/-! ### The document's functions on blocks -/
def decsN (b : BlkT) (k : Int) : Int := ((b.sorts.take k.toNat).countP (·.dec) : Nat)
def nsB (b : BlkT) : Int := b.sorts.length
def ncB (b : BlkT) : Int := b.cons.length
def countB (b : BlkT) : Int := 2 * nsB b + decsN b (nsB b) + ncB b
def inZ (n lo hi : Int) : Bool := decide (lo ≤ n) && decide (n ≤ hi)
def formerB (b : BlkT) (base k : Int) : Int := if inZ base 0 65535 && inZ k 0 (nsB b - 1) then base + k else -1
def hasDec (b : BlkT) (k : Int) : Bool := ((b.sorts[k.toNat]?).map (·.dec)).getD false
def decoderB (b : BlkT) (base k : Int) : Int := if inZ base 0 65535 && inZ k 0 (nsB b - 1) && hasDec b k then base + nsB b + decsN b k else -1
def ctorB (b : BlkT) (base c : Int) : Int := if inZ base 0 65535 && inZ c 0 (ncB b - 1) then base + nsB b + decsN b (nsB b) + c else -1
def elimB (b : BlkT) (base k : Int) : Int := if inZ base 0 65535 && inZ k 0 (nsB b - 1) then base + nsB b + decsN b (nsB b) + ncB b + k else -1
def noneT (t : Tm) : Bool := decide (t.k = 0) && decide (t.n = 0) && decide (t.kids.length = 0)
def openT (t : Tm) (v : Int) : Bool := scopeT t v 65536
def opensFrom : List Tm → Int → Bool | [], _ => true | t :: l, v => openT t v && opensFrom l (v + 1)
def opensAll (l : List Tm) (v : Int) : Bool := l.all fun t => openT t v
def idxLen (b : BlkT) (s : Int) : Int := ((b.sorts[s.toNat]?).map (fun x => (x.idx.length : Int))).getD (-1)
def argOk (b : BlkT) (a : ArgT) (i : Int) : Bool :=
  if a.r then noneT a.ty && decide (a.dom.length ≤ 12) && inZ a.sort 0 (nsB b - 1) && decide ((a.idx.length : Int) = idxLen b a.sort) && opensFrom a.dom i && opensAll a.idx (i + a.dom.length)
  else openT a.ty i && decide (a.dom.length + a.idx.length = 0) && decide (a.sort = 0)
def argsOk (b : BlkT) : List ArgT → Int → Bool | [], _ => true | a :: l, i => argOk b a i && argsOk b l (i + 1)
def idxOk (b : BlkT) (k : Int) : List ArgT → Int → Bool | [], _ => true | a :: l, i => (argOk b a i && (!a.r || (decide (a.dom.length = 0) && decide (a.sort < k)))) && idxOk b k l (i + 1)
def sortOk (b : BlkT) (s : SortT) (k : Int) : Bool := decide (s.idx.length ≤ 12) && inZ s.level 0 6 && idxOk b k s.idx 0 && (if s.dec then !(s.idx.any (·.r)) && openT s.decT s.idx.length else noneT s.decT)
def sortsOk (b : BlkT) : List SortT → Int → Bool | [], _ => true | s :: l, k => sortOk b s k && sortsOk b l (k + 1)
def conOk (b : BlkT) (c : ConT) : Bool := inZ c.sort 0 (nsB b - 1) && decide (c.args.length ≤ 12) && decide ((c.idx.length : Int) = idxLen b c.sort) && argsOk b c.args 0 && opensAll c.idx c.args.length && (if hasDec b c.sort then openT c.dec c.args.length else noneT c.dec)
def shapeB (b : BlkT) : Bool := inZ (nsB b) 1 4 && decide (b.cons.length ≤ 8) && inZ b.elim 0 6 && sortsOk b b.sorts 0 && b.cons.all (conOk b)
end Go.Proofs.Ytggefpkfikimiaa
/- porismlaw07's Heavy: no conditions but sizes. -/
namespace Go.Proofs.Ytggefpkfikimiaa
open Go.RowKit
set_option linter.unusedVariables false

def heavyA (a : ArgT) : Bool := heavyB [a.ty] || heavyB a.dom || heavyB a.idx
def heavyArgsB (l : List ArgT) : Bool := decide (20 < l.length) || l.any heavyA
/-- A term in a literal row of one. -/
theorem heavy_lit (t : Tm) (hs : size t ≤ 1048576) (w : World) (v : Value) (hA : At w t.kids v) :
    Calls Try.prog 29 #[.slice (some ⟨w.heap.size, 0, none⟩) 1 1] (w.alloc (.cells #[.int .i64 t.k, .int .i64 t.n, v] 25)) fun e w' => e = .returned (.bool (heavyB [t])) ∧ Below w.heap.size w w' := by
  have HH := heavy_any [t] (by simp [sizeL]; omega) _ _ (ats_cells1 hA.toS fun _ h => h).at
  exact HH.mono fun e w' ⟨he, hb⟩ => ⟨he, (below_al w _).trans (hb.mono (by simp))⟩
theorem anyA_take {α : Type} {l : List α} {j : Nat} (h : j < l.length) (f : α → Bool) : (l.take (j + 1)).any f = ((l.take j).any f || f l[j]) := by
  rw [List.take_succ_eq_append_getElem h, List.any_append]; simp
theorem any_of {α : Type} {l : List α} {j : Nat} (h : j < l.length) (f : α → Bool) (hf : f l[j] = true) : l.any f = true := List.any_eq_true.2 ⟨l[j], List.getElem_mem h, hf⟩
set_option maxRecDepth 100000 in
set_option maxHeartbeats 2000000 in
theorem heavyargs_any (l : List ArgT) (hs : argsN l ≤ 1048576) (w : World) (v : Value) (hA : ARow w l v) :
    Calls Try.prog 28 #[v] w fun e w' => e = .returned (.bool (heavyArgsB l)) ∧ Below w.heap.size w w' := by
  obtain ⟨a, cap, rfl⟩ := hA.shape
  have hll := argsN_len l
  by_cases h20 : 20 < l.length
  · have e1 : decide ((20 : Int) < (l.length : Int)) = true := by simp; omega
    have HE := Lib.hid (show heavyArgsB l = true by rw [heavyArgsB, decide_eq_true h20]; rfl)
    clear hA
    go_enter Try.func28, Try.ntmps28
    go_wp2_with fail
    go_ret
    exact ⟨ret_bool HE.out.symm, Below.refl _ _⟩
  have e1 : decide ((20 : Int) < (l.length : Int)) = false := by simp; omega
  have E := Lib.hid (show heavyArgsB l = l.any heavyA by rw [heavyArgsB, decide_eq_false h20]; rfl)
  have HA := Lib.hid hA
  clear h20 hA
  go_enter Try.func28, Try.ntmps28
  go_wp2_with fail
  go_loopw [3] (fun i wr => ∃ j : Nat, j ≤ l.length ∧ i = .int .i64 j ∧ (l.take j).any heavyA = false ∧ Below w.heap.size w wr) (fun i _ => l.length - (RowKit.intOf i).toNat)
  case atStart => exact ⟨0, Nat.zero_le _, rfl, rfl, Below.refl _ _⟩
  case round =>
    obtain ⟨j, hj, rfl, han, hbw⟩ := hrel
    by_cases hlt : j < l.length
    · obtain ⟨b, off, vt, vd, vi, rfl, gt, gd, gi, k0, k1, k2, k3, k4, k5, k6⟩ := (HA.out.bel hbw).at hlt
      obtain ⟨at1, ct1, hvt⟩ := gt.shape
      obtain ⟨ad1, cd1, hvd⟩ := gd.shape
      obtain ⟨ai1, ci1, hvi⟩ := gi.shape
      rw [hvt] at gt k3
      rw [hvd] at gd k4
      rw [hvi] at gi k6
      have hsz := argN_le (List.getElem_mem hlt)
      have hn : argN l[j] = size l[j].ty + sizeL l[j].dom + sizeL l[j].idx + 1 := rfl
      have H1 := Lib.hid (heavy_lit l[j].ty (by omega) wr _ gt)
      have H2 := Lib.hid (fun W (hW : Below wr.heap.size wr W) => heavy_any l[j].dom (by omega) W _ (gd.bel hW (Nat.le_refl _)))
      have H3 := Lib.hid (fun W (hW : Below wr.heap.size wr W) => heavy_any l[j].idx (by omega) W _ (gi.bel hW (Nat.le_refl _)))
      have HT := Lib.hid (anyA_take hlt heavyA)
      have HAN := Lib.hid han
      have HB := Lib.hid hbw
      have K := Lib.hid (And.intro k4 k6)
      have hji : (j : Int) < (l.length : Int) := by omega
      have hj0 : (0 : Int) ≤ (j : Int) := by omega
      have hjm : j < 1048576 := by omega
      clear gt gd gi hvt hvd hvi han hbw k0 k4 k5 k6 hn hsz hs
      cases h1 : heavyB [l[j].ty] with
      | true =>
        rw [h1] at H1
        have HF := Lib.hid (any_of hlt heavyA (by rw [heavyA, h1]; rfl))
        clear h1
        go_wp2_with fail
        refine H1.out.mono ?_
        rintro e w1 ⟨rfl, hb1⟩
        have HB1 := Lib.hid (HB.out.trans (hb1.mono HB.out.size))
        clear hb1
        go_wp2_with fail
        go_ret
        exact ⟨ret_bool (by rw [E.out, HF.out]), HB1.out⟩
      | false =>
        rw [h1] at H1
        cases h2 : heavyB l[j].dom with
        | true =>
          rw [h2] at H2
          have HF := Lib.hid (any_of hlt heavyA (by rw [heavyA, h1, h2]; rfl))
          clear h1 h2
          go_wp2_with fail
          refine H1.out.mono ?_
          rintro e w1 ⟨rfl, hb1⟩
          have q4 := gcell hb1 K.out.1
          have HB1 := Lib.hid hb1
          clear hb1 k1 k2 k3
          go_wp2_with fail
          refine (H2.out w1 HB1.out).mono ?_
          rintro e w2 ⟨rfl, hb2⟩
          have HB2 := Lib.hid ((HB.out.trans (HB1.out.mono HB.out.size)).trans (hb2.mono (Nat.le_trans HB.out.size HB1.out.size)))
          clear hb2 q4
          go_wp2_with fail
          go_ret
          exact ⟨ret_bool (by rw [E.out, HF.out]), HB2.out⟩
        | false =>
          rw [h2] at H2
          cases h3 : heavyB l[j].idx with
          | true =>
            rw [h3] at H3
            have HF := Lib.hid (any_of hlt heavyA (by rw [heavyA, h1, h2, h3]; rfl))
            clear h1 h2 h3
            go_wp2_with fail
            refine H1.out.mono ?_
            rintro e w1 ⟨rfl, hb1⟩
            have q4 := gcell hb1 K.out.1
            have HB1 := Lib.hid hb1
            clear hb1 k1 k2 k3
            go_wp2_with fail
            refine (H2.out w1 HB1.out).mono ?_
            rintro e w2 ⟨rfl, hb2⟩
            have HB2 := Lib.hid (HB1.out.trans (hb2.mono HB1.out.size))
            have q6 := gcell HB2.out K.out.2
            clear hb2 q4
            go_wp2_with fail
            refine (H3.out w2 HB2.out).mono ?_
            rintro e w3 ⟨rfl, hb3⟩
            have HB3 := Lib.hid ((HB.out.trans (HB2.out.mono HB.out.size)).trans (hb3.mono (Nat.le_trans HB.out.size HB2.out.size)))
            clear hb3 q6
            go_wp2_with fail
            go_ret
            exact ⟨ret_bool (by rw [E.out, HF.out]), HB3.out⟩
          | false =>
            rw [h3] at H3
            have HF := Lib.hid (show heavyA l[j] = false by rw [heavyA, h1, h2, h3]; rfl)
            clear h1 h2 h3
            go_wp2_with fail
            refine H1.out.mono ?_
            rintro e w1 ⟨rfl, hb1⟩
            have q4 := gcell hb1 K.out.1
            have HB1 := Lib.hid hb1
            clear hb1 k1 k2 k3
            go_wp2_with fail
            refine (H2.out w1 HB1.out).mono ?_
            rintro e w2 ⟨rfl, hb2⟩
            have HB2 := Lib.hid (HB1.out.trans (hb2.mono HB1.out.size))
            have q6 := gcell HB2.out K.out.2
            clear hb2 q4
            go_wp2_with fail
            refine (H3.out w2 HB2.out).mono ?_
            rintro e w3 ⟨rfl, hb3⟩
            have HB3 := Lib.hid ((HB.out.trans (HB2.out.mono HB.out.size)).trans (hb3.mono (Nat.le_trans HB.out.size HB2.out.size)))
            clear hb3 q6
            go_wp2_with fail
            go_roundw
            case rel => exact ⟨j + 1, hlt, by go_num, by rw [HT.out, HAN.out, HF.out]; rfl, HB3.out⟩
            case measure => simp [RowKit.intOf]; omega
    · obtain rfl : j = l.length := by omega
      have hnl : ¬ (l.length : Int) < (l.length : Int) := by omega
      have HAN := Lib.hid han
      have HB := Lib.hid hbw
      clear han hbw
      go_wp2_with fail
      go_ret
      exact ⟨ret_bool (by have := HAN.out; rw [List.take_length] at this; rw [E.out, this]), HB.out⟩
end Go.Proofs.Ytggefpkfikimiaa
/- porismlaw07's Heavy of a block: no conditions but sizes. -/
namespace Go.Proofs.Ytggefpkfikimiaa
open Go.RowKit
set_option linter.unusedVariables false

def heavyS (s : SortT) : Bool := heavyArgsB s.idx || heavyB [s.decT]
def heavyC (c : ConT) : Bool := heavyArgsB c.args || heavyB c.idx || heavyB [c.dec]
def heavyBlk (b : BlkT) : Bool := decide (10 < b.sorts.length) || decide (20 < b.cons.length) || b.sorts.any heavyS || b.cons.any heavyC
/-- A block in its box. -/
def OneB (w0 : World) (B1 : Nat) (b : BlkT) (vs vc : Value) (W : World) : Prop := W.heap[B1]? = some (.cells #[vs, vc, .int .i64 b.elim] 33 (0, 0)) ∧ BAt W b vs vc ∧ Below w0.heap.size w0 W
theorem OneB.bel {w0 W W' : World} {B1 : Nat} {b : BlkT} {vs vc : Value} (h : OneB w0 B1 b vs vc W) (hb : Below W.heap.size W W') : OneB w0 B1 b vs vc W' :=
  ⟨(hb.block B1 (Array.getElem?_eq_some_iff.1 h.1).1).trans h.1, h.2.1.bel hb, h.2.2.trans (hb.mono h.2.2.size)⟩
theorem oneb_start (w : World) (b : BlkT) (vs vc : Value) (h : BAt w b vs vc) : OneB w w.heap.size b vs vc (w.alloc (.cells #[vs, vc, .int .i64 b.elim] 33)) :=
  ⟨World.alloc_heap_new w _, h.bel (below_al w _), below_al w _⟩
theorem OneB.cells {w0 W : World} {B1 : Nat} {b : BlkT} {vs vc : Value} (h : OneB w0 B1 b vs vc W) : W.cell? ⟨B1, 0, none⟩ = some vs ∧ W.cell? ⟨B1, 1, none⟩ = some vc ∧ W.cell? ⟨B1, 2, none⟩ = some (.int .i64 b.elim) := by
  have h1 := h.1
  refine ⟨?_, ?_, ?_⟩ <;> simp [World.cell?, h1]
theorem BAt.shape {w : World} {b : BlkT} {vs vc : Value} (h : BAt w b vs vc) : ∃ p c p2 c2, vs = .slice p b.sorts.length c ∧ vc = .slice p2 b.cons.length c2 := by
  obtain ⟨p, c, e⟩ := h.1.shape
  obtain ⟨p2, c2, e2⟩ := h.2.shape
  exact ⟨p, c, p2, c2, e, e2⟩
set_option maxRecDepth 100000 in
set_option maxHeartbeats 4000000 in
theorem heavyblk_any (b : BlkT) (hs : blkN b ≤ 1048576) (w : World) (vs vc : Value) (hA : BAt w b vs vc) :
    Calls Try.prog 14 #[.agg #[vs, vc, .int .i64 b.elim]] w fun e w' => e = .returned (.bool (heavyBlk b)) ∧ Below w.heap.size w w' := by
  obtain ⟨ps, cs, pc, cc, rfl, rfl⟩ := hA.shape
  have hls := sortsN_len b.sorts
  have hlc := consN_len b.cons
  have hbn : blkN b = sortsN b.sorts + consN b.cons + 1 := rfl
  have O0 := Lib.hid (oneb_start w b _ _ hA)
  clear hA
  by_cases h10 : 10 < b.sorts.length
  · have e1 : decide ((10 : Int) < (b.sorts.length : Int)) = true := by simp; omega
    have HE := Lib.hid (show heavyBlk b = true by rw [heavyBlk, decide_eq_true h10]; rfl)
    go_enter Try.func14, Try.ntmps14
    go_wp2_with fail
    go_ret
    exact ⟨ret_bool HE.out.symm, O0.out.2.2⟩
  by_cases h20 : 20 < b.cons.length
  · have e1 : decide ((10 : Int) < (b.sorts.length : Int)) = false := by simp; omega
    have e2 : decide ((20 : Int) < (b.cons.length : Int)) = true := by simp; omega
    have HE := Lib.hid (show heavyBlk b = true by rw [heavyBlk, decide_eq_true h20, Bool.or_true]; rfl)
    go_enter Try.func14, Try.ntmps14
    go_wp2_with fail
    go_ret
    exact ⟨ret_bool HE.out.symm, O0.out.2.2⟩
  have e1 : decide ((10 : Int) < (b.sorts.length : Int)) = false := by simp; omega
  have e2 : decide ((20 : Int) < (b.cons.length : Int)) = false := by simp; omega
  have E := Lib.hid (show heavyBlk b = (b.sorts.any heavyS || b.cons.any heavyC) by rw [heavyBlk, decide_eq_false h10, decide_eq_false h20]; rfl)
  clear h10 h20
  go_enter Try.func14, Try.ntmps14
  go_wp2_with fail
  clear e1 e2
  go_loopw [3] (fun i wr => ∃ j : Nat, j ≤ b.sorts.length ∧ i = .int .i64 j ∧ (b.sorts.take j).any heavyS = false ∧ OneB w w.heap.size b (.slice ps b.sorts.length cs) (.slice pc b.cons.length cc) wr) (fun i _ => b.sorts.length - (RowKit.intOf i).toNat)
  case atStart => exact ⟨0, Nat.zero_le _, rfl, rfl, O0.out⟩
  case round =>
    clear O0
    obtain ⟨j, hj, rfl, han, hO⟩ := hrel
    obtain ⟨x0, x1, x2⟩ := hO.cells
    by_cases hlt : j < b.sorts.length
    · obtain ⟨B, off, va, vt, rfl, ga, gt, k0, k1, k2, k3, k4, k5⟩ := SRow.at hO.2.1.1 hlt
      obtain ⟨aa1, ca1, hva⟩ := ga.shape
      obtain ⟨at1, ct1, hvt⟩ := gt.shape
      rw [hva] at ga k0
      rw [hvt] at gt k5
      have hsz := sortN_le (List.getElem_mem hlt)
      have hn : sortN b.sorts[j] = argsN b.sorts[j].idx + size b.sorts[j].decT + 1 := rfl
      have H1 := Lib.hid (heavyargs_any b.sorts[j].idx (by omega) wr _ ga)
      have H2 := Lib.hid (fun W (hW : Below wr.heap.size wr W) => heavy_lit b.sorts[j].decT (by omega) W _ (gt.bel hW (Nat.le_refl _)))
      have HT := Lib.hid (anyA_take hlt heavyS)
      have HAN := Lib.hid han
      have HO := Lib.hid hO
      have K := Lib.hid (And.intro k3 (And.intro k4 k5))
      have hji : (j : Int) < (b.sorts.length : Int) := by omega
      have hj0 : (0 : Int) ≤ (j : Int) := by omega
      have hjm : j < 1048576 := by omega
      clear ga gt hva hvt han hO k1 k2 k3 k4 k5 hn hsz hbn
      cases h1 : heavyArgsB b.sorts[j].idx with
      | true =>
        rw [h1] at H1
        have HF := Lib.hid (any_of hlt heavyS (by rw [heavyS, h1]; rfl))
        clear h1
        go_wp2_with fail
        refine H1.out.mono ?_
        rintro e w1 ⟨rfl, hb1⟩
        have HB1 := Lib.hid (HO.out.bel hb1)
        clear hb1
        go_wp2_with fail
        go_ret
        exact ⟨ret_bool (by rw [E.out, HF.out]; rfl), HB1.out.2.2⟩
      | false =>
        rw [h1] at H1
        cases h2 : heavyB [b.sorts[j].decT] with
        | true =>
          rw [h2] at H2
          have HF := Lib.hid (any_of hlt heavyS (by rw [heavyS, h1, h2]; rfl))
          clear h1 h2
          go_wp2_with fail
          refine H1.out.mono ?_
          rintro e w1 ⟨rfl, hb1⟩
          have HO1 := Lib.hid (HO.out.bel hb1)
          have HB1 := Lib.hid hb1
          obtain ⟨z0, z1, z2⟩ := HO1.out.cells
          have q3 := gcell hb1 K.out.1
          have q4 := gcell hb1 K.out.2.1
          have q5 := gcell hb1 K.out.2.2
          clear hb1 x0 x1 x2 k0
          go_wp2_with fail
          refine (H2.out w1 HB1.out).mono ?_
          rintro e w2 ⟨rfl, hb2⟩
          have HB2 := Lib.hid (HO1.out.bel hb2)
          clear hb2 q3 q4 q5 z0 z1 z2
          go_wp2_with fail
          go_ret
          exact ⟨ret_bool (by rw [E.out, HF.out]; rfl), HB2.out.2.2⟩
        | false =>
          rw [h2] at H2
          have HF := Lib.hid (show heavyS b.sorts[j] = false by rw [heavyS, h1, h2]; rfl)
          clear h1 h2
          go_wp2_with fail
          refine H1.out.mono ?_
          rintro e w1 ⟨rfl, hb1⟩
          have HO1 := Lib.hid (HO.out.bel hb1)
          have HB1 := Lib.hid hb1
          obtain ⟨z0, z1, z2⟩ := HO1.out.cells
          have q3 := gcell hb1 K.out.1
          have q4 := gcell hb1 K.out.2.1
          have q5 := gcell hb1 K.out.2.2
          clear hb1 x0 x1 x2 k0
          go_wp2_with fail
          refine (H2.out w1 HB1.out).mono ?_
          rintro e w2 ⟨rfl, hb2⟩
          have HB2 := Lib.hid (HO1.out.bel hb2)
          clear hb2 q3 q4 q5 z0 z1 z2
          go_wp2_with fail
          go_roundw
          case rel => exact ⟨j + 1, hlt, by go_num, by rw [HT.out, HAN.out, HF.out]; rfl, HB2.out⟩
          case measure => simp [RowKit.intOf]; omega
    · obtain rfl : j = b.sorts.length := by omega
      have hnl : ¬ (b.sorts.length : Int) < (b.sorts.length : Int) := by omega
      have HO := Lib.hid hO
      have E2 : Hid (heavyBlk b = b.cons.any heavyC) := by
        rw [List.take_length] at han
        unfold Hid
        rw [E.out, han]; rfl
      clear han hO E
      go_wp2_with fail
      clear x0 x1 x2 hnl hlt hj
      go_loopw [4] (fun i wr => ∃ j : Nat, j ≤ b.cons.length ∧ i = .int .i64 j ∧ (b.cons.take j).any heavyC = false ∧ OneB w w.heap.size b (.slice ps b.sorts.length cs) (.slice pc b.cons.length cc) wr) (fun i _ => b.cons.length - (RowKit.intOf i).toNat)
      case atStart => exact ⟨0, Nat.zero_le _, rfl, rfl, HO.out⟩
      case round =>
        clear HO
        obtain ⟨j, hj, rfl, han, hO⟩ := hrel
        obtain ⟨x0, x1, x2⟩ := hO.cells
        by_cases hlt : j < b.cons.length
        · obtain ⟨B, off, va, vi, vt, rfl, ga, gi, gt, k0, k1, k2, k3, k4, k5⟩ := CRow.at hO.2.1.2 hlt
          obtain ⟨aa1, ca1, hva⟩ := ga.shape
          obtain ⟨ai1, ci1, hvi⟩ := gi.shape
          obtain ⟨at1, ct1, hvt⟩ := gt.shape
          rw [hva] at ga k1
          rw [hvi] at gi k2
          rw [hvt] at gt k5
          have hsz := conN_le (List.getElem_mem hlt)
          have hn : conN b.cons[j] = argsN b.cons[j].args + sizeL b.cons[j].idx + size b.cons[j].dec + 1 := rfl
          have H1 := Lib.hid (heavyargs_any b.cons[j].args (by omega) wr _ ga)
          have H2 := Lib.hid (fun W (hW : Below wr.heap.size wr W) => heavy_any b.cons[j].idx (by omega) W _ (gi.bel hW (Nat.le_refl _)))
          have H3 := Lib.hid (fun W (hW : Below wr.heap.size wr W) => heavy_lit b.cons[j].dec (by omega) W _ (gt.bel hW (Nat.le_refl _)))
          have HT := Lib.hid (anyA_take hlt heavyC)
          have HAN := Lib.hid han
          have HO := Lib.hid hO
          have K := Lib.hid (And.intro k2 (And.intro k3 (And.intro k4 k5)))
          have hji : (j : Int) < (b.cons.length : Int) := by omega
          have hj0 : (0 : Int) ≤ (j : Int) := by omega
          have hjm : j < 1048576 := by omega
          clear ga gi gt hva hvi hvt han hO k0 k2 k3 k4 k5 hn hsz hbn
          cases h1 : heavyArgsB b.cons[j].args with
          | true =>
            rw [h1] at H1
            have HF := Lib.hid (any_of hlt heavyC (by rw [heavyC, h1]; rfl))
            clear h1
            go_wp2_with fail
            refine H1.out.mono ?_
            rintro e w1 ⟨rfl, hb1⟩
            have HB1 := Lib.hid (HO.out.bel hb1)
            clear hb1
            go_wp2_with fail
            go_ret
            exact ⟨ret_bool (by rw [E2.out, HF.out]), HB1.out.2.2⟩
          | false =>
            rw [h1] at H1
            cases h2 : heavyB b.cons[j].idx with
            | true =>
              rw [h2] at H2
              have HF := Lib.hid (any_of hlt heavyC (by rw [heavyC, h1, h2]; rfl))
              clear h1 h2
              go_wp2_with fail
              refine H1.out.mono ?_
              rintro e w1 ⟨rfl, hb1⟩
              have HO1 := Lib.hid (HO.out.bel hb1)
              have HB1 := Lib.hid hb1
              obtain ⟨z0, z1, z2⟩ := HO1.out.cells
              have q2 := gcell hb1 K.out.1
              clear hb1 x0 x1 x2 k1
              go_wp2_with fail
              refine (H2.out w1 HB1.out).mono ?_
              rintro e w2 ⟨rfl, hb2⟩
              have HB2 := Lib.hid (HO1.out.bel hb2)
              clear hb2 q2 z0 z1 z2
              go_wp2_with fail
              go_ret
              exact ⟨ret_bool (by rw [E2.out, HF.out]), HB2.out.2.2⟩
            | false =>
              rw [h2] at H2
              cases h3 : heavyB [b.cons[j].dec] with
              | true =>
                rw [h3] at H3
                have HF := Lib.hid (any_of hlt heavyC (by rw [heavyC, h1, h2, h3]; rfl))
                clear h1 h2 h3
                go_wp2_with fail
                refine H1.out.mono ?_
                rintro e w1 ⟨rfl, hb1⟩
                have HO1 := Lib.hid (HO.out.bel hb1)
                have HB1 := Lib.hid hb1
                obtain ⟨z0, z1, z2⟩ := HO1.out.cells
                have q2 := gcell hb1 K.out.1
                clear hb1 x0 x1 x2 k1
                go_wp2_with fail
                refine (H2.out w1 HB1.out).mono ?_
                rintro e w2 ⟨rfl, hb2⟩
                have HB2 := Lib.hid (HO1.out.bel hb2)
                have HG2 := Lib.hid (HB1.out.trans (hb2.mono HB1.out.size))
                obtain ⟨y0, y1, y2⟩ := HB2.out.cells
                have q3 := gcell HG2.out K.out.2.1
                have q4 := gcell HG2.out K.out.2.2.1
                have q5 := gcell HG2.out K.out.2.2.2
                clear hb2 q2 z0 z1 z2
                go_wp2_with fail
                refine (H3.out w2 HG2.out).mono ?_
                rintro e w3 ⟨rfl, hb3⟩
                have HB3 := Lib.hid (HB2.out.bel hb3)
                clear hb3 q3 q4 q5 y0 y1 y2
                go_wp2_with fail
                go_ret
                exact ⟨ret_bool (by rw [E2.out, HF.out]), HB3.out.2.2⟩
              | false =>
                rw [h3] at H3
                have HF := Lib.hid (show heavyC b.cons[j] = false by rw [heavyC, h1, h2, h3]; rfl)
                clear h1 h2 h3
                go_wp2_with fail
                refine H1.out.mono ?_
                rintro e w1 ⟨rfl, hb1⟩
                have HO1 := Lib.hid (HO.out.bel hb1)
                have HB1 := Lib.hid hb1
                obtain ⟨z0, z1, z2⟩ := HO1.out.cells
                have q2 := gcell hb1 K.out.1
                clear hb1 x0 x1 x2 k1
                go_wp2_with fail
                refine (H2.out w1 HB1.out).mono ?_
                rintro e w2 ⟨rfl, hb2⟩
                have HB2 := Lib.hid (HO1.out.bel hb2)
                have HG2 := Lib.hid (HB1.out.trans (hb2.mono HB1.out.size))
                obtain ⟨y0, y1, y2⟩ := HB2.out.cells
                have q3 := gcell HG2.out K.out.2.1
                have q4 := gcell HG2.out K.out.2.2.1
                have q5 := gcell HG2.out K.out.2.2.2
                clear hb2 q2 z0 z1 z2
                go_wp2_with fail
                refine (H3.out w2 HG2.out).mono ?_
                rintro e w3 ⟨rfl, hb3⟩
                have HB3 := Lib.hid (HB2.out.bel hb3)
                clear hb3 q3 q4 q5 y0 y1 y2
                go_wp2_with fail
                go_roundw
                case rel => exact ⟨j + 1, hlt, by go_num, by rw [HT.out, HAN.out, HF.out]; rfl, HB3.out⟩
                case measure => simp [RowKit.intOf]; omega
        · obtain rfl : j = b.cons.length := by omega
          have hnl : ¬ (b.cons.length : Int) < (b.cons.length : Int) := by omega
          have HAN := Lib.hid han
          have HO := Lib.hid hO
          clear han hO
          go_wp2_with fail
          go_ret
          exact ⟨ret_bool (by have := HAN.out; rw [List.take_length] at this; rw [E2.out, this]), HO.out.2.2⟩
end Go.Proofs.Ytggefpkfikimiaa
