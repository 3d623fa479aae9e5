/- Blocks as plain trees; when a block lies in memory; how it is carried from world to world. No conditions. -/
import Derived.Test.YtcegocmndfoflaaRe
import Derived.Test.YtcegocmndfoflaaRr
namespace Go.Proofs.Ytcegocmndfoflaa
open Go.RowKit
set_option linter.unusedVariables false

structure ArgT where
  r : Bool
  ty : Tm
  dom : List Tm
  sort : Int
  idx : List Tm
structure SortT where
  idx : List ArgT
  level : Int
  dec : Bool
  decT : Tm
structure ConT where
  sort : Int
  args : List ArgT
  idx : List Tm
  dec : Tm
structure BlkT where
  sorts : List SortT
  cons : List ConT
  elim : Int
/-- A row of things, each of sz cells, of which C tells. -/
inductive GAt {α : Type} (sz : Nat) (C : α → List Value → Prop) (w : World) : List α → Value → Prop
  | nl : GAt sz C w [] (.slice none 0 0)
  | em (a : Addr) (cap : Nat) : GAt sz C w [] (.slice (some a) 0 cap)
  | row (l : List α) (b off cap : Nat) (cs : Nat → List Value) (h0 : 0 < l.length) (hlen : l.length ≤ cap) (hm : cap ≤ maxLen) (hC : ∀ i (_ : i < l.length), C l[i] (cs i) ∧ (cs i).length = sz)
      (hk : ∀ i (_ : i < l.length), ∀ r, r < sz → w.cell? ⟨b, off + i * sz + r, none⟩ = (cs i)[r]?) : GAt sz C w l (.slice (some ⟨b, off, none⟩) l.length cap)
theorem GAt.shape {α : Type} {sz : Nat} {C : α → List Value → Prop} {w : World} {l : List α} {v : Value} (h : GAt sz C w l v) : ∃ a cap, v = .slice a l.length cap := by
  cases h with
  | nl => exact ⟨none, 0, rfl⟩
  | em a cap => exact ⟨some a, cap, rfl⟩
  | row l b off cap => exact ⟨_, _, rfl⟩
theorem GAt.pos {α : Type} {sz : Nat} {C : α → List Value → Prop} {w : World} {l : List α} {v : Value} (h : GAt sz C w l v) (h0 : 0 < l.length) : ∃ (b off cap : Nat) (cs : Nat → List Value), v = .slice (some ⟨b, off, none⟩) l.length cap ∧ l.length ≤ cap ∧ cap ≤ maxLen ∧
    (∀ i (_ : i < l.length), C l[i] (cs i) ∧ (cs i).length = sz) ∧ ∀ i (_ : i < l.length), ∀ r, r < sz → w.cell? ⟨b, off + i * sz + r, none⟩ = (cs i)[r]? := by
  cases h with
  | nl => simp at h0
  | em a cap => simp at h0
  | row l b off cap cs _ h1 h2 h3 h4 => exact ⟨b, off, cap, cs, rfl, h1, h2, h3, h4⟩
theorem GAt.bel {α : Type} {sz : Nat} {C C' : α → List Value → Prop} {w w' : World} (hg : Below w.heap.size w w') (hC' : ∀ a cs, C a cs → C' a cs) {l : List α} {v : Value} (h : GAt sz C w l v) : GAt sz C' w' l v := by
  cases h with
  | nl => exact .nl
  | em a cap => exact .em a cap
  | row l b off cap cs h0 h1 h2 h3 h4 =>
    refine .row l b off cap cs h0 h1 h2 (fun i hi => ⟨hC' _ _ (h3 i hi).1, (h3 i hi).2⟩) fun i hi r hr => ?_
    have hc := h4 i hi r hr
    have hlt : r < (cs i).length := by rw [(h3 i hi).2]; exact hr
    rw [List.getElem?_eq_getElem hlt] at hc ⊢
    exact gcell hg hc
def argC (w : World) (a : ArgT) (cs : List Value) : Prop := ∃ vt vd vi, cs = [.bool a.r, .int .i64 a.ty.k, .int .i64 a.ty.n, vt, vd, .int .i64 a.sort, vi] ∧ At w a.ty.kids vt ∧ At w a.dom vd ∧ At w a.idx vi
abbrev ARow (w : World) : List ArgT → Value → Prop := GAt 7 (argC w) w
def sortC (w : World) (s : SortT) (cs : List Value) : Prop := ∃ va vt, cs = [va, .int .i64 s.level, .bool s.dec, .int .i64 s.decT.k, .int .i64 s.decT.n, vt] ∧ ARow w s.idx va ∧ At w s.decT.kids vt
def conC (w : World) (c : ConT) (cs : List Value) : Prop := ∃ va vi vt, cs = [.int .i64 c.sort, va, vi, .int .i64 c.dec.k, .int .i64 c.dec.n, vt] ∧ ARow w c.args va ∧ At w c.idx vi ∧ At w c.dec.kids vt
abbrev SRow (w : World) : List SortT → Value → Prop := GAt 6 (sortC w) w
abbrev CRow (w : World) : List ConT → Value → Prop := GAt 6 (conC w) w
def BAt (w : World) (b : BlkT) (vs vc : Value) : Prop := SRow w b.sorts vs ∧ CRow w b.cons vc
theorem argC_bel {w w' : World} (hg : Below w.heap.size w w') (a : ArgT) (cs : List Value) (h : argC w a cs) : argC w' a cs := by
  obtain ⟨vt, vd, vi, e, h1, h2, h3⟩ := h
  exact ⟨vt, vd, vi, e, h1.bel hg (Nat.le_refl _), h2.bel hg (Nat.le_refl _), h3.bel hg (Nat.le_refl _)⟩
theorem ARow.bel {w w' : World} (hg : Below w.heap.size w w') {l : List ArgT} {v : Value} (h : ARow w l v) : ARow w' l v := GAt.bel hg (argC_bel hg) h
theorem sortC_bel {w w' : World} (hg : Below w.heap.size w w') (a : SortT) (cs : List Value) (h : sortC w a cs) : sortC w' a cs := by
  obtain ⟨va, vt, e, h1, h2⟩ := h
  exact ⟨va, vt, e, ARow.bel hg h1, h2.bel hg (Nat.le_refl _)⟩
theorem conC_bel {w w' : World} (hg : Below w.heap.size w w') (a : ConT) (cs : List Value) (h : conC w a cs) : conC w' a cs := by
  obtain ⟨va, vi, vt, e, h1, h2, h3⟩ := h
  exact ⟨va, vi, vt, e, ARow.bel hg h1, h2.bel hg (Nat.le_refl _), h3.bel hg (Nat.le_refl _)⟩
theorem BAt.bel {w w' : World} (hg : Below w.heap.size w w') {b : BlkT} {vs vc : Value} (h : BAt w b vs vc) : BAt w' b vs vc := ⟨GAt.bel hg (sortC_bel hg) h.1, GAt.bel hg (conC_bel hg) h.2⟩
/-- All numbers are such as an int holds. -/
def ArgT.fits (a : ArgT) : Prop := Fits a.ty ∧ (∀ u ∈ a.dom, Fits u) ∧ I64 a.sort ∧ ∀ u ∈ a.idx, Fits u
def SortT.fits (s : SortT) : Prop := (∀ a ∈ s.idx, ArgT.fits a) ∧ I64 s.level ∧ Fits s.decT
def ConT.fits (c : ConT) : Prop := I64 c.sort ∧ (∀ a ∈ c.args, ArgT.fits a) ∧ (∀ u ∈ c.idx, Fits u) ∧ Fits c.dec
def BlkT.fits (b : BlkT) : Prop := (∀ s ∈ b.sorts, SortT.fits s) ∧ (∀ c ∈ b.cons, ConT.fits c) ∧ I64 b.elim
/-- How great they are. -/
def argN (a : ArgT) : Nat := size a.ty + sizeL a.dom + sizeL a.idx + 1
def argsN : List ArgT → Nat | [] => 0 | a :: l => argN a + argsN l
def sortN (s : SortT) : Nat := argsN s.idx + size s.decT + 1
def sortsN : List SortT → Nat | [] => 0 | a :: l => sortN a + sortsN l
def conN (c : ConT) : Nat := argsN c.args + sizeL c.idx + size c.dec + 1
def consN : List ConT → Nat | [] => 0 | a :: l => conN a + consN l
def blkN (b : BlkT) : Nat := sortsN b.sorts + consN b.cons + 1
theorem argN_le {l : List ArgT} {a : ArgT} (h : a ∈ l) : argN a ≤ argsN l := by
  induction l with
  | nil => cases h
  | cons x l ih =>
    simp only [argsN]
    rcases List.mem_cons.1 h with rfl | h
    · omega
    · have := ih h; omega
theorem sortN_le {l : List SortT} {a : SortT} (h : a ∈ l) : sortN a ≤ sortsN l := by
  induction l with
  | nil => cases h
  | cons x l ih =>
    simp only [sortsN]
    rcases List.mem_cons.1 h with rfl | h
    · omega
    · have := ih h; omega
theorem conN_le {l : List ConT} {a : ConT} (h : a ∈ l) : conN a ≤ consN l := by
  induction l with
  | nil => cases h
  | cons x l ih =>
    simp only [consN]
    rcases List.mem_cons.1 h with rfl | h
    · omega
    · have := ih h; omega
theorem argsN_len (l : List ArgT) : l.length ≤ argsN l := by
  induction l with
  | nil => simp [argsN]
  | cons a l ih => simp only [argsN, argN, List.length_cons]; omega
theorem sortsN_len (l : List SortT) : l.length ≤ sortsN l := by
  induction l with
  | nil => simp [sortsN]
  | cons a l ih => simp only [sortsN, sortN, List.length_cons]; omega
theorem consN_len (l : List ConT) : l.length ≤ consN l := by
  induction l with
  | nil => simp [consN]
  | cons a l ih => simp only [consN, conN, List.length_cons]; omega
/-- A row, read off place by place. -/
theorem ARow.at {w : World} {l : List ArgT} {a : Option Addr} {c : Nat} (h : ARow w l (.slice a l.length c)) {i : Nat} (hi : i < l.length) : ∃ b off vt vd vi, a = some ⟨b, off, none⟩ ∧ At w l[i].ty.kids vt ∧ At w l[i].dom vd ∧ At w l[i].idx vi ∧
    w.cell? ⟨b, off + i * 7, none⟩ = some (.bool l[i].r) ∧ w.cell? ⟨b, off + i * 7 + 1, none⟩ = some (.int .i64 l[i].ty.k) ∧ w.cell? ⟨b, off + i * 7 + 2, none⟩ = some (.int .i64 l[i].ty.n) ∧ w.cell? ⟨b, off + i * 7 + 3, none⟩ = some vt ∧ w.cell? ⟨b, off + i * 7 + 4, none⟩ = some vd ∧ w.cell? ⟨b, off + i * 7 + 5, none⟩ = some (.int .i64 l[i].sort) ∧ w.cell? ⟨b, off + i * 7 + 6, none⟩ = some vi := by
  obtain ⟨b, off, cap, cs, e, h1, h2, h3, h4⟩ := h.pos (by omega)
  cases e
  obtain ⟨⟨vt, vd, vi, ec, g1, g2, g3⟩, _⟩ := h3 i hi
  have k := h4 i hi
  rw [ec] at k
  exact ⟨b, off, vt, vd, vi, rfl, g1, g2, g3, k 0 (by omega), k 1 (by omega), k 2 (by omega), k 3 (by omega), k 4 (by omega), k 5 (by omega), k 6 (by omega)⟩
theorem SRow.at {w : World} {l : List SortT} {a : Option Addr} {c : Nat} (h : SRow w l (.slice a l.length c)) {i : Nat} (hi : i < l.length) : ∃ b off va vt, a = some ⟨b, off, none⟩ ∧ ARow w l[i].idx va ∧ At w l[i].decT.kids vt ∧
    w.cell? ⟨b, off + i * 6, none⟩ = some va ∧ w.cell? ⟨b, off + i * 6 + 1, none⟩ = some (.int .i64 l[i].level) ∧ w.cell? ⟨b, off + i * 6 + 2, none⟩ = some (.bool l[i].dec) ∧ w.cell? ⟨b, off + i * 6 + 3, none⟩ = some (.int .i64 l[i].decT.k) ∧ w.cell? ⟨b, off + i * 6 + 4, none⟩ = some (.int .i64 l[i].decT.n) ∧ w.cell? ⟨b, off + i * 6 + 5, none⟩ = some vt := by
  obtain ⟨b, off, cap, cs, e, h1, h2, h3, h4⟩ := h.pos (by omega)
  cases e
  obtain ⟨⟨va, vt, ec, g1, g2⟩, _⟩ := h3 i hi
  have k := h4 i hi
  rw [ec] at k
  exact ⟨b, off, va, vt, rfl, g1, g2, k 0 (by omega), k 1 (by omega), k 2 (by omega), k 3 (by omega), k 4 (by omega), k 5 (by omega)⟩
theorem CRow.at {w : World} {l : List ConT} {a : Option Addr} {c : Nat} (h : CRow w l (.slice a l.length c)) {i : Nat} (hi : i < l.length) : ∃ b off va vi vt, a = some ⟨b, off, none⟩ ∧ ARow w l[i].args va ∧ At w l[i].idx vi ∧ At w l[i].dec.kids vt ∧
    w.cell? ⟨b, off + i * 6, none⟩ = some (.int .i64 l[i].sort) ∧ w.cell? ⟨b, off + i * 6 + 1, none⟩ = some va ∧ w.cell? ⟨b, off + i * 6 + 2, none⟩ = some vi ∧ w.cell? ⟨b, off + i * 6 + 3, none⟩ = some (.int .i64 l[i].dec.k) ∧ w.cell? ⟨b, off + i * 6 + 4, none⟩ = some (.int .i64 l[i].dec.n) ∧ w.cell? ⟨b, off + i * 6 + 5, none⟩ = some vt := by
  obtain ⟨b, off, cap, cs, e, h1, h2, h3, h4⟩ := h.pos (by omega)
  cases e
  obtain ⟨⟨va, vi, vt, ec, g1, g2, g3⟩, _⟩ := h3 i hi
  have k := h4 i hi
  rw [ec] at k
  exact ⟨b, off, va, vi, vt, rfl, g1, g2, g3, k 0 (by omega), k 1 (by omega), k 2 (by omega), k 3 (by omega), k 4 (by omega), k 5 (by omega)⟩
/-! ### The document's functions on blocks -/
def decsN (b : BlkT) (k : Int) : Int := ((b.sorts.take k.toNat).countP (·.dec) : Nat)
def nsB (b : BlkT) : Int := b.sorts.length
def ncB (b : BlkT) : Int := b.cons.length
def countB (b : BlkT) : Int := 2 * nsB b + decsN b (nsB b) + ncB b
def inZ (n lo hi : Int) : Bool := decide (lo ≤ n) && decide (n ≤ hi)
def formerB (b : BlkT) (base k : Int) : Int := if inZ base 0 65535 && inZ k 0 (nsB b - 1) then base + k else -1
def hasDec (b : BlkT) (k : Int) : Bool := ((b.sorts[k.toNat]?).map (·.dec)).getD false
def decoderB (b : BlkT) (base k : Int) : Int := if inZ base 0 65535 && inZ k 0 (nsB b - 1) && hasDec b k then base + nsB b + decsN b k else -1
def ctorB (b : BlkT) (base c : Int) : Int := if inZ base 0 65535 && inZ c 0 (ncB b - 1) then base + nsB b + decsN b (nsB b) + c else -1
def elimB (b : BlkT) (base k : Int) : Int := if inZ base 0 65535 && inZ k 0 (nsB b - 1) then base + nsB b + decsN b (nsB b) + ncB b + k else -1
def noneT (t : Tm) : Bool := decide (t.k = 0) && decide (t.n = 0) && decide (t.kids.length = 0)
def openT (t : Tm) (v : Int) : Bool := scopeT t v 65536
def opensFrom : List Tm → Int → Bool | [], _ => true | t :: l, v => openT t v && opensFrom l (v + 1)
def opensAll (l : List Tm) (v : Int) : Bool := l.all fun t => openT t v
def idxLen (b : BlkT) (s : Int) : Int := ((b.sorts[s.toNat]?).map (fun x => (x.idx.length : Int))).getD (-1)
def argOk (b : BlkT) (a : ArgT) (i : Int) : Bool :=
  if a.r then noneT a.ty && decide (a.dom.length ≤ 12) && inZ a.sort 0 (nsB b - 1) && decide ((a.idx.length : Int) = idxLen b a.sort) && opensFrom a.dom i && opensAll a.idx (i + a.dom.length)
  else openT a.ty i && decide (a.dom.length + a.idx.length = 0) && decide (a.sort = 0)
def argsOk (b : BlkT) : List ArgT → Int → Bool | [], _ => true | a :: l, i => argOk b a i && argsOk b l (i + 1)
def idxOk (b : BlkT) (k : Int) : List ArgT → Int → Bool | [], _ => true | a :: l, i => (argOk b a i && (!a.r || (decide (a.dom.length = 0) && decide (a.sort < k)))) && idxOk b k l (i + 1)
def sortOk (b : BlkT) (s : SortT) (k : Int) : Bool := decide (s.idx.length ≤ 12) && inZ s.level 0 6 && idxOk b k s.idx 0 && (if s.dec then !(s.idx.any (·.r)) && openT s.decT s.idx.length else noneT s.decT)
def sortsOk (b : BlkT) : List SortT → Int → Bool | [], _ => true | s :: l, k => sortOk b s k && sortsOk b l (k + 1)
def conOk (b : BlkT) (c : ConT) : Bool := inZ c.sort 0 (nsB b - 1) && decide (c.args.length ≤ 12) && decide ((c.idx.length : Int) = idxLen b c.sort) && argsOk b c.args 0 && opensAll c.idx c.args.length && (if hasDec b c.sort then openT c.dec c.args.length else noneT c.dec)
def shapeB (b : BlkT) : Bool := inZ (nsB b) 1 4 && decide (b.cons.length ≤ 8) && inZ b.elim 0 6 && sortsOk b b.sorts 0 && b.cons.all (conOk b)
end Go.Proofs.Ytcegocmndfoflaa
