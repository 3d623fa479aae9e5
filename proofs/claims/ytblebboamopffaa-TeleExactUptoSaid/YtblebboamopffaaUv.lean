/- Package tele's copied: a row of terms is copied cell by cell. No conditions but sizes. -/
import Derived.Test.YtblebboamopffaaUb
import Derived.Laws.CopyOwn
import Derived.Deep.AppendLies
import Derived.Deep.LoopGhost
import Derived.OneCell
import Derived.Lib.SmallJoins
namespace Go.Proofs.Ytblebboamopffaa
open Go.RowKit
set_option linter.unusedVariables false

theorem Try.infoS : (Try.prog.info? 22).map (fun i => (i.zero, i.size, i.bytes)) = some (some (.slice none 0 0), 1, 24) := by kernel_rfl
theorem run_copy3 (w : World) (ty : TypeId) (g c : Nat) (a : Addr) (sCap : Nat) (cur : Array Value) (cs : List Value) (hg : w.heap[g]? = some (.cells cur 24 (0, 0))) (hn : cs.length = c * 3) (hc : cur.size = c * 3)
    (hsrc : ∀ j v, cs[j]? = some v → w.cell? (a.add j) = some v) (h1 : ∀ v ∈ cs, v.oneCell' = true) :
    (Builtin.copy_ #[22, 22] ty #[.slice (some ⟨g, 0, none⟩) c c, .slice (some a) c sCap]).run Try.prog w = .ok (goInt (c : Int)) (w.setRow g cs.toArray) := by
  obtain ⟨i0, hi, hz0, hz1, hz2⟩ := info_parts Try.infoT
  have hl := run_loadCells_list (P := Try.prog) w a cs hsrc
  rw [hn] at hl
  have hst := run_storeCells_at Try.prog g 0 24 cs 0 cur w hg (by omega) h1
  have e1 : (cur.toList.take (0 + 0) ++ cs ++ cur.toList.drop (0 + 0 + cs.length)).toArray = cs.toArray := by
    have : cur.toList.drop (0 + 0 + cs.length) = [] := List.drop_eq_nil_of_le (by simp; omega)
    rw [this]; simp
  rw [e1] at hst
  have hmin : Nat.min c c = c := Nat.min_self c
  simp [Builtin.copy_, run_underlying Try.underlying22, Builtin.lenOf, Builtin.firstCells, sizeOf, typeInfo, hi, hz1, hl, hst]
/-- The row of cells that a copy leaves. -/
def NewRow (b : Nat) (l : List Tm) (vs : Nat → Value) (w : World) : Prop := w.heap[b]? = some (.cells (cells3 l vs).toArray 24 (0, 0))
def CopyPost (w0 w : World) (l : List Tm) (e : Ending) (w' : World) : Prop := (l = [] ∧ e = .returned (.slice none 0 0) ∧ Below w.heap.size w w') ∨
  (0 < l.length ∧ e = .returned (.slice (some ⟨w.heap.size, 0, none⟩) l.length l.length) ∧ Below w.heap.size w w' ∧ w.heap.size < w'.heap.size ∧ ∃ vs, NewRow w.heap.size l vs w' ∧ ∀ i (_ : i < l.length), At w0 l[i].kids (vs i))
set_option maxRecDepth 100000 in
set_option maxHeartbeats 2000000 in
theorem copied_any (l : List Tm) (hl : l.length ≤ 1048576) (w0 w : World) (v : Value) (hA : At w0 l v) (hw : Below w0.heap.size w0 w) :
    Calls Try.prog 50 #[v] w (CopyPost w0 w l) := by
  obtain ⟨ao, cap, rfl⟩ := hA.shape
  by_cases h0 : l.length = 0
  · have hl0 : l = [] := List.eq_nil_of_length_eq_zero h0
    rw [h0]
    have hp : CopyPost w0 w l (.returned (.slice none 0 0)) w := .inl ⟨hl0, rfl, Below.refl _ _⟩
    have HP := Lib.hid hp
    clear hA hp hl0 hl h0 hw
    go_enter Try.func50, Try.ntmps50
    go_wp2_with fail
    exact bodyPost_ret (v := .slice none 0 0) (by simp [results, Try.f50, go_sem]) rfl HP.out
  · have hpos : 0 < l.length := by omega
    obtain ⟨b, off, cap', vs, he, h1, h2, kk, kn, kv, ks⟩ := hA.pos hpos
    have kk := fun i h => gcell hw (kk i h)
    have kn := fun i h => gcell hw (kn i h)
    have kv := fun i h => gcell hw (kv i h)
    cases he
    have hz : ((l.length : Int) == 0) = false := by rw [beq_eq_false_iff_ne]; omega
    have hmk := run_makeT l.length (by omega)
    have hb1 := below_al w (.cells (zerosC l.length) 24)
    have hsrc := news3 (fun i h => gcell hb1 (kk i h)) (fun i h => gcell hb1 (kn i h)) (fun i h => gcell hb1 (kv i h))
    have hcp := fun ty => run_copy3 (w.alloc (.cells (zerosC l.length) 24)) ty w.heap.size l.length ⟨b, off, none⟩ cap (zerosC l.length) (cells3 l vs) (World.alloc_heap_new w _) (cells3_len l vs) (size_madeCells _ _) hsrc (one3 fun i hi => by obtain ⟨a, c, e⟩ := (ks i hi).shape; exact ⟨a, _, c, e⟩)
    have hrow := setRow_heap (w.alloc (.cells (zerosC l.length) 24)) w.heap.size (zerosC l.length) (cells3 l vs).toArray 24 (0, 0) (World.alloc_heap_new w _)
    have hbel := below_setRow hb1 (Nat.le_refl w.heap.size) (cells3 l vs).toArray
    have hsz : w.heap.size < ((w.alloc (.cells (zerosC l.length) 24)).setRow w.heap.size (cells3 l vs).toArray).heap.size := (Array.getElem?_eq_some_iff.1 hrow).1
    generalize hW : (w.alloc (.cells (zerosC l.length) 24)).setRow w.heap.size (cells3 l vs).toArray = W at *
    have HF : Hid (CopyPost w0 w l (.returned (.slice (some ⟨w.heap.size, 0, none⟩) l.length l.length)) W) := .inr ⟨hpos, rfl, hbel, hsz, vs, hrow, ks⟩
    clear hW hA hw hrow hbel hsz hsrc hb1 kk kn kv ks h1 h2 hpos h0
    go_enter Try.func50, Try.ntmps50
    go_wp2_with fail
    exact bodyPost_ret (v := .slice (some ⟨w.heap.size, 0, none⟩) l.length l.length) (by simp [results, Try.f50, go_sem]) rfl HF.out
end Go.Proofs.Ytblebboamopffaa
