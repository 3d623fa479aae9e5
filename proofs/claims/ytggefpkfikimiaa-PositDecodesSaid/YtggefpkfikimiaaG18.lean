/- Strict positivity: a place (a context) in memory; the page's guarded, TwinInts, more, at. No conditions but sizes. -/
import Derived.Test.YtggefpkfikimiaaG17
import Derived.Test.YtggefpkfikimiaaG15
import Derived.Deep.AppendLies
import Derived.OneCell
import Derived.Deep.DrawnRows
import Derived.Deep.RegionLaw
import Derived.Deep.DeepCutAuto
import Derived.Laws.AppendOwnNone
import Derived.Test.YtggefpkfikimiaaG16
import Derived.Deep.Cut
namespace Go.Proofs.Ytggefpkfikimiaa
open Go.RowKit
set_option linter.unusedVariables false

/-- A row of ints. -/
def intC (n : Int) (cs : List Value) : Prop := cs = [.int .i64 n]
abbrev IRow (w : World) : List Int → Value → Prop := GAt 1 intC w
theorem IRow.bel {w w' : World} (hg : Below w.heap.size w w') {l : List Int} {v : Value} (h : IRow w l v) : IRow w' l v := GAt.bel hg (fun _ _ h => h) h
theorem IRow.at {w : World} {l : List Int} {a : Option Addr} {c : Nat} (h : IRow w l (.slice a l.length c)) {i : Nat} (hi : i < l.length) : ∃ b off, a = some ⟨b, off, none⟩ ∧ w.cell? ⟨b, off + i, none⟩ = some (.int .i64 l[i]) := by
  obtain ⟨b, off, cap, cs, e, h1, h2, h3, h4⟩ := h.pos (by omega)
  cases e
  have k := h4 i hi 0 (by omega)
  rw [(h3 i hi).1, Nat.mul_one] at k
  exact ⟨b, off, rfl, k⟩
/-- A row of ints of the call's own, from a block on. -/
def IOwn (B : Nat) (l : List Int) (v : Value) (w : World) : Prop := w.ownsRow B 3 1 v l.length (l.map (fun n => Value.int .i64 n))
theorem IOwn.keep {B : Nat} {l : List Int} {v : Value} {w w' : World} (h : IOwn B l v w) (hb : Below w.heap.size w w') : IOwn B l v w' :=
  World.ownsRow.kept (row := none) h ⟨hb.os, hb.tape, hb.output, hb.size, fun k hk _ => hb.block k hk⟩ (by cases v.ownBlock <;> simp)
def PAt (w : World) (b : BlkT) (vars : List Int) (args : List ArgT) (vs vc vv va : Value) : Prop := BAt w b vs vc ∧ IRow w vars vv ∧ ARow w args va
theorem PAt.bel {w w' : World} (hg : Below w.heap.size w w') {b : BlkT} {vars : List Int} {args : List ArgT} {vs vc vv va : Value} (h : PAt w b vars args vs vc vv va) : PAt w' b vars args vs vc vv va := ⟨h.1.bel hg, h.2.1.bel hg, ARow.bel hg h.2.2⟩
theorem PAt.shape {w : World} {b : BlkT} {vars : List Int} {args : List ArgT} {vs vc vv va : Value} (h : PAt w b vars args vs vc vv va) :
    ∃ ps cs pc cc pv cv pa ca, vs = .slice ps b.sorts.length cs ∧ vc = .slice pc b.cons.length cc ∧ vv = .slice pv vars.length cv ∧ va = .slice pa args.length ca := by
  obtain ⟨ps, cs, pc, cc, e1, e2⟩ := h.1.shape
  obtain ⟨pv, cv, e3⟩ := h.2.1.shape
  obtain ⟨pa, ca, e4⟩ := h.2.2.shape
  exact ⟨ps, cs, pc, cc, pv, cv, pa, ca, e1, e2, e3, e4⟩
end Go.Proofs.Ytggefpkfikimiaa
/- The page's arg: a right Arg of a block. No conditions but sizes. -/
namespace Go.Proofs.Ytggefpkfikimiaa
open Go.RowKit
set_option linter.unusedVariables false

set_option maxRecDepth 100000 in
set_option maxHeartbeats 1000000 in
theorem rnone_any (t : Tm) (w : World) (v : Value) (hA : At w t.kids v) : Calls Try.prog 51 #[.agg #[.int .i64 t.k, .int .i64 t.n, v]] w fun e w' => e = .returned (.bool (noneT t)) ∧ Below w.heap.size w w' := by
  obtain ⟨a1, c1, rfl⟩ := hA.shape
  have HB := Lib.hid (below_al w (.cells #[.int .i64 t.k, .int .i64 t.n, .slice a1 t.kids.length c1] 25))
  clear hA
  by_cases h1 : t.k = 0
  · by_cases h2 : t.n = 0
    · by_cases h3 : t.kids.length = 0
      · have HE := Lib.hid (show noneT t = true by simp [noneT, h1, h2, List.eq_nil_of_length_eq_zero h3])
        rw [h1, h2, h3]
        clear h1 h2 h3
        go_enter Try.func51, Try.ntmps51
        go_wp2_with fail
        go_ret
        exact ⟨ret_bool HE.out.symm, by simpa using below_al w _⟩
      · have HE := Lib.hid (show noneT t = false by rw [noneT, decide_eq_false h3, Bool.and_false])
        have q3 : ((t.kids.length : Int) == 0) = false := by rw [beq_eq_false_iff_ne]; omega
        rw [h1, h2]
        clear h1 h2 h3
        go_enter Try.func51, Try.ntmps51
        go_wp2_with fail
        go_ret
        exact ⟨ret_bool HE.out.symm, by simpa using below_al w _⟩
    · have HE := Lib.hid (show noneT t = false by rw [noneT, decide_eq_false h2, Bool.and_false, Bool.false_and])
      have q2 : (t.n == 0) = false := by rw [beq_eq_false_iff_ne]; exact h2
      rw [h1]
      clear h1 h2
      go_enter Try.func51, Try.ntmps51
      go_wp2_with fail
      go_ret
      exact ⟨ret_bool HE.out.symm, by simpa using below_al w _⟩
  · have HE := Lib.hid (show noneT t = false by rw [noneT, decide_eq_false h1, Bool.false_and, Bool.false_and])
    have q1 : (t.k == 0) = false := by rw [beq_eq_false_iff_ne]; exact h1
    clear h1
    go_enter Try.func51, Try.ntmps51
    go_wp2_with fail
    go_ret
    exact ⟨ret_bool HE.out.symm, HB.out⟩
set_option maxRecDepth 100000 in
set_option maxHeartbeats 1000000 in
theorem ropen_any (t : Tm) (hF : Fits t) (hs : size t ≤ 1048576) (x : Int) (w : World) (v : Value) (hA : At w t.kids v) : Calls Try.prog 50 #[.agg #[.int .i64 t.k, .int .i64 t.n, v], .int .i64 x] w fun e w' => e = .returned (.bool (openT t x)) ∧ Below w.heap.size w w' := by
  obtain ⟨a1, c1, rfl⟩ := hA.shape
  have O0 := Lib.hid (one_start w t _ hA)
  have C := Lib.hid (c_rscope t hF hs x 65536 _ _ O0.out.2.1)
  clear hA
  go_enter Try.func50, Try.ntmps50
  go_wp2_with fail
  refine C.out.mono ?_
  rintro e w1 ⟨rfl, hb1⟩
  have O1 := Lib.hid (O0.out.bel hb1)
  clear hb1
  go_wp2_with fail
  go_ret
  exact ⟨rfl, O1.out.2.2⟩
/-- An Arg in its box. -/
def argCells (a : ArgT) (vt vd vi : Value) : Array Value := #[.bool a.r, .int .i64 a.ty.k, .int .i64 a.ty.n, vt, vd, .int .i64 a.sort, vi]
def OneA (B1 : Nat) (a : ArgT) (vt vd vi : Value) (W : World) : Prop := W.heap[B1]? = some (.cells (argCells a vt vd vi) 38 (0, 0)) ∧ At W a.ty.kids vt ∧ At W a.dom vd ∧ At W a.idx vi
theorem OneA.bel {B1 : Nat} {a : ArgT} {vt vd vi : Value} {W W' : World} (h : OneA B1 a vt vd vi W) (hb : Below W.heap.size W W') : OneA B1 a vt vd vi W' :=
  ⟨(hb.block B1 (Array.getElem?_eq_some_iff.1 h.1).1).trans h.1, h.2.1.bel hb (Nat.le_refl _), h.2.2.1.bel hb (Nat.le_refl _), h.2.2.2.bel hb (Nat.le_refl _)⟩
theorem OneA.cells {B1 : Nat} {a : ArgT} {vt vd vi : Value} {W : World} (h : OneA B1 a vt vd vi W) : W.cell? ⟨B1, 0, none⟩ = some (.bool a.r) ∧ W.cell? ⟨B1, 1, none⟩ = some (.int .i64 a.ty.k) ∧ W.cell? ⟨B1, 2, none⟩ = some (.int .i64 a.ty.n) ∧ W.cell? ⟨B1, 3, none⟩ = some vt ∧ W.cell? ⟨B1, 4, none⟩ = some vd ∧ W.cell? ⟨B1, 5, none⟩ = some (.int .i64 a.sort) ∧ W.cell? ⟨B1, 6, none⟩ = some vi := by
  have h1 := h.1
  unfold argCells at h1
  refine ⟨?_, ?_, ?_, ?_, ?_, ?_, ?_⟩ <;> simp [World.cell?, h1]
theorem opens_drop {l : List Tm} {j : Nat} (h : j < l.length) (v : Int) : opensFrom (l.drop j) (v + j) = (openT l[j] (v + j) && opensFrom (l.drop (j + 1)) (v + ((j + 1 : Nat) : Int))) := by
  rw [List.drop_eq_getElem_cons h, opensFrom, show v + (j : Int) + 1 = v + ((j + 1 : Nat) : Int) by omega]
theorem opensAll_drop {l : List Tm} {j : Nat} (h : j < l.length) (v : Int) : opensAll (l.drop j) v = (openT l[j] v && opensAll (l.drop (j + 1)) v) := by
  rw [List.drop_eq_getElem_cons h]; rfl
theorem At.nth {w : World} {l : List Tm} {a : Option Addr} {c : Nat} (h : At w l (.slice a l.length c)) {i : Nat} (hi : i < l.length) : ∃ b off p q, a = some ⟨b, off, none⟩ ∧ At w l[i].kids (.slice p l[i].kids.length q) ∧ w.cell? ⟨b, off + i * 3, none⟩ = some (.int .i64 l[i].k) ∧ w.cell? ⟨b, off + i * 3 + 1, none⟩ = some (.int .i64 l[i].n) ∧ w.cell? ⟨b, off + i * 3 + 2, none⟩ = some (.slice p l[i].kids.length q) := by
  obtain ⟨b, off, cap', vs, he, h1, h2, kk, kn, kv, ks⟩ := h.pos (by omega)
  cases he
  obtain ⟨p, q, e⟩ := (ks i hi).shape
  have := kv i hi
  rw [e] at this
  exact ⟨b, off, p, q, rfl, by rw [← e]; exact ks i hi, kk i hi, kn i hi, this⟩
set_option maxRecDepth 100000 in
set_option maxHeartbeats 8000000 in
theorem rarg_any (b : BlkT) (a : ArgT) (hs : argN a ≤ 1048576) (hsb : blkN b ≤ 1048576) (hF : a.fits) (i : Int) (hi0 : 0 ≤ i) (hi1 : i ≤ 1048576) (w : World) (vs vc vt vd vi : Value) (hB : BAt w b vs vc) (hT : At w a.ty.kids vt) (hD : At w a.dom vd) (hI : At w a.idx vi) :
    Calls Try.prog 49 #[.agg #[vs, vc, .int .i64 b.elim], .agg #[.bool a.r, .int .i64 a.ty.k, .int .i64 a.ty.n, vt, vd, .int .i64 a.sort, vi], .int .i64 i] w fun e w' => e = .returned (.bool (argOk b a i)) ∧ Below w.heap.size w w' := by
  obtain ⟨ps, cs, pc, cc, rfl, rfl⟩ := hB.shape
  obtain ⟨pt, ct, rfl⟩ := hT.shape
  obtain ⟨pd, cd, rfl⟩ := hD.shape
  obtain ⟨pi, ci, rfl⟩ := hI.shape
  have hls := sortsN_len b.sorts
  have hbn : blkN b = sortsN b.sorts + consN b.cons + 1 := rfl
  have hn : argN a = size a.ty + sizeL a.dom + sizeL a.idx + 1 := rfl
  have hld := length_le_sizeL a.dom
  have hli := length_le_sizeL a.idx
  obtain ⟨hFt, hFd, hFs, hFi⟩ := hF
  have hO0 := oneb_start w b _ _ hB
  have hb1 := below_al (w.alloc (.cells #[.slice ps b.sorts.length cs, .slice pc b.cons.length cc, .int .i64 b.elim] 33)) (.cells (argCells a (.slice pt a.ty.kids.length ct) (.slice pd a.dom.length cd) (.slice pi a.idx.length ci)) 38)
  have OB := Lib.hid (hO0.bel hb1)
  have hbb := hO0.2.2.trans (hb1.mono hO0.2.2.size)
  have hnew := World.alloc_heap_new (w.alloc (.cells #[.slice ps b.sorts.length cs, .slice pc b.cons.length cc, .int .i64 b.elim] 33)) (.cells (argCells a (.slice pt a.ty.kids.length ct) (.slice pd a.dom.length cd) (.slice pi a.idx.length ci)) 38)
  rw [World.size_alloc] at hnew
  have OA : Hid (OneA (w.heap.size + 1) a (.slice pt a.ty.kids.length ct) (.slice pd a.dom.length cd) (.slice pi a.idx.length ci) ((w.alloc (.cells #[.slice ps b.sorts.length cs, .slice pc b.cons.length cc, .int .i64 b.elim] 33)).alloc (.cells (argCells a (.slice pt a.ty.kids.length ct) (.slice pd a.dom.length cd) (.slice pi a.idx.length ci)) 38))) :=
    ⟨hnew, hT.bel hbb (Nat.le_refl _), hD.bel hbb (Nat.le_refl _), hI.bel hbb (Nat.le_refl _)⟩
  clear hB hT hD hI hO0 hb1 hbb hnew
  unfold argCells at OB OA
  obtain ⟨W0, hW0⟩ : ∃ W0, W0 = (w.alloc (.cells #[.slice ps b.sorts.length cs, .slice pc b.cons.length cc, .int .i64 b.elim] 33)).alloc (.cells #[.bool a.r, .int .i64 a.ty.k, .int .i64 a.ty.n, .slice pt a.ty.kids.length ct, .slice pd a.dom.length cd, .int .i64 a.sort, .slice pi a.idx.length ci] 38) := ⟨_, rfl⟩
  rw [← hW0] at OB OA
  have HW0 := Lib.hid hW0
  have RO := Lib.hid (fun W hA => ropen_any a.ty hFt (by omega) i W (.slice pt a.ty.kids.length ct) hA)
  have RN := Lib.hid (fun W hA => rnone_any a.ty W (.slice pt a.ty.kids.length ct) hA)
  have RD : Hid (∀ j (h : j < a.dom.length) x W v, At W a.dom[j].kids v → Calls Try.prog 50 #[.agg #[.int .i64 a.dom[j].k, .int .i64 a.dom[j].n, v], .int .i64 x] W fun e w' => e = .returned (.bool (openT a.dom[j] x)) ∧ Below W.heap.size W w') := fun j h x W v hA => ropen_any a.dom[j] (Fits.get hFd h) (by have := size_get h; omega) x W v hA
  have RI : Hid (∀ j (h : j < a.idx.length) x W v, At W a.idx[j].kids v → Calls Try.prog 50 #[.agg #[.int .i64 a.idx[j].k, .int .i64 a.idx[j].n, v], .int .i64 x] W fun e w' => e = .returned (.bool (openT a.idx[j] x)) ∧ Below W.heap.size W w') := fun j h x W v hA => ropen_any a.idx[j] (Fits.get hFi h) (by have := size_get h; omega) x W v hA
  clear hW0 hFt hFd hFi
  have hdl : a.dom.length ≤ 1048576 := by omega
  have hil : a.idx.length ≤ 1048576 := by omega
  have hsl : b.sorts.length ≤ 1048576 := by omega
  clear hls hbn hn hld hli hs hsb
  cases hr : a.r with
  | false =>
    have HA : Hid (argOk b a i = (openT a.ty i && decide (a.dom.length + a.idx.length = 0) && decide (a.sort = 0))) := by unfold Hid; rw [argOk, hr]; rfl
    cases h1 : openT a.ty i with
    | false =>
      rw [h1] at RO HA
      go_enter Try.func49, Try.ntmps49
      rw [hr] at HW0
      go_upto_region 1 with (fail)
      rw [← HW0.out]
      obtain ⟨x0, x1, x2, x3, x4, x5, x6⟩ := OA.out.cells
      obtain ⟨y0, y1, y2⟩ := OB.out.cells
      rw [hr] at x0
      go_wp2_with fail
      refine (RO.out _ OA.out.2.1).mono ?_
      rintro e w1 ⟨rfl, hb1⟩
      have O1 := Lib.hid (OB.out.bel hb1)
      clear hb1
      go_wp2_with fail
      go_ret
      exact ⟨ret_bool (by rw [HA.out]; rfl), O1.out.2.2⟩
    | true =>
      rw [h1] at RO HA
      have hwl : IntKind.i64.wrap ((a.dom.length : Int) + (a.idx.length : Int)) = (a.dom.length : Int) + (a.idx.length : Int) := IntWalk.i64_in _ (by omega)
      by_cases h2 : a.dom.length + a.idx.length = 0
      · have q2 : (((a.dom.length : Int) + (a.idx.length : Int)) == 0) = true := by rw [beq_iff_eq]; omega
        by_cases h3 : a.sort = 0
        · have q3 : (a.sort == 0) = true := by rw [beq_iff_eq]; exact h3
          have HE : Hid (argOk b a i = true) := by unfold Hid; rw [HA.out, decide_eq_true h2, decide_eq_true h3]; rfl
          clear h2 h3
          go_enter Try.func49, Try.ntmps49
          rw [hr] at HW0
          go_upto_region 1 with (fail)
          rw [← HW0.out]
          obtain ⟨x0, x1, x2, x3, x4, x5, x6⟩ := OA.out.cells
          obtain ⟨y0, y1, y2⟩ := OB.out.cells
          rw [hr] at x0
          go_wp2_with fail
          refine (RO.out _ OA.out.2.1).mono ?_
          rintro e w1 ⟨rfl, hb1⟩
          have O1 := Lib.hid (OB.out.bel hb1)
          have x4 := gcell hb1 x4
          have x5 := gcell hb1 x5
          have x6 := gcell hb1 x6
          clear hb1
          go_wp2_with fail
          go_ret
          exact ⟨ret_bool HE.out.symm, O1.out.2.2⟩
        · have q3 : (a.sort == 0) = false := by rw [beq_eq_false_iff_ne]; exact h3
          have HE : Hid (argOk b a i = false) := by unfold Hid; rw [HA.out, decide_eq_false h3, Bool.and_false]
          clear h2 h3
          go_enter Try.func49, Try.ntmps49
          rw [hr] at HW0
          go_upto_region 1 with (fail)
          rw [← HW0.out]
          obtain ⟨x0, x1, x2, x3, x4, x5, x6⟩ := OA.out.cells
          obtain ⟨y0, y1, y2⟩ := OB.out.cells
          rw [hr] at x0
          go_wp2_with fail
          refine (RO.out _ OA.out.2.1).mono ?_
          rintro e w1 ⟨rfl, hb1⟩
          have O1 := Lib.hid (OB.out.bel hb1)
          have x4 := gcell hb1 x4
          have x5 := gcell hb1 x5
          have x6 := gcell hb1 x6
          clear hb1
          go_wp2_with fail
          go_ret
          exact ⟨ret_bool HE.out.symm, O1.out.2.2⟩
      · have q2 : (((a.dom.length : Int) + (a.idx.length : Int)) == 0) = false := by rw [beq_eq_false_iff_ne]; omega
        have HE : Hid (argOk b a i = false) := by unfold Hid; rw [HA.out, decide_eq_false h2, Bool.and_false, Bool.false_and]
        clear h2
        go_enter Try.func49, Try.ntmps49
        rw [hr] at HW0
        go_upto_region 1 with (fail)
        rw [← HW0.out]
        obtain ⟨x0, x1, x2, x3, x4, x5, x6⟩ := OA.out.cells
        obtain ⟨y0, y1, y2⟩ := OB.out.cells
        rw [hr] at x0
        go_wp2_with fail
        refine (RO.out _ OA.out.2.1).mono ?_
        rintro e w1 ⟨rfl, hb1⟩
        have O1 := Lib.hid (OB.out.bel hb1)
        have x4 := gcell hb1 x4
        have x5 := gcell hb1 x5
        have x6 := gcell hb1 x6
        clear hb1
        go_wp2_with fail
        go_ret
        exact ⟨ret_bool HE.out.symm, O1.out.2.2⟩
  | true =>
    have HA : Hid (argOk b a i = (noneT a.ty && decide (a.dom.length ≤ 12) && inZ a.sort 0 (nsB b - 1) && decide ((a.idx.length : Int) = idxLen b a.sort) && opensFrom a.dom i && opensAll a.idx (i + a.dom.length))) := by unfold Hid; rw [argOk, hr]; rfl
    have RZ := Lib.hid (fun W => rin7_any a.sort 0 ((b.sorts.length : Int) - 1) W)
    have hwn : IntKind.i64.wrap ((b.sorts.length : Int) - 1) = (b.sorts.length : Int) - 1 := IntWalk.i64_in _ (by omega)
    cases h1 : noneT a.ty with
    | false =>
      rw [h1] at RN
      have HE : Hid (argOk b a i = false) := by unfold Hid; rw [HA.out, h1]; rfl
      clear h1
      go_enter Try.func49, Try.ntmps49
      rw [hr] at HW0
      go_upto_region 1 with (fail)
      rw [← HW0.out]
      obtain ⟨x0, x1, x2, x3, x4, x5, x6⟩ := OA.out.cells
      obtain ⟨y0, y1, y2⟩ := OB.out.cells
      rw [hr] at x0
      go_wp2_with fail
      clear x0 x1 x2 x3 x4 x5 x6 y0 y1 y2
      refine wp_region_rel (by kernel_rfl) (by kernel_rfl) (by kernel_rfl) ?_
      apply RelWalk.rest
      · kernel_rfl
      · intro X _ W hW hcl
        obtain ⟨x0, x1, x2, x3, x4, x5, x6⟩ := OA.out.cells
        obtain ⟨y0, y1, y2⟩ := OB.out.cells
        have rP1 := fun q => gcell (hW q) x1
        have rP2 := fun q => gcell (hW q) x2
        have rP3 := fun q => gcell (hW q) x3
        have rP4 := fun q => gcell (hW q) x4
        have rP5 := fun q => gcell (hW q) x5
        have rP6 := fun q => gcell (hW q) x6
        have rQ0 := fun q => gcell (hW q) y0
        clear x0 x1 x2 x3 x4 x5 x6 y0 y1 y2
        have d0 := Lib.hid (fun q => into hcl (RN.out (W q) (OA.out.2.1.bel (hW q) (Nat.le_refl _))))
        have d1 := Lib.hid (fun q => intoSame (X := X) (W := W) (q := q) ((RZ.out (W q)).mono fun e w' h => ⟨h.1, h.2.symm⟩))
        repeat (go_big_quiet_step (first | (with_reducible exact d0.out _) | (with_reducible exact d1.out _)))
        exact wpQuiet_nil rfl
      intro gq w5 hg _
      have O5 := Lib.hid (OB.out.bel hg)
      have A5 := Lib.hid (OA.out.bel hg)
      clear hg
      simp only [Spread]
      go_wp2_with fail
      go_ret
      exact ⟨ret_bool HE.out.symm, O5.out.2.2⟩
    | true =>
      rw [h1] at RN
      by_cases h2 : a.dom.length ≤ 12
      rotate_left
      · have q2 : decide ((12 : Int) < (a.dom.length : Int)) = true := by simp; omega
        have HE : Hid (argOk b a i = false) := by unfold Hid; rw [HA.out, decide_eq_false h2]; simp
        clear h1 h2
        go_enter Try.func49, Try.ntmps49
        rw [hr] at HW0
        go_upto_region 1 with (fail)
        rw [← HW0.out]
        obtain ⟨x0, x1, x2, x3, x4, x5, x6⟩ := OA.out.cells
        obtain ⟨y0, y1, y2⟩ := OB.out.cells
        rw [hr] at x0
        go_wp2_with fail
        clear x0 x1 x2 x3 x4 x5 x6 y0 y1 y2
        refine wp_region_rel (by kernel_rfl) (by kernel_rfl) (by kernel_rfl) ?_
        apply RelWalk.rest
        · kernel_rfl
        · intro X _ W hW hcl
          obtain ⟨x0, x1, x2, x3, x4, x5, x6⟩ := OA.out.cells
          obtain ⟨y0, y1, y2⟩ := OB.out.cells
          have rP1 := fun q => gcell (hW q) x1
          have rP2 := fun q => gcell (hW q) x2
          have rP3 := fun q => gcell (hW q) x3
          have rP4 := fun q => gcell (hW q) x4
          have rP5 := fun q => gcell (hW q) x5
          have rP6 := fun q => gcell (hW q) x6
          have rQ0 := fun q => gcell (hW q) y0
          clear x0 x1 x2 x3 x4 x5 x6 y0 y1 y2
          have d0 := Lib.hid (fun q => into hcl (RN.out (W q) (OA.out.2.1.bel (hW q) (Nat.le_refl _))))
          have d1 := Lib.hid (fun q => intoSame (X := X) (W := W) (q := q) ((RZ.out (W q)).mono fun e w' h => ⟨h.1, h.2.symm⟩))
          repeat (go_big_quiet_step (first | (with_reducible exact d0.out _) | (with_reducible exact d1.out _)))
          exact wpQuiet_nil rfl
        intro gq w5 hg _
        have O5 := Lib.hid (OB.out.bel hg)
        have A5 := Lib.hid (OA.out.bel hg)
        clear hg
        simp only [Spread]
        go_wp2_with fail
        go_ret
        exact ⟨ret_bool HE.out.symm, O5.out.2.2⟩
      have q2 : decide ((12 : Int) < (a.dom.length : Int)) = false := by simp; omega
      cases h3 : inZ a.sort 0 ((b.sorts.length : Int) - 1) with
      | false =>
        rw [h3] at RZ
        have HE : Hid (argOk b a i = false) := by unfold Hid; rw [HA.out, show nsB b = (b.sorts.length : Int) from rfl, h3]; simp
        clear h1 h2 h3
        go_enter Try.func49, Try.ntmps49
        rw [hr] at HW0
        go_upto_region 1 with (fail)
        rw [← HW0.out]
        obtain ⟨x0, x1, x2, x3, x4, x5, x6⟩ := OA.out.cells
        obtain ⟨y0, y1, y2⟩ := OB.out.cells
        rw [hr] at x0
        go_wp2_with fail
        clear x0 x1 x2 x3 x4 x5 x6 y0 y1 y2
        refine wp_region_rel (by kernel_rfl) (by kernel_rfl) (by kernel_rfl) ?_
        apply RelWalk.rest
        · kernel_rfl
        · intro X _ W hW hcl
          obtain ⟨x0, x1, x2, x3, x4, x5, x6⟩ := OA.out.cells
          obtain ⟨y0, y1, y2⟩ := OB.out.cells
          have rP1 := fun q => gcell (hW q) x1
          have rP2 := fun q => gcell (hW q) x2
          have rP3 := fun q => gcell (hW q) x3
          have rP4 := fun q => gcell (hW q) x4
          have rP5 := fun q => gcell (hW q) x5
          have rP6 := fun q => gcell (hW q) x6
          have rQ0 := fun q => gcell (hW q) y0
          clear x0 x1 x2 x3 x4 x5 x6 y0 y1 y2
          have d0 := Lib.hid (fun q => into hcl (RN.out (W q) (OA.out.2.1.bel (hW q) (Nat.le_refl _))))
          have d1 := Lib.hid (fun q => intoSame (X := X) (W := W) (q := q) ((RZ.out (W q)).mono fun e w' h => ⟨h.1, h.2.symm⟩))
          repeat (go_big_quiet_step (first | (with_reducible exact d0.out _) | (with_reducible exact d1.out _)))
          exact wpQuiet_nil rfl
        intro gq w5 hg _
        have O5 := Lib.hid (OB.out.bel hg)
        have A5 := Lib.hid (OA.out.bel hg)
        clear hg
        simp only [Spread]
        go_wp2_with fail
        go_ret
        exact ⟨ret_bool HE.out.symm, O5.out.2.2⟩
      | true =>
        rw [h3] at RZ
        obtain ⟨hz1, hz2⟩ := inZ_iff.1 h3
        obtain ⟨K, hK⟩ : ∃ K : Nat, a.sort = (K : Int) := ⟨a.sort.toNat, by omega⟩
        have hKl : K < b.sorts.length := by omega
        have hKi : (K : Int) < (b.sorts.length : Int) := by omega
        have hK0 : (0 : Int) ≤ (K : Int) := by omega
        have hix : idxLen b a.sort = b.sorts[K].idx.length := by simp [idxLen, hK, List.getElem?_eq_getElem hKl]
        obtain ⟨BS, offS, va, vtt, rfl, ga, gt, k0, k1, k2, k3, k4, k5⟩ := SRow.at OB.out.2.1.1 hKl
        obtain ⟨pa, ca, hva⟩ := ga.shape
        rw [hva] at k0
        have KS := Lib.hid k0
        have HK := Lib.hid hK
        rw [hK] at RZ
        clear ga gt k0 k1 k2 k3 k4 k5 hva
        rw [hK] at h3
        by_cases h4 : (a.idx.length : Int) = (b.sorts[K].idx.length : Int)
        rotate_left
        · have q4 : ((a.idx.length : Int) == (b.sorts[K].idx.length : Int)) = false := by rw [beq_eq_false_iff_ne]; exact h4
          have q4b : ((a.idx.length : Int) != (b.sorts[K].idx.length : Int)) = true := by rw [bne, q4]; rfl
          have HE : Hid (argOk b a i = false) := by unfold Hid; rw [HA.out, hix, decide_eq_false h4]; simp
          clear h1 h2 h3 h4 q4 hix hz1 hz2 hK
          go_enter Try.func49, Try.ntmps49
          rw [hr] at HW0
          go_upto_region 1 with (fail)
          rw [← HW0.out]
          obtain ⟨x0, x1, x2, x3, x4, x5, x6⟩ := OA.out.cells
          obtain ⟨y0, y1, y2⟩ := OB.out.cells
          rw [hr] at x0
          rw [HK.out] at x5
          go_wp2_with fail
          clear x0 x1 x2 x3 x4 x5 x6 y0 y1 y2
          refine wp_region_rel (by kernel_rfl) (by kernel_rfl) (by kernel_rfl) ?_
          apply RelWalk.rest
          · kernel_rfl
          · intro X _ W hW hcl
            obtain ⟨x0, x1, x2, x3, x4, x5, x6⟩ := OA.out.cells
            obtain ⟨y0, y1, y2⟩ := OB.out.cells
            rw [HK.out] at x5
            have rP1 := fun q => gcell (hW q) x1
            have rP2 := fun q => gcell (hW q) x2
            have rP3 := fun q => gcell (hW q) x3
            have rP4 := fun q => gcell (hW q) x4
            have rP5 := fun q => gcell (hW q) x5
            have rP6 := fun q => gcell (hW q) x6
            have rQ0 := fun q => gcell (hW q) y0
            have rK := fun q => gcell (hW q) KS.out
            clear x0 x1 x2 x3 x4 x5 x6 y0 y1 y2
            have d0 := Lib.hid (fun q => into hcl (RN.out (W q) (OA.out.2.1.bel (hW q) (Nat.le_refl _))))
            have d1 := Lib.hid (fun q => intoSame (X := X) (W := W) (q := q) ((RZ.out (W q)).mono fun e w' h => ⟨h.1, h.2.symm⟩))
            repeat (go_big_quiet_step (first | (with_reducible exact d0.out _) | (with_reducible exact d1.out _)))
            exact wpQuiet_nil rfl
          intro gq w5 hg _
          have O5 := Lib.hid (OB.out.bel hg)
          have A5 := Lib.hid (OA.out.bel hg)
          clear hg
          simp only [Spread]
          go_wp2_with fail
          go_ret
          exact ⟨ret_bool HE.out.symm, O5.out.2.2⟩
        have q4 : ((a.idx.length : Int) != (b.sorts[K].idx.length : Int)) = false := by rw [h4]; simp
        have HE : Hid (argOk b a i = (opensFrom a.dom i && opensAll a.idx (i + a.dom.length))) := by unfold Hid; rw [HA.out, show nsB b = (b.sorts.length : Int) from rfl, h1, decide_eq_true h2, hix, hK, h3, decide_eq_true h4]; rfl
        clear h1 h2 h3 hix hz1 hz2 hK
        go_enter Try.func49, Try.ntmps49
        rw [hr] at HW0
        go_upto_region 1 with (fail)
        rw [← HW0.out]
        obtain ⟨x0, x1, x2, x3, x4, x5, x6⟩ := OA.out.cells
        obtain ⟨y0, y1, y2⟩ := OB.out.cells
        rw [hr] at x0
        rw [HK.out] at x5
        go_wp2_with fail
        clear x0 x1 x2 x3 x4 x5 x6 y0 y1 y2
        refine wp_region_rel (by kernel_rfl) (by kernel_rfl) (by kernel_rfl) ?_
        apply RelWalk.rest
        · kernel_rfl
        · intro X _ W hW hcl
          obtain ⟨x0, x1, x2, x3, x4, x5, x6⟩ := OA.out.cells
          obtain ⟨y0, y1, y2⟩ := OB.out.cells
          rw [HK.out] at x5
          have rP1 := fun q => gcell (hW q) x1
          have rP2 := fun q => gcell (hW q) x2
          have rP3 := fun q => gcell (hW q) x3
          have rP4 := fun q => gcell (hW q) x4
          have rP5 := fun q => gcell (hW q) x5
          have rP6 := fun q => gcell (hW q) x6
          have rQ0 := fun q => gcell (hW q) y0
          have rK := fun q => gcell (hW q) KS.out
          clear x0 x1 x2 x3 x4 x5 x6 y0 y1 y2
          have d0 := Lib.hid (fun q => into hcl (RN.out (W q) (OA.out.2.1.bel (hW q) (Nat.le_refl _))))
          have d1 := Lib.hid (fun q => intoSame (X := X) (W := W) (q := q) ((RZ.out (W q)).mono fun e w' h => ⟨h.1, h.2.symm⟩))
          repeat (go_big_quiet_step (first | (with_reducible exact d0.out _) | (with_reducible exact d1.out _)))
          exact wpQuiet_nil rfl
        intro gq w5 hg _
        have O5 := Lib.hid (OB.out.bel hg)
        have A5 := Lib.hid (OA.out.bel hg)
        clear hg
        simp only [Spread]
        go_wp2_with fail
        clear RZ RN RO KS q4 q2 hwn HW0
        go_loopw [7] (fun x wr => ∃ j : Nat, j ≤ a.dom.length ∧ x = .int .i64 j ∧ argOk b a i = (opensFrom (a.dom.drop j) (i + j) && opensAll a.idx (i + a.dom.length)) ∧ OneB w w.heap.size b (.slice (some ⟨BS, offS, none⟩) b.sorts.length cs) (.slice pc b.cons.length cc) wr ∧ OneA (w.heap.size + 1) a (.slice pt a.ty.kids.length ct) (.slice pd a.dom.length cd) (.slice pi a.idx.length ci) wr) (fun x _ => a.dom.length - (RowKit.intOf x).toNat)
        case atStart => exact ⟨0, Nat.zero_le _, rfl, by rw [List.drop_zero, HE.out]; simp, O5.out, A5.out⟩
        case round =>
          clear HE HA O5 A5 OB OA
          obtain ⟨j, hj, rfl, he, hOB, hOA⟩ := hrel
          obtain ⟨x0, x1, x2, x3, x4, x5, x6⟩ := hOA.cells
          by_cases hlt : j < a.dom.length
          · obtain ⟨B, off, pp, qq, rfl, gk, k0, k1, k2⟩ := hOA.2.2.1.nth hlt
            have hji : (j : Int) < (a.dom.length : Int) := by omega
            have hj0 : (0 : Int) ≤ (j : Int) := by omega
            have hwj : IntKind.i64.wrap (i + (j : Int)) = i + (j : Int) := IntWalk.i64_in _ (by omega)
            have CO := Lib.hid (RD.out j hlt (i + j) wr _ gk)
            rw [opens_drop hlt] at he
            have OB := Lib.hid hOB
            have OA := Lib.hid hOA
            clear hOB hOA gk
            cases h5 : openT a.dom[j] (i + j) with
            | false =>
              rw [h5] at CO he
              have HE := Lib.hid (show argOk b a i = false by rw [he]; rfl)
              clear he h5
              go_wp2_with fail
              refine CO.out.mono ?_
              rintro e w6 ⟨rfl, hb6⟩
              have O6 := Lib.hid (OB.out.bel hb6)
              clear hb6
              go_wp2_with fail
              go_ret
              exact ⟨ret_bool HE.out.symm, O6.out.2.2⟩
            | true =>
              rw [h5] at CO he
              have HE := Lib.hid he
              clear he h5
              go_wp2_with fail
              refine CO.out.mono ?_
              rintro e w6 ⟨rfl, hb6⟩
              have O6 := Lib.hid (OB.out.bel hb6)
              have A6 := Lib.hid (OA.out.bel hb6)
              clear hb6
              go_wp2_with fail
              go_roundw
              case rel => exact ⟨j + 1, hlt, by go_num, by rw [HE.out, Bool.true_and], O6.out, A6.out⟩
              case measure => simp [RowKit.intOf]; omega
          · obtain rfl : j = a.dom.length := by omega
            have hnl : ¬ (a.dom.length : Int) < (a.dom.length : Int) := by omega
            rw [List.drop_length, opensFrom, Bool.true_and] at he
            have HE := Lib.hid he
            have OB := Lib.hid hOB
            have OA := Lib.hid hOA
            clear hOB hOA he
            go_wp2_with fail
            clear x0 x1 x2 x3 x4 x5 x6 hnl hlt hj RD
            go_loopw [8] (fun x wr => ∃ j : Nat, j ≤ a.idx.length ∧ x = .int .i64 j ∧ argOk b a i = opensAll (a.idx.drop j) (i + a.dom.length) ∧ OneB w w.heap.size b (.slice (some ⟨BS, offS, none⟩) b.sorts.length cs) (.slice pc b.cons.length cc) wr ∧ OneA (w.heap.size + 1) a (.slice pt a.ty.kids.length ct) (.slice pd a.dom.length cd) (.slice pi a.idx.length ci) wr) (fun x _ => a.idx.length - (RowKit.intOf x).toNat)
            case atStart => exact ⟨0, Nat.zero_le _, rfl, by rw [List.drop_zero, HE.out], OB.out, OA.out⟩
            case round =>
              clear HE OB OA
              obtain ⟨j, hj, rfl, he, hOB, hOA⟩ := hrel
              by_cases hlt : j < a.idx.length
              · obtain ⟨B, off, pp, qq, hpi, gk, k0, k1, k2⟩ := hOA.2.2.2.nth hlt
                subst hpi
                have hji : (j : Int) < (a.idx.length : Int) := by omega
                have hj0 : (0 : Int) ≤ (j : Int) := by omega
                have hwj : IntKind.i64.wrap (i + (a.dom.length : Int)) = i + (a.dom.length : Int) := IntWalk.i64_in _ (by omega)
                have CO := Lib.hid (fun W (hW : Below wr.heap.size wr W) => RI.out j hlt (i + a.dom.length) W _ (gk.bel hW (Nat.le_refl _)))
                rw [opensAll_drop hlt] at he
                obtain ⟨x0, x1, x2, x3, x4, x5, x6⟩ := hOA.cells
                have OB := Lib.hid hOB
                have OA := Lib.hid hOA
                have KK := Lib.hid (And.intro k0 (And.intro k1 k2))
                clear hOB hOA gk k0 k1 k2
                cases h5 : openT a.idx[j] (i + a.dom.length) with
                | false =>
                  rw [h5] at CO he
                  have HE := Lib.hid (show argOk b a i = false by rw [he]; rfl)
                  clear he h5
                  go_wp2_with fail
                  clear x0 x1 x2 x3 x4 x5 x6
                  refine wp_region_rel (by kernel_rfl) (by kernel_rfl) (by kernel_rfl) ?_
                  apply RelWalk.rest
                  · kernel_rfl
                  · intro X _ W hW hcl
                    obtain ⟨x0, x1, x2, x3, x4, x5, x6⟩ := OA.out.cells
                    obtain ⟨k0, k1, k2⟩ := KK.out
                    have rP4 := fun q => gcell (hW q) x4
                    have rP6 := fun q => gcell (hW q) x6
                    have rK0 := fun q => gcell (hW q) k0
                    have rK1 := fun q => gcell (hW q) k1
                    have rK2 := fun q => gcell (hW q) k2
                    clear x0 x1 x2 x3 x4 x5 x6 k0 k1 k2
                    have d0 := Lib.hid (fun q => into hcl (CO.out (W q) (hW q)))
                    repeat (go_big_quiet_step (first | (with_reducible exact d0.out _)))
                    exact wpQuiet_nil rfl
                  intro gq w6 hg _
                  have O6 := Lib.hid (OB.out.bel hg)
                  have A6 := Lib.hid (OA.out.bel hg)
                  clear hg
                  simp only [Spread]
                  go_wp2_with fail
                  go_ret
                  exact ⟨ret_bool HE.out.symm, O6.out.2.2⟩
                | true =>
                  rw [h5] at CO he
                  have HE := Lib.hid he
                  clear he h5
                  go_wp2_with fail
                  clear x0 x1 x2 x3 x4 x5 x6
                  refine wp_region_rel (by kernel_rfl) (by kernel_rfl) (by kernel_rfl) ?_
                  apply RelWalk.rest
                  · kernel_rfl
                  · intro X _ W hW hcl
                    obtain ⟨x0, x1, x2, x3, x4, x5, x6⟩ := OA.out.cells
                    obtain ⟨k0, k1, k2⟩ := KK.out
                    have rP4 := fun q => gcell (hW q) x4
                    have rP6 := fun q => gcell (hW q) x6
                    have rK0 := fun q => gcell (hW q) k0
                    have rK1 := fun q => gcell (hW q) k1
                    have rK2 := fun q => gcell (hW q) k2
                    clear x0 x1 x2 x3 x4 x5 x6 k0 k1 k2
                    have d0 := Lib.hid (fun q => into hcl (CO.out (W q) (hW q)))
                    repeat (go_big_quiet_step (first | (with_reducible exact d0.out _)))
                    exact wpQuiet_nil rfl
                  intro gq w6 hg _
                  have O6 := Lib.hid (OB.out.bel hg)
                  have A6 := Lib.hid (OA.out.bel hg)
                  clear hg
                  simp only [Spread]
                  go_wp2_with fail
                  go_roundw
                  case rel => exact ⟨j + 1, hlt, by go_num, by rw [HE.out, Bool.true_and], O6.out, A6.out⟩
                  case measure => simp [RowKit.intOf]; omega
              · obtain rfl : j = a.idx.length := by omega
                have hnl : ¬ (a.idx.length : Int) < (a.idx.length : Int) := by omega
                obtain ⟨x0, x1, x2, x3, x4, x5, x6⟩ := hOA.cells
                have HE := Lib.hid (show argOk b a i = true by rw [he, List.drop_length]; rfl)
                have OB := Lib.hid hOB
                clear hOB hOA he
                go_wp2_with fail
                go_ret
                exact ⟨ret_bool HE.out.symm, OB.out.2.2⟩
end Go.Proofs.Ytggefpkfikimiaa
