/- Package term's Equal: it returns whether two terms are the same. -/
import Derived.Test.YtggefpkfikimiaaG07
import Derived.Test.YtggefpkfikimiaaG01
import Derived.Deep.AppendLies
import Derived.Deep.LoopGhost
import Derived.WalkSmall
import Derived.Lib.SmallJoins
import Derived.BigQuiet
import Derived.Test.YtggefpkfikimiaaG06
namespace Go.Proofs.Ytggefpkfikimiaa
set_option linter.unusedVariables false
open Go.RowKit Go.Joins

/-- Two lists of Kids, equally long, that are still to be compared. -/
structure Cp where
  a : List Tm
  b : List Tm
  va : Value
  vb : Value
def Cp.cells (c : Cp) : List Value := [c.va, c.vb]
def cellsC (cs : List Cp) : List Value := cs.flatMap Cp.cells
def eqC (cs : List Cp) : Bool := cs.all fun c => eqL c.a c.b
def sizeC : List Cp → Nat | [] => 0 | c :: cs => sizeL c.a + sizeC cs
theorem cellsC_len (cs : List Cp) : (cellsC cs).length = cs.length * 2 := by
  induction cs with
  | nil => rfl
  | cons c cs ih => simp [cellsC, Cp.cells] at ih ⊢; omega
theorem cellsC_snoc (cs : List Cp) (c : Cp) : cellsC (cs ++ [c]) = cellsC cs ++ c.cells := by simp [cellsC]
theorem cellsC_at (cs : List Cp) (c : Cp) (j : Nat) (hj : j < 2) : (cellsC (cs ++ [c]))[cs.length * 2 + j]? = c.cells[j]? := by
  rw [cellsC_snoc, List.getElem?_append_right (by rw [cellsC_len]; omega), cellsC_len]
  congr 1; omega
theorem sizeC_append (a b : List Cp) : sizeC (a ++ b) = sizeC a + sizeC b := by
  induction a with
  | nil => simp [sizeC]
  | cons x a ih => simp [sizeC, ih]; omega
theorem eqC_append (a b : List Cp) : eqC (a ++ b) = (eqC a && eqC b) := by simp [eqC]
theorem rowC_top {W : World} {B gR cap : Nat} {e : TypeId} {cs : List Cp} {c : Cp} (h : W.ownsRow B e 2 (.slice (some ⟨gR, 0, none⟩) (cs.length + 1) cap) (cs.length + 1) (cellsC (cs ++ [c]))) :
    W.cell? ⟨gR, cs.length * 2, none⟩ = some c.va ∧ W.cell? ⟨gR, cs.length * 2 + 1, none⟩ = some c.vb ∧
      cs.length + 1 ≤ cap ∧ cap ≤ maxLen ∧ B ≤ gR ∧ gR < W.heap.size := by
  refine ⟨?_, ?_, ?_⟩
  · rw [h.cellAt _ (by omega)]; have := cellsC_at cs c 0 (by omega); simpa [Cp.cells] using this
  · rw [h.cellAt _ (by omega), cellsC_at cs c 1 (by omega)]; rfl
  · rcases h.2 with ⟨h', _⟩ | ⟨g', cap', cur, h', hb, hg, h1, h2, _⟩
    · simp at h'
    · simp only [Value.slice.injEq, Option.some.injEq, Addr.mk.injEq, and_true, true_and] at h'
      obtain ⟨rfl, rfl⟩ := h'
      exact ⟨h1, h2, hb, (Array.getElem?_eq_some_iff.1 hg).1⟩

/-- The two roots lie in blocks B and B + 1 of the call's own; all else lay in w₀. -/
def GoodC (w₀ : World) (B : Nat) (t u : Tm) (tvv uvv : Value) (W : World) : Prop :=
  Below w₀.heap.size w₀ W ∧ W.heap[B]? = some (.cells #[.int .i64 t.k, .int .i64 t.n, tvv] 25 (0, 0)) ∧ W.heap[B + 1]? = some (.cells #[.int .i64 u.k, .int .i64 u.n, uvv] 25 (0, 0))
theorem GoodC.below {w₀ W W' : World} {B : Nat} {t u : Tm} {tvv uvv : Value} (h : GoodC w₀ B t u tvv uvv W) (hn : w₀.heap.size ≤ B) (hb : Below (B + 2) W W') : GoodC w₀ B t u tvv uvv W' :=
  ⟨h.1.trans (hb.mono (by omega)), (hb.block _ (by omega)).trans h.2.1, (hb.block _ (by omega)).trans h.2.2⟩
/-- A list of Kids that can be read in every good world. -/
def Rd (w₀ : World) (B : Nat) (t u : Tm) (tvv uvv : Value) (l : List Tm) (v : Value) : Prop :=
  ∃ (b off cap : Nat) (vs : Nat → Value), v = .slice (some ⟨b, off, none⟩) l.length cap ∧ l.length ≤ cap ∧ cap ≤ maxLen ∧
    (∀ W, GoodC w₀ B t u tvv uvv W → ∀ i (h : i < l.length), W.cell? ⟨b, off + i * 3, none⟩ = some (.int .i64 l[i].k) ∧ W.cell? ⟨b, off + i * 3 + 1, none⟩ = some (.int .i64 l[i].n) ∧ W.cell? ⟨b, off + i * 3 + 2, none⟩ = some (vs i)) ∧
    (∀ i (h : i < l.length), At w₀ l[i].kids (vs i))
theorem Rd_of {w₀ : World} {B : Nat} {t u : Tm} {tvv uvv : Value} {l : List Tm} {v : Value} (hl : 0 < l.length) (hA : At w₀ l v) : Rd w₀ B t u tvv uvv l v := by
  obtain ⟨b, off, cap, vs, he, h1, h2, kk, kn, kv, ks⟩ := hA.pos hl
  have up : ∀ {W : World} {o : Nat} {x : Value}, GoodC w₀ B t u tvv uvv W → w₀.cell? ⟨b, o, none⟩ = some x → W.cell? ⟨b, o, none⟩ = some x := fun {W o x} hg hx => by
    rw [hg.1.cell (World.block_lt_of_cell? w₀ _ hx)]; exact hx
  exact ⟨b, off, cap, vs, he, h1, h2, fun W hg i hi => ⟨up hg (kk i hi), up hg (kn i hi), up hg (kv i hi)⟩, ks⟩
theorem Rd_t {w₀ : World} {B : Nat} {t u : Tm} {tvv uvv : Value} (hA : At w₀ t.kids tvv) : Rd w₀ B t u tvv uvv [t] (.slice (some ⟨B, 0, none⟩) 1 1) := by
  refine ⟨B, 0, 1, fun _ => tvv, rfl, by simp, by decide, fun W hg i hi => ?_, fun i hi => ?_⟩
  · obtain rfl : i = 0 := by simpa using hi
    refine ⟨?_, ?_, ?_⟩ <;> simp [World.cell?, hg.2.1]
  · obtain rfl : i = 0 := by simpa using hi
    exact hA
theorem Rd_u {w₀ : World} {B : Nat} {t u : Tm} {tvv uvv : Value} (hA : At w₀ u.kids uvv) : Rd w₀ B t u tvv uvv [u] (.slice (some ⟨B + 1, 0, none⟩) 1 1) := by
  refine ⟨B + 1, 0, 1, fun _ => uvv, rfl, by simp, by decide, fun W hg i hi => ?_, fun i hi => ?_⟩
  · obtain rfl : i = 0 := by simpa using hi
    refine ⟨?_, ?_, ?_⟩ <;> simp [World.cell?, hg.2.2]
  · obtain rfl : i = 0 := by simpa using hi
    exact hA
def CpOk (w₀ : World) (B : Nat) (t u : Tm) (tvv uvv : Value) (c : Cp) : Prop := 0 < c.a.length ∧ c.a.length = c.b.length ∧ Rd w₀ B t u tvv uvv c.a c.va ∧ Rd w₀ B t u tvv uvv c.b c.vb
def EInv (w₀ : World) (B : Nat) (t u : Tm) (tvv uvv : Value) (m : Nat) (v : Value) (wr : World) : Prop :=
  ∃ cs : List Cp, wr.ownsRow (B + 2) 121 2 v cs.length (cellsC cs) ∧ (∀ c ∈ cs, CpOk w₀ B t u tvv uvv c) ∧ eqC cs = eqT t u ∧ sizeC cs ≤ m ∧ sizeC cs ≤ size t ∧ GoodC w₀ B t u tvv uvv wr ∧ B + 2 ≤ wr.heap.size
def EIn (w₀ : World) (B : Nat) (t u : Tm) (tvv uvv : Value) (cs : List Cp) (c : Cp) (Bg : Nat) (v i : Value) (wr : World) : Prop :=
  ∃ (j : Nat) (cx : List Cp), j ≤ c.a.length ∧ i = .int .i64 j ∧ wr.ownsRow (B + 2) 121 2 v (cs ++ cx).length (cellsC (cs ++ cx)) ∧ (∀ x ∈ cx, CpOk w₀ B t u tvv uvv x) ∧
    (eqL (c.a.drop j) (c.b.drop j) && eqC (cs ++ cx)) = eqT t u ∧ sizeC cx + j ≤ sizeL (c.a.take j) ∧ GoodC w₀ B t u tvv uvv wr ∧
    wr.heap[Bg]? = some (.cells #[c.va, c.vb] 121 (0, 0)) ∧ v.ownBlock ≠ some Bg ∧ B + 2 ≤ Bg
theorem Try.infoC : (Try.prog.info? 121).map (fun i => (i.zero, i.size, i.bytes)) = some (some (.agg #[.slice none 0 0, .slice none 0 0]), 2, 48) := by kernel_rfl
theorem eqL_drop {a b : List Tm} {j : Nat} (ha : j < a.length) (hb : j < b.length) : eqL (a.drop j) (b.drop j) = (eqT a[j] b[j] && eqL (a.drop (j + 1)) (b.drop (j + 1))) := by
  rw [List.drop_eq_getElem_cons ha, List.drop_eq_getElem_cons hb]; rfl
theorem ownsRow_succ' {W : World} {base : Nat} {e : TypeId} {size : Nat} {v : Value} {k : Nat} {xs : List Value} (h : W.ownsRow base e size v (k + 1) xs) : ∃ g cap, v = .slice (some ⟨g, 0, none⟩) (k + 1) cap := ownsRow_form h (by omega)
theorem sizeC_mem {c : Cp} {cs : List Cp} (h : c ∈ cs) : sizeL c.a ≤ sizeC cs := by
  induction cs with
  | nil => cases h
  | cons x cs ih =>
    simp only [sizeC]
    rcases List.mem_cons.1 h with rfl | h
    · omega
    · have := ih h; omega
theorem sizeC_len {w₀ : World} {B : Nat} {t u : Tm} {tvv uvv : Value} {cs : List Cp} (h : ∀ c ∈ cs, CpOk w₀ B t u tvv uvv c) : cs.length ≤ sizeC cs := by
  induction cs with
  | nil => simp
  | cons x cs ih =>
    have h1 := (h x List.mem_cons_self).1
    have h2 := length_le_sizeL x.a
    have h3 := ih fun c hc => h c (List.mem_cons_of_mem _ hc)
    simp only [sizeC, List.length_cons]; omega

set_option maxRecDepth 100000 in
set_option maxHeartbeats 3000000 in
theorem equal_any (t u : Tm) (hs : size t < 2147483648) (hs2 : size u < 2147483648) (w₀ : World) (va vb : Value) (hA : At w₀ t.kids va) (hM : At w₀ u.kids vb) :
    Calls Try.prog 97 #[tv t va, tv u vb] w₀ fun e w' => e = .returned (.bool (eqT t u)) ∧ Below w₀.heap.size w₀ w' := by
  obtain ⟨a1, cap1, rfl⟩ := hA.shape
  obtain ⟨a2, cap2, rfl⟩ := hM.shape
  unfold tv
  go_enter Try.func97, Try.ntmps97
  go_wp2_with fail
  have hgood : GoodC w₀ (w₀.heap.size + 2) t u (.slice a1 t.kids.length cap1) (.slice a2 u.kids.length cap2) (((((w₀.alloc (.cells #[.int .i64 t.k, .int .i64 t.n, .slice a1 t.kids.length cap1] 25)).alloc (.cells #[.int .i64 u.k, .int .i64 u.n, .slice a2 u.kids.length cap2] 25)).alloc (.cells #[.int .i64 t.k, .int .i64 t.n, .slice a1 t.kids.length cap1] 25)).alloc (.cells #[.int .i64 u.k, .int .i64 u.n, .slice a2 u.kids.length cap2] 25)).alloc (.cells #[.slice (some ⟨w₀.heap.size + 1 + 1, 0, none⟩) 1 1, .slice (some ⟨w₀.heap.size + 1 + 1 + 1, 0, none⟩) 1 1] 121)) := by
    refine ⟨((((below_al _ (.cells #[.int .i64 t.k, .int .i64 t.n, .slice a1 t.kids.length cap1] 25)).trans ((below_al _ (.cells #[.int .i64 u.k, .int .i64 u.n, .slice a2 u.kids.length cap2] 25)).mono (by simp))).trans ((below_al _ (.cells #[.int .i64 t.k, .int .i64 t.n, .slice a1 t.kids.length cap1] 25)).mono (by simp; omega))).trans ((below_al _ (.cells #[.int .i64 u.k, .int .i64 u.n, .slice a2 u.kids.length cap2] 25)).mono (by simp; omega))).trans ((below_al _ (.cells #[.slice (some ⟨w₀.heap.size + 1 + 1, 0, none⟩) 1 1, .slice (some ⟨w₀.heap.size + 1 + 1 + 1, 0, none⟩) 1 1] 121)).mono (by simp; omega)), ?_, ?_⟩
    · have h := World.alloc_heap_new ((w₀.alloc (.cells #[.int .i64 t.k, .int .i64 t.n, .slice a1 t.kids.length cap1] 25)).alloc (.cells #[.int .i64 u.k, .int .i64 u.n, .slice a2 u.kids.length cap2] 25)) (.cells #[.int .i64 t.k, .int .i64 t.n, .slice a1 t.kids.length cap1] 25)
      rw [show ((w₀.alloc (.cells #[.int .i64 t.k, .int .i64 t.n, .slice a1 t.kids.length cap1] 25)).alloc (.cells #[.int .i64 u.k, .int .i64 u.n, .slice a2 u.kids.length cap2] 25)).heap.size = w₀.heap.size + 2 by simp] at h
      exact (Below.heap_alloc _ _ _ (by simp)).trans ((Below.heap_alloc _ _ _ (by simp)).trans h)
    · have h := World.alloc_heap_new (((w₀.alloc (.cells #[.int .i64 t.k, .int .i64 t.n, .slice a1 t.kids.length cap1] 25)).alloc (.cells #[.int .i64 u.k, .int .i64 u.n, .slice a2 u.kids.length cap2] 25)).alloc (.cells #[.int .i64 t.k, .int .i64 t.n, .slice a1 t.kids.length cap1] 25)) (.cells #[.int .i64 u.k, .int .i64 u.n, .slice a2 u.kids.length cap2] 25)
      rw [show (((w₀.alloc (.cells #[.int .i64 t.k, .int .i64 t.n, .slice a1 t.kids.length cap1] 25)).alloc (.cells #[.int .i64 u.k, .int .i64 u.n, .slice a2 u.kids.length cap2] 25)).alloc (.cells #[.int .i64 t.k, .int .i64 t.n, .slice a1 t.kids.length cap1] 25)).heap.size = w₀.heap.size + 2 + 1 by simp] at h
      exact (Below.heap_alloc _ _ _ (by simp)).trans h
  have hrow0 := World.ownsRow_lit (base := w₀.heap.size + 2 + 2) (e := 121) (size := 2) ((((w₀.alloc (.cells #[.int .i64 t.k, .int .i64 t.n, .slice a1 t.kids.length cap1] 25)).alloc (.cells #[.int .i64 u.k, .int .i64 u.n, .slice a2 u.kids.length cap2] 25)).alloc (.cells #[.int .i64 t.k, .int .i64 t.n, .slice a1 t.kids.length cap1] 25)).alloc (.cells #[.int .i64 u.k, .int .i64 u.n, .slice a2 u.kids.length cap2] 25)) #[.slice (some ⟨w₀.heap.size + 1 + 1, 0, none⟩) 1 1, .slice (some ⟨w₀.heap.size + 1 + 1 + 1, 0, none⟩) 1 1] 1 (by simp) (by decide) rfl
  have hzz : w₀.heap.size + 2 + 2 ≤ (((((w₀.alloc (.cells #[.int .i64 t.k, .int .i64 t.n, .slice a1 t.kids.length cap1] 25)).alloc (.cells #[.int .i64 u.k, .int .i64 u.n, .slice a2 u.kids.length cap2] 25)).alloc (.cells #[.int .i64 t.k, .int .i64 t.n, .slice a1 t.kids.length cap1] 25)).alloc (.cells #[.int .i64 u.k, .int .i64 u.n, .slice a2 u.kids.length cap2] 25)).alloc (.cells #[.slice (some ⟨w₀.heap.size + 1 + 1, 0, none⟩) 1 1, .slice (some ⟨w₀.heap.size + 1 + 1 + 1, 0, none⟩) 1 1] 121)).heap.size := by simp
  simp only [World.size_alloc] at hrow0
  have hcp : CpOk w₀ (w₀.heap.size + 2) t u (.slice a1 t.kids.length cap1) (.slice a2 u.kids.length cap2) ⟨[t], [u], .slice (some ⟨w₀.heap.size + 2, 0, none⟩) 1 1, .slice (some ⟨w₀.heap.size + 2 + 1, 0, none⟩) 1 1⟩ := ⟨by simp, by simp, Rd_t hA, Rd_u hM⟩
  revert hgood hrow0 hzz
  generalize (((((w₀.alloc (.cells #[.int .i64 t.k, .int .i64 t.n, .slice a1 t.kids.length cap1] 25)).alloc (.cells #[.int .i64 u.k, .int .i64 u.n, .slice a2 u.kids.length cap2] 25)).alloc (.cells #[.int .i64 t.k, .int .i64 t.n, .slice a1 t.kids.length cap1] 25)).alloc (.cells #[.int .i64 u.k, .int .i64 u.n, .slice a2 u.kids.length cap2] 25)).alloc (.cells #[.slice (some ⟨w₀.heap.size + 1 + 1, 0, none⟩) 1 1, .slice (some ⟨w₀.heap.size + 1 + 1 + 1, 0, none⟩) 1 1] 121)) = W
  intro hgood hzz hrow0
  go_loopg [5] (size t) (fun m v wr => EInv w₀ (w₀.heap.size + 2) t u (.slice a1 t.kids.length cap1) (.slice a2 u.kids.length cap2) m v wr)
  case atStart => exact ⟨[⟨[t], [u], .slice (some ⟨w₀.heap.size + 2, 0, none⟩) 1 1, .slice (some ⟨w₀.heap.size + 2 + 1, 0, none⟩) 1 1⟩], hrow0, by simpa using hcp, by simp [eqC, eqL], by simp [sizeC, sizeL], by simp [sizeC, sizeL], hgood, hzz⟩
  case round =>
    obtain ⟨cs, hrow, hok, heq, hm, hm2, hg, hz⟩ := hrel
    clear hcp hgood hrow0 hzz
    rcases List.eq_nil_or_concat cs with rfl | ⟨cs', c, rfl⟩
    · obtain ⟨aw, capw, rfl⟩ : ∃ a c, u5 = .slice a 0 c := by
        rcases ownsRow_forms hrow with ⟨h, _⟩ | ⟨_, _, h⟩
        · exact ⟨_, _, h⟩
        · exact ⟨_, _, h⟩
      have HE := Lib.hid heq
      clear heq
      go_wp2_with fail
      go_ret
      exact ⟨ret_bool HE.out, hg.1⟩
    · have hlen : (cs' ++ [c]).length = cs'.length + 1 := by simp
      simp only [List.concat_eq_append] at *
      rw [hlen] at hrow
      obtain ⟨gR, cap, rfl⟩ := ownsRow_succ' hrow
      have hgl := sizeC_len hok
      rw [hlen] at hgl
      obtain ⟨r0, r1, hqc, hcm, hBg, hgW⟩ := rowC_top hrow
      unfold maxLen at hcm
      have hq : cs'.length + 1 < 2147483648 := by omega
      obtain ⟨hc0, hcl, ⟨ba, oa, ca, vsa, hva, hlca, hcma, hra, hAa⟩, ⟨bb, ob, cb, vsb, hvb, hlcb, hcmb, hrb, hAb⟩⟩ := hok c (by simp)
      unfold maxLen at hcma hcmb
      have hrow' := ownsRow_pop (cellsC_len cs') (by rw [← cellsC_snoc]; exact hrow)
      have hok' : ∀ x ∈ cs', CpOk w₀ (w₀.heap.size + 2) t u (.slice a1 t.kids.length cap1) (.slice a2 u.kids.length cap2) x := fun x hx => hok x (by simp [hx])
      rw [sizeC_append] at hm hm2
      rw [eqC_append] at heq
      simp only [sizeC, Nat.add_zero] at hm hm2
      have hla := length_le_sizeL c.a
      have hlb1 : c.a.length ≤ c.b.length := by omega
      have hlb2 : c.b.length ≤ c.a.length := by omega
      rw [hva] at r0
      rw [hvb] at r1
      have HC0 := Lib.hid hc0
      have HVA := Lib.hid hva
      have HVB := Lib.hid hvb
      have HRA := Lib.hid hra
      have HRB := Lib.hid hrb
      have HAA := Lib.hid hAa
      have HAB := Lib.hid hAb
      have HO := Lib.hid hok'
      have HE := Lib.hid heq
      clear hlen hok hrow heq hgl hva hvb hra hrb hAa hAb hok' hcl
      go_wp2_with fail
      have hbox := World.alloc_heap_new wr (.cells #[.slice (some ⟨ba, oa, none⟩) c.a.length ca, .slice (some ⟨bb, ob, none⟩) c.b.length cb] 121)
      have hrow2 := hrow'.alloc (.cells #[.slice (some ⟨ba, oa, none⟩) c.a.length ca, .slice (some ⟨bb, ob, none⟩) c.b.length cb] 121)
      have hg2 := hg.below (by omega) ((Below.refl (w₀.heap.size + 2 + 2) wr).alloc hz (.cells #[.slice (some ⟨ba, oa, none⟩) c.a.length ca, .slice (some ⟨bb, ob, none⟩) c.b.length cb] 121))
      have hne : (Value.slice (some ⟨gR, 0, none⟩) cs'.length cap).ownBlock ≠ some wr.heap.size := by simp [Value.ownBlock]; omega
      clear r0 r1 hrow' hg
      revert hrow2 hg2 hbox
      generalize wr.alloc (.cells #[.slice (some ⟨ba, oa, none⟩) c.a.length ca, .slice (some ⟨bb, ob, none⟩) c.b.length cb] 121) = wb
      generalize wr.heap.size = Bg at *
      intro hbox hrow2 hg2
      rw [← HVA.out, ← HVB.out] at hbox
      go_loopw [5, 33] (fun v i wx => EIn w₀ (w₀.heap.size + 2) t u (.slice a1 t.kids.length cap1) (.slice a2 u.kids.length cap2) cs' c Bg v i wx) (fun _ i _ => c.a.length - (RowKit.intOf i).toNat)
      case atStart => exact ⟨0, [], Nat.zero_le _, rfl, by simpa using hrow2, by simp, by
        have := HE.out
        simp only [List.append_nil, List.drop_zero]
        rw [← this, Bool.and_comm]; simp [eqC], by simp [sizeC], hg2, hbox, hne, by omega⟩
      case round =>
        obtain ⟨j, cx, hj, rfl, hrow3, hcx, he3, hm3, hg3, hb3, hn3, hB3⟩ := hrel
        clear hrow2 hg2 hbox
        by_cases hlt : j < c.a.length
        · have hlt2 : j < c.b.length := by omega
          obtain ⟨k0, k1, k2⟩ := HRA.out wr hg3 j hlt
          obtain ⟨l0, l1, l2⟩ := HRB.out wr hg3 j hlt2
          obtain ⟨ak, ck, hvk⟩ := (HAA.out j hlt).shape
          obtain ⟨am, cm, hvm⟩ := (HAB.out j hlt2).shape
          rw [hvk] at k2
          rw [hvm] at l2
          have hbbW : bb < wr.heap.size := World.block_lt_of_cell? wr ⟨bb, ob + j * 3, none⟩ l0
          have HK := Lib.hid hvk
          have HM := Lib.hid hvm
          rw [HVA.out, HVB.out] at hb3
          obtain ⟨b0, b1⟩ : wr.cell? ⟨Bg, 0, none⟩ = some (.slice (some ⟨ba, oa, none⟩) c.a.length ca) ∧ wr.cell? ⟨Bg, 1, none⟩ = some (.slice (some ⟨bb, ob, none⟩) c.b.length cb) := by
            refine ⟨?_, ?_⟩ <;> simp [World.cell?, hb3]
          have hBW : Bg < wr.heap.size := (Array.getElem?_eq_some_iff.1 hb3).1
          have HB := Lib.hid hb3
          have ED := Lib.hid (eqL_drop hlt hlt2)
          have E3 := Lib.hid he3
          have ET := Lib.hid (eqT_eq c.a[j] c.b[j])
          clear hb3 hvk hvm he3
          have fin0 : Hid (eqT c.a[j] c.b[j] = false → eqT t u = false) := fun h => by rw [← E3.out, ED.out, h]; rfl
          have HBL := Lib.hid (show Below w₀.heap.size w₀ wr from hg3.1)
          have hw0 : w₀.heap.size ≤ wr.heap.size := hg3.1.size
          by_cases hk : c.a[j].k = c.b[j].k
          rotate_left
          · have e1 : (c.a[j].k != c.b[j].k) = true := by simpa using hk
            have EF := Lib.hid (fin0 (by rw [ET.out, decide_eq_false hk]; rfl))
            clear hk
            go_wp2_with fail
            go_ret
            exact ⟨ret_bool EF.out.symm, (HBL.out.alloc hw0 _).alloc (by simp; omega) _⟩
          have e1 : (c.a[j].k != c.b[j].k) = false := by simpa using hk
          by_cases hn : c.a[j].n = c.b[j].n
          rotate_left
          · have e2 : (c.a[j].n != c.b[j].n) = true := by simpa using hn
            have EF := Lib.hid (fin0 (by rw [ET.out, decide_eq_false hn]; simp))
            clear hk hn
            go_wp2_with fail
            go_ret
            exact ⟨ret_bool EF.out.symm, (HBL.out.alloc hw0 _).alloc (by simp; omega) _⟩
          have e2 : (c.a[j].n != c.b[j].n) = false := by simpa using hn
          by_cases hl : c.a[j].kids.length = c.b[j].kids.length
          rotate_left
          · have e3 : ((c.a[j].kids.length : Int) != (c.b[j].kids.length : Int)) = true := by simp; omega
            have EF := Lib.hid (fin0 (by rw [ET.out, eqL_len hl]; simp))
            clear hk hn hl
            go_wp2_with fail
            go_ret
            exact ⟨ret_bool EF.out.symm, (HBL.out.alloc hw0 _).alloc (by simp; omega) _⟩
          have e3 : ((c.a[j].kids.length : Int) != (c.b[j].kids.length : Int)) = false := by simp; omega
          have ET2 := Lib.hid (show eqT c.a[j] c.b[j] = eqL c.a[j].kids c.b[j].kids by rw [ET.out, decide_eq_true hk, decide_eq_true hn]; rfl)
          have HLL := Lib.hid hl
          have hts := sizeL_take_succ hlt
          have hse := size_eq c.a[j]
          have HG3 := Lib.hid hg3
          have HR3 := Lib.hid hrow3
          clear hk hn hl hg3 hrow3
          by_cases hkk : 0 < c.a[j].kids.length
          · have hsl := sizeC_len (w₀ := w₀) (B := w₀.heap.size + 2) (t := t) (u := u) (tvv := .slice a1 t.kids.length cap1) (uvv := .slice a2 u.kids.length cap2) (cs := cs' ++ cx) (fun y hy => by
              rcases List.mem_append.1 hy with hy | hy
              · exact HO.out y hy
              · exact hcx y hy)
            rw [sizeC_append] at hsl
            have hst := sizeL_take c.a j
            have hq1 : (cs' ++ cx).length + 1 ≤ 4294967296 := by omega
            have hi1 : (cs' ++ cx).length + 1 ≤ maxLen := by unfold maxLen; omega
            have hi2 : ((cs' ++ cx).length + 1) * 48 ≤ 140737488355328 := by omega
            clear hsl hst
            obtain ⟨i0, hi, hz0, hz1, hz2⟩ := info_parts Try.infoC
            have HTS := Lib.hid hts
            clear hts
            have hbw : w₀.heap.size + 2 + 2 ≤ wr.heap.size := by omega
            go_wp2_with (at_builtin; refine wpList_append_lies _ rfl (.tmp 68) (.tmp 74) 122 rfl (w₀.heap.size + 2 + 2) 121 i0 _ 2 48 Try.underlying122 hi hz0 hz1 hz2 rfl (by decide) u5 _ _ rfl (((HR3.out.alloc _).alloc _).alloc _) ⟨wr.heap.size + 1 + 1, 0, none⟩ 1 1 [.slice ak c.a[j].kids.length ck, .slice am c.b[j].kids.length cm] rfl rfl (by have := World.news_of_block (World.alloc_heap_new ((wr.alloc (.cells #[.int .i64 c.a[j].k, .int .i64 c.a[j].n, .slice ak c.a[j].kids.length ck] 25)).alloc (.cells #[.int .i64 c.b[j].k, .int .i64 c.b[j].n, .slice am c.b[j].kids.length cm] 25)) (.cells #[.slice ak c.a[j].kids.length ck, .slice am c.b[j].kids.length cm] 121)); simpa using this) (by simp [Value.oneCell']) (by decide) hi1 hi2 (by simp; omega) (wr.heap.size + 1 + 1 + 1) (by simp) ?_; intro g cp w1 hown1 hgrow1 hat1 hlt1)
            have hol := HR3.out.lt
            have hst : Below (w₀.heap.size + 2 + 2) wr w1 := ((((Below.refl _ wr).alloc hbw _).alloc (by simp; omega) _).alloc (by simp; omega) _).grown hgrow1 (by simp; omega) (fun k hk => (hol k hk).1)
            go_roundw
            case rel =>
              refine ⟨j + 1, cx ++ [⟨c.a[j].kids, c.b[j].kids, .slice ak c.a[j].kids.length ck, .slice am c.b[j].kids.length cm⟩], by omega, by go_num, ?_, ?_, ?_, ?_, HG3.out.below (by omega) hst, ?_, ?_, hB3⟩
              · simpa [cellsC, Cp.cells, Nat.add_assoc] using hown1
              · intro y hy
                rcases List.mem_append.1 hy with hy | hy
                · exact hcx y hy
                · obtain rfl := List.mem_singleton.1 hy
                  exact ⟨hkk, HLL.out, Rd_of hkk (by rw [← HK.out]; exact HAA.out j hlt), Rd_of (by rw [← HLL.out]; exact hkk) (by rw [← HM.out]; exact HAB.out j hlt2)⟩
              · rw [← E3.out, ED.out, ET2.out, ← List.append_assoc, eqC_append (cs' ++ cx)]
                simp only [eqC, List.all_cons, List.all_nil, Bool.and_true]
                cases eqL c.a[j].kids c.b[j].kids <;> simp
              · rw [sizeC_append, HTS.out]; simp only [sizeC]; omega
              · rw [HVA.out, HVB.out]
                refine (hgrow1.block Bg (by simp; omega) (fun e => hn3 e.symm)).trans ((Below.heap_alloc _ _ _ (by simp; omega)).trans ((Below.heap_alloc _ _ _ (by simp; omega)).trans ((Below.heap_alloc _ _ _ (by omega)).trans HB.out)))
              · intro e
                rcases hat1 with h | h
                · exact hn3 (by rw [h]; simpa [Value.ownBlock] using e)
                · simp [Value.ownBlock] at e; omega
            case measure => simp [RowKit.intOf]; omega
          · have hk0 : c.a[j].kids = [] := List.eq_nil_of_length_eq_zero (by omega)
            have hk1 : c.b[j].kids = [] := List.eq_nil_of_length_eq_zero (by rw [← HLL.out]; omega)
            have HK0 := Lib.hid hk0
            have HK1 := Lib.hid hk1
            have HTS := Lib.hid hts
            clear hk0 hk1 hts
            have hbw : w₀.heap.size + 2 + 2 ≤ wr.heap.size := by omega
            have hst : Hid (∀ o1 o2, Below (w₀.heap.size + 2 + 2) wr ((wr.alloc o1).alloc o2)) := fun o1 o2 => ((Below.refl _ wr).alloc hbw _).alloc (by simp; omega) _
            go_wp2_with fail
            go_roundw
            case rel =>
              refine ⟨j + 1, cx, by omega, by go_num, (HR3.out.alloc _).alloc _, hcx, ?_, ?_, HG3.out.below (by omega) (hst.out _ _), ?_, hn3, hB3⟩
              · rw [← E3.out, ED.out, ET2.out, HK0.out, HK1.out]; rfl
              · rw [HTS.out]; omega
              · rw [HVA.out, HVB.out]
                exact (Below.heap_alloc _ _ _ (by simp; omega)).trans ((Below.heap_alloc _ _ _ (by omega)).trans HB.out)
            case measure => simp [RowKit.intOf]; omega
        · obtain rfl : j = c.a.length := by omega
          have HE3 := Lib.hid he3
          have h9 : sizeL (c.a.take c.a.length) = sizeL c.a := by rw [List.take_of_length_le (Nat.le_refl _)]
          have h10 := HC0.out
          have hlast : sizeC (cs' ++ cx) < sizeC cs' + sizeL c.a := by rw [sizeC_append]; omega
          clear h9 h10
          have HLS := Lib.hid hlast
          have hbl := (Array.getElem?_eq_some_iff.1 hb3).1
          have hzw : w₀.heap.size + 2 + 2 ≤ wr.heap.size := by omega
          clear he3 hlast hb3 hbl
          go_wp2_with fail
          go_roundg (sizeC (cs' ++ cx))
          case rel =>
            refine ⟨cs' ++ cx, hrow3, fun y hy => ?_, ?_, Nat.le_refl _, by have := HLS.out; omega, hg3, by omega⟩
            · rcases List.mem_append.1 hy with hy | hy
              · exact HO.out y hy
              · exact hcx y hy
            · have := HE3.out
              rw [List.drop_length, List.drop_of_length_le (by omega)] at this
              simpa [eqL] using this
          case measure => have := HLS.out; omega
end Go.Proofs.Ytggefpkfikimiaa
/- What the statements of layer 2 wake up; whether their terms are heavy; a term of so many nodes. -/
namespace Go.Proofs.Ytggefpkfikimiaa
open Go.RowKit

def heavyB (l : List Tm) : Bool := decide (60 < l.length) || l.any (fun t => decide (300 < depth t)) || decide (9000 < sizeL l)
theorem any_take {l : List Tm} {j : Nat} (h : j < l.length) (p : Tm → Bool) : (l.take (j + 1)).any p = ((l.take j).any p || p l[j]) := by
  rw [List.take_succ_eq_append_getElem h, List.any_append]; simp

set_option maxRecDepth 100000 in
set_option maxHeartbeats 1600000 in
theorem heavy_any (l : List Tm) (hs : sizeL l < 2147483648) (w : World) (v : Value) (hA : At w l v) :
    Calls Try.prog 29 #[v] w fun e w' => e = .returned (.bool (heavyB l)) ∧ Below w.heap.size w w' := by
  obtain ⟨a, cap, rfl⟩ := hA.shape
  have hlen : l.length < 2147483648 := by have := length_le_sizeL l; omega
  by_cases h60 : 60 < l.length
  · have e1 : decide ((60 : Int) < (l.length : Int)) = true := by simp; omega
    have HE := Lib.hid (show heavyB l = true by rw [heavyB, decide_eq_true h60]; rfl)
    go_enter Try.func29, Try.ntmps29
    go_wp2_with fail
    go_ret
    exact ⟨ret_bool HE.out.symm, Below.refl _ _⟩
  have e1 : decide ((60 : Int) < (l.length : Int)) = false := by simp; omega
  have E := Lib.hid (show heavyB l = (l.any (fun t => decide (300 < depth t)) || decide (9000 < sizeL l)) by rw [heavyB, decide_eq_false h60]; rfl)
  clear h60
  go_enter Try.func29, Try.ntmps29
  go_wp2_with fail
  go_loopw [3, 4] (fun n i wr => ∃ j : Nat, j ≤ l.length ∧ i = .int .i64 j ∧ n = .int .i64 (sizeL (l.take j) : Nat) ∧ (l.take j).any (fun t => decide (300 < depth t)) = false ∧ Below w.heap.size w wr)
    (fun _ i _ => l.length - (RowKit.intOf i).toNat)
  case atStart => exact ⟨0, Nat.zero_le _, rfl, rfl, rfl, Below.refl _ _⟩
  case round =>
    obtain ⟨j, hj, rfl, rfl, han, hbw⟩ := hrel
    by_cases hlt : j < l.length
    · obtain ⟨b, off, cap', vs, he, h1, h2, kk, kn, kv, ks⟩ := (hA.bel hbw (Nat.le_refl _)).pos (by omega)
      have gk := kk j hlt
      have gn := kn j hlt
      have gv := kv j hlt
      have gs := ks j hlt
      have hsz := sizeL_take_succ hlt
      have hle := sizeL_take l (j + 1)
      have hse := size_get hlt
      have HD : Hid (∀ w', Below wr.heap.size wr w' → Calls Try.prog 57 #[.agg #[.int .i64 l[j].k, .int .i64 l[j].n, vs j]] w' fun e w'' => e = .returned (.int .i64 (depth l[j])) ∧ Below w'.heap.size w' w'') := fun w' hw' => rdepth_any l[j] (by omega) w' (vs j) (gs.bel hw' (Nat.le_refl _))
      have HS : Hid (∀ w', Below wr.heap.size wr w' → Calls Try.prog 58 #[.agg #[.int .i64 l[j].k, .int .i64 l[j].n, vs j]] w' fun e w'' => e = .returned (.int .i64 (size l[j])) ∧ Below w'.heap.size w' w'') := fun w' hw' => rsize_any l[j] (by omega) w' (vs j) (gs.bel hw' (Nat.le_refl _))
      have HA := Lib.hid (any_take hlt (fun t => decide (300 < depth t)))
      have HSZ := Lib.hid hsz
      have HAN := Lib.hid han
      have hb3 : sizeL (l.take j) + size l[j] < 2147483648 := by omega
      have hdl : depth l[j] < 2147483648 := by have := depth_le_size l[j]; omega
      have up : Hid (∀ w', Below wr.heap.size wr w' → w'.cell? ⟨b, off + j * 3, none⟩ = some (.int .i64 l[j].k) ∧ w'.cell? ⟨b, off + j * 3 + 1, none⟩ = some (.int .i64 l[j].n) ∧ w'.cell? ⟨b, off + j * 3 + 2, none⟩ = some (vs j)) := fun w' hw' => by
        refine ⟨?_, ?_, ?_⟩
        · rw [hw'.cell (World.block_lt_of_cell? wr _ gk)]; exact gk
        · rw [hw'.cell (World.block_lt_of_cell? wr _ gn)]; exact gn
        · rw [hw'.cell (World.block_lt_of_cell? wr _ gv)]; exact gv
      clear kk kn kv ks han hsz hle hse hs
      cases he
      by_cases hd : 300 < depth l[j]
      · have e3 : decide ((300 : Int) < (depth l[j] : Int)) = true := by simp; omega
        have HN := Lib.hid (show l.any (fun t => decide (300 < depth t)) = true from List.any_eq_true.2 ⟨l[j], List.getElem_mem hlt, by simpa using hd⟩)
        clear hd
        go_wp2_with (go_at_call 57; refine (HD.out _ (Below.refl _ _)).mono ?_; rintro e w1 ⟨rfl, hb1⟩)
        go_ret
        exact ⟨ret_bool (by rw [E.out, HN.out]; rfl), hbw.trans (hb1.mono hbw.size)⟩
      · have e3 : decide ((300 : Int) < (depth l[j] : Int)) = false := by simp; omega
        have HND := Lib.hid (decide_eq_false hd)
        clear hd
        go_wp2_with (first | (go_at_call 57; refine (HD.out _ (Below.refl _ _)).mono ?_; rintro e w1 ⟨rfl, hb1⟩; obtain ⟨q0, q1, q2⟩ := up.out w1 hb1) | (go_at_call 58; refine (HS.out _ hb1).mono ?_; rintro e w2 ⟨rfl, hb2⟩))
        go_roundw
        case rel => exact ⟨j + 1, by omega, by go_num, by rw [HSZ.out]; go_num, by rw [HA.out, HAN.out, HND.out]; rfl, hbw.trans ((hb1.trans (hb2.mono hb1.size)).mono hbw.size)⟩
        case measure => simp [RowKit.intOf]; omega
    · obtain rfl : j = l.length := by omega
      have hlt : decide ((l.length : Int) < (l.length : Int)) = false := by simp
      have HAN := Lib.hid han
      clear han
      go_wp2_with fail
      go_ret
      exact ⟨ret_bool (by have := HAN.out; rw [List.take_length] at this; rw [E.out, this]; simp; omega), hbw⟩

/-- The identity of a universe. -/
def idT : Tm := .node 5 0 [.node 2 0 [], .node 1 0 []]
def v0T : Tm := .node 1 0 []
theorem id_facts : size idT = 3 ∧ depth idT = 2 ∧ checkE idT = 0 ∧ scopeT idT 0 0 = true ∧ scopeT v0T 0 0 = false ∧ eqT idT idT = true := by decide +kernel
theorem id_fits : Fits idT := by
  refine .mk _ _ _ (by unfold I64; omega) (by unfold I64; omega) fun u hu => ?_
  rcases List.mem_cons.1 hu with rfl | hu
  · exact .mk _ _ _ (by unfold I64; omega) (by unfold I64; omega) (by simp)
  · obtain rfl := List.mem_singleton.1 hu
    exact .mk _ _ _ (by unfold I64; omega) (by unfold I64; omega) (by simp)
theorem v0_fits : Fits v0T := .mk _ _ _ (by unfold I64; omega) (by unfold I64; omega) (by simp)
theorem at_id (w : World) : At (w.alloc (.cells #[.int .i64 2, .int .i64 0, .slice none 0 0, .int .i64 1, .int .i64 0, .slice none 0 0] 25)) [.node 2 0 [], .node 1 0 []] (.slice (some ⟨w.heap.size, 0, none⟩) 2 2) := by
  have hn := World.alloc_heap_new w (.cells #[.int .i64 2, .int .i64 0, .slice none 0 0, .int .i64 1, .int .i64 0, .slice none 0 0] 25)
  revert hn
  generalize w.alloc (.cells #[.int .i64 2, .int .i64 0, .slice none 0 0, .int .i64 1, .int .i64 0, .slice none 0 0] 25) = W
  intro hn
  refine .row _ w.heap.size 0 2 (fun _ => .slice none 0 0) (by simp) (by decide) (fun i hi => ?_) (fun i hi => ?_) (fun i hi => ?_) (fun i hi => ?_)
  all_goals
    have hi2 : i < 2 := hi
    have : i = 0 ∨ i = 1 := by omega
    rcases this with rfl | rfl
  all_goals first | exact .nl | simp [World.cell?, hn, Tm.k, Tm.n]

end Go.Proofs.Ytggefpkfikimiaa
