/- Package posit's view in memory; its under, behind, guarded, constant. No conditions but sizes. -/
import Derived.Test.YtggefpkfikimiaaGreatG27
import Derived.Test.YtggefpkfikimiaaGreatG18
import Derived.Test.YtggefpkfikimiaaGreatG24
namespace Go.Proofs.YtggefpkfikimiaaGreat
open Go.RowKit
set_option linter.unusedVariables false

theorem boxc7 {W : World} {B : Nat} {ty : TypeId} {a b c d e f g : Value} (h : W.heap[B]? = some (.cells #[a, b, c, d, e, f, g] ty (0, 0))) :
    W.cell? ⟨B, 0, none⟩ = some a ∧ W.cell? ⟨B, 1, none⟩ = some b ∧ W.cell? ⟨B, 2, none⟩ = some c ∧ W.cell? ⟨B, 3, none⟩ = some d ∧ W.cell? ⟨B, 4, none⟩ = some e ∧ W.cell? ⟨B, 5, none⟩ = some f ∧ W.cell? ⟨B, 6, none⟩ = some g := by
  refine ⟨?_, ?_, ?_, ?_, ?_, ?_, ?_⟩ <;> simp [World.cell?, h]
/-- A view's parts. -/
def VAt (w : World) (b : BlkT) (args : List ArgT) (vs vc va : Value) : Prop := BAt w b vs vc ∧ ARow w args va
theorem VAt.bel {w w' : World} (hg : Below w.heap.size w w') {b : BlkT} {args : List ArgT} {vs vc va : Value} (h : VAt w b args vs vc va) : VAt w' b args vs vc va := ⟨h.1.bel hg, ARow.bel hg h.2⟩
theorem VAt.shape {w : World} {b : BlkT} {args : List ArgT} {vs vc va : Value} (h : VAt w b args vs vc va) :
    ∃ ps cs pc cc pa ca, vs = .slice ps b.sorts.length cs ∧ vc = .slice pc b.cons.length cc ∧ va = .slice pa args.length ca := by
  obtain ⟨ps, cs, pc, cc, e1, e2⟩ := h.1.shape
  obtain ⟨pa, ca, e4⟩ := h.2.shape
  exact ⟨ps, cs, pc, cc, pa, ca, e1, e2, e4⟩
/-- A view in its box. -/
def OneW (w0 : World) (B1 : Nat) (b : BlkT) (base : Int) (args : List ArgT) (r c : Int) (vs vc va : Value) (W : World) : Prop :=
  W.heap[B1]? = some (.cells #[vs, vc, .int .i64 b.elim, .int .i64 base, va, .int .i64 r, .int .i64 c] 78 (0, 0)) ∧ VAt W b args vs vc va ∧ Below w0.heap.size w0 W
theorem OneW.bel {w0 W W' : World} {B1 : Nat} {b : BlkT} {base : Int} {args : List ArgT} {r c : Int} {vs vc va : Value} (h : OneW w0 B1 b base args r c vs vc va W) (hb : Below W.heap.size W W') : OneW w0 B1 b base args r c vs vc va W' :=
  ⟨(hb.block _ (Array.getElem?_eq_some_iff.1 h.1).1).trans h.1, h.2.1.bel hb, h.2.2.trans (hb.mono h.2.2.size)⟩
theorem onew_start (w : World) (b : BlkT) (base : Int) (args : List ArgT) (r c : Int) (vs vc va : Value) (h : VAt w b args vs vc va) :
    OneW w w.heap.size b base args r c vs vc va (w.alloc (.cells #[vs, vc, .int .i64 b.elim, .int .i64 base, va, .int .i64 r, .int .i64 c] 78)) :=
  ⟨World.alloc_heap_new w _, h.bel (below_al w _), below_al w _⟩
theorem OneW.cells {w0 W : World} {B1 : Nat} {b : BlkT} {base : Int} {args : List ArgT} {r c : Int} {vs vc va : Value} (h : OneW w0 B1 b base args r c vs vc va W) :
    W.cell? ⟨B1, 0, none⟩ = some vs ∧ W.cell? ⟨B1, 1, none⟩ = some vc ∧ W.cell? ⟨B1, 2, none⟩ = some (.int .i64 b.elim) ∧ W.cell? ⟨B1, 3, none⟩ = some (.int .i64 base) ∧ W.cell? ⟨B1, 4, none⟩ = some va ∧ W.cell? ⟨B1, 5, none⟩ = some (.int .i64 r) ∧ W.cell? ⟨B1, 6, none⟩ = some (.int .i64 c) := by
  have h1 := h.1
  refine ⟨?_, ?_, ?_, ?_, ?_, ?_, ?_⟩ <;> · rw [World.cell?, h1]; rfl
set_option maxRecDepth 100000 in
set_option maxHeartbeats 2000000 in
theorem sunder_any (b : BlkT) (base : Int) (args : List ArgT) (r m c : Int) (hr : I64 (r + m)) (w : World) (vs vc va : Value) (hA : VAt w b args vs vc va) :
    Calls Tryz.prog 86 #[.agg #[vs, vc, .int .i64 b.elim, .int .i64 base, va, .int .i64 r, .int .i64 c], .int .i64 m] w fun e w' => e = .returned (.agg #[vs, vc, .int .i64 b.elim, .int .i64 base, va, .int .i64 (r + m), .int .i64 c]) ∧ Below w.heap.size w w' := by
  obtain ⟨ps, cs, pc, cc, pa, ca, rfl, rfl, rfl⟩ := hA.shape
  have hw : IntKind.i64.wrap (r + m) = r + m := IntWalk.i64_in _ (by have := hr; unfold I64 at this; omega)
  clear hA
  go_enter Tryz.func86, Tryz.ntmps86
  go_wp2_with fail
  have hn := World.alloc_heap_new (w.alloc (.cells #[.slice ps b.sorts.length cs, .slice pc b.cons.length cc, .int .i64 b.elim, .int .i64 base, .slice pa args.length ca, .int .i64 (r + m), .int .i64 c] 78)) (.cells #[.slice ps b.sorts.length cs, .slice pc b.cons.length cc, .int .i64 b.elim, .int .i64 base, .slice pa args.length ca, .int .i64 (r + m), .int .i64 c] 78)
  rw [World.size_alloc] at hn
  obtain ⟨s0, s1, s2, s3, s4, s5, s6⟩ := boxc7 hn
  refine bodyPost_ret (v := .agg #[.slice ps b.sorts.length cs, .slice pc b.cons.length cc, .int .i64 b.elim, .int .i64 base, .slice pa args.length ca, .int .i64 (r + m), .int .i64 c]) (by simp [results, Tryz.f86, go_sem, s0, s1, s2, s3, s4, s5, s6]) rfl ⟨rfl, (below_al _ _).trans ((below_al _ _).mono (by simp))⟩
set_option maxRecDepth 100000 in
set_option maxHeartbeats 2000000 in
theorem sbehind_any (b : BlkT) (base : Int) (args args2 : List ArgT) (r c : Int) (w : World) (vs vc va va2 : Value) (hA : VAt w b args vs vc va) (hB : ARow w args2 va2) :
    Calls Tryz.prog 66 #[.agg #[vs, vc, .int .i64 b.elim, .int .i64 base, va, .int .i64 r, .int .i64 c], va2] w fun e w' => e = .returned (.agg #[vs, vc, .int .i64 b.elim, .int .i64 base, va2, .int .i64 r, .int .i64 c]) ∧ Below w.heap.size w w' := by
  obtain ⟨ps, cs, pc, cc, pa, ca, rfl, rfl, rfl⟩ := hA.shape
  obtain ⟨pa2, ca2, rfl⟩ := hB.shape
  clear hA hB
  go_enter Tryz.func66, Tryz.ntmps66
  go_wp2_with fail
  have hn := World.alloc_heap_new (w.alloc (.cells #[.slice ps b.sorts.length cs, .slice pc b.cons.length cc, .int .i64 b.elim, .int .i64 base, .slice pa2 args2.length ca2, .int .i64 r, .int .i64 c] 78)) (.cells #[.slice ps b.sorts.length cs, .slice pc b.cons.length cc, .int .i64 b.elim, .int .i64 base, .slice pa2 args2.length ca2, .int .i64 r, .int .i64 c] 78)
  rw [World.size_alloc] at hn
  obtain ⟨s0, s1, s2, s3, s4, s5, s6⟩ := boxc7 hn
  refine bodyPost_ret (v := .agg #[.slice ps b.sorts.length cs, .slice pc b.cons.length cc, .int .i64 b.elim, .int .i64 base, .slice pa2 args2.length ca2, .int .i64 r, .int .i64 c]) (by simp [results, Tryz.f66, go_sem, s0, s1, s2, s3, s4, s5, s6]) rfl ⟨rfl, (below_al _ _).trans ((below_al _ _).mono (by simp))⟩
/-- Whether a term is a guarded variable, and how many Doms its Arg has. -/
def gokB (args : List ArgT) (r : Nat) (t : Tm) : Bool := decide (t.k = 1) && decide (0 ≤ guardP (viewP args r) t.n)
def gdomB (args : List ArgT) (r : Nat) (t : Tm) : Int := if gokB args r t then domLen args (guardP (viewP args r) t.n) else 0
set_option maxRecDepth 100000 in
set_option maxHeartbeats 2000000 in
theorem sguarded_any (b : BlkT) (base : Int) (args : List ArgT) (hl : args.length ≤ 1048576) (r : Nat) (hr : r ≤ 10000000) (c : Int) (t : Tm) (hn : t.k = 1 → 0 ≤ t.n ∧ t.n ≤ 10000000) (w : World) (vs vc va v : Value) (hA : VAt w b args vs vc va) (hT : At w t.kids v) :
    Calls Tryz.prog 89 #[.agg #[vs, vc, .int .i64 b.elim, .int .i64 base, va, .int .i64 (r : Int), .int .i64 c], .agg #[.int .i64 t.k, .int .i64 t.n, v]] w fun e w' => e = .returned (.tuple #[.int .i64 (gdomB args r t), .bool (gokB args r t)]) ∧ Below w.heap.size w w' := by
  obtain ⟨ps, cs, pc, cc, pa, ca, rfl, rfl, rfl⟩ := hA.shape
  obtain ⟨at0, ct0, rfl⟩ := hT.shape
  have O0 := onew_start w b base args (r : Int) c _ _ _ hA
  have HB := Lib.hid (O0.2.2.trans ((below_al _ (.cells #[.int .i64 t.k, .int .i64 t.n, .slice at0 t.kids.length ct0] 37)).mono O0.2.2.size))
  have HR := Lib.hid hA.2
  clear O0 hA hT
  by_cases hk : t.k = 1
  rotate_left
  · have e1 : gokB args r t = false := by rw [gokB, decide_eq_false hk, Bool.false_and]
    have e2 : gdomB args r t = 0 := by rw [gdomB, e1]; rfl
    rw [e1, e2]
    have hk' : (t.k != 1) = true := by simpa using hk
    clear e1 e2 hk
    go_enter Tryz.func89, Tryz.ntmps89
    go_wp2_with fail
    exact bodyPost_ret (v := .tuple #[.int .i64 0, .bool false]) (by simp [results, Tryz.f89, go_sem]) rfl ⟨rfl, HB.out⟩
  obtain ⟨hn0, hn1⟩ := hn hk
  obtain ⟨hv1, hv2⟩ := view_guard args r t.n hn0
  have hw1 : IntKind.i64.wrap ((args.length : Int) - 1) = (args.length : Int) - 1 := IntWalk.i64_in _ (by omega)
  have hw2 : IntKind.i64.wrap (t.n - (r : Int)) = t.n - (r : Int) := IntWalk.i64_in _ (by omega)
  have hw3 : IntKind.i64.wrap ((args.length : Int) - 1 - (t.n - (r : Int))) = (args.length : Int) - 1 - (t.n - (r : Int)) := IntWalk.i64_in _ (by omega)
  have hk' : (t.k != 1) = false := by simpa using hk
  by_cases h1 : (args.length : Int) - 1 - (t.n - (r : Int)) < 0
  · have hg := hv2 (.inl h1)
    have e1 : gokB args r t = false := by rw [gokB, hg]; simp
    have e2 : gdomB args r t = 0 := by rw [gdomB, e1]; rfl
    rw [e1, e2]
    clear e1 e2 hv1 hv2 hg hn hk hn0 hn1
    go_enter Tryz.func89, Tryz.ntmps89
    go_wp2_with fail
    exact bodyPost_ret (v := .tuple #[.int .i64 0, .bool false]) (by simp [results, Tryz.f89, go_sem]) rfl ⟨rfl, HB.out⟩
  by_cases h2 : (args.length : Int) ≤ (args.length : Int) - 1 - (t.n - (r : Int))
  · have hg := hv2 (.inr h2)
    have e1 : gokB args r t = false := by rw [gokB, hg]; simp
    have e2 : gdomB args r t = 0 := by rw [gdomB, e1]; rfl
    rw [e1, e2]
    clear e1 e2 hv1 hv2 hg hn hk hn0 hn1
    go_enter Tryz.func89, Tryz.ntmps89
    go_wp2_with fail
    exact bodyPost_ret (v := .tuple #[.int .i64 0, .bool false]) (by simp [results, Tryz.f89, go_sem]) rfl ⟨rfl, HB.out⟩
  obtain ⟨k, hkk⟩ : ∃ k : Nat, (k : Int) = (args.length : Int) - 1 - (t.n - (r : Int)) := ⟨((args.length : Int) - 1 - (t.n - (r : Int))).toNat, by omega⟩
  have hkl : k < args.length := by omega
  have hg := hv1 k hkk hkl
  rw [← hkk] at h1 h2
  replace hw3 := hw3.trans hkk.symm
  have h3 : (k : Int) < (args.length : Int) := by omega
  have h4 : 0 ≤ (k : Int) := by omega
  obtain ⟨bA, oA, vt, vd, vi, he, t1, t2, t3, y0, y1, y2, y3, y4, y5, y6⟩ := ARow.at (ARow.bel HB.out HR.out) hkl
  cases he
  obtain ⟨ad, cd, rfl⟩ := t2.shape
  clear t1 t2 t3 y1 y2 y3 y5 y6
  cases hrec : args[k].r with
  | false =>
    have e1 : gokB args r t = false := by rw [gokB, hg, hrec]; simp
    have e2 : gdomB args r t = 0 := by rw [gdomB, e1]; rfl
    rw [e1, e2]
    rw [hrec] at y0
    clear e1 e2 hv1 hv2 hg hn hk hn0 hn1 hrec hkk
    go_enter Tryz.func89, Tryz.ntmps89
    go_wp2_with fail
    exact bodyPost_ret (v := .tuple #[.int .i64 0, .bool false]) (by simp [results, Tryz.f89, go_sem]) rfl ⟨rfl, HB.out⟩
  | true =>
    have e1 : gokB args r t = true := by rw [gokB, hg, hrec, decide_eq_true hk]; simp
    have e2 : gdomB args r t = (args[k].dom.length : Int) := by
      rw [gdomB, e1, hg, hrec]
      show domLen args (k : Int) = _
      rw [domLen, Int.toNat_natCast, List.getElem?_eq_getElem hkl]
      rfl
    rw [e1, e2]
    rw [hrec] at y0
    clear e1 e2 hv1 hv2 hg hn hk hn0 hn1 hrec hkk
    go_enter Tryz.func89, Tryz.ntmps89
    go_wp2_with fail
    exact bodyPost_ret (v := .tuple #[.int .i64 (args[k].dom.length : Int), .bool true]) (by simp [results, Tryz.f89, go_sem]) rfl ⟨rfl, HB.out⟩
/-- Which constant of the block a term is. -/
def cstB (b : BlkT) (base : Int) (t : Tm) : Int × Int := if t.k = 3 then ofB b base t.n else (0, 0)
set_option maxRecDepth 100000 in
set_option maxHeartbeats 2000000 in
theorem sconstant_any (b : BlkT) (hs : blkN b ≤ 1048576) (base : Int) (args : List ArgT) (r c : Int) (t : Tm) (hI : I64 t.n) (w : World) (vs vc va v : Value) (hA : VAt w b args vs vc va) (hT : At w t.kids v) :
    Calls Tryz.prog 77 #[.agg #[vs, vc, .int .i64 b.elim, .int .i64 base, va, .int .i64 r, .int .i64 c], .agg #[.int .i64 t.k, .int .i64 t.n, v]] w fun e w' => e = .returned (.tuple #[.int .i64 (cstB b base t).1, .int .i64 (cstB b base t).2]) ∧ Below w.heap.size w w' := by
  obtain ⟨ps, cs, pc, cc, pa, ca, rfl, rfl, rfl⟩ := hA.shape
  obtain ⟨at0, ct0, rfl⟩ := hT.shape
  have O0 := onew_start w b base args r c _ _ _ hA
  have B1 := below_al (w.alloc (.cells #[.slice ps b.sorts.length cs, .slice pc b.cons.length cc, .int .i64 b.elim, .int .i64 base, .slice pa args.length ca, .int .i64 r, .int .i64 c] 78)) (.cells #[.int .i64 t.k, .int .i64 t.n, .slice at0 t.kids.length ct0] 37)
  have O1 := Lib.hid (O0.bel B1)
  clear O0 B1 hA hT
  by_cases hk : t.k = 3
  · have hk' : (t.k != 3) = false := by simpa using hk
    have HS := Lib.hid (sof_any b hs base t.n hI _ _ _ O1.out.2.1.1)
    rw [cstB, if_pos hk]
    generalize ofB b base t.n = PP at *
    obtain ⟨p, q⟩ := PP
    clear hk
    go_enter Tryz.func77, Tryz.ntmps77
    go_wp2_with fail
    refine HS.out.mono ?_
    rintro e w2 ⟨rfl, hb⟩
    have O2 := Lib.hid (O1.out.bel hb)
    clear hb
    go_wp2_with fail
    exact bodyPost_ret (v := .tuple #[.int .i64 p, .int .i64 q]) (by simp [results, Tryz.f77, go_sem]) rfl ⟨rfl, O2.out.2.2⟩
  · have hk' : (t.k != 3) = true := by simpa using hk
    rw [cstB, if_neg hk]
    clear hk
    go_enter Tryz.func77, Tryz.ntmps77
    go_wp2_with fail
    exact bodyPost_ret (v := .tuple #[.int .i64 0, .int .i64 0]) (by simp [results, Tryz.f77, go_sem]) rfl ⟨rfl, O1.out.2.2⟩
end Go.Proofs.YtggefpkfikimiaaGreat
/- Package posit's areClean, isDecodable, where isClean is known of the terms. No conditions but sizes. -/
namespace Go.Proofs.YtggefpkfikimiaaGreat
open Go.RowKit
set_option linter.unusedVariables false

/-- The program's isClean answers as the document says. -/
def ClP (b : BlkT) (base : Int) (args : List ArgT) (r : Nat) (u : Tm) : Prop := ∀ (c : Int) (w : World) (vs vc va v : Value), VAt w b args vs vc va → At w u.kids v →
  Calls Tryz.prog 67 #[.agg #[vs, vc, .int .i64 b.elim, .int .i64 base, va, .int .i64 (r : Int), .int .i64 c], .agg #[.int .i64 u.k, .int .i64 u.n, v]] w fun e w' => e = .returned (.bool (cleanB b base (viewP args r) u)) ∧ Below w.heap.size w w'
set_option maxRecDepth 100000 in
set_option maxHeartbeats 2000000 in
theorem sareclean_any (b : BlkT) (base : Int) (args : List ArgT) (r : Nat) (c : Int) (l : List Tm) (hl : l.length ≤ 1048576) (ih : ∀ u ∈ l, ClP b base args r u) (w : World) (vs vc va v : Value) (hA : VAt w b args vs vc va) (hL : At w l v) :
    Calls Tryz.prog 79 #[.agg #[vs, vc, .int .i64 b.elim, .int .i64 base, va, .int .i64 (r : Int), .int .i64 c], v] w fun e w' => e = .returned (.bool (l.all (cleanB b base (viewP args r)))) ∧ Below w.heap.size w w' := by
  obtain ⟨ps, cs, pc, cc, pa, ca, rfl, rfl, rfl⟩ := hA.shape
  obtain ⟨aL, cL, rfl⟩ := hL.shape
  have O0 := Lib.hid (onew_start w b base args (r : Int) c _ _ _ hA)
  have A0 := Lib.hid (hL.bel O0.out.2.2 (Nat.le_refl _))
  have IH := Lib.hid ih
  clear hA hL ih
  go_enter Tryz.func79, Tryz.ntmps79
  go_wp2_with fail
  revert O0 A0
  generalize w.alloc (.cells #[.slice ps b.sorts.length cs, .slice pc b.cons.length cc, .int .i64 b.elim, .int .i64 base, .slice pa args.length ca, .int .i64 (r : Int), .int .i64 c] 78) = W0
  intro O0 A0
  go_loopw [9] (fun i wr => ∃ j : Nat, j ≤ l.length ∧ i = .int .i64 j ∧ l.all (cleanB b base (viewP args r)) = (l.drop j).all (cleanB b base (viewP args r)) ∧ OneW w w.heap.size b base args (r : Int) c (.slice ps b.sorts.length cs) (.slice pc b.cons.length cc) (.slice pa args.length ca) wr ∧ At wr l (.slice aL l.length cL)) (fun i _ => l.length - (RowKit.intOf i).toNat)
  case atStart => exact ⟨0, Nat.zero_le _, rfl, rfl, O0.out, A0.out⟩
  case round =>
    clear O0 A0
    obtain ⟨j, hj, rfl, hE, hO, hAX⟩ := hrel
    have OJ := Lib.hid hO
    have AJ := Lib.hid hAX
    have HE := Lib.hid hE
    clear hE hO hAX
    by_cases hlt : j < l.length
    · have hI := Lib.hid (IH.out l[j] (List.getElem_mem hlt))
      have hw1 : IntKind.i64.wrap ((j : Int) + 1) = ((j + 1 : Nat) : Int) := by rw [IntWalk.i64_in _ (by omega)]; omega
      have HDA := Lib.hid (show (l.drop j).all (cleanB b base (viewP args r)) = (cleanB b base (viewP args r) l[j] && (l.drop (j + 1)).all (cleanB b base (viewP args r))) by rw [List.drop_eq_getElem_cons hlt, List.all_cons])
      obtain ⟨bX, oX, kX, us, he, hcapX, hcmX, g0, g1, g2, g3⟩ := AJ.out.pos (by omega)
      cases he
      obtain ⟨y0, y1, y2, y3⟩ := And.intro (g0 j hlt) (And.intro (g1 j hlt) (And.intro (g2 j hlt) (g3 j hlt)))
      obtain ⟨au, cu, hau⟩ := y3.shape
      rw [hau] at y2 y3
      have Y3 := Lib.hid y3
      clear g0 g1 g2 g3 hcapX hcmX y3 hau
      go_upto_region 4 with (fail)
      obtain ⟨w4, hw4⟩ : ∃ w4, w4 = wr.alloc (.cells #[.int .i64 l[j].k, .int .i64 l[j].n, .slice au l[j].kids.length cu] 37) := ⟨_, rfl⟩
      have Z4 : Hid (w4.heap[wr.heap.size]? = some (.cells #[.int .i64 l[j].k, .int .i64 l[j].n, .slice au l[j].kids.length cu] 37 (0, 0))) := by unfold Hid; rw [hw4]; exact World.alloc_heap_new wr _
      have B4 : Below wr.heap.size wr w4 := by rw [hw4]; exact below_al _ _
      rw [← hw4]
      have O4 := Lib.hid (OJ.out.bel B4)
      have A4 := Lib.hid (AJ.out.bel B4 (Nat.le_refl _))
      have K4 := Lib.hid (Y3.out.bel B4 (Nat.le_refl _))
      clear hw4 B4 OJ AJ Y3 y0 y1 y2
      obtain ⟨⟨z0, z1, z2⟩, _⟩ := boxc Z4.out
      obtain ⟨x0, x1, x2, x3, x4, x5, x6⟩ := O4.out.cells
      have HC := Lib.hid (hI.out c _ _ _ _ _ O4.out.2.1 K4.out)
      cases hc : cleanB b base (viewP args r) l[j] with
      | true =>
        rw [hc] at HC
        have HE2 := Lib.hid (HE.out.trans (by rw [HDA.out, hc, Bool.true_and]))
        clear hc hI HE HDA
        go_wp2_with fail
        refine HC.out.mono ?_
        rintro e w5 ⟨rfl, hb5⟩
        have O5 := Lib.hid (O4.out.bel hb5)
        have A5 := Lib.hid (A4.out.bel hb5 (Nat.le_refl _))
        clear hb5 x0 x1 x2 x3 x4 x5 x6 z0 z1 z2 O4 A4 K4 Z4 HC
        go_wp2_with fail
        go_roundw
        case rel => exact ⟨j + 1, by omega, by go_num, HE2.out, O5.out, A5.out⟩
        case measure => simp [RowKit.intOf] <;> omega
      | false =>
        rw [hc] at HC
        have HE2 := Lib.hid (HE.out.trans (by rw [HDA.out, hc, Bool.false_and]))
        clear hc hI HE HDA
        go_wp2_with fail
        refine HC.out.mono ?_
        rintro e w5 ⟨rfl, hb5⟩
        have O5 := Lib.hid (O4.out.bel hb5)
        clear hb5 x0 x1 x2 x3 x4 x5 x6 z0 z1 z2 O4 A4 K4 Z4 HC
        go_wp2_with fail
        go_ret
        exact ⟨ret_bool HE2.out.symm, O5.out.2.2⟩
    · obtain rfl : j = l.length := by omega
      go_wp2_with fail
      go_ret
      exact ⟨ret_bool (by rw [HE.out, List.drop_length]; rfl), OJ.out.2.2⟩
set_option maxRecDepth 100000 in
set_option maxHeartbeats 2000000 in
theorem sisdecodable_any (b : BlkT) (base : Int) (args : List ArgT) (hla : args.length ≤ 1048576) (r : Nat) (hr : r ≤ 10000000) (c : Int) (t : Tm) (hs : size t ≤ 1048576) (hf : formedB t = true) (hn : (unspine t).1.k = 1 → 0 ≤ (unspine t).1.n ∧ (unspine t).1.n ≤ 10000000) (ih : ∀ u ∈ (unspine t).2, ClP b base args r u)
    (w : World) (vs vc va v : Value) (hA : VAt w b args vs vc va) (hT : At w t.kids v) :
    Calls Tryz.prog 80 #[.agg #[vs, vc, .int .i64 b.elim, .int .i64 base, va, .int .i64 (r : Int), .int .i64 c], .agg #[.int .i64 t.k, .int .i64 t.n, v]] w fun e w' => e = .returned (.bool (decodB b base (viewP args r) t)) ∧ Below w.heap.size w w' := by
  obtain ⟨ps, cs, pc, cc, pa, ca, rfl, rfl, rfl⟩ := hA.shape
  obtain ⟨at0, ct0, rfl⟩ := hT.shape
  have O0 := onew_start w b base args (r : Int) c _ _ _ hA
  have T0 := hT.bel O0.2.2 (Nat.le_refl _)
  have B1 := below_al (w.alloc (.cells #[.slice ps b.sorts.length cs, .slice pc b.cons.length cc, .int .i64 b.elim, .int .i64 base, .slice pa args.length ca, .int .i64 (r : Int), .int .i64 c] 78)) (.cells #[.int .i64 t.k, .int .i64 t.n, .slice at0 t.kids.length ct0] 37)
  have O1 := Lib.hid (O0.bel B1)
  have HP := Lib.hid (parts_any t hs hf _ _ (T0.bel B1 (Nat.le_refl _)))
  have hl0 := unspine_sizes t
  have hl1 := length_le_sizeL (unspine t).2
  have hXl : (unspine t).2.length ≤ 1048576 := by omega
  have HD := Lib.hid (show decodB b base (viewP args r) t = (gokB args r (unspine t).1 && (unspine t).2.all (cleanB b base (viewP args r))) from rfl)
  clear O0 T0 B1 hA hT hl0 hl1 hf hs
  have HN := Lib.hid hn
  have IH := Lib.hid ih
  clear hn ih
  revert HP HD HN IH hXl
  generalize (unspine t).1 = f
  generalize (unspine t).2 = X
  intro HP hXl HD HN IH
  go_enter Tryz.func80, Tryz.ntmps80
  go_wp2_with fail
  refine HP.out.mono ?_
  rintro e w3 ⟨af, cf, aX, cX, rfl, hfk, hX, hb3⟩
  have O3 := Lib.hid (O1.out.bel hb3)
  have AX := Lib.hid hX
  have AF := Lib.hid (hfk.bel hb3 (Nat.le_refl _))
  clear hfk hX hb3 O1 HP
  go_upto_region 2 with (fail)
  obtain ⟨w4, hw4⟩ : ∃ w4, w4 = w3.alloc (.cells #[.int .i64 f.k, .int .i64 f.n, .slice af f.kids.length cf] 37) := ⟨_, rfl⟩
  have Z4 : Hid (w4.heap[w3.heap.size]? = some (.cells #[.int .i64 f.k, .int .i64 f.n, .slice af f.kids.length cf] 37 (0, 0))) := by unfold Hid; rw [hw4]; exact World.alloc_heap_new w3 _
  have B4 : Below w3.heap.size w3 w4 := by rw [hw4]; exact below_al _ _
  rw [← hw4]
  have O4 := Lib.hid (O3.out.bel B4)
  have A4 := Lib.hid (AX.out.bel B4 (Nat.le_refl _))
  have F4 := Lib.hid (AF.out.bel B4 (Nat.le_refl _))
  clear hw4 B4 O3 AX AF
  obtain ⟨⟨z0, z1, z2⟩, _⟩ := boxc Z4.out
  obtain ⟨x0, x1, x2, x3, x4, x5, x6⟩ := O4.out.cells
  have HG := Lib.hid (sguarded_any b base args hla r hr c f HN.out w4 _ _ _ _ O4.out.2.1 F4.out)
  generalize gdomB args r f = dd at *
  cases hg : gokB args r f with
  | true =>
    rw [hg] at HG
    have HE2 := Lib.hid (HD.out.trans (show _ = X.all (cleanB b base (viewP args r)) by rw [hg, Bool.true_and]))
    clear hg HD
    go_wp2_with fail
    refine HG.out.mono ?_
    rintro e w5 ⟨rfl, hb5⟩
    have O5 := Lib.hid (O4.out.bel hb5)
    have A5 := Lib.hid (A4.out.bel hb5 (Nat.le_refl _))
    clear hb5 x0 x1 x2 x3 x4 x5 x6 z0 z1 z2 O4 A4 F4 Z4 HG
    obtain ⟨x0, x1, x2, x3, x4, x5, x6⟩ := O5.out.cells
    have HC := Lib.hid (sareclean_any b base args r c X hXl IH.out w5 _ _ _ _ O5.out.2.1 A5.out)
    go_wp2_with fail
    refine HC.out.mono ?_
    rintro e w6 ⟨rfl, hb6⟩
    have O6 := Lib.hid (O5.out.bel hb6)
    clear hb6 x0 x1 x2 x3 x4 x5 x6 O5 A5 HC
    go_wp2_with fail
    go_ret
    exact ⟨ret_bool HE2.out.symm, O6.out.2.2⟩
  | false =>
    rw [hg] at HG
    have HE2 := Lib.hid (HD.out.trans (show _ = false by rw [hg, Bool.false_and]))
    clear hg HD
    go_wp2_with fail
    refine HG.out.mono ?_
    rintro e w5 ⟨rfl, hb5⟩
    have O5 := Lib.hid (O4.out.bel hb5)
    clear hb5 x0 x1 x2 x3 x4 x5 x6 z0 z1 z2 O4 A4 F4 Z4 HG
    go_wp2_with fail
    go_ret
    exact ⟨ret_bool HE2.out.symm, O5.out.2.2⟩
end Go.Proofs.YtggefpkfikimiaaGreat
/- The page's clean, where it is known of the smaller terms. No conditions but sizes. -/
namespace Go.Proofs.YtggefpkfikimiaaGreat
open Go.RowKit
set_option linter.unusedVariables false

/-- A term in its box. -/
def OneT8 (B1 : Nat) (t : Tm) (v : Value) (W : World) : Prop := W.heap[B1]? = some (.cells #[.int .i64 t.k, .int .i64 t.n, v] 37 (0, 0)) ∧ At W t.kids v
theorem OneT8.bel {B1 : Nat} {t : Tm} {v : Value} {W W' : World} (h : OneT8 B1 t v W) (hb : Below W.heap.size W W') : OneT8 B1 t v W' :=
  ⟨(hb.block _ (Array.getElem?_eq_some_iff.1 h.1).1).trans h.1, h.2.bel hb (Nat.le_refl _)⟩
theorem kids_at {r : List Int → Tm → Bool} {vars : List Int} {k : Int} {l : List Tm} {j : Nat} (h : j < l.length) : kidsStep r vars k j (l.drop j) = (r (moreP vars (bindsI k j)) l[j] && kidsStep r vars k (j + 1) (l.drop (j + 1))) := by
  rw [List.drop_eq_getElem_cons h, kidsStep]
set_option maxRecDepth 100000 in
set_option maxHeartbeats 2000000 in
theorem rclean_kids (b : BlkT) (base : Int) (vars : List Int) (args : List ArgT) (t : Tm) (hv : vars.length ≤ 1000000) (hl : t.kids.length ≤ 1000000) (ih : ∀ j (h : j < t.kids.length), ClOk b base (moreP vars (bindsI t.k j)) args t.kids[j]) (hk1 : t.k ≠ 1) (hk3 : t.k ≠ 3) (hd : isDecg b base t = false)
    (hs : size t ≤ 1000000) (hf : (unspine t).1.k ≠ 3) (w : World) (vs vc vv va v : Value) (hA : PAt w b vars args vs vc vv va) (hT : At w t.kids v) :
    Calls Tryz.prog 29 #[.agg #[vs, vc, .int .i64 b.elim, .int .i64 base, vv, va], .agg #[.int .i64 t.k, .int .i64 t.n, v]] w fun e w' => e = .returned (.bool (cleanB b base vars t)) ∧ Below w.heap.size w w' := by
  obtain ⟨ps, cs, pc, cc, pv, cv, pa, ca, rfl, rfl, rfl, rfl⟩ := hA.shape
  obtain ⟨pt, ct, rfl⟩ := hT.shape
  have HI := Lib.hid ih
  have HE0 := Lib.hid (clean_kids b base vars hk1 hk3 hd)
  obtain ⟨w1, hw1⟩ : ∃ w1, w1 = (w.alloc (.cells #[.slice ps b.sorts.length cs, .slice pc b.cons.length cc, .int .i64 b.elim, .int .i64 base, .slice pv vars.length cv, .slice pa args.length ca] 61)).alloc (.cells #[.int .i64 t.k, .int .i64 t.n, .slice pt t.kids.length ct] 37) := ⟨_, rfl⟩
  have O1 : Hid (OneP w w.heap.size b base vars args (.slice ps b.sorts.length cs) (.slice pc b.cons.length cc) (.slice pv vars.length cv) (.slice pa args.length ca) w1) := by
    unfold Hid; rw [hw1]
    exact (onep_start w b base vars args _ _ _ _ hA).bel (below_al _ _)
  have T1 : Hid (OneT8 (w.heap.size + 1) t (.slice pt t.kids.length ct) w1) := by
    have hn := World.alloc_heap_new (w.alloc (.cells #[.slice ps b.sorts.length cs, .slice pc b.cons.length cc, .int .i64 b.elim, .int .i64 base, .slice pv vars.length cv, .slice pa args.length ca] 61)) (.cells #[.int .i64 t.k, .int .i64 t.n, .slice pt t.kids.length ct] 37)
    rw [World.size_alloc] at hn
    have hb := O1.out.2.2
    unfold Hid
    refine ⟨by rw [hw1]; exact hn, hT.bel hb (Nat.le_refl _)⟩
  have HW := Lib.hid hw1
  have e1 : (t.k == 1) = false := by simpa using hk1
  have e3 : (t.k == 3) = false := by simpa using hk3
  have HU := Lib.hid (runspine_any t (by omega) w1 _ T1.out.2)
  have HF := Lib.hid hf
  clear hw1 hA hT ih hk1 hk3 hd hs hf
  go_enter Tryz.func29, Tryz.ntmps29
  go_upto_region 1 with (fail)
  rw [← HW.out]
  clear HW
  obtain ⟨⟨z0, z1, z2⟩, _⟩ := boxc T1.out.1
  go_wp2_with fail
  revert HU HF
  generalize (unspine t).1 = f
  generalize (unspine t).2 = X
  intro HU HF
  refine HU.out.mono ?_
  rintro e w3 ⟨af, cf, aX, cX, rfl, hfk, hX, hb3⟩
  have O3 := Lib.hid (O1.out.bel hb3)
  have T3 := Lib.hid (T1.out.bel hb3)
  clear hfk hX hb3 O1 T1 HU z0 z1 z2
  go_upto_region 7 with (fail)
  obtain ⟨w4, hw4⟩ : ∃ w4, w4 = w3.alloc (.cells #[.int .i64 f.k, .int .i64 f.n, .slice af f.kids.length cf] 37) := ⟨_, rfl⟩
  have Z4 : Hid (w4.heap[w3.heap.size]? = some (.cells #[.int .i64 f.k, .int .i64 f.n, .slice af f.kids.length cf] 37 (0, 0))) := by unfold Hid; rw [hw4]; exact World.alloc_heap_new w3 _
  have B4 : Below w3.heap.size w3 w4 := by rw [hw4]; exact below_al _ _
  rw [← hw4]
  have O4 := Lib.hid (O3.out.bel B4)
  have T4 := Lib.hid (T3.out.bel B4)
  clear hw4 B4 O3 T3
  obtain ⟨⟨z0, z1, z2⟩, _⟩ := boxc Z4.out
  have ef : (f.k == 3) = false := by simpa using HF.out
  go_wp2_with fail
  clear z0 z1 z2 Z4
  go_loopw [11] (fun i wr => ∃ j : Nat, j ≤ t.kids.length ∧ i = .int .i64 j ∧ cleanB b base vars t = kidsStep (cleanB b base) vars t.k j (t.kids.drop j) ∧ OneP w w.heap.size b base vars args (.slice ps b.sorts.length cs) (.slice pc b.cons.length cc) (.slice pv vars.length cv) (.slice pa args.length ca) wr ∧ OneT8 (w.heap.size + 1) t (.slice pt t.kids.length ct) wr) (fun i _ => t.kids.length - (RowKit.intOf i).toNat)
  case atStart => exact ⟨0, Nat.zero_le _, rfl, HE0.out, O4.out, T4.out⟩
  case round =>
    clear O4 T4 HE0
    obtain ⟨j, hj, rfl, hE, hO, hT⟩ := hrel
    have OJ := Lib.hid hO
    have TJ := Lib.hid hT
    have HE := Lib.hid hE
    clear hE hO hT
    obtain ⟨⟨z0, z1, z2⟩, _⟩ := boxc TJ.out.1
    by_cases hlt : j < t.kids.length
    · have hI := Lib.hid (HI.out j hlt)
      have hw1 : IntKind.i64.wrap ((j : Int) + 1) = ((j + 1 : Nat) : Int) := by rw [IntWalk.i64_in _ (by omega)]; omega
      have hDA := kids_at (r := cleanB b base) (vars := vars) (k := t.k) hlt
      have hbr := bindsI_range t.k j
      obtain ⟨nb, hnb⟩ : ∃ nb : Nat, bindsI t.k j = (nb : Int) := ⟨(bindsI t.k j).toNat, by omega⟩
      have HM : Hid (∀ (W : World) (vs vc vv va : Value), PAt W b vars args vs vc vv va → Calls Tryz.prog 52 #[.agg #[vs, vc, .int .i64 b.elim, .int .i64 base, vv, va], .int .i64 (bindsI t.k j)] W (MorePost W b base (moreP vars (bindsI t.k j)) args vs vc va)) := by
        unfold Hid
        rw [hnb]
        exact fun W vs vc vv va h => rmore_any b base vars args hv nb (by omega) W vs vc vv va h
      clear hnb hbr
      obtain ⟨bX, oX, kX, us, he, hcapX, hcmX, g0, g1, g2, g3⟩ := TJ.out.2.pos (by omega)
      cases he
      have HK := Lib.hid (And.intro (g0 j hlt) (And.intro (g1 j hlt) (And.intro (g2 j hlt) (g3 j hlt))))
      clear g0 g1 g2 g3 hcapX hcmX
      by_cases hc : cleanB b base (moreP vars (bindsI t.k j)) t.kids[j] = true
      · have hI2 := Lib.hid (fun W vs vc vv va v h1 h2 => by have h := hI.out W vs vc vv va v h1 h2; rw [hc] at h; exact h)
        have HE2 := Lib.hid (HE.out.trans (by rw [hDA, hc, Bool.true_and]))
        clear hc hI HE hDA
        go_wp2_with fail
        clear z0 z1 z2
        refine wp_region_rel (by kernel_rfl) (by kernel_rfl) (by kernel_rfl) ?_
        apply RelWalk.next 5
        · kernel_rfl
        · intro X0 _ W hW hcl
          simp only [List.take_succ_cons, List.take_zero]
          obtain ⟨x0, x1, x2, x3, x4, x5⟩ := OJ.out.cells
          have r0 := fun q => gcell (hW q) x0
          have r1 := fun q => gcell (hW q) x1
          have r2 := fun q => gcell (hW q) x2
          have r3 := fun q => gcell (hW q) x3
          have r4 := fun q => gcell (hW q) x4
          have r5 := fun q => gcell (hW q) x5
          obtain ⟨⟨z0, z1, z2⟩, _⟩ := boxc TJ.out.1
          have t0 := fun q => gcell (hW q) z0
          have cB := Lib.hid (fun q => intoSame (W := W) (q := q) (rbinds_any t.k j (W q)))
          clear x0 x1 x2 x3 x4 x5 z0 z1 z2
          repeat (go_big_quiet_step (with_reducible exact cB.out _))
          exact wpQuiet_nil rfl
        simp only [List.drop_succ_cons, List.drop_zero]
        refine RelWalk.made0 (fun v s e W => ∃ a c, v = .agg #[.slice ps b.sorts.length cs, .slice pc b.cons.length cc, .int .i64 b.elim, .int .i64 base, .slice a (moreP vars (bindsI t.k j)).length c, .slice pa args.length ca] ∧ IRow W (moreP vars (bindsI t.k j)) (.slice a (moreP vars (bindsI t.k j)).length c)) rfl (by kernel_rfl) (by kernel_rfl) rfl (fun v s e W W' hg ⟨a, c, h1, h2⟩ => ⟨a, c, h1, h2.bel hg⟩) (fun w2 hg => ?_) ?_
        · have hc := Lib.hid (HM.out w2 _ _ _ _ (OJ.out.2.1.bel hg))
          go_simp
          exact rel_enter (hc.out.mono fun e w3 ⟨a3, c3, he, hP3, hb3⟩ => ⟨_, he, hb3, a3, c3, rfl, hP3.2.1⟩)
        simp only [Act.put, List.setIfInBounds_toArray, List.set_cons_zero, List.set_cons_succ]
        apply RelWalk.next 5
        · kernel_rfl
        · intro X0 _ W hW hcl
          simp only [List.take_succ_cons, List.take_zero]
          obtain ⟨⟨z0, z1, z2⟩, _⟩ := boxc TJ.out.1
          have t0 := fun q => gcell (hW q) z0
          have t1 := fun q => gcell (hW q) z1
          have t2 := fun q => gcell (hW q) z2
          have q0 := fun q => gcell (hW q) HK.out.1
          have q1 := fun q => gcell (hW q) HK.out.2.1
          have q2 := fun q => gcell (hW q) HK.out.2.2.1
          clear z0 z1 z2
          repeat (go_big_quiet_step (fail))
          exact wpQuiet_nil rfl
        simp only [List.drop_succ_cons, List.drop_zero]
        refine RelWalk.used1 (.bool true) rfl (by kernel_rfl) (by kernel_rfl) rfl (fun g w2 hg v1 hv1 => ?_) ?_
        · obtain ⟨a3, c3, rfl, hR3⟩ := hv1
          have hc := Lib.hid (hI2.out w2 _ _ _ _ _ ⟨(OJ.out.2.1.bel hg).1, hR3, (OJ.out.2.1.bel hg).2.2⟩ (HK.out.2.2.2.bel hg (Nat.le_refl _)))
          clear hR3
          go_simp
          exact rel_enter_c hc.out
        simp only [Act.put, List.setIfInBounds_toArray, List.set_cons_zero, List.set_cons_succ]
        apply RelWalk.rest
        · kernel_rfl
        · intro X0 _ W hW hcl
          repeat (go_big_quiet_step (fail))
          exact wpQuiet_nil rfl
        intro gq w8 hg8 _
        simp only [Spread]
        intro vM _
        simp only [Act.put, List.setIfInBounds_toArray, List.set_cons_zero, List.set_cons_succ]
        have O8 := Lib.hid (OJ.out.bel hg8)
        have T8 := Lib.hid (TJ.out.bel hg8)
        go_wp2_with fail
        go_roundw
        case rel => exact ⟨j + 1, by omega, by go_num, HE2.out, O8.out, T8.out⟩
        case measure => simp [RowKit.intOf] <;> omega
      · have hc' : cleanB b base (moreP vars (bindsI t.k j)) t.kids[j] = false := by simpa using hc
        have hI2 := Lib.hid (fun W vs vc vv va v h1 h2 => by have h := hI.out W vs vc vv va v h1 h2; rw [hc'] at h; exact h)
        have HE2 := Lib.hid (HE.out.trans (by rw [hDA, hc', Bool.false_and]))
        clear hc hc' hI HE hDA
        go_wp2_with fail
        clear z0 z1 z2
        refine wp_region_rel (by kernel_rfl) (by kernel_rfl) (by kernel_rfl) ?_
        apply RelWalk.next 5
        · kernel_rfl
        · intro X0 _ W hW hcl
          simp only [List.take_succ_cons, List.take_zero]
          obtain ⟨x0, x1, x2, x3, x4, x5⟩ := OJ.out.cells
          have r0 := fun q => gcell (hW q) x0
          have r1 := fun q => gcell (hW q) x1
          have r2 := fun q => gcell (hW q) x2
          have r3 := fun q => gcell (hW q) x3
          have r4 := fun q => gcell (hW q) x4
          have r5 := fun q => gcell (hW q) x5
          obtain ⟨⟨z0, z1, z2⟩, _⟩ := boxc TJ.out.1
          have t0 := fun q => gcell (hW q) z0
          have cB := Lib.hid (fun q => intoSame (W := W) (q := q) (rbinds_any t.k j (W q)))
          clear x0 x1 x2 x3 x4 x5 z0 z1 z2
          repeat (go_big_quiet_step (with_reducible exact cB.out _))
          exact wpQuiet_nil rfl
        simp only [List.drop_succ_cons, List.drop_zero]
        refine RelWalk.made0 (fun v s e W => ∃ a c, v = .agg #[.slice ps b.sorts.length cs, .slice pc b.cons.length cc, .int .i64 b.elim, .int .i64 base, .slice a (moreP vars (bindsI t.k j)).length c, .slice pa args.length ca] ∧ IRow W (moreP vars (bindsI t.k j)) (.slice a (moreP vars (bindsI t.k j)).length c)) rfl (by kernel_rfl) (by kernel_rfl) rfl (fun v s e W W' hg ⟨a, c, h1, h2⟩ => ⟨a, c, h1, h2.bel hg⟩) (fun w2 hg => ?_) ?_
        · have hc := Lib.hid (HM.out w2 _ _ _ _ (OJ.out.2.1.bel hg))
          go_simp
          exact rel_enter (hc.out.mono fun e w3 ⟨a3, c3, he, hP3, hb3⟩ => ⟨_, he, hb3, a3, c3, rfl, hP3.2.1⟩)
        simp only [Act.put, List.setIfInBounds_toArray, List.set_cons_zero, List.set_cons_succ]
        apply RelWalk.next 5
        · kernel_rfl
        · intro X0 _ W hW hcl
          simp only [List.take_succ_cons, List.take_zero]
          obtain ⟨⟨z0, z1, z2⟩, _⟩ := boxc TJ.out.1
          have t0 := fun q => gcell (hW q) z0
          have t1 := fun q => gcell (hW q) z1
          have t2 := fun q => gcell (hW q) z2
          have q0 := fun q => gcell (hW q) HK.out.1
          have q1 := fun q => gcell (hW q) HK.out.2.1
          have q2 := fun q => gcell (hW q) HK.out.2.2.1
          clear z0 z1 z2
          repeat (go_big_quiet_step (fail))
          exact wpQuiet_nil rfl
        simp only [List.drop_succ_cons, List.drop_zero]
        refine RelWalk.used1 (.bool false) rfl (by kernel_rfl) (by kernel_rfl) rfl (fun g w2 hg v1 hv1 => ?_) ?_
        · obtain ⟨a3, c3, rfl, hR3⟩ := hv1
          have hc := Lib.hid (hI2.out w2 _ _ _ _ _ ⟨(OJ.out.2.1.bel hg).1, hR3, (OJ.out.2.1.bel hg).2.2⟩ (HK.out.2.2.2.bel hg (Nat.le_refl _)))
          clear hR3
          go_simp
          exact rel_enter_c hc.out
        simp only [Act.put, List.setIfInBounds_toArray, List.set_cons_zero, List.set_cons_succ]
        apply RelWalk.rest
        · kernel_rfl
        · intro X0 _ W hW hcl
          repeat (go_big_quiet_step (fail))
          exact wpQuiet_nil rfl
        intro gq w8 hg8 _
        simp only [Spread]
        intro vM _
        simp only [Act.put, List.setIfInBounds_toArray, List.set_cons_zero, List.set_cons_succ]
        have O8 := Lib.hid (OJ.out.bel hg8)
        have T8 := Lib.hid (TJ.out.bel hg8)
        go_wp2_with fail
        go_ret
        exact ⟨ret_bool HE2.out.symm, O8.out.2.2⟩
    · obtain rfl : j = t.kids.length := by omega
      go_wp2_with fail
      go_ret
      exact ⟨ret_bool (by rw [HE.out, List.drop_length]; rfl), OJ.out.2.2⟩
end Go.Proofs.YtggefpkfikimiaaGreat
