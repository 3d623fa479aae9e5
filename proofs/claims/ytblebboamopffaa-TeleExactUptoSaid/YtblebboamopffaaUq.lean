/- TeleExact's helpers: three terms told into three boxes; boxes whose terms may be spoiled. No conditions. -/
import Derived.Test.YtblebboamopffaaUo
import Derived.Deep.MidRow
namespace Go.Proofs.Ytblebboamopffaa
open Go.RowKit
set_option linter.unusedVariables false

/-- A box, and the term in it, whose Kids lie in a set and may be written over. -/
def BoxE (S : Nat → Prop) (B : Nat) (t : Tm) (v : Value) (W : World) : Prop := W.heap[B]? = some (.cells #[.int .i64 t.k, .int .i64 t.n, v] 24 (0, 0)) ∧ AtE S W t.kids v
def BoxK (S : Nat → Prop) (B : Nat) (t : Tm) (v : Value) (W : World) : Prop := W.heap[B]? = some (.cells #[.int .i64 t.k, .int .i64 t.n, v] 24 (0, 0)) ∧ SkE S W t.kids v
theorem BoxE.bel {S : Nat → Prop} {B : Nat} {t : Tm} {v : Value} {W W' : World} (h : BoxE S B t v W) (hb : Below W.heap.size W W') : BoxE S B t v W' :=
  ⟨(hb.block B (Array.getElem?_eq_some_iff.1 h.1).1).trans h.1, h.2.grw hb⟩
theorem BoxE.one {S : Nat → Prop} {B : Nat} {t : Tm} {v : Value} {w W : World} (h : BoxE S B t v W) (hb : Below w.heap.size w W) : One w B t v W := ⟨(boxc h.1).1, h.2.at, hb⟩
/-- A term that is told is boxed. -/
theorem boxe_new {w6 w7 : World} {S : Nat → Prop} {F : Tm} {v : Value} (h : AtE S w7 F.kids v) : BoxE S w7.heap.size F v (w7.alloc (.cells #[.int .i64 F.k, .int .i64 F.n, v] 24)) := ⟨World.alloc_heap_new w7 _, h.grw (below_al w7 _)⟩
theorem one_new {w w6 w7 : World} {F : Tm} {v : Value} (h : At w7 F.kids v) (hb : Below w.heap.size w w7) : One w w7.heap.size F v (w7.alloc (.cells #[.int .i64 F.k, .int .i64 F.n, v] 24)) := ⟨(boxc (World.alloc_heap_new w7 _)).1, h.bel (below_al w7 _) (Nat.le_refl _), hb.trans ((below_al w7 _).mono hb.size)⟩
theorem BoxE.k {S : Nat → Prop} {B : Nat} {t : Tm} {v : Value} {W : World} (h : BoxE S B t v W) : BoxK S B t v W := ⟨h.1, h.2.ske⟩
theorem BoxK.far {S T : Nat → Prop} {B : Nat} {t : Tm} {v : Value} {W W' : World} (h : BoxK S B t v W) (hp : SpdE T W W') (hB : ¬ T B) (hST : ∀ b, S b → ¬ T b) : BoxK S B t v W' :=
  ⟨(hp.other B (Array.getElem?_eq_some_iff.1 h.1).1 hB).trans h.1, h.2.far hp hST⟩
theorem BoxK.spd {S : Nat → Prop} {B : Nat} {t : Tm} {v : Value} {W W' : World} (h : BoxK S B t v W) (hp : SpdE S W W') (hB : ¬ S B) : BoxK S B t v W' :=
  ⟨(hp.other B (Array.getElem?_eq_some_iff.1 h.1).1 hB).trans h.1, h.2.spd hp⟩
theorem SpdE.below {S : Nat → Prop} {N : Nat} {w w' : World} (h : SpdE S w w') (hN : ∀ b, S b → N ≤ b) (hw : N ≤ w.heap.size) : Below N w w' :=
  ⟨h.os, h.tape, h.output, h.size, fun b hb => h.other b (by omega) fun hs => by have := hN b hs; omega⟩
theorem SpdE.box {T : Nat → Prop} {B : Nat} {o : Obj} {W W' : World} (hp : SpdE T W W') (h : W.heap[B]? = some o) (hB : ¬ T B) : W'.heap[B]? = some o := (hp.other B (Array.getElem?_eq_some_iff.1 h).1 hB).trans h
/-- Three terms are told, and stored into boxes. -/
theorem three_told {w4 w5 : World} {p q r : Tm} {s1 s2 s3 : Nat} {v1 v2 v3 : Value} {S1 S2 S3 : Nat → Prop} (hg : Below w4.heap.size w4 w5) (h1 : w4.heap.size ≤ s1) (h2 : w4.heap.size ≤ s2) (h3 : w4.heap.size ≤ s3) (n12 : s1 ≠ s2) (n13 : s1 ≠ s3) (n23 : s2 ≠ s3)
    (z1 : w5.heap[s1]? = some (.cells #[.int .i64 0, .int .i64 0, .slice none 0 0] 24 (0, 0))) (z2 : w5.heap[s2]? = some (.cells #[.int .i64 0, .int .i64 0, .slice none 0 0] 24 (0, 0))) (z3 : w5.heap[s3]? = some (.cells #[.int .i64 0, .int .i64 0, .slice none 0 0] 24 (0, 0)))
    (hp : AtE S1 w5 p.kids v1) (hq : AtE S2 w5 q.kids v2) (hr : AtE S3 w5 r.kids v3) (d1 : ∀ b, S1 b → b ≠ s1 ∧ b ≠ s2 ∧ b ≠ s3) (d2 : ∀ b, S2 b → b ≠ s1 ∧ b ≠ s2 ∧ b ≠ s3) (d3 : ∀ b, S3 b → b ≠ s1 ∧ b ≠ s2 ∧ b ≠ s3) :
    BoxE S1 s1 p v1 (put3 (put3 (put3 w5 s1 p v1) s2 q v2) s3 r v3) ∧ BoxE S2 s2 q v2 (put3 (put3 (put3 w5 s1 p v1) s2 q v2) s3 r v3) ∧ BoxE S3 s3 r v3 (put3 (put3 (put3 w5 s1 p v1) s2 q v2) s3 r v3) ∧ Below w4.heap.size w4 (put3 (put3 (put3 w5 s1 p v1) s2 q v2) s3 r v3) := by
  have far : ∀ b, b ≠ s1 ∧ b ≠ s2 ∧ b ≠ s3 → (put3 (put3 (put3 w5 s1 p v1) s2 q v2) s3 r v3).heap[b]? = w5.heap[b]? := fun b hb => ((other_store3 hb.2.2 _ _ _).trans (other_store3 hb.2.1 _ _ _)).trans (other_store3 hb.1 _ _ _)
  refine ⟨⟨?_, hp.same fun b hb => ⟨hb, far b (d1 b hb)⟩⟩, ⟨?_, hq.same fun b hb => ⟨hb, far b (d2 b hb)⟩⟩, ⟨?_, hr.same fun b hb => ⟨hb, far b (d3 b hb)⟩⟩, ((hg.trans (below_store3 h1 _ _ _)).trans (below_store3 h2 _ _ _)).trans (below_store3 h3 _ _ _)⟩
  · exact ((other_store3 n13 _ _ _).trans (other_store3 n12 _ _ _)).trans (box_store3 z1 _ _ _)
  · exact (other_store3 n23 _ _ _).trans (box_store3 ((other_store3 (fun h => n12 h.symm) _ _ _).trans z2) _ _ _)
  · exact box_store3 ((other_store3 (fun h => n23 h.symm) _ _ _).trans ((other_store3 (fun h => n13 h.symm) _ _ _).trans z3)) _ _ _
/-- A store of a term into a box that is known whole: the world behind it, in one word. -/
theorem wpList_store3 {ops : Array Oper} {rest : List Oper} {o : Oper} {a : Act} {Q : Exit → Act → World → Prop} {w : World} (hg : o.guard = none) (p x : Operand) (ho : o.op = .store 24 p x) {s : Nat} {k n : Int} {ao : Option Addr} {m c : Nat} {x0 y0 z0 : Value}
    (hp : a.eval p = .pointer (some ⟨s, 0, none⟩)) (hx : a.eval x = .agg #[.int .i64 k, .int .i64 n, .slice ao m c]) (hz : w.heap[s]? = some (.cells #[x0, y0, z0] 24 (0, 0)))
    (hd : o.dst = none) (h : wpList Try.prog ops Q rest a (((w.setCell ⟨s, 0, none⟩ (.int .i64 k)).setCell ⟨s, 1, none⟩ (.int .i64 n)).setCell ⟨s, 2, none⟩ (.slice ao m c))) : wpList Try.prog ops Q (o :: rest) a w := by
  obtain ⟨⟨h0, h1, h2⟩, f0, f1, f2⟩ := boxc hz
  have hi : (Try.prog.info? 24).map (·.size) = some 3 := by kernel_rfl
  refine wpList_store_mid hg 24 p x ho s 0 #[.int .i64 k, .int .i64 n, .slice ao m c] hp hx (fun j hj => ?_) hi (by simp [Value.oneCell']) ?_
  · have hj3 : j < 3 := hj
    have : j = 0 ∨ j = 1 ∨ j = 2 := by omega
    rcases this with rfl | rfl | rfl
    · exact ⟨by rw [Nat.zero_add, h0]; rfl, f0⟩
    · exact ⟨by rw [Nat.zero_add, h1]; rfl, f1⟩
    · exact ⟨by rw [Nat.zero_add, h2]; rfl, f2⟩
  · rw [hd]
    exact h
end Go.Proofs.Ytblebboamopffaa
