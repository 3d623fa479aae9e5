/- The page's reader of terms. -/
import Derived.Test.YthcjjfgigbgdkaaRp
import Derived.Deep.RegionHeld3
import Derived.Deep.DrawnRows
import Derived.Deep.RegionLaw
namespace Go.Proofs.Ythcjjfgigbgdkaa
open Go.RowKit Go Go.Joins
set_option linter.unusedVariables false

/-- The page's reader: its four fields. -/
def RdrP (rb D : Nat) (l : List Int) (ao : Option Addr) (cap : Nat) (p m : Nat) (bad : Bool) (w : World) : Prop :=
  w.heap[rb]? = some (.cells #[.slice ao l.length cap, .int .i64 (p : Int), .int .i64 (m : Int), .bool bad] 85 (0, 0)) ∧ RdN rb D l (.slice ao l.length cap) w
theorem RdrP.same {rb D : Nat} {l : List Int} {ao : Option Addr} {cap p m : Nat} {bad : Bool} {w w' : World} (h : RdrP rb D l ao cap p m bad w) (hr : rb < D) (hk : ∀ b, b < D → w'.heap[b]? = w.heap[b]?) : RdrP rb D l ao cap p m bad w' :=
  ⟨(hk rb hr).trans h.1, h.2.same fun b hb _ => hk b hb⟩
theorem cell4 {W : World} {B : Nat} {ty : TypeId} {x y z u : Value} (h : W.heap[B]? = some (.cells #[x, y, z, u] ty (0, 0))) :
    (W.cell? ⟨B, 0, none⟩ = some x ∧ W.cell? ⟨B, 1, none⟩ = some y ∧ W.cell? ⟨B, 2, none⟩ = some z ∧ W.cell? ⟨B, 3, none⟩ = some u) ∧ (W.frozen? ⟨B, 0, none⟩ = false ∧ W.frozen? ⟨B, 1, none⟩ = false ∧ W.frozen? ⟨B, 2, none⟩ = false ∧ W.frozen? ⟨B, 3, none⟩ = false) := by
  refine ⟨⟨?_, ?_, ?_, ?_⟩, ?_, ?_, ?_, ?_⟩
  all_goals first | (simp [World.cell?, h]; done) | (simp [World.frozen?, h]; done)
theorem kidsI_le (k : Int) : kidsI k ≤ 3 := by
  unfold kidsI
  split
  · omega
  · split
    · omega
    · split
      · omega
      · split <;> omega
def RGot (rb D : Nat) (l : List Int) (ao : Option Addr) (cap : Nat) (w : World) (r : Got) (e : Ending) (w' : World) : Prop :=
  KeepR rb w w' ∧ (r = none → ∃ (k m : Int) (a : Option Addr) (x c : Nat) (b1 b2 : Nat), e = .returned (.agg #[.int .i64 k, .int .i64 m, .slice a x c]) ∧ RdrP rb D l ao cap b1 b2 true w') ∧
    ∀ t r' n', r = some (t, r', n') → ∃ (a : Option Addr) (c p' m' : Nat), e = .returned (.agg #[.int .i64 t.k, .int .i64 t.n, .slice a t.kids.length c]) ∧ AtS (fun b => w.heap.size ≤ b ∧ b < w'.heap.size) w' t.kids (.slice a t.kids.length c) ∧
      RdrP rb D l ao cap p' m' false w' ∧ r' = l.drop p' ∧ p' ≤ l.length ∧ m' ≤ 6000 ∧ n' = 6000 - m'
/-- Where the loop over the Kids stands: so many are read, or the bytes are none. -/
def RInv (g : List Int → Nat → Got) (rb D : Nat) (l : List Int) (ao : Option Addr) (cap c : Nat) (res : Option (List Tm × List Int × Nat)) (k : Int) (s5 : Nat) (w : World) (i : Value) (wr : World) : Prop :=
  KeepR rb w wr ∧ wr.heap[w.heap.size]? = some (.cells #[.int .i64 0, .int .i64 0, .slice none 0 0] 24 (0, 0)) ∧ s5 < wr.heap.size ∧
  ((∃ (L : List Tm) (p m : Nat) (vs : Nat → Value) (v : Value), L.length ≤ c ∧ i = .int .i64 (L.length : Nat) ∧ moreP L (kidsP g (c - L.length) (l.drop p) (6000 - m)) = res ∧ p ≤ l.length ∧ m ≤ 6000 ∧ RdrP rb D l ao cap p m false wr ∧
      wr.heap[s5]? = some (.cells #[.int .i64 k, .int .i64 0, v] 24 (0, 0)) ∧ wr.ownsRow (s5 + 1) 24 3 v L.length (cells3 L vs) ∧ ∀ i (_ : i < L.length), AtS (fun b => s5 + 1 ≤ b ∧ b < wr.heap.size ∧ some b ≠ v.ownBlock) wr L[i].kids (vs i)) ∨
    (∃ j : Nat, j ≤ c ∧ i = .int .i64 j ∧ res = none ∧ ∃ (b1 b2 : Nat) (kk mm : Int) (a : Option Addr) (x cc : Nat), RdrP rb D l ao cap b1 b2 true wr ∧ wr.heap[s5]? = some (.cells #[.int .i64 kk, .int .i64 mm, .slice a x cc] 24 (0, 0))))
def RTermOk (g : List Int → Nat → Got) (d : Int) : Prop := ∀ (rb D : Nat) (l : List Int) (ao : Option Addr) (cap p m : Nat) (w : World), ByteL l → p ≤ l.length → D ≤ w.heap.size → rb < D → RdrP rb D l ao cap p m false w → l.length ≤ 1048576 → m ≤ 6000 →
    Calls Try.prog 65 #[.pointer (some ⟨rb, 0, none⟩), .int .i64 d] w (RGot rb D l ao cap w (g (l.drop p) (6000 - m)))

theorem step_world {rb s5 g7 cap7 n : Nat} {w wr w6 w7 : World} {k : Int} {v : Value} {o : Obj} {xs : List Value} (hrb : rb < w.heap.size) (hws : w.heap.size < s5) (hK : KeepR rb w wr) (hX : wr.heap[w.heap.size]? = some (.cells #[.int .i64 0, .int .i64 0, .slice none 0 0] 24 (0, 0))) (hs5 : s5 < wr.heap.size)
    (hT : wr.heap[s5]? = some (.cells #[.int .i64 k, .int .i64 0, v] 24 (0, 0))) (hk6 : KeepR rb wr w6) (hlt : ∀ k, v.ownBlock = some k → s5 + 1 ≤ k ∧ k < wr.heap.size)
    (hown7 : w7.ownsRow (s5 + 1) 24 3 (.slice (some ⟨g7, 0, none⟩) n cap7) n xs) (hgrow7 : (w6.alloc o).grownBy w7 v.ownBlock) (w8 : World) (hw8 : w8 = w7.setCell ⟨s5, 2, none⟩ (.slice (some ⟨g7, 0, none⟩) n cap7)) :
    KeepR rb w w8 ∧ w8.heap[w.heap.size]? = some (.cells #[.int .i64 0, .int .i64 0, .slice none 0 0] 24 (0, 0)) ∧ s5 < w8.heap.size ∧ w8.heap[s5]? = some (.cells #[.int .i64 k, .int .i64 0, .slice (some ⟨g7, 0, none⟩) n cap7] 24 (0, 0)) ∧
      w8.ownsRow (s5 + 1) 24 3 (.slice (some ⟨g7, 0, none⟩) n cap7) n xs ∧ (∀ b, b < w6.heap.size → b ≠ s5 → some b ≠ v.ownBlock → w8.heap[b]? = w6.heap[b]?) ∧ w6.heap.size < w8.heap.size := by
  subst hw8
  have hz6 := hk6.1
  have hz7 := hgrow7.size
  simp only [World.size_alloc] at hz7
  have hz := hK.1
  have blk : ∀ b, b < w6.heap.size → b ≠ s5 → some b ≠ v.ownBlock → (w7.setCell ⟨s5, 2, none⟩ (.slice (some ⟨g7, 0, none⟩) n cap7)).heap[b]? = w6.heap[b]? := fun b hb h5 hne => by
    rw [Below.heap_setCell _ _ _ _ h5]
    exact (hgrow7.block b (by simp; omega) hne).trans (Below.heap_alloc w6 _ b hb)
  have hnow : ∀ b, b ≤ s5 → some b ≠ v.ownBlock := fun b hb e => by have := (hlt b e.symm).1; omega
  have hs7 : w7.heap[s5]? = some (.cells #[.int .i64 k, .int .i64 0, v] 24 (0, 0)) :=
    ((hgrow7.block s5 (by simp; omega) (hnow s5 (Nat.le_refl _))).trans (Below.heap_alloc w6 _ s5 (by omega))).trans ((hk6.2.2.2.2 s5 (by omega) (by omega)).trans hT)
  have hl7 := hown7.lt g7 rfl
  refine ⟨⟨by simp; omega, ?_, ?_, ?_, fun b hb hne => ?_⟩, ?_, by simp; omega, heap_setCell_same w7 s5 2 _ _ _ hs7, ownsRow_setCell_other hown7 (by simp [Value.ownBlock]; omega) _, blk, by simp; omega⟩
  · exact (hgrow7.os.trans hk6.2.1).trans hK.2.1
  · exact (hgrow7.tape.trans hk6.2.2.1).trans hK.2.2.1
  · exact (hgrow7.output.trans hk6.2.2.2.1).trans hK.2.2.2.1
  · rw [blk b (by omega) (by omega) (hnow b (by omega))]
    exact (hk6.2.2.2.2 b (by omega) hne).trans (hK.2.2.2.2 b hb hne)
  · rw [blk w.heap.size (by omega) (by omega) (hnow _ (by omega))]
    exact (hk6.2.2.2.2 _ (by omega) (by omega)).trans hX

set_option maxRecDepth 100000 in
set_option maxHeartbeats 2000000 in
theorem rtermr_any (g : List Int → Nat → Got) (d : Int) (hd1 : 1 ≤ d) (hd2 : d ≤ 201) (HT : d ≤ 200 → RTermOk g (d + 1)) (rb D : Nat) (l : List Int) (ao : Option Addr) (cap p m : Nat) (w : World) (hb : ByteL l) (hp : p ≤ l.length) (hD : D ≤ w.heap.size) (hrb : rb < D)
    (hR : RdrP rb D l ao cap p m false w) (hl : l.length ≤ 1048576) (hm : m ≤ 6000) :
    Calls Try.prog 65 #[.pointer (some ⟨rb, 0, none⟩), .int .i64 d] w (RGot rb D l ao cap w (if 200 < d then none else stepP g (l.drop p) (6000 - m))) := by
  generalize hres : (if 200 < d then none else stepP g (l.drop p) (6000 - m)) = R
  have HR := Lib.hid hres
  have HTT := Lib.hid HT
  have HB := Lib.hid hb
  have hbx := World.alloc_heap_new w (.cells #[.int .i64 0, .int .i64 0, .slice none 0 0] 24)
  have HBX := Lib.hid hbx
  have HK0 : Hid (KeepR rb w (w.alloc (.cells #[.int .i64 0, .int .i64 0, .slice none 0 0] 24))) := KeepR.of (below_al w _)
  have HR0 := Lib.hid (hR.same hrb fun b hb => Below.heap_alloc w (.cells #[.int .i64 0, .int .i64 0, .slice none 0 0] 24) b (by omega))
  obtain ⟨⟨c0, c1, c2, c3⟩, f0, f1, f2, f3⟩ := cell4 HR0.out.1
  clear hres HT hb hbx hR
  go_enter Try.func65, Try.ntmps65
  go_wp2_with fail
  have hR1 : RdrP rb D l ao cap p (m + 1) false ((w.alloc (.cells #[.int .i64 0, .int .i64 0, .slice none 0 0] 24)).setCell ⟨rb, 2, none⟩ (.int .i64 ((m : Int) + 1))) :=
    ⟨heap_setCell_same _ rb 2 _ _ (.int .i64 ((m : Int) + 1)) HR0.out.1, HR0.out.2.keep (KeepR.set rb _ 2 _)⟩
  have hK1 := HK0.out.trans (KeepR.set rb (w.alloc (.cells #[.int .i64 0, .int .i64 0, .slice none 0 0] 24)) 2 (.int .i64 ((m : Int) + 1)))
  have hX1 := ((KeepR.set rb (w.alloc (.cells #[.int .i64 0, .int .i64 0, .slice none 0 0] 24)) 2 (.int .i64 ((m : Int) + 1))).2.2.2.2 w.heap.size (by simp) (by omega)).trans HBX.out
  have hZ1 : ((w.alloc (.cells #[.int .i64 0, .int .i64 0, .slice none 0 0] 24)).setCell ⟨rb, 2, none⟩ (.int .i64 ((m : Int) + 1))).heap.size = w.heap.size + 1 := by simp
  revert hR1 hK1 hX1 hZ1
  generalize (w.alloc (.cells #[.int .i64 0, .int .i64 0, .slice none 0 0] 24)).setCell ⟨rb, 2, none⟩ (.int .i64 ((m : Int) + 1)) = w1
  intro hR1 hK1 hX1 hZ1
  have HR1 := Lib.hid hR1
  have HK1 := Lib.hid hK1
  have HX1 := Lib.hid hX1
  have HZ1 := Lib.hid hZ1
  clear hR1 hK1 hX1 hZ1 HR0 HBX HK0 c0 c1 c2 c3 f0 f1 f2 f3
  by_cases hA : l.length ≤ p
  · have e1 : decide (l.length ≤ p) = true := decide_eq_true hA
    have e2 : decide ((l.length : Int) ≤ (p : Int)) = true := decide_eq_true (by omega)
    have HP : Hid (R = none) := by
      show _ = _
      rw [← HR.out, List.drop_of_length_le hA]
      split <;> rfl
    clear hA
    refine wp_region_rel (by kernel_rfl) (by kernel_rfl) (by kernel_rfl) ?_
    apply RelWalk.rest
    · kernel_rfl
    · intro X _ W hW hcl
      obtain ⟨⟨c0, c1, c2, c3⟩, _⟩ := cell4 HR1.out.1
      have k0 := fun q => gcell (hW q) c0
      have k1 := fun q => gcell (hW q) c1
      have k2 := fun q => gcell (hW q) c2
      have k3 := fun q => gcell (hW q) c3
      clear c0 c1 c2 c3
      repeat (go_big_quiet_step (fail))
      exact wpQuiet_nil rfl
    intro gq w2 hg _
    have HG := Lib.hid hg
    clear hg
    simp only [Spread]
    have hr2 := ((HG.out.block rb (by have := HZ1.out; omega)).trans HR1.out.1)
    have hbx2 := ((HG.out.block w.heap.size (by have := HZ1.out; omega)).trans HX1.out)
    have hn2 : RdN rb D l (.slice ao l.length cap) w2 := HR1.out.2.same fun b hb _ => HG.out.block b (by have := HZ1.out; omega)
    have K2 := Lib.hid (HK1.out.trans (KeepR.of HG.out))
    obtain ⟨⟨c0, c1, c2, c3⟩, f0, f1, f2, f3⟩ := cell4 hr2
    obtain ⟨⟨x0, x1, x2⟩, y0, y1, y2⟩ := boxc hbx2
    have HR2 := Lib.hid (And.intro hr2 hn2)
    have HX2 := Lib.hid hbx2
    clear hr2 hn2 hbx2
    go_wp2_with fail
    refine bodyPost_ret (v := .agg #[.int .i64 0, .int .i64 0, .slice none 0 0]) (by simp [results, Try.f65, go_sem, x0, x1, x2]) rfl ?_
    rw [HP.out]
    have hrbn : rb ≠ w.heap.size := by omega
    refine ⟨(K2.out.trans (KeepR.set rb w2 3 (.bool true))).trans' (below_store3 (Nat.le_refl _) _ _ _), fun _ => ⟨0, 0, none, 0, 0, p, m + 1, rfl, ?_, ?_⟩, fun _ _ _ h => by cases h⟩
    · rw [other_store3 hrbn]
      exact heap_setCell_same w2 rb 3 _ _ (.bool true) HR2.out.1
    · exact (HR2.out.2.keep (KeepR.set rb w2 3 (.bool true))).same fun b hb _ => other_store3 (by omega) _ _ _
  have a1 : decide (l.length ≤ p) = false := decide_eq_false hA
  have a2 : decide ((l.length : Int) ≤ (p : Int)) = false := decide_eq_false (by omega)
  by_cases hB : 6000 ≤ m
  · have e1 : decide ((6000 : Int) < (m : Int) + 1) = true := decide_eq_true (by omega)
    have HP : Hid (R = none) := by
      show _ = _
      rw [← HR.out, show 6000 - m = 0 by omega]
      split
      · rfl
      · cases l.drop p <;> rfl
    clear hB hA
    refine wp_region_rel (by kernel_rfl) (by kernel_rfl) (by kernel_rfl) ?_
    apply RelWalk.rest
    · kernel_rfl
    · intro X _ W hW hcl
      obtain ⟨⟨c0, c1, c2, c3⟩, _⟩ := cell4 HR1.out.1
      have k0 := fun q => gcell (hW q) c0
      have k1 := fun q => gcell (hW q) c1
      have k2 := fun q => gcell (hW q) c2
      have k3 := fun q => gcell (hW q) c3
      clear c0 c1 c2 c3
      repeat (go_big_quiet_step (fail))
      exact wpQuiet_nil rfl
    intro gq w2 hg _
    have HG := Lib.hid hg
    clear hg
    simp only [Spread]
    have hr2 := ((HG.out.block rb (by have := HZ1.out; omega)).trans HR1.out.1)
    have hbx2 := ((HG.out.block w.heap.size (by have := HZ1.out; omega)).trans HX1.out)
    have hn2 : RdN rb D l (.slice ao l.length cap) w2 := HR1.out.2.same fun b hb _ => HG.out.block b (by have := HZ1.out; omega)
    have K2 := Lib.hid (HK1.out.trans (KeepR.of HG.out))
    obtain ⟨⟨c0, c1, c2, c3⟩, f0, f1, f2, f3⟩ := cell4 hr2
    obtain ⟨⟨x0, x1, x2⟩, y0, y1, y2⟩ := boxc hbx2
    have HR2 := Lib.hid (And.intro hr2 hn2)
    have HX2 := Lib.hid hbx2
    clear hr2 hn2 hbx2
    go_wp2_with fail
    refine bodyPost_ret (v := .agg #[.int .i64 0, .int .i64 0, .slice none 0 0]) (by simp [results, Try.f65, go_sem, x0, x1, x2]) rfl ?_
    rw [HP.out]
    have hrbn : rb ≠ w.heap.size := by omega
    refine ⟨(K2.out.trans (KeepR.set rb w2 3 (.bool true))).trans' (below_store3 (Nat.le_refl _) _ _ _), fun _ => ⟨0, 0, none, 0, 0, p, m + 1, rfl, ?_, ?_⟩, fun _ _ _ h => by cases h⟩
    · rw [other_store3 hrbn]
      exact heap_setCell_same w2 rb 3 _ _ (.bool true) HR2.out.1
    · exact (HR2.out.2.keep (KeepR.set rb w2 3 (.bool true))).same fun b hb _ => other_store3 (by omega) _ _ _
  have b1 : decide ((6000 : Int) < (m : Int) + 1) = false := decide_eq_false (by omega)
  by_cases hC : 200 < d
  · have e1 : decide (200 < d) = true := decide_eq_true hC
    have HP : Hid (R = none) := by
      show _ = _
      rw [← HR.out, if_pos hC]
    clear hB hA
    refine wp_region_rel (by kernel_rfl) (by kernel_rfl) (by kernel_rfl) ?_
    apply RelWalk.rest
    · kernel_rfl
    · intro X _ W hW hcl
      obtain ⟨⟨c0, c1, c2, c3⟩, _⟩ := cell4 HR1.out.1
      have k0 := fun q => gcell (hW q) c0
      have k1 := fun q => gcell (hW q) c1
      have k2 := fun q => gcell (hW q) c2
      have k3 := fun q => gcell (hW q) c3
      clear c0 c1 c2 c3
      repeat (go_big_quiet_step (fail))
      exact wpQuiet_nil rfl
    intro gq w2 hg _
    have HG := Lib.hid hg
    clear hg
    simp only [Spread]
    have hr2 := ((HG.out.block rb (by have := HZ1.out; omega)).trans HR1.out.1)
    have hbx2 := ((HG.out.block w.heap.size (by have := HZ1.out; omega)).trans HX1.out)
    have hn2 : RdN rb D l (.slice ao l.length cap) w2 := HR1.out.2.same fun b hb _ => HG.out.block b (by have := HZ1.out; omega)
    have K2 := Lib.hid (HK1.out.trans (KeepR.of HG.out))
    obtain ⟨⟨c0, c1, c2, c3⟩, f0, f1, f2, f3⟩ := cell4 hr2
    obtain ⟨⟨x0, x1, x2⟩, y0, y1, y2⟩ := boxc hbx2
    have HR2 := Lib.hid (And.intro hr2 hn2)
    have HX2 := Lib.hid hbx2
    clear hr2 hn2 hbx2
    go_wp2_with fail
    refine bodyPost_ret (v := .agg #[.int .i64 0, .int .i64 0, .slice none 0 0]) (by simp [results, Try.f65, go_sem, x0, x1, x2]) rfl ?_
    rw [HP.out]
    have hrbn : rb ≠ w.heap.size := by omega
    refine ⟨(K2.out.trans (KeepR.set rb w2 3 (.bool true))).trans' (below_store3 (Nat.le_refl _) _ _ _), fun _ => ⟨0, 0, none, 0, 0, p, m + 1, rfl, ?_, ?_⟩, fun _ _ _ h => by cases h⟩
    · rw [other_store3 hrbn]
      exact heap_setCell_same w2 rb 3 _ _ (.bool true) HR2.out.1
    · exact (HR2.out.2.keep (KeepR.set rb w2 3 (.bool true))).same fun b hb _ => other_store3 (by omega) _ _ _
  have e1 : decide (200 < d) = false := decide_eq_false hC
  have hpl : p < l.length := by omega
  have hm1 : m + 1 ≤ 6000 := by omega
  have hd200 : d ≤ 200 := by omega
  have HS : Hid (R = if kidsI l[p] = 0 then leafP l[p] (l.drop (p + 1)) (6000 - (m + 1)) else innerP g l[p] (l.drop (p + 1)) (6000 - (m + 1))) := by
    show _ = _
    rw [← HR.out, if_neg hC, List.drop_eq_getElem_cons hpl, show 6000 - m = 6000 - (m + 1) + 1 by omega]
    rfl
  clear hA hB hC HR
  refine wp_region_rel (by kernel_rfl) (by kernel_rfl) (by kernel_rfl) ?_
  apply RelWalk.rest
  · kernel_rfl
  · intro X _ W hW hcl
    obtain ⟨⟨c0, c1, c2, c3⟩, _⟩ := cell4 HR1.out.1
    have k0 := fun q => gcell (hW q) c0
    have k1 := fun q => gcell (hW q) c1
    have k2 := fun q => gcell (hW q) c2
    have k3 := fun q => gcell (hW q) c3
    clear c0 c1 c2 c3
    repeat (go_big_quiet_step (fail))
    exact wpQuiet_nil rfl
  intro gq w2 hg _
  have HG := Lib.hid hg
  clear hg
  simp only [Spread]
  have hr2 := ((HG.out.block rb (by have := HZ1.out; omega)).trans HR1.out.1)
  have hbx2 := ((HG.out.block w.heap.size (by have := HZ1.out; omega)).trans HX1.out)
  have hn2 : RdN rb D l (.slice ao l.length cap) w2 := HR1.out.2.same fun b hb _ => HG.out.block b (by have := HZ1.out; omega)
  have K2 := Lib.hid (HK1.out.trans (KeepR.of HG.out))
  obtain ⟨⟨c0, c1, c2, c3⟩, f0, f1, f2, f3⟩ := cell4 hr2
  obtain ⟨⟨x0, x1, x2⟩, y0, y1, y2⟩ := boxc hbx2
  have HR2 := Lib.hid (And.intro hr2 hn2)
  have HX2 := Lib.hid hbx2
  clear hr2 hn2 hbx2
  go_wp2_with fail
  obtain ⟨bb, oo, hbr, hbD, hao, hcell0⟩ : ∃ b off, b ≠ rb ∧ b < D ∧ ao = some ⟨b, off, none⟩ ∧ ∀ i (_ : i < l.length), w2.cell? ⟨b, off + i, none⟩ = some (.int .u8 l[i]) := by
    obtain ⟨a, c, he, _, _, _, h5⟩ := HR2.out.2
    simp only [Value.slice.injEq] at he
    obtain ⟨b, o, h1, h2, h3, h4⟩ := h5 (by omega)
    exact ⟨b, o, h1, h2, he.1.trans h3, h4⟩
  subst hao
  obtain ⟨k, hk⟩ : ∃ k, k = l[p] := ⟨_, rfl⟩
  have HKB := Lib.hid (HB.out k (by rw [hk]; exact List.getElem_mem hpl))
  have HCELL := Lib.hid hcell0
  obtain ⟨kb0, kb1⟩ := HKB.out
  have hq := hcell0 p hpl
  rw [← hk] at HS hq
  have HQ := Lib.hid hq
  have i1 : (p : Int) < (l.length : Int) := by omega
  have i2 : (0 : Int) ≤ (p : Int) := by omega
  clear hcell0 hq hk
  refine wp_region_rel_tail 13 (by kernel_rfl) (by kernel_rfl) (by kernel_rfl) ?_
  simp only [List.take_succ_cons, List.take_zero]
  simp only [List.drop_succ_cons, List.drop_zero]
  apply RelWalk.next 12
  · kernel_rfl
  · intro X _ W hW hcl
    simp only [List.take_succ_cons, List.take_zero]
    obtain ⟨⟨c0, c1, c2, c3⟩, _⟩ := cell4 HR2.out.1
    have k0 := fun q => gcell (hW q) c0
    have k1 := fun q => gcell (hW q) c1
    have k2 := fun q => gcell (hW q) HQ.out
    clear c0 c1 c2 c3
    repeat (go_big_quiet_step (fail))
    exact wpQuiet_nil rfl
  simp only [List.drop_succ_cons, List.drop_zero]
  refine RelWalk.made0 (fun v s e w => v = .pointer (some ⟨s, 0, none⟩) ∧ w.heap[s]? = some (.cells #[.int .i64 0, .int .i64 0, .slice none 0 0] 24 (0, 0)) ∧ s < w.heap.size) rfl (by kernel_rfl) (by kernel_rfl) rfl (fun v s e w w' hg h => ⟨h.1, (hg.block s h.2.2).trans h.2.1, Nat.lt_of_lt_of_le h.2.2 hg.size⟩) (fun w3 hg => ?_) ?_
  · go_simp
    exact ⟨below_al w3 _, rfl, World.alloc_heap_new w3 _, by simp⟩
  simp only [Act.put, List.setIfInBounds_toArray, List.set_cons_zero, List.set_cons_succ]
  refine .done fun g5 w3 hg hpt => ?_
  simp only [Spread]
  rintro v5 ⟨rfl, hbx5, hlt5⟩
  simp only [Act.put, List.setIfInBounds_toArray, List.set_cons_zero, List.set_cons_succ]
  have hp5 := (hpt.1 5 (List.mem_of_elem_eq_true (by kernel_rfl))).1
  clear hpt
  generalize (g5 5).1 = s5 at *
  have HZ2 : Hid (w.heap.size + 1 ≤ w2.heap.size) := by have := HG.out.size; have := HZ1.out; show _ ≤ _; omega
  have hn1 : ¬ s5 = rb := by have := HZ2.out; omega
  have hn2 : ¬ rb = s5 := by have := HZ2.out; omega
  have hr3 := (hg.block rb (by have := HZ2.out; omega)).trans HR2.out.1
  obtain ⟨⟨c0, c1, c2, c3⟩, f0, f1, f2, f3⟩ := cell4 hr3
  obtain ⟨⟨z0, z1, z2⟩, u0, u1, u2⟩ := boxc hbx5
  go_wp2_with fail
  have hr4 : RdrP rb D l (some ⟨bb, oo, none⟩) cap (p + 1) (m + 1) false ((((w3.setCell ⟨s5, 0, none⟩ (.int .i64 k)).setCell ⟨s5, 1, none⟩ (.int .i64 0)).setCell ⟨s5, 2, none⟩ (.slice none 0 0)).setCell ⟨rb, 1, none⟩ (.int .i64 ((p : Int) + 1))) :=
    ⟨heap_setCell_same _ rb 1 _ _ _ ((other_store3 (by omega) _ _ _).trans hr3), ((HR2.out.2.same fun b hb _ => (other_store3 (by have := HZ2.out; omega) _ _ _).trans (hg.block b (by have := HZ2.out; omega))).keep (KeepR.set rb _ 1 _))⟩
  have ht4 := ((KeepR.set rb (((w3.setCell ⟨s5, 0, none⟩ (.int .i64 k)).setCell ⟨s5, 1, none⟩ (.int .i64 0)).setCell ⟨s5, 2, none⟩ (.slice none 0 0)) 1 (.int .i64 ((p : Int) + 1))).2.2.2.2 s5 (by simpa using hlt5) hn1).trans (box_store3 hbx5 (.int .i64 k) (.int .i64 0) (.slice none 0 0))
  have hx4 := ((KeepR.set rb (((w3.setCell ⟨s5, 0, none⟩ (.int .i64 k)).setCell ⟨s5, 1, none⟩ (.int .i64 0)).setCell ⟨s5, 2, none⟩ (.slice none 0 0)) 1 (.int .i64 ((p : Int) + 1))).2.2.2.2 w.heap.size (by have := HZ2.out; simp; omega) (by omega)).trans ((other_store3 (by have := HZ2.out; omega) _ _ _).trans ((hg.block w.heap.size (by have := HZ2.out; omega)).trans HX2.out))
  have hk4 := ((K2.out.trans (KeepR.of hg)).trans' (below_store3 (W := w3) (B := s5) (by have := HZ2.out; omega) (.int .i64 k) (.int .i64 0) (.slice none 0 0))).trans (KeepR.set rb _ 1 (.int .i64 ((p : Int) + 1)))
  have hz4 : ((((w3.setCell ⟨s5, 0, none⟩ (.int .i64 k)).setCell ⟨s5, 1, none⟩ (.int .i64 0)).setCell ⟨s5, 2, none⟩ (.slice none 0 0)).setCell ⟨rb, 1, none⟩ (.int .i64 ((p : Int) + 1))).heap.size = w3.heap.size := by simp
  have hs5 : w.heap.size + 1 ≤ s5 := by have := HZ2.out; omega
  revert hr4 ht4 hx4 hk4 hz4
  generalize ((((w3.setCell ⟨s5, 0, none⟩ (.int .i64 k)).setCell ⟨s5, 1, none⟩ (.int .i64 0)).setCell ⟨s5, 2, none⟩ (.slice none 0 0)).setCell ⟨rb, 1, none⟩ (.int .i64 ((p : Int) + 1))) = w4
  intro hr4 ht4 hx4 hk4 hz4
  have hlt4 : s5 < w4.heap.size := by omega
  have R4 := Lib.hid hr4
  have T4 := Lib.hid ht4
  have X4 := Lib.hid hx4
  have K4 := Lib.hid hk4
  clear hr4 ht4 hx4 hk4 hz4 hr3 hg c0 c1 c2 c3 f0 f1 f2 f3 z0 z1 z2 u0 u1 u2 hbx5 HR2 HX2 K2 HG HR1 HX1 HK1 HQ x0 x1 x2 y0 y1 y2 hp5 hlt5
  have HKI := rkids_any k w4
  obtain ⟨c, hc⟩ : ∃ c, c = kidsI k := ⟨_, rfl⟩
  rw [← hc] at HKI HS
  have HCK := Lib.hid hc
  have HKI2 := Lib.hid HKI
  have hc3 : c ≤ 3 := by rw [hc]; exact kidsI_le k
  clear HKI hc a1 a2 b1 e1
  refine HKI2.out.mono ?_
  rintro e w' ⟨rfl, rfl⟩
  obtain ⟨⟨c0, c1, c2, c3⟩, f0, f1, f2, f3⟩ := cell4 R4.out.1
  obtain ⟨⟨z0, z1, z2⟩, u0, u1, u2⟩ := boxc T4.out
  obtain ⟨⟨x0, x1, x2⟩, y0, y1, y2⟩ := boxc X4.out
  go_wp2_with fail
  have hwr : IntKind.i64.wrap ((l.length : Int) - ((p : Int) + 1)) = (l.length : Int) - ((p : Int) + 1) := IntWalk.i64_in _ (by omega)
  have HWR := Lib.hid hwr
  clear hwr
  by_cases hneg : c < 0
  · have e1 : decide (c < 0) = true := decide_eq_true hneg
    have HP : Hid (R = none) := by
      show _ = _
      have h1 := HS.out
      have h2 := HCK.out
      rw [if_neg (by omega), innerP, if_pos (by omega)] at h1
      exact h1
    clear hneg
    refine wp_region_rel (by kernel_rfl) (by kernel_rfl) (by kernel_rfl) ?_
    apply RelWalk.rest
    · kernel_rfl
    · intro X _ W hW hcl
      obtain ⟨⟨c0, c1, c2, c3⟩, _⟩ := cell4 R4.out.1
      have k0 := fun q => gcell (hW q) c0
      have k1 := fun q => gcell (hW q) c1
      have k2 := fun q => gcell (hW q) c2
      have k3 := fun q => gcell (hW q) c3
      clear c0 c1 c2 c3
      repeat (go_big_quiet_step (fail))
      exact wpQuiet_nil rfl
    intro gq w5 hg _
    have HG := Lib.hid hg
    clear hg c0 c1 c2 c3 f0 f1 f2 f3 z0 z1 z2 u0 u1 u2 x0 x1 x2 y0 y1 y2
    simp only [Spread]
    have hr5 : RdrP rb D l (some ⟨bb, oo, none⟩) cap (p + 1) (m + 1) false w5 := R4.out.same hrb fun b hb => HG.out.block b (by omega)
    have hx5 := (HG.out.block w.heap.size (by omega)).trans X4.out
    have ht5 := (HG.out.block s5 hlt4).trans T4.out
    have K5 := Lib.hid (K4.out.trans (KeepR.of HG.out))
    obtain ⟨⟨c0, c1, c2, c3⟩, f0, f1, f2, f3⟩ := cell4 hr5.1
    obtain ⟨⟨x0, x1, x2⟩, y0, y1, y2⟩ := boxc hx5
    obtain ⟨⟨z0, z1, z2⟩, u0, u1, u2⟩ := boxc ht5
    have R5 := Lib.hid hr5
    have X5 := Lib.hid hx5
    have T5 := Lib.hid ht5
    clear hr5 hx5 ht5
    go_wp2_with fail
    refine bodyPost_ret (v := .agg #[.int .i64 0, .int .i64 0, .slice none 0 0]) (by simp [results, Try.f65, go_sem, x0, x1, x2]) rfl ?_
    rw [HP.out]
    have hrbn : rb ≠ w.heap.size := by omega
    refine ⟨(K5.out.trans (KeepR.set rb w5 3 (.bool true))).trans' (below_store3 (Nat.le_refl _) _ _ _), fun _ => ⟨0, 0, none, 0, 0, p + 1, m + 1, rfl, ?_, ?_⟩, fun _ _ _ h => by cases h⟩
    · rw [other_store3 hrbn]
      exact heap_setCell_same w5 rb 3 _ _ (.bool true) R5.out.1
    · exact (R5.out.2.keep (KeepR.set rb w5 3 (.bool true))).same fun b hb _ => other_store3 (by omega) _ _ _
  have e1 : decide (c < 0) = false := decide_eq_false hneg
  by_cases hz : c = 0
  · subst hz
    by_cases hsh : (l.length : Int) - ((p : Int) + 1) < 2
    · have e3 : decide ((l.length : Int) - ((p : Int) + 1) < 2) = true := decide_eq_true hsh
      have HP : Hid (R = none) := by
        show _ = _
        have h1 := HS.out
        rw [if_pos rfl] at h1
        rw [h1]
        unfold leafP
        have hl3 : (l.drop (p + 1)).length < 2 := by rw [List.length_drop]; omega
        match l.drop (p + 1), hl3 with
        | [], _ => rfl
        | [a], _ => rfl
      clear hsh hneg
      refine wp_region_rel (by kernel_rfl) (by kernel_rfl) (by kernel_rfl) ?_
      apply RelWalk.rest
      · kernel_rfl
      · intro X _ W hW hcl
        obtain ⟨⟨c0, c1, c2, c3⟩, _⟩ := cell4 R4.out.1
        have k0 := fun q => gcell (hW q) c0
        have k1 := fun q => gcell (hW q) c1
        have k2 := fun q => gcell (hW q) c2
        have k3 := fun q => gcell (hW q) c3
        have hwr := HWR.out
        clear c0 c1 c2 c3
        repeat (go_big_quiet_step (fail))
        exact wpQuiet_nil rfl
      intro gq w5 hg _
      have HG := Lib.hid hg
      clear hg c0 c1 c2 c3 f0 f1 f2 f3 z0 z1 z2 u0 u1 u2 x0 x1 x2 y0 y1 y2
      simp only [Spread]
      have hr5 : RdrP rb D l (some ⟨bb, oo, none⟩) cap (p + 1) (m + 1) false w5 := R4.out.same hrb fun b hb => HG.out.block b (by omega)
      have hx5 := (HG.out.block w.heap.size (by omega)).trans X4.out
      have ht5 := (HG.out.block s5 hlt4).trans T4.out
      have K5 := Lib.hid (K4.out.trans (KeepR.of HG.out))
      obtain ⟨⟨c0, c1, c2, c3⟩, f0, f1, f2, f3⟩ := cell4 hr5.1
      obtain ⟨⟨x0, x1, x2⟩, y0, y1, y2⟩ := boxc hx5
      obtain ⟨⟨z0, z1, z2⟩, u0, u1, u2⟩ := boxc ht5
      have R5 := Lib.hid hr5
      have X5 := Lib.hid hx5
      have T5 := Lib.hid ht5
      clear hr5 hx5 ht5
      go_wp2_with fail
      refine bodyPost_ret (v := .agg #[.int .i64 0, .int .i64 0, .slice none 0 0]) (by simp [results, Try.f65, go_sem, x0, x1, x2]) rfl ?_
      rw [HP.out]
      have hrbn : rb ≠ w.heap.size := by omega
      refine ⟨(K5.out.trans (KeepR.set rb w5 3 (.bool true))).trans' (below_store3 (Nat.le_refl _) _ _ _), fun _ => ⟨0, 0, none, 0, 0, p + 1, m + 1, rfl, ?_, ?_⟩, fun _ _ _ h => by cases h⟩
      · rw [other_store3 hrbn]
        exact heap_setCell_same w5 rb 3 _ _ (.bool true) R5.out.1
      · exact (R5.out.2.keep (KeepR.set rb w5 3 (.bool true))).same fun b hb _ => other_store3 (by omega) _ _ _
    · have e3 : decide ((l.length : Int) - ((p : Int) + 1) < 2) = false := decide_eq_false hsh
      obtain ⟨a, ha⟩ : ∃ a, a = l[p + 1]'(by omega) := ⟨_, rfl⟩
      obtain ⟨b, hb⟩ : ∃ b, b = l[p + 2]'(by omega) := ⟨_, rfl⟩
      have HAB := Lib.hid (And.intro (HB.out a (by rw [ha]; exact List.getElem_mem _)) (HB.out b (by rw [hb]; exact List.getElem_mem _)))
      have hq1 := HCELL.out (p + 1) (by omega)
      have hq2 := HCELL.out (p + 2) (by omega)
      rw [← ha] at hq1
      rw [← hb] at hq2
      have hbs : bb < w2.heap.size := by have := World.block_lt_of_cell? w2 _ hq1; simpa using this
      have HQ4 : Hid (w4.cell? ⟨bb, oo + (p + 1), none⟩ = some (.int .u8 a) ∧ w4.cell? ⟨bb, oo + (p + 2), none⟩ = some (.int .u8 b)) := by
        obtain ⟨a', c', he, _, _, _, h5⟩ := R4.out.2
        simp only [Value.slice.injEq] at he
        obtain ⟨b', o', _, _, h3, h6⟩ := h5 (by omega)
        rw [← he.1] at h3
        cases h3
        have g1 := h6 (p + 1) (by omega)
        have g2 := h6 (p + 2) (by omega)
        rw [← ha] at g1
        rw [← hb] at g2
        exact ⟨g1, g2⟩
      have HP : Hid (R = some (.node k (a * 256 + b) [], l.drop (p + 3), 6000 - (m + 1))) := by
        show _ = _
        have h1 := HS.out
        rw [if_pos rfl] at h1
        rw [h1, List.drop_eq_getElem_cons (show p + 1 < l.length by omega), List.drop_eq_getElem_cons (show p + 1 + 1 < l.length by omega), leafP, ha, hb]
      obtain ⟨⟨hab1, hab2⟩, hab3, hab4⟩ := HAB.out
      have HOR := Lib.hid (or_bytes (a := a) (b := b) ⟨hab1, hab2⟩ ⟨hab3, hab4⟩)
      have hlen : p + 3 ≤ l.length := by omega
      have HLEN := Lib.hid hlen
      have j1 : ((p : Int) + 1) < (l.length : Int) := by omega
      have j2 : (0 : Int) ≤ (p : Int) + 1 := by omega
      have j3 : ((p : Int) + 1 + 1) < (l.length : Int) := by omega
      have j4 : (0 : Int) ≤ (p : Int) + 1 + 1 := by omega
      have hwr1 : IntKind.i64.wrap ((p : Int) + 1 + 1) = (p : Int) + 1 + 1 := IntWalk.i64_in _ (by omega)
      have HWR1 := Lib.hid hwr1
      clear hsh hneg ha hb hq1 hq2 hbs hwr1 hlen
      refine wp_region_rel (by kernel_rfl) (by kernel_rfl) (by kernel_rfl) ?_
      apply RelWalk.rest
      · kernel_rfl
      · intro X _ W hW hcl
        obtain ⟨⟨c0, c1, c2, c3⟩, _⟩ := cell4 R4.out.1
        have k0 := fun q => gcell (hW q) c0
        have k1 := fun q => gcell (hW q) c1
        have k2 := fun q => gcell (hW q) c2
        have k3 := fun q => gcell (hW q) c3
        have hwr := HWR.out
        clear c0 c1 c2 c3
        repeat (go_big_quiet_step (fail))
        exact wpQuiet_nil rfl
      intro gq w5 hg _
      have HG := Lib.hid hg
      clear hg c0 c1 c2 c3 f0 f1 f2 f3 z0 z1 z2 u0 u1 u2 x0 x1 x2 y0 y1 y2
      simp only [Spread]
      have hr5 : RdrP rb D l (some ⟨bb, oo, none⟩) cap (p + 1) (m + 1) false w5 := R4.out.same hrb fun b hb => HG.out.block b (by omega)
      have hx5 := (HG.out.block w.heap.size (by omega)).trans X4.out
      have ht5 := (HG.out.block s5 hlt4).trans T4.out
      have K5 := Lib.hid (K4.out.trans (KeepR.of HG.out))
      obtain ⟨⟨c0, c1, c2, c3⟩, f0, f1, f2, f3⟩ := cell4 hr5.1
      obtain ⟨⟨x0, x1, x2⟩, y0, y1, y2⟩ := boxc hx5
      obtain ⟨⟨z0, z1, z2⟩, u0, u1, u2⟩ := boxc ht5
      have R5 := Lib.hid hr5
      have X5 := Lib.hid hx5
      have T5 := Lib.hid ht5
      clear hr5 hx5 ht5
      go_wp2_with fail
      have HQ5 : Hid (w5.cell? ⟨bb, oo + (p + 1), none⟩ = some (.int .u8 a) ∧ w5.cell? ⟨bb, oo + (p + 2), none⟩ = some (.int .u8 b)) := ⟨gcell HG.out HQ4.out.1, gcell HG.out HQ4.out.2⟩
      clear HQ4
      refine wp_region_rel_tail 26 (by kernel_rfl) (by kernel_rfl) (by kernel_rfl) ?_
      simp only [List.take_succ_cons, List.take_zero]
      simp only [List.drop_succ_cons, List.drop_zero]
      apply RelWalk.rest
      · kernel_rfl
      · intro X _ W hW hcl
        obtain ⟨⟨c0, c1, c2, c3⟩, _⟩ := cell4 R5.out.1
        have k0 := fun q => gcell (hW q) c0
        have k1 := fun q => gcell (hW q) c1
        have k2 := fun q => gcell (hW q) HQ5.out.1
        have k3 := fun q => gcell (hW q) HQ5.out.2
        have hwr1 := HWR1.out
        have hor := HOR.out
        have t1 : ((p : Int) + 1).toNat = p + 1 := by omega
        have t2 : ((p : Int) + 1 + 1).toNat = p + 2 := by omega
        clear c0 c1 c2 c3
        repeat (go_big_quiet_step (fail))
        exact wpQuiet_nil rfl
      intro gq6 w6 hg6 _
      simp only [Spread]
      have hr6 := (hg6.block rb (by have := HG.out.size; omega)).trans R5.out.1
      have hx6 := (hg6.block w.heap.size (by have := HG.out.size; omega)).trans X5.out
      have ht6 := (hg6.block s5 (by have := HG.out.size; omega)).trans T5.out
      have hn6 : RdN rb D l (.slice (some ⟨bb, oo, none⟩) l.length cap) w6 := R5.out.2.same fun b hb _ => hg6.block b (by have := HG.out.size; omega)
      have hz6 : w4.heap.size ≤ w6.heap.size := by have := HG.out.size; have := hg6.size; omega
      have K6 := Lib.hid (K5.out.trans (KeepR.of hg6))
      clear c0 c1 c2 c3 f0 f1 f2 f3 z0 z1 z2 u0 u1 u2 x0 x1 x2 y0 y1 y2 hg6
      obtain ⟨⟨c0, c1, c2, c3⟩, f0, f1, f2, f3⟩ := cell4 hr6
      obtain ⟨⟨z0, z1, z2⟩, u0, u1, u2⟩ := boxc ht6
      go_wp2_with fail
      have hr7 : RdrP rb D l (some ⟨bb, oo, none⟩) cap (p + 3) (m + 1) false ((w6.setCell ⟨s5, 1, none⟩ (.int .i64 (a * 256 + b))).setCell ⟨rb, 1, none⟩ (.int .i64 ((p : Int) + 1 + 2))) := by
        have h1 := heap_setCell_same (w6.setCell ⟨s5, 1, none⟩ (.int .i64 (a * 256 + b))) rb 1 _ _ (.int .i64 ((p : Int) + 1 + 2)) ((Below.heap_setCell _ _ _ _ hn2).trans hr6)
        refine ⟨?_, ?_⟩
        · rw [h1, show ((p : Int) + 1 + 2) = ((p + 3 : Nat) : Int) by omega]
          rfl
        · exact (hn6.same fun b hb _ => Below.heap_setCell _ _ _ _ (by dsimp only; omega)).keep (KeepR.set rb _ 1 _)
      have ht7 := (Below.heap_setCell (w6.setCell ⟨s5, 1, none⟩ (.int .i64 (a * 256 + b))) ⟨rb, 1, none⟩ (.int .i64 ((p : Int) + 1 + 2)) s5 hn1).trans (heap_setCell_same w6 s5 1 _ _ (.int .i64 (a * 256 + b)) ht6)
      have hx7 := (Below.heap_setCell (w6.setCell ⟨s5, 1, none⟩ (.int .i64 (a * 256 + b))) ⟨rb, 1, none⟩ (.int .i64 ((p : Int) + 1 + 2)) w.heap.size (by dsimp only; omega)).trans ((Below.heap_setCell w6 ⟨s5, 1, none⟩ (.int .i64 (a * 256 + b)) w.heap.size (by dsimp only; omega)).trans hx6)
      have hk7 := (K6.out.trans' ((Below.refl w.heap.size w6).setCell (p := ⟨s5, 1, none⟩) (by dsimp only; omega) (.int .i64 (a * 256 + b)))).trans (KeepR.set rb _ 1 (.int .i64 ((p : Int) + 1 + 2)))
      revert hr7 ht7 hx7 hk7
      generalize ((w6.setCell ⟨s5, 1, none⟩ (.int .i64 (a * 256 + b))).setCell ⟨rb, 1, none⟩ (.int .i64 ((p : Int) + 1 + 2))) = w7
      intro hr7 ht7 hx7 hk7
      have R7 := Lib.hid hr7
      have T7 := Lib.hid ht7
      have X7 := Lib.hid hx7
      have K7 := Lib.hid hk7
      clear hr7 ht7 hx7 hk7 c0 c1 c2 c3 f0 f1 f2 f3 z0 z1 z2 u0 u1 u2 hr6 hx6 ht6 hn6
      go_loopw [7] (fun i wr => i = .int .i64 0 ∧ wr = w7) (fun _ _ => 0)
      case atStart => exact ⟨rfl, rfl⟩
      case round =>
        obtain ⟨rfl, rfl⟩ := hrel
        obtain ⟨⟨c0, c1, c2, c3⟩, f0, f1, f2, f3⟩ := cell4 R7.out.1
        obtain ⟨⟨z0, z1, z2⟩, u0, u1, u2⟩ := boxc T7.out
        obtain ⟨⟨x0, x1, x2⟩, y0, y1, y2⟩ := boxc X7.out
        go_wp2_with fail
        refine bodyPost_ret (v := .agg #[.int .i64 k, .int .i64 (a * 256 + b), .slice none 0 0]) (by simp [results, Try.f65, go_sem, x0, x1, x2]) rfl ?_
        rw [HP.out]
        refine ⟨K7.out.trans' (below_store3 (Nat.le_refl _) _ _ _), fun h => (by cases h), fun t1 r1 n1 h => ?_⟩
        simp only [Option.some.injEq, Prod.mk.injEq] at h
        obtain ⟨rfl, rfl, rfl⟩ := h
        exact ⟨none, 0, p + 3, m + 1, rfl, .nl, R7.out.same hrb fun b hb => other_store3 (by omega) _ _ _, rfl, HLEN.out, by omega, rfl⟩
  · obtain ⟨cn, hcn⟩ : ∃ cn : Nat, c = cn := ⟨c.toNat, by omega⟩
    subst hcn
    have e3 : ((cn : Int) == 0) = false := beq_eq_false_iff_ne.2 (by omega)
    have e4 : (cn == 0) = false := beq_eq_false_iff_ne.2 (by omega)
    have HS2 : Hid (R = match kidsP g cn (l.drop (p + 1)) (6000 - (m + 1)) with | none => none | some (L, r2, n2) => some (.node k 0 L, r2, n2)) := by
      show _ = _
      have h1 := HS.out
      have h2 := HCK.out
      rw [if_neg hz, innerP, if_neg (by omega), show (kidsI k).toNat = cn by omega] at h1
      exact h1
    generalize hres2 : kidsP g cn (l.drop (p + 1)) (6000 - (m + 1)) = R2 at HS2
    have HR2K := Lib.hid hres2
    have hcn3 : cn ≤ 3 := by omega
    clear HS HCK hneg hz hres2 e1
    have e1 : decide ((cn : Int) < 0) = false := decide_eq_false (by omega)
    refine wp_region_rel (by kernel_rfl) (by kernel_rfl) (by kernel_rfl) ?_
    apply RelWalk.rest
    · kernel_rfl
    · intro X _ W hW hcl
      obtain ⟨⟨c0, c1, c2, c3⟩, _⟩ := cell4 R4.out.1
      have k0 := fun q => gcell (hW q) c0
      have k1 := fun q => gcell (hW q) c1
      have k2 := fun q => gcell (hW q) c2
      have k3 := fun q => gcell (hW q) c3
      have hwr := HWR.out
      clear c0 c1 c2 c3
      repeat (go_big_quiet_step (fail))
      exact wpQuiet_nil rfl
    intro gq w5 hg _
    have HG := Lib.hid hg
    clear hg c0 c1 c2 c3 f0 f1 f2 f3 z0 z1 z2 u0 u1 u2 x0 x1 x2 y0 y1 y2
    simp only [Spread]
    have hr5 : RdrP rb D l (some ⟨bb, oo, none⟩) cap (p + 1) (m + 1) false w5 := R4.out.same hrb fun b hb => HG.out.block b (by omega)
    have hx5 := (HG.out.block w.heap.size (by omega)).trans X4.out
    have ht5 := (HG.out.block s5 hlt4).trans T4.out
    have K5 := Lib.hid (K4.out.trans (KeepR.of HG.out))
    obtain ⟨⟨c0, c1, c2, c3⟩, f0, f1, f2, f3⟩ := cell4 hr5.1
    obtain ⟨⟨x0, x1, x2⟩, y0, y1, y2⟩ := boxc hx5
    obtain ⟨⟨z0, z1, z2⟩, u0, u1, u2⟩ := boxc ht5
    have R5 := Lib.hid hr5
    have X5 := Lib.hid hx5
    have T5 := Lib.hid ht5
    clear hr5 hx5 ht5
    go_wp2_with fail
    have hcap5 : w.heap.size + 1 ≤ w5.heap.size ∧ s5 < w5.heap.size := by have := HG.out.size; omega
    have I0 : Hid (RInv g rb D l (some ⟨bb, oo, none⟩) cap cn R2 k s5 w (.int .i64 0) w5) := by
      refine ⟨K5.out, X5.out, hcap5.2, .inl ⟨[], p + 1, m + 1, fun _ => .slice none 0 0, .slice none 0 0, Nat.zero_le _, rfl, ?_, by omega, hm1, R5.out, T5.out, World.ownsRow_nil _ _ _ _, fun i hi => absurd hi (Nat.not_lt_zero _)⟩⟩
      show moreP [] (kidsP g (cn - 0) (l.drop (p + 1)) (6000 - (m + 1))) = R2
      rw [Nat.sub_zero, HR2K.out]
      cases R2 with
      | none => rfl
      | some y => rfl
    clear c0 c1 c2 c3 f0 f1 f2 f3 z0 z1 z2 u0 u1 u2 x0 x1 x2 y0 y1 y2 R5 X5 T5 K5 R4 T4 X4 K4 HR2K HKI2 HWR
    go_loopw [7] (fun i wr => RInv g rb D l (some ⟨bb, oo, none⟩) cap cn R2 k s5 w i wr) (fun i _ => cn - (RowKit.intOf i).toNat)
    case atStart => exact I0.out
    case round =>
      obtain ⟨hK, hX, hs5r, hon | hbad⟩ := hrel
      · obtain ⟨L, p6, m6, vs, vK, hLc, rfl, hmore, hp6, hm6, hR, hT, hown, hat⟩ := hon
        have K6 := Lib.hid hK
        have X6 := Lib.hid hX
        have R6 := Lib.hid hR
        have T6 := Lib.hid hT
        have O6 := Lib.hid hown
        have A6 := Lib.hid hat
        have M6 := Lib.hid hmore
        clear hK hX hR hT hown hat hmore I0
        obtain ⟨aK, cK, rfl⟩ : ∃ a c, vK = .slice a L.length c := by
          rcases ownsRow_forms O6.out with ⟨h, h0⟩ | ⟨_, _, h⟩
          · exact ⟨none, 0, by rw [h, h0]⟩
          · exact ⟨_, _, h⟩
        obtain ⟨⟨c0, c1, c2, c3⟩, f0, f1, f2, f3⟩ := cell4 R6.out.1
        obtain ⟨⟨z0, z1, z2⟩, u0, u1, u2⟩ := boxc T6.out
        by_cases hlt : L.length < cn
        · obtain ⟨q, hq⟩ : ∃ q, cn - L.length = q + 1 := ⟨cn - L.length - 1, by omega⟩
          have HC := Lib.hid (HTT.out hd200 rb D l (some ⟨bb, oo, none⟩) cap p6 m6 wr.drew HB.out hp6 (show D ≤ wr.heap.size by have := K6.out.1; omega) hrb (show RdrP rb D l (some ⟨bb, oo, none⟩) cap p6 m6 false wr.drew from R6.out) hl hm6)
          have hl1 : (L.length : Int) < (cn : Int) := by omega
          have hl0 : (0 : Int) ≤ (L.length : Int) := by omega
          have hwd : IntKind.i64.wrap (d + 1) = d + 1 := IntWalk.i64_in _ (by omega)
          have hol := O6.out.lt
          obtain ⟨i0, hi, hz0, hz1, hz2⟩ := info_parts Try.infoT
          have hm8 : L.length + 1 ≤ maxLen := by unfold maxLen; omega
          have hm9 : (L.length + 1) * 40 ≤ 140737488355328 := by omega
          have HQ := Lib.hid hq
          have HOL := Lib.hid hol
          clear hq hol
          cases hr : g (l.drop p6) (6000 - m6) with
          | none =>
            have HRR := Lib.hid hr
            clear hr
            go_wp2_with fail
            go_region_law (first
                | (refine step_append_lies _ (by rfl) (.tmp 140) (.tmp 145) 22 (by rfl) (s5 + 1) 24 i0 _ 3 40 Try.underlying22 hi hz0 hz1 hz2 rfl (by decide) (.slice aK L.length cK) L.length _ (by rfl) ((O6.out.kept (w' := w6) (row := some rb) ⟨hk6.2.1, hk6.2.2.1, hk6.2.2.2.1, hk6.1, fun b hb hne => hk6.2.2.2.2 b hb (fun e => hne (by rw [e]))⟩ (.inr fun e => by have := (HOL.out _ e).1; omega)).alloc _) ⟨w6.heap.size, 0, none⟩ 1 1 [.int .i64 k1, .int .i64 m1, .slice a1 x1 c1] (by rfl) (by rfl) (World.news_of_block (cs := #[.int .i64 k1, .int .i64 m1, .slice a1 x1 c1]) (World.alloc_heap_new w6 _)) (by simp [Value.oneCell']) (by decide) hm8 hm9 (by have := hk6.1; simp; simp at this; omega) (w6.heap.size + 1) (by simp) ?_; intro g7 cap7 w7 hown7 hgrow7 hat7 hlt7; have hs7 := ((hgrow7.block s5 (by have := hk6.1; simp at this; simp; omega) (fun e => by have := (HOL.out _ e.symm).1; omega)).trans (Below.heap_alloc w6 _ s5 (by have := hk6.1; simp at this; omega))).trans ((hk6.2.2.2.2 s5 hs5r (by omega)).trans T6.out); obtain ⟨⟨p0, p1, p2⟩, p3, p4, p5⟩ := boxc hs7)
                | (go_simp; go_at_call 65; refine HC.out.mono ?_; rintro e w6 ⟨hk6, hno, _⟩; obtain ⟨k1, m1, a1, x1, c1, b1, b2, rfl, hr6⟩ := hno HRR.out; have q2 : w6.cell? ⟨s5, 2, none⟩ = some (.slice aK L.length cK) := KeepR.cell hk6 (by dsimp only; omega) z2; have q3 := gcell (below_al w6 (.cells #[.int .i64 k1, .int .i64 m1, .slice a1 x1 c1] 24)) q2))
            all_goals
              obtain ⟨W1, W2, W3, W4, W5, W6, W7⟩ := step_world (rb := rb) (w := w) (wr := wr) (w6 := w6) (by omega) (by omega) K6.out X6.out hs5r T6.out (show KeepR rb wr w6 from hk6) HOL.out hown7 hgrow7 _ rfl
              have hz6 : wr.heap.size ≤ w6.heap.size := hk6.1
              have hwr6 := K6.out.1
              revert W1 W2 W3 W4 W5 W6 W7
              generalize w7.setCell ⟨s5, 2, none⟩ (.slice (some ⟨g7, 0, none⟩) (L.length + 1) cap7) = w8
              intro W1 W2 W3 W4 W5 W6 W7
              have HW := Lib.hid (And.intro W1 (And.intro W2 (And.intro W3 W4)))
              have HW6 := Lib.hid W6
              clear W1 W2 W3 W4 W5 W6 hown7 hgrow7 hs7 p0 p1 p2 p3 p4 p5 q2 q3
              go_wp2_with fail
              go_roundw
              case rel =>
                refine ⟨HW.out.1, HW.out.2.1, HW.out.2.2.1, .inr ⟨L.length + 1, by omega, by go_num, ?_, b1, b2, k, 0, _, _, _, hr6.same hrb fun b hb => HW6.out b (by omega) (by omega) (fun e => by have := (HOL.out _ e.symm).1; omega), HW.out.2.2.2⟩⟩
                rw [← M6.out, HQ.out, moreP_none HRR.out]
              case measure => simp [RowKit.intOf]; omega
          | some y =>
            obtain ⟨t, r', n'⟩ := y
            have HRR := Lib.hid hr
            clear hr
            go_wp2_with fail
            go_region_law (first
                | (refine step_append_lies _ (by rfl) (.tmp 140) (.tmp 145) 22 (by rfl) (s5 + 1) 24 i0 _ 3 40 Try.underlying22 hi hz0 hz1 hz2 rfl (by decide) (.slice aK L.length cK) L.length _ (by rfl) ((O6.out.kept (w' := w6) (row := some rb) ⟨hk6.2.1, hk6.2.2.1, hk6.2.2.2.1, hk6.1, fun b hb hne => hk6.2.2.2.2 b hb (fun e => hne (by rw [e]))⟩ (.inr fun e => by have := (HOL.out _ e).1; omega)).alloc _) ⟨w6.heap.size, 0, none⟩ 1 1 [.int .i64 t.k, .int .i64 t.n, .slice a1 t.kids.length c1] (by rfl) (by rfl) (World.news_of_block (cs := #[.int .i64 t.k, .int .i64 t.n, .slice a1 t.kids.length c1]) (World.alloc_heap_new w6 _)) (by simp [Value.oneCell']) (by decide) hm8 hm9 (by have := hk6.1; simp; simp at this; omega) (w6.heap.size + 1) (by simp) ?_; intro g7 cap7 w7 hown7 hgrow7 hat7 hlt7; have hs7 := ((hgrow7.block s5 (by have := hk6.1; simp at this; simp; omega) (fun e => by have := (HOL.out _ e.symm).1; omega)).trans (Below.heap_alloc w6 _ s5 (by have := hk6.1; simp at this; omega))).trans ((hk6.2.2.2.2 s5 hs5r (by omega)).trans T6.out); obtain ⟨⟨p0, p1, p2⟩, p3, p4, p5⟩ := boxc hs7)
                | (go_simp; go_at_call 65; refine HC.out.mono ?_; rintro e w6 ⟨hk6, _, hso⟩; obtain ⟨a1, c1, p7, m7, rfl, hA6, hr6, hrr, hp7, hm7, hn7⟩ := hso _ _ _ HRR.out; have q2 : w6.cell? ⟨s5, 2, none⟩ = some (.slice aK L.length cK) := KeepR.cell hk6 (by dsimp only; omega) z2; have q3 := gcell (below_al w6 (.cells #[.int .i64 t.k, .int .i64 t.n, .slice a1 t.kids.length c1] 24)) q2))
            all_goals
              obtain ⟨W1, W2, W3, W4, W5, W6, W7⟩ := step_world (rb := rb) (w := w) (wr := wr) (w6 := w6) (by omega) (by omega) K6.out X6.out hs5r T6.out (show KeepR rb wr w6 from hk6) HOL.out hown7 hgrow7 _ rfl
              have hz6 : wr.heap.size ≤ w6.heap.size := hk6.1
              have hwr6 := K6.out.1
              revert W1 W2 W3 W4 W5 W6 W7
              generalize w7.setCell ⟨s5, 2, none⟩ (.slice (some ⟨g7, 0, none⟩) (L.length + 1) cap7) = w8
              intro W1 W2 W3 W4 W5 W6 W7
              have HW := Lib.hid (And.intro W1 (And.intro W2 (And.intro W3 W4)))
              have HW6 := Lib.hid W6
              have HW5 := Lib.hid W5
              have HZ8 := Lib.hid W7
              clear W1 W2 W3 W4 W5 W6 hown7 hgrow7 hs7 p0 p1 p2 p3 p4 p5 q2 q3
              go_wp2_with fail
              go_roundw
              case rel =>
                have hzd : wr.drew.heap.size = wr.heap.size := rfl
                have hg7 : ∀ b, b < w6.heap.size → some b ≠ (Value.slice aK L.length cK).ownBlock → some b ≠ some g7 := fun b hb hne e => by
                  rcases hat7 with h | h
                  · exact hne (by rw [h]; exact e)
                  · cases e; omega
                refine ⟨HW.out.1, HW.out.2.1, HW.out.2.2.1, .inl ⟨L ++ [t], p7, m7, fun i => if i < L.length then vs i else .slice a1 t.kids.length c1, .slice (some ⟨g7, 0, none⟩) (L.length + 1) cap7, by simp; omega, by rw [List.length_append, List.length_singleton]; go_num, ?_, hp7, hm7, hr6.same hrb fun b hb => HW6.out b (by omega) (by omega) (fun e => by have := (HOL.out _ e.symm).1; omega), HW.out.2.2.2, ?_, fun i hi => ?_⟩⟩
                · rw [← M6.out, HQ.out, moreP_some HRR.out, hrr, hn7, List.length_append, List.length_singleton, show cn - (L.length + 1) = q by have := HQ.out; omega]
                · rw [List.length_append, List.length_singleton, cells3_snoc L t vs _ (fun i hi => by rw [if_pos hi]), if_neg (by omega)]
                  exact HW5.out
                · by_cases hil : i < L.length
                  · simp only [if_pos hil]
                    rw [List.getElem_append_left hil]
                    have hA7 : AtS (fun b => s5 + 1 ≤ b ∧ b < wr.heap.size ∧ some b ≠ (Value.slice aK L.length cK).ownBlock) wr L[i].kids (vs i) := A6.out i hil
                    have hz8 := HZ8.out
                    refine AtS.same (S := fun b => s5 + 1 ≤ b ∧ b < wr.heap.size ∧ some b ≠ (Value.slice aK L.length cK).ownBlock) (fun b hb => ?_) hA7
                    obtain ⟨q5, q6, q7⟩ := hb
                    exact ⟨⟨q5, by omega, hg7 b (by omega) q7⟩, (HW6.out b (by omega) (by omega) q7).trans (hk6.2.2.2.2 b q6 (by omega))⟩
                  · obtain rfl : i = L.length := by simp at hi; omega
                    simp only [if_neg hil]
                    rw [List.getElem_append_right (Nat.le_refl _)]
                    simp only [Nat.sub_self, List.getElem_singleton]
                    have hnw : ∀ b, wr.heap.size ≤ b → some b ≠ (Value.slice aK L.length cK).ownBlock := fun b hb e => by have := (HOL.out _ e.symm).2; omega
                    have hA7 : AtS (fun b => wr.heap.size ≤ b ∧ b < w6.heap.size) w6 t.kids (.slice a1 t.kids.length c1) := hA6
                    have hz8 := HZ8.out
                    refine AtS.same (S := fun b => wr.heap.size ≤ b ∧ b < w6.heap.size) (fun b hb => ?_) hA7
                    obtain ⟨q5, q6⟩ := hb
                    exact ⟨⟨by omega, by omega, hg7 b q6 (hnw b q5)⟩, HW6.out b q6 (by omega) (hnw b q5)⟩
              case measure => simp [RowKit.intOf]; omega
        · obtain rfl : L.length = cn := by omega
          have hlt : decide ((L.length : Int) < (L.length : Int)) = false := by simp
          have HP : Hid (R = some (.node k 0 L, l.drop p6, 6000 - m6)) := by
            show _ = _
            rw [HS2.out, ← M6.out, Nat.sub_self, kidsP]
            simp [moreP]
          obtain ⟨⟨x0, x1, x2⟩, y0, y1, y2⟩ := boxc X6.out
          go_wp2_with fail
          refine bodyPost_ret (v := .agg #[.int .i64 k, .int .i64 0, .slice aK L.length cK]) (by simp [results, Try.f65, go_sem, x0, x1, x2]) rfl ?_
          rw [HP.out]
          refine ⟨K6.out.trans' (below_store3 (Nat.le_refl _) _ _ _), fun h => (by cases h), fun t1 r1 n1 h => ?_⟩
          simp only [Option.some.injEq, Prod.mk.injEq] at h
          obtain ⟨rfl, rfl, rfl⟩ := h
          have hol := O6.out.lt
          refine ⟨aK, cK, p6, m6, rfl, ?_, R6.out.same hrb fun b hb => other_store3 (by omega) _ _ _, rfl, hp6, hm6, rfl⟩
          have h1 : AtS (fun b => s5 + 1 ≤ b ∧ b < wr.heap.size) wr L (.slice aK L.length cK) := ats_of_row O6.out (fun b hb => hol b hb) fun i hi => (A6.out i hi).same fun b hb => ⟨⟨hb.1, hb.2.1⟩, rfl⟩
          exact h1.same fun b hb => ⟨⟨by omega, by simp; omega⟩, other_store3 (by omega) _ _ _⟩
      · obtain ⟨j, hj0, rfl, hnone, b1, b2, kk, mm, aa, xx, cc, hR, hT⟩ := hbad
        obtain ⟨⟨c0, c1, c2, c3⟩, f0, f1, f2, f3⟩ := cell4 hR.1
        obtain ⟨⟨z0, z1, z2⟩, u0, u1, u2⟩ := boxc hT
        obtain ⟨⟨x0, x1, x2⟩, y0, y1, y2⟩ := boxc hX
        have HP : Hid (R = none) := by
          show _ = _
          rw [HS2.out, hnone]
        have K6 := Lib.hid hK
        have R6 := Lib.hid hR
        clear hK hX hR hT I0 hnone
        have hfin : ∀ W8 : World, W8 = ((wr.setCell ⟨w.heap.size, 0, none⟩ (.int .i64 kk)).setCell ⟨w.heap.size, 1, none⟩ (.int .i64 mm)).setCell ⟨w.heap.size, 2, none⟩ (.slice aa xx cc) → RGot rb D l (some ⟨bb, oo, none⟩) cap w none (.returned (.agg #[.int .i64 kk, .int .i64 mm, .slice aa xx cc])) W8 := by
          rintro W8 rfl
          exact ⟨K6.out.trans' (below_store3 (Nat.le_refl _) _ _ _), fun _ => ⟨kk, mm, aa, xx, cc, b1, b2, rfl, R6.out.same hrb fun b hb => other_store3 (by omega) _ _ _⟩, fun _ _ _ h => by cases h⟩
        have HFIN := Lib.hid hfin
        clear hfin
        by_cases hjc : j < cn
        · have hj1 : (j : Int) < (cn : Int) := by omega
          go_wp2_with fail
          refine bodyPost_ret (v := .agg #[.int .i64 kk, .int .i64 mm, .slice aa xx cc]) (by simp [results, Try.f65, go_sem, x0, x1, x2]) rfl ?_
          rw [HP.out]
          exact HFIN.out _ rfl
        · have hj1 : decide ((j : Int) < (cn : Int)) = false := decide_eq_false (by omega)
          have hj2 : decide (j < cn) = false := decide_eq_false hjc
          go_wp2_with fail
          refine bodyPost_ret (v := .agg #[.int .i64 kk, .int .i64 mm, .slice aa xx cc]) (by simp [results, Try.f65, go_sem, x0, x1, x2]) rfl ?_
          rw [HP.out]
          exact HFIN.out _ rfl
end Go.Proofs.Ythcjjfgigbgdkaa
