/- Package porismkeep's Spoil and Spoils on rows that lie anywhere in a block: they write over whole numbers, and over nothing else. No conditions but sizes. -/
import Derived.Test.YtblebboamopffaaUb
import Derived.Test.YtblebboamopffaaRr
import Derived.BigQuiet
namespace Go.Proofs.Ytblebboamopffaa
open Go.RowKit Go
set_option linter.unusedVariables false

/-- In the blocks of a set whole numbers may have turned; nothing else has. -/
structure SpdE (S : Nat → Prop) (w w' : World) : Prop where
  os : w'.os = w.os
  tape : w'.tape = w.tape
  output : w'.output = w.output
  size : w.heap.size ≤ w'.heap.size
  other : ∀ b, b < w.heap.size → ¬ S b → w'.heap[b]? = w.heap[b]?
  same : ∀ b, S b → ∀ cs : Array Value, w.heap[b]? = some (.cells cs 24 (0, 0)) → ∃ cs' : Array Value, w'.heap[b]? = some (.cells cs' 24 (0, 0)) ∧ cs'.size = cs.size ∧ (∀ i : Nat, (∀ x : Int, cs[i]? ≠ some (Value.int .i64 x)) → cs'[i]? = cs[i]?) ∧ ∀ i : Nat, (∃ x : Int, cs[i]? = some (Value.int .i64 x)) → ∃ x : Int, cs'[i]? = some (Value.int .i64 x)
theorem SpdE.refl (S : Nat → Prop) (w : World) : SpdE S w w := ⟨rfl, rfl, rfl, Nat.le_refl _, fun _ _ _ => rfl, fun b _ cs h => ⟨cs, h, rfl, fun _ _ => rfl, fun _ h => h⟩⟩
theorem SpdE.trans {S : Nat → Prop} {a b c : World} (h : SpdE S a b) (k : SpdE S b c) : SpdE S a c := by
  refine ⟨k.os.trans h.os, k.tape.trans h.tape, k.output.trans h.output, Nat.le_trans h.size k.size, fun i hi hS => (k.other i (Nat.lt_of_lt_of_le hi h.size) hS).trans (h.other i hi hS), fun i hS cs hcs => ?_⟩
  obtain ⟨c1, h1, h2, h3, h4⟩ := h.same i hS cs hcs
  obtain ⟨c2, k1, k2, k3, k4⟩ := k.same i hS c1 h1
  exact ⟨c2, k1, k2.trans h2, fun j hj => (k3 j (fun x => by rw [h3 j hj]; exact hj x)).trans (h3 j hj), fun j hj => k4 j (h4 j hj)⟩
theorem SpdE.of {S : Nat → Prop} {w w' : World} (hS : ∀ b, S b → b < w.heap.size) (hb : Below w.heap.size w w') : SpdE S w w' :=
  ⟨hb.os, hb.tape, hb.output, hb.size, fun b hlt _ => hb.block b hlt, fun b hSb cs h => ⟨cs, (hb.block b (hS b hSb)).trans h, rfl, fun _ _ => rfl, fun _ h => h⟩⟩
theorem SpdE.set {S : Nat → Prop} {w : World} {b i : Nat} {cs : Array Value} (hS : S b) (h : w.heap[b]? = some (.cells cs 24 (0, 0))) {x : Int} (hi : cs[i]? = some (Value.int .i64 x)) (y : Int) : SpdE S w (w.setCell ⟨b, i, none⟩ (.int .i64 y)) := by
  refine ⟨rfl, rfl, rfl, by simp [World.setCell], fun j _ hj => Below.heap_setCell _ _ _ _ (fun e => hj (e ▸ hS)), fun j hj c hc => ?_⟩
  by_cases hjb : j = b
  · subst hjb
    rw [h] at hc
    simp only [Option.some.injEq, Obj.cells.injEq, and_true] at hc
    subst hc
    have hlt : i < cs.size := (Array.getElem?_eq_some_iff.1 hi).1
    refine ⟨_, heap_setCell_same w j i cs _ _ h, by simp, fun k hk => ?_, fun k hk => ?_⟩
    · by_cases hki : i = k
      · subst hki
        exact absurd hi (hk x)
      · rw [Array.getElem?_setIfInBounds_ne hki]
    · by_cases hki : i = k
      · subst hki
        exact ⟨y, Array.getElem?_setIfInBounds_self_of_lt hlt⟩
      · rw [Array.getElem?_setIfInBounds_ne hki]; exact hk
  · exact ⟨c, (Below.heap_setCell _ _ _ _ hjb).trans hc, rfl, fun _ _ => rfl, fun _ h => h⟩
/-- The Kids of a term, whatever their numbers and kinds. -/
inductive SkE (S : Nat → Prop) (w : World) : List Tm → Value → Prop
  | nl : SkE S w [] (.slice none 0 0)
  | em (a : Addr) (cap : Nat) : SkE S w [] (.slice (some a) 0 cap)
  | row (l : List Tm) (b off cap : Nat) (vs : Nat → Value) (cs : Array Value) (hS : S b) (hcs : w.heap[b]? = some (.cells cs 24 (0, 0))) (hlen : l.length ≤ cap) (hm : cap ≤ maxLen)
      (hk : ∀ i (_ : i < l.length), (∃ x : Int, cs[off + i * 3]? = some (Value.int .i64 x)) ∧ (∃ x : Int, cs[off + i * 3 + 1]? = some (Value.int .i64 x)) ∧ cs[off + i * 3 + 2]? = some (vs i)) (hs : ∀ i (h : i < l.length), SkE S w l[i].kids (vs i)) : SkE S w l (.slice (some ⟨b, off, none⟩) l.length cap)
theorem AtE.ske {S : Nat → Prop} {w : World} {l : List Tm} {v : Value} (h : AtE S w l v) : SkE S w l v := by
  induction h with
  | nl => exact .nl
  | em a cap => exact .em a cap
  | row l b off cap vs cs hS hcs hlen hm hk _ ih => exact .row l b off cap vs cs hS hcs hlen hm (fun i hi => ⟨⟨_, (hk i hi).1⟩, ⟨_, (hk i hi).2.1⟩, (hk i hi).2.2⟩) ih
theorem SkE.shape {S : Nat → Prop} {w : World} {l : List Tm} {v : Value} (h : SkE S w l v) : ∃ a cap, v = .slice a l.length cap := by
  cases h with
  | nl => exact ⟨none, 0, rfl⟩
  | em a cap => exact ⟨_, cap, rfl⟩
  | row l b off cap vs cs _ _ _ _ _ _ => exact ⟨_, _, rfl⟩
theorem SkE.spd {S : Nat → Prop} {w w' : World} (hp : SpdE S w w') {l : List Tm} {v : Value} (h : SkE S w l v) : SkE S w' l v := by
  induction h with
  | nl => exact .nl
  | em a cap => exact .em a cap
  | row l b off cap vs cs hS hcs hlen hm hk hs ih =>
    obtain ⟨c, h1, h2, h3, h4⟩ := hp.same b hS cs hcs
    refine .row l b off cap vs c hS h1 hlen hm (fun i hi => ⟨h4 _ (hk i hi).1, h4 _ (hk i hi).2.1, (h3 _ fun x e => ?_).trans (hk i hi).2.2⟩) ih
    obtain ⟨a, cp, he⟩ := (hs i hi).shape
    rw [(hk i hi).2.2, he] at e
    cases e
/-- Where another set was spoiled. -/
theorem SkE.far {S T : Nat → Prop} {w w' : World} (hp : SpdE T w w') (hST : ∀ b, S b → ¬ T b) {l : List Tm} {v : Value} (h : SkE S w l v) : SkE S w' l v := by
  induction h with
  | nl => exact .nl
  | em a cap => exact .em a cap
  | row l b off cap vs cs hS hcs hlen hm hk hs ih => exact .row l b off cap vs cs hS ((hp.other b (Array.getElem?_eq_some_iff.1 hcs).1 (hST b hS)).trans hcs) hlen hm hk ih
theorem AtS.far {S T : Nat → Prop} {w w' : World} (hp : SpdE T w w') (hST : ∀ b, S b → ¬ T b) {l : List Tm} {v : Value} (h : AtS S w l v) : AtS S w' l v :=
  h.lt.same fun b hb => ⟨hb.1, hp.other b hb.2 (hST b hb.1)⟩
theorem SkE.pos {S : Nat → Prop} {w : World} {l : List Tm} {v : Value} (h : SkE S w l v) (hl : 0 < l.length) : ∃ (b off cap : Nat) (vs : Nat → Value) (cs : Array Value), v = .slice (some ⟨b, off, none⟩) l.length cap ∧ S b ∧ w.heap[b]? = some (.cells cs 24 (0, 0)) ∧
    (∀ i (_ : i < l.length), (∃ x : Int, cs[off + i * 3]? = some (Value.int .i64 x)) ∧ (∃ x : Int, cs[off + i * 3 + 1]? = some (Value.int .i64 x)) ∧ cs[off + i * 3 + 2]? = some (vs i)) ∧ ∀ i (h : i < l.length), SkE S w l[i].kids (vs i) := by
  cases h with
  | nl => simp at hl
  | em a cap => simp at hl
  | row l b off cap vs cs hS hcs hlen hm hk hs => exact ⟨b, off, cap, vs, cs, rfl, hS, hcs, hk, hs⟩

def SpEOk (S : Nat → Prop) (t : Tm) : Prop := size t ≤ 1048576 → ∀ (k n : Int) (w : World) (v : Value), (∀ b, S b → b < w.heap.size) → SkE S w t.kids v →
    Calls Try.prog 26 #[.agg #[.int .i64 k, .int .i64 n, v]] w fun e w' => (∃ r, e = .returned r) ∧ SpdE S w w'
set_option maxRecDepth 100000 in
set_option maxHeartbeats 2000000 in
theorem spoilE_any (S : Nat → Prop) : ∀ t : Tm, SpEOk S t := by
  refine tm_ind fun t ih => ?_
  intro hs k n w v hSw hK
  obtain ⟨a, cap, rfl⟩ := hK.shape
  have hlz := length_le_sizeL t.kids
  have hse := size_eq t
  have hbx := (boxc (World.alloc_heap_new w (.cells #[.int .i64 k, .int .i64 n, .slice a t.kids.length cap] 24))).1.2.2
  have h0 : SpdE S w (w.alloc (.cells #[.int .i64 k, .int .i64 n, .slice a t.kids.length cap] 24)) := SpdE.of hSw (below_al w _)
  have hz : (w.alloc (.cells #[.int .i64 k, .int .i64 n, .slice a t.kids.length cap] 24)).heap.size = w.heap.size + 1 := by simp
  go_enter Try.func26, Try.ntmps26
  go_wp2_with fail
  go_loopw [2] (fun i wr => ∃ j : Nat, j ≤ t.kids.length ∧ i = .int .i64 j ∧ SpdE S (w.alloc (.cells #[.int .i64 k, .int .i64 n, .slice a t.kids.length cap] 24)) wr) (fun i _ => t.kids.length - (RowKit.intOf i).toNat)
  case atStart => exact ⟨0, Nat.zero_le _, rfl, SpdE.refl _ _⟩
  case round =>
    obtain ⟨j, hj, rfl, hp⟩ := hrel
    have hw := h0.trans hp
    have hzr := hp.size
    have hbox : wr.cell? ⟨w.heap.size, 2, none⟩ = some (.slice a t.kids.length cap) := by
      rw [World.cell?_of_block (w := w.alloc _) (hp.other w.heap.size (by rw [hz]; omega) (fun h => Nat.lt_irrefl _ (hSw _ h)))]
      exact hbx
    by_cases hlt : j < t.kids.length
    · obtain ⟨b, off, cap', vs, cs, he, hSb, hcs, hk, hkids⟩ := (hK.spd hw).pos (by omega)
      obtain ⟨⟨x0, k0⟩, ⟨x, k1⟩, k2⟩ := hk j hlt
      obtain ⟨au, cu, hvu⟩ := (hkids j hlt).shape
      have hsk := hkids j hlt
      rw [hvu] at k2 hsk
      have c0 : wr.cell? ⟨b, off + j * 3, none⟩ = some (.int .i64 x0) := by simp [World.cell?, hcs, k0]
      have c1 : wr.cell? ⟨b, off + j * 3 + 1, none⟩ = some (.int .i64 x) := by simp [World.cell?, hcs, k1]
      have c2 : wr.cell? ⟨b, off + j * 3 + 2, none⟩ = some (.slice au t.kids[j].kids.length cu) := by simp [World.cell?, hcs, k2]
      have HC := Lib.hid (ih t.kids[j] (List.getElem_mem hlt) (by have := size_le_of_mem (List.getElem_mem hlt); omega) x0 x wr _ (fun b hb => Nat.lt_of_lt_of_le (hSw b hb) (by omega)) hsk)
      have HP := Lib.hid hp
      have HCS := Lib.hid hcs
      have HK1 := Lib.hid k1
      have HSB := Lib.hid hSb
      have HSW := Lib.hid hSw
      have HIH := Lib.hid ih
      have HKK := Lib.hid hK
      have HBX := Lib.hid hbox
      cases he
      clear hk hkids hsk hvu hcs k0 k1 k2 hp hw hSb ih hK hSw hbx
      have hlt0 : (0 : Int) ≤ (j : Int) := by omega
      have hlt1 : (j : Int) < (t.kids.length : Int) := by omega
      go_wp2_with fail
      refine HC.out.mono ?_
      rintro e w4 ⟨⟨r, rfl⟩, hp4⟩
      have hz4 := hp4.size
      obtain ⟨cs4, q1, q2, q3, q4⟩ := hp4.same b HSB.out _ HCS.out
      obtain ⟨x4, hx4⟩ := q4 (off + j * 3 + 1) ⟨x, HK1.out⟩
      have d1 : w4.cell? ⟨b, off + j * 3 + 1, none⟩ = some (.int .i64 x4) := by simp [World.cell?, q1, hx4]
      have d2 : w4.frozen? ⟨b, off + j * 3 + 1, none⟩ = false := by simp [World.frozen?, q1]
      have d3 : w4.cell? ⟨w.heap.size, 2, none⟩ = some (.slice (some ⟨b, off, none⟩) t.kids.length cap) := by
        rw [World.cell?_of_block (w := wr) (hp4.other w.heap.size (by omega) (fun h => Nat.lt_irrefl _ (HSW.out _ h)))]
        exact HBX.out
      have HP4 := Lib.hid (HP.out.trans hp4)
      have HQ1 := Lib.hid q1
      have HX4 := Lib.hid hx4
      have HD := Lib.hid (And.intro d1 d3)
      obtain ⟨y, hy⟩ : ∃ y, IntKind.i64.wrap (x4 + 77) = y := ⟨_, rfl⟩
      clear c0 c1 c2 hbox HC HP hp4 q1 q2 q3 q4 hx4
      go_wp2_with fail
      have HY := Lib.hid hy
      clear hy d1 d2 d3
      refine wp_region_rel_tail 12 (by kernel_rfl) (by kernel_rfl) (by kernel_rfl) ?_
      simp only [List.take_succ_cons, List.take_zero]
      simp only [List.drop_succ_cons, List.drop_zero]
      apply RelWalk.rest
      · kernel_rfl
      · intro X _ W hW hcl
        obtain ⟨d1, d3⟩ := HD.out
        have q1 := fun q => gcell (hW q) d1
        have q3 := fun q => gcell (hW q) d3
        have hy := HY.out
        clear d1 d3
        repeat (go_big_quiet_step (fail))
        exact wpQuiet_nil rfl
      intro gq w6 hg _
      simp only [Spread]
      have hb4 : b < w4.heap.size := (Array.getElem?_eq_some_iff.1 HQ1.out).1
      have hq6 := (hg.block b hb4).trans HQ1.out
      have d1 := gcell hg HD.out.1
      have d2 : w6.frozen? ⟨b, off + j * 3 + 1, none⟩ = false := by simp [World.frozen?, hq6]
      have HP6 := Lib.hid ((HP4.out.trans (SpdE.of (fun b hb => Nat.lt_of_lt_of_le (HSW.out b hb) (by omega)) hg)).trans (SpdE.set (i := off + j * 3 + 1) HSB.out hq6 HX4.out y))
      clear hg hq6
      go_wp2_with fail
      go_roundw
      case rel => exact ⟨j + 1, by omega, by go_num, HP6.out⟩
      case measure => simp [RowKit.intOf]; omega
    · obtain rfl : j = t.kids.length := by omega
      have hlt1 : decide ((t.kids.length : Int) < (t.kids.length : Int)) = false := by simp
      have HW := Lib.hid hw
      clear hw hp hK ih hSw hlt hj
      go_wp2_with fail
      go_end0
      exact ⟨⟨_, rfl⟩, HW.out⟩
set_option maxRecDepth 100000 in
set_option maxHeartbeats 2000000 in
theorem spoils_any (S : Nat → Prop) (l : List Tm) (hs : sizeL l ≤ 1048576) (w : World) (v : Value) (hSw : ∀ b, S b → b < w.heap.size) (hK : SkE S w l v) :
    Calls Try.prog 27 #[v] w fun e w' => (∃ r, e = .returned r) ∧ SpdE S w w' := by
  obtain ⟨a, cap, rfl⟩ := hK.shape
  have hlz := length_le_sizeL l
  go_enter Try.func27, Try.ntmps27
  go_wp2_with fail
  go_loopw [2] (fun i wr => ∃ j : Nat, j ≤ l.length ∧ i = .int .i64 j ∧ SpdE S w wr) (fun i _ => l.length - (RowKit.intOf i).toNat)
  case atStart => exact ⟨0, Nat.zero_le _, rfl, SpdE.refl _ _⟩
  case round =>
    obtain ⟨j, hj, rfl, hw⟩ := hrel
    have hzr := hw.size
    by_cases hlt : j < l.length
    · obtain ⟨b, off, cap', vs, cs, he, hSb, hcs, hk, hkids⟩ := (hK.spd hw).pos (by omega)
      obtain ⟨⟨x0, k0⟩, ⟨x, k1⟩, k2⟩ := hk j hlt
      obtain ⟨au, cu, hvu⟩ := (hkids j hlt).shape
      have hsk := hkids j hlt
      rw [hvu] at k2 hsk
      have c0 : wr.cell? ⟨b, off + j * 3, none⟩ = some (.int .i64 x0) := by simp [World.cell?, hcs, k0]
      have c1 : wr.cell? ⟨b, off + j * 3 + 1, none⟩ = some (.int .i64 x) := by simp [World.cell?, hcs, k1]
      have c2 : wr.cell? ⟨b, off + j * 3 + 2, none⟩ = some (.slice au l[j].kids.length cu) := by simp [World.cell?, hcs, k2]
      have HC := Lib.hid (spoilE_any S l[j] (by have := size_le_of_mem (List.getElem_mem hlt); omega) x0 x wr _ (fun b hb => Nat.lt_of_lt_of_le (hSw b hb) (by omega)) hsk)
      have HP := Lib.hid hw
      have HCS := Lib.hid hcs
      have HK0 := Lib.hid k0
      have HSB := Lib.hid hSb
      have HSW := Lib.hid hSw
      have HKK := Lib.hid hK
      cases he
      clear hk hkids hsk hvu hcs k0 k1 k2 hw hSb hK hSw
      have hlt0 : (0 : Int) ≤ (j : Int) := by omega
      have hlt1 : (j : Int) < (l.length : Int) := by omega
      go_wp2_with fail
      refine HC.out.mono ?_
      rintro e w4 ⟨⟨r, rfl⟩, hp4⟩
      obtain ⟨cs4, q1, q2, q3, q4⟩ := hp4.same b HSB.out _ HCS.out
      obtain ⟨x4, hx4⟩ := q4 (off + j * 3) ⟨x0, HK0.out⟩
      have d1 : w4.cell? ⟨b, off + j * 3, none⟩ = some (.int .i64 x4) := by simp [World.cell?, q1, hx4]
      have d2 : w4.frozen? ⟨b, off + j * 3, none⟩ = false := by simp [World.frozen?, q1]
      have HP6 := Lib.hid ((HP.out.trans hp4).trans (SpdE.set (i := off + j * 3) HSB.out q1 hx4 99))
      clear c0 c1 c2 HC HP hp4 q1 q2 q3 q4 hx4
      go_wp2_with fail
      go_roundw
      case rel => exact ⟨j + 1, by omega, by go_num, HP6.out⟩
      case measure => simp [RowKit.intOf]; omega
    · obtain rfl : j = l.length := by omega
      have hlt1 : decide ((l.length : Int) < (l.length : Int)) = false := by simp
      have HW := Lib.hid hw
      clear hw hK hSw hlt hj
      go_wp2_with fail
      go_end0
      exact ⟨⟨_, rfl⟩, HW.out⟩
end Go.Proofs.Ytblebboamopffaa
