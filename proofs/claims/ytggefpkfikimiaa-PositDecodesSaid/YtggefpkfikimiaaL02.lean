/- PositDecodes: the Go text returns true. No conditions. -/
import Derived.Test.YtggefpkfikimiaaL01
import Derived.Test.YtggefpkfikimiaaG39
namespace Go.Proofs.Ytggefpkfikimiaa
open Go.RowKit
set_option linter.unusedVariables false

def decCS : List Value := [.int .i64 0, .slice none 0 0, .slice none 0 0, .int .i64 3, .int .i64 900, .slice none 0 0]
def decRow (M : Nat) (j : Nat) (v : Value) (W : World) : Prop := W.ownsRow (M + 2) 35 6 v j ((List.range j).flatMap fun _ => decCS)
/-- The block under way: its sort, its box, j constructors. -/
def DecAt (w : World) (M j : Nat) (a : Option Addr) (c : Nat) (W : World) : Prop :=
  W.heap[M]? = some (.cells #[.slice none 0 0, .int .i64 1, .bool true, .int .i64 2, .int .i64 0, .slice none 0 0] 29 (0, 0)) ∧ W.heap[M + 1]? = some (.cells #[.slice (some ⟨M, 0, none⟩) 1 1, .slice a j c, .int .i64 0] 33 (0, 0)) ∧ decRow M j (.slice a j c) W ∧ M + 2 ≤ W.heap.size ∧ w.heap.size ≤ M ∧ Below w.heap.size w W
theorem DecAt.bel {w W W' : World} {M j : Nat} {a : Option Addr} {c : Nat} (h : DecAt w M j a c W) (hb : Below W.heap.size W W') : DecAt w M j a c W' := by
  obtain ⟨h1, h2, h3, h4, h5, h6⟩ := h
  exact ⟨(hb.block _ (by omega)).trans h1, (hb.block _ (by omega)).trans h2, ownsRow_same h3 fun b hb2 => hb.block b (h3.lt b hb2).2, Nat.le_trans h4 hb.size, h5, h6.trans (hb.mono h6.size)⟩
/-- The block under way, the first argument in its box, the domain's term in its. -/
def DecSt (w : World) (M n : Nat) (a : Option Addr) (c : Nat) (L F D : Nat) (r : Bool) (tk : Int) (t : Tm) (x : Option Addr) (cx : Nat) (W : World) : Prop :=
  DecAt w M n a c W ∧ (∀ b, (Value.slice a n c).ownBlock = some b → b < L) ∧ M + 2 ≤ L ∧ L ≤ F ∧ L ≤ D ∧ F ≠ D ∧ W.heap[F]? = some (.cells #[.bool r, .int .i64 tk, .int .i64 0, .slice none 0 0, .slice none 0 0, .int .i64 0, .slice none 0 0] 38 (0, 0)) ∧
   W.heap[D]? = some (.cells #[.int .i64 t.k, .int .i64 t.n, .slice x t.kids.length cx] 25 (0, 0)) ∧ AtS (fun b => L ≤ b ∧ b ≠ D ∧ b ≠ F) W t.kids (.slice x t.kids.length cx)
theorem DecSt.bel {w W W' : World} {M n : Nat} {a : Option Addr} {c L F D : Nat} {r : Bool} {tk : Int} {t : Tm} {x : Option Addr} {cx : Nat} (h : DecSt w M n a c L F D r tk t x cx W) (hb : Below W.heap.size W W') : DecSt w M n a c L F D r tk t x cx W' := by
  obtain ⟨h1, h2, h3, h4, h5, h6, h7, h8, h9⟩ := h
  exact ⟨h1.bel hb, h2, h3, h4, h5, h6, (hb.block _ (Array.getElem?_eq_some_iff.1 h7).1).trans h7, (hb.block _ (Array.getElem?_eq_some_iff.1 h8).1).trans h8, h9.bnd.same fun b hb2 => ⟨hb2.1, hb.block b hb2.2⟩⟩
/-- Another term is laid into the domain's box. -/
theorem DecSt.putD {w W : World} {M n : Nat} {a : Option Addr} {c L F D : Nat} {r : Bool} {tk : Int} {t : Tm} {x : Option Addr} {cx : Nat} (h : DecSt w M n a c L F D r tk t x cx W) (t' : Tm) (x' : Option Addr) (cx' : Nat) (hA : AtS (fun b => L ≤ b ∧ b ≠ D ∧ b ≠ F) W t'.kids (.slice x' t'.kids.length cx')) :
    DecSt w M n a c L F D r tk t' x' cx' (((W.setCell ⟨D, 0, none⟩ (.int .i64 t'.k)).setCell ⟨D, 1, none⟩ (.int .i64 t'.n)).setCell ⟨D, 2, none⟩ (.slice x' t'.kids.length cx')) := by
  obtain ⟨⟨d1, d2, d3, d4, d5, d6⟩, h2, h3, h4, h5, h6, h7, h8, h9⟩ := h
  have oth : ∀ b, b ≠ D → (((W.setCell ⟨D, 0, none⟩ (.int .i64 t'.k)).setCell ⟨D, 1, none⟩ (.int .i64 t'.n)).setCell ⟨D, 2, none⟩ (.slice x' t'.kids.length cx')).heap[b]? = W.heap[b]? := fun b hb => other_tb3 hb _ _ _
  exact ⟨⟨(oth _ (by omega)).trans d1, (oth _ (by omega)).trans d2, ownsRow_same d3 fun b hb => oth b (by have := h2 b hb; omega), by simpa using d4, d5, d6.trans (below_tb3 (by omega) _ _ _)⟩, h2, h3, h4, h5, h6, (oth _ h6).trans h7, box_tb3 h8 _ _ _, hA.same fun b hb => ⟨hb, oth b hb.2.1⟩⟩
theorem cells7a {W : World} {B : Nat} {ty : TypeId} {x0 x1 x2 x3 x4 x5 x6 : Value} (h : W.heap[B]? = some (.cells #[x0, x1, x2, x3, x4, x5, x6] ty (0, 0))) : (W.cell? ⟨B, 0, none⟩ = some x0 ∧ W.cell? ⟨B, 1, none⟩ = some x1 ∧ W.cell? ⟨B, 2, none⟩ = some x2 ∧ W.cell? ⟨B, 3, none⟩ = some x3 ∧ W.cell? ⟨B, 4, none⟩ = some x4 ∧ W.cell? ⟨B, 5, none⟩ = some x5 ∧ W.cell? ⟨B, 6, none⟩ = some x6) ∧ W.frozen? ⟨B, 0, none⟩ = false ∧ W.frozen? ⟨B, 1, none⟩ = false ∧ W.frozen? ⟨B, 2, none⟩ = false ∧ W.frozen? ⟨B, 3, none⟩ = false ∧ W.frozen? ⟨B, 4, none⟩ = false ∧ W.frozen? ⟨B, 5, none⟩ = false ∧ W.frozen? ⟨B, 6, none⟩ = false := by
  refine ⟨⟨?_, ?_, ?_, ?_, ?_, ?_, ?_⟩, ?_, ?_, ?_, ?_, ?_, ?_, ?_⟩ <;> simp [World.cell?, World.frozen?, h]
/-- The first argument is a plain one of type U 0. -/
theorem DecSt.putF {w W : World} {M n : Nat} {a : Option Addr} {c L F D : Nat} {r : Bool} {tk : Int} {t : Tm} {x : Option Addr} {cx : Nat} (h : DecSt w M n a c L F D r tk t x cx W) :
    DecSt w M n a c L F D false 2 t x cx (((((((W.setCell ⟨F, 0, none⟩ (.bool false)).setCell ⟨F, 1, none⟩ (.int .i64 2)).setCell ⟨F, 2, none⟩ (.int .i64 0)).setCell ⟨F, 3, none⟩ (.slice none 0 0)).setCell ⟨F, 4, none⟩ (.slice none 0 0)).setCell ⟨F, 5, none⟩ (.int .i64 0)).setCell ⟨F, 6, none⟩ (.slice none 0 0)) := by
  obtain ⟨⟨d1, d2, d3, d4, d5, d6⟩, h2, h3, h4, h5, h6, h7, h8, h9⟩ := h
  have oth : ∀ b, b ≠ F → (((((((W.setCell ⟨F, 0, none⟩ (.bool false)).setCell ⟨F, 1, none⟩ (.int .i64 2)).setCell ⟨F, 2, none⟩ (.int .i64 0)).setCell ⟨F, 3, none⟩ (.slice none 0 0)).setCell ⟨F, 4, none⟩ (.slice none 0 0)).setCell ⟨F, 5, none⟩ (.int .i64 0)).setCell ⟨F, 6, none⟩ (.slice none 0 0)).heap[b]? = W.heap[b]? := fun b hb => by
    rw [Below.heap_setCell _ _ _ _ hb, Below.heap_setCell _ _ _ _ hb, Below.heap_setCell _ _ _ _ hb, Below.heap_setCell _ _ _ _ hb, Below.heap_setCell _ _ _ _ hb, Below.heap_setCell _ _ _ _ hb, Below.heap_setCell _ _ _ _ hb]
  have hF0 : w.heap.size ≤ F := by omega
  have hbel : Below w.heap.size w (((((((W.setCell ⟨F, 0, none⟩ (.bool false)).setCell ⟨F, 1, none⟩ (.int .i64 2)).setCell ⟨F, 2, none⟩ (.int .i64 0)).setCell ⟨F, 3, none⟩ (.slice none 0 0)).setCell ⟨F, 4, none⟩ (.slice none 0 0)).setCell ⟨F, 5, none⟩ (.int .i64 0)).setCell ⟨F, 6, none⟩ (.slice none 0 0)) := ((((((d6.setCell (p := ⟨F, 0, none⟩) hF0 _).setCell (p := ⟨F, 1, none⟩) hF0 _).setCell (p := ⟨F, 2, none⟩) hF0 _).setCell (p := ⟨F, 3, none⟩) hF0 _).setCell (p := ⟨F, 4, none⟩) hF0 _).setCell (p := ⟨F, 5, none⟩) hF0 _).setCell (p := ⟨F, 6, none⟩) hF0 _
  have hbox : (((((((W.setCell ⟨F, 0, none⟩ (.bool false)).setCell ⟨F, 1, none⟩ (.int .i64 2)).setCell ⟨F, 2, none⟩ (.int .i64 0)).setCell ⟨F, 3, none⟩ (.slice none 0 0)).setCell ⟨F, 4, none⟩ (.slice none 0 0)).setCell ⟨F, 5, none⟩ (.int .i64 0)).setCell ⟨F, 6, none⟩ (.slice none 0 0)).heap[F]? = some (.cells #[.bool false, .int .i64 2, .int .i64 0, .slice none 0 0, .slice none 0 0, .int .i64 0, .slice none 0 0] 38 (0, 0)) := by
    rw [heap_setCell_same _ F 6 _ _ _ (heap_setCell_same _ F 5 _ _ _ (heap_setCell_same _ F 4 _ _ _ (heap_setCell_same _ F 3 _ _ _ (heap_setCell_same _ F 2 _ _ _ (heap_setCell_same _ F 1 _ _ _ (heap_setCell_same _ F 0 _ _ _ h7))))))]
    rfl
  exact ⟨⟨(oth _ (by omega)).trans d1, (oth _ (by omega)).trans d2, ownsRow_same d3 fun b hb => oth b (by have := h2 b hb; omega), by simpa using d4, d5, hbel⟩, h2, h3, h4, h5, h6, hbox, (oth _ (Ne.symm h6)).trans h8, h9.same fun b hb => ⟨hb, oth b hb.2.2⟩⟩
theorem mod6' (a : Int) : (IntKind.u64.wrap a).tmod 6 = 0 ∨ (IntKind.u64.wrap a).tmod 6 = 1 ∨ (IntKind.u64.wrap a).tmod 6 = 2 ∨ (IntKind.u64.wrap a).tmod 6 = 3 ∨ (IntKind.u64.wrap a).tmod 6 = 4 ∨ (IntKind.u64.wrap a).tmod 6 = 5 := by
  have hu := u64_nonneg' a
  rw [Int.tmod_eq_emod_of_nonneg hu]
  omega
theorem mod5 (a : Int) : ∃ n : Nat, n < 5 ∧ wrap64 ((IntKind.u64.wrap a).tmod 5) = (n : Int) := by
  have h := mod_range a 5 (by omega) (by omega)
  exact ⟨(wrap64 ((IntKind.u64.wrap a).tmod 5)).toNat, by omega, by omega⟩
set_option maxRecDepth 100000 in
set_option maxHeartbeats 4000000 in
theorem lpdecodes_any (codes how : Int) (w : World) :
    Calls Try.prog 3 #[.int .i64 codes, .int .i64 how] w fun e w' => e = .returned (.bool true) ∧ Below w.heap.size w w' := by
  obtain ⟨n, hn5, hn⟩ := mod5 codes
  go_enter Try.func3, Try.ntmps3
  go_upto_region 2 with (fail)
  rw [hn]
  clear hn
  go_wp2_with fail
  refine (u_any 0 _).mono ?_
  rintro e w1 ⟨rfl, hb1⟩
  obtain ⟨w2, hw2⟩ : ∃ w2, w2 = w1.alloc (.cells #[.slice none 0 0, .int .i64 1, .bool true, .int .i64 2, .int .i64 0, .slice none 0 0] 29) := ⟨_, rfl⟩
  obtain ⟨w3, hw3⟩ : ∃ w3, w3 = w2.alloc (.cells #[.slice (some ⟨w1.heap.size, 0, none⟩) 1 1, .slice none 0 0, .int .i64 0] 33) := ⟨_, rfl⟩
  have hz2 : w2.heap.size = w1.heap.size + 1 := by rw [hw2]; simp
  have hz3 : w3.heap.size = w1.heap.size + 2 := by rw [hw3]; simp; omega
  have hb2 : Below w1.heap.size w1 w2 := by rw [hw2]; exact below_al _ _
  have hb3 : Below w2.heap.size w2 w3 := by rw [hw3]; exact below_al _ _
  have hX2 : w2.heap[w1.heap.size]? = some (.cells #[.slice none 0 0, .int .i64 1, .bool true, .int .i64 2, .int .i64 0, .slice none 0 0] 29 (0, 0)) := by rw [hw2]; exact World.alloc_heap_new w1 _
  have hX3 : w3.heap[w1.heap.size + 1]? = some (.cells #[.slice (some ⟨w1.heap.size, 0, none⟩) 1 1, .slice none 0 0, .int .i64 0] 33 (0, 0)) := by rw [hw3, ← hz2]; exact World.alloc_heap_new w2 _
  have D3 : Hid (DecAt w w1.heap.size 0 none 0 w3) := ⟨(hb3.block _ (by omega)).trans hX2, hX3, World.ownsRow_nil _ _ _ _, by omega, hb1.size, hb1.trans ((hb2.trans (hb3.mono hb2.size)).mono hb1.size)⟩
  have HW : Hid (w3 = (w1.alloc (.cells #[.slice none 0 0, .int .i64 1, .bool true, .int .i64 2, .int .i64 0, .slice none 0 0] 29)).alloc (.cells #[.slice (some ⟨w1.heap.size, 0, none⟩) 1 1, .slice none 0 0, .int .i64 0] 33)) := by unfold Hid; rw [hw3, hw2]
  clear hw2 hw3 hz2 hz3 hb1 hb2 hb3 hX2 hX3
  go_upto_region 3 with (fail)
  rw [← HW.out]
  clear HW
  generalize w1.heap.size = M at *
  go_wp2_with fail
  go_loopw [6] (fun i wr => ∃ (j : Nat) (a : Option Addr) (c : Nat), i = .int .i64 j ∧ j ≤ n ∧ DecAt w M j a c wr) (fun i _ => n - (RowKit.intOf i).toNat)
  case atStart => exact ⟨0, none, 0, rfl, Nat.zero_le _, D3.out⟩
  case round =>
    clear D3
    obtain ⟨j, a, c, rfl, hj, hD⟩ := hrel
    by_cases hlt : j < n
    · have hj1 : (j : Int) < (n : Int) := by omega
      have hw1 : IntKind.i64.wrap ((j : Int) + 1) = ((j + 1 : Nat) : Int) := by rw [IntWalk.i64_in _ (by omega)]; omega
      have hm1 : j + 1 ≤ maxLen := by unfold maxLen; omega
      have hm2 : (j + 1) * 96 ≤ 140737488355328 := by omega
      obtain ⟨i0, hi, hy0, hy1, hy2⟩ := info_parts Try.infoCn
      have DJ := Lib.hid hD
      have HC := Lib.hid (fun W => c3_any 900 W)
      clear hD
      go_wp2_with fail
      refine wp_region_rel_tail 5 (by kernel_rfl) (by kernel_rfl) (by kernel_rfl) ?_
      simp only [List.take_succ_cons, List.take_zero]
      simp only [List.drop_succ_cons, List.drop_zero]
      apply RelWalk.next 4
      · kernel_rfl
      · intro X0 _ W hW hcl
        simp only [List.take_succ_cons, List.take_zero]
        obtain ⟨⟨z0, z1, z2⟩, _⟩ := boxc DJ.out.2.1
        have r0 := fun q => gcell (hW q) z0
        have r1 := fun q => gcell (hW q) z1
        have r2 := fun q => gcell (hW q) z2
        have dC := Lib.hid (fun q => into hcl (HC.out (W q)))
        clear z0 z1 z2
        repeat (go_big_quiet_step (with_reducible exact dC.out _))
        exact wpQuiet_nil rfl
      simp only [List.drop_succ_cons, List.drop_zero]
      refine RelWalk.made0 (fun v s e W => v = .slice (some ⟨s, 0, none⟩) 1 1 ∧ W.heap[s]? = some (.cells #[.int .i64 0, .slice none 0 0, .slice none 0 0, .int .i64 3, .int .i64 900, .slice none 0 0] 35 (0, 0)) ∧ s < W.heap.size) rfl (by kernel_rfl) (by kernel_rfl) rfl (fun v s e W W' hg h => ⟨h.1, (hg.block s h.2.2).trans h.2.1, Nat.lt_of_lt_of_le h.2.2 hg.size⟩) (fun w2 hg => ?_) ?_
      · go_simp
        exact ⟨below_al w2 _, rfl, World.alloc_heap_new w2 _, by simp⟩
      simp only [Act.put, List.setIfInBounds_toArray, List.set_cons_zero, List.set_cons_succ]
      refine .done fun g w2 hg hpt => ?_
      simp only [Spread]
      rintro v30 ⟨rfl, hn6, hs6⟩
      simp only [Act.put, List.setIfInBounds_toArray, List.set_cons_zero, List.set_cons_succ]
      obtain ⟨s6, h6⟩ : ∃ s, (g 30).1 = s := ⟨_, rfl⟩
      rw [h6] at hs6 hn6 ⊢
      have D2 := Lib.hid (DJ.out.bel hg)
      clear hpt h6 hg DJ
      have HN6 := Lib.hid hn6
      have hM2 := D2.out.2.2.2.1
      have HS7 : Hid (∀ w7, w2.grownBy w7 (Value.slice a j c).ownBlock → w7.heap[M + 1]? = some (.cells #[.slice (some ⟨M, 0, none⟩) 1 1, .slice a j c, .int .i64 0] 33 (0, 0))) := fun w7 hg7 =>
        (hg7.block _ (by omega) (fun e => by have := (D2.out.2.2.1.lt _ e.symm).1; omega)).trans D2.out.2.1
      clear hn6
      obtain ⟨⟨x0, x1, x2⟩, _⟩ := boxc D2.out.2.1
      go_wp2_with (at_builtin; refine wpList_append_lies _ rfl (.tmp 27) (.tmp 30) 31 rfl (M + 2) 35 i0 _ 6 96 Try.underlying31 hi hy0 hy1 hy2 rfl (by decide) (.slice a j c) j _ rfl D2.out.2.2.1 ⟨s6, 0, none⟩ 1 1 [.int .i64 0, .slice none 0 0, .slice none 0 0, .int .i64 3, .int .i64 900, .slice none 0 0] rfl rfl (by have := World.news_of_block HN6.out; simpa using this) (by simp [Value.oneCell']) (by decide) hm1 hm2 (by omega) w2.heap.size rfl ?_; intro g7 cp w7 hown7 hgrow7 hat7 hlt7; obtain ⟨⟨p0, p1', p2'⟩, p3', p4, p5⟩ := boxc (HS7.out _ hgrow7))
      go_roundw
      case rel =>
        refine ⟨j + 1, some ⟨g7, 0, none⟩, cp, by go_num, hlt, ?_⟩
        have hsz7 := hgrow7.size
        have hno : ∀ b, b < M + 2 → some b ≠ (Value.slice a j c).ownBlock := fun b hb e => by have := (D2.out.2.2.1.lt b e.symm).1; omega
        have hbel : Below w.heap.size w (w7.setCell ⟨M + 1, 1, none⟩ (.slice (some ⟨g7, 0, none⟩) (j + 1) cp)) :=
          (D2.out.2.2.2.2.2.trans ((Below.refl w.heap.size w2).grown hgrow7 (by have := D2.out.2.2.2.2.1; omega) (fun k hk => by have := (D2.out.2.2.1.lt k hk).1; have := D2.out.2.2.2.2.1; omega))).trans (below_tb1 (by have := D2.out.2.2.2.2.1; omega) _)
        have hrow : decRow M (j + 1) (.slice (some ⟨g7, 0, none⟩) (j + 1) cp) w7 := by
          unfold decRow
          rw [List.range_succ, List.flatMap_append]
          simpa [decCS] using hown7
        refine ⟨(other_tb1 (by omega) _).trans ((hgrow7.block M (by omega) (hno M (by omega))).trans D2.out.1), box_tb1 (HS7.out _ hgrow7) _, ownsRow_same hrow fun b hb => other_tb1 (by have := (hrow.lt b hb).1; omega) _, by simp; omega, D2.out.2.2.2.2.1, hbel⟩
      case measure => simp [RowKit.intOf]; omega
    · obtain rfl : j = n := by omega
      have DN := Lib.hid hD
      have hLo : ∀ b, (Value.slice a j c).ownBlock = some b → b < wr.heap.size := fun b hb => (hD.2.2.1.lt b hb).2
      have hL2 : M + 2 ≤ wr.heap.size := hD.2.2.2.1
      have HLO := Lib.hid (And.intro hLo hL2)
      clear hD hlt hj hLo hL2
      go_wp2_with fail
      refine (c3_any 11 _).mono ?_
      rintro e w4 ⟨rfl, hb4⟩
      have D4 := Lib.hid (DN.out.bel hb4)
      have hs4 := hb4.size
      clear hb4 DN
      generalize wr.heap.size = L at *
      have hb5 := below_al w4 (.cells #[.int .i64 3, .int .i64 11, .slice none 0 0] 25)
      have hn5' := World.alloc_heap_new w4 (.cells #[.int .i64 3, .int .i64 11, .slice none 0 0] 25)
      obtain ⟨w5, hw5⟩ : ∃ w5, w5 = w4.alloc (.cells #[.int .i64 3, .int .i64 11, .slice none 0 0] 25) := ⟨_, rfl⟩
      have hz5 : w5.heap.size = w4.heap.size + 1 := by rw [hw5]; simp
      rw [← hw5] at hb5 hn5'
      have hb6 := below_al w5 (.cells #[.bool true, .int .i64 0, .int .i64 0, .slice none 0 0, .slice none 0 0, .int .i64 0, .slice none 0 0] 38)
      have hn6 := World.alloc_heap_new w5 (.cells #[.bool true, .int .i64 0, .int .i64 0, .slice none 0 0, .slice none 0 0, .int .i64 0, .slice none 0 0] 38)
      obtain ⟨w6, hw6⟩ : ∃ w6, w6 = w5.alloc (.cells #[.bool true, .int .i64 0, .int .i64 0, .slice none 0 0, .slice none 0 0, .int .i64 0, .slice none 0 0] 38) := ⟨_, rfl⟩
      rw [← hw6] at hb6 hn6
      have HW5 := Lib.hid hw5
      have HW6 := Lib.hid hw6
      have D6 := Lib.hid ((D4.out.bel hb5).bel hb6)
      have E6 := Lib.hid ((hb6.block _ (by omega)).trans hn5')
      have F6 := Lib.hid hn6
      have hs6 : w6.heap.size = w5.heap.size + 1 := by rw [hw6]; simp
      rw [hz5] at F6
      clear hw5 hw6 hb5 hn5' hb6 hn6 D4
      go_upto_region 8 with (fail)
      rw [← HW5.out]
      go_upto_region 10 with (fail)
      rw [← HW6.out]
      have hz5' := Lib.hid hz5
      generalize w4.heap.size = E at *
      obtain ⟨⟨x0, x1, x2⟩, _⟩ := boxc E6.out
      have HV := Lib.hid (fun W => v_any 0 W)
      clear HW5 HW6
      go_wp2_with fail
      clear x0 x1 x2
      refine wp_region_rel_tail 6 (by kernel_rfl) (by kernel_rfl) (by kernel_rfl) ?_
      simp only [List.take_succ_cons, List.take_zero]
      simp only [List.drop_succ_cons, List.drop_zero]
      apply RelWalk.next 4
      · kernel_rfl
      · intro X0 _ W hW hcl
        simp only [List.take_succ_cons, List.take_zero]
        obtain ⟨⟨z0, z1, z2⟩, _⟩ := boxc E6.out
        have r0 := fun q => gcell (hW q) z0
        have r1 := fun q => gcell (hW q) z1
        have r2 := fun q => gcell (hW q) z2
        have dV := Lib.hid (fun q => into hcl (HV.out (W q)))
        clear z0 z1 z2
        repeat (go_big_quiet_step (with_reducible exact dV.out _))
        exact wpQuiet_nil rfl
      simp only [List.drop_succ_cons, List.drop_zero]
      refine RelWalk.made0 (fun v s e W => ∃ x c, v = .agg #[.int .i64 6, .int .i64 0, .slice x 2 c] ∧ AtS (fun b => s ≤ b ∧ b < e) W [c11T, var0T] (.slice x 2 c) ∧ w6.heap.size ≤ s ∧ e ≤ W.heap.size) rfl (by kernel_rfl) (by kernel_rfl) rfl (fun v s e W W' hg ⟨x, c, h1, h2, h3, h4⟩ => ⟨x, c, h1, h2.same fun b hb => ⟨hb, hg.block b (by omega)⟩, h3, Nat.le_trans h4 hg.size⟩) (fun w2 hg => ?_) ?_
      · have hz := hg.size
        have hc := Lib.hid (maker_any (fun _ => False) 6 c11T var0T w2 (.slice none 0 0) (.slice none 0 0) (fun b hb => hb.elim) .nl .nl)
        go_simp
        exact rel_enter (hc.out.mono fun e w3 ⟨x3, c3, he, hA3, hb3⟩ => ⟨_, he, hb3, x3, c3, rfl, hA3.same fun b hb => ⟨hb.resolve_left id, rfl⟩, by omega, Nat.le_refl _⟩)
      simp only [Act.put, List.setIfInBounds_toArray, List.set_cons_zero, List.set_cons_succ]
      refine RelWalk.made0 (fun v s e W => v = .pointer (some ⟨s, 0, none⟩) ∧ W.heap[s]? = some (.cells #[.int .i64 0, .int .i64 0, .slice none 0 0] 25 (0, 0)) ∧ s < e ∧ s < W.heap.size ∧ w6.heap.size ≤ s) rfl (by kernel_rfl) (by kernel_rfl) rfl (fun v s e W W' hg h => ⟨h.1, (hg.block s h.2.2.2.1).trans h.2.1, h.2.2.1, Nat.lt_of_lt_of_le h.2.2.2.1 hg.size, h.2.2.2.2⟩) (fun w2 hg => ?_) ?_
      · have hz := hg.size
        go_simp
        exact ⟨below_al w2 _, rfl, World.alloc_heap_new w2 _, by simp, by simp, by omega⟩
      simp only [Act.put, List.setIfInBounds_toArray, List.set_cons_zero, List.set_cons_succ]
      refine .done fun g w7 hg hpt => ?_
      simp only [Spread]
      rintro v12 ⟨rfl, hbx, hse, hlt12, hge12⟩ v39 ⟨x7, c7, rfl, hA7, hge7, hle7⟩
      simp only [Act.put, List.setIfInBounds_toArray, List.set_cons_zero, List.set_cons_succ]
      have hpp := hpt.2 12 (List.mem_of_elem_eq_true (by kernel_rfl)) 39 (List.mem_of_elem_eq_true (by kernel_rfl)) (by decide)
      have hne : ∀ b, (g 39).1 ≤ b ∧ b < (g 39).2 → b ≠ (g 12).1 := fun b hb e => by omega
      have hA8 : AtS (fun b => L ≤ b ∧ b ≠ (g 12).1 ∧ b ≠ E + 1) w7 [c11T, var0T] (.slice x7 2 c7) := hA7.same fun b hb => ⟨⟨by omega, hne b hb, by omega⟩, rfl⟩
      obtain ⟨P, hP⟩ : ∃ s, (g 12).1 = s := ⟨_, rfl⟩
      rw [hP] at hbx hlt12 hge12 hA8 ⊢
      clear hpp hpt hse hne hA7 hge7 hle7 hP
      have hz6 := hg.size
      have D7 := Lib.hid (D6.out.bel hg)
      have E7 := Lib.hid ((hg.block _ (by omega)).trans E6.out)
      have F7 := Lib.hid ((hg.block _ (by omega)).trans F6.out)
      have HA8 := Lib.hid hA8
      have HBX := Lib.hid hbx
      obtain ⟨⟨y0, y1, y2⟩, f0, f1, f2⟩ := boxc hbx
      clear hg hA8 hbx D6 E6 F6
      go_upto_region 12 with (fail)
      obtain ⟨w8, hw8⟩ : ∃ w8, w8 = ((w7.setCell ⟨P, 0, none⟩ (.int .i64 6)).setCell ⟨P, 1, none⟩ (.int .i64 0)).setCell ⟨P, 2, none⟩ (.slice x7 2 c7) := ⟨_, rfl⟩
      have hz8 : w8.heap.size = w7.heap.size := by rw [hw8]; simp
      have oth : ∀ b, b ≠ P → w8.heap[b]? = w7.heap[b]? := fun b hb => by rw [hw8]; exact other_tb3 hb _ _ _
      have hbx8 : w8.heap[P]? = some (.cells #[.int .i64 6, .int .i64 0, .slice x7 2 c7] 25 (0, 0)) := by rw [hw8]; exact box_tb3 HBX.out _ _ _
      have hM2 := D7.out.2.2.2.2.1
      have hb8 : Below w.heap.size w w8 := by rw [hw8]; exact D7.out.2.2.2.2.2.trans (below_tb3 (by have := HLO.out.2; omega) _ _ _)
      have hL2 := HLO.out.2
      have S8 : Hid (DecSt w M j a c L (E + 1) P true 0 (appT c11T var0T) x7 c7 w8) := ⟨⟨(oth _ (by omega)).trans D7.out.1, (oth _ (by omega)).trans D7.out.2.1, ownsRow_same D7.out.2.2.1 fun b hb => oth b (by have := HLO.out.1 b hb; omega), by rw [hz8]; exact D7.out.2.2.2.1, hM2, hb8⟩, HLO.out.1, hL2, by omega, by omega, by omega, (oth _ (by omega)).trans F7.out, hbx8, HA8.out.same fun b hb => ⟨hb, oth b hb.2.1⟩⟩
      have E8 : Hid (w8.heap[E]? = some (.cells #[.int .i64 3, .int .i64 11, .slice none 0 0] 25 (0, 0))) := (oth _ (by omega)).trans E7.out
      rw [← hw8]
      clear hw8 oth hbx8 hb8 D7 E7 F7 HA8 HBX y0 y1 y2 f0 f1 f2 hlt12 hge12 hz6 hs6 hz8 hz5 hz5' HLO hM2 hL2
      have hm6 := mod6' how
      go_upto_region 14 with (fail)
      generalize (IntKind.u64.wrap how).tmod 6 = mm at *
      rcases hm6 with rfl | rfl | rfl | rfl | rfl | rfl
      · go_upto_region 25 with (fail)
        have S9 := Lib.hid S8.out
        clear S8
        generalize w8 = w9 at *
        have S11 : Hid (DecSt w M j a c L (E + 1) P true 0 (appT c11T var0T) x7 c7 w9) := S9.out
        obtain ⟨w10, hw10⟩ : ∃ w10, w10 = w9 := ⟨_, rfl⟩
        rw [← hw10] at S11 ⊢
        clear S9 hw10
        have HDX : Hid (w10.heap[P]? = some (.cells #[.int .i64 6, .int .i64 0, .slice x7 2 c7] 25 (0, 0))) := S11.out.2.2.2.2.2.2.2.1
        have HU1 := Lib.hid (fun W => u_any 0 W)
        have hm1 : j + 1 ≤ maxLen := by unfold maxLen; omega
        have hm2 : (j + 1) * 96 ≤ 140737488355328 := by omega
        obtain ⟨i0, hi, hy0, hy1, hy2⟩ := info_parts Try.infoCn
        refine wp_region_rel_tail 10 (by kernel_rfl) (by kernel_rfl) (by kernel_rfl) ?_
        simp only [List.take_succ_cons, List.take_zero]
        simp only [List.drop_succ_cons, List.drop_zero]
        apply RelWalk.next 4
        · kernel_rfl
        · intro X0 _ W hW hcl
          simp only [List.take_succ_cons, List.take_zero]
          obtain ⟨⟨z0, z1, z2⟩, _⟩ := boxc S11.out.1.2.1
          obtain ⟨⟨y0, y1, y2, y3, y4, y5, y6⟩, _⟩ := cells7a S11.out.2.2.2.2.2.2.1
          obtain ⟨⟨x0, x1, x2⟩, _⟩ := boxc HDX.out
          have q0 := fun q => gcell (hW q) z0
          have q1 := fun q => gcell (hW q) z1
          have q2 := fun q => gcell (hW q) z2
          have r0 := fun q => gcell (hW q) y0
          have r1 := fun q => gcell (hW q) y1
          have r2 := fun q => gcell (hW q) y2
          have r3 := fun q => gcell (hW q) y3
          have r4 := fun q => gcell (hW q) y4
          have r5 := fun q => gcell (hW q) y5
          have r6 := fun q => gcell (hW q) y6
          have p0 := fun q => gcell (hW q) x0
          have p1 := fun q => gcell (hW q) x1
          have p2 := fun q => gcell (hW q) x2
          clear x0 x1 x2 y0 y1 y2 y3 y4 y5 y6 z0 z1 z2
          repeat (go_big_quiet_step (fail))
          exact wpQuiet_nil rfl
        simp only [List.drop_succ_cons, List.drop_zero]
        refine RelWalk.made0 (fun v s e W => v = .slice (some ⟨s, 0, none⟩) 1 1 ∧ (W.heap[s]? = some (.cells #[.int .i64 6, .int .i64 0, .slice x7 2 c7] 25 (0, 0)) ∧ s < W.heap.size ∧ w10.heap.size ≤ s)) rfl (by kernel_rfl) (by kernel_rfl) rfl (fun v s e W W' hg h => ⟨h.1, (hg.block s h.2.2.1).trans h.2.1, Nat.lt_of_lt_of_le h.2.2.1 hg.size, h.2.2.2⟩) (fun w2 hg => ?_) ?_
        · have hz := hg.size
          go_simp
          exact ⟨below_al w2 _, rfl, World.alloc_heap_new w2 _, by simp, hz⟩
        simp only [Act.put, List.setIfInBounds_toArray, List.set_cons_zero, List.set_cons_succ]
        refine RelWalk.made1 (fun v s e W => ∃ q, v = .agg #[.bool true, .int .i64 0, .int .i64 0, .slice none 0 0, .slice (some ⟨q, 0, none⟩) 1 1, .int .i64 0, .slice none 0 0] ∧ (W.heap[q]? = some (.cells #[.int .i64 6, .int .i64 0, .slice x7 2 c7] 25 (0, 0)) ∧ q < W.heap.size ∧ w10.heap.size ≤ q)) rfl (by kernel_rfl) (by kernel_rfl) rfl (fun v s e W W' hg ⟨q, h1, h2, h3, h4⟩ => ⟨q, h1, (hg.block q h3).trans h2, Nat.lt_of_lt_of_le h3 hg.size, h4⟩) (fun g w2 hg v1 hv1 => ?_) ?_
        · obtain ⟨rfl, h2⟩ := hv1
          have H2 := Lib.hid h2
          clear h2
          go_simp
          exact ⟨Grw.rfl w2, _, rfl, H2.out⟩
        simp only [Act.put, List.setIfInBounds_toArray, List.set_cons_zero, List.set_cons_succ]
        refine RelWalk.made1 (fun v s e W => ∃ q, v = .slice (some ⟨s, 0, none⟩) 2 2 ∧ (W.heap[s]? = some (.cells #[.bool true, .int .i64 0, .int .i64 0, .slice none 0 0, .slice none 0 0, .int .i64 0, .slice none 0 0, .bool true, .int .i64 0, .int .i64 0, .slice none 0 0, .slice (some ⟨q, 0, none⟩) 1 1, .int .i64 0, .slice none 0 0] 38 (0, 0)) ∧ s < W.heap.size ∧ w10.heap.size ≤ s) ∧ (W.heap[q]? = some (.cells #[.int .i64 6, .int .i64 0, .slice x7 2 c7] 25 (0, 0)) ∧ q < W.heap.size ∧ w10.heap.size ≤ q)) rfl (by kernel_rfl) (by kernel_rfl) rfl (fun v s e W W' hg ⟨q, h1, h2, h3⟩ => ⟨q, h1, ⟨(hg.block s h2.2.1).trans h2.1, Nat.lt_of_lt_of_le h2.2.1 hg.size, h2.2.2⟩, (hg.block q h3.2.1).trans h3.1, Nat.lt_of_lt_of_le h3.2.1 hg.size, h3.2.2⟩) (fun g w2 hg v1 hv1 => ?_) ?_
        · obtain ⟨q, rfl, h2⟩ := hv1
          have H2 := Lib.hid h2
          have hz := hg.size
          clear h2
          go_simp
          exact ⟨below_al w2 _, rfl, q, ⟨World.alloc_heap_new w2 _, by simp, hz⟩, ((below_al w2 _).block q H2.out.2.1).trans H2.out.1, Nat.lt_of_lt_of_le H2.out.2.1 (below_al w2 _).size, H2.out.2.2⟩
        simp only [Act.put, List.setIfInBounds_toArray, List.set_cons_zero, List.set_cons_succ]
        apply RelWalk.next 1
        · kernel_rfl
        · intro X0 _ W hW hcl
          simp only [List.take_succ_cons, List.take_zero]
          have dU := Lib.hid (fun q => into hcl (HU1.out (W q)))
          repeat (go_big_quiet_step (with_reducible exact dU.out _))
          exact wpQuiet_nil rfl
        simp only [List.drop_succ_cons, List.drop_zero]
        refine RelWalk.made1 (fun v s e W => ∃ p q, v = .agg #[.int .i64 0, .slice (some ⟨p, 0, none⟩) 2 2, .slice none 0 0, .int .i64 2, .int .i64 0, .slice none 0 0] ∧ (W.heap[p]? = some (.cells #[.bool true, .int .i64 0, .int .i64 0, .slice none 0 0, .slice none 0 0, .int .i64 0, .slice none 0 0, .bool true, .int .i64 0, .int .i64 0, .slice none 0 0, .slice (some ⟨q, 0, none⟩) 1 1, .int .i64 0, .slice none 0 0] 38 (0, 0)) ∧ p < W.heap.size ∧ w10.heap.size ≤ p) ∧ (W.heap[q]? = some (.cells #[.int .i64 6, .int .i64 0, .slice x7 2 c7] 25 (0, 0)) ∧ q < W.heap.size ∧ w10.heap.size ≤ q)) rfl (by kernel_rfl) (by kernel_rfl) rfl (fun v s e W W' hg ⟨p, q, h1, h2, h3⟩ => ⟨p, q, h1, ⟨(hg.block p h2.2.1).trans h2.1, Nat.lt_of_lt_of_le h2.2.1 hg.size, h2.2.2⟩, (hg.block q h3.2.1).trans h3.1, Nat.lt_of_lt_of_le h3.2.1 hg.size, h3.2.2⟩) (fun g w2 hg v1 hv1 => ?_) ?_
        · obtain ⟨q, rfl, h2⟩ := hv1
          have H2 := Lib.hid h2
          clear h2
          go_simp
          exact ⟨Grw.rfl w2, _, rfl, q, H2.out⟩
        simp only [Act.put, List.setIfInBounds_toArray, List.set_cons_zero, List.set_cons_succ]
        refine RelWalk.made1 (fun v s e W => ∃ p q, v = .slice (some ⟨s, 0, none⟩) 1 1 ∧ (W.heap[s]? = some (.cells #[.int .i64 0, .slice (some ⟨p, 0, none⟩) 2 2, .slice none 0 0, .int .i64 2, .int .i64 0, .slice none 0 0] 35 (0, 0)) ∧ s < W.heap.size ∧ w10.heap.size ≤ s) ∧ (W.heap[p]? = some (.cells #[.bool true, .int .i64 0, .int .i64 0, .slice none 0 0, .slice none 0 0, .int .i64 0, .slice none 0 0, .bool true, .int .i64 0, .int .i64 0, .slice none 0 0, .slice (some ⟨q, 0, none⟩) 1 1, .int .i64 0, .slice none 0 0] 38 (0, 0)) ∧ p < W.heap.size ∧ w10.heap.size ≤ p) ∧ (W.heap[q]? = some (.cells #[.int .i64 6, .int .i64 0, .slice x7 2 c7] 25 (0, 0)) ∧ q < W.heap.size ∧ w10.heap.size ≤ q)) rfl (by kernel_rfl) (by kernel_rfl) rfl (fun v s e W W' hg ⟨p, q, h1, h4, h2, h3⟩ => ⟨p, q, h1, ⟨(hg.block s h4.2.1).trans h4.1, Nat.lt_of_lt_of_le h4.2.1 hg.size, h4.2.2⟩, ⟨(hg.block p h2.2.1).trans h2.1, Nat.lt_of_lt_of_le h2.2.1 hg.size, h2.2.2⟩, (hg.block q h3.2.1).trans h3.1, Nat.lt_of_lt_of_le h3.2.1 hg.size, h3.2.2⟩) (fun g w2 hg v1 hv1 => ?_) ?_
        · obtain ⟨p, q, rfl, h2, h3⟩ := hv1
          have H2 := Lib.hid h2
          have H3 := Lib.hid h3
          have hz := hg.size
          clear h2 h3
          go_simp
          exact ⟨below_al w2 _, rfl, p, ⟨World.alloc_heap_new w2 _, by simp, hz⟩, q, ⟨((below_al w2 _).block p H2.out.2.1).trans H2.out.1, Nat.lt_of_lt_of_le H2.out.2.1 (below_al w2 _).size, H2.out.2.2⟩, ((below_al w2 _).block q H3.out.2.1).trans H3.out.1, Nat.lt_of_lt_of_le H3.out.2.1 (below_al w2 _).size, H3.out.2.2⟩
        simp only [Act.put, List.setIfInBounds_toArray, List.set_cons_zero, List.set_cons_succ]
        refine .done fun g w11 hg hpt => ?_
        simp only [Spread]
        rintro v79 ⟨s5, s6, rfl, hCB, hAB, hTB⟩ v78 _ v76 _ v75 _ v74 _
        simp only [Act.put, List.setIfInBounds_toArray, List.set_cons_zero, List.set_cons_succ]
        obtain ⟨p79, hp79⟩ : ∃ s, (g 79).1 = s := ⟨_, rfl⟩
        rw [hp79] at hCB ⊢
        clear hpt hp79
        have S12 := Lib.hid (S11.out.bel hg)
        have HTX : Hid (AtS (fun b => L ≤ b ∧ b ≠ P ∧ b ≠ E + 1) w11 [(decDom 0)] (.slice (some ⟨s6, 0, none⟩) 1 1)) := by
          refine (AtS.row [(decDom 0)] s6 0 1 (fun _ => .slice x7 2 c7) (fun _ => ?_) (by decide) (by decide) (fun i hi => ?_) (fun i hi => ?_) (fun i hi => ?_) (fun i hi => ?_))
          · have h1 := (Array.getElem?_eq_some_iff.1 HDX.out).1
            have h2 := S11.out.2.2.2.2.1
            have h3 := (Array.getElem?_eq_some_iff.1 S11.out.2.2.2.2.2.2.1).1
            have h4 := hTB.2.2
            exact ⟨by omega, by omega, by omega⟩
          · obtain rfl : i = 0 := by simpa using hi
            simp [World.cell?, hTB.1]; rfl
          · obtain rfl : i = 0 := by simpa using hi
            simp [World.cell?, hTB.1]; rfl
          · obtain rfl : i = 0 := by simpa using hi
            simp [World.cell?, hTB.1]
          · obtain rfl : i = 0 := by simpa using hi
            exact S12.out.2.2.2.2.2.2.2.2
        have HCB := Lib.hid hCB
        have HAB := Lib.hid hAB
        have hM2 := S12.out.1.2.2.2.1
        have hL2 := S12.out.2.2.1
        have HS7 : Hid (∀ w7, w11.grownBy w7 (Value.slice a j c).ownBlock → w7.heap[M + 1]? = some (.cells #[.slice (some ⟨M, 0, none⟩) 1 1, .slice a j c, .int .i64 0] 33 (0, 0))) := fun w7 hg7 =>
          (hg7.block _ (by omega) (fun e => by have := (S12.out.1.2.2.1.lt _ e.symm).1; omega)).trans S12.out.1.2.1
        clear hCB hAB hTB hg
        obtain ⟨⟨x0, x1, x2⟩, _⟩ := boxc S12.out.1.2.1
        go_wp2_with (at_builtin; refine wpList_append_lies _ rfl (.tmp 71) (.tmp 79) 31 rfl (M + 2) 35 i0 _ 6 96 Try.underlying31 hi hy0 hy1 hy2 rfl (by decide) (.slice a j c) j _ rfl S12.out.1.2.2.1 ⟨p79, 0, none⟩ 1 1 [.int .i64 0, .slice (some ⟨s5, 0, none⟩) 2 2, .slice none 0 0, .int .i64 2, .int .i64 0, .slice none 0 0] rfl rfl (by have := World.news_of_block HCB.out.1; simpa using this) (by simp [Value.oneCell']) (by decide) hm1 hm2 (by omega) w11.heap.size rfl ?_; intro g7 cp w12 hown7 hgrow7 hat7 hlt7; obtain ⟨⟨p0, p1', p2'⟩, p3', p4, p5⟩ := boxc (HS7.out _ hgrow7))
        obtain ⟨w13, hw13⟩ : ∃ w13, w13 = w12.setCell ⟨M + 1, 1, none⟩ (.slice (some ⟨g7, 0, none⟩) (j + 1) cp) := ⟨_, rfl⟩
        rw [← hw13]
        have oth : ∀ b, b ≠ M + 1 → w13.heap[b]? = w12.heap[b]? := fun b hb => by rw [hw13]; exact other_tb1 hb _
        have far : ∀ b, b < w11.heap.size → some b ≠ (Value.slice a j c).ownBlock → b ≠ M + 1 → w13.heap[b]? = w11.heap[b]? := fun b h1 h2 h3 => (oth b h3).trans (hgrow7.block b h1 h2)
        have hno : ∀ b, L ≤ b → some b ≠ (Value.slice a j c).ownBlock := fun b hb e => by have := S12.out.2.1 b e.symm; omega
        have hwM := S12.out.1.2.2.2.2.1
        have hL10 : L ≤ w10.heap.size := by
          have h1 := (Array.getElem?_eq_some_iff.1 HDX.out).1
          have h2 := S11.out.2.2.2.2.1
          omega
        have hbel : Below w.heap.size w w13 := by
          rw [hw13]
          exact (S12.out.1.2.2.2.2.2.trans ((Below.refl w.heap.size w11).grown hgrow7 (by omega) (fun k hk => by have := (S12.out.1.2.2.1.lt k hk).1; omega))).trans (below_tb1 (by omega) _)
        have hbat : BAt w13 (decBlk j 0) (.slice (some ⟨M, 0, none⟩) 1 1) (.slice (some ⟨g7, 0, none⟩) (j + 1) cp) := by
          refine ⟨?_, ?_⟩
          · have hM := (far M (by omega) (fun e => by have := (S12.out.1.2.2.1.lt _ e.symm).1; omega) (by omega)).trans S12.out.1.1
            refine GAt.row [(⟨[], 1, true, u0T⟩ : SortT)] M 0 1 (fun _ => [.slice none 0 0, .int .i64 1, .bool true, .int .i64 2, .int .i64 0, .slice none 0 0]) (by decide) (by decide) (by decide) (fun i hi => ?_) (fun i hi r hr => ?_)
            · obtain rfl : i = 0 := by simpa using hi
              exact ⟨⟨.slice none 0 0, .slice none 0 0, rfl, .nl, .nl⟩, rfl⟩
            · obtain rfl : i = 0 := by simpa using hi
              simp [World.cell?, hM]
          · have hs5 := HAB.out.2.1
            have hA5 := (far s5 hs5 (hno s5 (by have := HAB.out.2.2; omega)) (by have := HAB.out.2.2; omega)).trans HAB.out.1
            have hD5 : At w13 [decDom 0] (.slice (some ⟨s6, 0, none⟩) 1 1) := (HTX.out.bnd.same (T := fun _ => True) fun b hb => ⟨trivial, far b hb.2 (hno b hb.1.1) (by have := hb.1.1; omega)⟩).at
            have hargs : ARow w13 [decFirst 0, ⟨true, zT, [decDom 0], 0, []⟩] (.slice (some ⟨s5, 0, none⟩) 2 2) := by
              refine GAt.row [decFirst 0, (⟨true, zT, [decDom 0], 0, []⟩ : ArgT)] s5 0 2 (fun i => if i = 0 then [.bool true, .int .i64 0, .int .i64 0, .slice none 0 0, .slice none 0 0, .int .i64 0, .slice none 0 0] else [.bool true, .int .i64 0, .int .i64 0, .slice none 0 0, .slice (some ⟨s6, 0, none⟩) 1 1, .int .i64 0, .slice none 0 0]) (by decide) (by decide) (by decide) (fun i hi => ?_) (fun i hi r hr => ?_)
              · have : i = 0 ∨ i = 1 := by have : i < 2 := hi; omega
                rcases this with rfl | rfl
                · exact ⟨⟨.slice none 0 0, .slice none 0 0, .slice none 0 0, rfl, .nl, .nl, .nl⟩, rfl⟩
                · exact ⟨⟨.slice none 0 0, .slice (some ⟨s6, 0, none⟩) 1 1, .slice none 0 0, rfl, .nl, hD5, .nl⟩, rfl⟩
              · have hi2 : i = 0 ∨ i = 1 := by have : i < 2 := hi; omega
                have hr7 : r = 0 ∨ r = 1 ∨ r = 2 ∨ r = 3 ∨ r = 4 ∨ r = 5 ∨ r = 6 := by omega
                rcases hi2 with rfl | rfl <;> rcases hr7 with rfl | rfl | rfl | rfl | rfl | rfl | rfl <;> simp [World.cell?, hA5]
            have hown : w13.ownsRow (M + 2) 35 6 (.slice (some ⟨g7, 0, none⟩) (j + 1) cp) (j + 1) ((List.range (j + 1)).flatMap fun i => if i < j then decCS else [.int .i64 0, .slice (some ⟨s5, 0, none⟩) 2 2, .slice none 0 0, .int .i64 2, .int .i64 0, .slice none 0 0]) := by
              rw [flatG_snoc (fun _ => decCS) _ (fun i hi => if_pos hi), if_neg (Nat.lt_irrefl j)]
              exact ownsRow_same hown7 fun b hb => oth b (by have := (hown7.lt b hb).1; omega)
            have hlen : (decBlk j 0).cons.length = j + 1 := by simp [decBlk]
            have hg := gats_of_row (S := fun _ => True) (C := conC w13) (l := (decBlk j 0).cons) (f := fun i => if i < j then decCS else [.int .i64 0, .slice (some ⟨s5, 0, none⟩) 2 2, .slice none 0 0, .int .i64 2, .int .i64 0, .slice none 0 0]) (by rw [hlen]; exact hown) (by decide) (fun _ _ => trivial) (fun i hi => by
              by_cases hij : i < j
              · have e : (decBlk j 0).cons[i] = decCon := by simp [decBlk, hij]
                rw [e, if_pos hij]
                exact ⟨⟨.slice none 0 0, .slice none 0 0, .slice none 0 0, rfl, .nl, .nl, .nl⟩, rfl⟩
              · obtain rfl : i = j := by omega
                have e : (decBlk i 0).cons[i] = decLast 0 := by simp [decBlk]
                rw [e, if_neg hij]
                exact ⟨⟨.slice (some ⟨s5, 0, none⟩) 2 2, .slice none 0 0, .slice none 0 0, rfl, hargs, .nl, .nl⟩, rfl⟩)
            exact hg.at fun _ _ h => h
        have HCK := Lib.hid (s8check_any (decBlk j 0) (dec_size ⟨j, hn5⟩ ⟨0, by decide⟩) (dec_fits j 0) 10 w13 _ _ hbat)
        have hdp : positB (decBlk j 0) 10 = 0 := by
          have h := dec_posit ⟨j, hn5⟩ ⟨0, by decide⟩
          simpa [decWant] using h
        rw [hdp] at HCK
        have HB13 := Lib.hid hbel
        clear hbat hbel hdp hw13 oth far hno hown7 hgrow7 hat7 hlt7
        refine HCK.out.mono ?_
        rintro e w14 ⟨rfl, hb14⟩
        have HB14 := Lib.hid (HB13.out.trans (hb14.mono HB13.out.size))
        clear hb14
        go_wp2_with fail
        refine (wakes8_any w14).mono ?_
        rintro e w15 ⟨rfl, hb15⟩
        have HB15 := Lib.hid (HB14.out.trans (hb15.mono HB14.out.size))
        clear hb15
        go_wp2_with fail
        go_ret
        exact ⟨ret_bool rfl, HB15.out⟩
      · go_wp2_with fail
        refine (u_any 0 _).mono ?_
        rintro e w9 ⟨rfl, hb9⟩
        have S9 := Lib.hid (S8.out.bel hb9)
        clear S8 hb9
        obtain ⟨⟨y0, y1, y2, y3, y4, y5, y6⟩, f0, f1, f2, f3, f4, f5, f6⟩ := cells7a S9.out.2.2.2.2.2.2.1
        go_upto_region 25 with (fail)
        have S10 := Lib.hid S9.out.putF
        clear S9 y0 y1 y2 y3 y4 y5 y6 f0 f1 f2 f3 f4 f5 f6
        have S11 : Hid (DecSt w M j a c L (E + 1) P false 2 (appT c11T var0T) x7 c7 (((((((w9.setCell ⟨E + 1, 0, none⟩ (.bool false)).setCell ⟨E + 1, 1, none⟩ (.int .i64 2)).setCell ⟨E + 1, 2, none⟩ (.int .i64 0)).setCell ⟨E + 1, 3, none⟩ (.slice none 0 0)).setCell ⟨E + 1, 4, none⟩ (.slice none 0 0)).setCell ⟨E + 1, 5, none⟩ (.int .i64 0)).setCell ⟨E + 1, 6, none⟩ (.slice none 0 0))) := S10.out
        obtain ⟨w10, hw10⟩ : ∃ w10, w10 = (((((((w9.setCell ⟨E + 1, 0, none⟩ (.bool false)).setCell ⟨E + 1, 1, none⟩ (.int .i64 2)).setCell ⟨E + 1, 2, none⟩ (.int .i64 0)).setCell ⟨E + 1, 3, none⟩ (.slice none 0 0)).setCell ⟨E + 1, 4, none⟩ (.slice none 0 0)).setCell ⟨E + 1, 5, none⟩ (.int .i64 0)).setCell ⟨E + 1, 6, none⟩ (.slice none 0 0)) := ⟨_, rfl⟩
        rw [← hw10] at S11 ⊢
        clear S10 hw10
        have HDX : Hid (w10.heap[P]? = some (.cells #[.int .i64 6, .int .i64 0, .slice x7 2 c7] 25 (0, 0))) := S11.out.2.2.2.2.2.2.2.1
        have HU1 := Lib.hid (fun W => u_any 0 W)
        have hm1 : j + 1 ≤ maxLen := by unfold maxLen; omega
        have hm2 : (j + 1) * 96 ≤ 140737488355328 := by omega
        obtain ⟨i0, hi, hy0, hy1, hy2⟩ := info_parts Try.infoCn
        refine wp_region_rel_tail 10 (by kernel_rfl) (by kernel_rfl) (by kernel_rfl) ?_
        simp only [List.take_succ_cons, List.take_zero]
        simp only [List.drop_succ_cons, List.drop_zero]
        apply RelWalk.next 4
        · kernel_rfl
        · intro X0 _ W hW hcl
          simp only [List.take_succ_cons, List.take_zero]
          obtain ⟨⟨z0, z1, z2⟩, _⟩ := boxc S11.out.1.2.1
          obtain ⟨⟨y0, y1, y2, y3, y4, y5, y6⟩, _⟩ := cells7a S11.out.2.2.2.2.2.2.1
          obtain ⟨⟨x0, x1, x2⟩, _⟩ := boxc HDX.out
          have q0 := fun q => gcell (hW q) z0
          have q1 := fun q => gcell (hW q) z1
          have q2 := fun q => gcell (hW q) z2
          have r0 := fun q => gcell (hW q) y0
          have r1 := fun q => gcell (hW q) y1
          have r2 := fun q => gcell (hW q) y2
          have r3 := fun q => gcell (hW q) y3
          have r4 := fun q => gcell (hW q) y4
          have r5 := fun q => gcell (hW q) y5
          have r6 := fun q => gcell (hW q) y6
          have p0 := fun q => gcell (hW q) x0
          have p1 := fun q => gcell (hW q) x1
          have p2 := fun q => gcell (hW q) x2
          clear x0 x1 x2 y0 y1 y2 y3 y4 y5 y6 z0 z1 z2
          repeat (go_big_quiet_step (fail))
          exact wpQuiet_nil rfl
        simp only [List.drop_succ_cons, List.drop_zero]
        refine RelWalk.made0 (fun v s e W => v = .slice (some ⟨s, 0, none⟩) 1 1 ∧ (W.heap[s]? = some (.cells #[.int .i64 6, .int .i64 0, .slice x7 2 c7] 25 (0, 0)) ∧ s < W.heap.size ∧ w10.heap.size ≤ s)) rfl (by kernel_rfl) (by kernel_rfl) rfl (fun v s e W W' hg h => ⟨h.1, (hg.block s h.2.2.1).trans h.2.1, Nat.lt_of_lt_of_le h.2.2.1 hg.size, h.2.2.2⟩) (fun w2 hg => ?_) ?_
        · have hz := hg.size
          go_simp
          exact ⟨below_al w2 _, rfl, World.alloc_heap_new w2 _, by simp, hz⟩
        simp only [Act.put, List.setIfInBounds_toArray, List.set_cons_zero, List.set_cons_succ]
        refine RelWalk.made1 (fun v s e W => ∃ q, v = .agg #[.bool true, .int .i64 0, .int .i64 0, .slice none 0 0, .slice (some ⟨q, 0, none⟩) 1 1, .int .i64 0, .slice none 0 0] ∧ (W.heap[q]? = some (.cells #[.int .i64 6, .int .i64 0, .slice x7 2 c7] 25 (0, 0)) ∧ q < W.heap.size ∧ w10.heap.size ≤ q)) rfl (by kernel_rfl) (by kernel_rfl) rfl (fun v s e W W' hg ⟨q, h1, h2, h3, h4⟩ => ⟨q, h1, (hg.block q h3).trans h2, Nat.lt_of_lt_of_le h3 hg.size, h4⟩) (fun g w2 hg v1 hv1 => ?_) ?_
        · obtain ⟨rfl, h2⟩ := hv1
          have H2 := Lib.hid h2
          clear h2
          go_simp
          exact ⟨Grw.rfl w2, _, rfl, H2.out⟩
        simp only [Act.put, List.setIfInBounds_toArray, List.set_cons_zero, List.set_cons_succ]
        refine RelWalk.made1 (fun v s e W => ∃ q, v = .slice (some ⟨s, 0, none⟩) 2 2 ∧ (W.heap[s]? = some (.cells #[.bool false, .int .i64 2, .int .i64 0, .slice none 0 0, .slice none 0 0, .int .i64 0, .slice none 0 0, .bool true, .int .i64 0, .int .i64 0, .slice none 0 0, .slice (some ⟨q, 0, none⟩) 1 1, .int .i64 0, .slice none 0 0] 38 (0, 0)) ∧ s < W.heap.size ∧ w10.heap.size ≤ s) ∧ (W.heap[q]? = some (.cells #[.int .i64 6, .int .i64 0, .slice x7 2 c7] 25 (0, 0)) ∧ q < W.heap.size ∧ w10.heap.size ≤ q)) rfl (by kernel_rfl) (by kernel_rfl) rfl (fun v s e W W' hg ⟨q, h1, h2, h3⟩ => ⟨q, h1, ⟨(hg.block s h2.2.1).trans h2.1, Nat.lt_of_lt_of_le h2.2.1 hg.size, h2.2.2⟩, (hg.block q h3.2.1).trans h3.1, Nat.lt_of_lt_of_le h3.2.1 hg.size, h3.2.2⟩) (fun g w2 hg v1 hv1 => ?_) ?_
        · obtain ⟨q, rfl, h2⟩ := hv1
          have H2 := Lib.hid h2
          have hz := hg.size
          clear h2
          go_simp
          exact ⟨below_al w2 _, rfl, q, ⟨World.alloc_heap_new w2 _, by simp, hz⟩, ((below_al w2 _).block q H2.out.2.1).trans H2.out.1, Nat.lt_of_lt_of_le H2.out.2.1 (below_al w2 _).size, H2.out.2.2⟩
        simp only [Act.put, List.setIfInBounds_toArray, List.set_cons_zero, List.set_cons_succ]
        apply RelWalk.next 1
        · kernel_rfl
        · intro X0 _ W hW hcl
          simp only [List.take_succ_cons, List.take_zero]
          have dU := Lib.hid (fun q => into hcl (HU1.out (W q)))
          repeat (go_big_quiet_step (with_reducible exact dU.out _))
          exact wpQuiet_nil rfl
        simp only [List.drop_succ_cons, List.drop_zero]
        refine RelWalk.made1 (fun v s e W => ∃ p q, v = .agg #[.int .i64 0, .slice (some ⟨p, 0, none⟩) 2 2, .slice none 0 0, .int .i64 2, .int .i64 0, .slice none 0 0] ∧ (W.heap[p]? = some (.cells #[.bool false, .int .i64 2, .int .i64 0, .slice none 0 0, .slice none 0 0, .int .i64 0, .slice none 0 0, .bool true, .int .i64 0, .int .i64 0, .slice none 0 0, .slice (some ⟨q, 0, none⟩) 1 1, .int .i64 0, .slice none 0 0] 38 (0, 0)) ∧ p < W.heap.size ∧ w10.heap.size ≤ p) ∧ (W.heap[q]? = some (.cells #[.int .i64 6, .int .i64 0, .slice x7 2 c7] 25 (0, 0)) ∧ q < W.heap.size ∧ w10.heap.size ≤ q)) rfl (by kernel_rfl) (by kernel_rfl) rfl (fun v s e W W' hg ⟨p, q, h1, h2, h3⟩ => ⟨p, q, h1, ⟨(hg.block p h2.2.1).trans h2.1, Nat.lt_of_lt_of_le h2.2.1 hg.size, h2.2.2⟩, (hg.block q h3.2.1).trans h3.1, Nat.lt_of_lt_of_le h3.2.1 hg.size, h3.2.2⟩) (fun g w2 hg v1 hv1 => ?_) ?_
        · obtain ⟨q, rfl, h2⟩ := hv1
          have H2 := Lib.hid h2
          clear h2
          go_simp
          exact ⟨Grw.rfl w2, _, rfl, q, H2.out⟩
        simp only [Act.put, List.setIfInBounds_toArray, List.set_cons_zero, List.set_cons_succ]
        refine RelWalk.made1 (fun v s e W => ∃ p q, v = .slice (some ⟨s, 0, none⟩) 1 1 ∧ (W.heap[s]? = some (.cells #[.int .i64 0, .slice (some ⟨p, 0, none⟩) 2 2, .slice none 0 0, .int .i64 2, .int .i64 0, .slice none 0 0] 35 (0, 0)) ∧ s < W.heap.size ∧ w10.heap.size ≤ s) ∧ (W.heap[p]? = some (.cells #[.bool false, .int .i64 2, .int .i64 0, .slice none 0 0, .slice none 0 0, .int .i64 0, .slice none 0 0, .bool true, .int .i64 0, .int .i64 0, .slice none 0 0, .slice (some ⟨q, 0, none⟩) 1 1, .int .i64 0, .slice none 0 0] 38 (0, 0)) ∧ p < W.heap.size ∧ w10.heap.size ≤ p) ∧ (W.heap[q]? = some (.cells #[.int .i64 6, .int .i64 0, .slice x7 2 c7] 25 (0, 0)) ∧ q < W.heap.size ∧ w10.heap.size ≤ q)) rfl (by kernel_rfl) (by kernel_rfl) rfl (fun v s e W W' hg ⟨p, q, h1, h4, h2, h3⟩ => ⟨p, q, h1, ⟨(hg.block s h4.2.1).trans h4.1, Nat.lt_of_lt_of_le h4.2.1 hg.size, h4.2.2⟩, ⟨(hg.block p h2.2.1).trans h2.1, Nat.lt_of_lt_of_le h2.2.1 hg.size, h2.2.2⟩, (hg.block q h3.2.1).trans h3.1, Nat.lt_of_lt_of_le h3.2.1 hg.size, h3.2.2⟩) (fun g w2 hg v1 hv1 => ?_) ?_
        · obtain ⟨p, q, rfl, h2, h3⟩ := hv1
          have H2 := Lib.hid h2
          have H3 := Lib.hid h3
          have hz := hg.size
          clear h2 h3
          go_simp
          exact ⟨below_al w2 _, rfl, p, ⟨World.alloc_heap_new w2 _, by simp, hz⟩, q, ⟨((below_al w2 _).block p H2.out.2.1).trans H2.out.1, Nat.lt_of_lt_of_le H2.out.2.1 (below_al w2 _).size, H2.out.2.2⟩, ((below_al w2 _).block q H3.out.2.1).trans H3.out.1, Nat.lt_of_lt_of_le H3.out.2.1 (below_al w2 _).size, H3.out.2.2⟩
        simp only [Act.put, List.setIfInBounds_toArray, List.set_cons_zero, List.set_cons_succ]
        refine .done fun g w11 hg hpt => ?_
        simp only [Spread]
        rintro v79 ⟨s5, s6, rfl, hCB, hAB, hTB⟩ v78 _ v76 _ v75 _ v74 _
        simp only [Act.put, List.setIfInBounds_toArray, List.set_cons_zero, List.set_cons_succ]
        obtain ⟨p79, hp79⟩ : ∃ s, (g 79).1 = s := ⟨_, rfl⟩
        rw [hp79] at hCB ⊢
        clear hpt hp79
        have S12 := Lib.hid (S11.out.bel hg)
        have HTX : Hid (AtS (fun b => L ≤ b ∧ b ≠ P ∧ b ≠ E + 1) w11 [(decDom 1)] (.slice (some ⟨s6, 0, none⟩) 1 1)) := by
          refine (AtS.row [(decDom 1)] s6 0 1 (fun _ => .slice x7 2 c7) (fun _ => ?_) (by decide) (by decide) (fun i hi => ?_) (fun i hi => ?_) (fun i hi => ?_) (fun i hi => ?_))
          · have h1 := (Array.getElem?_eq_some_iff.1 HDX.out).1
            have h2 := S11.out.2.2.2.2.1
            have h3 := (Array.getElem?_eq_some_iff.1 S11.out.2.2.2.2.2.2.1).1
            have h4 := hTB.2.2
            exact ⟨by omega, by omega, by omega⟩
          · obtain rfl : i = 0 := by simpa using hi
            simp [World.cell?, hTB.1]; rfl
          · obtain rfl : i = 0 := by simpa using hi
            simp [World.cell?, hTB.1]; rfl
          · obtain rfl : i = 0 := by simpa using hi
            simp [World.cell?, hTB.1]
          · obtain rfl : i = 0 := by simpa using hi
            exact S12.out.2.2.2.2.2.2.2.2
        have HCB := Lib.hid hCB
        have HAB := Lib.hid hAB
        have hM2 := S12.out.1.2.2.2.1
        have hL2 := S12.out.2.2.1
        have HS7 : Hid (∀ w7, w11.grownBy w7 (Value.slice a j c).ownBlock → w7.heap[M + 1]? = some (.cells #[.slice (some ⟨M, 0, none⟩) 1 1, .slice a j c, .int .i64 0] 33 (0, 0))) := fun w7 hg7 =>
          (hg7.block _ (by omega) (fun e => by have := (S12.out.1.2.2.1.lt _ e.symm).1; omega)).trans S12.out.1.2.1
        clear hCB hAB hTB hg
        obtain ⟨⟨x0, x1, x2⟩, _⟩ := boxc S12.out.1.2.1
        go_wp2_with (at_builtin; refine wpList_append_lies _ rfl (.tmp 71) (.tmp 79) 31 rfl (M + 2) 35 i0 _ 6 96 Try.underlying31 hi hy0 hy1 hy2 rfl (by decide) (.slice a j c) j _ rfl S12.out.1.2.2.1 ⟨p79, 0, none⟩ 1 1 [.int .i64 0, .slice (some ⟨s5, 0, none⟩) 2 2, .slice none 0 0, .int .i64 2, .int .i64 0, .slice none 0 0] rfl rfl (by have := World.news_of_block HCB.out.1; simpa using this) (by simp [Value.oneCell']) (by decide) hm1 hm2 (by omega) w11.heap.size rfl ?_; intro g7 cp w12 hown7 hgrow7 hat7 hlt7; obtain ⟨⟨p0, p1', p2'⟩, p3', p4, p5⟩ := boxc (HS7.out _ hgrow7))
        obtain ⟨w13, hw13⟩ : ∃ w13, w13 = w12.setCell ⟨M + 1, 1, none⟩ (.slice (some ⟨g7, 0, none⟩) (j + 1) cp) := ⟨_, rfl⟩
        rw [← hw13]
        have oth : ∀ b, b ≠ M + 1 → w13.heap[b]? = w12.heap[b]? := fun b hb => by rw [hw13]; exact other_tb1 hb _
        have far : ∀ b, b < w11.heap.size → some b ≠ (Value.slice a j c).ownBlock → b ≠ M + 1 → w13.heap[b]? = w11.heap[b]? := fun b h1 h2 h3 => (oth b h3).trans (hgrow7.block b h1 h2)
        have hno : ∀ b, L ≤ b → some b ≠ (Value.slice a j c).ownBlock := fun b hb e => by have := S12.out.2.1 b e.symm; omega
        have hwM := S12.out.1.2.2.2.2.1
        have hL10 : L ≤ w10.heap.size := by
          have h1 := (Array.getElem?_eq_some_iff.1 HDX.out).1
          have h2 := S11.out.2.2.2.2.1
          omega
        have hbel : Below w.heap.size w w13 := by
          rw [hw13]
          exact (S12.out.1.2.2.2.2.2.trans ((Below.refl w.heap.size w11).grown hgrow7 (by omega) (fun k hk => by have := (S12.out.1.2.2.1.lt k hk).1; omega))).trans (below_tb1 (by omega) _)
        have hbat : BAt w13 (decBlk j 1) (.slice (some ⟨M, 0, none⟩) 1 1) (.slice (some ⟨g7, 0, none⟩) (j + 1) cp) := by
          refine ⟨?_, ?_⟩
          · have hM := (far M (by omega) (fun e => by have := (S12.out.1.2.2.1.lt _ e.symm).1; omega) (by omega)).trans S12.out.1.1
            refine GAt.row [(⟨[], 1, true, u0T⟩ : SortT)] M 0 1 (fun _ => [.slice none 0 0, .int .i64 1, .bool true, .int .i64 2, .int .i64 0, .slice none 0 0]) (by decide) (by decide) (by decide) (fun i hi => ?_) (fun i hi r hr => ?_)
            · obtain rfl : i = 0 := by simpa using hi
              exact ⟨⟨.slice none 0 0, .slice none 0 0, rfl, .nl, .nl⟩, rfl⟩
            · obtain rfl : i = 0 := by simpa using hi
              simp [World.cell?, hM]
          · have hs5 := HAB.out.2.1
            have hA5 := (far s5 hs5 (hno s5 (by have := HAB.out.2.2; omega)) (by have := HAB.out.2.2; omega)).trans HAB.out.1
            have hD5 : At w13 [decDom 1] (.slice (some ⟨s6, 0, none⟩) 1 1) := (HTX.out.bnd.same (T := fun _ => True) fun b hb => ⟨trivial, far b hb.2 (hno b hb.1.1) (by have := hb.1.1; omega)⟩).at
            have hargs : ARow w13 [decFirst 1, ⟨true, zT, [decDom 1], 0, []⟩] (.slice (some ⟨s5, 0, none⟩) 2 2) := by
              refine GAt.row [decFirst 1, (⟨true, zT, [decDom 1], 0, []⟩ : ArgT)] s5 0 2 (fun i => if i = 0 then [.bool false, .int .i64 2, .int .i64 0, .slice none 0 0, .slice none 0 0, .int .i64 0, .slice none 0 0] else [.bool true, .int .i64 0, .int .i64 0, .slice none 0 0, .slice (some ⟨s6, 0, none⟩) 1 1, .int .i64 0, .slice none 0 0]) (by decide) (by decide) (by decide) (fun i hi => ?_) (fun i hi r hr => ?_)
              · have : i = 0 ∨ i = 1 := by have : i < 2 := hi; omega
                rcases this with rfl | rfl
                · exact ⟨⟨.slice none 0 0, .slice none 0 0, .slice none 0 0, rfl, .nl, .nl, .nl⟩, rfl⟩
                · exact ⟨⟨.slice none 0 0, .slice (some ⟨s6, 0, none⟩) 1 1, .slice none 0 0, rfl, .nl, hD5, .nl⟩, rfl⟩
              · have hi2 : i = 0 ∨ i = 1 := by have : i < 2 := hi; omega
                have hr7 : r = 0 ∨ r = 1 ∨ r = 2 ∨ r = 3 ∨ r = 4 ∨ r = 5 ∨ r = 6 := by omega
                rcases hi2 with rfl | rfl <;> rcases hr7 with rfl | rfl | rfl | rfl | rfl | rfl | rfl <;> simp [World.cell?, hA5]
            have hown : w13.ownsRow (M + 2) 35 6 (.slice (some ⟨g7, 0, none⟩) (j + 1) cp) (j + 1) ((List.range (j + 1)).flatMap fun i => if i < j then decCS else [.int .i64 0, .slice (some ⟨s5, 0, none⟩) 2 2, .slice none 0 0, .int .i64 2, .int .i64 0, .slice none 0 0]) := by
              rw [flatG_snoc (fun _ => decCS) _ (fun i hi => if_pos hi), if_neg (Nat.lt_irrefl j)]
              exact ownsRow_same hown7 fun b hb => oth b (by have := (hown7.lt b hb).1; omega)
            have hlen : (decBlk j 1).cons.length = j + 1 := by simp [decBlk]
            have hg := gats_of_row (S := fun _ => True) (C := conC w13) (l := (decBlk j 1).cons) (f := fun i => if i < j then decCS else [.int .i64 0, .slice (some ⟨s5, 0, none⟩) 2 2, .slice none 0 0, .int .i64 2, .int .i64 0, .slice none 0 0]) (by rw [hlen]; exact hown) (by decide) (fun _ _ => trivial) (fun i hi => by
              by_cases hij : i < j
              · have e : (decBlk j 1).cons[i] = decCon := by simp [decBlk, hij]
                rw [e, if_pos hij]
                exact ⟨⟨.slice none 0 0, .slice none 0 0, .slice none 0 0, rfl, .nl, .nl, .nl⟩, rfl⟩
              · obtain rfl : i = j := by omega
                have e : (decBlk i 1).cons[i] = decLast 1 := by simp [decBlk]
                rw [e, if_neg hij]
                exact ⟨⟨.slice (some ⟨s5, 0, none⟩) 2 2, .slice none 0 0, .slice none 0 0, rfl, hargs, .nl, .nl⟩, rfl⟩)
            exact hg.at fun _ _ h => h
        have HCK := Lib.hid (s8check_any (decBlk j 1) (dec_size ⟨j, hn5⟩ ⟨1, by decide⟩) (dec_fits j 1) 10 w13 _ _ hbat)
        have hdp : positB (decBlk j 1) 10 = 11 := by
          have h := dec_posit ⟨j, hn5⟩ ⟨1, by decide⟩
          simpa [decWant] using h
        rw [hdp] at HCK
        have HB13 := Lib.hid hbel
        clear hbat hbel hdp hw13 oth far hno hown7 hgrow7 hat7 hlt7
        refine HCK.out.mono ?_
        rintro e w14 ⟨rfl, hb14⟩
        have HB14 := Lib.hid (HB13.out.trans (hb14.mono HB13.out.size))
        clear hb14
        go_wp2_with fail
        refine (wakes8_any w14).mono ?_
        rintro e w15 ⟨rfl, hb15⟩
        have HB15 := Lib.hid (HB14.out.trans (hb15.mono HB14.out.size))
        clear hb15
        go_wp2_with fail
        go_ret
        exact ⟨ret_bool rfl, HB15.out⟩
      · skip
        obtain ⟨⟨x0, x1, x2⟩, _⟩ := boxc E8.out
        have HC12 := Lib.hid (fun W => c3_any 12 W)
        go_wp2_with fail
        clear x0 x1 x2
        refine wp_region_rel_tail 4 (by kernel_rfl) (by kernel_rfl) (by kernel_rfl) ?_
        simp only [List.take_succ_cons, List.take_zero]
        simp only [List.drop_succ_cons, List.drop_zero]
        apply RelWalk.next 3
        · kernel_rfl
        · intro X0 _ W hW hcl
          simp only [List.take_succ_cons, List.take_zero]
          obtain ⟨⟨z0, z1, z2⟩, _⟩ := boxc E8.out
          have r0 := fun q => gcell (hW q) z0
          have r1 := fun q => gcell (hW q) z1
          have r2 := fun q => gcell (hW q) z2
          have dV := Lib.hid (fun q => into hcl (HC12.out (W q)))
          clear z0 z1 z2
          repeat (go_big_quiet_step (with_reducible exact dV.out _))
          exact wpQuiet_nil rfl
        simp only [List.drop_succ_cons, List.drop_zero]
        refine RelWalk.made0 (fun v s e W => ∃ x c, v = .agg #[.int .i64 6, .int .i64 0, .slice x 2 c] ∧ AtS (fun b => w8.heap.size ≤ b) W [c11T, c12T] (.slice x 2 c)) rfl (by kernel_rfl) (by kernel_rfl) rfl (fun v s e W W' hg ⟨x, c, h1, h2⟩ => ⟨x, c, h1, h2.grw hg⟩) (fun w2 hg => ?_) ?_
        · have hz := hg.size
          have hc := Lib.hid (maker_any (fun _ => False) 6 c11T c12T w2 (.slice none 0 0) (.slice none 0 0) (fun b hb => hb.elim) .nl .nl)
          go_simp
          exact rel_enter (hc.out.mono fun e w3 ⟨x3, c3, he, hA3, hb3⟩ => ⟨_, he, hb3, x3, c3, rfl, hA3.same fun b hb => ⟨by rcases hb with h | h; exact h.elim; omega, rfl⟩⟩)
        simp only [Act.put, List.setIfInBounds_toArray, List.set_cons_zero, List.set_cons_succ]
        refine .done fun g w9 hg hpt => ?_
        simp only [Spread]
        rintro v56 ⟨x9, c9, rfl, hA9⟩
        simp only [Act.put, List.setIfInBounds_toArray, List.set_cons_zero, List.set_cons_succ]
        have hPs := (Array.getElem?_eq_some_iff.1 S8.out.2.2.2.2.2.2.2.1).1
        have hFs := (Array.getElem?_eq_some_iff.1 S8.out.2.2.2.2.2.2.1).1
        have hLF := S8.out.2.2.2.1
        have HA9 := Lib.hid (show AtS (fun b => L ≤ b ∧ b ≠ P ∧ b ≠ E + 1) w9 (appT c11T c12T).kids (.slice x9 2 c9) from hA9.same fun b hb => ⟨⟨by omega, by omega, by omega⟩, rfl⟩)
        have S9 := Lib.hid (S8.out.bel hg)
        clear hg hpt hA9 S8 hPs hFs hLF
        obtain ⟨⟨y0, y1, y2⟩, f0, f1, f2⟩ := boxc S9.out.2.2.2.2.2.2.2.1
        go_upto_region 25 with (fail)
        have S10 := Lib.hid (S9.out.putD (appT c11T c12T) x9 c9 HA9.out)
        clear y0 y1 y2 f0 f1 f2 S9 HA9
        have S11 : Hid (DecSt w M j a c L (E + 1) P true 0 (appT c11T c12T) x9 c9 (((w9.setCell ⟨P, 0, none⟩ (.int .i64 6)).setCell ⟨P, 1, none⟩ (.int .i64 0)).setCell ⟨P, 2, none⟩ (.slice x9 2 c9))) := S10.out
        obtain ⟨w10, hw10⟩ : ∃ w10, w10 = (((w9.setCell ⟨P, 0, none⟩ (.int .i64 6)).setCell ⟨P, 1, none⟩ (.int .i64 0)).setCell ⟨P, 2, none⟩ (.slice x9 2 c9)) := ⟨_, rfl⟩
        rw [← hw10] at S11 ⊢
        clear S10 hw10
        have HDX : Hid (w10.heap[P]? = some (.cells #[.int .i64 6, .int .i64 0, .slice x9 2 c9] 25 (0, 0))) := S11.out.2.2.2.2.2.2.2.1
        have HU1 := Lib.hid (fun W => u_any 0 W)
        have hm1 : j + 1 ≤ maxLen := by unfold maxLen; omega
        have hm2 : (j + 1) * 96 ≤ 140737488355328 := by omega
        obtain ⟨i0, hi, hy0, hy1, hy2⟩ := info_parts Try.infoCn
        refine wp_region_rel_tail 10 (by kernel_rfl) (by kernel_rfl) (by kernel_rfl) ?_
        simp only [List.take_succ_cons, List.take_zero]
        simp only [List.drop_succ_cons, List.drop_zero]
        apply RelWalk.next 4
        · kernel_rfl
        · intro X0 _ W hW hcl
          simp only [List.take_succ_cons, List.take_zero]
          obtain ⟨⟨z0, z1, z2⟩, _⟩ := boxc S11.out.1.2.1
          obtain ⟨⟨y0, y1, y2, y3, y4, y5, y6⟩, _⟩ := cells7a S11.out.2.2.2.2.2.2.1
          obtain ⟨⟨x0, x1, x2⟩, _⟩ := boxc HDX.out
          have q0 := fun q => gcell (hW q) z0
          have q1 := fun q => gcell (hW q) z1
          have q2 := fun q => gcell (hW q) z2
          have r0 := fun q => gcell (hW q) y0
          have r1 := fun q => gcell (hW q) y1
          have r2 := fun q => gcell (hW q) y2
          have r3 := fun q => gcell (hW q) y3
          have r4 := fun q => gcell (hW q) y4
          have r5 := fun q => gcell (hW q) y5
          have r6 := fun q => gcell (hW q) y6
          have p0 := fun q => gcell (hW q) x0
          have p1 := fun q => gcell (hW q) x1
          have p2 := fun q => gcell (hW q) x2
          clear x0 x1 x2 y0 y1 y2 y3 y4 y5 y6 z0 z1 z2
          repeat (go_big_quiet_step (fail))
          exact wpQuiet_nil rfl
        simp only [List.drop_succ_cons, List.drop_zero]
        refine RelWalk.made0 (fun v s e W => v = .slice (some ⟨s, 0, none⟩) 1 1 ∧ (W.heap[s]? = some (.cells #[.int .i64 6, .int .i64 0, .slice x9 2 c9] 25 (0, 0)) ∧ s < W.heap.size ∧ w10.heap.size ≤ s)) rfl (by kernel_rfl) (by kernel_rfl) rfl (fun v s e W W' hg h => ⟨h.1, (hg.block s h.2.2.1).trans h.2.1, Nat.lt_of_lt_of_le h.2.2.1 hg.size, h.2.2.2⟩) (fun w2 hg => ?_) ?_
        · have hz := hg.size
          go_simp
          exact ⟨below_al w2 _, rfl, World.alloc_heap_new w2 _, by simp, hz⟩
        simp only [Act.put, List.setIfInBounds_toArray, List.set_cons_zero, List.set_cons_succ]
        refine RelWalk.made1 (fun v s e W => ∃ q, v = .agg #[.bool true, .int .i64 0, .int .i64 0, .slice none 0 0, .slice (some ⟨q, 0, none⟩) 1 1, .int .i64 0, .slice none 0 0] ∧ (W.heap[q]? = some (.cells #[.int .i64 6, .int .i64 0, .slice x9 2 c9] 25 (0, 0)) ∧ q < W.heap.size ∧ w10.heap.size ≤ q)) rfl (by kernel_rfl) (by kernel_rfl) rfl (fun v s e W W' hg ⟨q, h1, h2, h3, h4⟩ => ⟨q, h1, (hg.block q h3).trans h2, Nat.lt_of_lt_of_le h3 hg.size, h4⟩) (fun g w2 hg v1 hv1 => ?_) ?_
        · obtain ⟨rfl, h2⟩ := hv1
          have H2 := Lib.hid h2
          clear h2
          go_simp
          exact ⟨Grw.rfl w2, _, rfl, H2.out⟩
        simp only [Act.put, List.setIfInBounds_toArray, List.set_cons_zero, List.set_cons_succ]
        refine RelWalk.made1 (fun v s e W => ∃ q, v = .slice (some ⟨s, 0, none⟩) 2 2 ∧ (W.heap[s]? = some (.cells #[.bool true, .int .i64 0, .int .i64 0, .slice none 0 0, .slice none 0 0, .int .i64 0, .slice none 0 0, .bool true, .int .i64 0, .int .i64 0, .slice none 0 0, .slice (some ⟨q, 0, none⟩) 1 1, .int .i64 0, .slice none 0 0] 38 (0, 0)) ∧ s < W.heap.size ∧ w10.heap.size ≤ s) ∧ (W.heap[q]? = some (.cells #[.int .i64 6, .int .i64 0, .slice x9 2 c9] 25 (0, 0)) ∧ q < W.heap.size ∧ w10.heap.size ≤ q)) rfl (by kernel_rfl) (by kernel_rfl) rfl (fun v s e W W' hg ⟨q, h1, h2, h3⟩ => ⟨q, h1, ⟨(hg.block s h2.2.1).trans h2.1, Nat.lt_of_lt_of_le h2.2.1 hg.size, h2.2.2⟩, (hg.block q h3.2.1).trans h3.1, Nat.lt_of_lt_of_le h3.2.1 hg.size, h3.2.2⟩) (fun g w2 hg v1 hv1 => ?_) ?_
        · obtain ⟨q, rfl, h2⟩ := hv1
          have H2 := Lib.hid h2
          have hz := hg.size
          clear h2
          go_simp
          exact ⟨below_al w2 _, rfl, q, ⟨World.alloc_heap_new w2 _, by simp, hz⟩, ((below_al w2 _).block q H2.out.2.1).trans H2.out.1, Nat.lt_of_lt_of_le H2.out.2.1 (below_al w2 _).size, H2.out.2.2⟩
        simp only [Act.put, List.setIfInBounds_toArray, List.set_cons_zero, List.set_cons_succ]
        apply RelWalk.next 1
        · kernel_rfl
        · intro X0 _ W hW hcl
          simp only [List.take_succ_cons, List.take_zero]
          have dU := Lib.hid (fun q => into hcl (HU1.out (W q)))
          repeat (go_big_quiet_step (with_reducible exact dU.out _))
          exact wpQuiet_nil rfl
        simp only [List.drop_succ_cons, List.drop_zero]
        refine RelWalk.made1 (fun v s e W => ∃ p q, v = .agg #[.int .i64 0, .slice (some ⟨p, 0, none⟩) 2 2, .slice none 0 0, .int .i64 2, .int .i64 0, .slice none 0 0] ∧ (W.heap[p]? = some (.cells #[.bool true, .int .i64 0, .int .i64 0, .slice none 0 0, .slice none 0 0, .int .i64 0, .slice none 0 0, .bool true, .int .i64 0, .int .i64 0, .slice none 0 0, .slice (some ⟨q, 0, none⟩) 1 1, .int .i64 0, .slice none 0 0] 38 (0, 0)) ∧ p < W.heap.size ∧ w10.heap.size ≤ p) ∧ (W.heap[q]? = some (.cells #[.int .i64 6, .int .i64 0, .slice x9 2 c9] 25 (0, 0)) ∧ q < W.heap.size ∧ w10.heap.size ≤ q)) rfl (by kernel_rfl) (by kernel_rfl) rfl (fun v s e W W' hg ⟨p, q, h1, h2, h3⟩ => ⟨p, q, h1, ⟨(hg.block p h2.2.1).trans h2.1, Nat.lt_of_lt_of_le h2.2.1 hg.size, h2.2.2⟩, (hg.block q h3.2.1).trans h3.1, Nat.lt_of_lt_of_le h3.2.1 hg.size, h3.2.2⟩) (fun g w2 hg v1 hv1 => ?_) ?_
        · obtain ⟨q, rfl, h2⟩ := hv1
          have H2 := Lib.hid h2
          clear h2
          go_simp
          exact ⟨Grw.rfl w2, _, rfl, q, H2.out⟩
        simp only [Act.put, List.setIfInBounds_toArray, List.set_cons_zero, List.set_cons_succ]
        refine RelWalk.made1 (fun v s e W => ∃ p q, v = .slice (some ⟨s, 0, none⟩) 1 1 ∧ (W.heap[s]? = some (.cells #[.int .i64 0, .slice (some ⟨p, 0, none⟩) 2 2, .slice none 0 0, .int .i64 2, .int .i64 0, .slice none 0 0] 35 (0, 0)) ∧ s < W.heap.size ∧ w10.heap.size ≤ s) ∧ (W.heap[p]? = some (.cells #[.bool true, .int .i64 0, .int .i64 0, .slice none 0 0, .slice none 0 0, .int .i64 0, .slice none 0 0, .bool true, .int .i64 0, .int .i64 0, .slice none 0 0, .slice (some ⟨q, 0, none⟩) 1 1, .int .i64 0, .slice none 0 0] 38 (0, 0)) ∧ p < W.heap.size ∧ w10.heap.size ≤ p) ∧ (W.heap[q]? = some (.cells #[.int .i64 6, .int .i64 0, .slice x9 2 c9] 25 (0, 0)) ∧ q < W.heap.size ∧ w10.heap.size ≤ q)) rfl (by kernel_rfl) (by kernel_rfl) rfl (fun v s e W W' hg ⟨p, q, h1, h4, h2, h3⟩ => ⟨p, q, h1, ⟨(hg.block s h4.2.1).trans h4.1, Nat.lt_of_lt_of_le h4.2.1 hg.size, h4.2.2⟩, ⟨(hg.block p h2.2.1).trans h2.1, Nat.lt_of_lt_of_le h2.2.1 hg.size, h2.2.2⟩, (hg.block q h3.2.1).trans h3.1, Nat.lt_of_lt_of_le h3.2.1 hg.size, h3.2.2⟩) (fun g w2 hg v1 hv1 => ?_) ?_
        · obtain ⟨p, q, rfl, h2, h3⟩ := hv1
          have H2 := Lib.hid h2
          have H3 := Lib.hid h3
          have hz := hg.size
          clear h2 h3
          go_simp
          exact ⟨below_al w2 _, rfl, p, ⟨World.alloc_heap_new w2 _, by simp, hz⟩, q, ⟨((below_al w2 _).block p H2.out.2.1).trans H2.out.1, Nat.lt_of_lt_of_le H2.out.2.1 (below_al w2 _).size, H2.out.2.2⟩, ((below_al w2 _).block q H3.out.2.1).trans H3.out.1, Nat.lt_of_lt_of_le H3.out.2.1 (below_al w2 _).size, H3.out.2.2⟩
        simp only [Act.put, List.setIfInBounds_toArray, List.set_cons_zero, List.set_cons_succ]
        refine .done fun g w11 hg hpt => ?_
        simp only [Spread]
        rintro v79 ⟨s5, s6, rfl, hCB, hAB, hTB⟩ v78 _ v76 _ v75 _ v74 _
        simp only [Act.put, List.setIfInBounds_toArray, List.set_cons_zero, List.set_cons_succ]
        obtain ⟨p79, hp79⟩ : ∃ s, (g 79).1 = s := ⟨_, rfl⟩
        rw [hp79] at hCB ⊢
        clear hpt hp79
        have S12 := Lib.hid (S11.out.bel hg)
        have HTX : Hid (AtS (fun b => L ≤ b ∧ b ≠ P ∧ b ≠ E + 1) w11 [(decDom 2)] (.slice (some ⟨s6, 0, none⟩) 1 1)) := by
          refine (AtS.row [(decDom 2)] s6 0 1 (fun _ => .slice x9 2 c9) (fun _ => ?_) (by decide) (by decide) (fun i hi => ?_) (fun i hi => ?_) (fun i hi => ?_) (fun i hi => ?_))
          · have h1 := (Array.getElem?_eq_some_iff.1 HDX.out).1
            have h2 := S11.out.2.2.2.2.1
            have h3 := (Array.getElem?_eq_some_iff.1 S11.out.2.2.2.2.2.2.1).1
            have h4 := hTB.2.2
            exact ⟨by omega, by omega, by omega⟩
          · obtain rfl : i = 0 := by simpa using hi
            simp [World.cell?, hTB.1]; rfl
          · obtain rfl : i = 0 := by simpa using hi
            simp [World.cell?, hTB.1]; rfl
          · obtain rfl : i = 0 := by simpa using hi
            simp [World.cell?, hTB.1]
          · obtain rfl : i = 0 := by simpa using hi
            exact S12.out.2.2.2.2.2.2.2.2
        have HCB := Lib.hid hCB
        have HAB := Lib.hid hAB
        have hM2 := S12.out.1.2.2.2.1
        have hL2 := S12.out.2.2.1
        have HS7 : Hid (∀ w7, w11.grownBy w7 (Value.slice a j c).ownBlock → w7.heap[M + 1]? = some (.cells #[.slice (some ⟨M, 0, none⟩) 1 1, .slice a j c, .int .i64 0] 33 (0, 0))) := fun w7 hg7 =>
          (hg7.block _ (by omega) (fun e => by have := (S12.out.1.2.2.1.lt _ e.symm).1; omega)).trans S12.out.1.2.1
        clear hCB hAB hTB hg
        obtain ⟨⟨x0, x1, x2⟩, _⟩ := boxc S12.out.1.2.1
        go_wp2_with (at_builtin; refine wpList_append_lies _ rfl (.tmp 71) (.tmp 79) 31 rfl (M + 2) 35 i0 _ 6 96 Try.underlying31 hi hy0 hy1 hy2 rfl (by decide) (.slice a j c) j _ rfl S12.out.1.2.2.1 ⟨p79, 0, none⟩ 1 1 [.int .i64 0, .slice (some ⟨s5, 0, none⟩) 2 2, .slice none 0 0, .int .i64 2, .int .i64 0, .slice none 0 0] rfl rfl (by have := World.news_of_block HCB.out.1; simpa using this) (by simp [Value.oneCell']) (by decide) hm1 hm2 (by omega) w11.heap.size rfl ?_; intro g7 cp w12 hown7 hgrow7 hat7 hlt7; obtain ⟨⟨p0, p1', p2'⟩, p3', p4, p5⟩ := boxc (HS7.out _ hgrow7))
        obtain ⟨w13, hw13⟩ : ∃ w13, w13 = w12.setCell ⟨M + 1, 1, none⟩ (.slice (some ⟨g7, 0, none⟩) (j + 1) cp) := ⟨_, rfl⟩
        rw [← hw13]
        have oth : ∀ b, b ≠ M + 1 → w13.heap[b]? = w12.heap[b]? := fun b hb => by rw [hw13]; exact other_tb1 hb _
        have far : ∀ b, b < w11.heap.size → some b ≠ (Value.slice a j c).ownBlock → b ≠ M + 1 → w13.heap[b]? = w11.heap[b]? := fun b h1 h2 h3 => (oth b h3).trans (hgrow7.block b h1 h2)
        have hno : ∀ b, L ≤ b → some b ≠ (Value.slice a j c).ownBlock := fun b hb e => by have := S12.out.2.1 b e.symm; omega
        have hwM := S12.out.1.2.2.2.2.1
        have hL10 : L ≤ w10.heap.size := by
          have h1 := (Array.getElem?_eq_some_iff.1 HDX.out).1
          have h2 := S11.out.2.2.2.2.1
          omega
        have hbel : Below w.heap.size w w13 := by
          rw [hw13]
          exact (S12.out.1.2.2.2.2.2.trans ((Below.refl w.heap.size w11).grown hgrow7 (by omega) (fun k hk => by have := (S12.out.1.2.2.1.lt k hk).1; omega))).trans (below_tb1 (by omega) _)
        have hbat : BAt w13 (decBlk j 2) (.slice (some ⟨M, 0, none⟩) 1 1) (.slice (some ⟨g7, 0, none⟩) (j + 1) cp) := by
          refine ⟨?_, ?_⟩
          · have hM := (far M (by omega) (fun e => by have := (S12.out.1.2.2.1.lt _ e.symm).1; omega) (by omega)).trans S12.out.1.1
            refine GAt.row [(⟨[], 1, true, u0T⟩ : SortT)] M 0 1 (fun _ => [.slice none 0 0, .int .i64 1, .bool true, .int .i64 2, .int .i64 0, .slice none 0 0]) (by decide) (by decide) (by decide) (fun i hi => ?_) (fun i hi r hr => ?_)
            · obtain rfl : i = 0 := by simpa using hi
              exact ⟨⟨.slice none 0 0, .slice none 0 0, rfl, .nl, .nl⟩, rfl⟩
            · obtain rfl : i = 0 := by simpa using hi
              simp [World.cell?, hM]
          · have hs5 := HAB.out.2.1
            have hA5 := (far s5 hs5 (hno s5 (by have := HAB.out.2.2; omega)) (by have := HAB.out.2.2; omega)).trans HAB.out.1
            have hD5 : At w13 [decDom 2] (.slice (some ⟨s6, 0, none⟩) 1 1) := (HTX.out.bnd.same (T := fun _ => True) fun b hb => ⟨trivial, far b hb.2 (hno b hb.1.1) (by have := hb.1.1; omega)⟩).at
            have hargs : ARow w13 [decFirst 2, ⟨true, zT, [decDom 2], 0, []⟩] (.slice (some ⟨s5, 0, none⟩) 2 2) := by
              refine GAt.row [decFirst 2, (⟨true, zT, [decDom 2], 0, []⟩ : ArgT)] s5 0 2 (fun i => if i = 0 then [.bool true, .int .i64 0, .int .i64 0, .slice none 0 0, .slice none 0 0, .int .i64 0, .slice none 0 0] else [.bool true, .int .i64 0, .int .i64 0, .slice none 0 0, .slice (some ⟨s6, 0, none⟩) 1 1, .int .i64 0, .slice none 0 0]) (by decide) (by decide) (by decide) (fun i hi => ?_) (fun i hi r hr => ?_)
              · have : i = 0 ∨ i = 1 := by have : i < 2 := hi; omega
                rcases this with rfl | rfl
                · exact ⟨⟨.slice none 0 0, .slice none 0 0, .slice none 0 0, rfl, .nl, .nl, .nl⟩, rfl⟩
                · exact ⟨⟨.slice none 0 0, .slice (some ⟨s6, 0, none⟩) 1 1, .slice none 0 0, rfl, .nl, hD5, .nl⟩, rfl⟩
              · have hi2 : i = 0 ∨ i = 1 := by have : i < 2 := hi; omega
                have hr7 : r = 0 ∨ r = 1 ∨ r = 2 ∨ r = 3 ∨ r = 4 ∨ r = 5 ∨ r = 6 := by omega
                rcases hi2 with rfl | rfl <;> rcases hr7 with rfl | rfl | rfl | rfl | rfl | rfl | rfl <;> simp [World.cell?, hA5]
            have hown : w13.ownsRow (M + 2) 35 6 (.slice (some ⟨g7, 0, none⟩) (j + 1) cp) (j + 1) ((List.range (j + 1)).flatMap fun i => if i < j then decCS else [.int .i64 0, .slice (some ⟨s5, 0, none⟩) 2 2, .slice none 0 0, .int .i64 2, .int .i64 0, .slice none 0 0]) := by
              rw [flatG_snoc (fun _ => decCS) _ (fun i hi => if_pos hi), if_neg (Nat.lt_irrefl j)]
              exact ownsRow_same hown7 fun b hb => oth b (by have := (hown7.lt b hb).1; omega)
            have hlen : (decBlk j 2).cons.length = j + 1 := by simp [decBlk]
            have hg := gats_of_row (S := fun _ => True) (C := conC w13) (l := (decBlk j 2).cons) (f := fun i => if i < j then decCS else [.int .i64 0, .slice (some ⟨s5, 0, none⟩) 2 2, .slice none 0 0, .int .i64 2, .int .i64 0, .slice none 0 0]) (by rw [hlen]; exact hown) (by decide) (fun _ _ => trivial) (fun i hi => by
              by_cases hij : i < j
              · have e : (decBlk j 2).cons[i] = decCon := by simp [decBlk, hij]
                rw [e, if_pos hij]
                exact ⟨⟨.slice none 0 0, .slice none 0 0, .slice none 0 0, rfl, .nl, .nl, .nl⟩, rfl⟩
              · obtain rfl : i = j := by omega
                have e : (decBlk i 2).cons[i] = decLast 2 := by simp [decBlk]
                rw [e, if_neg hij]
                exact ⟨⟨.slice (some ⟨s5, 0, none⟩) 2 2, .slice none 0 0, .slice none 0 0, rfl, hargs, .nl, .nl⟩, rfl⟩)
            exact hg.at fun _ _ h => h
        have HCK := Lib.hid (s8check_any (decBlk j 2) (dec_size ⟨j, hn5⟩ ⟨2, by decide⟩) (dec_fits j 2) 10 w13 _ _ hbat)
        have hdp : positB (decBlk j 2) 10 = 11 := by
          have h := dec_posit ⟨j, hn5⟩ ⟨2, by decide⟩
          simpa [decWant] using h
        rw [hdp] at HCK
        have HB13 := Lib.hid hbel
        clear hbat hbel hdp hw13 oth far hno hown7 hgrow7 hat7 hlt7
        refine HCK.out.mono ?_
        rintro e w14 ⟨rfl, hb14⟩
        have HB14 := Lib.hid (HB13.out.trans (hb14.mono HB13.out.size))
        clear hb14
        go_wp2_with fail
        refine (wakes8_any w14).mono ?_
        rintro e w15 ⟨rfl, hb15⟩
        have HB15 := Lib.hid (HB14.out.trans (hb15.mono HB14.out.size))
        clear hb15
        go_wp2_with fail
        go_ret
        exact ⟨ret_bool rfl, HB15.out⟩
      · obtain ⟨⟨x0, x1, x2⟩, _⟩ := boxc E8.out
        obtain ⟨⟨y0, y1, y2⟩, f0, f1, f2⟩ := boxc S8.out.2.2.2.2.2.2.2.1
        go_upto_region 25 with (fail)
        have S9 := Lib.hid (S8.out.putD c11T none 0 .nl)
        clear x0 x1 x2 y0 y1 y2 f0 f1 f2 S8
        have S11 : Hid (DecSt w M j a c L (E + 1) P true 0 c11T none 0 (((w8.setCell ⟨P, 0, none⟩ (.int .i64 3)).setCell ⟨P, 1, none⟩ (.int .i64 11)).setCell ⟨P, 2, none⟩ (.slice none 0 0))) := S9.out
        obtain ⟨w10, hw10⟩ : ∃ w10, w10 = (((w8.setCell ⟨P, 0, none⟩ (.int .i64 3)).setCell ⟨P, 1, none⟩ (.int .i64 11)).setCell ⟨P, 2, none⟩ (.slice none 0 0)) := ⟨_, rfl⟩
        rw [← hw10] at S11 ⊢
        clear S9 hw10
        have HDX : Hid (w10.heap[P]? = some (.cells #[.int .i64 3, .int .i64 11, .slice none 0 0] 25 (0, 0))) := S11.out.2.2.2.2.2.2.2.1
        have HU1 := Lib.hid (fun W => u_any 0 W)
        have hm1 : j + 1 ≤ maxLen := by unfold maxLen; omega
        have hm2 : (j + 1) * 96 ≤ 140737488355328 := by omega
        obtain ⟨i0, hi, hy0, hy1, hy2⟩ := info_parts Try.infoCn
        refine wp_region_rel_tail 10 (by kernel_rfl) (by kernel_rfl) (by kernel_rfl) ?_
        simp only [List.take_succ_cons, List.take_zero]
        simp only [List.drop_succ_cons, List.drop_zero]
        apply RelWalk.next 4
        · kernel_rfl
        · intro X0 _ W hW hcl
          simp only [List.take_succ_cons, List.take_zero]
          obtain ⟨⟨z0, z1, z2⟩, _⟩ := boxc S11.out.1.2.1
          obtain ⟨⟨y0, y1, y2, y3, y4, y5, y6⟩, _⟩ := cells7a S11.out.2.2.2.2.2.2.1
          obtain ⟨⟨x0, x1, x2⟩, _⟩ := boxc HDX.out
          have q0 := fun q => gcell (hW q) z0
          have q1 := fun q => gcell (hW q) z1
          have q2 := fun q => gcell (hW q) z2
          have r0 := fun q => gcell (hW q) y0
          have r1 := fun q => gcell (hW q) y1
          have r2 := fun q => gcell (hW q) y2
          have r3 := fun q => gcell (hW q) y3
          have r4 := fun q => gcell (hW q) y4
          have r5 := fun q => gcell (hW q) y5
          have r6 := fun q => gcell (hW q) y6
          have p0 := fun q => gcell (hW q) x0
          have p1 := fun q => gcell (hW q) x1
          have p2 := fun q => gcell (hW q) x2
          clear x0 x1 x2 y0 y1 y2 y3 y4 y5 y6 z0 z1 z2
          repeat (go_big_quiet_step (fail))
          exact wpQuiet_nil rfl
        simp only [List.drop_succ_cons, List.drop_zero]
        refine RelWalk.made0 (fun v s e W => v = .slice (some ⟨s, 0, none⟩) 1 1 ∧ (W.heap[s]? = some (.cells #[.int .i64 3, .int .i64 11, .slice none 0 0] 25 (0, 0)) ∧ s < W.heap.size ∧ w10.heap.size ≤ s)) rfl (by kernel_rfl) (by kernel_rfl) rfl (fun v s e W W' hg h => ⟨h.1, (hg.block s h.2.2.1).trans h.2.1, Nat.lt_of_lt_of_le h.2.2.1 hg.size, h.2.2.2⟩) (fun w2 hg => ?_) ?_
        · have hz := hg.size
          go_simp
          exact ⟨below_al w2 _, rfl, World.alloc_heap_new w2 _, by simp, hz⟩
        simp only [Act.put, List.setIfInBounds_toArray, List.set_cons_zero, List.set_cons_succ]
        refine RelWalk.made1 (fun v s e W => ∃ q, v = .agg #[.bool true, .int .i64 0, .int .i64 0, .slice none 0 0, .slice (some ⟨q, 0, none⟩) 1 1, .int .i64 0, .slice none 0 0] ∧ (W.heap[q]? = some (.cells #[.int .i64 3, .int .i64 11, .slice none 0 0] 25 (0, 0)) ∧ q < W.heap.size ∧ w10.heap.size ≤ q)) rfl (by kernel_rfl) (by kernel_rfl) rfl (fun v s e W W' hg ⟨q, h1, h2, h3, h4⟩ => ⟨q, h1, (hg.block q h3).trans h2, Nat.lt_of_lt_of_le h3 hg.size, h4⟩) (fun g w2 hg v1 hv1 => ?_) ?_
        · obtain ⟨rfl, h2⟩ := hv1
          have H2 := Lib.hid h2
          clear h2
          go_simp
          exact ⟨Grw.rfl w2, _, rfl, H2.out⟩
        simp only [Act.put, List.setIfInBounds_toArray, List.set_cons_zero, List.set_cons_succ]
        refine RelWalk.made1 (fun v s e W => ∃ q, v = .slice (some ⟨s, 0, none⟩) 2 2 ∧ (W.heap[s]? = some (.cells #[.bool true, .int .i64 0, .int .i64 0, .slice none 0 0, .slice none 0 0, .int .i64 0, .slice none 0 0, .bool true, .int .i64 0, .int .i64 0, .slice none 0 0, .slice (some ⟨q, 0, none⟩) 1 1, .int .i64 0, .slice none 0 0] 38 (0, 0)) ∧ s < W.heap.size ∧ w10.heap.size ≤ s) ∧ (W.heap[q]? = some (.cells #[.int .i64 3, .int .i64 11, .slice none 0 0] 25 (0, 0)) ∧ q < W.heap.size ∧ w10.heap.size ≤ q)) rfl (by kernel_rfl) (by kernel_rfl) rfl (fun v s e W W' hg ⟨q, h1, h2, h3⟩ => ⟨q, h1, ⟨(hg.block s h2.2.1).trans h2.1, Nat.lt_of_lt_of_le h2.2.1 hg.size, h2.2.2⟩, (hg.block q h3.2.1).trans h3.1, Nat.lt_of_lt_of_le h3.2.1 hg.size, h3.2.2⟩) (fun g w2 hg v1 hv1 => ?_) ?_
        · obtain ⟨q, rfl, h2⟩ := hv1
          have H2 := Lib.hid h2
          have hz := hg.size
          clear h2
          go_simp
          exact ⟨below_al w2 _, rfl, q, ⟨World.alloc_heap_new w2 _, by simp, hz⟩, ((below_al w2 _).block q H2.out.2.1).trans H2.out.1, Nat.lt_of_lt_of_le H2.out.2.1 (below_al w2 _).size, H2.out.2.2⟩
        simp only [Act.put, List.setIfInBounds_toArray, List.set_cons_zero, List.set_cons_succ]
        apply RelWalk.next 1
        · kernel_rfl
        · intro X0 _ W hW hcl
          simp only [List.take_succ_cons, List.take_zero]
          have dU := Lib.hid (fun q => into hcl (HU1.out (W q)))
          repeat (go_big_quiet_step (with_reducible exact dU.out _))
          exact wpQuiet_nil rfl
        simp only [List.drop_succ_cons, List.drop_zero]
        refine RelWalk.made1 (fun v s e W => ∃ p q, v = .agg #[.int .i64 0, .slice (some ⟨p, 0, none⟩) 2 2, .slice none 0 0, .int .i64 2, .int .i64 0, .slice none 0 0] ∧ (W.heap[p]? = some (.cells #[.bool true, .int .i64 0, .int .i64 0, .slice none 0 0, .slice none 0 0, .int .i64 0, .slice none 0 0, .bool true, .int .i64 0, .int .i64 0, .slice none 0 0, .slice (some ⟨q, 0, none⟩) 1 1, .int .i64 0, .slice none 0 0] 38 (0, 0)) ∧ p < W.heap.size ∧ w10.heap.size ≤ p) ∧ (W.heap[q]? = some (.cells #[.int .i64 3, .int .i64 11, .slice none 0 0] 25 (0, 0)) ∧ q < W.heap.size ∧ w10.heap.size ≤ q)) rfl (by kernel_rfl) (by kernel_rfl) rfl (fun v s e W W' hg ⟨p, q, h1, h2, h3⟩ => ⟨p, q, h1, ⟨(hg.block p h2.2.1).trans h2.1, Nat.lt_of_lt_of_le h2.2.1 hg.size, h2.2.2⟩, (hg.block q h3.2.1).trans h3.1, Nat.lt_of_lt_of_le h3.2.1 hg.size, h3.2.2⟩) (fun g w2 hg v1 hv1 => ?_) ?_
        · obtain ⟨q, rfl, h2⟩ := hv1
          have H2 := Lib.hid h2
          clear h2
          go_simp
          exact ⟨Grw.rfl w2, _, rfl, q, H2.out⟩
        simp only [Act.put, List.setIfInBounds_toArray, List.set_cons_zero, List.set_cons_succ]
        refine RelWalk.made1 (fun v s e W => ∃ p q, v = .slice (some ⟨s, 0, none⟩) 1 1 ∧ (W.heap[s]? = some (.cells #[.int .i64 0, .slice (some ⟨p, 0, none⟩) 2 2, .slice none 0 0, .int .i64 2, .int .i64 0, .slice none 0 0] 35 (0, 0)) ∧ s < W.heap.size ∧ w10.heap.size ≤ s) ∧ (W.heap[p]? = some (.cells #[.bool true, .int .i64 0, .int .i64 0, .slice none 0 0, .slice none 0 0, .int .i64 0, .slice none 0 0, .bool true, .int .i64 0, .int .i64 0, .slice none 0 0, .slice (some ⟨q, 0, none⟩) 1 1, .int .i64 0, .slice none 0 0] 38 (0, 0)) ∧ p < W.heap.size ∧ w10.heap.size ≤ p) ∧ (W.heap[q]? = some (.cells #[.int .i64 3, .int .i64 11, .slice none 0 0] 25 (0, 0)) ∧ q < W.heap.size ∧ w10.heap.size ≤ q)) rfl (by kernel_rfl) (by kernel_rfl) rfl (fun v s e W W' hg ⟨p, q, h1, h4, h2, h3⟩ => ⟨p, q, h1, ⟨(hg.block s h4.2.1).trans h4.1, Nat.lt_of_lt_of_le h4.2.1 hg.size, h4.2.2⟩, ⟨(hg.block p h2.2.1).trans h2.1, Nat.lt_of_lt_of_le h2.2.1 hg.size, h2.2.2⟩, (hg.block q h3.2.1).trans h3.1, Nat.lt_of_lt_of_le h3.2.1 hg.size, h3.2.2⟩) (fun g w2 hg v1 hv1 => ?_) ?_
        · obtain ⟨p, q, rfl, h2, h3⟩ := hv1
          have H2 := Lib.hid h2
          have H3 := Lib.hid h3
          have hz := hg.size
          clear h2 h3
          go_simp
          exact ⟨below_al w2 _, rfl, p, ⟨World.alloc_heap_new w2 _, by simp, hz⟩, q, ⟨((below_al w2 _).block p H2.out.2.1).trans H2.out.1, Nat.lt_of_lt_of_le H2.out.2.1 (below_al w2 _).size, H2.out.2.2⟩, ((below_al w2 _).block q H3.out.2.1).trans H3.out.1, Nat.lt_of_lt_of_le H3.out.2.1 (below_al w2 _).size, H3.out.2.2⟩
        simp only [Act.put, List.setIfInBounds_toArray, List.set_cons_zero, List.set_cons_succ]
        refine .done fun g w11 hg hpt => ?_
        simp only [Spread]
        rintro v79 ⟨s5, s6, rfl, hCB, hAB, hTB⟩ v78 _ v76 _ v75 _ v74 _
        simp only [Act.put, List.setIfInBounds_toArray, List.set_cons_zero, List.set_cons_succ]
        obtain ⟨p79, hp79⟩ : ∃ s, (g 79).1 = s := ⟨_, rfl⟩
        rw [hp79] at hCB ⊢
        clear hpt hp79
        have S12 := Lib.hid (S11.out.bel hg)
        have HTX : Hid (AtS (fun b => L ≤ b ∧ b ≠ P ∧ b ≠ E + 1) w11 [(decDom 3)] (.slice (some ⟨s6, 0, none⟩) 1 1)) := by
          refine (AtS.row [(decDom 3)] s6 0 1 (fun _ => .slice none 0 0) (fun _ => ?_) (by decide) (by decide) (fun i hi => ?_) (fun i hi => ?_) (fun i hi => ?_) (fun i hi => ?_))
          · have h1 := (Array.getElem?_eq_some_iff.1 HDX.out).1
            have h2 := S11.out.2.2.2.2.1
            have h3 := (Array.getElem?_eq_some_iff.1 S11.out.2.2.2.2.2.2.1).1
            have h4 := hTB.2.2
            exact ⟨by omega, by omega, by omega⟩
          · obtain rfl : i = 0 := by simpa using hi
            simp [World.cell?, hTB.1]; rfl
          · obtain rfl : i = 0 := by simpa using hi
            simp [World.cell?, hTB.1]; rfl
          · obtain rfl : i = 0 := by simpa using hi
            simp [World.cell?, hTB.1]
          · obtain rfl : i = 0 := by simpa using hi
            exact S12.out.2.2.2.2.2.2.2.2
        have HCB := Lib.hid hCB
        have HAB := Lib.hid hAB
        have hM2 := S12.out.1.2.2.2.1
        have hL2 := S12.out.2.2.1
        have HS7 : Hid (∀ w7, w11.grownBy w7 (Value.slice a j c).ownBlock → w7.heap[M + 1]? = some (.cells #[.slice (some ⟨M, 0, none⟩) 1 1, .slice a j c, .int .i64 0] 33 (0, 0))) := fun w7 hg7 =>
          (hg7.block _ (by omega) (fun e => by have := (S12.out.1.2.2.1.lt _ e.symm).1; omega)).trans S12.out.1.2.1
        clear hCB hAB hTB hg
        obtain ⟨⟨x0, x1, x2⟩, _⟩ := boxc S12.out.1.2.1
        go_wp2_with (at_builtin; refine wpList_append_lies _ rfl (.tmp 71) (.tmp 79) 31 rfl (M + 2) 35 i0 _ 6 96 Try.underlying31 hi hy0 hy1 hy2 rfl (by decide) (.slice a j c) j _ rfl S12.out.1.2.2.1 ⟨p79, 0, none⟩ 1 1 [.int .i64 0, .slice (some ⟨s5, 0, none⟩) 2 2, .slice none 0 0, .int .i64 2, .int .i64 0, .slice none 0 0] rfl rfl (by have := World.news_of_block HCB.out.1; simpa using this) (by simp [Value.oneCell']) (by decide) hm1 hm2 (by omega) w11.heap.size rfl ?_; intro g7 cp w12 hown7 hgrow7 hat7 hlt7; obtain ⟨⟨p0, p1', p2'⟩, p3', p4, p5⟩ := boxc (HS7.out _ hgrow7))
        obtain ⟨w13, hw13⟩ : ∃ w13, w13 = w12.setCell ⟨M + 1, 1, none⟩ (.slice (some ⟨g7, 0, none⟩) (j + 1) cp) := ⟨_, rfl⟩
        rw [← hw13]
        have oth : ∀ b, b ≠ M + 1 → w13.heap[b]? = w12.heap[b]? := fun b hb => by rw [hw13]; exact other_tb1 hb _
        have far : ∀ b, b < w11.heap.size → some b ≠ (Value.slice a j c).ownBlock → b ≠ M + 1 → w13.heap[b]? = w11.heap[b]? := fun b h1 h2 h3 => (oth b h3).trans (hgrow7.block b h1 h2)
        have hno : ∀ b, L ≤ b → some b ≠ (Value.slice a j c).ownBlock := fun b hb e => by have := S12.out.2.1 b e.symm; omega
        have hwM := S12.out.1.2.2.2.2.1
        have hL10 : L ≤ w10.heap.size := by
          have h1 := (Array.getElem?_eq_some_iff.1 HDX.out).1
          have h2 := S11.out.2.2.2.2.1
          omega
        have hbel : Below w.heap.size w w13 := by
          rw [hw13]
          exact (S12.out.1.2.2.2.2.2.trans ((Below.refl w.heap.size w11).grown hgrow7 (by omega) (fun k hk => by have := (S12.out.1.2.2.1.lt k hk).1; omega))).trans (below_tb1 (by omega) _)
        have hbat : BAt w13 (decBlk j 3) (.slice (some ⟨M, 0, none⟩) 1 1) (.slice (some ⟨g7, 0, none⟩) (j + 1) cp) := by
          refine ⟨?_, ?_⟩
          · have hM := (far M (by omega) (fun e => by have := (S12.out.1.2.2.1.lt _ e.symm).1; omega) (by omega)).trans S12.out.1.1
            refine GAt.row [(⟨[], 1, true, u0T⟩ : SortT)] M 0 1 (fun _ => [.slice none 0 0, .int .i64 1, .bool true, .int .i64 2, .int .i64 0, .slice none 0 0]) (by decide) (by decide) (by decide) (fun i hi => ?_) (fun i hi r hr => ?_)
            · obtain rfl : i = 0 := by simpa using hi
              exact ⟨⟨.slice none 0 0, .slice none 0 0, rfl, .nl, .nl⟩, rfl⟩
            · obtain rfl : i = 0 := by simpa using hi
              simp [World.cell?, hM]
          · have hs5 := HAB.out.2.1
            have hA5 := (far s5 hs5 (hno s5 (by have := HAB.out.2.2; omega)) (by have := HAB.out.2.2; omega)).trans HAB.out.1
            have hD5 : At w13 [decDom 3] (.slice (some ⟨s6, 0, none⟩) 1 1) := (HTX.out.bnd.same (T := fun _ => True) fun b hb => ⟨trivial, far b hb.2 (hno b hb.1.1) (by have := hb.1.1; omega)⟩).at
            have hargs : ARow w13 [decFirst 3, ⟨true, zT, [decDom 3], 0, []⟩] (.slice (some ⟨s5, 0, none⟩) 2 2) := by
              refine GAt.row [decFirst 3, (⟨true, zT, [decDom 3], 0, []⟩ : ArgT)] s5 0 2 (fun i => if i = 0 then [.bool true, .int .i64 0, .int .i64 0, .slice none 0 0, .slice none 0 0, .int .i64 0, .slice none 0 0] else [.bool true, .int .i64 0, .int .i64 0, .slice none 0 0, .slice (some ⟨s6, 0, none⟩) 1 1, .int .i64 0, .slice none 0 0]) (by decide) (by decide) (by decide) (fun i hi => ?_) (fun i hi r hr => ?_)
              · have : i = 0 ∨ i = 1 := by have : i < 2 := hi; omega
                rcases this with rfl | rfl
                · exact ⟨⟨.slice none 0 0, .slice none 0 0, .slice none 0 0, rfl, .nl, .nl, .nl⟩, rfl⟩
                · exact ⟨⟨.slice none 0 0, .slice (some ⟨s6, 0, none⟩) 1 1, .slice none 0 0, rfl, .nl, hD5, .nl⟩, rfl⟩
              · have hi2 : i = 0 ∨ i = 1 := by have : i < 2 := hi; omega
                have hr7 : r = 0 ∨ r = 1 ∨ r = 2 ∨ r = 3 ∨ r = 4 ∨ r = 5 ∨ r = 6 := by omega
                rcases hi2 with rfl | rfl <;> rcases hr7 with rfl | rfl | rfl | rfl | rfl | rfl | rfl <;> simp [World.cell?, hA5]
            have hown : w13.ownsRow (M + 2) 35 6 (.slice (some ⟨g7, 0, none⟩) (j + 1) cp) (j + 1) ((List.range (j + 1)).flatMap fun i => if i < j then decCS else [.int .i64 0, .slice (some ⟨s5, 0, none⟩) 2 2, .slice none 0 0, .int .i64 2, .int .i64 0, .slice none 0 0]) := by
              rw [flatG_snoc (fun _ => decCS) _ (fun i hi => if_pos hi), if_neg (Nat.lt_irrefl j)]
              exact ownsRow_same hown7 fun b hb => oth b (by have := (hown7.lt b hb).1; omega)
            have hlen : (decBlk j 3).cons.length = j + 1 := by simp [decBlk]
            have hg := gats_of_row (S := fun _ => True) (C := conC w13) (l := (decBlk j 3).cons) (f := fun i => if i < j then decCS else [.int .i64 0, .slice (some ⟨s5, 0, none⟩) 2 2, .slice none 0 0, .int .i64 2, .int .i64 0, .slice none 0 0]) (by rw [hlen]; exact hown) (by decide) (fun _ _ => trivial) (fun i hi => by
              by_cases hij : i < j
              · have e : (decBlk j 3).cons[i] = decCon := by simp [decBlk, hij]
                rw [e, if_pos hij]
                exact ⟨⟨.slice none 0 0, .slice none 0 0, .slice none 0 0, rfl, .nl, .nl, .nl⟩, rfl⟩
              · obtain rfl : i = j := by omega
                have e : (decBlk i 3).cons[i] = decLast 3 := by simp [decBlk]
                rw [e, if_neg hij]
                exact ⟨⟨.slice (some ⟨s5, 0, none⟩) 2 2, .slice none 0 0, .slice none 0 0, rfl, hargs, .nl, .nl⟩, rfl⟩)
            exact hg.at fun _ _ h => h
        have HCK := Lib.hid (s8check_any (decBlk j 3) (dec_size ⟨j, hn5⟩ ⟨3, by decide⟩) (dec_fits j 3) 10 w13 _ _ hbat)
        have hdp : positB (decBlk j 3) 10 = 11 := by
          have h := dec_posit ⟨j, hn5⟩ ⟨3, by decide⟩
          simpa [decWant] using h
        rw [hdp] at HCK
        have HB13 := Lib.hid hbel
        clear hbat hbel hdp hw13 oth far hno hown7 hgrow7 hat7 hlt7
        refine HCK.out.mono ?_
        rintro e w14 ⟨rfl, hb14⟩
        have HB14 := Lib.hid (HB13.out.trans (hb14.mono HB13.out.size))
        clear hb14
        go_wp2_with fail
        refine (wakes8_any w14).mono ?_
        rintro e w15 ⟨rfl, hb15⟩
        have HB15 := Lib.hid (HB14.out.trans (hb15.mono HB14.out.size))
        clear hb15
        go_wp2_with fail
        go_ret
        exact ⟨ret_bool rfl, HB15.out⟩
      · skip
        obtain ⟨⟨x0, x1, x2⟩, _⟩ := boxc E8.out
        have HU0 := Lib.hid (fun W => u_any 0 W)
        go_wp2_with fail
        clear x0 x1 x2
        refine wp_region_rel_tail 8 (by kernel_rfl) (by kernel_rfl) (by kernel_rfl) ?_
        simp only [List.take_succ_cons, List.take_zero]
        simp only [List.drop_succ_cons, List.drop_zero]
        apply RelWalk.next 5
        · kernel_rfl
        · intro X0 _ W hW hcl
          simp only [List.take_succ_cons, List.take_zero]
          obtain ⟨⟨z0, z1, z2⟩, _⟩ := boxc E8.out
          have r0 := fun q => gcell (hW q) z0
          have r1 := fun q => gcell (hW q) z1
          have r2 := fun q => gcell (hW q) z2
          have dV := Lib.hid (fun q => into hcl (HV.out (W q)))
          clear z0 z1 z2
          repeat (go_big_quiet_step (with_reducible exact dV.out _))
          exact wpQuiet_nil rfl
        simp only [List.drop_succ_cons, List.drop_zero]
        refine RelWalk.made0 (fun v s e W => ∃ x c, v = .agg #[.int .i64 6, .int .i64 0, .slice x 2 c] ∧ AtS (fun b => w8.heap.size ≤ b) W [c11T, var0T] (.slice x 2 c)) rfl (by kernel_rfl) (by kernel_rfl) rfl (fun v s e W W' hg ⟨x, c, h1, h2⟩ => ⟨x, c, h1, h2.grw hg⟩) (fun w2 hg => ?_) ?_
        · have hz := hg.size
          have hc := Lib.hid (maker_any (fun _ => False) 6 c11T var0T w2 (.slice none 0 0) (.slice none 0 0) (fun b hb => hb.elim) .nl .nl)
          go_simp
          exact rel_enter (hc.out.mono fun e w3 ⟨x3, c3, he, hA3, hb3⟩ => ⟨_, he, hb3, x3, c3, rfl, hA3.same fun b hb => ⟨by rcases hb with h | h; exact h.elim; omega, rfl⟩⟩)
        simp only [Act.put, List.setIfInBounds_toArray, List.set_cons_zero, List.set_cons_succ]
        apply RelWalk.next 1
        · kernel_rfl
        · intro X0 _ W hW hcl
          simp only [List.take_succ_cons, List.take_zero]
          have dU := Lib.hid (fun q => into hcl (HU0.out (W q)))
          repeat (go_big_quiet_step (with_reducible exact dU.out _))
          exact wpQuiet_nil rfl
        simp only [List.drop_succ_cons, List.drop_zero]
        refine RelWalk.made1 (fun v s e W => ∃ x c, v = .agg #[.int .i64 6, .int .i64 0, .slice x 2 c] ∧ AtS (fun b => w8.heap.size ≤ b) W [appT c11T var0T, u0T] (.slice x 2 c)) rfl (by kernel_rfl) (by kernel_rfl) rfl (fun v s e W W' hg ⟨x, c, h1, h2⟩ => ⟨x, c, h1, h2.grw hg⟩) (fun g w2 hg v1 hv1 => ?_) ?_
        · obtain ⟨x1, c1, rfl, hA1⟩ := hv1
          have hz := hg.size
          have hc := Lib.hid (maker_any (fun b => w8.heap.size ≤ b ∧ b < w2.heap.size) 6 (appT c11T var0T) u0T w2 (.slice x1 2 c1) (.slice none 0 0) (fun b hb => hb.2) hA1.bnd .nl)
          clear hA1
          go_simp
          exact rel_enter (hc.out.mono fun e w3 ⟨x3, c3, he, hA3, hb3⟩ => ⟨_, he, hb3, x3, c3, rfl, hA3.same fun b hb => ⟨by rcases hb with h | h; exact h.1; omega, rfl⟩⟩)
        simp only [Act.put, List.setIfInBounds_toArray, List.set_cons_zero, List.set_cons_succ]
        refine .done fun g w9 hg hpt => ?_
        simp only [Spread]
        rintro v69 ⟨x9, c9, rfl, hA9⟩ v67 _
        simp only [Act.put, List.setIfInBounds_toArray, List.set_cons_zero, List.set_cons_succ]
        have hPs := (Array.getElem?_eq_some_iff.1 S8.out.2.2.2.2.2.2.2.1).1
        have hFs := (Array.getElem?_eq_some_iff.1 S8.out.2.2.2.2.2.2.1).1
        have hLF := S8.out.2.2.2.1
        have HA9 := Lib.hid (show AtS (fun b => L ≤ b ∧ b ≠ P ∧ b ≠ E + 1) w9 (appT (appT c11T var0T) u0T).kids (.slice x9 2 c9) from hA9.same fun b hb => ⟨⟨by omega, by omega, by omega⟩, rfl⟩)
        have S9 := Lib.hid (S8.out.bel hg)
        clear hg hpt hA9 S8 hPs hFs hLF
        obtain ⟨⟨y0, y1, y2⟩, f0, f1, f2⟩ := boxc S9.out.2.2.2.2.2.2.2.1
        go_upto_region 25 with (fail)
        have S10 := Lib.hid (S9.out.putD (appT (appT c11T var0T) u0T) x9 c9 HA9.out)
        clear y0 y1 y2 f0 f1 f2 S9 HA9
        have S11 : Hid (DecSt w M j a c L (E + 1) P true 0 (appT (appT c11T var0T) u0T) x9 c9 (((w9.setCell ⟨P, 0, none⟩ (.int .i64 6)).setCell ⟨P, 1, none⟩ (.int .i64 0)).setCell ⟨P, 2, none⟩ (.slice x9 2 c9))) := S10.out
        obtain ⟨w10, hw10⟩ : ∃ w10, w10 = (((w9.setCell ⟨P, 0, none⟩ (.int .i64 6)).setCell ⟨P, 1, none⟩ (.int .i64 0)).setCell ⟨P, 2, none⟩ (.slice x9 2 c9)) := ⟨_, rfl⟩
        rw [← hw10] at S11 ⊢
        clear S10 hw10
        have HDX : Hid (w10.heap[P]? = some (.cells #[.int .i64 6, .int .i64 0, .slice x9 2 c9] 25 (0, 0))) := S11.out.2.2.2.2.2.2.2.1
        have HU1 := Lib.hid (fun W => u_any 0 W)
        have hm1 : j + 1 ≤ maxLen := by unfold maxLen; omega
        have hm2 : (j + 1) * 96 ≤ 140737488355328 := by omega
        obtain ⟨i0, hi, hy0, hy1, hy2⟩ := info_parts Try.infoCn
        refine wp_region_rel_tail 10 (by kernel_rfl) (by kernel_rfl) (by kernel_rfl) ?_
        simp only [List.take_succ_cons, List.take_zero]
        simp only [List.drop_succ_cons, List.drop_zero]
        apply RelWalk.next 4
        · kernel_rfl
        · intro X0 _ W hW hcl
          simp only [List.take_succ_cons, List.take_zero]
          obtain ⟨⟨z0, z1, z2⟩, _⟩ := boxc S11.out.1.2.1
          obtain ⟨⟨y0, y1, y2, y3, y4, y5, y6⟩, _⟩ := cells7a S11.out.2.2.2.2.2.2.1
          obtain ⟨⟨x0, x1, x2⟩, _⟩ := boxc HDX.out
          have q0 := fun q => gcell (hW q) z0
          have q1 := fun q => gcell (hW q) z1
          have q2 := fun q => gcell (hW q) z2
          have r0 := fun q => gcell (hW q) y0
          have r1 := fun q => gcell (hW q) y1
          have r2 := fun q => gcell (hW q) y2
          have r3 := fun q => gcell (hW q) y3
          have r4 := fun q => gcell (hW q) y4
          have r5 := fun q => gcell (hW q) y5
          have r6 := fun q => gcell (hW q) y6
          have p0 := fun q => gcell (hW q) x0
          have p1 := fun q => gcell (hW q) x1
          have p2 := fun q => gcell (hW q) x2
          clear x0 x1 x2 y0 y1 y2 y3 y4 y5 y6 z0 z1 z2
          repeat (go_big_quiet_step (fail))
          exact wpQuiet_nil rfl
        simp only [List.drop_succ_cons, List.drop_zero]
        refine RelWalk.made0 (fun v s e W => v = .slice (some ⟨s, 0, none⟩) 1 1 ∧ (W.heap[s]? = some (.cells #[.int .i64 6, .int .i64 0, .slice x9 2 c9] 25 (0, 0)) ∧ s < W.heap.size ∧ w10.heap.size ≤ s)) rfl (by kernel_rfl) (by kernel_rfl) rfl (fun v s e W W' hg h => ⟨h.1, (hg.block s h.2.2.1).trans h.2.1, Nat.lt_of_lt_of_le h.2.2.1 hg.size, h.2.2.2⟩) (fun w2 hg => ?_) ?_
        · have hz := hg.size
          go_simp
          exact ⟨below_al w2 _, rfl, World.alloc_heap_new w2 _, by simp, hz⟩
        simp only [Act.put, List.setIfInBounds_toArray, List.set_cons_zero, List.set_cons_succ]
        refine RelWalk.made1 (fun v s e W => ∃ q, v = .agg #[.bool true, .int .i64 0, .int .i64 0, .slice none 0 0, .slice (some ⟨q, 0, none⟩) 1 1, .int .i64 0, .slice none 0 0] ∧ (W.heap[q]? = some (.cells #[.int .i64 6, .int .i64 0, .slice x9 2 c9] 25 (0, 0)) ∧ q < W.heap.size ∧ w10.heap.size ≤ q)) rfl (by kernel_rfl) (by kernel_rfl) rfl (fun v s e W W' hg ⟨q, h1, h2, h3, h4⟩ => ⟨q, h1, (hg.block q h3).trans h2, Nat.lt_of_lt_of_le h3 hg.size, h4⟩) (fun g w2 hg v1 hv1 => ?_) ?_
        · obtain ⟨rfl, h2⟩ := hv1
          have H2 := Lib.hid h2
          clear h2
          go_simp
          exact ⟨Grw.rfl w2, _, rfl, H2.out⟩
        simp only [Act.put, List.setIfInBounds_toArray, List.set_cons_zero, List.set_cons_succ]
        refine RelWalk.made1 (fun v s e W => ∃ q, v = .slice (some ⟨s, 0, none⟩) 2 2 ∧ (W.heap[s]? = some (.cells #[.bool true, .int .i64 0, .int .i64 0, .slice none 0 0, .slice none 0 0, .int .i64 0, .slice none 0 0, .bool true, .int .i64 0, .int .i64 0, .slice none 0 0, .slice (some ⟨q, 0, none⟩) 1 1, .int .i64 0, .slice none 0 0] 38 (0, 0)) ∧ s < W.heap.size ∧ w10.heap.size ≤ s) ∧ (W.heap[q]? = some (.cells #[.int .i64 6, .int .i64 0, .slice x9 2 c9] 25 (0, 0)) ∧ q < W.heap.size ∧ w10.heap.size ≤ q)) rfl (by kernel_rfl) (by kernel_rfl) rfl (fun v s e W W' hg ⟨q, h1, h2, h3⟩ => ⟨q, h1, ⟨(hg.block s h2.2.1).trans h2.1, Nat.lt_of_lt_of_le h2.2.1 hg.size, h2.2.2⟩, (hg.block q h3.2.1).trans h3.1, Nat.lt_of_lt_of_le h3.2.1 hg.size, h3.2.2⟩) (fun g w2 hg v1 hv1 => ?_) ?_
        · obtain ⟨q, rfl, h2⟩ := hv1
          have H2 := Lib.hid h2
          have hz := hg.size
          clear h2
          go_simp
          exact ⟨below_al w2 _, rfl, q, ⟨World.alloc_heap_new w2 _, by simp, hz⟩, ((below_al w2 _).block q H2.out.2.1).trans H2.out.1, Nat.lt_of_lt_of_le H2.out.2.1 (below_al w2 _).size, H2.out.2.2⟩
        simp only [Act.put, List.setIfInBounds_toArray, List.set_cons_zero, List.set_cons_succ]
        apply RelWalk.next 1
        · kernel_rfl
        · intro X0 _ W hW hcl
          simp only [List.take_succ_cons, List.take_zero]
          have dU := Lib.hid (fun q => into hcl (HU1.out (W q)))
          repeat (go_big_quiet_step (with_reducible exact dU.out _))
          exact wpQuiet_nil rfl
        simp only [List.drop_succ_cons, List.drop_zero]
        refine RelWalk.made1 (fun v s e W => ∃ p q, v = .agg #[.int .i64 0, .slice (some ⟨p, 0, none⟩) 2 2, .slice none 0 0, .int .i64 2, .int .i64 0, .slice none 0 0] ∧ (W.heap[p]? = some (.cells #[.bool true, .int .i64 0, .int .i64 0, .slice none 0 0, .slice none 0 0, .int .i64 0, .slice none 0 0, .bool true, .int .i64 0, .int .i64 0, .slice none 0 0, .slice (some ⟨q, 0, none⟩) 1 1, .int .i64 0, .slice none 0 0] 38 (0, 0)) ∧ p < W.heap.size ∧ w10.heap.size ≤ p) ∧ (W.heap[q]? = some (.cells #[.int .i64 6, .int .i64 0, .slice x9 2 c9] 25 (0, 0)) ∧ q < W.heap.size ∧ w10.heap.size ≤ q)) rfl (by kernel_rfl) (by kernel_rfl) rfl (fun v s e W W' hg ⟨p, q, h1, h2, h3⟩ => ⟨p, q, h1, ⟨(hg.block p h2.2.1).trans h2.1, Nat.lt_of_lt_of_le h2.2.1 hg.size, h2.2.2⟩, (hg.block q h3.2.1).trans h3.1, Nat.lt_of_lt_of_le h3.2.1 hg.size, h3.2.2⟩) (fun g w2 hg v1 hv1 => ?_) ?_
        · obtain ⟨q, rfl, h2⟩ := hv1
          have H2 := Lib.hid h2
          clear h2
          go_simp
          exact ⟨Grw.rfl w2, _, rfl, q, H2.out⟩
        simp only [Act.put, List.setIfInBounds_toArray, List.set_cons_zero, List.set_cons_succ]
        refine RelWalk.made1 (fun v s e W => ∃ p q, v = .slice (some ⟨s, 0, none⟩) 1 1 ∧ (W.heap[s]? = some (.cells #[.int .i64 0, .slice (some ⟨p, 0, none⟩) 2 2, .slice none 0 0, .int .i64 2, .int .i64 0, .slice none 0 0] 35 (0, 0)) ∧ s < W.heap.size ∧ w10.heap.size ≤ s) ∧ (W.heap[p]? = some (.cells #[.bool true, .int .i64 0, .int .i64 0, .slice none 0 0, .slice none 0 0, .int .i64 0, .slice none 0 0, .bool true, .int .i64 0, .int .i64 0, .slice none 0 0, .slice (some ⟨q, 0, none⟩) 1 1, .int .i64 0, .slice none 0 0] 38 (0, 0)) ∧ p < W.heap.size ∧ w10.heap.size ≤ p) ∧ (W.heap[q]? = some (.cells #[.int .i64 6, .int .i64 0, .slice x9 2 c9] 25 (0, 0)) ∧ q < W.heap.size ∧ w10.heap.size ≤ q)) rfl (by kernel_rfl) (by kernel_rfl) rfl (fun v s e W W' hg ⟨p, q, h1, h4, h2, h3⟩ => ⟨p, q, h1, ⟨(hg.block s h4.2.1).trans h4.1, Nat.lt_of_lt_of_le h4.2.1 hg.size, h4.2.2⟩, ⟨(hg.block p h2.2.1).trans h2.1, Nat.lt_of_lt_of_le h2.2.1 hg.size, h2.2.2⟩, (hg.block q h3.2.1).trans h3.1, Nat.lt_of_lt_of_le h3.2.1 hg.size, h3.2.2⟩) (fun g w2 hg v1 hv1 => ?_) ?_
        · obtain ⟨p, q, rfl, h2, h3⟩ := hv1
          have H2 := Lib.hid h2
          have H3 := Lib.hid h3
          have hz := hg.size
          clear h2 h3
          go_simp
          exact ⟨below_al w2 _, rfl, p, ⟨World.alloc_heap_new w2 _, by simp, hz⟩, q, ⟨((below_al w2 _).block p H2.out.2.1).trans H2.out.1, Nat.lt_of_lt_of_le H2.out.2.1 (below_al w2 _).size, H2.out.2.2⟩, ((below_al w2 _).block q H3.out.2.1).trans H3.out.1, Nat.lt_of_lt_of_le H3.out.2.1 (below_al w2 _).size, H3.out.2.2⟩
        simp only [Act.put, List.setIfInBounds_toArray, List.set_cons_zero, List.set_cons_succ]
        refine .done fun g w11 hg hpt => ?_
        simp only [Spread]
        rintro v79 ⟨s5, s6, rfl, hCB, hAB, hTB⟩ v78 _ v76 _ v75 _ v74 _
        simp only [Act.put, List.setIfInBounds_toArray, List.set_cons_zero, List.set_cons_succ]
        obtain ⟨p79, hp79⟩ : ∃ s, (g 79).1 = s := ⟨_, rfl⟩
        rw [hp79] at hCB ⊢
        clear hpt hp79
        have S12 := Lib.hid (S11.out.bel hg)
        have HTX : Hid (AtS (fun b => L ≤ b ∧ b ≠ P ∧ b ≠ E + 1) w11 [(decDom 4)] (.slice (some ⟨s6, 0, none⟩) 1 1)) := by
          refine (AtS.row [(decDom 4)] s6 0 1 (fun _ => .slice x9 2 c9) (fun _ => ?_) (by decide) (by decide) (fun i hi => ?_) (fun i hi => ?_) (fun i hi => ?_) (fun i hi => ?_))
          · have h1 := (Array.getElem?_eq_some_iff.1 HDX.out).1
            have h2 := S11.out.2.2.2.2.1
            have h3 := (Array.getElem?_eq_some_iff.1 S11.out.2.2.2.2.2.2.1).1
            have h4 := hTB.2.2
            exact ⟨by omega, by omega, by omega⟩
          · obtain rfl : i = 0 := by simpa using hi
            simp [World.cell?, hTB.1]; rfl
          · obtain rfl : i = 0 := by simpa using hi
            simp [World.cell?, hTB.1]; rfl
          · obtain rfl : i = 0 := by simpa using hi
            simp [World.cell?, hTB.1]
          · obtain rfl : i = 0 := by simpa using hi
            exact S12.out.2.2.2.2.2.2.2.2
        have HCB := Lib.hid hCB
        have HAB := Lib.hid hAB
        have hM2 := S12.out.1.2.2.2.1
        have hL2 := S12.out.2.2.1
        have HS7 : Hid (∀ w7, w11.grownBy w7 (Value.slice a j c).ownBlock → w7.heap[M + 1]? = some (.cells #[.slice (some ⟨M, 0, none⟩) 1 1, .slice a j c, .int .i64 0] 33 (0, 0))) := fun w7 hg7 =>
          (hg7.block _ (by omega) (fun e => by have := (S12.out.1.2.2.1.lt _ e.symm).1; omega)).trans S12.out.1.2.1
        clear hCB hAB hTB hg
        obtain ⟨⟨x0, x1, x2⟩, _⟩ := boxc S12.out.1.2.1
        go_wp2_with (at_builtin; refine wpList_append_lies _ rfl (.tmp 71) (.tmp 79) 31 rfl (M + 2) 35 i0 _ 6 96 Try.underlying31 hi hy0 hy1 hy2 rfl (by decide) (.slice a j c) j _ rfl S12.out.1.2.2.1 ⟨p79, 0, none⟩ 1 1 [.int .i64 0, .slice (some ⟨s5, 0, none⟩) 2 2, .slice none 0 0, .int .i64 2, .int .i64 0, .slice none 0 0] rfl rfl (by have := World.news_of_block HCB.out.1; simpa using this) (by simp [Value.oneCell']) (by decide) hm1 hm2 (by omega) w11.heap.size rfl ?_; intro g7 cp w12 hown7 hgrow7 hat7 hlt7; obtain ⟨⟨p0, p1', p2'⟩, p3', p4, p5⟩ := boxc (HS7.out _ hgrow7))
        obtain ⟨w13, hw13⟩ : ∃ w13, w13 = w12.setCell ⟨M + 1, 1, none⟩ (.slice (some ⟨g7, 0, none⟩) (j + 1) cp) := ⟨_, rfl⟩
        rw [← hw13]
        have oth : ∀ b, b ≠ M + 1 → w13.heap[b]? = w12.heap[b]? := fun b hb => by rw [hw13]; exact other_tb1 hb _
        have far : ∀ b, b < w11.heap.size → some b ≠ (Value.slice a j c).ownBlock → b ≠ M + 1 → w13.heap[b]? = w11.heap[b]? := fun b h1 h2 h3 => (oth b h3).trans (hgrow7.block b h1 h2)
        have hno : ∀ b, L ≤ b → some b ≠ (Value.slice a j c).ownBlock := fun b hb e => by have := S12.out.2.1 b e.symm; omega
        have hwM := S12.out.1.2.2.2.2.1
        have hL10 : L ≤ w10.heap.size := by
          have h1 := (Array.getElem?_eq_some_iff.1 HDX.out).1
          have h2 := S11.out.2.2.2.2.1
          omega
        have hbel : Below w.heap.size w w13 := by
          rw [hw13]
          exact (S12.out.1.2.2.2.2.2.trans ((Below.refl w.heap.size w11).grown hgrow7 (by omega) (fun k hk => by have := (S12.out.1.2.2.1.lt k hk).1; omega))).trans (below_tb1 (by omega) _)
        have hbat : BAt w13 (decBlk j 4) (.slice (some ⟨M, 0, none⟩) 1 1) (.slice (some ⟨g7, 0, none⟩) (j + 1) cp) := by
          refine ⟨?_, ?_⟩
          · have hM := (far M (by omega) (fun e => by have := (S12.out.1.2.2.1.lt _ e.symm).1; omega) (by omega)).trans S12.out.1.1
            refine GAt.row [(⟨[], 1, true, u0T⟩ : SortT)] M 0 1 (fun _ => [.slice none 0 0, .int .i64 1, .bool true, .int .i64 2, .int .i64 0, .slice none 0 0]) (by decide) (by decide) (by decide) (fun i hi => ?_) (fun i hi r hr => ?_)
            · obtain rfl : i = 0 := by simpa using hi
              exact ⟨⟨.slice none 0 0, .slice none 0 0, rfl, .nl, .nl⟩, rfl⟩
            · obtain rfl : i = 0 := by simpa using hi
              simp [World.cell?, hM]
          · have hs5 := HAB.out.2.1
            have hA5 := (far s5 hs5 (hno s5 (by have := HAB.out.2.2; omega)) (by have := HAB.out.2.2; omega)).trans HAB.out.1
            have hD5 : At w13 [decDom 4] (.slice (some ⟨s6, 0, none⟩) 1 1) := (HTX.out.bnd.same (T := fun _ => True) fun b hb => ⟨trivial, far b hb.2 (hno b hb.1.1) (by have := hb.1.1; omega)⟩).at
            have hargs : ARow w13 [decFirst 4, ⟨true, zT, [decDom 4], 0, []⟩] (.slice (some ⟨s5, 0, none⟩) 2 2) := by
              refine GAt.row [decFirst 4, (⟨true, zT, [decDom 4], 0, []⟩ : ArgT)] s5 0 2 (fun i => if i = 0 then [.bool true, .int .i64 0, .int .i64 0, .slice none 0 0, .slice none 0 0, .int .i64 0, .slice none 0 0] else [.bool true, .int .i64 0, .int .i64 0, .slice none 0 0, .slice (some ⟨s6, 0, none⟩) 1 1, .int .i64 0, .slice none 0 0]) (by decide) (by decide) (by decide) (fun i hi => ?_) (fun i hi r hr => ?_)
              · have : i = 0 ∨ i = 1 := by have : i < 2 := hi; omega
                rcases this with rfl | rfl
                · exact ⟨⟨.slice none 0 0, .slice none 0 0, .slice none 0 0, rfl, .nl, .nl, .nl⟩, rfl⟩
                · exact ⟨⟨.slice none 0 0, .slice (some ⟨s6, 0, none⟩) 1 1, .slice none 0 0, rfl, .nl, hD5, .nl⟩, rfl⟩
              · have hi2 : i = 0 ∨ i = 1 := by have : i < 2 := hi; omega
                have hr7 : r = 0 ∨ r = 1 ∨ r = 2 ∨ r = 3 ∨ r = 4 ∨ r = 5 ∨ r = 6 := by omega
                rcases hi2 with rfl | rfl <;> rcases hr7 with rfl | rfl | rfl | rfl | rfl | rfl | rfl <;> simp [World.cell?, hA5]
            have hown : w13.ownsRow (M + 2) 35 6 (.slice (some ⟨g7, 0, none⟩) (j + 1) cp) (j + 1) ((List.range (j + 1)).flatMap fun i => if i < j then decCS else [.int .i64 0, .slice (some ⟨s5, 0, none⟩) 2 2, .slice none 0 0, .int .i64 2, .int .i64 0, .slice none 0 0]) := by
              rw [flatG_snoc (fun _ => decCS) _ (fun i hi => if_pos hi), if_neg (Nat.lt_irrefl j)]
              exact ownsRow_same hown7 fun b hb => oth b (by have := (hown7.lt b hb).1; omega)
            have hlen : (decBlk j 4).cons.length = j + 1 := by simp [decBlk]
            have hg := gats_of_row (S := fun _ => True) (C := conC w13) (l := (decBlk j 4).cons) (f := fun i => if i < j then decCS else [.int .i64 0, .slice (some ⟨s5, 0, none⟩) 2 2, .slice none 0 0, .int .i64 2, .int .i64 0, .slice none 0 0]) (by rw [hlen]; exact hown) (by decide) (fun _ _ => trivial) (fun i hi => by
              by_cases hij : i < j
              · have e : (decBlk j 4).cons[i] = decCon := by simp [decBlk, hij]
                rw [e, if_pos hij]
                exact ⟨⟨.slice none 0 0, .slice none 0 0, .slice none 0 0, rfl, .nl, .nl, .nl⟩, rfl⟩
              · obtain rfl : i = j := by omega
                have e : (decBlk i 4).cons[i] = decLast 4 := by simp [decBlk]
                rw [e, if_neg hij]
                exact ⟨⟨.slice (some ⟨s5, 0, none⟩) 2 2, .slice none 0 0, .slice none 0 0, rfl, hargs, .nl, .nl⟩, rfl⟩)
            exact hg.at fun _ _ h => h
        have HCK := Lib.hid (s8check_any (decBlk j 4) (dec_size ⟨j, hn5⟩ ⟨4, by decide⟩) (dec_fits j 4) 10 w13 _ _ hbat)
        have hdp : positB (decBlk j 4) 10 = 0 := by
          have h := dec_posit ⟨j, hn5⟩ ⟨4, by decide⟩
          simpa [decWant] using h
        rw [hdp] at HCK
        have HB13 := Lib.hid hbel
        clear hbat hbel hdp hw13 oth far hno hown7 hgrow7 hat7 hlt7
        refine HCK.out.mono ?_
        rintro e w14 ⟨rfl, hb14⟩
        have HB14 := Lib.hid (HB13.out.trans (hb14.mono HB13.out.size))
        clear hb14
        go_wp2_with fail
        refine (wakes8_any w14).mono ?_
        rintro e w15 ⟨rfl, hb15⟩
        have HB15 := Lib.hid (HB14.out.trans (hb15.mono HB14.out.size))
        clear hb15
        go_wp2_with fail
        go_ret
        exact ⟨ret_bool rfl, HB15.out⟩
      · go_wp2_with fail
        refine (HV.out _).mono ?_
        rintro e w9 ⟨rfl, hb9⟩
        have S9 := Lib.hid (S8.out.bel hb9)
        clear S8 hb9
        obtain ⟨⟨y0, y1, y2⟩, f0, f1, f2⟩ := boxc S9.out.2.2.2.2.2.2.2.1
        go_upto_region 25 with (fail)
        have S10 := Lib.hid (S9.out.putD var0T none 0 .nl)
        clear y0 y1 y2 f0 f1 f2 S9
        have S11 : Hid (DecSt w M j a c L (E + 1) P true 0 var0T none 0 (((w9.setCell ⟨P, 0, none⟩ (.int .i64 1)).setCell ⟨P, 1, none⟩ (.int .i64 0)).setCell ⟨P, 2, none⟩ (.slice none 0 0))) := S10.out
        obtain ⟨w10, hw10⟩ : ∃ w10, w10 = (((w9.setCell ⟨P, 0, none⟩ (.int .i64 1)).setCell ⟨P, 1, none⟩ (.int .i64 0)).setCell ⟨P, 2, none⟩ (.slice none 0 0)) := ⟨_, rfl⟩
        rw [← hw10] at S11 ⊢
        clear S10 hw10
        have HDX : Hid (w10.heap[P]? = some (.cells #[.int .i64 1, .int .i64 0, .slice none 0 0] 25 (0, 0))) := S11.out.2.2.2.2.2.2.2.1
        have HU1 := Lib.hid (fun W => u_any 0 W)
        have hm1 : j + 1 ≤ maxLen := by unfold maxLen; omega
        have hm2 : (j + 1) * 96 ≤ 140737488355328 := by omega
        obtain ⟨i0, hi, hy0, hy1, hy2⟩ := info_parts Try.infoCn
        refine wp_region_rel_tail 10 (by kernel_rfl) (by kernel_rfl) (by kernel_rfl) ?_
        simp only [List.take_succ_cons, List.take_zero]
        simp only [List.drop_succ_cons, List.drop_zero]
        apply RelWalk.next 4
        · kernel_rfl
        · intro X0 _ W hW hcl
          simp only [List.take_succ_cons, List.take_zero]
          obtain ⟨⟨z0, z1, z2⟩, _⟩ := boxc S11.out.1.2.1
          obtain ⟨⟨y0, y1, y2, y3, y4, y5, y6⟩, _⟩ := cells7a S11.out.2.2.2.2.2.2.1
          obtain ⟨⟨x0, x1, x2⟩, _⟩ := boxc HDX.out
          have q0 := fun q => gcell (hW q) z0
          have q1 := fun q => gcell (hW q) z1
          have q2 := fun q => gcell (hW q) z2
          have r0 := fun q => gcell (hW q) y0
          have r1 := fun q => gcell (hW q) y1
          have r2 := fun q => gcell (hW q) y2
          have r3 := fun q => gcell (hW q) y3
          have r4 := fun q => gcell (hW q) y4
          have r5 := fun q => gcell (hW q) y5
          have r6 := fun q => gcell (hW q) y6
          have p0 := fun q => gcell (hW q) x0
          have p1 := fun q => gcell (hW q) x1
          have p2 := fun q => gcell (hW q) x2
          clear x0 x1 x2 y0 y1 y2 y3 y4 y5 y6 z0 z1 z2
          repeat (go_big_quiet_step (fail))
          exact wpQuiet_nil rfl
        simp only [List.drop_succ_cons, List.drop_zero]
        refine RelWalk.made0 (fun v s e W => v = .slice (some ⟨s, 0, none⟩) 1 1 ∧ (W.heap[s]? = some (.cells #[.int .i64 1, .int .i64 0, .slice none 0 0] 25 (0, 0)) ∧ s < W.heap.size ∧ w10.heap.size ≤ s)) rfl (by kernel_rfl) (by kernel_rfl) rfl (fun v s e W W' hg h => ⟨h.1, (hg.block s h.2.2.1).trans h.2.1, Nat.lt_of_lt_of_le h.2.2.1 hg.size, h.2.2.2⟩) (fun w2 hg => ?_) ?_
        · have hz := hg.size
          go_simp
          exact ⟨below_al w2 _, rfl, World.alloc_heap_new w2 _, by simp, hz⟩
        simp only [Act.put, List.setIfInBounds_toArray, List.set_cons_zero, List.set_cons_succ]
        refine RelWalk.made1 (fun v s e W => ∃ q, v = .agg #[.bool true, .int .i64 0, .int .i64 0, .slice none 0 0, .slice (some ⟨q, 0, none⟩) 1 1, .int .i64 0, .slice none 0 0] ∧ (W.heap[q]? = some (.cells #[.int .i64 1, .int .i64 0, .slice none 0 0] 25 (0, 0)) ∧ q < W.heap.size ∧ w10.heap.size ≤ q)) rfl (by kernel_rfl) (by kernel_rfl) rfl (fun v s e W W' hg ⟨q, h1, h2, h3, h4⟩ => ⟨q, h1, (hg.block q h3).trans h2, Nat.lt_of_lt_of_le h3 hg.size, h4⟩) (fun g w2 hg v1 hv1 => ?_) ?_
        · obtain ⟨rfl, h2⟩ := hv1
          have H2 := Lib.hid h2
          clear h2
          go_simp
          exact ⟨Grw.rfl w2, _, rfl, H2.out⟩
        simp only [Act.put, List.setIfInBounds_toArray, List.set_cons_zero, List.set_cons_succ]
        refine RelWalk.made1 (fun v s e W => ∃ q, v = .slice (some ⟨s, 0, none⟩) 2 2 ∧ (W.heap[s]? = some (.cells #[.bool true, .int .i64 0, .int .i64 0, .slice none 0 0, .slice none 0 0, .int .i64 0, .slice none 0 0, .bool true, .int .i64 0, .int .i64 0, .slice none 0 0, .slice (some ⟨q, 0, none⟩) 1 1, .int .i64 0, .slice none 0 0] 38 (0, 0)) ∧ s < W.heap.size ∧ w10.heap.size ≤ s) ∧ (W.heap[q]? = some (.cells #[.int .i64 1, .int .i64 0, .slice none 0 0] 25 (0, 0)) ∧ q < W.heap.size ∧ w10.heap.size ≤ q)) rfl (by kernel_rfl) (by kernel_rfl) rfl (fun v s e W W' hg ⟨q, h1, h2, h3⟩ => ⟨q, h1, ⟨(hg.block s h2.2.1).trans h2.1, Nat.lt_of_lt_of_le h2.2.1 hg.size, h2.2.2⟩, (hg.block q h3.2.1).trans h3.1, Nat.lt_of_lt_of_le h3.2.1 hg.size, h3.2.2⟩) (fun g w2 hg v1 hv1 => ?_) ?_
        · obtain ⟨q, rfl, h2⟩ := hv1
          have H2 := Lib.hid h2
          have hz := hg.size
          clear h2
          go_simp
          exact ⟨below_al w2 _, rfl, q, ⟨World.alloc_heap_new w2 _, by simp, hz⟩, ((below_al w2 _).block q H2.out.2.1).trans H2.out.1, Nat.lt_of_lt_of_le H2.out.2.1 (below_al w2 _).size, H2.out.2.2⟩
        simp only [Act.put, List.setIfInBounds_toArray, List.set_cons_zero, List.set_cons_succ]
        apply RelWalk.next 1
        · kernel_rfl
        · intro X0 _ W hW hcl
          simp only [List.take_succ_cons, List.take_zero]
          have dU := Lib.hid (fun q => into hcl (HU1.out (W q)))
          repeat (go_big_quiet_step (with_reducible exact dU.out _))
          exact wpQuiet_nil rfl
        simp only [List.drop_succ_cons, List.drop_zero]
        refine RelWalk.made1 (fun v s e W => ∃ p q, v = .agg #[.int .i64 0, .slice (some ⟨p, 0, none⟩) 2 2, .slice none 0 0, .int .i64 2, .int .i64 0, .slice none 0 0] ∧ (W.heap[p]? = some (.cells #[.bool true, .int .i64 0, .int .i64 0, .slice none 0 0, .slice none 0 0, .int .i64 0, .slice none 0 0, .bool true, .int .i64 0, .int .i64 0, .slice none 0 0, .slice (some ⟨q, 0, none⟩) 1 1, .int .i64 0, .slice none 0 0] 38 (0, 0)) ∧ p < W.heap.size ∧ w10.heap.size ≤ p) ∧ (W.heap[q]? = some (.cells #[.int .i64 1, .int .i64 0, .slice none 0 0] 25 (0, 0)) ∧ q < W.heap.size ∧ w10.heap.size ≤ q)) rfl (by kernel_rfl) (by kernel_rfl) rfl (fun v s e W W' hg ⟨p, q, h1, h2, h3⟩ => ⟨p, q, h1, ⟨(hg.block p h2.2.1).trans h2.1, Nat.lt_of_lt_of_le h2.2.1 hg.size, h2.2.2⟩, (hg.block q h3.2.1).trans h3.1, Nat.lt_of_lt_of_le h3.2.1 hg.size, h3.2.2⟩) (fun g w2 hg v1 hv1 => ?_) ?_
        · obtain ⟨q, rfl, h2⟩ := hv1
          have H2 := Lib.hid h2
          clear h2
          go_simp
          exact ⟨Grw.rfl w2, _, rfl, q, H2.out⟩
        simp only [Act.put, List.setIfInBounds_toArray, List.set_cons_zero, List.set_cons_succ]
        refine RelWalk.made1 (fun v s e W => ∃ p q, v = .slice (some ⟨s, 0, none⟩) 1 1 ∧ (W.heap[s]? = some (.cells #[.int .i64 0, .slice (some ⟨p, 0, none⟩) 2 2, .slice none 0 0, .int .i64 2, .int .i64 0, .slice none 0 0] 35 (0, 0)) ∧ s < W.heap.size ∧ w10.heap.size ≤ s) ∧ (W.heap[p]? = some (.cells #[.bool true, .int .i64 0, .int .i64 0, .slice none 0 0, .slice none 0 0, .int .i64 0, .slice none 0 0, .bool true, .int .i64 0, .int .i64 0, .slice none 0 0, .slice (some ⟨q, 0, none⟩) 1 1, .int .i64 0, .slice none 0 0] 38 (0, 0)) ∧ p < W.heap.size ∧ w10.heap.size ≤ p) ∧ (W.heap[q]? = some (.cells #[.int .i64 1, .int .i64 0, .slice none 0 0] 25 (0, 0)) ∧ q < W.heap.size ∧ w10.heap.size ≤ q)) rfl (by kernel_rfl) (by kernel_rfl) rfl (fun v s e W W' hg ⟨p, q, h1, h4, h2, h3⟩ => ⟨p, q, h1, ⟨(hg.block s h4.2.1).trans h4.1, Nat.lt_of_lt_of_le h4.2.1 hg.size, h4.2.2⟩, ⟨(hg.block p h2.2.1).trans h2.1, Nat.lt_of_lt_of_le h2.2.1 hg.size, h2.2.2⟩, (hg.block q h3.2.1).trans h3.1, Nat.lt_of_lt_of_le h3.2.1 hg.size, h3.2.2⟩) (fun g w2 hg v1 hv1 => ?_) ?_
        · obtain ⟨p, q, rfl, h2, h3⟩ := hv1
          have H2 := Lib.hid h2
          have H3 := Lib.hid h3
          have hz := hg.size
          clear h2 h3
          go_simp
          exact ⟨below_al w2 _, rfl, p, ⟨World.alloc_heap_new w2 _, by simp, hz⟩, q, ⟨((below_al w2 _).block p H2.out.2.1).trans H2.out.1, Nat.lt_of_lt_of_le H2.out.2.1 (below_al w2 _).size, H2.out.2.2⟩, ((below_al w2 _).block q H3.out.2.1).trans H3.out.1, Nat.lt_of_lt_of_le H3.out.2.1 (below_al w2 _).size, H3.out.2.2⟩
        simp only [Act.put, List.setIfInBounds_toArray, List.set_cons_zero, List.set_cons_succ]
        refine .done fun g w11 hg hpt => ?_
        simp only [Spread]
        rintro v79 ⟨s5, s6, rfl, hCB, hAB, hTB⟩ v78 _ v76 _ v75 _ v74 _
        simp only [Act.put, List.setIfInBounds_toArray, List.set_cons_zero, List.set_cons_succ]
        obtain ⟨p79, hp79⟩ : ∃ s, (g 79).1 = s := ⟨_, rfl⟩
        rw [hp79] at hCB ⊢
        clear hpt hp79
        have S12 := Lib.hid (S11.out.bel hg)
        have HTX : Hid (AtS (fun b => L ≤ b ∧ b ≠ P ∧ b ≠ E + 1) w11 [(decDom 5)] (.slice (some ⟨s6, 0, none⟩) 1 1)) := by
          refine (AtS.row [(decDom 5)] s6 0 1 (fun _ => .slice none 0 0) (fun _ => ?_) (by decide) (by decide) (fun i hi => ?_) (fun i hi => ?_) (fun i hi => ?_) (fun i hi => ?_))
          · have h1 := (Array.getElem?_eq_some_iff.1 HDX.out).1
            have h2 := S11.out.2.2.2.2.1
            have h3 := (Array.getElem?_eq_some_iff.1 S11.out.2.2.2.2.2.2.1).1
            have h4 := hTB.2.2
            exact ⟨by omega, by omega, by omega⟩
          · obtain rfl : i = 0 := by simpa using hi
            simp [World.cell?, hTB.1]; rfl
          · obtain rfl : i = 0 := by simpa using hi
            simp [World.cell?, hTB.1]; rfl
          · obtain rfl : i = 0 := by simpa using hi
            simp [World.cell?, hTB.1]
          · obtain rfl : i = 0 := by simpa using hi
            exact S12.out.2.2.2.2.2.2.2.2
        have HCB := Lib.hid hCB
        have HAB := Lib.hid hAB
        have hM2 := S12.out.1.2.2.2.1
        have hL2 := S12.out.2.2.1
        have HS7 : Hid (∀ w7, w11.grownBy w7 (Value.slice a j c).ownBlock → w7.heap[M + 1]? = some (.cells #[.slice (some ⟨M, 0, none⟩) 1 1, .slice a j c, .int .i64 0] 33 (0, 0))) := fun w7 hg7 =>
          (hg7.block _ (by omega) (fun e => by have := (S12.out.1.2.2.1.lt _ e.symm).1; omega)).trans S12.out.1.2.1
        clear hCB hAB hTB hg
        obtain ⟨⟨x0, x1, x2⟩, _⟩ := boxc S12.out.1.2.1
        go_wp2_with (at_builtin; refine wpList_append_lies _ rfl (.tmp 71) (.tmp 79) 31 rfl (M + 2) 35 i0 _ 6 96 Try.underlying31 hi hy0 hy1 hy2 rfl (by decide) (.slice a j c) j _ rfl S12.out.1.2.2.1 ⟨p79, 0, none⟩ 1 1 [.int .i64 0, .slice (some ⟨s5, 0, none⟩) 2 2, .slice none 0 0, .int .i64 2, .int .i64 0, .slice none 0 0] rfl rfl (by have := World.news_of_block HCB.out.1; simpa using this) (by simp [Value.oneCell']) (by decide) hm1 hm2 (by omega) w11.heap.size rfl ?_; intro g7 cp w12 hown7 hgrow7 hat7 hlt7; obtain ⟨⟨p0, p1', p2'⟩, p3', p4, p5⟩ := boxc (HS7.out _ hgrow7))
        obtain ⟨w13, hw13⟩ : ∃ w13, w13 = w12.setCell ⟨M + 1, 1, none⟩ (.slice (some ⟨g7, 0, none⟩) (j + 1) cp) := ⟨_, rfl⟩
        rw [← hw13]
        have oth : ∀ b, b ≠ M + 1 → w13.heap[b]? = w12.heap[b]? := fun b hb => by rw [hw13]; exact other_tb1 hb _
        have far : ∀ b, b < w11.heap.size → some b ≠ (Value.slice a j c).ownBlock → b ≠ M + 1 → w13.heap[b]? = w11.heap[b]? := fun b h1 h2 h3 => (oth b h3).trans (hgrow7.block b h1 h2)
        have hno : ∀ b, L ≤ b → some b ≠ (Value.slice a j c).ownBlock := fun b hb e => by have := S12.out.2.1 b e.symm; omega
        have hwM := S12.out.1.2.2.2.2.1
        have hL10 : L ≤ w10.heap.size := by
          have h1 := (Array.getElem?_eq_some_iff.1 HDX.out).1
          have h2 := S11.out.2.2.2.2.1
          omega
        have hbel : Below w.heap.size w w13 := by
          rw [hw13]
          exact (S12.out.1.2.2.2.2.2.trans ((Below.refl w.heap.size w11).grown hgrow7 (by omega) (fun k hk => by have := (S12.out.1.2.2.1.lt k hk).1; omega))).trans (below_tb1 (by omega) _)
        have hbat : BAt w13 (decBlk j 5) (.slice (some ⟨M, 0, none⟩) 1 1) (.slice (some ⟨g7, 0, none⟩) (j + 1) cp) := by
          refine ⟨?_, ?_⟩
          · have hM := (far M (by omega) (fun e => by have := (S12.out.1.2.2.1.lt _ e.symm).1; omega) (by omega)).trans S12.out.1.1
            refine GAt.row [(⟨[], 1, true, u0T⟩ : SortT)] M 0 1 (fun _ => [.slice none 0 0, .int .i64 1, .bool true, .int .i64 2, .int .i64 0, .slice none 0 0]) (by decide) (by decide) (by decide) (fun i hi => ?_) (fun i hi r hr => ?_)
            · obtain rfl : i = 0 := by simpa using hi
              exact ⟨⟨.slice none 0 0, .slice none 0 0, rfl, .nl, .nl⟩, rfl⟩
            · obtain rfl : i = 0 := by simpa using hi
              simp [World.cell?, hM]
          · have hs5 := HAB.out.2.1
            have hA5 := (far s5 hs5 (hno s5 (by have := HAB.out.2.2; omega)) (by have := HAB.out.2.2; omega)).trans HAB.out.1
            have hD5 : At w13 [decDom 5] (.slice (some ⟨s6, 0, none⟩) 1 1) := (HTX.out.bnd.same (T := fun _ => True) fun b hb => ⟨trivial, far b hb.2 (hno b hb.1.1) (by have := hb.1.1; omega)⟩).at
            have hargs : ARow w13 [decFirst 5, ⟨true, zT, [decDom 5], 0, []⟩] (.slice (some ⟨s5, 0, none⟩) 2 2) := by
              refine GAt.row [decFirst 5, (⟨true, zT, [decDom 5], 0, []⟩ : ArgT)] s5 0 2 (fun i => if i = 0 then [.bool true, .int .i64 0, .int .i64 0, .slice none 0 0, .slice none 0 0, .int .i64 0, .slice none 0 0] else [.bool true, .int .i64 0, .int .i64 0, .slice none 0 0, .slice (some ⟨s6, 0, none⟩) 1 1, .int .i64 0, .slice none 0 0]) (by decide) (by decide) (by decide) (fun i hi => ?_) (fun i hi r hr => ?_)
              · have : i = 0 ∨ i = 1 := by have : i < 2 := hi; omega
                rcases this with rfl | rfl
                · exact ⟨⟨.slice none 0 0, .slice none 0 0, .slice none 0 0, rfl, .nl, .nl, .nl⟩, rfl⟩
                · exact ⟨⟨.slice none 0 0, .slice (some ⟨s6, 0, none⟩) 1 1, .slice none 0 0, rfl, .nl, hD5, .nl⟩, rfl⟩
              · have hi2 : i = 0 ∨ i = 1 := by have : i < 2 := hi; omega
                have hr7 : r = 0 ∨ r = 1 ∨ r = 2 ∨ r = 3 ∨ r = 4 ∨ r = 5 ∨ r = 6 := by omega
                rcases hi2 with rfl | rfl <;> rcases hr7 with rfl | rfl | rfl | rfl | rfl | rfl | rfl <;> simp [World.cell?, hA5]
            have hown : w13.ownsRow (M + 2) 35 6 (.slice (some ⟨g7, 0, none⟩) (j + 1) cp) (j + 1) ((List.range (j + 1)).flatMap fun i => if i < j then decCS else [.int .i64 0, .slice (some ⟨s5, 0, none⟩) 2 2, .slice none 0 0, .int .i64 2, .int .i64 0, .slice none 0 0]) := by
              rw [flatG_snoc (fun _ => decCS) _ (fun i hi => if_pos hi), if_neg (Nat.lt_irrefl j)]
              exact ownsRow_same hown7 fun b hb => oth b (by have := (hown7.lt b hb).1; omega)
            have hlen : (decBlk j 5).cons.length = j + 1 := by simp [decBlk]
            have hg := gats_of_row (S := fun _ => True) (C := conC w13) (l := (decBlk j 5).cons) (f := fun i => if i < j then decCS else [.int .i64 0, .slice (some ⟨s5, 0, none⟩) 2 2, .slice none 0 0, .int .i64 2, .int .i64 0, .slice none 0 0]) (by rw [hlen]; exact hown) (by decide) (fun _ _ => trivial) (fun i hi => by
              by_cases hij : i < j
              · have e : (decBlk j 5).cons[i] = decCon := by simp [decBlk, hij]
                rw [e, if_pos hij]
                exact ⟨⟨.slice none 0 0, .slice none 0 0, .slice none 0 0, rfl, .nl, .nl, .nl⟩, rfl⟩
              · obtain rfl : i = j := by omega
                have e : (decBlk i 5).cons[i] = decLast 5 := by simp [decBlk]
                rw [e, if_neg hij]
                exact ⟨⟨.slice (some ⟨s5, 0, none⟩) 2 2, .slice none 0 0, .slice none 0 0, rfl, hargs, .nl, .nl⟩, rfl⟩)
            exact hg.at fun _ _ h => h
        have HCK := Lib.hid (s8check_any (decBlk j 5) (dec_size ⟨j, hn5⟩ ⟨5, by decide⟩) (dec_fits j 5) 10 w13 _ _ hbat)
        have hdp : positB (decBlk j 5) 10 = 11 := by
          have h := dec_posit ⟨j, hn5⟩ ⟨5, by decide⟩
          simpa [decWant] using h
        rw [hdp] at HCK
        have HB13 := Lib.hid hbel
        clear hbat hbel hdp hw13 oth far hno hown7 hgrow7 hat7 hlt7
        refine HCK.out.mono ?_
        rintro e w14 ⟨rfl, hb14⟩
        have HB14 := Lib.hid (HB13.out.trans (hb14.mono HB13.out.size))
        clear hb14
        go_wp2_with fail
        refine (wakes8_any w14).mono ?_
        rintro e w15 ⟨rfl, hb15⟩
        have HB15 := Lib.hid (HB14.out.trans (hb15.mono HB14.out.size))
        clear hb15
        go_wp2_with fail
        go_ret
        exact ⟨ret_bool rfl, HB15.out⟩
end Go.Proofs.Ytggefpkfikimiaa
