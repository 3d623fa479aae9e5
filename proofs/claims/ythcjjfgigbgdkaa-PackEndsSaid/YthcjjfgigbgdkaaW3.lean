/- porismlaw03's wakes; what is got of what was put. -/
import Derived.Test.YthcjjfgigbgdkaaGe
import Derived.Test.YthcjjfgigbgdkaaCt
namespace Go.Proofs.Ythcjjfgigbgdkaa
open Go.RowKit Go Go.Joins
set_option linter.unusedVariables false

theorem getS_full {t : Tm} (h : checkE t = 0) (pre r : List Int) : getS (pre ++ (packT t ++ r)) (pre.length : Int) = (t, ((pre.length + (packT t).length : Nat) : Int), 0) := by
  unfold getS
  rw [if_neg (by simp; omega), Int.toNat_natCast, List.drop_left, readP_full r h]
  simp only [List.length_append]
  have : (((pre.length + ((packT t).length + r.length) : Nat) : Int) - (r.length : Int)) = ((pre.length + (packT t).length : Nat) : Int) := by omega
  rw [this]
theorem getS_full0 {t : Tm} (h : checkE t = 0) : getS (packT t) 0 = (t, ((packT t).length : Int), 0) := by
  have := getS_full h [] []
  simpa using this
theorem rdBy_lit (w : World) (l : List Int) (cs : Array Value) (ty : TypeId) (hc : cs = (l.map (Value.int .u8)).toArray) (hl : l.length ≤ maxLen) (h0 : 0 < l.length) : RdBy l (.slice (some ⟨w.heap.size, 0, none⟩) l.length l.length) (w.alloc (.cells cs ty)) := by
  subst hc
  refine ⟨_, l.length, rfl, Nat.le_refl _, hl, (fun h => by cases h), fun _ => ⟨w.heap.size, 0, rfl, fun i hi => ?_⟩⟩
  have := World.alloc_heap_new w (.cells (l.map (Value.int .u8)).toArray ty)
  rw [Nat.zero_add]
  unfold World.cell?
  rw [this]
  simp [hi]
theorem RdBy.shape {l : List Int} {v : Value} {w : World} (h : RdBy l v w) : ∃ a c, v = .slice a l.length c := by obtain ⟨a, c, h, _⟩ := h; exact ⟨a, c, h⟩
theorem idT_pack : packT idT = [5, 2, 0, 0, 1, 0, 0] := by decide +kernel
theorem packT_byteL {t : Tm} (h : checkE t = 0) : ByteL (packT t) := packT_bytes t (check_formed h)

theorem c_bytes_lit (a l : List Int) (cs : Array Value) (hc : cs = (l.map (Value.int .u8)).toArray) (ha : a.length ≤ 1099511627776) (hl : l.length ≤ 1048576) (h0 : 0 < l.length) (w : World) (va : Value) (hA : RdBy a va w) :
    Calls Try.prog 39 #[va, .slice (some ⟨w.heap.size, 0, none⟩) l.length l.length] (w.alloc (.cells cs 5)) fun e w' => e = .returned (.bool (decide (a = l))) ∧ Below w.heap.size w w' :=
  (bytes_any a l ha (by omega) _ _ _ (hA.bel (below_al w _)) (rdBy_lit w l cs 5 hc (by unfold maxLen; omega) h0)).mono fun e w' ⟨he, hb⟩ => ⟨he, (below_al w _).trans (hb.mono (by simp))⟩
theorem c_get (t : Tm) (h : checkE t = 0) (pre r : List Int) (hb : ByteL (pre ++ (packT t ++ r))) (hl : (pre ++ (packT t ++ r)).length ≤ 1048576) (W : World) (v : Value) (hR : RdBy (pre ++ (packT t ++ r)) v W) :
    Calls Try.prog 41 #[v, .int .i64 (pre.length : Nat)] W fun e w' => ∃ a c, e = .returned (.tuple #[.agg #[.int .i64 t.k, .int .i64 t.n, .slice a t.kids.length c], .int .i64 ((pre.length + (packT t).length : Nat) : Int), .int .i64 0]) ∧ At w' t.kids (.slice a t.kids.length c) ∧ Below W.heap.size W w' := by
  have := get_any _ (pre.length : Int) hb hl W v hR
  rw [getS_full h] at this
  refine this.mono fun e w' ⟨v', h1, h2, h3⟩ => ?_
  obtain ⟨a, c, rfl⟩ := h2.at.shape
  exact ⟨a, c, h1, h2.at, h3⟩
theorem c_get0 (t : Tm) (h : checkE t = 0) (hl : (packT t).length ≤ 1048576) (W : World) (v : Value) (hR : RdBy (packT t) v W) :
    Calls Try.prog 41 #[v, .int .i64 0] W fun e w' => ∃ a c, e = .returned (.tuple #[.agg #[.int .i64 t.k, .int .i64 t.n, .slice a t.kids.length c], .int .i64 ((packT t).length : Int), .int .i64 0]) ∧ At w' t.kids (.slice a t.kids.length c) ∧ Below W.heap.size W w' := by
  have := get_any (packT t) 0 (packT_byteL h) hl W v hR
  rw [getS_full0 h] at this
  refine this.mono fun e w' ⟨v', h1, h2, h3⟩ => ?_
  obtain ⟨a, c, rfl⟩ := h2.at.shape
  exact ⟨a, c, h1, h2.at, h3⟩
set_option maxRecDepth 100000 in
set_option maxHeartbeats 2000000 in
theorem wakes3_any (w : World) :
    Calls Try.prog 43 #[] w fun e w' => e = .returned (.bool true) ∧ Below w.heap.size w w' := by
  obtain ⟨i1, i2, i3, i4, i5, i6⟩ := id_facts
  have HU := Lib.hid (fun w => u_any 0 w)
  have HV := Lib.hid (fun w => v_any 0 w)
  have HT := Lib.hid (fun w => t_any 5 _ (by simp) (by simp) _ _ (at_id w))
  have I1 := Lib.hid i1
  have I3 := Lib.hid i3
  have I6 := Lib.hid i6
  clear i1 i2 i3 i4 i5 i6
  go_enter Try.func43, Try.ntmps43
  go_wp2_with fail
  refine (HU.out _).mono ?_
  rintro e w1 ⟨rfl, hb1⟩
  have B1 := Lib.hid hb1
  clear hb1
  go_wp2_with fail
  refine (HV.out _).mono ?_
  rintro e w2 ⟨rfl, hb2⟩
  have B2 := Lib.hid (B1.out.trans (hb2.mono B1.out.size))
  clear hb2 B1
  go_wp2_with fail
  refine (HT.out _).mono ?_
  rintro e w3 ⟨a3, c3, rfl, hA3, hb3⟩
  have B3 := Lib.hid ((B2.out.trans ((below_al w2 _).mono B2.out.size)).trans (hb3.mono (by have := B2.out.size; simp; omega)))
  have A3 := Lib.hid hA3
  clear hb3 hA3 B2
  have O3 : Hid (One w3 w3.heap.size idT (.slice a3 2 c3) (w3.alloc (.cells #[.int .i64 5, .int .i64 0, .slice a3 2 c3] 24))) := one_start w3 idT (.slice a3 2 c3) A3.out
  go_wp2_with fail
  have HP := Lib.hid (put_any [] idT id_fits (by rw [I1.out]; omega) (by simp) _ (.slice none 0 0) (.slice a3 2 c3) (RdBy.nil _) O3.out.2.1)
  refine HP.out.mono ?_
  rintro e w4 ⟨v4, rfl, hr4, _, hb4⟩
  have hr40 : RdBy (packT idT) v4 w4 := by have := (hr4 I3.out).rd; rwa [List.nil_append] at this
  have R4 := Lib.hid hr40
  obtain ⟨a4, c4, rfl⟩ := R4.out.shape
  have O4 := Lib.hid (O3.out.bel hb4)
  rw [I3.out]
  clear hr4 hb4 HP O3 hr40
  go_wp2_with fail
  have HG := Lib.hid (c_get0 idT I3.out (by rw [idT_pack]; decide) w4 _ R4.out)
  refine HG.out.mono ?_
  rintro e w5 ⟨a5, c5, rfl, hA5, hb5⟩
  rw [show ((packT idT).length : Int) = 7 by rw [idT_pack]; rfl]
  have O5 := Lib.hid (O4.out.bel hb5)
  have R5 := Lib.hid (R4.out.bel hb5)
  have P5 := Lib.hid (one_start w5 idT (.slice a5 idT.kids.length c5) hA5)
  clear hA5 hb5 HG O4 R4
  obtain ⟨⟨x0, x1, x2⟩, _⟩ := P5.out
  have HBB := Lib.hid (c_bytes_lit (packT idT) [5, 2, 0, 0, 1, 0, 0] #[.int .u8 5, .int .u8 2, .int .u8 0, .int .u8 0, .int .u8 1, .int .u8 0, .int .u8 0] rfl (by rw [idT_pack]; decide) (by decide) (by simp) (w5.alloc (.cells #[.int .i64 idT.k, .int .i64 idT.n, .slice a5 idT.kids.length c5] 24)) _ (R5.out.bel (below_al w5 _)))
  rw [show decide (packT idT = [5, 2, 0, 0, 1, 0, 0]) = true from decide_eq_true idT_pack] at HBB
  simp only [World.size_alloc, List.length_cons, List.length_nil, Nat.reduceAdd] at HBB
  go_wp2_with fail
  refine HBB.out.mono ?_
  rintro e w6 ⟨rfl, hb60⟩
  have hb6 : Below (w5.alloc (.cells #[.int .i64 idT.k, .int .i64 idT.n, .slice a5 idT.kids.length c5] 24)).heap.size (w5.alloc (.cells #[.int .i64 idT.k, .int .i64 idT.n, .slice a5 idT.kids.length c5] 24)) w6 := by rw [World.size_alloc]; exact hb60
  clear hb60
  have P6 := Lib.hid (P5.out.bel hb6)
  have O6 := Lib.hid ((O5.out.bel (below_al w5 (.cells #[.int .i64 idT.k, .int .i64 idT.n, .slice a5 idT.kids.length c5] 24))).bel hb6)
  clear hb6 HBB P5 O5 R5
  obtain ⟨⟨x0, x1, x2⟩, _⟩ := P6.out
  obtain ⟨⟨y0, y1, y2⟩, _⟩ := O6.out
  have HK : Hid (Calls Try.prog 24 #[.agg #[.int .i64 idT.k, .int .i64 idT.n, .slice a5 idT.kids.length c5], .agg #[.int .i64 5, .int .i64 0, .slice a3 2 c3]] w6 fun e w' => e = .returned (.bool true) ∧ Below w6.heap.size w6 w') := by
    have := c_keep idT idT (by rw [I1.out]; omega) (by rw [I1.out]; omega) w6 (.slice a5 idT.kids.length c5) (.slice a3 2 c3) P6.out.2.1 O6.out.2.1
    rw [I6.out] at this
    exact this
  go_wp2_with fail
  refine HK.out.mono ?_
  rintro e w7 ⟨rfl, hb7⟩
  have B7 := Lib.hid (B3.out.trans ((O6.out.2.2.trans (hb7.mono O6.out.2.2.size)).mono B3.out.size))
  clear hb7 x0 x1 x2 y0 y1 y2
  go_wp2_with fail
  go_ret
  exact ⟨rfl, B7.out⟩
end Go.Proofs.Ythcjjfgigbgdkaa
