/- TermEnds: the Go text returns true, whatever it is handed. -/
import Derived.Test.YthcjjfgigbgdkaaEn
import Derived.Deep.DeepCutAuto
namespace Go.Proofs.Ythcjjfgigbgdkaa
open Go.RowKit

theorem u64_nonneg (a : Int) : 0 ≤ IntKind.u64.wrap a := by
  simp [IntKind.wrap, IntKind.signed, IntKind.bits]
  omega
theorem three_range (a : Int) : 0 ≤ wrap64 ((IntKind.u64.wrap a).tmod 3) ∧ wrap64 ((IntKind.u64.wrap a).tmod 3) < 3 := by
  have h : 0 ≤ (IntKind.u64.wrap a).tmod 3 ∧ (IntKind.u64.wrap a).tmod 3 < 3 := by
    rw [Int.tmod_eq_emod_of_nonneg (u64_nonneg a)]
    exact ⟨Int.emod_nonneg _ (by omega), Int.emod_lt_of_pos _ (by omega)⟩
  rw [IntWalk.wrap64_in _ (by omega)]; exact h
/-- What Check says of a chain, of a tree of so many nodes. -/
theorem chain_check (n : Nat) (h : n ≤ 5000) : checkE (chainT n) = if 199 < n then 5 else 0 := by
  obtain ⟨h1, h2, h3⟩ := chain_facts n
  unfold checkE
  rw [h1, h2, h3, if_neg (by omega)]
  by_cases hn : 199 < n
  · rw [if_pos (by omega), if_pos hn]
  · rw [if_neg (by omega), if_neg hn]; rfl
theorem full_check (n : Nat) (h1 : 1 ≤ n) (h2 : n ≤ 8000) : checkE (fullT n) = if 6000 < n then 4 else 0 := by
  obtain ⟨f1, f2, _⟩ := full_facts n h1
  have := full_depth 13 n (by omega)
  unfold checkE
  rw [f1, f2]
  by_cases hn : 6000 < n
  · rw [if_pos hn, if_pos hn]
  · rw [if_neg hn, if_neg hn, if_neg (by omega)]; rfl

/-- The term that the chain's loop has come to lies in its box. -/
def ChInv (w : World) (B : Nat) (i : Value) (m : Nat) (wr : World) : Prop :=
  ∃ (j : Nat) (a : Option Addr) (cap : Nat), j ≤ m ∧ i = .int .i64 j ∧ wr.heap[B]? = some (.cells #[.int .i64 (chainT j).k, .int .i64 0, .slice a (chainT j).kids.length cap] 24 (0, 0)) ∧
    AtS (fun b => w.heap.size ≤ b ∧ b ≠ B ∧ b < wr.heap.size) wr (chainT j).kids (.slice a (chainT j).kids.length cap) ∧ Below w.heap.size w wr ∧ w.heap.size ≤ B

theorem box_cells {W : World} {B : Nat} {ty : TypeId} {x y z : Value} (h : W.heap[B]? = some (.cells #[x, y, z] ty (0, 0))) :
    (W.cell? ⟨B, 0, none⟩ = some x ∧ W.cell? ⟨B, 1, none⟩ = some y ∧ W.cell? ⟨B, 2, none⟩ = some z) ∧ (W.frozen? ⟨B, 0, none⟩ = false ∧ W.frozen? ⟨B, 1, none⟩ = false ∧ W.frozen? ⟨B, 2, none⟩ = false) := by
  refine ⟨⟨?_, ?_, ?_⟩, ?_, ?_, ?_⟩
  · simp [World.cell?, h]
  · simp [World.cell?, h]
  · simp [World.cell?, h]
  · simp [World.frozen?, h]
  · simp [World.frozen?, h]
  · simp [World.frozen?, h]

theorem carryB {w W W' : World} {B : Nat} {x y z : Value} {l : List Tm} {v : Value} (h : (W.cell? ⟨B, 0, none⟩ = some x ∧ W.cell? ⟨B, 1, none⟩ = some y ∧ W.cell? ⟨B, 2, none⟩ = some z) ∧ At W l v ∧ Below w.heap.size w W) (hb : Below W.heap.size W W') :
    (W'.cell? ⟨B, 0, none⟩ = some x ∧ W'.cell? ⟨B, 1, none⟩ = some y ∧ W'.cell? ⟨B, 2, none⟩ = some z) ∧ At W' l v ∧ Below w.heap.size w W' := by
  have g : ∀ {a : Addr} {x : Value}, W.cell? a = some x → W'.cell? a = some x := fun {a x} hx => by rw [hb.cell (World.block_lt_of_cell? W _ hx)]; exact hx
  exact ⟨⟨g h.1.1, g h.1.2.1, g h.1.2.2⟩, h.2.1.bel hb (Nat.le_refl _), h.2.2.trans (hb.mono h.2.2.size)⟩

theorem wide_slot {w w1 w2 : World} {t : Tm} {a : Option Addr} {c : Nat} {D : Nat} {x y z : Value} (hb1 : Below w.heap.size w w1) (hb2 : Below D (w1.alloc (.cells #[.int .i64 2, .int .i64 0, .slice none 0 0] 24)) w2)
    (hA : AtS (fun b => D ≤ b ∧ b < w2.heap.size) w2 t.kids (.slice a t.kids.length c)) (hbx : w2.heap[w1.heap.size]? = some (.cells #[x, y, z] 24 (0, 0))) (hD : D = w1.heap.size + 1 := by simp) :
    let W := ((w2.setCell ⟨w1.heap.size, 0, none⟩ (.int .i64 t.k)).setCell ⟨w1.heap.size, 1, none⟩ (.int .i64 t.n)).setCell ⟨w1.heap.size, 2, none⟩ (.slice a t.kids.length c)
    (W.cell? ⟨w1.heap.size, 0, none⟩ = some (.int .i64 t.k) ∧ W.cell? ⟨w1.heap.size, 1, none⟩ = some (.int .i64 t.n) ∧ W.cell? ⟨w1.heap.size, 2, none⟩ = some (.slice a t.kids.length c)) ∧ At W t.kids (.slice a t.kids.length c) ∧ Below w.heap.size w W := by
  refine ⟨(box_cells (box_store3 hbx _ _ _)).1, (hA.same (T := fun _ => True) fun b hb => ⟨trivial, other_store3 (by omega) _ _ _⟩).at, ?_⟩
  exact (hb1.trans (((below_al w1 _).trans (hb2.mono (by omega))).mono hb1.size)).trans (below_store3 hb1.size _ _ _)

set_option maxRecDepth 100000 in
set_option maxHeartbeats 4000000 in
theorem ends_deep (over : Int) (w : World) :
    Calls Try.prog 6 #[.int .i64 over, .bool true] w fun e w' => e = .returned (.bool true) ∧ Below w.heap.size w w' := by
  have HO := Lib.hid (three_range over)
  have HU := Lib.hid (fun w => u_any 0 w)
  have HW := Lib.hid (fun w => wakes_any w)
  go_enter Try.func6, Try.ntmps6
  go_upto_region 2 with (fail)
  have hO := HO.out
  clear HO
  generalize wrap64 ((IntKind.u64.wrap over).tmod 3) = o at *
  obtain ⟨m, hm⟩ : ∃ m : Nat, (m : Int) = 198 + o := ⟨(198 + o).toNat, by omega⟩
  have hm1 : 198 ≤ m := by omega
  have hm2 : m ≤ 200 := by omega
  obtain ⟨ho1, ho2⟩ := hO
  have HMO := Lib.hid hm
  obtain rfl : o = (m : Int) - 198 := by omega
  clear hm
  go_wp2_with (go_at_call 32; refine (HU.out _).mono ?_; rintro e w1 ⟨rfl, hb⟩; have HB1 := Lib.hid hb; clear hb)
  have hB1 := HB1.out
  have hbox := World.alloc_heap_new w1 (.cells #[.int .i64 2, .int .i64 0, .slice none 0 0] 24)
  have hbel := hB1.trans ((below_al w1 (.cells #[.int .i64 2, .int .i64 0, .slice none 0 0] 24)).mono hB1.size)
  have hBw := hB1.size
  clear HB1 hB1
  revert hbox hbel hBw
  generalize w1.alloc (.cells #[.int .i64 2, .int .i64 0, .slice none 0 0] 24) = wb
  generalize w1.heap.size = B
  intro hbox hbel hBw
  go_loopw [7] (fun i wr => ChInv w B i m wr) (fun i _ => m - (intOf i).toNat)
  case atStart => exact ⟨0, none, 0, Nat.zero_le _, rfl, hbox, .nl, hbel, hBw⟩
  case round =>
    obtain ⟨j, a, cap, hj, rfl, hbx, hA, hbw, hwB⟩ := hrel
    clear hbox hbel
    obtain ⟨⟨c0, c1, c2⟩, f0, f1, f2⟩ := box_cells hbx
    have hBr : B < wr.heap.size := (Array.getElem?_eq_some_iff.1 hbx).1
    have hwr := hbw.size
    by_cases hlt : j < m
    · have HT := Lib.hid (t_anyS _ 9 [chainT j] (by simp) (by simp) _ _ (fun b (hb : (w.heap.size ≤ b ∧ b ≠ B ∧ b < wr.heap.size) ∨ b = wr.heap.size) => by rcases hb with h | h <;> (simp; omega)) (ats_cells1 hA (fun b hb => hb.2.2)))
      rw [chain_k] at HT
      have HBX := Lib.hid hbx
      have e1 : (j : Int) < 198 + ((m : Int) - 198) := by omega
      have e2 : (j : Int) < (m : Int) := by omega
      clear hA hbx
      go_wp2_with (go_at_call 33; refine HT.out.mono ?_; rintro e w2 ⟨a2, cp2, rfl, hA2, hb2⟩; have hz2 : wr.heap.size + 1 ≤ w2.heap.size := (by have := hb2.size; simp at this; omega); have hbx2 := ((hb2.block B (by simp; omega)).trans (Below.heap_alloc wr _ B hBr)).trans HBX.out; obtain ⟨⟨z0, z1, z2⟩, y0, y1, y2⟩ := box_cells hbx2)
      have hb3 : Below wr.heap.size wr w2 := (below_al wr _).trans (hb2.mono (by simp))
      go_roundw
      case rel =>
        refine ⟨j + 1, a2, cp2, by omega, by go_num, box_store3 hbx2 _ _ _, hA2.lt.same fun b hb => ?_, (hbw.trans (hb3.mono hwr)).trans (below_store3 hwB _ _ _), hwB⟩
        have hne : w.heap.size ≤ b ∧ b ≠ B := by
          rcases hb.1 with (h | h) | h
          · exact ⟨h.1, h.2.1⟩
          · omega
          · simp at h; omega
        exact ⟨⟨hne.1, hne.2, by simpa [World.setCell] using hb.2⟩, other_store3 hne.2 _ _ _⟩
      case measure => simp [intOf]; omega
    · obtain rfl : j = m := by omega
      obtain ⟨s1, s2, s3⟩ := chain_facts j
      have hfit := chain_fits j
      have hchk := chain_check j (by omega)
      have HD : Hid (∀ W v, At W (chainT j).kids v → Calls Try.prog 21 #[.agg #[.int .i64 (chainT j).k, .int .i64 0, v]] W fun e w' => e = .returned (.int .i64 ((j : Int) + 1)) ∧ Below W.heap.size W w') := fun W v hA => by
        have := tdepth_any (chainT j) v W hfit (by omega) hA
        rw [s2] at this; unfold tv at this; rw [chain_k] at this; simpa using this
      have HC : Hid (∀ W v, At W (chainT j).kids v → Calls Try.prog 17 #[.agg #[.int .i64 (chainT j).k, .int .i64 0, v]] W fun e w' => e = .returned (.int .i64 (if 199 < j then 5 else 0)) ∧ Below W.heap.size W w') := fun W v hA => by
        have := tcheck_any (chainT j) v W hfit (by omega) hA
        rw [hchk] at this; unfold tv at this; rw [chain_k] at this; exact this
      have HX : Hid ((wr.cell? ⟨B, 0, none⟩ = some (.int .i64 (chainT j).k) ∧ wr.cell? ⟨B, 1, none⟩ = some (.int .i64 0) ∧ wr.cell? ⟨B, 2, none⟩ = some (.slice a (chainT j).kids.length cap)) ∧ At wr (chainT j).kids (.slice a (chainT j).kids.length cap) ∧ Below w.heap.size w wr) := ⟨⟨c0, c1, c2⟩, hA.at, hbw⟩
      have e1 : ¬ (j : Int) < 198 + ((j : Int) - 198) := by omega
      clear s1 s2 s3 hfit hchk hA hbx
      by_cases h9 : 199 < j
      · have HC2 := Lib.hid (show ∀ W v, At W (chainT j).kids v → _ from fun W v hA => by have := HC.out W v hA; rw [if_pos h9] at this; exact this)
        have e2 : (1 : Int) < (j : Int) - 198 := by omega
        have e3 : ((j : Int) + 1 == 199 + ((j : Int) - 198)) = true := by simp; omega
        clear HC h9
        go_wp2_with (first | (go_at_call 21; refine (HD.out _ _ HX.out.2.1).mono ?_; rintro e w3 ⟨rfl, hb3⟩; have X1 := carryB HX.out hb3; obtain ⟨d0, d1, d2⟩ := X1.1; clear HX) | (go_at_call 17; refine (HC2.out _ _ X1.2.1).mono ?_; rintro e w4 ⟨rfl, hb4⟩; have X2 := carryB X1 hb4; clear X1) | (go_at_call 30; refine (HW.out _).mono ?_; rintro e w5 ⟨rfl, hb5⟩; have X3 := carryB X2 hb5; clear X2))
        go_ret
        exact ⟨rfl, X3.2.2⟩
      · have HC2 := Lib.hid (show ∀ W v, At W (chainT j).kids v → _ from fun W v hA => by have := HC.out W v hA; rw [if_neg h9] at this; exact this)
        have e2 : ¬ (1 : Int) < (j : Int) - 198 := by omega
        have e3 : ((j : Int) + 1 == 199 + ((j : Int) - 198)) = true := by simp; omega
        clear HC h9
        go_wp2_with (first | (go_at_call 21; refine (HD.out _ _ HX.out.2.1).mono ?_; rintro e w3 ⟨rfl, hb3⟩; have X1 := carryB HX.out hb3; obtain ⟨d0, d1, d2⟩ := X1.1; clear HX) | (go_at_call 17; refine (HC2.out _ _ X1.2.1).mono ?_; rintro e w4 ⟨rfl, hb4⟩; have X2 := carryB X1 hb4; clear X1) | (go_at_call 30; refine (HW.out _).mono ?_; rintro e w5 ⟨rfl, hb5⟩; have X3 := carryB X2 hb5; clear X2))
        go_ret
        exact ⟨rfl, X3.2.2⟩

set_option maxRecDepth 100000 in
set_option maxHeartbeats 4000000 in
theorem ends_wide (over : Int) (w : World) :
    Calls Try.prog 6 #[.int .i64 over, .bool false] w fun e w' => e = .returned (.bool true) ∧ Below w.heap.size w w' := by
  have HO := Lib.hid (three_range over)
  have HU := Lib.hid (fun w => u_any 0 w)
  have HW := Lib.hid (fun w => wakes_any w)
  go_enter Try.func6, Try.ntmps6
  go_upto_region 2 with (fail)
  have hO := HO.out
  clear HO
  generalize wrap64 ((IntKind.u64.wrap over).tmod 3) = o at *
  obtain ⟨m, hm⟩ : ∃ m : Nat, (m : Int) = 5999 + o := ⟨(5999 + o).toNat, by omega⟩
  have hm1 : 5999 ≤ m := by omega
  have hm2 : m ≤ 6001 := by omega
  obtain ⟨ho1, ho2⟩ := hO
  obtain rfl : o = (m : Int) - 5999 := by omega
  clear hm
  obtain ⟨s1, _, s3⟩ := full_facts m (by omega)
  have hchk := full_check m (by omega) (by omega)
  have HF := Lib.hid (full_any m (by omega) (by omega))
  have HA1 : Hid (∀ y : Int, y = 5999 + ((m : Int) - 5999) → y = (m : Int)) := fun y hy => by omega
  have HD : Hid (∀ W v, At W (fullT m).kids v → Calls Try.prog 19 #[.agg #[.int .i64 (fullT m).k, .int .i64 (fullT m).n, v]] W fun e w' => e = .returned (.int .i64 (m : Int)) ∧ Below W.heap.size W w') := fun W v hA => by
    have := tsize_any (fullT m) v W s3 (by omega) hA
    rw [s1] at this; exact this
  have HC : Hid (∀ W v, At W (fullT m).kids v → Calls Try.prog 17 #[.agg #[.int .i64 (fullT m).k, .int .i64 (fullT m).n, v]] W fun e w' => e = .returned (.int .i64 (if 6000 < m then 4 else 0)) ∧ Below W.heap.size W w') := fun W v hA => by
    have := tcheck_any (fullT m) v W s3 (by omega) hA
    rw [hchk] at this; exact this
  clear s1 s3 hchk
  by_cases h9 : 6000 < m
  · have HC2 := Lib.hid (show ∀ W v, At W (fullT m).kids v → _ from fun W v hA => by have := HC.out W v hA; rw [if_pos h9] at this; exact this)
    have e2 : (1 : Int) < (m : Int) - 5999 := by omega
    have e3 : ((m : Int) == 5999 + ((m : Int) - 5999)) = true := by simp; omega
    clear HC h9
    go_wp2_with (first | (go_at_call 32; refine (HU.out _).mono ?_; rintro e w1 ⟨rfl, hb⟩; have HB1 := Lib.hid hb; have HNB := Lib.hid (World.alloc_heap_new w1 (.cells #[.int .i64 2, .int .i64 0, .slice none 0 0] 24)); clear hb) | (go_at_call 34; refine (HF.out _ (HA1.out _ (by first | rfl | omega)) _).mono ?_; rintro e w2 ⟨a2, c2, rfl, hA2, hb2⟩; have hbx := (hb2.block w1.heap.size (by simp)).trans HNB.out; have HBS := Lib.hid (wide_slot HB1.out hb2 hA2 hbx); obtain ⟨⟨z0, z1, z2⟩, y0, y1, y2⟩ := box_cells hbx; clear hbx hA2 hb2) | (go_at_call 19; refine (HD.out _ _ HBS.out.2.1).mono ?_; rintro e w3 ⟨rfl, hb3⟩; have X1 := carryB HBS.out hb3; obtain ⟨d0, d1, d2⟩ := X1.1; clear HBS) | (go_at_call 17; refine (HC2.out _ _ X1.2.1).mono ?_; rintro e w4 ⟨rfl, hb4⟩; have X2 := carryB X1 hb4; clear X1) | (go_at_call 30; refine (HW.out _).mono ?_; rintro e w5 ⟨rfl, hb5⟩; have X3 := carryB X2 hb5; clear X2))
    go_ret
    exact ⟨rfl, X3.2.2⟩
  · have HC2 := Lib.hid (show ∀ W v, At W (fullT m).kids v → _ from fun W v hA => by have := HC.out W v hA; rw [if_neg h9] at this; exact this)
    have e2 : ¬ (1 : Int) < (m : Int) - 5999 := by omega
    have e3 : ((m : Int) == 5999 + ((m : Int) - 5999)) = true := by simp; omega
    clear HC h9
    go_wp2_with (first | (go_at_call 32; refine (HU.out _).mono ?_; rintro e w1 ⟨rfl, hb⟩; have HB1 := Lib.hid hb; have HNB := Lib.hid (World.alloc_heap_new w1 (.cells #[.int .i64 2, .int .i64 0, .slice none 0 0] 24)); clear hb) | (go_at_call 34; refine (HF.out _ (HA1.out _ (by first | rfl | omega)) _).mono ?_; rintro e w2 ⟨a2, c2, rfl, hA2, hb2⟩; have hbx := (hb2.block w1.heap.size (by simp)).trans HNB.out; have HBS := Lib.hid (wide_slot HB1.out hb2 hA2 hbx); obtain ⟨⟨z0, z1, z2⟩, y0, y1, y2⟩ := box_cells hbx; clear hbx hA2 hb2) | (go_at_call 19; refine (HD.out _ _ HBS.out.2.1).mono ?_; rintro e w3 ⟨rfl, hb3⟩; have X1 := carryB HBS.out hb3; obtain ⟨d0, d1, d2⟩ := X1.1; clear HBS) | (go_at_call 17; refine (HC2.out _ _ X1.2.1).mono ?_; rintro e w4 ⟨rfl, hb4⟩; have X2 := carryB X1 hb4; clear X1) | (go_at_call 30; refine (HW.out _).mono ?_; rintro e w5 ⟨rfl, hb5⟩; have X3 := carryB X2 hb5; clear X2))
    go_ret
    exact ⟨rfl, X3.2.2⟩

theorem ends_any (over : Int) (deep : Bool) (w : World) :
    Calls Try.prog 6 #[.int .i64 over, .bool deep] w fun e w' => e = .returned (.bool true) ∧ Below w.heap.size w w' := by
  cases deep
  · exact ends_wide over w
  · exact ends_deep over w
end Go.Proofs.Ythcjjfgigbgdkaa
