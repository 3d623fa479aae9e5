/- PackEnds: the Go text returns true, whatever it is handed. -/
import Derived.Test.YthcjjfgigbgdkaaRw
import Derived.Test.YthcjjfgigbgdkaaUn
import Derived.Deep.DeepCutAuto
namespace Go.Proofs.Ythcjjfgigbgdkaa
open Go.RowKit Go Go.Joins
set_option linter.unusedVariables false

/-- What the page's Pack and Get say of a term that is right, and of one that is not. -/
theorem e_pack (t : Tm) (hf : formedB t = true) (hs : size t ≤ 1048576) (k n : Int) (hk : t.k = k) (hn : t.n = n) (W : World) (v : Value) (hA : At W t.kids v) :
    Calls Try.prog 40 #[.agg #[.int .i64 k, .int .i64 n, v]] W fun e w' => ∃ a c, e = .returned (.slice a (packT t).length c) ∧ RdBy (packT t) (.slice a (packT t).length c) w' ∧ Below W.heap.size W w' := by
  subst hk hn
  refine (rpack_ok t hf hs W v hA).mono ?_
  rintro e w' ⟨v', rfl, h1, h2⟩
  obtain ⟨a, c, rfl⟩ := h1.rd.shape
  exact ⟨a, c, rfl, h1.rd, h2⟩
theorem e_put (t : Tm) (hF : Fits t) (hs : size t ≤ 1048576) (k n : Int) (hk : t.k = k) (hn : t.n = n) (W : World) (v : Value) (hA : At W t.kids v) (x : Int) (hx : checkE t = x) :
    Calls Try.prog 38 #[.slice none 0 0, .agg #[.int .i64 k, .int .i64 n, v]] W fun e w' => ∃ a m c, e = .returned (.tuple #[.slice a m c, .int .i64 x]) ∧ (x ≠ 0 → m = 0) ∧ Below W.heap.size W w' := by
  subst hk hn hx
  refine (put_any [] t hF hs (by simp) W _ v (RdBy.nil _) hA).mono ?_
  rintro e w' ⟨v', rfl, h1, h2, h3⟩
  by_cases hc : checkE t = 0
  · obtain ⟨a, c, rfl⟩ := (h1 hc).rd.shape
    exact ⟨a, _, c, rfl, fun h => absurd hc h, h3⟩
  · rw [h2 hc]
    exact ⟨none, 0, 0, rfl, fun _ => rfl, h3⟩
theorem e_get_no (t : Tm) (hf : formedB t = true) (hs : size t ≤ 7000) (hc : checkE t ≠ 0) (W : World) (v : Value) (hR : RdBy (packT t) v W) :
    Calls Try.prog 41 #[v, .int .i64 0] W fun e w' => ∃ b c, e = .returned (.tuple #[.agg #[.int .i64 0, .int .i64 0, .slice b 0 c], .int .i64 0, .int .i64 3]) ∧ At w' [] (.slice b 0 c) ∧ Below W.heap.size W w' :=
  c_get_no (packT t) 0 3 (getS_no hf hc) (packT_bytes t hf) (by have := packT_len t; omega) W v hR
theorem e_get (t : Tm) (hc : checkE t = 0) (k n : Int) (hk : t.k = k) (hn : t.n = n) (W : World) (v : Value) (hR : RdBy (packT t) v W) :
    Calls Try.prog 41 #[v, .int .i64 0] W fun e w' => ∃ x b c, e = .returned (.tuple #[.agg #[.int .i64 k, .int .i64 n, .slice b t.kids.length c], .int .i64 x, .int .i64 0]) ∧ At w' t.kids (.slice b t.kids.length c) ∧ Below W.heap.size W w' := by
  subst hk hn
  refine (c_get_yes (packT t) 0 _ t (getS_full0 hc) (packT_bytes t (check_formed hc)) (by have := check_packlen hc; omega) W v hR).mono ?_
  rintro e w' ⟨b, c, h1, h2, h3⟩
  exact ⟨_, b, c, h1, h2, h3⟩
theorem e_keep (t : Tm) (hs : size t ≤ 1048576) (k n : Int) (hk : t.k = k) (hn : t.n = n) (W : World) (v v2 : Value) (hA : At W t.kids v) (hB : At W t.kids v2) :
    Calls Try.prog 24 #[.agg #[.int .i64 k, .int .i64 n, v], .agg #[.int .i64 k, .int .i64 n, v2]] W fun e w' => e = .returned (.bool true) ∧ Below W.heap.size W w' := by
  subst hk hn
  have := c_keep t t hs hs W v v2 hA hB
  rw [eqT_self] at this
  exact this
theorem box_new3 (w : World) (k n : Int) (l : List Tm) (v : Value) (hA : At w l v) :
    let W := w.alloc (.cells #[.int .i64 k, .int .i64 n, v] 24)
    (W.cell? ⟨w.heap.size, 0, none⟩ = some (.int .i64 k) ∧ W.cell? ⟨w.heap.size, 1, none⟩ = some (.int .i64 n) ∧ W.cell? ⟨w.heap.size, 2, none⟩ = some v) ∧ At W l v ∧ Below w.heap.size w W :=
  one_start w (.node k n l) v hA

set_option maxRecDepth 100000 in
set_option maxHeartbeats 4000000 in
theorem lends_deep (over : Int) (w : World) :
    Calls Try.prog 14 #[.int .i64 over, .bool true] w fun e w' => e = .returned (.bool true) ∧ Below w.heap.size w w' := by
  have HO := Lib.hid (two_range over)
  have HU := Lib.hid (fun w => u_any 0 w)
  go_enter Try.func14, Try.ntmps14
  go_upto_region 2 with (fail)
  have hO := HO.out
  clear HO
  generalize wrap64 ((IntKind.u64.wrap over).tmod 2) = o at *
  obtain ⟨m, hm⟩ : ∃ m : Nat, (m : Int) = 199 + o := ⟨(199 + o).toNat, by omega⟩
  have hm1 : 199 ≤ m := by omega
  have hm2 : m ≤ 200 := by omega
  have HMO := Lib.hid hm
  obtain rfl : o = (m : Int) - 199 := by omega
  clear hm
  go_wp2_with (go_at_call 32; refine (HU.out _).mono ?_; rintro e w1 ⟨rfl, hb⟩; have HB1 := Lib.hid hb; clear hb)
  have hB1 := HB1.out
  have hbox := World.alloc_heap_new w1 (.cells #[.int .i64 2, .int .i64 0, .slice none 0 0] 24)
  have hbel := hB1.trans ((below_al w1 (.cells #[.int .i64 2, .int .i64 0, .slice none 0 0] 24)).mono hB1.size)
  have hBw := hB1.size
  clear HB1 hB1
  revert hbox hbel hBw
  generalize w1.alloc (.cells #[.int .i64 2, .int .i64 0, .slice none 0 0] 24) = wb
  generalize w1.heap.size = B
  intro hbox hbel hBw
  go_loopw [7] (fun i wr => ChInv w B i m wr) (fun i _ => m - (RowKit.intOf i).toNat)
  case atStart => exact ⟨0, none, 0, Nat.zero_le _, rfl, hbox, .nl, hbel, hBw⟩
  case round =>
    obtain ⟨j, a, cap, hj, rfl, hbx, hA, hbw, hwB⟩ := hrel
    clear hbox hbel
    obtain ⟨⟨c0, c1, c2⟩, f0, f1, f2⟩ := box_cells hbx
    have hBr : B < wr.heap.size := (Array.getElem?_eq_some_iff.1 hbx).1
    have hwr := hbw.size
    by_cases hlt : j < m
    · have HT := Lib.hid (t_anyS _ 9 [chainT j] (by simp) (by simp) _ _ (fun b (hb : (w.heap.size ≤ b ∧ b ≠ B ∧ b < wr.heap.size) ∨ b = wr.heap.size) => by rcases hb with h | h <;> (simp; omega)) (ats_cells1 hA (fun b hb => hb.2.2)))
      rw [chain_k] at HT
      have HBX := Lib.hid hbx
      have e1 : (j : Int) < 199 + ((m : Int) - 199) := by omega
      have e2 : (j : Int) < (m : Int) := by omega
      clear hA hbx
      go_wp2_with (go_at_call 33; refine HT.out.mono ?_; rintro e w2 ⟨a2, cp2, rfl, hA2, hb2⟩; have hz2 : wr.heap.size + 1 ≤ w2.heap.size := (by have := hb2.size; simp at this; omega); have hbx2 := ((hb2.block B (by simp; omega)).trans (Below.heap_alloc wr _ B hBr)).trans HBX.out; obtain ⟨⟨z0, z1, z2⟩, y0, y1, y2⟩ := box_cells hbx2)
      have hb3 : Below wr.heap.size wr w2 := (below_al wr _).trans (hb2.mono (by simp))
      go_roundw
      case rel =>
        refine ⟨j + 1, a2, cp2, by omega, by go_num, box_store3 hbx2 _ _ _, hA2.lt.same fun b hb => ?_, (hbw.trans (hb3.mono hwr)).trans (below_store3 hwB _ _ _), hwB⟩
        have hne : w.heap.size ≤ b ∧ b ≠ B := by
          rcases hb.1 with (h | h) | h
          · exact ⟨h.1, h.2.1⟩
          · omega
          · simp at h; omega
        exact ⟨⟨hne.1, hne.2, by simpa [World.setCell] using hb.2⟩, other_store3 hne.2 _ _ _⟩
      case measure => simp [RowKit.intOf]; omega
    · obtain rfl : j = m := by omega
      obtain ⟨s1, s2, s3⟩ := chain_facts j
      have hfit := chain_fits j
      have hchk := chain_check j (by omega)
      have hkn := chain_k j
      have HX : Hid ((wr.cell? ⟨B, 0, none⟩ = some (.int .i64 (chainT j).k) ∧ wr.cell? ⟨B, 1, none⟩ = some (.int .i64 0) ∧ wr.cell? ⟨B, 2, none⟩ = some (.slice a (chainT j).kids.length cap)) ∧ At wr (chainT j).kids (.slice a (chainT j).kids.length cap) ∧ Below w.heap.size w wr) := ⟨⟨c0, c1, c2⟩, hA.at, hbw⟩
      have HPK := Lib.hid (e_pack (chainT j) s3 (by omega) (chainT j).k 0 rfl hkn)
      have HPT := Lib.hid (e_put (chainT j) hfit (by omega) (chainT j).k 0 rfl hkn)
      have HEQ := Lib.hid (e_keep (chainT j) (by omega) (chainT j).k 0 rfl hkn)
      have e1 : ¬ (j : Int) < 199 + ((j : Int) - 199) := by omega
      by_cases h9 : 199 < j
      · have hc : checkE (chainT j) = 5 := by rw [hchk, if_pos h9]
        have HPT2 := Lib.hid (fun W v hA => HPT.out W v hA 5 hc)
        have HGT := Lib.hid (e_get_no (chainT j) s3 (by omega) (by rw [hc]; decide))
        have e2 : (199 : Int) < (j : Int) := by omega
        clear s1 s2 s3 hfit hchk hkn hA hbx h9 HEQ HPT hc
        go_wp2_with fail
        refine (HPT2.out wr _ HX.out.2.1).mono ?_
        rintro e w2 ⟨pa, pm, pc, rfl, hpm, hb2⟩
        obtain rfl := hpm (by decide)
        have X2 := Lib.hid (carryB HX.out hb2)
        obtain ⟨d0, d1, d2⟩ := X2.out.1
        clear HX hb2 hpm
        go_wp2_with fail
        refine (HPK.out w2 _ X2.out.2.1).mono ?_
        rintro e w3 ⟨ka, kc, rfl, hk3, hb3⟩
        have X3 := Lib.hid (carryB X2.out hb3)
        clear X2 hb3 d0 d1 d2
        go_wp2_with fail
        refine (HGT.out w3 _ hk3).mono ?_
        rintro e w4 ⟨ga, gc, rfl, hA4, hb4⟩
        have O4 := Lib.hid (box_new3 w4 0 0 [] _ hA4)
        have X4 := Lib.hid (carryB X3.out (hb4.trans (O4.out.2.2.mono hb4.size)))
        obtain ⟨⟨u0, u1, u2⟩, _⟩ := O4.out
        clear X3 hk3 hb4 hA4
        go_wp2_with fail
        refine (c_keep_no _ _ _ O4.out.2.1).mono ?_
        rintro e w5 ⟨rfl, hb5⟩
        have X5 := Lib.hid (carryB X4.out hb5)
        clear X4 O4 hb5 u0 u1 u2
        go_wp2_with fail
        refine (wakes3_any _).mono ?_
        rintro e w6 ⟨rfl, hb6⟩
        go_wp2_with fail
        go_ret
        exact ⟨rfl, X5.out.2.2.trans (hb6.mono X5.out.2.2.size)⟩
      · have hc : checkE (chainT j) = 0 := by rw [hchk, if_neg h9]
        have HPT2 := Lib.hid (fun W v hA => HPT.out W v hA 0 hc)
        have HGT := Lib.hid (e_get (chainT j) hc (chainT j).k 0 rfl hkn)
        have e2 : ¬ (199 : Int) < (j : Int) := by omega
        clear s1 s2 s3 hfit hchk hkn hA hbx h9 HPT hc
        go_wp2_with fail
        refine (HPT2.out wr _ HX.out.2.1).mono ?_
        rintro e w2 ⟨pa, pm, pc, rfl, _, hb2⟩
        have X2 := Lib.hid (carryB HX.out hb2)
        obtain ⟨d0, d1, d2⟩ := X2.out.1
        clear HX hb2
        go_wp2_with fail
        refine (HPK.out w2 _ X2.out.2.1).mono ?_
        rintro e w3 ⟨ka, kc, rfl, hk3, hb3⟩
        have X3 := Lib.hid (carryB X2.out hb3)
        clear X2 hb3 d0 d1 d2
        go_wp2_with fail
        refine (HGT.out w3 _ hk3).mono ?_
        rintro e w4 ⟨x4, ga, gc, rfl, hA4, hb4⟩
        have O4 := Lib.hid (box_new3 w4 (chainT j).k 0 (chainT j).kids _ hA4)
        have X4 := Lib.hid (carryB X3.out (hb4.trans (O4.out.2.2.mono hb4.size)))
        obtain ⟨⟨u0, u1, u2⟩, _⟩ := O4.out
        obtain ⟨d0, d1, d2⟩ := X4.out.1
        clear X3 hk3 hb4 hA4
        go_wp2_with fail
        refine (HEQ.out _ _ _ O4.out.2.1 X4.out.2.1).mono ?_
        rintro e w5 ⟨rfl, hb5⟩
        have X5 := Lib.hid (carryB X4.out hb5)
        clear X4 O4 hb5 u0 u1 u2 d0 d1 d2
        go_wp2_with fail
        refine (wakes3_any _).mono ?_
        rintro e w6 ⟨rfl, hb6⟩
        go_wp2_with fail
        go_ret
        exact ⟨rfl, X5.out.2.2.trans (hb6.mono X5.out.2.2.size)⟩
end Go.Proofs.Ythcjjfgigbgdkaa
