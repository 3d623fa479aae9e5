/- porismlaw07's Heavy of a block: no conditions but sizes. -/
import Derived.Test.YtggefpkfikimiaaGreatG14
namespace Go.Proofs.YtggefpkfikimiaaGreat
open Go.RowKit
set_option linter.unusedVariables false

def heavyS (s : SortT) : Bool := heavyArgsB s.idx || heavyB [s.decT]
def heavyC (c : ConT) : Bool := heavyArgsB c.args || heavyB c.idx || heavyB [c.dec]
def heavyBlk (b : BlkT) : Bool := decide (10 < b.sorts.length) || decide (20 < b.cons.length) || b.sorts.any heavyS || b.cons.any heavyC
/-- A block in its box. -/
def OneB (w0 : World) (B1 : Nat) (b : BlkT) (vs vc : Value) (W : World) : Prop := W.heap[B1]? = some (.cells #[vs, vc, .int .i64 b.elim] 25 (0, 0)) ∧ BAt W b vs vc ∧ Below w0.heap.size w0 W
theorem OneB.bel {w0 W W' : World} {B1 : Nat} {b : BlkT} {vs vc : Value} (h : OneB w0 B1 b vs vc W) (hb : Below W.heap.size W W') : OneB w0 B1 b vs vc W' :=
  ⟨(hb.block B1 (Array.getElem?_eq_some_iff.1 h.1).1).trans h.1, h.2.1.bel hb, h.2.2.trans (hb.mono h.2.2.size)⟩
theorem oneb_start (w : World) (b : BlkT) (vs vc : Value) (h : BAt w b vs vc) : OneB w w.heap.size b vs vc (w.alloc (.cells #[vs, vc, .int .i64 b.elim] 25)) :=
  ⟨World.alloc_heap_new w _, h.bel (below_al w _), below_al w _⟩
theorem OneB.cells {w0 W : World} {B1 : Nat} {b : BlkT} {vs vc : Value} (h : OneB w0 B1 b vs vc W) : W.cell? ⟨B1, 0, none⟩ = some vs ∧ W.cell? ⟨B1, 1, none⟩ = some vc ∧ W.cell? ⟨B1, 2, none⟩ = some (.int .i64 b.elim) := by
  have h1 := h.1
  refine ⟨?_, ?_, ?_⟩ <;> simp [World.cell?, h1]
theorem BAt.shape {w : World} {b : BlkT} {vs vc : Value} (h : BAt w b vs vc) : ∃ p c p2 c2, vs = .slice p b.sorts.length c ∧ vc = .slice p2 b.cons.length c2 := by
  obtain ⟨p, c, e⟩ := h.1.shape
  obtain ⟨p2, c2, e2⟩ := h.2.shape
  exact ⟨p, c, p2, c2, e, e2⟩
set_option maxRecDepth 100000 in
set_option maxHeartbeats 4000000 in
theorem heavyblk_any (b : BlkT) (hs : blkN b ≤ 1048576) (w : World) (vs vc : Value) (hA : BAt w b vs vc) :
    Calls Tryz.prog 5 #[.agg #[vs, vc, .int .i64 b.elim]] w fun e w' => e = .returned (.bool (heavyBlk b)) ∧ Below w.heap.size w w' := by
  obtain ⟨ps, cs, pc, cc, rfl, rfl⟩ := hA.shape
  have hls := sortsN_len b.sorts
  have hlc := consN_len b.cons
  have hbn : blkN b = sortsN b.sorts + consN b.cons + 1 := rfl
  have O0 := Lib.hid (oneb_start w b _ _ hA)
  clear hA
  by_cases h10 : 10 < b.sorts.length
  · have e1 : decide ((10 : Int) < (b.sorts.length : Int)) = true := by simp; omega
    have HE := Lib.hid (show heavyBlk b = true by rw [heavyBlk, decide_eq_true h10]; rfl)
    go_enter Tryz.func5, Tryz.ntmps5
    go_wp2_with fail
    go_ret
    exact ⟨ret_bool HE.out.symm, O0.out.2.2⟩
  by_cases h20 : 20 < b.cons.length
  · have e1 : decide ((10 : Int) < (b.sorts.length : Int)) = false := by simp; omega
    have e2 : decide ((20 : Int) < (b.cons.length : Int)) = true := by simp; omega
    have HE := Lib.hid (show heavyBlk b = true by rw [heavyBlk, decide_eq_true h20, Bool.or_true]; rfl)
    go_enter Tryz.func5, Tryz.ntmps5
    go_wp2_with fail
    go_ret
    exact ⟨ret_bool HE.out.symm, O0.out.2.2⟩
  have e1 : decide ((10 : Int) < (b.sorts.length : Int)) = false := by simp; omega
  have e2 : decide ((20 : Int) < (b.cons.length : Int)) = false := by simp; omega
  have E := Lib.hid (show heavyBlk b = (b.sorts.any heavyS || b.cons.any heavyC) by rw [heavyBlk, decide_eq_false h10, decide_eq_false h20]; rfl)
  clear h10 h20
  go_enter Tryz.func5, Tryz.ntmps5
  go_wp2_with fail
  clear e1 e2
  go_loopw [3] (fun i wr => ∃ j : Nat, j ≤ b.sorts.length ∧ i = .int .i64 j ∧ (b.sorts.take j).any heavyS = false ∧ OneB w w.heap.size b (.slice ps b.sorts.length cs) (.slice pc b.cons.length cc) wr) (fun i _ => b.sorts.length - (RowKit.intOf i).toNat)
  case atStart => exact ⟨0, Nat.zero_le _, rfl, rfl, O0.out⟩
  case round =>
    clear O0
    obtain ⟨j, hj, rfl, han, hO⟩ := hrel
    obtain ⟨x0, x1, x2⟩ := hO.cells
    by_cases hlt : j < b.sorts.length
    · obtain ⟨B, off, va, vt, rfl, ga, gt, k0, k1, k2, k3, k4, k5⟩ := SRow.at hO.2.1.1 hlt
      obtain ⟨aa1, ca1, hva⟩ := ga.shape
      obtain ⟨at1, ct1, hvt⟩ := gt.shape
      rw [hva] at ga k0
      rw [hvt] at gt k5
      have hsz := sortN_le (List.getElem_mem hlt)
      have hn : sortN b.sorts[j] = argsN b.sorts[j].idx + size b.sorts[j].decT + 1 := rfl
      have H1 := Lib.hid (heavyargs_any b.sorts[j].idx (by omega) wr _ ga)
      have H2 := Lib.hid (fun W (hW : Below wr.heap.size wr W) => heavy_lit b.sorts[j].decT (by omega) W _ (gt.bel hW (Nat.le_refl _)))
      have HT := Lib.hid (anyA_take hlt heavyS)
      have HAN := Lib.hid han
      have HO := Lib.hid hO
      have K := Lib.hid (And.intro k3 (And.intro k4 k5))
      have hji : (j : Int) < (b.sorts.length : Int) := by omega
      have hj0 : (0 : Int) ≤ (j : Int) := by omega
      have hjm : j < 1048576 := by omega
      clear ga gt hva hvt han hO k1 k2 k3 k4 k5 hn hsz hbn
      cases h1 : heavyArgsB b.sorts[j].idx with
      | true =>
        rw [h1] at H1
        have HF := Lib.hid (any_of hlt heavyS (by rw [heavyS, h1]; rfl))
        clear h1
        go_wp2_with fail
        refine H1.out.mono ?_
        rintro e w1 ⟨rfl, hb1⟩
        have HB1 := Lib.hid (HO.out.bel hb1)
        clear hb1
        go_wp2_with fail
        go_ret
        exact ⟨ret_bool (by rw [E.out, HF.out]; rfl), HB1.out.2.2⟩
      | false =>
        rw [h1] at H1
        cases h2 : heavyB [b.sorts[j].decT] with
        | true =>
          rw [h2] at H2
          have HF := Lib.hid (any_of hlt heavyS (by rw [heavyS, h1, h2]; rfl))
          clear h1 h2
          go_wp2_with fail
          refine H1.out.mono ?_
          rintro e w1 ⟨rfl, hb1⟩
          have HO1 := Lib.hid (HO.out.bel hb1)
          have HB1 := Lib.hid hb1
          obtain ⟨z0, z1, z2⟩ := HO1.out.cells
          have q3 := gcell hb1 K.out.1
          have q4 := gcell hb1 K.out.2.1
          have q5 := gcell hb1 K.out.2.2
          clear hb1 x0 x1 x2 k0
          go_wp2_with fail
          refine (H2.out w1 HB1.out).mono ?_
          rintro e w2 ⟨rfl, hb2⟩
          have HB2 := Lib.hid (HO1.out.bel hb2)
          clear hb2 q3 q4 q5 z0 z1 z2
          go_wp2_with fail
          go_ret
          exact ⟨ret_bool (by rw [E.out, HF.out]; rfl), HB2.out.2.2⟩
        | false =>
          rw [h2] at H2
          have HF := Lib.hid (show heavyS b.sorts[j] = false by rw [heavyS, h1, h2]; rfl)
          clear h1 h2
          go_wp2_with fail
          refine H1.out.mono ?_
          rintro e w1 ⟨rfl, hb1⟩
          have HO1 := Lib.hid (HO.out.bel hb1)
          have HB1 := Lib.hid hb1
          obtain ⟨z0, z1, z2⟩ := HO1.out.cells
          have q3 := gcell hb1 K.out.1
          have q4 := gcell hb1 K.out.2.1
          have q5 := gcell hb1 K.out.2.2
          clear hb1 x0 x1 x2 k0
          go_wp2_with fail
          refine (H2.out w1 HB1.out).mono ?_
          rintro e w2 ⟨rfl, hb2⟩
          have HB2 := Lib.hid (HO1.out.bel hb2)
          clear hb2 q3 q4 q5 z0 z1 z2
          go_wp2_with fail
          go_roundw
          case rel => exact ⟨j + 1, hlt, by go_num, by rw [HT.out, HAN.out, HF.out]; rfl, HB2.out⟩
          case measure => simp [RowKit.intOf]; omega
    · obtain rfl : j = b.sorts.length := by omega
      have hnl : ¬ (b.sorts.length : Int) < (b.sorts.length : Int) := by omega
      have HO := Lib.hid hO
      have E2 : Hid (heavyBlk b = b.cons.any heavyC) := by
        rw [List.take_length] at han
        unfold Hid
        rw [E.out, han]; rfl
      clear han hO E
      go_wp2_with fail
      clear x0 x1 x2 hnl hlt hj
      go_loopw [4] (fun i wr => ∃ j : Nat, j ≤ b.cons.length ∧ i = .int .i64 j ∧ (b.cons.take j).any heavyC = false ∧ OneB w w.heap.size b (.slice ps b.sorts.length cs) (.slice pc b.cons.length cc) wr) (fun i _ => b.cons.length - (RowKit.intOf i).toNat)
      case atStart => exact ⟨0, Nat.zero_le _, rfl, rfl, HO.out⟩
      case round =>
        clear HO
        obtain ⟨j, hj, rfl, han, hO⟩ := hrel
        obtain ⟨x0, x1, x2⟩ := hO.cells
        by_cases hlt : j < b.cons.length
        · obtain ⟨B, off, va, vi, vt, rfl, ga, gi, gt, k0, k1, k2, k3, k4, k5⟩ := CRow.at hO.2.1.2 hlt
          obtain ⟨aa1, ca1, hva⟩ := ga.shape
          obtain ⟨ai1, ci1, hvi⟩ := gi.shape
          obtain ⟨at1, ct1, hvt⟩ := gt.shape
          rw [hva] at ga k1
          rw [hvi] at gi k2
          rw [hvt] at gt k5
          have hsz := conN_le (List.getElem_mem hlt)
          have hn : conN b.cons[j] = argsN b.cons[j].args + sizeL b.cons[j].idx + size b.cons[j].dec + 1 := rfl
          have H1 := Lib.hid (heavyargs_any b.cons[j].args (by omega) wr _ ga)
          have H2 := Lib.hid (fun W (hW : Below wr.heap.size wr W) => heavy_any b.cons[j].idx (by omega) W _ (gi.bel hW (Nat.le_refl _)))
          have H3 := Lib.hid (fun W (hW : Below wr.heap.size wr W) => heavy_lit b.cons[j].dec (by omega) W _ (gt.bel hW (Nat.le_refl _)))
          have HT := Lib.hid (anyA_take hlt heavyC)
          have HAN := Lib.hid han
          have HO := Lib.hid hO
          have K := Lib.hid (And.intro k2 (And.intro k3 (And.intro k4 k5)))
          have hji : (j : Int) < (b.cons.length : Int) := by omega
          have hj0 : (0 : Int) ≤ (j : Int) := by omega
          have hjm : j < 1048576 := by omega
          clear ga gi gt hva hvi hvt han hO k0 k2 k3 k4 k5 hn hsz hbn
          cases h1 : heavyArgsB b.cons[j].args with
          | true =>
            rw [h1] at H1
            have HF := Lib.hid (any_of hlt heavyC (by rw [heavyC, h1]; rfl))
            clear h1
            go_wp2_with fail
            refine H1.out.mono ?_
            rintro e w1 ⟨rfl, hb1⟩
            have HB1 := Lib.hid (HO.out.bel hb1)
            clear hb1
            go_wp2_with fail
            go_ret
            exact ⟨ret_bool (by rw [E2.out, HF.out]), HB1.out.2.2⟩
          | false =>
            rw [h1] at H1
            cases h2 : heavyB b.cons[j].idx with
            | true =>
              rw [h2] at H2
              have HF := Lib.hid (any_of hlt heavyC (by rw [heavyC, h1, h2]; rfl))
              clear h1 h2
              go_wp2_with fail
              refine H1.out.mono ?_
              rintro e w1 ⟨rfl, hb1⟩
              have HO1 := Lib.hid (HO.out.bel hb1)
              have HB1 := Lib.hid hb1
              obtain ⟨z0, z1, z2⟩ := HO1.out.cells
              have q2 := gcell hb1 K.out.1
              clear hb1 x0 x1 x2 k1
              go_wp2_with fail
              refine (H2.out w1 HB1.out).mono ?_
              rintro e w2 ⟨rfl, hb2⟩
              have HB2 := Lib.hid (HO1.out.bel hb2)
              clear hb2 q2 z0 z1 z2
              go_wp2_with fail
              go_ret
              exact ⟨ret_bool (by rw [E2.out, HF.out]), HB2.out.2.2⟩
            | false =>
              rw [h2] at H2
              cases h3 : heavyB [b.cons[j].dec] with
              | true =>
                rw [h3] at H3
                have HF := Lib.hid (any_of hlt heavyC (by rw [heavyC, h1, h2, h3]; rfl))
                clear h1 h2 h3
                go_wp2_with fail
                refine H1.out.mono ?_
                rintro e w1 ⟨rfl, hb1⟩
                have HO1 := Lib.hid (HO.out.bel hb1)
                have HB1 := Lib.hid hb1
                obtain ⟨z0, z1, z2⟩ := HO1.out.cells
                have q2 := gcell hb1 K.out.1
                clear hb1 x0 x1 x2 k1
                go_wp2_with fail
                refine (H2.out w1 HB1.out).mono ?_
                rintro e w2 ⟨rfl, hb2⟩
                have HB2 := Lib.hid (HO1.out.bel hb2)
                have HG2 := Lib.hid (HB1.out.trans (hb2.mono HB1.out.size))
                obtain ⟨y0, y1, y2⟩ := HB2.out.cells
                have q3 := gcell HG2.out K.out.2.1
                have q4 := gcell HG2.out K.out.2.2.1
                have q5 := gcell HG2.out K.out.2.2.2
                clear hb2 q2 z0 z1 z2
                go_wp2_with fail
                refine (H3.out w2 HG2.out).mono ?_
                rintro e w3 ⟨rfl, hb3⟩
                have HB3 := Lib.hid (HB2.out.bel hb3)
                clear hb3 q3 q4 q5 y0 y1 y2
                go_wp2_with fail
                go_ret
                exact ⟨ret_bool (by rw [E2.out, HF.out]), HB3.out.2.2⟩
              | false =>
                rw [h3] at H3
                have HF := Lib.hid (show heavyC b.cons[j] = false by rw [heavyC, h1, h2, h3]; rfl)
                clear h1 h2 h3
                go_wp2_with fail
                refine H1.out.mono ?_
                rintro e w1 ⟨rfl, hb1⟩
                have HO1 := Lib.hid (HO.out.bel hb1)
                have HB1 := Lib.hid hb1
                obtain ⟨z0, z1, z2⟩ := HO1.out.cells
                have q2 := gcell hb1 K.out.1
                clear hb1 x0 x1 x2 k1
                go_wp2_with fail
                refine (H2.out w1 HB1.out).mono ?_
                rintro e w2 ⟨rfl, hb2⟩
                have HB2 := Lib.hid (HO1.out.bel hb2)
                have HG2 := Lib.hid (HB1.out.trans (hb2.mono HB1.out.size))
                obtain ⟨y0, y1, y2⟩ := HB2.out.cells
                have q3 := gcell HG2.out K.out.2.1
                have q4 := gcell HG2.out K.out.2.2.1
                have q5 := gcell HG2.out K.out.2.2.2
                clear hb2 q2 z0 z1 z2
                go_wp2_with fail
                refine (H3.out w2 HG2.out).mono ?_
                rintro e w3 ⟨rfl, hb3⟩
                have HB3 := Lib.hid (HB2.out.bel hb3)
                clear hb3 q3 q4 q5 y0 y1 y2
                go_wp2_with fail
                go_roundw
                case rel => exact ⟨j + 1, hlt, by go_num, by rw [HT.out, HAN.out, HF.out]; rfl, HB3.out⟩
                case measure => simp [RowKit.intOf]; omega
        · obtain rfl : j = b.cons.length := by omega
          have hnl : ¬ (b.cons.length : Int) < (b.cons.length : Int) := by omega
          have HAN := Lib.hid han
          have HO := Lib.hid hO
          clear han hO
          go_wp2_with fail
          go_ret
          exact ⟨ret_bool (by have := HAN.out; rw [List.take_length] at this; rw [E2.out, this]), HO.out.2.2⟩
end Go.Proofs.YtggefpkfikimiaaGreat
