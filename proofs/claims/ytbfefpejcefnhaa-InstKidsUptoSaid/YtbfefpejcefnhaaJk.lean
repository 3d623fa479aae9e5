/- InstKids: the Go text returns true for any terms that are not greater than the second form's bound, and any integer. -/
import Derived.Test.YtbfefpejcefnhaaIb
import Derived.Deep.DeepCutAuto
import Derived.Deep.RegionHeld3
import Derived.Deep.DrawnRows
import Derived.Test.YtbfefpejcefnhaaRe
namespace Go.Proofs.Ytbfefpejcefnhaa
open Go.RowKit
set_option linter.unusedVariables false

set_option maxRecDepth 100000 in
set_option maxHeartbeats 5000000 in
theorem likids_any (t : Tm) (A : List Tm) (hF : Fits t) (hFA : ∀ a ∈ A, Fits a) (hs : size t ≤ 1048576) (hsA : sizeL A ≤ 1048576) (us : Int) (w : World) (v va : Value) (hA : At w t.kids v) (hAA : At w A va) :
    Calls Try.prog 8 #[.agg #[.int .i64 t.k, .int .i64 t.n, v], va, .int .i64 us] w fun e w' => e = .returned (.bool true) ∧ Below w.heap.size w w' := by
  obtain ⟨a1, c1, rfl⟩ := hA.shape
  obtain ⟨pa, cp, rfl⟩ := hAA.shape
  have hAl : A.length ≤ 1048576 := Nat.le_trans (length_le_sizeL A) hsA
  have HH := heavy1 t hs w _ hA
  have HAA := Lib.hid hAA
  have HH2 : Hid (∀ W, Below w.heap.size w W → Calls Try.prog 12 #[.slice pa A.length cp] W fun e w' => e = .returned (.bool (heavyB A)) ∧ Below W.heap.size W w') := fun W hW => heavy_any A (by omega) W _ (hAA.bel hW (Nat.le_refl _))
  clear hA hAA
  cases hh : heavyB [t] with
  | true =>
    rw [hh] at HH
    have HH := Lib.hid HH
    clear hh HH2
    go_enter Try.func8, Try.ntmps8
    go_wp2_with fail
    refine HH.out.mono ?_
    rintro e w1 ⟨rfl, hb1⟩
    have T1 := Lib.hid hb1
    clear hb1
    go_wp2_with fail
    go_ret
    exact ⟨rfl, T1.out.2.2⟩
  | false =>
    rw [hh] at HH
    have HH := Lib.hid HH
    clear hh
    cases hh2 : heavyB A with
    | true =>
      rw [hh2] at HH2
      clear hh2
      go_enter Try.func8, Try.ntmps8
      go_wp2_with fail
      refine HH.out.mono ?_
      rintro e w1 ⟨rfl, hb1⟩
      have T1 := Lib.hid hb1
      clear hb1
      go_wp2_with fail
      refine (HH2.out _ T1.out.2.2).mono ?_
      rintro e w2 ⟨rfl, hb2⟩
      have T2 := Lib.hid (T1.out.bel hb2)
      clear hb2
      go_wp2_with fail
      go_ret
      exact ⟨rfl, T2.out.2.2⟩
    | false =>
      rw [hh2] at HH2
      have hp : A.length ≤ 60 := by
        have := hh2
        simp only [heavyB, Bool.or_eq_false_iff, decide_eq_false_iff_not] at this
        omega
      clear hh2
      have HWK := Lib.hid (fun w => wakes5_any w)
      go_enter Try.func8, Try.ntmps8
      go_wp2_with fail
      refine HH.out.mono ?_
      rintro e w1 ⟨rfl, hb1⟩
      have T1 := Lib.hid hb1
      clear hb1 HH
      go_wp2_with fail
      refine (HH2.out _ T1.out.2.2).mono ?_
      rintro e w2 ⟨rfl, hb2⟩
      have T2 := Lib.hid (T1.out.bel hb2)
      clear hb2 T1 HH2
      have hkl : t.kids.length ≤ 1048576 := by have := length_le_sizeL t.kids; have := size_eq t; omega
      have HR := Lib.hid (fun W v hA => c_rcheck t hs W v hA)
      obtain ⟨⟨x0, x1, x2⟩, _⟩ := T2.out
      by_cases hc : checkE t = 0
      rotate_left
      · have q1 : (checkE t != 0) = true := by simpa using hc
        generalize checkE t = ce at *
        clear hc
        go_wp2_with fail
        refine (HR.out _ _ T2.out.2.1).mono ?_
        rintro e w3 ⟨rfl, hb3⟩
        have T3 := Lib.hid (T2.out.bel hb3)
        clear hb3 x0 x1 x2 T2
        go_wp2_with fail
        go_ret
        exact ⟨rfl, T3.out.2.2⟩
      rw [hc] at HR
      have hru := mod_range us 20 (by omega) (by omega)
      by_cases hl : t.kids.length = 0
      · rw [hl] at T2 x2
        clear hl hru
        go_wp2_with fail
        refine (HR.out _ _ T2.out.2.1).mono ?_
        rintro e w3 ⟨rfl, hb3⟩
        have T3 := Lib.hid (T2.out.bel hb3)
        clear hb3 x0 x1 x2 T2
        obtain ⟨⟨x0, x1, x2⟩, _⟩ := T3.out
        go_wp2_with fail
        go_ret
        exact ⟨rfl, T3.out.2.2⟩
      have q1 : ((t.kids.length : Int) == 0) = false := by simpa using hl
      go_wp2_with fail
      refine (HR.out _ _ T2.out.2.1).mono ?_
      rintro e w3 ⟨rfl, hb3⟩
      have T3 := Lib.hid (T2.out.bel hb3)
      clear hb3 x0 x1 x2 T2 HR
      obtain ⟨⟨x0, x1, x2⟩, _⟩ := T3.out
      go_upto_region 4 with (fail)
      generalize wrap64 ((IntKind.u64.wrap us).tmod 20) = u at *
      obtain ⟨u0, u1⟩ := hru
      by_cases h0 : instE t A u = 0
      rotate_left
      · have HI := Lib.hid (fun W v va hA hM => c_inst (u := u) hF hs hFA hsA (by omega) rfl rfl W v va hA hM)
        have q2 : (instE t A u != 0) = true := by simpa using h0
        generalize instE t A u = e1 at *
        generalize instT t A u = r at *
        clear h0
        go_wp2_with fail
        refine (HI.out _ _ _ T3.out.2.1 (HAA.out.bel T3.out.2.2 (Nat.le_refl _))).mono ?_
        rintro e w4 ⟨a4, c4, rfl, hK4, hb4⟩
        obtain ⟨_, hg4⟩ := boxed_tell T3.out.2.2 hb4 hK4
        have T4 := Lib.hid (T3.out.bel hg4)
        clear hg4 hK4 hb4 x0 x1 x2 T3 HI
        go_wp2_with fail
        refine (HWK.out _).mono ?_
        rintro e w105 ⟨rfl, hb5⟩
        have T5 := Lib.hid (T4.out.bel hb5)
        clear hb5 T4
        go_wp2_with fail
        go_ret
        exact ⟨rfl, T5.out.2.2⟩
      have HI := Lib.hid (fun W v va hA hM => c_inst (u := u) hF hs hFA hsA (by omega) h0 (instT_put h0) W v va hA hM)
      obtain ⟨p1, p2, p3⟩ := inst_kids h0 (by omega) (by omega : 0 < t.kids.length)
      have HP3 := Lib.hid p3
      have hsX := put_small h0
      have HSX : Hid (∀ i (hi : i < (putT A t u).kids.length), size (putT A t u).kids[i] ≤ 1048576) := fun i hi => by have := size_get hi; have := size_eq (putT A t u); omega
      clear p3 h0 hc hsX
      generalize putT A t u = X at *
      have q3 : ((X.kids.length : Int) != (t.kids.length : Int)) = false := by simp [p2]
      have q4 : (X.k != t.k) = false := by simp [p1]
      have P2 := Lib.hid p2
      clear p1 p2
      go_wp2_with fail
      refine (HI.out _ _ _ T3.out.2.1 (HAA.out.bel T3.out.2.2 (Nat.le_refl _))).mono ?_
      rintro e w4 ⟨a4, c4, rfl, hK4, hb4⟩
      obtain ⟨hX4, hg4⟩ := boxed_tell T3.out.2.2 hb4 hK4
      have T4 := Lib.hid (T3.out.bel hg4)
      have X4 := Lib.hid hX4
      clear hX4 hg4 hK4 hb4 x0 x1 x2 T3 HI
      obtain ⟨⟨x0, x1, x2⟩, _⟩ := T4.out
      obtain ⟨⟨y0, y1, y2⟩, _⟩ := X4.out
      go_wp2_with fail
      clear q3 q4
      revert T4 X4 x0 x1 x2 y0 y1 y2
      generalize w4.alloc (.cells #[.int .i64 X.k, .int .i64 X.n, .slice a4 X.kids.length c4] 24) = wx
      generalize w4.heap.size = xb
      intro T4 X4 x0 x1 x2 y0 y1 y2
      clear x0 x1 x2 y0 y1 y2
      obtain ⟨bk, ok, ck, vk, he, h1, h2, _⟩ := T4.out.2.1.pos (by omega)
      cases he
      obtain ⟨bx, ox, cx, vx, he, g1, g2, _⟩ := X4.out.2.1.pos (by have := P2.out; omega)
      cases he
      clear h1 h2 g1 g2
      have HXB : Hid (w.heap.size < wx.heap.size ∧ xb < wx.heap.size) := ⟨World.block_lt_of_cell? wx _ T4.out.1.1, World.block_lt_of_cell? wx _ X4.out.1.1⟩
      go_loopw [9] (fun i wr => ∃ j : Nat, j ≤ t.kids.length ∧ i = .int .i64 j ∧ Below wx.heap.size wx wr) (fun i _ => t.kids.length - (RowKit.intOf i).toNat)
      case atStart => exact ⟨0, Nat.zero_le _, rfl, Below.refl _ _⟩
      case round =>
        obtain ⟨j, hj, rfl, hbr⟩ := hrel
        have HBR := Lib.hid hbr
        have T5 := Lib.hid (T4.out.bel hbr)
        have X5 := Lib.hid (X4.out.bel hbr)
        have hzr := hbr.size
        clear hbr
        obtain ⟨⟨x0, x1, x2⟩, _⟩ := T5.out
        by_cases hlt : j < t.kids.length
        · obtain ⟨bk', ok', ck', vk', he, h1, h2, kk, kn, kv, ks⟩ := T5.out.2.1.pos (by omega)
          cases he
          have gk := kk j hlt
          have gn := kn j hlt
          have gv := kv j hlt
          have gs := ks j hlt
          obtain ⟨au, cu, hvu⟩ := gs.shape
          rw [hvu] at gv gs
          have hbk : bk < wr.heap.size := World.block_lt_of_cell? wr _ gk
          have hsz := size_get hlt
          have hse := size_eq t
          have hbi := bindsI_range t.k j
          have hwb : IntKind.i64.wrap (u + bindsI t.k j) = u + bindsI t.k j := IntWalk.i64_in _ (by omega)
          obtain ⟨e1, e2⟩ := HP3.out j hlt
          have hjX : j < X.kids.length := by have := P2.out; omega
          rw [List.getElem?_eq_getElem hjX, Option.some.injEq] at e1
          have hsj : size t.kids[j] ≤ 1048576 := by omega
          have hp2 : A.length ≤ 65535 := by omega
          have hI := fun W v va hA hM => c_inst (t := t.kids[j]'hlt) (hF.kids _ (List.getElem_mem hlt)) hsj hFA hsA hp2 e2 ((instT_put e2).trans e1.symm) W v va hA hM
          have HSY := Lib.hid (HSX.out j hjX)
          obtain ⟨bx', ox', cx', vx', he, g1, g2, jk, jn, jv, js⟩ := X5.out.2.1.pos (by omega)
          cases he
          have ok0 := jk j hjX
          have on0 := jn j hjX
          have ov0 := jv j hjX
          have os0 := js j hjX
          obtain ⟨ay, cy, hvy⟩ := os0.shape
          rw [hvy] at ov0 os0
          clear e1 e2 hse hsz kk kn kv ks hvu jk jn jv js hvy h1 h2 g1 g2
          generalize X.kids[j] = Y at *
          have HOS := Lib.hid os0
          have HOC := Lib.hid (And.intro ok0 (And.intro on0 ov0))
          have HAR := Lib.hid (HAA.out.bel T5.out.2.2 (Nat.le_refl _))
          have C1 : Hid (Calls Try.prog 15 #[.agg #[.int .i64 t.kids[j].k, .int .i64 t.kids[j].n, .slice au t.kids[j].kids.length cu], .slice pa A.length cp, .int .i64 (u + bindsI t.k j)] wr.drew (TellK wr.drew Y (.int .i64 0))) := hI _ _ _ gs.drew HAR.out.drew
          have C2 : Hid (Calls Try.prog 15 #[.agg #[.int .i64 t.kids[j].k, .int .i64 t.kids[j].n, .slice au t.kids[j].kids.length cu], .slice pa A.length cp, .int .i64 (u + bindsI t.k j)] (wr.alloc (.cells #[.int .i64 0, .int .i64 0, .slice none 0 0] 24)).drew (TellK (wr.alloc (.cells #[.int .i64 0, .int .i64 0, .slice none 0 0] 24)).drew Y (.int .i64 0))) := hI _ _ _ (gs.alloc _).drew (HAR.out.alloc _).drew
          have HN : Hid ((wr.alloc (.cells #[.int .i64 0, .int .i64 0, .slice none 0 0] 24)).drew.heap[wr.heap.size]? = some (.cells #[.int .i64 0, .int .i64 0, .slice none 0 0] 24 (0, 0))) := World.alloc_heap_new wr (.cells #[.int .i64 0, .int .i64 0, .slice none 0 0] 24)
          have HL2 : Hid (wr.heap.size < (wr.alloc (.cells #[.int .i64 0, .int .i64 0, .slice none 0 0] 24)).drew.heap.size) := by show _ < (wr.alloc _).heap.size; simp
          have HW1 := Lib.hid ((Below.refl wr.heap.size wr).drew)
          have HW2 := Lib.hid ((below_al wr (.cells #[.int .i64 0, .int .i64 0, .slice none 0 0] 24)).drew)
          have hwt := HXB.out.1
          have hne1 : ¬ (w.heap.size = wr.heap.size) := by omega
          have hne2 : ¬ (wr.heap.size = w.heap.size) := by omega
          have hne3 : ¬ (bk = wr.heap.size) := by omega
          have hne4 : ¬ (wr.heap.size = bk) := by omega
          have k1 : ∀ {b o : Nat} {y : Value} {W : World}, Below wr.drew.heap.size wr.drew W → wr.cell? ⟨b, o, none⟩ = some y → W.cell? ⟨b, o, none⟩ = some y := fun hb hx => gcell (w := wr.drew) hb hx
          have k2 : ∀ {b o : Nat} {y : Value} {W : World}, Below (wr.alloc (.cells #[.int .i64 0, .int .i64 0, .slice none 0 0] 24)).drew.heap.size (wr.alloc (.cells #[.int .i64 0, .int .i64 0, .slice none 0 0] 24)).drew W → wr.cell? ⟨b, o, none⟩ = some y → W.cell? ⟨b, o, none⟩ = some y := fun hb hx => gcell (w := (wr.alloc (.cells #[.int .i64 0, .int .i64 0, .slice none 0 0] 24)).drew) hb (gcell (below_al wr (.cells #[.int .i64 0, .int .i64 0, .slice none 0 0] 24)) hx)
          have hl1 : (j : Int) < (t.kids.length : Int) := by omega
          have hl0 : (0 : Int) ≤ (j : Int) := by omega
          have hl2 : (j : Int) < (X.kids.length : Int) := by omega
          clear hI gs os0 ok0 on0 ov0 hbi hwt hbk
          clear HH
          go_wp2_with fail
          go_region_held3 (fun w' => w'.cell? ⟨w.heap.size, 0, none⟩ = some (.int .i64 t.k) ∧ w'.cell? ⟨w.heap.size, 2, none⟩ = some (.slice (some ⟨bk, ok, none⟩) t.kids.length c1) ∧ w'.cell? ⟨bk, ok + j * 3, none⟩ = some (.int .i64 t.kids[j].k) ∧ w'.cell? ⟨bk, ok + j * 3 + 1, none⟩ = some (.int .i64 t.kids[j].n) ∧ w'.cell? ⟨bk, ok + j * 3 + 2, none⟩ = some (.slice au t.kids[j].kids.length cu)) (go_keep)
            (first | (go_at_call 29; refine (rbinds_any _ _ _).mono ?_; rintro e w' ⟨rfl, rfl⟩) | (go_at_call 15; (with_reducible refine C1.out.mono ?_); rintro e w8 ⟨a8, c8, rfl, hK8, hb8⟩; have z0 := k1 hb8 x0; have z1 := k1 hb8 x2; have z2 := k1 hb8 gk; have z3 := k1 hb8 gn; have z4 := k1 hb8 gv; have hG8 := HW1.out.trans hb8) | (go_at_call 15; (with_reducible refine C2.out.mono ?_); rintro e w8 ⟨a8, c8, rfl, hK8, hb8⟩; have z0 := k2 hb8 x0; have z1 := k2 hb8 x2; have z2 := k2 hb8 gk; have z3 := k2 hb8 gn; have z4 := k2 hb8 gv; have hG8 := HW2.out.trans (hb8.mono HW2.out.size); have hz8 := (hb8.block wr.heap.size HL2.out).trans HN.out; have hKB := zk hK8 HL2.out; obtain ⟨⟨n0, n1, n2⟩, p0, p1, p2⟩ := boxc hz8))
          all_goals
            first
              | (have hPG := boxed_term (k := Y.k) (n := Y.n) (l := Y.kids) (Below.refl wr.heap.size wr) hz8 hG8 (Nat.le_refl _) hKB; have hat := (show At _ Y.kids (.slice a8 Y.kids.length c8) from hPG.1.2.1); have hcl := (boxc (box_store3 hz8 (.int .i64 Y.k) (.int .i64 Y.n) (.slice a8 Y.kids.length c8))).1; have hBF := hPG.2; clear hPG; obtain ⟨wF, hwF⟩ : ∃ wF, wF = (((w8.setCell ⟨wr.heap.size, 0, none⟩ (.int .i64 Y.k)).setCell ⟨wr.heap.size, 1, none⟩ (.int .i64 Y.n)).setCell ⟨wr.heap.size, 2, none⟩ (.slice a8 Y.kids.length c8)) := ⟨_, rfl⟩; rw [← hwF] at hat hcl hBF ⊢; obtain ⟨yb, hyb⟩ : ∃ yb, yb = wr.heap.size := ⟨_, rfl⟩; rw [← hyb] at hcl ⊢)
              | (have hPG := boxed_tell (Below.refl wr.heap.size wr) hG8 hK8; have hat := (show At _ Y.kids (.slice a8 Y.kids.length c8) from hPG.1.2.1); have hcl := (boxc (World.alloc_heap_new w8 (.cells #[.int .i64 Y.k, .int .i64 Y.n, .slice a8 Y.kids.length c8] 24))).1; have hBF := hPG.2; clear hPG; obtain ⟨wF, hwF⟩ : ∃ wF, wF = w8.alloc (.cells #[.int .i64 Y.k, .int .i64 Y.n, .slice a8 Y.kids.length c8] 24) := ⟨_, rfl⟩; rw [← hwF] at hat hcl hBF ⊢; obtain ⟨yb, hyb⟩ : ∃ yb, yb = w8.heap.size := ⟨_, rfl⟩; rw [← hyb] at hcl ⊢)
            obtain ⟨y0, y1, y2⟩ := hcl
            have i0 := gcell hBF X5.out.1.2.2
            have i1 := gcell hBF HOC.out.1
            have i2 := gcell hBF HOC.out.2.1
            have i3 := gcell hBF HOC.out.2.2
            have HKT := Lib.hid (c_same HSY.out wF.drew _ _ hat.drew (HOS.out.bel (hBF.drew) (Nat.le_refl _)))
            have HBF := Lib.hid hBF
            have k3 : ∀ {b o : Nat} {y : Value} {W : World}, Below wF.drew.heap.size wF.drew W → wF.cell? ⟨b, o, none⟩ = some y → W.cell? ⟨b, o, none⟩ = some y := fun hb hx => gcell (w := wF.drew) hb hx
            clear hwF hyb hat hBF hG8 hb8 hK8 z0 z1 z2 z3 z4 hne1 hne2 hne3 hne4 k1 k2 x0 x1 x2 gk gn gv
            go_wp2_with fail
            go_region_held3 (fun w' => (w'.cell? ⟨yb, 0, none⟩ = some (.int .i64 Y.k) ∧ w'.cell? ⟨yb, 1, none⟩ = some (.int .i64 Y.n) ∧ w'.cell? ⟨yb, 2, none⟩ = some (.slice a8 Y.kids.length c8)) ∧ w'.cell? ⟨xb, 2, none⟩ = some (.slice (some ⟨bx, ox, none⟩) X.kids.length c4) ∧ w'.cell? ⟨bx, ox + j * 3, none⟩ = some (.int .i64 Y.k) ∧ w'.cell? ⟨bx, ox + j * 3 + 1, none⟩ = some (.int .i64 Y.n) ∧ w'.cell? ⟨bx, ox + j * 3 + 2, none⟩ = some (.slice ay Y.kids.length cy)) (go_keep)
              (first | (go_at_call 17; (with_reducible refine HKT.out.mono ?_); rintro e w9 ⟨rfl, hb9⟩; have z0 := k3 hb9 y0; have z1 := k3 hb9 y1; have z2 := k3 hb9 y2; have z3 := k3 hb9 i0; have z4 := k3 hb9 i1; have z5 := k3 hb9 i2; have z6 := k3 hb9 i3))
            all_goals
              have HB9 := Lib.hid (HBR.out.trans ((HBF.out.trans ((Below.refl wF.heap.size wF).drew.mono HBF.out.size |>.trans (hb9.mono HBF.out.size))).mono HBR.out.size))
              clear hb9 z0 z1 z2 z3 z4 z5 z6 k3
              go_wp2_with fail
              go_roundw
              case rel => exact ⟨j + 1, by omega, by go_num, HB9.out⟩
              case measure => simp [RowKit.intOf]; omega
        · obtain rfl : j = t.kids.length := by omega
          have hlt1 : decide ((t.kids.length : Int) < (t.kids.length : Int)) = false := by simp
          clear hlt hj
          go_wp2_with fail
          refine (HWK.out _).mono ?_
          rintro e w106 ⟨rfl, hb6⟩
          have T6 := Lib.hid (T5.out.bel hb6)
          clear hb6 T5
          go_wp2_with fail
          go_ret
          exact ⟨rfl, T6.out.2.2⟩
end Go.Proofs.Ytbfefpejcefnhaa
