/- InstNone: the Go text returns true for any terms that are not greater than the second form's bound, and any integer. -/
import Derived.Test.YtbfefpejcefnhaaIb
import Derived.Deep.DeepCutAuto
import Derived.Deep.RegionHeld3
import Derived.Deep.DrawnRows
namespace Go.Proofs.Ytbfefpejcefnhaa
open Go.RowKit
set_option linter.unusedVariables false

theorem at_first {w : World} {A : List Tm} {b off cap : Nat} (h : At w A (.slice (some ⟨b, off, none⟩) A.length cap)) (h0 : 0 < A.length) : At w [A[0]] (.slice (some ⟨b, off, none⟩) 1 cap) := by
  obtain ⟨b', off', cap', vs, he, h1, h2, kk, kn, kv, ks⟩ := h.pos h0
  cases he
  refine .row [A[0]] b off cap vs (by simp; omega) h2 (fun i hi => ?_) (fun i hi => ?_) (fun i hi => ?_) (fun i hi => ?_)
  all_goals
    obtain rfl : i = 0 := by simp at hi; exact hi
  · exact kk 0 h0
  · exact kn 0 h0
  · exact kv 0 h0
  · exact ks 0 h0
set_option maxRecDepth 100000 in
set_option maxHeartbeats 4000000 in
theorem linone_any (t : Tm) (A : List Tm) (hF : Fits t) (hFA : ∀ a ∈ A, Fits a) (hs : size t ≤ 1048576) (hsA : sizeL A ≤ 1048576) (us : Int) (w : World) (v va : Value) (hA : At w t.kids v) (hAA : At w A va) :
    Calls Try.prog 5 #[.agg #[.int .i64 t.k, .int .i64 t.n, v], va, .int .i64 us] w fun e w' => e = .returned (.bool true) ∧ Below w.heap.size w w' := by
  obtain ⟨a1, c1, rfl⟩ := hA.shape
  obtain ⟨pa, cp, rfl⟩ := hAA.shape
  have hAl : A.length ≤ 1048576 := Nat.le_trans (length_le_sizeL A) hsA
  have HH := heavy1 t hs w _ hA
  have HAA := Lib.hid hAA
  have HH2 : Hid (∀ W, Below w.heap.size w W → Calls Try.prog 12 #[.slice pa A.length cp] W fun e w' => e = .returned (.bool (heavyB A)) ∧ Below W.heap.size W w') := fun W hW => heavy_any A (by omega) W _ (hAA.bel hW (Nat.le_refl _))
  clear hA hAA
  cases hh : heavyB [t] with
  | true =>
    rw [hh] at HH
    have HH := Lib.hid HH
    clear hh HH2
    go_enter Try.func5, Try.ntmps5
    go_wp2_with fail
    refine HH.out.mono ?_
    rintro e w1 ⟨rfl, hb1⟩
    have T1 := Lib.hid hb1
    clear hb1
    go_wp2_with fail
    go_ret
    exact ⟨rfl, T1.out.2.2⟩
  | false =>
    rw [hh] at HH
    have HH := Lib.hid HH
    clear hh
    cases hh2 : heavyB A with
    | true =>
      rw [hh2] at HH2
      clear hh2
      go_enter Try.func5, Try.ntmps5
      go_wp2_with fail
      refine HH.out.mono ?_
      rintro e w1 ⟨rfl, hb1⟩
      have T1 := Lib.hid hb1
      clear hb1
      go_wp2_with fail
      refine (HH2.out _ T1.out.2.2).mono ?_
      rintro e w2 ⟨rfl, hb2⟩
      have T2 := Lib.hid (T1.out.bel hb2)
      clear hb2
      go_wp2_with fail
      go_ret
      exact ⟨rfl, T2.out.2.2⟩
    | false =>
      rw [hh2] at HH2
      have hp : A.length ≤ 60 := by
        have := hh2
        simp only [heavyB, Bool.or_eq_false_iff, decide_eq_false_iff_not] at this
        omega
      clear hh2
      by_cases hn : 10 < A.length
      · have hn2 : (10 : Int) < (A.length : Int) := by omega
        go_enter Try.func5, Try.ntmps5
        go_wp2_with fail
        refine HH.out.mono ?_
        rintro e w1 ⟨rfl, hb1⟩
        have T1 := Lib.hid hb1
        clear hb1
        go_wp2_with fail
        refine (HH2.out _ T1.out.2.2).mono ?_
        rintro e w2 ⟨rfl, hb2⟩
        have T2 := Lib.hid (T1.out.bel hb2)
        clear hb2
        go_wp2_with fail
        go_ret
        exact ⟨rfl, T2.out.2.2⟩
      have hn1 : decide (10 < A.length) = false := decide_eq_false hn
      have hn2 : (A.length : Int) ≤ (10 : Int) := by omega
      have hru := mod_range us 20 (by omega) (by omega)
      have HWK := Lib.hid (fun w => wakes5_any w)
      go_enter Try.func5, Try.ntmps5
      go_wp2_with fail
      refine HH.out.mono ?_
      rintro e w1 ⟨rfl, hb1⟩
      have T1 := Lib.hid hb1
      clear hb1 HH
      go_wp2_with fail
      refine (HH2.out _ T1.out.2.2).mono ?_
      rintro e w2 ⟨rfl, hb2⟩
      have T2 := Lib.hid (T1.out.bel hb2)
      clear hb2 T1 HH2
      go_upto_region 4 with (fail)
      generalize wrap64 ((IntKind.u64.wrap us).tmod 20) = u at *
      obtain ⟨u0, u1⟩ := hru
      go_wp2_with fail
      go_loopw [7] (fun i wr => ∃ j : Nat, j ≤ A.length ∧ i = .int .i64 j ∧ (∀ q (hq : q < A.length), q < j → checkE A[q] = 0) ∧ One w w.heap.size t (.slice a1 t.kids.length c1) wr) (fun i _ => A.length - (RowKit.intOf i).toNat)
      case atStart => exact ⟨0, Nat.zero_le _, rfl, fun q hq h => absurd h (Nat.not_lt_zero _), T2.out⟩
      case round =>
        obtain ⟨j, hj, rfl, hsc, hT⟩ := hrel
        clear T2
        have T3 := Lib.hid hT
        have HSC := Lib.hid hsc
        clear hT hsc
        by_cases hlt : j < A.length
        · obtain ⟨b, off, cap', vs', he, h1, h2, kk, kn, kv, ks⟩ := (HAA.out.bel T3.out.2.2 (Nat.le_refl _)).pos (by omega)
          have gk := kk j hlt
          have gn := kn j hlt
          have gv := kv j hlt
          have gs := ks j hlt
          obtain ⟨au, cu, hvu⟩ := gs.shape
          rw [hvu] at gv gs
          have hsz := size_get hlt
          have HC := Lib.hid (c_check A[j] (hFA _ (List.getElem_mem hlt)) (by omega) wr _ gs)
          have hl1 : (j : Int) < (A.length : Int) := by omega
          have hl0 : (0 : Int) ≤ (j : Int) := by omega
          cases he
          clear kk kn kv ks gs hvu h1 h2
          by_cases hb : checkE A[j] = 0
          · rw [hb] at HC
            have HB := Lib.hid hb
            clear hb
            go_wp2_with fail
            refine HC.out.mono ?_
            rintro e w4 ⟨rfl, hb4⟩
            have T4 := Lib.hid (T3.out.bel hb4)
            clear hb4 gk gn gv
            go_wp2_with fail
            go_roundw
            case rel =>
              refine ⟨j + 1, by omega, by go_num, fun q hq h => ?_, T4.out⟩
              by_cases hqj : q < j
              · exact HSC.out q hq hqj
              · obtain rfl : q = j := by omega
                exact HB.out
            case measure => simp [RowKit.intOf]; omega
          · have q1 : (checkE A[j] != 0) = true := by simpa using hb
            generalize checkE A[j] = ce at *
            clear hb
            go_wp2_with fail
            refine HC.out.mono ?_
            rintro e w4 ⟨rfl, hb4⟩
            have T4 := Lib.hid (T3.out.bel hb4)
            clear hb4 gk gn gv T3
            go_wp2_with fail
            refine (HWK.out _).mono ?_
            rintro e w105 ⟨rfl, hb5⟩
            have T5 := Lib.hid (T4.out.bel hb5)
            clear hb5 T4
            go_wp2_with fail
            go_ret
            exact ⟨rfl, T5.out.2.2⟩
        · obtain rfl : j = A.length := by omega
          have hlt1 : decide ((A.length : Int) < (A.length : Int)) = false := by simp
          have hca : argsE A = 0 := argsE_ok.2 fun a ha => by
            obtain ⟨q, hq, rfl⟩ := List.mem_iff_getElem.1 ha
            exact HSC.out q hq hq
          have HCA := Lib.hid (argsE_ok.1 hca)
          clear hlt hj HSC
          obtain ⟨⟨x0, x1, x2⟩, _⟩ := T3.out
          by_cases h0 : shiftE t A.length u = 0
          rotate_left
          · have HC := Lib.hid (fun W v hA => c_shift hF hs (b := A.length) (f := u) rfl rfl W v hA)
            have q1 : (shiftE t A.length u != 0) = true := by simpa using h0
            generalize shiftE t A.length u = ce at *
            generalize shiftT t A.length u = r at *
            clear h0
            go_wp2_with fail
            refine (HC.out _ _ T3.out.2.1).mono ?_
            rintro e w4 ⟨a4, c4, rfl, hK4, hb4⟩
            obtain ⟨_, hg4⟩ := boxed_tell T3.out.2.2 hb4 hK4
            have T4 := Lib.hid (T3.out.bel hg4)
            clear hg4 hK4 hb4 x0 x1 x2 T3 HC
            go_wp2_with fail
            refine (HWK.out _).mono ?_
            rintro e w105 ⟨rfl, hb5⟩
            have T5 := Lib.hid (T4.out.bel hb5)
            clear hb5 T4
            go_wp2_with fail
            go_ret
            exact ⟨rfl, T5.out.2.2⟩
          have HC := Lib.hid (fun W v hA => c_shift hF hs (b := A.length) (f := u) h0 (shiftT_ok h0) W v hA)
          obtain ⟨n1, n2⟩ := none_ok hca h0
          have hfx := move_fits h0
          have hsx : size (moveT t A.length u) ≤ 1048576 := by rw [move_size]; exact hs
          have HI := Lib.hid (fun W v va hA hM => c_inst hfx hsx hFA hsA (by omega) n1 ((instT_put n1).trans n2) W v va hA hM)
          clear h0 n1 n2 hfx hsx
          generalize moveT t A.length u = x at *
          have HK := Lib.hid (fun W va vb hA hB => c_same hs W va vb hA hB)
          go_wp2_with fail
          refine (HC.out _ _ T3.out.2.1).mono ?_
          rintro e w4 ⟨a4, c4, rfl, hK4, hb4⟩
          obtain ⟨hX4, hg4⟩ := boxed_tell T3.out.2.2 hb4 hK4
          have T4 := Lib.hid (T3.out.bel hg4)
          have X4 := Lib.hid hX4
          clear hX4 hg4 hK4 hb4 x0 x1 x2 T3 HC
          obtain ⟨⟨x0, x1, x2⟩, _⟩ := X4.out
          go_wp2_with fail
          refine (HI.out _ _ _ X4.out.2.1 (HAA.out.bel X4.out.2.2 (Nat.le_refl _))).mono ?_
          rintro e w5 ⟨a5, c5, rfl, hK5, hb5⟩
          obtain ⟨hY5, hg5⟩ := boxed_tell X4.out.2.2 hb5 hK5
          have T5 := Lib.hid (T4.out.bel hg5)
          have Y5 := Lib.hid hY5
          clear hY5 hg5 hK5 hb5 x0 x1 x2 T4 X4 HI
          obtain ⟨⟨x0, x1, x2⟩, _⟩ := T5.out
          obtain ⟨⟨y0, y1, y2⟩, _⟩ := Y5.out
          go_wp2_with fail
          refine (HK.out _ _ _ Y5.out.2.1 T5.out.2.1).mono ?_
          rintro e w6 ⟨rfl, hb6⟩
          have T6 := Lib.hid (T5.out.bel hb6)
          clear hb6 x0 x1 x2 y0 y1 y2 T5 Y5
          by_cases hz : A.length = 0
          · have e1 : ((A.length : Int) == 0) = true := by simpa using hz
            go_wp2_with fail
            refine (HWK.out _).mono ?_
            rintro e w107 ⟨rfl, hb7⟩
            have T7 := Lib.hid (T6.out.bel hb7)
            clear hb7 T6
            go_wp2_with fail
            go_ret
            exact ⟨rfl, T7.out.2.2⟩
          have e1 : ((A.length : Int) == 0) = false := by simpa using hz
          have h0A : 0 < A.length := by omega
          obtain ⟨⟨x0, x1, x2⟩, _⟩ := T6.out
          have HL := Lib.hid (fun W v hA => c_lower hF hs (n := u) rfl rfl W v hA)
          have hlow : lowerB t u = true → lowerT t u = lessT t u ∧ instE t [A[0]] u = 0 ∧ instT t [A[0]] u = lessT t u := fun h => by
            obtain ⟨p1, p2⟩ := none_low (a := A[0]) (HCA.out _ (List.getElem_mem h0A)) h
            exact ⟨by unfold lowerT; rw [if_pos h], p1, (instT_put p1).trans p2⟩
          have HLW := Lib.hid hlow
          have HSL : Hid (lowerB t u = true → size (lessT t u) ≤ 1048576) := fun h => by
            have := put_small (hlow h).2.1
            rwa [← instT_put (hlow h).2.1, (hlow h).2.2] at this
          clear hlow
          go_wp2_with fail
          refine (HL.out _ _ T6.out.2.1).mono ?_
          rintro e w7 ⟨a7, c7, rfl, hK7, hb7⟩
          obtain ⟨hZ7, hg7⟩ := boxed_tell T6.out.2.2 hb7 hK7
          have T7 := Lib.hid (T6.out.bel hg7)
          have Z7 := Lib.hid hZ7
          clear hZ7 hg7 hK7 hb7 x0 x1 x2 T6 HL
          cases hlb : lowerB t u with
          | false =>
            go_wp2_with fail
            refine (HWK.out _).mono ?_
            rintro e w108 ⟨rfl, hb8⟩
            have T8 := Lib.hid (T7.out.bel hb8)
            clear hb8 T7
            go_wp2_with fail
            go_ret
            exact ⟨rfl, T8.out.2.2⟩
          | true =>
            obtain ⟨q1, q2, q3⟩ := HLW.out hlb
            have hsz := HSL.out hlb
            rw [← q1] at q3 hsz
            generalize lowerT t u = r at *
            have hs0 := size_get h0A
            have HI1 := Lib.hid (fun W v va hA hM => c_inst hF hs (fits_one (hFA _ (List.getElem_mem h0A))) (size_one (by omega)) (by simp) q2 q3 W v va hA hM)
            have HKT := Lib.hid (fun W va vb hA hB => c_same hsz W va vb hA hB)
            clear hsz q1 q2 q3 HLW HSL hlb HK hca
            go_wp2_with fail
            have hbw := T7.out.2.2
            revert T7 Z7 hbw
            generalize w7.alloc (.cells #[.int .i64 r.k, .int .i64 r.n, .slice a7 r.kids.length c7] 24) = wz
            generalize w7.heap.size = bz
            intro T7 Z7 hbw
            obtain ⟨b, off, cap', vs', he, g1, g2, _⟩ := (HAA.out.bel hbw (Nat.le_refl _)).pos h0A
            cases he
            have hcap1 : (1 : Int) ≤ (cp : Int) := by omega
            have hcap2 : 1 ≤ cp := by omega
            have HM := Lib.hid (at_first (HAA.out.bel hbw (Nat.le_refl _)) h0A)
            have C1 : Hid (Calls Try.prog 15 #[.agg #[.int .i64 t.k, .int .i64 t.n, .slice a1 t.kids.length c1], .slice (some ⟨b, off, none⟩) 1 cp, .int .i64 u] wz.drew (TellK wz.drew r (.int .i64 0))) := HI1.out _ _ _ T7.out.2.1.drew HM.out.drew
            have C2 : Hid (Calls Try.prog 15 #[.agg #[.int .i64 t.k, .int .i64 t.n, .slice a1 t.kids.length c1], .slice (some ⟨b, off, none⟩) 1 cp, .int .i64 u] (wz.alloc (.cells #[.int .i64 0, .int .i64 0, .slice none 0 0] 24)).drew (TellK (wz.alloc (.cells #[.int .i64 0, .int .i64 0, .slice none 0 0] 24)).drew r (.int .i64 0))) := HI1.out _ _ _ (T7.out.2.1.alloc _).drew (HM.out.alloc _).drew
            have HN : Hid ((wz.alloc (.cells #[.int .i64 0, .int .i64 0, .slice none 0 0] 24)).drew.heap[wz.heap.size]? = some (.cells #[.int .i64 0, .int .i64 0, .slice none 0 0] 24 (0, 0))) := World.alloc_heap_new wz (.cells #[.int .i64 0, .int .i64 0, .slice none 0 0] 24)
            have HL2 : Hid (wz.heap.size < (wz.alloc (.cells #[.int .i64 0, .int .i64 0, .slice none 0 0] 24)).drew.heap.size) := by show _ < (wz.alloc _).heap.size; simp
            have HWT : Hid (w.heap.size < wz.heap.size) := World.block_lt_of_cell? wz _ T7.out.1.1
            have HW1 := Lib.hid ((Below.refl wz.heap.size wz).drew)
            have HW2 := Lib.hid ((below_al wz (.cells #[.int .i64 0, .int .i64 0, .slice none 0 0] 24)).drew)
            have hne1 : ¬ (w.heap.size = wz.heap.size) := Nat.ne_of_lt HWT.out
            have hne2 : ¬ (wz.heap.size = w.heap.size) := Nat.ne_of_gt HWT.out
            obtain ⟨⟨x0, x1, x2⟩, _⟩ := T7.out
            have k1 : ∀ {o : Nat} {y : Value} {W : World}, Below wz.drew.heap.size wz.drew W → wz.cell? ⟨w.heap.size, o, none⟩ = some y → W.cell? ⟨w.heap.size, o, none⟩ = some y := fun hb hx => gcell (w := wz.drew) hb hx
            have k2 : ∀ {o : Nat} {y : Value} {W : World}, Below (wz.alloc (.cells #[.int .i64 0, .int .i64 0, .slice none 0 0] 24)).drew.heap.size (wz.alloc (.cells #[.int .i64 0, .int .i64 0, .slice none 0 0] 24)).drew W → wz.cell? ⟨w.heap.size, o, none⟩ = some y → W.cell? ⟨w.heap.size, o, none⟩ = some y := fun hb hx => gcell (w := (wz.alloc (.cells #[.int .i64 0, .int .i64 0, .slice none 0 0] 24)).drew) hb (gcell (below_al wz (.cells #[.int .i64 0, .int .i64 0, .slice none 0 0] 24)) hx)
            clear hs0 HI1 hbw
            go_region_held3 (fun w' => w'.cell? ⟨w.heap.size, 0, none⟩ = some (.int .i64 t.k) ∧ w'.cell? ⟨w.heap.size, 1, none⟩ = some (.int .i64 t.n) ∧ w'.cell? ⟨w.heap.size, 2, none⟩ = some (.slice a1 t.kids.length c1)) (go_keep)
              (first | (go_at_call 15; (with_reducible refine C1.out.mono ?_); rintro e w8 ⟨a8, c8, rfl, hK8, hb8⟩; have z0 := k1 hb8 x0; have z1 := k1 hb8 x1; have z2 := k1 hb8 x2; have hG8 := HW1.out.trans hb8) | (go_at_call 15; (with_reducible refine C2.out.mono ?_); rintro e w8 ⟨a8, c8, rfl, hK8, hb8⟩; have z0 := k2 hb8 x0; have z1 := k2 hb8 x1; have z2 := k2 hb8 x2; have hG8 := HW2.out.trans (hb8.mono HW2.out.size); have hz8 := (hb8.block wz.heap.size HL2.out).trans HN.out; have hKB := zk hK8 HL2.out; obtain ⟨⟨n0, n1, n2⟩, p0, p1, p2⟩ := boxc hz8))
            all_goals
              first
                | (have hPG := boxed_term (k := r.k) (n := r.n) (l := r.kids) (Below.refl wz.heap.size wz) hz8 hG8 (Nat.le_refl _) hKB; have hPF := And.intro (show At _ r.kids (.slice a8 r.kids.length c8) from hPG.1.2.1) (boxc (box_store3 hz8 (.int .i64 r.k) (.int .i64 r.n) (.slice a8 r.kids.length c8))).1; have hBF := hPG.2; clear hPG)
                | (have hPG := boxed_tell (Below.refl wz.heap.size wz) hG8 hK8; have hPF := And.intro hPG.1.2.1 hPG.1.1; have hBF := hPG.2; clear hPG)
            all_goals
              have Z8 := Lib.hid (Z7.out.bel hBF)
              have HP := Lib.hid hPF.1
              obtain ⟨_, y0, y1, y2⟩ := hPF
              clear hBF hG8 hb8 hK8 z0 z1 z2
              obtain ⟨⟨x0, x1, x2⟩, _⟩ := Z8.out
              go_wp2_with fail
              refine (HKT.out _ _ _ HP.out Z8.out.2.1).mono ?_
              rintro e w9 ⟨rfl, hb9⟩
              have Z9 := Lib.hid (Z8.out.bel hb9)
              clear hb9 x0 x1 x2 y0 y1 y2 Z8 HP
              go_wp2_with fail
              refine (HWK.out _).mono ?_
              rintro e w10 ⟨rfl, hb10⟩
              have Z10 := Lib.hid (Z9.out.bel hb10)
              clear hb10 Z9
              go_wp2_with fail
              go_ret
              exact ⟨rfl, Z10.out.2.2⟩
end Go.Proofs.Ytbfefpejcefnhaa
