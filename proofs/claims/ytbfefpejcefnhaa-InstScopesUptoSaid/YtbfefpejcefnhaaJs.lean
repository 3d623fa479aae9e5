/- InstScopes: the Go text returns true for any terms that are not greater than the second form's bound, and any integer. -/
import Derived.Test.YtbfefpejcefnhaaIb
import Derived.Deep.DeepCutAuto
namespace Go.Proofs.Ytbfefpejcefnhaa
open Go.RowKit
set_option linter.unusedVariables false

set_option maxRecDepth 100000 in
set_option maxHeartbeats 3000000 in
theorem liscopes_any (t : Tm) (A : List Tm) (hF : Fits t) (hFA : ∀ a ∈ A, Fits a) (hs : size t ≤ 1048576) (hsA : sizeL A ≤ 1048576) (vs : Int) (w : World) (v va : Value) (hA : At w t.kids v) (hAA : At w A va) :
    Calls Try.prog 6 #[.agg #[.int .i64 t.k, .int .i64 t.n, v], va, .int .i64 vs] w fun e w' => e = .returned (.bool true) ∧ Below w.heap.size w w' := by
  obtain ⟨a1, c1, rfl⟩ := hA.shape
  obtain ⟨pa, cp, rfl⟩ := hAA.shape
  have hAl : A.length ≤ 1048576 := Nat.le_trans (length_le_sizeL A) hsA
  have HH := heavy1 t hs w _ hA
  have HAA := Lib.hid hAA
  have HH2 : Hid (∀ W, Below w.heap.size w W → Calls Try.prog 12 #[.slice pa A.length cp] W fun e w' => e = .returned (.bool (heavyB A)) ∧ Below W.heap.size W w') := fun W hW => heavy_any A (by omega) W _ (hAA.bel hW (Nat.le_refl _))
  clear hA hAA
  cases hh : heavyB [t] with
  | true =>
    rw [hh] at HH
    have HH := Lib.hid HH
    clear hh HH2
    go_enter Try.func6, Try.ntmps6
    go_wp2_with fail
    refine HH.out.mono ?_
    rintro e w1 ⟨rfl, hb1⟩
    have T1 := Lib.hid hb1
    clear hb1
    go_wp2_with fail
    go_ret
    exact ⟨rfl, T1.out.2.2⟩
  | false =>
    rw [hh] at HH
    have HH := Lib.hid HH
    clear hh
    cases hh2 : heavyB A with
    | true =>
      rw [hh2] at HH2
      clear hh2
      go_enter Try.func6, Try.ntmps6
      go_wp2_with fail
      refine HH.out.mono ?_
      rintro e w1 ⟨rfl, hb1⟩
      have T1 := Lib.hid hb1
      clear hb1
      go_wp2_with fail
      refine (HH2.out _ T1.out.2.2).mono ?_
      rintro e w2 ⟨rfl, hb2⟩
      have T2 := Lib.hid (T1.out.bel hb2)
      clear hb2
      go_wp2_with fail
      go_ret
      exact ⟨rfl, T2.out.2.2⟩
    | false =>
      rw [hh2] at HH2
      have hp : A.length ≤ 60 := by
        have := hh2
        simp only [heavyB, Bool.or_eq_false_iff, decide_eq_false_iff_not] at this
        omega
      clear hh2
      by_cases hn : 10 < A.length
      · have hn2 : (10 : Int) < (A.length : Int) := by omega
        go_enter Try.func6, Try.ntmps6
        go_wp2_with fail
        refine HH.out.mono ?_
        rintro e w1 ⟨rfl, hb1⟩
        have T1 := Lib.hid hb1
        clear hb1
        go_wp2_with fail
        refine (HH2.out _ T1.out.2.2).mono ?_
        rintro e w2 ⟨rfl, hb2⟩
        have T2 := Lib.hid (T1.out.bel hb2)
        clear hb2
        go_wp2_with fail
        go_ret
        exact ⟨rfl, T2.out.2.2⟩
      have hn1 : decide (10 < A.length) = false := decide_eq_false hn
      have hn2 : (A.length : Int) ≤ (10 : Int) := by omega
      have hrvv := mod_range vs 20 (by omega) (by omega)
      have HWK := Lib.hid (fun w => wakes5_any w)
      go_enter Try.func6, Try.ntmps6
      go_wp2_with fail
      refine HH.out.mono ?_
      rintro e w1 ⟨rfl, hb1⟩
      have T1 := Lib.hid hb1
      clear hb1 HH
      go_wp2_with fail
      refine (HH2.out _ T1.out.2.2).mono ?_
      rintro e w2 ⟨rfl, hb2⟩
      have T2 := Lib.hid (T1.out.bel hb2)
      clear hb2 T1 HH2
      go_upto_region 4 with (fail)
      generalize wrap64 ((IntKind.u64.wrap vs).tmod 20) = vv at *
      obtain ⟨vv0, vv1⟩ := hrvv
      go_wp2_with fail
      go_loopw [7] (fun i wr => ∃ j : Nat, j ≤ A.length ∧ i = .int .i64 j ∧ (∀ q (hq : q < A.length), q < j → scopeT A[q] vv 65536 = true) ∧ One w w.heap.size t (.slice a1 t.kids.length c1) wr) (fun i _ => A.length - (RowKit.intOf i).toNat)
      case atStart => exact ⟨0, Nat.zero_le _, rfl, fun q hq h => absurd h (Nat.not_lt_zero _), T2.out⟩
      case round =>
        obtain ⟨j, hj, rfl, hsc, hT⟩ := hrel
        clear T2
        have T3 := Lib.hid hT
        have HSC := Lib.hid hsc
        clear hT hsc
        by_cases hlt : j < A.length
        · obtain ⟨b, off, cap', vs', he, h1, h2, kk, kn, kv, ks⟩ := (HAA.out.bel T3.out.2.2 (Nat.le_refl _)).pos (by omega)
          have gk := kk j hlt
          have gn := kn j hlt
          have gv := kv j hlt
          have gs := ks j hlt
          obtain ⟨au, cu, hvu⟩ := gs.shape
          rw [hvu] at gv gs
          have hsz := size_get hlt
          have HC := Lib.hid (c_scope A[j] (hFA _ (List.getElem_mem hlt)) (by omega) vv 65536 wr _ gs)
          have hl1 : (j : Int) < (A.length : Int) := by omega
          have hl0 : (0 : Int) ≤ (j : Int) := by omega
          cases he
          clear kk kn kv ks gs hvu h1 h2
          have HS1 : Hid (∀ x, scopeT A[j] vv 65536 = x → scopeT A[j] vv 65536 = x) := fun _ h => h
          cases hb : scopeT A[j] vv 65536 with
          | true =>
            rw [hb] at HC
            have HB := Lib.hid hb
            clear hb
            go_wp2_with fail
            refine HC.out.mono ?_
            rintro e w4 ⟨rfl, hb4⟩
            have T4 := Lib.hid (T3.out.bel hb4)
            clear hb4 gk gn gv
            go_wp2_with fail
            go_roundw
            case rel =>
              refine ⟨j + 1, by omega, by go_num, fun q hq h => ?_, T4.out⟩
              by_cases hqj : q < j
              · exact HSC.out q hq hqj
              · obtain rfl : q = j := by omega
                exact HB.out
            case measure => simp [RowKit.intOf]; omega
          | false =>
            rw [hb] at HC
            clear hb
            go_wp2_with fail
            refine HC.out.mono ?_
            rintro e w4 ⟨rfl, hb4⟩
            have T4 := Lib.hid (T3.out.bel hb4)
            clear hb4 gk gn gv T3
            go_wp2_with fail
            refine (HWK.out _).mono ?_
            rintro e w105 ⟨rfl, hb5⟩
            have T5 := Lib.hid (T4.out.bel hb5)
            clear hb5 T4
            go_wp2_with fail
            go_ret
            exact ⟨rfl, T5.out.2.2⟩
        · obtain rfl : j = A.length := by omega
          have hlt1 : decide ((A.length : Int) < (A.length : Int)) = false := by simp
          have hw : IntKind.i64.wrap (vv + (A.length : Int)) = vv + A.length := IntWalk.i64_in _ (by omega)
          have hsA2 : ∀ a ∈ A, scopeT a vv 65536 = true := fun a ha => by
            obtain ⟨q, hq, rfl⟩ := List.mem_iff_getElem.1 ha
            exact HSC.out q hq hq
          have HC := Lib.hid (fun W v hA => c_scope t hF hs (vv + A.length) 65536 W v hA)
          clear hlt hj HSC
          obtain ⟨⟨x0, x1, x2⟩, _⟩ := T3.out
          cases hb : scopeT t (vv + A.length) 65536 with
          | false =>
            rw [hb] at HC
            clear hb
            go_wp2_with fail
            refine (HC.out _ _ T3.out.2.1).mono ?_
            rintro e w4 ⟨rfl, hb4⟩
            have T4 := Lib.hid (T3.out.bel hb4)
            clear hb4 x0 x1 x2 T3
            go_wp2_with fail
            refine (HWK.out _).mono ?_
            rintro e w105 ⟨rfl, hb5⟩
            have T5 := Lib.hid (T4.out.bel hb5)
            clear hb5 T4
            go_wp2_with fail
            go_ret
            exact ⟨rfl, T5.out.2.2⟩
          | true =>
            rw [hb] at HC
            obtain ⟨i1, i2, i3, i4⟩ := iscopes_ok (by omega) hsA2 hb vv0
            clear hb
            have HSO := Lib.hid (fun W v va hA hM => ssizeof_any t hF hs A hFA hsA (by omega) 0 W v va hA hM)
            rw [i1] at HSO
            go_wp2_with fail
            refine (HC.out _ _ T3.out.2.1).mono ?_
            rintro e w4 ⟨rfl, hb4⟩
            have T4 := Lib.hid (T3.out.bel hb4)
            clear hb4 x0 x1 x2 T3 HC
            obtain ⟨⟨x0, x1, x2⟩, _⟩ := T4.out
            go_wp2_with fail
            refine (HSO.out _ _ _ T4.out.2.1 (HAA.out.bel T4.out.2.2 (Nat.le_refl _))).mono ?_
            rintro e w5 ⟨rfl, hb5⟩
            have T5 := Lib.hid (T4.out.bel hb5)
            clear hb5 x0 x1 x2 T4 HSO
            obtain ⟨⟨x0, x1, x2⟩, _⟩ := T5.out
            by_cases hbig : 6000 < size (putT A t 0)
            · have hE := i2 hbig
              have hb2 : (6000 : Int) < ((min (size (putT A t 0)) 1099511627776 : Nat) : Int) := by omega
              have HI := Lib.hid (fun W v va hA hM => c_inst (u := 0) hF hs hFA hsA (by omega) hE rfl W v va hA hM)
              generalize min (size (putT A t 0)) 1099511627776 = sz at *
              generalize instT t A 0 = r at *
              clear i1 i2 i3 i4 hE hbig hsA2
              go_wp2_with fail
              refine (HI.out _ _ _ T5.out.2.1 (HAA.out.bel T5.out.2.2 (Nat.le_refl _))).mono ?_
              rintro e w6 ⟨a6, c6, rfl, hK6, hb6⟩
              obtain ⟨hX6, hg6⟩ := boxed_tell T5.out.2.2 hb6 hK6
              have T6 := Lib.hid (T5.out.bel hg6)
              clear hX6 hg6 hK6 hb6 x0 x1 x2 T5 HI
              go_wp2_with fail
              refine (HWK.out _).mono ?_
              rintro e w107 ⟨rfl, hb7⟩
              have T7 := Lib.hid (T6.out.bel hb7)
              clear hb7 T6
              go_wp2_with fail
              go_ret
              exact ⟨rfl, T7.out.2.2⟩
            · have hb2 : ((min (size (putT A t 0)) 1099511627776 : Nat) : Int) ≤ (6000 : Int) := by omega
              have hE := i3 (by omega)
              by_cases h0 : instE t A 0 = 0
              rotate_left
              · have h5 : instE t A 0 = 5 := hE.resolve_left h0
                have HI := Lib.hid (fun W v va hA hM => c_inst (u := 0) hF hs hFA hsA (by omega) h5 rfl W v va hA hM)
                generalize min (size (putT A t 0)) 1099511627776 = sz at *
                generalize instT t A 0 = r at *
                clear i1 i2 i3 i4 hE hbig hsA2 h0 h5
                go_wp2_with fail
                refine (HI.out _ _ _ T5.out.2.1 (HAA.out.bel T5.out.2.2 (Nat.le_refl _))).mono ?_
                rintro e w6 ⟨a6, c6, rfl, hK6, hb6⟩
                obtain ⟨hX6, hg6⟩ := boxed_tell T5.out.2.2 hb6 hK6
                have T6 := Lib.hid (T5.out.bel hg6)
                clear hX6 hg6 hK6 hb6 x0 x1 x2 T5 HI
                go_wp2_with fail
                refine (HWK.out _).mono ?_
                rintro e w107 ⟨rfl, hb7⟩
                have T7 := Lib.hid (T6.out.bel hb7)
                clear hb7 T6
                go_wp2_with fail
                go_ret
                exact ⟨rfl, T7.out.2.2⟩
              · have HI := Lib.hid (fun W v va hA hM => c_inst (u := 0) hF hs hFA hsA (by omega) h0 (instT_put h0) W v va hA hM)
                have hsz : min (size (putT A t 0)) 1099511627776 = size (putT A t 0) := by omega
                rw [hsz] at hb2 ⊢
                have HZ := Lib.hid (fun W v hA => c_size (putT A t 0) (put_fits h0) (put_small h0) W v hA)
                have HC := Lib.hid (fun W v hA => c_scope (putT A t 0) (put_fits h0) (put_small h0) vv 65536 W v hA)
                rw [i4 h0] at HC
                generalize putT A t 0 = r at *
                clear i1 i2 i3 i4 hE hbig hsA2 h0 hsz
                go_wp2_with fail
                refine (HI.out _ _ _ T5.out.2.1 (HAA.out.bel T5.out.2.2 (Nat.le_refl _))).mono ?_
                rintro e w6 ⟨a6, c6, rfl, hK6, hb6⟩
                obtain ⟨hX6, hg6⟩ := boxed_tell T5.out.2.2 hb6 hK6
                have X6 := Lib.hid hX6
                clear hX6 hg6 hK6 hb6 x0 x1 x2 T5 HI
                obtain ⟨⟨y0, y1, y2⟩, _⟩ := X6.out
                go_wp2_with fail
                refine (HZ.out _ _ X6.out.2.1).mono ?_
                rintro e w7 ⟨rfl, hb7⟩
                have X7 := Lib.hid (X6.out.bel hb7)
                clear hb7 y0 y1 y2 X6 HZ
                obtain ⟨⟨y0, y1, y2⟩, _⟩ := X7.out
                go_wp2_with fail
                refine (HC.out _ _ X7.out.2.1).mono ?_
                rintro e w8 ⟨rfl, hb8⟩
                have X8 := Lib.hid (X7.out.bel hb8)
                clear hb8 y0 y1 y2 X7 HC
                go_wp2_with fail
                refine (HWK.out _).mono ?_
                rintro e w109 ⟨rfl, hb9⟩
                have T9 := Lib.hid (X8.out.bel hb9)
                clear hb9 X8
                go_wp2_with fail
                go_ret
                exact ⟨rfl, T9.out.2.2⟩
end Go.Proofs.Ytbfefpejcefnhaa
