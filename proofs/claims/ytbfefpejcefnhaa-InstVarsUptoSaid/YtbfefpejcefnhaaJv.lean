/- InstVars: the Go text returns true for any terms that are not greater than the second form's bound, and any integer. -/
import Derived.Test.YtbfefpejcefnhaaIb
import Derived.Deep.DeepCutAuto
import Derived.Deep.AppendLies
import Derived.OneCell
import Derived.Lib.SmallJoins
import Derived.Test.YtbfefpejcefnhaaRe
namespace Go.Proofs.Ytbfefpejcefnhaa
open Go.RowKit
set_option linter.unusedVariables false

/-- A row of variables that the call appended to. -/
def VRow (B N j : Nat) (v : Value) (w : World) : Prop := w.ownsRow B 24 3 v j (cells3 (varsT N j) (fun _ => .slice none 0 0))
theorem VRow.bel {B N j : Nat} {v : Value} {w w' : World} (h : VRow B N j v w) (hb : Below w.heap.size w w') : VRow B N j v w' :=
  World.ownsRow.kept (row := none) h ⟨hb.os, hb.tape, hb.output, hb.size, fun k hk _ => hb.block k hk⟩ (by cases v.ownBlock <;> simp)
theorem VRow.at {B N j : Nat} {v : Value} {w : World} (h : VRow B N j v w) : At w (varsT N j) v := by
  have h2 : w.ownsRow B 24 3 v (varsT N j).length (cells3 (varsT N j) (fun _ => .slice none 0 0)) := by rw [varsT_length]; exact h
  refine (ats_of_row (S := fun _ => True) h2 (fun _ _ => trivial) fun i hi => ?_).at
  have : (varsT N j)[i].kids = [] := by simp [varsT, Tm.kids]
  rw [this]
  exact .nl
theorem vrow_next {N j : Nat} : cells3 (varsT N (j + 1)) (fun _ => .slice none 0 0) = cells3 (varsT N j) (fun _ => .slice none 0 0) ++ [.int .i64 1, .int .i64 ((N : Int) - 1 - j), .slice none 0 0] := by
  rw [varsT_succ, cells3_snoc _ _ _ _ (fun _ _ => rfl)]; rfl
theorem vars_fits {N : Nat} (hN : N ≤ 60000) : ∀ a ∈ varsT N N, Fits a := fun a ha => by
  obtain ⟨i, hi, rfl⟩ := List.mem_map.1 ha
  have := List.mem_range.1 hi
  exact check_fits (var_check (by omega) (by omega))
theorem vars_size (N : Nat) : ∀ m, sizeL (varsT N m) = m
  | 0 => rfl
  | m + 1 => by rw [varsT_succ, sizeL_append, vars_size N m]; simp [sizeL, size]
set_option maxRecDepth 100000 in
set_option maxHeartbeats 5000000 in
theorem livars_any (t : Tm) (A : List Tm) (hF : Fits t) (hFA : ∀ a ∈ A, Fits a) (hs : size t ≤ 1048576) (hsA : sizeL A ≤ 1048576) (ns : Int) (w : World) (v va : Value) (hA : At w t.kids v) (hAA : At w A va) :
    Calls Try.prog 10 #[.agg #[.int .i64 t.k, .int .i64 t.n, v], .int .i64 ns, va] w fun e w' => e = .returned (.bool true) ∧ Below w.heap.size w w' := by
  obtain ⟨a1, c1, rfl⟩ := hA.shape
  obtain ⟨pa, cp, rfl⟩ := hAA.shape
  have hAl : A.length ≤ 1048576 := Nat.le_trans (length_le_sizeL A) hsA
  have HH := heavy1 t hs w _ hA
  have HAA := Lib.hid hAA
  have HH2 : Hid (∀ W, Below w.heap.size w W → Calls Try.prog 12 #[.slice pa A.length cp] W fun e w' => e = .returned (.bool (heavyB A)) ∧ Below W.heap.size W w') := fun W hW => heavy_any A (by omega) W _ (hAA.bel hW (Nat.le_refl _))
  clear hA hAA
  cases hh : heavyB [t] with
  | true =>
    rw [hh] at HH
    have HH := Lib.hid HH
    clear hh HH2
    go_enter Try.func10, Try.ntmps10
    go_wp2_with fail
    refine HH.out.mono ?_
    rintro e w1 ⟨rfl, hb1⟩
    have T1 := Lib.hid hb1
    clear hb1
    go_wp2_with fail
    go_ret
    exact ⟨rfl, T1.out.2.2⟩
  | false =>
    rw [hh] at HH
    have HH := Lib.hid HH
    clear hh
    cases hh2 : heavyB A with
    | true =>
      rw [hh2] at HH2
      clear hh2
      go_enter Try.func10, Try.ntmps10
      go_wp2_with fail
      refine HH.out.mono ?_
      rintro e w1 ⟨rfl, hb1⟩
      have T1 := Lib.hid hb1
      clear hb1
      go_wp2_with fail
      refine (HH2.out _ T1.out.2.2).mono ?_
      rintro e w2 ⟨rfl, hb2⟩
      have T2 := Lib.hid (T1.out.bel hb2)
      clear hb2
      go_wp2_with fail
      go_ret
      exact ⟨rfl, T2.out.2.2⟩
    | false =>
      rw [hh2] at HH2
      have hp : A.length ≤ 60 := by
        have := hh2
        simp only [heavyB, Bool.or_eq_false_iff, decide_eq_false_iff_not] at this
        omega
      clear hh2
      have hrnn := mod_range ns 10 (by omega) (by omega)
      have HWK := Lib.hid (fun w => wakes5_any w)
      go_enter Try.func10, Try.ntmps10
      go_wp2_with fail
      refine HH.out.mono ?_
      rintro e w1 ⟨rfl, hb1⟩
      have T1 := Lib.hid hb1
      clear hb1 HH
      go_wp2_with fail
      refine (HH2.out _ T1.out.2.2).mono ?_
      rintro e w2 ⟨rfl, hb2⟩
      have T2 := Lib.hid (T1.out.bel hb2)
      clear hb2 T1 HH2
      go_upto_region 4 with (fail)
      generalize wrap64 ((IntKind.u64.wrap ns).tmod 10) = nn at *
      obtain ⟨nn0, nn1⟩ := hrnn
      have HR := Lib.hid (fun W v hA => c_rcheck t hs W v hA)
      obtain ⟨⟨x0, x1, x2⟩, _⟩ := T2.out
      by_cases hc : checkE t = 0
      rotate_left
      · have q1 : (checkE t != 0) = true := by simpa using hc
        generalize checkE t = ce at *
        clear hc
        go_wp2_with fail
        refine (HR.out _ _ T2.out.2.1).mono ?_
        rintro e w3 ⟨rfl, hb3⟩
        have T3 := Lib.hid (T2.out.bel hb3)
        clear hb3 x0 x1 x2 T2
        go_wp2_with fail
        go_ret
        exact ⟨rfl, T3.out.2.2⟩
      rw [hc] at HR
      have HCT := Lib.hid hc
      obtain ⟨N, hN⟩ : ∃ N : Nat, nn = (N : Int) := ⟨nn.toNat, by omega⟩
      subst hN
      by_cases hs0 : shiftE t N N = 0
      rotate_left
      · have HI := Lib.hid (fun W v hA => c_shift hF hs (b := N) (f := N) rfl rfl W v hA)
        have q1 : (shiftE t N N != 0) = true := by simpa using hs0
        generalize shiftE t N N = ce at *
        generalize shiftT t N N = r at *
        clear hs0 hc
        go_wp2_with fail
        refine (HR.out _ _ T2.out.2.1).mono ?_
        rintro e w3 ⟨rfl, hb3⟩
        have T3 := Lib.hid (T2.out.bel hb3)
        clear hb3 x0 x1 x2 T2 HR
        obtain ⟨⟨x0, x1, x2⟩, _⟩ := T3.out
        go_wp2_with fail
        refine (HI.out _ _ T3.out.2.1).mono ?_
        rintro e w4 ⟨a4, c4, rfl, hK4, hb4⟩
        obtain ⟨_, hg4⟩ := boxed_tell T3.out.2.2 hb4 hK4
        have T4 := Lib.hid (T3.out.bel hg4)
        clear hg4 hK4 hb4 x0 x1 x2 T3 HI
        go_wp2_with fail
        refine (HWK.out _).mono ?_
        rintro e w105 ⟨rfl, hb5⟩
        have T5 := Lib.hid (T4.out.bel hb5)
        clear hb5 T4
        go_wp2_with fail
        go_ret
        exact ⟨rfl, T5.out.2.2⟩
      have HSH := Lib.hid (fun W v hA => c_shift hF hs (b := N) (f := N) hs0 (shiftT_ok hs0) W v hA)
      obtain ⟨v1, v2⟩ := vars_ok (by omega) hs0
      have hfx := move_fits hs0
      have hsx : size (moveT t N N) ≤ 1048576 := by rw [move_size]; exact hs
      have hvf := vars_fits (N := N) (by omega)
      have hvs : sizeL (varsT N N) ≤ 1048576 := by rw [vars_size]; omega
      have hvl : (varsT N N).length ≤ 65535 := by rw [varsT_length]; omega
      have HI := Lib.hid (fun W v va hA hM => c_inst hfx hsx hvf hvs hvl v1 ((instT_put v1).trans v2) W v va hA hM)
      clear hs0 hc v1 v2 hfx hsx hvf hvs hvl
      generalize moveT t N N = x at *
      go_wp2_with fail
      refine (HR.out _ _ T2.out.2.1).mono ?_
      rintro e w3 ⟨rfl, hb3⟩
      have T3 := Lib.hid (T2.out.bel hb3)
      clear hb3 x0 x1 x2 T2 HR
      obtain ⟨⟨x0, x1, x2⟩, _⟩ := T3.out
      go_wp2_with fail
      refine (HSH.out _ _ T3.out.2.1).mono ?_
      rintro e w4 ⟨a4, c4, rfl, hK4, hb4⟩
      obtain ⟨hX4, hg4⟩ := boxed_tell T3.out.2.2 hb4 hK4
      have T4 := Lib.hid (T3.out.bel hg4)
      have X4 := Lib.hid hX4
      clear hX4 hg4 hK4 hb4 x0 x1 x2 T3 HSH
      have hw0 : IntKind.i64.wrap ((N : Int) - 1) = (N : Int) - 1 := IntWalk.i64_in _ (by omega)
      go_wp2_with fail
      revert T4 X4
      generalize w4.alloc (.cells #[.int .i64 x.k, .int .i64 x.n, .slice a4 x.kids.length c4] 24) = wx
      generalize w4.heap.size = xb
      intro T4 X4
      go_loopw [9, 10] (fun s i wr => ∃ (j : Nat) (aK : Option Addr) (cK : Nat), j ≤ N ∧ i = .int .i64 ((N : Int) - 1 - j) ∧ s = .slice aK j cK ∧ VRow wx.heap.size N j (.slice aK j cK) wr ∧ Below wx.heap.size wx wr) (fun _ i _ => (RowKit.intOf i + 1).toNat)
      case atStart => exact ⟨0, none, 0, Nat.zero_le _, by simp, rfl, World.ownsRow_nil _ _ _ _, Below.refl _ _⟩
      case round =>
        obtain ⟨j, aK, cK, hj, rfl, rfl, hV, hbr⟩ := hrel
        have HV := Lib.hid hV
        have HBR := Lib.hid hbr
        have hzr := hbr.size
        have hol := hV.lt
        clear hV hbr
        by_cases hlt : j < N
        · have hij : (0 : Int) ≤ (N : Int) - 1 - j := by omega
          have hw1 : IntKind.i64.wrap ((N : Int) - 1 - j - 1) = (N : Int) - 1 - ((j + 1 : Nat) : Int) := by rw [IntWalk.i64_in _ (by omega)]; omega
          have HVV := Lib.hid (v_any ((N : Int) - 1 - j) wr)
          have hm1 : j + 1 ≤ maxLen := by unfold maxLen; omega
          have hm2 : (j + 1) * 40 ≤ 140737488355328 := by omega
          obtain ⟨i0, hi, hz0, hz1, hz2⟩ := info_parts Try.infoT
          go_wp2_with fail
          refine HVV.out.mono ?_
          rintro e w5 ⟨rfl, hb5⟩
          have HV5 := Lib.hid (HV.out.bel hb5)
          have HB5 := Lib.hid (HBR.out.trans (hb5.mono HBR.out.size))
          have hz5 := hb5.size
          have HOL : Hid (∀ b, (Value.slice aK j cK).ownBlock = some b → wx.heap.size ≤ b) := fun b hb => (hol b hb).1
          clear hb5 HVV HV hol
          go_wp2_with (at_builtin; refine wpList_append_lies _ rfl (.tmp 45) (.tmp 48) 22 rfl wx.heap.size 24 i0 _ 3 40 Try.underlying22 hi hz0 hz1 hz2 rfl (by decide) (.slice aK j cK) _ _ rfl ((show w5.ownsRow wx.heap.size 24 3 (.slice aK j cK) j (cells3 (varsT N j) (fun _ => .slice none 0 0)) from HV5.out).alloc _) ⟨w5.heap.size, 0, none⟩ 1 1 [.int .i64 1, .int .i64 ((N : Int) - 1 - j), .slice none 0 0] rfl rfl (by have := World.news_of_block (World.alloc_heap_new w5 (.cells #[.int .i64 1, .int .i64 ((N : Int) - 1 - j), .slice none 0 0] 24)); simpa using this) (by simp [Value.oneCell']) (by decide) hm1 hm2 (by simp; omega) (w5.heap.size + 1) (by simp) ?_; intro g cp' w7 hown7 hgrow7 hat7 hlt7)
          have HV7 : Hid (VRow wx.heap.size N (j + 1) (.slice (some ⟨g, 0, none⟩) (j + 1) cp') w7) := by
            unfold Hid VRow
            rw [vrow_next]
            exact hown7
          have HB7 := Lib.hid ((HB5.out.alloc (by omega) (.cells #[.int .i64 1, .int .i64 ((N : Int) - 1 - j), .slice none 0 0] 24)).grown hgrow7 (by simp; omega) HOL.out)
          clear hown7 hgrow7 hat7 hlt7
          go_wp2_with fail
          go_roundw
          case rel => exact ⟨j + 1, some ⟨g, 0, none⟩, cp', by omega, by rw [show ((j + 1 : Nat) : Int) = (j : Int) + 1 by omega], rfl, HV7.out, HB7.out⟩
          case measure => simp [RowKit.intOf] <;> omega
        · obtain rfl : j = N := by omega
          have e1 : ¬ ((0 : Int) ≤ (j : Int) - 1 - j) := by omega
          have hr0 : (j : Int) - 1 - j = -1 := by omega
          have hhv := HV.out.at
          have T5 := Lib.hid (T4.out.bel HBR.out)
          have X5 := Lib.hid (X4.out.bel HBR.out)
          obtain ⟨⟨x0, x1, x2⟩, _⟩ := X5.out
          have HVA := Lib.hid hhv
          have HK := Lib.hid (fun W va vb hA hB => c_same hs W va vb hA hB)
          have HSC := Lib.hid (fun W v hA => c_scope t hF hs 0 65536 W v hA)
          rw [hr0]
          clear hhv hlt hj e1
          go_wp2_with fail
          refine (HI.out _ _ _ X5.out.2.1 HVA.out).mono ?_
          rintro e w5 ⟨a5, c5, rfl, hK5, hb5⟩
          obtain ⟨hY5, hg5⟩ := boxed_tell X5.out.2.2 hb5 hK5
          have T6 := Lib.hid (T5.out.bel hg5)
          have Y6 := Lib.hid hY5
          clear hY5 hg5 hK5 hb5 x0 x1 x2 T5 X5 HI
          obtain ⟨⟨x0, x1, x2⟩, _⟩ := T6.out
          obtain ⟨⟨y0, y1, y2⟩, _⟩ := Y6.out
          go_wp2_with fail
          refine (HK.out _ _ _ Y6.out.2.1 T6.out.2.1).mono ?_
          rintro e w6 ⟨rfl, hb6⟩
          have T7 := Lib.hid (T6.out.bel hb6)
          clear hb6 x0 x1 x2 y0 y1 y2 T6 Y6
          obtain ⟨⟨x0, x1, x2⟩, _⟩ := T7.out
          cases hsc : scopeT t 0 65536 with
          | false =>
            rw [hsc] at HSC
            clear hsc
            go_wp2_with fail
            refine (HSC.out _ _ T7.out.2.1).mono ?_
            rintro e w8 ⟨rfl, hb8⟩
            have T8 := Lib.hid (T7.out.bel hb8)
            clear hb8 x0 x1 x2 T7
            go_wp2_with fail
            refine (HWK.out _).mono ?_
            rintro e w109 ⟨rfl, hb9⟩
            have T9 := Lib.hid (T8.out.bel hb9)
            clear hb9 T8
            go_wp2_with fail
            go_ret
            exact ⟨rfl, T9.out.2.2⟩
          | true =>
            rw [hsc] at HSC
            have HI2 := Lib.hid (fun W v va hA hM => c_inst (u := 0) hF hs hFA hsA (by omega) rfl rfl W v va hA hM)
            have HFI : Hid (∀ q (hq : q < A.length), (∀ p (hp : p < A.length), p < q → checkE A[p] = 0) → checkE A[q] ≠ 0 → instE t A 0 = checkE A[q]) := fun q hq h1 h2 => by
              have hf := argsE_first hq (fun i hi => h1 i (by omega) hi) h2
              rw [inst_args HCT.out (by rw [hf]; exact h2), hf]
            have HOK : Hid (argsE A = 0 → instE t A 0 = 0 ∧ instT t A 0 = t) := fun h => by
              obtain ⟨p1, p2⟩ := vars_closed hsc h
              exact ⟨p1, (instT_put p1).trans p2⟩
            generalize instE t A 0 = e1 at *
            generalize instT t A 0 = r at *
            clear hsc
            go_wp2_with fail
            refine (HSC.out _ _ T7.out.2.1).mono ?_
            rintro e w8 ⟨rfl, hb8⟩
            have T8 := Lib.hid (T7.out.bel hb8)
            clear hb8 x0 x1 x2 T7
            obtain ⟨⟨x0, x1, x2⟩, _⟩ := T8.out
            go_wp2_with fail
            refine (HI2.out _ _ _ T8.out.2.1 (HAA.out.bel T8.out.2.2 (Nat.le_refl _))).mono ?_
            rintro e w9 ⟨a9, c9, rfl, hK9, hb9⟩
            obtain ⟨hY9, hg9⟩ := boxed_tell T8.out.2.2 hb9 hK9
            have T10 := Lib.hid (T8.out.bel hg9)
            have Y10 := Lib.hid hY9
            clear hY9 hg9 hK9 hb9 x0 x1 x2 T8 HI2
            go_wp2_with fail
            revert T10 Y10
            generalize w9.alloc (.cells #[.int .i64 r.k, .int .i64 r.n, .slice a9 r.kids.length c9] 24) = wy
            generalize w9.heap.size = yb
            intro T10 Y10
            go_loopw [13] (fun i wr => ∃ m : Nat, m ≤ A.length ∧ i = .int .i64 m ∧ (∀ q (hq : q < A.length), q < m → checkE A[q] = 0) ∧ Below wy.heap.size wy wr) (fun i _ => A.length - (RowKit.intOf i).toNat)
            case atStart => exact ⟨0, Nat.zero_le _, rfl, fun q hq h => absurd h (Nat.not_lt_zero _), Below.refl _ _⟩
            case round =>
              obtain ⟨m, hm, rfl, hck, hbr⟩ := hrel
              have HCK := Lib.hid hck
              have T11 := Lib.hid (T10.out.bel hbr)
              have HBY := Lib.hid hbr
              clear hck hbr
              by_cases hlt : m < A.length
              · obtain ⟨b, off, cap', vs', he, h1, h2, kk, kn, kv, ks⟩ := (HAA.out.bel T11.out.2.2 (Nat.le_refl _)).pos (by omega)
                have gk := kk m hlt
                have gn := kn m hlt
                have gv := kv m hlt
                have gs := ks m hlt
                obtain ⟨au, cu, hvu⟩ := gs.shape
                rw [hvu] at gv gs
                have hsz := size_get hlt
                have HC := Lib.hid (c_check A[m] (hFA _ (List.getElem_mem hlt)) (by omega) wr _ gs)
                have hl1 : (m : Int) < (A.length : Int) := by omega
                have hl0 : (0 : Int) ≤ (m : Int) := by omega
                cases he
                clear kk kn kv ks gs hvu h1 h2
                by_cases hb : checkE A[m] = 0
                · rw [hb] at HC
                  have HB := Lib.hid hb
                  clear hb
                  go_wp2_with fail
                  refine HC.out.mono ?_
                  rintro e w12 ⟨rfl, hb12⟩
                  have HB12 := Lib.hid (HBY.out.trans (hb12.mono HBY.out.size))
                  clear hb12 gk gn gv
                  go_wp2_with fail
                  go_roundw
                  case rel =>
                    refine ⟨m + 1, by omega, by go_num, fun q hq h => ?_, HB12.out⟩
                    by_cases hqj : q < m
                    · exact HCK.out q hq hqj
                    · obtain rfl : q = m := by omega
                      exact HB.out
                  case measure => simp [RowKit.intOf]; omega
                · have q1 : (checkE A[m] != 0) = true := by simpa using hb
                  have hE := HFI.out m hlt (fun p hp h => HCK.out p hp h) hb
                  subst hE
                  generalize checkE A[m] = ce at *
                  clear hb
                  go_wp2_with fail
                  refine HC.out.mono ?_
                  rintro e w12 ⟨rfl, hb12⟩
                  have T12 := Lib.hid (T11.out.bel hb12)
                  clear hb12 gk gn gv T11
                  go_wp2_with fail
                  refine (HWK.out _).mono ?_
                  rintro e w113 ⟨rfl, hb13⟩
                  have T13 := Lib.hid (T12.out.bel hb13)
                  clear hb13 T12
                  go_wp2_with fail
                  go_ret
                  exact ⟨rfl, T13.out.2.2⟩
              · obtain rfl : m = A.length := by omega
                have hlt1 : decide ((A.length : Int) < (A.length : Int)) = false := by simp
                have hca : argsE A = 0 := argsE_ok.2 fun a ha => by
                  obtain ⟨q, hq, rfl⟩ := List.mem_iff_getElem.1 ha
                  exact HCK.out q hq hq
                obtain ⟨rfl, rfl⟩ := HOK.out hca
                have Y11 := Lib.hid (Y10.out.bel HBY.out)
                obtain ⟨⟨x0, x1, x2⟩, _⟩ := T11.out
                obtain ⟨⟨y0, y1, y2⟩, _⟩ := Y11.out
                clear hlt hm hca
                go_wp2_with fail
                refine (HK.out _ _ _ Y11.out.2.1 T11.out.2.1).mono ?_
                rintro e w12 ⟨rfl, hb12⟩
                have T12 := Lib.hid (T11.out.bel hb12)
                clear hb12 x0 x1 x2 y0 y1 y2 T11 Y11
                go_wp2_with fail
                refine (HWK.out _).mono ?_
                rintro e w113 ⟨rfl, hb13⟩
                have T13 := Lib.hid (T12.out.bel hb13)
                clear hb13 T12
                go_wp2_with fail
                go_ret
                exact ⟨rfl, T13.out.2.2⟩
end Go.Proofs.Ytbfefpejcefnhaa
