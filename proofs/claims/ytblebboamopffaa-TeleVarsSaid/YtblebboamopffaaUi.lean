/- TeleVars: the Go text returns true for any integers. -/
import Derived.Test.YtblebboamopffaaUc
import Derived.Deep.DeepCutAuto
namespace Go.Proofs.Ytblebboamopffaa
open Go.RowKit
set_option linter.unusedVariables false

theorem vars_fits6 {N : Nat} (hN : N ≤ 60000) : ∀ a ∈ varsT N N, Fits a := fun a ha => by
  obtain ⟨i, hi, rfl⟩ := List.mem_map.1 ha
  have := List.mem_range.1 hi
  exact .mk 1 _ [] (by unfold I64; omega) (by unfold I64; omega) fun x hx => nomatch hx
theorem vars_size6 (N : Nat) : ∀ m, sizeL (varsT N m) = m
  | 0 => rfl
  | m + 1 => by rw [varsT_succ, sizeL_append, vars_size6 N m]; simp [sizeL, size]
theorem vars_get6 {N i : Nat} (h : i < (varsT N N).length) : (varsT N N)[i].k = 1 ∧ (varsT N N)[i].n = (N : Int) - 1 - i ∧ (varsT N N)[i].kids = [] := by simp [varsT, Tm.k, Tm.n, Tm.kids]
set_option maxRecDepth 100000 in
set_option maxHeartbeats 3000000 in
theorem ltvars_any (ns cs : Int) (w : World) :
    Calls Try.prog 7 #[.int .i64 ns, .int .i64 cs] w fun e w' => e = .returned (.bool true) ∧ Below w.heap.size w w' := by
  have HWK := Lib.hid (fun w => wakes6_any w)
  have hr1 := mod_range ns 60 (by omega) (by omega)
  have hr2 := mod_range cs 100 (by omega) (by omega)
  go_enter Try.func7, Try.ntmps7
  go_upto_region 2 with (fail)
  generalize wrap64 ((IntKind.u64.wrap ns).tmod 60) = nn at *
  generalize wrap64 ((IntKind.u64.wrap cs).tmod 100) = cc at *
  obtain ⟨n0, n1⟩ := hr1
  obtain ⟨c0, c1⟩ := hr2
  obtain ⟨N, hN⟩ : ∃ N : Nat, nn = (N : Int) := ⟨nn.toNat, by omega⟩
  subst hN
  have V1 := fun W => svars_any (N : Int) W
  rw [varsL_nat (by omega)] at V1
  have V2 := fun W => svars_any (-(N : Int)) W
  rw [varsL_out (by omega)] at V2
  have V3 := fun W => svars_any 65537 W
  rw [varsL_out (by omega)] at V3
  have V1 := Lib.hid V1
  have V2 := Lib.hid V2
  have V3 := Lib.hid V3
  have hvl := varsT_length N N
  have hvs := vars_size6 N N
  have hvf := vars_fits6 (N := N) (by omega)
  have HVL := Lib.hid hvl
  have fC : Fits (.node 3 cc []) := .mk 3 cc [] (by unfold I64; omega) (by unfold I64; omega) fun x hx => nomatch hx
  have SP := Lib.hid (fun W v vl hA hL => sspine_any (.node 3 cc []) fC (by simp [size, sizeL]) (varsT N N) hvf (by omega) W v vl hA hL)
  have fS := spine_fits (varsT N N) (.node 3 cc []) hvf fC
  have y1 : size (spineT (.node 3 cc []) (varsT N N)) = _ := spine_size (varsT N N) (.node 3 cc [])
  have hsz : size (spineT (.node 3 cc []) (varsT N N)) ≤ 1048576 := by rw [y1]; simp [size, sizeL]; omega
  obtain ⟨q1, q2, q3⟩ := tele_vars (N := N) (c := cc) (by omega) c0 c1
  have SC := Lib.hid (fun a b W v hA => c_scope _ fS hsz a b W v hA)
  generalize spineT (.node 3 cc []) (varsT N N) = S at *
  have S1 := SC.out N (cc + 1)
  have S2 := SC.out N cc
  rw [q1] at S1
  rw [q3] at S2
  have S1 := Lib.hid S1
  have S2 := Lib.hid S2
  have HG6 : Hid (∀ i (h : i < (varsT N N).length), (varsT N N)[i].k = 1 ∧ (varsT N N)[i].n = (N : Int) - 1 - i ∧ (varsT N N)[i].kids = []) := fun i h => vars_get6 h
  clear q1 q3 y1 hsz fS hvf hvs hvl
  generalize varsT N N = L at *
  have hw1 : IntKind.i64.wrap (-(N : Int)) = -(N : Int) := IntWalk.i64_in _ (by omega)
  have hw2 : IntKind.i64.wrap ((N : Int) - 1) = (N : Int) - 1 := IntWalk.i64_in _ (by omega)
  have hw3 : IntKind.i64.wrap (cc + 1) = cc + 1 := IntWalk.i64_in _ (by omega)
  go_wp2_with fail
  refine (V1.out _).mono ?_
  rintro e w1 ⟨a1, d1, rfl, hA1, hb1⟩
  have L1 := Lib.hid hA1.at
  have B1 := Lib.hid hb1
  clear hA1 hb1 V1
  have hne : ((L.length : Int) != (N : Int)) = false := by rw [HVL.out]; simp
  go_wp2_with fail
  refine (V2.out _).mono ?_
  rintro e w2 ⟨a2, d2, rfl, _, hb2⟩
  have L2 := Lib.hid (L1.out.bel hb2 (Nat.le_refl _))
  have B2 := Lib.hid (B1.out.trans (hb2.mono B1.out.size))
  clear hb2 L1 B1 V2
  go_wp2_with fail
  refine (V3.out _).mono ?_
  rintro e w3 ⟨a3, d3, rfl, _, hb3⟩
  have L3 := Lib.hid (L2.out.bel hb3 (Nat.le_refl _))
  have B3 := Lib.hid (B2.out.trans (hb3.mono B2.out.size))
  clear hb3 L2 B2 V3
  go_wp2_with fail
  go_loopw [6] (fun i wr => ∃ j : Nat, j ≤ N ∧ i = .int .i64 j ∧ wr = w3) (fun i _ => N - (RowKit.intOf i).toNat)
  case atStart => exact ⟨0, Nat.zero_le _, rfl, rfl⟩
  case round =>
    obtain ⟨j, hj, rfl, rfl⟩ := hrel
    by_cases hlt : j < N
    · have hl1 : (j : Int) < (N : Int) := by omega
      have hl0 : (0 : Int) ≤ (j : Int) := by omega
      have hl2 : (j : Int) < (L.length : Int) := by rw [HVL.out]; omega
      have hlt2 : j < L.length := by rw [HVL.out]; omega
      obtain ⟨b, off, cap', vs, he, h1, h2, kk, kn, kv, ks⟩ := L3.out.pos (by omega)
      have gk := kk j hlt2
      have gn := kn j hlt2
      have gv := kv j hlt2
      have gs := ks j hlt2
      obtain ⟨z1, z2, z3⟩ := HG6.out j hlt2
      rw [z1] at gk
      rw [z2] at gn
      rw [z3] at gs
      obtain ⟨au, cu, hvu⟩ := gs.shape
      rw [hvu] at gv
      have hw4 : IntKind.i64.wrap ((N : Int) - 1 - j) = (N : Int) - 1 - j := IntWalk.i64_in _ (by omega)
      cases he
      clear kk kn kv ks gs hvu h1 h2 z1 z2 z3
      go_wp2_with fail
      go_roundw
      case rel => exact ⟨j + 1, by omega, by go_num, trivial⟩
      case measure => simp [RowKit.intOf]; omega
    · obtain rfl : N = j := by omega
      have hlt1 : ¬ ((N : Int) < (N : Int)) := by omega
      have HC := Lib.hid (c3_any cc wr)
      have HB := B3
      clear HG6 B3 hj
      go_wp2_with fail
      refine HC.out.mono ?_
      rintro e w5 ⟨rfl, hb5⟩
      have L5 := Lib.hid (L3.out.bel hb5 (Nat.le_refl _))
      have B5 := Lib.hid (HB.out.trans (hb5.mono HB.out.size))
      clear hb5 L3 HB HC
      go_wp2_with fail
      refine (SP.out _ _ _ .nl L5.out).mono ?_
      rintro e w6 ⟨a6, d6, rfl, hA6, hb6⟩
      obtain ⟨hO6, hg6⟩ := boxed_at B5.out hb6 hA6.at
      have O6 := Lib.hid hO6
      clear hO6 hg6 hA6 hb6 B5 L5 SP
      obtain ⟨⟨x0, x1, x2⟩, _⟩ := O6.out
      by_cases h0 : N = 0
      · subst h0
        go_wp2_with fail
        refine (S1.out _ _ O6.out.2.1).mono ?_
        rintro e w7 ⟨rfl, hb7⟩
        have O7 := Lib.hid (O6.out.bel hb7)
        clear hb7 O6 x0 x1 x2
        obtain ⟨⟨x0, x1, x2⟩, _⟩ := O7.out
        go_wp2_with fail
        refine (S2.out _ _ O7.out.2.1).mono ?_
        rintro e w8 ⟨rfl, hb8⟩
        have O8 := Lib.hid (O7.out.bel hb8)
        clear hb8 O7 x0 x1 x2
        go_wp2_with fail
        refine (HWK.out _).mono ?_
        rintro e w9 ⟨rfl, hb9⟩
        have O9 := Lib.hid (O8.out.bel hb9)
        clear hb9 O8
        go_wp2_with fail
        go_ret
        exact ⟨rfl, O9.out.2.2⟩
      · have S3 := SC.out (N - 1) (cc + 1)
        rw [q2.resolve_left h0] at S3
        have S3 := Lib.hid S3
        have k0 : ((N : Int) == 0) = false := by simpa using h0
        clear q2 SC
        go_wp2_with fail
        refine (S1.out _ _ O6.out.2.1).mono ?_
        rintro e w7 ⟨rfl, hb7⟩
        have O7 := Lib.hid (O6.out.bel hb7)
        clear hb7 O6 x0 x1 x2
        obtain ⟨⟨x0, x1, x2⟩, _⟩ := O7.out
        go_wp2_with fail
        refine (S3.out _ _ O7.out.2.1).mono ?_
        rintro e w8 ⟨rfl, hb8⟩
        have O8 := Lib.hid (O7.out.bel hb8)
        clear hb8 O7 x0 x1 x2
        obtain ⟨⟨x0, x1, x2⟩, _⟩ := O8.out
        go_wp2_with fail
        refine (S2.out _ _ O8.out.2.1).mono ?_
        rintro e w9 ⟨rfl, hb9⟩
        have O9 := Lib.hid (O8.out.bel hb9)
        clear hb9 O8 x0 x1 x2
        go_wp2_with fail
        refine (HWK.out _).mono ?_
        rintro e w10 ⟨rfl, hb10⟩
        have O10 := Lib.hid (O9.out.bel hb10)
        clear hb10 O9
        go_wp2_with fail
        go_ret
        exact ⟨rfl, O10.out.2.2⟩
end Go.Proofs.Ytblebboamopffaa
