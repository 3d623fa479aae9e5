/- PositPlain: the Go text returns true for any block and base. No conditions but sizes. -/
import Derived.Test.YtggefpkfikimiaaH03
import Derived.Test.YtggefpkfikimiaaG39
import Derived.Test.YtggefpkfikimiaaG20
namespace Go.Proofs.Ytggefpkfikimiaa
open Go.RowKit
set_option linter.unusedVariables false

set_option maxRecDepth 100000 in
set_option maxHeartbeats 8000000 in
theorem lpplain_any (b : BlkT) (hs : blkN b ≤ 1048576) (hF : b.fits) (base : Int) (w : World) (vs vc : Value) (hA : BAt w b vs vc) :
    Calls Try.prog 7 #[.agg #[vs, vc, .int .i64 b.elim], .int .i64 base] w fun e w' => e = .returned (.bool true) ∧ Below w.heap.size w w' := by
  obtain ⟨ps, cs, pc, cc, rfl, rfl⟩ := hA.shape
  have hls := sortsN_len b.sorts
  have hlc := consN_len b.cons
  have hbn : blkN b = sortsN b.sorts + consN b.cons + 1 := rfl
  have O0 := Lib.hid (oneb_start w b _ _ hA)
  have HV := Lib.hid (heavyblk_any b hs _ _ _ O0.out.2.1)
  have HWK := Lib.hid (fun w => wakes8_any w)
  have RS := Lib.hid (fun W hA => rshape_any b hs hF W (.slice ps b.sorts.length cs) (.slice pc b.cons.length cc) hA)
  clear hA
  cases hh : heavyBlk b with
  | true =>
    rw [hh] at HV
    clear hh
    go_enter Try.func7, Try.ntmps7
    go_wp2_with fail
    refine HV.out.mono ?_
    rintro e w1 ⟨rfl, hb⟩
    have O1 := Lib.hid (O0.out.bel hb)
    clear hb
    go_wp2_with fail
    go_ret
    exact ⟨ret_bool rfl, O1.out.2.2⟩
  | false =>
  rw [hh] at HV
  clear hh
  cases hsh : shapeB b with
  | false =>
    rw [hsh] at RS
    clear hsh
    go_enter Try.func7, Try.ntmps7
    go_wp2_with fail
    refine HV.out.mono ?_
    rintro e w1 ⟨rfl, hb⟩
    have O1 := Lib.hid (O0.out.bel hb)
    clear hb
    obtain ⟨x0, x1, x2⟩ := O1.out.cells
    go_wp2_with fail
    refine (RS.out _ O1.out.2.1).mono ?_
    rintro e w2 ⟨rfl, hb⟩
    have O2 := Lib.hid (O1.out.bel hb)
    clear hb x0 x1 x2
    go_wp2_with fail
    go_ret
    exact ⟨ret_bool rfl, O2.out.2.2⟩
  | true =>
  rw [hsh] at RS
  have HSH := Lib.hid hsh
  have hr1 := mod_range base 1000 (by omega) (by omega)
  have hdr := decsN_range b (nsB b)
  have hcb : countB b = 2 * nsB b + decsN b (nsB b) + ncB b := rfl
  have hcn : ncB b = (b.cons.length : Int) := rfl
  have hnn : nsB b = (b.sorts.length : Int) := rfl
  have hcr : 0 ≤ countB b ∧ countB b ≤ 10000000 := by omega
  have hls2 : b.sorts.length ≤ 1048576 := by omega
  have hlc2 : b.cons.length ≤ 1048576 := by omega
  have SN := Lib.hid (fun W hA => rcount7_any b hs W (.slice ps b.sorts.length cs) (.slice pc b.cons.length cc) hA)
  have SM := Lib.hid (fun m W hA => names_any b hs m W (.slice ps b.sorts.length cs) (.slice pc b.cons.length cc) hA)
  have SU := Lib.hid (fun c i hc hi W hA => used_any b hs c i hc hi W (.slice ps b.sorts.length cs) (.slice pc b.cons.length cc) hA)
  have SC := Lib.hid (fun bb W hA => s8check_any b hs hF bb W (.slice ps b.sorts.length cs) (.slice pc b.cons.length cc) hA)
  have HPP := Lib.hid (fun bb h0 h1 hn hrec hu => posit_plain b hs hsh (base := bb) h0 h1 hn hrec hu)
  have HSZ : Hid ((∀ s ∈ b.sorts, s.idx.length ≤ 1048576) ∧ ∀ x ∈ b.cons, x.args.length ≤ 1048576) := ⟨fun s hs2 => by have h1 := argsN_len s.idx; have h2 := sortN_le hs2; unfold sortN at h2; omega, fun x hx => by have h1 := argsN_len x.args; have h2 := conN_le hx; unfold conN at h2; omega⟩
  clear hsh hls hlc hbn hdr hcb hcn hnn hs hF
  go_enter Try.func7, Try.ntmps7
  go_wp2_with fail
  refine HV.out.mono ?_
  rintro e w1 ⟨rfl, hb⟩
  have O1 := Lib.hid (O0.out.bel hb)
  clear hb O0 HV
  obtain ⟨x0, x1, x2⟩ := O1.out.cells
  go_wp2_with fail
  refine (RS.out _ O1.out.2.1).mono ?_
  rintro e w2 ⟨rfl, hb⟩
  have O2 := Lib.hid (O1.out.bel hb)
  clear hb x0 x1 x2 O1 RS
  go_upto_region 4 with (fail)
  generalize wrap64 ((IntKind.u64.wrap base).tmod 1000) = bb at *
  obtain ⟨b0, b1⟩ := hr1
  generalize countB b = CB at *
  go_wp2_with fail
  go_loopw [5] (fun si wr => ∃ j : Nat, si = .int .i64 (j : Int) ∧ (j : Int) ≤ CB ∧ (∀ m : Nat, m < j → namesB b (bb + m) = false) ∧ OneB w w.heap.size b (.slice ps b.sorts.length cs) (.slice pc b.cons.length cc) wr) (fun si _ => (CB - RowKit.intOf si).toNat)
  case atStart => exact ⟨0, rfl, by omega, fun m hm => absurd hm (Nat.not_lt_zero _), O2.out⟩
  case round =>
    clear O2
    obtain ⟨j, rfl, hj, hN, hO⟩ := hrel
    have OJ := Lib.hid hO
    have HN := Lib.hid hN
    clear hO hN
    obtain ⟨x0, x1, x2⟩ := OJ.out.cells
    by_cases hlt : (j : Int) < CB
    · have hw1 : IntKind.i64.wrap ((j : Int) + 1) = ((j + 1 : Nat) : Int) := by rw [IntWalk.i64_in _ (by omega)]; omega
      have hw2 : IntKind.i64.wrap (bb + (j : Int)) = bb + (j : Int) := IntWalk.i64_in _ (by omega)
      go_wp2_with fail
      refine (SN.out _ OJ.out.2.1).mono ?_
      rintro e w5 ⟨rfl, hb⟩
      have O5 := Lib.hid (OJ.out.bel hb)
      clear hb x0 x1 x2
      obtain ⟨x0, x1, x2⟩ := O5.out.cells
      have HM := Lib.hid (SM.out (bb + (j : Int)) w5 O5.out.2.1)
      cases hnm : namesB b (bb + (j : Int)) with
      | true =>
        rw [hnm] at HM
        clear hnm
        go_wp2_with fail
        refine HM.out.mono ?_
        rintro e w6 ⟨rfl, hb⟩
        have O6 := Lib.hid (O5.out.bel hb)
        clear hb x0 x1 x2
        go_wp2_with fail
        refine (HWK.out _).mono ?_
        rintro e w7 ⟨rfl, hb⟩
        have O7 := Lib.hid (O6.out.bel hb)
        clear hb
        go_wp2_with fail
        go_ret
        exact ⟨ret_bool rfl, O7.out.2.2⟩
      | false =>
        rw [hnm] at HM
        have HNM := Lib.hid hnm
        clear hnm
        go_wp2_with fail
        refine HM.out.mono ?_
        rintro e w6 ⟨rfl, hb⟩
        have O6 := Lib.hid (O5.out.bel hb)
        clear hb x0 x1 x2
        go_wp2_with fail
        go_roundw
        case rel => exact ⟨j + 1, by go_num, by omega, fun m hm => by
          by_cases h : m = j
          · subst h; exact HNM.out
          · exact HN.out m (by omega), O6.out⟩
        case measure => simp [RowKit.intOf] <;> omega
    · have hlt' : ¬ (j : Int) < CB := hlt
      have HNA : Hid (∀ i : Nat, (i : Int) < CB → namesB b (bb + i) = false) := fun i hi => HN.out i (by omega)
      go_wp2_with fail
      refine (SN.out _ OJ.out.2.1).mono ?_
      rintro e w5 ⟨rfl, hb⟩
      have O5 := Lib.hid (OJ.out.bel hb)
      clear hb x0 x1 x2 OJ HN
      go_wp2_with fail
      go_loopw [6] (fun si wr => ∃ k : Nat, si = .int .i64 (k : Int) ∧ k ≤ b.sorts.length ∧ (∀ m (h : m < b.sorts.length), m < k → ∀ a ∈ b.sorts[m].idx, a.r = false) ∧ OneB w w.heap.size b (.slice ps b.sorts.length cs) (.slice pc b.cons.length cc) wr) (fun si _ => b.sorts.length - (RowKit.intOf si).toNat)
      case atStart => exact ⟨0, rfl, Nat.zero_le _, fun m h hm => absurd hm (Nat.not_lt_zero _), O5.out⟩
      case round =>
        clear O5
        obtain ⟨k, rfl, hk, hR, hO⟩ := hrel
        have OK := Lib.hid hO
        have HR := Lib.hid hR
        clear hO hR
        obtain ⟨x0, x1, x2⟩ := OK.out.cells
        by_cases hkt : k < b.sorts.length
        · have hk1 : (k : Int) < (b.sorts.length : Int) := by omega
          have hk0 : (0 : Int) ≤ (k : Int) := by omega
          have hwk : IntKind.i64.wrap ((k : Int) + 1) = ((k + 1 : Nat) : Int) := by rw [IntWalk.i64_in _ (by omega)]; omega
          have hil := HSZ.out.1 _ (List.getElem_mem hkt)
          go_wp2_with fail
          clear x0 x1 x2
          go_loopw [7] (fun si wr => ∃ q : Nat, si = .int .i64 (q : Int) ∧ q ≤ b.sorts[k].idx.length ∧ (∀ m (h : m < b.sorts[k].idx.length), m < q → b.sorts[k].idx[m].r = false) ∧ OneB w w.heap.size b (.slice ps b.sorts.length cs) (.slice pc b.cons.length cc) wr) (fun si _ => b.sorts[k].idx.length - (RowKit.intOf si).toNat)
          case atStart => exact ⟨0, rfl, Nat.zero_le _, fun m h hm => absurd hm (Nat.not_lt_zero _), OK.out⟩
          case round =>
            clear OK
            obtain ⟨q, rfl, hq, hQ, hO⟩ := hrel
            have OQ := Lib.hid hO
            have HQ := Lib.hid hQ
            clear hO hQ
            obtain ⟨x0, x1, x2⟩ := OQ.out.cells
            obtain ⟨bS, oS, vx, vt, he, gA, gT, s0, s1, s2, s3, s4, s5⟩ := SRow.at OQ.out.2.1.1 hkt
            cases he
            obtain ⟨pi, ci, rfl⟩ := gA.shape
            clear s1 s2 s3 s4 s5 gT
            by_cases hqt : q < b.sorts[k].idx.length
            · have hq1 : (q : Int) < (b.sorts[k].idx.length : Int) := by omega
              have hq0 : (0 : Int) ≤ (q : Int) := by omega
              have hwq : IntKind.i64.wrap ((q : Int) + 1) = ((q + 1 : Nat) : Int) := by rw [IntWalk.i64_in _ (by omega)]; omega
              obtain ⟨bI, oI, vt2, vd2, vi2, he, t1, t2, t3, i0, i1, i2, i3, i4, i5, i6⟩ := ARow.at gA hqt
              cases he
              clear gA t1 t2 t3 i1 i2 i3 i4 i5 i6
              cases hr : b.sorts[k].idx[q].r with
              | true =>
                rw [hr] at i0
                clear hr
                go_wp2_with fail
                refine (HWK.out _).mono ?_
                rintro e w7 ⟨rfl, hb⟩
                have O7 := Lib.hid (OQ.out.bel hb)
                clear hb x0 x1 x2 s0 i0
                go_wp2_with fail
                go_ret
                exact ⟨ret_bool rfl, O7.out.2.2⟩
              | false =>
                rw [hr] at i0
                have HRQ := Lib.hid hr
                clear hr
                go_wp2_with fail
                go_roundw
                case rel => exact ⟨q + 1, by go_num, by omega, fun m h hm => by
                  by_cases hmq : m = q
                  · subst hmq; exact HRQ.out
                  · exact HQ.out m h (by omega), OQ.out⟩
                case measure => simp [RowKit.intOf] <;> omega
            · obtain rfl : q = b.sorts[k].idx.length := by omega
              clear gA
              go_wp2_with fail
              go_roundw
              case rel => exact ⟨k + 1, by go_num, by omega, fun m h hm a ha => by
                by_cases hmk : m = k
                · subst hmk
                  obtain ⟨z, hz, rfl⟩ := List.getElem_of_mem ha
                  exact HQ.out z hz hz
                · exact HR.out m h (by omega) a ha, OQ.out⟩
              case measure => simp [RowKit.intOf] <;> omega
        · obtain rfl : k = b.sorts.length := by omega
          have HRA : Hid (∀ s ∈ b.sorts, ∀ a ∈ s.idx, a.r = false) := fun s hs a ha => by
            obtain ⟨z, hz, rfl⟩ := List.getElem_of_mem hs
            exact HR.out z hz hz a ha
          clear HR
          go_wp2_with fail
          clear x0 x1 x2
          go_loopw [8] (fun si wr => ∃ k : Nat, si = .int .i64 (k : Int) ∧ k ≤ b.cons.length ∧ (∀ m (h : m < b.cons.length), m < k → ∀ i (hi : i < b.cons[m].args.length), b.cons[m].args[i].r = true → usedB b.cons[m] i = false) ∧ OneB w w.heap.size b (.slice ps b.sorts.length cs) (.slice pc b.cons.length cc) wr) (fun si _ => b.cons.length - (RowKit.intOf si).toNat)
          case atStart => exact ⟨0, rfl, Nat.zero_le _, fun m h hm => absurd hm (Nat.not_lt_zero _), OK.out⟩
          case round =>
            clear OK
            obtain ⟨k, rfl, hk, hR, hO⟩ := hrel
            have OK := Lib.hid hO
            have HR := Lib.hid hR
            clear hO hR
            obtain ⟨x0, x1, x2⟩ := OK.out.cells
            by_cases hkt : k < b.cons.length
            · have hk1 : (k : Int) < (b.cons.length : Int) := by omega
              have hk0 : (0 : Int) ≤ (k : Int) := by omega
              have hwk : IntKind.i64.wrap ((k : Int) + 1) = ((k + 1 : Nat) : Int) := by rw [IntWalk.i64_in _ (by omega)]; omega
              have hil := HSZ.out.2 _ (List.getElem_mem hkt)
              go_wp2_with fail
              clear x0 x1 x2
              go_loopw [9] (fun si wr => ∃ q : Nat, si = .int .i64 (q : Int) ∧ q ≤ b.cons[k].args.length ∧ (∀ i (hi : i < b.cons[k].args.length), i < q → b.cons[k].args[i].r = true → usedB b.cons[k] i = false) ∧ OneB w w.heap.size b (.slice ps b.sorts.length cs) (.slice pc b.cons.length cc) wr) (fun si _ => b.cons[k].args.length - (RowKit.intOf si).toNat)
              case atStart => exact ⟨0, rfl, Nat.zero_le _, fun m h hm => absurd hm (Nat.not_lt_zero _), OK.out⟩
              case round =>
                clear OK
                obtain ⟨q, rfl, hq, hQ, hO⟩ := hrel
                have OQ := Lib.hid hO
                have HQ := Lib.hid hQ
                clear hO hQ
                obtain ⟨x0, x1, x2⟩ := OQ.out.cells
                obtain ⟨bS, oS, vx, vy, vt, he, gA, gI, gT, s0, s1, s2, s3, s4, s5⟩ := CRow.at OQ.out.2.1.2 hkt
                cases he
                obtain ⟨pi, ci, rfl⟩ := gA.shape
                clear s0 s2 s3 s4 s5 gT gI
                by_cases hqt : q < b.cons[k].args.length
                · have hq1 : (q : Int) < (b.cons[k].args.length : Int) := by omega
                  have hq0 : (0 : Int) ≤ (q : Int) := by omega
                  have hwq : IntKind.i64.wrap ((q : Int) + 1) = ((q + 1 : Nat) : Int) := by rw [IntWalk.i64_in _ (by omega)]; omega
                  obtain ⟨bI, oI, vt2, vd2, vi2, he, t1, t2, t3, i0, i1, i2, i3, i4, i5, i6⟩ := ARow.at gA hqt
                  cases he
                  clear gA t1 t2 t3 i1 i2 i3 i4 i5 i6
                  cases hr : b.cons[k].args[q].r with
                  | true =>
                    rw [hr] at i0
                    have HU := Lib.hid (SU.out k q hkt hqt wr OQ.out.2.1)
                    clear hr
                    cases hub : usedB b.cons[k] q with
                    | true =>
                      rw [hub] at HU
                      clear hub
                      go_wp2_with fail
                      refine HU.out.mono ?_
                      rintro e w6 ⟨rfl, hb⟩
                      have O6 := Lib.hid (OQ.out.bel hb)
                      clear hb x0 x1 x2 s1 i0
                      go_wp2_with fail
                      refine (HWK.out _).mono ?_
                      rintro e w7 ⟨rfl, hb⟩
                      have O7 := Lib.hid (O6.out.bel hb)
                      clear hb
                      go_wp2_with fail
                      go_ret
                      exact ⟨ret_bool rfl, O7.out.2.2⟩
                    | false =>
                      rw [hub] at HU
                      have HUB := Lib.hid hub
                      clear hub
                      go_wp2_with fail
                      refine HU.out.mono ?_
                      rintro e w6 ⟨rfl, hb⟩
                      have O6 := Lib.hid (OQ.out.bel hb)
                      clear hb x0 x1 x2 s1 i0
                      go_wp2_with fail
                      go_roundw
                      case rel => exact ⟨q + 1, by go_num, by omega, fun i hi hiq hir => by
                        by_cases hmq : i = q
                        · subst hmq; exact HUB.out
                        · exact HQ.out i hi (by omega) hir, O6.out⟩
                      case measure => simp [RowKit.intOf] <;> omega
                  | false =>
                    rw [hr] at i0
                    have HRQ := Lib.hid hr
                    clear hr
                    go_wp2_with fail
                    go_roundw
                    case rel => exact ⟨q + 1, by go_num, by omega, fun i hi hiq hir => by
                      by_cases hmq : i = q
                      · subst hmq; rw [HRQ.out] at hir; exact absurd hir (by decide)
                      · exact HQ.out i hi (by omega) hir, OQ.out⟩
                    case measure => simp [RowKit.intOf] <;> omega
                · obtain rfl : q = b.cons[k].args.length := by omega
                  clear gA
                  go_wp2_with fail
                  go_roundw
                  case rel => exact ⟨k + 1, by go_num, by omega, fun m h hm i hi hir => by
                    by_cases hmk : m = k
                    · subst hmk
                      exact HQ.out i hi hi hir
                    · exact HR.out m h (by omega) i hi hir, OQ.out⟩
                  case measure => simp [RowKit.intOf] <;> omega
            · obtain rfl : k = b.cons.length := by omega
              have hp : positB b bb = 0 := HPP.out bb b0 (by omega) HNA.out HRA.out fun x hx i hi hir => by
                obtain ⟨z, hz, rfl⟩ := List.getElem_of_mem hx
                exact HR.out z hz hz i hi hir
              have HC := Lib.hid (SC.out bb wr OK.out.2.1)
              rw [hp] at HC
              clear hp HR
              go_wp2_with fail
              refine HC.out.mono ?_
              rintro e w6 ⟨rfl, hb⟩
              have O6 := Lib.hid (OK.out.bel hb)
              clear hb x0 x1 x2
              go_wp2_with fail
              refine (HWK.out _).mono ?_
              rintro e w7 ⟨rfl, hb⟩
              have O7 := Lib.hid (O6.out.bel hb)
              clear hb
              go_wp2_with fail
              go_ret
              exact ⟨ret_bool rfl, O7.out.2.2⟩
end Go.Proofs.Ytggefpkfikimiaa
