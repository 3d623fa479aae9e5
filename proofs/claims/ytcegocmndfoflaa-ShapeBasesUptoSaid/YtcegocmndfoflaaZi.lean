/- ShapeBases: the Go text returns true for any block, base and number. No conditions but sizes. -/
import Derived.Test.YtcegocmndfoflaaZh
import Derived.Test.YtcegocmndfoflaaHw
import Derived.Test.YtcegocmndfoflaaLb
namespace Go.Proofs.Ytcegocmndfoflaa
open Go.RowKit
set_option linter.unusedVariables false

set_option maxRecDepth 100000 in
set_option maxHeartbeats 4000000 in
theorem lbases_any (b : BlkT) (hs : blkN b ≤ 1048576) (base by' k : Int) (w : World) (vs vc : Value) (hA : BAt w b vs vc) :
    Calls Try.prog 7 #[.agg #[vs, vc, .int .i64 b.elim], .int .i64 base, .int .i64 by', .int .i64 k] w fun e w' => e = .returned (.bool true) ∧ Below w.heap.size w w' := by
  obtain ⟨ps, cs, pc, cc, rfl, rfl⟩ := hA.shape
  have hls := sortsN_len b.sorts
  have hlc := consN_len b.cons
  have hbn : blkN b = sortsN b.sorts + consN b.cons + 1 := rfl
  have O0 := Lib.hid (oneb_start w b _ _ hA)
  have HV := Lib.hid (heavyblk_any b hs _ _ _ O0.out.2.1)
  have HWK := Lib.hid (fun w => wakes7_any w)
  have hr1 := mod_range base 1000 (by omega) (by omega)
  have hr2 := mod_range by' 1000 (by omega) (by omega)
  have hr3 := mod_range k 30 (by omega) (by omega)
  clear hA
  cases hh : heavyBlk b with
  | true =>
    rw [hh] at HV
    clear hh
    go_enter Try.func7, Try.ntmps7
    go_wp2_with fail
    refine HV.out.mono ?_
    rintro e w1 ⟨rfl, hb⟩
    have O1 := Lib.hid (O0.out.bel hb)
    clear hb
    go_wp2_with fail
    go_ret
    exact ⟨ret_bool rfl, O1.out.2.2⟩
  | false =>
  rw [hh] at HV
  clear hh
  go_enter Try.func7, Try.ntmps7
  go_wp2_with fail
  refine HV.out.mono ?_
  rintro e w1 ⟨rfl, hb⟩
  have O1 := Lib.hid (O0.out.bel hb)
  clear hb O0 HV
  go_upto_region 5 with (fail)
  generalize wrap64 ((IntKind.u64.wrap base).tmod 1000) = bb at *
  generalize wrap64 ((IntKind.u64.wrap by').tmod 1000) = yy at *
  generalize wrap64 ((IntKind.u64.wrap k).tmod 30) = kk at *
  obtain ⟨b0, b1⟩ := hr1
  obtain ⟨y0, y1⟩ := hr2
  obtain ⟨k0, k1⟩ := hr3
  have hnn : nsB b = (b.sorts.length : Int) := rfl
  have hcn : ncB b = (b.cons.length : Int) := rfl
  obtain ⟨m1, m2, m3, m4⟩ := mv_all b (by omega) (by omega) b0 (by omega) y0 (by omega) kk
  have M1 := Lib.hid (fun W => moves7_yes _ _ yy m1 W)
  have M2 := Lib.hid (fun W => moves7_yes _ _ yy m2 W)
  have M3 := Lib.hid (fun W => moves7_yes _ _ yy m3 W)
  have M4 := Lib.hid (fun W => moves7_yes _ _ yy m4 W)
  clear m1 m2 m3 m4
  have P1 := Lib.hid (fun W hA => sformer_any b hs bb kk W (.slice ps b.sorts.length cs) (.slice pc b.cons.length cc) hA)
  have Q1 := Lib.hid (fun W hA => sformer_any b hs (bb + yy) kk W (.slice ps b.sorts.length cs) (.slice pc b.cons.length cc) hA)
  generalize formerB b bb kk = F1 at *
  generalize formerB b (bb + yy) kk = G1 at *
  have P2 := Lib.hid (fun W hA => sdecoder_any b hs bb kk W (.slice ps b.sorts.length cs) (.slice pc b.cons.length cc) hA)
  have Q2 := Lib.hid (fun W hA => sdecoder_any b hs (bb + yy) kk W (.slice ps b.sorts.length cs) (.slice pc b.cons.length cc) hA)
  generalize decoderB b bb kk = F2 at *
  generalize decoderB b (bb + yy) kk = G2 at *
  have P3 := Lib.hid (fun W hA => sctor_any b hs bb kk W (.slice ps b.sorts.length cs) (.slice pc b.cons.length cc) hA)
  have Q3 := Lib.hid (fun W hA => sctor_any b hs (bb + yy) kk W (.slice ps b.sorts.length cs) (.slice pc b.cons.length cc) hA)
  generalize ctorB b bb kk = F3 at *
  generalize ctorB b (bb + yy) kk = G3 at *
  have P4 := Lib.hid (fun W hA => selim_any b hs bb kk W (.slice ps b.sorts.length cs) (.slice pc b.cons.length cc) hA)
  have Q4 := Lib.hid (fun W hA => selim_any b hs (bb + yy) kk W (.slice ps b.sorts.length cs) (.slice pc b.cons.length cc) hA)
  generalize elimB b bb kk = F4 at *
  generalize elimB b (bb + yy) kk = G4 at *
  have hk30 : bb + yy + kk = bb + kk + yy := by omega
  have hmv : ofB b (bb + yy) (bb + yy + kk) = ofB b bb (bb + kk) := by rw [hk30]; exact ofB_mv b b0 (by omega) y0 (by omega) (by omega)
  have U1 := fun W hA => sof_any b hs bb (bb + kk) (by unfold I64; omega) W (.slice ps b.sorts.length cs) (.slice pc b.cons.length cc) hA
  have U2 := fun W hA => sof_any b hs (bb + yy) (bb + yy + kk) (by unfold I64; omega) W (.slice ps b.sorts.length cs) (.slice pc b.cons.length cc) hA
  rw [hmv] at U2
  have CT := Lib.hid (fun W hA => scount7_any b hs W (.slice ps b.sorts.length cs) (.slice pc b.cons.length cc) hA)
  have hfull := of_full b b0 (by omega) (show 0 ≤ bb + kk by omega)
  obtain ⟨p, q, hpq⟩ : ∃ p q, ofB b bb (bb + kk) = (p, q) := ⟨_, _, rfl⟩
  rw [hpq] at U1 U2 hfull
  dsimp only at U1 U2
  have U1 := Lib.hid U1
  have U2 := Lib.hid U2
  have hkey : (p == 0) = decide (countB b ≤ kk) := by
    rcases hfull with ⟨hr, v, h | h | h | h⟩ | ⟨hr, h⟩
    · have h1 := h.1; cases h1; rw [decide_eq_false (by omega)]; rfl
    · have h1 := h.1; cases h1; rw [decide_eq_false (by omega)]; rfl
    · have h1 := h.1; cases h1; rw [decide_eq_false (by omega)]; rfl
    · have h1 := h.1; cases h1; rw [decide_eq_false (by omega)]; rfl
    · cases h; rw [decide_eq_true (by omega)]; rfl
  generalize countB b = CC at *
  clear hfull hpq hmv
  have w1 : IntKind.i64.wrap (bb + yy) = bb + yy := IntWalk.i64_in _ (by omega)
  have w2 : IntKind.i64.wrap (bb + kk) = bb + kk := IntWalk.i64_in _ (by omega)
  have w3 : IntKind.i64.wrap (bb + yy + kk) = bb + yy + kk := IntWalk.i64_in _ (by omega)
  clear hls hlc hbn hnn hcn hk30
  refine wp_region_rel (by kernel_rfl) (by kernel_rfl) (by kernel_rfl) ?_
  apply RelWalk.rest
  · kernel_rfl
  · intro X _ W hW hcl
    obtain ⟨z0, z1, z2⟩ := O1.out.cells
    have rP0 := fun q => gcell (hW q) z0
    have rP1 := fun q => gcell (hW q) z1
    have rP2 := fun q => gcell (hW q) z2
    clear z0 z1 z2
    have dp1 := Lib.hid (fun q => into hcl (P1.out (W q) (O1.out.2.1.bel (hW q))))
    have dq1 := Lib.hid (fun q => into hcl (Q1.out (W q) (O1.out.2.1.bel (hW q))))
    have dm1 := Lib.hid (fun q => intoSame (X := X) (W := W) (q := q) ((M1.out (W q)).mono fun e w' h => ⟨h.1, h.2.symm⟩))
    have dp2 := Lib.hid (fun q => into hcl (P2.out (W q) (O1.out.2.1.bel (hW q))))
    have dq2 := Lib.hid (fun q => into hcl (Q2.out (W q) (O1.out.2.1.bel (hW q))))
    have dm2 := Lib.hid (fun q => intoSame (X := X) (W := W) (q := q) ((M2.out (W q)).mono fun e w' h => ⟨h.1, h.2.symm⟩))
    have dp3 := Lib.hid (fun q => into hcl (P3.out (W q) (O1.out.2.1.bel (hW q))))
    have dq3 := Lib.hid (fun q => into hcl (Q3.out (W q) (O1.out.2.1.bel (hW q))))
    have dm3 := Lib.hid (fun q => intoSame (X := X) (W := W) (q := q) ((M3.out (W q)).mono fun e w' h => ⟨h.1, h.2.symm⟩))
    have dp4 := Lib.hid (fun q => into hcl (P4.out (W q) (O1.out.2.1.bel (hW q))))
    have dq4 := Lib.hid (fun q => into hcl (Q4.out (W q) (O1.out.2.1.bel (hW q))))
    have dm4 := Lib.hid (fun q => intoSame (X := X) (W := W) (q := q) ((M4.out (W q)).mono fun e w' h => ⟨h.1, h.2.symm⟩))
    repeat (go_big_quiet_step (first | (with_reducible exact dp1.out _) | (with_reducible exact dq1.out _) | (with_reducible exact dm1.out _) | (with_reducible exact dp2.out _) | (with_reducible exact dq2.out _) | (with_reducible exact dm2.out _) | (with_reducible exact dp3.out _) | (with_reducible exact dq3.out _) | (with_reducible exact dm3.out _) | (with_reducible exact dp4.out _) | (with_reducible exact dq4.out _) | (with_reducible exact dm4.out _)))
    exact wpQuiet_nil rfl
  intro gq w5 hg _
  have O2 := Lib.hid (O1.out.bel hg)
  clear hg P1 P2 P3 P4 Q1 Q2 Q3 Q4 M1 M2 M3 M4
  simp only [Spread]
  obtain ⟨z0, z1, z2⟩ := O2.out.cells
  go_wp2_with fail
  refine (U1.out _ O2.out.2.1).mono ?_
  rintro e w6 ⟨rfl, hb⟩
  have O3 := Lib.hid (O2.out.bel hb)
  clear hb z0 z1 z2
  obtain ⟨z0, z1, z2⟩ := O3.out.cells
  go_wp2_with fail
  refine (U2.out _ O3.out.2.1).mono ?_
  rintro e w7 ⟨rfl, hb⟩
  have O4 := Lib.hid (O3.out.bel hb)
  clear hb z0 z1 z2
  obtain ⟨z0, z1, z2⟩ := O4.out.cells
  by_cases hc : CC ≤ kk
  · rw [decide_eq_true hc] at hkey
    have hge : decide (kk ≥ CC) = true := decide_eq_true hc
    go_wp2_with fail
    refine (CT.out _ O4.out.2.1).mono ?_
    rintro e w8 ⟨rfl, hb⟩
    have O5 := Lib.hid (O4.out.bel hb)
    clear hb z0 z1 z2
    go_wp2_with fail
    refine (HWK.out _).mono ?_
    rintro e w9 ⟨rfl, hb⟩
    have O6 := Lib.hid (O5.out.bel hb)
    clear hb
    go_wp2_with fail
    go_ret
    exact ⟨ret_bool rfl, O6.out.2.2⟩
  · rw [decide_eq_false hc] at hkey
    have hge : decide (kk ≥ CC) = false := decide_eq_false hc
    go_wp2_with fail
    refine (CT.out _ O4.out.2.1).mono ?_
    rintro e w8 ⟨rfl, hb⟩
    have O5 := Lib.hid (O4.out.bel hb)
    clear hb z0 z1 z2
    go_wp2_with fail
    refine (HWK.out _).mono ?_
    rintro e w9 ⟨rfl, hb⟩
    have O6 := Lib.hid (O5.out.bel hb)
    clear hb
    go_wp2_with fail
    go_ret
    exact ⟨ret_bool rfl, O6.out.2.2⟩
end Go.Proofs.Ytcegocmndfoflaa
