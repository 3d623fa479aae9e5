/- ShapeExact: the Go text returns true for any block, base and numbers. No conditions but sizes. -/
import Derived.Test.YtcegocmndfoflaaZh
import Derived.Test.YtcegocmndfoflaaHm
import Derived.Test.YtcegocmndfoflaaHr
namespace Go.Proofs.Ytcegocmndfoflaa
open Go.RowKit
set_option linter.unusedVariables false

/-- Two boxes that hold one block. -/
def TwoB (w0 : World) (B C : Nat) (b : BlkT) (vs vc us uc : Value) (W : World) : Prop := OneB w0 B b vs vc W ∧ OneB w0 C b us uc W
theorem TwoB.bel {w0 W W' : World} {B C : Nat} {b : BlkT} {vs vc us uc : Value} (h : TwoB w0 B C b vs vc us uc W) (hb : Below W.heap.size W W') : TwoB w0 B C b vs vc us uc W' := ⟨h.1.bel hb, h.2.bel hb⟩
set_option maxRecDepth 100000 in
set_option maxHeartbeats 4000000 in
theorem lsexact7_any (b : BlkT) (hs : blkN b ≤ 1048576) (hF : b.fits) (base k n : Int) (hI : I64 n) (w : World) (vs vc : Value) (hA : BAt w b vs vc) :
    Calls Try.prog 3 #[.agg #[vs, vc, .int .i64 b.elim], .int .i64 base, .int .i64 k, .int .i64 n] w fun e w' => e = .returned (.bool true) ∧ Below w.heap.size w w' := by
  obtain ⟨ps, cs, pc, cc, rfl, rfl⟩ := hA.shape
  have O0 := Lib.hid (oneb_start w b _ _ hA)
  have HV := Lib.hid (heavyblk_any b hs _ _ _ O0.out.2.1)
  have HWK := Lib.hid (fun w => wakes7_any w)
  clear hA
  cases hh : heavyBlk b with
  | true =>
    rw [hh] at HV
    clear hh
    go_enter Try.func3, Try.ntmps3
    go_wp2_with fail
    refine HV.out.mono ?_
    rintro e w1 ⟨rfl, hb⟩
    have O1 := Lib.hid (O0.out.bel hb)
    clear hb
    go_wp2_with fail
    go_ret
    exact ⟨ret_bool rfl, O1.out.2.2⟩
  | false =>
  rw [hh] at HV
  clear hh
  go_enter Try.func3, Try.ntmps3
  go_wp2_with fail
  refine HV.out.mono ?_
  rintro e w1 ⟨rfl, hb⟩
  have O1 := Lib.hid (O0.out.bel hb)
  clear hb O0 HV
  obtain ⟨x0, x1, x2⟩ := O1.out.cells
  go_wp2_with fail
  refine (twinblk_any b hs _ _ _ O1.out.2.1).mono ?_
  rintro e w2 ⟨a1, d1, a2, d2, rfl, hT, hb⟩
  have O2 := Lib.hid (O1.out.bel hb)
  have h2 := oneb_start w2 b (.slice a1 b.sorts.length d1) (.slice a2 b.cons.length d2) hT.at
  have h3 := O2.out.bel h2.2.2
  obtain ⟨w3, hw3⟩ : ∃ w3, w3 = w2.alloc (.cells #[.slice a1 b.sorts.length d1, .slice a2 b.cons.length d2, .int .i64 b.elim] 25) := ⟨_, rfl⟩
  rw [← hw3] at h2 h3
  have T3 : Hid (TwoB w w.heap.size w2.heap.size b (.slice ps b.sorts.length cs) (.slice pc b.cons.length cc) (.slice a1 b.sorts.length d1) (.slice a2 b.cons.length d2) w3) := ⟨h3, h2.1, h2.2.1, h3.2.2⟩
  have HW := Lib.hid hw3
  clear hb hT h2 h3 hw3 x0 x1 x2 O1 O2
  go_upto_region 4 with (fail)
  rw [← HW.out]
  clear HW
  have RS := fun W hA => rshape_any b hs hF W (.slice ps b.sorts.length cs) (.slice pc b.cons.length cc) hA
  have SC := fun W hA => scheck_any b hs hF W (.slice a1 b.sorts.length d1) (.slice a2 b.cons.length d2) hA
  have SO := fun W hA => sof_any b hs base n hI W (.slice a1 b.sorts.length d1) (.slice a2 b.cons.length d2) hA
  have RO := fun W hA => rof_any b hs base n W (.slice ps b.sorts.length cs) (.slice pc b.cons.length cc) hA
  have SN := fun W hA => scount7_any b hs W (.slice a1 b.sorts.length d1) (.slice a2 b.cons.length d2) hA
  have RN := fun W hA => rcount7_any b hs W (.slice ps b.sorts.length cs) (.slice pc b.cons.length cc) hA
  have SF := fun W hA => sformer_any b hs base k W (.slice a1 b.sorts.length d1) (.slice a2 b.cons.length d2) hA
  have RF := fun W hA => rformer_any b hs base k W (.slice ps b.sorts.length cs) (.slice pc b.cons.length cc) hA
  have SD := fun W hA => sdecoder_any b hs base k W (.slice a1 b.sorts.length d1) (.slice a2 b.cons.length d2) hA
  have RD := fun W hA => rdecoder_any b hs base k W (.slice ps b.sorts.length cs) (.slice pc b.cons.length cc) hA
  have SK := fun W hA => sctor_any b hs base k W (.slice a1 b.sorts.length d1) (.slice a2 b.cons.length d2) hA
  have RK := fun W hA => rctor_any b hs base k W (.slice ps b.sorts.length cs) (.slice pc b.cons.length cc) hA
  have SE := fun W hA => selim_any b hs base k W (.slice a1 b.sorts.length d1) (.slice a2 b.cons.length d2) hA
  have RE := fun W hA => relim_any b hs base k W (.slice ps b.sorts.length cs) (.slice pc b.cons.length cc) hA
  have KB := Lib.hid (fun W hA hB => keepblk_self b hs W (.slice a1 b.sorts.length d1) (.slice a2 b.cons.length d2) (.slice ps b.sorts.length cs) (.slice pc b.cons.length cc) hA hB)
  generalize ofB b base n = PP at *
  obtain ⟨p, q⟩ := PP
  dsimp only at SO RO
  generalize countB b = CC at *
  generalize formerB b base k = FF at *
  generalize decoderB b base k = DD at *
  generalize ctorB b base k = KK at *
  generalize elimB b base k = EE at *
  have SO := Lib.hid SO
  have RO := Lib.hid RO
  have SN := Lib.hid SN
  have RN := Lib.hid RN
  have SF := Lib.hid SF
  have RF := Lib.hid RF
  have SD := Lib.hid SD
  have RD := Lib.hid RD
  have SK := Lib.hid SK
  have RK := Lib.hid RK
  have SE := Lib.hid SE
  have RE := Lib.hid RE
  generalize w2.heap.size = M at *
  obtain ⟨x0, x1, x2⟩ := T3.out.1.cells
  obtain ⟨y0, y1, y2⟩ := T3.out.2.cells
  cases hsh : shapeB b with
  | true =>
    rw [hsh] at RS SC
    simp only [if_true] at SC
    have RS := Lib.hid RS
    have SC := Lib.hid SC
    clear hsh
    go_wp2_with fail
    refine (RS.out _ T3.out.1.2.1).mono ?_
    rintro e w4 ⟨rfl, hb⟩
    have T4 := Lib.hid (T3.out.bel hb)
    clear hb x0 x1 x2 y0 y1 y2 T3
    obtain ⟨x0, x1, x2⟩ := T4.out.1.cells
    obtain ⟨y0, y1, y2⟩ := T4.out.2.cells
    go_wp2_with fail
    refine (SO.out _ T4.out.2.2.1).mono ?_
    rintro e w5 ⟨rfl, hb⟩
    have T5 := Lib.hid (T4.out.bel hb)
    clear hb x0 x1 x2 y0 y1 y2 T4
    obtain ⟨x0, x1, x2⟩ := T5.out.1.cells
    obtain ⟨y0, y1, y2⟩ := T5.out.2.cells
    go_wp2_with fail
    refine (RO.out _ T5.out.1.2.1).mono ?_
    rintro e w6 ⟨rfl, hb⟩
    have T6 := Lib.hid (T5.out.bel hb)
    clear hb x0 x1 x2 y0 y1 y2 T5
    obtain ⟨x0, x1, x2⟩ := T6.out.1.cells
    obtain ⟨y0, y1, y2⟩ := T6.out.2.cells
    go_wp2_with fail
    clear x0 x1 x2 y0 y1 y2
    simp only [List.append_eq, List.cons_append, List.nil_append]
    refine wp_region_rel (by kernel_rfl) (by kernel_rfl) (by kernel_rfl) ?_
    apply RelWalk.rest
    · kernel_rfl
    · intro X _ W hW hcl
      obtain ⟨x0, x1, x2⟩ := T6.out.1.cells
      obtain ⟨y0, y1, y2⟩ := T6.out.2.cells
      have rx0 := fun q => gcell (hW q) x0
      have rx1 := fun q => gcell (hW q) x1
      have rx2 := fun q => gcell (hW q) x2
      have ry0 := fun q => gcell (hW q) y0
      have ry1 := fun q => gcell (hW q) y1
      have ry2 := fun q => gcell (hW q) y2
      clear x0 x1 x2 y0 y1 y2
      have hx := fun q => T6.out.1.2.1.bel (hW q)
      have hy := fun q => T6.out.2.2.1.bel (hW q)
      have dSC := Lib.hid (fun q => into hcl (SC.out (W q) (hy q)))
      have dSN := Lib.hid (fun q => into hcl (SN.out (W q) (hy q)))
      have dRN := Lib.hid (fun q => into hcl (RN.out (W q) (hx q)))
      have dSF := Lib.hid (fun q => into hcl (SF.out (W q) (hy q)))
      have dRF := Lib.hid (fun q => into hcl (RF.out (W q) (hx q)))
      have dSD := Lib.hid (fun q => into hcl (SD.out (W q) (hy q)))
      have dRD := Lib.hid (fun q => into hcl (RD.out (W q) (hx q)))
      have dSK := Lib.hid (fun q => into hcl (SK.out (W q) (hy q)))
      have dRK := Lib.hid (fun q => into hcl (RK.out (W q) (hx q)))
      have dSE := Lib.hid (fun q => into hcl (SE.out (W q) (hy q)))
      have dRE := Lib.hid (fun q => into hcl (RE.out (W q) (hx q)))
      have dKB := Lib.hid (fun q => into hcl (KB.out (W q) (hy q) (hx q)))
      have dWK := Lib.hid (fun q => into hcl (HWK.out (W q)))
      repeat (go_big_quiet_step (first | (with_reducible exact dSC.out _) | (with_reducible exact dSN.out _) | (with_reducible exact dRN.out _) | (with_reducible exact dSF.out _) | (with_reducible exact dRF.out _) | (with_reducible exact dSD.out _) | (with_reducible exact dRD.out _) | (with_reducible exact dSK.out _) | (with_reducible exact dRK.out _) | (with_reducible exact dSE.out _) | (with_reducible exact dRE.out _) | (with_reducible exact dKB.out _) | (with_reducible exact dWK.out _)))
      exact wpQuiet_nil rfl
    intro gq w9 hg _
    have T9 := Lib.hid (T6.out.bel hg)
    clear hg
    simp only [Spread]
    go_wp2_with fail
    go_ret
    exact ⟨ret_bool rfl, T9.out.1.2.2⟩
  | false =>
    rw [hsh] at RS SC
    simp only [Bool.false_eq_true, if_false] at SC
    have RS := Lib.hid RS
    have SC := Lib.hid SC
    clear hsh
    go_wp2_with fail
    refine (RS.out _ T3.out.1.2.1).mono ?_
    rintro e w4 ⟨rfl, hb⟩
    have T4 := Lib.hid (T3.out.bel hb)
    clear hb x0 x1 x2 y0 y1 y2 T3
    obtain ⟨x0, x1, x2⟩ := T4.out.1.cells
    obtain ⟨y0, y1, y2⟩ := T4.out.2.cells
    go_wp2_with fail
    refine (SO.out _ T4.out.2.2.1).mono ?_
    rintro e w5 ⟨rfl, hb⟩
    have T5 := Lib.hid (T4.out.bel hb)
    clear hb x0 x1 x2 y0 y1 y2 T4
    obtain ⟨x0, x1, x2⟩ := T5.out.1.cells
    obtain ⟨y0, y1, y2⟩ := T5.out.2.cells
    go_wp2_with fail
    refine (RO.out _ T5.out.1.2.1).mono ?_
    rintro e w6 ⟨rfl, hb⟩
    have T6 := Lib.hid (T5.out.bel hb)
    clear hb x0 x1 x2 y0 y1 y2 T5
    obtain ⟨x0, x1, x2⟩ := T6.out.1.cells
    obtain ⟨y0, y1, y2⟩ := T6.out.2.cells
    go_wp2_with fail
    clear x0 x1 x2 y0 y1 y2
    simp only [List.append_eq, List.cons_append, List.nil_append]
    refine wp_region_rel (by kernel_rfl) (by kernel_rfl) (by kernel_rfl) ?_
    apply RelWalk.rest
    · kernel_rfl
    · intro X _ W hW hcl
      obtain ⟨x0, x1, x2⟩ := T6.out.1.cells
      obtain ⟨y0, y1, y2⟩ := T6.out.2.cells
      have rx0 := fun q => gcell (hW q) x0
      have rx1 := fun q => gcell (hW q) x1
      have rx2 := fun q => gcell (hW q) x2
      have ry0 := fun q => gcell (hW q) y0
      have ry1 := fun q => gcell (hW q) y1
      have ry2 := fun q => gcell (hW q) y2
      clear x0 x1 x2 y0 y1 y2
      have hx := fun q => T6.out.1.2.1.bel (hW q)
      have hy := fun q => T6.out.2.2.1.bel (hW q)
      have dSC := Lib.hid (fun q => into hcl (SC.out (W q) (hy q)))
      have dSN := Lib.hid (fun q => into hcl (SN.out (W q) (hy q)))
      have dRN := Lib.hid (fun q => into hcl (RN.out (W q) (hx q)))
      have dSF := Lib.hid (fun q => into hcl (SF.out (W q) (hy q)))
      have dRF := Lib.hid (fun q => into hcl (RF.out (W q) (hx q)))
      have dSD := Lib.hid (fun q => into hcl (SD.out (W q) (hy q)))
      have dRD := Lib.hid (fun q => into hcl (RD.out (W q) (hx q)))
      have dSK := Lib.hid (fun q => into hcl (SK.out (W q) (hy q)))
      have dRK := Lib.hid (fun q => into hcl (RK.out (W q) (hx q)))
      have dSE := Lib.hid (fun q => into hcl (SE.out (W q) (hy q)))
      have dRE := Lib.hid (fun q => into hcl (RE.out (W q) (hx q)))
      have dKB := Lib.hid (fun q => into hcl (KB.out (W q) (hy q) (hx q)))
      have dWK := Lib.hid (fun q => into hcl (HWK.out (W q)))
      repeat (go_big_quiet_step (first | (with_reducible exact dSC.out _) | (with_reducible exact dSN.out _) | (with_reducible exact dRN.out _) | (with_reducible exact dSF.out _) | (with_reducible exact dRF.out _) | (with_reducible exact dSD.out _) | (with_reducible exact dRD.out _) | (with_reducible exact dSK.out _) | (with_reducible exact dRK.out _) | (with_reducible exact dSE.out _) | (with_reducible exact dRE.out _) | (with_reducible exact dKB.out _) | (with_reducible exact dWK.out _)))
      exact wpQuiet_nil rfl
    intro gq w9 hg _
    have T9 := Lib.hid (T6.out.bel hg)
    clear hg
    simp only [Spread]
    go_wp2_with fail
    go_ret
    exact ⟨ret_bool rfl, T9.out.1.2.2⟩
end Go.Proofs.Ytcegocmndfoflaa
