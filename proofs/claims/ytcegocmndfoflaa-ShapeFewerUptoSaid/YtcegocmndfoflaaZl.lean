/- ShapeFewer: the Go text returns true for any block, base and numbers. No conditions but sizes. -/
import Derived.Test.YtcegocmndfoflaaZh
import Derived.Test.YtcegocmndfoflaaHm
import Derived.Test.YtcegocmndfoflaaHz
import Derived.Test.YtcegocmndfoflaaLb
namespace Go.Proofs.Ytcegocmndfoflaa
open Go.RowKit
set_option linter.unusedVariables false

theorem GAt.capp {α : Type} {sz : Nat} {C : α → List Value → Prop} {w : World} {l : List α} {a : Option Addr} {n cap : Nat} (h : GAt sz C w l (.slice a n cap)) : l.length ≤ cap ∧ (a = none → l.length = 0 ∧ cap = 0) := by
  generalize hv : Value.slice a n cap = v at h
  cases h with
  | nl => cases hv; exact ⟨Nat.le_refl _, fun _ => ⟨rfl, rfl⟩⟩
  | em a' cap' => cases hv; exact ⟨Nat.zero_le _, fun h => by cases h⟩
  | row l b off cap' cs h0 h1 h2 h3 h4 => cases hv; exact ⟨h1, fun h => by cases h⟩
theorem GAt.takes {α : Type} {sz : Nat} {C : α → List Value → Prop} {w : World} {l : List α} {a : Option Addr} {cap : Nat} (h : GAt sz C w l (.slice a l.length cap)) {k : Nat} (hk : k ≤ l.length) : GAt sz C w (l.take k) (.slice a k cap) := by
  obtain ⟨_, hn⟩ := h.capp
  cases a with
  | none =>
    obtain ⟨h0, rfl⟩ := hn rfl
    have : l = [] := List.eq_nil_of_length_eq_zero h0
    subst this
    have : k = 0 := by simpa using hk
    subst this
    exact .nl
  | some ad => exact h.take hk
theorem consN_take (l : List ConT) : ∀ k, consN (l.take k) ≤ consN l := by
  induction l with
  | nil => intro k; simp
  | cons x l ih =>
    intro k
    cases k with
    | zero => simp [consN]
    | succ k => have := ih k; simp only [List.take_succ_cons, consN]; omega
theorem cut_n (b : BlkT) (k : Nat) : blkN (cutB b k) ≤ blkN b := by
  have := consN_take b.cons k
  have e : blkN (cutB b k) = sortsN b.sorts + consN (b.cons.take k) + 1 := rfl
  have e2 : blkN b = sortsN b.sorts + consN b.cons + 1 := rfl
  omega
theorem cut_fits {b : BlkT} (h : b.fits) (k : Nat) : (cutB b k).fits := ⟨h.1, fun c hc => h.2.1 c (List.mem_of_mem_take hc), h.2.2⟩
set_option maxRecDepth 100000 in
set_option maxHeartbeats 4000000 in
theorem lfewer_any (b : BlkT) (hs : blkN b ≤ 1048576) (hF : b.fits) (base n k : Int) (w : World) (vs vc : Value) (hA : BAt w b vs vc) :
    Calls Try.prog 6 #[.agg #[vs, vc, .int .i64 b.elim], .int .i64 base, .int .i64 n, .int .i64 k] w fun e w' => e = .returned (.bool true) ∧ Below w.heap.size w w' := by
  obtain ⟨ps, cs, pc, cc, rfl, rfl⟩ := hA.shape
  have hls := sortsN_len b.sorts
  have hlc := consN_len b.cons
  have hbn : blkN b = sortsN b.sorts + consN b.cons + 1 := rfl
  have O0 := Lib.hid (oneb_start w b _ _ hA)
  have HV := Lib.hid (heavyblk_any b hs _ _ _ O0.out.2.1)
  have HWK := Lib.hid (fun w => wakes7_any w)
  have RS := Lib.hid (fun W hA => rshape_any b hs hF W (.slice ps b.sorts.length cs) (.slice pc b.cons.length cc) hA)
  clear hA
  cases hh : heavyBlk b with
  | true =>
    rw [hh] at HV
    clear hh
    go_enter Try.func6, Try.ntmps6
    go_wp2_with fail
    refine HV.out.mono ?_
    rintro e w1 ⟨rfl, hb⟩
    have O1 := Lib.hid (O0.out.bel hb)
    clear hb
    go_wp2_with fail
    go_ret
    exact ⟨ret_bool rfl, O1.out.2.2⟩
  | false =>
  rw [hh] at HV
  clear hh
  cases hsh : shapeB b with
  | false =>
    rw [hsh] at RS
    clear hsh
    go_enter Try.func6, Try.ntmps6
    go_wp2_with fail
    refine HV.out.mono ?_
    rintro e w1 ⟨rfl, hb⟩
    have O1 := Lib.hid (O0.out.bel hb)
    clear hb
    obtain ⟨x0, x1, x2⟩ := O1.out.cells
    go_wp2_with fail
    refine (RS.out _ O1.out.2.1).mono ?_
    rintro e w2 ⟨rfl, hb⟩
    have O2 := Lib.hid (O1.out.bel hb)
    clear hb x0 x1 x2
    go_wp2_with fail
    go_ret
    exact ⟨ret_bool rfl, O2.out.2.2⟩
  | true =>
  rw [hsh] at RS
  have HSH := Lib.hid hsh
  obtain ⟨s1, s2, s3, s4, s5⟩ := shape_parts hsh
  obtain ⟨n1, n4⟩ := inZ_iff.1 s1
  have hnn : nsB b = (b.sorts.length : Int) := rfl
  have hr1 := mod_range base 1000 (by omega) (by omega)
  have hr2 := mod_range n ((b.cons.length : Int) + 1) (by omega) (by omega)
  have hr3 := mod_range k (b.sorts.length : Int) (by omega) (by omega)
  have hq1 : IntKind.u64.wrap ((b.cons.length : Int) + 1) = (b.cons.length : Int) + 1 := by rw [IntKind.wrap_u64]; omega
  have hq2 : IntKind.u64.wrap (b.sorts.length : Int) = (b.sorts.length : Int) := by rw [IntKind.wrap_u64]; omega
  have hq3 : IntKind.i64.wrap ((b.cons.length : Int) + 1) = (b.cons.length : Int) + 1 := IntWalk.i64_in _ (by omega)
  have hq4 : (((b.cons.length : Int) + 1) == 0) = false := by rw [beq_eq_false_iff_ne]; omega
  have hq5 : ((b.sorts.length : Int) == 0) = false := by rw [beq_eq_false_iff_ne]; omega
  have hq6 : (((b.cons.length : Int) + 1) = 0) = False := eq_false (by omega)
  have hq7 : ((b.sorts.length : Int) = 0) = False := eq_false (by omega)
  have hb4 : b.sorts.length ≤ 4 := by omega
  clear hsh s1 s3 s4 s5 n1 n4 hls hlc hbn
  go_enter Try.func6, Try.ntmps6
  go_wp2_with fail
  refine HV.out.mono ?_
  rintro e w1 ⟨rfl, hb⟩
  have O1 := Lib.hid (O0.out.bel hb)
  clear hb O0 HV
  obtain ⟨x0, x1, x2⟩ := O1.out.cells
  go_wp2_with fail
  refine (RS.out _ O1.out.2.1).mono ?_
  rintro e w2 ⟨rfl, hb⟩
  have O2 := Lib.hid (O1.out.bel hb)
  clear hb x0 x1 x2 O1
  obtain ⟨x0, x1, x2⟩ := O2.out.cells
  go_upto_region 6 with (fail)
  generalize wrap64 ((IntKind.u64.wrap base).tmod 1000) = bb at *
  generalize wrap64 ((IntKind.u64.wrap n).tmod ((b.cons.length : Int) + 1)) = zz at *
  generalize wrap64 ((IntKind.u64.wrap k).tmod (b.sorts.length : Int)) = kk at *
  obtain ⟨b0, b1⟩ := hr1
  obtain ⟨k0, k1⟩ := hr3
  obtain ⟨N, rfl⟩ : ∃ N : Nat, zz = (N : Int) := ⟨zz.toNat, by omega⟩
  have hN : N ≤ b.cons.length := by omega
  clear hr2 hq1 hq2 hq3 hq4 hq5 hq6 hq7
  go_wp2_with fail
  refine (twinblk_any b hs _ _ _ O2.out.2.1).mono ?_
  rintro e w3 ⟨a1, d1, a2, d2, rfl, hT, hb⟩
  have O3 := Lib.hid (O2.out.bel hb)
  have hTA := hT.at
  obtain ⟨hcap, hnone⟩ := hTA.2.capp
  have hcut : BAt w3 (cutB b N) (.slice a1 b.sorts.length d1) (.slice a2 N d2) := ⟨hTA.1, hTA.2.takes hN⟩
  obtain ⟨w4, hw4⟩ : ∃ w4, w4 = w3.alloc (.cells #[.slice a1 b.sorts.length d1, .slice a2 N d2, .int .i64 b.elim] 25) := ⟨_, rfl⟩
  have h4 : OneB w3 w3.heap.size (cutB b N) (.slice a1 b.sorts.length d1) (.slice a2 N d2) w4 := by rw [hw4]; exact oneb_start w3 (cutB b N) _ _ hcut
  have h5 := O3.out.bel h4.2.2
  have HC := Lib.hid h4
  have HB := Lib.hid h5
  have HW := Lib.hid hw4
  have hNd : (N : Int) ≤ (d2 : Int) := by omega
  have hN0 : (0 : Int) ≤ (N : Int) := by omega
  obtain ⟨cn1, cn2, cn3, cn4⟩ := cut_numbers b N hN bb kk
  have cn4 := cn4 b0 (by omega) k0 (by omega)
  have csh := cut_shape b N HSH.out
  have cbn := Nat.le_trans (cut_n b N) hs
  have SC : ∀ W, BAt W (cutB b N) (.slice a1 b.sorts.length d1) (.slice a2 N d2) → Calls Try.prog 13 #[.agg #[.slice a1 b.sorts.length d1, .slice a2 N d2, .int .i64 b.elim]] W fun e w' => e = .returned (.int .i64 (if shapeB (cutB b N) then 0 else 12)) ∧ Below W.heap.size W w' := fun W hA => scheck_any (cutB b N) cbn (cut_fits hF N) W _ _ hA
  have SN : ∀ W, BAt W (cutB b N) (.slice a1 b.sorts.length d1) (.slice a2 N d2) → Calls Try.prog 14 #[.agg #[.slice a1 b.sorts.length d1, .slice a2 N d2, .int .i64 b.elim]] W fun e w' => e = .returned (.int .i64 (countB (cutB b N))) ∧ Below W.heap.size W w' := fun W hA => scount7_any (cutB b N) cbn W _ _ hA
  have SF : ∀ W, BAt W (cutB b N) (.slice a1 b.sorts.length d1) (.slice a2 N d2) → Calls Try.prog 16 #[.agg #[.slice a1 b.sorts.length d1, .slice a2 N d2, .int .i64 b.elim], .int .i64 bb, .int .i64 kk] W fun e w' => e = .returned (.int .i64 (formerB (cutB b N) bb kk)) ∧ Below W.heap.size W w' := fun W hA => sformer_any (cutB b N) cbn bb kk W _ _ hA
  have SD : ∀ W, BAt W (cutB b N) (.slice a1 b.sorts.length d1) (.slice a2 N d2) → Calls Try.prog 18 #[.agg #[.slice a1 b.sorts.length d1, .slice a2 N d2, .int .i64 b.elim], .int .i64 bb, .int .i64 kk] W fun e w' => e = .returned (.int .i64 (decoderB (cutB b N) bb kk)) ∧ Below W.heap.size W w' := fun W hA => sdecoder_any (cutB b N) cbn bb kk W _ _ hA
  have SE : ∀ W, BAt W (cutB b N) (.slice a1 b.sorts.length d1) (.slice a2 N d2) → Calls Try.prog 22 #[.agg #[.slice a1 b.sorts.length d1, .slice a2 N d2, .int .i64 b.elim], .int .i64 bb, .int .i64 kk] W fun e w' => e = .returned (.int .i64 (elimB (cutB b N) bb kk)) ∧ Below W.heap.size W w' := fun W hA => selim_any (cutB b N) cbn bb kk W _ _ hA
  have BN := fun W hA => scount7_any b hs W (.slice ps b.sorts.length cs) (.slice pc b.cons.length cc) hA
  have BF := fun W hA => sformer_any b hs bb kk W (.slice ps b.sorts.length cs) (.slice pc b.cons.length cc) hA
  have BD := fun W hA => sdecoder_any b hs bb kk W (.slice ps b.sorts.length cs) (.slice pc b.cons.length cc) hA
  have BE := fun W hA => selim_any b hs bb kk W (.slice ps b.sorts.length cs) (.slice pc b.cons.length cc) hA
  rw [csh] at SC
  simp only [if_true] at SC
  rw [cn1] at SN
  rw [cn2] at SF
  rw [cn3] at SD
  rw [cn4] at SE
  have hdr := decsN_range b (nsB b)
  have hcb : countB b = 2 * nsB b + decsN b (nsB b) + ncB b := rfl
  have hcn : ncB b = (b.cons.length : Int) := rfl
  have hee : elimB b bb kk = bb + (nsB b + decsN b (nsB b) + ncB b + kk) := by rw [elim_eq b b0 (by omega), if_pos (inZ_t k0 (by omega))]
  have hcr : 0 ≤ countB b ∧ countB b ≤ 1000 := by omega
  have her : 0 ≤ elimB b bb kk ∧ elimB b bb kk ≤ 3000 := by omega
  clear hdr hcb hcn hee csh cn1 cn2 cn3 cn4 cbn
  generalize countB b = CB at *
  generalize elimB b bb kk = EE at *
  generalize formerB b bb kk = FF at *
  generalize decoderB b bb kk = DD at *
  have hw1 : IntKind.i64.wrap (CB - (b.cons.length : Int)) = CB - (b.cons.length : Int) := IntWalk.i64_in _ (by omega)
  have hw2 : IntKind.i64.wrap (CB - (b.cons.length : Int) + (N : Int)) = CB - (b.cons.length : Int) + (N : Int) := IntWalk.i64_in _ (by omega)
  have hw3 : IntKind.i64.wrap (EE - (b.cons.length : Int)) = EE - (b.cons.length : Int) := IntWalk.i64_in _ (by omega)
  have hw4' : IntKind.i64.wrap (EE - (b.cons.length : Int) + (N : Int)) = EE - (b.cons.length : Int) + (N : Int) := IntWalk.i64_in _ (by omega)
  have SC := Lib.hid SC
  have SN := Lib.hid SN
  have SF := Lib.hid SF
  have SD := Lib.hid SD
  have SE := Lib.hid SE
  have BN := Lib.hid BN
  have BF := Lib.hid BF
  have BD := Lib.hid BD
  have BE := Lib.hid BE
  clear x0 x1 x2 hb hT hTA h4 h5 hw4 hcut O2 O3 hcr her hnn b0 b1 k0 k1 s2 hb4 hs hF RS HSH
  cases a2 with
  | none =>
    clear hnone
    go_upto_region 8 with (fail)
    rw [← HW.out]
    clear HW
    refine wp_region_rel (by kernel_rfl) (by kernel_rfl) (by kernel_rfl) ?_
    apply RelWalk.rest
    · kernel_rfl
    · intro X _ W hW hcl
      obtain ⟨x0, x1, x2⟩ := HB.out.cells
      obtain ⟨y0, y1, y2⟩ := HC.out.cells
      rw [show (cutB b N).elim = b.elim from rfl] at y2
      have rx0 := fun q => gcell (hW q) x0
      have rx1 := fun q => gcell (hW q) x1
      have rx2 := fun q => gcell (hW q) x2
      have ry0 := fun q => gcell (hW q) y0
      have ry1 := fun q => gcell (hW q) y1
      have ry2 := fun q => gcell (hW q) y2
      clear x0 x1 x2 y0 y1 y2
      have hx := fun q => HB.out.2.1.bel (hW q)
      have hy := fun q => HC.out.2.1.bel (hW q)
      have dSC := Lib.hid (fun q => into hcl (SC.out (W q) (hy q)))
      have dSN := Lib.hid (fun q => into hcl (SN.out (W q) (hy q)))
      have dSF := Lib.hid (fun q => into hcl (SF.out (W q) (hy q)))
      have dSD := Lib.hid (fun q => into hcl (SD.out (W q) (hy q)))
      have dSE := Lib.hid (fun q => into hcl (SE.out (W q) (hy q)))
      have dBN := Lib.hid (fun q => into hcl (BN.out (W q) (hx q)))
      have dBF := Lib.hid (fun q => into hcl (BF.out (W q) (hx q)))
      have dBD := Lib.hid (fun q => into hcl (BD.out (W q) (hx q)))
      have dBE := Lib.hid (fun q => into hcl (BE.out (W q) (hx q)))
      have dWK := Lib.hid (fun q => into hcl (HWK.out (W q)))
      repeat (go_big_quiet_step (first | (with_reducible exact dSC.out _) | (with_reducible exact dSN.out _) | (with_reducible exact dSF.out _) | (with_reducible exact dSD.out _) | (with_reducible exact dSE.out _) | (with_reducible exact dBN.out _) | (with_reducible exact dBF.out _) | (with_reducible exact dBD.out _) | (with_reducible exact dBE.out _) | (with_reducible exact dWK.out _)))
      exact wpQuiet_nil rfl
    intro gq w9 hg _
    have T9 := Lib.hid (HB.out.bel hg)
    clear hg
    simp only [Spread]
    go_wp2_with fail
    go_ret
    exact ⟨ret_bool rfl, T9.out.2.2⟩
  | some ad =>
    clear hnone
    go_upto_region 8 with (fail)
    rw [← HW.out]
    clear HW
    refine wp_region_rel (by kernel_rfl) (by kernel_rfl) (by kernel_rfl) ?_
    apply RelWalk.rest
    · kernel_rfl
    · intro X _ W hW hcl
      obtain ⟨x0, x1, x2⟩ := HB.out.cells
      obtain ⟨y0, y1, y2⟩ := HC.out.cells
      rw [show (cutB b N).elim = b.elim from rfl] at y2
      have rx0 := fun q => gcell (hW q) x0
      have rx1 := fun q => gcell (hW q) x1
      have rx2 := fun q => gcell (hW q) x2
      have ry0 := fun q => gcell (hW q) y0
      have ry1 := fun q => gcell (hW q) y1
      have ry2 := fun q => gcell (hW q) y2
      clear x0 x1 x2 y0 y1 y2
      have hx := fun q => HB.out.2.1.bel (hW q)
      have hy := fun q => HC.out.2.1.bel (hW q)
      have dSC := Lib.hid (fun q => into hcl (SC.out (W q) (hy q)))
      have dSN := Lib.hid (fun q => into hcl (SN.out (W q) (hy q)))
      have dSF := Lib.hid (fun q => into hcl (SF.out (W q) (hy q)))
      have dSD := Lib.hid (fun q => into hcl (SD.out (W q) (hy q)))
      have dSE := Lib.hid (fun q => into hcl (SE.out (W q) (hy q)))
      have dBN := Lib.hid (fun q => into hcl (BN.out (W q) (hx q)))
      have dBF := Lib.hid (fun q => into hcl (BF.out (W q) (hx q)))
      have dBD := Lib.hid (fun q => into hcl (BD.out (W q) (hx q)))
      have dBE := Lib.hid (fun q => into hcl (BE.out (W q) (hx q)))
      have dWK := Lib.hid (fun q => into hcl (HWK.out (W q)))
      repeat (go_big_quiet_step (first | (with_reducible exact dSC.out _) | (with_reducible exact dSN.out _) | (with_reducible exact dSF.out _) | (with_reducible exact dSD.out _) | (with_reducible exact dSE.out _) | (with_reducible exact dBN.out _) | (with_reducible exact dBF.out _) | (with_reducible exact dBD.out _) | (with_reducible exact dBE.out _) | (with_reducible exact dWK.out _)))
      exact wpQuiet_nil rfl
    intro gq w9 hg _
    have T9 := Lib.hid (HB.out.bel hg)
    clear hg
    simp only [Spread]
    go_wp2_with fail
    go_ret
    exact ⟨ret_bool rfl, T9.out.2.2⟩
end Go.Proofs.Ytcegocmndfoflaa
