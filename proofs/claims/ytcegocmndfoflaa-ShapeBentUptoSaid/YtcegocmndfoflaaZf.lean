/- The program's numbers of a block's constants. No conditions but sizes. -/
import Derived.Test.YtcegocmndfoflaaZa
namespace Go.Proofs.Ytcegocmndfoflaa
open Go.RowKit
set_option linter.unusedVariables false

set_option maxRecDepth 100000 in
set_option maxHeartbeats 2000000 in
theorem sfirstcon_any (b : BlkT) (hs : blkN b ≤ 1048576) (w : World) (vs vc : Value) (hA : BAt w b vs vc) : Calls Try.prog 40 #[.agg #[vs, vc, .int .i64 b.elim]] w fun e w' => e = .returned (.int .i64 (nsB b + decsN b (nsB b))) ∧ Below w.heap.size w w' := by
  obtain ⟨ps, cs, pc, cc, rfl, rfl⟩ := hA.shape
  have hls := sortsN_len b.sorts
  have hlc := consN_len b.cons
  have hbn : blkN b = sortsN b.sorts + consN b.cons + 1 := rfl
  have hnn : nsB b = (b.sorts.length : Int) := rfl
  have hcn : ncB b = (b.cons.length : Int) := rfl
  have hsl : b.sorts.length ≤ 1048576 := by omega
  have hcl : b.cons.length ≤ 1048576 := by omega
  have hdr := decsN_range b (nsB b)
  have O0 := Lib.hid (oneb_start w b _ _ hA)
  clear hA hls hlc hbn
  have RD := Lib.hid (fun W hA => sdecoders_any b.sorts hsl W (.slice ps b.sorts.length cs) hA)
  rw [decsL_full] at RD
  obtain ⟨D, hD⟩ : ∃ D, D = decsN b (nsB b) := ⟨_, rfl⟩
  rw [← hD] at RD hdr ⊢
  have hw : IntKind.i64.wrap ((b.sorts.length : Int) + D) = (b.sorts.length : Int) + D := IntWalk.i64_in _ (by omega)
  have HV := Lib.hid (show (b.sorts.length : Int) + D = nsB b + D from rfl)
  clear hD
  go_enter Try.func40, Try.ntmps40
  go_wp2_with fail
  refine wp_region_rel (by kernel_rfl) (by kernel_rfl) (by kernel_rfl) ?_
  apply RelWalk.rest
  · kernel_rfl
  · intro X _ W hW hcl
    obtain ⟨z0, z1, z2⟩ := O0.out.cells
    have rP0 := fun q => gcell (hW q) z0
    clear z0 z1 z2
    have d0 := Lib.hid (fun q => into hcl (RD.out (W q) (GAt.bel (hW q) (sortC_bel (hW q)) O0.out.2.1.1)))
    repeat (go_big_quiet_step (first | (with_reducible exact d0.out _)))
    exact wpQuiet_nil rfl
  intro gq w5 hg _
  have O9 := Lib.hid (O0.out.bel hg)
  clear hg
  simp only [Spread]
  go_wp2_with fail
  go_ret
  exact ⟨ret_int HV.out, O9.out.2.2⟩
set_option maxRecDepth 100000 in
set_option maxHeartbeats 2000000 in
theorem sfirstelim_any (b : BlkT) (hs : blkN b ≤ 1048576) (w : World) (vs vc : Value) (hA : BAt w b vs vc) : Calls Try.prog 42 #[.agg #[vs, vc, .int .i64 b.elim]] w fun e w' => e = .returned (.int .i64 (nsB b + decsN b (nsB b) + ncB b)) ∧ Below w.heap.size w w' := by
  obtain ⟨ps, cs, pc, cc, rfl, rfl⟩ := hA.shape
  have hls := sortsN_len b.sorts
  have hlc := consN_len b.cons
  have hbn : blkN b = sortsN b.sorts + consN b.cons + 1 := rfl
  have hnn : nsB b = (b.sorts.length : Int) := rfl
  have hcn : ncB b = (b.cons.length : Int) := rfl
  have hsl : b.sorts.length ≤ 1048576 := by omega
  have hcl : b.cons.length ≤ 1048576 := by omega
  have hdr := decsN_range b (nsB b)
  have O0 := Lib.hid (oneb_start w b _ _ hA)
  clear hA hls hlc hbn
  have RD := Lib.hid (fun W hA => sfirstcon_any b hs W (.slice ps b.sorts.length cs) (.slice pc b.cons.length cc) hA)
  obtain ⟨D, hD⟩ : ∃ D, D = decsN b (nsB b) := ⟨_, rfl⟩
  rw [← hD] at RD hdr ⊢
  rw [hnn] at RD
  have hw : IntKind.i64.wrap ((b.sorts.length : Int) + D + (b.cons.length : Int)) = (b.sorts.length : Int) + D + (b.cons.length : Int) := IntWalk.i64_in _ (by omega)
  have HV := Lib.hid (show (b.sorts.length : Int) + D + (b.cons.length : Int) = nsB b + D + ncB b from rfl)
  clear hD
  go_enter Try.func42, Try.ntmps42
  go_wp2_with fail
  refine wp_region_rel (by kernel_rfl) (by kernel_rfl) (by kernel_rfl) ?_
  apply RelWalk.rest
  · kernel_rfl
  · intro X _ W hW hcl
    obtain ⟨z0, z1, z2⟩ := O0.out.cells
    have rP0 := fun q => gcell (hW q) z0
    have rP1 := fun q => gcell (hW q) z1
    have rP2 := fun q => gcell (hW q) z2
    clear z0 z1 z2
    have d0 := Lib.hid (fun q => into hcl (RD.out (W q) (O0.out.2.1.bel (hW q))))
    repeat (go_big_quiet_step (first | (with_reducible exact d0.out _)))
    exact wpQuiet_nil rfl
  intro gq w5 hg _
  have O9 := Lib.hid (O0.out.bel hg)
  clear hg
  simp only [Spread]
  go_wp2_with fail
  go_ret
  exact ⟨ret_int HV.out, O9.out.2.2⟩
set_option maxRecDepth 100000 in
set_option maxHeartbeats 2000000 in
theorem scount7_any (b : BlkT) (hs : blkN b ≤ 1048576) (w : World) (vs vc : Value) (hA : BAt w b vs vc) : Calls Try.prog 14 #[.agg #[vs, vc, .int .i64 b.elim]] w fun e w' => e = .returned (.int .i64 (countB b)) ∧ Below w.heap.size w w' := by
  obtain ⟨ps, cs, pc, cc, rfl, rfl⟩ := hA.shape
  have hls := sortsN_len b.sorts
  have hlc := consN_len b.cons
  have hbn : blkN b = sortsN b.sorts + consN b.cons + 1 := rfl
  have hnn : nsB b = (b.sorts.length : Int) := rfl
  have hcn : ncB b = (b.cons.length : Int) := rfl
  have hsl : b.sorts.length ≤ 1048576 := by omega
  have hcl : b.cons.length ≤ 1048576 := by omega
  have hdr := decsN_range b (nsB b)
  have O0 := Lib.hid (oneb_start w b _ _ hA)
  clear hA hls hlc hbn
  have RD := Lib.hid (fun W hA => sfirstelim_any b hs W (.slice ps b.sorts.length cs) (.slice pc b.cons.length cc) hA)
  have hcb : countB b = 2 * nsB b + decsN b (nsB b) + ncB b := rfl
  obtain ⟨D, hD⟩ : ∃ D, D = decsN b (nsB b) := ⟨_, rfl⟩
  rw [← hD] at RD hdr hcb
  rw [hnn, hcn] at RD
  have hw : IntKind.i64.wrap ((b.sorts.length : Int) + D + (b.cons.length : Int) + (b.sorts.length : Int)) = (b.sorts.length : Int) + D + (b.cons.length : Int) + (b.sorts.length : Int) := IntWalk.i64_in _ (by omega)
  have HV := Lib.hid (show (b.sorts.length : Int) + D + (b.cons.length : Int) + (b.sorts.length : Int) = countB b by omega)
  clear hD hcb
  go_enter Try.func14, Try.ntmps14
  go_wp2_with fail
  refine wp_region_rel (by kernel_rfl) (by kernel_rfl) (by kernel_rfl) ?_
  apply RelWalk.rest
  · kernel_rfl
  · intro X _ W hW hcl
    obtain ⟨z0, z1, z2⟩ := O0.out.cells
    have rP0 := fun q => gcell (hW q) z0
    have rP1 := fun q => gcell (hW q) z1
    have rP2 := fun q => gcell (hW q) z2
    clear z0 z1 z2
    have d0 := Lib.hid (fun q => into hcl (RD.out (W q) (O0.out.2.1.bel (hW q))))
    repeat (go_big_quiet_step (first | (with_reducible exact d0.out _)))
    exact wpQuiet_nil rfl
  intro gq w5 hg _
  have O9 := Lib.hid (O0.out.bel hg)
  clear hg
  simp only [Spread]
  go_wp2_with fail
  go_ret
  exact ⟨ret_int HV.out, O9.out.2.2⟩
set_option maxRecDepth 100000 in
set_option maxHeartbeats 2000000 in
theorem sformer_any (b : BlkT) (hs : blkN b ≤ 1048576) (base k : Int) (w : World) (vs vc : Value) (hA : BAt w b vs vc) : Calls Try.prog 16 #[.agg #[vs, vc, .int .i64 b.elim], .int .i64 base, .int .i64 k] w fun e w' => e = .returned (.int .i64 (formerB b base k)) ∧ Below w.heap.size w w' := by
  obtain ⟨ps, cs, pc, cc, rfl, rfl⟩ := hA.shape
  have hls := sortsN_len b.sorts
  have hlc := consN_len b.cons
  have hbn : blkN b = sortsN b.sorts + consN b.cons + 1 := rfl
  have hnn : nsB b = (b.sorts.length : Int) := rfl
  have hcn : ncB b = (b.cons.length : Int) := rfl
  have hsl : b.sorts.length ≤ 1048576 := by omega
  have hcl : b.cons.length ≤ 1048576 := by omega
  have hdr := decsN_range b (nsB b)
  have O0 := Lib.hid (oneb_start w b _ _ hA)
  clear hA hls hlc hbn
  have RB := Lib.hid (fun W => sbase_any base W)
  have RI := Lib.hid (fun W => s7index_any k (b.sorts.length : Int) W)
  cases h1 : inZ base 0 65535 with
  | false =>
    rw [h1] at RB
    have HE : Hid (formerB b base k = -1) := by unfold Hid; rw [formerB, h1]; rfl
    clear h1
    go_enter Try.func16, Try.ntmps16
    go_wp2_with fail
    refine (RB.out _).mono ?_
    rintro e w1 ⟨rfl, rfl⟩
    go_wp2_with fail
    go_ret
    exact ⟨ret_int HE.out.symm, O0.out.2.2⟩
  | true =>
  rw [h1] at RB
  cases h2 : inZ k 0 ((b.sorts.length : Int) - 1) with
  | false =>
    rw [h2] at RI
    have HE : Hid (formerB b base k = -1) := by unfold Hid; rw [formerB, h1, show nsB b = (b.sorts.length : Int) from rfl, h2]; rfl
    clear h1 h2
    go_enter Try.func16, Try.ntmps16
    go_wp2_with fail
    refine (RB.out _).mono ?_
    rintro e w1 ⟨rfl, rfl⟩
    go_wp2_with fail
    refine (RI.out _).mono ?_
    rintro e w1 ⟨rfl, rfl⟩
    go_wp2_with fail
    go_ret
    exact ⟨ret_int HE.out.symm, O0.out.2.2⟩
  | true =>
  rw [h2] at RI
  obtain ⟨hb0, hb1⟩ := inZ_iff.1 h1
  obtain ⟨hk0, hk1⟩ := inZ_iff.1 h2
  have hw : IntKind.i64.wrap (base + k) = base + k := IntWalk.i64_in _ (by omega)
  have HE : Hid (formerB b base k = base + k) := by unfold Hid; rw [formerB, h1, hnn, h2]; rfl
  clear h1 h2
  go_enter Try.func16, Try.ntmps16
  go_wp2_with fail
  refine (RB.out _).mono ?_
  rintro e w1 ⟨rfl, rfl⟩
  go_wp2_with fail
  refine (RI.out _).mono ?_
  rintro e w1 ⟨rfl, rfl⟩
  go_wp2_with fail
  go_ret
  exact ⟨ret_int HE.out.symm, O0.out.2.2⟩
set_option maxRecDepth 100000 in
set_option maxHeartbeats 2000000 in
theorem sctor_any (b : BlkT) (hs : blkN b ≤ 1048576) (base k : Int) (w : World) (vs vc : Value) (hA : BAt w b vs vc) : Calls Try.prog 20 #[.agg #[vs, vc, .int .i64 b.elim], .int .i64 base, .int .i64 k] w fun e w' => e = .returned (.int .i64 (ctorB b base k)) ∧ Below w.heap.size w w' := by
  obtain ⟨ps, cs, pc, cc, rfl, rfl⟩ := hA.shape
  have hls := sortsN_len b.sorts
  have hlc := consN_len b.cons
  have hbn : blkN b = sortsN b.sorts + consN b.cons + 1 := rfl
  have hnn : nsB b = (b.sorts.length : Int) := rfl
  have hcn : ncB b = (b.cons.length : Int) := rfl
  have hsl : b.sorts.length ≤ 1048576 := by omega
  have hcl : b.cons.length ≤ 1048576 := by omega
  have hdr := decsN_range b (nsB b)
  have O0 := Lib.hid (oneb_start w b _ _ hA)
  clear hA hls hlc hbn
  have RB := Lib.hid (fun W => sbase_any base W)
  have RI := Lib.hid (fun W => s7index_any k (b.cons.length : Int) W)
  cases h1 : inZ base 0 65535 with
  | false =>
    rw [h1] at RB
    have HE : Hid (ctorB b base k = -1) := by unfold Hid; rw [ctorB, h1]; rfl
    clear h1
    go_enter Try.func20, Try.ntmps20
    go_wp2_with fail
    refine (RB.out _).mono ?_
    rintro e w1 ⟨rfl, rfl⟩
    go_wp2_with fail
    go_ret
    exact ⟨ret_int HE.out.symm, O0.out.2.2⟩
  | true =>
  rw [h1] at RB
  cases h2 : inZ k 0 ((b.cons.length : Int) - 1) with
  | false =>
    rw [h2] at RI
    have HE : Hid (ctorB b base k = -1) := by unfold Hid; rw [ctorB, h1, show ncB b = (b.cons.length : Int) from rfl, h2]; rfl
    clear h1 h2
    go_enter Try.func20, Try.ntmps20
    go_wp2_with fail
    refine (RB.out _).mono ?_
    rintro e w1 ⟨rfl, rfl⟩
    go_wp2_with fail
    refine (RI.out _).mono ?_
    rintro e w1 ⟨rfl, rfl⟩
    go_wp2_with fail
    go_ret
    exact ⟨ret_int HE.out.symm, O0.out.2.2⟩
  | true =>
  rw [h2] at RI
  obtain ⟨hb0, hb1⟩ := inZ_iff.1 h1
  obtain ⟨hk0, hk1⟩ := inZ_iff.1 h2
  have RD := Lib.hid (fun W hA => sfirstcon_any b hs W (.slice ps b.sorts.length cs) (.slice pc b.cons.length cc) hA)
  have HE : Hid (ctorB b base k = base + nsB b + decsN b (nsB b) + k) := by unfold Hid; rw [ctorB, h1, hcn, h2]; rfl
  obtain ⟨D, hD⟩ : ∃ D, D = nsB b + decsN b (nsB b) := ⟨_, rfl⟩
  rw [← hD] at RD
  have hw1 : IntKind.i64.wrap (base + D) = base + D := IntWalk.i64_in _ (by omega)
  have hw2 : IntKind.i64.wrap (base + D + k) = base + D + k := IntWalk.i64_in _ (by omega)
  have HV := Lib.hid (show base + D + k = ctorB b base k by rw [HE.out]; omega)
  have R1 := Lib.hid (RD.out _ O0.out.2.1)
  clear h1 h2 hD
  go_enter Try.func20, Try.ntmps20
  go_wp2_with fail
  refine (RB.out _).mono ?_
  rintro e w1 ⟨rfl, rfl⟩
  go_wp2_with fail
  refine (RI.out _).mono ?_
  rintro e w1 ⟨rfl, rfl⟩
  go_wp2_with fail
  refine R1.out.mono ?_
  rintro e w2 ⟨rfl, hb2⟩
  have O2 := Lib.hid (O0.out.bel hb2)
  clear hb2
  go_wp2_with fail
  go_ret
  exact ⟨ret_int HV.out, O2.out.2.2⟩
set_option maxRecDepth 100000 in
set_option maxHeartbeats 2000000 in
theorem selim_any (b : BlkT) (hs : blkN b ≤ 1048576) (base k : Int) (w : World) (vs vc : Value) (hA : BAt w b vs vc) : Calls Try.prog 22 #[.agg #[vs, vc, .int .i64 b.elim], .int .i64 base, .int .i64 k] w fun e w' => e = .returned (.int .i64 (elimB b base k)) ∧ Below w.heap.size w w' := by
  obtain ⟨ps, cs, pc, cc, rfl, rfl⟩ := hA.shape
  have hls := sortsN_len b.sorts
  have hlc := consN_len b.cons
  have hbn : blkN b = sortsN b.sorts + consN b.cons + 1 := rfl
  have hnn : nsB b = (b.sorts.length : Int) := rfl
  have hcn : ncB b = (b.cons.length : Int) := rfl
  have hsl : b.sorts.length ≤ 1048576 := by omega
  have hcl : b.cons.length ≤ 1048576 := by omega
  have hdr := decsN_range b (nsB b)
  have O0 := Lib.hid (oneb_start w b _ _ hA)
  clear hA hls hlc hbn
  have RB := Lib.hid (fun W => sbase_any base W)
  have RI := Lib.hid (fun W => s7index_any k (b.sorts.length : Int) W)
  cases h1 : inZ base 0 65535 with
  | false =>
    rw [h1] at RB
    have HE : Hid (elimB b base k = -1) := by unfold Hid; rw [elimB, h1]; rfl
    clear h1
    go_enter Try.func22, Try.ntmps22
    go_wp2_with fail
    refine (RB.out _).mono ?_
    rintro e w1 ⟨rfl, rfl⟩
    go_wp2_with fail
    go_ret
    exact ⟨ret_int HE.out.symm, O0.out.2.2⟩
  | true =>
  rw [h1] at RB
  cases h2 : inZ k 0 ((b.sorts.length : Int) - 1) with
  | false =>
    rw [h2] at RI
    have HE : Hid (elimB b base k = -1) := by unfold Hid; rw [elimB, h1, show nsB b = (b.sorts.length : Int) from rfl, h2]; rfl
    clear h1 h2
    go_enter Try.func22, Try.ntmps22
    go_wp2_with fail
    refine (RB.out _).mono ?_
    rintro e w1 ⟨rfl, rfl⟩
    go_wp2_with fail
    refine (RI.out _).mono ?_
    rintro e w1 ⟨rfl, rfl⟩
    go_wp2_with fail
    go_ret
    exact ⟨ret_int HE.out.symm, O0.out.2.2⟩
  | true =>
  rw [h2] at RI
  obtain ⟨hb0, hb1⟩ := inZ_iff.1 h1
  obtain ⟨hk0, hk1⟩ := inZ_iff.1 h2
  have RD := Lib.hid (fun W hA => sfirstelim_any b hs W (.slice ps b.sorts.length cs) (.slice pc b.cons.length cc) hA)
  have HE : Hid (elimB b base k = base + nsB b + decsN b (nsB b) + ncB b + k) := by unfold Hid; rw [elimB, h1, hnn, h2]; rfl
  obtain ⟨D, hD⟩ : ∃ D, D = nsB b + decsN b (nsB b) + ncB b := ⟨_, rfl⟩
  rw [← hD] at RD
  have hw1 : IntKind.i64.wrap (base + D) = base + D := IntWalk.i64_in _ (by omega)
  have hw2 : IntKind.i64.wrap (base + D + k) = base + D + k := IntWalk.i64_in _ (by omega)
  have HV := Lib.hid (show base + D + k = elimB b base k by rw [HE.out]; omega)
  have R1 := Lib.hid (RD.out _ O0.out.2.1)
  clear h1 h2 hD
  go_enter Try.func22, Try.ntmps22
  go_wp2_with fail
  refine (RB.out _).mono ?_
  rintro e w1 ⟨rfl, rfl⟩
  go_wp2_with fail
  refine (RI.out _).mono ?_
  rintro e w1 ⟨rfl, rfl⟩
  go_wp2_with fail
  refine R1.out.mono ?_
  rintro e w2 ⟨rfl, hb2⟩
  have O2 := Lib.hid (O0.out.bel hb2)
  clear hb2
  go_wp2_with fail
  go_ret
  exact ⟨ret_int HV.out, O2.out.2.2⟩
set_option maxRecDepth 100000 in
set_option maxHeartbeats 2000000 in
theorem sdecoder_any (b : BlkT) (hs : blkN b ≤ 1048576) (base k : Int) (w : World) (vs vc : Value) (hA : BAt w b vs vc) : Calls Try.prog 18 #[.agg #[vs, vc, .int .i64 b.elim], .int .i64 base, .int .i64 k] w fun e w' => e = .returned (.int .i64 (decoderB b base k)) ∧ Below w.heap.size w w' := by
  obtain ⟨ps, cs, pc, cc, rfl, rfl⟩ := hA.shape
  have hls := sortsN_len b.sorts
  have hlc := consN_len b.cons
  have hbn : blkN b = sortsN b.sorts + consN b.cons + 1 := rfl
  have hnn : nsB b = (b.sorts.length : Int) := rfl
  have hcn : ncB b = (b.cons.length : Int) := rfl
  have hsl : b.sorts.length ≤ 1048576 := by omega
  have hcl : b.cons.length ≤ 1048576 := by omega
  have hdr := decsN_range b (nsB b)
  have O0 := Lib.hid (oneb_start w b _ _ hA)
  clear hA hls hlc hbn
  have RB := Lib.hid (fun W => sbase_any base W)
  have RI := Lib.hid (fun W => s7index_any k (b.sorts.length : Int) W)
  cases h1 : inZ base 0 65535 with
  | false =>
    rw [h1] at RB
    have HE : Hid (decoderB b base k = -1) := by unfold Hid; rw [decoderB, h1]; rfl
    clear h1
    go_enter Try.func18, Try.ntmps18
    go_wp2_with fail
    refine (RB.out _).mono ?_
    rintro e w1 ⟨rfl, rfl⟩
    go_wp2_with fail
    go_ret
    exact ⟨ret_int HE.out.symm, O0.out.2.2⟩
  | true =>
  rw [h1] at RB
  cases h2 : inZ k 0 ((b.sorts.length : Int) - 1) with
  | false =>
    rw [h2] at RI
    have HE : Hid (decoderB b base k = -1) := by unfold Hid; rw [decoderB, h1, show nsB b = (b.sorts.length : Int) from rfl, h2]; rfl
    clear h1 h2
    go_enter Try.func18, Try.ntmps18
    go_wp2_with fail
    refine (RB.out _).mono ?_
    rintro e w1 ⟨rfl, rfl⟩
    go_wp2_with fail
    refine (RI.out _).mono ?_
    rintro e w1 ⟨rfl, rfl⟩
    go_wp2_with fail
    go_ret
    exact ⟨ret_int HE.out.symm, O0.out.2.2⟩
  | true =>
  rw [h2] at RI
  obtain ⟨hb0, hb1⟩ := inZ_iff.1 h1
  obtain ⟨hk0, hk1⟩ := inZ_iff.1 h2
  obtain ⟨K, rfl⟩ : ∃ K : Nat, k = (K : Int) := ⟨k.toNat, by omega⟩
  have hKl : K < b.sorts.length := by omega
  have hKi : (K : Int) < (b.sorts.length : Int) := by omega
  have hhd : hasDec b (K : Int) = b.sorts[K].dec := by simp [hasDec, List.getElem?_eq_getElem hKl]
  obtain ⟨BS, offS, ua, ut, rfl, ga, gt, k0, k1, k2, k3, k4, k5⟩ := SRow.at O0.out.2.1.1 hKl
  clear ga gt k0 k1 k3 k4 k5
  cases hd : b.sorts[K].dec with
  | false =>
    have HE : Hid (decoderB b base (K : Int) = -1) := by unfold Hid; rw [decoderB, hhd, hd]; simp
    rw [hd] at k2
    clear h1 h2 hhd hd
    go_enter Try.func18, Try.ntmps18
    go_wp2_with fail
    refine (RB.out _).mono ?_
    rintro e w1 ⟨rfl, rfl⟩
    go_wp2_with fail
    refine (RI.out _).mono ?_
    rintro e w1 ⟨rfl, rfl⟩
    go_wp2_with fail
    go_ret
    exact ⟨ret_int HE.out.symm, O0.out.2.2⟩
  | true =>
    have HE : Hid (decoderB b base (K : Int) = base + nsB b + decsN b (K : Int)) := by unfold Hid; rw [decoderB, h1, hnn, h2, hhd, hd]; rfl
    rw [hd] at k2
    have hKc : K ≤ cs := by
      obtain ⟨_, _, c', _, e, g1, _⟩ := O0.out.2.1.1.pos (by omega)
      cases e; omega
    have hKci : (K : Int) ≤ (cs : Int) := by omega
    have hKd := decsN_range b (K : Int)
    have RD := Lib.hid (fun W hA => sdecoders_any (b.sorts.take K) (by simp; omega) W (.slice (some ⟨BS, offS, none⟩) K cs) hA)
    have hDK : decsL (b.sorts.take K) = decsN b (K : Int) := decsL_take b (K : Int)
    rw [hDK] at RD
    obtain ⟨D, hD⟩ : ∃ D, D = decsN b (K : Int) := ⟨_, rfl⟩
    rw [← hD] at RD hKd
    have hw1 : IntKind.i64.wrap (base + (b.sorts.length : Int)) = base + (b.sorts.length : Int) := IntWalk.i64_in _ (by omega)
    have hw2 : IntKind.i64.wrap (base + (b.sorts.length : Int) + D) = base + (b.sorts.length : Int) + D := IntWalk.i64_in _ (by omega)
    have HV := Lib.hid (show base + (b.sorts.length : Int) + D = decoderB b base (K : Int) by rw [HE.out, hD]; rfl)
    clear h1 h2 hhd hd hD hDK
    go_enter Try.func18, Try.ntmps18
    go_wp2_with fail
    refine (RB.out _).mono ?_
    rintro e w1 ⟨rfl, rfl⟩
    go_wp2_with fail
    refine (RI.out _).mono ?_
    rintro e w1 ⟨rfl, rfl⟩
    go_wp2_with fail
    clear k2
    refine wp_region_rel (by kernel_rfl) (by kernel_rfl) (by kernel_rfl) ?_
    apply RelWalk.rest
    · kernel_rfl
    · intro X _ W hW hcl
      obtain ⟨z0, z1, z2⟩ := O0.out.cells
      have rP0 := fun q => gcell (hW q) z0
      clear z0 z1 z2
      have d0 := Lib.hid (fun q => into hcl (RD.out (W q) (GAt.take (k := K) (GAt.bel (hW q) (sortC_bel (hW q)) O0.out.2.1.1) (by omega))))
      repeat (go_big_quiet_step (first | (with_reducible exact d0.out _)))
      exact wpQuiet_nil rfl
    intro gq w5 hg _
    have O9 := Lib.hid (O0.out.bel hg)
    clear hg
    simp only [Spread]
    go_wp2_with fail
    go_ret
    exact ⟨ret_int HV.out, O9.out.2.2⟩
end Go.Proofs.Ytcegocmndfoflaa
