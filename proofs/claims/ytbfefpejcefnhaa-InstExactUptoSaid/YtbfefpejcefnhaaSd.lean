/- Package shift's Count, walked. No conditions but the term's size. -/
import Derived.Test.YtbfefpejcefnhaaSc
namespace Go.Proofs.Ytbfefpejcefnhaa
set_option linter.unusedVariables false
open Go.RowKit Go.Joins

set_option maxRecDepth 100000 in
set_option maxHeartbeats 3000000 in
theorem scount_any (t : Tm) (hs : size t ≤ 1048576) (n : Int) (w₀ : World) (v : Value) (hA : At w₀ t.kids v) :
    Calls Try.prog 31 #[.agg #[.int .i64 t.k, .int .i64 t.n, v], .int .i64 n] w₀ fun e w' => e = .returned (.int .i64 (cntE t n)) ∧ Below w₀.heap.size w₀ w' := by
  obtain ⟨a1, cap1, rfl⟩ := hA.shape
  have HW := Lib.hid (within_any n)
  have hb1 := below_al w₀ (.cells #[.int .i64 t.k, .int .i64 t.n, .slice a1 t.kids.length cap1] 24)
  by_cases hn : inR n
  rotate_left
  · rw [decide_eq_false hn] at HW
    have HE := Lib.hid (show cntE t n = 0 by rw [cntE, if_neg hn])
    clear hn hA
    go_enter Try.func31, Try.ntmps31
    go_wp2_with fail
    refine (HW.out _).mono ?_
    rintro e w2 ⟨rfl, rfl⟩
    go_wp2_with fail
    go_ret
    exact ⟨ret_int (by rw [HE.out]; rfl), hb1⟩
  rw [decide_eq_true hn] at HW
  have HE := Lib.hid (show cntE t n = countT t n by rw [cntE, if_pos hn])
  obtain ⟨hn1, hn2⟩ := hn
  have hdt := depth_le_size t
  have hct := countT_le t n
  go_enter Try.func31, Try.ntmps31
  go_wp2_with fail
  refine (HW.out _).mono ?_
  rintro e w2 ⟨rfl, rfl⟩
  go_wp2_with fail
  have hgood : GoodG w₀ (w₀.heap.size + 1) t (.slice a1 t.kids.length cap1) (((w₀.alloc (.cells #[.int .i64 t.k, .int .i64 t.n, .slice a1 t.kids.length cap1] 24)).alloc (.cells #[.int .i64 t.k, .int .i64 t.n, .slice a1 t.kids.length cap1] 24)).alloc (.cells #[.int .i64 0, .slice (some ⟨w₀.heap.size + 1, 0, none⟩) 1 1, .int .i64 0] 73)) := by
    refine ⟨(((Below.refl _ w₀).alloc (Nat.le_refl _) _).alloc (by simp) _).alloc (by simp; omega) _, ?_⟩
    have h := World.alloc_heap_new (w₀.alloc (.cells #[.int .i64 t.k, .int .i64 t.n, .slice a1 t.kids.length cap1] 24)) (.cells #[.int .i64 t.k, .int .i64 t.n, .slice a1 t.kids.length cap1] 24)
    rw [World.size_alloc] at h
    exact (Below.heap_alloc _ _ _ (by simp)).trans h
  have hrow0 := World.ownsRow_lit (base := w₀.heap.size + 1 + 1) (e := 73) (size := 3) ((w₀.alloc (.cells #[.int .i64 t.k, .int .i64 t.n, .slice a1 t.kids.length cap1] 24)).alloc (.cells #[.int .i64 t.k, .int .i64 t.n, .slice a1 t.kids.length cap1] 24)) #[.int .i64 0, .slice (some ⟨w₀.heap.size + 1, 0, none⟩) 1 1, .int .i64 0] 1 (by simp) (by decide) rfl
  have hzz : w₀.heap.size + 1 + 1 ≤ (((w₀.alloc (.cells #[.int .i64 t.k, .int .i64 t.n, .slice a1 t.kids.length cap1] 24)).alloc (.cells #[.int .i64 t.k, .int .i64 t.n, .slice a1 t.kids.length cap1] 24)).alloc (.cells #[.int .i64 0, .slice (some ⟨w₀.heap.size + 1, 0, none⟩) 1 1, .int .i64 0] 73)).heap.size := by simp
  simp only [World.size_alloc] at hrow0
  have hcg : CgOk w₀ (w₀.heap.size + 1) t (.slice a1 t.kids.length cap1) (depth t) ⟨0, 0, [t], .slice (some ⟨w₀.heap.size + 1, 0, none⟩) 1 1⟩ := CgOk_root hA
  clear hb1 HW
  revert hgood hrow0 hzz
  generalize (((w₀.alloc (.cells #[.int .i64 t.k, .int .i64 t.n, .slice a1 t.kids.length cap1] 24)).alloc (.cells #[.int .i64 t.k, .int .i64 t.n, .slice a1 t.kids.length cap1] 24)).alloc (.cells #[.int .i64 0, .slice (some ⟨w₀.heap.size + 1, 0, none⟩) 1 1, .int .i64 0] 73)) = W
  intro hgood hzz hrow0
  go_loopg [5, 6] (size t) (fun m fv v wr => CInv w₀ (w₀.heap.size + 1) t (.slice a1 t.kids.length cap1) n m fv v wr)
  case atStart => exact ⟨[⟨0, 0, [t], .slice (some ⟨w₀.heap.size + 1, 0, none⟩) 1 1⟩], 0, rfl, hrow0, by simpa using hcg, by simp [cntK, countL, bindsI], by simp [sizeK, sizeL], by simp [sizeK, sizeL], hgood, hzz⟩
  case round =>
    obtain ⟨gs, f, rfl, hrow, hok, hcn, hm, hm2, hg, hz⟩ := hrel
    clear hcg hgood hrow0 hzz
    rcases List.eq_nil_or_concat gs with rfl | ⟨gs', g, rfl⟩
    · obtain ⟨aw, capw, rfl⟩ : ∃ a c, u6 = .slice a 0 c := by
        rcases ownsRow_forms hrow with ⟨h, _⟩ | ⟨_, _, h⟩
        · exact ⟨_, _, h⟩
        · exact ⟨_, _, h⟩
      have HF : Hid (f = cntE t n) := by
        rw [HE.out, ← hcn, cntK]; rfl
      clear hcn
      go_wp2_with fail
      go_ret
      exact ⟨ret_int (by rw [HF.out]), hg.1⟩
    · have hlen : (gs' ++ [g]).length = gs'.length + 1 := by simp
      simp only [List.concat_eq_append] at *
      rw [hlen] at hrow
      obtain ⟨gR, cap, rfl⟩ := ownsRow_form hrow (by omega)
      have hgl := sizeK_len hok
      rw [hlen] at hgl
      obtain ⟨r0, r1, r2, hqc, hcm, hBg, hgW⟩ := rowK_top hrow
      unfold maxLen at hcm
      have hq : gs'.length + 1 < 2147483648 := by omega
      obtain ⟨hc0, hgb0, hgb1, bk, ok, ck, vs, hgv, hlc, hcm2, hread, hAk⟩ := hok g (by simp)
      unfold maxLen at hcm2
      have hrow' := ownsRow_pop (cellsK_len gs') (by rw [← cellsK_snoc]; exact hrow)
      have hok' : ∀ x ∈ gs', CgOk w₀ (w₀.heap.size + 1) t (.slice a1 t.kids.length cap1) (depth t) x := fun x hx => hok x (by simp [hx])
      rw [sizeK_append] at hm hm2
      rw [cntK_append] at hcn
      simp only [sizeK, cntK, Nat.add_zero] at hm hm2 hcn
      have hla := length_le_sizeL g.l
      rw [hgv] at r1
      have HC0 := Lib.hid hc0
      have HVA := Lib.hid hgv
      have HRA := Lib.hid hread
      have HAA := Lib.hid hAk
      have HO := Lib.hid hok'
      have HCN := Lib.hid hcn
      clear hlen hok hrow hcn hgl hgv hread hAk hok'
      go_wp2_with fail
      have hbox := World.alloc_heap_new wr (.cells #[.int .i64 g.k, .slice (some ⟨bk, ok, none⟩) g.l.length ck, .int .i64 g.b] 73)
      have hrow2 := hrow'.alloc (.cells #[.int .i64 g.k, .slice (some ⟨bk, ok, none⟩) g.l.length ck, .int .i64 g.b] 73)
      have hg2 := hg.below (by omega) ((Below.refl (w₀.heap.size + 1 + 1) wr).alloc hz (.cells #[.int .i64 g.k, .slice (some ⟨bk, ok, none⟩) g.l.length ck, .int .i64 g.b] 73))
      have hne : (Value.slice (some ⟨gR, 0, none⟩) gs'.length cap).ownBlock ≠ some wr.heap.size := by simp [Value.ownBlock]; omega
      clear r0 r1 r2 hrow' hg
      revert hrow2 hg2 hbox
      generalize wr.alloc (.cells #[.int .i64 g.k, .slice (some ⟨bk, ok, none⟩) g.l.length ck, .int .i64 g.b] 73) = wb
      generalize wr.heap.size = Bg at *
      intro hbox hrow2 hg2
      rw [← HVA.out] at hbox
      go_loopw [5, 6, 35] (fun fv v i wx => CIn w₀ (w₀.heap.size + 1) t (.slice a1 t.kids.length cap1) n gs' g Bg fv v i wx) (fun _ _ i _ => g.l.length - (intOf i).toNat)
      case atStart => exact ⟨0, f, [], Nat.zero_le _, rfl, rfl, by simpa using hrow2, by simp, by
        have := HCN.out
        simp only [List.append_nil, List.drop_zero]
        omega, by simp [sizeK], hg2, hbox, hne, by omega⟩
      case round =>
        obtain ⟨j, f', gx, hj, rfl, rfl, hrow3, hgx, hc3, hm3, hg3, hb3, hn3, hB3⟩ := hrel
        clear hrow2 hg2 hbox
        by_cases hlt : j < g.l.length
        · obtain ⟨k0, k1, k2⟩ := HRA.out wr hg3 j hlt
          obtain ⟨ak, ck2, hvk⟩ := (HAA.out j hlt).shape
          rw [hvk] at k2
          have HK := Lib.hid hvk
          rw [HVA.out] at hb3
          obtain ⟨b0, b1, b2⟩ := (boxc hb3).1
          have hBW : Bg < wr.heap.size := (Array.getElem?_eq_some_iff.1 hb3).1
          have HB := Lib.hid hb3
          have hbr := bindsI_range g.k j
          have hdj : depth g.l[j] ≤ depthL g.l := depth_get hlt
          have hwb : IntKind.i64.wrap (g.b + bindsI g.k j) = g.b + bindsI g.k j := IntWalk.i64_in _ (by omega)
          have HBI : Hid (∀ W, Calls Try.prog 54 #[.int .i64 g.k, .int .i64 (j : Int)] W fun e w' => e = .returned (.int .i64 (bindsI g.k j)) ∧ W = w') := fun W => binds_any g.k j W
          have HLI : Hid (∀ W, Calls Try.prog 55 #[.agg #[.int .i64 g.l[j].k, .int .i64 g.l[j].n, .slice ak g.l[j].kids.length ck2], .int .i64 (g.b + bindsI g.k j), .int .i64 n] W fun e w' => e = .returned (.bool (decide (g.l[j].k = 1 ∧ g.l[j].n = n + (g.b + bindsI g.k j)))) ∧ Below W.heap.size W w') := fun W => lies_any g.l[j] (g.b + bindsI g.k j) n (by omega) (by omega) W _
          have CD := countL_drop hlt g.k (n + g.b)
          have CE := countT_eq g.l[j] (n + g.b + bindsI g.k j)
          rw [CE] at CD
          rw [show n + g.b + bindsI g.k j = n + (g.b + bindsI g.k j) by omega] at CD
          have hts := sizeL_take_succ hlt
          have hse := size_eq g.l[j]
          have HG3 := Lib.hid hg3
          have HR3 := Lib.hid hrow3
          have HW3 : Hid (∀ (nq : Nat) w3, Below ((wr.alloc (.cells #[.int .i64 g.l[j].k, .int .i64 g.l[j].n, .slice ak g.l[j].kids.length ck2] 24)).drewN nq).heap.size ((wr.alloc (.cells #[.int .i64 g.l[j].k, .int .i64 g.l[j].n, .slice ak g.l[j].kids.length ck2] 24)).drewN nq) w3 → (w3.cell? ⟨wr.heap.size, 0, none⟩ = some (.int .i64 g.l[j].k) ∧ w3.cell? ⟨wr.heap.size, 1, none⟩ = some (.int .i64 g.l[j].n) ∧ w3.cell? ⟨wr.heap.size, 2, none⟩ = some (.slice ak g.l[j].kids.length ck2)) ∧ Below wr.heap.size wr w3 ∧ wr.heap.size + 1 ≤ w3.heap.size) := fun nq w3 hb => by
            have hbn := belowN (below_al wr (.cells #[.int .i64 g.l[j].k, .int .i64 g.l[j].n, .slice ak g.l[j].kids.length ck2] 24)) nq
            obtain ⟨y0, y1, y2⟩ := (boxc (World.alloc_heap_new wr (.cells #[.int .i64 g.l[j].k, .int .i64 g.l[j].n, .slice ak g.l[j].kids.length ck2] 24))).1
            have h1 : Below (wr.alloc (.cells #[.int .i64 g.l[j].k, .int .i64 g.l[j].n, .slice ak g.l[j].kids.length ck2] 24)).heap.size (wr.alloc (.cells #[.int .i64 g.l[j].k, .int .i64 g.l[j].n, .slice ak g.l[j].kids.length ck2] 24)) w3 := (belowN (Below.refl _ _) nq).trans hb
            exact ⟨⟨gcell h1 y0, gcell h1 y1, gcell h1 y2⟩, (below_al wr (.cells #[.int .i64 g.l[j].k, .int .i64 g.l[j].n, .slice ak g.l[j].kids.length ck2] 24)).trans (h1.mono (by simp)), by have := h1.size; simp at this; omega⟩
          clear hb3 hvk hg3 hrow3 CE
          have hj0 : (0 : Int) ≤ (j : Int) := by omega
          have hj1 : (j : Int) < (g.l.length : Int) := by omega
          go_wp2_with fail
          go_quiet ((go_at_call 54; exact q_same (HBI.out _)))
          go_wp2_with fail
          generalize hgb : g.b + bindsI g.k j = gb at *
          have HGB := Lib.hid hgb
          clear hgb hwb
          refine (HLI.out _).mono ?_
          rintro e w3 ⟨rfl, hb3⟩
          obtain ⟨⟨y0, y1, y2⟩, hbw, hzw⟩ := HW3.out _ _ hb3
          have hR4 : w3.ownsRow (w₀.heap.size + 1 + 1) 73 3 u6 (gs' ++ gx).length (cellsK (gs' ++ gx)) := HR3.out.kept (row := none) ⟨hbw.os, hbw.tape, hbw.output, hbw.size, fun k hk _ => hbw.block k hk⟩ (by cases u6.ownBlock <;> simp)
          have hG4 := HG3.out.below (by omega) (hbw.mono (by omega))
          have hB4 := (hbw.block Bg hBW).trans HB.out
          have HR4 := Lib.hid hR4
          have HG4 := Lib.hid hG4
          have HB4 := Lib.hid hB4
          obtain ⟨q, hq2⟩ : ∃ q : Bool, decide (g.l[j].k = 1 ∧ g.l[j].n = n + gb) = q := ⟨_, rfl⟩
          obtain ⟨fq, hfq⟩ : ∃ fq : Nat, fq = (if g.l[j].k = 1 ∧ g.l[j].n = n + gb then 1 else 0) := ⟨_, rfl⟩
          rw [← hfq] at CD
          have hfq2 : fq = if q = true then 1 else 0 := by rw [hfq, ← hq2]; simp
          rw [hq2]
          have hcl := countL_le (g.l.drop (j + 1)) g.k (n + g.b) (j + 1)
          have hft : f' + fq ≤ 1048576 := by omega
          clear hb3 hbw hR4 hG4 hB4 hq2 hfq k0 k1 k2 b0 b1 b2 HLI HBI HW3 HR3 HG3 HB hcl
          have HC3 := Lib.hid hc3
          have HCD := Lib.hid CD
          have HTS := Lib.hid hts
          clear hc3 CD hts
          by_cases hkk : 0 < g.l[j].kids.length
          · have hsl := sizeK_len (w₀ := w₀) (B := w₀.heap.size + 1) (t := t) (tvv := (.slice a1 t.kids.length cap1)) (D := depth t) (gs := gs' ++ gx) (fun y hy => by
              rcases List.mem_append.1 hy with hy | hy
              · exact HO.out y hy
              · exact hgx y hy)
            rw [sizeK_append] at hsl
            have hst := sizeL_take g.l j
            have hq1 : (gs' ++ gx).length + 1 ≤ 4294967296 := by omega
            have hi1 : (gs' ++ gx).length + 1 ≤ maxLen := by unfold maxLen; omega
            have hi2 : ((gs' ++ gx).length + 1) * 40 ≤ 140737488355328 := by omega
            clear hsl hst
            obtain ⟨i0, hi, hz0, hz1, hz2⟩ := info_parts Try.infoK
            have hok5 : CgOk w₀ (w₀.heap.size + 1) t (.slice a1 t.kids.length cap1) (depth t) ⟨g.l[j].k, gb, g.l[j].kids, .slice ak g.l[j].kids.length ck2⟩ := CgOk_of hkk (by show 0 ≤ gb; have := HGB.out; omega) (by
              show gb + (depthL g.l[j].kids : Int) ≤ depth t
              have h1 := HGB.out
              have h2 := depth_eq g.l[j]
              omega) (by rw [← HK.out]; exact HAA.out j hlt)
            have HOK5 := Lib.hid hok5
            clear hok5
            cases q with
            | false =>
              go_wp2_with (at_builtin; refine wpList_append_lies _ rfl (.tmp 57) (.tmp 64) 74 rfl (w₀.heap.size + 1 + 1) 73 i0 _ 3 40 Try.underlying74 hi hz0 hz1 hz2 rfl (by decide) u6 _ _ rfl (HR4.out.alloc _) ⟨w3.heap.size, 0, none⟩ 1 1 [.int .i64 g.l[j].k, .slice ak g.l[j].kids.length ck2, .int .i64 gb] rfl rfl (by have := World.news_of_block (World.alloc_heap_new w3 (.cells #[.int .i64 g.l[j].k, .slice ak g.l[j].kids.length ck2, .int .i64 gb] 73)); simpa using this) (by simp [Value.oneCell']) (by decide) hi1 hi2 (by simp; omega) (w3.heap.size + 1) (by simp) ?_; intro gq cp w1 hown1 hgrow1 hat1 hlt1)
              have hol := HR4.out.lt
              have hst : Below (w₀.heap.size + 1 + 1) w3 w1 := ((Below.refl _ w3).alloc (by omega) _).grown hgrow1 (by simp; omega) (fun k hk => (hol k hk).1)
              go_roundw
              case rel =>
                refine ⟨j + 1, f' + 0, gx ++ [⟨g.l[j].k, gb, g.l[j].kids, .slice ak g.l[j].kids.length ck2⟩], by omega, by go_num, by go_num, ?_, ?_, ?_, ?_, HG4.out.below (by omega) hst, ?_, ?_, hB3⟩
                · simpa [cellsK, Cg.cells, Nat.add_assoc] using hown1
                · intro y hy
                  rcases List.mem_append.1 hy with hy | hy
                  · exact hgx y hy
                  · obtain rfl := List.mem_singleton.1 hy
                    exact HOK5.out
                · have h1 := HC3.out
                  have h2 := HCD.out
                  rw [← List.append_assoc, cntK_append n (gs' ++ gx)]
                  simp only [cntK, Nat.add_zero]
                  simp only [reduceIte, Bool.false_eq_true] at hfq2
                  omega
                · rw [sizeK_append, HTS.out]; simp only [sizeK]; omega
                · rw [HVA.out]
                  exact (hgrow1.block Bg (by simp; omega) (fun e => hn3 e.symm)).trans ((Below.heap_alloc _ _ _ (by omega)).trans HB4.out)
                · intro e
                  rcases hat1 with h | h
                  · exact hn3 (by rw [h]; simpa [Value.ownBlock] using e)
                  · simp [Value.ownBlock] at e; omega
              case measure => simp [intOf]; omega
            | true =>
              go_wp2_with (at_builtin; refine wpList_append_lies _ rfl (.tmp 57) (.tmp 64) 74 rfl (w₀.heap.size + 1 + 1) 73 i0 _ 3 40 Try.underlying74 hi hz0 hz1 hz2 rfl (by decide) u6 _ _ rfl (HR4.out.alloc _) ⟨w3.heap.size, 0, none⟩ 1 1 [.int .i64 g.l[j].k, .slice ak g.l[j].kids.length ck2, .int .i64 gb] rfl rfl (by have := World.news_of_block (World.alloc_heap_new w3 (.cells #[.int .i64 g.l[j].k, .slice ak g.l[j].kids.length ck2, .int .i64 gb] 73)); simpa using this) (by simp [Value.oneCell']) (by decide) hi1 hi2 (by simp; omega) (w3.heap.size + 1) (by simp) ?_; intro gq cp w1 hown1 hgrow1 hat1 hlt1)
              have hol := HR4.out.lt
              have hst : Below (w₀.heap.size + 1 + 1) w3 w1 := ((Below.refl _ w3).alloc (by omega) _).grown hgrow1 (by simp; omega) (fun k hk => (hol k hk).1)
              go_roundw
              case rel =>
                refine ⟨j + 1, f' + 1, gx ++ [⟨g.l[j].k, gb, g.l[j].kids, .slice ak g.l[j].kids.length ck2⟩], by omega, by go_num, by go_num, ?_, ?_, ?_, ?_, HG4.out.below (by omega) hst, ?_, ?_, hB3⟩
                · simpa [cellsK, Cg.cells, Nat.add_assoc] using hown1
                · intro y hy
                  rcases List.mem_append.1 hy with hy | hy
                  · exact hgx y hy
                  · obtain rfl := List.mem_singleton.1 hy
                    exact HOK5.out
                · have h1 := HC3.out
                  have h2 := HCD.out
                  rw [← List.append_assoc, cntK_append n (gs' ++ gx)]
                  simp only [cntK, Nat.add_zero]
                  simp only [reduceIte] at hfq2
                  omega
                · rw [sizeK_append, HTS.out]; simp only [sizeK]; omega
                · rw [HVA.out]
                  exact (hgrow1.block Bg (by simp; omega) (fun e => hn3 e.symm)).trans ((Below.heap_alloc _ _ _ (by omega)).trans HB4.out)
                · intro e
                  rcases hat1 with h | h
                  · exact hn3 (by rw [h]; simpa [Value.ownBlock] using e)
                  · simp [Value.ownBlock] at e; omega
              case measure => simp [intOf]; omega
          · have hk0 : g.l[j].kids = [] := List.eq_nil_of_length_eq_zero (by omega)
            have HK0 := Lib.hid hk0
            have hkd : decide ((0 : Int) < (g.l[j].kids.length : Int)) = false := decide_eq_false (by omega)
            clear hk0
            cases q with
            | false =>
              go_wp2_with fail
              go_roundw
              case rel =>
                refine ⟨j + 1, f' + 0, gx, by omega, by go_num, by go_num, HR4.out, hgx, ?_, ?_, HG4.out, ?_, hn3, hB3⟩
                · have h1 := HC3.out
                  have h2 := HCD.out
                  have h3 : countL g.l[j].kids g.l[j].k (n + gb) 0 = 0 := by rw [HK0.out]; rfl
                  simp only [reduceIte, Bool.false_eq_true] at hfq2
                  omega
                · rw [HTS.out]; omega
                · rw [HVA.out]
                  exact HB4.out
              case measure => simp [intOf]; omega
            | true =>
              go_wp2_with fail
              go_roundw
              case rel =>
                refine ⟨j + 1, f' + 1, gx, by omega, by go_num, by go_num, HR4.out, hgx, ?_, ?_, HG4.out, ?_, hn3, hB3⟩
                · have h1 := HC3.out
                  have h2 := HCD.out
                  have h3 : countL g.l[j].kids g.l[j].k (n + gb) 0 = 0 := by rw [HK0.out]; rfl
                  simp only [reduceIte] at hfq2
                  omega
                · rw [HTS.out]; omega
                · rw [HVA.out]
                  exact HB4.out
              case measure => simp [intOf]; omega
        · obtain rfl : j = g.l.length := by omega
          have HE3 := Lib.hid hc3
          have h9 : sizeL (g.l.take g.l.length) = sizeL g.l := by rw [List.take_of_length_le (Nat.le_refl _)]
          have h10 := HC0.out
          have hlast : sizeK (gs' ++ gx) < sizeK gs' + sizeL g.l := by rw [sizeK_append]; omega
          clear h9 h10
          have HLS := Lib.hid hlast
          have hbl := (Array.getElem?_eq_some_iff.1 hb3).1
          have hzw : w₀.heap.size + 1 + 1 ≤ wr.heap.size := by omega
          clear hc3 hlast hb3 hbl
          go_wp2_with fail
          go_roundg (sizeK (gs' ++ gx))
          case rel =>
            refine ⟨gs' ++ gx, f', rfl, hrow3, fun y hy => ?_, ?_, Nat.le_refl _, by have := HLS.out; omega, hg3, by omega⟩
            · rcases List.mem_append.1 hy with hy | hy
              · exact HO.out y hy
              · exact hgx y hy
            · have := HE3.out
              rw [countL_end] at this
              omega
          case measure => have := HLS.out; omega
end Go.Proofs.Ytbfefpejcefnhaa
