/- TermParts: the Go text returns true for any term that is not greater than the second form's bound. -/
import Derived.Test.YthcjjfgigbgdkaaCo
import Derived.Test.YthcjjfgigbgdkaaLb
import Derived.IntWalk
namespace Go.Proofs.Ythcjjfgigbgdkaa
open Go.RowKit
set_option linter.unusedVariables false

theorem any_takeI {l : List Int} {j : Nat} (h : j < l.length) (p : Int → Bool) : (l.take (j + 1)).any p = ((l.take j).any p || p l[j]) := by
  rw [List.take_succ_eq_append_getElem h, List.any_append]; simp
theorem RowI.shape {w : World} {l : List Int} {v : Value} (h : RowI w l v) : ∃ a cap, v = .slice a l.length cap := by
  obtain ⟨a, cap, h, _⟩ := h
  exact ⟨a, cap, h⟩
theorem formedL_mem {l : List Tm} (h : formedL l = true) {u : Tm} (hu : u ∈ l) : formedB u = true := by
  induction l with
  | nil => cases hu
  | cons a l ih =>
    rw [formedL, Bool.and_eq_true] at h
    rcases List.mem_cons.1 hu with rfl | hu
    · exact h.1
    · exact ih h.2 hu
theorem depth_le_of_mem {l : List Tm} {u : Tm} (hu : u ∈ l) : depth u ≤ depthL l := by
  obtain ⟨i, hi, rfl⟩ := List.getElem_of_mem hu
  exact depth_get hi
theorem check_kid {t u : Tm} (h : checkE t = 0) (hu : u ∈ t.kids) : checkE u = 0 := by
  have hf := check_formed h
  have h1 : ¬ 6000 < size t := fun hh => by rw [checkE, if_pos hh] at h; cases h
  have h2 : ¬ 200 < depth t := fun hh => by rw [checkE, if_neg h1, if_pos hh] at h; cases h
  rw [formedB_eq, Bool.and_eq_true] at hf
  have h3 := formedL_mem hf.2 hu
  have h4 := size_le_of_mem hu
  have h5 := size_eq t
  have h6 := depth_le_of_mem hu
  have h7 := depth_eq t
  rw [checkE, if_neg (by omega), if_neg (by omega), if_neg (by rw [h3]; simp)]
theorem check_count {t : Tm} (h : checkE t = 0) : (t.kids.length : Int) = kidsI t.k := by
  have hf := check_formed h
  rw [formedB_eq, Bool.and_eq_true, Bool.and_eq_true, decide_eq_true_eq] at hf
  exact hf.1.1
theorem asc_at {l : List Int} (h : l.Pairwise (· < ·)) {i : Nat} (hi : i + 1 < l.length) : l[i] < l[i + 1] := List.pairwise_iff_getElem.1 h i (i + 1) (by omega) hi (by omega)
theorem const_kid {t : Tm} {i : Nat} (hi : i < t.kids.length) {x : Int} (h : x ∈ consI (constT t.kids[i])) : x ∈ consI (constT t) := by
  rw [consI_mem] at h ⊢
  rw [constT_eq]
  refine List.mem_append_right _ ?_
  have : constK t.kids = constK (t.kids.take (i + 1)) ++ constK (t.kids.drop (i + 1)) := by rw [← constK_append, List.take_append_drop]
  rw [this, constK_take_succ hi]
  exact List.mem_append_left _ (List.mem_append_right _ h)

set_option maxRecDepth 100000 in
set_option maxHeartbeats 2000000 in
theorem lparts_any (t : Tm) (hF : Fits t) (hs : size t ≤ 1048576) (w : World) (v : Value) (hA : At w t.kids v) :
    Calls Try.prog 8 #[tv t v] w fun e w' => e = .returned (.bool true) ∧ Below w.heap.size w w' := by
  have HH := heavy1 t hs w v hA
  obtain ⟨a1, c1, rfl⟩ := hA.shape
  clear hA
  unfold tv
  by_cases hh : heavyB [t] = true
  · rw [hh] at HH
    have HH := Lib.hid HH
    clear hh
    go_enter Try.func8, Try.ntmps8
    go_wp2_with (go_at_call 15; refine HH.out.mono ?_; rintro e w1 ⟨rfl, hb1⟩; have T1 := Lib.hid hb1; clear hb1)
    go_ret
    exact ⟨rfl, T1.out.2.2⟩
  rw [Bool.eq_false_iff.2 hh] at HH
  have HH := Lib.hid HH
  clear hh
  have hse := size_eq t
  have hle := length_le_sizeL t.kids
  have hdt := depth_eq t
  have hds := depth_le_size t
  have CC := Lib.hid (fun W v hA => c_check t hF hs W v hA)
  go_enter Try.func8, Try.ntmps8
  go_wp2_with fail
  refine HH.out.mono ?_
  rintro e w1 ⟨rfl, hb1⟩
  have O1 := Lib.hid hb1
  clear hb1 HH
  clear HH
  go_wp2_with fail
  go_loopw [3, 4, 5] (fun n d i wr => ∃ j : Nat, j ≤ t.kids.length ∧ i = .int .i64 j ∧ n = .int .i64 ((sizeL (t.kids.take j) + 1 : Nat) : Int) ∧ d = .int .i64 (depthL (t.kids.take j) : Int) ∧ One w w.heap.size t (.slice a1 t.kids.length c1) wr)
    (fun _ _ i _ => t.kids.length - (intOf i).toNat)
  case atStart => exact ⟨0, Nat.zero_le _, rfl, by simp [sizeL], by simp [depthL], O1.out⟩
  case round =>
    obtain ⟨j, hj, rfl, rfl, rfl, hO⟩ := hrel
    have O2 := Lib.hid hO
    obtain ⟨⟨x0, x1, x2⟩, hA1, _⟩ := hO
    clear O1
    by_cases hlt : j < t.kids.length
    · obtain ⟨b, off, cap', vs, he, h1, h2, kk, kn, kv, ks⟩ := hA1.pos (by omega)
      have gk := kk j hlt
      have gn := kn j hlt
      have gv := kv j hlt
      have gs := ks j hlt
      clear kk kn kv ks hA1
      have hsz := size_get hlt
      have hm := List.getElem_mem hlt
      have hdk := depth_le_size t.kids[j]
      have hdl := depthL_le_sizeL (t.kids.take j)
      have hst := sizeL_take t.kids j
      have hfk := hF.kids _ hm
      have hsk : size t.kids[j] ≤ 1048576 := by omega
      have HZ := Lib.hid (fun (W : World) (v : Value) (hW : At W t.kids[j].kids v) => c_size t.kids[j] hfk hsk W v hW)
      have HD := Lib.hid (fun (W : World) (v : Value) (hW : At W t.kids[j].kids v) => c_depth t.kids[j] hfk hsk W v hW)
      have HC := Lib.hid (fun (W : World) (v : Value) (hW : At W t.kids[j].kids v) => c_check t.kids[j] hfk hsk W v hW)
      have KC := Lib.hid (fun (h : checkE t = 0) => check_kid h hm)
      have ES := Lib.hid (sizeL_take_succ hlt)
      have ED := Lib.hid (depthL_take_succ hlt)
      have hl1 : (j : Int) < (t.kids.length : Int) := by omega
      have hl0 : (0 : Int) ≤ (j : Int) := by omega
      have hl5 : t.kids.length ≤ 1048576 := by omega
      have hb1 : sizeL (t.kids.take j) ≤ 1048576 := by omega
      have hb2 : size t.kids[j] ≤ 1048576 := by omega
      have hb3 : depthL (t.kids.take j) ≤ 1048576 := by omega
      have hb4 : depth t.kids[j] ≤ 1048576 := by omega
      clear hs hse hle hdt hds hsz hm hdk hdl hst hfk hsk hF
      cases he
      go_wp2_with fail
      have HX := Lib.hid (And.intro (And.intro x0 (And.intro x1 x2)) (And.intro (And.intro gk (And.intro gn gv)) gs))
      clear x0 x1 x2 gk gn gv gs
      refine wp_region_rel (by kernel_rfl) (by kernel_rfl) (by kernel_rfl) ?_
      apply RelWalk.next 15
      · kernel_rfl
      · intro X _ W hW hcl
        simp only [List.take_succ_cons, List.take_zero]
        obtain ⟨⟨x0, x1, x2⟩, ⟨gk, gn, gv⟩, gs⟩ := HX.out
        have k0 := fun q => gcell (hW q) x0
        have k1 := fun q => gcell (hW q) x1
        have k2 := fun q => gcell (hW q) x2
        have k3 := fun q => gcell (hW q) gk
        have k4 := fun q => gcell (hW q) gn
        have k5 := fun q => gcell (hW q) gv
        have cB := Lib.hid (fun q => into hcl (HZ.out (W q) _ (gs.bel (hW q) (Nat.le_refl _))))
        have cC := Lib.hid (fun q => into hcl (HD.out (W q) _ (gs.bel (hW q) (Nat.le_refl _))))
        clear x0 x1 x2 gk gn gv gs
        repeat (go_big_quiet_step (first | (with_reducible exact cB.out _) | (with_reducible exact cC.out _)))
        exact wpQuiet_nil rfl
      simp only [List.drop_succ_cons, List.drop_zero]
      refine RelWalk.made0 (fun v s e w => v = .int .i64 (depthL (t.kids.take (j + 1)) : Int)) rfl (by kernel_rfl) (by kernel_rfl) rfl (fun v s e w w' hg h => h) (fun w2 hg => ?_) ?_
      · go_simp
        refine ⟨Grw.rfl w2, ?_⟩
        rw [ED.out]
        congr 1
        omega
      simp only [Act.put, List.setIfInBounds_toArray, List.set_cons_zero, List.set_cons_succ]
      apply RelWalk.next 1
      · kernel_rfl
      · intro X _ W hW hcl
        simp only [List.take_succ_cons, List.take_zero]
        repeat (go_big_quiet_step (fail))
        exact wpQuiet_nil rfl
      simp only [List.drop_succ_cons, List.drop_zero]
      refine RelWalk.made1 (fun v s e w => v = .int .i64 (depthL (t.kids.take (j + 1)) : Int)) rfl (by kernel_rfl) (by kernel_rfl) rfl (fun v s e w w' hg h => h) (fun g w2 hg v1 hv1 => ?_) ?_
      · subst hv1
        go_simp
        exact ⟨Grw.rfl w2, rfl⟩
      simp only [Act.put, List.setIfInBounds_toArray, List.set_cons_zero, List.set_cons_succ]
      refine .done fun g w2 hg hpt => ?_
      simp only [Spread]
      rintro v4 rfl v38 rfl
      simp only [Act.put, List.setIfInBounds_toArray, List.set_cons_zero, List.set_cons_succ]
      have O3 := Lib.hid (O2.out.bel hg)
      have gs3 := HX.out.2.2.bel hg (Nat.le_refl _)
      have k3 := gcell hg HX.out.2.1.1
      have k4 := gcell hg HX.out.2.1.2.1
      have k5 := gcell hg HX.out.2.1.2.2
      have A3 := Lib.hid O3.out.2.1
      obtain ⟨⟨z0, z1, z2⟩, _⟩ := O3.out
      have GS3 := Lib.hid gs3
      clear O2 hg hpt gs3 HX
      by_cases hck : checkE t = 0
      · have hkk := KC.out hck
        rw [hck] at CC
        rw [hkk] at HC
        clear hck hkk KC
        go_wp2_with (first | (go_at_call 17; (with_reducible refine (CC.out _ _ A3.out).mono ?_); rintro e w5 ⟨rfl, hb5⟩; have O5 := Lib.hid (O3.out.bel hb5); have G5 := Lib.hid (GS3.out.bel hb5 (Nat.le_refl _)); have l3 := gcell hb5 k3; have l4 := gcell hb5 k4; have l5 := gcell hb5 k5; obtain ⟨⟨y0, y1, y2⟩, _⟩ := O5.out; clear hb5 O3 A3 GS3 k3 k4 k5 z0 z1 z2) | (go_at_call 17; (with_reducible refine (HC.out _ _ G5.out).mono ?_); rintro e w6 ⟨rfl, hb6⟩; have O6 := Lib.hid (O5.out.bel hb6); clear hb6 O5 G5 l3 l4 l5 y0 y1 y2))
        go_roundw
        case rel => exact ⟨j + 1, by omega, by go_num, by rw [ES.out]; go_num, rfl, O6.out⟩
        case measure => simp [intOf]; omega
      · have e0 : (checkE t == 0) = false := by simpa using hck
        clear hck KC
        go_wp2_with (go_at_call 17; (with_reducible refine (CC.out _ _ A3.out).mono ?_); rintro e w5 ⟨rfl, hb5⟩; have O5 := Lib.hid (O3.out.bel hb5); clear hb5 O3 A3 GS3 k3 k4 k5 z0 z1 z2)
        go_roundw
        case rel => exact ⟨j + 1, by omega, by go_num, by rw [ES.out]; go_num, rfl, O5.out⟩
        case measure => simp [intOf]; omega
    · obtain rfl : j = t.kids.length := by omega
      have hlt : decide ((t.kids.length : Int) < (t.kids.length : Int)) = false := by simp
      have hb1 : sizeL t.kids ≤ 1048576 := by omega
      have hb3 : depthL t.kids ≤ 1048576 := by omega
      rw [List.take_length]
      have HZ := Lib.hid (fun (W : World) (v : Value) (hW : At W t.kids v) => c_size t hF hs W v hW)
      have HD := Lib.hid (fun (W : World) (v : Value) (hW : At W t.kids v) => c_depth t hF hs W v hW)
      rw [hse] at HZ
      rw [hdt] at HD
      have KC := Lib.hid (fun (h : checkE t = 0) => check_count h)
      have HF := Lib.hid hF
      have HS := Lib.hid hs
      have hl5 : t.kids.length ≤ 1048576 := by omega
      clear hse hdt hds hle hF hs hA1
      go_wp2_with fail
      refine wp_region_rel (by kernel_rfl) (by kernel_rfl) (by kernel_rfl) ?_
      by_cases hck : checkE t = 0
      · have hkk := KC.out hck
        have HK : Hid (∀ W : World, Calls Try.prog 35 #[.int .i64 t.k] W fun e w' => e = .returned (.int .i64 (t.kids.length : Int)) ∧ W = w') := fun W => by rw [hkk]; exact kids_any t.k W
        rw [hck] at CC
        clear hck hkk KC x0 x1 x2
        apply RelWalk.rest
        · kernel_rfl
        · intro X _ W hW hcl
          obtain ⟨⟨x0, x1, x2⟩, _⟩ := O2.out
          have k0 := fun q => gcell (hW q) x0
          have k1 := fun q => gcell (hW q) x1
          have k2 := fun q => gcell (hW q) x2
          have cB := Lib.hid (fun q => into hcl (HZ.out (W q) _ (O2.out.bel (hW q)).2.1))
          have cC := Lib.hid (fun q => into hcl (HD.out (W q) _ (O2.out.bel (hW q)).2.1))
          have cD := Lib.hid (fun q => into hcl (CC.out (W q) _ (O2.out.bel (hW q)).2.1))
          have cE := Lib.hid (fun q => intoSame (W := W) (q := q) (HK.out (W q)))
          clear x0 x1 x2
          repeat (go_big_quiet_step (first | (with_reducible exact cB.out _) | (with_reducible exact cC.out _) | (with_reducible exact cD.out _) | (with_reducible exact cE.out _)))
          exact wpQuiet_nil rfl
        intro g w3 hg _
        have O3 := Lib.hid (O2.out.bel hg)
        clear O2 hg HZ HD CC HK
        simp only [Spread]
        have A3 := Lib.hid O3.out.2.1
        obtain ⟨⟨x0, x1, x2⟩, _⟩ := O3.out
        go_wp2_with (go_at_call 28; refine (c_consts t HF.out HS.out _ _ A3.out).mono ?_; rintro e w6 ⟨v6, rfl, hb6, hr6⟩; have O6 := Lib.hid (O3.out.bel hb6); clear hb6 O3 A3 x0 x1 x2; have R6 := Lib.hid hr6; obtain ⟨a6, c6, rfl⟩ := RowI.shape hr6; clear hr6)
        have asc := Lib.hid (consI_asc (constT t))
        have hLl : (consI (constT t)).length ≤ 1048576 := Nat.le_trans (consI_len _) (Nat.le_trans (constT_len t) HS.out)
        have KK := Lib.hid (fun i (hi : i < t.kids.length) (x : Int) (h : x ∈ consI (constT t.kids[i])) => const_kid hi h)
        revert asc hLl KK R6
        generalize consI (constT t) = L
        intro R6 asc hLl KK
        go_loopw [7] (fun i wr => ∃ j : Nat, 1 ≤ j ∧ i = .int .i64 j ∧ Grw w6 wr) (fun i _ => L.length - (intOf i).toNat)
        case atStart => exact ⟨1, Nat.le_refl _, rfl, Grw.rfl _⟩
        case round =>
          obtain ⟨j, hj1, rfl, hg⟩ := hrel
          have HG := Lib.hid hg
          clear hg
          by_cases hlt : j < L.length
          · obtain ⟨m, rfl⟩ : ∃ m, j = m + 1 := ⟨j - 1, by omega⟩
            obtain ⟨a, cap, he, hl1, hl2, hrow⟩ := R6.out
            obtain ⟨b, off, hab, hc⟩ := hrow (by omega)
            cases he
            subst hab
            obtain ⟨p, q, hle, hp, hq⟩ : ∃ p q : Int, ¬ p ≤ q ∧ w6.cell? ⟨b, off + (m + 1), none⟩ = some (.int .i64 p) ∧ w6.cell? ⟨b, off + m, none⟩ = some (.int .i64 q) := ⟨L[m + 1], L[m], by have := asc_at asc.out hlt; omega, hc (m + 1) hlt, hc m (by omega)⟩
            have HP := Lib.hid (And.intro hp hq)
            have hle1 : decide (p ≤ q) = false := decide_eq_false hle
            have hl3 : ((m + 1 : Nat) : Int) < (L.length : Int) := by omega
            have hl4 : (m : Int) < (L.length : Int) := by omega
            have hl6 : (m : Int) + 1 < (L.length : Int) := by omega
            clear hc hrow hl1 hl2 hp hq asc KK hle
            go_wp2_with fail
            refine wp_region_rel (by kernel_rfl) (by kernel_rfl) (by kernel_rfl) ?_
            apply RelWalk.rest
            · kernel_rfl
            · intro X _ W hW hcl
              have hp := gcell HG.out HP.out.1
              have hq := gcell HG.out HP.out.2
              have k0 := fun q => gcell (hW q) hp
              have k1 := fun q => gcell (hW q) hq
              clear hp hq
              repeat (go_big_quiet_step (fail))
              exact wpQuiet_nil rfl
            intro g w7 hg _
            have HG2 := Lib.hid (HG.out.tr hg)
            clear HG hg
            simp only [Spread]
            go_wp2_with fail
            go_roundw
            case rel => exact ⟨m + 1 + 1, by omega, by go_num, HG2.out⟩
            case measure => simp [intOf]; omega
          · have hlt1 : decide ((j : Int) < (L.length : Int)) = false := by simp; omega
            have O7 := Lib.hid (O6.out.bel HG.out)
            have R7 := Lib.hid (RowI.bel R6.out HG.out)
            clear asc O6 R6 HG
            go_wp2_with fail
            obtain ⟨w7, rfl⟩ : ∃ w7 : World, w7 = wr := ⟨_, rfl⟩
            go_loopw [8, 9, 10, 11, 12] (fun i _ _ _ _ wr => ∃ j : Nat, j ≤ t.kids.length ∧ i = .int .i64 j ∧ Grw w7 wr) (fun i _ _ _ _ _ => t.kids.length - (intOf i).toNat)
            case atStart => exact ⟨0, Nat.zero_le _, rfl, Grw.rfl _⟩
            case round =>
              obtain ⟨n, hn, rfl, hg⟩ := hrel
              have O8 := Lib.hid (O7.out.bel hg)
              have R8 := Lib.hid (RowI.bel R7.out hg)
              have HG := Lib.hid hg
              clear hg O7 R7
              obtain ⟨⟨x0, x1, x2⟩, hA8, _⟩ := O8.out
              by_cases hlt : n < t.kids.length
              · obtain ⟨b, off, cap', vs, he, h1, h2, kk, kn, kv, ks⟩ := hA8.pos (by omega)
                have gk := kk n hlt
                have gn := kn n hlt
                have gv := kv n hlt
                have gs := Lib.hid (ks n hlt)
                clear kk kn kv ks hA8
                have hm := List.getElem_mem hlt
                have HFK := Lib.hid (HF.out.kids _ hm)
                have HSK := Lib.hid (Nat.le_trans (size_get hlt) (Nat.le_trans (Nat.le_of_lt (by rw [size_eq t]; omega)) HS.out))
                have KN := Lib.hid (KK.out n hlt)
                have hl1 : (n : Int) < (t.kids.length : Int) := by omega
                have hl0 : (0 : Int) ≤ (n : Int) := by omega
                clear hm
                cases he
                go_wp2_with (go_at_call 28; refine (c_consts t.kids[n] HFK.out HSK.out _ _ gs.out).mono ?_; rintro e w9 ⟨v9, rfl, hb9, hr9⟩; have G9 := Lib.hid hb9; have O9 := Lib.hid (O8.out.bel hb9); have R9 := Lib.hid (RowI.bel R8.out hb9); clear hb9 O8 R8 x0 x1 x2 gk gn gv gs; have Q9 := Lib.hid hr9; obtain ⟨a9, c9, rfl⟩ := RowI.shape hr9; clear hr9)
                have hKl : (consI (constT t.kids[n])).length ≤ 1048576 := Nat.le_trans (consI_len _) (Nat.le_trans (constT_len _) HSK.out)
                clear HSK HFK
                revert hKl KN Q9
                generalize consI (constT t.kids[n]) = K
                intro KN Q9 hKl
                go_loopw [10, 11, 12] (fun i _ _ wr => ∃ m : Nat, i = .int .i64 m ∧ Grw w9 wr) (fun i _ _ _ => K.length - (intOf i).toNat)
                case atStart => exact ⟨0, rfl, Grw.rfl _⟩
                case round =>
                  obtain ⟨m, rfl, hg⟩ := hrel
                  have O10 := Lib.hid (O9.out.bel hg)
                  have R10 := Lib.hid (RowI.bel R9.out hg)
                  have Q10 := Lib.hid (RowI.bel Q9.out hg)
                  have H10 := Lib.hid ((HG.out.tr G9.out).tr hg)
                  have H9 := Lib.hid hg
                  clear hg O9 R9 Q9 HG G9
                  by_cases hlm : m < K.length
                  · obtain ⟨a, cap, he, hk1, hk2, hrow⟩ := Q10.out
                    obtain ⟨b2, off2, hab, hc⟩ := hrow (by omega)
                    cases he
                    subst hab
                    obtain ⟨x, hx, hq⟩ : ∃ x : Int, x ∈ L ∧ wr.cell? ⟨b2, off2 + m, none⟩ = some (.int .i64 x) := ⟨K[m], KN.out _ (List.getElem_mem hlm), hc m hlm⟩
                    have HX := Lib.hid hx
                    have HQ := Lib.hid hq
                    have hm1 : (m : Int) < (K.length : Int) := by omega
                    have hm0 : (0 : Int) ≤ (m : Int) := by omega
                    clear hc hrow hk1 hk2 hx hq
                    go_wp2_with fail
                    obtain ⟨wo, rfl⟩ : ∃ wo : World, wo = wr := ⟨_, rfl⟩
                    go_loopw [11, 12] (fun s q wr => ∃ r : Nat, r ≤ L.length ∧ q = .int .i64 r ∧ s = .bool ((L.take r).any fun y => y == x) ∧ Grw wo wr) (fun _ q _ => L.length - (intOf q).toNat)
                    case atStart => exact ⟨0, Nat.zero_le _, rfl, by simp, Grw.rfl _⟩
                    case round =>
                      obtain ⟨r, hr, rfl, rfl, hg⟩ := hrel
                      have HG := Lib.hid hg
                      clear hg
                      by_cases hlr : r < L.length
                      · obtain ⟨a, cap, he, hk1, hk2, hrow⟩ := R10.out
                        obtain ⟨b3, off3, hab, hc⟩ := hrow (by omega)
                        cases he
                        subst hab
                        have HT := Lib.hid (any_takeI hlr (fun y => y == x))
                        obtain ⟨y, hy, hp⟩ : ∃ y : Int, L[r] = y ∧ wo.cell? ⟨b3, off3 + r, none⟩ = some (.int .i64 y) := ⟨L[r], rfl, hc r hlr⟩
                        rw [hy] at HT
                        have HP := Lib.hid (And.intro hp HQ.out)
                        have hr1 : (r : Int) < (L.length : Int) := by omega
                        have hr0 : (0 : Int) ≤ (r : Int) := by omega
                        clear hc hrow hk1 hk2 hp hy
                        cases hb : (L.take r).any (fun y => y == x) with
                        | true =>
                          rw [hb] at HT
                          clear hb
                          go_wp2_with fail
                          refine wp_region_rel (by kernel_rfl) (by kernel_rfl) (by kernel_rfl) ?_
                          apply RelWalk.rest
                          · kernel_rfl
                          · intro X _ W hW hcl
                            repeat (go_big_quiet_step (fail))
                            exact wpQuiet_nil rfl
                          intro g w11 hg _
                          have HG2 := Lib.hid (HG.out.tr hg)
                          clear HG hg
                          simp only [Spread]
                          go_wp2_with fail
                          go_roundw
                          case rel => exact ⟨r + 1, by omega, by go_num, by rw [HT.out]; rfl, HG2.out⟩
                          case measure => simp [intOf]; omega
                        | false =>
                          rw [hb] at HT
                          clear hb
                          go_wp2_with fail
                          refine wp_region_rel (by kernel_rfl) (by kernel_rfl) (by kernel_rfl) ?_
                          apply RelWalk.rest
                          · kernel_rfl
                          · intro X _ W hW hcl
                            have hp := gcell HG.out HP.out.1
                            have hq := gcell HG.out HP.out.2
                            have k0 := fun q => gcell (hW q) hp
                            have k1 := fun q => gcell (hW q) hq
                            clear hp hq
                            repeat (go_big_quiet_step (fail))
                            exact wpQuiet_nil rfl
                          intro g w11 hg _
                          have HG2 := Lib.hid (HG.out.tr hg)
                          clear HG hg
                          simp only [Spread]
                          go_wp2_with fail
                          go_roundw
                          case rel => exact ⟨r + 1, by omega, by go_num, by rw [HT.out]; rfl, HG2.out⟩
                          case measure => simp [intOf]; omega
                      · obtain rfl : r = L.length := by omega
                        have hlt2 : decide ((L.length : Int) < (L.length : Int)) = false := by simp
                        have hany : ((L.take L.length).any fun y => y == x) = true := by
                          rw [List.take_length, List.any_eq_true]
                          exact ⟨x, HX.out, by simp⟩
                        rw [hany]
                        have H11 := Lib.hid (H9.out.tr HG.out)
                        clear hany HG
                        go_wp2_with fail
                        go_roundw
                        case rel => exact ⟨m + 1, by go_num, H11.out⟩
                        case measure => simp [intOf]; omega
                  · have hlt2 : decide ((m : Int) < (K.length : Int)) = false := by simp; omega
                    go_wp2_with fail
                    go_roundw
                    case rel => exact ⟨n + 1, by omega, by go_num, H10.out⟩
                    case measure => simp [intOf]; omega
              · obtain rfl : n = t.kids.length := by omega
                have hlt2 : decide ((t.kids.length : Int) < (t.kids.length : Int)) = false := by simp
                clear hA8
                go_wp2_with (go_at_call 30; refine (wakes_any _).mono ?_; rintro e w12 ⟨rfl, hb12⟩; have O12 := Lib.hid (O8.out.bel hb12); clear hb12 O8)
                go_ret
                exact ⟨rfl, O12.out.2.2⟩
      · have e0 : (checkE t == 0) = false := by simpa using hck
        clear hck KC x0 x1 x2
        apply RelWalk.rest
        · kernel_rfl
        · intro X _ W hW hcl
          obtain ⟨⟨x0, x1, x2⟩, _⟩ := O2.out
          have k0 := fun q => gcell (hW q) x0
          have k1 := fun q => gcell (hW q) x1
          have k2 := fun q => gcell (hW q) x2
          have cB := Lib.hid (fun q => into hcl (HZ.out (W q) _ (O2.out.bel (hW q)).2.1))
          have cC := Lib.hid (fun q => into hcl (HD.out (W q) _ (O2.out.bel (hW q)).2.1))
          have cD := Lib.hid (fun q => into hcl (CC.out (W q) _ (O2.out.bel (hW q)).2.1))
          clear x0 x1 x2
          repeat (go_big_quiet_step (first | (with_reducible exact cB.out _) | (with_reducible exact cC.out _) | (with_reducible exact cD.out _)))
          exact wpQuiet_nil rfl
        intro g w3 hg _
        have O3 := Lib.hid (O2.out.bel hg)
        clear O2 hg HZ HD CC e0
        simp only [Spread]
        have A3 := Lib.hid O3.out.2.1
        obtain ⟨⟨x0, x1, x2⟩, _⟩ := O3.out
        go_wp2_with (go_at_call 28; refine (c_consts t HF.out HS.out _ _ A3.out).mono ?_; rintro e w6 ⟨v6, rfl, hb6, hr6⟩; have O6 := Lib.hid (O3.out.bel hb6); clear hb6 O3 A3 x0 x1 x2; have R6 := Lib.hid hr6; obtain ⟨a6, c6, rfl⟩ := RowI.shape hr6; clear hr6)
        have asc := Lib.hid (consI_asc (constT t))
        have hLl : (consI (constT t)).length ≤ 1048576 := Nat.le_trans (consI_len _) (Nat.le_trans (constT_len t) HS.out)
        have KK := Lib.hid (fun i (hi : i < t.kids.length) (x : Int) (h : x ∈ consI (constT t.kids[i])) => const_kid hi h)
        revert asc hLl KK R6
        generalize consI (constT t) = L
        intro R6 asc hLl KK
        go_loopw [7] (fun i wr => ∃ j : Nat, 1 ≤ j ∧ i = .int .i64 j ∧ Grw w6 wr) (fun i _ => L.length - (intOf i).toNat)
        case atStart => exact ⟨1, Nat.le_refl _, rfl, Grw.rfl _⟩
        case round =>
          obtain ⟨j, hj1, rfl, hg⟩ := hrel
          have HG := Lib.hid hg
          clear hg
          by_cases hlt : j < L.length
          · obtain ⟨m, rfl⟩ : ∃ m, j = m + 1 := ⟨j - 1, by omega⟩
            obtain ⟨a, cap, he, hl1, hl2, hrow⟩ := R6.out
            obtain ⟨b, off, hab, hc⟩ := hrow (by omega)
            cases he
            subst hab
            obtain ⟨p, q, hle, hp, hq⟩ : ∃ p q : Int, ¬ p ≤ q ∧ w6.cell? ⟨b, off + (m + 1), none⟩ = some (.int .i64 p) ∧ w6.cell? ⟨b, off + m, none⟩ = some (.int .i64 q) := ⟨L[m + 1], L[m], by have := asc_at asc.out hlt; omega, hc (m + 1) hlt, hc m (by omega)⟩
            have HP := Lib.hid (And.intro hp hq)
            have hle1 : decide (p ≤ q) = false := decide_eq_false hle
            have hl3 : ((m + 1 : Nat) : Int) < (L.length : Int) := by omega
            have hl4 : (m : Int) < (L.length : Int) := by omega
            have hl6 : (m : Int) + 1 < (L.length : Int) := by omega
            clear hc hrow hl1 hl2 hp hq asc KK hle
            go_wp2_with fail
            refine wp_region_rel (by kernel_rfl) (by kernel_rfl) (by kernel_rfl) ?_
            apply RelWalk.rest
            · kernel_rfl
            · intro X _ W hW hcl
              have hp := gcell HG.out HP.out.1
              have hq := gcell HG.out HP.out.2
              have k0 := fun q => gcell (hW q) hp
              have k1 := fun q => gcell (hW q) hq
              clear hp hq
              repeat (go_big_quiet_step (fail))
              exact wpQuiet_nil rfl
            intro g w7 hg _
            have HG2 := Lib.hid (HG.out.tr hg)
            clear HG hg
            simp only [Spread]
            go_wp2_with fail
            go_roundw
            case rel => exact ⟨m + 1 + 1, by omega, by go_num, HG2.out⟩
            case measure => simp [intOf]; omega
          · have hlt1 : decide ((j : Int) < (L.length : Int)) = false := by simp; omega
            have O7 := Lib.hid (O6.out.bel HG.out)
            have R7 := Lib.hid (RowI.bel R6.out HG.out)
            clear asc O6 R6 HG
            go_wp2_with fail
            obtain ⟨w7, rfl⟩ : ∃ w7 : World, w7 = wr := ⟨_, rfl⟩
            go_loopw [8, 9, 10, 11, 12] (fun i _ _ _ _ wr => ∃ j : Nat, j ≤ t.kids.length ∧ i = .int .i64 j ∧ Grw w7 wr) (fun i _ _ _ _ _ => t.kids.length - (intOf i).toNat)
            case atStart => exact ⟨0, Nat.zero_le _, rfl, Grw.rfl _⟩
            case round =>
              obtain ⟨n, hn, rfl, hg⟩ := hrel
              have O8 := Lib.hid (O7.out.bel hg)
              have R8 := Lib.hid (RowI.bel R7.out hg)
              have HG := Lib.hid hg
              clear hg O7 R7
              obtain ⟨⟨x0, x1, x2⟩, hA8, _⟩ := O8.out
              by_cases hlt : n < t.kids.length
              · obtain ⟨b, off, cap', vs, he, h1, h2, kk, kn, kv, ks⟩ := hA8.pos (by omega)
                have gk := kk n hlt
                have gn := kn n hlt
                have gv := kv n hlt
                have gs := Lib.hid (ks n hlt)
                clear kk kn kv ks hA8
                have hm := List.getElem_mem hlt
                have HFK := Lib.hid (HF.out.kids _ hm)
                have HSK := Lib.hid (Nat.le_trans (size_get hlt) (Nat.le_trans (Nat.le_of_lt (by rw [size_eq t]; omega)) HS.out))
                have KN := Lib.hid (KK.out n hlt)
                have hl1 : (n : Int) < (t.kids.length : Int) := by omega
                have hl0 : (0 : Int) ≤ (n : Int) := by omega
                clear hm
                cases he
                go_wp2_with (go_at_call 28; refine (c_consts t.kids[n] HFK.out HSK.out _ _ gs.out).mono ?_; rintro e w9 ⟨v9, rfl, hb9, hr9⟩; have G9 := Lib.hid hb9; have O9 := Lib.hid (O8.out.bel hb9); have R9 := Lib.hid (RowI.bel R8.out hb9); clear hb9 O8 R8 x0 x1 x2 gk gn gv gs; have Q9 := Lib.hid hr9; obtain ⟨a9, c9, rfl⟩ := RowI.shape hr9; clear hr9)
                have hKl : (consI (constT t.kids[n])).length ≤ 1048576 := Nat.le_trans (consI_len _) (Nat.le_trans (constT_len _) HSK.out)
                clear HSK HFK
                revert hKl KN Q9
                generalize consI (constT t.kids[n]) = K
                intro KN Q9 hKl
                go_loopw [10, 11, 12] (fun i _ _ wr => ∃ m : Nat, i = .int .i64 m ∧ Grw w9 wr) (fun i _ _ _ => K.length - (intOf i).toNat)
                case atStart => exact ⟨0, rfl, Grw.rfl _⟩
                case round =>
                  obtain ⟨m, rfl, hg⟩ := hrel
                  have O10 := Lib.hid (O9.out.bel hg)
                  have R10 := Lib.hid (RowI.bel R9.out hg)
                  have Q10 := Lib.hid (RowI.bel Q9.out hg)
                  have H10 := Lib.hid ((HG.out.tr G9.out).tr hg)
                  have H9 := Lib.hid hg
                  clear hg O9 R9 Q9 HG G9
                  by_cases hlm : m < K.length
                  · obtain ⟨a, cap, he, hk1, hk2, hrow⟩ := Q10.out
                    obtain ⟨b2, off2, hab, hc⟩ := hrow (by omega)
                    cases he
                    subst hab
                    obtain ⟨x, hx, hq⟩ : ∃ x : Int, x ∈ L ∧ wr.cell? ⟨b2, off2 + m, none⟩ = some (.int .i64 x) := ⟨K[m], KN.out _ (List.getElem_mem hlm), hc m hlm⟩
                    have HX := Lib.hid hx
                    have HQ := Lib.hid hq
                    have hm1 : (m : Int) < (K.length : Int) := by omega
                    have hm0 : (0 : Int) ≤ (m : Int) := by omega
                    clear hc hrow hk1 hk2 hx hq
                    go_wp2_with fail
                    obtain ⟨wo, rfl⟩ : ∃ wo : World, wo = wr := ⟨_, rfl⟩
                    go_loopw [11, 12] (fun s q wr => ∃ r : Nat, r ≤ L.length ∧ q = .int .i64 r ∧ s = .bool ((L.take r).any fun y => y == x) ∧ Grw wo wr) (fun _ q _ => L.length - (intOf q).toNat)
                    case atStart => exact ⟨0, Nat.zero_le _, rfl, by simp, Grw.rfl _⟩
                    case round =>
                      obtain ⟨r, hr, rfl, rfl, hg⟩ := hrel
                      have HG := Lib.hid hg
                      clear hg
                      by_cases hlr : r < L.length
                      · obtain ⟨a, cap, he, hk1, hk2, hrow⟩ := R10.out
                        obtain ⟨b3, off3, hab, hc⟩ := hrow (by omega)
                        cases he
                        subst hab
                        have HT := Lib.hid (any_takeI hlr (fun y => y == x))
                        obtain ⟨y, hy, hp⟩ : ∃ y : Int, L[r] = y ∧ wo.cell? ⟨b3, off3 + r, none⟩ = some (.int .i64 y) := ⟨L[r], rfl, hc r hlr⟩
                        rw [hy] at HT
                        have HP := Lib.hid (And.intro hp HQ.out)
                        have hr1 : (r : Int) < (L.length : Int) := by omega
                        have hr0 : (0 : Int) ≤ (r : Int) := by omega
                        clear hc hrow hk1 hk2 hp hy
                        cases hb : (L.take r).any (fun y => y == x) with
                        | true =>
                          rw [hb] at HT
                          clear hb
                          go_wp2_with fail
                          refine wp_region_rel (by kernel_rfl) (by kernel_rfl) (by kernel_rfl) ?_
                          apply RelWalk.rest
                          · kernel_rfl
                          · intro X _ W hW hcl
                            repeat (go_big_quiet_step (fail))
                            exact wpQuiet_nil rfl
                          intro g w11 hg _
                          have HG2 := Lib.hid (HG.out.tr hg)
                          clear HG hg
                          simp only [Spread]
                          go_wp2_with fail
                          go_roundw
                          case rel => exact ⟨r + 1, by omega, by go_num, by rw [HT.out]; rfl, HG2.out⟩
                          case measure => simp [intOf]; omega
                        | false =>
                          rw [hb] at HT
                          clear hb
                          go_wp2_with fail
                          refine wp_region_rel (by kernel_rfl) (by kernel_rfl) (by kernel_rfl) ?_
                          apply RelWalk.rest
                          · kernel_rfl
                          · intro X _ W hW hcl
                            have hp := gcell HG.out HP.out.1
                            have hq := gcell HG.out HP.out.2
                            have k0 := fun q => gcell (hW q) hp
                            have k1 := fun q => gcell (hW q) hq
                            clear hp hq
                            repeat (go_big_quiet_step (fail))
                            exact wpQuiet_nil rfl
                          intro g w11 hg _
                          have HG2 := Lib.hid (HG.out.tr hg)
                          clear HG hg
                          simp only [Spread]
                          go_wp2_with fail
                          go_roundw
                          case rel => exact ⟨r + 1, by omega, by go_num, by rw [HT.out]; rfl, HG2.out⟩
                          case measure => simp [intOf]; omega
                      · obtain rfl : r = L.length := by omega
                        have hlt2 : decide ((L.length : Int) < (L.length : Int)) = false := by simp
                        have hany : ((L.take L.length).any fun y => y == x) = true := by
                          rw [List.take_length, List.any_eq_true]
                          exact ⟨x, HX.out, by simp⟩
                        rw [hany]
                        have H11 := Lib.hid (H9.out.tr HG.out)
                        clear hany HG
                        go_wp2_with fail
                        go_roundw
                        case rel => exact ⟨m + 1, by go_num, H11.out⟩
                        case measure => simp [intOf]; omega
                  · have hlt2 : decide ((m : Int) < (K.length : Int)) = false := by simp; omega
                    go_wp2_with fail
                    go_roundw
                    case rel => exact ⟨n + 1, by omega, by go_num, H10.out⟩
                    case measure => simp [intOf]; omega
              · obtain rfl : n = t.kids.length := by omega
                have hlt2 : decide ((t.kids.length : Int) < (t.kids.length : Int)) = false := by simp
                clear hA8
                go_wp2_with (go_at_call 30; refine (wakes_any _).mono ?_; rintro e w12 ⟨rfl, hb12⟩; have O12 := Lib.hid (O8.out.bel hb12); clear hb12 O8)
                go_ret
                exact ⟨rfl, O12.out.2.2⟩
end Go.Proofs.Ythcjjfgigbgdkaa
