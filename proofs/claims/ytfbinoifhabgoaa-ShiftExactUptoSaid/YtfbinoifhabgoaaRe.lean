/- The page's Check, Scope and Count of a term, as the Go text computes them. Conditions: the sizes. -/
import Derived.Test.YtfbinoifhabgoaaCt
import Derived.Test.YtfbinoifhabgoaaRefD
import Derived.IntWalk
namespace Go.Proofs.Ytfbinoifhabgoaa
open Go.RowKit

set_option maxRecDepth 100000 in
set_option maxHeartbeats 1000000 in
theorem c_rcheck (t : Tm) (hs : size t ≤ 1048576) (w : World) (v : Value) (hA : At w t.kids v) :
    Calls Try.prog 26 #[.agg #[.int .i64 t.k, .int .i64 t.n, v]] w fun e w' => e = .returned (.int .i64 (checkE t)) ∧ Below w.heap.size w w' := by
  obtain ⟨a1, c1, rfl⟩ := hA.shape
  have O0 := Lib.hid (one_start w t _ hA)
  have hF : Hid (∀ W v, At W t.kids v → Calls Try.prog 49 #[.agg #[.int .i64 t.k, .int .i64 t.n, v]] W fun e w' => e = .returned (.bool (formedB t)) ∧ Below W.heap.size W w') := fun W v hA => rformed_any t (by omega) W v hA
  by_cases h1 : 6000 < size t
  · have e1 : (6000 : Int) < (size t : Int) := by omega
    have E := Lib.hid (show checkE t = 4 by rw [checkE, if_pos h1])
    clear h1
    go_enter Try.func26, Try.ntmps26
    go_wp2_with (go_at_call 29; refine (c_rsize t hs _ _ O0.out.2.1).mono ?_; rintro e w1 ⟨rfl, hb1⟩; have O1 := Lib.hid (O0.out.bel hb1); clear hb1)
    go_ret
    exact ⟨ret_int E.out.symm, O1.out.2.2⟩
  have e1 : decide ((6000 : Int) < (size t : Int)) = false := by simp; omega
  by_cases h2 : 200 < depth t
  · have e2 : (200 : Int) < (depth t : Int) := by omega
    have E := Lib.hid (show checkE t = 5 by rw [checkE, if_neg h1, if_pos h2])
    clear h1 h2
    go_enter Try.func26, Try.ntmps26
    go_wp2_with (first | (go_at_call 29; refine (c_rsize t hs _ _ O0.out.2.1).mono ?_; rintro e w1 ⟨rfl, hb1⟩; have O1 := Lib.hid (O0.out.bel hb1); obtain ⟨⟨x0, x1, x2⟩, _⟩ := O1.out; clear hb1) | (go_at_call 28; refine (c_rdepth t hs _ _ O1.out.2.1).mono ?_; rintro e w2 ⟨rfl, hb2⟩; have O2 := Lib.hid (O1.out.bel hb2); clear hb2))
    go_ret
    exact ⟨ret_int E.out.symm, O2.out.2.2⟩
  have e2 : decide ((200 : Int) < (depth t : Int)) = false := by simp; omega
  cases h3 : formedB t with
  | false =>
    have E := Lib.hid (show checkE t = 1 by rw [checkE, if_neg h1, if_neg h2, if_pos h3])
    rw [h3] at hF
    clear h1 h2 h3
    go_enter Try.func26, Try.ntmps26
    go_wp2_with (first | (go_at_call 29; refine (c_rsize t hs _ _ O0.out.2.1).mono ?_; rintro e w1 ⟨rfl, hb1⟩; have O1 := Lib.hid (O0.out.bel hb1); obtain ⟨⟨x0, x1, x2⟩, _⟩ := O1.out; clear hb1) | (go_at_call 28; refine (c_rdepth t hs _ _ O1.out.2.1).mono ?_; rintro e w2 ⟨rfl, hb2⟩; have O2 := Lib.hid (O1.out.bel hb2); obtain ⟨⟨y0, y1, y2⟩, _⟩ := O2.out; clear hb2) | (go_at_call 49; refine (hF.out _ _ O2.out.2.1).mono ?_; rintro e w3 ⟨rfl, hb3⟩; have O3 := Lib.hid (O2.out.bel hb3); clear hb3))
    go_ret
    exact ⟨ret_int E.out.symm, O3.out.2.2⟩
  | true =>
    have E := Lib.hid (show checkE t = 0 by rw [checkE, if_neg h1, if_neg h2, if_neg (by rw [h3]; simp)])
    rw [h3] at hF
    clear h1 h2 h3
    go_enter Try.func26, Try.ntmps26
    go_wp2_with (first | (go_at_call 29; refine (c_rsize t hs _ _ O0.out.2.1).mono ?_; rintro e w1 ⟨rfl, hb1⟩; have O1 := Lib.hid (O0.out.bel hb1); obtain ⟨⟨x0, x1, x2⟩, _⟩ := O1.out; clear hb1) | (go_at_call 28; refine (c_rdepth t hs _ _ O1.out.2.1).mono ?_; rintro e w2 ⟨rfl, hb2⟩; have O2 := Lib.hid (O1.out.bel hb2); obtain ⟨⟨y0, y1, y2⟩, _⟩ := O2.out; clear hb2) | (go_at_call 49; refine (hF.out _ _ O2.out.2.1).mono ?_; rintro e w3 ⟨rfl, hb3⟩; have O3 := Lib.hid (O2.out.bel hb3); clear hb3))
    go_ret
    exact ⟨ret_int E.out.symm, O3.out.2.2⟩

set_option maxRecDepth 100000 in
set_option maxHeartbeats 1600000 in
theorem rcount_any : ∀ (t : Tm), size t ≤ 1048576 → ∀ (n : Int), -1099511627776 ≤ n → n + depth t ≤ 1099511627776 → ∀ (w : World) (v : Value), At w t.kids v →
    Calls Try.prog 41 #[.agg #[.int .i64 t.k, .int .i64 t.n, v], .int .i64 n] w fun e w' => e = .returned (.int .i64 (countT t n)) ∧ Below w.heap.size w w' := by
  refine tm_ind fun t ih => ?_
  intro hs n hn0 hn1 w v hA
  obtain ⟨a1, c1, rfl⟩ := hA.shape
  have hlen : t.kids.length < 2147483648 := by have := length_le_sizeL t.kids; have := size_eq t; omega
  have hlen2 := length_le_sizeL t.kids
  have hse := size_eq t
  have hdt := depth_eq t
  have O0 := Lib.hid (one_start w t _ hA)
  clear hA
  by_cases h1 : t.k = 1
  rotate_left
  · have e1 : (t.k == 1) = false := by simpa using h1
    have HC := Lib.hid (show countT t n = 0 + countL t.kids t.k n 0 by rw [countT_eq, if_neg (fun h => h1 h.1)])
    clear h1
    go_enter Try.func41, Try.ntmps41
    go_wp2_with fail
    revert O0
    generalize w.alloc (.cells #[.int .i64 t.k, .int .i64 t.n, .slice a1 t.kids.length c1] 24) = W0
    intro O0
    go_loopw [5, 6] (fun s i wr => ∃ j : Nat, j ≤ t.kids.length ∧ i = .int .i64 j ∧ s = .int .i64 ((0 + countL (t.kids.take j) t.k n 0 : Nat) : Int) ∧ One w w.heap.size t (.slice a1 t.kids.length c1) wr)
      (fun _ i _ => t.kids.length - (intOf i).toNat)
    case atStart => exact ⟨0, Nat.zero_le _, rfl, by simp [countL], O0.out⟩
    case round =>
      obtain ⟨j, hj, rfl, rfl, hO⟩ := hrel
      have O1 := Lib.hid hO
      obtain ⟨⟨x0, x1, x2⟩, hA1, _⟩ := hO
      clear O0
      by_cases hlt : j < t.kids.length
      · obtain ⟨b, off, cap', vs, he, h1, h2, kk, kn, kv, ks⟩ := hA1.pos (by omega)
        have gk := kk j hlt
        have gn := kn j hlt
        have gv := kv j hlt
        have gs := ks j hlt
        clear kk kn kv ks hA1
        have hbd := bindsI_range t.k j
        have hsz := size_get hlt
        have hde := depth_get hlt
        have hm := List.getElem_mem hlt
        have hw0 : IntKind.i64.wrap (n + bindsI t.k j) = n + bindsI t.k j := IntWalk.i64_in _ (by omega)
        have HI := Lib.hid (fun (W : World) (hW : At W t.kids[j].kids (vs j)) => ih t.kids[j] hm (by omega) (n + bindsI t.k j) (by omega) (by omega) W (vs j) hW)
        have hct := countT_le t.kids[j] (n + bindsI t.k j)
        have hcl := countL_le (t.kids.take j) t.k n 0
        have hst := sizeL_take t.kids j
        have HE := Lib.hid (countL_take_succ hlt t.k n)
        have hcn : countL (t.kids.take j) t.k n 0 ≤ 1048576 := by omega
        have hct2 : countT t.kids[j] (n + bindsI t.k j) ≤ 1048576 := by omega
        have hcp : 0 ≤ (countL (t.kids.take j) t.k n 0 : Int) + (countT t.kids[j] (n + bindsI t.k j) : Int) := by omega
        have hl1 : (j : Int) < (t.kids.length : Int) := by omega
        have hl0 : (0 : Int) ≤ (j : Int) := by omega
        have hl5 : t.kids.length ≤ 1048576 := by omega
        clear ih hs hsz hde hm hse hdt hct hcl hst
        cases he
        go_wp2_with fail
        have HX := Lib.hid (And.intro (And.intro x0 (And.intro x1 x2)) (And.intro (And.intro gk (And.intro gn gv)) gs))
        clear x0 x1 x2 gk gn gv gs
        refine wp_region_rel_tail 14 (by kernel_rfl) (by kernel_rfl) (by kernel_rfl) ?_
        simp only [List.take_succ_cons, List.take_zero, List.drop_succ_cons, List.drop_zero]
        apply RelWalk.rest
        · kernel_rfl
        · intro X _ W hW hcl
          obtain ⟨⟨x0, x1, x2⟩, ⟨gk, gn, gv⟩, gs⟩ := HX.out
          have k0 := fun q => gcell (hW q) x0
          have k1 := fun q => gcell (hW q) x1
          have k2 := fun q => gcell (hW q) x2
          have k3 := fun q => gcell (hW q) gk
          have k4 := fun q => gcell (hW q) gn
          have k5 := fun q => gcell (hW q) gv
          have cB := Lib.hid (fun q => intoSame (W := W) (q := q) (rbinds_any t.k j (W q)))
          have cC := Lib.hid (fun q => into hcl (HI.out (W q) (gs.bel (hW q) (Nat.le_refl _))))
          clear x0 x1 x2 gk gn gv gs
          repeat (go_big_quiet_step (first | (with_reducible exact cB.out _) | (with_reducible exact cC.out _)))
          exact wpQuiet_nil rfl
        intro g w2 hg _
        have O2 := Lib.hid (O1.out.bel hg)
        clear O1 hg
        simp only [Spread]
        go_wp2_with fail
        go_roundw
        case rel => exact ⟨j + 1, by omega, by go_num, by rw [HE.out]; go_num, O2.out⟩
        case measure => simp [intOf]; omega
      · obtain rfl : j = t.kids.length := by omega
        have hlt : decide ((t.kids.length : Int) < (t.kids.length : Int)) = false := by simp
        clear ih hs hse hdt
        go_wp2_with fail
        go_ret
        exact ⟨ret_int (by rw [HC.out, List.take_length]), O1.out.2.2⟩
  have e1 : (t.k == 1) = true := by simpa using h1
  by_cases h2 : t.n = n
  rotate_left
  · have e2 : (t.n == n) = false := by simpa using h2
    have HC := Lib.hid (show countT t n = 0 + countL t.kids t.k n 0 by rw [countT_eq, if_neg (fun h => h2 h.2)])
    clear h1 h2
    go_enter Try.func41, Try.ntmps41
    go_wp2_with fail
    revert O0
    generalize w.alloc (.cells #[.int .i64 t.k, .int .i64 t.n, .slice a1 t.kids.length c1] 24) = W0
    intro O0
    go_loopw [5, 6] (fun s i wr => ∃ j : Nat, j ≤ t.kids.length ∧ i = .int .i64 j ∧ s = .int .i64 ((0 + countL (t.kids.take j) t.k n 0 : Nat) : Int) ∧ One w w.heap.size t (.slice a1 t.kids.length c1) wr)
      (fun _ i _ => t.kids.length - (intOf i).toNat)
    case atStart => exact ⟨0, Nat.zero_le _, rfl, by simp [countL], O0.out⟩
    case round =>
      obtain ⟨j, hj, rfl, rfl, hO⟩ := hrel
      have O1 := Lib.hid hO
      obtain ⟨⟨x0, x1, x2⟩, hA1, _⟩ := hO
      clear O0
      by_cases hlt : j < t.kids.length
      · obtain ⟨b, off, cap', vs, he, h1, h2, kk, kn, kv, ks⟩ := hA1.pos (by omega)
        have gk := kk j hlt
        have gn := kn j hlt
        have gv := kv j hlt
        have gs := ks j hlt
        clear kk kn kv ks hA1
        have hbd := bindsI_range t.k j
        have hsz := size_get hlt
        have hde := depth_get hlt
        have hm := List.getElem_mem hlt
        have hw0 : IntKind.i64.wrap (n + bindsI t.k j) = n + bindsI t.k j := IntWalk.i64_in _ (by omega)
        have HI := Lib.hid (fun (W : World) (hW : At W t.kids[j].kids (vs j)) => ih t.kids[j] hm (by omega) (n + bindsI t.k j) (by omega) (by omega) W (vs j) hW)
        have hct := countT_le t.kids[j] (n + bindsI t.k j)
        have hcl := countL_le (t.kids.take j) t.k n 0
        have hst := sizeL_take t.kids j
        have HE := Lib.hid (countL_take_succ hlt t.k n)
        have hcn : countL (t.kids.take j) t.k n 0 ≤ 1048576 := by omega
        have hct2 : countT t.kids[j] (n + bindsI t.k j) ≤ 1048576 := by omega
        have hcp : 0 ≤ (countL (t.kids.take j) t.k n 0 : Int) + (countT t.kids[j] (n + bindsI t.k j) : Int) := by omega
        have hl1 : (j : Int) < (t.kids.length : Int) := by omega
        have hl0 : (0 : Int) ≤ (j : Int) := by omega
        have hl5 : t.kids.length ≤ 1048576 := by omega
        clear ih hs hsz hde hm hse hdt hct hcl hst
        cases he
        go_wp2_with fail
        have HX := Lib.hid (And.intro (And.intro x0 (And.intro x1 x2)) (And.intro (And.intro gk (And.intro gn gv)) gs))
        clear x0 x1 x2 gk gn gv gs
        refine wp_region_rel_tail 14 (by kernel_rfl) (by kernel_rfl) (by kernel_rfl) ?_
        simp only [List.take_succ_cons, List.take_zero, List.drop_succ_cons, List.drop_zero]
        apply RelWalk.rest
        · kernel_rfl
        · intro X _ W hW hcl
          obtain ⟨⟨x0, x1, x2⟩, ⟨gk, gn, gv⟩, gs⟩ := HX.out
          have k0 := fun q => gcell (hW q) x0
          have k1 := fun q => gcell (hW q) x1
          have k2 := fun q => gcell (hW q) x2
          have k3 := fun q => gcell (hW q) gk
          have k4 := fun q => gcell (hW q) gn
          have k5 := fun q => gcell (hW q) gv
          have cB := Lib.hid (fun q => intoSame (W := W) (q := q) (rbinds_any t.k j (W q)))
          have cC := Lib.hid (fun q => into hcl (HI.out (W q) (gs.bel (hW q) (Nat.le_refl _))))
          clear x0 x1 x2 gk gn gv gs
          repeat (go_big_quiet_step (first | (with_reducible exact cB.out _) | (with_reducible exact cC.out _)))
          exact wpQuiet_nil rfl
        intro g w2 hg _
        have O2 := Lib.hid (O1.out.bel hg)
        clear O1 hg
        simp only [Spread]
        go_wp2_with fail
        go_roundw
        case rel => exact ⟨j + 1, by omega, by go_num, by rw [HE.out]; go_num, O2.out⟩
        case measure => simp [intOf]; omega
      · obtain rfl : j = t.kids.length := by omega
        have hlt : decide ((t.kids.length : Int) < (t.kids.length : Int)) = false := by simp
        clear ih hs hse hdt
        go_wp2_with fail
        go_ret
        exact ⟨ret_int (by rw [HC.out, List.take_length]), O1.out.2.2⟩
  · have e2 : (t.n == n) = true := by simpa using h2
    have HC := Lib.hid (show countT t n = 1 + countL t.kids t.k n 0 by rw [countT_eq, if_pos ⟨h1, h2⟩])
    clear h1 h2
    go_enter Try.func41, Try.ntmps41
    go_wp2_with fail
    revert O0
    generalize w.alloc (.cells #[.int .i64 t.k, .int .i64 t.n, .slice a1 t.kids.length c1] 24) = W0
    intro O0
    go_loopw [5, 6] (fun s i wr => ∃ j : Nat, j ≤ t.kids.length ∧ i = .int .i64 j ∧ s = .int .i64 ((1 + countL (t.kids.take j) t.k n 0 : Nat) : Int) ∧ One w w.heap.size t (.slice a1 t.kids.length c1) wr)
      (fun _ i _ => t.kids.length - (intOf i).toNat)
    case atStart => exact ⟨0, Nat.zero_le _, rfl, by simp [countL], O0.out⟩
    case round =>
      obtain ⟨j, hj, rfl, rfl, hO⟩ := hrel
      have O1 := Lib.hid hO
      obtain ⟨⟨x0, x1, x2⟩, hA1, _⟩ := hO
      clear O0
      by_cases hlt : j < t.kids.length
      · obtain ⟨b, off, cap', vs, he, h1, h2, kk, kn, kv, ks⟩ := hA1.pos (by omega)
        have gk := kk j hlt
        have gn := kn j hlt
        have gv := kv j hlt
        have gs := ks j hlt
        clear kk kn kv ks hA1
        have hbd := bindsI_range t.k j
        have hsz := size_get hlt
        have hde := depth_get hlt
        have hm := List.getElem_mem hlt
        have hw0 : IntKind.i64.wrap (n + bindsI t.k j) = n + bindsI t.k j := IntWalk.i64_in _ (by omega)
        have HI := Lib.hid (fun (W : World) (hW : At W t.kids[j].kids (vs j)) => ih t.kids[j] hm (by omega) (n + bindsI t.k j) (by omega) (by omega) W (vs j) hW)
        have hct := countT_le t.kids[j] (n + bindsI t.k j)
        have hcl := countL_le (t.kids.take j) t.k n 0
        have hst := sizeL_take t.kids j
        have HE := Lib.hid (countL_take_succ hlt t.k n)
        have hcn : countL (t.kids.take j) t.k n 0 ≤ 1048576 := by omega
        have hct2 : countT t.kids[j] (n + bindsI t.k j) ≤ 1048576 := by omega
        have hcp : 0 ≤ (countL (t.kids.take j) t.k n 0 : Int) + (countT t.kids[j] (n + bindsI t.k j) : Int) := by omega
        have hl1 : (j : Int) < (t.kids.length : Int) := by omega
        have hl0 : (0 : Int) ≤ (j : Int) := by omega
        have hl5 : t.kids.length ≤ 1048576 := by omega
        clear ih hs hsz hde hm hse hdt hct hcl hst
        cases he
        go_wp2_with fail
        have HX := Lib.hid (And.intro (And.intro x0 (And.intro x1 x2)) (And.intro (And.intro gk (And.intro gn gv)) gs))
        clear x0 x1 x2 gk gn gv gs
        refine wp_region_rel_tail 14 (by kernel_rfl) (by kernel_rfl) (by kernel_rfl) ?_
        simp only [List.take_succ_cons, List.take_zero, List.drop_succ_cons, List.drop_zero]
        apply RelWalk.rest
        · kernel_rfl
        · intro X _ W hW hcl
          obtain ⟨⟨x0, x1, x2⟩, ⟨gk, gn, gv⟩, gs⟩ := HX.out
          have k0 := fun q => gcell (hW q) x0
          have k1 := fun q => gcell (hW q) x1
          have k2 := fun q => gcell (hW q) x2
          have k3 := fun q => gcell (hW q) gk
          have k4 := fun q => gcell (hW q) gn
          have k5 := fun q => gcell (hW q) gv
          have cB := Lib.hid (fun q => intoSame (W := W) (q := q) (rbinds_any t.k j (W q)))
          have cC := Lib.hid (fun q => into hcl (HI.out (W q) (gs.bel (hW q) (Nat.le_refl _))))
          clear x0 x1 x2 gk gn gv gs
          repeat (go_big_quiet_step (first | (with_reducible exact cB.out _) | (with_reducible exact cC.out _)))
          exact wpQuiet_nil rfl
        intro g w2 hg _
        have O2 := Lib.hid (O1.out.bel hg)
        clear O1 hg
        simp only [Spread]
        go_wp2_with fail
        go_roundw
        case rel => exact ⟨j + 1, by omega, by go_num, by rw [HE.out]; go_num, O2.out⟩
        case measure => simp [intOf]; omega
      · obtain rfl : j = t.kids.length := by omega
        have hlt : decide ((t.kids.length : Int) < (t.kids.length : Int)) = false := by simp
        clear ih hs hse hdt
        go_wp2_with fail
        go_ret
        exact ⟨ret_int (by rw [HC.out, List.take_length]), O1.out.2.2⟩

def countE (t : Tm) (n : Int) : Nat := if 0 ≤ n ∧ n ≤ 65535 then countT t n else 0
set_option maxRecDepth 100000 in
set_option maxHeartbeats 1000000 in
theorem c_rcount (t : Tm) (hs : size t ≤ 1048576) (n : Int) (w : World) (v : Value) (hA : At w t.kids v) :
    Calls Try.prog 17 #[.agg #[.int .i64 t.k, .int .i64 t.n, v], .int .i64 n] w fun e w' => e = .returned (.int .i64 (countE t n)) ∧ Below w.heap.size w w' := by
  obtain ⟨a1, c1, rfl⟩ := hA.shape
  have O0 := Lib.hid (one_start w t _ hA)
  have hI := Lib.hid (fun w => in_any n 0 65535 w)
  clear hA
  by_cases h : 0 ≤ n ∧ n ≤ 65535
  · have E := Lib.hid (show countE t n = countT t n by rw [countE, if_pos h])
    have hds := depth_le_size t
    have HCT := Lib.hid (rcount_any t hs n (by omega) (by omega))
    rw [decide_eq_true h.1, decide_eq_true h.2] at hI
    clear h hds
    go_enter Try.func17, Try.ntmps17
    go_wp2_with (first | (go_at_call 34; refine (hI.out _).mono ?_; rintro e w' ⟨rfl, rfl⟩) | (go_at_call 41; refine (HCT.out _ _ O0.out.2.1).mono ?_; rintro e w2 ⟨rfl, hb2⟩; have O2 := Lib.hid (O0.out.bel hb2); clear hb2))
    go_ret
    exact ⟨ret_int (by rw [E.out]), O2.out.2.2⟩
  · have E := Lib.hid (show countE t n = 0 by rw [countE, if_neg h])
    have hf : (decide (0 ≤ n) && decide (n ≤ 65535)) = false := by rw [Bool.eq_false_iff]; intro hh; simp at hh; exact h hh
    rw [hf] at hI
    clear h hf
    go_enter Try.func17, Try.ntmps17
    go_wp2_with (go_at_call 34; refine (hI.out _).mono ?_; rintro e w' ⟨rfl, rfl⟩)
    go_ret
    exact ⟨ret_int (by rw [E.out]; rfl), O0.out.2.2⟩

end Go.Proofs.Ytfbinoifhabgoaa
