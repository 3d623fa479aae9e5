/- The page's sizeOf, all. No conditions but bounds on integers. -/
import Derived.Test.YtbfefpejcefnhaaPy
import Derived.Test.YtbfefpejcefnhaaMb
import Derived.Test.YtbfefpejcefnhaaSu
import Derived.Test.YtbfefpejcefnhaaPz
namespace Go.Proofs.Ytbfefpejcefnhaa
open Go.RowKit Go Go.Joins
set_option linter.unusedVariables false

set_option maxRecDepth 100000 in
set_option maxHeartbeats 2000000 in
theorem rsz_node (A : List Tm) (S : List Nat) (t : Tm) (h1 : t.k ≠ 1) (ih : ∀ u ∈ t.kids, SzOk A S u) : SzOk A S t := by
  intro hf n w v vs hn0 hn1 hA hS
  obtain ⟨a1, c1, rfl⟩ := hA.shape
  obtain ⟨pa, cp, rfl, p1, p2, p3⟩ := hS
  have hS : RowN w S (.slice pa S.length cp) := ⟨pa, cp, rfl, p1, p2, p3⟩
  rw [formedB_eq, Bool.and_eq_true, Bool.and_eq_true, decide_eq_true_eq] at hf
  obtain ⟨⟨f1, f2⟩, f3⟩ := hf
  have hk3 : kidsI t.k ≤ 3 := by
    unfold kidsI
    split
    · omega
    · split
      · omega
      · split
        · omega
        · split <;> omega
  have hl3 : t.kids.length ≤ 3 := by omega
  have hdt := depth_eq t
  have O0 := Lib.hid (one_start w t _ hA)
  have e1 : (t.k == 1) = false := by simpa using h1
  have HC := Lib.hid (show size (putT A t n) = 1 + sizeL (putL A t.kids t.k n 0) by rw [putT_eq, if_neg (fun h => h1 h.1), if_neg (fun h => h1 h.1), size]; omega)
  have HFL := Lib.hid f3
  have HS := Lib.hid hS
  clear h1 hA f1 f2 f3 hk3 p3 hS
  go_enter Try.func43, Try.ntmps43
  go_wp2_with fail
  revert O0
  generalize w.alloc (.cells #[.int .i64 t.k, .int .i64 t.n, .slice a1 t.kids.length c1] 24) = W0
  intro O0
  go_loopw [7, 8] (fun s i wr => ∃ j : Nat, j ≤ t.kids.length ∧ i = .int .i64 j ∧ s = .int .i64 ((min (1 + sizeL (putL A (t.kids.take j) t.k n 0)) 2199023255552 : Nat) : Int) ∧ One w w.heap.size t (.slice a1 t.kids.length c1) wr)
    (fun _ i _ => t.kids.length - (RowKit.intOf i).toNat)
  case atStart => exact ⟨0, Nat.zero_le _, rfl, by simp [putL, sizeL], O0.out⟩
  case round =>
    obtain ⟨j, hj, rfl, rfl, hO⟩ := hrel
    have O1 := Lib.hid hO
    obtain ⟨⟨x0, x1, x2⟩, hA1, hB1⟩ := hO
    clear O0
    by_cases hlt : j < t.kids.length
    · obtain ⟨b, off, cap', vs, he, h1, h2, kk, kn, kv, ks⟩ := hA1.pos (by omega)
      have gk := kk j hlt
      have gn := kn j hlt
      have gv := kv j hlt
      have gs := ks j hlt
      clear kk kn kv ks hA1
      have hbd := bindsI_range t.k j
      have hde := depth_get hlt
      have hm := List.getElem_mem hlt
      have hw0 : IntKind.i64.wrap (n + bindsI t.k j) = n + bindsI t.k j := IntWalk.i64_in _ (by omega)
      have HI := Lib.hid (fun (W : World) (hW : At W t.kids[j].kids (vs j)) (hR : RowN W S (.slice pa S.length cp)) => ih t.kids[j] hm (formedL_mem HFL.out hm) (n + bindsI t.k j) W (vs j) _ (by omega) (by omega) hW hR)
      have HRW := Lib.hid (fun (W : World) (hW : Below wr.heap.size wr W) => HS.out.bel (hB1.trans (hW.mono hB1.size)) (Nat.le_refl _))
      have HE := Lib.hid (show min (1 + sizeL (putL A (t.kids.take (j + 1)) t.k n 0)) 2199023255552 = min (min (1 + sizeL (putL A (t.kids.take j) t.k n 0)) 2199023255552 + min (size (putT A t.kids[j] (n + bindsI t.k j))) 2199023255552) 2199023255552 by
        rw [putL_take_succ A hlt, sizeL_append, sizeL, sizeL, Nat.add_zero, ← Nat.add_assoc, min_step])
      have ha0 : min (1 + sizeL (putL A (t.kids.take j) t.k n 0)) 2199023255552 ≤ 2199023255552 := Nat.min_le_right _ _
      have hb0 : min (size (putT A t.kids[j] (n + bindsI t.k j))) 2199023255552 ≤ 2199023255552 := Nat.min_le_right _ _
      generalize min (1 + sizeL (putL A (t.kids.take j) t.k n 0)) 2199023255552 = sa at *
      generalize min (size (putT A t.kids[j] (n + bindsI t.k j))) 2199023255552 = sb at *
      have hwab : IntKind.i64.wrap ((sa : Int) + (sb : Int)) = (sa : Int) + sb := IntWalk.i64_in _ (by omega)
      have hl1 : (j : Int) < (t.kids.length : Int) := by omega
      have hl0 : (0 : Int) ≤ (j : Int) := by omega
      clear ih hde hm hdt hB1
      cases he
      go_wp2_with fail
      have HX := Lib.hid (And.intro (And.intro x0 (And.intro x1 x2)) (And.intro (And.intro gk (And.intro gn gv)) gs))
      clear x0 x1 x2 gk gn gv gs
      refine wp_region_rel_tail 14 (by kernel_rfl) (by kernel_rfl) (by kernel_rfl) ?_
      simp only [List.take_succ_cons, List.take_zero, List.drop_succ_cons, List.drop_zero]
      apply RelWalk.rest
      · kernel_rfl
      · intro X _ W hW hcl
        obtain ⟨⟨x0, x1, x2⟩, ⟨gk, gn, gv⟩, gs⟩ := HX.out
        have k0 := fun q => gcell (hW q) x0
        have k1 := fun q => gcell (hW q) x1
        have k2 := fun q => gcell (hW q) x2
        have k3 := fun q => gcell (hW q) gk
        have k4 := fun q => gcell (hW q) gn
        have k5 := fun q => gcell (hW q) gv
        have cB := Lib.hid (fun q => intoSame (W := W) (q := q) (rbinds_any t.k j (W q)))
        have cC := Lib.hid (fun q => into hcl (HI.out (W q) (gs.bel (hW q) (Nat.le_refl _)) (HRW.out (W q) (hW q))))
        clear x0 x1 x2 gk gn gv gs
        repeat (go_big_quiet_step (first | (with_reducible exact cB.out _) | (with_reducible exact cC.out _)))
        exact wpQuiet_nil rfl
      intro g w2 hg _
      have O2 := Lib.hid (O1.out.bel hg)
      clear O1 hg
      simp only [Spread]
      go_wp2_with fail
      go_roundw
      case rel => exact ⟨j + 1, by omega, by go_num, by rw [HE.out]; go_num, O2.out⟩
      case measure => simp [RowKit.intOf]; omega
    · obtain rfl : j = t.kids.length := by omega
      have hlt : decide ((t.kids.length : Int) < (t.kids.length : Int)) = false := by simp
      clear ih hdt
      go_wp2_with fail
      go_ret
      exact ⟨ret_int (by rw [HC.out, List.take_length]), O1.out.2.2⟩
end Go.Proofs.Ytbfefpejcefnhaa
/- The page's sizeOf and SizeOf: what they return for any terms. Conditions: the sizes. -/
namespace Go.Proofs.Ytbfefpejcefnhaa
open Go.RowKit Go Go.Joins
set_option linter.unusedVariables false

theorem Try.infoIntQ : (Try.prog.info? 3).map (fun i => (i.zero, i.size, i.bytes)) = some (some (.int .i64 0), 1, 8) := by kernel_rfl
theorem rsz_any (A : List Tm) (hp : A.length ≤ 65535) (hz : ∀ a ∈ A, size a ≤ 6000) : ∀ t : Tm, SzOk A (A.map size) t := by
  refine tm_ind fun t ih => ?_
  by_cases hk : t.k = 1
  · intro hf f w v vs hf0 hf1 hA hS
    obtain ⟨a, cap, rfl⟩ := hA.shape
    have hput := putT_eq A t f
    rw [formedB_eq, Bool.and_eq_true, Bool.and_eq_true, decide_eq_true_eq] at hf
    obtain ⟨⟨f1, f2⟩, f3⟩ := hf
    have hl0 : t.kids.length = 0 := by rw [hk] at f1; have : kidsI 1 = 0 := by decide
                                       omega
    rw [if_pos hl0, Bool.and_eq_true, decide_eq_true_eq, decide_eq_true_eq] at f2
    have hnil := List.eq_nil_of_length_eq_zero hl0
    rw [hl0, hk]
    refine rsz_leaf t.n f _ f2.1 f2.2 hf0 (by omega) (A.map size) (by simpa using hp) ?_ w a cap vs hS
    rw [hput, List.length_map]
    by_cases h1 : f + A.length ≤ t.n
    · rw [if_pos ⟨hk, h1⟩, if_neg (by omega), hnil, putL, size, sizeL]; rfl
    · rw [if_neg (fun h => h1 h.2)]
      by_cases h2 : f ≤ t.n
      · rw [if_pos ⟨hk, h2⟩, if_pos ⟨h2, by omega⟩]
        have hd : A.length - 1 - (t.n - f).toNat < A.length := by omega
        have := hz _ (arg_mem h2 (by omega : t.n < f + A.length))
        unfold moveT argA at *
        rw [mapT_size, List.getElem?_map, List.getElem?_eq_getElem hd] at *
        simp only [Option.map_some, Option.getD_some] at *
        omega
      · rw [if_neg (fun h => h2 h.2), if_neg (fun h => h2 h.1), hnil, putL, size, sizeL]; rfl
  · exact rsz_node A (A.map size) t hk ih
end Go.Proofs.Ytbfefpejcefnhaa
/- The page's SizeOf: what it returns for any terms and any integer. Conditions: the sizes. -/
namespace Go.Proofs.Ytbfefpejcefnhaa
open Go.RowKit Go Go.Joins
set_option linter.unusedVariables false

theorem ownsN {w : World} {base : Nat} {v : Value} {S : List Nat} (h : w.ownsRow base 3 1 v S.length (S.map (fun s => Value.int .i64 (s : Nat)))) : RowN w S v := by
  rcases h.2 with ⟨rfl, h0⟩ | ⟨g, cap, cur, rfl, hb, hg, h1, h2, h3, htake⟩
  · exact ⟨none, 0, by rw [h0], by omega, by decide, fun i hi => by omega⟩
  · refine ⟨_, cap, rfl, h1, h2, fun i hi => ⟨g, 0, rfl, ?_⟩⟩
    have := h.cellAt i (by omega)
    rw [Nat.zero_add, this]
    simp [hi]
theorem ownsN_keep {w w' : World} {base : Nat} {v : Value} {S : List Nat} (h : w.ownsRow base 3 1 v S.length (S.map (fun s => Value.int .i64 (s : Nat)))) (hb : Below w.heap.size w w') : w'.ownsRow base 3 1 v S.length (S.map (fun s => Value.int .i64 (s : Nat))) :=
  World.ownsRow.kept h (row := none) ⟨hb.os, hb.tape, hb.output, hb.size, fun k hk _ => hb.block k hk⟩ (by cases v.ownBlock <;> simp)
theorem sizeOf_bad {t : Tm} {A : List Tm} {u : Int} (h : ¬ (checkE t = 0 ∧ argsE A = 0 ∧ inR u)) : sizeOfN t A u = 0 := by rw [sizeOfN, if_neg h]

set_option maxRecDepth 100000 in
set_option maxHeartbeats 2000000 in
theorem rsizeof_any (t : Tm) (hs : size t ≤ 1048576) (A : List Tm) (hsA : sizeL A ≤ 1048576) (hp : A.length ≤ 65535) (u : Int) (w : World) (v va : Value) (hA : At w t.kids v) (hAA : At w A va) :
    Calls Try.prog 19 #[.agg #[.int .i64 t.k, .int .i64 t.n, v], va, .int .i64 u] w fun e w' => e = .returned (.int .i64 (sizeOfN t A u : Nat)) ∧ Below w.heap.size w w' := by
  obtain ⟨a, cap, rfl⟩ := hA.shape
  obtain ⟨pa, cp, rfl⟩ := hAA.shape
  have O0 := Lib.hid (one_start w t _ hA)
  have HAA := Lib.hid hAA
  have HA := Lib.hid hA
  have HC := Lib.hid (c_rcheck t hs _ (.slice a t.kids.length cap) O0.out.2.1)
  have HWU := Lib.hid (inr_any u)
  clear hA hAA
  by_cases hc : checkE t = 0
  rotate_left
  · have e1 : (checkE t != 0) = true := by simpa using hc
    have E := Lib.hid (sizeOf_bad (A := A) (u := u) (fun h => hc h.1))
    generalize checkE t = ce at *
    clear hc
    go_enter Try.func19, Try.ntmps19
    go_wp2_with fail
    refine HC.out.mono ?_
    rintro e w1 ⟨rfl, hb1⟩
    have O1 := Lib.hid (O0.out.bel hb1)
    clear hb1
    go_wp2_with fail
    go_ret
    exact ⟨ret_int (by rw [E.out]; rfl), O1.out.2.2⟩
  rw [hc] at HC
  by_cases hu : inR u
  rotate_left
  · rw [decide_eq_false hu] at HWU
    have E := Lib.hid (sizeOf_bad (t := t) (A := A) (fun h => hu h.2.2))
    clear hc hu
    go_enter Try.func19, Try.ntmps19
    go_wp2_with fail
    refine HC.out.mono ?_
    rintro e w1 ⟨rfl, hb1⟩
    have O1 := Lib.hid (O0.out.bel hb1)
    clear hb1
    go_wp2_with fail
    refine (HWU.out _).mono ?_
    rintro e w2 ⟨rfl, rfl⟩
    go_wp2_with fail
    go_ret
    exact ⟨ret_int (by rw [E.out]; rfl), O1.out.2.2⟩
  rw [decide_eq_true hu] at HWU
  go_enter Try.func19, Try.ntmps19
  go_wp2_with fail
  refine HC.out.mono ?_
  rintro e w1 ⟨rfl, hb1⟩
  have O1 := Lib.hid (O0.out.bel hb1)
  have HZ1 := Lib.hid (show w.heap.size + 1 ≤ w1.heap.size by have := hb1.size; simpa using this)
  clear hb1 O0 HC
  go_wp2_with fail
  refine (HWU.out _).mono ?_
  rintro e w2 ⟨rfl, rfl⟩
  clear HWU
  go_wp2_with fail
  go_loopw [7, 8] (fun o i wr => ∃ j : Nat, j ≤ A.length ∧ i = .int .i64 j ∧ (∀ q (hq : q < A.length), q < j → checkE A[q] = 0) ∧ wr.ownsRow (w.heap.size + 1) 3 1 o ((A.take j).map size).length (((A.take j).map size).map (fun s => Value.int .i64 (s : Nat))) ∧ (wr.cell? ⟨w.heap.size, 0, none⟩ = some (.int .i64 t.k) ∧ wr.cell? ⟨w.heap.size, 1, none⟩ = some (.int .i64 t.n) ∧ wr.cell? ⟨w.heap.size, 2, none⟩ = some (.slice a t.kids.length cap)) ∧ Below w.heap.size w wr ∧ w.heap.size + 1 ≤ wr.heap.size)
    (fun _ i _ => A.length - (RowKit.intOf i).toNat)
  case atStart => exact ⟨0, Nat.zero_le _, rfl, fun q hq h => absurd h (Nat.not_lt_zero _), World.ownsRow_nil _ _ _ _, O1.out.1, O1.out.2.2, HZ1.out⟩
  case round =>
    obtain ⟨j, hj, rfl, hck, hrow, hX, hB1, hz1⟩ := hrel
    have HX := Lib.hid hX
    have HR := Lib.hid hrow
    have HCK := Lib.hid hck
    have HB1 := Lib.hid hB1
    clear hrow hck O1 HZ1 hX
    by_cases hlt : j < A.length
    · obtain ⟨b, off, cap', vs, he, h1, h2, kk, kn, kv, ks⟩ := (HAA.out.bel hB1 (Nat.le_refl _)).pos (by omega)
      have gk := kk j hlt
      have gn := kn j hlt
      have gv := kv j hlt
      have gs := ks j hlt
      have hsz := size_get hlt
      have HD : Hid (∀ W, Below wr.heap.size wr W → Calls Try.prog 28 #[.agg #[.int .i64 A[j].k, .int .i64 A[j].n, vs j]] W fun e w' => e = .returned (.int .i64 (checkE A[j])) ∧ Below W.heap.size W w') := fun W hW => c_rcheck A[j] (by omega) W (vs j) (gs.bel hW (Nat.le_refl _))
      have HS : Hid (∀ W, Below wr.heap.size wr W → Calls Try.prog 33 #[.agg #[.int .i64 A[j].k, .int .i64 A[j].n, vs j]] W fun e w' => e = .returned (.int .i64 (size A[j])) ∧ Below W.heap.size W w') := fun W hW => c_rsize A[j] (by omega) W (vs j) (gs.bel hW (Nat.le_refl _))
      have hl1 : (j : Int) < (A.length : Int) := by omega
      have hl0 : (0 : Int) ≤ (j : Int) := by omega
      have HG := Lib.hid (And.intro gk (And.intro gn gv))
      clear kk kn kv ks gs hB1 hsz gk gn gv
      cases he
      obtain ⟨y0, y1, y2⟩ := HG.out
      by_cases hcj : checkE A[j] = 0
      · rw [hcj] at HD
        have HH := Lib.hid hcj
        clear hcj
        go_wp2_with (go_at_call 28; refine (HD.out _ (Below.refl _ _)).mono ?_; rintro e w3 ⟨rfl, hb3⟩; replace y0 := gcell hb3 y0; replace y1 := gcell hb3 y1; replace y2 := gcell hb3 y2)
        have HE := Lib.hid (show (A.take (j + 1)).map size = (A.take j).map size ++ [size A[j]] by rw [List.take_succ_eq_append_getElem hlt, List.map_append]; rfl)
        have HSL := Lib.hid (show ((A.take j).map size).length = j by simp; omega)
        refine (HS.out _ hb3).mono ?_
        rintro e w4 ⟨rfl, hb4⟩
        have hb34 := hb3.trans (hb4.mono hb3.size)
        have HR4 := Lib.hid (ownsN_keep HR.out hb34)
        have hz4 := hb34.size
        have HX4 := Lib.hid (show Below wr.heap.size wr w4 from hb34)
        clear HR HS HD HG y0 y1 y2 hb3 hb4 hb34
        generalize (A.take j).map size = S at *
        generalize size A[j] = sz at *
        have hm1 : S.length + 1 ≤ maxLen := by have := HSL.out; unfold maxLen; omega
        have hm2 : (S.length + 1) * 8 ≤ 140737488355328 := by have := HSL.out; omega
        obtain ⟨i0, hi, hz0, hz1', hz2⟩ := info_parts Try.infoIntQ
        go_wp2_with (at_builtin; refine wpList_append_lies _ rfl (.tmp 29) (.tmp 35) 59 rfl (w.heap.size + 1) 3 i0 _ 1 8 Try.underlying59 hi hz0 hz1' hz2 rfl (by decide) u7 _ _ rfl (HR4.out.alloc _) ⟨w4.heap.size, 0, none⟩ 1 1 [.int .i64 (sz : Nat)] rfl rfl (by have := World.news_of_block (World.alloc_heap_new w4 (.cells #[.int .i64 (sz : Nat)] 3)); simpa using this) (by simp [Value.oneCell']) (by decide) hm1 hm2 (by simp; omega) (w4.heap.size + 1) (by simp) ?_; intro g cp' w7 hown7 hgrow7 hat7 hlt7)
        go_roundw
        case rel =>
          have hb7 : Below (w.heap.size + 1) w4 w7 := ((Below.refl (w.heap.size + 1) w4).alloc (by omega) _).grown hgrow7 (by simp; omega) (fun k hk => (HR4.out.lt k hk).1)
          have hb47 : Below (w.heap.size + 1) wr w7 := (HX4.out.mono (by omega)).trans hb7
          have e2 : (S ++ [sz]).length = S.length + 1 := by simp
          have c := HX.out
          refine ⟨j + 1, by omega, by go_num, fun q hq h => ?_, by rw [HE.out, e2]; simpa using hown7, ?_, HB1.out.trans (hb47.mono (Nat.le_succ _)), by have := hb47.size; omega⟩
          · by_cases hqj : q < j
            · exact HCK.out q hq hqj
            · obtain rfl : q = j := by omega
              exact HH.out
          · exact ⟨(hb47.cell (by dsimp only; omega)).trans c.1, (hb47.cell (by dsimp only; omega)).trans c.2.1, (hb47.cell (by dsimp only; omega)).trans c.2.2⟩
        case measure => simp [RowKit.intOf]; omega
      · have e1 : (checkE A[j] != 0) = true := by simpa using hcj
        have E := Lib.hid (sizeOf_bad (t := t) (A := A) (u := u) (fun h => hcj (argsE_ok.1 h.2.1 _ (List.getElem_mem hlt))))
        generalize checkE A[j] = ce at *
        clear hcj
        go_wp2_with (go_at_call 28; refine (HD.out _ (Below.refl _ _)).mono ?_; rintro e w3 ⟨rfl, hb3⟩)
        go_ret
        exact ⟨ret_int (by rw [E.out]; rfl), HB1.out.trans (hb3.mono HB1.out.size)⟩
    · obtain rfl : j = A.length := by omega
      have hlt1 : decide ((A.length : Int) < (A.length : Int)) = false := by simp
      obtain ⟨x0, x1, x2⟩ := HX.out
      have hsA0 : argsE A = 0 := argsE_ok.2 fun a ha => by
        obtain ⟨q, hq, rfl⟩ := List.mem_iff_getElem.1 ha
        exact HCK.out q hq hq
      have hck := check_parts hc
      have hzA : ∀ a ∈ A, size a ≤ 6000 := fun a ha => check_size (argsE_ok.1 hsA0 a ha)
      have HE := Lib.hid (show sizeOfN t A u = min (size (putT A t u)) 1099511627776 by rw [sizeOfN, if_pos ⟨hc, hsA0, hu⟩])
      have hrw := HR.out
      rw [List.take_length] at hrw
      have HZ := Lib.hid (rsz_any A hp hzA t hck.2.2 u wr _ _ hu.1 (by have := hu.2; omega) (HA.out.bel hB1 (Nat.le_refl _)) (ownsN hrw))
      clear hrw hzA hck hsA0 hc hu HCK
      go_wp2_with (go_at_call 43; refine HZ.out.mono ?_; rintro e w3 ⟨rfl, hb3⟩)
      · go_ret
        exact ⟨ret_int (by rw [HE.out]; omega), HB1.out.trans (hb3.mono HB1.out.size)⟩
      · go_ret
        exact ⟨ret_int (by rw [HE.out]; omega), HB1.out.trans (hb3.mono HB1.out.size)⟩
end Go.Proofs.Ytbfefpejcefnhaa
/- The page's beyond: whether a shift of what is put in would go beyond. No conditions but bounds on integers. -/
namespace Go.Proofs.Ytbfefpejcefnhaa
open Go.RowKit Go Go.Joins
set_option linter.unusedVariables false

def ByOk (A : List Tm) (t : Tm) : Prop := formedB t = true → ∀ (f : Int) (w : World) (v va : Value), 0 ≤ f → f + depth t ≤ 1000000 → At w t.kids v → At w A va →
    Calls Try.prog 41 #[.agg #[.int .i64 t.k, .int .i64 t.n, v], va, .int .i64 f] w fun e w' => e = .returned (.bool (putO A t f)) ∧ Below w.heap.size w w'

set_option maxRecDepth 100000 in
set_option maxHeartbeats 2000000 in
theorem rby_out (n u : Int) (p : Nat) (hn0 : 0 ≤ n) (hn1 : n ≤ 65535) (hu : 0 ≤ u) (hu1 : u ≤ 1000000) (hp : p ≤ 65535) (h : n < u ∨ (u ≤ n ∧ u + p ≤ n)) (w : World) (a pa : Option Addr) (cap cp : Nat) :
    Calls Try.prog 41 #[.agg #[.int .i64 1, .int .i64 n, .slice a 0 cap], .slice pa p cp, .int .i64 u] w fun e w' => e = .returned (.bool false) ∧ Below w.heap.size w w' := by
  have hw2 : IntKind.i64.wrap (n - u) = n - u := IntWalk.i64_in _ (by omega)
  have HB := Lib.hid (below_al w (.cells #[.int .i64 1, .int .i64 n, .slice a 0 cap] 24))
  rcases h with h | ⟨h1, h2⟩
  · go_enter Try.func41, Try.ntmps41
    go_wp2_with fail
    go_loopw [9] (fun i wr => i = .int .i64 0 ∧ wr = w.alloc (.cells #[.int .i64 1, .int .i64 n, .slice a 0 cap] 24)) (fun _ _ => 0)
    case atStart => exact ⟨rfl, rfl⟩
    case round =>
      obtain ⟨rfl, rfl⟩ := hrel
      go_wp2_with fail
      go_ret
      exact ⟨rfl, HB.out⟩
  · have h3 : (p : Int) ≤ n - u := by omega
    clear h2
    go_enter Try.func41, Try.ntmps41
    go_wp2_with fail
    go_loopw [9] (fun i wr => i = .int .i64 0 ∧ wr = w.alloc (.cells #[.int .i64 1, .int .i64 n, .slice a 0 cap] 24)) (fun _ _ => 0)
    case atStart => exact ⟨rfl, rfl⟩
    case round =>
      obtain ⟨rfl, rfl⟩ := hrel
      go_wp2_with fail
      go_ret
      exact ⟨rfl, HB.out⟩

set_option maxRecDepth 100000 in
set_option maxHeartbeats 2000000 in
theorem rby_arg (A : List Tm) (n u : Int) (hn0 : 0 ≤ n) (hn1 : n ≤ 65535) (hu : 0 ≤ u) (hp : A.length ≤ 65535) (h1 : u ≤ n) (h2 : n < u + A.length) (w : World) (a : Option Addr) (cap : Nat) (va : Value) (hA : At w A va) (hF : formedL A = true) (hD : depthL A ≤ 900000) :
    Calls Try.prog 41 #[.agg #[.int .i64 1, .int .i64 n, .slice a 0 cap], va, .int .i64 u] w fun e w' => e = .returned (.bool (overB (moveT (argA A u n) u 0))) ∧ Below w.heap.size w w' := by
  have hw1 : IntKind.i64.wrap ((A.length : Int) - 1) = A.length - 1 := IntWalk.i64_in _ (by omega)
  have hw2 : IntKind.i64.wrap (n - u) = n - u := IntWalk.i64_in _ (by omega)
  have hw3 : IntKind.i64.wrap ((A.length : Int) - 1 - (n - u)) = A.length - 1 - (n - u) := IntWalk.i64_in _ (by omega)
  have h3 : n - u < (A.length : Int) := by omega
  obtain ⟨d, hd⟩ : ∃ d : Nat, (A.length : Int) - 1 - (n - u) = (d : Int) := ⟨A.length - 1 - (n - u).toNat, by omega⟩
  have hdl : d < A.length := by omega
  have hga : argA A u n = A[d] := by unfold argA; rw [show A.length - 1 - (n - u).toNat = d by omega, List.getElem?_eq_getElem hdl]; rfl
  obtain ⟨pa, cp, rfl⟩ := hA.shape
  obtain ⟨bk, ok, ck, vk, he, b1, b2, kk, kn, kv, ks⟩ := hA.pos (by omega)
  have k0 := kk d hdl
  have k1 := kn d hdl
  have k2 := kv d hdl
  have k3 := ks d hdl
  obtain ⟨au, cu, hvu⟩ := k3.shape
  rw [hvu] at k2 k3
  have hfd := formedL_mem hF (List.getElem_mem hdl)
  have hdj : depth A[d] ≤ depthL A := depth_get hdl
  have hm := rmove_any u hu (by omega) A[d] hfd 0
  rw [hga]
  unfold moveT
  generalize mapT (mv u) A[d] 0 = R at *
  rw [hd] at hw3
  cases he
  have d0 : (0 : Int) ≤ (d : Int) := by omega
  have d1 : (d : Int) < (A.length : Int) := by omega
  obtain ⟨W0, hW0⟩ : ∃ W0, W0 = w.alloc (.cells #[.int .i64 1, .int .i64 n, .slice a 0 cap] 24) := ⟨_, rfl⟩
  have hB : Below w.heap.size w W0 := by rw [hW0]; exact below_al w _
  replace k0 := gcell hB k0
  replace k1 := gcell hB k1
  replace k2 := gcell hB k2
  replace k3 := k3.bel hB (Nat.le_refl _)
  have HM2 := Lib.hid (hm W0 _ (Int.le_refl 0) (by omega) k3)
  have HB := Lib.hid hB
  rw [hW0] at k0 k1 k2
  clear hm hga kk kn kv ks hfd hdj hB
  go_enter Try.func41, Try.ntmps41
  go_wp2_with fail
  rw [← hW0]
  refine HM2.out.mono ?_
  rintro e w' ⟨a4, c4, rfl, hK4, hb5⟩
  have hs0 : w.heap.size ≤ W0.heap.size := HB.out.size
  have hz5 := hb5.size
  have HB5 := Lib.hid (HB.out.trans (hb5.mono HB.out.size))
  clear k0 k1 k2 k3 hK4 hb5 hW0 HM2 hA hw1 hw2 hw3
  go_wp2_with fail
  go_ret
  exact ⟨rfl, HB5.out.alloc (by omega) _⟩

set_option maxRecDepth 100000 in
set_option maxHeartbeats 2000000 in
theorem rby_node (A : List Tm) (t : Tm) (h1 : t.k ≠ 1) (ih : ∀ u ∈ t.kids, ByOk A u) : ByOk A t := by
  intro hf n w v va hn0 hn1 hA hAA
  obtain ⟨a1, c1, rfl⟩ := hA.shape
  obtain ⟨pa, cp, rfl⟩ := hAA.shape
  rw [formedB_eq, Bool.and_eq_true, Bool.and_eq_true, decide_eq_true_eq] at hf
  obtain ⟨⟨f1, f2⟩, f3⟩ := hf
  have hk3 : kidsI t.k ≤ 3 := by
    unfold kidsI
    split
    · omega
    · split
      · omega
      · split
        · omega
        · split <;> omega
  have hl3 : t.kids.length ≤ 3 := by omega
  have hdt := depth_eq t
  have O0 := Lib.hid (one_start w t _ hA)
  have e1 : (t.k == 1) = false := by simpa using h1
  have HC := Lib.hid (show putO A t n = putOL A t.kids t.k n 0 by rw [putO_eq, if_neg (fun h => h1 h.1), if_neg (fun h => h1 h.1)])
  have HFL := Lib.hid f3
  have HS := Lib.hid hAA
  clear h1 hA f1 f2 f3 hk3 hAA
  go_enter Try.func41, Try.ntmps41
  go_wp2_with fail
  revert O0
  generalize w.alloc (.cells #[.int .i64 t.k, .int .i64 t.n, .slice a1 t.kids.length c1] 24) = W0
  intro O0
  go_loopw [9] (fun i wr => ∃ j : Nat, j ≤ t.kids.length ∧ i = .int .i64 j ∧ putOL A (t.kids.take j) t.k n 0 = false ∧ One w w.heap.size t (.slice a1 t.kids.length c1) wr)
    (fun i _ => t.kids.length - (RowKit.intOf i).toNat)
  case atStart => exact ⟨0, Nat.zero_le _, rfl, by simp [putOL], O0.out⟩
  case round =>
    obtain ⟨j, hj, rfl, hno, hO⟩ := hrel
    have O1 := Lib.hid hO
    have HNO := Lib.hid hno
    obtain ⟨⟨x0, x1, x2⟩, hA1, hB1⟩ := hO
    clear O0 hno
    by_cases hlt : j < t.kids.length
    · obtain ⟨b, off, cap', vs, he, h1, h2, kk, kn, kv, ks⟩ := hA1.pos (by omega)
      have gk := kk j hlt
      have gn := kn j hlt
      have gv := kv j hlt
      have gs := ks j hlt
      clear kk kn kv ks hA1
      have hbd := bindsI_range t.k j
      have hde := depth_get hlt
      have hm := List.getElem_mem hlt
      have hw0 : IntKind.i64.wrap (n + bindsI t.k j) = n + bindsI t.k j := IntWalk.i64_in _ (by omega)
      have HI := Lib.hid (fun (W : World) (hW : At W t.kids[j].kids (vs j)) (hR : At W A (.slice pa A.length cp)) => ih t.kids[j] hm (formedL_mem HFL.out hm) (n + bindsI t.k j) W (vs j) _ (by omega) (by omega) hW hR)
      have HRW := Lib.hid (fun (W : World) (hW : Below wr.heap.size wr W) => HS.out.bel (hB1.trans (hW.mono hB1.size)) (Nat.le_refl _))
      have HE := Lib.hid (putOL_take_succ A hlt t.k n)
      have HTR := Lib.hid (show putO A t.kids[j] (n + bindsI t.k j) = true → putO A t n = true from fun h => by
        have h1 := putOL_take_succ A hlt t.k n
        rw [h, Bool.or_true] at h1
        have h2 := putOL_append A (t.kids.take (j + 1)) (t.kids.drop (j + 1)) t.k n 0
        rw [List.take_append_drop, h1, Bool.true_or] at h2
        rw [HC.out, h2])
      generalize putO A t.kids[j] (n + bindsI t.k j) = oj at *
      have hl1 : (j : Int) < (t.kids.length : Int) := by omega
      have hl0 : (0 : Int) ≤ (j : Int) := by omega
      clear ih hde hm hdt hB1
      cases he
      go_wp2_with fail
      have HX := Lib.hid (And.intro (And.intro x0 (And.intro x1 x2)) (And.intro (And.intro gk (And.intro gn gv)) gs))
      clear x0 x1 x2 gk gn gv gs
      refine wp_region_rel (by kernel_rfl) (by kernel_rfl) (by kernel_rfl) ?_
      apply RelWalk.rest
      · kernel_rfl
      · intro X _ W hW hcl
        obtain ⟨⟨x0, x1, x2⟩, ⟨gk, gn, gv⟩, gs⟩ := HX.out
        have k0 := fun q => gcell (hW q) x0
        have k1 := fun q => gcell (hW q) x1
        have k2 := fun q => gcell (hW q) x2
        have k3 := fun q => gcell (hW q) gk
        have k4 := fun q => gcell (hW q) gn
        have k5 := fun q => gcell (hW q) gv
        have cB := Lib.hid (fun q => intoSame (W := W) (q := q) (rbinds_any t.k j (W q)))
        have cC := Lib.hid (fun q => into hcl (HI.out (W q) (gs.bel (hW q) (Nat.le_refl _)) (HRW.out (W q) (hW q))))
        clear x0 x1 x2 gk gn gv gs
        repeat (go_big_quiet_step (first | (with_reducible exact cB.out _) | (with_reducible exact cC.out _)))
        exact wpQuiet_nil rfl
      intro g w2 hg _
      have O2 := Lib.hid (O1.out.bel hg)
      clear O1 hg
      simp only [Spread]
      cases oj with
      | true =>
        have HT := Lib.hid (HTR.out rfl)
        go_wp2_with fail
        go_ret
        exact ⟨ret_bool HT.out.symm, O2.out.2.2⟩
      | false =>
        go_wp2_with fail
        go_roundw
        case rel => exact ⟨j + 1, by omega, by go_num, by rw [HE.out, HNO.out]; rfl, O2.out⟩
        case measure => simp [RowKit.intOf]; omega
    · obtain rfl : j = t.kids.length := by omega
      have hlt : decide ((t.kids.length : Int) < (t.kids.length : Int)) = false := by simp
      clear ih hdt
      go_wp2_with fail
      go_ret
      exact ⟨ret_bool (by rw [HC.out]; have := HNO.out; rw [List.take_length] at this; exact this.symm), O1.out.2.2⟩
theorem rby_any (A : List Tm) (hF : formedL A = true) (hp : A.length ≤ 65535) (hD : depthL A ≤ 900000) : ∀ t : Tm, ByOk A t := by
  refine tm_ind fun t ih => ?_
  by_cases hk : t.k = 1
  · intro hf f w v va hf0 hf1 hA hAA
    obtain ⟨a, cap, rfl⟩ := hA.shape
    rw [formedB_eq, Bool.and_eq_true, Bool.and_eq_true, decide_eq_true_eq] at hf
    obtain ⟨⟨f1, f2⟩, f3⟩ := hf
    have hl0 : t.kids.length = 0 := by rw [hk] at f1; have : kidsI 1 = 0 := by decide
                                       omega
    rw [if_pos hl0, Bool.and_eq_true, decide_eq_true_eq, decide_eq_true_eq] at f2
    have hnil := List.eq_nil_of_length_eq_zero hl0
    have hpo := putO_eq A t f
    by_cases h1 : f + A.length ≤ t.n
    · rw [if_pos ⟨hk, h1⟩] at hpo
      rw [hpo, hl0, hk]
      obtain ⟨pa, cp, rfl⟩ := hAA.shape
      exact rby_out t.n f A.length f2.1 f2.2 hf0 (by omega) hp (.inr ⟨by omega, h1⟩) w a pa cap cp
    · rw [if_neg (fun h => h1 h.2)] at hpo
      by_cases h2 : f ≤ t.n
      · rw [if_pos ⟨hk, h2⟩] at hpo
        rw [hpo, hl0, hk]
        exact rby_arg A t.n f f2.1 f2.2 hf0 hp h2 (by omega) w a cap va hAA hF hD
      · rw [if_neg (fun h => h2 h.2), hnil, putOL] at hpo
        rw [hpo, hl0, hk]
        obtain ⟨pa, cp, rfl⟩ := hAA.shape
        exact rby_out t.n f A.length f2.1 f2.2 hf0 (by omega) hp (.inl (by omega)) w a pa cap cp
  · exact rby_node A t hk ih
end Go.Proofs.Ytbfefpejcefnhaa
/- The page's Inst: what it returns for any terms and any integer. Conditions: the sizes. -/
namespace Go.Proofs.Ytbfefpejcefnhaa
open Go.RowKit Go Go.Joins
set_option linter.unusedVariables false

theorem formedL_of {A : List Tm} (h : ∀ a ∈ A, formedB a = true) : formedL A = true := by
  induction A with
  | nil => rfl
  | cons a A ih => rw [formedL, h a List.mem_cons_self, ih fun x hx => h x (List.mem_cons_of_mem _ hx)]; rfl
theorem depthL_all {A : List Tm} {d : Nat} (h : ∀ a ∈ A, depth a ≤ d) : depthL A ≤ d := by
  induction A with
  | nil => simp [depthL]
  | cons a A ih =>
    have h1 := h a List.mem_cons_self
    have h2 := ih fun x hx => h x (List.mem_cons_of_mem _ hx)
    rw [depthL]
    omega
theorem instT_bad {t : Tm} {A : List Tm} {u e : Int} (h : instE t A u = e) (he : e ≠ 0) : instT t A u = noT := by rw [instT, if_neg (by rw [h]; exact he)]

set_option maxRecDepth 100000 in
set_option maxHeartbeats 3000000 in
theorem rinst_any (t : Tm) (hs : size t ≤ 1048576) (A : List Tm) (hsA : sizeL A ≤ 1048576) (hp : A.length ≤ 65535) (u : Int) (w : World) (v va : Value) (hA : At w t.kids v) (hAA : At w A va) :
    Calls Try.prog 16 #[.agg #[.int .i64 t.k, .int .i64 t.n, v], va, .int .i64 u] w (TellS w (instT t A u) (.int .i64 (instE t A u))) := by
  obtain ⟨a, cap, rfl⟩ := hA.shape
  obtain ⟨pa, cp, rfl⟩ := hAA.shape
  have HB := Lib.hid (start2 w t a cap hA)
  have HC := Lib.hid (c_rcheck t hs _ (.slice a t.kids.length cap) (HB.out _ (Below.refl _ _)).2.2.1)
  have HAA := Lib.hid hAA
  clear hA hAA
  by_cases hc : checkE t = 0
  rotate_left
  · have e1 : (checkE t != 0) = true := by simpa using hc
    have hE : instE t A u = checkE t := by rw [instE, if_pos hc]
    rw [instT_bad hE hc, hE]
    generalize checkE t = ce at *
    clear hE hc
    go_enter Try.func16, Try.ntmps16
    go_wp2_with fail
    refine HC.out.mono ?_
    rintro e w1 ⟨rfl, hb1⟩
    obtain ⟨⟨x0, x1, x2⟩, x5, x6, x7, x8⟩ := HB.out w1 hb1
    obtain ⟨⟨c0, c1, c2⟩, g0, g1, g2⟩ := boxc x5
    have X7 := Lib.hid x7
    clear hb1 x6 x5 x7
    go_wp2_with fail
    exact bodyPost_ret (v := .tuple #[.agg #[.int .i64 0, .int .i64 0, .slice none 0 0], .int .i64 ce]) (by simp [results, Try.f16, go_sem, c0, c1, c2]) rfl (TellS.no _ (X7.out.trans (below_store3 (by omega) _ _ _)))
  rw [hc] at HC
  go_enter Try.func16, Try.ntmps16
  go_wp2_with fail
  refine HC.out.mono ?_
  rintro e w1 ⟨rfl, hb1⟩
  have HW := Lib.hid (fun W' (h : Below w1.heap.size w1 W') => HB.out W' (hb1.trans (h.mono hb1.size)))
  clear hb1 HB HC
  obtain ⟨⟨x0, x1, x2⟩, _⟩ := HW.out _ (Below.refl _ _)
  go_wp2_with fail
  clear x0 x1 x2
  go_loopw [9] (fun i wr => ∃ j : Nat, j ≤ A.length ∧ i = .int .i64 j ∧ (∀ q (hq : q < A.length), q < j → checkE A[q] = 0) ∧ Below w1.heap.size w1 wr)
    (fun i _ => A.length - (RowKit.intOf i).toNat)
  case atStart => exact ⟨0, Nat.zero_le _, rfl, fun q hq h => absurd h (Nat.not_lt_zero _), Below.refl _ _⟩
  case round =>
    obtain ⟨j, hj, rfl, hck, hbr⟩ := hrel
    have HCK := Lib.hid hck
    have HBR := Lib.hid hbr
    obtain ⟨⟨x0, x1, x2⟩, x5, x6, x7, x8⟩ := HW.out _ hbr
    have X5 := Lib.hid x5
    have X6 := Lib.hid x6
    have X7 := Lib.hid x7
    clear hck hbr x5 x6
    by_cases hlt : j < A.length
    · obtain ⟨b, off, cap', vs, he, h1, h2, kk, kn, kv, ks⟩ := (HAA.out.bel x7 (Nat.le_refl _)).pos (by omega)
      have gk := kk j hlt
      have gn := kn j hlt
      have gv := kv j hlt
      have gs := ks j hlt
      have hsz := size_get hlt
      have HD : Hid (Calls Try.prog 28 #[.agg #[.int .i64 A[j].k, .int .i64 A[j].n, vs j]] wr fun e w' => e = .returned (.int .i64 (checkE A[j])) ∧ Below wr.heap.size wr w') := c_rcheck A[j] (by omega) wr (vs j) gs
      have hl1 : (j : Int) < (A.length : Int) := by omega
      have hl0 : (0 : Int) ≤ (j : Int) := by omega
      clear kk kn kv ks gs x7 hsz
      cases he
      by_cases hcj : checkE A[j] = 0
      · rw [hcj] at HD
        have HH := Lib.hid hcj
        clear hcj
        go_wp2_with (go_at_call 28; refine HD.out.mono ?_; rintro e w3 ⟨rfl, hb3⟩)
        go_roundw
        case rel =>
          refine ⟨j + 1, by omega, by go_num, fun q hq h => ?_, HBR.out.trans (hb3.mono HBR.out.size)⟩
          by_cases hqj : q < j
          · exact HCK.out q hq hqj
          · obtain rfl : q = j := by omega
            exact HH.out
        case measure => simp [RowKit.intOf]; omega
      · have e1 : (checkE A[j] != 0) = true := by simpa using hcj
        have hE : instE t A u = checkE A[j] := by
          have hf := argsE_first hlt (fun i hi => HCK.out i (by omega) hi) hcj
          rw [instE, if_neg (by simpa using hc), if_pos (by rw [hf]; exact hcj), hf]
        have HT := Lib.hid (instT_bad hE hcj)
        have HE := Lib.hid hE
        generalize checkE A[j] = ce at *
        clear hE hcj
        go_wp2_with fail
        refine HD.out.mono ?_
        rintro e w3 ⟨rfl, hb3⟩
        obtain ⟨⟨c0, c1, c2⟩, g0, g1, g2⟩ := boxc ((hb3.block (w.heap.size + 1) (by omega)).trans X5.out)
        have HB3 := Lib.hid hb3
        have hz3 := hb3.size
        clear hb3
        go_wp2_with fail
        exact bodyPost_ret (v := .tuple #[.agg #[.int .i64 0, .int .i64 0, .slice none 0 0], .int .i64 ce]) (by simp [results, Try.f16, go_sem, c0, c1, c2]) rfl (by rw [HT.out, HE.out]; exact TellS.no _ ((X7.out.trans (HB3.out.mono X7.out.size)).trans (below_store3 (by omega) _ _ _)))
    · obtain rfl : j = A.length := by omega
      have hlt1 : decide ((A.length : Int) < (A.length : Int)) = false := by simp
      have hA0 : argsE A = 0 := argsE_ok.2 fun a ha => by
        obtain ⟨q, hq, rfl⟩ := List.mem_iff_getElem.1 ha
        exact HCK.out q hq hq
      have HU := Lib.hid (inr_any u)
      clear hlt HCK hj
      by_cases hu : inR u
      rotate_left
      · rw [decide_eq_false hu] at HU
        have hE : instE t A u = 1 := by rw [instE, if_neg (by simpa using hc), if_neg (by simpa using hA0), if_pos hu]
        have HT := Lib.hid (instT_bad hE (by decide))
        have HE := Lib.hid hE
        obtain ⟨⟨c0, c1, c2⟩, g0, g1, g2⟩ := boxc X5.out
        clear hE hc hA0 hu x7
        go_wp2_with fail
        refine (HU.out _).mono ?_
        rintro e w2 ⟨rfl, rfl⟩
        go_wp2_with fail
        exact bodyPost_ret (v := .tuple #[.agg #[.int .i64 0, .int .i64 0, .slice none 0 0], .int .i64 1]) (by simp [results, Try.f16, go_sem, c0, c1, c2]) rfl (by rw [HT.out, HE.out]; exact TellS.no _ (X7.out.trans (below_store3 (by omega) _ _ _)))
      rw [decide_eq_true hu] at HU
      have hck := check_parts hc
      have hpA : ∀ a ∈ A, size a ≤ 6000 ∧ depth a ≤ 200 ∧ formedB a = true := fun a ha => check_parts (argsE_ok.1 hA0 a ha)
      have hfA : formedL A = true := formedL_of fun a ha => (hpA a ha).2.2
      have hdA : depthL A ≤ 900000 := Nat.le_trans (depthL_all fun a ha => (hpA a ha).2.1) (by omega)
      have hE := inst_in hc hA0 hu
      have HSZ := Lib.hid (rsizeof_any t hs A hsA hp u wr (.slice a t.kids.length cap) (.slice pa A.length cp) X6.out (HAA.out.bel x7 (Nat.le_refl _)))
      have hSN : sizeOfN t A u = min (size (putT A t u)) 1099511627776 := by rw [sizeOfN, if_pos ⟨hc, hA0, hu⟩]
      rw [hSN] at HSZ
      have HBY := Lib.hid (fun W (h : Below wr.heap.size wr W) => rby_any A hfA hp hdA t hck.2.2 u W (.slice a t.kids.length cap) (.slice pa A.length cp) hu.1 (by have := hu.2; omega) (X6.out.bel h (Nat.le_refl _)) (HAA.out.bel (x7.trans (h.mono x7.size)) (Nat.le_refl _)))
      have HPT := Lib.hid (fun W (h : Below wr.heap.size wr W) => rput_any A hfA hp hdA t hck.2.2 u W (.slice a t.kids.length cap) (.slice pa A.length cp) hu.1 (by have := hu.2; omega) (X6.out.bel h (Nat.le_refl _)) (HAA.out.bel (x7.trans (h.mono x7.size)) (Nat.le_refl _)))
      clear hck hpA hfA hdA hSN hc hA0 hu HAA
      by_cases hbig : 6000 < size (putT A t u)
      · have hb2 : (6000 : Int) < ((min (size (putT A t u)) 1099511627776 : Nat) : Int) := by omega
        rw [if_pos hbig] at hE
        generalize min (size (putT A t u)) 1099511627776 = sz at *
        clear HPT hbig
        cases hov : putO A t u with
        | true =>
          rw [if_pos hov] at hE
          have HT := Lib.hid (instT_bad hE (by decide))
          have HE := Lib.hid hE
          rw [hov] at HBY
          clear hE hov x7
          go_wp2_with fail
          refine (HU.out _).mono ?_
          rintro e w2 ⟨rfl, rfl⟩
          go_wp2_with fail
          refine HSZ.out.mono ?_
          rintro e w3 ⟨rfl, hb3⟩
          have HB3 := Lib.hid hb3
          replace x0 := gcell hb3 x0
          replace x1 := gcell hb3 x1
          replace x2 := gcell hb3 x2
          clear hb3
          go_wp2_with fail
          refine (HBY.out _ HB3.out).mono ?_
          rintro e w4 ⟨rfl, hb4⟩
          have hb34 := HB3.out.trans (hb4.mono HB3.out.size)
          have hz4 := hb34.size
          obtain ⟨⟨c0, c1, c2⟩, g0, g1, g2⟩ := boxc ((hb34.block (w.heap.size + 1) (by omega)).trans X5.out)
          have HB4 := Lib.hid hb34
          clear hb34 hb4 x0 x1 x2
          go_wp2_with fail
          exact bodyPost_ret (v := .tuple #[.agg #[.int .i64 0, .int .i64 0, .slice none 0 0], .int .i64 6]) (by simp [results, Try.f16, go_sem, c0, c1, c2]) rfl (by rw [HT.out, HE.out]; exact TellS.no _ ((X7.out.trans (HB4.out.mono X7.out.size)).trans (below_store3 (by omega) _ _ _)))
        | false =>
          rw [if_neg (by rw [hov]; decide)] at hE
          have HT := Lib.hid (instT_bad hE (by decide))
          have HE := Lib.hid hE
          rw [hov] at HBY
          clear hE hov x7
          go_wp2_with fail
          refine (HU.out _).mono ?_
          rintro e w2 ⟨rfl, rfl⟩
          go_wp2_with fail
          refine HSZ.out.mono ?_
          rintro e w3 ⟨rfl, hb3⟩
          have HB3 := Lib.hid hb3
          replace x0 := gcell hb3 x0
          replace x1 := gcell hb3 x1
          replace x2 := gcell hb3 x2
          clear hb3
          go_wp2_with fail
          refine (HBY.out _ HB3.out).mono ?_
          rintro e w4 ⟨rfl, hb4⟩
          have hb34 := HB3.out.trans (hb4.mono HB3.out.size)
          have hz4 := hb34.size
          obtain ⟨⟨c0, c1, c2⟩, g0, g1, g2⟩ := boxc ((hb34.block (w.heap.size + 1) (by omega)).trans X5.out)
          have HB4 := Lib.hid hb34
          clear hb34 hb4 x0 x1 x2
          go_wp2_with fail
          exact bodyPost_ret (v := .tuple #[.agg #[.int .i64 0, .int .i64 0, .slice none 0 0], .int .i64 4]) (by simp [results, Try.f16, go_sem, c0, c1, c2]) rfl (by rw [HT.out, HE.out]; exact TellS.no _ ((X7.out.trans (HB4.out.mono X7.out.size)).trans (below_store3 (by omega) _ _ _)))
      · have hb2 : ((min (size (putT A t u)) 1099511627776 : Nat) : Int) ≤ (6000 : Int) := by omega
        rw [if_neg hbig] at hE
        have HSP := Lib.hid (show size (putT A t u) ≤ 1048576 by omega)
        have HRD := Lib.hid (c_rdepth (putT A t u) HSP.out)
        have HOK : Hid (instE t A u = 0 → instT t A u = putT A t u) := instT_ok
        have HBAD := Lib.hid (fun e => @instT_bad t A u e)
        generalize min (size (putT A t u)) 1099511627776 = sz at *
        have HE0 := Lib.hid hE
        clear HBY hbig hE
        generalize putT A t u = r2 at *
        go_wp2_with fail
        refine (HU.out _).mono ?_
        rintro e w2 ⟨rfl, rfl⟩
        go_wp2_with fail
        refine HSZ.out.mono ?_
        rintro e w3 ⟨rfl, hb3⟩
        have HB3 := Lib.hid hb3
        replace x0 := gcell hb3 x0
        replace x1 := gcell hb3 x1
        replace x2 := gcell hb3 x2
        clear hb3
        go_wp2_with fail
        refine (HPT.out _ HB3.out).mono ?_
        rintro e w4 ⟨a4, c4, rfl, hK4, hb4⟩
        have hb34 := HB3.out.trans (hb4.mono HB3.out.size)
        have hz4 := hb34.size
        have hz3 := HB3.out.size
        have hx4 := (hb34.block (w.heap.size + 1) (by omega)).trans X5.out
        have HX7 := Lib.hid (X7.out.trans (hb34.mono X7.out.size))
        clear hb34 hb4 x0 x1 x2 HB3 X7 X6 x7
        have hK5 := hK4.same (T := fun b => w.heap.size + 2 ≤ b ∧ b < (w4.alloc (.cells #[.int .i64 r2.k, .int .i64 r2.n, .slice a4 r2.kids.length c4] 24)).heap.size) (w' := w4.alloc (.cells #[.int .i64 r2.k, .int .i64 r2.n, .slice a4 r2.kids.length c4] 24)) (fun b hb => ⟨⟨by omega, by have := hb.2; simp; omega⟩, Below.heap_alloc w4 _ b hb.2⟩)
        have HK5 := Lib.hid hK5
        have hx5 := (Below.heap_alloc w4 (.cells #[.int .i64 r2.k, .int .i64 r2.n, .slice a4 r2.kids.length c4] 24) (w.heap.size + 1) (by omega)).trans hx4
        have hb5 : Below w.heap.size w (w4.alloc (.cells #[.int .i64 r2.k, .int .i64 r2.n, .slice a4 r2.kids.length c4] 24)) := HX7.out.alloc (by omega) _
        have HAT := Lib.hid (show At (w4.alloc (.cells #[.int .i64 r2.k, .int .i64 r2.n, .slice a4 r2.kids.length c4] 24)) r2.kids (.slice a4 r2.kids.length c4) from HK5.out.at)
        have hbx := World.alloc_heap_new w4 (.cells #[.int .i64 r2.k, .int .i64 r2.n, .slice a4 r2.kids.length c4] 24)
        obtain ⟨⟨y0, y1, y2⟩, _⟩ := boxc hbx
        have HY := Lib.hid hbx
        have HX5 := Lib.hid hx5
        have HB5 := Lib.hid hb5
        have hz5 : (w4.alloc (.cells #[.int .i64 r2.k, .int .i64 r2.n, .slice a4 r2.kids.length c4] 24)).heap.size = w4.heap.size + 1 := by simp
        clear hK4 hK5 hx4 hx5 hb5 hbx
        have hE := HE0.out
        cases hov : putO A t u with
        | true =>
          rw [if_pos hov] at hE
          have HT := Lib.hid (HBAD.out _ hE (by decide))
          have HE := Lib.hid hE
          obtain ⟨⟨c0, c1, c2⟩, g0, g1, g2⟩ := boxc HX5.out
          clear hE
          go_wp2_with fail
          exact bodyPost_ret (v := .tuple #[.agg #[.int .i64 0, .int .i64 0, .slice none 0 0], .int .i64 6]) (by simp [results, Try.f16, go_sem, c0, c1, c2]) rfl (by rw [HT.out, HE.out]; exact TellS.no _ (HB5.out.trans (below_store3 (by omega) _ _ _)))
        | false =>
          rw [if_neg (by rw [hov]; decide)] at hE
          by_cases hd : 200 < depth r2
          · rw [if_pos hd] at hE
            have HT := Lib.hid (HBAD.out _ hE (by decide))
            have HE := Lib.hid hE
            have hd2 : (200 : Int) < (depth r2 : Int) := by omega
            clear hE hd
            go_wp2_with fail
            refine (HRD.out _ _ HAT.out).mono ?_
            rintro e w6 ⟨rfl, hb6⟩
            have hz6 := hb6.size
            obtain ⟨⟨c0, c1, c2⟩, g0, g1, g2⟩ := boxc ((hb6.block (w.heap.size + 1) (by omega)).trans HX5.out)
            have HB6 := Lib.hid (HB5.out.trans (hb6.mono HB5.out.size))
            clear hb6 y0 y1 y2
            go_wp2_with fail
            exact bodyPost_ret (v := .tuple #[.agg #[.int .i64 0, .int .i64 0, .slice none 0 0], .int .i64 5]) (by simp [results, Try.f16, go_sem, c0, c1, c2]) rfl (by rw [HT.out, HE.out]; exact TellS.no _ (HB6.out.trans (below_store3 (by omega) _ _ _)))
          · rw [if_neg hd] at hE
            have HT := Lib.hid (HOK.out hE)
            have HE := Lib.hid hE
            have hd2 : (depth r2 : Int) ≤ (200 : Int) := by omega
            clear hE hd
            go_wp2_with fail
            refine (HRD.out _ _ HAT.out).mono ?_
            rintro e w6 ⟨rfl, hb6⟩
            have hz6 := hb6.size
            obtain ⟨⟨c0, c1, c2⟩, g0, g1, g2⟩ := boxc ((hb6.block (w.heap.size + 1) (by omega)).trans HX5.out)
            replace y0 := gcell hb6 y0
            replace y1 := gcell hb6 y1
            replace y2 := gcell hb6 y2
            have HK6 := Lib.hid (HK5.out.same (T := fun b => w.heap.size + 2 ≤ b ∧ b < w6.heap.size) (w' := w6) (fun b hb => ⟨⟨hb.1, by omega⟩, hb6.block b hb.2⟩))
            have HB6 := Lib.hid (HB5.out.trans (hb6.mono HB5.out.size))
            clear hb6
            go_wp2_with fail
            exact bodyPost_ret (v := .tuple #[.agg #[.int .i64 r2.k, .int .i64 r2.n, .slice a4 r2.kids.length c4], .int .i64 0]) (by simp [results, Try.f16, go_sem, c0, c1, c2]) rfl (by rw [HT.out, HE.out]; exact ⟨a4, c4, rfl, HK6.out.same fun b' hb' => ⟨⟨by omega, by simp; omega⟩, other_store3 (by omega) _ _ _⟩, HB6.out.trans (below_store3 (by omega) _ _ _)⟩)
end Go.Proofs.Ytbfefpejcefnhaa
