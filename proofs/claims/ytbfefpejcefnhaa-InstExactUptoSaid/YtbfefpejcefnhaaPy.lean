/- The page's put: a right term with right terms for its variables, and whether a shift went beyond. No conditions but bounds on integers. -/
import Derived.Test.YtbfefpejcefnhaaMv
import Derived.Test.YtbfefpejcefnhaaSu
import Derived.Deep.RegionHeld3
import Derived.Deep.DrawnRows
import Derived.Test.YtbfefpejcefnhaaRe
namespace Go.Proofs.Ytbfefpejcefnhaa
open Go.RowKit Go Go.Joins
set_option linter.unusedVariables false

set_option maxRecDepth 100000 in
set_option maxHeartbeats 2000000 in
theorem rput_beyond (n u : Int) (p : Nat) (hn0 : 0 ≤ n) (hn1 : n ≤ 65535) (hu : 0 ≤ u) (hp : p ≤ 65535) (h : u + p ≤ n) (w : World) (a pa : Option Addr) (cap cp : Nat) :
    Calls Try.prog 42 #[.agg #[.int .i64 1, .int .i64 n, .slice a 0 cap], .slice pa p cp, .int .i64 u] w fun e w' => e = .returned (.tuple #[.agg #[.int .i64 1, .int .i64 (n - p), .slice none 0 0], .bool false]) ∧ Below w.heap.size w w' := by
  have hw : IntKind.i64.wrap (u + p) = u + p := IntWalk.i64_in _ (by omega)
  have hw2 : IntKind.i64.wrap (n - p) = n - p := IntWalk.i64_in _ (by omega)
  go_enter Try.func42, Try.ntmps42
  go_wp2_with fail
  exact bodyPost_ret (v := .tuple #[.agg #[.int .i64 1, .int .i64 (n - p), .slice none 0 0], .bool false]) (by simp [results, Try.f42, go_sem]) rfl ⟨rfl, ((Below.refl _ w).alloc (Nat.le_refl _) _).alloc (by simp) _⟩
set_option maxRecDepth 100000 in
set_option maxHeartbeats 2000000 in
theorem rput_low (n u : Int) (p : Nat) (hn0 : 0 ≤ n) (hn1 : n ≤ 65535) (hu : u ≤ 1000000) (hp : p ≤ 65535) (h : n < u) (w : World) (a pa : Option Addr) (cap cp : Nat) :
    Calls Try.prog 42 #[.agg #[.int .i64 1, .int .i64 n, .slice a 0 cap], .slice pa p cp, .int .i64 u] w fun e w' => e = .returned (.tuple #[.agg #[.int .i64 1, .int .i64 n, .slice none 0 0], .bool false]) ∧ Below w.heap.size w w' := by
  have hw : IntKind.i64.wrap (u + p) = u + p := IntWalk.i64_in _ (by omega)
  have h1 : ¬ u + (p : Int) ≤ n := by omega
  have h2 : ¬ u ≤ n := by omega
  go_enter Try.func42, Try.ntmps42
  go_wp2_with fail
  go_loopw [10, 11] (fun o i wr => o = .bool false ∧ i = .int .i64 0 ∧ wr = (((w.alloc (.cells #[.int .i64 1, .int .i64 n, .slice a 0 cap] 24)).alloc (.cells #[.int .i64 0, .int .i64 0, .slice none 0 0] 24)).alloc (.cells #[.int .i64 1, .int .i64 n, .slice none 0 0] 24))) (fun _ _ _ => 0)
  case atStart => exact ⟨rfl, rfl, rfl⟩
  case round =>
    obtain ⟨rfl, rfl, rfl⟩ := hrel
    go_wp2_with fail
    exact bodyPost_ret (v := .tuple #[.agg #[.int .i64 1, .int .i64 n, .slice none 0 0], .bool false]) (by simp [results, Try.f42, go_sem]) rfl ⟨rfl, by first | exact below_s3 w _ _ _ | trace_state⟩
set_option maxRecDepth 100000 in
set_option maxHeartbeats 2000000 in
theorem rput_arg (A : List Tm) (n u : Int) (hn0 : 0 ≤ n) (hn1 : n ≤ 65535) (hu : 0 ≤ u) (hp : A.length ≤ 65535) (h1 : u ≤ n) (h2 : n < u + A.length) (w : World) (a : Option Addr) (cap : Nat) (va : Value) (hA : At w A va) (hF : formedL A = true) (hD : depthL A ≤ 900000) :
    Calls Try.prog 42 #[.agg #[.int .i64 1, .int .i64 n, .slice a 0 cap], va, .int .i64 u] w (TellS w (moveT (argA A u n) u 0) (.bool (overB (moveT (argA A u n) u 0)))) := by
  have hw : IntKind.i64.wrap (u + A.length) = u + A.length := IntWalk.i64_in _ (by omega)
  have hw1 : IntKind.i64.wrap ((A.length : Int) - 1) = A.length - 1 := IntWalk.i64_in _ (by omega)
  have hw2 : IntKind.i64.wrap (n - u) = n - u := IntWalk.i64_in _ (by omega)
  have hw3 : IntKind.i64.wrap ((A.length : Int) - 1 - (n - u)) = A.length - 1 - (n - u) := IntWalk.i64_in _ (by omega)
  have h3 : ¬ u + (A.length : Int) ≤ n := by omega
  obtain ⟨d, hd⟩ : ∃ d : Nat, (A.length : Int) - 1 - (n - u) = (d : Int) := ⟨A.length - 1 - (n - u).toNat, by omega⟩
  have hdl : d < A.length := by omega
  have hga : argA A u n = A[d] := by unfold argA; rw [show A.length - 1 - (n - u).toNat = d by omega, List.getElem?_eq_getElem hdl]; rfl
  obtain ⟨pa, cp, rfl⟩ := hA.shape
  obtain ⟨bk, ok, ck, vk, he, b1, b2, kk, kn, kv, ks⟩ := hA.pos (by omega)
  have k0 := kk d hdl
  have k1 := kn d hdl
  have k2 := kv d hdl
  have k3 := ks d hdl
  obtain ⟨au, cu, hvu⟩ := k3.shape
  rw [hvu] at k2 k3
  have hfd := formedL_mem hF (List.getElem_mem hdl)
  have hdj : depth A[d] ≤ depthL A := depth_get hdl
  have hm := rmove_any u hu (by omega) A[d] hfd 0
  rw [hga]
  unfold moveT
  generalize mapT (mv u) A[d] 0 = R at *
  rw [hd] at hw3
  cases he
  have d0 : (0 : Int) ≤ (d : Int) := by omega
  have d1 : (d : Int) < (A.length : Int) := by omega
  have HM := Lib.hid hm
  obtain ⟨W0, hW0⟩ : ∃ W0, W0 = ((w.alloc (.cells #[.int .i64 1, .int .i64 n, .slice a 0 cap] 24)).alloc (.cells #[.int .i64 0, .int .i64 0, .slice none 0 0] 24)) := ⟨_, rfl⟩
  have hB : Below w.heap.size w W0 := by rw [hW0]; exact ((Below.refl _ w).alloc (Nat.le_refl _) _).alloc (by simp) _
  replace k0 := gcell hB k0
  replace k1 := gcell hB k1
  replace k2 := gcell hB k2
  replace k3 := k3.bel hB (Nat.le_refl _)
  have hZ : W0.heap[w.heap.size + 1]? = some (.cells #[.int .i64 0, .int .i64 0, .slice none 0 0] 24 (0, 0)) := by
    have := World.alloc_heap_new (w.alloc (.cells #[.int .i64 1, .int .i64 n, .slice a 0 cap] 24)) (.cells #[.int .i64 0, .int .i64 0, .slice none 0 0] 24)
    rw [hW0]
    simpa only [World.size_alloc] using this
  have hM2 := HM.out W0 _ (Int.le_refl 0) (by omega) k3
  have HM2 := Lib.hid hM2
  have HB := Lib.hid hB
  have HZ := Lib.hid hZ
  rw [hW0] at k0 k1 k2
  clear hm hga kk kn kv ks hfd hdj hM2 HM hZ hB
  go_enter Try.func42, Try.ntmps42
  go_wp2_with fail
  rw [← hW0]
  refine HM2.out.mono ?_
  rintro e w' ⟨a4, c4, rfl, hK4, hb5⟩
  have hs0 : W0.heap.size = w.heap.size + 1 + 1 := by rw [hW0]; simp
  have hz5 := hb5.size
  obtain ⟨⟨c0, c1, c2⟩, g0, g1, g2⟩ := boxc ((hb5.block (w.heap.size + 1) (by omega)).trans HZ.out)
  have HK := Lib.hid hK4
  have HB5 := Lib.hid (HB.out.trans (hb5.mono HB.out.size))
  clear k0 k1 k2 k3 hK4 hb5 hW0 HM2 HZ hA hw hw1 hw2 hw3
  go_wp2_with fail
  refine bodyPost_ret (v := .tuple #[.agg #[.int .i64 R.k, .int .i64 R.n, .slice a4 R.kids.length c4], .bool (overB R)]) (by simp [results, Try.f42, go_sem, c0, c1, c2]) rfl ⟨a4, c4, rfl, HK.out.same fun b hb => ⟨⟨by omega, by simp; omega⟩, other_store3 (by omega) _ _ _⟩, HB5.out.trans (below_store3 (by omega) _ _ _)⟩
end Go.Proofs.Ytbfefpejcefnhaa
/- The page's put at what is no variable, and all. No conditions but bounds on integers. -/
namespace Go.Proofs.Ytbfefpejcefnhaa
open Go.RowKit Go Go.Joins
set_option linter.unusedVariables false

def PtOk (A : List Tm) (t : Tm) : Prop := formedB t = true → ∀ (f : Int) (w : World) (v va : Value), 0 ≤ f → f + depth t ≤ 1000000 → At w t.kids v → At w A va →
    Calls Try.prog 42 #[.agg #[.int .i64 t.k, .int .i64 t.n, v], va, .int .i64 f] w (TellS w (putT A t f) (.bool (putO A t f)))
set_option maxRecDepth 100000 in
set_option maxHeartbeats 3000000 in
theorem rput_node (A : List Tm) (t : Tm) (hk : t.k ≠ 1) (ih : ∀ u ∈ t.kids, PtOk A u) : PtOk A t := by
  intro hf f w v va hf0 hf1 hA hAA
  obtain ⟨a, cap, rfl⟩ := hA.shape
  obtain ⟨pa, cp, rfl⟩ := hAA.shape
  rw [formedB_eq, Bool.and_eq_true, Bool.and_eq_true, decide_eq_true_eq] at hf
  obtain ⟨⟨f1, f2⟩, f3⟩ := hf
  have hn : t.n ≤ 65535 := by
    split at f2
    · simp only [Bool.and_eq_true, decide_eq_true_eq] at f2; exact f2.2
    · simp only [decide_eq_true_eq] at f2; omega
  have hk3 : kidsI t.k ≤ 3 := by
    unfold kidsI
    split
    · omega
    · split
      · omega
      · split
        · omega
        · split <;> omega
  have hl3 : t.kids.length ≤ 3 := by omega
  rw [putT_eq, if_neg (fun h => hk h.1), if_neg (fun h => hk h.1), putO_eq, if_neg (fun h => hk h.1), if_neg (fun h => hk h.1)]
  have e1 : (t.k == 1) = false := by simpa using hk
  have hdt := depth_eq t
  have HI0 : Hid (∀ W, W = (((w.alloc (.cells #[.int .i64 t.k, .int .i64 t.n, .slice a t.kids.length cap] 24)).alloc (.cells #[.int .i64 0, .int .i64 0, .slice none 0 0] 24)).alloc (.cells #[.int .i64 t.k, .int .i64 t.n, .slice none 0 0] 24)) →
      AppInv (w.heap.size + 1 + 1) t.k t.n (putL A (t.kids.take 0) t.k f 0) W ∧ (W.cell? ⟨w.heap.size, 0, none⟩ = some (.int .i64 t.k) ∧ W.cell? ⟨w.heap.size, 2, none⟩ = some (.slice a t.kids.length cap)) ∧ W.heap[w.heap.size + 1]? = some (.cells #[.int .i64 0, .int .i64 0, .slice none 0 0] 24 (0, 0)) ∧ Below w.heap.size w W) := by
    rintro W rfl
    have hn1 := World.alloc_heap_new ((w.alloc (.cells #[.int .i64 t.k, .int .i64 t.n, .slice a t.kids.length cap] 24)).alloc (.cells #[.int .i64 0, .int .i64 0, .slice none 0 0] 24)) (.cells #[.int .i64 t.k, .int .i64 t.n, .slice none 0 0] 24)
    simp only [World.size_alloc] at hn1
    have hn2 := World.alloc_heap_new (w.alloc (.cells #[.int .i64 t.k, .int .i64 t.n, .slice a t.kids.length cap] 24)) (.cells #[.int .i64 0, .int .i64 0, .slice none 0 0] 24)
    simp only [World.size_alloc] at hn2
    refine ⟨by rw [List.take_zero]; exact AppInv.start hn1, ⟨by simp [go_sem], by simp [go_sem]⟩, (Below.heap_alloc _ _ _ (by simp)).trans hn2, below_s3 w _ _ _⟩
  have HIH := Lib.hid ih
  have HFL := Lib.hid f3
  have HA := Lib.hid hA
  have HAA := Lib.hid hAA
  clear hk f1 f2 f3 hn hk3 ih hA hAA
  go_enter Try.func42, Try.ntmps42
  go_wp2_with fail
  go_loopw [10, 11] (fun o i wr => ∃ j : Nat, j ≤ t.kids.length ∧ i = .int .i64 j ∧ o = .bool (putOL A (t.kids.take j) t.k f 0) ∧ AppInv (w.heap.size + 1 + 1) t.k t.n (putL A (t.kids.take j) t.k f 0) wr ∧ (wr.cell? ⟨w.heap.size, 0, none⟩ = some (.int .i64 t.k) ∧ wr.cell? ⟨w.heap.size, 2, none⟩ = some (.slice a t.kids.length cap)) ∧ wr.heap[w.heap.size + 1]? = some (.cells #[.int .i64 0, .int .i64 0, .slice none 0 0] 24 (0, 0)) ∧ Below w.heap.size w wr) (fun _ i _ => t.kids.length - (RowKit.intOf i).toNat)
  case atStart =>
    obtain ⟨h1, h2, h3, h4⟩ := HI0.out _ rfl
    exact ⟨0, Nat.zero_le _, rfl, by rw [List.take_zero]; rfl, h1, h2, h3, h4⟩
  case round =>
    obtain ⟨j, hj, rfl, rfl, hI, ⟨x0, x2⟩, hz, hbw⟩ := hrel
    clear HI0
    by_cases hlt : j < t.kids.length
    · obtain ⟨bk, ok, ck, vk, he, h1, h2, kk, kn, kv, ks⟩ := (HA.out.bel hbw (Nat.le_refl _)).pos (by omega)
      have k0 := kk j hlt
      have k1 := kn j hlt
      have k2 := kv j hlt
      have k3 := ks j hlt
      obtain ⟨au, cu, hvu⟩ := k3.shape
      rw [hvu] at k2 k3
      have hbr := bindsI_range t.k j
      have hdj : depth t.kids[j] ≤ depthL t.kids := depth_get hlt
      have hwb : IntKind.i64.wrap (f + bindsI t.k j) = f + bindsI t.k j := IntWalk.i64_in _ (by omega)
      have HC : Hid (∀ W, Below wr.heap.size wr W → Calls Try.prog 42 #[.agg #[.int .i64 t.kids[j].k, .int .i64 t.kids[j].n, .slice au t.kids[j].kids.length cu], .slice pa A.length cp, .int .i64 (f + bindsI t.k j)] W (TellS W (putT A t.kids[j] (f + bindsI t.k j)) (.bool (putO A t.kids[j] (f + bindsI t.k j))))) := fun W hW =>
        HIH.out t.kids[j] (List.getElem_mem hlt) (formedL_mem HFL.out (List.getElem_mem hlt)) (f + bindsI t.k j) W _ _ (by omega) (by omega) (k3.bel hW (Nat.le_refl _)) (HAA.out.bel (hbw.trans (hW.mono hbw.size)) (Nat.le_refl _))
      have HLS := putL_take_succ A hlt t.k f
      have HOX := Lib.hid (putOL_take_succ A hlt t.k f)
      generalize putT A t.kids[j] (f + bindsI t.k j) = uj at *
      generalize putO A t.kids[j] (f + bindsI t.k j) = oj at *
      have hLl : (putL A (t.kids.take j) t.k f 0).length = j := by rw [putL_length, List.length_take]; omega
      generalize putL A (t.kids.take j) t.k f 0 = L at *
      generalize putOL A (t.kids.take j) t.k f 0 = ov at *
      have HLX := Lib.hid HLS
      have HLl := Lib.hid hLl
      clear hLl
      have hbkw : bk < wr.heap.size := World.block_lt_of_cell? wr _ k0
      have hww : w.heap.size + 2 < wr.heap.size := by
        obtain ⟨vs, aK, cK, q1, _⟩ := hI
        exact (Array.getElem?_eq_some_iff.1 q1).1
      have HII := Lib.hid hI
      have HBW := Lib.hid hbw
      have HZ := Lib.hid hz
      have HX := Lib.hid (And.intro x0 x2)
      cases he
      have HD0 : ∀ W, Below wr.heap.size wr W → W.cell? ⟨w.heap.size, 0, none⟩ = some (.int .i64 t.k) ∧ W.cell? ⟨w.heap.size, 2, none⟩ = some (.slice (some ⟨bk, ok, none⟩) t.kids.length cap) ∧ W.cell? ⟨bk, ok + j * 3, none⟩ = some (.int .i64 t.kids[j].k) ∧ W.cell? ⟨bk, ok + j * 3 + 1, none⟩ = some (.int .i64 t.kids[j].n) ∧ W.cell? ⟨bk, ok + j * 3 + 2, none⟩ = some (.slice au t.kids[j].kids.length cu) := fun W hW => ⟨gcell hW x0, gcell hW x2, gcell hW k0, gcell hW k1, gcell hW k2⟩
      have HD4 : Hid (∀ W, (W = wr.drew ∨ W = (wr.alloc (.cells #[.int .i64 0, .int .i64 0, .slice none 0 0] 24)).drew) → Below wr.heap.size wr W ∧ W.cell? ⟨w.heap.size, 0, none⟩ = some (.int .i64 t.k) ∧ W.cell? ⟨w.heap.size, 2, none⟩ = some (.slice (some ⟨bk, ok, none⟩) t.kids.length cap) ∧ W.cell? ⟨bk, ok + j * 3, none⟩ = some (.int .i64 t.kids[j].k) ∧ W.cell? ⟨bk, ok + j * 3 + 1, none⟩ = some (.int .i64 t.kids[j].n) ∧ W.cell? ⟨bk, ok + j * 3 + 2, none⟩ = some (.slice au t.kids[j].kids.length cu)) := by
        rintro W (rfl | rfl)
        · exact ⟨(Below.refl _ _).drew, HD0 _ (Below.refl _ _).drew⟩
        · exact ⟨(below_al wr _).drew, HD0 _ (below_al wr _).drew⟩
      have HZB : Hid ((wr.alloc (.cells #[.int .i64 0, .int .i64 0, .slice none 0 0] 24)).drew.heap[wr.heap.size]? = some (.cells #[.int .i64 0, .int .i64 0, .slice none 0 0] 24 (0, 0))) := World.alloc_heap_new wr (.cells #[.int .i64 0, .int .i64 0, .slice none 0 0] 24)
      have HZS : Hid ((wr.alloc (.cells #[.int .i64 0, .int .i64 0, .slice none 0 0] 24)).drew.heap.size = wr.heap.size + 1) := by show (wr.alloc _).heap.size = _; simp
      have HZ4 : Hid (∀ w4, Below wr.drew.heap.size wr.drew w4 → wr.heap.size ≤ w4.heap.size ∧ ¬ (w.heap.size = w4.heap.size) ∧ ¬ (bk = w4.heap.size) ∧ ¬ (w4.heap.size = w.heap.size) ∧ ¬ (w4.heap.size = bk)) := fun w4 hw4 => by
        have h1 : wr.heap.size ≤ w4.heap.size := hw4.size
        exact ⟨h1, by omega, by omega, by omega, by omega⟩
      have g1 : ¬ (w.heap.size = wr.heap.size) := by omega
      have g2 : ¬ (bk = wr.heap.size) := by omega
      have g3 : ¬ (wr.heap.size = w.heap.size) := by omega
      have g4 : ¬ (wr.heap.size = bk) := by omega
      have hlt0 : (0 : Int) ≤ (j : Int) := by omega
      have hlt1 : (j : Int) < (t.kids.length : Int) := by omega
      clear kk kn kv ks hvu k3 hbr hdj hI hbw hz HD0 h1 h2 HLS
      go_wp2_with fail
      go_region_held3 (fun W => W.cell? ⟨w.heap.size, 0, none⟩ = some (.int .i64 t.k) ∧ W.cell? ⟨w.heap.size, 2, none⟩ = some (.slice (some ⟨bk, ok, none⟩) t.kids.length cap) ∧ W.cell? ⟨bk, ok + j * 3, none⟩ = some (.int .i64 t.kids[j].k) ∧ W.cell? ⟨bk, ok + j * 3 + 1, none⟩ = some (.int .i64 t.kids[j].n) ∧ W.cell? ⟨bk, ok + j * 3 + 2, none⟩ = some (.slice au t.kids[j].kids.length cu)) (go_keep)
        (first | (go_at_call 29; refine (rbinds_any _ _ _).mono ?_; rintro e w' ⟨rfl, rfl⟩) | (go_at_call 42; obtain ⟨z3, z4, z5, z6, z7, z8⟩ := HD4.out _ (.inl rfl); refine (HC.out _ z3).mono ?_; rintro e w4 ⟨a4, c4, rfl, hK4, hb5⟩; obtain ⟨e1, e2, e3, e4, e5⟩ := HZ4.out _ hb5; replace z4 := gcell hb5 z4; replace z5 := gcell hb5 z5; replace z6 := gcell hb5 z6; replace z7 := gcell hb5 z7; replace z8 := gcell hb5 z8) | (go_at_call 42; obtain ⟨z3, z4, z5, z6, z7, z8⟩ := HD4.out _ (.inr rfl); refine (HC.out _ z3).mono ?_; rintro e w4 ⟨a4, c4, rfl, hK4, hb5⟩; obtain ⟨⟨n0, n1, n2⟩, p0, p1, p2⟩ := boxc ((hb5.block wr.heap.size (by rw [HZS.out]; omega)).trans HZB.out); replace z4 := gcell hb5 z4; replace z5 := gcell hb5 z5; replace z6 := gcell hb5 z6; replace z7 := gcell hb5 z7; replace z8 := gcell hb5 z8))
      all_goals
        have hz4 := Nat.le_trans z3.size hb5.size
        first
          | (have hON := (boxc (World.alloc_heap_new w4 (.cells #[.int .i64 uj.k, .int .i64 uj.n, .slice a4 uj.kids.length c4] 24))).1; have hb6 := (z3.trans (hb5.mono z3.size)).alloc hz4 (.cells #[.int .i64 uj.k, .int .i64 uj.n, .slice a4 uj.kids.length c4] 24); have hU := hK4.same (T := fun b => wr.heap.size ≤ b ∧ b < (w4.alloc (.cells #[.int .i64 uj.k, .int .i64 uj.n, .slice a4 uj.kids.length c4] 24)).heap.size) (w' := w4.alloc (.cells #[.int .i64 uj.k, .int .i64 uj.n, .slice a4 uj.kids.length c4] 24)) (fun b hb => ⟨⟨hb.1, by have := hb.2; simp; omega⟩, Below.heap_alloc w4 _ b hb.2⟩); obtain ⟨w5, hw5⟩ : ∃ w5, w5 = w4.alloc (.cells #[.int .i64 uj.k, .int .i64 uj.n, .slice a4 uj.kids.length c4] 24) := ⟨_, rfl⟩; rw [← hw5] at hON hb6 hU ⊢; obtain ⟨B5, hB5⟩ : ∃ B5, B5 = w4.heap.size := ⟨_, rfl⟩; rw [← hB5] at hON ⊢)
          | (have hst := below_store3 (W := w4) (B := wr.heap.size) (Nat.le_refl _) (.int .i64 uj.k) (.int .i64 uj.n) (.slice a4 uj.kids.length c4); have hb6 := (z3.trans (hb5.mono z3.size)).trans hst; have hON := (boxc (box_store3 ((hb5.block wr.heap.size (by rw [HZS.out]; omega)).trans HZB.out) (.int .i64 uj.k) (.int .i64 uj.n) (.slice a4 uj.kids.length c4))).1; have hU := hK4.same (T := fun b => wr.heap.size ≤ b ∧ b < ((((w4.setCell ⟨wr.heap.size, 0, none⟩ (.int .i64 uj.k)).setCell ⟨wr.heap.size, 1, none⟩ (.int .i64 uj.n)).setCell ⟨wr.heap.size, 2, none⟩ (.slice a4 uj.kids.length c4))).heap.size) (w' := (((w4.setCell ⟨wr.heap.size, 0, none⟩ (.int .i64 uj.k)).setCell ⟨wr.heap.size, 1, none⟩ (.int .i64 uj.n)).setCell ⟨wr.heap.size, 2, none⟩ (.slice a4 uj.kids.length c4))) (fun b hb => ⟨⟨by have := HZS.out; omega, by have := hst.size; omega⟩, other_store3 (by have := HZS.out; omega) _ _ _⟩); obtain ⟨w5, hw5⟩ : ∃ w5, w5 = (((w4.setCell ⟨wr.heap.size, 0, none⟩ (.int .i64 uj.k)).setCell ⟨wr.heap.size, 1, none⟩ (.int .i64 uj.n)).setCell ⟨wr.heap.size, 2, none⟩ (.slice a4 uj.kids.length c4)) := ⟨_, rfl⟩; rw [← hw5] at hON hb6 hU ⊢; obtain ⟨B5, hB5⟩ : ∃ B5, B5 = wr.heap.size := ⟨_, rfl⟩; rw [← hB5] at hON ⊢)
        have HU := Lib.hid hU
        have HB6 := Lib.hid hb6
        have hz5 := hb6.size
        obtain ⟨q0, q1, q2⟩ := hON
        clear hw5 hB5 hU hb6 z3 z4 z5 z6 z7 z8 hK4 hb5 hz4
        obtain ⟨vs, aK, cK, hbx, hown, hats⟩ := HII.out.keep HB6.out
        obtain ⟨⟨v0, v1, v2⟩, _⟩ := boxc hbx
        have hol := hown.lt
        have hbK : ∀ b, wr.heap.size ≤ b → some b ≠ (Value.slice aK L.length cK).ownBlock := fun b hb e => by
          obtain ⟨vs2, aK2, cK2, q1, q2, _⟩ := HII.out
          have q3 := (HB6.out.block _ (Array.getElem?_eq_some_iff.1 q1).1).trans q1
          rw [hbx] at q3
          simp only [Option.some.injEq, Obj.cells.injEq, Array.mk.injEq, List.cons.injEq, Value.slice.injEq, and_true, true_and] at q3
          obtain ⟨rfl, rfl⟩ := q3
          have := (q2.lt b e.symm).2
          omega
        have HS5 := Lib.hid hbx
        have HO5 := Lib.hid hown
        have HT5 := Lib.hid hats
        have HU5 : Hid (AtS (fun b => w.heap.size + 1 + 1 + 1 ≤ b ∧ b < w5.heap.size ∧ some b ≠ (Value.slice aK L.length cK).ownBlock) w5 uj.kids (.slice a4 uj.kids.length c4)) := HU.out.same fun b hb => ⟨⟨by omega, hb.2, hbK b hb.1⟩, rfl⟩
        have HS7 : Hid (∀ (o : Obj) w7, (w5.alloc o).grownBy w7 (Value.slice aK L.length cK).ownBlock → w7.heap[w.heap.size + 1 + 1]? = some (.cells #[.int .i64 t.k, .int .i64 t.n, .slice aK L.length cK] 24 (0, 0))) := fun o w7 hg =>
          ((hg.block _ (by simp; omega) (fun e => by have := (hol _ e.symm).1; omega)).trans (Below.heap_alloc w5 o _ (by omega))).trans HS5.out
        have hm1 : L.length + 1 ≤ maxLen := by have := HLl.out; unfold maxLen; omega
        have hm2 : (L.length + 1) * 40 ≤ 140737488355328 := by have := HLl.out; omega
        obtain ⟨i0, hi, hz0, hz1, hz2⟩ := info_parts Try.infoT
        clear hbx hown hats hol hbK
        cases hov : ov with
        | false =>
          subst hov
          go_wp2_with (at_builtin; refine wpList_append_lies _ rfl (.tmp 77) (.tmp 79) 22 rfl (w.heap.size + 1 + 1 + 1) 24 i0 _ 3 40 Try.underlying22 hi hz0 hz1 hz2 rfl (by decide) (.slice aK L.length cK) _ _ rfl (HO5.out.alloc _) ⟨w5.heap.size, 0, none⟩ 1 1 [.int .i64 uj.k, .int .i64 uj.n, .slice a4 uj.kids.length c4] rfl rfl (by have := World.news_of_block (World.alloc_heap_new w5 (.cells #[.int .i64 uj.k, .int .i64 uj.n, .slice a4 uj.kids.length c4] 24)); simpa using this) (by simp [Value.oneCell']) (by decide) hm1 hm2 (by simp; omega) (w5.heap.size + 1) (by simp) ?_; intro g cp w7 hown7 hgrow7 hat7 hlt7; obtain ⟨⟨p0, p1, p2⟩, p3, p4, p5⟩ := boxc (HS7.out _ _ hgrow7))
          have HA8 := Lib.hid (app_step HS5.out HO5.out HT5.out HU5.out hown7 hgrow7 hat7)
          clear hown7 hgrow7 p0 p1 p2 p3 p4 p5
          go_wp2_with fail
          go_roundw
          case rel =>
            obtain ⟨r1, r2⟩ := HA8.out
            refine ⟨j + 1, by omega, by go_num, by rw [HOX.out]; simp, by rw [HLX.out]; exact r1, ⟨(r2.cell (by dsimp only; omega)).trans (gcell HB6.out HX.out.1), (r2.cell (by dsimp only; omega)).trans (gcell HB6.out HX.out.2)⟩, (r2.block _ (by omega)).trans ((HB6.out.block _ (by omega)).trans HZ.out), (HBW.out.trans (HB6.out.mono HBW.out.size)).trans (r2.mono (by omega))⟩
          case measure => simp [RowKit.intOf]; omega
        | true =>
          subst hov
          go_wp2_with (at_builtin; refine wpList_append_lies _ rfl (.tmp 77) (.tmp 79) 22 rfl (w.heap.size + 1 + 1 + 1) 24 i0 _ 3 40 Try.underlying22 hi hz0 hz1 hz2 rfl (by decide) (.slice aK L.length cK) _ _ rfl (HO5.out.alloc _) ⟨w5.heap.size, 0, none⟩ 1 1 [.int .i64 uj.k, .int .i64 uj.n, .slice a4 uj.kids.length c4] rfl rfl (by have := World.news_of_block (World.alloc_heap_new w5 (.cells #[.int .i64 uj.k, .int .i64 uj.n, .slice a4 uj.kids.length c4] 24)); simpa using this) (by simp [Value.oneCell']) (by decide) hm1 hm2 (by simp; omega) (w5.heap.size + 1) (by simp) ?_; intro g cp w7 hown7 hgrow7 hat7 hlt7; obtain ⟨⟨p0, p1, p2⟩, p3, p4, p5⟩ := boxc (HS7.out _ _ hgrow7))
          have HA8 := Lib.hid (app_step HS5.out HO5.out HT5.out HU5.out hown7 hgrow7 hat7)
          clear hown7 hgrow7 p0 p1 p2 p3 p4 p5
          go_wp2_with fail
          go_roundw
          case rel =>
            obtain ⟨r1, r2⟩ := HA8.out
            refine ⟨j + 1, by omega, by go_num, by rw [HOX.out]; simp, by rw [HLX.out]; exact r1, ⟨(r2.cell (by dsimp only; omega)).trans (gcell HB6.out HX.out.1), (r2.cell (by dsimp only; omega)).trans (gcell HB6.out HX.out.2)⟩, (r2.block _ (by omega)).trans ((HB6.out.block _ (by omega)).trans HZ.out), (HBW.out.trans (HB6.out.mono HBW.out.size)).trans (r2.mono (by omega))⟩
          case measure => simp [RowKit.intOf]; omega
    · obtain rfl : j = t.kids.length := by omega
      have hlt1 : decide ((t.kids.length : Int) < (t.kids.length : Int)) = false := by simp
      rw [List.take_length] at hI ⊢
      have HBW := Lib.hid hbw
      obtain ⟨vs, aK, cK, hbx, hown, hats⟩ := hI
      obtain ⟨⟨v0, v1, v2⟩, _⟩ := boxc hbx
      obtain ⟨⟨c0, c1, c2⟩, g0, g1, g2⟩ := boxc hz
      have hR := AppInv.ats (k := t.k) (n := t.n) hown hats
      have HR := Lib.hid hR
      have hz2 : w.heap.size + 2 < wr.heap.size := (Array.getElem?_eq_some_iff.1 hbx).1
      generalize putOL A t.kids t.k f 0 = ov at *
      generalize putL A t.kids t.k f 0 = L at *
      clear hbx hown hats hR hbw hz hlt hj
      go_wp2_with fail
      refine bodyPost_ret (v := .tuple #[.agg #[.int .i64 t.k, .int .i64 t.n, .slice aK L.length cK], .bool ov]) (by simp [results, Try.f42, go_sem, c0, c1, c2]) rfl ⟨aK, cK, rfl, HR.out.same fun b hb => ⟨⟨by omega, by simp; omega⟩, other_store3 (by omega) _ _ _⟩, HBW.out.trans (below_store3 (by omega) _ _ _)⟩
end Go.Proofs.Ytbfefpejcefnhaa
/- The page's put, all; the page's sizeOf. No conditions but bounds on integers. -/
namespace Go.Proofs.Ytbfefpejcefnhaa
open Go.RowKit Go Go.Joins
set_option linter.unusedVariables false

theorem rput_any (A : List Tm) (hF : formedL A = true) (hp : A.length ≤ 65535) (hD : depthL A ≤ 900000) : ∀ t : Tm, PtOk A t := by
  refine tm_ind fun t ih => ?_
  by_cases hk : t.k = 1
  · intro hf f w v va hf0 hf1 hA hAA
    obtain ⟨a, cap, rfl⟩ := hA.shape
    rw [formedB_eq, Bool.and_eq_true, Bool.and_eq_true, decide_eq_true_eq] at hf
    obtain ⟨⟨f1, f2⟩, f3⟩ := hf
    have hl0 : t.kids.length = 0 := by rw [hk] at f1; have : kidsI 1 = 0 := by decide
                                       omega
    rw [if_pos hl0, Bool.and_eq_true, decide_eq_true_eq, decide_eq_true_eq] at f2
    have hnil := List.eq_nil_of_length_eq_zero hl0
    have hput := putT_eq A t f
    have hpo := putO_eq A t f
    by_cases h1 : f + A.length ≤ t.n
    · rw [if_pos ⟨hk, h1⟩, hnil, hk] at hput
      rw [if_pos ⟨hk, h1⟩] at hpo
      rw [hput, hpo, hl0, hk]
      obtain ⟨pa, cp, rfl⟩ := hAA.shape
      refine (rput_beyond t.n f A.length f2.1 f2.2 hf0 hp h1 w a pa cap cp).mono ?_
      rintro e w' ⟨rfl, hb⟩
      exact ⟨none, 0, rfl, .nl, hb⟩
    · rw [if_neg (fun h => h1 h.2)] at hput hpo
      by_cases h2 : f ≤ t.n
      · rw [if_pos ⟨hk, h2⟩] at hput hpo
        rw [hput, hpo, hl0, hk]
        exact rput_arg A t.n f f2.1 f2.2 hf0 hp h2 (by omega) w a cap va hAA hF hD
      · rw [if_neg (fun h => h2 h.2)] at hput hpo
        rw [hnil, hk] at hput hpo
        rw [hput, hpo, hl0, hk]
        obtain ⟨pa, cp, rfl⟩ := hAA.shape
        refine (rput_low t.n f A.length f2.1 f2.2 (by omega) hp (by omega) w a pa cap cp).mono ?_
        rintro e w' ⟨rfl, hb⟩
        exact ⟨none, 0, rfl, .nl, hb⟩
  · exact rput_node A t hk ih

/-- A row of ints, as an argument. -/
def RowN (w : World) (S : List Nat) (v : Value) : Prop := ∃ a cap, v = .slice a S.length cap ∧ S.length ≤ cap ∧ cap ≤ maxLen ∧ ∀ i (h : i < S.length), ∃ b o, a = some ⟨b, o, none⟩ ∧ w.cell? ⟨b, o + i, none⟩ = some (.int .i64 (S[i] : Nat))
theorem RowN.bel {w W : World} {S : List Nat} {v : Value} {B : Nat} (h : RowN w S v) (hb : Below B w W) (hB : w.heap.size ≤ B) : RowN W S v := by
  obtain ⟨a, cap, h1, h2, h3, h4⟩ := h
  refine ⟨a, cap, h1, h2, h3, fun i hi => ?_⟩
  obtain ⟨b, o, e, q⟩ := h4 i hi
  exact ⟨b, o, e, gcell (hb.mono hB) q⟩

theorem min_step (a b : Nat) : min (min a 2199023255552 + min b 2199023255552) 2199023255552 = min (a + b) 2199023255552 := by omega
def SzOk (A : List Tm) (S : List Nat) (t : Tm) : Prop := formedB t = true → ∀ (f : Int) (w : World) (v vs : Value), 0 ≤ f → f + depth t ≤ 1000000 → At w t.kids v → RowN w S vs →
    Calls Try.prog 43 #[.agg #[.int .i64 t.k, .int .i64 t.n, v], vs, .int .i64 f] w fun e w' => e = .returned (.int .i64 ((min (size (putT A t f)) 2199023255552 : Nat) : Int)) ∧ Below w.heap.size w w'

set_option maxRecDepth 100000 in
set_option maxHeartbeats 2000000 in
theorem rsz_leaf (n u m : Int) (hn0 : 0 ≤ n) (hn1 : n ≤ 65535) (hu : 0 ≤ u) (hu1 : u ≤ 1000000) (S : List Nat) (hp : S.length ≤ 65535) (hm : m = if u ≤ n ∧ n - u < S.length then (S[S.length - 1 - (n - u).toNat]?.getD 0 : Nat) else 1) (w : World) (a : Option Addr) (cap : Nat) (vs : Value) (hS : RowN w S vs) :
    Calls Try.prog 43 #[.agg #[.int .i64 1, .int .i64 n, .slice a 0 cap], vs, .int .i64 u] w fun e w' => e = .returned (.int .i64 m) ∧ Below w.heap.size w w' := by
  obtain ⟨pa, cp, rfl, p1, p2, p3⟩ := hS
  have hw2 : IntKind.i64.wrap (n - u) = n - u := IntWalk.i64_in _ (by omega)
  have hw1 : IntKind.i64.wrap ((S.length : Int) - 1) = S.length - 1 := IntWalk.i64_in _ (by omega)
  by_cases h1 : u ≤ n
  · by_cases h2 : n - u < S.length
    · have hw3 : IntKind.i64.wrap ((S.length : Int) - 1 - (n - u)) = S.length - 1 - (n - u) := IntWalk.i64_in _ (by omega)
      rw [if_pos ⟨h1, h2⟩] at hm
      obtain ⟨d, hd⟩ : ∃ d : Nat, (S.length : Int) - 1 - (n - u) = (d : Int) := ⟨S.length - 1 - (n - u).toNat, by omega⟩
      have hdl : d < S.length := by omega
      rw [show S.length - 1 - (n - u).toNat = d by omega, List.getElem?_eq_getElem hdl] at hm
      obtain ⟨b, o, rfl, hc⟩ := p3 d hdl
      have hB : Below w.heap.size w (w.alloc (.cells #[.int .i64 1, .int .i64 n, .slice a 0 cap] 24)) := (Below.refl _ w).alloc (Nat.le_refl _) _
      have k0 := gcell hB hc
      rw [hd] at hw3
      have d0 : (0 : Int) ≤ (d : Int) := by omega
      have d1 : (d : Int) < (S.length : Int) := by omega
      have HM := Lib.hid hm
      have HB := Lib.hid hB
      clear hm hc hB p3
      go_enter Try.func43, Try.ntmps43
      go_wp2_with fail
      go_loopw [7, 8] (fun o i wr => o = .int .i64 (S[d] : Nat) ∧ i = .int .i64 0 ∧ wr = w.alloc (.cells #[.int .i64 1, .int .i64 n, .slice a 0 cap] 24)) (fun _ _ _ => 0)
      case atStart => exact ⟨rfl, rfl, rfl⟩
      case round =>
        obtain ⟨rfl, rfl, rfl⟩ := hrel
        go_wp2_with fail
        go_ret
        exact ⟨ret_int HM.out.symm, HB.out⟩
    · have HM := Lib.hid (show m = 1 by rw [hm, if_neg (fun h => h2 h.2)]; rfl)
      have HB := Lib.hid (show Below w.heap.size w (w.alloc (.cells #[.int .i64 1, .int .i64 n, .slice a 0 cap] 24)) from (Below.refl _ w).alloc (Nat.le_refl _) _)
      have h3 : (S.length : Int) ≤ n - u := by omega
      clear hm p3 h2
      go_enter Try.func43, Try.ntmps43
      go_wp2_with fail
      go_loopw [7, 8] (fun o i wr => o = .int .i64 1 ∧ i = .int .i64 0 ∧ wr = w.alloc (.cells #[.int .i64 1, .int .i64 n, .slice a 0 cap] 24)) (fun _ _ _ => 0)
      case atStart => exact ⟨rfl, rfl, rfl⟩
      case round =>
        obtain ⟨rfl, rfl, rfl⟩ := hrel
        go_wp2_with fail
        go_ret
        exact ⟨ret_int HM.out.symm, HB.out⟩
  · have HM := Lib.hid (show m = 1 by rw [hm, if_neg (fun h => h1 h.1)]; rfl)
    have HB := Lib.hid (show Below w.heap.size w (w.alloc (.cells #[.int .i64 1, .int .i64 n, .slice a 0 cap] 24)) from (Below.refl _ w).alloc (Nat.le_refl _) _)
    have h3 : n < u := by omega
    clear hm p3 h1
    go_enter Try.func43, Try.ntmps43
    go_wp2_with fail
    go_loopw [7, 8] (fun o i wr => o = .int .i64 1 ∧ i = .int .i64 0 ∧ wr = w.alloc (.cells #[.int .i64 1, .int .i64 n, .slice a 0 cap] 24)) (fun _ _ _ => 0)
    case atStart => exact ⟨rfl, rfl, rfl⟩
    case round =>
      obtain ⟨rfl, rfl, rfl⟩ := hrel
      go_wp2_with fail
      go_ret
      exact ⟨ret_int HM.out.symm, HB.out⟩
end Go.Proofs.Ytbfefpejcefnhaa
