/- The page's move: a right term, its variables moved, and whether one went beyond. No conditions but bounds on integers. -/
import Derived.Test.YtbfefpejcefnhaaMa
import Derived.Deep.RegionHeld3
import Derived.Deep.DrawnRows
namespace Go.Proofs.Ytbfefpejcefnhaa
open Go.RowKit Go Go.Joins
set_option linter.unusedVariables false

def MvOk (b : Int) (t : Tm) : Prop := formedB t = true → ∀ (f : Int) (w : World) (v : Value), 0 ≤ f → f + depth t ≤ 1000000 → At w t.kids v →
    Calls Try.prog 59 #[.agg #[.int .i64 t.k, .int .i64 t.n, v], .int .i64 b, .int .i64 f] w (TellS w (mapT (mv b) t f) (.bool (overB (mapT (mv b) t f))))
theorem below_s3 (w : World) (o1 : Obj) (o2 : Obj) (o3 : Obj) : Below w.heap.size w (((w.alloc o1).alloc o2).alloc o3) := (((Below.refl _ w).alloc (Nat.le_refl _) o1).alloc (by simp) o2).alloc (by simp; omega) o3
set_option maxRecDepth 100000 in
set_option maxHeartbeats 2000000 in
theorem rmove_leaf (b : Int) (hb0 : 0 ≤ b) (hb1 : b ≤ 65535) (n f : Int) (hn0 : 0 ≤ n) (hn1 : n ≤ 65535) (w : World) (a : Option Addr) (cap : Nat) :
    Calls Try.prog 59 #[.agg #[.int .i64 1, .int .i64 n, .slice a 0 cap], .int .i64 b, .int .i64 f] w fun e w' => e = .returned (.tuple #[.agg #[.int .i64 1, .int .i64 (mv b f n), .slice none 0 0], .bool (decide (65535 < mv b f n))]) ∧ Below w.heap.size w w' := by
  have hw : IntKind.i64.wrap (n + b) = n + b := IntWalk.i64_in _ (by omega)
  by_cases hf : f ≤ n
  · have hm : mv b f n = n + b := by unfold mv; rw [if_pos hf]
    rw [hm]
    clear hm
    go_enter Try.func59, Try.ntmps59
    go_wp2_with fail
    go_loopw [9, 10] (fun o i wr => o = .bool (decide (65535 < n + b)) ∧ i = .int .i64 0 ∧ wr = (((w.alloc (.cells #[.int .i64 1, .int .i64 n, .slice a 0 cap] 24)).alloc (.cells #[.int .i64 0, .int .i64 0, .slice none 0 0] 24)).alloc (.cells #[.int .i64 1, .int .i64 (n + b), .slice none 0 0] 24))) (fun _ _ _ => 0)
    case atStart => exact ⟨rfl, rfl, rfl⟩
    case round =>
      obtain ⟨rfl, rfl, rfl⟩ := hrel
      go_wp2_with fail
      exact bodyPost_ret (v := .tuple #[.agg #[.int .i64 1, .int .i64 (n + b), .slice none 0 0], .bool (decide (65535 < n + b))]) (by simp [results, Try.f59, go_sem]) rfl ⟨rfl, by first | exact below_s3 w _ _ _ | trace_state⟩
  · have hm : mv b f n = n := by unfold mv; rw [if_neg hf]
    have hf2 : decide (f ≤ n) = false := decide_eq_false hf
    rw [hm]
    clear hm hf
    go_enter Try.func59, Try.ntmps59
    go_wp2_with fail
    go_loopw [9, 10] (fun o i wr => o = .bool (decide (65535 < n)) ∧ i = .int .i64 0 ∧ wr = (((w.alloc (.cells #[.int .i64 1, .int .i64 n, .slice a 0 cap] 24)).alloc (.cells #[.int .i64 0, .int .i64 0, .slice none 0 0] 24)).alloc (.cells #[.int .i64 1, .int .i64 (n), .slice none 0 0] 24))) (fun _ _ _ => 0)
    case atStart => exact ⟨rfl, rfl, rfl⟩
    case round =>
      obtain ⟨rfl, rfl, rfl⟩ := hrel
      go_wp2_with fail
      exact bodyPost_ret (v := .tuple #[.agg #[.int .i64 1, .int .i64 (n), .slice none 0 0], .bool (decide (65535 < n))]) (by simp [results, Try.f59, go_sem]) rfl ⟨rfl, by first | exact below_s3 w _ _ _ | trace_state⟩
set_option maxRecDepth 100000 in
set_option maxHeartbeats 3000000 in
theorem rmove_node (b : Int) (t : Tm) (hk : t.k ≠ 1) (ih : ∀ u ∈ t.kids, MvOk b u) : MvOk b t := by
  intro hf f w v hf0 hf1 hA
  obtain ⟨a, cap, rfl⟩ := hA.shape
  rw [formedB_eq, Bool.and_eq_true, Bool.and_eq_true, decide_eq_true_eq] at hf
  obtain ⟨⟨f1, f2⟩, f3⟩ := hf
  have hn : t.n ≤ 65535 := by
    split at f2
    · simp only [Bool.and_eq_true, decide_eq_true_eq] at f2; exact f2.2
    · simp only [decide_eq_true_eq] at f2; omega
  have hk3 : kidsI t.k ≤ 3 := by
    unfold kidsI
    split
    · omega
    · split
      · omega
      · split
        · omega
        · split <;> omega
  have hl3 : t.kids.length ≤ 3 := by omega
  rw [mapT_eq, if_neg hk]
  have HOV := Lib.hid (show overB (.node t.k t.n (mapL (mv b) t.kids t.k f 0)) = overL (mapL (mv b) t.kids t.k f 0) by rw [overB, decide_eq_false (by omega), Bool.false_or])
  have e1 : (t.k == 1) = false := by simpa using hk
  have e2 : decide (65535 < t.n) = false := decide_eq_false (by omega)
  have hdt := depth_eq t
  have HI0 : Hid (∀ W, W = (((w.alloc (.cells #[.int .i64 t.k, .int .i64 t.n, .slice a t.kids.length cap] 24)).alloc (.cells #[.int .i64 0, .int .i64 0, .slice none 0 0] 24)).alloc (.cells #[.int .i64 t.k, .int .i64 t.n, .slice none 0 0] 24)) →
      AppInv (w.heap.size + 1 + 1) t.k t.n (mapL (mv b) (t.kids.take 0) t.k f 0) W ∧ (W.cell? ⟨w.heap.size, 0, none⟩ = some (.int .i64 t.k) ∧ W.cell? ⟨w.heap.size, 2, none⟩ = some (.slice a t.kids.length cap)) ∧ W.heap[w.heap.size + 1]? = some (.cells #[.int .i64 0, .int .i64 0, .slice none 0 0] 24 (0, 0)) ∧ Below w.heap.size w W) := by
    rintro W rfl
    have hn1 := World.alloc_heap_new ((w.alloc (.cells #[.int .i64 t.k, .int .i64 t.n, .slice a t.kids.length cap] 24)).alloc (.cells #[.int .i64 0, .int .i64 0, .slice none 0 0] 24)) (.cells #[.int .i64 t.k, .int .i64 t.n, .slice none 0 0] 24)
    simp only [World.size_alloc] at hn1
    have hn2 := World.alloc_heap_new (w.alloc (.cells #[.int .i64 t.k, .int .i64 t.n, .slice a t.kids.length cap] 24)) (.cells #[.int .i64 0, .int .i64 0, .slice none 0 0] 24)
    simp only [World.size_alloc] at hn2
    refine ⟨by rw [List.take_zero]; exact AppInv.start hn1, ⟨by simp [go_sem], by simp [go_sem]⟩, (Below.heap_alloc _ _ _ (by simp)).trans hn2, below_s3 w _ _ _⟩
  have HIH := Lib.hid ih
  have HFL := Lib.hid f3
  have HA := Lib.hid hA
  clear hk f1 f2 f3 hn hk3 ih hA
  go_enter Try.func59, Try.ntmps59
  go_wp2_with fail
  go_loopw [9, 10] (fun o i wr => ∃ j : Nat, j ≤ t.kids.length ∧ i = .int .i64 j ∧ o = .bool (overL (mapL (mv b) (t.kids.take j) t.k f 0)) ∧ AppInv (w.heap.size + 1 + 1) t.k t.n (mapL (mv b) (t.kids.take j) t.k f 0) wr ∧ (wr.cell? ⟨w.heap.size, 0, none⟩ = some (.int .i64 t.k) ∧ wr.cell? ⟨w.heap.size, 2, none⟩ = some (.slice a t.kids.length cap)) ∧ wr.heap[w.heap.size + 1]? = some (.cells #[.int .i64 0, .int .i64 0, .slice none 0 0] 24 (0, 0)) ∧ Below w.heap.size w wr) (fun _ i _ => t.kids.length - (RowKit.intOf i).toNat)
  case atStart =>
    obtain ⟨h1, h2, h3, h4⟩ := HI0.out _ rfl
    exact ⟨0, Nat.zero_le _, rfl, by rw [List.take_zero]; rfl, h1, h2, h3, h4⟩
  case round =>
    obtain ⟨j, hj, rfl, rfl, hI, ⟨x0, x2⟩, hz, hbw⟩ := hrel
    clear HI0
    by_cases hlt : j < t.kids.length
    · obtain ⟨bk, ok, ck, vk, he, h1, h2, kk, kn, kv, ks⟩ := (HA.out.bel hbw (Nat.le_refl _)).pos (by omega)
      have k0 := kk j hlt
      have k1 := kn j hlt
      have k2 := kv j hlt
      have k3 := ks j hlt
      obtain ⟨au, cu, hvu⟩ := k3.shape
      rw [hvu] at k2 k3
      have hbr := bindsI_range t.k j
      have hdj : depth t.kids[j] ≤ depthL t.kids := depth_get hlt
      have hwb : IntKind.i64.wrap (f + bindsI t.k j) = f + bindsI t.k j := IntWalk.i64_in _ (by omega)
      have HC : Hid (∀ W, Below wr.heap.size wr W → Calls Try.prog 59 #[.agg #[.int .i64 t.kids[j].k, .int .i64 t.kids[j].n, .slice au t.kids[j].kids.length cu], .int .i64 b, .int .i64 (f + bindsI t.k j)] W (TellS W (mapT (mv b) t.kids[j] (f + bindsI t.k j)) (.bool (overB (mapT (mv b) t.kids[j] (f + bindsI t.k j)))))) := fun W hW =>
        HIH.out t.kids[j] (List.getElem_mem hlt) (formedL_mem HFL.out (List.getElem_mem hlt)) (f + bindsI t.k j) W _ (by omega) (by omega) (k3.bel hW (Nat.le_refl _))
      have HLS := mapL_take_succ (mv b) hlt t.k f
      generalize mapT (mv b) t.kids[j] (f + bindsI t.k j) = uj at *
      have hLl : (mapL (mv b) (t.kids.take j) t.k f 0).length = j := by rw [mapL_length, List.length_take]; omega
      generalize mapL (mv b) (t.kids.take j) t.k f 0 = L at *
      have HLX := Lib.hid HLS
      have HLl := Lib.hid hLl
      clear hLl
      have hbkw : bk < wr.heap.size := World.block_lt_of_cell? wr _ k0
      have hww : w.heap.size + 2 < wr.heap.size := by
        obtain ⟨vs, aK, cK, q1, _⟩ := hI
        exact (Array.getElem?_eq_some_iff.1 q1).1
      have HII := Lib.hid hI
      have HBW := Lib.hid hbw
      have HZ := Lib.hid hz
      have HX := Lib.hid (And.intro x0 x2)
      cases he
      have HD0 : ∀ W, Below wr.heap.size wr W → W.cell? ⟨w.heap.size, 0, none⟩ = some (.int .i64 t.k) ∧ W.cell? ⟨w.heap.size, 2, none⟩ = some (.slice (some ⟨bk, ok, none⟩) t.kids.length cap) ∧ W.cell? ⟨bk, ok + j * 3, none⟩ = some (.int .i64 t.kids[j].k) ∧ W.cell? ⟨bk, ok + j * 3 + 1, none⟩ = some (.int .i64 t.kids[j].n) ∧ W.cell? ⟨bk, ok + j * 3 + 2, none⟩ = some (.slice au t.kids[j].kids.length cu) := fun W hW => ⟨gcell hW x0, gcell hW x2, gcell hW k0, gcell hW k1, gcell hW k2⟩
      have HD4 : Hid (∀ W, (W = wr.drew ∨ W = (wr.alloc (.cells #[.int .i64 0, .int .i64 0, .slice none 0 0] 24)).drew) → Below wr.heap.size wr W ∧ W.cell? ⟨w.heap.size, 0, none⟩ = some (.int .i64 t.k) ∧ W.cell? ⟨w.heap.size, 2, none⟩ = some (.slice (some ⟨bk, ok, none⟩) t.kids.length cap) ∧ W.cell? ⟨bk, ok + j * 3, none⟩ = some (.int .i64 t.kids[j].k) ∧ W.cell? ⟨bk, ok + j * 3 + 1, none⟩ = some (.int .i64 t.kids[j].n) ∧ W.cell? ⟨bk, ok + j * 3 + 2, none⟩ = some (.slice au t.kids[j].kids.length cu)) := by
        rintro W (rfl | rfl)
        · exact ⟨(Below.refl _ _).drew, HD0 _ (Below.refl _ _).drew⟩
        · exact ⟨(below_al wr _).drew, HD0 _ (below_al wr _).drew⟩
      have HZB : Hid ((wr.alloc (.cells #[.int .i64 0, .int .i64 0, .slice none 0 0] 24)).drew.heap[wr.heap.size]? = some (.cells #[.int .i64 0, .int .i64 0, .slice none 0 0] 24 (0, 0))) := World.alloc_heap_new wr (.cells #[.int .i64 0, .int .i64 0, .slice none 0 0] 24)
      have HZS : Hid ((wr.alloc (.cells #[.int .i64 0, .int .i64 0, .slice none 0 0] 24)).drew.heap.size = wr.heap.size + 1) := by show (wr.alloc _).heap.size = _; simp
      have HZ4 : Hid (∀ w4, Below wr.drew.heap.size wr.drew w4 → wr.heap.size ≤ w4.heap.size ∧ ¬ (w.heap.size = w4.heap.size) ∧ ¬ (bk = w4.heap.size) ∧ ¬ (w4.heap.size = w.heap.size) ∧ ¬ (w4.heap.size = bk)) := fun w4 hw4 => by
        have h1 : wr.heap.size ≤ w4.heap.size := hw4.size
        exact ⟨h1, by omega, by omega, by omega, by omega⟩
      have g1 : ¬ (w.heap.size = wr.heap.size) := by omega
      have g2 : ¬ (bk = wr.heap.size) := by omega
      have g3 : ¬ (wr.heap.size = w.heap.size) := by omega
      have g4 : ¬ (wr.heap.size = bk) := by omega
      have hlt0 : (0 : Int) ≤ (j : Int) := by omega
      have hlt1 : (j : Int) < (t.kids.length : Int) := by omega
      clear kk kn kv ks hvu k3 hbr hdj hI hbw hz HD0 h1 h2 HLS
      go_wp2_with fail
      go_region_held3 (fun W => W.cell? ⟨w.heap.size, 0, none⟩ = some (.int .i64 t.k) ∧ W.cell? ⟨w.heap.size, 2, none⟩ = some (.slice (some ⟨bk, ok, none⟩) t.kids.length cap) ∧ W.cell? ⟨bk, ok + j * 3, none⟩ = some (.int .i64 t.kids[j].k) ∧ W.cell? ⟨bk, ok + j * 3 + 1, none⟩ = some (.int .i64 t.kids[j].n) ∧ W.cell? ⟨bk, ok + j * 3 + 2, none⟩ = some (.slice au t.kids[j].kids.length cu)) (go_keep)
        (first | (go_at_call 29; refine (rbinds_any _ _ _).mono ?_; rintro e w' ⟨rfl, rfl⟩) | (go_at_call 59; obtain ⟨z3, z4, z5, z6, z7, z8⟩ := HD4.out _ (.inl rfl); refine (HC.out _ z3).mono ?_; rintro e w4 ⟨a4, c4, rfl, hK4, hb5⟩; obtain ⟨e1, e2, e3, e4, e5⟩ := HZ4.out _ hb5; replace z4 := gcell hb5 z4; replace z5 := gcell hb5 z5; replace z6 := gcell hb5 z6; replace z7 := gcell hb5 z7; replace z8 := gcell hb5 z8) | (go_at_call 59; obtain ⟨z3, z4, z5, z6, z7, z8⟩ := HD4.out _ (.inr rfl); refine (HC.out _ z3).mono ?_; rintro e w4 ⟨a4, c4, rfl, hK4, hb5⟩; obtain ⟨⟨n0, n1, n2⟩, p0, p1, p2⟩ := boxc ((hb5.block wr.heap.size (by rw [HZS.out]; omega)).trans HZB.out); replace z4 := gcell hb5 z4; replace z5 := gcell hb5 z5; replace z6 := gcell hb5 z6; replace z7 := gcell hb5 z7; replace z8 := gcell hb5 z8))
      all_goals
        have hz4 := Nat.le_trans z3.size hb5.size
        first
          | (have hON := (boxc (World.alloc_heap_new w4 (.cells #[.int .i64 uj.k, .int .i64 uj.n, .slice a4 uj.kids.length c4] 24))).1; have hb6 := (z3.trans (hb5.mono z3.size)).alloc hz4 (.cells #[.int .i64 uj.k, .int .i64 uj.n, .slice a4 uj.kids.length c4] 24); have hU := hK4.same (T := fun b => wr.heap.size ≤ b ∧ b < (w4.alloc (.cells #[.int .i64 uj.k, .int .i64 uj.n, .slice a4 uj.kids.length c4] 24)).heap.size) (w' := w4.alloc (.cells #[.int .i64 uj.k, .int .i64 uj.n, .slice a4 uj.kids.length c4] 24)) (fun b hb => ⟨⟨hb.1, by have := hb.2; simp; omega⟩, Below.heap_alloc w4 _ b hb.2⟩); obtain ⟨w5, hw5⟩ : ∃ w5, w5 = w4.alloc (.cells #[.int .i64 uj.k, .int .i64 uj.n, .slice a4 uj.kids.length c4] 24) := ⟨_, rfl⟩; rw [← hw5] at hON hb6 hU ⊢; obtain ⟨B5, hB5⟩ : ∃ B5, B5 = w4.heap.size := ⟨_, rfl⟩; rw [← hB5] at hON ⊢)
          | (have hst := below_store3 (W := w4) (B := wr.heap.size) (Nat.le_refl _) (.int .i64 uj.k) (.int .i64 uj.n) (.slice a4 uj.kids.length c4); have hb6 := (z3.trans (hb5.mono z3.size)).trans hst; have hON := (boxc (box_store3 ((hb5.block wr.heap.size (by rw [HZS.out]; omega)).trans HZB.out) (.int .i64 uj.k) (.int .i64 uj.n) (.slice a4 uj.kids.length c4))).1; have hU := hK4.same (T := fun b => wr.heap.size ≤ b ∧ b < ((((w4.setCell ⟨wr.heap.size, 0, none⟩ (.int .i64 uj.k)).setCell ⟨wr.heap.size, 1, none⟩ (.int .i64 uj.n)).setCell ⟨wr.heap.size, 2, none⟩ (.slice a4 uj.kids.length c4))).heap.size) (w' := (((w4.setCell ⟨wr.heap.size, 0, none⟩ (.int .i64 uj.k)).setCell ⟨wr.heap.size, 1, none⟩ (.int .i64 uj.n)).setCell ⟨wr.heap.size, 2, none⟩ (.slice a4 uj.kids.length c4))) (fun b hb => ⟨⟨by have := HZS.out; omega, by have := hst.size; omega⟩, other_store3 (by have := HZS.out; omega) _ _ _⟩); obtain ⟨w5, hw5⟩ : ∃ w5, w5 = (((w4.setCell ⟨wr.heap.size, 0, none⟩ (.int .i64 uj.k)).setCell ⟨wr.heap.size, 1, none⟩ (.int .i64 uj.n)).setCell ⟨wr.heap.size, 2, none⟩ (.slice a4 uj.kids.length c4)) := ⟨_, rfl⟩; rw [← hw5] at hON hb6 hU ⊢; obtain ⟨B5, hB5⟩ : ∃ B5, B5 = wr.heap.size := ⟨_, rfl⟩; rw [← hB5] at hON ⊢)
        have HU := Lib.hid hU
        have HB6 := Lib.hid hb6
        have hz5 := hb6.size
        obtain ⟨q0, q1, q2⟩ := hON
        clear hw5 hB5 hU hb6 z3 z4 z5 z6 z7 z8 hK4 hb5 hz4
        obtain ⟨vs, aK, cK, hbx, hown, hats⟩ := HII.out.keep HB6.out
        obtain ⟨⟨v0, v1, v2⟩, _⟩ := boxc hbx
        have hol := hown.lt
        have hbK : ∀ b, wr.heap.size ≤ b → some b ≠ (Value.slice aK L.length cK).ownBlock := fun b hb e => by
          obtain ⟨vs2, aK2, cK2, q1, q2, _⟩ := HII.out
          have q3 := (HB6.out.block _ (Array.getElem?_eq_some_iff.1 q1).1).trans q1
          rw [hbx] at q3
          simp only [Option.some.injEq, Obj.cells.injEq, Array.mk.injEq, List.cons.injEq, Value.slice.injEq, and_true, true_and] at q3
          obtain ⟨rfl, rfl⟩ := q3
          have := (q2.lt b e.symm).2
          omega
        have HS5 := Lib.hid hbx
        have HO5 := Lib.hid hown
        have HT5 := Lib.hid hats
        have HU5 : Hid (AtS (fun b => w.heap.size + 1 + 1 + 1 ≤ b ∧ b < w5.heap.size ∧ some b ≠ (Value.slice aK L.length cK).ownBlock) w5 uj.kids (.slice a4 uj.kids.length c4)) := HU.out.same fun b hb => ⟨⟨by omega, hb.2, hbK b hb.1⟩, rfl⟩
        have HS7 : Hid (∀ (o : Obj) w7, (w5.alloc o).grownBy w7 (Value.slice aK L.length cK).ownBlock → w7.heap[w.heap.size + 1 + 1]? = some (.cells #[.int .i64 t.k, .int .i64 t.n, .slice aK L.length cK] 24 (0, 0))) := fun o w7 hg =>
          ((hg.block _ (by simp; omega) (fun e => by have := (hol _ e.symm).1; omega)).trans (Below.heap_alloc w5 o _ (by omega))).trans HS5.out
        have hm1 : L.length + 1 ≤ maxLen := by have := HLl.out; unfold maxLen; omega
        have hm2 : (L.length + 1) * 40 ≤ 140737488355328 := by have := HLl.out; omega
        obtain ⟨i0, hi, hz0, hz1, hz2⟩ := info_parts Try.infoT
        clear hbx hown hats hol hbK
        cases hov : overL L with
        | false =>
          have HOL := Lib.hid hov
          clear hov
          go_wp2_with (at_builtin; refine wpList_append_lies _ rfl (.tmp 59) (.tmp 61) 22 rfl (w.heap.size + 1 + 1 + 1) 24 i0 _ 3 40 Try.underlying22 hi hz0 hz1 hz2 rfl (by decide) (.slice aK L.length cK) _ _ rfl (HO5.out.alloc _) ⟨w5.heap.size, 0, none⟩ 1 1 [.int .i64 uj.k, .int .i64 uj.n, .slice a4 uj.kids.length c4] rfl rfl (by have := World.news_of_block (World.alloc_heap_new w5 (.cells #[.int .i64 uj.k, .int .i64 uj.n, .slice a4 uj.kids.length c4] 24)); simpa using this) (by simp [Value.oneCell']) (by decide) hm1 hm2 (by simp; omega) (w5.heap.size + 1) (by simp) ?_; intro g cp w7 hown7 hgrow7 hat7 hlt7; obtain ⟨⟨p0, p1, p2⟩, p3, p4, p5⟩ := boxc (HS7.out _ _ hgrow7))
          have HA8 := Lib.hid (app_step HS5.out HO5.out HT5.out HU5.out hown7 hgrow7 hat7)
          clear hown7 hgrow7 p0 p1 p2 p3 p4 p5
          go_wp2_with fail
          go_roundw
          case rel =>
            obtain ⟨r1, r2⟩ := HA8.out
            refine ⟨j + 1, by omega, by go_num, by rw [HLX.out, overL_append, HOL.out]; simp [overL], by rw [HLX.out]; exact r1, ⟨(r2.cell (by dsimp only; omega)).trans (gcell HB6.out HX.out.1), (r2.cell (by dsimp only; omega)).trans (gcell HB6.out HX.out.2)⟩, (r2.block _ (by omega)).trans ((HB6.out.block _ (by omega)).trans HZ.out), (HBW.out.trans (HB6.out.mono HBW.out.size)).trans (r2.mono (by omega))⟩
          case measure => simp [RowKit.intOf]; omega
        | true =>
          have HOL := Lib.hid hov
          clear hov
          go_wp2_with (at_builtin; refine wpList_append_lies _ rfl (.tmp 59) (.tmp 61) 22 rfl (w.heap.size + 1 + 1 + 1) 24 i0 _ 3 40 Try.underlying22 hi hz0 hz1 hz2 rfl (by decide) (.slice aK L.length cK) _ _ rfl (HO5.out.alloc _) ⟨w5.heap.size, 0, none⟩ 1 1 [.int .i64 uj.k, .int .i64 uj.n, .slice a4 uj.kids.length c4] rfl rfl (by have := World.news_of_block (World.alloc_heap_new w5 (.cells #[.int .i64 uj.k, .int .i64 uj.n, .slice a4 uj.kids.length c4] 24)); simpa using this) (by simp [Value.oneCell']) (by decide) hm1 hm2 (by simp; omega) (w5.heap.size + 1) (by simp) ?_; intro g cp w7 hown7 hgrow7 hat7 hlt7; obtain ⟨⟨p0, p1, p2⟩, p3, p4, p5⟩ := boxc (HS7.out _ _ hgrow7))
          have HA8 := Lib.hid (app_step HS5.out HO5.out HT5.out HU5.out hown7 hgrow7 hat7)
          clear hown7 hgrow7 p0 p1 p2 p3 p4 p5
          go_wp2_with fail
          go_roundw
          case rel =>
            obtain ⟨r1, r2⟩ := HA8.out
            refine ⟨j + 1, by omega, by go_num, by rw [HLX.out, overL_append, HOL.out]; simp [overL], by rw [HLX.out]; exact r1, ⟨(r2.cell (by dsimp only; omega)).trans (gcell HB6.out HX.out.1), (r2.cell (by dsimp only; omega)).trans (gcell HB6.out HX.out.2)⟩, (r2.block _ (by omega)).trans ((HB6.out.block _ (by omega)).trans HZ.out), (HBW.out.trans (HB6.out.mono HBW.out.size)).trans (r2.mono (by omega))⟩
          case measure => simp [RowKit.intOf]; omega
    · obtain rfl : j = t.kids.length := by omega
      have hlt1 : decide ((t.kids.length : Int) < (t.kids.length : Int)) = false := by simp
      rw [List.take_length] at hI ⊢
      have HBW := Lib.hid hbw
      obtain ⟨vs, aK, cK, hbx, hown, hats⟩ := hI
      obtain ⟨⟨v0, v1, v2⟩, _⟩ := boxc hbx
      obtain ⟨⟨c0, c1, c2⟩, g0, g1, g2⟩ := boxc hz
      have hR := AppInv.ats (k := t.k) (n := t.n) hown hats
      have HR := Lib.hid hR
      have hz2 : w.heap.size + 2 < wr.heap.size := (Array.getElem?_eq_some_iff.1 hbx).1
      generalize overL (mapL (mv b) t.kids t.k f 0) = ov at *
      generalize mapL (mv b) t.kids t.k f 0 = L at *
      clear hbx hown hats hR hbw hz hlt hj
      go_wp2_with fail
      refine bodyPost_ret (v := .tuple #[.agg #[.int .i64 t.k, .int .i64 t.n, .slice aK L.length cK], .bool ov]) (by simp [results, Try.f59, go_sem, c0, c1, c2]) rfl ⟨aK, cK, by rw [HOV.out]; rfl, HR.out.same fun b hb => ⟨⟨by omega, by simp; omega⟩, other_store3 (by omega) _ _ _⟩, HBW.out.trans (below_store3 (by omega) _ _ _)⟩
theorem rmove_any (b : Int) (hb0 : 0 ≤ b) (hb1 : b ≤ 65535) : ∀ t : Tm, MvOk b t := by
  refine tm_ind fun t ih => ?_
  by_cases hk : t.k = 1
  · intro hf f w v hf0 hf1 hA
    obtain ⟨a, cap, rfl⟩ := hA.shape
    rw [formedB_eq, Bool.and_eq_true, Bool.and_eq_true, decide_eq_true_eq] at hf
    obtain ⟨⟨f1, f2⟩, f3⟩ := hf
    have hl0 : t.kids.length = 0 := by rw [hk] at f1; have : kidsI 1 = 0 := by decide
                                       omega
    rw [if_pos hl0, Bool.and_eq_true, decide_eq_true_eq, decide_eq_true_eq] at f2
    have hM : mapT (mv b) t f = .node 1 (mv b f t.n) [] := by
      rw [mapT_eq, if_pos hk, hk, List.eq_nil_of_length_eq_zero hl0]; rfl
    rw [hM, hk, hl0]
    refine (rmove_leaf b hb0 hb1 t.n f f2.1 f2.2 w a cap).mono ?_
    rintro e w' ⟨rfl, hb⟩
    refine ⟨none, 0, ?_, .nl, hb⟩
    rw [overB, overL, Bool.or_false]; rfl
  · exact rmove_node b t hk ih
end Go.Proofs.Ytbfefpejcefnhaa
