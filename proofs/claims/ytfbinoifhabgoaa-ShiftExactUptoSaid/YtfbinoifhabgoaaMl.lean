/- The page's less: a right term, its variables beyond a level lowered. No conditions but bounds on integers. -/
import Derived.Test.YtfbinoifhabgoaaMa
import Derived.BigQuiet
namespace Go.Proofs.Ytfbinoifhabgoaa
open Go.RowKit Go Go.Joins
set_option linter.unusedVariables false

theorem app_keep {B : Nat} {k n : Int} {L : List Tm} {w w' : World} {vs : Nat → Value} {aK : Option Addr} {cK : Nat} (h1 : w.heap[B]? = some (.cells #[.int .i64 k, .int .i64 n, .slice aK L.length cK] 24 (0, 0)))
    (h2 : w.ownsRow (B + 1) 24 3 (.slice aK L.length cK) L.length (cells3 L vs)) (h3 : ∀ i (_ : i < L.length), AtS (fun b => B + 1 ≤ b ∧ b < w.heap.size ∧ some b ≠ (Value.slice aK L.length cK).ownBlock) w L[i].kids (vs i)) (hb : Below w.heap.size w w') :
    w'.heap[B]? = some (.cells #[.int .i64 k, .int .i64 n, .slice aK L.length cK] 24 (0, 0)) ∧ w'.ownsRow (B + 1) 24 3 (.slice aK L.length cK) L.length (cells3 L vs) ∧ ∀ i (_ : i < L.length), AtS (fun b => B + 1 ≤ b ∧ b < w'.heap.size ∧ some b ≠ (Value.slice aK L.length cK).ownBlock) w' L[i].kids (vs i) :=
  ⟨(hb.block B (Array.getElem?_eq_some_iff.1 h1).1).trans h1, h2.kept (row := none) ⟨hb.os, hb.tape, hb.output, hb.size, fun k hk _ => hb.block k hk⟩ (by cases (Value.slice aK L.length cK).ownBlock <;> simp), fun i hi => (h3 i hi).same fun b hb' => ⟨⟨hb'.1, Nat.lt_of_lt_of_le hb'.2.1 hb.size, hb'.2.2⟩, hb.block b hb'.2.1⟩⟩
/-- One Kid more: it was appended, and the row stored into the box. -/
theorem app_step2 {w5 w7 : World} {B g cap cu : Nat} {k n : Int} {L : List Tm} {u : Tm} {vs : Nat → Value} {aK au : Option Addr} {cK : Nat}
    (hbx : w5.heap[B]? = some (.cells #[.int .i64 k, .int .i64 n, .slice aK L.length cK] 24 (0, 0)))
    (hO : w5.ownsRow (B + 1) 24 3 (.slice aK L.length cK) L.length (cells3 L vs)) (hats : ∀ i (_ : i < L.length), AtS (fun b => B + 1 ≤ b ∧ b < w5.heap.size ∧ some b ≠ (Value.slice aK L.length cK).ownBlock) w5 L[i].kids (vs i))
    (hu : AtS (fun b => B + 1 ≤ b ∧ b < w5.heap.size ∧ some b ≠ (Value.slice aK L.length cK).ownBlock) w5 u.kids (.slice au u.kids.length cu))
    (hown7 : w7.ownsRow (B + 1) 24 3 (.slice (some ⟨g, 0, none⟩) (L.length + 1) cap) (L.length + 1) (cells3 L vs ++ [.int .i64 u.k, .int .i64 u.n, .slice au u.kids.length cu]))
    (hgrow : w5.grownBy w7 (Value.slice aK L.length cK).ownBlock) (hat : (Value.slice aK L.length cK).ownBlock = some g ∨ g = w5.heap.size) :
    AppInv B k n (L ++ [u]) (w7.setCell ⟨B, 2, none⟩ (.slice (some ⟨g, 0, none⟩) (L.length + 1) cap)) ∧ Below B w5 (w7.setCell ⟨B, 2, none⟩ (.slice (some ⟨g, 0, none⟩) (L.length + 1) cap)) := by
  have hBl : B < w5.heap.size := (Array.getElem?_eq_some_iff.1 hbx).1
  have hol := hO.lt
  have hz7 := hgrow.size
  have hnow : ∀ b, b ≤ B → some b ≠ (Value.slice aK L.length cK).ownBlock := fun b hb e => by have := (hol b e.symm).1; omega
  have hl7 := hown7.lt g rfl
  have blk : ∀ b, b < w5.heap.size → some b ≠ (Value.slice aK L.length cK).ownBlock → w7.heap[b]? = w5.heap[b]? := fun b hb hne => hgrow.block b hb hne
  have hgne : ∀ b, b < w5.heap.size → some b ≠ (Value.slice aK L.length cK).ownBlock → b ≠ g := fun b hb hne e => by
    rcases hat with h | h
    · exact hne (by rw [h, e])
    · omega
  have hb7 : Below (B + 1) w5 w7 := (Below.refl (B + 1) w5).grown hgrow (by omega) (fun k hk => (hol k hk).1)
  have hs7 := (hb7.block B (by omega)).trans hbx
  have hlen : (L ++ [u]).length = L.length + 1 := by simp
  refine ⟨⟨fun i => if i < L.length then vs i else .slice au u.kids.length cu, some ⟨g, 0, none⟩, cap, ?_, ?_, fun i hi => ?_⟩, (hb7.mono (Nat.le_succ B)).setCell (Nat.le_refl _) _⟩
  · rw [hlen]; exact heap_setCell_same w7 B 2 _ _ _ hs7
  · rw [hlen, cells3_snoc L u vs _ (fun i hi => by rw [if_pos hi]), if_neg (by omega)]
    exact ownsRow_setCell_other hown7 (by simp [Value.ownBlock]; omega) _
  · have fin : ∀ b, (B + 1 ≤ b ∧ b < w5.heap.size ∧ some b ≠ (Value.slice aK L.length cK).ownBlock) → (B + 1 ≤ b ∧ b < (w7.setCell ⟨B, 2, none⟩ (.slice (some ⟨g, 0, none⟩) (L.length + 1) cap)).heap.size ∧ some b ≠ (Value.slice (some ⟨g, 0, none⟩) (L ++ [u]).length cap).ownBlock) ∧ (w7.setCell ⟨B, 2, none⟩ (.slice (some ⟨g, 0, none⟩) (L.length + 1) cap)).heap[b]? = w5.heap[b]? := fun b ⟨q1, q2, q3⟩ =>
      ⟨⟨q1, by simp; omega, by simpa [Value.ownBlock] using hgne b q2 q3⟩, (Below.heap_setCell _ _ _ _ (by dsimp only; omega)).trans (blk b q2 q3)⟩
    by_cases hil : i < L.length
    · simp only [if_pos hil]
      rw [List.getElem_append_left hil]
      exact (hats i hil).same fin
    · obtain rfl : i = L.length := by omega
      simp only [if_neg hil]
      rw [List.getElem_append_right (Nat.le_refl _)]
      simp only [Nat.sub_self, List.getElem_singleton]
      exact hu.same fin
theorem below_t3 (w : World) (o1 : Obj) (o2 : Obj) (o3 : Obj) : Below w.heap.size w (((w.alloc o1).alloc o2).alloc o3) := (((Below.refl _ w).alloc (Nat.le_refl _) o1).alloc (by simp) o2).alloc (by simp; omega) o3
def LsOk (t : Tm) : Prop := formedB t = true → ∀ (m : Int) (w : World) (v : Value), 0 ≤ m → m + depth t ≤ 1000000 → At w t.kids v →
    Calls Try.prog 37 #[.agg #[.int .i64 t.k, .int .i64 t.n, v], .int .i64 m] w (TellA w (mapT ls t m))
set_option maxRecDepth 100000 in
set_option maxHeartbeats 2000000 in
theorem rless_leaf (n m : Int) (hn0 : 0 ≤ n) (hn1 : n ≤ 65535) (w : World) (a : Option Addr) (cap : Nat) :
    Calls Try.prog 37 #[.agg #[.int .i64 1, .int .i64 n, .slice a 0 cap], .int .i64 m] w fun e w' => e = .returned (.agg #[.int .i64 1, .int .i64 (ls m n), .slice none 0 0]) ∧ Below w.heap.size w w' := by
  have hw : IntKind.i64.wrap (n - 1) = n - 1 := IntWalk.i64_in _ (by omega)
  by_cases hf : m < n
  · have hm : ls m n = n - 1 := by unfold ls; rw [if_pos hf]
    rw [hm]
    clear hm
    go_enter Try.func37, Try.ntmps37
    go_wp2_with fail
    go_loopw [6] (fun i wr => i = .int .i64 0 ∧ wr = (((w.alloc (.cells #[.int .i64 1, .int .i64 n, .slice a 0 cap] 24)).alloc (.cells #[.int .i64 0, .int .i64 0, .slice none 0 0] 24)).alloc (.cells #[.int .i64 1, .int .i64 (n - 1), .slice none 0 0] 24))) (fun _ _ => 0)
    case atStart => exact ⟨rfl, rfl⟩
    case round =>
      obtain ⟨rfl, rfl⟩ := hrel
      go_wp2_with fail
      exact bodyPost_ret (v := .agg #[.int .i64 1, .int .i64 (n - 1), .slice none 0 0]) (by simp [results, Try.f37, go_sem]) rfl ⟨rfl, below_t3 w _ _ _⟩
  · have hm : ls m n = n := by unfold ls; rw [if_neg hf]
    have hf2 : decide (m < n) = false := decide_eq_false hf
    rw [hm]
    clear hm hf
    go_enter Try.func37, Try.ntmps37
    go_wp2_with fail
    go_loopw [6] (fun i wr => i = .int .i64 0 ∧ wr = (((w.alloc (.cells #[.int .i64 1, .int .i64 n, .slice a 0 cap] 24)).alloc (.cells #[.int .i64 0, .int .i64 0, .slice none 0 0] 24)).alloc (.cells #[.int .i64 1, .int .i64 n, .slice none 0 0] 24))) (fun _ _ => 0)
    case atStart => exact ⟨rfl, rfl⟩
    case round =>
      obtain ⟨rfl, rfl⟩ := hrel
      go_wp2_with fail
      exact bodyPost_ret (v := .agg #[.int .i64 1, .int .i64 n, .slice none 0 0]) (by simp [results, Try.f37, go_sem]) rfl ⟨rfl, below_t3 w _ _ _⟩
set_option maxRecDepth 100000 in
set_option maxHeartbeats 3000000 in
theorem rless_node (t : Tm) (hk : t.k ≠ 1) (ih : ∀ u ∈ t.kids, LsOk u) : LsOk t := by
  intro hf f w v hf0 hf1 hA
  obtain ⟨a, cap, rfl⟩ := hA.shape
  rw [formedB_eq, Bool.and_eq_true, Bool.and_eq_true, decide_eq_true_eq] at hf
  obtain ⟨⟨f1, f2⟩, f3⟩ := hf
  have hn : t.n ≤ 65535 := by
    split at f2
    · simp only [Bool.and_eq_true, decide_eq_true_eq] at f2; exact f2.2
    · simp only [decide_eq_true_eq] at f2; omega
  have hk3 : kidsI t.k ≤ 3 := by
    unfold kidsI
    split
    · omega
    · split
      · omega
      · split
        · omega
        · split <;> omega
  have hl3 : t.kids.length ≤ 3 := by omega
  rw [mapT_eq, if_neg hk]
  have e1 : (t.k == 1) = false := by simpa using hk
  have hdt := depth_eq t
  have HI0 : Hid (∀ W, W = (((w.alloc (.cells #[.int .i64 t.k, .int .i64 t.n, .slice a t.kids.length cap] 24)).alloc (.cells #[.int .i64 0, .int .i64 0, .slice none 0 0] 24)).alloc (.cells #[.int .i64 t.k, .int .i64 t.n, .slice none 0 0] 24)) →
      AppInv (w.heap.size + 1 + 1) t.k t.n (mapL ls (t.kids.take 0) t.k f 0) W ∧ (W.cell? ⟨w.heap.size, 0, none⟩ = some (.int .i64 t.k) ∧ W.cell? ⟨w.heap.size, 2, none⟩ = some (.slice a t.kids.length cap)) ∧ W.heap[w.heap.size + 1]? = some (.cells #[.int .i64 0, .int .i64 0, .slice none 0 0] 24 (0, 0)) ∧ Below w.heap.size w W) := by
    rintro W rfl
    have hn1 := World.alloc_heap_new ((w.alloc (.cells #[.int .i64 t.k, .int .i64 t.n, .slice a t.kids.length cap] 24)).alloc (.cells #[.int .i64 0, .int .i64 0, .slice none 0 0] 24)) (.cells #[.int .i64 t.k, .int .i64 t.n, .slice none 0 0] 24)
    simp only [World.size_alloc] at hn1
    have hn2 := World.alloc_heap_new (w.alloc (.cells #[.int .i64 t.k, .int .i64 t.n, .slice a t.kids.length cap] 24)) (.cells #[.int .i64 0, .int .i64 0, .slice none 0 0] 24)
    simp only [World.size_alloc] at hn2
    refine ⟨by rw [List.take_zero]; exact AppInv.start hn1, ⟨by simp [go_sem], by simp [go_sem]⟩, (Below.heap_alloc _ _ _ (by simp)).trans hn2, below_t3 w _ _ _⟩
  have HIH := Lib.hid ih
  have HFL := Lib.hid f3
  have HA := Lib.hid hA
  clear hk f1 f2 f3 hn hk3 ih hA
  go_enter Try.func37, Try.ntmps37
  go_wp2_with fail
  go_loopw [6] (fun i wr => ∃ j : Nat, j ≤ t.kids.length ∧ i = .int .i64 j ∧ AppInv (w.heap.size + 1 + 1) t.k t.n (mapL ls (t.kids.take j) t.k f 0) wr ∧ (wr.cell? ⟨w.heap.size, 0, none⟩ = some (.int .i64 t.k) ∧ wr.cell? ⟨w.heap.size, 2, none⟩ = some (.slice a t.kids.length cap)) ∧ wr.heap[w.heap.size + 1]? = some (.cells #[.int .i64 0, .int .i64 0, .slice none 0 0] 24 (0, 0)) ∧ Below w.heap.size w wr) (fun i _ => t.kids.length - (RowKit.intOf i).toNat)
  case atStart =>
    obtain ⟨h1, h2, h3, h4⟩ := HI0.out _ rfl
    exact ⟨0, Nat.zero_le _, rfl, h1, h2, h3, h4⟩
  case round =>
    obtain ⟨j, hj, rfl, hI, ⟨x0, x2⟩, hz, hbw⟩ := hrel
    clear HI0
    by_cases hlt : j < t.kids.length
    · obtain ⟨bk, ok, ck, vk, he, h1, h2, kk, kn, kv, ks⟩ := HA.out.pos (by omega)
      have k0 := gcell hbw (kk j hlt)
      have k1 := gcell hbw (kn j hlt)
      have k2 := gcell hbw (kv j hlt)
      have k3 := (ks j hlt).bel hbw (Nat.le_refl _)
      obtain ⟨au, cu, hvu⟩ := k3.shape
      rw [hvu] at k2 k3
      have hbr := bindsI_range t.k j
      have hdj : depth t.kids[j] ≤ depthL t.kids := depth_get hlt
      have hwb : IntKind.i64.wrap (f + bindsI t.k j) = f + bindsI t.k j := IntWalk.i64_in _ (by omega)
      have HC : Hid (∀ W, Below wr.heap.size wr W → Calls Try.prog 37 #[.agg #[.int .i64 t.kids[j].k, .int .i64 t.kids[j].n, .slice au t.kids[j].kids.length cu], .int .i64 (f + bindsI t.k j)] W (TellA W (mapT ls t.kids[j] (f + bindsI t.k j)))) := fun W hW =>
        HIH.out t.kids[j] (List.getElem_mem hlt) (formedL_mem HFL.out (List.getElem_mem hlt)) (f + bindsI t.k j) W _ (by omega) (by omega) (k3.bel hW (Nat.le_refl _))
      have HLS := mapL_take_succ ls hlt t.k f
      generalize mapT ls t.kids[j] (f + bindsI t.k j) = uj at *
      have hLl : (mapL ls (t.kids.take j) t.k f 0).length = j := by rw [mapL_length, List.length_take]; omega
      generalize mapL ls (t.kids.take j) t.k f 0 = L at *
      have HLX := Lib.hid HLS
      have HLl := Lib.hid hLl
      clear hLl
      have hww : w.heap.size + 2 < wr.heap.size := by
        obtain ⟨vs, aK, cK, q1, _⟩ := hI
        exact (Array.getElem?_eq_some_iff.1 q1).1
      have HII := Lib.hid hI
      have HBW := Lib.hid hbw
      have HZ := Lib.hid hz
      have HX := Lib.hid (And.intro x0 x2)
      cases he
      obtain ⟨vs, aK, cK, hbx, hown, hats⟩ := hI
      obtain ⟨v0, v1, v2⟩ := (boxc hbx).1
      have hol := hown.lt
      have H1 := Lib.hid hbx
      have H2 := Lib.hid hown
      have H3 := Lib.hid hats
      have HOL := Lib.hid hol
      have HKC := Lib.hid (And.intro k0 (And.intro k1 (And.intro k2 v2)))
      have hm1 : L.length + 1 ≤ maxLen := by have := HLl.out; unfold maxLen; omega
      have hm2 : (L.length + 1) * 40 ≤ 140737488355328 := by have := HLl.out; omega
      obtain ⟨i0, hi, hz0, hz1, hz2⟩ := info_parts Try.infoT
      have hlt0 : (0 : Int) ≤ (j : Int) := by omega
      have hlt1 : (j : Int) < (t.kids.length : Int) := by omega
      clear kk kn kv ks hvu k3 hbr hdj hbw hz h1 h2 HLS hbx hown hats hol v0 v1 v2 k0 k1 k2
      go_wp2_with fail
      clear x0 x2
      refine wp_region_rel_tail 15 (by kernel_rfl) (by kernel_rfl) (by kernel_rfl) ?_
      simp only [List.take_succ_cons, List.take_zero]
      simp only [List.drop_succ_cons, List.drop_zero]
      apply RelWalk.next 13
      · kernel_rfl
      · intro X _ W hW hcl
        simp only [List.take_succ_cons, List.take_zero]
        obtain ⟨y0, y2⟩ := HX.out
        obtain ⟨y3, y4, y5, y6⟩ := HKC.out
        have q0 := fun q => gcell (hW q) y0
        have q2 := fun q => gcell (hW q) y2
        have q3 := fun q => gcell (hW q) y3
        have q4 := fun q => gcell (hW q) y4
        have q5 := fun q => gcell (hW q) y5
        have q6 := fun q => gcell (hW q) y6
        have cB := Lib.hid (fun q => intoSame (rbinds_any t.k (j : Int) (W q)))
        clear y0 y2 y3 y4 y5 y6
        repeat (go_big_quiet_step (with_reducible exact cB.out _))
        exact wpQuiet_nil rfl
      simp only [List.drop_succ_cons, List.drop_zero]
      refine RelWalk.made0 (plain fun v W => ∃ a cap, v = .agg #[.int .i64 uj.k, .int .i64 uj.n, .slice a uj.kids.length cap] ∧ AtS (fun b => wr.heap.size ≤ b) W uj.kids (.slice a uj.kids.length cap)) rfl (by kernel_rfl) (by kernel_rfl) rfl (mono_plain fun v W W' hg ⟨a, c, h1, h2⟩ => ⟨a, c, h1, h2.grw hg⟩) (fun w2 hg => ?_) ?_
      · have hc := Lib.hid (HC.out w2 hg)
        go_simp
        exact rel_enter (hc.out.mono fun e w3 ⟨a3, c3, he, hA3, hb3⟩ => ⟨_, he, hb3, a3, c3, rfl, hA3.mono fun b hb => Nat.le_trans hg.size hb.1⟩)
      simp only [Act.put, List.setIfInBounds_toArray, List.set_cons_zero, List.set_cons_succ]
      refine RelWalk.made1 (fun v s e W => v = .slice (some ⟨s, 0, none⟩) 1 1 ∧ s < W.heap.size ∧ ∃ a cap, W.heap[s]? = some (.cells #[.int .i64 uj.k, .int .i64 uj.n, .slice a uj.kids.length cap] 24 (0, 0)) ∧ AtS (fun b => wr.heap.size ≤ b) W uj.kids (.slice a uj.kids.length cap)) rfl (by kernel_rfl) (by kernel_rfl) rfl (fun v s e W W' hg ⟨h1, h2, a, c, h3, h4⟩ => ⟨h1, Nat.lt_of_lt_of_le h2 hg.size, a, c, (hg.block s h2).trans h3, h4.grw hg⟩) (fun g w2 hg v1 hv1 => ?_) ?_
      · obtain ⟨a, c, rfl, hA⟩ := hv1
        have HAA := Lib.hid hA
        clear hA
        go_simp
        exact ⟨below_al w2 _, rfl, by simp, a, c, World.alloc_heap_new w2 _, HAA.out.grw (below_al w2 _)⟩
      simp only [Act.put, List.setIfInBounds_toArray, List.set_cons_zero, List.set_cons_succ]
      refine .done fun g w2 hg hpt => ?_
      simp only [Spread]
      rintro v46 ⟨rfl, hs6, a4, c4, hn6, hK6⟩ v45 _
      simp only [Act.put, List.setIfInBounds_toArray, List.set_cons_zero, List.set_cons_succ]
      obtain ⟨s6, h6⟩ : ∃ s, (g 46).1 = s := ⟨_, rfl⟩
      rw [h6] at hs6 hn6 ⊢
      clear hpt h6
      obtain ⟨J1, J2, J3⟩ := app_keep H1.out H2.out H3.out hg
      have HJ1 := Lib.hid J1
      have HJ2 := Lib.hid J2
      have HJ3 := Lib.hid J3
      have HN6 := Lib.hid hn6
      have HG := Lib.hid hg
      have hz2' := hg.size
      have HU5 : Hid (AtS (fun b => w.heap.size + 1 + 1 + 1 ≤ b ∧ b < w2.heap.size ∧ some b ≠ (Value.slice aK L.length cK).ownBlock) w2 uj.kids (.slice a4 uj.kids.length c4)) := hK6.lt.same fun b hb => ⟨⟨by omega, hb.2, fun e => by have := (HOL.out b e.symm).2; omega⟩, rfl⟩
      have HS7 : Hid (∀ w7, w2.grownBy w7 (Value.slice aK L.length cK).ownBlock → w7.heap[w.heap.size + 1 + 1]? = some (.cells #[.int .i64 t.k, .int .i64 t.n, .slice aK L.length cK] 24 (0, 0))) := fun w7 hg7 =>
        (hg7.block _ (by omega) (fun e => by have := (HOL.out _ e.symm).1; omega)).trans HJ1.out
      clear J1 J2 J3 hn6 hg hK6
      go_wp2_with (at_builtin; refine wpList_append_lies _ rfl (.tmp 33) (.tmp 46) 22 rfl (w.heap.size + 1 + 1 + 1) 24 i0 _ 3 40 Try.underlying22 hi hz0 hz1 hz2 rfl (by decide) (.slice aK L.length cK) _ _ rfl HJ2.out ⟨s6, 0, none⟩ 1 1 [.int .i64 uj.k, .int .i64 uj.n, .slice a4 uj.kids.length c4] rfl rfl (by have := World.news_of_block HN6.out; simpa using this) (by simp [Value.oneCell']) (by decide) hm1 hm2 (by omega) w2.heap.size rfl ?_; intro g7 cp w7 hown7 hgrow7 hat7 hlt7; obtain ⟨⟨p0, p1, p2⟩, p3, p4, p5⟩ := boxc (HS7.out _ hgrow7))
      have HA8 := Lib.hid (app_step2 HJ1.out HJ2.out HJ3.out HU5.out hown7 hgrow7 hat7)
      clear hown7 hgrow7 p0 p1 p2 p3 p4 p5
      go_wp2_with fail
      go_roundw
      case rel =>
        obtain ⟨r1, r2⟩ := HA8.out
        refine ⟨j + 1, by omega, by go_num, by rw [HLX.out]; exact r1, ⟨(r2.cell (by dsimp only; omega)).trans (gcell HG.out HX.out.1), (r2.cell (by dsimp only; omega)).trans (gcell HG.out HX.out.2)⟩, (r2.block _ (by omega)).trans ((HG.out.block _ (by omega)).trans HZ.out), (HBW.out.trans (HG.out.mono HBW.out.size)).trans (r2.mono (by omega))⟩
      case measure => simp [RowKit.intOf]; omega
    · obtain rfl : j = t.kids.length := by omega
      have hlt1 : decide ((t.kids.length : Int) < (t.kids.length : Int)) = false := by simp
      rw [List.take_length] at hI
      have HBW := Lib.hid hbw
      obtain ⟨vs, aK, cK, hbx, hown, hats⟩ := hI
      obtain ⟨⟨v0, v1, v2⟩, _⟩ := boxc hbx
      obtain ⟨⟨c0, c1, c2⟩, g0, g1, g2⟩ := boxc hz
      have hR := AppInv.ats (k := t.k) (n := t.n) hown hats
      have HR := Lib.hid hR
      have hz2 : w.heap.size + 2 < wr.heap.size := (Array.getElem?_eq_some_iff.1 hbx).1
      generalize mapL ls t.kids t.k f 0 = L at *
      clear hbx hown hats hR hbw hz hlt hj
      go_wp2_with fail
      refine bodyPost_ret (v := .agg #[.int .i64 t.k, .int .i64 t.n, .slice aK L.length cK]) (by simp [results, Try.f37, go_sem, c0, c1, c2]) rfl ⟨aK, cK, rfl, HR.out.same fun b hb => ⟨⟨by omega, by simp; omega⟩, other_store3 (by omega) _ _ _⟩, HBW.out.trans (below_store3 (by omega) _ _ _)⟩
theorem rless_any : ∀ t : Tm, LsOk t := by
  refine tm_ind fun t ih => ?_
  by_cases hk : t.k = 1
  · intro hf f w v hf0 hf1 hA
    obtain ⟨a, cap, rfl⟩ := hA.shape
    rw [formedB_eq, Bool.and_eq_true, Bool.and_eq_true, decide_eq_true_eq] at hf
    obtain ⟨⟨f1, f2⟩, f3⟩ := hf
    have hl0 : t.kids.length = 0 := by rw [hk] at f1; have : kidsI 1 = 0 := by decide
                                       omega
    rw [if_pos hl0, Bool.and_eq_true, decide_eq_true_eq, decide_eq_true_eq] at f2
    have hM : mapT ls t f = .node 1 (ls f t.n) [] := by
      rw [mapT_eq, if_pos hk, hk, List.eq_nil_of_length_eq_zero hl0]; rfl
    rw [hM, hk, hl0]
    refine (rless_leaf t.n f f2.1 f2.2 w a cap).mono ?_
    rintro e w' ⟨rfl, hb⟩
    exact ⟨none, 0, rfl, .nl, hb⟩
  · exact rless_node t hk ih
end Go.Proofs.Ytfbinoifhabgoaa
