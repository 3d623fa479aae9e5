/- Package tele's functions, as the statements call them; wakes of layer 6. No conditions but sizes. -/
import Derived.Test.YtblebboamopffaaBv
import Derived.Test.YtblebboamopffaaLb
import Derived.Test.YtblebboamopffaaTw
namespace Go.Proofs.Ytblebboamopffaa
open Go.RowKit
set_option linter.unusedVariables false

theorem spis_any (l : List Tm) (hFl : ∀ a ∈ l, Fits a) (hsl : sizeL l ≤ 1048576) (t : Tm) (hF : Fits t) (hs : size t ≤ 1048576) (w : World) (vl v : Value) (hL : At w l vl) (hA : At w t.kids v) :
    Calls Try.prog 12 #[vl, .agg #[.int .i64 t.k, .int .i64 t.n, v]] w (TellE w (wrapT 4 l t)) := spis0 l hsl t hs w vl v hL hA
theorem slams_any (l : List Tm) (hFl : ∀ a ∈ l, Fits a) (hsl : sizeL l ≤ 1048576) (t : Tm) (hF : Fits t) (hs : size t ≤ 1048576) (w : World) (vl v : Value) (hL : At w l vl) (hA : At w t.kids v) :
    Calls Try.prog 13 #[vl, .agg #[.int .i64 t.k, .int .i64 t.n, v]] w (TellE w (wrapT 5 l t)) := slams0 l hsl t hs w vl v hL hA
theorem sspine_any (t : Tm) (hF : Fits t) (hs : size t ≤ 1048576) (l : List Tm) (hFl : ∀ a ∈ l, Fits a) (hsl : sizeL l ≤ 1048576) (w : World) (v vl : Value) (hA : At w t.kids v) (hL : At w l vl) :
    Calls Try.prog 14 #[.agg #[.int .i64 t.k, .int .i64 t.n, v], vl] w (TellE w (spineT t l)) := sspine0 t hs l hsl w v vl hA hL
theorem sunspine_any (t : Tm) (hF : Fits t) (hs : size t ≤ 1048576) (w : World) (v : Value) (hA : At w t.kids v) :
    Calls Try.prog 15 #[.agg #[.int .i64 t.k, .int .i64 t.n, v]] w (TellTL w (unspine t).1 (unspine t).2) := sunspine0 t hs w v hA
theorem sunpis_any (t : Tm) (hF : Fits t) (hs : size t ≤ 1048576) (w : World) (v : Value) (hA : At w t.kids v) :
    Calls Try.prog 16 #[.agg #[.int .i64 t.k, .int .i64 t.n, v]] w (TellLT w (unpis t).1 (unpis t).2) := sunpis0 t hs w v hA
def w6l : List Tm := [.node 1 0 [], .node 2 0 []]
def w6t : Tm := .node 6 0 [.node 6 0 [.node 3 3 [], .node 1 0 []], .node 2 0 []]
theorem w6_fits : Fits (.node 3 3 []) ∧ (∀ a ∈ w6l, Fits a) ∧ Fits w6t := by
  have h : ∀ k n : Int, 0 ≤ k → k < 10 → 0 ≤ n → n < 10 → Fits (.node k n []) := fun k n h1 h2 h3 h4 => .mk k n [] (by unfold I64; omega) (by unfold I64; omega) fun x hx => nomatch hx
  have h2 : ∀ a b : Tm, Fits a → Fits b → Fits (.node 6 0 [a, b]) := fun a b ha hb => .mk 6 0 _ (by unfold I64; omega) (by unfold I64; omega) fun x hx => by
    rcases List.mem_cons.1 hx with rfl | hx
    · exact ha
    · rw [List.mem_singleton.1 hx]; exact hb
  refine ⟨h _ _ (by omega) (by omega) (by omega) (by omega), fun a ha => ?_, h2 _ _ (h2 _ _ (h _ _ (by omega) (by omega) (by omega) (by omega)) (h _ _ (by omega) (by omega) (by omega) (by omega))) (h _ _ (by omega) (by omega) (by omega) (by omega))⟩
  rcases List.mem_cons.1 ha with rfl | ha
  · exact h _ _ (by omega) (by omega) (by omega) (by omega)
  · rw [List.mem_singleton.1 ha]; exact h _ _ (by omega) (by omega) (by omega) (by omega)
theorem at_w6 (w : World) : At (w.alloc (.cells #[.int .i64 1, .int .i64 0, .slice none 0 0, .int .i64 2, .int .i64 0, .slice none 0 0] 24)) w6l (.slice (some ⟨w.heap.size, 0, none⟩) 2 2) := by
  have hn := World.alloc_heap_new w (.cells #[.int .i64 1, .int .i64 0, .slice none 0 0, .int .i64 2, .int .i64 0, .slice none 0 0] 24)
  revert hn
  generalize w.alloc (.cells #[.int .i64 1, .int .i64 0, .slice none 0 0, .int .i64 2, .int .i64 0, .slice none 0 0] 24) = W
  intro hn
  refine .row w6l w.heap.size 0 2 (fun _ => .slice none 0 0) (by simp [w6l]) (by decide) (fun i hi => ?_) (fun i hi => ?_) (fun i hi => ?_) (fun i hi => ?_)
  all_goals
    have hi2 : i < 2 := hi
    have : i = 0 ∨ i = 1 := by omega
    rcases this with rfl | rfl
  all_goals first | exact .nl | simp [World.cell?, hn, w6l, Tm.k, Tm.n]
set_option maxRecDepth 100000 in
set_option maxHeartbeats 2000000 in
theorem wakes6_any (w : World) :
    Calls Try.prog 28 #[] w fun e w' => e = .returned (.bool true) ∧ Below w.heap.size w w' := by
  obtain ⟨f1, f2, f3⟩ := w6_fits
  have HC := Lib.hid (fun n w => c3_any n w)
  have HV := Lib.hid (fun n w => v_any n w)
  have HU := Lib.hid (fun n w => u_any n w)
  have SP : Hid (∀ W v vl, At W [] v → At W w6l vl → Calls Try.prog 14 #[.agg #[.int .i64 3, .int .i64 3, v], vl] W fun e w' => ∃ a c, e = .returned (.agg #[.int .i64 6, .int .i64 0, .slice a 2 c]) ∧ At w' w6t.kids (.slice a 2 c) ∧ Below W.heap.size W w') := fun W v vl hA hL => (sspine_any (.node 3 3 []) f1 (by decide) w6l f2 (by decide) W v vl hA hL).mono fun e w' ⟨a, c, he, hA, hb⟩ => ⟨a, c, he, hA.at, hb⟩
  have UN : Hid (∀ W v, At W w6t.kids v → Calls Try.prog 15 #[.agg #[.int .i64 6, .int .i64 0, v]] W fun e w' => ∃ a c a2 c2, e = .returned (.tuple #[.agg #[.int .i64 3, .int .i64 3, .slice a 0 c], .slice a2 2 c2]) ∧ At w' [] (.slice a 0 c) ∧ Below W.heap.size W w') := fun W v hA => by
    have := sunspine_any w6t f3 (by decide) W v hA
    rw [show unspine w6t = (.node 3 3 [], w6l) from by simp [w6t, w6l, unspine]] at this
    exact this.mono fun e w' ⟨a, c, a2, c2, he, hA, _, hb⟩ => ⟨a, c, a2, c2, he, hA.at, hb⟩
  have SZ : Hid (∀ W v, At W w6t.kids v → Calls Try.prog 29 #[.agg #[.int .i64 6, .int .i64 0, v]] W fun e w' => e = .returned (.int .i64 5) ∧ Below W.heap.size W w') := fun W v hA => c_size w6t f3 (by decide) W v hA
  have V2 : Hid (∀ W, Calls Try.prog 24 #[.int .i64 2] W fun e w' => ∃ a cap, e = .returned (.slice a 2 cap) ∧ Below W.heap.size W w') := fun W => (svars_any 2 W).mono fun e w' ⟨a, c, he, _, hb⟩ => ⟨a, c, he, hb⟩
  clear f1 f2 f3
  go_enter Try.func28, Try.ntmps28
  go_wp2_with fail
  refine (HC.out _ _).mono ?_
  rintro e w1 ⟨rfl, hb1⟩
  go_wp2_with fail
  refine (HV.out _ _).mono ?_
  rintro e w2 ⟨rfl, hb2⟩
  go_wp2_with fail
  refine (HU.out _ _).mono ?_
  rintro e w3 ⟨rfl, hb3⟩
  have B3 := Lib.hid ((hb1.trans (hb2.mono hb1.size)).trans (hb3.mono (Nat.le_trans hb1.size hb2.size)))
  clear hb1 hb2 hb3 HC HV HU
  go_wp2_with fail
  refine (SP.out _ _ _ .nl (at_w6 w3)).mono ?_
  rintro e w4 ⟨a4, c4, rfl, hA4, hb4⟩
  have B4 := B3.out.trans ((below_al w3 (.cells #[.int .i64 1, .int .i64 0, .slice none 0 0, .int .i64 2, .int .i64 0, .slice none 0 0] 24)).mono B3.out.size)
  obtain ⟨hO5, hg5⟩ := boxed_at (r := w6t) B4 hb4 hA4
  have O5 := Lib.hid (show One w w4.heap.size w6t (.slice a4 2 c4) (w4.alloc (.cells #[.int .i64 6, .int .i64 0, .slice a4 2 c4] 24)) from hO5)
  clear hO5 hg5 hA4 hb4 B4 B3 SP
  have X5 : Hid (∀ W, One w w4.heap.size w6t (.slice a4 2 c4) W → W.cell? ⟨w4.heap.size, 0, none⟩ = some (.int .i64 6) ∧ W.cell? ⟨w4.heap.size, 1, none⟩ = some (.int .i64 0) ∧ W.cell? ⟨w4.heap.size, 2, none⟩ = some (.slice a4 2 c4)) := fun W h => h.1
  obtain ⟨x0, x1, x2⟩ := X5.out _ O5.out
  go_wp2_with fail
  refine (UN.out _ _ O5.out.2.1).mono ?_
  rintro e w6 ⟨a6, c6, a7, c7, rfl, hF6, hb6⟩
  obtain ⟨hO7, hg7⟩ := boxed_at (r := .node 3 3 []) O5.out.2.2 hb6 hF6
  have F7 := Lib.hid (show One w w6.heap.size (.node 3 3 []) (.slice a6 0 c6) (w6.alloc (.cells #[.int .i64 3, .int .i64 3, .slice a6 0 c6] 24)) from hO7)
  have O7 : Hid (One w w4.heap.size w6t (.slice a4 2 c4) (w6.alloc (.cells #[.int .i64 3, .int .i64 3, .slice a6 0 c6] 24))) := O5.out.bel hg7
  clear hO7 hg7 hF6 hb6 x0 x1 x2 O5 UN
  obtain ⟨x0, x1, x2⟩ := X5.out _ O7.out
  go_wp2_with fail
  refine (SZ.out _ _ O7.out.2.1).mono ?_
  rintro e w8 ⟨rfl, hb8⟩
  have F8 := Lib.hid (F7.out.bel hb8)
  clear hb8 x0 x1 x2 O7 F7 SZ
  have y1 : w8.cell? ⟨w6.heap.size, 1, none⟩ = some (.int .i64 3) := F8.out.1.2.1
  go_wp2_with fail
  refine (V2.out _).mono ?_
  rintro e w9 ⟨a9, c9, rfl, hb9⟩
  have B9 := Lib.hid (F8.out.2.2.trans (hb9.mono F8.out.2.2.size))
  clear hb9 F8
  go_wp2_with fail
  go_ret
  exact ⟨rfl, B9.out⟩
end Go.Proofs.Ytblebboamopffaa
