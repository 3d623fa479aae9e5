/- What the statements of layer 5 wake up. No conditions. -/
import Derived.Test.YtbfefpejcefnhaaVa
import Derived.Test.YtbfefpejcefnhaaSu
namespace Go.Proofs.Ytbfefpejcefnhaa
open Go.RowKit
set_option linter.unusedVariables false

def app1T : Tm := .node 6 0 [.node 1 1 [], .node 1 0 []]
def app2T : Tm := .node 6 0 [.node 2 0 [], .node 2 1 []]
theorem app_facts : instE app1T app2T.kids 0 = 0 ∧ instT app1T app2T.kids 0 = app2T ∧ sizeOfN app1T [app1T, app1T] 0 = 7 ∧ eqT app2T app2T = true ∧ size app1T = 3 ∧ size app2T = 3 := by
  have h : instE app1T app2T.kids 0 = 0 := by decide +kernel
  refine ⟨h, by rw [instT, if_pos h]; rfl, ?_⟩
  decide +kernel
theorem app_fits : Fits app1T := fits_formed _ (by decide +kernel)
theorem app2_fits : ∀ a ∈ app2T.kids, Fits a := fun a ha => by
  have h : formedL app2T.kids = true := by decide +kernel
  exact fits_formed a (formedL_mem h ha)
theorem at_two (w : World) (k a b : Int) : At (w.alloc (.cells #[.int .i64 k, .int .i64 a, .slice none 0 0, .int .i64 k, .int .i64 b, .slice none 0 0] 24)) [.node k a [], .node k b []] (.slice (some ⟨w.heap.size, 0, none⟩) 2 2) := by
  have hn := World.alloc_heap_new w (.cells #[.int .i64 k, .int .i64 a, .slice none 0 0, .int .i64 k, .int .i64 b, .slice none 0 0] 24)
  revert hn
  generalize w.alloc (.cells #[.int .i64 k, .int .i64 a, .slice none 0 0, .int .i64 k, .int .i64 b, .slice none 0 0] 24) = W
  intro hn
  refine .row _ w.heap.size 0 2 (fun _ => .slice none 0 0) (by simp) (by decide) (fun i hi => ?_) (fun i hi => ?_) (fun i hi => ?_) (fun i hi => ?_)
  all_goals
    have hi2 : i < 2 := hi
    have : i = 0 ∨ i = 1 := by omega
    rcases this with rfl | rfl
  all_goals first | exact .nl | simp [World.cell?, hn, Tm.k, Tm.n]
theorem One.al {w0 W : World} {B1 : Nat} {t : Tm} {v : Value} (h : One w0 B1 t v W) (o : Obj) : One w0 B1 t v (W.alloc o) := h.bel (below_al W o)
theorem One.dr {w0 W : World} {B1 : Nat} {t : Tm} {v : Value} (h : One w0 B1 t v W) : One w0 B1 t v W.drew := h.bel (Below.refl _ W).drew
theorem one_app1 {w0 W : World} {B1 : Nat} {v : Value} (h : One w0 B1 app1T v W) : W.cell? ⟨B1, 0, none⟩ = some (.int .i64 6) ∧ W.cell? ⟨B1, 1, none⟩ = some (.int .i64 0) ∧ W.cell? ⟨B1, 2, none⟩ = some v := h.1
/-- A box that was made for what a call is to tell. -/
def Zb (wa : World) (B : Nat) (W : World) : Prop := W.heap[B]? = some (.cells #[.int .i64 0, .int .i64 0, .slice none 0 0] 24 (0, 0)) ∧ wa.heap.size ≤ B ∧ Below wa.heap.size wa W
theorem Zb.mk {wa W : World} {B1 : Nat} {t : Tm} {v : Value} (h : One wa B1 t v W) : Zb wa W.heap.size (W.alloc (.cells #[.int .i64 0, .int .i64 0, .slice none 0 0] 24)) := ⟨World.alloc_heap_new W _, h.2.2.size, (h.al _).2.2⟩
theorem Zb.lt {wa W : World} {B : Nat} (h : Zb wa B W) : B < W.heap.size := (Array.getElem?_eq_some_iff.1 h.1).1
theorem Zb.call {wa W W' : World} {B : Nat} (h : Zb wa B W) (hb : Below W.heap.size W W') : Zb wa B W' := ⟨(hb.block B h.lt).trans h.1, h.2.1, h.2.2.trans (hb.mono h.2.2.size)⟩
theorem Zb.ne {wa W : World} {B B1 : Nat} (h : Zb wa B W) (hl : B1 < wa.heap.size) : ¬ (B1 = B) ∧ ¬ (B = B1) := ⟨fun e => by have := h.2.1; omega, fun e => by have := h.2.1; omega⟩
theorem Zb.al {wa W : World} {B : Nat} (h : Zb wa B W) (o : Obj) : Zb wa B (W.alloc o) := h.call (below_al W o)
theorem Zb.dr {wa W : World} {B : Nat} (h : Zb wa B W) : Zb wa B W.drew := h.call (Below.refl _ W).drew
theorem zb_mk2 {wa W : World} {B1 : Nat} {t : Tm} {v : Value} (h : One wa B1 t v W) : Zb wa (W.heap.size + 1) ((W.alloc (.cells #[.int .i64 2, .int .i64 0, .slice none 0 0, .int .i64 2, .int .i64 1, .slice none 0 0] 24)).alloc (.cells #[.int .i64 0, .int .i64 0, .slice none 0 0] 24)) := by
  have := Zb.mk (h.al (.cells #[.int .i64 2, .int .i64 0, .slice none 0 0, .int .i64 2, .int .i64 1, .slice none 0 0] 24))
  rwa [World.size_alloc] at this
theorem zb_mk3 {wa W : World} {B1 : Nat} {t : Tm} {v : Value} (h : One wa B1 t v W) : Zb wa W.heap.size ((W.alloc (.cells #[.int .i64 0, .int .i64 0, .slice none 0 0] 24)).alloc (.cells #[.int .i64 2, .int .i64 0, .slice none 0 0, .int .i64 2, .int .i64 1, .slice none 0 0] 24)) := (Zb.mk h).al _
theorem zk {X w4 : World} {l : List Tm} {v : Value} {B : Nat} (hK : AtK (fun b => X.heap.size ≤ b ∧ b < w4.heap.size) w4 l v) (h : B < X.heap.size) : AtS (fun b => b ≠ B) w4 l v := hK.ats.mono fun b hb => by omega
theorem at_two_al (w : World) (o : Obj) (k a b : Int) : At ((w.alloc o).alloc (.cells #[.int .i64 k, .int .i64 a, .slice none 0 0, .int .i64 k, .int .i64 b, .slice none 0 0] 24)) [.node k a [], .node k b []] (.slice (some ⟨w.heap.size + 1, 0, none⟩) 2 2) := by
  have := at_two (w.alloc o) k a b
  rwa [World.size_alloc] at this

set_option maxRecDepth 100000 in
set_option maxHeartbeats 2000000 in
theorem wakes5_any (w : World) :
    Calls Try.prog 22 #[] w fun e w' => e = .returned (.bool true) ∧ Below w.heap.size w w' := by
  obtain ⟨i1, i2, i3, i4, i5, i6⟩ := app_facts
  have HV := Lib.hid (fun n w => v_any n w)
  have HU := Lib.hid (fun n w => u_any n w)
  have HT := Lib.hid (fun w => t_any 6 _ (by simp) (by simp) _ _ (at_two w 1 1 0))
  have HS : Hid (∀ W a cap va, At W app1T.kids (.slice a 2 cap) → At W app2T.kids va → Calls Try.prog 15 #[.agg #[.int .i64 6, .int .i64 0, .slice a 2 cap], va, .int .i64 0] W (TellK W app2T (.int .i64 0))) := fun W a cap va hA hAA => by
    have := sinst_any app1T app_fits (by rw [i5]; omega) app2T.kids app2_fits (by decide) (by decide) 0 W _ va hA hAA
    rw [i1, i2] at this; exact this
  clear i1 i2
  go_enter Try.func22, Try.ntmps22
  go_wp2_with fail
  refine (HV.out _ _).mono ?_
  rintro e w1 ⟨rfl, hb1⟩
  go_wp2_with fail
  refine (HV.out _ _).mono ?_
  rintro e w2 ⟨rfl, hb2⟩
  have B2 := Lib.hid (hb1.trans (hb2.mono hb1.size))
  clear hb1 hb2
  go_wp2_with fail
  refine (HT.out _).mono ?_
  rintro e w3 ⟨a3, c3, rfl, hA3, hb3⟩
  have O3 : Hid (One w3 w3.heap.size app1T (.slice a3 2 c3) (w3.alloc (.cells #[.int .i64 6, .int .i64 0, .slice a3 2 c3] 24))) := one_start w3 app1T (.slice a3 2 c3) hA3
  have B3 := Lib.hid ((B2.out.trans ((below_al w2 _).mono B2.out.size)).trans (hb3.mono (by have := B2.out.size; simp; omega)))
  have B4 := Lib.hid (B3.out.trans (O3.out.2.2.mono B3.out.size))
  clear hb3 hA3 B2 B3
  go_wp2_with fail
  have hlt : w3.heap.size < (w3.alloc (.cells #[.int .i64 6, .int .i64 0, .slice a3 2 c3] 24)).heap.size := by simp
  revert O3 B4 hlt
  generalize w3.alloc (.cells #[.int .i64 6, .int .i64 0, .slice a3 2 c3] 24) = wa
  generalize w3.heap.size = B1
  intro O3 B4 hlt
  have OA : One wa B1 app1T (.slice a3 2 c3) wa := ⟨O3.out.1, O3.out.2.1, Below.refl _ _⟩
  have HLT := Lib.hid hlt
  clear O3 HT HV hlt
  obtain ⟨x0, x1, x2⟩ := one_app1 OA
  have C1 : Hid (∀ W, One wa B1 app1T (.slice a3 2 c3) W → Calls Try.prog 15 #[.agg #[.int .i64 6, .int .i64 0, .slice a3 2 c3], .slice (some ⟨W.heap.size, 0, none⟩) 2 2, .int .i64 0] (W.alloc (.cells #[.int .i64 2, .int .i64 0, .slice none 0 0, .int .i64 2, .int .i64 1, .slice none 0 0] 24)) (TellK (W.alloc (.cells #[.int .i64 2, .int .i64 0, .slice none 0 0, .int .i64 2, .int .i64 1, .slice none 0 0] 24)) app2T (.int .i64 0))) := fun W h => HS.out _ _ _ _ (h.al _).2.1 (at_two W 2 0 1)
  have C2 : Hid (∀ W, One wa B1 app1T (.slice a3 2 c3) W → Calls Try.prog 15 #[.agg #[.int .i64 6, .int .i64 0, .slice a3 2 c3], .slice (some ⟨W.heap.size, 0, none⟩) 2 2, .int .i64 0] ((W.alloc (.cells #[.int .i64 2, .int .i64 0, .slice none 0 0, .int .i64 2, .int .i64 1, .slice none 0 0] 24)).alloc (.cells #[.int .i64 0, .int .i64 0, .slice none 0 0] 24)) (TellK ((W.alloc (.cells #[.int .i64 2, .int .i64 0, .slice none 0 0, .int .i64 2, .int .i64 1, .slice none 0 0] 24)).alloc (.cells #[.int .i64 0, .int .i64 0, .slice none 0 0] 24)) app2T (.int .i64 0))) := fun W h => HS.out _ _ _ _ ((h.al _).al _).2.1 ((at_two W 2 0 1).alloc _)
  have C3 : Hid (∀ W, One wa B1 app1T (.slice a3 2 c3) W → Calls Try.prog 15 #[.agg #[.int .i64 6, .int .i64 0, .slice a3 2 c3], .slice (some ⟨W.heap.size + 1, 0, none⟩) 2 2, .int .i64 0] ((W.alloc (.cells #[.int .i64 0, .int .i64 0, .slice none 0 0] 24)).alloc (.cells #[.int .i64 2, .int .i64 0, .slice none 0 0, .int .i64 2, .int .i64 1, .slice none 0 0] 24)) (TellK ((W.alloc (.cells #[.int .i64 0, .int .i64 0, .slice none 0 0] 24)).alloc (.cells #[.int .i64 2, .int .i64 0, .slice none 0 0, .int .i64 2, .int .i64 1, .slice none 0 0] 24)) app2T (.int .i64 0))) := fun W h => HS.out _ _ _ _ ((h.al _).al _).2.1 (at_two_al W _ 2 0 1)
  clear HS
  have HSZ : Hid (∀ W va, At W app1T.kids (.slice a3 2 c3) → At W [app1T, app1T] va → Calls Try.prog 18 #[.agg #[.int .i64 6, .int .i64 0, .slice a3 2 c3], va, .int .i64 0] W fun e w' => e = .returned (.int .i64 7) ∧ Below W.heap.size W w') := fun W va hA hAA => by
    have := ssizeof_any app1T app_fits (by rw [i5]; omega) [app1T, app1T] (fun a ha => by simp at ha; rw [ha]; exact app_fits) (by decide +kernel) (by decide) 0 W _ va hA hAA
    rw [i3] at this; exact this
  have HKT : Hid (∀ W va vb, At W app2T.kids va → At W app2T.kids vb → Calls Try.prog 17 #[.agg #[.int .i64 6, .int .i64 0, va], .agg #[.int .i64 6, .int .i64 0, vb]] W fun e w' => e = .returned (.bool true) ∧ Below W.heap.size W w') := fun W va vb hA hB => by
    have := c_keep app2T app2T (by rw [i6]; omega) (by rw [i6]; omega) W va vb hA hB
    rw [i4] at this; exact this
  have OW : Hid (One w B1 app1T (.slice a3 2 c3) wa) := ⟨OA.1, OA.2.1, B4.out⟩
  go_region_held3 (fun w' => w'.cell? ⟨B1, 0, none⟩ = some (.int .i64 6) ∧ w'.cell? ⟨B1, 1, none⟩ = some (.int .i64 0) ∧ w'.cell? ⟨B1, 2, none⟩ = some (.slice a3 2 c3)) (go_keep)
    (first | (go_at_call 45; (with_reducible refine (HU.out _ _).mono ?_); rintro e wu ⟨rfl, hbu⟩; (with_reducible first | (have hz := (Zb.mk OA).dr.call hbu; replace OA := ((OA.al _).dr).bel hbu) | (have hz := (Zb.mk OA).call hbu; replace OA := (OA.al _).bel hbu) | (replace hz := hz.call hbu; replace OA := OA.bel hbu) | (replace OA := OA.dr.bel hbu) | (replace OA := OA.bel hbu)); obtain ⟨z0, z1, z2⟩ := one_app1 OA) | (go_at_call 15; (with_reducible refine (C2.out _ OA).mono ?_); rintro e w4 ⟨a4, c4, rfl, hK4, hb4⟩; have hz := zb_mk2 OA; have hKB := zk hK4 hz.lt; replace hz := hz.call hb4; replace OA := ((OA.al _).al _).bel hb4; obtain ⟨⟨n0, n1, n2⟩, p0, p1, p2⟩ := boxc hz.1; obtain ⟨e1, e2⟩ := hz.ne HLT.out; obtain ⟨z0, z1, z2⟩ := one_app1 OA) | (go_at_call 15; (with_reducible refine (C3.out _ OA).mono ?_); rintro e w4 ⟨a4, c4, rfl, hK4, hb4⟩; have hz := zb_mk3 OA; have hKB := zk hK4 hz.lt; replace hz := hz.call hb4; replace OA := ((OA.al _).al _).bel hb4; obtain ⟨⟨n0, n1, n2⟩, p0, p1, p2⟩ := boxc hz.1; obtain ⟨e1, e2⟩ := hz.ne HLT.out; obtain ⟨z0, z1, z2⟩ := one_app1 OA) | (go_at_call 15; (with_reducible refine (C1.out _ OA).mono ?_); rintro e w4 ⟨a4, c4, rfl, hK4, hb4⟩; (first | (have hKB := zk hK4 (hz.al _).lt; replace hz := (hz.al _).call hb4; replace OA := (OA.al _).bel hb4; obtain ⟨⟨n0, n1, n2⟩, p0, p1, p2⟩ := boxc hz.1; obtain ⟨e1, e2⟩ := hz.ne HLT.out; obtain ⟨z0, z1, z2⟩ := one_app1 OA) | (replace OA := (OA.al _).bel hb4; obtain ⟨z0, z1, z2⟩ := one_app1 OA))))
  all_goals
    first
      | (have hPG := boxed_term (k := app2T.k) (n := app2T.n) (l := app2T.kids) B4.out hz.1 OA.2.2 hz.2.1 hKB; have hPF := And.intro (show One w _ app2T (.slice a4 app2T.kids.length c4) _ from hPG.1) hPG.2; have hBF := hPF.2; clear hPG)
      | (have hPF := boxed_tell B4.out OA.2.2 hK4; have hBF := hPF.2)
    have P5 := Lib.hid hPF.1
    have O5 := Lib.hid (OW.out.bel hBF)
    have B5 := Lib.hid (B4.out.trans (hBF.mono B4.out.size))
    clear hPF hBF hK4 hb4 OA z0 z1 z2
  all_goals
    go_wp2_with fail
    refine wp_region_rel (by kernel_rfl) (by kernel_rfl) (by kernel_rfl) ?_
    apply RelWalk.next 6
    · kernel_rfl
    · intro X _ W hW hcl
      simp only [List.take_succ_cons, List.take_zero]
      obtain ⟨⟨x0, x1, x2⟩, hX, _⟩ := P5.out
      have k0 := fun q => gcell (hW q) x0
      have k1 := fun q => gcell (hW q) x1
      have k2 := fun q => gcell (hW q) x2
      have cV : Hid (∀ n q, Calls Try.prog 45 #[.int .i64 n] (W q) fun e w'' => e = .returned (.agg #[.int .i64 2, .int .i64 n, .slice none 0 0]) ∧ ∃ q', w'' = W q') := fun n q => into hcl (HU.out n (W q))
      clear x0 x1 x2
      repeat (go_big_quiet_step (first | (with_reducible exact cV.out _ _)))
      exact wpQuiet_nil rfl
    simp only [List.drop_succ_cons, List.drop_zero]
    refine RelWalk.made0 (fun v s e w => v = .slice (some ⟨s, 0, none⟩) 2 2 ∧ w.heap[s]? = some (.cells #[.int .i64 2, .int .i64 0, .slice none 0 0, .int .i64 2, .int .i64 1, .slice none 0 0] 24 (0, 0)) ∧ s < w.heap.size) rfl (by kernel_rfl) (by kernel_rfl) rfl (fun v s e w w' hg h => ⟨h.1, (hg.block s h.2.2).trans h.2.1, Nat.lt_of_lt_of_le h.2.2 hg.size⟩) (fun w2 hg => ?_) ?_
    · go_simp
      exact ⟨below_al w2 _, rfl, World.alloc_heap_new w2 _, by simp⟩
    simp only [Act.put, List.setIfInBounds_toArray, List.set_cons_zero, List.set_cons_succ]
    refine RelWalk.made1 (plain fun v w => ∃ a cap, v = .agg #[.int .i64 6, .int .i64 0, .slice a 2 cap] ∧ At w app2T.kids (.slice a 2 cap)) rfl (by kernel_rfl) (by kernel_rfl) rfl (mono_plain fun v w w' hg ⟨a, c, h1, h2⟩ => ⟨a, c, h1, h2.bel hg (Nat.le_refl _)⟩) (fun g w2 hg v1 hv1 => ?_) ?_
    · obtain ⟨rfl, hb, _⟩ := hv1
      have hR : RowS (fun b => b < w2.heap.size) w2 app2T.kids (.slice (some ⟨(g 22).1, 0, none⟩) 2 2) := row_of2 (t := .node 2 0 []) (u := .node 2 1 []) hb .nl .nl
      have hc := Lib.hid (t_anyR _ 6 app2T.kids (by decide) (by decide) w2 _ (fun b hb => hb) hR)
      clear hR hb
      go_simp
      exact rel_enter (hc.out.mono fun e w3 ⟨a3, c3, he, hA3, hb3⟩ => ⟨_, he, hb3, a3, c3, rfl, hA3.at⟩)
    simp only [Act.put, List.setIfInBounds_toArray, List.set_cons_zero, List.set_cons_succ]
    refine RelWalk.used1 (.bool true) rfl (by kernel_rfl) (by kernel_rfl) rfl (fun g w2 hg v1 hv1 => ?_) ?_
    · obtain ⟨a, c, rfl, hA⟩ := hv1
      have hc := Lib.hid (HKT.out w2 _ _ (P5.out.2.1.bel hg (Nat.le_refl _)) hA)
      clear hA
      go_simp
      exact rel_enter_c hc.out
    simp only [Act.put, List.setIfInBounds_toArray, List.set_cons_zero, List.set_cons_succ]
    apply RelWalk.next 5
    · kernel_rfl
    · intro X _ W hW hcl
      simp only [List.take_succ_cons, List.take_zero]
      obtain ⟨⟨x0, x1, x2⟩, hX, _⟩ := O5.out
      have k0 := fun q => gcell (hW q) x0
      have k1 := fun q => gcell (hW q) x1
      have k2 := fun q => gcell (hW q) x2
      clear x0 x1 x2
      repeat (go_big_quiet_step (fail))
      exact wpQuiet_nil rfl
    simp only [List.drop_succ_cons, List.drop_zero]
    refine RelWalk.made0 (fun v s e w => v = .slice (some ⟨s, 0, none⟩) 2 2 ∧ At w [app1T, app1T] (.slice (some ⟨s, 0, none⟩) 2 2)) rfl (by kernel_rfl) (by kernel_rfl) rfl (fun v s e w w' hg h => ⟨h.1, h.2.bel hg (Nat.le_refl _)⟩) (fun w2 hg => ?_) ?_
    · have hA2 := O5.out.2.1.bel hg (Nat.le_refl _)
      have hrow := Lib.hid (show At (w2.alloc (.cells #[.int .i64 6, .int .i64 0, .slice a3 2 c3, .int .i64 6, .int .i64 0, .slice a3 2 c3] 24)) [app1T, app1T] (.slice (some ⟨w2.heap.size, 0, none⟩) 2 2) from (ats_cells2 hA2.toS hA2.toS fun _ h => h).at)
      clear hA2
      go_simp
      exact ⟨below_al w2 _, rfl, hrow.out⟩
    simp only [Act.put, List.setIfInBounds_toArray, List.set_cons_zero, List.set_cons_succ]
    refine RelWalk.used1 (.int .i64 7) rfl (by kernel_rfl) (by kernel_rfl) rfl (fun g w2 hg v1 hv1 => ?_) ?_
    · obtain ⟨rfl, hA⟩ := hv1
      have hc := Lib.hid (HSZ.out w2 _ (O5.out.2.1.bel hg (Nat.le_refl _)) hA)
      clear hA
      go_simp
      exact rel_enter_c hc.out
    simp only [Act.put, List.setIfInBounds_toArray, List.set_cons_zero, List.set_cons_succ]
    apply RelWalk.rest
    · kernel_rfl
    · intro X _ W hW hcl
      repeat (go_big_quiet_step (fail))
      exact wpQuiet_nil rfl
    intro gq w6 hg _
    have HG := Lib.hid hg
    clear hg
    simp only [Spread]
    rintro v30 ⟨rfl, _⟩ v23 ⟨a, c, rfl, hA⟩ v22 ⟨rfl, _⟩
    have B6 := Lib.hid (B5.out.trans (HG.out.mono B5.out.size))
    clear hA
    go_wp2_with fail
    go_ret
    exact ⟨rfl, B6.out⟩
end Go.Proofs.Ytbfefpejcefnhaa
