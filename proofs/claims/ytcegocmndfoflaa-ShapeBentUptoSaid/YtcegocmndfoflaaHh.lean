/- porismlaw07's Heavy: no conditions but sizes. -/
import Derived.Test.YtcegocmndfoflaaHb
import Derived.Test.YtcegocmndfoflaaCt
import Derived.Test.YtcegocmndfoflaaWk
namespace Go.Proofs.Ytcegocmndfoflaa
open Go.RowKit
set_option linter.unusedVariables false

def heavyA (a : ArgT) : Bool := heavyB [a.ty] || heavyB a.dom || heavyB a.idx
def heavyArgsB (l : List ArgT) : Bool := decide (20 < l.length) || l.any heavyA
/-- A term in a literal row of one. -/
theorem heavy_lit (t : Tm) (hs : size t ≤ 1048576) (w : World) (v : Value) (hA : At w t.kids v) :
    Calls Try.prog 30 #[.slice (some ⟨w.heap.size, 0, none⟩) 1 1] (w.alloc (.cells #[.int .i64 t.k, .int .i64 t.n, v] 42)) fun e w' => e = .returned (.bool (heavyB [t])) ∧ Below w.heap.size w w' := by
  have HH := heavy_any [t] (by simp [sizeL]; omega) _ _ (ats_cells1 hA.toS fun _ h => h).at
  exact HH.mono fun e w' ⟨he, hb⟩ => ⟨he, (below_al w _).trans (hb.mono (by simp))⟩
theorem anyA_take {α : Type} {l : List α} {j : Nat} (h : j < l.length) (f : α → Bool) : (l.take (j + 1)).any f = ((l.take j).any f || f l[j]) := by
  rw [List.take_succ_eq_append_getElem h, List.any_append]; simp
theorem any_of {α : Type} {l : List α} {j : Nat} (h : j < l.length) (f : α → Bool) (hf : f l[j] = true) : l.any f = true := List.any_eq_true.2 ⟨l[j], List.getElem_mem h, hf⟩
set_option maxRecDepth 100000 in
set_option maxHeartbeats 2000000 in
theorem heavyargs_any (l : List ArgT) (hs : argsN l ≤ 1048576) (w : World) (v : Value) (hA : ARow w l v) :
    Calls Try.prog 29 #[v] w fun e w' => e = .returned (.bool (heavyArgsB l)) ∧ Below w.heap.size w w' := by
  obtain ⟨a, cap, rfl⟩ := hA.shape
  have hll := argsN_len l
  by_cases h20 : 20 < l.length
  · have e1 : decide ((20 : Int) < (l.length : Int)) = true := by simp; omega
    have HE := Lib.hid (show heavyArgsB l = true by rw [heavyArgsB, decide_eq_true h20]; rfl)
    clear hA
    go_enter Try.func29, Try.ntmps29
    go_wp2_with fail
    go_ret
    exact ⟨ret_bool HE.out.symm, Below.refl _ _⟩
  have e1 : decide ((20 : Int) < (l.length : Int)) = false := by simp; omega
  have E := Lib.hid (show heavyArgsB l = l.any heavyA by rw [heavyArgsB, decide_eq_false h20]; rfl)
  have HA := Lib.hid hA
  clear h20 hA
  go_enter Try.func29, Try.ntmps29
  go_wp2_with fail
  go_loopw [3] (fun i wr => ∃ j : Nat, j ≤ l.length ∧ i = .int .i64 j ∧ (l.take j).any heavyA = false ∧ Below w.heap.size w wr) (fun i _ => l.length - (RowKit.intOf i).toNat)
  case atStart => exact ⟨0, Nat.zero_le _, rfl, rfl, Below.refl _ _⟩
  case round =>
    obtain ⟨j, hj, rfl, han, hbw⟩ := hrel
    by_cases hlt : j < l.length
    · obtain ⟨b, off, vt, vd, vi, rfl, gt, gd, gi, k0, k1, k2, k3, k4, k5, k6⟩ := (HA.out.bel hbw).at hlt
      obtain ⟨at1, ct1, hvt⟩ := gt.shape
      obtain ⟨ad1, cd1, hvd⟩ := gd.shape
      obtain ⟨ai1, ci1, hvi⟩ := gi.shape
      rw [hvt] at gt k3
      rw [hvd] at gd k4
      rw [hvi] at gi k6
      have hsz := argN_le (List.getElem_mem hlt)
      have hn : argN l[j] = size l[j].ty + sizeL l[j].dom + sizeL l[j].idx + 1 := rfl
      have H1 := Lib.hid (heavy_lit l[j].ty (by omega) wr _ gt)
      have H2 := Lib.hid (fun W (hW : Below wr.heap.size wr W) => heavy_any l[j].dom (by omega) W _ (gd.bel hW (Nat.le_refl _)))
      have H3 := Lib.hid (fun W (hW : Below wr.heap.size wr W) => heavy_any l[j].idx (by omega) W _ (gi.bel hW (Nat.le_refl _)))
      have HT := Lib.hid (anyA_take hlt heavyA)
      have HAN := Lib.hid han
      have HB := Lib.hid hbw
      have K := Lib.hid (And.intro k4 k6)
      have hji : (j : Int) < (l.length : Int) := by omega
      have hj0 : (0 : Int) ≤ (j : Int) := by omega
      have hjm : j < 1048576 := by omega
      clear gt gd gi hvt hvd hvi han hbw k0 k4 k5 k6 hn hsz hs
      cases h1 : heavyB [l[j].ty] with
      | true =>
        rw [h1] at H1
        have HF := Lib.hid (any_of hlt heavyA (by rw [heavyA, h1]; rfl))
        clear h1
        go_wp2_with fail
        refine H1.out.mono ?_
        rintro e w1 ⟨rfl, hb1⟩
        have HB1 := Lib.hid (HB.out.trans (hb1.mono HB.out.size))
        clear hb1
        go_wp2_with fail
        go_ret
        exact ⟨ret_bool (by rw [E.out, HF.out]), HB1.out⟩
      | false =>
        rw [h1] at H1
        cases h2 : heavyB l[j].dom with
        | true =>
          rw [h2] at H2
          have HF := Lib.hid (any_of hlt heavyA (by rw [heavyA, h1, h2]; rfl))
          clear h1 h2
          go_wp2_with fail
          refine H1.out.mono ?_
          rintro e w1 ⟨rfl, hb1⟩
          have q4 := gcell hb1 K.out.1
          have HB1 := Lib.hid hb1
          clear hb1 k1 k2 k3
          go_wp2_with fail
          refine (H2.out w1 HB1.out).mono ?_
          rintro e w2 ⟨rfl, hb2⟩
          have HB2 := Lib.hid ((HB.out.trans (HB1.out.mono HB.out.size)).trans (hb2.mono (Nat.le_trans HB.out.size HB1.out.size)))
          clear hb2 q4
          go_wp2_with fail
          go_ret
          exact ⟨ret_bool (by rw [E.out, HF.out]), HB2.out⟩
        | false =>
          rw [h2] at H2
          cases h3 : heavyB l[j].idx with
          | true =>
            rw [h3] at H3
            have HF := Lib.hid (any_of hlt heavyA (by rw [heavyA, h1, h2, h3]; rfl))
            clear h1 h2 h3
            go_wp2_with fail
            refine H1.out.mono ?_
            rintro e w1 ⟨rfl, hb1⟩
            have q4 := gcell hb1 K.out.1
            have HB1 := Lib.hid hb1
            clear hb1 k1 k2 k3
            go_wp2_with fail
            refine (H2.out w1 HB1.out).mono ?_
            rintro e w2 ⟨rfl, hb2⟩
            have HB2 := Lib.hid (HB1.out.trans (hb2.mono HB1.out.size))
            have q6 := gcell HB2.out K.out.2
            clear hb2 q4
            go_wp2_with fail
            refine (H3.out w2 HB2.out).mono ?_
            rintro e w3 ⟨rfl, hb3⟩
            have HB3 := Lib.hid ((HB.out.trans (HB2.out.mono HB.out.size)).trans (hb3.mono (Nat.le_trans HB.out.size HB2.out.size)))
            clear hb3 q6
            go_wp2_with fail
            go_ret
            exact ⟨ret_bool (by rw [E.out, HF.out]), HB3.out⟩
          | false =>
            rw [h3] at H3
            have HF := Lib.hid (show heavyA l[j] = false by rw [heavyA, h1, h2, h3]; rfl)
            clear h1 h2 h3
            go_wp2_with fail
            refine H1.out.mono ?_
            rintro e w1 ⟨rfl, hb1⟩
            have q4 := gcell hb1 K.out.1
            have HB1 := Lib.hid hb1
            clear hb1 k1 k2 k3
            go_wp2_with fail
            refine (H2.out w1 HB1.out).mono ?_
            rintro e w2 ⟨rfl, hb2⟩
            have HB2 := Lib.hid (HB1.out.trans (hb2.mono HB1.out.size))
            have q6 := gcell HB2.out K.out.2
            clear hb2 q4
            go_wp2_with fail
            refine (H3.out w2 HB2.out).mono ?_
            rintro e w3 ⟨rfl, hb3⟩
            have HB3 := Lib.hid ((HB.out.trans (HB2.out.mono HB.out.size)).trans (hb3.mono (Nat.le_trans HB.out.size HB2.out.size)))
            clear hb3 q6
            go_wp2_with fail
            go_roundw
            case rel => exact ⟨j + 1, hlt, by go_num, by rw [HT.out, HAN.out, HF.out]; rfl, HB3.out⟩
            case measure => simp [RowKit.intOf]; omega
    · obtain rfl : j = l.length := by omega
      have hnl : ¬ (l.length : Int) < (l.length : Int) := by omega
      have HAN := Lib.hid han
      have HB := Lib.hid hbw
      clear han hbw
      go_wp2_with fail
      go_ret
      exact ⟨ret_bool (by have := HAN.out; rw [List.take_length] at this; rw [E.out, this]), HB.out⟩
end Go.Proofs.Ytcegocmndfoflaa
