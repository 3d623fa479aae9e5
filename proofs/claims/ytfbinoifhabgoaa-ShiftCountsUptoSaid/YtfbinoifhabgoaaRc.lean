/- The page's Consts, and package porismkeep's Ints. -/
import Derived.Test.YtfbinoifhabgoaaJo
namespace Go.Proofs.Ytfbinoifhabgoaa
open Go.RowKit Go Go.Joins
set_option linter.unusedVariables false

theorem eqI_take {a b : List Int} {j : Nat} (ha : j < a.length) (hb : j < b.length) (h : a.take j = b.take j) (he : a[j] = b[j]) : a.take (j + 1) = b.take (j + 1) := by
  rw [List.take_succ_eq_append_getElem ha, List.take_succ_eq_append_getElem hb, h, he]

set_option maxRecDepth 100000 in
set_option maxHeartbeats 1600000 in
theorem ints_any (a b : List Int) (ha : a.length ≤ 1048576) (hb : b.length ≤ 1048576) (w : World) (va vb : Value) (hA : RowI w a va) (hB : RowI w b vb) :
    Calls Try.prog 23 #[va, vb] w fun e w' => e = .returned (.bool (decide (a = b))) ∧ Below w.heap.size w w' := by
  obtain ⟨aa, ca, rfl, a1, a2, hca⟩ := hA
  obtain ⟨ab, cb, rfl, b1, b2, hcb⟩ := hB
  by_cases hlm : a.length = b.length
  rotate_left
  · have e1 : ((a.length : Int) != (b.length : Int)) = true := by simp; omega
    have HE := Lib.hid (show decide (a = b) = false from decide_eq_false (fun h => hlm (by rw [h])))
    clear hlm
    go_enter Try.func23, Try.ntmps23
    go_wp2_with fail
    go_ret
    exact ⟨ret_bool HE.out.symm, Below.refl _ _⟩
  have e1 : ((a.length : Int) != (b.length : Int)) = false := by simp; omega
  have HLM := Lib.hid hlm
  have CA := Lib.hid hca
  have CB := Lib.hid hcb
  have hlm1 : a.length ≤ b.length := by omega
  have hlm2 : b.length ≤ a.length := by omega
  clear hlm hca hcb
  go_enter Try.func23, Try.ntmps23
  go_wp2_with fail
  go_loopw [5] (fun i wr => ∃ j : Nat, j ≤ a.length ∧ i = .int .i64 j ∧ a.take j = b.take j ∧ Grw w wr)
    (fun i _ => a.length - (RowKit.intOf i).toNat)
  case atStart => exact ⟨0, Nat.zero_le _, rfl, by simp, Grw.rfl _⟩
  case round =>
    obtain ⟨j, hj, rfl, hsc, hg⟩ := hrel
    have HG := Lib.hid hg
    have HSC := Lib.hid hsc
    clear hg hsc
    by_cases hlt : j < a.length
    · have hlt2 : j < b.length := by omega
      obtain ⟨ba, oa, rfl, hca⟩ := CA.out (by omega)
      obtain ⟨bb, ob, rfl, hcb⟩ := CB.out (by omega)
      obtain ⟨x, hx⟩ : ∃ x : Int, a[j] = x := ⟨_, rfl⟩
      obtain ⟨y, hy⟩ : ∃ y : Int, b[j] = y := ⟨_, rfl⟩
      have hp := hca j hlt
      have hq := hcb j hlt2
      rw [hx] at hp
      rw [hy] at hq
      have HP := Lib.hid (And.intro hp hq)
      have hl1 : (j : Int) < (a.length : Int) := by omega
      have hl2 : (j : Int) < (b.length : Int) := by omega
      have hl0 : (0 : Int) ≤ (j : Int) := by omega
      clear hca hcb hp hq
      by_cases hxy : x = y
      · have e2 : (x != y) = false := by simpa using hxy
        have HT := Lib.hid (eqI_take hlt hlt2 HSC.out (by rw [hx, hy, hxy]))
        clear hx hy hxy
        go_wp2_with fail
        refine wp_region_rel (by kernel_rfl) (by kernel_rfl) (by kernel_rfl) ?_
        apply RelWalk.rest
        · kernel_rfl
        · intro X _ W hW hcl
          have hp := gcell HG.out HP.out.1
          have hq := gcell HG.out HP.out.2
          have k0 := fun q => gcell (hW q) hp
          have k1 := fun q => gcell (hW q) hq
          clear hp hq
          repeat (go_big_quiet_step (fail))
          exact wpQuiet_nil rfl
        intro g w2 hg _
        have HG2 := Lib.hid (HG.out.tr hg)
        clear HG hg
        simp only [Spread]
        go_wp2_with fail
        go_roundw
        case rel => exact ⟨j + 1, by omega, by go_num, HT.out, HG2.out⟩
        case measure => simp [RowKit.intOf]; omega
      · have e2 : (x != y) = true := by simpa using hxy
        have HE := Lib.hid (show decide (a = b) = false from decide_eq_false (fun h => by subst h; exact hxy (hx.symm.trans hy)))
        clear hx hy hxy
        go_wp2_with fail
        refine wp_region_rel (by kernel_rfl) (by kernel_rfl) (by kernel_rfl) ?_
        apply RelWalk.rest
        · kernel_rfl
        · intro X _ W hW hcl
          have hp := gcell HG.out HP.out.1
          have hq := gcell HG.out HP.out.2
          have k0 := fun q => gcell (hW q) hp
          have k1 := fun q => gcell (hW q) hq
          clear hp hq
          repeat (go_big_quiet_step (fail))
          exact wpQuiet_nil rfl
        intro g w2 hg _
        have HG2 := Lib.hid (HG.out.tr hg)
        clear HG hg
        simp only [Spread]
        go_wp2_with fail
        go_ret
        exact ⟨ret_bool HE.out.symm, HG2.out⟩
    · obtain rfl : j = a.length := by omega
      have hlt2 : decide ((a.length : Int) < (a.length : Int)) = false := by simp
      have HE := Lib.hid (show decide (a = b) = true from decide_eq_true (by
        have := HSC.out
        rw [List.take_length, List.take_of_length_le (by omega)] at this
        exact this))
      go_wp2_with fail
      go_ret
      exact ⟨ret_bool HE.out.symm, HG.out⟩

/-- The page's Consts. -/
def RowB (B : Nat) (L : List Int) (v : Value) (w : World) : Prop := w.ownsRow B 3 1 v L.length (L.map (Value.int .i64))
theorem RowB.bel {B : Nat} {L : List Int} {v : Value} {w w' : World} (h : RowB B L v w) (hb : Below w.heap.size w w') : RowB B L v w' :=
  World.ownsRow.kept h (row := none) ⟨hb.os, hb.tape, hb.output, hb.size, fun k hk _ => hb.block k hk⟩ (by cases v.ownBlock <;> simp)
theorem RowB.le {B B' : Nat} {L : List Int} {v : Value} {w : World} (h : RowB B L v w) (hb : B' ≤ B) : RowB B' L v w := ownsRow_le h hb
theorem foldl_join_len (l acc : List Int) : (l.foldl joinI acc).length ≤ acc.length + l.length := by
  induction l generalizing acc with
  | nil => simp
  | cons a l ih => have := ih (joinI acc a); have := joinI_len acc a; simp only [List.foldl_cons, List.length_cons]; omega
theorem foldl_take_succ {l : List Int} {m : Nat} (h : m < l.length) (acc : List Int) : (l.take (m + 1)).foldl joinI acc = joinI ((l.take m).foldl joinI acc) l[m] := by
  rw [List.take_succ_eq_append_getElem h, List.foldl_append]; rfl
def headT (t : Tm) : List Int := if t.k = 3 then [t.n] else []
theorem headT_len (t : Tm) : (headT t).length ≤ 1 := by unfold headT; split <;> simp

end Go.Proofs.Ytfbinoifhabgoaa
