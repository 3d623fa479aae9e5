/- porismkeep's TwinBytes. -/
import Derived.Test.YthcjjfgigbgdkaaBe
namespace Go.Proofs.Ythcjjfgigbgdkaa
open Go.RowKit Go Go.Joins
set_option linter.unusedVariables false

theorem RdBy.src {L : List Int} {ao : Option Addr} {m c : Nat} {w : World} (h : RdBy L (.slice ao m c) w) : m = L.length ∧ (ao = none → L.length = 0 ∧ c = 0) ∧ (0 < L.length → ∀ ad, ao = some ad → ∀ j u, (L.map (Value.int .u8))[j]? = some u → w.cell? (ad.add j) = some u) := by
  obtain ⟨a, cap, he, _, _, h4, h5⟩ := h
  simp only [Value.slice.injEq] at he
  obtain ⟨rfl, rfl, rfl⟩ := he
  refine ⟨rfl, h4, fun hp ad he j u hu => ?_⟩
  obtain ⟨b, o, he2, hc⟩ := h5 hp
  rw [he] at he2
  cases he2
  have hj : j < L.length := by simpa using (List.getElem?_eq_some_iff.1 hu).1
  rw [Addr.add_lit, hc j hj]
  rw [List.getElem?_map, List.getElem?_eq_getElem hj] at hu
  exact hu

set_option maxRecDepth 100000 in
set_option maxHeartbeats 1600000 in
theorem twinb_any (l : List Int) (hl : l.length ≤ 1048576) (w : World) (v : Value) (hR : RdBy l v w) :
    Calls Try.prog 37 #[v] w fun e w' => ∃ v', e = .returned v' ∧ RowBy w.heap.size l v' w' ∧ Below w.heap.size w w' := by
  obtain ⟨i0, hi, hz0, hz1, hz2⟩ := info_parts Try.infoByte
  obtain ⟨ao, cap, rfl⟩ := hR.shape
  have S := Lib.hid hR.src
  have hm1 : 0 + l.length ≤ maxLen := by unfold maxLen; omega
  have hm2 : (0 + l.length) * 1 ≤ 140737488355328 := by omega
  clear hR
  go_enter Try.func37, Try.ntmps37
  go_wp2_with (at_builtin; refine wpList_append_own_gen rfl (.tmp 4) (.tmp 5) 47 rfl w.heap.size 5 i0 _ 1 1 Try.underlying47 hi hz0 hz1 hz2 rfl (by decide) _ 0 [] rfl (World.ownsRow_nil _ _ _ _) l.length (l.map (Value.int .u8)) _ _ rfl (by simp) ?_ ?_ (ints_oneCell _ _) hm1 hm2 (Nat.le_refl _) ?_; rotate_left 2; intro v1 w1 hown1 hgrow1)
  · go_ret
    refine ⟨_, rfl, ?_, (Below.refl _ w).grown hgrow1 (Nat.le_refl _) (fun k hk => by cases hk)⟩
    unfold RowBy
    simpa using hown1
  · intro h
    exact ⟨List.eq_nil_of_length_eq_zero (S.out.2.1 h).1, (S.out.2.1 h).2⟩
  · intro ad h j u hu
    have hj : j < l.length := (List.getElem?_eq_some_iff.1 hu).1
    exact S.out.2.2 (by omega) ad h j (.int .u8 u) (by rw [List.getElem?_map, hu]; rfl)
end Go.Proofs.Ythcjjfgigbgdkaa
