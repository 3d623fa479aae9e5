/- What the statements of layer 2 wake up; whether their terms are heavy; a term of so many nodes. -/
import Derived.Test.YtcegocmndfoflaaEq
import Derived.Test.YtcegocmndfoflaaTw
import Derived.Test.YtcegocmndfoflaaRefD
namespace Go.Proofs.Ytcegocmndfoflaa
open Go.RowKit

def heavyB (l : List Tm) : Bool := decide (60 < l.length) || l.any (fun t => decide (300 < depth t)) || decide (9000 < sizeL l)
theorem any_take {l : List Tm} {j : Nat} (h : j < l.length) (p : Tm → Bool) : (l.take (j + 1)).any p = ((l.take j).any p || p l[j]) := by
  rw [List.take_succ_eq_append_getElem h, List.any_append]; simp

set_option maxRecDepth 100000 in
set_option maxHeartbeats 1600000 in
theorem heavy_any (l : List Tm) (hs : sizeL l < 2147483648) (w : World) (v : Value) (hA : At w l v) :
    Calls Try.prog 30 #[v] w fun e w' => e = .returned (.bool (heavyB l)) ∧ Below w.heap.size w w' := by
  obtain ⟨a, cap, rfl⟩ := hA.shape
  have hlen : l.length < 2147483648 := by have := length_le_sizeL l; omega
  by_cases h60 : 60 < l.length
  · have e1 : decide ((60 : Int) < (l.length : Int)) = true := by simp; omega
    have HE := Lib.hid (show heavyB l = true by rw [heavyB, decide_eq_true h60]; rfl)
    go_enter Try.func30, Try.ntmps30
    go_wp2_with fail
    go_ret
    exact ⟨ret_bool HE.out.symm, Below.refl _ _⟩
  have e1 : decide ((60 : Int) < (l.length : Int)) = false := by simp; omega
  have E := Lib.hid (show heavyB l = (l.any (fun t => decide (300 < depth t)) || decide (9000 < sizeL l)) by rw [heavyB, decide_eq_false h60]; rfl)
  clear h60
  go_enter Try.func30, Try.ntmps30
  go_wp2_with fail
  go_loopw [3, 4] (fun n i wr => ∃ j : Nat, j ≤ l.length ∧ i = .int .i64 j ∧ n = .int .i64 (sizeL (l.take j) : Nat) ∧ (l.take j).any (fun t => decide (300 < depth t)) = false ∧ Below w.heap.size w wr)
    (fun _ i _ => l.length - (intOf i).toNat)
  case atStart => exact ⟨0, Nat.zero_le _, rfl, rfl, rfl, Below.refl _ _⟩
  case round =>
    obtain ⟨j, hj, rfl, rfl, han, hbw⟩ := hrel
    by_cases hlt : j < l.length
    · obtain ⟨b, off, cap', vs, he, h1, h2, kk, kn, kv, ks⟩ := (hA.bel hbw (Nat.le_refl _)).pos (by omega)
      have gk := kk j hlt
      have gn := kn j hlt
      have gv := kv j hlt
      have gs := ks j hlt
      have hsz := sizeL_take_succ hlt
      have hle := sizeL_take l (j + 1)
      have hse := size_get hlt
      have HD : Hid (∀ w', Below wr.heap.size wr w' → Calls Try.prog 52 #[.agg #[.int .i64 l[j].k, .int .i64 l[j].n, vs j]] w' fun e w'' => e = .returned (.int .i64 (depth l[j])) ∧ Below w'.heap.size w' w'') := fun w' hw' => rdepth_any l[j] (by omega) w' (vs j) (gs.bel hw' (Nat.le_refl _))
      have HS : Hid (∀ w', Below wr.heap.size wr w' → Calls Try.prog 53 #[.agg #[.int .i64 l[j].k, .int .i64 l[j].n, vs j]] w' fun e w'' => e = .returned (.int .i64 (size l[j])) ∧ Below w'.heap.size w' w'') := fun w' hw' => rsize_any l[j] (by omega) w' (vs j) (gs.bel hw' (Nat.le_refl _))
      have HA := Lib.hid (any_take hlt (fun t => decide (300 < depth t)))
      have HSZ := Lib.hid hsz
      have HAN := Lib.hid han
      have hb3 : sizeL (l.take j) + size l[j] < 2147483648 := by omega
      have hdl : depth l[j] < 2147483648 := by have := depth_le_size l[j]; omega
      have up : Hid (∀ w', Below wr.heap.size wr w' → w'.cell? ⟨b, off + j * 3, none⟩ = some (.int .i64 l[j].k) ∧ w'.cell? ⟨b, off + j * 3 + 1, none⟩ = some (.int .i64 l[j].n) ∧ w'.cell? ⟨b, off + j * 3 + 2, none⟩ = some (vs j)) := fun w' hw' => by
        refine ⟨?_, ?_, ?_⟩
        · rw [hw'.cell (World.block_lt_of_cell? wr _ gk)]; exact gk
        · rw [hw'.cell (World.block_lt_of_cell? wr _ gn)]; exact gn
        · rw [hw'.cell (World.block_lt_of_cell? wr _ gv)]; exact gv
      clear kk kn kv ks han hsz hle hse hs
      cases he
      by_cases hd : 300 < depth l[j]
      · have e3 : decide ((300 : Int) < (depth l[j] : Int)) = true := by simp; omega
        have HN := Lib.hid (show l.any (fun t => decide (300 < depth t)) = true from List.any_eq_true.2 ⟨l[j], List.getElem_mem hlt, by simpa using hd⟩)
        clear hd
        go_wp2_with (go_at_call 52; refine (HD.out _ (Below.refl _ _)).mono ?_; rintro e w1 ⟨rfl, hb1⟩)
        go_ret
        exact ⟨ret_bool (by rw [E.out, HN.out]; rfl), hbw.trans (hb1.mono hbw.size)⟩
      · have e3 : decide ((300 : Int) < (depth l[j] : Int)) = false := by simp; omega
        have HND := Lib.hid (decide_eq_false hd)
        clear hd
        go_wp2_with (first | (go_at_call 52; refine (HD.out _ (Below.refl _ _)).mono ?_; rintro e w1 ⟨rfl, hb1⟩; obtain ⟨q0, q1, q2⟩ := up.out w1 hb1) | (go_at_call 53; refine (HS.out _ hb1).mono ?_; rintro e w2 ⟨rfl, hb2⟩))
        go_roundw
        case rel => exact ⟨j + 1, by omega, by go_num, by rw [HSZ.out]; go_num, by rw [HA.out, HAN.out, HND.out]; rfl, hbw.trans ((hb1.trans (hb2.mono hb1.size)).mono hbw.size)⟩
        case measure => simp [intOf]; omega
    · obtain rfl : j = l.length := by omega
      have hlt : decide ((l.length : Int) < (l.length : Int)) = false := by simp
      have HAN := Lib.hid han
      clear han
      go_wp2_with fail
      go_ret
      exact ⟨ret_bool (by have := HAN.out; rw [List.take_length] at this; rw [E.out, this]; simp; omega), hbw⟩

/-- The identity of a universe. -/
def idT : Tm := .node 5 0 [.node 2 0 [], .node 1 0 []]
def v0T : Tm := .node 1 0 []
theorem id_facts : size idT = 3 ∧ depth idT = 2 ∧ checkE idT = 0 ∧ scopeT idT 0 0 = true ∧ scopeT v0T 0 0 = false ∧ eqT idT idT = true := by decide +kernel
theorem id_fits : Fits idT := by
  refine .mk _ _ _ (by unfold I64; omega) (by unfold I64; omega) fun u hu => ?_
  rcases List.mem_cons.1 hu with rfl | hu
  · exact .mk _ _ _ (by unfold I64; omega) (by unfold I64; omega) (by simp)
  · obtain rfl := List.mem_singleton.1 hu
    exact .mk _ _ _ (by unfold I64; omega) (by unfold I64; omega) (by simp)
theorem v0_fits : Fits v0T := .mk _ _ _ (by unfold I64; omega) (by unfold I64; omega) (by simp)
theorem at_id (w : World) : At (w.alloc (.cells #[.int .i64 2, .int .i64 0, .slice none 0 0, .int .i64 1, .int .i64 0, .slice none 0 0] 42)) [.node 2 0 [], .node 1 0 []] (.slice (some ⟨w.heap.size, 0, none⟩) 2 2) := by
  have hn := World.alloc_heap_new w (.cells #[.int .i64 2, .int .i64 0, .slice none 0 0, .int .i64 1, .int .i64 0, .slice none 0 0] 42)
  revert hn
  generalize w.alloc (.cells #[.int .i64 2, .int .i64 0, .slice none 0 0, .int .i64 1, .int .i64 0, .slice none 0 0] 42) = W
  intro hn
  refine .row _ w.heap.size 0 2 (fun _ => .slice none 0 0) (by simp) (by decide) (fun i hi => ?_) (fun i hi => ?_) (fun i hi => ?_) (fun i hi => ?_)
  all_goals
    have hi2 : i < 2 := hi
    have : i = 0 ∨ i = 1 := by omega
    rcases this with rfl | rfl
  all_goals first | exact .nl | simp [World.cell?, hn, Tm.k, Tm.n]

end Go.Proofs.Ytcegocmndfoflaa
