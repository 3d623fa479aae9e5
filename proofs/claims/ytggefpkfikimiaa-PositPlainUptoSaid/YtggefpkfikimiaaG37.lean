/- The page's Consts, and package porismkeep's Ints. -/
import Derived.Test.YtggefpkfikimiaaG36
namespace Go.Proofs.Ytggefpkfikimiaa
open Go.RowKit Go Go.Joins
set_option linter.unusedVariables false

theorem eqI_take {a b : List Int} {j : Nat} (ha : j < a.length) (hb : j < b.length) (h : a.take j = b.take j) (he : a[j] = b[j]) : a.take (j + 1) = b.take (j + 1) := by
  rw [List.take_succ_eq_append_getElem ha, List.take_succ_eq_append_getElem hb, h, he]

/-- The page's Consts. -/
def RowB (B : Nat) (L : List Int) (v : Value) (w : World) : Prop := w.ownsRow B 3 1 v L.length (L.map (Value.int .i64))
def RConstsOk (t : Tm) : Prop := ∀ (w : World) (v : Value), At w t.kids v →
    Calls Try.prog 36 #[.agg #[.int .i64 t.k, .int .i64 t.n, v]] w fun e w' => ∃ v', e = .returned v' ∧ RowB w.heap.size (consI (constT t)) v' w' ∧ Below w.heap.size w w'
theorem RowB.bel {B : Nat} {L : List Int} {v : Value} {w w' : World} (h : RowB B L v w) (hb : Below w.heap.size w w') : RowB B L v w' :=
  World.ownsRow.kept h (row := none) ⟨hb.os, hb.tape, hb.output, hb.size, fun k hk _ => hb.block k hk⟩ (by cases v.ownBlock <;> simp)
theorem RowB.le {B B' : Nat} {L : List Int} {v : Value} {w : World} (h : RowB B L v w) (hb : B' ≤ B) : RowB B' L v w := ownsRow_le h hb
theorem foldl_join_len (l acc : List Int) : (l.foldl joinI acc).length ≤ acc.length + l.length := by
  induction l generalizing acc with
  | nil => simp
  | cons a l ih => have := ih (joinI acc a); have := joinI_len acc a; simp only [List.foldl_cons, List.length_cons]; omega
theorem foldl_take_succ {l : List Int} {m : Nat} (h : m < l.length) (acc : List Int) : (l.take (m + 1)).foldl joinI acc = joinI ((l.take m).foldl joinI acc) l[m] := by
  rw [List.take_succ_eq_append_getElem h, List.foldl_append]; rfl
def headT (t : Tm) : List Int := if t.k = 3 then [t.n] else []
theorem headT_len (t : Tm) : (headT t).length ≤ 1 := by unfold headT; split <;> simp

set_option maxRecDepth 100000 in
set_option maxHeartbeats 3200000 in
theorem rconsts_ok : ∀ (t : Tm), size t ≤ 1048576 → RConstsOk t := by
  refine tm_ind fun t ih => ?_
  intro hs w v hA
  obtain ⟨a1, c1, rfl⟩ := hA.shape
  have hse := size_eq t
  have hle := length_le_sizeL t.kids
  have O0 := Lib.hid (one_start w t _ hA)
  have IH := Lib.hid ih
  have HJ := Lib.hid (fun (l : List Int) (n : Int) (h : l.length ≤ 1048576) (W : World) (v : Value) (hB : w.heap.size ≤ W.heap.size) (hO : RowB w.heap.size l v W) => join_any l n h w.heap.size W v hB hO)
  have HL := headT_len t
  clear hA ih
  by_cases hk : t.k = 3
  · have e1 : (t.k == 3) = true := by simpa using hk
    have hH : headT t = [t.n] := if_pos hk
    have O1 := O0
    clear O0 hk
    go_enter Try.func36, Try.ntmps36
    have HP := Lib.hid (HJ.out [] t.n (by simp) _ (.slice none 0 0) O1.out.2.2.size (World.ownsRow_nil _ _ _ _))
    obtain ⟨⟨x0, x1, x2⟩, _⟩ := O1.out
    go_wp2_with (go_at_call 59; refine HP.out.mono ?_; rintro e w3 ⟨v3, rfl, hr3, hb3⟩; have O3 := Lib.hid (O1.out.bel hb3); have HS0 := Lib.hid hr3; clear hr3 hb3 O1 HP x0 x1 x2)
    have O1 := O3
    clear O3
    have HS0 : Hid (RowB w.heap.size (consI (headT t ++ constK (t.kids.take 0))) v3 w3) := by
      show RowB _ _ _ _
      rw [hH]
      exact HS0.out
    clear hH
    go_loopw [3, 4, 5, 6] (fun o i _ _ wr => ∃ j : Nat, j ≤ t.kids.length ∧ i = .int .i64 j ∧ RowB w.heap.size (consI (headT t ++ constK (t.kids.take j))) o wr ∧ One w w.heap.size t (.slice a1 t.kids.length c1) wr)
      (fun _ i _ _ _ => t.kids.length - (RowKit.intOf i).toNat)
    case atStart => exact ⟨0, Nat.zero_le _, rfl, HS0.out, O1.out⟩
    case round =>
      obtain ⟨j, hj, rfl, hR, hO⟩ := hrel
      have R2 := Lib.hid hR
      have O2 := Lib.hid hO
      clear hR O1 HS0
      obtain ⟨⟨x0, x1, x2⟩, hA1, _⟩ := hO
      by_cases hlt : j < t.kids.length
      · obtain ⟨b, off, cap', vs, he, h1, h2, kk, kn, kv, ks⟩ := hA1.pos (by omega)
        have gk := kk j hlt
        have gn := kn j hlt
        have gv := kv j hlt
        have hsz := size_get hlt
        have hm := List.getElem_mem hlt
        have HI := Lib.hid (IH.out t.kids[j] hm (by omega) wr (vs j) (ks j hlt))
        have h3 := sizeL_take_succ hlt
        have h4 := sizeL_take t.kids (j + 1)
        have hKl : (consI (constT t.kids[j])).length ≤ size t.kids[j] := Nat.le_trans (consI_len _) (constT_len _)
        have hAl : (consI (headT t ++ constK (t.kids.take j))).length ≤ 1 + sizeL (t.kids.take j) := by
          have g1 := consI_len (headT t ++ constK (t.kids.take j))
          have g2 := constK_len (t.kids.take j)
          rw [List.length_append] at g1
          omega
        have HE : Hid (consI (headT t ++ constK (t.kids.take (j + 1))) = (consI (constT t.kids[j])).foldl joinI (consI (headT t ++ constK (t.kids.take j)))) := by
          show _ = _
          rw [constK_take_succ hlt, ← List.append_assoc, consI_append]
        have hsum : (consI (headT t ++ constK (t.kids.take j))).length + (consI (constT t.kids[j])).length ≤ 1048576 := by omega
        have hl1 : (j : Int) < (t.kids.length : Int) := by omega
        have hl0 : (0 : Int) ≤ (j : Int) := by omega
        have hl5 : t.kids.length ≤ 1048576 := by omega
        clear kk kn kv ks hA1 hsz hm h3 h4 hKl hAl hse hle hs
        cases he
        go_wp2_with (go_at_call 36; refine HI.out.mono ?_; rintro e w5 ⟨v5, rfl, hr5, hb5⟩; have Q5 := Lib.hid hr5; have R5 := Lib.hid (R2.out.bel hb5); have O5 := Lib.hid (O2.out.bel hb5); clear hr5 hb5 R2 O2 HI x0 x1 x2 gk gn gv)
        revert HE hsum Q5 R5
        generalize consI (constT t.kids[j]) = K
        generalize consI (headT t ++ constK (t.kids.take j)) = ACC
        intro HE hsum Q5 R5
        have hKc : ∃ ao cap, v5 = .slice ao K.length cap ∧ ∀ i (_ : i < K.length), ∃ g, ao = some ⟨g, 0, none⟩ ∧ w5.cell? ⟨g, i, none⟩ = some (.int .i64 K[i]) := by
          have hO := Q5.out
          rcases hO.2 with ⟨rfl, h0⟩ | ⟨g, cap, cur, rfl, hb, hg, h1, h2, h3, htake⟩
          · exact ⟨none, 0, by rw [h0], fun i hi => by omega⟩
          · refine ⟨_, cap, rfl, fun i hi => ⟨g, rfl, ?_⟩⟩
            have hO : w5.ownsRow _ _ _ _ _ _ := hO
            rw [hO.cellAt i (by omega)]
            simp [hi]
        obtain ⟨ao, cap, rfl, hcell⟩ := hKc
        have HC := Lib.hid hcell
        clear hcell Q5
        go_loopw [3, 6] (fun o i wr => ∃ m : Nat, m ≤ K.length ∧ i = .int .i64 m ∧ RowB w.heap.size ((K.take m).foldl joinI ACC) o wr ∧ Grw w5 wr)
          (fun _ i _ => K.length - (RowKit.intOf i).toNat)
        case atStart => exact ⟨0, Nat.zero_le _, rfl, R5.out, Grw.rfl _⟩
        case round =>
          obtain ⟨m, hm, rfl, hR, hg⟩ := hrel
          have R6 := Lib.hid hR
          have HG := Lib.hid hg
          have O6 := Lib.hid (O5.out.bel hg)
          clear hR hg O5 R5
          by_cases hlm : m < K.length
          · obtain ⟨g, rfl, hc⟩ := HC.out m hlm
            obtain ⟨x, hx⟩ : ∃ x : Int, K[m] = x := ⟨_, rfl⟩
            rw [hx] at hc
            have HF : Hid ((K.take (m + 1)).foldl joinI ACC = joinI ((K.take m).foldl joinI ACC) x) := by
              show _ = _
              rw [foldl_take_succ hlm, hx]
            have hcw := gcell HG.out hc
            have hlen : ((K.take m).foldl joinI ACC).length ≤ 1048576 := by
              have g1 := foldl_join_len (K.take m) ACC
              have g2 := List.length_take_le m K
              omega
            have HP := Lib.hid (HJ.out _ x hlen wr _ O6.out.2.2.size R6.out)
            have hm1 : (m : Int) < (K.length : Int) := by omega
            have hm0 : (0 : Int) ≤ (m : Int) := by omega
            clear hx hc hlen
            go_wp2_with (go_at_call 59; refine HP.out.mono ?_; rintro e w7 ⟨v7, rfl, hr7, hb7⟩; have HG7 := Lib.hid (HG.out.tr hb7); have R7 := Lib.hid hr7; clear hr7 hb7 HP HG R6 O6)
            go_roundw
            case rel => exact ⟨m + 1, by omega, by go_num, by rw [HF.out]; exact R7.out, HG7.out⟩
            case measure => simp [RowKit.intOf]; omega
          · obtain rfl : m = K.length := by omega
            have hlt2 : decide ((K.length : Int) < (K.length : Int)) = false := by simp
            go_wp2_with fail
            go_roundw
            case rel => exact ⟨j + 1, by omega, by go_num, by rw [HE.out]; have := R6.out; rwa [List.take_length] at this, O6.out⟩
            case measure => simp [RowKit.intOf]; omega
      · obtain rfl : j = t.kids.length := by omega
        have hlt : decide ((t.kids.length : Int) < (t.kids.length : Int)) = false := by simp
        go_wp2_with fail
        go_ret
        refine ⟨_, rfl, ?_, O2.out.2.2⟩
        have := R2.out
        rw [List.take_length] at this
        rw [constT_eq]
        exact this
  · have e1 : (t.k == 3) = false := by simpa using hk
    have hH : headT t = [] := if_neg hk
    have O1 := O0
    clear O0 hk
    go_enter Try.func36, Try.ntmps36
    obtain ⟨⟨x0, x1, x2⟩, _⟩ := O1.out
    go_wp2_with fail
    clear x0 x1 x2
    have HS0 : Hid (RowB w.heap.size (consI (headT t ++ constK (t.kids.take 0))) (.slice none 0 0) (w.alloc (.cells #[.int .i64 t.k, .int .i64 t.n, .slice a1 t.kids.length c1] 25))) := by
      show RowB _ _ _ _
      rw [hH]
      exact World.ownsRow_nil _ _ _ _
    clear hH
    go_loopw [3, 4, 5, 6] (fun o i _ _ wr => ∃ j : Nat, j ≤ t.kids.length ∧ i = .int .i64 j ∧ RowB w.heap.size (consI (headT t ++ constK (t.kids.take j))) o wr ∧ One w w.heap.size t (.slice a1 t.kids.length c1) wr)
      (fun _ i _ _ _ => t.kids.length - (RowKit.intOf i).toNat)
    case atStart => exact ⟨0, Nat.zero_le _, rfl, HS0.out, O1.out⟩
    case round =>
      obtain ⟨j, hj, rfl, hR, hO⟩ := hrel
      have R2 := Lib.hid hR
      have O2 := Lib.hid hO
      clear hR O1 HS0
      obtain ⟨⟨x0, x1, x2⟩, hA1, _⟩ := hO
      by_cases hlt : j < t.kids.length
      · obtain ⟨b, off, cap', vs, he, h1, h2, kk, kn, kv, ks⟩ := hA1.pos (by omega)
        have gk := kk j hlt
        have gn := kn j hlt
        have gv := kv j hlt
        have hsz := size_get hlt
        have hm := List.getElem_mem hlt
        have HI := Lib.hid (IH.out t.kids[j] hm (by omega) wr (vs j) (ks j hlt))
        have h3 := sizeL_take_succ hlt
        have h4 := sizeL_take t.kids (j + 1)
        have hKl : (consI (constT t.kids[j])).length ≤ size t.kids[j] := Nat.le_trans (consI_len _) (constT_len _)
        have hAl : (consI (headT t ++ constK (t.kids.take j))).length ≤ 1 + sizeL (t.kids.take j) := by
          have g1 := consI_len (headT t ++ constK (t.kids.take j))
          have g2 := constK_len (t.kids.take j)
          rw [List.length_append] at g1
          omega
        have HE : Hid (consI (headT t ++ constK (t.kids.take (j + 1))) = (consI (constT t.kids[j])).foldl joinI (consI (headT t ++ constK (t.kids.take j)))) := by
          show _ = _
          rw [constK_take_succ hlt, ← List.append_assoc, consI_append]
        have hsum : (consI (headT t ++ constK (t.kids.take j))).length + (consI (constT t.kids[j])).length ≤ 1048576 := by omega
        have hl1 : (j : Int) < (t.kids.length : Int) := by omega
        have hl0 : (0 : Int) ≤ (j : Int) := by omega
        have hl5 : t.kids.length ≤ 1048576 := by omega
        clear kk kn kv ks hA1 hsz hm h3 h4 hKl hAl hse hle hs
        cases he
        go_wp2_with (go_at_call 36; refine HI.out.mono ?_; rintro e w5 ⟨v5, rfl, hr5, hb5⟩; have Q5 := Lib.hid hr5; have R5 := Lib.hid (R2.out.bel hb5); have O5 := Lib.hid (O2.out.bel hb5); clear hr5 hb5 R2 O2 HI x0 x1 x2 gk gn gv)
        revert HE hsum Q5 R5
        generalize consI (constT t.kids[j]) = K
        generalize consI (headT t ++ constK (t.kids.take j)) = ACC
        intro HE hsum Q5 R5
        have hKc : ∃ ao cap, v5 = .slice ao K.length cap ∧ ∀ i (_ : i < K.length), ∃ g, ao = some ⟨g, 0, none⟩ ∧ w5.cell? ⟨g, i, none⟩ = some (.int .i64 K[i]) := by
          have hO := Q5.out
          rcases hO.2 with ⟨rfl, h0⟩ | ⟨g, cap, cur, rfl, hb, hg, h1, h2, h3, htake⟩
          · exact ⟨none, 0, by rw [h0], fun i hi => by omega⟩
          · refine ⟨_, cap, rfl, fun i hi => ⟨g, rfl, ?_⟩⟩
            have hO : w5.ownsRow _ _ _ _ _ _ := hO
            rw [hO.cellAt i (by omega)]
            simp [hi]
        obtain ⟨ao, cap, rfl, hcell⟩ := hKc
        have HC := Lib.hid hcell
        clear hcell Q5
        go_loopw [3, 6] (fun o i wr => ∃ m : Nat, m ≤ K.length ∧ i = .int .i64 m ∧ RowB w.heap.size ((K.take m).foldl joinI ACC) o wr ∧ Grw w5 wr)
          (fun _ i _ => K.length - (RowKit.intOf i).toNat)
        case atStart => exact ⟨0, Nat.zero_le _, rfl, R5.out, Grw.rfl _⟩
        case round =>
          obtain ⟨m, hm, rfl, hR, hg⟩ := hrel
          have R6 := Lib.hid hR
          have HG := Lib.hid hg
          have O6 := Lib.hid (O5.out.bel hg)
          clear hR hg O5 R5
          by_cases hlm : m < K.length
          · obtain ⟨g, rfl, hc⟩ := HC.out m hlm
            obtain ⟨x, hx⟩ : ∃ x : Int, K[m] = x := ⟨_, rfl⟩
            rw [hx] at hc
            have HF : Hid ((K.take (m + 1)).foldl joinI ACC = joinI ((K.take m).foldl joinI ACC) x) := by
              show _ = _
              rw [foldl_take_succ hlm, hx]
            have hcw := gcell HG.out hc
            have hlen : ((K.take m).foldl joinI ACC).length ≤ 1048576 := by
              have g1 := foldl_join_len (K.take m) ACC
              have g2 := List.length_take_le m K
              omega
            have HP := Lib.hid (HJ.out _ x hlen wr _ O6.out.2.2.size R6.out)
            have hm1 : (m : Int) < (K.length : Int) := by omega
            have hm0 : (0 : Int) ≤ (m : Int) := by omega
            clear hx hc hlen
            go_wp2_with (go_at_call 59; refine HP.out.mono ?_; rintro e w7 ⟨v7, rfl, hr7, hb7⟩; have HG7 := Lib.hid (HG.out.tr hb7); have R7 := Lib.hid hr7; clear hr7 hb7 HP HG R6 O6)
            go_roundw
            case rel => exact ⟨m + 1, by omega, by go_num, by rw [HF.out]; exact R7.out, HG7.out⟩
            case measure => simp [RowKit.intOf]; omega
          · obtain rfl : m = K.length := by omega
            have hlt2 : decide ((K.length : Int) < (K.length : Int)) = false := by simp
            go_wp2_with fail
            go_roundw
            case rel => exact ⟨j + 1, by omega, by go_num, by rw [HE.out]; have := R6.out; rwa [List.take_length] at this, O6.out⟩
            case measure => simp [RowKit.intOf]; omega
      · obtain rfl : j = t.kids.length := by omega
        have hlt : decide ((t.kids.length : Int) < (t.kids.length : Int)) = false := by simp
        go_wp2_with fail
        go_ret
        refine ⟨_, rfl, ?_, O2.out.2.2⟩
        have := R2.out
        rw [List.take_length] at this
        rw [constT_eq]
        exact this
theorem rconsts_any (t : Tm) (hs : size t ≤ 1048576) (w : World) (v : Value) (hA : At w t.kids v) :
    Calls Try.prog 36 #[.agg #[.int .i64 t.k, .int .i64 t.n, v]] w fun e w' => ∃ v', e = .returned v' ∧ Grw w w' ∧ RowI w' (consI (constT t)) v' :=
  (rconsts_ok t hs w v hA).mono fun e w' ⟨v', he, hr, hb⟩ => ⟨v', he, hb, rowI_of_owns hr⟩
end Go.Proofs.Ytggefpkfikimiaa
