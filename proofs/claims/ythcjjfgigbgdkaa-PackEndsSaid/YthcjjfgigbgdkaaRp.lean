/- The page's Pack of a term that is formed. -/
import Derived.Test.YthcjjfgigbgdkaaBe
namespace Go.Proofs.Ythcjjfgigbgdkaa
open Go.RowKit Go Go.Joins
set_option linter.unusedVariables false

theorem RowBy.src {B : Nat} {L : List Int} {ao : Option Addr} {m c : Nat} {w : World} (h : RowBy B L (.slice ao m c) w) : m = L.length ∧ (ao = none → L.length = 0 ∧ c = 0) ∧ ∀ ad, ao = some ad → ∀ j u, (L.map (Value.int .u8))[j]? = some u → w.cell? (ad.add j) = some u := by
  have h' : w.ownsRow B 5 1 (.slice ao m c) L.length (L.map (Value.int .u8)) := h
  rcases h'.2 with ⟨he, h0⟩ | ⟨g, cap, cur, he, hb, hg, h1, h2, h3, htake⟩
  · simp only [Value.slice.injEq] at he
    obtain ⟨rfl, rfl, rfl⟩ := he
    exact ⟨h0.symm, fun _ => ⟨h0, rfl⟩, fun ad h => by cases h⟩
  · simp only [Value.slice.injEq] at he
    obtain ⟨rfl, rfl, rfl⟩ := he
    refine ⟨rfl, (fun h => by cases h), fun ad h j u hu => ?_⟩
    cases h
    have hj : j < L.length := by simpa using (List.getElem?_eq_some_iff.1 hu).1
    rw [Addr.add_lit, Nat.zero_add, h'.cellAt j (by omega)]
    exact hu
def RPackOk (t : Tm) : Prop := formedB t = true → size t ≤ 1048576 → ∀ (w : World) (v : Value), At w t.kids v →
    Calls Try.prog 40 #[.agg #[.int .i64 t.k, .int .i64 t.n, v]] w fun e w' => ∃ v', e = .returned v' ∧ RowBy w.heap.size (packT t) v' w' ∧ Below w.heap.size w w'

set_option maxRecDepth 100000 in
set_option maxHeartbeats 2000000 in
theorem rpack_ok : ∀ (t : Tm), RPackOk t := by
  refine tm_ind fun t ih => ?_
  intro hfm hs w v hA
  obtain ⟨a1, c1, rfl⟩ := hA.shape
  have hse := size_eq t
  have hle := length_le_sizeL t.kids
  rw [formedB_eq, Bool.and_eq_true, Bool.and_eq_true, decide_eq_true_eq] at hfm
  obtain ⟨⟨hf1, hf2⟩, hf3⟩ := hfm
  have hk := kidsI_kind (k := t.k) (by omega)
  have hkw : IntKind.u8.wrap t.k = t.k := IntWalk.u8_in _ (by omega)
  obtain ⟨i0, hi, hz0, hz1, hz2⟩ := info_parts Try.infoByte
  have O0 := Lib.hid (one_start w t _ hA)
  have HA := Lib.hid hA
  have IH := Lib.hid ih
  have HF3 := Lib.hid hf3
  clear ih hA hf3
  by_cases hl : t.kids.length = 0
  · rw [if_pos hl, Bool.and_eq_true, decide_eq_true_eq, decide_eq_true_eq] at hf2
    have HE : Hid (packT t = [t.k] ++ [t.n / 256, t.n % 256]) := by show _ = _; rw [packT_eq, if_pos hl]; rfl
    have HK : Hid (∀ W : World, Calls Try.prog 62 #[.int .i64 t.k] W fun e w' => e = .returned (.int .i64 0) ∧ W = w') := fun W => by
      have := rkids_any t.k W
      rwa [show kidsI t.k = 0 by omega] at this
    have HBE := Lib.hid (fun W => be_any t.n hf2.1 hf2.2 W)
    have HL0 := Lib.hid hl
    clear hf1 hf2 hl
    go_enter Try.func40, Try.ntmps40
    obtain ⟨⟨x0, x1, x2⟩, _⟩ := O0.out
    go_wp2_with fail
    have hR0 : RowBy (w.heap.size + 1) [t.k] (.slice (some ⟨w.heap.size + 1, 0, none⟩) 1 1) ((w.alloc (.cells #[.int .i64 t.k, .int .i64 t.n, .slice a1 t.kids.length c1] 24)).alloc (.cells #[.int .u8 t.k] 5)) := by
      have h := World.ownsRow_lit (base := w.heap.size + 1) (e := 5) (size := 1) (w.alloc (.cells #[.int .i64 t.k, .int .i64 t.n, .slice a1 t.kids.length c1] 24)) #[.int .u8 t.k] 1 (by simp) (by unfold maxLen; omega) rfl
      rw [World.size_alloc] at h
      exact h
    have hO1 := O0.out.bel (below_al _ (.cells #[.int .u8 t.k] 5))
    revert hR0 hO1
    generalize ((w.alloc (.cells #[.int .i64 t.k, .int .i64 t.n, .slice a1 t.kids.length c1] 24)).alloc (.cells #[.int .u8 t.k] 5)) = W1
    intro hR0 hO1
    have R1 := Lib.hid hR0
    have O1 := Lib.hid hO1
    clear hR0 hO1 O0 x0 x1 x2
    obtain ⟨⟨x0, x1, x2⟩, _⟩ := O1.out
    refine (HK.out _).mono ?_
    rintro e w' ⟨rfl, rfl⟩
    go_wp2_with fail
    refine (HBE.out _).mono ?_
    rintro e w2 ⟨v2, rfl, hr2, hb2⟩
    obtain ⟨ao, c2, rfl⟩ := hr2.rd.shape
    have S2 := Lib.hid hr2.src
    have O2 := Lib.hid (O1.out.bel hb2)
    have R2 := Lib.hid (R1.out.bel hb2)
    have HZ2 : Hid (w.heap.size + 1 ≤ w2.heap.size) := by have h1 := hb2.size; have h2 : w.heap.size + 1 < W1.heap.size := (R1.out.lt _ rfl).2; show _ ≤ _; omega
    clear hr2 hb2 O1 R1 x0 x1 x2
    obtain ⟨⟨x0, x1, x2⟩, _⟩ := O2.out
    go_wp2_with (at_builtin; refine wpList_append_own_gen rfl (.tmp 13) (.tmp 16) 47 rfl (w.heap.size + 1) 5 i0 _ 1 1 Try.underlying47 hi hz0 hz1 hz2 rfl (by decide) _ 1 _ rfl R2.out 2 [Value.int .u8 (t.n / 256), Value.int .u8 (t.n % 256)] _ _ rfl rfl ?_ ?_ (by simp [Value.oneCell']) (by unfold maxLen; omega) (by omega) (by have := HZ2.out; omega) ?_; rotate_left 2; intro v3 w3 hown3 hgrow3)
    · have hlt2 := R2.out.lt
      have hr3 : RowBy (w.heap.size + 1) (packT t) v3 w3 := by
        rw [HE.out]
        unfold RowBy
        simpa using hown3
      have hb3 : Below w.heap.size w w3 := O2.out.2.2.grown hgrow3 O2.out.2.2.size (fun k hk => by have := (hlt2 k hk).1; omega)
      have hx3 : w3.cell? ⟨w.heap.size, 2, none⟩ = some (.slice a1 0 c1) := by
        have h1 := O2.out.1.2.2
        rw [HL0.out] at h1
        have h2 := hgrow3.block w.heap.size (by have := HZ2.out; omega) (fun e => by have := (hlt2 _ e.symm).1; omega)
        unfold World.cell? at h1 ⊢
        rw [h2]; exact h1
      have R3 := Lib.hid hr3
      have B3 := Lib.hid hb3
      have X3 := Lib.hid hx3
      clear hr3 hb3 hx3 hown3 hgrow3 x0 x1 x2 R2 O2 S2 hlt2
      go_loopw [3, 4] (fun out i wr => i = .int .i64 0 ∧ RowBy (w.heap.size + 1) (packT t) out wr ∧ Below w.heap.size w wr ∧ wr.cell? ⟨w.heap.size, 2, none⟩ = some (.slice a1 0 c1)) (fun _ _ _ => 0)
      case atStart => exact ⟨rfl, R3.out, B3.out, X3.out⟩
      case round =>
        obtain ⟨rfl, hr, hb, hx⟩ := hrel
        have R4 := Lib.hid hr
        have B4 := Lib.hid hb
        clear hr hb
        go_wp2_with fail
        go_ret
        exact ⟨_, rfl, R4.out.le (by omega), B4.out⟩
    · intro h
      have := S2.out.2.1 h
      simp at this
    · intro ad h
      exact S2.out.2.2 ad h
  · have HE : Hid (packT t = [t.k] ++ packK t.kids) := by show _ = _; rw [packT_eq, if_neg hl]; rfl
    obtain ⟨c, hc⟩ : ∃ c : Nat, kidsI t.k = c := ⟨(kidsI t.k).toNat, by omega⟩
    have HK : Hid (∀ W : World, Calls Try.prog 62 #[.int .i64 t.k] W fun e w' => e = .returned (.int .i64 (c : Int)) ∧ W = w') := fun W => by
      have := rkids_any t.k W
      rwa [hc] at this
    have e1 : ((c : Int) == 0) = false := beq_eq_false_iff_ne.2 (by omega)
    have e2 : (c == 0) = false := beq_eq_false_iff_ne.2 (by omega)
    have hkl : t.kids.length ≤ 1048576 := by omega
    have hszL : sizeL t.kids ≤ 1048576 := by omega
    clear hf1 hf2 hl hc
    go_enter Try.func40, Try.ntmps40
    obtain ⟨⟨x0, x1, x2⟩, _⟩ := O0.out
    go_wp2_with fail
    have hR0 : RowBy (w.heap.size + 1) [t.k] (.slice (some ⟨w.heap.size + 1, 0, none⟩) 1 1) ((w.alloc (.cells #[.int .i64 t.k, .int .i64 t.n, .slice a1 t.kids.length c1] 24)).alloc (.cells #[.int .u8 t.k] 5)) := by
      have h := World.ownsRow_lit (base := w.heap.size + 1) (e := 5) (size := 1) (w.alloc (.cells #[.int .i64 t.k, .int .i64 t.n, .slice a1 t.kids.length c1] 24)) #[.int .u8 t.k] 1 (by simp) (by unfold maxLen; omega) rfl
      rw [World.size_alloc] at h
      exact h
    have hO1 := O0.out.bel (below_al _ (.cells #[.int .u8 t.k] 5))
    revert hR0 hO1
    generalize ((w.alloc (.cells #[.int .i64 t.k, .int .i64 t.n, .slice a1 t.kids.length c1] 24)).alloc (.cells #[.int .u8 t.k] 5)) = W1
    intro hR0 hO1
    have R1 := Lib.hid hR0
    have O1 := Lib.hid hO1
    clear hR0 hO1 O0 x0 x1 x2
    obtain ⟨⟨x0, x1, x2⟩, _⟩ := O1.out
    refine (HK.out _).mono ?_
    rintro e w' ⟨rfl, rfl⟩
    go_wp2_with fail
    have R2 : Hid (RowBy (w.heap.size + 1) ([t.k] ++ packK (t.kids.take 0)) (.slice (some ⟨w.heap.size + 1, 0, none⟩) 1 1) W1) := by
      show RowBy _ _ _ _
      simpa [packK] using R1.out
    clear x0 x1 x2
    go_loopw [3, 4] (fun out i wr => ∃ j : Nat, j ≤ t.kids.length ∧ i = .int .i64 j ∧ RowBy (w.heap.size + 1) ([t.k] ++ packK (t.kids.take j)) out wr ∧ Below w.heap.size w wr ∧ w.heap.size + 1 ≤ wr.heap.size ∧ wr.cell? ⟨w.heap.size, 2, none⟩ = some (.slice a1 t.kids.length c1))
      (fun _ i _ => t.kids.length - (RowKit.intOf i).toNat)
    case atStart => exact ⟨0, Nat.zero_le _, rfl, R2.out, O1.out.2.2, (have h2 : w.heap.size + 1 < W1.heap.size := (R1.out.lt _ rfl).2; by omega), O1.out.1.2.2⟩
    case round =>
      obtain ⟨j, hj, rfl, hr, hb, hz, hx⟩ := hrel
      have R3 := Lib.hid hr
      have B3 := Lib.hid hb
      have X3 := Lib.hid hx
      clear hr hb R1 R2 O1
      by_cases hlt : j < t.kids.length
      · obtain ⟨b, off, cap', vs, he, h1, h2, kk, kn, kv, ks⟩ := (HA.out.bel B3.out (Nat.le_refl _)).pos (by omega)
        have gk := kk j hlt
        have gn := kn j hlt
        have gv := kv j hlt
        have gs := ks j hlt
        obtain ⟨a6, c6, hv6⟩ := gs.shape
        rw [hv6] at gv gs
        have hsz := size_get hlt
        have hm := List.getElem_mem hlt
        have hpl := packK_len (t.kids.take j)
        have hpl2 := packT_len t.kids[j]
        have hst2 := sizeL_take t.kids j
        have HI := Lib.hid (IH.out t.kids[j] hm (formedL_mem HF3.out hm) (by omega) wr _ gs)
        have HP : Hid ([t.k] ++ packK (t.kids.take (j + 1)) = [t.k] ++ packK (t.kids.take j) ++ packT t.kids[j]) := by
          show _ = _
          rw [packK_take_succ hlt, List.append_assoc]
        have hL1 : ([t.k] ++ packK (t.kids.take j)).length ≤ 4000000 := by simp; omega
        have hL2 : (packT t.kids[j]).length ≤ 4000000 := by omega
        have hl1 : (j : Int) < (t.kids.length : Int) := by omega
        have hl0 : (0 : Int) ≤ (j : Int) := by omega
        generalize hL3 : [t.k] ++ packK (t.kids.take j) = L3 at R3 HP hL1
        generalize hL4 : packT t.kids[j] = L4 at HI HP hL2
        clear kk kn kv ks gs hv6 hsz hm hpl hpl2 hst2 hL3 hL4
        cases he
        go_wp2_with fail
        refine HI.out.mono ?_
        rintro e w5 ⟨v5, rfl, hr5, hb5⟩
        obtain ⟨ao, c5, rfl⟩ := hr5.rd.shape
        have S5 := Lib.hid hr5.src
        have R5 := Lib.hid (R3.out.bel hb5)
        have B5 := Lib.hid (B3.out.trans (hb5.mono B3.out.size))
        have X5 := Lib.hid (gcell hb5 X3.out)
        have hz5 : w.heap.size + 1 ≤ w5.heap.size := by have := hb5.size; omega
        clear hr5 hb5 HI gk gn gv hx
        go_wp2_with (at_builtin; refine wpList_append_own_gen rfl (.tmp 25) (.tmp 31) 47 rfl (w.heap.size + 1) 5 i0 _ 1 1 Try.underlying47 hi hz0 hz1 hz2 rfl (by decide) _ L3.length _ rfl R5.out L4.length (L4.map (Value.int .u8)) _ _ rfl (by simp) ?_ ?_ (ints_oneCell _ _) (by unfold maxLen; omega) (by omega) hz5 ?_; rotate_left 2; intro v6 w6 hown6 hgrow6)
        · have hlt6 := R5.out.lt
          go_roundw
          case rel =>
            refine ⟨j + 1, by omega, by go_num, ?_, B5.out.grown hgrow6 B5.out.size (fun k hk => by have := (hlt6 k hk).1; omega), by have := hgrow6.size; omega, ?_⟩
            · rw [HP.out]
              unfold RowBy
              rw [List.length_append, List.map_append]
              exact hown6
            · have h1 := X5.out
              have h2 := hgrow6.block w.heap.size (by omega) (fun e => by have := (hlt6 _ e.symm).1; omega)
              unfold World.cell? at h1 ⊢
              rw [h2]; exact h1
          case measure => simp [RowKit.intOf]; omega
        · intro h
          have := S5.out.2.1 h
          exact this
        · intro ad h
          exact S5.out.2.2 ad h
      · obtain rfl : j = t.kids.length := by omega
        have hlt : decide ((t.kids.length : Int) < (t.kids.length : Int)) = false := by simp
        go_wp2_with fail
        go_ret
        refine ⟨_, rfl, ?_, B3.out⟩
        have := R3.out
        rw [List.take_length] at this
        rw [HE.out]
        exact this.le (by omega)
end Go.Proofs.Ythcjjfgigbgdkaa
