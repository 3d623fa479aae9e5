/- Package pack's write, slices.Clone, Put: what a right term is put as. -/
import Derived.Test.YthcjjfgigbgdkaaJo
import Derived.Test.YthcjjfgigbgdkaaTw
namespace Go.Proofs.Ythcjjfgigbgdkaa
open Go.RowKit Go Go.Joins
set_option linter.unusedVariables false

theorem Try.infoByte : (Try.prog.info? 5).map (fun i => (i.zero, i.size, i.bytes)) = some (some (.int .u8 0), 1, 1) := by kernel_rfl

mutual
def packT : Tm → List Int | .node k n l => k :: (if l.length = 0 then [n / 256, n % 256] else packK l)
def packK : List Tm → List Int | [] => [] | t :: l => packT t ++ packK l
end
theorem packT_eq (t : Tm) : packT t = t.k :: (if t.kids.length = 0 then [t.n / 256, t.n % 256] else packK t.kids) := by cases t; rfl
theorem packK_append (a b : List Tm) : packK (a ++ b) = packK a ++ packK b := by
  induction a with
  | nil => simp [packK]
  | cons x a ih => simp [packK, ih]
theorem packK_take_succ {l : List Tm} {j : Nat} (h : j < l.length) : packK (l.take (j + 1)) = packK (l.take j) ++ packT l[j] := by
  rw [List.take_succ_eq_append_getElem h, packK_append]; simp [packK]
mutual
theorem packT_len : ∀ t : Tm, (packT t).length ≤ 3 * size t
  | .node k n l => by
    have := packK_len l
    rw [packT, size]
    split <;> simp <;> omega
theorem packK_len : ∀ l : List Tm, (packK l).length ≤ 3 * sizeL l
  | [] => by simp [packK, sizeL]
  | t :: l => by have := packT_len t; have := packK_len l; rw [packK, sizeL, List.length_append]; omega
end
theorem formedL_mem {l : List Tm} (h : formedL l = true) {u : Tm} (hu : u ∈ l) : formedB u = true := by
  induction l with
  | nil => cases hu
  | cons a l ih =>
    rw [formedL, Bool.and_eq_true] at h
    rcases List.mem_cons.1 hu with rfl | hu
    · exact h.1
    · exact ih h.2 hu
theorem kidsI_kind {k : Int} (h : 0 ≤ kidsI k) : 1 ≤ k ∧ k ≤ 13 := by
  unfold kidsI at h
  split at h
  · omega
  · split at h
    · omega
    · split at h
      · omega
      · split at h <;> omega

/-- A row of bytes that the call owns. -/
def RowBy (B : Nat) (L : List Int) (v : Value) (w : World) : Prop := w.ownsRow B 5 1 v L.length (L.map (Value.int .u8))
theorem RowBy.bel {B : Nat} {L : List Int} {v : Value} {w w' : World} (h : RowBy B L v w) (hb : Below w.heap.size w w') : RowBy B L v w' :=
  World.ownsRow.kept h (row := none) ⟨hb.os, hb.tape, hb.output, hb.size, fun k hk _ => hb.block k hk⟩ (by cases v.ownBlock <;> simp)
theorem RowBy.le {B B' : Nat} {L : List Int} {v : Value} {w : World} (h : RowBy B L v w) (hb : B' ≤ B) : RowBy B' L v w := ownsRow_le h hb

def WriteOk (t : Tm) : Prop := formedB t = true → ∀ (xs : List Int) (B : Nat) (w : World) (to v : Value), xs.length + 3 * size t ≤ 1099511627776 → B ≤ w.heap.size → RowBy B xs to w → AtS (fun b => b < B) w t.kids v →
    Calls Try.prog 60 #[to, .agg #[.int .i64 t.k, .int .i64 t.n, v]] w fun e w' => ∃ v', e = .returned v' ∧ RowBy B (xs ++ packT t) v' w' ∧ Below B w w'

set_option maxRecDepth 100000 in
set_option maxHeartbeats 2000000 in
theorem write_ok : ∀ (t : Tm), WriteOk t := by
  refine tm_ind fun t ih => ?_
  intro hfm xs B w to v hlen hB hR hA
  obtain ⟨a1, c1, rfl⟩ := hA.at.shape
  have hse := size_eq t
  have hle := length_le_sizeL t.kids
  rw [formedB_eq, Bool.and_eq_true, Bool.and_eq_true, decide_eq_true_eq] at hfm
  obtain ⟨⟨hf1, hf2⟩, hf3⟩ := hfm
  have hk := kidsI_kind (k := t.k) (by omega)
  have hkw : IntKind.u8.wrap t.k = t.k := IntWalk.u8_in _ (by omega)
  obtain ⟨i0, hi, hz0, hz1, hz2⟩ := info_parts Try.infoByte
  have HR := Lib.hid hR
  have HA := Lib.hid hA
  have IH := Lib.hid ih
  have HB0 : Hid (Below B w (w.alloc (.cells #[.int .i64 t.k, .int .i64 t.n, .slice a1 t.kids.length c1] 24))) := (Below.refl _ w).alloc hB _
  have NB : Hid (∀ j u, [Value.int .u8 t.k][j]? = some u → ((w.alloc (.cells #[.int .i64 t.k, .int .i64 t.n, .slice a1 t.kids.length c1] 24)).alloc (.cells #[.int .u8 t.k] 5)).cell? ((⟨w.heap.size + 1, 0, none⟩ : Addr).add j) = some u) := by
    have := World.alloc_heap_new (w.alloc (.cells #[.int .i64 t.k, .int .i64 t.n, .slice a1 t.kids.length c1] 24)) (.cells #[.int .u8 t.k] 5)
    rw [World.size_alloc] at this
    exact World.news_of_block (cs := #[.int .u8 t.k]) this
  have hm1 : xs.length + 1 ≤ maxLen := by unfold maxLen; omega
  have hm2 : (xs.length + 1) * 1 ≤ 140737488355328 := by omega
  have HX : Hid (∀ g, to.ownBlock = some g → g < w.heap.size ∧ B ≤ g) := fun g hg => by have := hR.lt g hg; omega
  clear ih hR hA
  by_cases hl : t.kids.length = 0
  · have hleaf : kidsI t.k = 0 := by omega
    rw [if_pos hl, Bool.and_eq_true, decide_eq_true_eq, decide_eq_true_eq] at hf2
    have hm3 : xs.length + 1 + 2 ≤ maxLen := by unfold maxLen; omega
    have hm4 : (xs.length + 1 + 2) * 1 ≤ 140737488355328 := by omega
    have HE : Hid (xs ++ packT t = xs ++ [t.k] ++ [t.n / 256, t.n % 256]) := by
      show _ = _
      rw [packT_eq, if_pos hl, List.append_assoc, List.singleton_append]
    have HL : Hid (∀ W : World, Calls Try.prog 45 #[.int .i64 t.k] W fun e w' => e = .returned (.bool true) ∧ W = w') := fun W => by
      have := leaf_any t.k W
      rw [hleaf] at this
      exact this
    have HL0 := Lib.hid hl
    clear hf1 hf3 hleaf IH hl
    go_enter Try.func60, Try.ntmps60
    go_wp2_with (first
      | (at_builtin; refine wpList_append_own_gen rfl (.tmp 7) (.tmp 11) 47 rfl B 5 i0 _ 1 1 Try.underlying47 hi hz0 hz1 hz2 rfl (by decide) _ xs.length _ rfl ((HR.out.alloc _).alloc _) 1 [Value.int .u8 t.k] _ _ rfl rfl ?_ ?_ (by simp [Value.oneCell']) hm1 hm2 (by simp; omega) ?_; rotate_left 2; intro v1 w1 hown1 hgrow1; have hbx := (hgrow1.block w.heap.size (by simp; omega) (fun e => by have := (HX.out _ e.symm).1; omega)).trans ((Below.heap_alloc _ _ w.heap.size (by simp)).trans (World.alloc_heap_new w _)); obtain ⟨⟨x0, x1, x2⟩, _⟩ := boxc hbx; have O1 := Lib.hid hown1; have G1 := Lib.hid hgrow1; clear hown1 hgrow1 hbx)
      | (at_builtin; refine wpList_append_own_gen rfl (.tmp 16) (.tmp 24) 47 rfl B 5 i0 _ 1 1 Try.underlying47 hi hz0 hz1 hz2 rfl (by decide) _ (xs.length + 1) _ rfl (O1.out.alloc _) 2 [Value.int .u8 (t.n / 256), Value.int .u8 (t.n % 256)] _ _ rfl rfl ?_ ?_ (by simp [Value.oneCell']) hm3 hm4 (by have := HB0.out.size; have := G1.out.size; simp at this; simp; omega) ?_; rotate_left 2; intro v2 w2 hown2 hgrow2)
      | (go_at_call 45; refine (HL.out _).mono ?_; rintro e w' ⟨rfl, rfl⟩))
    all_goals first
      | (intro h; cases h; done)
      | (intro ad h; cases h; exact NB.out)
      | (intro ad h; cases h; exact World.news_of_block (cs := #[.int .u8 (t.n / 256), .int .u8 (t.n % 256)]) (World.alloc_heap_new _ _))
      | skip
    have hb1 : Below B w w1 := (HB0.out.alloc (by simp; omega) _).grown G1.out (by simp; omega) (fun k hk => (HX.out k hk).2)
    go_ret
    refine ⟨_, rfl, ?_, (hb1.alloc (by have := hb1.size; omega) _).grown hgrow2 (by have := hb1.size; simp; omega) (fun k hk => (O1.out.lt k hk).1)⟩
    rw [HE.out]
    unfold RowBy
    simpa using hown2
  · have hm5 : t.kids.length ≤ 1099511627776 := by omega
    have HE : Hid (xs ++ packT t = xs ++ [t.k] ++ packK t.kids) := by
      show _ = _
      rw [packT_eq, if_neg hl, List.append_assoc, List.singleton_append]
    have HL : Hid (∀ W : World, Calls Try.prog 45 #[.int .i64 t.k] W fun e w' => e = .returned (.bool false) ∧ W = w') := fun W => by
      have := leaf_any t.k W
      have hn : (kidsI t.k == 0) = false := by simp; omega
      rw [hn] at this
      exact this
    have HF := Lib.hid hf3
    have HL0 := Lib.hid hl
    clear hf1 hf2 hf3 hl
    go_enter Try.func60, Try.ntmps60
    go_wp2_with (first
      | (at_builtin; refine wpList_append_own_gen rfl (.tmp 7) (.tmp 11) 47 rfl B 5 i0 _ 1 1 Try.underlying47 hi hz0 hz1 hz2 rfl (by decide) _ xs.length _ rfl ((HR.out.alloc _).alloc _) 1 [Value.int .u8 t.k] _ _ rfl rfl ?_ ?_ (by simp [Value.oneCell']) hm1 hm2 (by simp; omega) ?_; rotate_left 2; intro v1 w1 hown1 hgrow1; have hbx := (hgrow1.block w.heap.size (by simp; omega) (fun e => by have := (HX.out _ e.symm).1; omega)).trans ((Below.heap_alloc _ _ w.heap.size (by simp)).trans (World.alloc_heap_new w _)); obtain ⟨⟨x0, x1, x2⟩, _⟩ := boxc hbx; have O1 := Lib.hid hown1; have G1 := Lib.hid hgrow1; clear hown1 hgrow1 hbx)
      | (go_at_call 45; refine (HL.out _).mono ?_; rintro e w' ⟨rfl, rfl⟩))
    all_goals first
      | (intro h; cases h; done)
      | (intro ad h; cases h; exact NB.out)
      | skip
    have hb1 : Below B w w1 := (HB0.out.alloc (by simp; omega) _).grown G1.out (by simp; omega) (fun k hk => (HX.out k hk).2)
    have B1 := Lib.hid hb1
    have R1 : Hid (RowBy B (xs ++ [t.k] ++ packK (t.kids.take 0)) v1 w1) := by
      show RowBy _ _ _ _
      unfold RowBy
      simpa [packK] using O1.out
    clear hb1 x0 x1 x2 O1 G1 HB0 HX HR
    go_loopw [0, 6, 29] (fun to _ i wr => ∃ j : Nat, j ≤ t.kids.length ∧ i = .int .i64 j ∧ RowBy B (xs ++ [t.k] ++ packK (t.kids.take j)) to wr ∧ Below B w wr)
      (fun _ _ i _ => t.kids.length - (RowKit.intOf i).toNat)
    case atStart => exact ⟨0, Nat.zero_le _, rfl, R1.out, B1.out⟩
    case round =>
      obtain ⟨j, hj, rfl, hR, hbw⟩ := hrel
      have R2 := Lib.hid hR
      have B2 := Lib.hid hbw
      clear hR hbw B1 R1
      by_cases hlt : j < t.kids.length
      · have hA2 : AtS (fun b => b < B) wr t.kids (.slice a1 t.kids.length c1) := HA.out.same fun b hb => ⟨hb, B2.out.block b hb⟩
        obtain ⟨b, off, cap', vs, he, h1, h2, hSb, kk, kn, kv, ks⟩ := hA2.pos (by omega)
        have gk := kk j hlt
        have gn := kn j hlt
        have gv := kv j hlt
        have gs := ks j hlt
        obtain ⟨a6, c6, hv6⟩ := gs.at.shape
        rw [hv6] at gv gs
        have hsz := size_get hlt
        have hm := List.getElem_mem hlt
        have hst := sizeL_take_succ hlt
        have hst2 := sizeL_take t.kids (j + 1)
        have hpl := packK_len (t.kids.take j)
        have hlenj : (xs ++ [t.k] ++ packK (t.kids.take j)).length + 3 * size t.kids[j] ≤ 1099511627776 := by
          simp only [List.length_append, List.length_singleton]
          omega
        have HP : Hid (xs ++ [t.k] ++ packK (t.kids.take (j + 1)) = xs ++ [t.k] ++ packK (t.kids.take j) ++ packT t.kids[j]) := by
          show _ = _
          rw [packK_take_succ hlt, List.append_assoc _ _ (packT t.kids[j])]
        have hBs := B2.out.size
        have hI := IH.out t.kids[j] hm (formedL_mem HF.out hm) (xs ++ [t.k] ++ packK (t.kids.take j)) B (wr.alloc (.cells #[.int .i64 t.kids[j].k, .int .i64 t.kids[j].n, .slice a6 t.kids[j].kids.length c6] 24)) u0 (.slice a6 t.kids[j].kids.length c6) hlenj (by simp; omega) (World.ownsRow.alloc R2.out _) (gs.same fun b hb => ⟨hb, Below.heap_alloc wr _ b (by omega)⟩)
        have HI := Lib.hid hI
        have hl1 : (j : Int) < (t.kids.length : Int) := by omega
        have hl0 : (0 : Int) ≤ (j : Int) := by omega
        clear kk kn kv ks gs hA2 hI hsz hv6 hm hst hst2 hpl hlenj hse hle hlen
        cases he
        go_wp2_with (go_at_call 60; refine HI.out.mono ?_; rintro e w5 ⟨v5, rfl, hr5, hb5⟩; have R5 := Lib.hid hr5; have B5 := Lib.hid ((B2.out.alloc (by omega) _).trans hb5); clear hr5 hb5 HI R2 B2 gk gn gv)
        go_roundw
        case rel => exact ⟨j + 1, by omega, by go_num, by rw [HP.out]; exact R5.out, B5.out⟩
        case measure => simp [RowKit.intOf]; omega
      · obtain rfl : j = t.kids.length := by omega
        have hlt : decide ((t.kids.length : Int) < (t.kids.length : Int)) = false := by simp
        go_wp2_with fail
        go_ret
        refine ⟨_, rfl, ?_, B2.out⟩
        have := R2.out
        rw [List.take_length] at this
        rw [HE.out]
        exact this
end Go.Proofs.Ythcjjfgigbgdkaa
