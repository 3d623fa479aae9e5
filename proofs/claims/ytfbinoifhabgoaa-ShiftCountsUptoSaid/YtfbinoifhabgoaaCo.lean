/- Package term's Consts: what it returns for any term. -/
import Derived.Test.YtfbinoifhabgoaaLay
import Derived.Test.YtfbinoifhabgoaaCg
import Derived.Test.YtfbinoifhabgoaaCl
import Derived.Test.YtfbinoifhabgoaaCt
import Derived.Maps.OwnIn
import Derived.Maps.Views
import Derived.Shelf.SlIterI.Nil
import Derived.Shelf.SortM.SortNone
namespace Go.Proofs.Ytfbinoifhabgoaa
open Go.RowKit Go.Shelf Go Go.Joins Go.Maps
set_option linter.unusedVariables false
attribute [local go_sem] Oper.semAt_some

theorem sortsA (m : Nat) : AnyZI.SortsIn Try.prog Try.sortedA_ren Fence.wide m :=
  ⟨fun blk off cap ss W hH hblk hsz => callsIn_wide.2 (AnyM.slices_Sort_int Try.sortA blk off cap ss W hH hblk hsz),
   fun p cap W => callsIn_wide.2 (AnyM.slices_Sort_int_none Try.sortA p cap W)⟩
theorem lawI : Keyed Try.prog 3 := int_keyed Try.underlying3

def numsOf (pre : List El) : List Int := (pre.filter fun x => decide (x.t.k = 3)).map fun x => x.t.n
theorem numsOf_snoc (pre : List El) (x : El) : numsOf (pre ++ [x]) = if x.t.k = 3 then numsOf pre ++ [x.t.n] else numsOf pre := by
  unfold numsOf
  rw [List.filter_append]
  by_cases h : x.t.k = 3
  · rw [if_pos h]; simp [h]
  · rw [if_neg h]; simp [h]
theorem numsOf_len (pre : List El) : (numsOf pre).length ≤ pre.length := by unfold numsOf; simp; exact List.length_filter_le _ _
theorem numsOf_all {t : Tm} {l : List El} (h : CameAll (nodesT t 1 0) l) : consI (numsOf l) = consI (constT t) := by
  refine asc_unique (consI_asc _) (consI_asc _) fun n => ?_
  rw [consI_mem, consI_mem, constT_nodes t 1 0 n]
  unfold numsOf
  rw [List.mem_map]
  constructor
  · rintro ⟨x, hx, rfl⟩
    rw [List.mem_filter] at hx
    exact ⟨x.p, h.1.subset (List.mem_map_of_mem hx.1), by have := hx.2; simpa [El.p] using this, rfl⟩
  · rintro ⟨p, hp, h1, h2⟩
    obtain ⟨x, hx, rfl⟩ := List.mem_map.1 (h.1.symm.subset hp)
    exact ⟨x, List.mem_filter.2 ⟨hx, by simpa [El.p] using h1⟩, h2⟩
theorem set_size {H : Type} (u : DataW H) (l : List Int) : Maps.size (setOf u (litOf l)) ≤ l.length := by
  have : ∀ (m : DataW H), Maps.size ((litOf l).foldl (fun m x => m.put x u) m) ≤ Maps.size m + l.length := by
    induction l with
    | nil => intro m; simp [litOf]
    | cons a l ih =>
      intro m
      have h1 := ih (m.put (.int .i64 a) u)
      have h2 : Maps.size (m.put (.int .i64 a) u) ≤ Maps.size m + 1 := by
        cases m <;> try (exact Nat.zero_le _)
        rename_i es
        show (DataW.insert (Lit.int .i64 a, u) (es.filter fun p => !p.1.sameKey (.int .i64 a))).length ≤ es.length + 1
        rw [(Go.WideShapes.insert_perm _ _).length_eq, List.length_cons]
        have := List.length_filter_le (fun p : Lit × DataW H => !p.1.sameKey (.int .i64 a)) es
        omega
      have h3 : (litOf (a :: l)).foldl (fun m x => m.put x u) m = (litOf l).foldl (fun m x => m.put x u) (m.put (.int .i64 a) u) := rfl
      rw [h3, List.length_cons]; omega
  have h := this (.map [])
  have e : Maps.size (.map [] : DataW H) = 0 := rfl
  rw [e, Nat.zero_add] at h
  exact h
def SetIs (W : World) (B bm : Nat) (l : List Int) (n : Nat) : Prop := Boxed W B 65 (.map (some bm)) ∧ W.ownsMap Try.prog 3 unitElem bm n (setOf (H := Unit) (.agg []) (litOf l))
theorem SetIs.keep {W W' : World} {B bm : Nat} {l : List Int} {n D : Nat} (h : SetIs W B bm l n) (hb : Below D W W') (h1 : B < D) (h2 : bm < D) : SetIs W' B bm l n := by
  obtain ⟨hB, es, clock, hm, Ft, hs, hD⟩ := h
  exact ⟨(hb.block B h1).trans hB, es, clock, (hb.block bm h2).trans hm, Ft, hs, hD⟩

set_option maxRecDepth 100000 in
set_option maxHeartbeats 2000000 in
theorem tconsts_in (t : Tm) (v : Value) (w : World) (hf : Fits t) (hs : size t < 2147483648) (hA : At w t.kids v) :
    CallsIn Fence.wide 6 Try.prog 24 #[tv t v] w fun e w' => ∃ v', e = .returned v' ∧ w'.ownsRow w.heap.size 3 1 v' (consI (constT t)).length ((consI (constT t)).map (Value.int .i64)) ∧ Below w.heap.size w w' := by
  have h1 : 1 ≤ 6 := by omega
  have hmm := @run_makeMap Try.prog
  unfold tv
  refine callsIn_of_wp_marks Try.func24 rfl trivial ?_ rfl
  simp only [Try.ntmps24, List.size_toArray, List.length_cons, List.length_nil, Nat.reduceAdd, Nat.reduceSub, Array.replicate_succ, Array.replicate_zero, List.push_toArray, List.append_toArray, List.nil_append, List.cons_append]
  gi_wp2_with (refine ⟨trivial, ?_⟩; gi_at_call 44; refine (callsIn_wide.2 (nodes_agg t v _ (((hA.alloc _).alloc _).alloc _))).mono ?_; rintro e w' ⟨rfl, rfl⟩)
  have hb3 := box3_new (((w.alloc (.cells #[.int .i64 t.k, .int .i64 t.n, v] 24)).alloc (.map #[] 0)).alloc (.cells #[.map (some (w.heap.size + 1))] 65)) t v 24
  have hbc := (Boxed.new ((w.alloc (.cells #[.int .i64 t.k, .int .i64 t.n, v] 24)).alloc (.map #[] 0)) 65 (.map (some (w.heap.size + 1)))).alloc (.cells #[.int .i64 t.k, .int .i64 t.n, v] 24)
  have hom := ((World.ownsMap_made (w.alloc (.cells #[.int .i64 t.k, .int .i64 t.n, v] 24)) Try.prog 3 (unitElem (H := Unit))).alloc (.cells #[.map (some (w.heap.size + 1))] 65)).alloc (.cells #[.int .i64 t.k, .int .i64 t.n, v] 24)
  have hB0 : Below w.heap.size w ((((w.alloc (.cells #[.int .i64 t.k, .int .i64 t.n, v] 24)).alloc (.map #[] 0)).alloc (.cells #[.map (some (w.heap.size + 1))] 65)).alloc (.cells #[.int .i64 t.k, .int .i64 t.n, v] 24)) := ((((Below.refl _ w).alloc (Nat.le_refl _) _).alloc (by simp) _).alloc (by simp; omega) _).alloc (by simp; omega) _
  have hsz : ((((w.alloc (.cells #[.int .i64 t.k, .int .i64 t.n, v] 24)).alloc (.map #[] 0)).alloc (.cells #[.map (some (w.heap.size + 1))] 65)).alloc (.cells #[.int .i64 t.k, .int .i64 t.n, v] 24)).heap.size = w.heap.size + 4 := by simp
  simp only [World.size_alloc] at hb3 hbc hom
  revert hb3 hbc hB0 hsz hom
  generalize (((w.alloc (.cells #[.int .i64 t.k, .int .i64 t.n, v] 24)).alloc (.map #[] 0)).alloc (.cells #[.map (some (w.heap.size + 1))] 65)).alloc (.cells #[.int .i64 t.k, .int .i64 t.n, v] 24) = W0
  intro hB0 hsz hb3 hbc hom
  clear hmm
  refine wpIn_rangeFunc_N h1 (gf := 51) (lb := #[.pointer (some ⟨w.heap.size + 1 + 1 + 1, 0, none⟩)]) rfl (enters_of Try.func51 (by kernel_rfl) rfl)
    (nodes_seq 5 (by omega) (w.heap.size + 1 + 1 + 1) w W0 t v hf hs hA (old_of hB0) hb3) (Below.refl _ _) (by omega) rfl
    (fun pre W => SetIs W (w.heap.size + 1 + 1) (w.heap.size + 1) (numsOf pre) pre.length ∧ Below w.heap.size w W)
    (fun _ _ _ => False)
    (fun s A B hs hb => ⟨hs.1.keep hb (by omega) (by omega), hs.2.trans (hb.mono (by omega))⟩)
    (fun _ _ _ _ hs _ => hs)
    ⟨⟨hbc, hom⟩, hB0⟩
    (fun x a' W => ∃ Bx, W0.heap.size + 2 ≤ Bx ∧ W.heap[Bx]? = some (.cells #[.int .i64 x.t.k, .int .i64 x.t.n, x.v] 24 (0, 0)) ∧ a' = { tmps := #[.agg #[.int .i64 t.k, .int .i64 t.n, v], .pointer (some ⟨w.heap.size, 0, none⟩), .slice none 0 0, .pointer (some ⟨w.heap.size + 1 + 1, 0, none⟩), undef, .pointer (some ⟨Bx, 0, none⟩), .map (some (w.heap.size + 1)), .agg #[.int .i64 t.k, .int .i64 t.n, v], .func (.func 51) #[] #[.pointer (some ⟨w.heap.size + 1 + 1 + 1, 0, none⟩)], .agg #[.int .i64 x.d, .int .i64 x.b], .agg #[.int .i64 x.t.k, .int .i64 x.t.n, x.v], undef, undef, undef, undef, undef, undef, undef, undef, undef, undef], defers := [] })
    (fun x a' A l o hs hl => by obtain ⟨Bx, h1, h2, h3⟩ := hs; exact ⟨Bx, h1, (World.putObj_heap_other (by omega)).trans h2, h3⟩)
    ?assign ?body ?done ?stop
  case assign =>
    rintro l pre x W K hc ⟨hb, hB⟩ hszW hK
    obtain ⟨ax, cx, hxv⟩ := hc.mem.2
    rw [El.vals, tv]
    have hXV := Lib.hid hxv
    obtain ⟨xd, xb, xt, xv⟩ := x
    simp only at hxv
    subst hxv
    simp only
    gi_wp2
    exact hK _ _ ((KeepsOut.refl _ _ _).alloc _) ⟨hb.keep (below_al W _) (by omega) (by omega), hB.alloc hB.size _⟩ ⟨W.heap.size, by omega, World.alloc_heap_new W _, by simp⟩
  case body =>
    rintro l pre x a' W hc ⟨hb, hB⟩ hszW ⟨Bx, hBx, hbx, rfl⟩
    have hlen := hc.length
    rw [nodesT_len] at hlen
    simp only [List.length_append, List.length_singleton] at hlen
    have hfx := (nodesT_fits t 1 0 hf _ hc.mem.1).n
    have hsn := Lib.hid (numsOf_snoc pre x)
    obtain ⟨⟨x0, x1, x2⟩, _⟩ := boxc hbx
    have cS := hb.1.cell
    have hkey : keyOf Try.prog 3 (.int .i64 x.t.n) = some (.int .i64 x.t.n) := keyOf_int_mk Try.underlying3 (WalkArith.wf_i64 hfx)
    have HM := Lib.hid hb
    have hn1 : pre.length < maxLen := by unfold maxLen; omega
    clear hbx hb
    by_cases hk : x.t.k = 3
    · have e1 : (x.t.k == 3) = true := by simpa using hk
      have E := Lib.hid (hsn.out.trans (if_pos hk))
      clear hk hsn hfx
      gi_wp2_with (gi_at_mapUpdate; refine wpListIn_mapUpdate_own _ rfl _ _ _ 65 rfl 3 66 lawI Try.underlying65 (unitElem (H := Unit)) (w.heap.size + 1) pre.length _ rfl HM.out.2 hn1 _ _ _ rfl rfl hkey _ [] unitElem_mk ?_; intro w1 hown1 hgrow1)
      have hne : (some (w.heap.size + 1 + 1) : Option Nat) ≠ some (w.heap.size + 1) := by simp
      refine ⟨⟨hgrow1.size, fun k hk ho => hgrow1.block k hk (fun e => by cases e; omega)⟩, ⟨(hgrow1.block _ (by omega) hne).trans HM.out.1, ?_⟩, hB.grown hgrow1 hB.size (fun k hk => by cases hk; omega)⟩
      rw [E.out, litOf, List.map_append, List.map_singleton, setOf_snoc, List.length_append, List.length_singleton]
      exact hown1
    · have e1 : (x.t.k == 3) = false := by simpa using hk
      have E := Lib.hid (hsn.out.trans (if_neg hk))
      clear hk hsn hfx
      gi_wp2
      refine ⟨KeepsOut.refl _ _ _, ⟨HM.out.1, ?_⟩, hB⟩
      rw [E.out]
      exact HM.out.2.mono (by simp)
  case done =>
    rintro D zs W hD hall ⟨hb, hB⟩ hK
    have hlen := hall.1.length_eq
    rw [nodesT_len, List.length_map] at hlen
    have HL := Lib.hid (numsOf_all hall)
    have hsd := set_size (H := Unit) (.agg []) (numsOf zs)
    have hnl := numsOf_len zs
    have cS0 := hb.1.cell
    obtain ⟨hBX, es, clock, hbm, Ft, hss, hDD⟩ := hb
    have hwz := (Array.getElem?_eq_some_iff.1 hbm).1
    have hseq : SeqGives Fence.wide 2 Try.prog 55 #[.pointer (some ⟨W.heap.size, 0, none⟩)] encZ (fun ss => ss.Perm (intKeys (setOf (H := Unit) (.agg []) (litOf (numsOf zs))))) (Maps.size (setOf (H := Unit) (.agg []) (litOf (numsOf zs)))) (W.alloc (.cells #[.map (some (w.heap.size + 1))] 65)) :=
      AnyZI.keys_gives (ρ := Try.keysA_ren) { Try.keysA with } Fence.wide _ trivial rfl (by omega) W.heap.size (w.heap.size + 1) zs.length _ _ (by simp) (by simp) ⟨es, clock, (Below.heap_alloc _ _ _ hwz).trans hbm, Ft, hss, hDD⟩
    have cK : ∀ mb W, CallsIn Fence.wide 5 Try.prog 47 #[.map mb] W fun e w' => e = .returned (.func (.func 55) #[] #[.pointer (some ⟨W.heap.size, 0, none⟩)]) ∧ w' = W.alloc (.cells #[.map mb] 65) := fun mb W => AnyZI.keys_in Try.keysA Fence.wide 5 trivial rfl mb W
    have cS := AnyZI.sorted_in Try.sortedA Fence.wide 5 trivial trivial trivial trivial rfl (by omega) (sortsA _) (enters_of Try.func54 (by kernel_rfl) rfl) 55 #[.pointer (some ⟨W.heap.size, 0, none⟩)] trivial (enters_of Try.func55 (by kernel_rfl) rfl) _ _ (Nat.le_trans hsd (by unfold maxLen; omega)) (by omega) _ hseq
    change CallsIn _ _ Try.prog 46 _ _ _ at cS
    have hfK : Fence.wide.fn 47 := trivial
    have hfS : Fence.wide.fn 46 := trivial
    have CK := Lib.hid cK
    have CS := Lib.hid cS
    have HB := Lib.hid hB
    have HK := Lib.hid hK
    clear hall hsd hnl hBX hbm Ft hss hDD hseq cK cS hB hK hlen
    gi_wp2_with (first
      | (gi_at_call 47; refine (CK.out _ _).mono ?_; rintro e w' ⟨rfl, rfl⟩)
      | (gi_at_call 46; refine CS.out.mono ?_; rintro e w' ⟨v', ss, rfl, hS, hrow, hnil, hb⟩))
    have hDlt := (Array.getElem?_eq_some_iff.1 HK.out).1
    have hb1 : Below W.heap.size W w' := (below_al W _).trans (hb.mono (by simp))
    have hK' : w'.heap[D]? = some (.deferred (some [])) := (hb1.block D hDlt).trans HK.out
    have hrow2 : w'.ownsRow (W.heap.size + 1) 3 1 v' ss.length ((ss.mergeSort fun x y => decide (x ≤ y)).map encZ) := by
      have h := hrow
      rw [World.size_alloc] at h
      exact h
    have e1 := sorted_set (H := Unit) (.agg []) (numsOf zs) ss hS
    have e2 : ss.length = (consI (numsOf zs)).length := by rw [← e1, List.length_mergeSort]
    rw [e1, e2, HL.out] at hrow2
    clear hrow hS hnil e1 e2
    have hkeep := hrow2.kept (grownBy_putObj' w' D (.deferred none)) (by
      cases hv : v'.ownBlock with
      | none => exact .inl rfl
      | some g => exact .inr (fun e => by injection e with e; have := (hrow2.lt g hv).1; omega))
    refine ⟨by simp, .inl ⟨_, _, rfl, run_takeDeferred hK', ?_⟩⟩
    exact ⟨_, results_tmp rfl _ _ _, v', by simp, ownsRow_le hkeep (by have := HB.out.size; omega), (HB.out.trans (hb1.mono HB.out.size)).trans (belowK_b (w := w) (Nat.le_refl _) w' D _ _ (by omega) hK' rfl rfl)⟩
  case stop =>
    rintro D c pre W _ _ h _
    exact h.elim

theorem tconsts_any (t : Tm) (v : Value) (w : World) (hf : Fits t) (hs : size t ≤ 1048576) (hA : At w t.kids v) :
    Calls Try.prog 24 #[.agg #[.int .i64 t.k, .int .i64 t.n, v]] w fun e w' => ∃ v', e = .returned v' ∧ w'.ownsRow w.heap.size 3 1 v' (consI (constT t)).length ((consI (constT t)).map (Value.int .i64)) ∧ Below w.heap.size w w' :=
  callsIn_wide.1 (tconsts_in t v w hf (by omega) hA)
/-- .. as a list that lies in the world. -/
def RowV (l : List Int) (v : Value) (w : World) : Prop := RowI w l v
theorem RowV.mono (l : List Int) : ∀ v w w', Grw w w' → RowV l v w → RowV l v w' := fun _ _ _ hg h => h.bel hg
theorem c_consts (t : Tm) (hf : Fits t) (hs : size t ≤ 1048576) (w : World) (v : Value) (hA : At w t.kids v) :
    Calls Try.prog 24 #[.agg #[.int .i64 t.k, .int .i64 t.n, v]] w fun e w' => ∃ v', e = .returned v' ∧ Grw w w' ∧ RowV (consI (constT t)) v' w' :=
  (tconsts_any t v w hf hs hA).mono fun e w' ⟨v', he, hr, hb⟩ => ⟨v', he, hb, rowI_of_owns hr⟩
end Go.Proofs.Ytfbinoifhabgoaa
