/- Package tele's clone: a term of its own, in new memory. No conditions but sizes. -/
import Derived.Test.YtblebboamopffaaUw
namespace Go.Proofs.Ytblebboamopffaa
open Go.RowKit
set_option linter.unusedVariables false

def Out (w0 : World) (t : Tm) (k : Nat) (v : Value) (wr : World) : Prop := ∃ J D aW cW, v = .slice aW J.length cW ∧ Wk w0 (w0.heap.size + 2) J D (.slice aW J.length cW) wr ∧
  Wand (w0.heap.size + 2) J D wr (fun W' => AtE (fun b => w0.heap.size + 2 ≤ b) W' [t] (jobV (w0.heap.size + 2, [t]))) ∧ Below w0.heap.size w0 wr ∧ wr.heap[w0.heap.size + 1]? = some (.cells #[.int .i64 0, .int .i64 0, .slice none 0 0] 24 (0, 0)) ∧ muJ J ≤ k ∧ k ≤ 1048576
def OutR (w0 : World) (t : Tm) : World → Prop := fun W' => AtE (fun b => w0.heap.size + 2 ≤ b) W' [t] (jobV (w0.heap.size + 2, [t]))
def Inr (w0 : World) (t : Tm) (M b : Nat) (l : List Tm) (D : Nat → Prop) (v i : Value) (wr : World) : Prop := ∃ p J aW cW, p ≤ l.length ∧ i = .int .i64 (p : Int) ∧ v = .slice aW J.length cW ∧ Inn w0 (w0.heap.size + 2) M (OutR w0 t) b l D p J (.slice aW J.length cW) wr ∧ Below w0.heap.size w0 wr ∧ wr.heap[w0.heap.size + 1]? = some (.cells #[.int .i64 0, .int .i64 0, .slice none 0 0] 24 (0, 0))
theorem out_start (w : World) (t : Tm) (hs : size t ≤ 1048576) (v : Value) (hA : At w t.kids v) (w1 : World) (h1 : Below w.heap.size w w1) (hz : w1.heap.size = w.heap.size + 2) (hbx : w1.heap[w.heap.size + 1]? = some (.cells #[.int .i64 0, .int .i64 0, .slice none 0 0] 24 (0, 0))) :
    Out w t (size t) (.slice (some ⟨w.heap.size + 3, 0, none⟩) 1 1) ((w1.alloc (.cells #[.int .i64 t.k, .int .i64 t.n, v] 24)).alloc (.cells #[.slice (some ⟨w.heap.size + 2, 0, none⟩) 1 1] 22)) := by
  have hb1 := below_al w1 (.cells #[.int .i64 t.k, .int .i64 t.n, v] 24)
  have hb2 := below_al (w1.alloc (.cells #[.int .i64 t.k, .int .i64 t.n, v] 24)) (.cells #[.slice (some ⟨w.heap.size + 2, 0, none⟩) 1 1] 22)
  have hn1 := World.alloc_heap_new w1 (.cells #[.int .i64 t.k, .int .i64 t.n, v] 24)
  have hn2 := World.alloc_heap_new (w1.alloc (.cells #[.int .i64 t.k, .int .i64 t.n, v] 24)) (.cells #[.slice (some ⟨w.heap.size + 2, 0, none⟩) 1 1] 22)
  rw [World.size_alloc] at hn2
  rw [hz] at hn1 hn2
  have hx := (hb2.block (w.heap.size + 2) (by rw [World.size_alloc]; omega)).trans hn1
  refine ⟨[(w.heap.size + 2, [t])], fun _ => False, _, _, rfl, ⟨⟨rfl, .inr ⟨w.heap.size + 3, 1, _, rfl, by omega, hn2, Nat.le_refl _, by decide, rfl, rfl⟩⟩, fun q hq => ?_, by simp, fun x hx => hx.elim⟩, fun W' h1 _ => h1 (w.heap.size + 2, [t]) (by simp), (h1.trans (hb1.mono h1.size)).trans (hb2.mono (by have := h1.size; rw [World.size_alloc]; omega)), (hb2.block _ (by rw [World.size_alloc]; omega)).trans ((hb1.block _ (by omega)).trans hbx), by simp [muJ, sizeL], hs⟩
  obtain rfl : q = (w.heap.size + 2, [t]) := by simpa using hq
  refine ⟨⟨by simp, Nat.le_refl _, by simp only [World.size_alloc]; omega, fun _ => v, hx, fun i hi => ?_⟩, by simp [Value.ownBlock], fun h => h⟩
  obtain rfl : i = 0 := by simpa using hi
  exact hA
set_option maxRecDepth 100000 in
set_option maxHeartbeats 4000000 in
theorem tclone_any (t : Tm) (hs : size t ≤ 1048576) (w : World) (v : Value) (hA : At w t.kids v) :
    Calls Try.prog 37 #[.agg #[.int .i64 t.k, .int .i64 t.n, v]] w (TellE w t) := by
  obtain ⟨a1, c1, rfl⟩ := hA.shape
  have hO := one_start w t _ hA
  have hb1 := below_al (w.alloc (.cells #[.int .i64 t.k, .int .i64 t.n, .slice a1 t.kids.length c1] 24)) (.cells #[.int .i64 0, .int .i64 0, .slice none 0 0] 24)
  have hO1 := hO.bel hb1
  have hZ1 := World.alloc_heap_new (w.alloc (.cells #[.int .i64 t.k, .int .i64 t.n, .slice a1 t.kids.length c1] 24)) (.cells #[.int .i64 0, .int .i64 0, .slice none 0 0] 24)
  rw [World.size_alloc] at hZ1
  have hst := out_start w t hs _ hA _ hO1.2.2 (by simp only [World.size_alloc]) hZ1
  have HS := Lib.hid hst
  have O1 := Lib.hid hO1
  clear hst hA hO hb1 hZ1 hO1
  go_enter Try.func37, Try.ntmps37
  have hx := O1.out.1
  obtain ⟨x0, x1, x2⟩ := hx
  go_wp2_with fail
  clear x0 x1 x2 O1
  go_loopg [4] (size t) (fun k v wr => Out w t k v wr)
  case atStart => exact HS.out
  case round =>
    clear HS
    obtain ⟨J, D, aW, cW, rfl, hW, hR, hB, hZ, hm, hk⟩ := hrel
    rcases List.eq_nil_or_concat J with rfl | ⟨J0, q, rfl⟩
    · have hF := hR wr (fun q hq => by cases hq) (fun _ _ => rfl)
      have hcw := hW
      clear hW hR hm hk
      cases hF with
      | row l b off cap vs cs hS hcs hlen hmm hk' hs' =>
        obtain ⟨k0, k1, k2⟩ := hk' 0 (by simp)
        have hA0 := hs' 0 (by simp)
        simp only [List.getElem_cons_zero] at k0 k1 hA0
        obtain ⟨a2, c2, hv⟩ := hA0.at.shape
        rw [hv] at k2 hA0
        simp only [Nat.zero_mul, Nat.zero_add, Nat.add_zero] at k0 k1 k2
        have y0 : wr.cell? ⟨w.heap.size + 1 + 1, 0, none⟩ = some (.int .i64 t.k) := by simp [World.cell?, hcs, k0]
        have y1 : wr.cell? ⟨w.heap.size + 1 + 1, 1, none⟩ = some (.int .i64 t.n) := by simp [World.cell?, hcs, k1]
        have y2 : wr.cell? ⟨w.heap.size + 1 + 1, 2, none⟩ = some (.slice a2 t.kids.length c2) := by simp [World.cell?, hcs, k2]
        obtain ⟨⟨z0, z1, z2⟩, g0, g1, g2⟩ := boxc hZ
        have HA := Lib.hid hA0
        have HB := Lib.hid hB
        have HZ := Lib.hid hZ
        clear hs' hk' hA0 hB hZ hcs k0 k1 k2 hcw hlen
        go_wp2_with fail
        have hbx := box_store3 HZ.out (.int .i64 t.k) (.int .i64 t.n) (.slice a2 t.kids.length c2)
        have hAF := HA.out.lt.same (T := newS w (put3 wr (w.heap.size + 1) t (.slice a2 t.kids.length c2))) (w' := put3 wr (w.heap.size + 1) t (.slice a2 t.kids.length c2)) fun b hb => ⟨⟨by have := hb.1; omega, by simpa using hb.2⟩, other_store3 (by have := hb.1; omega) _ _ _⟩
        have hBF := HB.out.trans (below_store3 (D := w.heap.size) (B := w.heap.size + 1) (W := wr) (by omega) (.int .i64 t.k) (.int .i64 t.n) (.slice a2 t.kids.length c2))
        obtain ⟨⟨s0, s1, s2⟩, _⟩ := boxc hbx
        exact bodyPost_ret (v := .agg #[.int .i64 t.k, .int .i64 t.n, .slice a2 t.kids.length c2]) (by simp [results, Try.f37, go_sem, s0, s1, s2]) rfl ⟨a2, c2, rfl, hAF, hBF⟩
    · rw [List.concat_eq_append] at *
      obtain ⟨b, l⟩ := q
      obtain ⟨g, c, e, hcl, hq, h1, h2⟩ := hW.last
      have hP := Wk.pop (by rw [← e]; exact hW)
      have hlen : (J0 ++ [(b, l)]).length = J0.length + 1 := by simp
      rw [hlen] at e
      cases e
      rw [hlen]
      have hJl := hW.len
      rw [muJ_snoc] at hm
      obtain ⟨q1, q2, q3, vs, q4, q5⟩ := hq
      dsimp only at q1 q2 q3 q4 q5 hP hm
      have hst : Inr w t gk b l D (.slice (some ⟨g, 0, none⟩) J0.length cW) (.int .i64 0) wr :=
        ⟨0, J0, _, _, Nat.zero_le _, rfl, rfl, ⟨vs, hP, (hW.2.1 (b, l) (by simp)).2.2, q4, fun i hi _ => q5 i hi, fun W' a1 a2 => ⟨fun i _ h => absurd h (Nat.not_lt_zero _), fun a3 => hR W' (fun r hr => (List.mem_append.1 hr).elim (a1 r) (fun h => (List.mem_singleton.1 h) ▸ a3)) a2⟩, by rw [List.drop_zero]; omega⟩, hB, hZ⟩
      have HS := Lib.hid hst
      have HQ := Lib.hid (And.intro q1 q2)
      have HK := Lib.hid (And.intro hm hk)
      have hJ : J0.length ≤ 1048576 := by rw [hlen, muJ_snoc] at hJl; dsimp only at hJl; omega
      have hl : l.length ≤ 1048576 := by have := length_le_sizeL l; omega
      have hw1 : IntKind.i64.wrap (((J0.length + 1 : Nat) : Int) - 1) = (J0.length : Int) := by rw [IntWalk.i64_in _ (by omega)]; omega
      have hc1 : J0.length ≤ cW := by omega
      have hcell : wr.cell? ⟨g, J0.length, none⟩ = some (.slice (some ⟨b, 0, none⟩) l.length l.length) := hcl
      clear hst q1 q2 q3 q4 q5 hP hW hR hB hZ hm hk hcl hJl h1
      go_wp2_with fail
      clear hcell hw1 hc1
      go_loopw [4, 27] (fun v i wr => Inr w t gk b l D v i wr) (fun _ i _ => l.length - (RowKit.intOf i).toNat)
      case atStart => exact HS.out
      case round =>
        clear HS
        obtain ⟨p, J, aV, cV, hp, rfl, rfl, hI, hB, hZ⟩ := hrel
        by_cases hpl : p < l.length
        · have hpi : (p : Int) < (l.length : Int) := by omega
          obtain ⟨vs, i1, i2, i3, i4, i5, i6⟩ := hI
          obtain ⟨cc, ff⟩ := i3.cell hpl
          have hAp := i4 p hpl (Nat.le_refl _)
          obtain ⟨au, cu, hvu⟩ := hAp.shape
          have hkl : l[p].kids.length ≤ 1048576 := by have := size_eq l[p]; have := drop_size hpl; have := length_le_sizeL l[p].kids; have := HK.out; omega
          have hbl := (i1.2.2.2 b (.inr rfl)).1
          have hJm : J.length ≤ 1048576 := by have := i1.len; have := HK.out; omega
          have HCP := Lib.hid (copied_any l[p].kids hkl w wr _ hAp hB)
          have HI := Lib.hid (And.intro i1 (And.intro i2 (And.intro i3 (And.intro i4 (And.intro i5 i6)))))
          have HB := Lib.hid hB
          have HZ := Lib.hid hZ
          rw [hvu] at cc HCP
          clear i1 i2 i3 i4 i5 i6 hAp hvu hB hZ
          have hp0 : (0 : Int) ≤ (p : Int) := by omega
          go_wp2_with fail
          refine HCP.out.mono ?_
          clear HCP
          rintro e w1 (⟨hk0, rfl, hb1⟩ | ⟨hk0, rfl, hb1, hlt1, vs', hn1, ha1⟩)
          · have cc1 := gcell hb1 cc
            have ff1 : w1.frozen? ⟨b, p * 3 + 2, none⟩ = false := by rw [World.frozen?_of_block (hb1.block b hbl)]; exact ff
            have hIn := inn_nil (M := gk) hpl hk0 HI.out.1 HI.out.2.1 HI.out.2.2.1 HI.out.2.2.2.1 HI.out.2.2.2.2.1 HI.out.2.2.2.2.2 hb1
            have HIN := Lib.hid hIn
            have hBb := HQ.out.2
            have HB2 := Lib.hid ((HB.out.trans (hb1.mono HB.out.size)).trans (((Below.refl w.heap.size w1)).setCell (p := ⟨b, p * 3 + 2, none⟩) (by dsimp only; omega) (.slice none 0 0)))
            have HZ2 := Lib.hid ((Below.heap_setCell w1 ⟨b, p * 3 + 2, none⟩ (.slice none 0 0) (w.heap.size + 1) (by dsimp only; omega)).trans ((hb1.block _ (by omega)).trans HZ.out))
            clear hIn hb1 HI HB HZ cc ff hk0
            go_wp2_with fail
            go_roundw
            case rel => exact ⟨p + 1, J, aV, cV, hpl, by go_num, rfl, HIN.out, HB2.out, HZ2.out⟩
            case measure => simp [RowKit.intOf]; omega
          · have cc1 := gcell hb1 cc
            have ff1 : w1.frozen? ⟨b, p * 3 + 2, none⟩ = false := by rw [World.frozen?_of_block (hb1.block b hbl)]; exact ff
            have hBb := HQ.out.2
            have hbs1 := HB.out.size
            have hgt : (0 : Int) < (l[p].kids.length : Int) := by omega
            have hq : JobOk w (w.heap.size + 2) w1 (wr.heap.size, l[p].kids) := ⟨hk0, by dsimp only; omega, hlt1, vs', hn1, ha1⟩
            have hown := (((HI.out.1.keep hb1).set (b := b) (o := p * 3 + 2) (.inr rfl) (.slice (some ⟨wr.heap.size, 0, none⟩) l[p].kids.length l[p].kids.length)).keep (below_al _ (.cells #[.slice (some ⟨wr.heap.size, 0, none⟩) l[p].kids.length l[p].kids.length] 22))).1
            have hol := HI.out.1.1.lt
            have HQ1 := Lib.hid hq
            have HB1 := Lib.hid hb1
            have HOWN := Lib.hid hown
            have HOL := Lib.hid hol
            have HB2 := Lib.hid (((HB.out.trans (hb1.mono HB.out.size)).trans (((Below.refl w.heap.size w1)).setCell (p := ⟨b, p * 3 + 2, none⟩) (by dsimp only; omega) (.slice (some ⟨wr.heap.size, 0, none⟩) l[p].kids.length l[p].kids.length))).trans ((below_al _ (.cells #[.slice (some ⟨wr.heap.size, 0, none⟩) l[p].kids.length l[p].kids.length] 22)).mono (by have := hb1.size; simp; omega)))
            have HZ2 := Lib.hid ((Below.heap_alloc (w1.setCell ⟨b, p * 3 + 2, none⟩ (.slice (some ⟨wr.heap.size, 0, none⟩) l[p].kids.length l[p].kids.length)) (.cells #[.slice (some ⟨wr.heap.size, 0, none⟩) l[p].kids.length l[p].kids.length] 22) (w.heap.size + 1) (by have := hb1.size; simp; omega)).trans ((Below.heap_setCell w1 ⟨b, p * 3 + 2, none⟩ (.slice (some ⟨wr.heap.size, 0, none⟩) l[p].kids.length l[p].kids.length) (w.heap.size + 1) (by dsimp only; omega)).trans ((hb1.block _ (by omega)).trans HZ.out)))
            have hm1 : J.length + 1 ≤ maxLen := by unfold maxLen; omega
            have hm2 : (J.length + 1) * 24 ≤ 140737488355328 := by omega
            have hz1 := hb1.size
            obtain ⟨i0, hi, hi0, hi1, hi2⟩ := info_parts Try.infoS
            clear hq hown hol hb1 HB HZ cc ff hk0 hn1 ha1
            go_wp2_with (at_builtin; refine wpList_append_lies _ rfl (.tmp 47) (.tmp 53) 64 rfl (w.heap.size + 2) 22 i0 _ 1 24 Try.underlying64 hi hi0 hi1 hi2 rfl (by decide) (.slice aV J.length cV) J.length (J.map jobV) rfl HOWN.out ⟨w1.heap.size, 0, none⟩ 1 1 [.slice (some ⟨wr.heap.size, 0, none⟩) l[p].kids.length l[p].kids.length] rfl rfl (by have := World.news_of_block (World.alloc_heap_new (w1.setCell ⟨b, p * 3 + 2, none⟩ (.slice (some ⟨wr.heap.size, 0, none⟩) l[p].kids.length l[p].kids.length)) (.cells #[.slice (some ⟨wr.heap.size, 0, none⟩) l[p].kids.length l[p].kids.length] 22)); simpa using this) (by simp [Value.oneCell']) (by decide) hm1 hm2 (by simp; omega) (w1.heap.size + 1) (by simp) ?_; intro g7 cp7 w7 hown7 hgrow7 hat7 hlt7)
            have hIn := inn_push (M := gk) hpl HQ1.out HI.out.1 HI.out.2.1 HI.out.2.2.1 HI.out.2.2.2.1 HI.out.2.2.2.2.1 HI.out.2.2.2.2.2 HB1.out hown7 hgrow7 (by simpa using hat7)
            have HIN := Lib.hid hIn
            have HB7 := Lib.hid (HB2.out.grown hgrow7 HB2.out.size (fun k e => by have := (HOL.out k e).1; omega))
            have HZ7 := Lib.hid ((hgrow7.block (w.heap.size + 1) (by simp; omega) (fun e => by have := (HOL.out _ e.symm).1; omega)).trans HZ2.out)
            clear hIn hown7 hgrow7 hat7 hlt7 HI HQ1 HB1 HOWN HB2 HZ2
            go_wp2_with fail
            go_roundw
            case rel => exact ⟨p + 1, J ++ [(wr.heap.size, l[p].kids)], some ⟨g7, 0, none⟩, cp7, hpl, by go_num, by simp, by rw [List.length_append]; exact HIN.out, HB7.out, HZ7.out⟩
            case measure => simp [RowKit.intOf]; omega
        · obtain rfl : p = l.length := by omega
          have hlt : ¬ (l.length : Int) < (l.length : Int) := by omega
          have HI := Lib.hid hI
          have HB := Lib.hid hB
          have HZ := Lib.hid hZ
          clear hI hB hZ
          go_wp2_with fail
          obtain ⟨e1, e2, e3⟩ := inn_end HI.out HQ.out.2 (by unfold maxLen; omega)
          have e4 := HQ.out.1
          have e5 := HK.out
          go_roundg (muJ J)
          case measure => omega
          case rel => exact ⟨J, _, aV, cV, rfl, e1, e2, HB.out, HZ.out, Nat.le_refl _, by omega⟩
end Go.Proofs.Ytblebboamopffaa
