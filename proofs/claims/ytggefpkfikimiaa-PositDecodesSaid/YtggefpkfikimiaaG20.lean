/- The page's Shape: is a block right? No conditions but sizes. -/
import Derived.Test.YtggefpkfikimiaaG19
namespace Go.Proofs.Ytggefpkfikimiaa
open Go.RowKit
set_option linter.unusedVariables false

def sortCells (s : SortT) (va vt : Value) : Array Value := #[va, .int .i64 s.level, .bool s.dec, .int .i64 s.decT.k, .int .i64 s.decT.n, vt]
def OneS (B1 : Nat) (s : SortT) (va vt : Value) (W : World) : Prop := W.heap[B1]? = some (.cells (sortCells s va vt) 29 (0, 0)) ∧ ARow W s.idx va ∧ At W s.decT.kids vt
theorem OneS.bel {B1 : Nat} {s : SortT} {va vt : Value} {W W' : World} (h : OneS B1 s va vt W) (hb : Below W.heap.size W W') : OneS B1 s va vt W' :=
  ⟨(hb.block B1 (Array.getElem?_eq_some_iff.1 h.1).1).trans h.1, ARow.bel hb h.2.1, h.2.2.bel hb (Nat.le_refl _)⟩
theorem OneS.cells {B1 : Nat} {s : SortT} {va vt : Value} {W : World} (h : OneS B1 s va vt W) : W.cell? ⟨B1, 0, none⟩ = some va ∧ W.cell? ⟨B1, 1, none⟩ = some (.int .i64 s.level) ∧ W.cell? ⟨B1, 2, none⟩ = some (.bool s.dec) ∧ W.cell? ⟨B1, 3, none⟩ = some (.int .i64 s.decT.k) ∧ W.cell? ⟨B1, 4, none⟩ = some (.int .i64 s.decT.n) ∧ W.cell? ⟨B1, 5, none⟩ = some vt := by
  have h1 := h.1
  unfold sortCells at h1
  refine ⟨?_, ?_, ?_, ?_, ?_, ?_⟩ <;> simp [World.cell?, h1]
theorem sortsOk_drop {b : BlkT} {l : List SortT} {j : Nat} (h : j < l.length) : sortsOk b (l.drop j) (j : Int) = (sortOk b l[j] (j : Int) && sortsOk b (l.drop (j + 1)) ((j + 1 : Nat) : Int)) := by
  rw [List.drop_eq_getElem_cons h, sortsOk, show (j : Int) + 1 = ((j + 1 : Nat) : Int) by omega]
def stepOk (b : BlkT) (k : Int) (a : ArgT) (i : Int) : Bool := argOk b a i && (!a.r || (decide (a.dom.length = 0) && decide (a.sort < k)))
theorem idxOk_drop {b : BlkT} {k : Int} {l : List ArgT} {j : Nat} (h : j < l.length) : idxOk b k (l.drop j) (j : Int) = (stepOk b k l[j] (j : Int) && idxOk b k (l.drop (j + 1)) ((j + 1 : Nat) : Int)) := by
  rw [List.drop_eq_getElem_cons h, idxOk, show (j : Int) + 1 = ((j + 1 : Nat) : Int) by omega]; rfl
theorem all_dropA {α : Type} {l : List α} {j : Nat} (h : j < l.length) (f : α → Bool) : (l.drop j).all f = (f l[j] && (l.drop (j + 1)).all f) := by rw [List.drop_eq_getElem_cons h, List.all_cons]
def dtOk (s : SortT) : Bool := if s.dec then !(s.idx.any (·.r)) && openT s.decT s.idx.length else noneT s.decT
set_option maxRecDepth 100000 in
set_option maxHeartbeats 16000000 in
theorem rshape_any (b : BlkT) (hsb : blkN b ≤ 1048576) (hF : b.fits) (w : World) (vs vc : Value) (hB : BAt w b vs vc) :
    Calls Try.prog 22 #[.agg #[vs, vc, .int .i64 b.elim]] w fun e w' => e = .returned (.bool (shapeB b)) ∧ Below w.heap.size w w' := by
  obtain ⟨ps, cs, pc, cc, rfl, rfl⟩ := hB.shape
  have hls := sortsN_len b.sorts
  have hlc := consN_len b.cons
  have hbn : blkN b = sortsN b.sorts + consN b.cons + 1 := rfl
  obtain ⟨hFS, hFC, hFE⟩ := hF
  have OB := Lib.hid (oneb_start w b _ _ hB)
  have RZ1 := Lib.hid (fun W => rin7_any (b.sorts.length : Int) 1 4 W)
  have RZ2 := Lib.hid (fun W => rin7_any b.elim 0 6 W)
  have RZ3 : Hid (∀ x W, Calls Try.prog 48 #[.int .i64 x, .int .i64 0, .int .i64 6] W fun e w' => e = .returned (.bool (inZ x 0 6)) ∧ w' = W) := fun x W => rin7_any x 0 6 W
  have RA : Hid (∀ (s : SortT) (_ : s ∈ b.sorts) j (h : j < s.idx.length) W vs vc vt vd vi, BAt W b vs vc → At W s.idx[j].ty.kids vt → At W s.idx[j].dom vd → At W s.idx[j].idx vi → Calls Try.prog 49 #[.agg #[vs, vc, .int .i64 b.elim], .agg #[.bool s.idx[j].r, .int .i64 s.idx[j].ty.k, .int .i64 s.idx[j].ty.n, vt, vd, .int .i64 s.idx[j].sort, vi], .int .i64 (j : Int)] W fun e w' => e = .returned (.bool (argOk b s.idx[j] (j : Int))) ∧ Below W.heap.size W w') :=
    fun s hm j h W vs vc vt vd vi h1 h2 h3 h4 => by
      have e1 := argN_le (List.getElem_mem h)
      have e2 := sortN_le hm
      have e3 : sortN s = argsN s.idx + size s.decT + 1 := rfl
      have e4 := argsN_len s.idx
      exact rarg_any b s.idx[j] (by omega) hsb ((hFS s hm).1 _ (List.getElem_mem h)) (j : Int) (by omega) (by omega) W vs vc vt vd vi h1 h2 h3 h4
  have RC : Hid (∀ j (h : j < b.cons.length) W vs vc va vi vt, BAt W b vs vc → ARow W b.cons[j].args va → At W b.cons[j].idx vi → At W b.cons[j].dec.kids vt → Calls Try.prog 52 #[.agg #[vs, vc, .int .i64 b.elim], .agg #[.int .i64 b.cons[j].sort, va, vi, .int .i64 b.cons[j].dec.k, .int .i64 b.cons[j].dec.n, vt]] W fun e w' => e = .returned (.bool (conOk b b.cons[j])) ∧ Below W.heap.size W w') :=
    fun j h W vs vc va vi vt h1 h2 h3 h4 => by
      have e1 := conN_le (List.getElem_mem h)
      exact rcon_any b b.cons[j] (by omega) hsb (hFC _ (List.getElem_mem h)) W vs vc va vi vt h1 h2 h3 h4
  have RO : Hid (∀ (s : SortT) (_ : s ∈ b.sorts) W v, At W s.decT.kids v → Calls Try.prog 50 #[.agg #[.int .i64 s.decT.k, .int .i64 s.decT.n, v], .int .i64 (s.idx.length : Int)] W fun e w' => e = .returned (.bool (openT s.decT s.idx.length)) ∧ Below W.heap.size W w') :=
    fun s hm W v hA => by
      have e2 := sortN_le hm
      have e3 : sortN s = argsN s.idx + size s.decT + 1 := rfl
      exact ropen_any s.decT (hFS s hm).2.2 (by omega) _ W v hA
  have RN : Hid (∀ (s : SortT) W v, At W s.decT.kids v → Calls Try.prog 51 #[.agg #[.int .i64 s.decT.k, .int .i64 s.decT.n, v]] W fun e w' => e = .returned (.bool (noneT s.decT)) ∧ Below W.heap.size W w') := fun s W v hA => rnone_any s.decT W v hA
  have hsl : b.sorts.length ≤ 1048576 := by omega
  have hcl : b.cons.length ≤ 1048576 := by omega
  have HIL : Hid (∀ s ∈ b.sorts, s.idx.length ≤ 1048576) := fun s hm => by
    have e2 := sortN_le hm
    have e3 : sortN s = argsN s.idx + size s.decT + 1 := rfl
    have e4 := argsN_len s.idx
    omega
  clear hB hFS hFC hFE hls hlc hbn hsb
  have HS : Hid (shapeB b = (inZ (b.sorts.length : Int) 1 4 && decide (b.cons.length ≤ 8) && inZ b.elim 0 6 && sortsOk b b.sorts 0 && b.cons.all (conOk b))) := rfl
  cases h1 : inZ (b.sorts.length : Int) 1 4 with
  | false =>
    rw [h1] at RZ1
    have HE : Hid (shapeB b = false) := by unfold Hid; rw [HS.out, h1]; rfl
    clear h1
    go_enter Try.func22, Try.ntmps22
    go_wp2_with fail
    refine (RZ1.out _).mono ?_
    rintro e w1 ⟨rfl, rfl⟩
    go_wp2_with fail
    go_ret
    exact ⟨ret_bool HE.out.symm, OB.out.2.2⟩
  | true =>
    rw [h1] at RZ1
    by_cases h2 : b.cons.length ≤ 8
    rotate_left
    · have q2 : decide ((8 : Int) < (b.cons.length : Int)) = true := by simp; omega
      have HE : Hid (shapeB b = false) := by unfold Hid; rw [HS.out, decide_eq_false h2]; simp
      clear h1 h2
      go_enter Try.func22, Try.ntmps22
      go_wp2_with fail
      refine (RZ1.out _).mono ?_
      rintro e w1 ⟨rfl, rfl⟩
      go_wp2_with fail
      go_ret
      exact ⟨ret_bool HE.out.symm, OB.out.2.2⟩
    have q2 : decide ((8 : Int) < (b.cons.length : Int)) = false := by simp; omega
    cases h3 : inZ b.elim 0 6 with
    | false =>
      rw [h3] at RZ2
      have HE : Hid (shapeB b = false) := by unfold Hid; rw [HS.out, h3]; simp
      clear h1 h2 h3
      go_enter Try.func22, Try.ntmps22
      go_wp2_with fail
      refine (RZ1.out _).mono ?_
      rintro e w1 ⟨rfl, rfl⟩
      go_wp2_with fail
      refine (RZ2.out _).mono ?_
      rintro e w1 ⟨rfl, rfl⟩
      go_wp2_with fail
      go_ret
      exact ⟨ret_bool HE.out.symm, OB.out.2.2⟩
    | true =>
      rw [h3] at RZ2
      have HE : Hid (shapeB b = (sortsOk b b.sorts 0 && b.cons.all (conOk b))) := by unfold Hid; rw [HS.out, h1, decide_eq_true h2, h3]; rfl
      clear h1 h2 h3
      go_enter Try.func22, Try.ntmps22
      go_wp2_with fail
      refine (RZ1.out _).mono ?_
      rintro e w1 ⟨rfl, rfl⟩
      go_wp2_with fail
      refine (RZ2.out _).mono ?_
      rintro e w1 ⟨rfl, rfl⟩
      go_wp2_with fail
      clear RZ1 RZ2 q2
      go_loopw [3] (fun x wr => ∃ k : Nat, k ≤ b.sorts.length ∧ x = .int .i64 k ∧ shapeB b = (sortsOk b (b.sorts.drop k) (k : Int) && b.cons.all (conOk b)) ∧ OneB w w.heap.size b (.slice ps b.sorts.length cs) (.slice pc b.cons.length cc) wr) (fun x _ => b.sorts.length - (RowKit.intOf x).toNat)
      case atStart => exact ⟨0, Nat.zero_le _, rfl, by rw [List.drop_zero, HE.out]; rfl, OB.out⟩
      case round =>
        clear HE HS OB
        obtain ⟨k, hk, rfl, he, hOB⟩ := hrel
        obtain ⟨y0, y1, y2⟩ := hOB.cells
        by_cases hlt : k < b.sorts.length
        · obtain ⟨B, off, va, vt, hps, ga, gt, k0, k1, k2, k3, k4, k5⟩ := SRow.at hOB.2.1.1 hlt
          subst hps
          obtain ⟨pa, ca, hva⟩ := ga.shape
          obtain ⟨pt, ct, hvt⟩ := gt.shape
          rw [hva] at ga k0
          rw [hvt] at gt k5
          have hmem := List.getElem_mem hlt
          have hki : (k : Int) < (b.sorts.length : Int) := by omega
          have hk00 : (0 : Int) ≤ (k : Int) := by omega
          have hil := HIL.out _ hmem
          rw [sortsOk_drop hlt] at he
          have HMEM := Lib.hid hmem
          have hal := below_al wr (.cells (sortCells b.sorts[k] (.slice pa b.sorts[k].idx.length ca) (.slice pt b.sorts[k].decT.kids.length ct)) 29)
          have hnew := World.alloc_heap_new wr (.cells (sortCells b.sorts[k] (.slice pa b.sorts[k].idx.length ca) (.slice pt b.sorts[k].decT.kids.length ct)) 29)
          have OS1 : Hid (OneS wr.heap.size b.sorts[k] (.slice pa b.sorts[k].idx.length ca) (.slice pt b.sorts[k].decT.kids.length ct) (wr.alloc (.cells (sortCells b.sorts[k] (.slice pa b.sorts[k].idx.length ca) (.slice pt b.sorts[k].decT.kids.length ct)) 29))) := ⟨hnew, ARow.bel hal ga, gt.bel hal (Nat.le_refl _)⟩
          have OB1 := Lib.hid (hOB.bel hal)
          unfold sortCells at OS1 OB1
          obtain ⟨W0, hW0⟩ : ∃ W0, W0 = wr.alloc (.cells #[.slice pa b.sorts[k].idx.length ca, .int .i64 b.sorts[k].level, .bool b.sorts[k].dec, .int .i64 b.sorts[k].decT.k, .int .i64 b.sorts[k].decT.n, .slice pt b.sorts[k].decT.kids.length ct] 29) := ⟨_, rfl⟩
          rw [← hW0] at OS1 OB1
          have HW0 := Lib.hid hW0
          clear hal hnew hW0 ga gt hva hvt hOB hmem
          have HSO : Hid (sortOk b b.sorts[k] (k : Int) = (decide (b.sorts[k].idx.length ≤ 12) && inZ b.sorts[k].level 0 6 && idxOk b k b.sorts[k].idx 0 && dtOk b.sorts[k])) := rfl
          have HE := Lib.hid he
          clear he
          obtain ⟨s, hs⟩ : ∃ s, s = b.sorts[k] := ⟨_, rfl⟩
          rw [← hs] at HSO OS1 HW0 HMEM k0 k1 k2 k3 k4 k5 hil HE
          have HSS := Lib.hid hs
          clear hs
          go_upto_region 7 with (fail)
          rw [← HW0.out]
          clear HW0 k0 k1 k2 k3 k4 k5 y0 y1 y2
          generalize wr.heap.size = P at *
          obtain ⟨x0, x1, x2, x3, x4, x5⟩ := OS1.out.cells
          by_cases h12 : s.idx.length ≤ 12
          rotate_left
          · have q2 : decide ((12 : Int) < (s.idx.length : Int)) = true := by simp; omega
            have HF : Hid (shapeB b = false) := by unfold Hid; rw [HE.out, HSO.out, decide_eq_false h12]; rfl
            clear h12
            go_wp2_with fail
            go_ret
            exact ⟨ret_bool HF.out.symm, OB1.out.2.2⟩
          have q2 : decide ((12 : Int) < (s.idx.length : Int)) = false := by simp; omega
          have RZ4 := Lib.hid (fun W => RZ3.out s.level W)
          cases h6 : inZ s.level 0 6 with
          | false =>
            rw [h6] at RZ4
            have HF : Hid (shapeB b = false) := by unfold Hid; rw [HE.out, HSO.out, h6, Bool.and_false]; rfl
            clear h12 h6
            go_wp2_with fail
            refine (RZ4.out _).mono ?_
            rintro e w1 ⟨rfl, rfl⟩
            go_wp2_with fail
            go_ret
            exact ⟨ret_bool HF.out.symm, OB1.out.2.2⟩
          | true =>
            rw [h6] at RZ4
            have HG : Hid (shapeB b = (idxOk b k s.idx 0 && dtOk s && (sortsOk b (b.sorts.drop (k + 1)) ((k + 1 : Nat) : Int) && b.cons.all (conOk b)))) := by unfold Hid; rw [HE.out, HSO.out, decide_eq_true h12, h6]; simp [Bool.and_assoc]
            clear h12 h6 HE HSO
            go_wp2_with fail
            refine (RZ4.out _).mono ?_
            rintro e w1 ⟨rfl, rfl⟩
            go_wp2_with fail
            clear RZ4 q2 x0 x1 x2 x3 x4 x5
            go_loopw [5, 6] (fun rv x wr => ∃ i : Nat, i ≤ s.idx.length ∧ x = .int .i64 i ∧ rv = .bool ((s.idx.take i).any (·.r)) ∧ shapeB b = (idxOk b k (s.idx.drop i) (i : Int) && dtOk s && (sortsOk b (b.sorts.drop (k + 1)) ((k + 1 : Nat) : Int) && b.cons.all (conOk b))) ∧ OneB w w.heap.size b (.slice (some ⟨B, off, none⟩) b.sorts.length cs) (.slice pc b.cons.length cc) wr ∧ OneS P s (.slice pa s.idx.length ca) (.slice pt s.decT.kids.length ct) wr) (fun _ x _ => s.idx.length - (RowKit.intOf x).toNat)
            case atStart => exact ⟨0, Nat.zero_le _, rfl, rfl, by rw [List.drop_zero, HG.out]; rfl, OB1.out, OS1.out⟩
            case round =>
              clear HG OB1 OS1
              obtain ⟨i, hi, rfl, rfl, he, hOB, hOS⟩ := hrel
              obtain ⟨x0, x1, x2, x3, x4, x5⟩ := hOS.cells
              obtain ⟨y0, y1, y2⟩ := hOB.cells
              by_cases hli : i < s.idx.length
              · obtain ⟨Bb, offb, vt, vd, vi, hpa, gt, gd, gi, k0, k1, k2, k3, k4, k5, k6⟩ := ARow.at hOS.2.1 hli
                subst hpa
                obtain ⟨p1, c1, e1⟩ := gt.shape
                obtain ⟨p2, c2, e2⟩ := gd.shape
                obtain ⟨p3, c3, e3⟩ := gi.shape
                rw [e1] at gt k3
                rw [e2] at gd k4
                rw [e3] at gi k6
                have hii : (i : Int) < (s.idx.length : Int) := by omega
                have hi0 : (0 : Int) ≤ (i : Int) := by omega
                have CO := Lib.hid (fun W (hW : Below wr.heap.size wr W) => RA.out s HMEM.out i hli W _ _ _ _ _ (hOB.2.1.bel hW) (gt.bel hW (Nat.le_refl _)) (gd.bel hW (Nat.le_refl _)) (gi.bel hW (Nat.le_refl _)))
                rw [idxOk_drop hli] at he
                have HST : Hid (stepOk b k s.idx[i] (i : Int) = (argOk b s.idx[i] (i : Int) && (!s.idx[i].r || (decide (s.idx[i].dom.length = 0) && decide (s.idx[i].sort < k))))) := rfl
                have HNX := Lib.hid (anyA_take hli (·.r))
                have OB := Lib.hid hOB
                have OS := Lib.hid hOS
                have HE := Lib.hid he
                clear hOB hOS gt gd gi he e1 e2 e3 x0 x1 x2 x3 x4 x5 y0 y1 y2
                cases h5 : argOk b s.idx[i] (i : Int) with
                | false =>
                  rw [h5] at CO
                  have HF : Hid (shapeB b = false) := by unfold Hid; rw [HE.out, HST.out, h5]; rfl
                  have KK := Lib.hid (And.intro k0 (And.intro k1 (And.intro k2 (And.intro k3 (And.intro k4 (And.intro k5 k6))))))
                  clear h5 k0 k1 k2 k3 k4 k5 k6
                  obtain ⟨x0, x1, x2, x3, x4, x5⟩ := OS.out.cells
                  go_wp2_with fail
                  clear x0 x1 x2 x3 x4 x5
                  refine wp_region_rel (by kernel_rfl) (by kernel_rfl) (by kernel_rfl) ?_
                  apply RelWalk.rest
                  · kernel_rfl
                  · intro X _ W hW hcl
                    obtain ⟨x0, x1, x2, x3, x4, x5⟩ := OS.out.cells
                    obtain ⟨y0, y1, y2⟩ := OB.out.cells
                    obtain ⟨k0, k1, k2, k3, k4, k5, k6⟩ := KK.out
                    have rP0 := fun q => gcell (hW q) x0
                    have rP1 := fun q => gcell (hW q) x1
                    have rP2 := fun q => gcell (hW q) x2
                    have rP3 := fun q => gcell (hW q) x3
                    have rP4 := fun q => gcell (hW q) x4
                    have rP5 := fun q => gcell (hW q) x5
                    have rQ0 := fun q => gcell (hW q) y0
                    have rQ1 := fun q => gcell (hW q) y1
                    have rQ2 := fun q => gcell (hW q) y2
                    have rK0 := fun q => gcell (hW q) k0
                    have rK1 := fun q => gcell (hW q) k1
                    have rK2 := fun q => gcell (hW q) k2
                    have rK3 := fun q => gcell (hW q) k3
                    have rK4 := fun q => gcell (hW q) k4
                    have rK5 := fun q => gcell (hW q) k5
                    have rK6 := fun q => gcell (hW q) k6
                    clear x0 x1 x2 x3 x4 x5 y0 y1 y2
                    clear k0 k1 k2 k3 k4 k5 k6
                    have d0 := Lib.hid (fun q => into hcl (CO.out (W q) (hW q)))
                    repeat (go_big_quiet_step (first | (with_reducible exact d0.out _)))
                    exact wpQuiet_nil rfl
                  intro gq w6 hg _
                  have O6 := Lib.hid (OB.out.bel hg)
                  have S6 := Lib.hid (OS.out.bel hg)
                  have HGR := Lib.hid hg
                  clear hg
                  simp only [Spread]
                  go_wp2_with fail
                  go_ret
                  exact ⟨ret_bool HF.out.symm, O6.out.2.2⟩
                | true =>
                  rw [h5] at CO
                  cases hr : s.idx[i].r with
                  | false =>
                    rw [hr] at k0 CO
                    have HT : Hid (stepOk b k s.idx[i] (i : Int) = true) := by unfold Hid; rw [HST.out, h5, hr]; rfl
                    have HR : Hid (s.idx[i].r = false) := hr
                    have KK := Lib.hid (And.intro k0 (And.intro k1 (And.intro k2 (And.intro k3 (And.intro k4 (And.intro k5 k6))))))
                    clear h5 hr k0 k1 k2 k3 k4 k5 k6
                    obtain ⟨x0, x1, x2, x3, x4, x5⟩ := OS.out.cells
                    go_wp2_with fail
                    clear x0 x1 x2 x3 x4 x5
                    refine wp_region_rel (by kernel_rfl) (by kernel_rfl) (by kernel_rfl) ?_
                    apply RelWalk.rest
                    · kernel_rfl
                    · intro X _ W hW hcl
                      obtain ⟨x0, x1, x2, x3, x4, x5⟩ := OS.out.cells
                      obtain ⟨y0, y1, y2⟩ := OB.out.cells
                      obtain ⟨k0, k1, k2, k3, k4, k5, k6⟩ := KK.out
                      have rP0 := fun q => gcell (hW q) x0
                      have rP1 := fun q => gcell (hW q) x1
                      have rP2 := fun q => gcell (hW q) x2
                      have rP3 := fun q => gcell (hW q) x3
                      have rP4 := fun q => gcell (hW q) x4
                      have rP5 := fun q => gcell (hW q) x5
                      have rQ0 := fun q => gcell (hW q) y0
                      have rQ1 := fun q => gcell (hW q) y1
                      have rQ2 := fun q => gcell (hW q) y2
                      have rK0 := fun q => gcell (hW q) k0
                      have rK1 := fun q => gcell (hW q) k1
                      have rK2 := fun q => gcell (hW q) k2
                      have rK3 := fun q => gcell (hW q) k3
                      have rK4 := fun q => gcell (hW q) k4
                      have rK5 := fun q => gcell (hW q) k5
                      have rK6 := fun q => gcell (hW q) k6
                      clear x0 x1 x2 x3 x4 x5 y0 y1 y2
                      clear k0 k1 k2 k3 k4 k5 k6
                      have d0 := Lib.hid (fun q => into hcl (CO.out (W q) (hW q)))
                      repeat (go_big_quiet_step (first | (with_reducible exact d0.out _)))
                      exact wpQuiet_nil rfl
                    intro gq w6 hg _
                    have O6 := Lib.hid (OB.out.bel hg)
                    have S6 := Lib.hid (OS.out.bel hg)
                    have HGR := Lib.hid hg
                    clear hg
                    simp only [Spread]
                    obtain ⟨x0, x1, x2, x3, x4, x5⟩ := S6.out.cells
                    have k0 := gcell HGR.out KK.out.1
                    cases hrv : (s.idx.take i).any (·.r) with
                    | true =>
                      have HV : Hid ((s.idx.take (i + 1)).any (·.r) = true) := by unfold Hid; rw [HNX.out, hrv]; rfl
                      clear hrv
                      go_wp2_with fail
                      go_roundw
                      case rel => exact ⟨i + 1, hli, by go_num, by rw [HV.out], by rw [HE.out, HT.out, Bool.true_and], O6.out, S6.out⟩
                      case measure => simp [RowKit.intOf]; omega
                    | false =>
                      have HV : Hid ((s.idx.take (i + 1)).any (·.r) = s.idx[i].r) := by unfold Hid; rw [HNX.out, hrv]; rfl
                      clear hrv
                      go_wp2_with fail
                      go_roundw
                      case rel => exact ⟨i + 1, hli, by go_num, by rw [HV.out, HR.out], by rw [HE.out, HT.out, Bool.true_and], O6.out, S6.out⟩
                      case measure => simp [RowKit.intOf]; omega
                  | true =>
                    rw [hr] at k0 CO
                    by_cases h7 : s.idx[i].dom.length = 0
                    rotate_left
                    · have HF : Hid (shapeB b = false) := by unfold Hid; rw [HE.out, HST.out, decide_eq_false h7, hr]; simp
                      have KK := Lib.hid (And.intro k0 (And.intro k1 (And.intro k2 (And.intro k3 (And.intro k4 (And.intro k5 k6))))))
                      clear h5 hr k0 k1 k2 k3 k4 k5 k6
                      generalize s.idx[i].dom.length = dl at *
                      have q7 : decide ((0 : Int) < (dl : Int)) = true := by rw [decide_eq_true_eq]; omega
                      have q7b : (0 : Int) < (dl : Int) := by omega
                      have q7c : 0 < dl := by omega
                      clear h7
                      obtain ⟨x0, x1, x2, x3, x4, x5⟩ := OS.out.cells
                      go_wp2_with fail
                      clear x0 x1 x2 x3 x4 x5
                      refine wp_region_rel (by kernel_rfl) (by kernel_rfl) (by kernel_rfl) ?_
                      apply RelWalk.rest
                      · kernel_rfl
                      · intro X _ W hW hcl
                        obtain ⟨x0, x1, x2, x3, x4, x5⟩ := OS.out.cells
                        obtain ⟨y0, y1, y2⟩ := OB.out.cells
                        obtain ⟨k0, k1, k2, k3, k4, k5, k6⟩ := KK.out
                        have rP0 := fun q => gcell (hW q) x0
                        have rP1 := fun q => gcell (hW q) x1
                        have rP2 := fun q => gcell (hW q) x2
                        have rP3 := fun q => gcell (hW q) x3
                        have rP4 := fun q => gcell (hW q) x4
                        have rP5 := fun q => gcell (hW q) x5
                        have rQ0 := fun q => gcell (hW q) y0
                        have rQ1 := fun q => gcell (hW q) y1
                        have rQ2 := fun q => gcell (hW q) y2
                        have rK0 := fun q => gcell (hW q) k0
                        have rK1 := fun q => gcell (hW q) k1
                        have rK2 := fun q => gcell (hW q) k2
                        have rK3 := fun q => gcell (hW q) k3
                        have rK4 := fun q => gcell (hW q) k4
                        have rK5 := fun q => gcell (hW q) k5
                        have rK6 := fun q => gcell (hW q) k6
                        clear x0 x1 x2 x3 x4 x5 y0 y1 y2
                        clear k0 k1 k2 k3 k4 k5 k6
                        have d0 := Lib.hid (fun q => into hcl (CO.out (W q) (hW q)))
                        repeat (go_big_quiet_step (first | (with_reducible exact d0.out _)))
                        exact wpQuiet_nil rfl
                      intro gq w6 hg _
                      have O6 := Lib.hid (OB.out.bel hg)
                      have S6 := Lib.hid (OS.out.bel hg)
                      have HGR := Lib.hid hg
                      clear hg
                      simp only [Spread]
                      go_wp2_with fail
                      go_ret
                      exact ⟨ret_bool HF.out.symm, O6.out.2.2⟩
                    rw [h7] at k4 CO
                    by_cases h8 : s.idx[i].sort < (k : Int)
                    rotate_left
                    · have q8 : decide ((k : Int) ≤ s.idx[i].sort) = true := by rw [decide_eq_true_eq]; omega
                      have q8b : (k : Int) ≤ s.idx[i].sort := by omega
                      have HF : Hid (shapeB b = false) := by unfold Hid; rw [HE.out, HST.out, decide_eq_false h8, hr]; simp
                      have KK := Lib.hid (And.intro k0 (And.intro k1 (And.intro k2 (And.intro k3 (And.intro k4 (And.intro k5 k6))))))
                      clear h5 hr h7 h8 k0 k1 k2 k3 k4 k5 k6
                      obtain ⟨x0, x1, x2, x3, x4, x5⟩ := OS.out.cells
                      go_wp2_with fail
                      clear x0 x1 x2 x3 x4 x5
                      refine wp_region_rel (by kernel_rfl) (by kernel_rfl) (by kernel_rfl) ?_
                      apply RelWalk.rest
                      · kernel_rfl
                      · intro X _ W hW hcl
                        obtain ⟨x0, x1, x2, x3, x4, x5⟩ := OS.out.cells
                        obtain ⟨y0, y1, y2⟩ := OB.out.cells
                        obtain ⟨k0, k1, k2, k3, k4, k5, k6⟩ := KK.out
                        have rP0 := fun q => gcell (hW q) x0
                        have rP1 := fun q => gcell (hW q) x1
                        have rP2 := fun q => gcell (hW q) x2
                        have rP3 := fun q => gcell (hW q) x3
                        have rP4 := fun q => gcell (hW q) x4
                        have rP5 := fun q => gcell (hW q) x5
                        have rQ0 := fun q => gcell (hW q) y0
                        have rQ1 := fun q => gcell (hW q) y1
                        have rQ2 := fun q => gcell (hW q) y2
                        have rK0 := fun q => gcell (hW q) k0
                        have rK1 := fun q => gcell (hW q) k1
                        have rK2 := fun q => gcell (hW q) k2
                        have rK3 := fun q => gcell (hW q) k3
                        have rK4 := fun q => gcell (hW q) k4
                        have rK5 := fun q => gcell (hW q) k5
                        have rK6 := fun q => gcell (hW q) k6
                        clear x0 x1 x2 x3 x4 x5 y0 y1 y2
                        clear k0 k1 k2 k3 k4 k5 k6
                        have d0 := Lib.hid (fun q => into hcl (CO.out (W q) (hW q)))
                        repeat (go_big_quiet_step (first | (with_reducible exact d0.out _)))
                        exact wpQuiet_nil rfl
                      intro gq w6 hg _
                      have O6 := Lib.hid (OB.out.bel hg)
                      have S6 := Lib.hid (OS.out.bel hg)
                      have HGR := Lib.hid hg
                      clear hg
                      simp only [Spread]
                      go_wp2_with fail
                      go_ret
                      exact ⟨ret_bool HF.out.symm, O6.out.2.2⟩
                    have q8 : decide ((k : Int) ≤ s.idx[i].sort) = false := by rw [decide_eq_false_iff_not]; omega
                    have q8b : ¬ (k : Int) ≤ s.idx[i].sort := by omega
                    have HT : Hid (stepOk b k s.idx[i] (i : Int) = true) := by unfold Hid; rw [HST.out, h5, decide_eq_true h7, decide_eq_true h8, hr]; rfl
                    have HR : Hid (s.idx[i].r = true) := hr
                    have KK := Lib.hid (And.intro k0 (And.intro k1 (And.intro k2 (And.intro k3 (And.intro k4 (And.intro k5 k6))))))
                    clear h5 hr h7 h8 k0 k1 k2 k3 k4 k5 k6
                    obtain ⟨x0, x1, x2, x3, x4, x5⟩ := OS.out.cells
                    go_wp2_with fail
                    clear x0 x1 x2 x3 x4 x5
                    refine wp_region_rel (by kernel_rfl) (by kernel_rfl) (by kernel_rfl) ?_
                    apply RelWalk.rest
                    · kernel_rfl
                    · intro X _ W hW hcl
                      obtain ⟨x0, x1, x2, x3, x4, x5⟩ := OS.out.cells
                      obtain ⟨y0, y1, y2⟩ := OB.out.cells
                      obtain ⟨k0, k1, k2, k3, k4, k5, k6⟩ := KK.out
                      have rP0 := fun q => gcell (hW q) x0
                      have rP1 := fun q => gcell (hW q) x1
                      have rP2 := fun q => gcell (hW q) x2
                      have rP3 := fun q => gcell (hW q) x3
                      have rP4 := fun q => gcell (hW q) x4
                      have rP5 := fun q => gcell (hW q) x5
                      have rQ0 := fun q => gcell (hW q) y0
                      have rQ1 := fun q => gcell (hW q) y1
                      have rQ2 := fun q => gcell (hW q) y2
                      have rK0 := fun q => gcell (hW q) k0
                      have rK1 := fun q => gcell (hW q) k1
                      have rK2 := fun q => gcell (hW q) k2
                      have rK3 := fun q => gcell (hW q) k3
                      have rK4 := fun q => gcell (hW q) k4
                      have rK5 := fun q => gcell (hW q) k5
                      have rK6 := fun q => gcell (hW q) k6
                      clear x0 x1 x2 x3 x4 x5 y0 y1 y2
                      clear k0 k1 k2 k3 k4 k5 k6
                      have d0 := Lib.hid (fun q => into hcl (CO.out (W q) (hW q)))
                      repeat (go_big_quiet_step (first | (with_reducible exact d0.out _)))
                      exact wpQuiet_nil rfl
                    intro gq w6 hg _
                    have O6 := Lib.hid (OB.out.bel hg)
                    have S6 := Lib.hid (OS.out.bel hg)
                    have HGR := Lib.hid hg
                    clear hg
                    simp only [Spread]
                    obtain ⟨x0, x1, x2, x3, x4, x5⟩ := S6.out.cells
                    have k0 := gcell HGR.out KK.out.1
                    cases hrv : (s.idx.take i).any (·.r) with
                    | true =>
                      have HV : Hid ((s.idx.take (i + 1)).any (·.r) = true) := by unfold Hid; rw [HNX.out, hrv]; rfl
                      clear hrv
                      go_wp2_with fail
                      go_roundw
                      case rel => exact ⟨i + 1, hli, by go_num, by rw [HV.out], by rw [HE.out, HT.out, Bool.true_and], O6.out, S6.out⟩
                      case measure => simp [RowKit.intOf]; omega
                    | false =>
                      have HV : Hid ((s.idx.take (i + 1)).any (·.r) = s.idx[i].r) := by unfold Hid; rw [HNX.out, hrv]; rfl
                      clear hrv
                      go_wp2_with fail
                      go_roundw
                      case rel => exact ⟨i + 1, hli, by go_num, by rw [HV.out, HR.out], by rw [HE.out, HT.out, Bool.true_and], O6.out, S6.out⟩
                      case measure => simp [RowKit.intOf]; omega
              · obtain rfl : i = s.idx.length := by omega
                have hnl : ¬ (s.idx.length : Int) < (s.idx.length : Int) := by omega
                rw [List.drop_length, idxOk, Bool.true_and] at he
                rw [List.take_length]
                have HE := Lib.hid he
                have OB := Lib.hid hOB
                have OS := Lib.hid hOS
                have HD : Hid (dtOk s = if s.dec then !(s.idx.any (·.r)) && openT s.decT s.idx.length else noneT s.decT) := rfl
                have CO := Lib.hid (RO.out s HMEM.out wr _ hOS.2.2)
                have CN := Lib.hid (RN.out s wr _ hOS.2.2)
                clear he hOB hOS
                cases hd : s.dec with
                | true =>
                  rw [hd] at x2 HD
                  cases hR : s.idx.any (·.r) with
                  | true =>
                    have HF : Hid (shapeB b = false) := by unfold Hid; rw [HE.out, HD.out, hR]; rfl
                    clear hd hR
                    go_wp2_with fail
                    go_ret
                    exact ⟨ret_bool HF.out.symm, OB.out.2.2⟩
                  | false =>
                    cases ho : openT s.decT s.idx.length with
                    | false =>
                      rw [ho] at CO
                      have HF : Hid (shapeB b = false) := by unfold Hid; rw [HE.out, HD.out, hR, ho]; rfl
                      clear hd hR ho
                      go_wp2_with fail
                      refine CO.out.mono ?_
                      rintro e w6 ⟨rfl, hb6⟩
                      have O6 := Lib.hid (OB.out.bel hb6)
                      have x2 := gcell hb6 x2
                      clear hb6
                      go_wp2_with fail
                      go_ret
                      exact ⟨ret_bool HF.out.symm, O6.out.2.2⟩
                    | true =>
                      rw [ho] at CO
                      have HF : Hid (shapeB b = (sortsOk b (b.sorts.drop (k + 1)) ((k + 1 : Nat) : Int) && b.cons.all (conOk b))) := by unfold Hid; rw [HE.out, HD.out, hR, ho]; rfl
                      clear hd hR ho
                      go_wp2_with fail
                      refine CO.out.mono ?_
                      rintro e w6 ⟨rfl, hb6⟩
                      have O6 := Lib.hid (OB.out.bel hb6)
                      have x2 := gcell hb6 x2
                      clear hb6
                      go_wp2_with fail
                      go_roundw
                      case rel => exact ⟨k + 1, hlt, by go_num, HF.out, O6.out⟩
                      case measure => simp [RowKit.intOf]; omega
                | false =>
                  rw [hd] at x2 HD
                  cases ho : noneT s.decT with
                  | false =>
                    rw [ho] at CN
                    have HF : Hid (shapeB b = false) := by unfold Hid; rw [HE.out, HD.out, ho]; rfl
                    clear hd ho
                    go_wp2_with fail
                    refine CN.out.mono ?_
                    rintro e w6 ⟨rfl, hb6⟩
                    have O6 := Lib.hid (OB.out.bel hb6)
                    clear hb6
                    go_wp2_with fail
                    go_ret
                    exact ⟨ret_bool HF.out.symm, O6.out.2.2⟩
                  | true =>
                    rw [ho] at CN
                    have HF : Hid (shapeB b = (sortsOk b (b.sorts.drop (k + 1)) ((k + 1 : Nat) : Int) && b.cons.all (conOk b))) := by unfold Hid; rw [HE.out, HD.out, ho]; rfl
                    clear hd ho
                    go_wp2_with fail
                    refine CN.out.mono ?_
                    rintro e w6 ⟨rfl, hb6⟩
                    have O6 := Lib.hid (OB.out.bel hb6)
                    clear hb6
                    go_wp2_with fail
                    go_roundw
                    case rel => exact ⟨k + 1, hlt, by go_num, HF.out, O6.out⟩
                    case measure => simp [RowKit.intOf]; omega
        · obtain rfl : k = b.sorts.length := by omega
          have hnl : ¬ (b.sorts.length : Int) < (b.sorts.length : Int) := by omega
          rw [List.drop_length, sortsOk, Bool.true_and] at he
          have HE := Lib.hid he
          have OB := Lib.hid hOB
          clear he hOB
          go_wp2_with fail
          clear y0 y1 y2 hnl hlt hk RA RO RN HIL RZ3
          go_loopw [7] (fun x wr => ∃ j : Nat, j ≤ b.cons.length ∧ x = .int .i64 j ∧ shapeB b = (b.cons.drop j).all (conOk b) ∧ OneB w w.heap.size b (.slice ps b.sorts.length cs) (.slice pc b.cons.length cc) wr) (fun x _ => b.cons.length - (RowKit.intOf x).toNat)
          case atStart => exact ⟨0, Nat.zero_le _, rfl, by rw [List.drop_zero, HE.out], OB.out⟩
          case round =>
            clear HE OB
            obtain ⟨j, hj, rfl, he, hOB⟩ := hrel
            obtain ⟨y0, y1, y2⟩ := hOB.cells
            by_cases hlt : j < b.cons.length
            · obtain ⟨B, off, va, vi, vt, hpc, ga, gi, gt, k0, k1, k2, k3, k4, k5⟩ := CRow.at hOB.2.1.2 hlt
              subst hpc
              obtain ⟨p1, c1, e1⟩ := ga.shape
              obtain ⟨p2, c2, e2⟩ := gi.shape
              obtain ⟨p3, c3, e3⟩ := gt.shape
              rw [e1] at ga k1
              rw [e2] at gi k2
              rw [e3] at gt k5
              have hji : (j : Int) < (b.cons.length : Int) := by omega
              have hj0 : (0 : Int) ≤ (j : Int) := by omega
              have CO := Lib.hid (fun W (hW : Below wr.heap.size wr W) => RC.out j hlt W _ _ _ _ _ (hOB.2.1.bel hW) (ARow.bel hW ga) (gi.bel hW (Nat.le_refl _)) (gt.bel hW (Nat.le_refl _)))
              rw [all_dropA hlt] at he
              have OB := Lib.hid hOB
              have KK := Lib.hid (And.intro k0 (And.intro k1 (And.intro k2 (And.intro k3 (And.intro k4 k5)))))
              clear hOB ga gi gt k0 k1 k2 k3 k4 k5 e1 e2 e3
              cases h5 : conOk b b.cons[j] with
              | false =>
                rw [h5] at CO he
                have HF := Lib.hid (show shapeB b = false by rw [he]; rfl)
                clear he h5
                go_wp2_with fail
                clear y0 y1 y2
                refine wp_region_rel (by kernel_rfl) (by kernel_rfl) (by kernel_rfl) ?_
                apply RelWalk.rest
                · kernel_rfl
                · intro X _ W hW hcl
                  obtain ⟨y0, y1, y2⟩ := OB.out.cells
                  obtain ⟨k0, k1, k2, k3, k4, k5⟩ := KK.out
                  have rQ0 := fun q => gcell (hW q) y0
                  have rQ1 := fun q => gcell (hW q) y1
                  have rQ2 := fun q => gcell (hW q) y2
                  have rK0 := fun q => gcell (hW q) k0
                  have rK1 := fun q => gcell (hW q) k1
                  have rK2 := fun q => gcell (hW q) k2
                  have rK3 := fun q => gcell (hW q) k3
                  have rK4 := fun q => gcell (hW q) k4
                  have rK5 := fun q => gcell (hW q) k5
                  clear y0 y1 y2 k0 k1 k2 k3 k4 k5
                  have d0 := Lib.hid (fun q => into hcl (CO.out (W q) (hW q)))
                  repeat (go_big_quiet_step (first | (with_reducible exact d0.out _)))
                  exact wpQuiet_nil rfl
                intro gq w6 hg _
                have O6 := Lib.hid (OB.out.bel hg)
                have HGR := Lib.hid hg
                clear hg
                simp only [Spread]
                go_wp2_with fail
                go_ret
                exact ⟨ret_bool HF.out.symm, O6.out.2.2⟩
              | true =>
                rw [h5] at CO he
                have HF := Lib.hid he
                clear he h5
                go_wp2_with fail
                clear y0 y1 y2
                refine wp_region_rel (by kernel_rfl) (by kernel_rfl) (by kernel_rfl) ?_
                apply RelWalk.rest
                · kernel_rfl
                · intro X _ W hW hcl
                  obtain ⟨y0, y1, y2⟩ := OB.out.cells
                  obtain ⟨k0, k1, k2, k3, k4, k5⟩ := KK.out
                  have rQ0 := fun q => gcell (hW q) y0
                  have rQ1 := fun q => gcell (hW q) y1
                  have rQ2 := fun q => gcell (hW q) y2
                  have rK0 := fun q => gcell (hW q) k0
                  have rK1 := fun q => gcell (hW q) k1
                  have rK2 := fun q => gcell (hW q) k2
                  have rK3 := fun q => gcell (hW q) k3
                  have rK4 := fun q => gcell (hW q) k4
                  have rK5 := fun q => gcell (hW q) k5
                  clear y0 y1 y2 k0 k1 k2 k3 k4 k5
                  have d0 := Lib.hid (fun q => into hcl (CO.out (W q) (hW q)))
                  repeat (go_big_quiet_step (first | (with_reducible exact d0.out _)))
                  exact wpQuiet_nil rfl
                intro gq w6 hg _
                have O6 := Lib.hid (OB.out.bel hg)
                have HGR := Lib.hid hg
                clear hg
                simp only [Spread]
                go_wp2_with fail
                go_roundw
                case rel => exact ⟨j + 1, hlt, by go_num, by rw [HF.out, Bool.true_and], O6.out⟩
                case measure => simp [RowKit.intOf]; omega
            · obtain rfl : j = b.cons.length := by omega
              have hnl : ¬ (b.cons.length : Int) < (b.cons.length : Int) := by omega
              have HF := Lib.hid (show shapeB b = true by rw [he, List.drop_length]; rfl)
              have OB := Lib.hid hOB
              clear hOB he
              go_wp2_with fail
              go_ret
              exact ⟨ret_bool HF.out.symm, OB.out.2.2⟩
end Go.Proofs.Ytggefpkfikimiaa
