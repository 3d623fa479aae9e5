/- PositDecodes' block, and its maker of terms. No conditions. -/
import Derived.Test.YtggefpkfikimiaaG39
import Derived.Test.YtggefpkfikimiaaG20
namespace Go.Proofs.Ytggefpkfikimiaa
open Go.RowKit
set_option linter.unusedVariables false

def appT (a b : Tm) : Tm := .node 6 0 [a, b]
def u0T : Tm := .node 2 0 []
def var0T : Tm := .node 1 0 []
def c11T : Tm := .node 3 11 []
def c12T : Tm := .node 3 12 []
def decDom : Nat → Tm
  | 2 => appT c11T c12T
  | 3 => c11T
  | 4 => appT (appT c11T var0T) u0T
  | 5 => var0T
  | _ => appT c11T var0T
def decFirst : Nat → ArgT
  | 1 => ⟨false, u0T, [], 0, []⟩
  | _ => ⟨true, zT, [], 0, []⟩
def decWant : Nat → Int
  | 0 => 0
  | 4 => 0
  | _ => 11
def decCon : ConT := ⟨0, [], [], .node 3 900 []⟩
def decLast (h : Nat) : ConT := ⟨0, [decFirst h, ⟨true, zT, [decDom h], 0, []⟩], [], u0T⟩
def decBlk (n h : Nat) : BlkT := ⟨[⟨[], 1, true, u0T⟩], List.replicate n decCon ++ [decLast h], 0⟩
theorem dec_posit : ∀ n : Fin 5, ∀ h : Fin 6, positB (decBlk n.1 h.1) 10 = decWant h.1 := by decide +kernel
theorem dec_size : ∀ n : Fin 5, ∀ h : Fin 6, blkN (decBlk n.1 h.1) ≤ 1048576 := by decide +kernel
theorem leaf8 (k n : Int) (h1 : -100000 ≤ k) (h2 : k ≤ 100000) (h3 : -100000 ≤ n) (h4 : n ≤ 100000) : Fits (.node k n []) := .mk k n [] (by unfold I64; omega) (by unfold I64; omega) fun x hx => nomatch hx
theorem app8 {a b : Tm} (ha : Fits a) (hb : Fits b) : Fits (appT a b) := .mk 6 0 _ (by unfold I64; omega) (by unfold I64; omega) fun x hx => by
  simp only [List.mem_cons, List.not_mem_nil, or_false] at hx
  rcases hx with rfl | rfl
  · exact ha
  · exact hb
theorem dom_fits : ∀ h : Nat, Fits (decDom h)
  | 2 => app8 (leaf8 3 11 (by omega) (by omega) (by omega) (by omega)) (leaf8 3 12 (by omega) (by omega) (by omega) (by omega))
  | 3 => leaf8 3 11 (by omega) (by omega) (by omega) (by omega)
  | 4 => app8 (app8 (leaf8 3 11 (by omega) (by omega) (by omega) (by omega)) (leaf8 1 0 (by omega) (by omega) (by omega) (by omega))) (leaf8 2 0 (by omega) (by omega) (by omega) (by omega))
  | 5 => leaf8 1 0 (by omega) (by omega) (by omega) (by omega)
  | 0 => app8 (leaf8 3 11 (by omega) (by omega) (by omega) (by omega)) (leaf8 1 0 (by omega) (by omega) (by omega) (by omega))
  | 1 => app8 (leaf8 3 11 (by omega) (by omega) (by omega) (by omega)) (leaf8 1 0 (by omega) (by omega) (by omega) (by omega))
  | n + 6 => app8 (leaf8 3 11 (by omega) (by omega) (by omega) (by omega)) (leaf8 1 0 (by omega) (by omega) (by omega) (by omega))
theorem first_fits (h : Nat) : (decFirst h).fits := by
  have e : ∀ u ∈ ([] : List Tm), Fits u := fun u h => nomatch h
  have i0 : I64 0 := by unfold I64; omega
  unfold decFirst
  split
  · exact ⟨leaf8 2 0 (by omega) (by omega) (by omega) (by omega), e, i0, e⟩
  · exact ⟨zT_fits8, e, i0, e⟩
theorem dec_fits (n h : Nat) : (decBlk n h).fits := by
  have e : ∀ u ∈ ([] : List Tm), Fits u := fun u h => nomatch h
  have i0 : I64 0 := by unfold I64; omega
  have i1 : I64 1 := by unfold I64; omega
  have hu : Fits u0T := leaf8 2 0 (by omega) (by omega) (by omega) (by omega)
  refine ⟨fun s hs => ?_, fun c hc => ?_, i0⟩
  · simp only [decBlk, List.mem_singleton] at hs
    subst hs
    exact ⟨(fun a h => nomatch h), i1, hu⟩
  · rcases List.mem_append.1 hc with h1 | h1
    · have := (List.mem_replicate.1 h1).2
      subst this
      exact ⟨i0, (fun a h => nomatch h), e, leaf8 3 900 (by omega) (by omega) (by omega) (by omega)⟩
    · obtain rfl : c = decLast h := by simpa using h1
      refine ⟨i0, fun a ha => ?_, e, hu⟩
      simp only [decLast, List.mem_cons, List.not_mem_nil, or_false] at ha
      rcases ha with rfl | rfl
      · exact first_fits h
      · exact ⟨zT_fits8, (fun u hu => by obtain rfl : u = decDom h := by simpa using hu
                                         exact dom_fits h), i0, e⟩
theorem AtS.bnd {S : Nat → Prop} {w : World} {l : List Tm} {v : Value} (h : AtS S w l v) : AtS (fun b => S b ∧ b < w.heap.size) w l v := by
  induction h with
  | nl => exact .nl
  | em a cap => exact .em a cap
  | row l b off cap vs hS h1 h2 h3 h4 h5 _ ih => exact .row l b off cap vs (fun h0 => ⟨hS h0, World.block_lt_of_cell? w ⟨b, off + 0 * 3, none⟩ (h3 0 h0)⟩) h1 h2 h3 h4 h5 ih
set_option maxRecDepth 100000 in
set_option maxHeartbeats 4000000 in
theorem maker_any (S : Nat → Prop) (k : Int) (a b : Tm) (w : World) (va vb : Value) (hSw : ∀ b, S b → b < w.heap.size) (hA : AtS S w a.kids va) (hB : AtS S w b.kids vb) :
    Calls Try.prog 11 #[.int .i64 k, .agg #[.int .i64 a.k, .int .i64 a.n, va], .agg #[.int .i64 b.k, .int .i64 b.n, vb]] w fun e w' => ∃ x c, e = .returned (.agg #[.int .i64 k, .int .i64 0, .slice x 2 c]) ∧ AtS (fun b => S b ∨ (w.heap.size ≤ b ∧ b < w'.heap.size)) w' [a, b] (.slice x 2 c) ∧ Below w.heap.size w w' := by
  obtain ⟨pa, ca, rfl⟩ := hA.at.shape
  obtain ⟨pb, cb, rfl⟩ := hB.at.shape
  have hb1 := below_al w (.cells #[.int .i64 a.k, .int .i64 a.n, .slice pa a.kids.length ca] 25)
  have hn1 := World.alloc_heap_new w (.cells #[.int .i64 a.k, .int .i64 a.n, .slice pa a.kids.length ca] 25)
  obtain ⟨w1, hw1⟩ : ∃ w1, w1 = w.alloc (.cells #[.int .i64 a.k, .int .i64 a.n, .slice pa a.kids.length ca] 25) := ⟨_, rfl⟩
  have hz1 : w1.heap.size = w.heap.size + 1 := by rw [hw1]; simp
  rw [← hw1] at hb1 hn1
  have hb2 := below_al w1 (.cells #[.int .i64 b.k, .int .i64 b.n, .slice pb b.kids.length cb] 25)
  have hn2 := World.alloc_heap_new w1 (.cells #[.int .i64 b.k, .int .i64 b.n, .slice pb b.kids.length cb] 25)
  obtain ⟨w2, hw2⟩ : ∃ w2, w2 = w1.alloc (.cells #[.int .i64 b.k, .int .i64 b.n, .slice pb b.kids.length cb] 25) := ⟨_, rfl⟩
  have hz2 : w2.heap.size = w.heap.size + 2 := by rw [hw2]; simp; omega
  rw [← hw2] at hb2 hn2
  have hb3 := below_al w2 (.cells #[.int .i64 0, .int .i64 0, .slice none 0 0] 25)
  have hn3 := World.alloc_heap_new w2 (.cells #[.int .i64 0, .int .i64 0, .slice none 0 0] 25)
  obtain ⟨w3, hw3⟩ : ∃ w3, w3 = w2.alloc (.cells #[.int .i64 0, .int .i64 0, .slice none 0 0] 25) := ⟨_, rfl⟩
  have hz3 : w3.heap.size = w.heap.size + 3 := by rw [hw3]; simp; omega
  rw [← hw3] at hb3 hn3
  have X1 := (hb3.block _ (by omega)).trans ((hb2.block _ (by omega)).trans hn1)
  have X2 := (hb3.block _ (by omega)).trans hn2
  have B3 : Below w.heap.size w w3 := hb1.trans ((hb2.trans (hb3.mono hb2.size)).mono hb1.size)
  have HA3 := Lib.hid (hA.same (T := S) fun b hb => ⟨hb, B3.block b (hSw b hb)⟩)
  have HB3 := Lib.hid (hB.same (T := S) fun b hb => ⟨hb, B3.block b (hSw b hb)⟩)
  have HW3 : Hid (w3 = ((w.alloc (.cells #[.int .i64 a.k, .int .i64 a.n, .slice pa a.kids.length ca] 25)).alloc (.cells #[.int .i64 b.k, .int .i64 b.n, .slice pb b.kids.length cb] 25)).alloc (.cells #[.int .i64 0, .int .i64 0, .slice none 0 0] 25)) := by unfold Hid; rw [hw3, hw2, hw1]
  rw [hz1] at X2
  rw [hz2] at hn3
  have B3 := Lib.hid B3
  have X3 := Lib.hid hn3
  clear hb1 hn1 hw1 hb2 hn2 hw2 hb3 hw3 hz1 hz2 hA hB hn3
  obtain ⟨⟨x0, x1, x2⟩, _⟩ := boxc X1
  obtain ⟨⟨y0, y1, y2⟩, _⟩ := boxc X2
  go_enter Try.func11, Try.ntmps11
  go_upto_region 1 with (fail)
  rw [← HW3.out]
  have HZ := Lib.hid hz3
  have hb4 := below_al w3 (.cells #[.int .i64 a.k, .int .i64 a.n, .slice pa a.kids.length ca, .int .i64 b.k, .int .i64 b.n, .slice pb b.kids.length cb] 25)
  have hR := row_of2 (S := S) (World.alloc_heap_new w3 (.cells #[.int .i64 a.k, .int .i64 a.n, .slice pa a.kids.length ca, .int .i64 b.k, .int .i64 b.n, .slice pb b.kids.length cb] 25)) (HA3.out.same (T := S) fun b hb => ⟨hb, hb4.block b (by have := hSw b hb; omega)⟩) (HB3.out.same (T := S) fun b hb => ⟨hb, hb4.block b (by have := hSw b hb; omega)⟩)
  obtain ⟨w4, hw4⟩ : ∃ w4, w4 = w3.alloc (.cells #[.int .i64 a.k, .int .i64 a.n, .slice pa a.kids.length ca, .int .i64 b.k, .int .i64 b.n, .slice pb b.kids.length cb] 25) := ⟨_, rfl⟩
  rw [← hw4] at hb4 hR
  have hz4 : w4.heap.size = w3.heap.size + 1 := by rw [hw4]; simp
  have HT := Lib.hid (t_anyR S k [a, b] (by simp) (by simp) w4 _ (fun b hb => by have := hSw b hb; omega) hR)
  have HB4 := Lib.hid (B3.out.trans (hb4.mono B3.out.size))
  have X4 := Lib.hid ((hb4.block _ (by omega)).trans X3.out)
  have HZ4 := Lib.hid hz4
  have HW4 := Lib.hid hw4
  have HSW := Lib.hid hSw
  clear hb4 hR hw4 hz4 hz3 hSw
  have hsz : (w3.heap.size : Nat) = w.heap.size + 3 := HZ.out
  clear hsz
  go_wp2_with fail
  rw [← HW4.out]
  refine HT.out.mono ?_
  rintro e w5 ⟨x, c, rfl, hA5, hb5⟩
  have hbx := (hb5.block (w.heap.size + 2) (by have := HZ.out; have := HZ4.out; omega)).trans X4.out
  obtain ⟨⟨z0, z1, z2⟩, f0, f1, f2⟩ := boxc hbx
  have HA5 := Lib.hid hA5
  have HB5 := Lib.hid (HB4.out.trans (hb5.mono HB4.out.size))
  clear hA5 hb5 x0 x1 x2 y0 y1 y2 X1 X2
  go_wp2_with fail
  have hBF : Below w.heap.size w (((w5.setCell ⟨w.heap.size + 2, 0, none⟩ (.int .i64 k)).setCell ⟨w.heap.size + 2, 1, none⟩ (.int .i64 0)).setCell ⟨w.heap.size + 2, 2, none⟩ (.slice x 2 c)) := HB5.out.trans (below_tb3 (by omega) _ _ _)
  have HNE : ∀ b, (S b ∨ w4.heap.size ≤ b) → b ≠ w.heap.size + 2 := fun b hb => by
    have h1 := HZ.out
    have h2 := HZ4.out
    rcases hb with h | h
    · have := HSW.out b h; omega
    · omega
  have HFAR : ∀ b, (S b ∨ w4.heap.size ≤ b) → b < w5.heap.size → S b ∨ (w.heap.size ≤ b ∧ b < (((w5.setCell ⟨w.heap.size + 2, 0, none⟩ (.int .i64 k)).setCell ⟨w.heap.size + 2, 1, none⟩ (.int .i64 0)).setCell ⟨w.heap.size + 2, 2, none⟩ (.slice x 2 c)).heap.size) := fun b hb hlt => by
    have h1 := HZ.out
    have h2 := HZ4.out
    rcases hb with h | h
    · exact .inl h
    · exact .inr ⟨by omega, by simpa using hlt⟩
  exact bodyPost_ret (v := .agg #[.int .i64 k, .int .i64 0, .slice x 2 c]) (by simp [results, Try.f11, go_sem, z0, z1, z2]) rfl ⟨x, c, rfl, HA5.out.bnd.same (fun b hb => ⟨HFAR b hb.1 hb.2, other_tb3 (HNE b hb.1) _ _ _⟩), hBF⟩
end Go.Proofs.Ytggefpkfikimiaa
