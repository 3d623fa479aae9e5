/- Package pack's reader: leaf. -/
import Derived.Test.YthcjjfgigbgdkaaGt
import Derived.Test.YthcjjfgigbgdkaaPm
namespace Go.Proofs.Ythcjjfgigbgdkaa
open Go.RowKit Go Go.Joins
set_option linter.unusedVariables false

theorem or_bytes {a b : Int} (ha : 0 ≤ a ∧ a ≤ 255) (hb : 0 ≤ b ∧ b ≤ 255) : bits .or .i64 (a * 256) b = a * 256 + b := by
  obtain ⟨A, rfl⟩ := Int.eq_ofNat_of_zero_le ha.1
  obtain ⟨B, rfl⟩ := Int.eq_ofNat_of_zero_le hb.1
  have e : A * 256 ||| B = A * 256 + B := by have := Nat.two_pow_add_eq_or_of_lt (i := 8) (b := B) (by omega) A; rw [Nat.mul_comm A 256]; exact this.symm
  have h1 : (BitVec.ofInt 64 ((A : Int) * 256)).toNat = A * 256 := by
    rw [show ((A : Int) * 256) = ((A * 256 : Nat) : Int) from by omega, BitVec.ofInt_natCast, BitVec.toNat_ofNat]; exact Nat.mod_eq_of_lt (by omega)
  have h2 : (BitVec.ofInt 64 (B : Int)).toNat = B := by
    rw [BitVec.ofInt_natCast, BitVec.toNat_ofNat]; exact Nat.mod_eq_of_lt (by omega)
  show IntKind.i64.wrap ((BitVec.ofInt 64 ((A : Int) * 256) ||| BitVec.ofInt 64 (B : Int)).toNat : Int) = _
  rw [BitVec.toNat_or, h1, h2, e, IntWalk.i64_in _ (by omega)]
  omega

/-- What is told: nothing; or a term in new memory, and the reader behind it. -/
def GotE (rb D : Nat) (w : World) (r : Got) (e : Ending) (w' : World) : Prop :=
  KeepR rb w w' ∧ (r = none → e = .returned (.tuple #[.agg #[.int .i64 0, .int .i64 0, .slice none 0 0], .bool false])) ∧
    ∀ t r' n', r = some (t, r', n') → ∃ v, e = .returned (.tuple #[.agg #[.int .i64 t.k, .int .i64 t.n, v], .bool true]) ∧ AtS (fun b => w.heap.size ≤ b ∧ b < w'.heap.size) w' t.kids v ∧ Rdr rb D r' n' w'

set_option maxRecDepth 100000 in
set_option maxHeartbeats 1600000 in
theorem leafr_any (rb D : Nat) (l : List Int) (n : Nat) (k : Int) (hb : ByteL l) (w : World) (hD : D ≤ w.heap.size) (hrb : rb < D) (hR : Rdr rb D l n w) (hl : l.length ≤ 1099511627776) :
    Calls Try.prog 72 #[.pointer (some ⟨rb, 0, none⟩), .int .i64 k] w (GotE rb D w (leafP k l n)) := by
  have hR1 : Rdr rb D l n (w.alloc (.cells #[.int .i64 0, .int .i64 0, .slice none 0 0] 24)) := hR.same hrb fun b hb => Below.heap_alloc w _ b (by omega)
  have HT := Lib.hid (take_any rb D l n 2 (by omega) (by omega) _ hR1 hl)
  have hbx := World.alloc_heap_new w (.cells #[.int .i64 0, .int .i64 0, .slice none 0 0] 24)
  have HBX := Lib.hid hbx
  have hk0 : KeepR rb w (w.alloc (.cells #[.int .i64 0, .int .i64 0, .slice none 0 0] 24)) := KeepR.of (below_al w _)
  have HK0 := Lib.hid hk0
  clear hR hR1 hbx hk0
  by_cases hl2 : l.length < 2
  · have HP : Hid (leafP k l n = none) := by
      show _ = _
      unfold leafP
      match l, hl2 with
      | [], _ => rfl
      | [a], _ => rfl
    go_enter Try.func72, Try.ntmps72
    go_wp2_with (go_at_call 71; refine HT.out.mono ?_; rintro e w2 ⟨_, h1, _⟩; obtain ⟨rfl, rfl⟩ := h1 hl2; obtain ⟨⟨x0, x1, x2⟩, y0, y1, y2⟩ := boxc HBX.out)
    exact bodyPost_ret (v := .tuple #[.agg #[.int .i64 0, .int .i64 0, .slice none 0 0], .bool false]) (by simp [results, Try.f72, go_sem, x0, x1, x2]) rfl ⟨HK0.out, fun _ => rfl, fun t r' n' h => by rw [HP.out] at h; cases h⟩
  · obtain ⟨a, b, r2, rfl⟩ : ∃ a b r2, l = a :: b :: r2 := by
      match l, hl2 with
      | [], h => simp at h
      | [a], h => simp at h
      | a :: b :: r2, _ => exact ⟨a, b, r2, rfl⟩
    have ha := hb a (by simp)
    have hb2 := hb b (by simp)
    have hor := Lib.hid (or_bytes ha hb2)
    have hle : 2 ≤ (a :: b :: r2).length := by simp
    go_enter Try.func72, Try.ntmps72
    go_wp2_with (go_at_call 71; refine HT.out.mono ?_; rintro e w2 ⟨hk2, _, h2⟩; obtain ⟨v2, rfl, hn2, hr2⟩ := h2 hle; have HBX2 := Lib.hid ((hk2.2.2.2.2 w.heap.size (by simp) (by omega)).trans HBX.out); have HK2 := Lib.hid (HK0.out.trans hk2); have HS2 := Lib.hid hk2.1; have HR2 := Lib.hid hr2; have HN2 := Lib.hid hn2; clear hk2 h2 hn2 hr2)
    obtain ⟨av, cv, rfl, _, _, _, hcv⟩ := HN2.out
    obtain ⟨bb, oo, hbr, _, rfl, hcell⟩ := hcv (by simp)
    have g0 := hcell 0 (by simp)
    have g1 := hcell 1 (by simp)
    simp only [List.take_succ_cons, List.take_zero, List.getElem_cons_zero, List.getElem_cons_succ, Nat.add_zero] at g0 g1
    clear hcell hcv HN2 hb hl hle hl2 HT
    have HX := Lib.hid (And.intro g0 g1)
    clear g0 g1
    refine wp_region_rel_tail 12 (by kernel_rfl) (by kernel_rfl) (by kernel_rfl) ?_
    simp only [List.take_succ_cons, List.take_zero]
    simp only [List.drop_succ_cons, List.drop_zero]
    apply RelWalk.rest
    · kernel_rfl
    · intro X _ W hW hcl
      have g0 := HX.out.1
      have g1 := HX.out.2
      have k0 := fun q => gcell (hW q) g0
      have k1 := fun q => gcell (hW q) g1
      clear g0 g1
      repeat (go_big_quiet_step (fail))
      exact wpQuiet_nil rfl
    intro g w3 hg _
    have HG := Lib.hid hg
    clear hg
    simp only [Spread]
    rw [hor.out]
    have HBX3 := Lib.hid ((HG.out.block w.heap.size (by have := HS2.out; simp at this; omega)).trans HBX2.out)
    obtain ⟨⟨x0, x1, x2⟩, y0, y1, y2⟩ := boxc HBX3.out
    go_wp2_with fail
    have hw2 : w.heap.size + 1 ≤ w2.heap.size := by have := HS2.out; simpa using this
    have hks : KeepR rb w (((w3.setCell ⟨w.heap.size, 0, none⟩ (.int .i64 k)).setCell ⟨w.heap.size, 1, none⟩ (.int .i64 (a * 256 + b))).setCell ⟨w.heap.size, 2, none⟩ (.slice none 0 0)) :=
      (HK2.out.trans (KeepR.of HG.out)).trans' (below_store3 (Nat.le_refl _) _ _ _)
    refine bodyPost_ret (v := .tuple #[.agg #[.int .i64 k, .int .i64 (a * 256 + b), .slice none 0 0], .bool true]) (by simp [results, Try.f72, go_sem, x0, x1, x2]) rfl ⟨hks, fun h => (by cases h), fun t r' n' h => ?_⟩
    simp only [leafP, Option.some.injEq, Prod.mk.injEq] at h
    obtain ⟨rfl, rfl, rfl⟩ := h
    exact ⟨_, rfl, .nl, HR2.out.same hrb fun b hb => (other_store3 (by omega) _ _ _).trans (HG.out.block b (by omega))⟩
end Go.Proofs.Ythcjjfgigbgdkaa
