/- The page's be, of two bytes; the page's Pack. -/
import Derived.Test.YthcjjfgigbgdkaaLz
import Derived.Laws.OwnMore
namespace Go.Proofs.Ythcjjfgigbgdkaa
open Go.RowKit Go Go.Joins
set_option linter.unusedVariables false

set_option maxRecDepth 100000 in
set_option maxHeartbeats 1600000 in
theorem be_any (n : Int) (h0 : 0 ≤ n) (h1 : n ≤ 65535) (w : World) :
    Calls Try.prog 63 #[.int .i64 n, .int .i64 2] w fun e w' => ∃ v, e = .returned v ∧ RowBy w.heap.size [n / 256, n % 256] v w' ∧ Below w.heap.size w w' := by
  obtain ⟨i0, hi, hz0, hz1, hz2⟩ := info_parts Try.infoByte
  have x1 : IntKind.u8.wrap (n / 256) = n / 256 := IntWalk.u8_in _ (by omega)
  have x2 : IntKind.u8.wrap n = n % 256 := by simp [IntKind.wrap, IntKind.signed, IntKind.bits]
  go_enter Try.func63, Try.ntmps63
  go_wp2_with fail
  go_loopw [5, 6] (fun out i wr => ∃ j : Nat, j ≤ 2 ∧ i = .int .i64 (1 - j) ∧ RowBy w.heap.size ([n / 256, n % 256].take j) out wr ∧ Below w.heap.size w wr)
    (fun _ i _ => (RowKit.intOf i + 1).toNat)
  case atStart => exact ⟨0, by omega, rfl, rowBy_nil _ _, Below.refl _ _⟩
  case round =>
    obtain ⟨j, hj, rfl, hr, hb⟩ := hrel
    have HRW := Lib.hid hr
    have HB := Lib.hid hb
    clear hr hb
    have : j = 0 ∨ j = 1 ∨ j = 2 := by omega
    rcases this with rfl | rfl | rfl
    · have NB := Lib.hid (World.news_of_block (cs := #[.int .u8 (n / 256)]) (World.alloc_heap_new wr (.cells #[.int .u8 (n / 256)] 5)))
      go_wp2_with (at_builtin; refine wpList_append_own_gen rfl (.tmp 13) (.tmp 20) 47 rfl w.heap.size 5 i0 _ 1 1 Try.underlying47 hi hz0 hz1 hz2 rfl (by decide) _ 0 _ rfl (HRW.out.alloc _) 1 [Value.int .u8 (n / 256)] _ _ rfl rfl ?_ ?_ (by simp [Value.oneCell']) (by unfold maxLen; omega) (by omega) (by have := HB.out.size; simp; omega) ?_; rotate_left 2; intro v1 w1 hown1 hgrow1)
      all_goals first
        | (intro h; cases h; done)
        | (intro ad h; cases h; exact NB.out)
        | skip
      have hlt := HRW.out.lt
      go_roundw
      case rel => exact ⟨0 + 1, by omega, by go_num, by unfold RowBy; simpa using hown1, (HB.out.alloc HB.out.size _).grown hgrow1 (by have := HB.out.size; simp; omega) (fun k hk => (hlt k hk).1)⟩
      case measure => simp [RowKit.intOf]
    · have NB := Lib.hid (World.news_of_block (cs := #[.int .u8 (n % 256)]) (World.alloc_heap_new wr (.cells #[.int .u8 (n % 256)] 5)))
      go_wp2_with (at_builtin; refine wpList_append_own_gen rfl (.tmp 13) (.tmp 20) 47 rfl w.heap.size 5 i0 _ 1 1 Try.underlying47 hi hz0 hz1 hz2 rfl (by decide) _ 1 _ rfl (HRW.out.alloc _) 1 [Value.int .u8 (n % 256)] _ _ rfl rfl ?_ ?_ (by simp [Value.oneCell']) (by unfold maxLen; omega) (by omega) (by have := HB.out.size; simp; omega) ?_; rotate_left 2; intro v1 w1 hown1 hgrow1)
      all_goals first
        | (intro h; cases h; done)
        | (intro ad h; cases h; exact NB.out)
        | skip
      have hlt := HRW.out.lt
      go_roundw
      case rel => exact ⟨1 + 1, by omega, by go_num, by unfold RowBy; simpa using hown1, (HB.out.alloc HB.out.size _).grown hgrow1 (by have := HB.out.size; simp; omega) (fun k hk => (hlt k hk).1)⟩
      case measure => simp [RowKit.intOf]
    · go_wp2_with fail
      go_ret
      exact ⟨_, rfl, HRW.out, HB.out⟩
end Go.Proofs.Ythcjjfgigbgdkaa
