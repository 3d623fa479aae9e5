/- keep's Arg and Args of one row read twice. No conditions but sizes. -/
import Derived.Test.YtcegocmndfoflaaHp
import Derived.Test.YtcegocmndfoflaaKp
namespace Go.Proofs.Ytcegocmndfoflaa
open Go.RowKit
set_option linter.unusedVariables false

theorem onea_two (w : World) (a : ArgT) (vt vd vi ut ud ui : Value) (h1 : At w a.ty.kids vt) (h2 : At w a.dom vd) (h3 : At w a.idx vi) (h4 : At w a.ty.kids ut) (h5 : At w a.dom ud) (h6 : At w a.idx ui) :
    OneA w.heap.size a vt vd vi ((w.alloc (.cells (argCells a vt vd vi) 49)).alloc (.cells (argCells a ut ud ui) 49)) ∧ OneA (w.heap.size + 1) a ut ud ui ((w.alloc (.cells (argCells a vt vd vi) 49)).alloc (.cells (argCells a ut ud ui) 49)) ∧
      Below w.heap.size w ((w.alloc (.cells (argCells a vt vd vi) 49)).alloc (.cells (argCells a ut ud ui) 49)) := by
  have b1 := below_al w (.cells (argCells a vt vd vi) 49)
  have b2 := below_al (w.alloc (.cells (argCells a vt vd vi) 49)) (.cells (argCells a ut ud ui) 49)
  have b3 := b1.trans (b2.mono b1.size)
  have g1 : OneA w.heap.size a vt vd vi (w.alloc (.cells (argCells a vt vd vi) 49)) := ⟨World.alloc_heap_new w _, h1.bel b1 (Nat.le_refl _), h2.bel b1 (Nat.le_refl _), h3.bel b1 (Nat.le_refl _)⟩
  have hnew := World.alloc_heap_new (w.alloc (.cells (argCells a vt vd vi) 49)) (.cells (argCells a ut ud ui) 49)
  rw [World.size_alloc] at hnew
  exact ⟨g1.bel b2, ⟨hnew, h4.bel b3 (Nat.le_refl _), h5.bel b3 (Nat.le_refl _), h6.bel b3 (Nat.le_refl _)⟩, b3⟩
theorem keept_self (t : Tm) (hs : size t ≤ 1048576) (w : World) (va vb : Value) (hA : At w t.kids va) (hB : At w t.kids vb) :
    Calls Try.prog 49 #[.agg #[.int .i64 t.k, .int .i64 t.n, va], .agg #[.int .i64 t.k, .int .i64 t.n, vb]] w fun e w' => e = .returned (.bool true) ∧ Below w.heap.size w w' := by
  have h := term_ok t (by omega) t (by omega) w va vb hA hB
  rwa [(eqT_iff _ _).2 rfl] at h
theorem keepl_self (l : List Tm) (hs : sizeL l ≤ 1048576) (w : World) (va vb : Value) (hA : At w l va) (hB : At w l vb) :
    Calls Try.prog 60 #[va, vb] w fun e w' => e = .returned (.bool true) ∧ Below w.heap.size w w' := by
  have hl := length_le_sizeL l
  have h := terms_any l l (by omega) (by omega) (by omega) (fun u hu => term_ok u (by have := size_le_of_mem hu; omega)) w va vb hA hB
  rwa [(eqL_iff _ _).2 rfl] at h
set_option maxRecDepth 100000 in
set_option maxHeartbeats 4000000 in
theorem keeparg_self (a : ArgT) (hs : argN a ≤ 1048576) (w : World) (vt vd vi ut ud ui : Value) (h1 : At w a.ty.kids vt) (h2 : At w a.dom vd) (h3 : At w a.idx vi) (h4 : At w a.ty.kids ut) (h5 : At w a.dom ud) (h6 : At w a.idx ui) :
    Calls Try.prog 59 #[.agg #[.bool a.r, .int .i64 a.ty.k, .int .i64 a.ty.n, vt, vd, .int .i64 a.sort, vi], .agg #[.bool a.r, .int .i64 a.ty.k, .int .i64 a.ty.n, ut, ud, .int .i64 a.sort, ui]] w fun e w' => e = .returned (.bool true) ∧ Below w.heap.size w w' := by
  have hn : argN a = size a.ty + sizeL a.dom + sizeL a.idx + 1 := rfl
  have O := Lib.hid (onea_two w a vt vd vi ut ud ui h1 h2 h3 h4 h5 h6)
  unfold argCells at O
  have RT := Lib.hid (fun W hA hB => keept_self a.ty (by omega) W vt ut hA hB)
  have RD := Lib.hid (fun W hA hB => keepl_self a.dom (by omega) W vd ud hA hB)
  have RI := Lib.hid (fun W hA hB => keepl_self a.idx (by omega) W vi ui hA hB)
  have q0 : (a.r == a.r) = true := by simp
  have q1 : (a.sort == a.sort) = true := by simp
  clear hs hn h1 h2 h3 h4 h5 h6
  go_enter Try.func59, Try.ntmps59
  go_wp2_with fail
  refine (RT.out _ O.out.1.2.1 O.out.2.1.2.1).mono ?_
  rintro e w1 ⟨rfl, hb1⟩
  have A1 := Lib.hid (O.out.1.bel hb1)
  have B1 := Lib.hid (O.out.2.1.bel hb1)
  have G1 := Lib.hid (O.out.2.2.trans (hb1.mono O.out.2.2.size))
  obtain ⟨x0, x1, x2, x3, x4, x5, x6⟩ := A1.out.cells
  obtain ⟨y0, y1, y2, y3, y4, y5, y6⟩ := B1.out.cells
  clear O hb1
  go_wp2_with fail
  refine (RD.out _ A1.out.2.2.1 B1.out.2.2.1).mono ?_
  rintro e w2 ⟨rfl, hb2⟩
  have A2 := Lib.hid (A1.out.bel hb2)
  have B2 := Lib.hid (B1.out.bel hb2)
  have G2 := Lib.hid (G1.out.trans (hb2.mono G1.out.size))
  clear x0 x1 x2 x3 x4 x5 x6 y0 y1 y2 y3 y4 y5 y6
  obtain ⟨x0, x1, x2, x3, x4, x5, x6⟩ := A2.out.cells
  obtain ⟨y0, y1, y2, y3, y4, y5, y6⟩ := B2.out.cells
  clear A1 B1 G1 hb2
  go_wp2_with fail
  refine (RI.out _ A2.out.2.2.2 B2.out.2.2.2).mono ?_
  rintro e w3 ⟨rfl, hb3⟩
  have G3 := Lib.hid (G2.out.trans (hb3.mono G2.out.size))
  clear x0 x1 x2 x3 x4 x5 x6 y0 y1 y2 y3 y4 y5 y6 A2 B2 G2 hb3
  go_wp2_with fail
  go_ret
  exact ⟨rfl, G3.out⟩
set_option maxRecDepth 100000 in
set_option maxHeartbeats 4000000 in
theorem keepargs_self (l : List ArgT) (hs : argsN l ≤ 1048576) (w : World) (va vb : Value) (hA : ARow w l va) (hB : ARow w l vb) :
    Calls Try.prog 48 #[va, vb] w fun e w' => e = .returned (.bool true) ∧ Below w.heap.size w w' := by
  obtain ⟨pa, ca, rfl⟩ := hA.shape
  obtain ⟨pb, cb, rfl⟩ := hB.shape
  have hla := argsN_len l
  have q0 : ((l.length : Int) != (l.length : Int)) = false := by simp
  have HS := Lib.hid (fun j (h : j < l.length) => Nat.le_trans (argN_le (List.getElem_mem h)) hs)
  have HA := Lib.hid hA
  have HB := Lib.hid hB
  have hll : l.length ≤ 1048576 := by omega
  clear hs hla hA hB
  go_enter Try.func48, Try.ntmps48
  go_wp2_with fail
  go_loopw [5] (fun i wr => ∃ j : Nat, j ≤ l.length ∧ i = .int .i64 j ∧ Below w.heap.size w wr) (fun i _ => l.length - (RowKit.intOf i).toNat)
  case atStart => exact ⟨0, Nat.zero_le _, rfl, Below.refl _ _⟩
  case round =>
    obtain ⟨j, hj, rfl, hG⟩ := hrel
    by_cases hlt : j < l.length
    · obtain ⟨BA, oA, vt, vd, vi, rfl, g1, g2, g3, k0, k1, k2, k3, k4, k5, k6⟩ := ARow.at (ARow.bel hG HA.out) hlt
      obtain ⟨BB, oB, ut, ud, ui, rfl, f1, f2, f3, l0, l1, l2, l3, l4, l5, l6⟩ := ARow.at (ARow.bel hG HB.out) hlt
      have hji : (j : Int) < (l.length : Int) := by omega
      have hj0 : (0 : Int) ≤ (j : Int) := by omega
      have CO := Lib.hid (fun W (hW : Below wr.heap.size wr W) => keeparg_self l[j] (HS.out j hlt) W _ _ _ _ _ _ (g1.bel hW (Nat.le_refl _)) (g2.bel hW (Nat.le_refl _)) (g3.bel hW (Nat.le_refl _)) (f1.bel hW (Nat.le_refl _)) (f2.bel hW (Nat.le_refl _)) (f3.bel hW (Nat.le_refl _)))
      have KK := Lib.hid (And.intro k0 (And.intro k1 (And.intro k2 (And.intro k3 (And.intro k4 (And.intro k5 k6))))))
      have LL := Lib.hid (And.intro l0 (And.intro l1 (And.intro l2 (And.intro l3 (And.intro l4 (And.intro l5 l6))))))
      have GG := Lib.hid hG
      clear g1 g2 g3 f1 f2 f3 k0 k1 k2 k3 k4 k5 k6 l0 l1 l2 l3 l4 l5 l6 hG
      go_wp2_with fail
      refine wp_region_rel (by kernel_rfl) (by kernel_rfl) (by kernel_rfl) ?_
      apply RelWalk.rest
      · kernel_rfl
      · intro X _ W hW hcl
        obtain ⟨k0, k1, k2, k3, k4, k5, k6⟩ := KK.out
        obtain ⟨l0, l1, l2, l3, l4, l5, l6⟩ := LL.out
        have rK0 := fun q => gcell (hW q) k0
        have rK1 := fun q => gcell (hW q) k1
        have rK2 := fun q => gcell (hW q) k2
        have rK3 := fun q => gcell (hW q) k3
        have rK4 := fun q => gcell (hW q) k4
        have rK5 := fun q => gcell (hW q) k5
        have rK6 := fun q => gcell (hW q) k6
        have rL0 := fun q => gcell (hW q) l0
        have rL1 := fun q => gcell (hW q) l1
        have rL2 := fun q => gcell (hW q) l2
        have rL3 := fun q => gcell (hW q) l3
        have rL4 := fun q => gcell (hW q) l4
        have rL5 := fun q => gcell (hW q) l5
        have rL6 := fun q => gcell (hW q) l6
        clear k0 k1 k2 k3 k4 k5 k6 l0 l1 l2 l3 l4 l5 l6
        have d0 := Lib.hid (fun q => into hcl (CO.out (W q) (hW q)))
        repeat (go_big_quiet_step (first | (with_reducible exact d0.out _)))
        exact wpQuiet_nil rfl
      intro gq w6 hg _
      have G6 := Lib.hid (GG.out.trans (hg.mono GG.out.size))
      clear hg
      simp only [Spread]
      go_wp2_with fail
      go_roundw
      case rel => exact ⟨j + 1, hlt, by go_num, G6.out⟩
      case measure => simp [RowKit.intOf]; omega
    · obtain rfl : j = l.length := by omega
      have hnl : ¬ (l.length : Int) < (l.length : Int) := by omega
      have GG := Lib.hid hG
      clear hG
      go_wp2_with fail
      go_ret
      exact ⟨rfl, GG.out⟩
end Go.Proofs.Ytcegocmndfoflaa
