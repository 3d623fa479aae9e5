/- PackReads: the Go text returns true for any bytes, from any place on. -/
import Derived.Test.YthcjjfgigbgdkaaW3
import Derived.Test.YthcjjfgigbgdkaaOb
namespace Go.Proofs.Ythcjjfgigbgdkaa
open Go.RowKit Go Go.Joins
set_option linter.unusedVariables false

mutual
theorem fits_formed : ∀ t : Tm, formedB t = true → Fits t
  | .node k n l, h => by
    rw [formedB, Bool.and_eq_true, Bool.and_eq_true, decide_eq_true_eq] at h
    obtain ⟨⟨h1, h2⟩, h3⟩ := h
    have hk := kidsI_kind (k := k) (by omega)
    refine .mk _ _ _ (by unfold I64; omega) ?_ (fitsL_formed l h3)
    by_cases hl : l.length = 0
    · rw [if_pos hl] at h2; simp at h2; unfold I64; omega
    · rw [if_neg hl] at h2; simp at h2; unfold I64; omega
theorem fitsL_formed : ∀ l : List Tm, formedL l = true → ∀ u ∈ l, Fits u
  | [], _ => fun u hu => by cases hu
  | t :: l, h => fun u hu => by
    rw [formedL, Bool.and_eq_true] at h
    rcases List.mem_cons.1 hu with h0 | hu
    · rw [h0]; exact fits_formed t h.1
    · exact fitsL_formed l h.2 u hu
end
theorem check_size {t : Tm} (h : checkE t = 0) : size t ≤ 6000 := by
  unfold checkE at h
  by_cases h1 : 6000 < size t
  · rw [if_pos h1] at h; omega
  · omega
theorem check_fits {t : Tm} (h : checkE t = 0) : Fits t := fits_formed t (check_formed h)
theorem check_packlen {t : Tm} (h : checkE t = 0) : (packT t).length ≤ 18000 := by have := packT_len t; have := check_size h; omega

/-- What Get tells, in three forms. -/
theorem c_get_no (l : List Int) (a x : Int) (h : getS l a = (noT, 0, x)) (hb : ByteL l) (hl : l.length ≤ 1048576) (W : World) (v : Value) (hR : RdBy l v W) :
    Calls Try.prog 41 #[v, .int .i64 a] W fun e w' => ∃ b c, e = .returned (.tuple #[.agg #[.int .i64 0, .int .i64 0, .slice b 0 c], .int .i64 0, .int .i64 x]) ∧ At w' [] (.slice b 0 c) ∧ Below W.heap.size W w' := by
  have := get_any l a hb hl W v hR
  rw [h] at this
  refine this.mono fun e w' ⟨v', h1, h2, h3⟩ => ?_
  obtain ⟨b, c, rfl⟩ := h2.at.shape
  exact ⟨b, c, h1, h2.at, h3⟩
theorem c_get_yes (l : List Int) (a x : Int) (t : Tm) (h : getS l a = (t, x, 0)) (hb : ByteL l) (hl : l.length ≤ 1048576) (W : World) (v : Value) (hR : RdBy l v W) :
    Calls Try.prog 41 #[v, .int .i64 a] W fun e w' => ∃ b c, e = .returned (.tuple #[.agg #[.int .i64 t.k, .int .i64 t.n, .slice b t.kids.length c], .int .i64 x, .int .i64 0]) ∧ At w' t.kids (.slice b t.kids.length c) ∧ Below W.heap.size W w' := by
  have := get_any l a hb hl W v hR
  rw [h] at this
  refine this.mono fun e w' ⟨v', h1, h2, h3⟩ => ?_
  obtain ⟨b, c, rfl⟩ := h2.at.shape
  exact ⟨b, c, h1, h2.at, h3⟩
theorem getS_bad {l : List Int} {a : Int} (h : a < 0 ∨ (l.length : Int) < a) : getS l a = (noT, 0, 1) := by rw [getS, if_pos h]
theorem getS_in {l : List Int} {c : Nat} (hc : c ≤ l.length) : getS l c = match readP (l.drop c) with | none => (noT, 0, 3) | some (t, r) => (t, (l.length : Int) - r.length, 0) := by
  rw [getS, if_neg (by omega)]; rfl
/-- Bytes that are a term's: a part of the row. -/
theorem RdBy.part {l : List Int} {ao : Option Addr} {cap c n : Nat} {w : World} (h : RdBy l (.slice ao l.length cap) w) (hn : 0 < n) (hc : c + n ≤ l.length) : RdBy ((l.drop c).take n) (.slice (ao.map (·.add c)) n (cap - c)) w := by
  obtain ⟨a, cap', he, h2, h3, h4, h5⟩ := h
  cases he
  have hl : ((l.drop c).take n).length = n := by simp; omega
  refine ⟨_, cap - c, by rw [hl], by omega, by omega, fun h => ?_, fun _ => ?_⟩
  · cases ao with
    | none => have := h4 rfl; omega
    | some x => cases h
  · obtain ⟨b, off, rfl, hcell⟩ := h5 (by omega)
    refine ⟨b, off + c, by rw [Option.map_some, Addr.add_lit], fun i hi => ?_⟩
    rw [Nat.add_assoc, hcell (c + i) (by omega)]
    simp
theorem noT_facts : size noT = 1 ∧ eqT noT noT = true := by decide +kernel
theorem c_keep_no (W : World) (b : Option Addr) (c : Nat) (h : At W [] (.slice b 0 c)) :
    Calls Try.prog 24 #[.agg #[.int .i64 0, .int .i64 0, .slice b 0 c], .agg #[.int .i64 0, .int .i64 0, .slice none 0 0]] W fun e w' => e = .returned (.bool true) ∧ Below W.heap.size W w' := by
  have := c_keep noT noT (by rw [noT_facts.1]; omega) (by rw [noT_facts.1]; omega) W (.slice b 0 c) (.slice none 0 0) h .nl
  rw [noT_facts.2] at this
  exact this

set_option maxRecDepth 100000 in
set_option maxHeartbeats 2000000 in
theorem lreads_no (l : List Int) (a x : Int) (hx : (x = 1 ∧ (a < 0 ∨ (l.length : Int) < a)) ∨ (x = 3 ∧ 0 ≤ a ∧ a ≤ (l.length : Int))) (hg : getS l a = (noT, 0, x)) (hb : ByteL l) (hl : l.length ≤ 3000) (w : World) (v : Value) (hR : RdBy l v w) :
    Calls Try.prog 12 #[v, .int .i64 a] w fun e w' => e = .returned (.bool true) ∧ Below w.heap.size w w' := by
  have HG := Lib.hid (c_get_no l a x hg hb (by omega) w v hR)
  obtain ⟨ao, cap, rfl⟩ := hR.shape
  clear hR hg hb
  have e1 : decide (3000 < (l.length : Int)) = false := decide_eq_false (by omega)
  by_cases h0 : a < 0
  · obtain rfl : x = 1 := by omega
    have e2 : decide (a < 0) = true := decide_eq_true h0
    go_enter Try.func12, Try.ntmps12
    go_wp2_with fail
    refine HG.out.mono ?_
    rintro e w2 ⟨b2, c2, rfl, hA2, hb2⟩
    have O2 := Lib.hid (one_start w2 noT (.slice b2 0 c2) hA2)
    have B2 := Lib.hid hb2
    clear hA2 hb2
    obtain ⟨⟨x0, x1, x2⟩, _⟩ := O2.out
    have HK := Lib.hid (c_keep_no _ b2 c2 O2.out.2.1)
    go_wp2_with fail
    refine HK.out.mono ?_
    rintro e w3 ⟨rfl, hb3⟩
    have B3 : Hid (Below w.heap.size w w3) := B2.out.trans (((below_al w2 _).trans (Below.mono hb3 (by simp))).mono B2.out.size)
    clear hb3
    go_wp2_with fail
    refine (wakes3_any _).mono ?_
    rintro e w4 ⟨rfl, hb4⟩
    go_wp2_with fail
    go_ret
    exact ⟨rfl, B3.out.trans (hb4.mono B3.out.size)⟩
  have e2 : decide (a < 0) = false := decide_eq_false h0
  by_cases h1 : (l.length : Int) < a
  · obtain rfl : x = 1 := by omega
    have e3 : decide ((l.length : Int) < a) = true := decide_eq_true h1
    go_enter Try.func12, Try.ntmps12
    go_wp2_with fail
    refine HG.out.mono ?_
    rintro e w2 ⟨b2, c2, rfl, hA2, hb2⟩
    have O2 := Lib.hid (one_start w2 noT (.slice b2 0 c2) hA2)
    have B2 := Lib.hid hb2
    clear hA2 hb2
    obtain ⟨⟨x0, x1, x2⟩, _⟩ := O2.out
    have HK := Lib.hid (c_keep_no _ b2 c2 O2.out.2.1)
    go_wp2_with fail
    refine HK.out.mono ?_
    rintro e w3 ⟨rfl, hb3⟩
    have B3 : Hid (Below w.heap.size w w3) := B2.out.trans (((below_al w2 _).trans (Below.mono hb3 (by simp))).mono B2.out.size)
    clear hb3
    go_wp2_with fail
    refine (wakes3_any _).mono ?_
    rintro e w4 ⟨rfl, hb4⟩
    go_wp2_with fail
    go_ret
    exact ⟨rfl, B3.out.trans (hb4.mono B3.out.size)⟩
  · obtain rfl : x = 3 := by omega
    have e3 : decide ((l.length : Int) < a) = false := decide_eq_false h1
    go_enter Try.func12, Try.ntmps12
    go_wp2_with fail
    refine HG.out.mono ?_
    rintro e w2 ⟨b2, c2, rfl, hA2, hb2⟩
    have O2 := Lib.hid (one_start w2 noT (.slice b2 0 c2) hA2)
    have B2 := Lib.hid hb2
    clear hA2 hb2
    obtain ⟨⟨x0, x1, x2⟩, _⟩ := O2.out
    have HK := Lib.hid (c_keep_no _ b2 c2 O2.out.2.1)
    go_wp2_with fail
    refine HK.out.mono ?_
    rintro e w3 ⟨rfl, hb3⟩
    have B3 : Hid (Below w.heap.size w w3) := B2.out.trans (((below_al w2 _).trans (Below.mono hb3 (by simp))).mono B2.out.size)
    clear hb3
    go_wp2_with fail
    refine (wakes3_any _).mono ?_
    rintro e w4 ⟨rfl, hb4⟩
    go_wp2_with fail
    go_ret
    exact ⟨rfl, B3.out.trans (hb4.mono B3.out.size)⟩

set_option maxRecDepth 100000 in
set_option maxHeartbeats 2000000 in
theorem lreads_yes (l : List Int) (c : Nat) (hc : c ≤ l.length) (t : Tm) (r : List Int) (hr : readP (l.drop c) = some (t, r)) (hb : ByteL l) (hl : l.length ≤ 3000) (w : World) (v : Value) (hR : RdBy l v w) :
    Calls Try.prog 12 #[v, .int .i64 (c : Nat)] w fun e w' => e = .returned (.bool true) ∧ Below w.heap.size w w' := by
  obtain ⟨hs1, hs2⟩ := readP_sound (fun x hx => hb x (List.mem_of_mem_drop hx)) hr
  have hp := packT_pos t
  have hlen : l.length = c + ((packT t).length + r.length) := by
    have := congrArg List.length hs1
    rw [List.length_drop, List.length_append] at this
    omega
  obtain ⟨p, hpl⟩ : ∃ p, p = (packT t).length := ⟨_, rfl⟩
  have hg : getS l c = (t, ((c + p : Nat) : Int), 0) := by
    rw [getS_in hc, hr]
    simp only
    rw [show (l.length : Int) - (r.length : Int) = ((c + p : Nat) : Int) by omega]
  have HG := Lib.hid (c_get_yes l c _ t hg hb (by omega) w v hR)
  obtain ⟨ao, cap, rfl⟩ := hR.shape
  have hpart : (l.drop c).take p = packT t := by rw [hs1, hpl, List.take_left]
  have HR := Lib.hid hR
  have hcap : l.length ≤ cap := by obtain ⟨a, c, he, h, _⟩ := hR; cases he; exact h
  have HPT := Lib.hid (And.intro hs2 (And.intro hpart hpl))
  have e1 : decide (3000 < (l.length : Int)) = false := decide_eq_false (by omega)
  obtain ⟨n, hn⟩ : ∃ n, n = c + p := ⟨_, rfl⟩
  rw [← hn] at HG
  have n1 : (c : Int) < (n : Int) := by omega
  have n2 : (n : Int) ≤ (l.length : Int) := by omega
  have n3 : (0 : Int) ≤ (c : Int) := by omega
  have n4 : (n : Int) ≤ (cap : Int) := by omega
  have n5 : ¬ cap = c := by omega
  have n6 : n ≤ cap := by omega
  have n7 : c ≤ n := by omega
  have HN : Hid (n - c = p) := by show _ = _; omega
  have HN2 := Lib.hid hn
  clear hR hg hb hs1 hs2 hpart hlen hpl hr hn
  go_enter Try.func12, Try.ntmps12
  go_wp2_with fail
  refine HG.out.mono ?_
  rintro e w2 ⟨b2, c2, rfl, hA2, hb2⟩
  have O2 := Lib.hid (one_start w2 t _ hA2)
  have B2 := Lib.hid hb2
  have R2 := Lib.hid ((HR.out.bel hb2).bel (below_al w2 (.cells #[.int .i64 t.k, .int .i64 t.n, .slice b2 t.kids.length c2] 24)))
  clear hA2 hb2
  obtain ⟨⟨x0, x1, x2⟩, _⟩ := O2.out
  have HP := put_any [] t (check_fits HPT.out.1) (by have := check_size HPT.out.1; omega) (by simp) _ (.slice none 0 0) _ (RdBy.nil _) O2.out.2.1
  rw [HPT.out.1] at HP
  have HP2 := Lib.hid HP
  clear HP
  go_wp2_with fail
  refine HP2.out.mono ?_
  rintro e w4 ⟨v4, rfl, hr4, _, hb4⟩
  have hr40 : RdBy (packT t) v4 w4 := by have := (hr4 trivial).rd; rwa [List.nil_append] at this
  have R4 := Lib.hid hr40
  obtain ⟨a4, c4, rfl⟩ := R4.out.shape
  have R5 := Lib.hid (R2.out.bel hb4)
  have B4 : Hid (Below w.heap.size w w4) := B2.out.trans (((below_al w2 _).trans (Below.mono hb4 (by simp))).mono B2.out.size)
  clear hr4 hb4 HP2 hr40 x0 x1 x2
  go_wp2_with fail
  have hp1 : RdBy (packT t) (.slice (ao.map fun x => x.add c) (n - c) (cap - c)) w4 := by
    have h1 := R5.out.part (c := c) (n := p) (by have := HPT.out.2.2; have := packT_pos t; omega) (by have := HN2.out; omega)
    have h2 := HPT.out.2.1
    have h3 := HN.out
    rw [h2] at h1
    rw [h3]
    exact h1
  have hpl := HPT.out.2.2
  have hps := check_packlen HPT.out.1
  have HB := bytes_any (packT t) (packT t) (by omega) (by omega) w4 _ _ R4.out hp1
  rw [show decide (packT t = packT t) = true from decide_eq_true rfl] at HB
  have HB2 := Lib.hid HB
  clear HB hp1 hpl hps
  refine HB2.out.mono ?_
  rintro e w5 ⟨rfl, hb5⟩
  have B5 := Lib.hid (B4.out.trans (hb5.mono B4.out.size))
  clear hb5 HB2 B4 R4 R5
  go_wp2_with fail
  refine (wakes3_any _).mono ?_
  rintro e w6 ⟨rfl, hb6⟩
  go_wp2_with fail
  go_ret
  exact ⟨rfl, B5.out.trans (hb6.mono B5.out.size)⟩

set_option maxRecDepth 100000 in
set_option maxHeartbeats 2000000 in
theorem lreads_any (l : List Int) (a : Int) (hb : ByteL l) (w : World) (v : Value) (hR : RdBy l v w) :
    Calls Try.prog 12 #[v, .int .i64 a] w fun e w' => e = .returned (.bool true) ∧ Below w.heap.size w w' := by
  by_cases hl : 3000 < l.length
  · obtain ⟨ao, cap, rfl⟩ := hR.shape
    have e1 : decide (3000 < (l.length : Int)) = true := decide_eq_true (by omega)
    clear hR hb
    go_enter Try.func12, Try.ntmps12
    go_wp2_with fail
    go_ret
    exact ⟨rfl, Below.refl _ _⟩
  · by_cases hbad : a < 0 ∨ (l.length : Int) < a
    · exact lreads_no l a 1 (.inl ⟨rfl, hbad⟩) (getS_bad hbad) hb (by omega) w v hR
    · obtain ⟨c, rfl⟩ : ∃ c : Nat, a = c := ⟨a.toNat, by omega⟩
      have hc : c ≤ l.length := by omega
      cases hr : readP (l.drop c) with
      | none => exact lreads_no l c 3 (.inr ⟨rfl, by omega, by omega⟩) (by rw [getS_in hc, hr]) hb (by omega) w v hR
      | some y => obtain ⟨t, r⟩ := y; exact lreads_yes l c hc t r hr hb (by omega) w v hR
end Go.Proofs.Ythcjjfgigbgdkaa
