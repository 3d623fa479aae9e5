/- Terms that are made: leaves, nodes over given Kids, twins. -/
import Derived.Test.YtggefpkfikimiaaG05
import Derived.Test.YtggefpkfikimiaaG01
import Derived.Deep.AppendLies
import Derived.OneCell
import Derived.Lib.SmallJoins
import Derived.Laws.MakeOwn
import Derived.Laws.OwnMore
namespace Go.Proofs.Ytggefpkfikimiaa
set_option linter.unusedVariables false
open Go.RowKit Go.Joins

/-- The cells of a row of Kids. -/
def cells3 (l : List Tm) (vs : Nat → Value) : List Value := (List.range l.length).flatMap fun i => [.int .i64 (l[i]?.getD default).k, .int .i64 (l[i]?.getD default).n, vs i]
theorem flat3_len {n : Nat} (f : Nat → List Value) (hf : ∀ i, (f i).length = 3) : ((List.range n).flatMap f).length = n * 3 := by
  induction n with
  | zero => rfl
  | succ n ih => rw [List.range_succ, List.flatMap_append, List.length_append, ih]; simp [hf]; omega
theorem flat3_get {n : Nat} (f : Nat → List Value) (hf : ∀ i, (f i).length = 3) (i r : Nat) (hi : i < n) (hr : r < 3) : ((List.range n).flatMap f)[i * 3 + r]? = (f i)[r]? := by
  induction n with
  | zero => omega
  | succ n ih =>
    rw [List.range_succ, List.flatMap_append]
    by_cases h : i < n
    · rw [List.getElem?_append_left (by rw [flat3_len f hf]; omega), ih h]
    · obtain rfl : i = n := by omega
      rw [List.getElem?_append_right (by rw [flat3_len f hf]; omega), flat3_len f hf]
      simp
theorem cells3_len (l : List Tm) (vs : Nat → Value) : (cells3 l vs).length = l.length * 3 := flat3_len _ fun _ => rfl
theorem cells3_get (l : List Tm) (vs : Nat → Value) (i r : Nat) (hi : i < l.length) (hr : r < 3) : (cells3 l vs)[i * 3 + r]? = ([.int .i64 l[i].k, .int .i64 l[i].n, vs i] : List Value)[r]? := by
  rw [cells3, flat3_get _ (fun _ => rfl) i r hi hr]
  simp [List.getElem?_eq_getElem hi]
theorem cells3_snoc (l : List Tm) (t : Tm) (vs vs' : Nat → Value) (h : ∀ i, i < l.length → vs' i = vs i) : cells3 (l ++ [t]) vs' = cells3 l vs ++ [.int .i64 t.k, .int .i64 t.n, vs' l.length] := by
  unfold cells3
  rw [List.length_append, List.length_singleton, List.range_succ, List.flatMap_append]
  congr 1
  · rw [List.flatMap_def, List.flatMap_def]
    congr 1
    apply List.map_congr_left
    intro i hi
    have hi' : i < l.length := by simpa using hi
    rw [h i hi', List.getElem?_append_left hi']
  · simp
/-- A row of the call's own, its cells as a list of Kids has them, and what lies below them, is that list. -/
theorem at_of_row {w : World} {base : Nat} {v : Value} {l : List Tm} {vs : Nat → Value} (h : w.ownsRow base 25 3 v l.length (cells3 l vs)) (hs : ∀ i (h : i < l.length), At w l[i].kids (vs i)) : At w l v := by
  rcases h.2 with ⟨rfl, h0⟩ | ⟨g, cap, cur, rfl, hb, hg, h1, h2, h3, htake⟩
  · rw [List.eq_nil_of_length_eq_zero h0]; exact .nl
  · have key : ∀ i (hi : i < l.length) r, r < 3 → w.cell? ⟨g, i * 3 + r, none⟩ = ([.int .i64 l[i].k, .int .i64 l[i].n, vs i] : List Value)[r]? := fun i hi r hr => by
      rw [h.cellAt _ (by omega), cells3_get l vs i r hi hr]
    refine .row l g 0 cap vs h1 h2 (fun i hi => ?_) (fun i hi => ?_) (fun i hi => ?_) hs
    · have := key i hi 0 (by omega); simpa using this
    · have := key i hi 1 (by omega); simpa using this
    · have := key i hi 2 (by omega); simpa using this

theorem Try.infoT : (Try.prog.info? 25).map (fun i => (i.zero, i.size, i.bytes)) = some (some (.agg #[.int .i64 0, .int .i64 0, .slice none 0 0]), 3, 40) := by kernel_rfl

set_option maxHeartbeats 1000000 in
theorem u_any (n : Int) (w : World) :
    Calls Try.prog 8 #[.int .i64 n] w fun e w' => e = .returned (.agg #[.int .i64 2, .int .i64 n, .slice none 0 0]) ∧ Below w.heap.size w w' := by
  have hb := below_al w (.cells #[.int .i64 2, .int .i64 n, .slice none 0 0] 25)
  go_enter Try.func8, Try.ntmps8
  go_wp2
  exact bodyPost_ret (v := .agg #[.int .i64 2, .int .i64 n, .slice none 0 0]) (by simp [results, Try.f8, go_sem]) rfl ⟨rfl, hb⟩
set_option maxHeartbeats 1000000 in
theorem v_any (n : Int) (w : World) :
    Calls Try.prog 10 #[.int .i64 n] w fun e w' => e = .returned (.agg #[.int .i64 1, .int .i64 n, .slice none 0 0]) ∧ Below w.heap.size w w' := by
  have hb := below_al w (.cells #[.int .i64 1, .int .i64 n, .slice none 0 0] 25)
  go_enter Try.func10, Try.ntmps10
  go_wp2
  exact bodyPost_ret (v := .agg #[.int .i64 1, .int .i64 n, .slice none 0 0]) (by simp [results, Try.f10, go_sem]) rfl ⟨rfl, hb⟩

/-- Kids that lie in blocks of a set. -/
inductive AtS (S : Nat → Prop) (w : World) : List Tm → Value → Prop
  | nl : AtS S w [] (.slice none 0 0)
  | em (a : Addr) (cap : Nat) : AtS S w [] (.slice (some a) 0 cap)
  | row (l : List Tm) (b off cap : Nat) (vs : Nat → Value) (hS : 0 < l.length → S b) (hlen : l.length ≤ cap) (hcap : cap ≤ maxLen)
      (hk : ∀ i (h : i < l.length), w.cell? ⟨b, off + i * 3, none⟩ = some (.int .i64 l[i].k))
      (hn : ∀ i (h : i < l.length), w.cell? ⟨b, off + i * 3 + 1, none⟩ = some (.int .i64 l[i].n))
      (hv : ∀ i (h : i < l.length), w.cell? ⟨b, off + i * 3 + 2, none⟩ = some (vs i))
      (hs : ∀ i (h : i < l.length), AtS S w l[i].kids (vs i)) : AtS S w l (.slice (some ⟨b, off, none⟩) l.length cap)
theorem AtS.at {S : Nat → Prop} {w : World} {l : List Tm} {v : Value} (h : AtS S w l v) : At w l v := by
  induction h with
  | nl => exact .nl
  | em a cap => exact .em a cap
  | row l b off cap vs hS h1 h2 h3 h4 h5 _ ih => exact .row l b off cap vs h1 h2 h3 h4 h5 ih
theorem AtS.same {S T : Nat → Prop} {w w' : World} (h : ∀ b, S b → T b ∧ w'.heap[b]? = w.heap[b]?) {l : List Tm} {v : Value} (hA : AtS S w l v) : AtS T w' l v := by
  induction hA with
  | nl => exact .nl
  | em a cap => exact .em a cap
  | row l b off cap vs hS h1 h2 h3 h4 h5 _ ih =>
    have g : 0 < l.length → ∀ o, w'.cell? ⟨b, o, none⟩ = w.cell? ⟨b, o, none⟩ := fun h0 o => World.cell?_of_block (w := w) (h b (hS h0)).2
    exact .row l b off cap vs (fun h0 => (h b (hS h0)).1) h1 h2 (fun i hi => by rw [g (by omega)]; exact h3 i hi) (fun i hi => by rw [g (by omega)]; exact h4 i hi) (fun i hi => by rw [g (by omega)]; exact h5 i hi) ih
theorem At.toS {w : World} {l : List Tm} {v : Value} (h : At w l v) : AtS (fun b => b < w.heap.size) w l v := by
  induction h with
  | nl => exact .nl
  | em a cap => exact .em a cap
  | row l b off cap vs h1 h2 h3 h4 h5 _ ih => exact .row l b off cap vs (fun h0 => World.block_lt_of_cell? w ⟨b, off + 0 * 3, none⟩ (h3 0 h0)) h1 h2 h3 h4 h5 ih
theorem AtS.pos {S : Nat → Prop} {w : World} {l : List Tm} {v : Value} (hA : AtS S w l v) (hl : 0 < l.length) : ∃ (b off cap : Nat) (vs : Nat → Value), v = .slice (some ⟨b, off, none⟩) l.length cap ∧ l.length ≤ cap ∧ cap ≤ maxLen ∧ S b ∧
    (∀ i (h : i < l.length), w.cell? ⟨b, off + i * 3, none⟩ = some (.int .i64 l[i].k)) ∧ (∀ i (h : i < l.length), w.cell? ⟨b, off + i * 3 + 1, none⟩ = some (.int .i64 l[i].n)) ∧
    (∀ i (h : i < l.length), w.cell? ⟨b, off + i * 3 + 2, none⟩ = some (vs i)) ∧ (∀ i (h : i < l.length), AtS S w l[i].kids (vs i)) := by
  cases hA with
  | nl => simp at hl
  | em a cap => simp at hl
  | row l b off cap vs h0 h1 h2 h3 h4 h5 h6 => exact ⟨b, off, cap, vs, rfl, h1, h2, h0 hl, h3, h4, h5, h6⟩
theorem ats_of_row {S : Nat → Prop} {w : World} {base : Nat} {v : Value} {l : List Tm} {vs : Nat → Value} (h : w.ownsRow base 25 3 v l.length (cells3 l vs)) (hS : ∀ b, v.ownBlock = some b → S b) (hs : ∀ i (h : i < l.length), AtS S w l[i].kids (vs i)) : AtS S w l v := by
  rcases h.2 with ⟨rfl, h0⟩ | ⟨g, cap, cur, rfl, hb, hg, h1, h2, h3, htake⟩
  · rw [List.eq_nil_of_length_eq_zero h0]; exact .nl
  · have key : ∀ i (hi : i < l.length) r, r < 3 → w.cell? ⟨g, i * 3 + r, none⟩ = ([.int .i64 l[i].k, .int .i64 l[i].n, vs i] : List Value)[r]? := fun i hi r hr => by
      rw [h.cellAt _ (by omega), cells3_get l vs i r hi hr]
    refine .row l g 0 cap vs (fun _ => hS g rfl) h1 h2 (fun i hi => ?_) (fun i hi => ?_) (fun i hi => ?_) hs
    · have := key i hi 0 (by omega); simpa using this
    · have := key i hi 1 (by omega); simpa using this
    · have := key i hi 2 (by omega); simpa using this

theorem news3 {w : World} {b off : Nat} {l : List Tm} {vs : Nat → Value} (kk : ∀ i (h : i < l.length), w.cell? ⟨b, off + i * 3, none⟩ = some (.int .i64 l[i].k)) (kn : ∀ i (h : i < l.length), w.cell? ⟨b, off + i * 3 + 1, none⟩ = some (.int .i64 l[i].n)) (kv : ∀ i (h : i < l.length), w.cell? ⟨b, off + i * 3 + 2, none⟩ = some (vs i)) :
    ∀ j u, (cells3 l vs)[j]? = some u → w.cell? ((⟨b, off, none⟩ : Addr).add j) = some u := fun j u hu => by
  have hj : j < (cells3 l vs).length := (List.getElem?_eq_some_iff.1 hu).1
  rw [cells3_len] at hj
  have hadd : (⟨b, off, none⟩ : Addr).add j = ⟨b, off + j, none⟩ := by unfold Addr.add; split <;> simp_all
  have hi : j / 3 < l.length := by omega
  have hr : j % 3 < 3 := by omega
  have hjj : j / 3 * 3 + j % 3 = j := by omega
  have hg := cells3_get l vs (j / 3) (j % 3) hi hr
  rw [hjj, hu] at hg
  rw [hadd]
  have h1 := kk _ hi
  have h2 := kn _ hi
  have h3 := kv _ hi
  have : j % 3 = 0 ∨ j % 3 = 1 ∨ j % 3 = 2 := by omega
  rcases this with h | h | h
  · rw [h] at hg; rw [show off + j = off + j / 3 * 3 by omega, h1]; simpa using hg.symm
  · rw [h] at hg; rw [show off + j = off + j / 3 * 3 + 1 by omega, h2]; simpa using hg.symm
  · rw [h] at hg; rw [show off + j = off + j / 3 * 3 + 2 by omega, h3]; simpa using hg.symm
theorem one3 {l : List Tm} {vs : Nat → Value} (h : ∀ i, i < l.length → ∃ a n c, vs i = .slice a n c) : ∀ u ∈ cells3 l vs, u.oneCell' = true := fun u hu => by
  unfold cells3 at hu
  obtain ⟨i, hi, hm⟩ := List.mem_flatMap.1 hu
  obtain ⟨a, n, c, he⟩ := h i (by simpa using hi)
  rw [he] at hm
  simp at hm
  rcases hm with rfl | rfl | rfl <;> simp [Value.oneCell']

/-- A term that was made: its Kids lie in the world, in blocks of S or in new ones, and nothing that lay has turned. -/
def MadeS (S : Nat → Prop) (w : World) (k n : Int) (l : List Tm) (e : Ending) (w' : World) : Prop := ∃ a cap, e = .returned (.agg #[.int .i64 k, .int .i64 n, .slice a l.length cap]) ∧ AtS (fun b => S b ∨ w.heap.size ≤ b) w' l (.slice a l.length cap) ∧ Below w.heap.size w w'
def Made (w : World) (k n : Int) (l : List Tm) (e : Ending) (w' : World) : Prop := ∃ a cap, e = .returned (.agg #[.int .i64 k, .int .i64 n, .slice a l.length cap]) ∧ At w' l (.slice a l.length cap) ∧ Below w.heap.size w w'

/-- A row of Kids, in whatever block, whose own Kids lie in blocks of a set. -/
def RowS (S : Nat → Prop) (w : World) (l : List Tm) (v : Value) : Prop := ∃ (b off cap : Nat) (vs : Nat → Value), v = .slice (some ⟨b, off, none⟩) l.length cap ∧ l.length ≤ cap ∧ cap ≤ maxLen ∧
    (∀ i (h : i < l.length), w.cell? ⟨b, off + i * 3, none⟩ = some (.int .i64 l[i].k)) ∧ (∀ i (h : i < l.length), w.cell? ⟨b, off + i * 3 + 1, none⟩ = some (.int .i64 l[i].n)) ∧
    (∀ i (h : i < l.length), w.cell? ⟨b, off + i * 3 + 2, none⟩ = some (vs i)) ∧ (∀ i (h : i < l.length), AtS S w l[i].kids (vs i))
set_option maxRecDepth 100000 in
set_option maxHeartbeats 1000000 in
theorem t_anyR (S : Nat → Prop) (k : Int) (l : List Tm) (hl : 0 < l.length) (hl2 : l.length ≤ 1000) (w : World) (v : Value) (hSw : ∀ b, S b → b < w.heap.size) (hA : RowS S w l v) :
    Calls Try.prog 24 #[.int .i64 k, v] w (MadeS S w k 0 l) := by
  obtain ⟨b, off, cap, vs, rfl, h1, h2, kk, kn, kv, ks⟩ := hA
  have hb0 := below_al w (.cells #[.int .i64 0, .int .i64 0, .slice none 0 0] 25)
  have up : ∀ {a : Addr} {x : Value}, w.cell? a = some x → (w.alloc (.cells #[.int .i64 0, .int .i64 0, .slice none 0 0] 25)).cell? a = some x := fun {a x} hx => by rw [hb0.cell (World.block_lt_of_cell? w _ hx)]; exact hx
  have HN := Lib.hid (news3 (fun i hi => up (kk i hi)) (fun i hi => up (kn i hi)) (fun i hi => up (kv i hi)))
  have H1 := Lib.hid (one3 (l := l) (vs := vs) fun i hi => by obtain ⟨a, c, he⟩ := (ks i hi).at.shape; exact ⟨_, _, _, he⟩)
  have HL := Lib.hid (cells3_len l vs)
  have hbx := World.alloc_heap_new w (.cells #[.int .i64 0, .int .i64 0, .slice none 0 0] 25)
  have HBX := Lib.hid hbx
  have HB0 := Lib.hid hb0
  have HA := Lib.hid ks
  have hm1 : 0 + l.length ≤ maxLen := by unfold maxLen; omega
  have hm2 : (0 + l.length) * 40 ≤ 140737488355328 := by omega
  obtain ⟨i0, hi, hz0, hz1, hz2⟩ := info_parts Try.infoT
  have HSW := Lib.hid hSw
  clear kk kn kv ks hb0 hbx hSw
  go_enter Try.func24, Try.ntmps24
  go_wp2_with (at_builtin; refine wpList_append_lies _ rfl (.tmp 7) (.tmp 8) 23 rfl (w.heap.size + 1) 25 i0 _ 3 40 Try.underlying23 hi hz0 hz1 hz2 rfl (by decide) (.slice none 0 0) 0 [] rfl (World.ownsRow_nil _ _ _ _) ⟨b, off, none⟩ l.length cap (cells3 l vs) rfl HL.out HN.out H1.out hl hm1 hm2 (by simp) (w.heap.size + 1) (by simp) ?_; intro g cp w1 hown hgrow hat hlt; have hbz := (hgrow.block w.heap.size (by simp) (by simp [Value.ownBlock])).trans HBX.out; obtain ⟨z0, z1, z2⟩ : w1.cell? ⟨w.heap.size, 0, none⟩ = some (.int .i64 0) ∧ w1.cell? ⟨w.heap.size, 1, none⟩ = some (.int .i64 0) ∧ w1.cell? ⟨w.heap.size, 2, none⟩ = some (.slice none 0 0) := (by refine ⟨?_, ?_, ?_⟩ <;> simp [World.cell?, hbz]); obtain ⟨y0, y1, y2⟩ : w1.frozen? ⟨w.heap.size, 0, none⟩ = false ∧ w1.frozen? ⟨w.heap.size, 1, none⟩ = false ∧ w1.frozen? ⟨w.heap.size, 2, none⟩ = false := (by refine ⟨?_, ?_, ?_⟩ <;> simp [World.frozen?, hbz]); clear hbz)
  simp only [Nat.zero_add, List.nil_append] at hown
  have hgw : w.heap.size + 1 ≤ g := (hown.lt g rfl).1
  have hBF : Below w.heap.size w (((w1.setCell ⟨w.heap.size, 0, none⟩ (.int .i64 k)).setCell ⟨w.heap.size, 1, none⟩ (.int .i64 0)).setCell ⟨w.heap.size, 2, none⟩ (.slice (some ⟨g, 0, none⟩) l.length cp)) :=
    (((HB0.out.grown hgrow (by simp) (fun k e => by simp [Value.ownBlock] at e)).setCell (Nat.le_refl _) _).setCell (Nat.le_refl _) _).setCell (Nat.le_refl _) _
  have hne : (Value.slice (some ⟨g, 0, none⟩) l.length cp).ownBlock ≠ some w.heap.size := by simp [Value.ownBlock]; omega
  have hrow := ownsRow_setCell_other (ownsRow_setCell_other (ownsRow_setCell_other hown (a := ⟨w.heap.size, 0, none⟩) hne (.int .i64 k)) (a := ⟨w.heap.size, 1, none⟩) hne (.int .i64 0)) (a := ⟨w.heap.size, 2, none⟩) hne (.slice (some ⟨g, 0, none⟩) l.length cp)
  exact bodyPost_ret (v := .agg #[.int .i64 k, .int .i64 0, .slice (some ⟨g, 0, none⟩) l.length cp]) (by simp [results, Try.f24, go_sem, z0, z1, z2]) rfl
    ⟨_, _, rfl, ats_of_row hrow (fun b hb => Or.inr (by have hgb : some g = some b := hb; cases hgb; exact Nat.le_of_succ_le hgw)) (fun i hi => (HA.out i hi).same fun b hb => ⟨.inl hb, hBF.block b (HSW.out b hb)⟩), hBF⟩

theorem t_anyS (S : Nat → Prop) (k : Int) (l : List Tm) (hl : 0 < l.length) (hl2 : l.length ≤ 1000) (w : World) (v : Value) (hSw : ∀ b, S b → b < w.heap.size) (hA : AtS S w l v) :
    Calls Try.prog 24 #[.int .i64 k, v] w (MadeS S w k 0 l) := by
  obtain ⟨b, off, cap, vs, h0, h1, h2, _, h3⟩ := hA.pos hl
  exact t_anyR S k l hl hl2 w v hSw ⟨b, off, cap, vs, h0, h1, h2, h3⟩
theorem t_any (k : Int) (l : List Tm) (hl : 0 < l.length) (hl2 : l.length ≤ 1000) (w : World) (v : Value) (hA : At w l v) :
    Calls Try.prog 24 #[.int .i64 k, v] w (Made w k 0 l) :=
  (t_anyS _ k l hl hl2 w v (fun _ h => h) hA.toS).mono fun _ _ ⟨a, c, h1, h2, h3⟩ => ⟨a, c, h1, h2.at, h3⟩

def TwinPost (w : World) (t : Tm) (e : Ending) (w' : World) : Prop := ∃ a cap, e = .returned (.agg #[.int .i64 t.k, .int .i64 t.n, .slice a t.kids.length cap]) ∧ AtS (fun b => w.heap.size ≤ b ∧ b < w'.heap.size) w' t.kids (.slice a t.kids.length cap) ∧
  (∃ vs, w'.ownsRow w.heap.size 25 3 (.slice a t.kids.length cap) t.kids.length (cells3 t.kids vs) ∧ ∀ i (_ : i < t.kids.length), AtS (fun b => w.heap.size ≤ b ∧ b < w'.heap.size ∧ some b ≠ (Value.slice a t.kids.length cap).ownBlock) w' t.kids[i].kids (vs i)) ∧ Below w.heap.size w w'
def TwinsPost (w : World) (l : List Tm) (e : Ending) (w' : World) : Prop := ∃ a cap, e = .returned (.slice a l.length cap) ∧ AtS (fun b => w.heap.size ≤ b ∧ b < w'.heap.size) w' l (.slice a l.length cap) ∧
  (∃ vs, w'.ownsRow w.heap.size 25 3 (.slice a l.length cap) l.length (cells3 l vs) ∧ ∀ i (_ : i < l.length), AtS (fun b => w.heap.size ≤ b ∧ b < w'.heap.size ∧ some b ≠ (Value.slice a l.length cap).ownBlock) w' l[i].kids (vs i)) ∧ Below w.heap.size w w'
def TwinOk (t : Tm) : Prop := ∀ (w : World) (v : Value), At w t.kids v → Calls Try.prog 38 #[.agg #[.int .i64 t.k, .int .i64 t.n, v]] w (TwinPost w t)
def TwInv (w : World) (l : List Tm) (v i : Value) (wr : World) : Prop := ∃ (j : Nat) (vs : Nat → Value), j ≤ l.length ∧ i = .int .i64 j ∧ wr.ownsRow w.heap.size 25 3 v j (cells3 (l.take j) vs) ∧
  (∀ i (_ : i < j) (h : i < l.length), AtS (fun b => w.heap.size ≤ b ∧ b < wr.heap.size ∧ some b ≠ v.ownBlock) wr l[i].kids (vs i)) ∧ Below w.heap.size w wr

set_option maxRecDepth 100000 in
set_option maxHeartbeats 2000000 in
theorem twins_any (l : List Tm) (hl : l.length < 2147483648) (ok : ∀ u ∈ l, TwinOk u) (w : World) (v : Value) (hA : At w l v) :
    Calls Try.prog 60 #[v] w (TwinsPost w l) := by
  obtain ⟨a, cap, rfl⟩ := hA.shape
  go_enter Try.func60, Try.ntmps60
  go_wp2_with fail
  go_loopw [3, 4] (fun v i wr => TwInv w l v i wr) (fun _ i _ => l.length - (RowKit.intOf i).toNat)
  case atStart => exact ⟨0, fun _ => .slice none 0 0, Nat.zero_le _, rfl, World.ownsRow_nil _ _ _ _, fun i h => absurd h (Nat.not_lt_zero _), Below.refl _ _⟩
  case round =>
    obtain ⟨j, vs, hj, rfl, hown, hats, hbw⟩ := hrel
    by_cases hlt : j < l.length
    · obtain ⟨b, off, cap', vs0, he, h1, h2, kk, kn, kv, ks⟩ := (hA.bel hbw (Nat.le_refl _)).pos (by omega)
      have gk := kk j hlt
      have gn := kn j hlt
      have gv := kv j hlt
      have HI := Lib.hid (ok l[j] (List.getElem_mem hlt) wr (vs0 j) (ks j hlt))
      have HO := Lib.hid hown
      have HT := Lib.hid hats
      have hm1 : j + 1 ≤ maxLen := by unfold maxLen; omega
      have hm2 : (j + 1) * 40 ≤ 140737488355328 := by omega
      obtain ⟨i0, hi, hz0, hz1, hz2⟩ := info_parts Try.infoT
      clear kk kn kv ks ok hown hats
      cases he
      go_wp2_with (first | (go_at_call 38; refine HI.out.mono ?_; rintro e w1 ⟨a1, cap1, rfl, hs1, _, hb1⟩; have HR1 := Lib.hid (show w1.ownsRow w.heap.size 25 3 u3 j (cells3 (l.take j) vs) from HO.out.kept (row := none) ⟨hb1.os, hb1.tape, hb1.output, hb1.size, fun k hk _ => hb1.block k hk⟩ (by cases u3.ownBlock <;> simp)); have hbs1 := hb1.size; have hbs0 := hbw.size) | (at_builtin; refine wpList_append_lies _ rfl (.tmp 11) (.tmp 17) 23 rfl w.heap.size 25 i0 _ 3 40 Try.underlying23 hi hz0 hz1 hz2 rfl (by decide) u3 j _ rfl (HR1.out.alloc _) ⟨w1.heap.size, 0, none⟩ 1 1 [.int .i64 l[j].k, .int .i64 l[j].n, .slice a1 l[j].kids.length cap1] rfl rfl (World.news_of_block (cs := #[.int .i64 l[j].k, .int .i64 l[j].n, .slice a1 l[j].kids.length cap1]) (World.alloc_heap_new w1 _)) (by simp [Value.oneCell']) (by decide) hm1 hm2 (by simp; omega) (w1.heap.size + 1) (by simp) ?_; intro g cp w3 hown3 hgrow3 hat3 hlt3))
      have hH : w1.heap.size < w3.heap.size := by have := hgrow3.size; simp at this; omega
      have blk : ∀ b, b < w1.heap.size → some b ≠ u3.ownBlock → w3.heap[b]? = w1.heap[b]? := fun b hb hne => (hgrow3.block b (by simp; omega) hne).trans (Below.heap_alloc w1 _ b hb)
      have hgne : ∀ b, b < w1.heap.size → some b ≠ u3.ownBlock → some b ≠ some g := fun b hb hne e => by
        rcases hat3 with h | h
        · exact hne (by rw [h]; exact e)
        · cases e; omega
      have hol := HO.out.lt
      go_roundw
      case rel =>
        refine ⟨j + 1, fun i => if i < j then vs i else .slice a1 l[j].kids.length cap1, by omega, by go_num, ?_, fun i hi hil => ?_, ?_⟩
        · rw [List.take_succ_eq_append_getElem hlt, cells3_snoc (l.take j) l[j] vs _ (fun i hi => by rw [if_pos (by simpa using (Nat.lt_of_lt_of_le hi (List.length_take_le j l)))]), take_len hlt, if_neg (by omega)]
          exact hown3
        · by_cases hij : i < j
          · simp only [if_pos hij]
            exact (HT.out i hij hil).same fun b hb => ⟨⟨hb.1, by omega, hgne b (by omega) hb.2.2⟩, (blk b (by omega) hb.2.2).trans (hb1.block b hb.2.1)⟩
          · obtain rfl : i = j := by omega
            simp only [if_neg hij]
            have nw : ∀ b, wr.heap.size ≤ b → some b ≠ u3.ownBlock := fun b hb e => by have := (hol b e.symm).2; omega
            exact hs1.same fun b hb => ⟨⟨by omega, by omega, hgne b hb.2 (nw b hb.1)⟩, blk b hb.2 (nw b hb.1)⟩
        · exact (hbw.trans (hb1.mono hbw.size)).trans (((Below.refl w.heap.size w1).alloc (by omega) _).grown hgrow3 (by simp; omega) (fun k hk => (hol k hk).1))
      case measure => simp [RowKit.intOf]; omega
    · obtain rfl : j = l.length := by omega
      have hlt : decide ((l.length : Int) < (l.length : Int)) = false := by simp
      have HO := Lib.hid hown
      have HT := Lib.hid hats
      clear ok hown hats
      obtain ⟨av, cv, rfl⟩ : ∃ a c, u3 = .slice a l.length c := by
        rcases ownsRow_forms HO.out with ⟨h, h0⟩ | ⟨_, _, h⟩
        · exact ⟨none, 0, by rw [h, h0]⟩
        · exact ⟨_, _, h⟩
      go_wp2_with fail
      go_ret
      have ho := HO.out
      rw [List.take_length] at ho
      exact ⟨av, cv, rfl, ats_of_row ho (fun b hb => ho.lt b hb) (fun i hi => (HT.out i hi hi).same fun b hb => ⟨⟨hb.1, hb.2.1⟩, rfl⟩), ⟨vs, ho, fun i hi => HT.out i hi hi⟩, hbw⟩
theorem AtS.lt {S : Nat → Prop} {w : World} {l : List Tm} {v : Value} (h : AtS S w l v) : AtS (fun b => S b ∧ b < w.heap.size) w l v := by
  induction h with
  | nl => exact .nl
  | em a cap => exact .em a cap
  | row l b off cap vs h0 h1 h2 h3 h4 h5 _ ih => exact .row l b off cap vs (fun hl => ⟨h0 hl, World.block_lt_of_cell? w ⟨b, off + 0 * 3, none⟩ (h3 0 hl)⟩) h1 h2 h3 h4 h5 ih
theorem AtS.mono {S T : Nat → Prop} {w : World} {l : List Tm} {v : Value} (h : AtS S w l v) (hST : ∀ b, S b → T b) : AtS T w l v := h.same fun b hb => ⟨hST b hb, rfl⟩
theorem ats_cells1 {S : Nat → Prop} {w : World} {t : Tm} {v : Value} (hA : AtS S w t.kids v) (hS : ∀ b, S b → b < w.heap.size) : AtS (fun b => S b ∨ b = w.heap.size) (w.alloc (.cells #[.int .i64 t.k, .int .i64 t.n, v] 25)) [t] (.slice (some ⟨w.heap.size, 0, none⟩) 1 1) := by
  have hn := World.alloc_heap_new w (.cells #[.int .i64 t.k, .int .i64 t.n, v] 25)
  have hA' : AtS (fun b => S b ∨ b = w.heap.size) (w.alloc (.cells #[.int .i64 t.k, .int .i64 t.n, v] 25)) t.kids v := hA.same fun b hb => ⟨.inl hb, Below.heap_alloc w _ b (hS b hb)⟩
  revert hn hA'
  generalize w.alloc (.cells #[.int .i64 t.k, .int .i64 t.n, v] 25) = W
  intro hn hA'
  refine .row _ w.heap.size 0 1 (fun _ => v) (fun _ => .inr rfl) (by simp) (by decide) (fun i hi => ?_) (fun i hi => ?_) (fun i hi => ?_) (fun i hi => ?_)
  all_goals
    obtain rfl : i = 0 := by simpa using hi
  all_goals first | exact hA' | simp [World.cell?, hn]
theorem ats_cells2 {S : Nat → Prop} {w : World} {t u : Tm} {v v2 : Value} (hA : AtS S w t.kids v) (hB : AtS S w u.kids v2) (hS : ∀ b, S b → b < w.heap.size) : AtS (fun b => S b ∨ b = w.heap.size) (w.alloc (.cells #[.int .i64 t.k, .int .i64 t.n, v, .int .i64 u.k, .int .i64 u.n, v2] 25)) [t, u] (.slice (some ⟨w.heap.size, 0, none⟩) 2 2) := by
  have hn := World.alloc_heap_new w (.cells #[.int .i64 t.k, .int .i64 t.n, v, .int .i64 u.k, .int .i64 u.n, v2] 25)
  have hA' : AtS (fun b => S b ∨ b = w.heap.size) (w.alloc (.cells #[.int .i64 t.k, .int .i64 t.n, v, .int .i64 u.k, .int .i64 u.n, v2] 25)) t.kids v := hA.same fun b hb => ⟨.inl hb, Below.heap_alloc w _ b (hS b hb)⟩
  have hB' : AtS (fun b => S b ∨ b = w.heap.size) (w.alloc (.cells #[.int .i64 t.k, .int .i64 t.n, v, .int .i64 u.k, .int .i64 u.n, v2] 25)) u.kids v2 := hB.same fun b hb => ⟨.inl hb, Below.heap_alloc w _ b (hS b hb)⟩
  revert hn hA' hB'
  generalize w.alloc (.cells #[.int .i64 t.k, .int .i64 t.n, v, .int .i64 u.k, .int .i64 u.n, v2] 25) = W
  intro hn hA' hB'
  refine .row _ w.heap.size 0 2 (fun i => if i = 0 then v else v2) (fun _ => .inr rfl) (by simp) (by decide) (fun i hi => ?_) (fun i hi => ?_) (fun i hi => ?_) (fun i hi => ?_)
  all_goals
    have hi2 : i < 2 := hi
    have : i = 0 ∨ i = 1 := by omega
    rcases this with rfl | rfl
  all_goals first | exact hA' | exact hB' | simp [World.cell?, hn]
theorem box_store3 {W : World} {B : Nat} {ty : TypeId} {x y z : Value} (h : W.heap[B]? = some (.cells #[x, y, z] ty (0, 0))) (x' y' z' : Value) :
    (((W.setCell ⟨B, 0, none⟩ x').setCell ⟨B, 1, none⟩ y').setCell ⟨B, 2, none⟩ z').heap[B]? = some (.cells #[x', y', z'] ty (0, 0)) := by
  have h1 := heap_setCell_same W B 0 #[x, y, z] ty x' h
  have h2 := heap_setCell_same _ B 1 _ ty y' h1
  have h3 := heap_setCell_same _ B 2 _ ty z' h2
  simpa using h3
theorem below_store3 {W : World} {B D : Nat} (hD : D ≤ B) (x' y' z' : Value) : Below D W (((W.setCell ⟨B, 0, none⟩ x').setCell ⟨B, 1, none⟩ y').setCell ⟨B, 2, none⟩ z') :=
  (((Below.refl D W).setCell (p := ⟨B, 0, none⟩) hD x').setCell (p := ⟨B, 1, none⟩) hD y').setCell (p := ⟨B, 2, none⟩) hD z'
theorem other_store3 {W : World} {B b : Nat} (hb : b ≠ B) (x' y' z' : Value) : (((W.setCell ⟨B, 0, none⟩ x').setCell ⟨B, 1, none⟩ y').setCell ⟨B, 2, none⟩ z').heap[b]? = W.heap[b]? := by
  rw [Below.heap_setCell _ _ _ _ hb, Below.heap_setCell _ _ _ _ hb, Below.heap_setCell _ _ _ _ hb]
theorem AtS.grw {S : Nat → Prop} {w w' : World} {l : List Tm} {v : Value} (h : AtS S w l v) (hg : Below w.heap.size w w') : AtS S w' l v := h.lt.same fun b hb => ⟨hb.1, hg.block b hb.2⟩
/-- A block of two terms, as a row. -/
theorem row_of2 {S : Nat → Prop} {w : World} {B : Nat} {ty : TypeId} {t u : Tm} {v v2 : Value} (hn : w.heap[B]? = some (.cells #[.int .i64 t.k, .int .i64 t.n, v, .int .i64 u.k, .int .i64 u.n, v2] ty (0, 0))) (hA : AtS S w t.kids v) (hB : AtS S w u.kids v2) :
    RowS S w [t, u] (.slice (some ⟨B, 0, none⟩) 2 2) := by
  refine ⟨B, 0, 2, fun i => if i = 0 then v else v2, rfl, by simp, by decide, fun i hi => ?_, fun i hi => ?_, fun i hi => ?_, fun i hi => ?_⟩
  all_goals
    have hi2 : i < 2 := hi
    have : i = 0 ∨ i = 1 := by omega
    rcases this with rfl | rfl
  all_goals first | exact hA | exact hB | simp [World.cell?, hn]
theorem row_of1 {S : Nat → Prop} {w : World} {B : Nat} {ty : TypeId} {t : Tm} {v : Value} (hn : w.heap[B]? = some (.cells #[.int .i64 t.k, .int .i64 t.n, v] ty (0, 0))) (hA : AtS S w t.kids v) :
    RowS S w [t] (.slice (some ⟨B, 0, none⟩) 1 1) := by
  refine ⟨B, 0, 1, fun _ => v, rfl, by simp, by decide, fun i hi => ?_, fun i hi => ?_, fun i hi => ?_, fun i hi => ?_⟩
  all_goals
    obtain rfl : i = 0 := by simpa using hi
  all_goals first | exact hA | simp [World.cell?, hn]
end Go.Proofs.Ytggefpkfikimiaa
/- A block of terms that the call makes: rows that are written Kid by Kid. No conditions. -/
namespace Go.Proofs.Ytggefpkfikimiaa
open Go.RowKit Go Go.Joins
set_option linter.unusedVariables false
/-- A block of c terms, the first of which are known. -/
def KRow (c : Nat) (B : Nat) (L : List Tm) (vs : Nat → Value) (w : World) : Prop := ∃ cs : Array Value, w.heap[B]? = some (.cells cs 25 (0, 0)) ∧ cs.size = c * 3 ∧
  ∀ i (_ : i < L.length), cs[i * 3]? = some (.int .i64 L[i].k) ∧ cs[i * 3 + 1]? = some (.int .i64 L[i].n) ∧ cs[i * 3 + 2]? = some (vs i)
theorem KRow.same {c B : Nat} {L : List Tm} {vs : Nat → Value} {w w' : World} (h : KRow c B L vs w) (hb : w'.heap[B]? = w.heap[B]?) : KRow c B L vs w' := by
  obtain ⟨cs, h1, h2⟩ := h
  exact ⟨cs, hb.trans h1, h2⟩
theorem KRow.slots {c B : Nat} {L : List Tm} {vs : Nat → Value} {w : World} (h : KRow c B L vs w) {j : Nat} (hj : j < c) :
    (∃ x y z, w.cell? ⟨B, j * 3, none⟩ = some x ∧ w.cell? ⟨B, j * 3 + 1, none⟩ = some y ∧ w.cell? ⟨B, j * 3 + 2, none⟩ = some z) ∧ w.frozen? ⟨B, j * 3, none⟩ = false ∧ w.frozen? ⟨B, j * 3 + 1, none⟩ = false ∧ w.frozen? ⟨B, j * 3 + 2, none⟩ = false := by
  obtain ⟨cs, h1, h2, _⟩ := h
  refine ⟨⟨cs[j * 3]'(by omega), cs[j * 3 + 1]'(by omega), cs[j * 3 + 2]'(by omega), ?_, ?_, ?_⟩, ?_, ?_, ?_⟩
  all_goals first
    | (simp [World.frozen?, h1]; done)
    | (simp only [World.cell?, h1]; simp [*]; done)
    | (simp [World.cell?, h1]; omega)
theorem row_store3 {W : World} {B : Nat} {ty : TypeId} {cs : Array Value} (h : W.heap[B]? = some (.cells cs ty (0, 0))) (o : Nat) (x y z : Value) :
    (((W.setCell ⟨B, o, none⟩ x).setCell ⟨B, o + 1, none⟩ y).setCell ⟨B, o + 2, none⟩ z).heap[B]? = some (.cells (((cs.setIfInBounds o x).setIfInBounds (o + 1) y).setIfInBounds (o + 2) z) ty (0, 0)) := by
  have h1 := heap_setCell_same W B o cs ty x h
  have h2 := heap_setCell_same _ B (o + 1) _ ty y h1
  exact heap_setCell_same _ B (o + 2) _ ty z h2
theorem other_row3 {W : World} {B o b : Nat} (hb : b ≠ B) (x' y' z' : Value) : (((W.setCell ⟨B, o, none⟩ x').setCell ⟨B, o + 1, none⟩ y').setCell ⟨B, o + 2, none⟩ z').heap[b]? = W.heap[b]? := by
  rw [Below.heap_setCell _ _ _ _ hb, Below.heap_setCell _ _ _ _ hb, Below.heap_setCell _ _ _ _ hb]
theorem below_row3 {W : World} {B D o : Nat} (hD : D ≤ B) (x' y' z' : Value) : Below D W (((W.setCell ⟨B, o, none⟩ x').setCell ⟨B, o + 1, none⟩ y').setCell ⟨B, o + 2, none⟩ z') :=
  (((Below.refl D W).setCell (p := ⟨B, o, none⟩) hD x').setCell (p := ⟨B, o + 1, none⟩) hD y').setCell (p := ⟨B, o + 2, none⟩) hD z'
theorem KRow.put {c B : Nat} {L : List Tm} {vs : Nat → Value} {w : World} (h : KRow c B L vs w) (hj : L.length < c) (t : Tm) (v : Value) :
    KRow c B (L ++ [t]) (fun i => if i < L.length then vs i else v) (((w.setCell ⟨B, L.length * 3, none⟩ (.int .i64 t.k)).setCell ⟨B, L.length * 3 + 1, none⟩ (.int .i64 t.n)).setCell ⟨B, L.length * 3 + 2, none⟩ v) := by
  obtain ⟨cs, h1, h2, h3⟩ := h
  refine ⟨_, row_store3 h1 _ _ _ _, by simpa using h2, fun i hi => ?_⟩
  simp only [List.length_append, List.length_singleton] at hi
  by_cases hil : i < L.length
  · obtain ⟨a1, a2, a3⟩ := h3 i hil
    simp only [if_pos hil]
    rw [List.getElem_append_left hil]
    refine ⟨?_, ?_, ?_⟩
    · rw [Array.getElem?_setIfInBounds_ne (by omega), Array.getElem?_setIfInBounds_ne (by omega), Array.getElem?_setIfInBounds_ne (by omega)]; exact a1
    · rw [Array.getElem?_setIfInBounds_ne (by omega), Array.getElem?_setIfInBounds_ne (by omega), Array.getElem?_setIfInBounds_ne (by omega)]; exact a2
    · rw [Array.getElem?_setIfInBounds_ne (by omega), Array.getElem?_setIfInBounds_ne (by omega), Array.getElem?_setIfInBounds_ne (by omega)]; exact a3
  · obtain rfl : i = L.length := by omega
    rw [List.getElem_append_right (Nat.le_refl _)]
    simp only [if_neg hil, Nat.sub_self, List.getElem_singleton]
    refine ⟨?_, ?_, ?_⟩
    · rw [Array.getElem?_setIfInBounds_ne (by omega), Array.getElem?_setIfInBounds_ne (by omega), Array.getElem?_setIfInBounds_self_of_lt (by omega)]
    · rw [Array.getElem?_setIfInBounds_ne (by omega), Array.getElem?_setIfInBounds_self_of_lt (by simp; omega)]
    · rw [Array.getElem?_setIfInBounds_self_of_lt (by simp; omega)]
theorem KRow.ats {S : Nat → Prop} {c B : Nat} {L : List Tm} {vs : Nat → Value} {w : World} (h : KRow c B L vs w) (hL : L.length = c) (hc : c ≤ maxLen) (hS : S B) (hs : ∀ i (h : i < L.length), AtS S w L[i].kids (vs i)) : AtS S w L (.slice (some ⟨B, 0, none⟩) c c) := by
  obtain ⟨cs, h1, h2, h3⟩ := h
  subst hL
  refine .row L B 0 L.length vs (fun _ => hS) (Nat.le_refl _) hc (fun i hi => ?_) (fun i hi => ?_) (fun i hi => ?_) hs
  · rw [Nat.zero_add]; simp [World.cell?, h1, (h3 i hi).1]
  · rw [Nat.zero_add]; simp [World.cell?, h1, (h3 i hi).2.1]
  · rw [Nat.zero_add]; simp [World.cell?, h1, (h3 i hi).2.2]
def zerosC (c : Nat) : Array Value := madeCells (Value.agg #[.int .i64 0, .int .i64 0, .slice none 0 0]).cells (c * 3)
theorem run_makeT (c : Nat) (hc : c ≤ 1099511627776) (w : World) : (Instr.makeSlice 23 (.int .i64 (c : Int)) (.int .i64 (c : Int))).run Try.prog w = .ok (.slice (some ⟨w.heap.size, 0, none⟩) c c) (w.alloc (.cells (zerosC c) 25)) := by
  obtain ⟨i0, hi, hz0, hz1, hz2⟩ := info_parts Try.infoT
  have := run_make (P := Try.prog) w 23 25 i0 _ Try.underlying23 hi hz0 .i64 .i64 (c : Int) (c : Int) (by omega) (Int.le_refl _) (by rw [hz2]; omega) (by omega)
  rw [hz1] at this
  exact this
theorem krow_new (w : World) (c : Nat) (vs : Nat → Value) : KRow c w.heap.size [] vs (w.alloc (.cells (zerosC c) 25)) :=
  ⟨zerosC c, World.alloc_heap_new w _, size_madeCells _ _, fun i hi => absurd hi (Nat.not_lt_zero _)⟩
end Go.Proofs.Ytggefpkfikimiaa
