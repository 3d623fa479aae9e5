/- The page's Join, and package porismkeep's Ints. -/
import Derived.Test.YtfbinoifhabgoaaCt
import Derived.Test.YtfbinoifhabgoaaCl
import Derived.Laws.AppendOwn
import Derived.Laws.AppendOwnNone
import Derived.OwnWalk
import Derived.Deep.AppendLies
import Derived.Laws.OwnMore
import Derived.Lib.SmallJoins
namespace Go.Proofs.Ytfbinoifhabgoaa
open Go.RowKit Go Go.Joins
set_option linter.unusedVariables false

theorem wpList_append_own_gen {P : Program} {w : World} {ops : Array Oper} {rest : List Oper} {o : Oper} {a : Act} {Q : Exit → Act → World → Prop} (hgd : o.guard = none) (s x : Operand) (t : TypeId)
    (ho : o.op = .call { callee := .builtin .append, args := #[s, x], argTypes := #[t, t] })
    (base : Nat) (e : TypeId) (i : TypeInfo) (z : Value) (size bytes : Nat) (ht : P.underlying t = some (.slice e)) (hi : P.info? e = some i) (hz : i.zero = some z)
    (hsize : i.size = size) (hby : i.bytes = bytes) (hzs : z.cells.size = size) (hsz : 0 < size)
    (v : Value) (n : Nat) (xs : List Value) (hs : a.eval s = v) (hown : w.ownsRow base e size v n xs)
    (m : Nat) (news : List Value) (ao : Option Addr) (c : Nat) (hx : a.eval x = .slice ao m c) (hl : news.length = m * size) (hnone : ao = none → m = 0 ∧ c = 0)
    (hnews : ∀ ad, ao = some ad → ∀ j u, news[j]? = some u → w.cell? (ad.add j) = some u) (h1 : ∀ u ∈ news, u.oneCell' = true)
    (h63 : n + m ≤ maxLen) (hbytes : (n + m) * bytes ≤ 140737488355328) (hbase : base ≤ w.heap.size)
    (h : ∀ v' w', w'.ownsRow base e size v' (n + m) (xs ++ news) → w.grownBy w' v.ownBlock → wpList P ops Q rest (a.put o.dst v') w') : wpList P ops Q (o :: rest) a w := by
  cases ao with
  | some ad => exact wpList_append_own w hgd s x t ho base e i z size bytes ht hi hz hsize hby hzs hsz v n xs hs hown ad m c news hx hl (hnews ad rfl) h1 h63 hbytes hbase fun v' w' h2 h3 _ => h v' w' h2 h3
  | none =>
    obtain ⟨rfl, rfl⟩ := hnone rfl
    have hn : news = [] := List.eq_nil_of_length_eq_zero (by simpa using hl)
    subst hn
    subst hsize
    exact wpList_append_own_none hgd s x t ho base e i i.size ht hi v n xs hs hown hx (h v w (by simpa using hown) (World.grownBy.refl w _))

theorem Try.infoInt : (Try.prog.info? 3).map (fun i => (i.zero, i.size, i.bytes)) = some (some (.int .i64 0), 1, 8) := by kernel_rfl

theorem joinI_pre {l : List Int} {n : Int} {k : Nat} (h : ∀ x ∈ l.take k, x < n) : joinI l n = l.take k ++ joinI (l.drop k) n := by
  induction k generalizing l with
  | zero => simp
  | succ k ih =>
    cases l with
    | nil => simp
    | cons a l =>
      rw [List.take_succ_cons] at h ⊢
      rw [List.drop_succ_cons, List.cons_append, joinI, if_pos (h a List.mem_cons_self), ih fun x hx => h x (List.mem_cons_of_mem _ hx)]
theorem joinI_end {l : List Int} {n : Int} (h : ∀ x ∈ l.take l.length, x < n) : joinI l n = l ++ [n] := by
  rw [joinI_pre h, List.take_length, List.drop_length, joinI]
theorem joinI_has {l : List Int} {n : Int} {k : Nat} (h : ∀ x ∈ l.take k, x < n) (hk : k < l.length) (he : l[k] = n) : joinI l n = l := by
  rw [joinI_pre h, List.drop_eq_getElem_cons hk, joinI, he, if_neg (by omega), if_pos rfl]
  conv => rhs; rw [← List.take_append_drop k l, List.drop_eq_getElem_cons hk, he]
theorem joinI_mid {l : List Int} {n : Int} {k : Nat} (h : ∀ x ∈ l.take k, x < n) (hk : k < l.length) (he : n < l[k]) : joinI l n = (l.take k ++ [n]) ++ l.drop k := by
  rw [joinI_pre h, List.drop_eq_getElem_cons hk, joinI, if_neg (by omega), if_neg (by omega), List.append_assoc, List.singleton_append]

end Go.Proofs.Ytfbinoifhabgoaa
