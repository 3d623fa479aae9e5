/- Helpers of layer 5's statements: the contracts in the form in which the walks meet them; rows of one or two terms. No conditions. -/
import Derived.Test.YtbfefpejcefnhaaIa
import Derived.Test.YtbfefpejcefnhaaTw
namespace Go.Proofs.Ytbfefpejcefnhaa
open Go.RowKit
set_option linter.unusedVariables false

theorem c_inst {t r : Tm} {A : List Tm} {u e : Int} (hF : Fits t) (hs : size t ≤ 1048576) (hFA : ∀ a ∈ A, Fits a) (hsA : sizeL A ≤ 1048576) (hp : A.length ≤ 65535) (hE : instE t A u = e) (hT : instT t A u = r) (W : World) (v va : Value) (hA : At W t.kids v) (hAA : At W A va) :
    Calls Try.prog 15 #[.agg #[.int .i64 t.k, .int .i64 t.n, v], va, .int .i64 u] W (TellK W r (.int .i64 e)) := by
  subst hE hT; exact sinst_any t hF hs A hFA hsA hp u W v va hA hAA
/-- A row of one term, of two, as a literal lays it. -/
theorem row1 {W : World} {a : Tm} {v : Value} (h : At W a.kids v) : At (W.alloc (.cells #[.int .i64 a.k, .int .i64 a.n, v] 24)) [a] (.slice (some ⟨W.heap.size, 0, none⟩) 1 1) := (ats_cells1 h.toS fun _ h => h).at
theorem row2 {W : World} {a b : Tm} {v v2 : Value} (h : At W a.kids v) (h2 : At W b.kids v2) : At (W.alloc (.cells #[.int .i64 a.k, .int .i64 a.n, v, .int .i64 b.k, .int .i64 b.n, v2] 24)) [a, b] (.slice (some ⟨W.heap.size, 0, none⟩) 2 2) := (ats_cells2 h.toS h2.toS fun _ h => h).at
/-- A call that was handed a literal row told a term, which is boxed. -/
theorem lit_tell {w w1 w2 : World} {S : Nat → Prop} {r : Tm} {a : Option Addr} {cap : Nat} {o : Obj} (hw : Below w.heap.size w w1) (hb : Below (w1.alloc o).heap.size (w1.alloc o) w2) (hK : AtK S w2 r.kids (.slice a r.kids.length cap)) :
    One w w2.heap.size r (.slice a r.kids.length cap) (w2.alloc (.cells #[.int .i64 r.k, .int .i64 r.n, .slice a r.kids.length cap] 24)) ∧ Below w1.heap.size w1 (w2.alloc (.cells #[.int .i64 r.k, .int .i64 r.n, .slice a r.kids.length cap] 24)) :=
  boxed_tell hw ((below_al w1 o).trans (hb.mono (by simp))) hK
theorem size_one {a : Tm} (h : size a ≤ 1048576) : sizeL [a] ≤ 1048576 := by simp [sizeL]; omega
theorem fits_one {a : Tm} (h : Fits a) : ∀ x ∈ [a], Fits x := fun x hx => by rw [List.mem_singleton.1 hx]; exact h
theorem instT_put {t : Tm} {A : List Tm} {u : Int} (h : instE t A u = 0) : instT t A u = putT A t u := instT_ok h
theorem put_fits {t : Tm} {A : List Tm} {u : Int} (h : instE t A u = 0) : Fits (putT A t u) := check_fits (inst_check h)
theorem put_small {t : Tm} {A : List Tm} {u : Int} (h : instE t A u = 0) : size (putT A t u) ≤ 1048576 := Nat.le_trans (check_size (inst_check h)) (by omega)
theorem c_same5 {x y : Tm} (h : x = y) (hs : size x ≤ 1048576) (W : World) (va vb : Value) (hA : At W x.kids va) (hB : At W y.kids vb) :
    Calls Try.prog 17 #[.agg #[.int .i64 x.k, .int .i64 x.n, va], .agg #[.int .i64 y.k, .int .i64 y.n, vb]] W fun e w' => e = .returned (.bool true) ∧ Below W.heap.size W w' := by
  subst h; exact c_same hs W va vb hA hB
theorem Two.ones {w0 W : World} {B1 B2 : Nat} {t u : Tm} {v v2 : Value} (h : Two w0 B1 B2 t u v v2 W) : One w0 B1 t v W ∧ One w0 B2 u v2 W := by
  obtain ⟨h1, h2, h3, h4, h5⟩ := h
  exact ⟨⟨h1, h3, h5⟩, ⟨h2, h4, h5⟩⟩
end Go.Proofs.Ytbfefpejcefnhaa
