/- The page's scope of a term, as the Go text computes it. -/
import Derived.Test.YtblebboamopffaaRefB
import Derived.Test.YtblebboamopffaaPl
import Derived.WalkKit
import Derived.Lib.Hide
import Derived.IntWalk
import Derived.Deep.QuietTactic
import Derived.BigQuiet
import Derived.Deep.RegionHeld3
namespace Go.Proofs.Ytblebboamopffaa
open Go.RowKit

/-- What a region that draws its order may read: the boxed term's kind and Kids, one Kid's cells. -/
theorem keepS {w0 w' w1 : World} {B b o : Nat} {x0 x2 y0 y1 y2 : Value} {l : List Tm} {v : Value}
    (h : (w'.cell? ⟨B, 0, none⟩ = some x0 ∧ w'.cell? ⟨B, 2, none⟩ = some x2 ∧ w'.cell? ⟨b, o, none⟩ = some y0 ∧ w'.cell? ⟨b, o + 1, none⟩ = some y1 ∧ w'.cell? ⟨b, o + 2, none⟩ = some y2) ∧ At w' l v ∧ Below w0.heap.size w0 w')
    (hb : Below w'.heap.size w' w1) :
    (w1.cell? ⟨B, 0, none⟩ = some x0 ∧ w1.cell? ⟨B, 2, none⟩ = some x2 ∧ w1.cell? ⟨b, o, none⟩ = some y0 ∧ w1.cell? ⟨b, o + 1, none⟩ = some y1 ∧ w1.cell? ⟨b, o + 2, none⟩ = some y2) ∧ At w1 l v ∧ Below w0.heap.size w0 w1 := by
  have g : ∀ {a : Addr} {x : Value}, w'.cell? a = some x → w1.cell? a = some x := fun {a x} hx => by rw [hb.cell (World.block_lt_of_cell? w' _ hx)]; exact hx
  obtain ⟨⟨h1, h2, h3, h4, h5⟩, h6, h7⟩ := h
  exact ⟨⟨g h1, g h2, g h3, g h4, g h5⟩, h6.bel hb (Nat.le_refl _), h7.trans (hb.mono h7.size)⟩

end Go.Proofs.Ytblebboamopffaa
