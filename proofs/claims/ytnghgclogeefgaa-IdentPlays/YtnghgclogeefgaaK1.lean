/- Frames by types. -/
import Derived.Test.YtnghgclogeefgaaT3
namespace Go.Proofs.Ytnghgclogeefgaa
open Go.RowKit
set_option linter.unusedVariables false

/-- What lies in blocks of other types than two lies as before. -/
def Kg (x y : TypeId) (w w' : World) : Prop := ∀ (p : Nat) (c : Array Value) (t : TypeId) (f : Nat × Nat), w.heap[p]? = some (.cells c t f) → t ≠ x → t ≠ y → w'.heap[p]? = w.heap[p]?
theorem Kg.of {x y : TypeId} {w w' : World} {B : Nat} (h : Below B w w') (hB : w.heap.size ≤ B) : Kg x y w w' := fun p c t f hp _ _ => h.block p (by have := (Array.getElem?_eq_some_iff.1 hp).1; omega)
theorem Kg.trans {x y : TypeId} {a b c : World} (h : Kg x y a b) (k : Kg x y b c) : Kg x y a c := fun p z t f hp h1 h2 => (k p z t f ((h p z t f hp h1 h2).trans hp) h1 h2).trans (h p z t f hp h1 h2)
theorem Kg.row {x y : TypeId} {w w' : World} {p : Nat} {c : Array Value} {t : TypeId} {f : Nat × Nat} (h : Kg x y w w') (hp : w.heap[p]? = some (.cells c t f)) (h1 : t ≠ x) (h2 : t ≠ y) : w'.heap[p]? = some (.cells c t f) := (h p c t f hp h1 h2).trans hp
theorem ne_tag' {w : World} {a b : Nat} {c c' : Array Value} {t t' : TypeId} {f f' : Nat × Nat} (h : w.heap[a]? = some (.cells c t f)) (h' : w.heap[b]? = some (.cells c' t' f')) (ht : t ≠ t') : a ≠ b := ne_tag h h' ht
end Go.Proofs.Ytnghgclogeefgaa
