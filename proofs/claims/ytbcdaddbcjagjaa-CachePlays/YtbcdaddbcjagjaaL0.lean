/- A frame by footprints. -/
import Derived.Test.YtbcdaddbcjagjaaG0
import Derived.Test.YtbcdaddbcjagjaaProg
import Derived.Test.YtbcdaddbcjagjaaChecked
namespace Go.Proofs.Ytbcdaddbcjagjaa
open Go.RowKit

/-- All that is not in some blocks lies as it lay; these are joined by new ones alone. -/
structure Fr (F F' : Nat → Prop) (w w' : World) : Prop where
  os : w'.os = w.os
  tape : w'.tape = w.tape
  output : w'.output = w.output
  size : w.heap.size ≤ w'.heap.size
  block : ∀ q, q < w.heap.size → ¬ F q → w'.heap[q]? = w.heap[q]?
  grow : ∀ q, F' q → F q ∨ w.heap.size ≤ q
theorem Fr.below {F F' : Nat → Prop} {w w' : World} {base : Nat} (h : Fr F F' w w') (hF : ∀ q, F q → base ≤ q) (hb : base ≤ w.heap.size) : Below base w w' :=
  ⟨h.os, h.tape, h.output, h.size, fun q hq => h.block q (by omega) fun hf => by have := hF q hf; omega⟩
theorem Fr.low {F F' : Nat → Prop} {w w' : World} {base : Nat} (h : Fr F F' w w') (hF : ∀ q, F q → base ≤ q) (hb : base ≤ w.heap.size) : ∀ q, F' q → base ≤ q := fun q hq => by
  rcases h.grow q hq with h' | h'
  · exact hF q h'
  · omega
end Go.Proofs.Ytbcdaddbcjagjaa
