/- Sessions whose time is over are taken out of a row. -/
import Derived.Test.YtnghgclogeefgaaE1
namespace Go.Proofs.Ytnghgclogeefgaa
open Go.RowKit
set_option linter.unusedVariables false
set_option linter.unusedSimpArgs false

def zN (m : Nat) : List Value := (Builtin.zeroCells (Value.agg #[.int .i64 0, .string ⟨#[]⟩, .string ⟨#[]⟩, .bool false, .int .i64 0]).cells m).toList
theorem zN_len (m : Nat) : (zN m).length = m * 5 := by
  unfold zN
  rw [Array.length_toList, size_zeroCells]
  rfl
theorem zN_one (m : Nat) : ∀ u ∈ zN m, u.oneCell' = true := by
  intro u hu
  unfold zN Builtin.zeroCells at hu
  simp only [Array.toList_map, List.mem_map] at hu
  obtain ⟨i, _, rfl⟩ := hu
  have h5 : i % 5 < 5 := Nat.mod_lt _ (by omega)
  have hs : (Value.agg #[.int .i64 0, .string ⟨#[]⟩, .string ⟨#[]⟩, .bool false, .int .i64 0]).cells.size = 5 := rfl
  rw [hs]
  rcases (show i % 5 = 0 ∨ i % 5 = 1 ∨ i % 5 = 2 ∨ i % 5 = 3 ∨ i % 5 = 4 from by omega) with h | h | h | h | h <;> rw [h] <;> rfl
theorem run_clearN (w : World) (g o c m : Nat) (cur : Array Value) (hm : 0 < m) (hg : w.heap[g]? = some (.cells cur 68 (0, 0))) (hfit : o + m * 5 ≤ cur.size) (ty : TypeId) :
    (Builtin.clear_ #[62] ty #[.slice (some ⟨g, o, none⟩) m c]).run Try.prog w = .ok (.tuple #[]) (w.setRow g (cur.toList.take o ++ zN m ++ cur.toList.drop (o + m * 5)).toArray) := by
  have hst := run_storeCells_at Try.prog g o 68 (zN m) 0 cur w hg (by rw [zN_len]; omega) (zN_one m)
  simp only [Nat.add_zero] at hst
  rw [zN_len] at hst
  obtain ⟨k, rfl⟩ : ∃ k, m = k + 1 := ⟨m - 1, by omega⟩
  unfold zN at hst ⊢
  simp [Builtin.clear_, run_underlying Try.underlying62, zero68, hst]
/-- Below a size all but one block lies as it lay. -/
structure Bg (g : Nat) (w w' : World) : Prop where
  os : w'.os = w.os
  tape : w'.tape = w.tape
  output : w'.output = w.output
  size : w.heap.size ≤ w'.heap.size
  block : ∀ q, q < w.heap.size → q ≠ g → w'.heap[q]? = w.heap[q]?
theorem Bg.refl (g : Nat) (w : World) : Bg g w w := ⟨rfl, rfl, rfl, Nat.le_refl _, fun _ _ _ => rfl⟩
theorem Bg.trans {g : Nat} {a b c : World} (h : Bg g a b) (k : Bg g b c) : Bg g a c :=
  ⟨k.os.trans h.os, k.tape.trans h.tape, k.output.trans h.output, Nat.le_trans h.size k.size, fun q hq hg => (k.block q (by have := h.size; omega) hg).trans (h.block q hq hg)⟩
theorem Bg.below {g : Nat} {a b c : World} (h : Bg g a b) (k : Below b.heap.size b c) : Bg g a c := h.trans ⟨k.os, k.tape, k.output, k.size, fun q hq _ => k.block q hq⟩
theorem Bg.set {g : Nat} {a b : World} (h : Bg g a b) (i : Nat) (v : Value) : Bg g a (b.setCell ⟨g, i, none⟩ v) := h.trans ⟨rfl, rfl, rfl, by simp, fun q _ hg => Below.heap_setCell _ _ _ _ hg⟩
theorem seL_put : ∀ (L : List Se) (i : Nat) (s : Se), i < L.length → (((((seL L).set (i * 5) (.int .i64 s.num)).set (i * 5 + 1) (.string (tx s.t))).set (i * 5 + 2) (.string (tx s.u))).set (i * 5 + 3) (.bool s.a)).set (i * 5 + 4) (.int .i64 s.til) = seL (L.set i s)
  | [], i, s, h => by simp at h
  | p :: r, 0, s, _ => rfl
  | p :: r, i + 1, s, h => by
    have ih := seL_put r i s (by simpa using h)
    show (((((se5 p ++ seL r).set ((i + 1) * 5) _).set ((i + 1) * 5 + 1) _).set ((i + 1) * 5 + 2) _).set ((i + 1) * 5 + 3) _).set ((i + 1) * 5 + 4) _ = se5 p ++ seL (r.set i s)
    have h5 : (se5 p).length = 5 := rfl
    rw [List.set_append_right _ _ (by rw [h5]; omega), List.set_append_right _ _ (by rw [h5]; omega), List.set_append_right _ _ (by rw [h5]; omega), List.set_append_right _ _ (by rw [h5]; omega), List.set_append_right _ _ (by rw [h5]; omega), ← ih, h5]
    rw [show (i + 1) * 5 - 5 = i * 5 by omega, show (i + 1) * 5 + 1 - 5 = i * 5 + 1 by omega, show (i + 1) * 5 + 2 - 5 = i * 5 + 2 by omega, show (i + 1) * 5 + 3 - 5 = i * 5 + 3 by omega, show (i + 1) * 5 + 4 - 5 = i * 5 + 4 by omega]
theorem exI_snoc (ss : List Se) (now : Int) (j : Nat) (s : Se) (h : ss[j]? = some s) : exI (ss.take (j + 1)) now = exI (ss.take j) now ++ (if s.til ≤ now then [] else [s]) := by
  have e : ss.take (j + 1) = ss.take j ++ [s] := by
    obtain ⟨h1, h2⟩ := List.getElem?_eq_some_iff.1 h
    rw [List.take_succ_eq_append_getElem h1, h2]
  unfold exI
  rw [e, List.filter_append]
  congr 1
  by_cases c : s.til ≤ now <;> simp [c]
end Go.Proofs.Ytnghgclogeefgaa
