/- A digest that comes in. -/
import Derived.Test.YtfdmepblhlifcaaDoorD1
import Derived.ChangeSame
namespace Go.Proofs.YtfdmepblhlifcaaDoor
open Go.ChangeShapes Go.WideShapes Go.ChangeAt Go.RowKit
def intAt : Value → Int
  | .int _ a => a
  | _ => 0
theorem okWide_dig {W : World} {r : Reach} {b0 : Nat} {v : Value} (h : Value.okWide Tryd.prog W r b0 23 v) : ∃ xs : Array Value, v = .agg xs ∧ xs.size = 32 := by
  simp only [Value.okWide, Tryd.underlying23] at h
  obtain ⟨cs, h1, h2, _⟩ := h
  exact ⟨cs, h1, by rw [h2]; kernel_rfl⟩
theorem open_dig {H : Type} {enc : TypeId × Value → H} {W : World} {base : Nat} {sp : Nat → Bool} {held : Bool} {xs : Array Value} {d : DataW H} {ps : List MemPlace} (hn : xs.size = 32)
    (hd : DataW.Trod enc Tryd.prog W base sp held 23 (.agg xs) d ps) : ∃ zs, xs = u8s zs ∧ zs.length = 32 ∧ Byt zs := by
  obtain ⟨fuel, hf⟩ := hd
  have c5 : Tryd.prog.cellsOf 5 = 1 := by kernel_rfl
  have c23 : Tryd.prog.cellsOf 23 = 32 := by kernel_rfl
  cases fuel with
  | zero => simp [DataW.trod] at hf
  | succ m =>
    rw [DataW.trod_step] at hf
    unfold DataW.trodStep at hf
    simp only [Tryd.underlying23, Value.cells, c5, c23] at hf
    rw [if_pos (by simpa using hn)] at hf
    simp only [Option.map_eq_some_iff] at hf
    obtain ⟨ys, hy, _⟩ := hf
    have each : ∀ i, i < 32 → ∃ a, xs[i]? = some (.int .u8 a) ∧ 0 ≤ a ∧ a ≤ 255 := by
      intro i hi
      obtain ⟨y, _, h⟩ := Lib.mapM_at hy i i (by simp [hi])
      obtain ⟨a, ea, _, wa⟩ := DataW.trod_int Tryd.underlying5 h
      refine ⟨a, ?_, bounds_u8 wa⟩
      have hi' : i < xs.toList.length := by simpa using (by omega : i < xs.size)
      rw [Nat.mul_one, List.drop_eq_getElem_cons hi'] at ea
      simp at ea
      rw [Array.getElem?_eq_getElem (by omega)]
      rw [ea]
    refine ⟨xs.toList.map intAt, ?_, by simp [hn], ?_⟩
    · apply Array.ext
      · simp [u8s]
      · intro i h1 h2
        obtain ⟨a, ha, _⟩ := each i (by omega)
        rw [Array.getElem?_eq_getElem h1] at ha
        simp only [Option.some.injEq] at ha
        simp [u8s, ha, intAt]
    · intro x hx
      obtain ⟨v, hv, rfl⟩ := List.mem_map.1 hx
      obtain ⟨i, hi, rfl⟩ := List.mem_iff_getElem.1 hv
      obtain ⟨a, ha, h0, h1⟩ := each i (by simpa [hn] using hi)
      have e : xs.toList[i] = .int .u8 a := by
        rw [Array.getElem?_eq_getElem (by simpa using hi)] at ha
        simpa using ha
      rw [e]
      exact ⟨h0, h1⟩
end Go.Proofs.YtfdmepblhlifcaaDoor
