/- Digests that are the same; what was written is read again. -/
import Derived.Test.YtfdmepblhlifcaaDoorE3
import Derived.Test.YtfdmepblhlifcaaDoorE4
import Derived.DeepKeys
namespace Go.Proofs.YtfdmepblhlifcaaDoor
open Go.RowKit
set_option linter.unusedVariables false
set_option linter.unusedSimpArgs false

theorem mapM_some {α β : Type} (f : α → Option β) (g : α → β) : ∀ (l : List α), (∀ i ∈ l, f i = some (g i)) → l.mapM f = some (l.map g)
  | [], _ => by simp
  | x :: l, h => by
    rw [List.mapM_cons, h x (by simp), mapM_some f g l (fun i hi => h i (by simp [hi]))]
    rfl
theorem wf_u8 (x : Int) (h0 : 0 ≤ x) (h1 : x ≤ 255) : (Lit.int .u8 x).wf = true := by
  have all : ∀ k : Fin 256, (Lit.int .u8 (k.val : Int)).wf = true := by decide +kernel
  have := all ⟨x.toNat, by omega⟩
  simp only at this
  rwa [show (x.toNat : Int) = x by omega] at this
theorem key32 (d : List Int) (hd : d.length = 32) (hb : Byt d) : ∃ la, Tryd.prog.keyLits 2 23 (u8s d).toList = some la := by
  refine ⟨((List.range 32).map fun i => [Lit.int .u8 (d.getD i 0)]).flatten, ?_⟩
  have c5 : Tryd.prog.cellsOf 5 = 1 := by kernel_rfl
  have c23 : Tryd.prog.cellsOf 23 = 32 := by kernel_rfl
  have hl : (u8s d).toList.length = 32 := by simp [u8s, hd]
  unfold Program.keyLits
  rw [Tryd.underlying23]
  simp only [hl, c23, c5, if_true]
  rw [mapM_some _ (fun i => [Lit.int .u8 (d.getD i 0)])]
  · rfl
  · intro i hi
    have hi' : i < d.length := by rw [hd]; simpa using hi
    have e : List.take 1 (List.drop (i * 1) (u8s d).toList) = [.int .u8 (d.getD i 0)] := by
      simp only [u8s, Nat.mul_one]
      rw [List.drop_eq_getElem_cons (by simpa using hi')]
      simp [hi']
    rw [e]
    unfold Program.keyLits
    rw [Tryd.underlying5]
    obtain ⟨h0, h1⟩ := hb (d.getD i 0) (by rw [List.getD_eq_getElem?_getD, List.getElem?_eq_getElem hi']; exact List.getElem_mem _)
    simp only [wf_u8 _ h0 h1, and_self, if_true]
theorem eq32 (d : List Int) (hd : d.length = 32) (hb : Byt d) (w : World) : (Op.equalIn 10000 23 (.agg (u8s d)) (.agg (u8s d))).run Tryd.prog w = .ok true w := by
  obtain ⟨la, hk⟩ := key32 d hd hb
  have hf : Value.formed Tryd.prog 23 (.agg (u8s d)) = true := by
    unfold Value.formed
    simp only [Tryd.underlying23]
    rw [show Tryd.prog.cellsOf 23 = 32 by kernel_rfl, size_u8s, hd]
    rfl
  obtain ⟨r, hr, hiff⟩ := run_equalIn_deep (P := Tryd.prog) 9998 2 23 (by kernel_rfl) w 2 2 (.agg (u8s d)) (.agg (u8s d)) _ _ hf hf hk hk
  rw [hiff.2 rfl] at hr
  exact hr

theorem hex_hi (d : List Int) : ∀ j, j < d.length → (hexI d).getD (2 * j) 0 = digI (d.getD j 0 / 16) ∧ (hexI d).getD (2 * j + 1) 0 = digI (d.getD j 0 % 16) := by
  induction d with
  | nil => intro j hj; simp at hj
  | cons x d ih =>
    intro j hj
    have e : hexI (x :: d) = digI (x / 16) :: digI (x % 16) :: hexI d := rfl
    rw [e]
    match j with
    | 0 => exact ⟨rfl, rfl⟩
    | j + 1 =>
      have h := ih j (by simpa using hj)
      rw [show 2 * (j + 1) = 2 * j + 1 + 1 by omega, show 2 * j + 1 + 1 + 1 = (2 * j + 1) + 1 + 1 by omega]
      simpa using h
theorem val_dig (v : Int) (h0 : 0 ≤ v) (h1 : v < 16) : valI (digI v) = v := by
  have all : ∀ k : Fin 16, valI (digI (k.val : Int)) = (k.val : Int) := by decide +kernel
  have := all ⟨v.toNat, by omega⟩
  simp only at this
  rwa [show (v.toNat : Int) = v by omega] at this
/-- A digest's text. -/
def hexB (d : List Int) : List UInt8 := (hexI d).map fun x => UInt8.ofNat x.toNat
theorem at_hexB (d : List Int) (hb : Byt d) (j : Nat) (hj : j < (hexI d).length) : atI (hexB d) j = (hexI d).getD j 0 := by
  unfold atI hexB
  have h := hex_byt d hb ((hexI d).getD j 0) (by rw [List.getD_eq_getElem?_getD, List.getElem?_eq_getElem hj]; exact List.getElem_mem _)
  rw [List.getD_eq_getElem?_getD, List.getElem?_eq_getElem hj] at h
  rw [List.getD_eq_getElem?_getD, List.getD_eq_getElem?_getD, List.getElem?_map, List.getElem?_eq_getElem hj]
  simp only [Option.map_some, Option.getD_some] at h ⊢
  rw [UInt8.toNat_ofNat_of_lt' (by show _ < 256; omega)]
  omega
theorem read_hex (d : List Int) (hd : d.length = 32) (hb : Byt d) : Read (hexB d) d 0 := by
  have hlen : (hexI d).length = 64 := by rw [hex_len, hd]
  have both : ∀ j, j < 32 → hiI (hexB d) j = d.getD j 0 / 16 ∧ loI (hexB d) j = d.getD j 0 % 16 := by
    intro j hj
    obtain ⟨h1, h2⟩ := hex_hi d j (by omega)
    obtain ⟨b0, b1⟩ := hb (d.getD j 0) (by rw [List.getD_eq_getElem?_getD, List.getElem?_eq_getElem (by omega)]; exact List.getElem_mem _)
    unfold hiI loI
    rw [at_hexB d hb _ (by omega), at_hexB d hb _ (by omega), h1, h2]
    exact ⟨val_dig _ (by omega) (by omega), val_dig _ (by omega) (by omega)⟩
  refine .inl ⟨by unfold hexB; rw [List.length_map, hlen], fun j hj => ?_, ?_, rfl⟩
  · obtain ⟨h1, h2⟩ := both j hj
    obtain ⟨b0, b1⟩ := hb (d.getD j 0) (by rw [List.getD_eq_getElem?_getD, List.getElem?_eq_getElem (by omega)]; exact List.getElem_mem _)
    rw [h1, h2]
    constructor <;> omega
  · apply List.ext_getElem
    · rw [out_len, hd]
    · intro j h1 h2
      have hj : j < 32 := by omega
      obtain ⟨e1, e2⟩ := both j hj
      have e3 : (outI (hexB d) 32)[j] = 16 * hiI (hexB d) j + loI (hexB d) j := by simp [outI]
      refine Eq.trans ?_ e3.symm
      rw [e1, e2, List.getD_eq_getElem?_getD, List.getElem?_eq_getElem h1]
      simp only [Option.getD_some]
      omega
theorem read_byt {l : List UInt8} {d : List Int} {e : Int} (h : Read l d e) : Byt d := by
  rcases h with ⟨_, h2, rfl, _⟩ | ⟨_, rfl, _⟩
  · intro x hx
    unfold outI at hx
    obtain ⟨j, hj, rfl⟩ := List.mem_map.1 hx
    have h := h2 j (by simpa using hj)
    have h1 := (val_bd (atI l (2 * j))).2
    have h2 := (val_bd (atI l (2 * j + 1))).2
    unfold hiI loI at *
    constructor <;> omega
  · intro x hx
    rw [List.eq_of_mem_replicate hx]
    decide
end Go.Proofs.YtfdmepblhlifcaaDoor
