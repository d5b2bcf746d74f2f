/- Fields as they lie. -/
import Derived.Test.YtlgkajellndhlaaLeaf5
namespace Go.Proofs.Ytlgkajellndhlaa
open Go.RowKit
set_option linter.unusedVariables false
set_option linter.unusedSimpArgs false

/-- A field's four cells. -/
structure FCell (W : World) (b o : Nat) (f : Fd) (sa : Option Addr) (l c : Nat) : Prop where
  c0 : W.cell? ⟨b, o, none⟩ = some (.int .i64 f.num)
  c1 : W.cell? ⟨b, o + 1, none⟩ = some (.int .i64 f.typ)
  c2 : W.cell? ⟨b, o + 2, none⟩ = some (.int .u64 (f.n : Int))
  c3 : W.cell? ⟨b, o + 3, none⟩ = some (.slice sa l c)
  src : Src W (.slice sa l c) f.b
theorem FCell.later {W W' : World} {b o : Nat} {f : Fd} {sa : Option Addr} {l c : Nat} (h : FCell W b o f sa l c) (hb : Below W.heap.size W W') : FCell W' b o f sa l c := by
  have hl := World.block_lt_of_cell? W _ h.c0
  exact ⟨(hb.cell (p := ⟨b, o, none⟩) hl).trans h.c0, (hb.cell (p := ⟨b, o + 1, none⟩) hl).trans h.c1, (hb.cell (p := ⟨b, o + 2, none⟩) hl).trans h.c2, (hb.cell (p := ⟨b, o + 3, none⟩) hl).trans h.c3, h.src.later hb⟩
theorem FCell.len {W : World} {b o : Nat} {f : Fd} {sa : Option Addr} {l c : Nat} (h : FCell W b o f sa l c) : f.b.length = l := by
  obtain ⟨a, c', e⟩ := h.src.slice
  exact (Value.slice.inj e).2.1.symm
/-- A list of fields. -/
def Fds (W : World) (v : Value) (fs : List Fd) : Prop :=
  ∃ sa cap, v = .slice sa fs.length cap ∧ fs.length ≤ cap ∧ ∀ i f, fs[i]? = some f → ∃ b off qa l c, sa = some ⟨b, off, none⟩ ∧ FCell W b (off + i * 4) f qa l c
theorem Fds.later {W W' : World} {v : Value} {fs : List Fd} (h : Fds W v fs) (hb : Below W.heap.size W W') : Fds W' v fs := by
  obtain ⟨sa, cap, rfl, hc, hf⟩ := h
  refine ⟨sa, cap, rfl, hc, fun i f hi => ?_⟩
  obtain ⟨b, off, qa, l, c, rfl, hF⟩ := hf i f hi
  exact ⟨b, off, qa, l, c, rfl, hF.later hb⟩
/-- A field that can lie in a list. -/
structure Fd.Fit (f : Fd) : Prop where
  n : (f.n : Int) < 18446744073709551616
  byt : Byt f.b
  short : (f.b.length : Int) ≤ 1048576

theorem ok_typ {f : Fd} (h : okF f = true) : 1 ≤ f.num ∧ f.num ≤ 536870911 ∧ (f.typ = 0 ∨ f.typ = 1 ∨ f.typ = 2 ∨ f.typ = 5) := by
  obtain ⟨h1, h2, h3⟩ := ok_cases h
  refine ⟨h1, h2, ?_⟩
  rcases h3 with ⟨h, _⟩ | ⟨h, _⟩ | ⟨h, _⟩ | ⟨h, _⟩
  · exact .inl h
  · exact .inr (.inl h)
  · exact .inr (.inr (.inl h))
  · exact .inr (.inr (.inr h))
theorem encF_short {f : Fd} (hf : f.Fit) (h : okF f = true) : (encF f).length ≤ 1048600 := by
  obtain ⟨h1, h2, h3⟩ := ok_typ h
  have e1 := (vN_le10 (hdF f) (by unfold hdF; omega)).1
  have hs := hf.short
  have hn := hf.n
  have e2 := (vN_le10 f.n (by omega)).1
  have e3 := (vN_le10 f.b.length (by omega)).1
  rw [encF_len]
  have : (bodyF f).length ≤ 1048590 := by
    unfold bodyF
    split
    · rw [List.length_append]; omega
    · split
      · rw [leN_len]; omega
      · split
        · rw [leN_len]; omega
        · omega
  omega
theorem fieldSize_any (f : Fd) (sa : Option Addr) (c : Nat) (w : World) (hf : f.Fit) (hk : okF f = true) :
    Calls Try.prog 23 #[.agg #[.int .i64 f.num, .int .i64 f.typ, .int .u64 (f.n : Int), .slice sa f.b.length c]] w fun e w' => e = .returned (.int .i64 ((encF f).length : Int)) ∧ Below w.heap.size w w' := by
  obtain ⟨h1, h2, h3⟩ := ok_typ hk
  have hs := hf.short
  have hn := hf.n
  obtain ⟨num, typ, n, b⟩ := f
  simp only at *
  rw [encF_len]
  rcases h3 with rfl | rfl | rfl | rfl
  · have h := size_0 num n sa b.length c w h1 h2 (by omega) hn (by omega)
    rw [Int.toNat_natCast] at h
    simpa [hdF, bodyF] using h
  · have h := size_1 num n sa b.length c w h1 h2 (by omega) hn (by omega)
    simpa [hdF, bodyF, leN_len] using h
  · have h := size_2 num n sa b.length c w h1 h2 (by omega) hn (by omega)
    simpa [hdF, bodyF] using h
  · have h := size_5 num n sa b.length c w h1 h2 (by omega) hn (by omega)
    simpa [hdF, bodyF, leN_len] using h
theorem appendField_any (base : Nat) (v : Value) (n : Nat) (xs : List Value) (f : Fd) (sa : Option Addr) (c : Nat) (w : World) (hf : f.Fit) (hk : okF f = true) (ho : w.ownsRow base 5 1 v n xs) (hb : base ≤ w.heap.size) (hn : n ≤ 40000000) (hS : ∀ W, Below base w W → Src W (.slice sa f.b.length c) f.b) :
    Calls Try.prog 24 #[v, .agg #[.int .i64 f.num, .int .i64 f.typ, .int .u64 (f.n : Int), .slice sa f.b.length c]] w fun e w' => (∃ v', e = .returned v' ∧ w'.ownsRow base 5 1 v' (n + (encF f).length) (xs ++ u8l (encF f))) ∧ Below base w w' := by
  obtain ⟨h1, h2, h3⟩ := ok_typ hk
  have hs := hf.short
  have hn' := hf.n
  obtain ⟨num, typ, m, b⟩ := f
  simp only at *
  rcases h3 with rfl | rfl | rfl | rfl
  · have h := app_0 base v n xs num m sa b.length c b w ho hb hn h1 h2 (by omega) hn' hS rfl (by omega)
    rw [Int.toNat_natCast] at h
    simpa [encF, hdF, bodyF] using h
  · have h := app_1 base v n xs num m sa b.length c b w ho hb hn h1 h2 (by omega) hn' hS rfl (by omega)
    rw [Int.toNat_natCast] at h
    simpa [encF, hdF, bodyF] using h
  · have h := app_2 base v n xs num m sa b.length c b w ho hb hn h1 h2 (by omega) hn' hS rfl (by omega)
    simpa [encF, hdF, bodyF] using h
  · have h := app_5 base v n xs num m sa b.length c b w ho hb hn h1 h2 (by omega) hn' hS rfl (by omega)
    rw [Int.toNat_natCast] at h
    simpa [encF, hdF, bodyF] using h
end Go.Proofs.Ytlgkajellndhlaa
