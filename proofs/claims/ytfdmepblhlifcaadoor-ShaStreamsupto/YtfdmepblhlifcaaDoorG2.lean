/- Bytes lent, and whether they were kept. -/
import Derived.Test.YtfdmepblhlifcaaDoorA7
import Derived.Laws.AppendOwnNone
import Derived.Laws.IdiomStrings
import Derived.Deep.MidRow
namespace Go.Proofs.YtfdmepblhlifcaaDoor
open Go.RowKit
set_option linter.unusedVariables false
set_option linter.unusedSimpArgs false

/-- Bytes lent: one more behind them. -/
def Lends (W : World) (n₀ g cp : Nat) (zs : List Int) : Prop := n₀ ≤ g ∧ zs.length + 1 ≤ cp ∧ BRow W g 0 (zs ++ [77])

theorem lends_own {w : World} {base g cp : Nat} {zs : List Int} (h : w.ownsRow base 5 1 (.slice (some ⟨g, 0, none⟩) (zs.length + 1) cp) (zs.length + 1) (u8l (zs ++ [77]))) (hz : Byt zs) (hl : (zs.length : Int) ≤ 140737488351232) : Lends w base g cp zs := by
  have hg : base ≤ g := by
    rcases h.2 with ⟨h', _⟩ | ⟨g', cp', cur, hv, hg, _⟩
    · cases h'
    · cases hv; exact hg
  refine ⟨hg, own_cap h, fun i hi => ?_, byt_app hz (byt_rep 1 77 (by decide) (by decide)), by simp; omega⟩
  rw [Nat.zero_add, h.cellAt i (by simpa using hi)]
  unfold u8l
  rw [List.getElem?_map, List.getD_eq_getElem?_getD, List.getElem?_eq_getElem hi]
  rfl

set_option maxRecDepth 20000 in
set_option maxHeartbeats 2000000 in
theorem lent_some (zs : List Int) (ad : Addr) (cap : Nat) (w : World) (hz : Byt zs) (hC : ∀ j u, (u8l zs)[j]? = some u → w.cell? (ad.add j) = some u) (hl : (zs.length : Int) ≤ 140737488351232) :
    Calls Tryd.prog 8 #[.slice (some ad) zs.length cap] w fun e w' => (∃ g cp, e = .returned (.slice (some ⟨g, 0, none⟩) zs.length cp) ∧ Lends w' w.heap.size g cp zs) ∧ Below w.heap.size w w' := by
  obtain ⟨i0, hi, hz0, hz1, hz2⟩ := info_parts info5
  have HC : Hid (∀ j u, (u8l zs)[j]? = some u → w.cell? (ad.add j) = some u) := hC
  have HZ : Hid (Byt zs) := hz
  clear hC hz
  go_enter Tryd.func8, Tryd.ntmps8
  go_wp2_with (first | (at_builtin; (refine wpList_append_own _ rfl (.tmp 4) (.tmp 5) 22 rfl w.heap.size 5 i0 (.int .u8 0) 1 1 Tryd.underlying22 hi hz0 hz1 hz2 rfl (by decide) _ 0 [] rfl (World.ownsRow_nil _ _ _ _) ad zs.length cap (u8l zs) rfl (by simp [u8l_len]) HC.out (u8l_one _) (by unfold maxLen; omega) (by omega) (Nat.le_refl _) ?_; intro v2 w2 hown2 hgrow2 hx2; clear hx2; (rw [Nat.zero_add, List.nil_append] at hown2); (have hb2 : Below w.heap.size w w2 := (Below.refl _ _).grown hgrow2 (Nat.le_refl _) (by intro k hk; cases hk)); (have HB2 : Hid (Below w.heap.size w w2) := hb2); (have HOWN2 : Hid (w2.ownsRow w.heap.size 5 1 v2 zs.length (u8l zs)) := hown2); clear hown2 hgrow2 hb2)) | (at_builtin; (refine wpList_append_own _ rfl (.tmp 7) (.tmp 8) 22 rfl w.heap.size 5 i0 (.int .u8 0) 1 1 Tryd.underlying22 hi hz0 hz1 hz2 rfl (by decide) _ zs.length (u8l zs) rfl (HOWN2.out.alloc _) ⟨w2.heap.size, 0, none⟩ 1 1 (u8l [77]) rfl rfl (cell_new1 w2 _ _) (u8l_one _) (by unfold maxLen; omega) (by omega) (by have := HB2.out.size; simp at *; omega) ?_; intro v3 w3 hown3 hgrow3 hx3; clear hx3; (rw [u8l_app] at hown3); (obtain ⟨g3, cp3, hv3⟩ := own_form hown3 (by omega)); (have hb3 : Below w.heap.size w2 w3 := ((Below.refl _ _).alloc (by have := HB2.out.size; simp at *; omega) _).grown hgrow3 (by have := HB2.out.size; simp at *; omega) (ownBlock_ge HOWN2.out)); (have HB3 : Hid (Below w.heap.size w2 w3) := hb3); (rw [hv3] at hown3); (rw [hv3]); (have HOWN3 : Hid (w3.ownsRow w.heap.size 5 1 (.slice (some ⟨g3, 0, none⟩) (zs.length + 1) cp3) (zs.length + 1) (u8l (zs ++ [77]))) := hown3); (have hcap : (zs.length : Int) ≤ (cp3 : Int) := by (have h := own_cap hown3); omega); clear hown3 hgrow3 hb3 hv3)))
  go_ret
  exact ⟨⟨g3, cp3, rfl, lends_own HOWN3.out HZ.out hl⟩, HB2.out.trans HB3.out⟩

set_option maxRecDepth 20000 in
set_option maxHeartbeats 2000000 in
theorem lent_none (w : World) :
    Calls Tryd.prog 8 #[.slice none 0 0] w fun e w' => (∃ g cp, e = .returned (.slice (some ⟨g, 0, none⟩) 0 cp) ∧ Lends w' w.heap.size g cp []) ∧ Below w.heap.size w w' := by
  obtain ⟨i0, hi, hz0, hz1, hz2⟩ := info_parts info5
  go_enter Tryd.func8, Tryd.ntmps8
  go_wp2_with (first | (at_builtin; (refine wpList_append_own_none rfl (.tmp 4) (.tmp 5) 22 rfl w.heap.size 5 i0 1 Tryd.underlying22 hi _ 0 [] rfl (World.ownsRow_nil _ _ _ _) rfl ?_)) | (at_builtin; (refine wpList_append_own _ rfl (.tmp 7) (.tmp 8) 22 rfl w.heap.size 5 i0 (.int .u8 0) 1 1 Tryd.underlying22 hi hz0 hz1 hz2 rfl (by decide) _ 0 [] rfl (World.ownsRow_nil _ _ _ _) ⟨w.heap.size, 0, none⟩ 1 1 (u8l [77]) rfl rfl (cell_new1 w _ _) (u8l_one _) (by unfold maxLen; omega) (by omega) (by simp) ?_; intro v3 w3 hown3 hgrow3 hx3; clear hx3; (obtain ⟨g3, cp3, hv3⟩ := own_form hown3 (by omega)); (have hb3 : Below w.heap.size w w3 := ((Below.refl _ _).alloc (Nat.le_refl _) _).grown hgrow3 (by simp) (by intro k hk; cases hk)); (have HB3 : Hid (Below w.heap.size w w3) := hb3); (rw [hv3] at hown3); (rw [hv3]); (have HOWN3 : Hid (w3.ownsRow w.heap.size 5 1 (.slice (some ⟨g3, 0, none⟩) 1 cp3) 1 (u8l ([] ++ [77]))) := hown3); clear hown3 hgrow3 hb3 hv3)))
  go_ret
  exact ⟨⟨g3, cp3, rfl, lends_own (zs := []) HOWN3.out (fun x hx => nomatch hx) (by decide)⟩, HB3.out⟩

def strB (zs : List Int) : List UInt8 := zs.map fun x => UInt8.ofNat x.toNat
theorem conv_cells (w : World) (ad : Addr) (cap : Nat) (zs : List Int) (hz : Byt zs) (hC : ∀ j u, (u8l zs)[j]? = some u → w.cell? (ad.add j) = some u) :
    (convert 22 9 (.slice (some ad) zs.length cap)).run Tryd.prog w = .ok (.string ⟨(strB zs).toArray⟩) w := by
  have h := run_convert_bytes_back (P := Tryd.prog) w 22 9 5 ad cap (strB zs) Tryd.underlying22 Tryd.underlying5 Tryd.underlying9 (fun j hj => by
    unfold strB at hj ⊢
    rw [List.length_map] at hj
    have hb := hz (zs.getD j 0) (by rw [List.getD_eq_getElem?_getD, List.getElem?_eq_getElem hj]; exact List.getElem_mem _)
    rw [List.getD_eq_getElem?_getD, List.getElem?_eq_getElem hj] at hb
    simp only [Option.getD_some] at hb
    refine hC j _ ?_
    unfold u8l
    rw [List.getElem?_map, List.getElem?_eq_getElem hj, List.getElem_map, UInt8.toNat_ofNat_of_lt' (by show _ < 256; omega)]
    simp only [Option.map_some, Option.some.injEq, Value.int.injEq, true_and]
    omega)
  unfold strB at h
  rw [List.length_map] at h
  exact h
theorem brow_front {W : World} {g : Nat} {zs : List Int} (R : BRow W g 0 (zs ++ [77])) : ∀ j u, (u8l zs)[j]? = some u → W.cell? ((⟨g, 0, none⟩ : Addr).add j) = some u := by
  intro j u h
  have h2 := cells_u8l R j u
  refine h2 ?_
  unfold u8l at h ⊢
  rw [List.map_append, List.getElem?_append_left (List.getElem?_eq_some_iff.1 h).1]
  exact h
set_option maxRecDepth 20000 in
set_option maxHeartbeats 2000000 in
theorem kept_some (zs : List Int) (g cp : Nat) (ad : Addr) (cap : Nat) (w : World) (hz : Byt zs) (hC : ∀ j u, (u8l zs)[j]? = some u → w.cell? (ad.add j) = some u) (hl : (zs.length : Int) ≤ 140737488351232) (hL : ∃ n₀, Lends w n₀ g cp zs) :
    Calls Tryd.prog 11 #[.slice (some ⟨g, 0, none⟩) zs.length cp, .slice (some ad) zs.length cap] w fun e w' => e = .returned (.bool true) ∧ w' = w := by
  obtain ⟨n₀, _, hcp, R⟩ := hL
  have c1 := conv_cells w ⟨g, 0, none⟩ cp zs hz (brow_front R)
  have c2 := conv_cells w ad cap zs hz hC
  have k7 : w.cell? ⟨g, zs.length, none⟩ = some (.int .u8 77) := by
    have h := R.cell zs.length (by simp)
    rw [Nat.zero_add] at h
    simpa using h
  have m1 : (zs.length : Int) + 1 ≤ (cp : Int) := by omega
  obtain ⟨X, hX⟩ : ∃ X : Value, X = .string ⟨(strB zs).toArray⟩ := ⟨_, rfl⟩
  generalize hS : (strB zs).toArray = S at c1 c2
  clear hX hS hC R hz
  obtain ⟨L, hLL⟩ : ∃ L, zs.length = L := ⟨_, rfl⟩
  rw [hLL] at c1 c2 k7 m1 hl hcp ⊢
  clear hLL hcp
  go_enter Tryd.func11, Tryd.ntmps11
  go_wp2_with fail
  go_ret
  exact ⟨rfl, rfl⟩
theorem kept_none (g cp : Nat) (w : World) (hL : ∃ n₀, Lends w n₀ g cp []) :
    Calls Tryd.prog 11 #[.slice (some ⟨g, 0, none⟩) 0 cp, .slice none 0 0] w fun e w' => e = .returned (.bool true) ∧ w' = w := by
  obtain ⟨n₀, _, hcp, R⟩ := hL
  have c1 := conv_cells w ⟨g, 0, none⟩ cp [] (fun x hx => nomatch hx) (fun j u h => by simp [u8l] at h)
  have c2 : (convert 22 9 (.slice none 0 0)).run Tryd.prog w = .ok (.string ⟨#[]⟩) w := by kernel_rfl
  have k7 : w.cell? ⟨g, 0, none⟩ = some (.int .u8 77) := by
    have h := R.cell 0 (by simp)
    simpa using h
  have m1 : (1 : Int) ≤ (cp : Int) := by simp at hcp; omega
  have c1' : (convert 22 9 (.slice (some ⟨g, 0, none⟩) 0 cp)).run Tryd.prog w = .ok (.string ⟨#[]⟩) w := c1
  clear c1 R hcp
  go_enter Tryd.func11, Tryd.ntmps11
  go_wp2_with fail
  go_ret
  exact ⟨rfl, rfl⟩
end Go.Proofs.YtfdmepblhlifcaaDoor
