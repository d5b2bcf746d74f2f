/- A table of fixed turns: Tenants. -/
import Derived.Test.YtkigagglkmdccaaTn
import Derived.ArgAppend
import Derived.Deep.Upon
import Derived.Deep.RegionLawGrows
namespace Go.Proofs.Ytkigagglkmdccaa
open Go.RowKit
set_option linter.unusedVariables false
set_option linter.unusedSimpArgs false

theorem info9 : (Try.prog.info? 9).map (fun i => (i.zero, i.size, i.bytes)) = some (some (.string { data := #[] }), 1, 16) := by kernel_rfl
set_option maxRecDepth 20000 in
set_option maxHeartbeats 4000000 in
theorem ttens_any {w : World} {T : Nat} {a : Pa} {x : Fx} (h : TR w T a x) (hl : x.ns.length ≤ 16) : Calls Try.prog 17 #[.pointer (some ⟨T, 0, none⟩)] w fun e w' => (∃ sv cap, e = .returned (.slice sv x.ns.length cap) ∧ (x.ns = [] ∨ w'.ownsRow w.heap.size 9 1 (.slice sv x.ns.length cap) x.ns.length (x.ns.map strV))) ∧ Below w.heap.size w w' := by
  obtain ⟨-, -, c2, -, -⟩ := h.cells
  have hn := h.names
  have HI : Hid _ := info_parts info9
  obtain ⟨i0, hi, hz0, hz1, hz2⟩ := HI.out
  by_cases hz : x.ns = []
  · have HZ : Hid (x.ns = []) := hz
    have hlen : x.ns.length = 0 := by rw [hz]; rfl
    rw [hlen]
    rcases hn.2 with ⟨h1, h2⟩ | ⟨g, cap, cur, h1, h2, h3, h4, h5, h6, h7⟩
    · rw [h1] at c2
      have hap : ∀ (V : World) (ty : TypeId), (Builtin.append_ #[35, 35] ty #[.slice none 0 0, .slice none 0 0]).run Try.prog V = .ok (.slice none 0 0) V := fun V ty => run_append_nothing V 35 35 ty 9 i0 Try.underlying35 hi none 0 0 (Nat.le_refl _) (.slice none 0 0) (Src.ofNil V Try.underlying35 0)
      clear h hn h1 h2 hz hlen hl HI hi hz0 hz1 hz2
      go_enter Try.func17, Try.ntmps17
      go_upto_region 3 with fail
      go_region_with fail
      all_goals
        go_wp2_with fail
        go_ret
        exact ⟨⟨_, _, rfl, .inl HZ.out⟩, belN (Below.refl _ w) _⟩
    · rw [h1, hlen] at c2
      have hap : ∀ (V : World) (ty : TypeId), (Builtin.append_ #[35, 35] ty #[.slice (some ⟨g, 0, none⟩) 0 0, .slice (some ⟨g, 0, none⟩) 0 cap]).run Try.prog V = .ok (.slice (some ⟨g, 0, none⟩) 0 0) V := fun V ty => run_append_nothing V 35 35 ty 9 i0 Try.underlying35 hi (some ⟨g, 0, none⟩) 0 0 (Nat.le_refl _) (.slice (some ⟨g, 0, none⟩) 0 cap) (Src.ofSlice V Try.underlying35 ⟨g, 0, none⟩ 0 cap [] (by simp) (fun j u hj => by simp at hj) (fun u hu => by simp at hu))
      clear h hn h1 h2 h3 h4 h5 h6 h7 hz hlen hl HI hi hz0 hz1 hz2
      go_enter Try.func17, Try.ntmps17
      go_upto_region 3 with fail
      go_region_with fail
      all_goals
        go_wp2_with fail
        go_ret
        exact ⟨⟨_, _, rfl, .inl HZ.out⟩, belN (Below.refl _ w) _⟩
  · have hpos : 0 < x.ns.length := List.length_pos_iff.2 hz
    obtain ⟨g, cap, hsl⟩ := own_form hn (by omega)
    rw [hsl] at c2
    have hcell : ∀ j u, (x.ns.map strV)[j]? = some u → w.drew.cell? ((⟨g, 0, none⟩ : Addr).add j) = some u := fun j u hu => by
      unfold RowS at hn
      rw [hsl] at hn
      exact hn.cells (g := g) rfl j u hu
    have hcap : (x.ns.length : Int) ≤ cap := by have := own_cap (hsl ▸ hn); omega
    have HCC : Hid (∀ j u, (x.ns.map strV)[j]? = some u → w.drew.cell? ((⟨g, 0, none⟩ : Addr).add j) = some u) := hcell
    have H1 : Hid (∀ u ∈ x.ns.map strV, u.oneCell' = true) := fun u hu => by
      obtain ⟨y, _, rfl⟩ := List.mem_map.1 hu
      rfl
    obtain ⟨n, hnn⟩ : ∃ n, x.ns.length = n := ⟨_, rfl⟩
    have HN : Hid (x.ns.length = n) := hnn
    rw [hnn] at c2 hl hpos hcap ⊢
    clear h hn hsl hz HI hcell hnn
    go_enter Try.func17, Try.ntmps17
    go_upto_region 3 with fail
    go_region_law (refine step_append_grows rfl (.tmp 9) (.tmp 13) 35 rfl 9 i0 (.string { data := #[] }) 1 16 Try.underlying35 hi hz0 hz1 hz2 rfl (by decide) (some ⟨g, 0, none⟩) 0 0 [] (by simp [Act.eval, Act.put]) (fun k => by cases k) rfl (fun b hb j u hj => by simp at hj) ⟨g, 0, none⟩ n cap (x.ns.map strV) (by simp [Act.eval, Act.put]) (by simp [HN.out]) HCC.out H1.out (by omega) (by unfold maxLen; omega) (by omega) ?_; intro v' w' r1 r2; (rw [List.nil_append, Nat.zero_add] at r1); (obtain ⟨sv, cp, rfl⟩ := own_slice r1); (have HR : Hid (w'.ownsRow w.heap.size 9 1 (.slice sv n cp) n (x.ns.map strV) ∧ Below w.heap.size w w') := ⟨r1, (Below.drew' (Below.refl _ w)).grown r2 (Nat.le_refl _) (fun k hk => by cases hk)⟩); clear r1 r2)
    all_goals
      go_wp2_with fail
      go_ret
      exact ⟨⟨_, _, rfl, .inr HR.out.1⟩, HR.out.2⟩
end Go.Proofs.Ytkigagglkmdccaa
