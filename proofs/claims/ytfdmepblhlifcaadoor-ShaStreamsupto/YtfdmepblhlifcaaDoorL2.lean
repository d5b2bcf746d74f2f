/- A stream's copy. -/
import Derived.Test.YtfdmepblhlifcaaDoorL1
namespace Go.Proofs.YtfdmepblhlifcaaDoor
open Go.RowKit Go.Shelf
set_option linter.unusedVariables false
set_option linter.unusedSimpArgs false

set_option maxRecDepth 20000 in
set_option maxHeartbeats 2000000 in
theorem clone_any (base k : Nat) (pv : Value) (xs : List Value) (w : World) (hk : k ≤ 4000000000000) (ho : w.ownsRow base 23 32 pv k xs) (h1 : ∀ u ∈ xs, u.oneCell' = true) :
    Calls Tryd.prog 38 #[pv] w fun e w' => (∃ pv', e = .returned pv' ∧ w'.ownsRow w.heap.size 23 32 pv' k xs) ∧ Below w.heap.size w w' := by
  obtain ⟨i0, hi, hz0, hz1, hz2⟩ := info_parts info23
  have HO : Hid (w.ownsRow base 23 32 pv k xs) := ho
  rcases ho.2 with ⟨rfl, h0⟩ | ⟨g, cap, cur, rfl, hg, hcell, hlc, _⟩
  · have hq : ∀ w, (binOp .eql 44 (.slice none 0 0) (.slice none 0 0)).run Tryd.prog w = .ok (.bool true) w := fun w => by kernel_rfl
    clear ho
    go_enter Tryd.func38, Tryd.ntmps38
    go_wp2_with fail
    go_ret
    have hx := HO.out.1
    rw [h0] at hx
    have : xs = [] := List.eq_nil_of_length_eq_zero (by simpa using hx)
    rw [h0, this]
    exact ⟨⟨_, rfl, World.ownsRow_nil _ _ _ _⟩, Below.refl _ _⟩
  · have hq : ∀ w, (binOp .eql 44 (.slice (some ⟨g, 0, none⟩) k cap) (.slice none 0 0)).run Tryd.prog w = .ok (.bool false) w := fun w => by kernel_rfl
    have HXL : Hid (xs.length = k * 32) := ho.1
    have HCE : Hid (∀ W, Below w.heap.size w W → ∀ j u, xs[j]? = some u → W.cell? ((⟨g, 0, none⟩ : Addr).add j) = some u) := by
      intro W hW j u hu
      have hq := HO.out.cells (g := g) rfl j u hu
      rw [hW.cell (World.block_lt_of_cell? w _ hq)]
      exact hq
    have HH1 : Hid (∀ u ∈ xs, u.oneCell' = true) := h1
    clear ho hcell hlc h1
    go_enter Tryd.func38, Tryd.ntmps38
    go_wp2_with (refine wpList_append_own _ rfl (.tmp 5) (.tmp 6) 44 rfl w.heap.size 23 i0 (.agg (u8s (List.replicate 32 0))) 32 32 Tryd.underlying44 hi hz0 hz1 hz2 rfl (by decide) (.slice (some ⟨w.heap.size, 0, none⟩) 0 0) 0 [] rfl (World.ownsRow_lit w #[] 0 (Nat.le_refl _) (by decide) rfl) ⟨g, 0, none⟩ k cap xs rfl HXL.out (HCE.out _ ((Below.refl _ w).alloc (Nat.le_refl _) _)) HH1.out (by unfold maxLen; omega) (by omega) (by simp) ?_; intro v' w1 hown' hgrow _)
    go_ret
    rw [Nat.zero_add, List.nil_append] at hown'
    refine ⟨⟨_, rfl, hown'⟩, ((Below.refl _ w).alloc (Nat.le_refl _) _).grown hgrow (by simp) ?_⟩
    intro j ej
    simp [Value.ownBlock] at ej
    omega

set_option maxRecDepth 100000 in
set_option maxHeartbeats 2000000 in
theorem copy_any (p base k : Nat) (s : List Int) (n : Int) (pv : Value) (rest : List Int) (left : Int) (xs : List Value) (w : World) (h : Str w p s n pv rest left) (hs : s.length = 8) (hr : rest.length = 64) (hk : k ≤ 4000000000000) (ho : w.ownsRow base 23 32 pv k xs) (h1 : ∀ u ∈ xs, u.oneCell' = true) :
    Calls Tryd.prog 23 #[.pointer (some ⟨p, 0, none⟩)] w fun e w' => e = .returned (.pointer (some ⟨w.heap.size, 0, none⟩)) ∧ (∃ pv', Str w' w.heap.size s n pv' rest left ∧ w'.ownsRow (w.heap.size + 1) 23 32 pv' k xs) ∧ Below w.heap.size w w' := by
  have hz : ∀ w, (zeroValue 69).run Tryd.prog w = .ok (.agg (strC (List.replicate 8 0) 0 (.slice none 0 0) (List.replicate 64 0) 0).toArray) w := fun w => by kernel_rfl
  have HH : Hid (Str w p s n pv rest left) := h
  have HS : Hid (s.length = 8 ∧ rest.length = 64) := ⟨hs, hr⟩
  obtain ⟨sa, sl, sc, hsv⟩ : ∃ a l c, pv = .slice a l c := by
    rcases ho.2 with ⟨h, _⟩ | ⟨g', cap, cur, hv, _⟩
    · exact ⟨_, _, _, h⟩
    · exact ⟨_, _, _, hv⟩
  subst hsv
  obtain ⟨W, hW⟩ : ∃ W, (w.alloc (.cells (strC (List.replicate 8 0) 0 (.slice none 0 0) (List.replicate 64 0) 0).toArray 69)).setRow w.heap.size (strC s n (.slice sa sl sc) rest left).toArray = W := ⟨_, rfl⟩
  have HQ : Hid (Str W w.heap.size s n (.slice sa sl sc) rest left) := by show Str _ _ _ _ _ _ _; rw [← hW]; exact setRow_heap _ _ _ _ _ _ (Go.heap_alloc_new _ _)
  have HB : Hid (Below w.heap.size w W) := by show Below _ _ _; rw [← hW]; exact below_setRow ((Below.refl _ w).alloc (Nat.le_refl _) _) (Nat.le_refl _) _
  have HWS : Hid (W.heap.size = w.heap.size + 1) := by show _ = _; rw [← hW]; simp
  have HPW : Hid (Str W p s n (.slice sa sl sc) rest left) := h.later (HB.out.block _ h.lt)
  have HOW : Hid (W.ownsRow base 23 32 (.slice sa sl sc) k xs) := own_kept ho fun g _ hg => HB.out.block g hg
  have HST : Hid ((storeVar 69 ⟨w.heap.size, 0, none⟩ (.agg (strC s n (.slice sa sl sc) rest left).toArray)).run Tryd.prog (w.alloc (.cells (strC (List.replicate 8 0) 0 (.slice none 0 0) (List.replicate 64 0) 0).toArray 69)) = .ok () W) := by
    show _ = _
    rw [← hW]
    exact run_storeVar_row _ w.heap.size 69 69 _ _ (Go.heap_alloc_new _ _) (by rw [List.size_toArray, strC_len hs hr]; kernel_rfl) (by rw [List.size_toArray, List.size_toArray, strC_len hs hr]; rfl) (strC_one _ _ _ _ _ _ _)
  have HLD : Hid ((loadVar 69 ⟨p, 0, none⟩).run Tryd.prog w = .ok (.agg (strC s n (.slice sa sl sc) rest left).toArray) w) := run_loadVar_row _ _ 69 69 _ (0, 0) _ h Tryd.underlying69 rfl (by rw [List.size_toArray, strC_len hs hr]; kernel_rfl)
  have HC1 : Hid (∀ u ∈ xs, u.oneCell' = true) := h1
  have c9 := HPW.out.pastAt hs
  clear h hs hr ho hW h1
  go_enter Tryd.func23, Tryd.ntmps23
  go_wp2_with (first | (refine wpList_loadV 69 _ rfl rfl ⟨p, 0, none⟩ rfl _ HLD.out ?_) | (refine wpList_storeV 69 _ _ rfl rfl ⟨w.heap.size, 0, none⟩ rfl _ rfl HST.out ?_) | (go_at_call 38; refine (clone_any base k (.slice sa sl sc) xs W hk HOW.out HC1.out).mono ?_; rintro e w1 ⟨⟨pv', rfl, hown'⟩, hb1⟩; obtain ⟨ta, tl, tc, htv⟩ : ∃ a l c, pv' = .slice a l c := (by rcases hown'.2 with ⟨h, _⟩ | ⟨g', cap, cur, hv, _⟩; exact ⟨_, _, _, h⟩; exact ⟨_, _, _, hv⟩); subst htv; (have HQ1 : Hid (Str w1 w.heap.size s n (.slice sa sl sc) rest left) := HQ.out.later (hb1.block _ (by have := HWS.out; omega))); (have cq := HQ1.out.pastAt HS.out.1); (have fq := HQ1.out.frozen 9); (have HOO : Hid (w1.ownsRow (w.heap.size + 1) 23 32 (.slice ta tl tc) k xs) := (by have hh := hown'; rw [HWS.out] at hh; exact hh)); (have HB1 : Hid (Below w.heap.size w w1) := HB.out.trans (hb1.mono HB.out.size)); clear hown' hb1))
  go_ret
  exact ⟨rfl, ⟨.slice ta tl tc, HQ1.out.setPast HS.out.1 _, own_kept HOO.out fun g hg hlt => Below.heap_setCell _ _ _ _ (by show g ≠ w.heap.size; omega)⟩, HB1.out.setCell (Nat.le_refl _) _⟩
end Go.Proofs.YtfdmepblhlifcaaDoor
