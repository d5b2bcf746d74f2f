/- A block is taken in: what else lies as it lay. -/
import Derived.Test.YtfdmepblhlifcaaDoorI1
namespace Go.Proofs.YtfdmepblhlifcaaDoor
open Go.RowKit
set_option linter.unusedVariables false
set_option linter.unusedSimpArgs false

/-- All blocks below B but two lie as they lay. -/
def Bo (p o B : Nat) (w w' : World) : Prop := ∀ k, k < B → k ≠ p → k ≠ o → w'.heap[k]? = w.heap[k]?
theorem Bo.refl (p o B : Nat) (w : World) : Bo p o B w w := fun _ _ _ _ => rfl
theorem Bo.trans {p o B : Nat} {u v w : World} (h : Bo p o B u v) (k : Bo p o B v w) : Bo p o B u w := fun i hi hp ho => (k i hi hp ho).trans (h i hi hp ho)
theorem Bo.of {p o B : Nat} {w w' : World} (h : Below B w w') : Bo p o B w w' := fun k hk _ _ => h.block k hk
theorem Bo.setCell (p o B : Nat) (w : World) (k : Nat) (v : Value) : Bo p o B w (w.setCell ⟨p, k, none⟩ v) := fun i _ hi _ => Below.heap_setCell _ _ _ _ (by exact hi)
theorem Bo.setRow (p o B : Nat) (w : World) (cs : Array Value) : Bo p o B w (w.setRow p cs) := fun i _ hi _ => setRow_other _ _ _ _ hi
theorem Bo.drew (p o B : Nat) (w : World) : Bo p o B w w.drew := fun _ _ _ _ => rfl
/-- A row that lies in the block o, or in a new one. -/
def Near (o B : Nat) (v : Value) : Prop := ∀ g, v.ownBlock = some g → g = o ∨ B ≤ g
theorem Bo.grown {p o B : Nat} {w w' : World} {v : Value} (h : w.grownBy w' v.ownBlock) (hn : Near o B v) (hB : B ≤ w.heap.size) : Bo p o B w w' := fun k hk _ ho => h.block k (by omega) (by
  intro e
  rcases hn k e.symm with h1 | h1
  · exact ho h1
  · omega)

set_option maxRecDepth 20000 in
set_option maxHeartbeats 4000000 in
theorem close_o (o B p base k : Nat) (s : List Int) (n : Int) (pv : Value) (rest : List Int) (left : Int) (xs : List Value) (w : World) (R : Roots w) (h0 : 0 < w.heap.size) (h : Str w p s n pv rest left) (hs : s.length = 8) (hw : W32 s) (hr : rest.length = 64) (hrb : Byt rest) (n0 : 0 ≤ n) (n1 : n < 9223372036854775000) (hne : s = beginI ∨ n ≠ 0)
    (hp : p < base) (hb : base ≤ w.heap.size) (hown : w.ownsRow base 23 32 pv k xs) (hk : k ≤ 4000000000000) (hN : Near o B pv) (hBw : B ≤ w.heap.size) :
    Calls Tryd.prog 37 #[.pointer (some ⟨p, 0, none⟩)] w fun e w' => (∃ v, e = .returned v) ∧ (∃ pv', Str w' p (afterI s rest) (n + 1) pv' rest 0 ∧ w'.ownsRow base 23 32 pv' (k + 1) (xs ++ u8l (bytesI (afterI s rest))) ∧ Near o B pv') ∧ Bx p base w w' ∧ Bo p o B w w' := by
  have HNB : Hid (Near o B pv ∧ B ≤ w.heap.size) := ⟨hN, hBw⟩
  clear hN hBw
  have HR : Hid (Roots w) := R
  have HH : Hid (Str w p s n pv rest left) := h
  have HSL : Hid (s.length = 8) := hs
  have HRL : Hid (rest.length = 64 ∧ Byt rest) := ⟨hr, hrb⟩
  have HSW : Hid (W32 s) := hw
  have HP : Hid (p < base ∧ base ≤ w.heap.size) := ⟨hp, hb⟩
  have HOWN : Hid (w.ownsRow base 23 32 pv k xs) := hown
  have HNE : Hid (s = beginI ∨ n ≠ 0) := hne
  obtain ⟨a8, aw⟩ := after_ok s rest hs hw
  have HA : Hid ((afterI s rest).length = 8 ∧ W32 (afterI s rest)) := ⟨a8, aw⟩
  have e9 : (chainV (afterI s rest) (n + 1)).size = 9 := by rw [size_chain, a8]
  have u64 : Tryd.prog.underlying 64 = some (.array 64 5) := Tryd.underlying64
  have i64 : (Tryd.prog.info? 64).map (·.size) = some (u8l rest).length := by rw [u8l_len, hr]; kernel_rfl
  have l64 : (u8l rest).length = 64 := by rw [u8l_len, hr]
  have o64 := u8l_one rest
  have HD : Hid (Str w.drew p s n pv rest left) := h
  have HST : Hid (∀ W, Str W p s n pv rest left → (storeCells ⟨p, 0, none⟩ (chainV (afterI s rest) (n + 1)).toList 0).run Tryd.prog W = .ok () (W.setRow p (strC (afterI s rest) (n + 1) pv rest left).toArray)) := by
    intro W hW
    have hl : (chainV (afterI s rest) (n + 1)).toList.length = 9 := by simp [chainV, u32s, a8]
    have hsc := run_storeCells_at Tryd.prog p 0 69 (chainV (afterI s rest) (n + 1)).toList 0 (strC s n pv rest left).toArray W hW (by simp [strC, u32l_len, hs, a8, chainV, u32s]; omega) (fun v hv => (Array.all_eq_true_iff_forall_mem.1 (one_chain (afterI s rest) (n + 1))) v (by simpa using hv))
    have e : (strC s n pv rest left).toArray.toList.take (0 + 0) ++ (chainV (afterI s rest) (n + 1)).toList ++ (strC s n pv rest left).toArray.toList.drop (0 + 0 + (chainV (afterI s rest) (n + 1)).toList.length) = strC (afterI s rest) (n + 1) pv rest left := by
      rw [hl]
      simp only [Nat.add_zero, Nat.zero_add, List.take_zero, List.nil_append]
      have e1 : (strC s n pv rest left).drop 9 = pv :: (u8l rest ++ [.int .i64 left]) := by
        unfold strC
        rw [List.drop_append, List.drop_eq_nil_of_le (by rw [u32l_len]; omega), u32l_len, hs]
        rfl
      rw [e1]
      simp [strC, chainV, u32s, u32l]
    rw [e] at hsc
    exact hsc
  clear R h hs hr hrb hw hp hb hown hne a8 aw
  go_enter Tryd.func37, Tryd.ntmps37
  go_wp2_with fail
  go_region_held3 (fun w' => w'.rangeAt p 10 (u8l rest)) (first | exact HD.out.range HSL.out | exact HS1.out.range HSL.out | exact HS2.out.range HSL.out | exact HS3.out.range HA.out.1) (first | (go_at_call 40; (refine (chain_any p s n pv rest left _ HD.out HSL.out HSW.out n0 (by omega) HNE.out).mono ?_; rintro e w1 ⟨rfl, hb1⟩; (have HB1 : Hid (Below w.heap.size w w1) := ((Below.refl _ w).drew).trans hb1); (have HS1 : Hid (Str w1 p s n pv rest left) := HD.out.later (hb1.block _ HD.out.lt)); clear hb1)) | (go_at_call 42; (refine (after_any s rest n w1 (roots_later HR.out h0 HB1.out) (by have := HB1.out.size; omega) HSL.out HSW.out HRL.out.1 HRL.out.2 n0 (by omega)).mono ?_; rintro e w2 ⟨rfl, hb2⟩; (have HS2 : Hid (Str w2 p s n pv rest left) := HS1.out.later (hb2.block _ HS1.out.lt)); (have HB2 : Hid (Below w.heap.size w w2) := HB1.out.trans (hb2.mono HB1.out.size)); (have hst := HST.out w2 HS2.out); (have HS3 : Hid (Str (w2.setRow p (strC (afterI s rest) (n + 1) pv rest left).toArray) p (afterI s rest) (n + 1) pv rest left) := setRow_heap _ _ _ _ _ _ HS2.out); clear hb2)))
  have HB4 : Hid (Bx p base w (w2.setRow p (strC (afterI s rest) (n + 1) pv rest left).toArray)) := (Bx.of (HB2.out.mono HP.out.2)).trans (Bx.setRow p base w2 _)
  have HO4 : Hid (Bo p o B w (w2.setRow p (strC (afterI s rest) (n + 1) pv rest left).toArray)) := (Bo.of (HB2.out.mono HNB.out.2)).trans (Bo.setRow p o B w2 _)
  have HOWN4 : Hid ((w2.setRow p (strC (afterI s rest) (n + 1) pv rest left).toArray).ownsRow base 23 32 pv k xs) := own_kept HOWN.out fun g hg hlt => (setRow_other _ _ _ _ (by have := HP.out; omega)).trans (HB2.out.block g hlt)
  obtain ⟨W4, hW4⟩ : ∃ W4, w2.setRow p (strC (afterI s rest) (n + 1) pv rest left).toArray = W4 := ⟨_, rfl⟩
  have hsz4 : w.heap.size ≤ W4.heap.size := by rw [← hW4]; exact HB4.out.size
  rw [hW4] at HB4 HO4 HOWN4 HS3 ⊢
  obtain ⟨i0, hi, hz0, hz1, hz2⟩ := info_parts info23
  obtain ⟨D, hD⟩ : ∃ D, bytesI (afterI s rest) = D := ⟨_, rfl⟩
  have HDL : Hid (D.length = 32) := by show _ = _; rw [← hD, bytes_len, HA.out.1]
  have HC31 : Hid (∀ W, Calls Tryd.prog 31 #[.agg (chainV (afterI s rest) (n + 1))] W fun e w' => e = .returned (.agg (u8s D)) ∧ Below W.heap.size W w') := by
    intro W
    rw [← hD]
    exact bytes_any (afterI s rest) (n + 1) W HA.out.1 HA.out.2
  have hf32 := fold32 D HDL.out
  have e32 : (u8s D).size = 32 := by rw [size_u8s, HDL.out]
  rw [e32] at hf32
  obtain ⟨A, B', C, E, F, G, H, Q, hT⟩ := len8 HA.out.1
  have HTT : Hid (afterI s rest = [A, B', C, E, F, G, H, Q]) := hT
  have HDD : Hid (bytesI (afterI s rest) = D) := hD
  rw [hT] at HS3 HC31
  have HSZ : Hid (p < base ∧ base ≤ W4.heap.size) := ⟨HP.out.1, Nat.le_trans HP.out.2 hsz4⟩
  have HD4 : Hid (Str W4.drew p [A, B', C, E, F, G, H, Q] (n + 1) pv rest left) := HS3.out
  clear hW4 hsz4 hst HS1 HS2 HB1 HB2 HST HD HH HOWN e9 i64 l64 o64 u64 hT hD
  clear HA
  obtain ⟨c9, c0, c1, c2, c3, c4, c5, c6, c7, c8⟩ := HS3.out.cells9
  go_wp2_with fail
  go_region_law (first | (refine step_append_lies _ rfl (.tmp 16) (.tmp 22) 44 rfl base 23 i0 (.agg (u8s (List.replicate 32 0))) 32 32 Tryd.underlying44 hi hz0 hz1 hz2 rfl (by decide) pv k xs (by simp [Act.eval, Act.put]) (HOWN5.out.alloc _) ⟨w5.heap.size, 0, none⟩ 1 1 (u8l D) (by simp [Act.eval, Act.put]) (by rw [u8l_len, HDL.out]) (World.news_of_block (Go.heap_alloc_new _ _)) (u8l_one _) (by decide) (by unfold maxLen; omega) (by omega) (by have h1 := HSZ.out.2; have h2 := HB5.out.size; simp; omega) (w5.heap.size + 1) (by simp) ?_; intro g6 cp6 w6 hown6 hgrow6 hx6 hy6; clear hy6; (have HN6 : Hid (Near o B (.slice (some ⟨g6, 0, none⟩) (k + 1) cp6)) := (by intro g hg; (have hgg : g6 = g := by simpa [Value.ownBlock] using hg); rw [← hgg]; rcases hx6 with h | h; exact HNB.out.1 g6 h; right; (have h1 := HNB.out.2); (have h2 := HB5.out.size); (have h3 := HB4.out.size); omega)); (have HO6 : Hid (Bo p o B w5 w6) := ((Bo.of (((Below.refl B w5).alloc (Nat.le_trans HNB.out.2 (Nat.le_trans HB4.out.size HB5.out.size)) _))).trans (Bo.grown hgrow6 HNB.out.1 (by have h1 := HNB.out.2; have h2 := HB5.out.size; have h3 := HB4.out.size; simp; omega)))); clear hx6; (have hb6 : Below base w5 w6 := ((Below.refl _ _).alloc (Nat.le_trans HSZ.out.2 HB5.out.size) _).grown hgrow6 (by have h1 := HSZ.out.2; have h2 := HB5.out.size; simp; omega) (ownBlock_ge HOWN5.out)); (have HB6 : Hid (Below base w5 w6) := hb6); (have HOWN6 : Hid (w6.ownsRow base 23 32 (.slice (some ⟨g6, 0, none⟩) (k + 1) cp6) (k + 1) (xs ++ u8l D)) := hown6); (have HS6 : Hid (Str w6 p [A, B', C, E, F, G, H, Q] (n + 1) pv rest left) := HS5.out.later (hb6.block _ HSZ.out.1)); (have c9 := HS6.out.pastAt rfl); (have f9 := HS6.out.frozen 9); clear hown6 hgrow6 hb6) | (refine step_call rfl 31 (.tmp 20) _ rfl _ (by simp [Act.eval, Act.put]; rfl) (enters_of Tryd.func31 (by kernel_rfl) rfl) ?_; refine (HC31.out _).mono ?_; rintro e w5 ⟨rfl, hb5⟩; (have HB5 : Hid (Below W4.heap.size W4 w5) := ((Below.refl _ W4).drew).trans hb5); (have HS5 : Hid (Str w5 p [A, B', C, E, F, G, H, Q] (n + 1) pv rest left) := HS3.out.later (HB5.out.block _ HS3.out.lt)); (have c9b := HS5.out.pastAt rfl); (have c9c : (w5.alloc (.cells (u8s D) 23)).cell? ⟨p, 9, none⟩ = some pv := (HS5.out.later (Below.heap_alloc _ _ _ HS5.out.lt)).pastAt rfl); (have HOWN5 : Hid (w5.ownsRow base 23 32 pv k xs) := own_kept HOWN4.out fun g hg hlt => HB5.out.block g hlt); clear hb5; refine ⟨_, rfl, ?_⟩))
  all_goals (
    have HS7 : Hid (Str (w6.setCell ⟨p, 9, none⟩ (.slice (some ⟨g6, 0, none⟩) (k + 1) cp6)) p [A, B', C, E, F, G, H, Q] (n + 1) (.slice (some ⟨g6, 0, none⟩) (k + 1) cp6) rest left) := HS6.out.setPast rfl _
    have HOWN7 : Hid ((w6.setCell ⟨p, 9, none⟩ (.slice (some ⟨g6, 0, none⟩) (k + 1) cp6)).ownsRow base 23 32 (.slice (some ⟨g6, 0, none⟩) (k + 1) cp6) (k + 1) (xs ++ u8l D)) := own_kept HOWN6.out fun g hg hlt => Below.heap_setCell _ _ _ _ (by have := HSZ.out.1; show g ≠ p; omega)
    have HB7 : Hid (Bx p base w (w6.setCell ⟨p, 9, none⟩ (.slice (some ⟨g6, 0, none⟩) (k + 1) cp6))) := (HB4.out.trans (Bx.of (HB5.out.mono HSZ.out.2))).trans ((Bx.of HB6.out).trans (Bx.setCell p base w6 9 _))
    have HO7 : Hid (Bo p o B w (w6.setCell ⟨p, 9, none⟩ (.slice (some ⟨g6, 0, none⟩) (k + 1) cp6))) := (HO4.out.trans (Bo.of (HB5.out.mono (Nat.le_trans HNB.out.2 HB4.out.size)))).trans (HO6.out.trans (Bo.setCell p o B w6 9 _))
    obtain ⟨W7, hW7⟩ : ∃ W7, w6.setCell ⟨p, 9, none⟩ (.slice (some ⟨g6, 0, none⟩) (k + 1) cp6) = W7 := ⟨_, rfl⟩
    rw [hW7] at HS7 HOWN7 HB7 HO7 ⊢
    have c74 := HS7.out.leftAt rfl HRL.out.1
    have f74 := HS7.out.frozen 74
    clear hW7 hf32 e32 c9 c0 c1 c2 c3 c4 c5 c6 c7 c8 c9b c9c f9
    go_wp2_with fail
    go_end0
    refine ⟨⟨_, rfl⟩, ⟨.slice (some ⟨g6, 0, none⟩) (k + 1) cp6, ?_, ?_, HN6.out⟩, HB7.out.trans (Bx.setCell p base W7 74 _), HO7.out.trans (Bo.setCell p o B W7 74 _)⟩
    · rw [HTT.out]
      exact HS7.out.setLeft rfl HRL.out.1 0
    · rw [HDD.out]
      exact own_kept HOWN7.out fun g hg hlt => Below.heap_setCell _ _ _ _ (by have := HSZ.out.1; show g ≠ p; omega))
end Go.Proofs.YtfdmepblhlifcaaDoor
