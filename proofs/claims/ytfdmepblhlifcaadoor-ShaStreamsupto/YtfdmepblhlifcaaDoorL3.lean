/- The digest of what a stream holds. -/
import Derived.Test.YtfdmepblhlifcaaDoorL2
import Derived.Test.YtfdmepblhlifcaaDoorA8
namespace Go.Proofs.YtfdmepblhlifcaaDoor
open Go.RowKit Go.Shelf
set_option linter.unusedVariables false
set_option linter.unusedSimpArgs false

theorem front_st (zs : List Int) (hz : Byt zs) (m q : Nat) (hm : m = 64 * q) (hl : m ≤ zs.length) : frontI beginI (zs.take m) (byt_take hz m) = stB zs q := by
  unfold frontI
  have e : (zs.take m).length / 64 = q := by rw [List.length_take]; omega
  have h := stF_over beginI (zs.take m) (byt_take hz m) q (by rw [List.length_take]; omega)
  have h2 : stB zs q = stB (zs.take m) q := by
    have := stB_app (zs.take m) (zs.drop m) q (by rw [List.length_take]; omega)
    rw [List.take_append_drop] at this
    exact this
  rw [h2, stB_stF, ← h]
  congr 1
  congr 1
theorem sum_parts (zs : List Int) (hz : Byt zs) : sumS zs hz = frontI (stB zs (zs.length / 64)) (lastI (zs.drop (64 * (zs.length / 64))) ((zs.length / 64 : Nat) : Int)) (last_byt _ _ (byt_drop hz _)) := by
  unfold sumS
  have e1 : wholeN zs = 64 * (zs.length / 64) := by unfold wholeN; omega
  have e2 : (zs.take (64 * (zs.length / 64))).length / 64 = zs.length / 64 := by rw [List.length_take]; omega
  rw [front_st zs hz (wholeN zs) (zs.length / 64) e1 (by omega)]
  simp only [e1, e2]
theorem str_brow {w : World} {p : Nat} {s : List Int} {n : Int} {pv : Value} {rest : List Int} {left : Int} (h : Str w p s n pv rest left) (hs : s.length = 8) (hr : rest.length = 64) (hb : Byt rest) : BRow w p 10 rest :=
  ⟨fun i hi => by rw [h.range hs i (.int .u8 (rest.getD i 0)) (by unfold u8l; rw [List.getElem?_map, List.getElem?_eq_getElem hi, List.getD_eq_getElem?_getD, List.getElem?_eq_getElem hi]; rfl)], hb, by rw [hr]; decide⟩

theorem setCells_row (w : World) (g : Nat) (old : Array Value) (D : List Int) (h : w.heap[g]? = some (.cells old 23 (0, 0))) (ho : old.size = 32) (hD : D.length = 32) :
    w.there g 0 (List.map (Value.int .u8) D).length ∧ w.setCells g 0 (List.map (Value.int .u8) D) = w.setRow g (u8s D) := by
  have ht : w.there g 0 (u8s D).size := fun j hj => by
    rw [size_u8s, hD] at hj
    refine ⟨?_, frozen_of_row _ _ _ _ _ h⟩
    rw [cell_of_row _ _ _ _ _ _ h, Nat.zero_add, Array.getElem?_eq_getElem (by omega)]
    rfl
  have hi : (Tryd.prog.info? 23).map (·.size) = some (u8s D).size := by rw [size_u8s, hD]; kernel_rfl
  have e1 := run_storeVar_mid (P := Tryd.prog) w g 0 23 (u8s D) ht hi (one_u8s D)
  have e2 := run_storeVar_row (P := Tryd.prog) w g 23 23 old (u8s D) h hi (by rw [size_u8s, hD, ho]) (one_u8s D)
  rw [e1] at e2
  injection e2 with _ e3
  have el : (u8s D).toList = List.map (Value.int .u8) D := by simp [u8s]
  rw [el] at e3
  have es : (u8s D).size = (List.map (Value.int .u8) D).length := by simp [u8s]
  rw [es] at ht
  exact ⟨ht, e3⟩

set_option maxRecDepth 20000 in
set_option maxHeartbeats 4000000 in
theorem ssum_any (p base : Nat) (zs : List Int) (hz : Byt zs) (w : World) (hH : Holds w p base zs) (R : Roots w) (h0 : 0 < w.heap.size) (hl : (zs.length : Int) ≤ 140737488355328) :
    Calls Tryd.prog 26 #[.pointer (some ⟨p, 0, none⟩)] w fun e w' => e = .returned (.agg (u8s (sumI zs hz))) ∧ Below w.heap.size w w' := by
  obtain ⟨pv, rest, hS, hr, hrb, hrt, _⟩ := hH
  obtain ⟨s8, sw⟩ := stB_ok zs (zs.length / 64)
  have hne := chain_begin zs
  obtain ⟨S, hSd⟩ : ∃ S, stB zs (zs.length / 64) = S := ⟨_, rfl⟩
  obtain ⟨n, hn⟩ : ∃ n : Int, ((zs.length / 64 : Nat) : Int) = n := ⟨_, rfl⟩
  obtain ⟨r, hrr⟩ : ∃ r, zs.length % 64 = r := ⟨_, rfl⟩
  obtain ⟨S2, hS2⟩ : ∃ S2, S2 = frontI S (lastI (rest.take r) n) (last_byt _ _ (byt_take hrb r)) := ⟨_, rfl⟩
  obtain ⟨n2, hn2⟩ : ∃ n2 : Int, n2 = n + (((lastI (rest.take r) n).length / 64 : Nat) : Int) := ⟨_, rfl⟩
  have HSS : Hid (sumI zs hz = bytesI S2) := by
    show _ = _
    unfold sumI
    rw [sum_parts, hS2]
    have e : zs.drop (64 * (zs.length / 64)) = rest.take r := by rw [← hrr, hrt]
    simp only [e, hSd, hn]
  rw [hSd] at hS s8 sw hne
  rw [hn] at hS hne
  rw [hrr] at hS
  have hr64 : r < 64 := by omega
  have n0 : 0 ≤ n := by omega
  have n1 : n < 140737488355328 := by omega
  obtain ⟨t8, tw⟩ := front_ok S (lastI (rest.take r) n) (last_byt _ _ (byt_take hrb r)) s8 sw
  rw [← hS2] at t8 tw
  have hlen : (rest.take r).length = r := by rw [List.length_take]; omega
  have hend : ∀ W : World, Below w.heap.size w W → Calls Tryd.prog 30 #[.agg (chainV S n), .slice (some ⟨p, 10, none⟩) r 64] W fun e w' => e = .returned (.agg (chainV S2 n2)) ∧ Below W.heap.size W w' := by
    intro W hW
    have hW8 := hW.size
    have h := end_any S (rest.take r) n p 10 64 W (roots_later R h0 hW) (by omega) s8 sw (byt_take hrb r) (by have := hS.lt; omega) (brow_take (str_brow (hS.later (hW.block _ hS.lt)) s8 hr hrb) r) (by omega) n0 n1
    rw [hlen] at h
    rw [hS2, hn2]
    exact h
  have HEND : Hid (∀ W : World, Below w.heap.size w W → Calls Tryd.prog 30 #[.agg (chainV S n), .slice (some ⟨p, 10, none⟩) r 64] W fun e w' => e = .returned (.agg (chainV S2 n2)) ∧ Below W.heap.size W w') := hend
  have HS : Hid (Str w p S n pv rest (r : Int)) := hS
  have HS8 : Hid (S.length = 8 ∧ W32 S ∧ rest.length = 64 ∧ (S = beginI ∨ n ≠ 0)) := ⟨s8, sw, hr, hne⟩
  have HT8 : Hid (S2.length = 8 ∧ W32 S2) := ⟨t8, tw⟩
  have hbl : (bytesI S2).length = 32 := by rw [bytes_len, t8]
  have HBL : Hid ((bytesI S2).length = 32) := hbl
  have hin : (Tryd.prog.info? 23).map (·.size) = some (List.map (Value.int .u8) (bytesI S2)).length := by rw [List.length_map, hbl]; kernel_rfl
  have hone : ∀ v ∈ List.map (Value.int .u8) (bytesI S2), v.oneCell' = true := u8l_one (bytesI S2)
  have hsz32 : (u8s (bytesI S2)).size = 32 := by rw [size_u8s, hbl]
  have i1 : (r : Int) ≤ 64 := by omega
  have i2 : (0 : Int) ≤ (r : Int) := by omega
  obtain ⟨W0, hW0⟩ : ∃ W0, w.alloc (.cells (u8s (List.replicate 32 0)) 23) = W0 := ⟨_, rfl⟩
  have HB0 : Hid (Below w.heap.size w W0 ∧ W0.heap[w.heap.size]? = some (.cells (u8s (List.replicate 32 0)) 23 (0, 0))) := by
    show _ ∧ _
    rw [← hW0]
    exact ⟨(Below.refl _ w).alloc (Nat.le_refl _) _, Go.heap_alloc_new _ _⟩
  have HS0 : Hid (Str W0 p S n pv rest (r : Int)) := hS.later (HB0.out.1.block _ hS.lt)
  have HSD : Hid (Str W0.drew p S n pv rest (r : Int)) := HS0.out
  have HW0 : Hid (w.alloc (.cells (u8s (List.replicate 32 0)) 23) = W0) := hW0
  clear hS hr hrb hrt hSd hn hrr hS2 hn2 hend s8 sw t8 tw hbl hne hlen hW0 hr64 R
  go_enter Tryd.func26, Tryd.ntmps26
  go_wp2_with fail
  show Code.wp _ _ _ _ (w.alloc (.cells (u8s (List.replicate 32 0)) 23))
  rw [HW0.out]
  go_region_held3 (fun w' => w'.cell? ⟨p, 74, none⟩ = some (.int .i64 (r : Int))) (first | exact HSD.out.leftAt HS8.out.1 HS8.out.2.2.1 | exact HS1.out.leftAt HS8.out.1 HS8.out.2.2.1 | exact HS2.out.leftAt HS8.out.1 HS8.out.2.2.1 | exact HS3.out.leftAt HS8.out.1 HS8.out.2.2.1 | (rw [HEQ.out]; exact HS4.out.leftAt HS8.out.1 HS8.out.2.2.1)) (first | (go_at_call 40; (refine (chain_any p S n pv rest (r : Int) _ HSD.out HS8.out.1 HS8.out.2.1 n0 (by omega) HS8.out.2.2.2).mono ?_; rintro e w1 ⟨rfl, hb1⟩; (have HB1 : Hid (Below W0.heap.size W0 w1) := ((Below.refl _ W0).drew).trans hb1); (have HS1 : Hid (Str w1 p S n pv rest (r : Int)) := HS0.out.later (HB1.out.block _ HS0.out.lt)); clear hb1)) | (go_at_call 30; (refine (HEND.out w1 (HB0.out.1.trans (HB1.out.mono HB0.out.1.size))).mono ?_; rintro e w2 ⟨rfl, hb2⟩; (have HB2 : Hid (Below W0.heap.size W0 w2) := HB1.out.trans (hb2.mono HB1.out.size)); (have HS2 : Hid (Str w2 p S n pv rest (r : Int)) := HS0.out.later (HB2.out.block _ HS0.out.lt)); clear hb2)) | (go_at_call 31; (refine (bytes_any S2 n2 w2 HT8.out.1 HT8.out.2).mono ?_; rintro e w3 ⟨rfl, hb3⟩; (have HB3 : Hid (Below W0.heap.size W0 w3) := HB2.out.trans (hb3.mono HB2.out.size)); (have HS3 : Hid (Str w3 p S n pv rest (r : Int)) := HS0.out.later (HB3.out.block _ HS0.out.lt)); (have HR3 : Hid (w3.heap[w.heap.size]? = some (.cells (u8s (List.replicate 32 0)) 23 (0, 0))) := (HB3.out.block _ (Array.getElem?_eq_some_iff.1 HB0.out.2).1).trans HB0.out.2); (have hth := (setCells_row w3 w.heap.size _ (bytesI S2) HR3.out (by rfl) HBL.out).1); (have HEQ : Hid (w3.setCells w.heap.size 0 (List.map (Value.int .u8) (bytesI S2)) = w3.setRow w.heap.size (u8s (bytesI S2))) := (setCells_row w3 w.heap.size _ (bytesI S2) HR3.out (by rfl) HBL.out).2); (have HS4 : Hid (Str (w3.setRow w.heap.size (u8s (bytesI S2))) p S n pv rest (r : Int)) := HS3.out.later (setRow_other _ _ _ _ (by have := HS.out.lt; omega))); clear hb3)))
  all_goals (
    rw [HEQ.out]
    go_wp2_with fail
    refine bodyPost_ret (v := .agg (u8s (bytesI S2))) (results_cell_row Tryd.results26 _ _ w.heap.size 23 (u8s (bytesI S2)) (0, 0) _ rfl (setRow_heap _ _ _ _ _ _ HR3.out) Tryd.underlying23 rfl (by rw [hsz32]; kernel_rfl)) rfl ⟨by rw [HSS.out], below_setRow (HB0.out.1.trans (HB3.out.mono HB0.out.1.size)) (Nat.le_refl _) _⟩)
end Go.Proofs.YtfdmepblhlifcaaDoor
