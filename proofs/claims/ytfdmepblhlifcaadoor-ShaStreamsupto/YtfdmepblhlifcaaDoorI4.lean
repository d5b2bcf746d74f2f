/- The states of a stream, one by one. -/
import Derived.Test.YtfdmepblhlifcaaDoorI3
import Derived.Test.YtfdmepblhlifcaaDoorA4
namespace Go.Proofs.YtfdmepblhlifcaaDoor
open Go.RowKit Go.Shelf
set_option linter.unusedVariables false
set_option linter.unusedSimpArgs false
attribute [local go_sem] Oper.semAt_some

abbrev Dig := { l : List Int // l.length = 32 ∧ Byt l }
theorem load_dig {w : World} {g o : Nat} (x : Dig) (h : w.rangeAt g o (u8l x.1)) : (loadVar 23 ⟨g, o, none⟩).run Tryd.prog w = .ok (.agg (u8s x.1)) w :=
  run_loadVar_mid w g o 23 (u8l x.1) _ h Tryd.underlying23 rfl (by rw [u8l_len, x.2.1]; kernel_rfl)
theorem grown_new (w : World) (x : Dig) : w.grownBy ((w.alloc (.cells (u8s (List.replicate 32 0)) 23)).setRow w.heap.size (u8s x.1)) none :=
  ⟨rfl, rfl, rfl, by simp, fun k hk _ => (setRow_other _ _ _ _ (by omega)).trans (Below.heap_alloc _ _ _ hk)⟩
set_option maxRecDepth 100000 in
set_option maxHeartbeats 2000000 in
theorem vals1_in (n : Nat) (l Bs n₀ g cap : Nat) (ds : List Dig) (hcap : ds.length ≤ cap) (hsm : (ds.length : Int) ≤ 4000000000000) (hg : g < n₀) (J Jx : List Dig → World → Prop) (W : World) (hA : AbidesFrom W.heap.size J)
    (hY : ∀ pre x W, J pre W → pre.length < ds.length → YieldAt Fence.wide (n - 1) Tryd.prog l #[.agg (u8s x.1)] W fun e W' =>
      (e = .returned (.bool true) ∧ J (pre ++ [x]) W' ∧ Below n₀ W W') ∨ (e = .returned (.bool false) ∧ Jx (pre ++ [x]) W'))
    (hn₀ : n₀ ≤ W.heap.size) (hBs : W.cell? ⟨Bs, 0, none⟩ = some (.slice (some ⟨g, 0, none⟩) ds.length cap)) (hc : ∀ k x, ds[k]? = some x → W.rangeAt g (k * 32) (u8l x.1)) (h0 : J [] W) :
    CallsIn Fence.wide n Tryd.prog 46 #[.func (.yield l) #[] #[], .pointer (some ⟨Bs, 0, none⟩)] W fun e W' => (∃ v, e = .returned v) ∧
      ((∃ ys, ys = ds ∧ J ys W') ∨ (∃ pre : List Dig, (∃ m, pre = ds.take m) ∧ Jx pre W')) := by
  refine callsIn_of_wp Tryd.func46 rfl trivial ?_ rfl
  simp only [Tryd.ntmps46, List.size_toArray, List.length_cons, List.length_nil, Nat.reduceAdd, Nat.reduceSub, Array.replicate_succ, Array.replicate_zero, List.push_toArray, List.append_toArray, List.nil_append, List.cons_append]
  gi_wp2
  gi_loopw [4, 7] (fun x s wr => ∃ k : Nat, k ≤ ds.length ∧ s = .int .i64 k ∧ J (ds.take k) wr ∧ Below n₀ W wr) (fun x s _ => ds.length - (intOf s).toNat)
  case atStart => exact ⟨0, by omega, rfl, h0, Below.refl _ _⟩
  case round =>
    obtain ⟨k, hk, rfl, hJs, hnx⟩ := hrel
    by_cases hlt : k < ds.length
    · have HX : Hid (ds[k]? = some ds[k]) := List.getElem?_eq_getElem hlt
      obtain ⟨x, hx⟩ : ∃ x, ds[k] = x := ⟨_, rfl⟩
      have hr : wr.rangeAt g (k * 32) (u8l x.1) := fun i v hv => (hnx.cell (p := ⟨g, k * 32 + i, none⟩) hg).trans (hc k x (by rw [HX.out, hx]) i v hv)
      have HLD : Hid ((loadVar 23 ⟨g, k * 32, none⟩).run Tryd.prog wr = .ok (.agg (u8s x.1)) wr) := load_dig x hr
      have HTK : Hid (ds.take k ++ [x] = ds.take (k + 1)) := by show _ = _; rw [← hx, List.take_succ_eq_append_getElem hlt]
      have HTL : Hid ((ds.take k).length < ds.length) := by show _ < _; simp; omega
      have HJ : Hid (J (ds.take k) wr) := hJs
      have i1 : (k : Int) < (ds.length : Int) := by omega
      have k1 : (k : Int) ≤ 4000000000000 := by omega
      clear hx hr hJs
      obtain ⟨V, hV⟩ : ∃ V, (wr.alloc (.cells (u8s (List.replicate 32 0)) 23)).setRow wr.heap.size (u8s x.1) = V := ⟨_, rfl⟩
      have hJV : J (ds.take k) V := by rw [← hV]; exact hA _ _ _ _ HJ.out (grown_new wr x) (fun r e => by cases e)
      have hrow : V.heap[wr.heap.size]? = some (.cells (u8s x.1) 23 (0, 0)) := by rw [← hV]; exact setRow_heap _ _ _ _ _ _ (Go.heap_alloc_new _ _)
      have HLV : Hid ((loadVar 23 ⟨wr.heap.size, 0, none⟩).run Tryd.prog V = .ok (.agg (u8s x.1)) V) := run_loadVar_row _ _ 23 23 _ (0, 0) _ hrow Tryd.underlying23 rfl (by rw [size_u8s, x.2.1]; kernel_rfl)
      have HST : Hid ((storeVar 23 ⟨wr.heap.size, 0, none⟩ (.agg (u8s x.1))).run Tryd.prog (wr.alloc (.cells (u8s (List.replicate 32 0)) 23)) = .ok () V) := by
        show _ = _
        rw [← hV]
        exact run_storeVar_row _ wr.heap.size 23 23 _ (u8s x.1) (Go.heap_alloc_new _ _) (by rw [size_u8s, x.2.1]; kernel_rfl) (by simp [size_u8s, x.2.1]) (one_u8s _)
      have HBV : Hid (Below n₀ W V) := by
        show Below _ _ _
        rw [← hV]
        exact below_setRow (hnx.alloc (Nat.le_trans hn₀ hnx.size) _) (Nat.le_trans hn₀ hnx.size) _
      obtain ⟨fn, tmps, assign, body, hy, hR⟩ := hY _ x V hJV HTL.out
      clear hV hrow hJV
      gi_wp2_with (first | (refine wpListIn_loadV rfl 23 _ rfl ⟨g, k * 32, none⟩ rfl _ HLD.out ?_) | (refine wpListIn_storeV rfl 23 _ _ rfl ⟨wr.heap.size, 0, none⟩ rfl (.agg (u8s x.1)) rfl HST.out ?_) | (refine wpListIn_loadV rfl 23 _ rfl ⟨wr.heap.size, 0, none⟩ rfl _ HLV.out ?_))
      refine ⟨fun h => by simp [Fence.wide] at h, hR.mono ?_⟩
      rintro e W3 (⟨rfl, hJ3, hk3⟩ | ⟨rfl, hJx3⟩)
      · gi_wp2
        go_roundw
        case rel =>
          refine ⟨k + 1, by omega, by go_num, ?_, HBV.out.trans hk3⟩
          rw [← HTK.out]
          exact hJ3
        case measure => simp [intOf]; omega
      · gi_wp2
        refine bodyPost_ret (results_none rfl _ _ _) rfl ?_
        exact ⟨⟨_, rfl⟩, .inr ⟨_, ⟨k + 1, HTK.out⟩, hJx3⟩⟩
    · have hkk : k = ds.length := by omega
      have HKK : Hid (k = ds.length) := hkk
      have i1 : ¬ ((k : Int) < (ds.length : Int)) := by omega
      clear hkk hlt
      gi_wp2
      go_end0
      rw [HKK.out, List.take_length] at hJs
      first | exact ⟨⟨_, rfl⟩, .inl hJs⟩ | exact ⟨⟨_, rfl⟩, .inl ⟨_, rfl, hJs⟩⟩
/-- The list that a stream has told so far. -/
def digs (zs : List Int) : Nat → List Dig
  | 0 => []
  | k + 1 => digs zs k ++ [⟨bytesI (stB zs (k + 1)), ⟨by rw [bytes_len, (stB_ok zs (k + 1)).1], bytes_byt _⟩⟩]
theorem digs_len (zs : List Int) : ∀ k, (digs zs k).length = k
  | 0 => rfl
  | k + 1 => by simp [digs, digs_len zs k]
theorem flatD_len (zs : List Int) : ∀ k, (flatD zs k).length = k * 32
  | 0 => rfl
  | k + 1 => by simp [flatD, flatD_len zs k, u8l_len, bytes_len, (stB_ok zs (k + 1)).1]; omega
theorem digs_at (zs : List Int) : ∀ k j (x : Dig), (digs zs k)[j]? = some x → ∀ i v, (u8l x.1)[i]? = some v → (flatD zs k)[j * 32 + i]? = some v
  | 0, j, x, h, i, v, hv => by simp [digs] at h
  | k + 1, j, x, h, i, v, hv => by
    have hi : i < 32 := by have := (List.getElem?_eq_some_iff.1 hv).1; rwa [u8l_len, x.2.1] at this
    unfold digs at h
    unfold flatD
    by_cases hj : j < k
    · rw [List.getElem?_append_left (by rw [digs_len]; exact hj)] at h
      rw [List.getElem?_append_left (by rw [flatD_len]; omega)]
      exact digs_at zs k j x h i v hv
    · have hjk : j = k := by
        have := (List.getElem?_eq_some_iff.1 h).1
        simp [digs_len] at this
        omega
      subst hjk
      rw [List.getElem?_append_right (by rw [digs_len]; omega), digs_len, Nat.sub_self] at h
      simp at h
      rw [List.getElem?_append_right (by rw [flatD_len]; omega), flatD_len, Nat.add_sub_cancel_left]
      rw [← h] at hv
      exact hv
theorem own_digs {w : World} {base g cap k : Nat} {zs : List Int} (h : w.ownsRow base 23 32 (.slice (some ⟨g, 0, none⟩) k cap) k (flatD zs k)) : ∀ j x, (digs zs k)[j]? = some x → w.rangeAt g (j * 32) (u8l x.1) := by
  intro j x hx i v hv
  have hv' := digs_at zs k j x hx i v hv
  have hlt := (List.getElem?_eq_some_iff.1 hv').1
  rw [flatD_len] at hlt
  rw [h.cellAt (j * 32 + i) hlt]
  exact hv'
theorem digs_app (A B : List Int) : ∀ k, 64 * k ≤ A.length → digs (A ++ B) k = digs A k
  | 0, _ => rfl
  | k + 1, h => by unfold digs; rw [digs_app A B k (by omega)]; congr 2; apply Subtype.ext; show bytesI _ = bytesI _; rw [stB_app A B (k + 1) (by omega)]
/-- A list of states, told in a stream's own order: whoever ranges over it. -/
theorem vals_seq (n Bs n₀ base : Nat) (pv : Value) (zs : List Int) (k : Nat) (w : World) (hk : (k : Int) ≤ 4000000000000) (hBs : Bs < w.heap.size) (hn₀ : n₀ ≤ w.heap.size) (hc : w.cell? ⟨Bs, 0, none⟩ = some pv) (ho : w.ownsRow base 23 32 pv k (flatD zs k)) (hpv : ∀ g, pv.ownBlock = some g → g < n₀) :
    SeqStopsK Fence.wide n Tryd.prog 46 #[.pointer (some ⟨Bs, 0, none⟩)] (fun x : Dig => #[.agg (u8s x.1)]) (Below n₀) (fun ys => ys = digs zs k) (fun pre => ∃ m, pre = (digs zs k).take m) k w := by
  intro l J Jx W hW hA _ hY h0
  have hc' := (hW.cell (p := ⟨Bs, 0, none⟩) hBs).trans hc
  rcases ho.2 with ⟨rfl, h2⟩ | ⟨g, cap, cur, rfl, hg, hcell, hlc, _⟩
  · obtain rfl : k = 0 := by omega
    refine (vals0_in n l Bs 0 none W hc').mono ?_
    rintro e W' ⟨h1, rfl⟩
    exact ⟨h1, .inl ⟨[], rfl, h0⟩⟩
  · have hgn := hpv g rfl
    have hcap : k ≤ cap := own_cap ho
    have h := vals1_in n l Bs n₀ g cap (digs zs k) (by rw [digs_len]; exact hcap) (by rw [digs_len]; exact hk) hgn J Jx W hA (by rw [digs_len]; exact hY) (Nat.le_trans hn₀ hW.size) (by rw [digs_len]; exact hc') (fun j x hx i v hv => (hW.cell (p := ⟨g, j * 32 + i, none⟩) (by show g < _; omega)).trans (own_digs ho j x hx i v hv)) h0
    exact h
end Go.Proofs.YtfdmepblhlifcaaDoor
