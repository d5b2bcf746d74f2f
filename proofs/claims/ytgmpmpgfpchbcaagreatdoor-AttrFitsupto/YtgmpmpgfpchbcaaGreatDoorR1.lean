/- Ranging over attributes. -/
import Derived.Test.YtgmpmpgfpchbcaaGreatDoorM1
import Derived.RangeFuncNested
import Derived.RangeFuncBound
import Derived.RangeFuncCalls
import Derived.RangeFuncLeaves
import Derived.Shelf.Abstract
import Derived.OwnWalkIn
import Derived.TacticsInMore
import Derived.LoopNIn
import Derived.LoopIn
namespace Go.Proofs.YtgmpmpgfpchbcaaGreatDoor
open Go.RowKit Go.Shelf
set_option linter.unusedVariables false
set_option linter.unusedSimpArgs false
attribute [local go_sem] Oper.semAt_some

theorem grown_alloc (w : World) (o : Obj) : w.grownBy (w.alloc o) none := ⟨rfl, rfl, rfl, by simp, fun k hk _ => Below.heap_alloc _ _ _ hk⟩

set_option maxRecDepth 100000 in
set_option maxHeartbeats 2000000 in
theorem vals_in (n : Nat) (l Bs n₀ cap : Nat) (sa : Option Addr) (ds : List At) (hcap : ds.length ≤ cap) (hsm : (ds.length : Int) ≤ 140737488351232) (hg : ∀ b off, sa = some ⟨b, off, none⟩ → ds ≠ [] → b < n₀) (J Jx : List At → World → Prop) (W : World) (hA : AbidesFrom W.heap.size J)
    (hY : ∀ pre x W, J pre W → pre.length < ds.length → YieldAt Fence.wide (n - 1) Tryz.prog l #[.agg #[.string (tx x.1), .string (tx x.2)]] W fun e W' =>
      (e = .returned (.bool true) ∧ J (pre ++ [x]) W' ∧ Below n₀ W W') ∨ (e = .returned (.bool false) ∧ Jx (pre ++ [x]) W'))
    (hn₀ : n₀ ≤ W.heap.size) (hBs : W.cell? ⟨Bs, 0, none⟩ = some (.slice sa ds.length cap)) (hc : Lie W sa ds) (h0 : J [] W) :
    CallsIn Fence.wide n Tryz.prog 58 #[.func (.yield l) #[] #[], .pointer (some ⟨Bs, 0, none⟩)] W fun e W' => (∃ v, e = .returned v) ∧
      ((∃ ys, ys = ds ∧ J ys W') ∨ (∃ pre : List At, (∃ m, pre = ds.take m) ∧ Jx pre W')) := by
  refine callsIn_of_wp Tryz.func58 rfl trivial ?_ rfl
  simp only [Tryz.ntmps58, List.size_toArray, List.length_cons, List.length_nil, Nat.reduceAdd, Nat.reduceSub, Array.replicate_succ, Array.replicate_zero, List.push_toArray, List.append_toArray, List.nil_append, List.cons_append]
  gi_wp2
  gi_loopw [4, 7] (fun x s wr => ∃ k : Nat, k ≤ ds.length ∧ s = .int .i64 k ∧ J (ds.take k) wr ∧ Below n₀ W wr) (fun x s _ => ds.length - (intOf s).toNat)
  case atStart => exact ⟨0, by omega, rfl, h0, Below.refl _ _⟩
  case round =>
    obtain ⟨k, hk, rfl, hJs, hnx⟩ := hrel
    by_cases hlt : k < ds.length
    · have HX : Hid (ds[k]? = some ds[k]) := List.getElem?_eq_getElem hlt
      obtain ⟨x, hx⟩ : ∃ x, ds[k] = x := ⟨_, rfl⟩
      obtain ⟨b, off, hsa, c0, c1⟩ := hc k x (by rw [HX.out, hx])
      have hbn : b < n₀ := hg b off hsa (fun e => by rw [e] at hlt; simp at hlt)
      subst hsa
      have x0 : wr.cell? ⟨b, off + k * 2, none⟩ = some (.string (tx x.1)) := (hnx.cell (p := ⟨b, off + k * 2, none⟩) hbn).trans c0
      have x1 : wr.cell? ⟨b, off + k * 2 + 1, none⟩ = some (.string (tx x.2)) := (hnx.cell (p := ⟨b, off + k * 2 + 1, none⟩) hbn).trans c1
      have HTK : Hid (ds.take k ++ [x] = ds.take (k + 1)) := by show _ = _; rw [← hx, List.take_succ_eq_append_getElem hlt]
      have HTL : Hid ((ds.take k).length < ds.length) := by show _ < _; simp; omega
      have HJ : Hid (J (ds.take k) wr) := hJs
      have i1 : (k : Int) < (ds.length : Int) := by omega
      have k1 : (k : Int) ≤ 140737488351232 := by omega
      have k0 : (0 : Int) ≤ (k : Int) := by omega
      have hcap' : (ds.length : Int) ≤ (cap : Int) := by omega
      have hJV : J (ds.take k) (wr.alloc (.cells #[.string (tx x.1), .string (tx x.2)] 44)) := hA _ _ _ _ HJ.out (grown_alloc wr _) (fun r e => by cases e)
      have HBV : Hid (Below n₀ W (wr.alloc (.cells #[.string (tx x.1), .string (tx x.2)] 44))) := hnx.alloc (Nat.le_trans hn₀ hnx.size) _
      obtain ⟨fn, tmps, assign, body, hy, hR⟩ := hY _ x _ hJV HTL.out
      clear hx hJs hJV c0 c1
      gi_wp2
      refine ⟨fun h => by simp [Fence.wide] at h, hR.mono ?_⟩
      rintro e W3 (⟨rfl, hJ3, hk3⟩ | ⟨rfl, hJx3⟩)
      · gi_wp2
        go_roundw
        case rel =>
          refine ⟨k + 1, by omega, by go_num, ?_, HBV.out.trans hk3⟩
          rw [← HTK.out]
          exact hJ3
        case measure => simp [intOf]; omega
      · gi_wp2
        refine bodyPost_ret (results_none rfl _ _ _) rfl ?_
        exact ⟨⟨_, rfl⟩, .inr ⟨_, ⟨k + 1, HTK.out⟩, hJx3⟩⟩
    · have hkk : k = ds.length := by omega
      have HKK : Hid (k = ds.length) := hkk
      have i1 : ¬ ((k : Int) < (ds.length : Int)) := by omega
      clear hkk hlt
      gi_wp2
      go_end0
      rw [HKK.out, List.take_length] at hJs
      first | exact ⟨⟨_, rfl⟩, .inl hJs⟩ | exact ⟨⟨_, rfl⟩, .inl ⟨_, rfl, hJs⟩⟩
theorem vals_seq (n Bs n₀ cap : Nat) (sa : Option Addr) (ds : List At) (w : World) (hsm : (ds.length : Int) ≤ 140737488351232) (hBs : Bs < w.heap.size) (hn₀ : n₀ ≤ w.heap.size) (hc : w.cell? ⟨Bs, 0, none⟩ = some (.slice sa ds.length cap)) (hcap : ds.length ≤ cap) (hl : Lie w sa ds) (hg : ∀ b off, sa = some ⟨b, off, none⟩ → ds ≠ [] → b < n₀) :
    SeqStopsK Fence.wide n Tryz.prog 58 #[.pointer (some ⟨Bs, 0, none⟩)] (fun x : At => #[.agg #[.string (tx x.1), .string (tx x.2)]]) (Below n₀) (fun ys => ys = ds) (fun pre => ∃ m, pre = ds.take m) ds.length w := by
  intro l J Jx W hW hA _ hY h0
  refine vals_in n l Bs n₀ cap sa ds hcap hsm hg J Jx W hA hY (Nat.le_trans hn₀ hW.size) ((hW.cell (p := ⟨Bs, 0, none⟩) hBs).trans hc) (fun i x hx => ?_) h0
  obtain ⟨b, off, h1, h2, h3⟩ := hl i x hx
  have hb : b < w.heap.size := World.block_lt_of_cell? w _ h2
  exact ⟨b, off, h1, (hW.cell (p := ⟨b, off + i * 2, none⟩) hb).trans h2, (hW.cell (p := ⟨b, off + i * 2 + 1, none⟩) hb).trans h3⟩

set_option maxRecDepth 100000 in
set_option maxHeartbeats 2000000 in
theorem prs_in (n : Nat) (l Bs n₀ cap : Nat) (sa : Option Addr) (ds : List At) (hcap : ds.length ≤ cap) (hsm : (ds.length : Int) ≤ 140737488351232) (hg : ∀ b off, sa = some ⟨b, off, none⟩ → ds ≠ [] → b < n₀) (J Jx : List At → World → Prop) (W : World) (hA : AbidesFrom W.heap.size J)
    (hY : ∀ pre x W, J pre W → pre.length < ds.length → YieldAt Fence.wide (n - 1) Tryz.prog l #[.string (tx x.1), .string (tx x.2)] W fun e W' =>
      (e = .returned (.bool true) ∧ J (pre ++ [x]) W' ∧ Below n₀ W W') ∨ (e = .returned (.bool false) ∧ Jx (pre ++ [x]) W'))
    (hn₀ : n₀ ≤ W.heap.size) (hBs : W.cell? ⟨Bs, 0, none⟩ = some (.slice sa ds.length cap)) (hc : Lie W sa ds) (h0 : J [] W) :
    CallsIn Fence.wide n Tryz.prog 39 #[.func (.yield l) #[] #[], .pointer (some ⟨Bs, 0, none⟩)] W fun e W' => (∃ v, e = .returned v) ∧
      ((∃ ys, ys = ds ∧ J ys W') ∨ (∃ pre : List At, (∃ m, pre = ds.take m) ∧ Jx pre W')) := by
  refine callsIn_of_wp Tryz.func39 rfl trivial ?_ rfl
  simp only [Tryz.ntmps39, List.size_toArray, List.length_cons, List.length_nil, Nat.reduceAdd, Nat.reduceSub, Array.replicate_succ, Array.replicate_zero, List.push_toArray, List.append_toArray, List.nil_append, List.cons_append]
  gi_wp2
  gi_loopw [4, 7] (fun x s wr => ∃ k : Nat, k ≤ ds.length ∧ s = .int .i64 k ∧ J (ds.take k) wr ∧ Below n₀ W wr) (fun x s _ => ds.length - (intOf s).toNat)
  case atStart => exact ⟨0, by omega, rfl, h0, Below.refl _ _⟩
  case round =>
    obtain ⟨k, hk, rfl, hJs, hnx⟩ := hrel
    by_cases hlt : k < ds.length
    · have HX : Hid (ds[k]? = some ds[k]) := List.getElem?_eq_getElem hlt
      obtain ⟨x, hx⟩ : ∃ x, ds[k] = x := ⟨_, rfl⟩
      obtain ⟨b, off, hsa, c0, c1⟩ := hc k x (by rw [HX.out, hx])
      have hbn : b < n₀ := hg b off hsa (fun e => by rw [e] at hlt; simp at hlt)
      subst hsa
      have x0 : wr.cell? ⟨b, off + k * 2, none⟩ = some (.string (tx x.1)) := (hnx.cell (p := ⟨b, off + k * 2, none⟩) hbn).trans c0
      have x1 : wr.cell? ⟨b, off + k * 2 + 1, none⟩ = some (.string (tx x.2)) := (hnx.cell (p := ⟨b, off + k * 2 + 1, none⟩) hbn).trans c1
      have HTK : Hid (ds.take k ++ [x] = ds.take (k + 1)) := by show _ = _; rw [← hx, List.take_succ_eq_append_getElem hlt]
      have HTL : Hid ((ds.take k).length < ds.length) := by show _ < _; simp; omega
      have HJ : Hid (J (ds.take k) wr) := hJs
      have i1 : (k : Int) < (ds.length : Int) := by omega
      have k1 : (k : Int) ≤ 140737488351232 := by omega
      have k0 : (0 : Int) ≤ (k : Int) := by omega
      have hcap' : (ds.length : Int) ≤ (cap : Int) := by omega
      have hJV : J (ds.take k) (wr.alloc (.cells #[.string (tx x.1), .string (tx x.2)] 44)) := hA _ _ _ _ HJ.out (grown_alloc wr _) (fun r e => by cases e)
      have HBV : Hid (Below n₀ W (wr.alloc (.cells #[.string (tx x.1), .string (tx x.2)] 44))) := hnx.alloc (Nat.le_trans hn₀ hnx.size) _
      obtain ⟨fn, tmps, assign, body, hy, hR⟩ := hY _ x _ hJV HTL.out
      clear hx hJs hJV c0 c1
      gi_wp2
      refine ⟨fun h => by simp [Fence.wide] at h, hR.mono ?_⟩
      rintro e W3 (⟨rfl, hJ3, hk3⟩ | ⟨rfl, hJx3⟩)
      · gi_wp2
        go_roundw
        case rel =>
          refine ⟨k + 1, by omega, by go_num, ?_, HBV.out.trans hk3⟩
          rw [← HTK.out]
          exact hJ3
        case measure => simp [intOf]; omega
      · gi_wp2
        refine bodyPost_ret (results_none rfl _ _ _) rfl ?_
        exact ⟨⟨_, rfl⟩, .inr ⟨_, ⟨k + 1, HTK.out⟩, hJx3⟩⟩
    · have hkk : k = ds.length := by omega
      have HKK : Hid (k = ds.length) := hkk
      have i1 : ¬ ((k : Int) < (ds.length : Int)) := by omega
      clear hkk hlt
      gi_wp2
      go_end0
      rw [HKK.out, List.take_length] at hJs
      first | exact ⟨⟨_, rfl⟩, .inl hJs⟩ | exact ⟨⟨_, rfl⟩, .inl ⟨_, rfl, hJs⟩⟩
theorem prs_seq (n Bs n₀ cap : Nat) (sa : Option Addr) (ds : List At) (w : World) (hsm : (ds.length : Int) ≤ 140737488351232) (hBs : Bs < w.heap.size) (hn₀ : n₀ ≤ w.heap.size) (hc : w.cell? ⟨Bs, 0, none⟩ = some (.slice sa ds.length cap)) (hcap : ds.length ≤ cap) (hl : Lie w sa ds) (hg : ∀ b off, sa = some ⟨b, off, none⟩ → ds ≠ [] → b < n₀) :
    SeqStopsK Fence.wide n Tryz.prog 39 #[.pointer (some ⟨Bs, 0, none⟩)] (fun x : At => #[.string (tx x.1), .string (tx x.2)]) (Below n₀) (fun ys => ys = ds) (fun pre => ∃ m, pre = ds.take m) ds.length w := by
  intro l J Jx W hW hA _ hY h0
  refine prs_in n l Bs n₀ cap sa ds hcap hsm hg J Jx W hA hY (Nat.le_trans hn₀ hW.size) ((hW.cell (p := ⟨Bs, 0, none⟩) hBs).trans hc) (fun i x hx => ?_) h0
  obtain ⟨b, off, h1, h2, h3⟩ := hl i x hx
  have hb : b < w.heap.size := World.block_lt_of_cell? w _ h2
  exact ⟨b, off, h1, (hW.cell (p := ⟨b, off + i * 2, none⟩) hb).trans h2, (hW.cell (p := ⟨b, off + i * 2 + 1, none⟩) hb).trans h3⟩
end Go.Proofs.YtgmpmpgfpchbcaaGreatDoor
