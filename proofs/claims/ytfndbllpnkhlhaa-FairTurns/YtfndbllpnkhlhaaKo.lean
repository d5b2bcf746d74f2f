/- Ranging over the tenants: what the sequence asks and tells. -/
import Derived.Test.YtfndbllpnkhlhaaKn
import Derived.RangeFuncNested
import Derived.RangeFuncBound
import Derived.RangeFuncCalls
import Derived.RangeFuncLeaves
import Derived.OwnWalkIn
import Derived.TacticsInMore
import Derived.LoopNIn
import Derived.LoopIn
import Derived.Stop.RegionWithIn
namespace Go.Proofs.Ytfndbllpnkhlhaa
open Go.RowKit Go.Shelf
set_option linter.unusedVariables false
set_option linter.unusedSimpArgs false
attribute [local go_sem] Oper.semAt_some

/-- The row of pointers and the names lie as before. -/
structure Kq (n₀ : Nat) (gb : Option Nat) (ps : List Nat) (A B : World) : Prop where
  size : A.heap.size ≤ B.heap.size
  row : ∀ q, gb = some q → B.heap[q]? = A.heap[q]?
  nam : ∀ p ∈ ps, B.cell? ⟨p, 0, none⟩ = A.cell? ⟨p, 0, none⟩
theorem Kq.refl (n₀ : Nat) (gb : Option Nat) (ps : List Nat) (A : World) : Kq n₀ gb ps A A := ⟨Nat.le_refl _, fun _ _ => rfl, fun _ _ => rfl⟩
theorem Kq.trans {n₀ : Nat} {gb : Option Nat} {ps : List Nat} {A B C : World} (h : Kq n₀ gb ps A B) (k : Kq n₀ gb ps B C) : Kq n₀ gb ps A C := ⟨Nat.le_trans h.size k.size, fun q hq => (k.row q hq).trans (h.row q hq), fun p hp => (k.nam p hp).trans (h.nam p hp)⟩
theorem Kq.of {n₀ : Nat} {gb : Option Nat} {ps : List Nat} {A B : World} (h : Below n₀ A B) (hg : ∀ q, gb = some q → q < n₀) (hp : ∀ p ∈ ps, p < n₀) : Kq n₀ gb ps A B := ⟨h.size, fun q hq => h.block q (hg q hq), fun p hpp => World.cell?_of_block (h.block p (hp p hpp))⟩
def elV (r : Rw) : Array Value := #[.string (tx r.t.nm), .pointer (some ⟨r.p, 1, none⟩)]
set_option maxRecDepth 100000 in
set_option maxHeartbeats 4000000 in
theorem all_in (n : Nat) (l Bs T n₀ cap : Nat) (sa : Option Addr) (m : List Rw) (hsm : m.length ≤ 16) (J Jx : List Rw → World → Prop) (W : World) (hA : AbidesFrom W.heap.size J)
    (hY : ∀ pre x W, x ∈ m → J pre W → pre.length < m.length → YieldAt Fence.wide (n - 1) Try.prog l (elV x) W fun e W' =>
      (e = .returned (.bool true) ∧ J (pre ++ [x]) W' ∧ Kq n₀ (Value.slice sa m.length cap).ownBlock (pts m) W W') ∨ (e = .returned (.bool false) ∧ Jx (pre ++ [x]) W'))
    (hBs : W.cell? ⟨Bs, 0, none⟩ = some (.pointer (some ⟨T, 0, none⟩))) (hT : W.cell? ⟨T, 0, none⟩ = some (.slice sa m.length cap)) (hr : Ptrs W (.slice sa m.length cap) (pts m)) (hn : Nms W (pts m) (nms m)) (h0 : J [] W) :
    CallsIn Fence.wide n Try.prog 66 #[.func (.yield l) #[] #[], .pointer (some ⟨Bs, 0, none⟩)] W fun e W' => (∃ v, e = .returned v) ∧
      ((∃ ys, ys = m ∧ J ys W') ∨ (∃ pre : List Rw, (∃ k, pre = m.take k) ∧ Jx pre W')) := by
  refine callsIn_of_wp Try.func66 rfl trivial ?_ rfl
  simp only [Try.ntmps66, List.size_toArray, List.length_cons, List.length_nil, Nat.reduceAdd, Nat.reduceSub, Array.replicate_succ, Array.replicate_zero, List.push_toArray, List.append_toArray, List.nil_append, List.cons_append]
  gi_wp2
  gi_loopw [4, 10] (fun x s wr => ∃ k : Nat, k ≤ m.length ∧ s = .int .i64 k ∧ J (m.take k) wr ∧ Kq n₀ (Value.slice sa m.length cap).ownBlock (pts m) W wr) (fun x s _ => m.length - (intOf s).toNat)
  case atStart => exact ⟨0, by omega, rfl, h0, Kq.refl _ _ _ _⟩
  case round =>
    obtain ⟨k, hk, rfl, hJs, hnx⟩ := hrel
    by_cases hlt : k < m.length
    · obtain ⟨x, hx⟩ : ∃ x, m[k] = x := ⟨_, rfl⟩
      have HX : Hid (m[k]? = some x) := by show _ = _; rw [List.getElem?_eq_getElem hlt, hx]
      have hlen : (pts m).length = m.length := by simp [pts]
      obtain ⟨g, cp, hv⟩ := own_form hr (by omega)
      have hsa : sa = some ⟨g, 0, none⟩ := (Value.slice.inj hv).1
      subst hsa
      have hrow : Ptrs W (.slice (some ⟨g, 0, none⟩) (pts m).length cap) (pts m) := by rw [hlen]; exact hr
      have x0 : wr.cell? ⟨g, k, none⟩ = some (.pointer (some ⟨x.p, 0, none⟩)) := (World.cell?_of_block (hnx.row g rfl)).trans (hrow.cell (pts_at HX.out))
      have x1 : wr.cell? ⟨x.p, 0, none⟩ = some (.string (tx x.t.nm)) := (hnx.nam x.p (List.mem_map.2 ⟨x, List.mem_of_getElem? HX.out, rfl⟩)).trans (hn.at' k x.p x.t.nm (pts_at HX.out) (nms_at HX.out))
      have HTK : Hid (m.take k ++ [x] = m.take (k + 1)) := by show _ = _; rw [← hx, List.take_succ_eq_append_getElem hlt]
      have HTL : Hid ((m.take k).length < m.length) := by show _ < _; simp; omega
      have i1 : (k : Int) < (m.length : Int) := by omega
      have k1 : (m.length : Int) ≤ 16 := by omega
      have k0 : (0 : Int) ≤ (k : Int) := by omega
      have hcap' : (m.length : Int) ≤ (cap : Int) := by have := own_cap hrow; omega
      have HNX : Hid (Kq n₀ (Value.slice (some ⟨g, 0, none⟩) m.length cap).ownBlock (pts m) W wr) := hnx
      have HJ : Hid (J (m.take k) wr) := hJs
      clear hx hJs hrow
      have hJV : J (m.take k) wr.drew := hA _ _ _ _ HJ.out (show wr.grownBy wr.drew none from ⟨rfl, rfl, rfl, Nat.le_refl _, fun _ _ _ => rfl⟩) (fun r e => by cases e)
      obtain ⟨fn, tmps, assign, body, hy, hR⟩ := hY _ x _ (List.mem_of_getElem? HX.out) hJV HTL.out
      unfold elV at hy
      clear hJV
      have HR : Hid (RoundIn Fence.wide (n - 1) Try.prog l fn tmps assign body wr.drew fun e W' => ∃ b, e = .returned (.bool b) ∧ ((b = true ∧ J (m.take k ++ [x]) W' ∧ Kq n₀ (Value.slice (some ⟨g, 0, none⟩) m.length cap).ownBlock (pts m) wr.drew W') ∨ (b = false ∧ Jx (m.take k ++ [x]) W'))) := hR.mono (by
        rintro e W3 (⟨rfl, hJ3, hk3⟩ | ⟨rfl, hJx3⟩)
        · exact ⟨true, rfl, .inl ⟨rfl, hJ3, hk3⟩⟩
        · exact ⟨false, rfl, .inr ⟨rfl, hJx3⟩⟩)
      clear hR hY
      gi_wp2
      gi_region_with (refine ⟨fun h => by simp [Fence.wide] at h, HR.out.mono ?_⟩; rintro e W3 ⟨b, rfl, hb⟩; (have HB : Hid ((b = true ∧ J (m.take k ++ [x]) W3 ∧ Kq n₀ (Value.slice (some ⟨g, 0, none⟩) m.length cap).ownBlock (pts m) wr.drew W3) ∨ (b = false ∧ Jx (m.take k ++ [x]) W3)) := hb); clear hb)
      rcases HB.out with ⟨rfl, hJ3, hk3⟩ | ⟨rfl, hJx3⟩
      · gi_wp2
        go_roundw
        case rel =>
          refine ⟨k + 1, by omega, by go_num, ?_, HNX.out.trans ((show Kq n₀ _ (pts m) wr wr.drew from ⟨Nat.le_refl _, fun _ _ => rfl, fun _ _ => rfl⟩).trans hk3)⟩
          rw [← HTK.out]
          exact hJ3
        case measure => simp [intOf]; omega
      · gi_wp2
        refine bodyPost_ret (results_none rfl _ _ _) rfl ?_
        exact ⟨⟨_, rfl⟩, .inr ⟨_, ⟨k + 1, HTK.out⟩, hJx3⟩⟩
    · have hkk : k = m.length := by omega
      have HKK : Hid (k = m.length) := hkk
      have i1 : ¬ ((k : Int) < (m.length : Int)) := by omega
      clear hkk hlt
      gi_wp2
      go_end0
      rw [HKK.out, List.take_length] at hJs
      exact ⟨⟨_, rfl⟩, .inl hJs⟩
/-- One of the rows. -/
abbrev Of (m : List Rw) : Type := {r : Rw // r ∈ m}
def vals {m : List Rw} (l : List (Of m)) : List Rw := l.map (·.1)
theorem all_seq (n Bs T cap : Nat) (lv srv : Value) (sa : Option Addr) (m : List Rw) (clk had : Int) (w : World) (hsm : m.length ≤ 16) (h : SR w T lv m clk srv had) (hlv : lv = .slice sa m.length cap) (hBs : w.cell? ⟨Bs, 0, none⟩ = some (.pointer (some ⟨T, 0, none⟩))) :
    SeqStopsK Fence.wide n Try.prog 66 #[.pointer (some ⟨Bs, 0, none⟩)] (fun x : Of m => elV x.1) (Kq w.heap.size (Value.slice sa m.length cap).ownBlock (pts m)) (fun ys => vals ys = m) (fun pre => ∃ k, vals pre = m.take k) m.length w := by
  intro l J Jx W hW hA _ hY h0
  have hSW := h.at' (w' := W) fun q hq => hW.block q (h.lt q hq)
  have hB : Bs < w.heap.size := World.block_lt_of_cell? w _ hBs
  subst hlv
  refine (all_in n l Bs T w.heap.size cap sa m hsm (fun pre W => ∃ p : List (Of m), vals p = pre ∧ J p W) (fun pre W => ∃ p : List (Of m), vals p = pre ∧ Jx p W) W ?_ ?_ ((hW.cell (p := ⟨Bs, 0, none⟩) hB).trans hBs) hSW.cells.1 hSW.row hSW.nam ⟨[], rfl, h0⟩).mono ?_
  · rintro s X Y row ⟨p, hp, hJ⟩ hg hr
    exact ⟨p, hp, hA p X Y row hJ hg hr⟩
  · rintro pre x W1 hx ⟨p, rfl, hJ⟩ hlt
    obtain ⟨fn, tmps, assign, body, hy, hR⟩ := hY p ⟨x, hx⟩ W1 hJ (by simpa [vals] using hlt)
    refine ⟨fn, tmps, assign, body, hy, hR.mono ?_⟩
    rintro e W3 (⟨rfl, hJ3, hk3⟩ | ⟨rfl, hJx3⟩)
    · exact .inl ⟨rfl, ⟨_, by simp [vals], hJ3⟩, hk3⟩
    · exact .inr ⟨rfl, ⟨_, by simp [vals], hJx3⟩⟩
  · rintro e W3 ⟨h1, ⟨ys, rfl, p, hp, hJ3⟩ | ⟨pre, ⟨k, hk⟩, p, hp, hJ3⟩⟩
    · exact ⟨h1, .inl ⟨p, hp, hJ3⟩⟩
    · exact ⟨h1, .inr ⟨p, ⟨k, hp.trans hk⟩, hJ3⟩⟩
end Go.Proofs.Ytfndbllpnkhlhaa
