/- Numbers told one by one; marks behind ranges. -/
import Derived.Test.YtnghgclogeefgaaO1
namespace Go.Proofs.Ytnghgclogeefgaa
open Go.RowKit Go.Shelf
set_option linter.unusedVariables false
set_option linter.unusedSimpArgs false
attribute [local go_sem] Oper.semAt_some

set_option maxRecDepth 100000 in
set_option maxHeartbeats 2000000 in
theorem nums_in (n : Nat) (l Bs n₀ g cap : Nat) (ds : List Int) (hcap : ds.length ≤ cap) (hsm : (ds.length : Int) ≤ 1000) (hg : g < n₀) (J Jx : List Int → World → Prop) (W : World)
    (hY : ∀ pre x W, J pre W → pre.length < ds.length → YieldAt Fence.wide (n - 1) Try.prog l #[.int .i64 x] W fun e W' =>
      (e = .returned (.bool true) ∧ J (pre ++ [x]) W' ∧ Below n₀ W W') ∨ (e = .returned (.bool false) ∧ Jx (pre ++ [x]) W'))
    (hn₀ : n₀ ≤ W.heap.size) (hBs : W.cell? ⟨Bs, 0, none⟩ = some (.slice (some ⟨g, 0, none⟩) ds.length cap)) (hc : ∀ k x, ds[k]? = some x → W.cell? ⟨g, k, none⟩ = some (.int .i64 x)) (h0 : J [] W) :
    CallsIn Fence.wide n Try.prog 51 #[.func (.yield l) #[] #[], .pointer (some ⟨Bs, 0, none⟩)] W fun e W' => (∃ v, e = .returned v) ∧
      ((∃ ys, ys = ds ∧ J ys W') ∨ (∃ pre : List Int, (∃ m, pre = ds.take m) ∧ Jx pre W')) := by
  refine callsIn_of_wp Try.func51 rfl trivial ?_ rfl
  simp only [Try.ntmps51, List.size_toArray, List.length_cons, List.length_nil, Nat.reduceAdd, Nat.reduceSub, Array.replicate_succ, Array.replicate_zero, List.push_toArray, List.append_toArray, List.nil_append, List.cons_append]
  gi_wp2
  gi_loopw [4, 7] (fun x s wr => ∃ k : Nat, k ≤ ds.length ∧ s = .int .i64 k ∧ J (ds.take k) wr ∧ Below n₀ W wr) (fun x s _ => ds.length - (intOf s).toNat)
  case atStart => exact ⟨0, by omega, rfl, h0, Below.refl _ _⟩
  case round =>
    obtain ⟨k, hk, rfl, hJs, hnx⟩ := hrel
    by_cases hlt : k < ds.length
    · have HX : Hid (ds[k]? = some ds[k]) := List.getElem?_eq_getElem hlt
      obtain ⟨x, hx⟩ : ∃ x, ds[k] = x := ⟨_, rfl⟩
      have hr : wr.cell? ⟨g, k, none⟩ = some (.int .i64 x) := (hnx.cell (p := ⟨g, k, none⟩) hg).trans (hc k x (by rw [HX.out, hx]))
      have HTK : Hid (ds.take k ++ [x] = ds.take (k + 1)) := by show _ = _; rw [← hx, List.take_succ_eq_append_getElem hlt]
      have HTL : Hid ((ds.take k).length < ds.length) := by show _ < _; simp; omega
      have HJ : Hid (J (ds.take k) wr) := hJs
      have i1 : (k : Int) < (ds.length : Int) := by omega
      have hcap' : (ds.length : Int) ≤ (cap : Int) := by omega
      obtain ⟨fn, tmps, assign, body, hy, hR⟩ := hY _ x wr HJ.out HTL.out
      clear hx hJs
      gi_wp2
      refine ⟨fun h => by simp [Fence.wide] at h, hR.mono ?_⟩
      rintro e W3 (⟨rfl, hJ3, hk3⟩ | ⟨rfl, hJx3⟩)
      · gi_wp2
        go_roundw
        case rel =>
          refine ⟨k + 1, by omega, by go_num, ?_, hnx.trans hk3⟩
          rw [← HTK.out]
          exact hJ3
        case measure => simp [intOf]; omega
      · gi_wp2
        refine bodyPost_ret (results_none rfl _ _ _) rfl ?_
        exact ⟨⟨_, rfl⟩, .inr ⟨_, ⟨k + 1, HTK.out⟩, hJx3⟩⟩
    · have hkk : k = ds.length := by omega
      have HKK : Hid (k = ds.length) := hkk
      have i1 : ¬ ((k : Int) < (ds.length : Int)) := by omega
      clear hkk hlt
      gi_wp2
      go_end0
      rw [HKK.out, List.take_length] at hJs
      first | exact ⟨⟨_, rfl⟩, .inl hJs⟩ | exact ⟨⟨_, rfl⟩, .inl ⟨_, rfl, hJs⟩⟩
theorem nums_seq (n Bs n₀ base : Nat) (pv : Value) (ds : List Int) (w : World) (hk : (ds.length : Int) ≤ 1000) (hBs : Bs < w.heap.size) (hn₀ : n₀ ≤ w.heap.size) (hc : w.cell? ⟨Bs, 0, none⟩ = some pv) (ho : w.ownsRow base 2 1 pv ds.length (i64l ds)) (hpv : ∀ g, pv.ownBlock = some g → g < n₀) :
    SeqStopsK Fence.wide n Try.prog 51 #[.pointer (some ⟨Bs, 0, none⟩)] (fun x : Int => #[.int .i64 x]) (Below n₀) (fun ys => ys = ds) (fun pre => ∃ m, pre = ds.take m) ds.length w := by
  intro l J Jx W hW hA _ hY h0
  have hc' := (hW.cell (p := ⟨Bs, 0, none⟩) hBs).trans hc
  rcases ho.2 with ⟨rfl, h2⟩ | ⟨g, cap, cur, rfl, hg, hcell, hlc, _⟩
  · have hd : ds = [] := List.eq_nil_of_length_eq_zero h2
    subst hd
    refine (vals0_in n l Bs 0 none W hc').mono ?_
    rintro e W' ⟨h1, rfl⟩
    exact ⟨h1, .inl ⟨[], rfl, h0⟩⟩
  · have hgn := hpv g rfl
    refine nums_in n l Bs n₀ g cap ds (own_cap ho) hk hgn J Jx W hY (Nat.le_trans hn₀ hW.size) hc' (fun j x hx => ?_) h0
    have h := ho.cells (g := g) rfl j (.int .i64 x) (by unfold i64l; rw [List.getElem?_map, hx]; rfl)
    rw [Addr.add_mid, Nat.zero_add] at h
    exact (hW.cell (p := ⟨g, j, none⟩) (by show g < _; omega)).trans h
/-- A mark. -/
def mk (D : Nat) : Deferred := { target := .collected D, args := #[] }
/-- A function that leaves with marks alone. -/
theorem leave_marks {F : Fence} {n : Nat} {fn : Func} {tmps : Array Value} {R : Ending → World → Prop} : ∀ (ds : List Nat) (w : World), ds.Nodup → (∀ D ∈ ds, w.heap[D]? = some (.deferred (some []))) →
    (∀ w', w'.os = w.os → w'.tape = w.tape → w'.output = w.output → w'.heap.size = w.heap.size → (∀ q, q ∉ ds → w'.heap[q]? = w.heap[q]?) → LeavesIn F n Try.prog fn tmps R [] .returning w') →
    LeavesInM F n Try.prog fn tmps R (ds.map mk) .returning w
  | [], w, _, _, h => h w rfl rfl rfl rfl (fun _ _ => rfl)
  | D :: ds, w, hn, hd, h => by
    have hD := hd D (by simp)
    refine ⟨by simp, .inl ⟨D, _, rfl, run_takeDeferred hD, ?_⟩⟩
    have hn' := List.nodup_cons.1 hn
    refine leave_marks ds _ hn'.2 (fun E hE => ?_) (fun w' h1 h2 h3 h4 h5 => h w' h1 h2 h3 (h4.trans (by simp [World.putObj])) (fun q hq => ?_))
    · have hne : E ≠ D := fun e => hn'.1 (e ▸ hE)
      have := hd E (by simp [hE])
      simpa [World.putObj, Array.getElem?_setIfInBounds_ne (Ne.symm hne)] using this
    · simp only [List.mem_cons, not_or] at hq
      rw [h5 q hq.2]
      simp [World.putObj, Array.getElem?_setIfInBounds_ne (Ne.symm hq.1)]
end Go.Proofs.Ytnghgclogeefgaa
