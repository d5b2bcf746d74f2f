/- A table of fixed turns: Within; what is turned when a tenant is set. -/
import Derived.Test.YtkigagglkmdccaaTi
namespace Go.Proofs.Ytkigagglkmdccaa
open Go.RowKit
set_option linter.unusedVariables false
set_option linter.unusedSimpArgs false

/-- What Within tells. -/
def withinX (x : Fx) (k : Nat) (nm : List UInt8) (cost : Int) : Int × Int :=
  if plB x.ns nm = false then (0, 5) else if ¬ (1 ≤ cost ∧ cost ≤ 1000) then (0, 1) else (untilI x.ns.length k (plI x.ns nm) (sumJ (x.J nm) + cost), 0)
set_option maxRecDepth 20000 in
set_option maxHeartbeats 4000000 in
theorem within_any {w : World} {T : Nat} {a : Pa} {x : Fx} (h : TR w T a x) (hu : Up x.ns) (hl : x.ns.length ≤ 16) (k : Nat) (hk : x.slot = k) (nm : List UInt8) (cost : Int) (ho : Jok x.J) :
    Calls Try.prog 19 #[.pointer (some ⟨T, 0, none⟩), .string (tx nm), .int .i64 cost] w fun e w' => e = .returned (.tuple #[.int .i64 (withinX x k nm cost).1, .int .i64 (withinX x k nm cost).2]) ∧ Below w.heap.size w w' := by
  obtain ⟨c0, -, c2, -, c8⟩ := h.cells
  obtain ⟨sa, cap, hsl⟩ := own_slice h.names
  have HB : Hid (Calls Try.prog 33 #[.slice sa x.ns.length cap, .string (tx nm)] w fun e w' => e = .returned (.tuple #[.int .i64 (plI x.ns nm : Nat), .bool (plB x.ns nm)]) ∧ w' = w) := bsearch_any 0 sa x.ns.length cap x.ns nm w (hsl ▸ h.names) hu hl rfl
  rw [hsl] at c2
  have HC : Hid (Calls Try.prog 37 #[.int .i64 cost] w fun e w' => e = .returned (.bool (decide (1 ≤ cost) && decide (cost ≤ 1000))) ∧ w' = w) := cost_any cost w
  cases hp : plB x.ns nm with
  | false =>
    have HX : Hid (withinX x k nm cost = (0, 5)) := by show _ = _; unfold withinX; rw [if_pos hp]
    rw [HX.out]
    rw [hp] at HB
    clear HC HX h ho hu hsl
    go_enter Try.func19, Try.ntmps19
    go_wp2_with (go_at_call 33; refine HB.out.mono ?_; rintro e w1 ⟨rfl, hw1⟩; rw [hw1]; clear hw1)
    go_ret2
    exact ⟨rfl, Below.refl _ _⟩
  | true =>
    rw [hp] at HB
    by_cases hc : 1 ≤ cost ∧ cost ≤ 1000
    · have HX : Hid (withinX x k nm cost = (untilI x.ns.length k (plI x.ns nm) (sumJ (x.J nm) + cost), 0)) := by show _ = _; unfold withinX; rw [if_neg (by rw [hp]; decide), if_neg (fun k => k hc)]
      rw [HX.out]
      have hcb : (decide (1 ≤ cost) && decide (cost ≤ 1000)) = true := by simp [hc.1, hc.2]
      rw [hcb] at HC
      have hs := sumJ_bd (ho nm).2
      have hs2 := (ho nm).1
      have hi := (List.getElem?_eq_some_iff.1 (plB_true hp)).1
      have HA : Hid (Calls Try.prog 15 #[.pointer (some ⟨T, 0, none⟩), .string (tx nm)] w fun e w' => e = .returned (.int .i64 (sumJ (x.J nm))) ∧ Below w.heap.size w w') := tahead_any h nm ho
      have HU : Hid (∀ V, Below w.heap.size w V → Calls Try.prog 45 #[.pointer (some ⟨T, 0, none⟩), .int .i64 (plI x.ns nm : Nat), .int .i64 (sumJ (x.J nm) + cost)] V fun e w' => e = .returned (.int .i64 (untilI x.ns.length k (plI x.ns nm) (sumJ (x.J nm) + cost))) ∧ Below w.heap.size w w') := fun V hV => by
        refine (until_any (h.newer hV).1 k (plI x.ns nm) (sumJ (x.J nm) + cost) hk hl hi (by omega)).mono ?_
        rintro e w' ⟨rfl, hb⟩
        exact ⟨rfl, hV.trans (hb.mono hV.size)⟩
      have hs3 : sumJ (x.J nm) ≤ 16000 := by omega
      obtain ⟨hs0, -⟩ := hs
      obtain ⟨q0, q1⟩ := hc
      clear HX hcb h ho hu hsl hk hs2 hi hp
      generalize untilI x.ns.length k (plI x.ns nm) (sumJ (x.J nm) + cost) = U at HU ⊢
      generalize sumJ (x.J nm) = S at *
      generalize plI x.ns nm = I at *
      go_enter Try.func19, Try.ntmps19
      go_wp2_with (first | (go_at_call 33; refine HB.out.mono ?_; rintro e w1 ⟨rfl, hw1⟩; rw [hw1]; clear hw1) | (go_at_call 37; refine HC.out.mono ?_; rintro e w1 ⟨rfl, hw1⟩; rw [hw1]; clear hw1) | (go_at_call 15; refine HA.out.mono ?_; rintro e w1 ⟨rfl, hw1⟩; (have HW1 : Hid (Below w.heap.size w w1) := hw1); clear hw1) | (go_at_call 45; refine (HU.out _ HW1.out).mono ?_; rintro e w2 ⟨rfl, hw2⟩; (have HW2 : Hid (Below w.heap.size w w2) := hw2); clear hw2))
      go_ret2
      exact ⟨rfl, HW2.out⟩
    · have HX : Hid (withinX x k nm cost = (0, 1)) := by show _ = _; unfold withinX; rw [if_neg (by rw [hp]; decide), if_pos hc]
      rw [HX.out]
      have hcb : (decide (1 ≤ cost) && decide (cost ≤ 1000)) = false := by
        cases hd : (decide (1 ≤ cost) && decide (cost ≤ 1000)) with
        | false => rfl
        | true => simp at hd; exact absurd hd hc
      rw [hcb] at HC
      clear HX hcb h ho hu hsl
      go_enter Try.func19, Try.ntmps19
      go_wp2_with (first | (go_at_call 33; refine HB.out.mono ?_; rintro e w1 ⟨rfl, hw1⟩; rw [hw1]; clear hw1) | (go_at_call 37; refine HC.out.mono ?_; rintro e w1 ⟨rfl, hw1⟩; rw [hw1]; clear hw1))
      go_ret2
      exact ⟨rfl, Below.refl _ _⟩
theorem Fr.trans' {F F' F'' : Nat → Prop} {w w1 w2 : World} (h : Fr F F' w w1) (k : Fr F' F'' w1 w2) : Fr F F'' w w2 where
  os := k.os.trans h.os
  tape := k.tape.trans h.tape
  output := k.output.trans h.output
  size := Nat.le_trans h.size k.size
  block q hq hn := (k.block q (Nat.lt_of_lt_of_le hq h.size) fun e => (h.grow q e).elim hn fun e => absurd hq (by omega)).trans (h.block q hq hn)
  grow q hq := (k.grow q hq).elim (fun e => h.grow q e) fun e => .inr (Nat.le_trans h.size e)
/-- The scheduler is turned. -/
theorem TR.turnSched {w w' : World} {T : Nat} {a : Pa} {x : Fx} {F' : Nat → Prop} {s' : Sc} (h : TR w T a x) (k : PF (Xt x.slot a.nv a.wv a.B) w' T F' s') (hf : Fr a.FS F' w w') : TR w' T { a with FS := F' } { x with s := s' } ∧ Fr (TF a) (TF { a with FS := F' }) w w' := by
  have ap : ∀ q, TF a q → ¬ a.FS q → w'.heap[q]? = w.heap[q]? := fun q hq hn => hf.block q (h.lt q hq) hn
  refine ⟨⟨k, own_at h.names fun q hq => ap q (.inr (.inl hq)) fun e => ((h.apart q).1 e).2.1 hq, own_at h.weights fun q hq => ap q (.inr (.inr (.inl hq))) fun e => ((h.apart q).1 e).2.2 hq, h.jobs.at' fun q hq => ap q (.inr (.inr (.inr hq))) fun e => ((h.apart q).1 e).1 hq⟩, ⟨hf.os, hf.tape, hf.output, hf.size, fun q hq hn => hf.block q hq fun e => hn (.inl e), ?_⟩⟩
  rintro q (e | e | e | e)
  · exact (hf.grow q e).elim (fun e => .inl (.inl e)) .inr
  · exact .inl (.inr (.inl e))
  · exact .inl (.inr (.inr (.inl e)))
  · exact .inl (.inr (.inr (.inr e)))
/-- The names are turned. -/
theorem TR.turnN {w w2 : World} {T : Nat} {a : Pa} {x : Fx} {sv' : Value} {ns' : List (List UInt8)} (h : TR w T a x) (hos : w2.os = w.os) (htp : w2.tape = w.tape) (hou : w2.output = w.output) (hsz : w.heap.size ≤ w2.heap.size) (hk : ∀ q, q < w.heap.size → a.nv.ownBlock ≠ some q → w2.heap[q]? = w.heap[q]?) (hr : RowS w2 sv' ns') (ho : sv'.ownBlock = a.nv.ownBlock ∨ ∀ q, sv'.ownBlock = some q → w.heap.size ≤ q) :
    w2.cell? ⟨T, 2, none⟩ = some a.nv ∧ w2.frozen? ⟨T, 2, none⟩ = false ∧ TR (w2.setCell ⟨T, 2, none⟩ sv') T { a with nv := sv' } { x with ns := ns' } ∧ Fr (TF a) (TF { a with nv := sv' }) w (w2.setCell ⟨T, 2, none⟩ sv') := by
  have hs := h.sched.self
  have hTl := h.lt T (.inl hs)
  obtain ⟨k1, k2, k3⟩ := (h.apart T).1 hs
  have hT2 := hk T hTl k2
  have hoth : ∀ q, q < w.heap.size → a.nv.ownBlock ≠ some q → q ≠ T → (w2.setCell ⟨T, 2, none⟩ sv').heap[q]? = w.heap[q]? := fun q hq hn hne => (Below.heap_setCell _ _ _ _ hne).trans (hk q hq hn)
  have hsvT : ∀ q, sv'.ownBlock = some q → q ≠ T := fun q hq e => by
    rcases ho with ho | ho
    · rw [ho] at hq; exact k2 (e ▸ hq)
    · have := ho q hq; omega
  refine ⟨?_, ?_, ⟨?_, ?_, ?_, ?_⟩, ⟨?_, ?_, ?_, ?_, ?_, ?_⟩⟩
  · rw [World.cell?_of_block hT2]; exact h.cells.2.2.1
  · rw [World.frozen?_of_block hT2]
    obtain ⟨lv, m, srv, had, h1, -, -, -⟩ := h.sched
    simp [World.frozen?, h1.box]
  · refine h.sched.ext (fun lv clk srv had hb => row_set _ (hT2.trans hb)) fun q hq hn => hoth q (h.lt q (.inl hq)) ((h.apart q).1 hq).2.1 hn
  · exact own_at hr fun q hq => Below.heap_setCell _ _ _ _ (hsvT q hq)
  · exact own_at h.weights fun q hq => hoth q (h.lt q (.inr (.inr (.inl hq)))) (fun e => (h.apart q).2.2 e hq) fun e => k3 (e ▸ hq)
  · exact h.jobs.at' fun q hq => hoth q (h.lt q (.inr (.inr (.inr hq)))) ((h.apart q).2.1 hq).1 fun e => k1 (e ▸ hq)
  · rw [← hos]; rfl
  · rw [← htp]; rfl
  · rw [← hou]; rfl
  · simpa using hsz
  · exact fun q hq hn => hoth q hq (fun e => hn (.inr (.inl e))) fun e => hn (e ▸ .inl hs)
  · rintro q (e | e | e | e)
    · exact .inl (.inl e)
    · rcases ho with ho | ho
      · exact .inl (.inr (.inl (ho ▸ e)))
      · exact .inr (ho q e)
    · exact .inl (.inr (.inr (.inl e)))
    · exact .inl (.inr (.inr (.inr e)))
/-- The weights are turned. -/
theorem TR.turnW {w w2 : World} {T : Nat} {a : Pa} {x : Fx} {sv' : Value} {ws' : List Int} (h : TR w T a x) (hos : w2.os = w.os) (htp : w2.tape = w.tape) (hou : w2.output = w.output) (hsz : w.heap.size ≤ w2.heap.size) (hk : ∀ q, q < w.heap.size → a.wv.ownBlock ≠ some q → w2.heap[q]? = w.heap[q]?) (hr : RowI w2 sv' ws') (ho : sv'.ownBlock = a.wv.ownBlock ∨ ∀ q, sv'.ownBlock = some q → w.heap.size ≤ q) :
    w2.cell? ⟨T, 3, none⟩ = some a.wv ∧ w2.frozen? ⟨T, 3, none⟩ = false ∧ TR (w2.setCell ⟨T, 3, none⟩ sv') T { a with wv := sv' } { x with wts := ws' } ∧ Fr (TF a) (TF { a with wv := sv' }) w (w2.setCell ⟨T, 3, none⟩ sv') := by
  have hs := h.sched.self
  have hTl := h.lt T (.inl hs)
  obtain ⟨k1, k2, k3⟩ := (h.apart T).1 hs
  have hT2 := hk T hTl k3
  have hoth : ∀ q, q < w.heap.size → a.wv.ownBlock ≠ some q → q ≠ T → (w2.setCell ⟨T, 3, none⟩ sv').heap[q]? = w.heap[q]? := fun q hq hn hne => (Below.heap_setCell _ _ _ _ hne).trans (hk q hq hn)
  have hsvT : ∀ q, sv'.ownBlock = some q → q ≠ T := fun q hq e => by
    rcases ho with ho | ho
    · rw [ho] at hq; exact k3 (e ▸ hq)
    · have := ho q hq; omega
  refine ⟨?_, ?_, ⟨?_, ?_, ?_, ?_⟩, ⟨?_, ?_, ?_, ?_, ?_, ?_⟩⟩
  · rw [World.cell?_of_block hT2]; exact h.cells.2.2.2.1
  · rw [World.frozen?_of_block hT2]
    obtain ⟨lv, m, srv, had, h1, -, -, -⟩ := h.sched
    simp [World.frozen?, h1.box]
  · refine h.sched.ext (fun lv clk srv had hb => row_set _ (hT2.trans hb)) fun q hq hn => hoth q (h.lt q (.inl hq)) ((h.apart q).1 hq).2.2 hn
  · exact own_at h.names fun q hq => hoth q (h.lt q (.inr (.inl hq))) (fun e => (h.apart q).2.2 hq e) fun e => k2 (e ▸ hq)
  · exact own_at hr fun q hq => Below.heap_setCell _ _ _ _ (hsvT q hq)
  · exact h.jobs.at' fun q hq => hoth q (h.lt q (.inr (.inr (.inr hq)))) ((h.apart q).2.1 hq).2 fun e => k1 (e ▸ hq)
  · rw [← hos]; rfl
  · rw [← htp]; rfl
  · rw [← hou]; rfl
  · simpa using hsz
  · exact fun q hq hn => hoth q hq (fun e => hn (.inr (.inr (.inl e)))) fun e => hn (e ▸ .inl hs)
  · rintro q (e | e | e | e)
    · exact .inl (.inl e)
    · exact .inl (.inr (.inl e))
    · rcases ho with ho | ho
      · exact .inl (.inr (.inr (.inl (ho ▸ e))))
      · exact .inr (ho q e)
    · exact .inl (.inr (.inr (.inr e)))
/-- One weight is turned. -/
theorem TR.turnW1 {w : World} {T : Nat} {a : Pa} {x : Fx} (h : TR w T a x) {i : Nat} (hi : i < x.wts.length) (v : Int) :
    ∃ g cap, a.wv = .slice (some ⟨g, 0, none⟩) x.wts.length cap ∧ x.wts.length ≤ cap ∧ (∃ u, w.cell? ⟨g, i, none⟩ = some (.int .i64 u)) ∧ w.frozen? ⟨g, i, none⟩ = false ∧ TR (w.setCell ⟨g, i, none⟩ (.int .i64 v)) T a { x with wts := x.wts.set i v } ∧ Fr (TF a) (TF a) w (w.setCell ⟨g, i, none⟩ (.int .i64 v)) := by
  obtain ⟨g, cap, hv⟩ := own_form h.weights (by omega)
  have hw := h.weights
  unfold RowI at hw
  rw [hv] at hw
  have hown : a.wv.ownBlock = some g := by rw [hv]; rfl
  obtain ⟨cur, hc⟩ := own_tag h.weights hown
  have hoth : ∀ q, q ≠ g → (w.setCell ⟨g, i, none⟩ (.int .i64 v)).heap[q]? = w.heap[q]? := fun q hq => Below.heap_setCell _ _ _ _ hq
  refine ⟨g, cap, hv, own_cap (hv ▸ h.weights), ⟨x.wts[i], ?_⟩, ?_, ⟨?_, ?_, ?_, ?_⟩, ⟨rfl, rfl, rfl, by simp, ?_, ?_⟩⟩
  · have := hw.cells (g := g) rfl i (intV x.wts[i]) (by rw [List.getElem?_map, List.getElem?_eq_getElem hi]; rfl)
    rwa [Addr.add_lit, Nat.zero_add] at this
  · simp [World.frozen?, hc]
  · exact h.sched.at' fun q hq => hoth q fun e => ((h.apart q).1 hq).2.2 (e ▸ hown)
  · exact own_at h.names fun q hq => hoth q fun e => (h.apart q).2.2 hq (e ▸ hown)
  · have := own_set hw (by simpa using hi) (intV v)
    unfold RowI
    rw [hv, List.length_set, List.map_set]
    exact this
  · exact h.jobs.at' fun q hq => hoth q fun e => ((h.apart q).2.1 hq).2 (e ▸ hown)
  · exact fun q hq hn => hoth q fun e => hn (.inr (.inr (.inl (e ▸ hown))))
  · exact fun q hq => .inl hq
end Go.Proofs.Ytkigagglkmdccaa
