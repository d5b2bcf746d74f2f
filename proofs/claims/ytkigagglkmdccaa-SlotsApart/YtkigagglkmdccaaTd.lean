/- A table of fixed turns: Push. -/
import Derived.Test.YtkigagglkmdccaaTc
namespace Go.Proofs.Ytkigagglkmdccaa
open Go.RowKit
set_option linter.unusedVariables false
set_option linter.unusedSimpArgs false

theorem Fr.from {F F' : Nat → Prop} {w W w' : World} (hb : Below w.heap.size w W) (h : Fr F F' W w') : Fr F F' w w' :=
  ⟨h.os.trans hb.os, h.tape.trans hb.tape, h.output.trans hb.output, Nat.le_trans hb.size h.size, fun q hq hn => (h.block q (Nat.lt_of_lt_of_le hq hb.size) hn).trans (hb.block q hq), fun q hq => (h.grow q hq).elim .inl fun k => .inr (Nat.le_trans hb.size k)⟩
/-- The jobs alone are turned. -/
theorem TR.turnJ {w w' : World} {T : Nat} {a : Pa} {x : Fx} {FM' : Nat → Prop} {J' : List UInt8 → List Wn} (h : TR w T a x) (hm : MP w' a.B FM' J') (hf : Fr a.FM FM' w w') : TR w' T { a with FM := FM' } { x with J := J' } ∧ Fr (TF a) (TF { a with FM := FM' }) w w' := by
  have hk : ∀ q, a.FS q ∨ a.nv.ownBlock = some q ∨ a.wv.ownBlock = some q → w'.heap[q]? = w.heap[q]? := fun q hq => by
    refine hf.block q (h.lt q ?_) fun k => ?_
    · rcases hq with k | k | k
      · exact .inl k
      · exact .inr (.inl k)
      · exact .inr (.inr (.inl k))
    · obtain ⟨k1, k2, k3⟩ := h.apart q
      rcases hq with k' | k' | k'
      · exact (k1 k').1 k
      · exact (k2 k).1 k'
      · exact (k2 k).2 k'
  refine ⟨⟨h.sched.at' fun q hq => hk q (.inl hq), own_at h.names fun q hq => hk q (.inr (.inl hq)), own_at h.weights fun q hq => hk q (.inr (.inr hq)), hm⟩, ⟨hf.os, hf.tape, hf.output, hf.size, fun q hq hn => hf.block q hq fun k => hn (.inr (.inr (.inr k))), fun q hq => ?_⟩⟩
  rcases hq with k | k | k | k
  · exact .inl (.inl k)
  · exact .inl (.inr (.inl k))
  · exact .inl (.inr (.inr (.inl k)))
  · exact (hf.grow q k).elim (fun e => .inl (.inr (.inr (.inr e)))) .inr
/-- How a push ends. -/
def pushX (x : Fx) (nm : List UInt8) (id cost : Int) : Int × Fx :=
  if plB x.ns nm = false then (5, x) else if ¬ (1 ≤ cost ∧ cost ≤ 1000) then (1, x) else ((pushJ x.J nm id cost).1, { x with J := (pushJ x.J nm id cost).2 })
theorem TR.newer {w w' : World} {T : Nat} {a : Pa} {x : Fx} (h : TR w T a x) (hb : Below w.heap.size w w') : TR w' T a x ∧ Fr (TF a) (TF a) w w' :=
  ⟨h.at' fun q hq => hb.block q (h.lt q hq), ⟨hb.os, hb.tape, hb.output, hb.size, fun q hq _ => hb.block q hq, fun q hq => .inl hq⟩⟩
set_option maxRecDepth 20000 in
set_option maxHeartbeats 4000000 in
theorem tpush_any {w : World} {T : Nat} {a : Pa} {x : Fx} (h : TR w T a x) (hu : Up x.ns) (hl : x.ns.length ≤ 16) (nm : List UInt8) (id cost : Int) (hJ : (x.J nm).length ≤ 16) :
    Calls Try.prog 13 #[.pointer (some ⟨T, 0, none⟩), .string (tx nm), .agg #[.int .i64 id, .int .i64 cost]] w fun e w' => e = .returned (.int .i64 (pushX x nm id cost).1) ∧ ∃ a', TR w' T a' (pushX x nm id cost).2 ∧ Fr (TF a) (TF a') w w' := by
  obtain ⟨W, hW⟩ : ∃ W, w.alloc (.cells #[.int .i64 id, .int .i64 cost] 30) = W := ⟨_, rfl⟩
  have hb : Below w.heap.size w W := by rw [← hW]; exact bel1' _ _
  have hg : W.heap[w.heap.size]? = some (.cells #[.int .i64 id, .int .i64 cost] 30 (0, 0)) := by rw [← hW]; exact heap_alloc_new _ _
  have hT : TR W T a x := (h.newer hb).1
  have HN : Hid (∀ V, Below w.heap.size w V → ∃ a', TR V T a' x ∧ Fr (TF a) (TF a') w V) := fun V hV => ⟨a, h.newer hV⟩
  obtain ⟨c0, -, c2, -, c8⟩ := hT.cells
  obtain ⟨sa, cap, hsl⟩ := own_slice hT.names
  have HB : Hid (Calls Try.prog 33 #[.slice sa x.ns.length cap, .string (tx nm)] W fun e w' => e = .returned (.tuple #[.int .i64 (plI x.ns nm : Nat), .bool (plB x.ns nm)]) ∧ w' = W) := bsearch_any 0 sa x.ns.length cap x.ns nm W (hsl ▸ hT.names) hu hl rfl
  rw [hsl] at c2
  have HP : Hid (∀ V, Below w.heap.size w V → Calls Try.prog 38 #[.map (some a.B), .string (tx nm), .agg #[.int .i64 id, .int .i64 cost]] V fun e w' => e = .returned (.int .i64 (pushJ x.J nm id cost).1) ∧ Hid (∃ a', TR w' T a' { x with J := (pushJ x.J nm id cost).2 } ∧ Fr (TF a) (TF a') w w')) := fun V hV => by
    refine (mpush_any (h.newer hV).1.jobs nm id cost hJ).mono ?_
    rintro e w' ⟨rfl, F', k1, k2⟩
    exact ⟨rfl, _, h.turnJ k1 (Fr.from hV k2)⟩
  have HBb : Hid (Below w.heap.size w W) := hb
  have d0 : W.cell? ⟨w.heap.size, 0, none⟩ = some (.int .i64 id) := by rw [cell_of_row _ _ _ _ _ _ hg]; rfl
  have d1 : W.cell? ⟨w.heap.size, 1, none⟩ = some (.int .i64 cost) := by rw [cell_of_row _ _ _ _ _ _ hg]; rfl
  have HC : Hid (Calls Try.prog 37 #[.int .i64 cost] W fun e w' => e = .returned (.bool (decide (1 ≤ cost) && decide (cost ≤ 1000))) ∧ w' = W) := cost_any cost W
  clear h hT hb hg hsl hu hl hJ
  cases hp : plB x.ns nm with
  | false =>
    have HX : Hid (pushX x nm id cost = (5, x)) := by show _ = _; unfold pushX; rw [if_pos hp]
    rw [HX.out]
    rw [hp] at HB
    clear HP HC HX
    go_enter Try.func13, Try.ntmps13
    go_wp2_with (go_at_call 33; refine HB.out.mono ?_; rintro e w1 ⟨rfl, hw1⟩; rw [hw1]; clear hw1)
    go_ret
    exact ⟨rfl, HN.out W HBb.out⟩
  | true =>
    rw [hp] at HB
    by_cases hc : 1 ≤ cost ∧ cost ≤ 1000
    · have HX : Hid (pushX x nm id cost = ((pushJ x.J nm id cost).1, { x with J := (pushJ x.J nm id cost).2 })) := by show _ = _; unfold pushX; rw [if_neg (by rw [hp]; decide), if_neg (fun k => k hc)]
      rw [HX.out]
      have hcb : (decide (1 ≤ cost) && decide (cost ≤ 1000)) = true := by simp [hc.1, hc.2]
      rw [hcb] at HC
      clear HX HN hcb
      generalize pushJ x.J nm id cost = pj at *
      go_enter Try.func13, Try.ntmps13
      go_upto_region 10 with (first | (go_at_call 33; refine HB.out.mono ?_; rintro e w1 ⟨rfl, hw1⟩; rw [hw1]; clear hw1) | (go_at_call 37; refine HC.out.mono ?_; rintro e w1 ⟨rfl, hw1⟩; rw [hw1]; clear hw1))
      clear hW
      have HPD := HP.out W.drew ⟨HBb.out.os, HBb.out.tape, HBb.out.output, HBb.out.size, HBb.out.block⟩
      have HPE : Hid (Calls Try.prog 38 #[.map (some a.B), .string (tx nm), .agg #[.int .i64 id, .int .i64 cost]] W.drew fun e w' => e = .returned (.int .i64 pj.1) ∧ Hid (∃ a', TR w' T a' { x with J := pj.2 } ∧ Fr (TF a) (TF a') w w')) := HPD
      clear HPD HP
      go_region_with (go_at_call 38; refine HPE.out.mono ?_; rintro e w1 ⟨rfl, HZ⟩)
      all_goals (go_wp2_with fail; go_ret; exact ⟨rfl, HZ.out⟩)
    · have HX : Hid (pushX x nm id cost = (1, x)) := by show _ = _; unfold pushX; rw [if_neg (by rw [hp]; decide), if_pos hc]
      rw [HX.out]
      have hcb : (decide (1 ≤ cost) && decide (cost ≤ 1000)) = false := by
        cases hd : (decide (1 ≤ cost) && decide (cost ≤ 1000)) with
        | false => rfl
        | true => simp at hd; exact absurd hd hc
      rw [hcb] at HC
      clear HX HP hcb
      go_enter Try.func13, Try.ntmps13
      go_wp2_with (first | (go_at_call 33; refine HB.out.mono ?_; rintro e w1 ⟨rfl, hw1⟩; rw [hw1]; clear hw1) | (go_at_call 37; refine HC.out.mono ?_; rintro e w1 ⟨rfl, hw1⟩; rw [hw1]; clear hw1))
      go_ret
      exact ⟨rfl, HN.out W HBb.out⟩
end Go.Proofs.Ytkigagglkmdccaa
