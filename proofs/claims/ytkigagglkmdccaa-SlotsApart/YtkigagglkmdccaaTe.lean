/- A table of fixed turns: its own cells are turned; New. -/
import Derived.Test.YtkigagglkmdccaaTd
namespace Go.Proofs.Ytkigagglkmdccaa
open Go.RowKit
set_option linter.unusedVariables false
set_option linter.unusedSimpArgs false

/-- The scheduler lies as it lay, and the rest of the table's block is another. -/
theorem PF.ext {X X' : Ext} {w w' : World} {T : Nat} {F : Nat → Prop} {s : Sc} (h : PF X w T F s) (hbox : ∀ lv clk srv had, w.heap[T]? = some (.cells (bx X lv clk srv had) 65 (0, 0)) → w'.heap[T]? = some (.cells (bx X' lv clk srv had) 65 (0, 0))) (hk : ∀ q, F q → q ≠ T → w'.heap[q]? = w.heap[q]?) : PF X' w' T F s := by
  obtain ⟨lv, m, srv, had, h1, h2, h3, h4⟩ := h
  have hT := h1.box
  have hrow : ∀ q, lv.ownBlock = some q → q ≠ T := fun q hq e => by
    obtain ⟨cur, hc⟩ := own_tag h1.row hq
    exact ne_tag hc hT (by decide) e
  have hp : ∀ r ∈ m, r.p ≠ T := fun r hr e => ne_tag (h1.each r hr) hT (by decide) e
  have hQ : ∀ r ∈ m, r.Q ≠ T := fun r hr e => ne_tag (h1.que r hr).box hT (by decide) e
  have hO : ∀ r ∈ m, ∀ q, r.sv.ownBlock = some q → q ≠ T := fun r hr q hq e => by
    obtain ⟨cur, hc⟩ := tl_tag (h1.que r hr).items hq
    exact ne_tag hc hT (by decide) e
  refine ⟨lv, m, srv, had, ⟨hbox _ _ _ _ hT, own_at h1.row fun q hq => hk q ((h4 q).2 (.inr (.inl hq))) (hrow q hq), fun r hr => (hk r.p ((h4 _).2 (.inr (.inr ⟨r, hr, .inl rfl⟩))) (hp r hr)).trans (h1.each r hr), fun r hr => (h1.que r hr).at' fun q hq => ?_, h1.up, h1.nd, h1.ndQ, h1.ndO⟩, h2, h3, h4⟩
  rcases hq with rfl | hq
  · exact hk _ ((h4 _).2 (.inr (.inr ⟨r, hr, .inr (.inl rfl)⟩))) (hQ r hr)
  · exact hk _ ((h4 _).2 (.inr (.inr ⟨r, hr, .inr (.inr hq)⟩))) (hO r hr q hq)
theorem PF.self {X : Ext} {w : World} {T : Nat} {F : Nat → Prop} {s : Sc} (h : PF X w T F s) : F T := by
  obtain ⟨lv, m, srv, had, h1, h2, h3, h4⟩ := h
  exact (h4 T).2 (.inl rfl)
/-- The next slot's number. -/
theorem TR.turnS {w : World} {T : Nat} {a : Pa} {x : Fx} (h : TR w T a x) (n : Int) : TR (w.setCell ⟨T, 1, none⟩ (.int .i64 n)) T a { x with slot := n } := by
  have hoth : ∀ q, q ≠ T → (w.setCell ⟨T, 1, none⟩ (.int .i64 n)).heap[q]? = w.heap[q]? := fun q hq => Below.heap_setCell _ _ _ _ hq
  have hs := h.sched.self
  obtain ⟨k1, -, -⟩ := h.apart T
  obtain ⟨k1, k2, k3⟩ := k1 hs
  refine ⟨h.sched.ext (fun lv clk srv had hb => row_set _ hb) fun q _ hq => hoth q hq, own_at h.names fun q hq => hoth q fun e => k2 (e ▸ hq), own_at h.weights fun q hq => hoth q fun e => k3 (e ▸ hq), h.jobs.at' fun q hq => hoth q fun e => k1 (e ▸ hq)⟩
/-- New. -/
theorem tnew_any (w : World) : Calls Try.prog 7 #[.int .i64 1] w fun e w' => ∃ T a, e = .returned (.pointer (some ⟨T, 0, none⟩)) ∧ TR w' T a ⟨0, [], [], newS, fun _ => []⟩ ∧ (∀ q, TF a q → w.heap.size ≤ q) ∧ Below w.heap.size w w' := by
  refine (new_fixed w).mono ?_
  rintro e w' ⟨rfl, rfl⟩
  obtain ⟨W, hW⟩ : ∃ W, w.alloc (.map #[] 0) = W := ⟨_, rfl⟩
  have hm := MP.new w
  have hb : Below w.heap.size w W := by rw [← hW]; exact bel1' _ _
  have hsz : W.heap.size = w.heap.size + 1 := by rw [← hW]; simp
  rw [hW] at hm ⊢
  obtain ⟨V, hV⟩ : ∃ V, W.alloc (.cells #[.int .i64 1, .int .i64 0, .slice none 0 0, .slice none 0 0, .slice none 0 0, .int .i64 0, .pointer none, .int .i64 0, .map (some w.heap.size)] 65) = V := ⟨_, rfl⟩
  have hg : V.heap[w.heap.size + 1]? = some (.cells #[.int .i64 1, .int .i64 0, .slice none 0 0, .slice none 0 0, .slice none 0 0, .int .i64 0, .pointer none, .int .i64 0, .map (some w.heap.size)] 65 (0, 0)) := by rw [← hV, ← hsz]; exact heap_alloc_new _ _
  have hbV : Below W.heap.size W V := by rw [← hV]; exact bel1' _ _
  rw [hV]
  refine ⟨w.heap.size + 1, ⟨.slice none 0 0, .slice none 0 0, w.heap.size, foot (w.heap.size + 1) (.slice none 0 0) [], fun q => q = w.heap.size⟩, rfl, ⟨⟨.slice none 0 0, [], .pointer none, 0, ⟨hg, World.ownsRow_nil _ _ _ _, fun r hr => (nomatch hr), fun r hr => (nomatch hr), ?_, List.nodup_nil, List.nodup_nil, fun i j q r r' hi => by simp at hi⟩, rfl, ⟨fun _ => ⟨rfl, rfl, fun r hr => (nomatch hr)⟩, fun h => by cases h⟩, fun q => Iff.rfl⟩, World.ownsRow_nil _ _ _ _, World.ownsRow_nil _ _ _ _, hm.at' fun q hq => hbV.block q (hm.lt q hq)⟩, ?_, hb.trans (hbV.mono (by omega))⟩
  · simp [nms, Up]
  · rintro q ((rfl | hq | ⟨r, hr, _⟩) | hq | hq | rfl)
    · omega
    · cases hq
    · cases hr
    · cases hq
    · cases hq
    · exact Nat.le_refl _
end Go.Proofs.Ytkigagglkmdccaa
