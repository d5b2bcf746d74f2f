/- The program's queues of turns. -/
import Derived.Test.YtkigagglkmdccaaKb
import Derived.Laws.Tables
import Derived.Lib.SliceRun
namespace Go.Proofs.Ytkigagglkmdccaa
open Go.RowKit
set_option linter.unusedVariables false
set_option linter.unusedSimpArgs false

def tu3 (x : Wk) : List Value := [.int .i64 x.id, .int .i64 x.cost, .int .i64 x.start]
theorem tu3_len (x : Wk) : (tu3 x).length = 3 := rfl
theorem tu3_one (x : Wk) : ∀ u ∈ tu3 x, u.oneCell' = true := by
  intro u hu
  simp only [tu3, List.mem_cons, List.mem_nil_iff, or_false] at hu
  rcases hu with rfl | rfl | rfl <;> rfl
/-- A queue as it lies. -/
structure QB (w : World) (Q : Nat) (sv : Value) (ws : List Wk) : Prop where
  box : w.heap[Q]? = some (.cells #[.int .i64 16, sv] 134 (0, 0))
  items : Tl tu3 3 w 0 99 sv ws
theorem tl_slice {α : Type} {f : α → List Value} {m : Nat} {w : World} {base : Nat} {e : TypeId} {v : Value} {l : List α} (h : Tl f m w base e v l) : ∃ a cap, v = .slice a l.length cap ∧ l.length ≤ cap ∧ cap ≤ 9223372036854775807 := by
  rcases h with ⟨rfl, rfl⟩ | ⟨g, o, cap, cur, rfl, _, _, h1, h2, _⟩
  · exact ⟨none, 0, rfl, Nat.le_refl _, by decide⟩
  · exact ⟨_, cap, rfl, h1, by unfold maxLen at h2; omega⟩
theorem tl_at {α : Type} {f : α → List Value} {m : Nat} {w w' : World} {base : Nat} {e : TypeId} {v : Value} {l : List α} (h : Tl f m w base e v l) (hk : ∀ q, v.ownBlock = some q → w'.heap[q]? = w.heap[q]?) : Tl f m w' base e v l :=
  h.imp id fun ⟨g, o, cap, cur, hv, hb, hg, r⟩ => ⟨g, o, cap, cur, hv, hb, (hk g (by rw [hv]; rfl)).trans hg, r⟩
theorem tl_tag {α : Type} {f : α → List Value} {m : Nat} {w : World} {base q : Nat} {e : TypeId} {v : Value} {l : List α} (h : Tl f m w base e v l) (hq : v.ownBlock = some q) : ∃ cur, w.heap[q]? = some (.cells cur e (0, 0)) := by
  rcases h with ⟨rfl, _⟩ | ⟨g, o, cap, cur, rfl, _, hg, _⟩
  · cases hq
  · have : g = q := by simpa [Value.ownBlock] using hq
    subst this
    exact ⟨cur, hg⟩
theorem QB.at' {w w' : World} {Q : Nat} {sv : Value} {ws : List Wk} (h : QB w Q sv ws) (hk : ∀ q, q = Q ∨ sv.ownBlock = some q → w'.heap[q]? = w.heap[q]?) : QB w' Q sv ws :=
  ⟨(hk Q (.inl rfl)).trans h.box, tl_at h.items fun q hq => hk q (.inr hq)⟩
theorem QB.lt {w : World} {Q : Nat} {sv : Value} {ws : List Wk} (h : QB w Q sv ws) : ∀ q, q = Q ∨ sv.ownBlock = some q → q < w.heap.size := by
  rintro q (rfl | hq)
  · exact (Array.getElem?_eq_some_iff.1 h.box).1
  · obtain ⟨cur, hc⟩ := tl_tag h.items hq
    exact (Array.getElem?_eq_some_iff.1 hc).1
theorem QB.cells {w : World} {Q : Nat} {sv : Value} {ws : List Wk} (h : QB w Q sv ws) : w.cell? ⟨Q, 0, none⟩ = some (.int .i64 16) ∧ w.cell? ⟨Q, 1, none⟩ = some sv ∧ w.frozen? ⟨Q, 1, none⟩ = false :=
  ⟨by rw [cell_of_row _ _ _ _ _ _ h.box]; rfl, by rw [cell_of_row _ _ _ _ _ _ h.box]; rfl, by simp [World.frozen?, h.box]⟩
theorem qlen_any (Q : Nat) (sv : Value) (ws : List Wk) (w : World) (h : QB w Q sv ws) : Calls Try.prog 79 #[.pointer (some ⟨Q, 0, none⟩)] w fun e w' => e = .returned (.int .i64 (ws.length : Int)) ∧ w' = w := by
  obtain ⟨a, cap, rfl, _, _⟩ := tl_slice h.items
  obtain ⟨c0, c1, _⟩ := h.cells
  clear h
  go_enter Try.func79, Try.ntmps79
  go_wp2
  go_ret
  exact ⟨rfl, rfl⟩
theorem results_two {P : Program} {fn : Func} {p q : Tmp} {ty : TypeId} (h : fn.results = #[.cell p ty, .tmp q]) (tmps : Array Value) (w : World) (g : Nat) (cs : Array Value) (v : Value)
    (hp : tmps.getD p undef = .pointer (some ⟨g, 0, none⟩)) (hq : tmps.getD q undef = v) (hl : (loadVar ty ⟨g, 0, none⟩).run P w = .ok (.agg cs) w) :
    (results fn tmps).run P w = .ok (.tuple #[.agg cs, v]) w := by
  have hp' : tmps[p]?.getD undef = .pointer (some ⟨g, 0, none⟩) := by simpa using hp
  have hq' : tmps[q]?.getD undef = v := by simpa using hq
  simp [results, h, hp', hq', asAddr, hl]
theorem load80 {W : World} {g : Nat} {cs : Array Value} (h : W.heap[g]? = some (.cells cs 99 (0, 0))) (hs : cs.size = 3) : (loadVar 99 ⟨g, 0, none⟩).run Try.prog W = .ok (.agg cs) W :=
  run_loadVar_row W g 99 99 cs (0, 0) _ h Try.underlying99 rfl (by rw [hs]; kernel_rfl)
def tuV (x : Wk) : Value := .agg #[.int .i64 x.id, .int .i64 x.cost, .int .i64 x.start]
def tu0 : Value := .agg #[.int .i64 0, .int .i64 0, .int .i64 0]
/-- What Peek tells. -/
def pkV : List Wk → Value
  | [] => .tuple #[tu0, .bool false]
  | x :: _ => .tuple #[tuV x, .bool true]
theorem bel1' (w : World) (o : Obj) : Below w.heap.size w (w.alloc o) := (Below.refl _ w).alloc (Nat.le_refl _) _
set_option maxRecDepth 20000 in
set_option maxHeartbeats 4000000 in
theorem peek_any (Q : Nat) (sv : Value) (ws : List Wk) (w : World) (h : QB w Q sv ws) (hl : ws.length ≤ 16) : Calls Try.prog 72 #[.pointer (some ⟨Q, 0, none⟩)] w fun e w' => e = .returned (pkV ws) ∧ Below w.heap.size w w' := by
  have HL : Hid (∀ W : World, Below w.heap.size w W → Calls Try.prog 79 #[.pointer (some ⟨Q, 0, none⟩)] W fun e w' => e = .returned (.int .i64 (ws.length : Int)) ∧ w' = W) := fun W hb => qlen_any Q sv ws W (h.at' fun q hq => hb.block q (h.lt q hq))
  cases ws with
  | nil =>
    clear h hl
    go_enter Try.func72, Try.ntmps72
    go_wp2_with (go_at_call 79; refine (HL.out _ (bel1' w _)).mono ?_; rintro e w1 ⟨rfl, hw1⟩; rw [hw1]; clear hw1)
    refine bodyPost_ret (v := pkV []) (results_two Try.results72 _ _ w.heap.size #[.int .i64 0, .int .i64 0, .int .i64 0] _ rfl rfl (load80 ?_ rfl)) rfl ⟨rfl, ?_⟩
    · first
      | exact heap_alloc_new _ _
      | (rw [Below.heap_alloc _ _ _ (by simp)]; exact heap_alloc_new _ _)
    · exact (bel1' w _).alloc (by simp) _
  | cons x r =>
    rcases h.items with ⟨_, hn⟩ | ⟨g, o, cap, cur, hv, _, hg, h1, h2, h3, h4⟩
    · cases hn
    · subst hv
      obtain ⟨c0, c1, _⟩ := h.cells
      have hc : ∀ j u, (tu3 x)[j]? = some u → w.cell? ⟨g, o + j, none⟩ = some u := fun j u hu => by
        rw [cell_of_row _ _ _ _ _ _ hg]
        exact h4 j u (by rw [fl, List.getElem?_append_left (List.getElem?_eq_some_iff.1 hu).1]; exact hu)
      have e0 := hc 0 _ rfl
      have e1 := hc 1 _ rfl
      have e2 := hc 2 _ rfl
      rw [Nat.add_zero] at e0
      have hgl := (Array.getElem?_eq_some_iff.1 hg).1
      have hQl := (Array.getElem?_eq_some_iff.1 h.box).1
      have hcap : (1 : Int) ≤ (cap : Int) := by simp at h1; omega
      have hz : ¬ ((r.length : Int) + 1 = 0) := by omega
      have hz2 : (0 : Int) < (r.length : Int) + 1 := by omega
      simp only [List.length_cons] at HL c1 hl
      have hl' : (r.length : Int) + 1 ≤ 16 := by omega
      rw [show ((r.length + 1 : Nat) : Int) = (r.length : Int) + 1 by omega] at HL
      clear h h1 h2 h3 h4 hc hl
      go_enter Try.func72, Try.ntmps72
      go_wp2_with (go_at_call 79; refine (HL.out _ (bel1' w _)).mono ?_; rintro e w1 ⟨rfl, hw1⟩; rw [hw1]; clear hw1)
      refine bodyPost_ret (v := pkV (x :: r)) (results_two Try.results72 _ _ w.heap.size #[.int .i64 x.id, .int .i64 x.cost, .int .i64 x.start] _ rfl rfl (load80 (heap_alloc_new _ _) rfl)) rfl ⟨rfl, bel1' w _⟩
end Go.Proofs.Ytkigagglkmdccaa
