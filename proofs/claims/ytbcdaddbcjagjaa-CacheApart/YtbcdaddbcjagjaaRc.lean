/- One call of a cache and of an empty model's cache: step. -/
import Derived.Test.YtbcdaddbcjagjaaRb
import Derived.Deep.RegionHeld3
namespace Go.Proofs.Ytbcdaddbcjagjaa
open Go.RowKit
set_option linter.unusedVariables false
set_option linter.unusedSimpArgs false

def FX (F : Nat → Prop) (R : Nat) (q : Nat) : Prop := F q ∨ q = R
variable {w w' : World} {C R : Nat} {F : Nat → Prop} {most : Int} {E : List UInt8 → List It} {N : List UInt8 → Int × Int}
/-- What a call of one tenant leaves of all others. -/
structure Oth (s : List UInt8) (E E' : List UInt8 → List It) (N N' : List UInt8 → Int × Int) : Prop where
  e : ∀ x, x ≠ s → E' x = E x
  n : ∀ x, x ≠ s → N' x = N x
  b : 0 ≤ (N s).1 ∧ 0 ≤ (N s).2 → (0 ≤ (N' s).1 ∧ (N' s).1 ≤ (N s).1 + 1) ∧ 0 ≤ (N' s).2 ∧ (N' s).2 ≤ (N s).2 + 1
/-- Behind a call of the cache; behind both. -/
def Aft (w w' : World) (C R : Nat) (F : Nat → Prop) (most : Int) (s : List UInt8) (E : List UInt8 → List It) (N : List UInt8 → Int × Int) : Prop := ∃ F' E' N', CR w' C F' most E' N' ∧ Oth s E E' N N' ∧ Fr (FX F R) F' w w' ∧ ¬ F' R
theorem Aft.of {w1 : World} (hRF : ¬ F R) (hlt : R < w.heap.size) {s : List UInt8} {F' : Nat → Prop} {E' : List UInt8 → List It} {N' : List UInt8 → Int × Int} (h : CR w1 C F' most E' N') (ho : Oth s E E' N N') (hf : Fr F F' w w1) : Aft w w1 C R F most s E N := by
  refine ⟨F', E', N', h, ho, ⟨hf.os, hf.tape, hf.output, hf.size, fun q hq hn => hf.block q hq fun e => hn (.inl e), fun q hq => (hf.grow q hq).imp .inl id⟩, fun e => ?_⟩
  rcases hf.grow R e with e | e
  · exact hRF e
  · omega
theorem Aft.model {w1 w2 : World} {s : List UInt8} (h : Aft w w1 C R F most s E N) (hm : FrR R w1 w2) : Aft w w2 C R F most s E N := by
  obtain ⟨F', E', N', h1, h2, h3, h4⟩ := h
  have hs := h3.size
  have ms := hm.size
  refine ⟨F', E', N', h1.at' fun q hq => hm.block q (h1.lt q hq) fun e => h4 (e ▸ hq), h2, ⟨hm.os.trans h3.os, hm.tape.trans h3.tape, hm.output.trans h3.output, by omega, fun q hq hn => (hm.block q (by omega) fun e => hn (.inr e)).trans (h3.block q hq hn), fun q hq => h3.grow q hq⟩, h4⟩
theorem Aft.newer {w1 w2 : World} {s : List UInt8} (h : Aft w w1 C R F most s E N) (hb : Below w1.heap.size w1 w2) : Aft w w2 C R F most s E N := by
  obtain ⟨F', E', N', h1, h2, h3, h4⟩ := h
  exact ⟨F', E', N', h1.newer hb, h2, h3.trans' (Fr.newer hb), h4⟩
/-- A block that is none of theirs. -/
theorem Aft.keep {w1 : World} {s : List UInt8} (h : Aft w w1 C R F most s E N) {q : Nat} (hq : q < w.heap.size) (h1 : ¬ F q) (h2 : q ≠ R) : w1.heap[q]? = w.heap[q]? := by
  obtain ⟨F', E', N', k1, k2, k3, k4⟩ := h
  exact k3.block q hq fun e => e.elim h1 h2
theorem Aft.model_kept {w1 : World} {s : List UInt8} (h : Aft w w1 C R F most s E N) (hlt : R < w.heap.size) (hRF : ¬ F R) {lv cv : Value} (hR : RB w R lv cv) (hf : ∃ F' E' N', CR w1 C F' most E' N' ∧ Fr F F' w w1) : RB w1 R lv cv := by
  obtain ⟨F', E', N', k1, k2⟩ := hf
  exact (k2.block R hlt hRF).trans hR
theorem oth_refl (s : List UInt8) : Oth s E E N N := ⟨fun _ _ => rfl, fun _ _ => rfl, fun h => ⟨⟨h.1, by omega⟩, h.2, by omega⟩⟩
theorem oth_put (s k st te : List UInt8) : Oth s E (putEE most E s k st te) N N := by
  refine ⟨fun x hx => ?_, fun _ _ => rfl, fun h => ⟨⟨h.1, by omega⟩, h.2, by omega⟩⟩
  unfold putEE
  split
  · rfl
  · exact updE_off _ _ hx
theorem oth_get (s k st : List UInt8) (es : List It) : Oth s E (updE E s es) N (updN N s (getN k st (E s) (N s))) := by
  refine ⟨fun x hx => updE_off _ _ hx, fun x hx => by unfold updN; rw [if_neg hx], fun h => ?_⟩
  have e1 : updN N s (getN k st (E s) (N s)) s = getN k st (E s) (N s) := by unfold updN; rw [if_pos rfl]
  rw [e1]
  unfold getN
  split <;> (dsimp only; omega)
theorem oth_forget (s : List UInt8) : Oth s E (updE E s []) N N := ⟨fun x hx => updE_off _ _ hx, fun _ _ => rfl, fun h => ⟨⟨h.1, by omega⟩, h.2, by omega⟩⟩
set_option maxRecDepth 20000 in
set_option maxHeartbeats 4000000 in
theorem step_put (h : CR w C F most E N) (hR : RB w R (.slice none 0 0) (.slice none 0 0)) (hRF : ¬ F R) (kind : Int) (s k st te : List UInt8) (hk : kind = 0 ∨ kind = 1) (hS : ∃ S : List (List UInt8), S.length ≤ 15 ∧ ∀ x, E x ≠ [] → x ∈ S) : Calls Try.prog 17 #[.pointer (some ⟨C, 0, none⟩), .pointer (some ⟨R, 0, none⟩), .agg #[.int .i64 kind, .string (tx s), .string (tx k), .string (tx st), .string (tx te)]] w fun e w' => ∃ b, e = .returned (.bool b) ∧ Hid (Aft w w' C R F most s E N) := by
  obtain ⟨W, hW⟩ : ∃ W, w.alloc (.cells #[.int .i64 kind, .string (tx s), .string (tx k), .string (tx st), .string (tx te)] 39) = W := ⟨_, rfl⟩
  have hbW : Below w.heap.size w W := by rw [← hW]; exact bel1' _ _
  have hgW : W.heap[w.heap.size]? = some (.cells #[.int .i64 kind, .string (tx s), .string (tx k), .string (tx st), .string (tx te)] 39 (0, 0)) := by rw [← hW]; exact heap_alloc_new _ _
  have hlt : R < w.heap.size := (Array.getElem?_eq_some_iff.1 hR).1
  have hRW : RB W R (.slice none 0 0) (.slice none 0 0) := (hbW.block R hlt).trans hR
  have hsW : W.heap.size = w.heap.size + 1 := by rw [← hW]; simp
  -- behind the cache's call: the box and the model lie as before
  have HA : Hid (Calls Try.prog 22 #[.pointer (some ⟨C, 0, none⟩), .string (tx s), .string (tx k), .string (tx st), .string (tx te)] W.drew fun e w' => e = .returned (.int .i64 (putR k te)) ∧ Hid (Aft w w' C R F most s E N ∧ RB w' R (.slice none 0 0) (.slice none 0 0) ∧ w'.heap[w.heap.size]? = some (.cells #[.int .i64 kind, .string (tx s), .string (tx k), .string (tx st), .string (tx te)] 39 (0, 0)))) := by
    refine ((h.newer (hbW.trans ((drew_below W).mono hbW.size))).put s k st te hS).mono ?_
    rintro e w1 ⟨rfl, F', k1, k2⟩
    have f1 : Fr F F' w w1 := (Fr.newer (hbW.trans ((drew_below W).mono hbW.size))).trans' k2
    refine ⟨rfl, Aft.of hRF hlt k1 (oth_put s k st te) f1, (f1.block R hlt hRF).trans hR, ?_⟩
    exact (k2.block _ (by show _ < W.heap.size; omega) fun e => by have := h.lt _ e; omega).trans hgW
  have HC : Hid (∀ w1, Aft w w1 C R F most s E N ∧ RB w1 R (.slice none 0 0) (.slice none 0 0) ∧ w1.heap[w.heap.size]? = some (.cells #[.int .i64 kind, .string (tx s), .string (tx k), .string (tx st), .string (tx te)] 39 (0, 0)) → Calls Try.prog 32 #[.pointer (some ⟨R, 0, none⟩), .string (tx s), .string (tx k), .string (tx st), .string (tx te)] w1 fun e w' => ∃ r, e = .returned (.int .i64 r) ∧ Hid (Aft w w' C R F most s E N ∧ w'.heap[w.heap.size]? = some (.cells #[.int .i64 kind, .string (tx s), .string (tx k), .string (tx st), .string (tx te)] 39 (0, 0)))) := fun w1 ⟨a1, a2, a3⟩ => by
    refine (rput0 a2 s k st te).mono ?_
    rintro e w2 ⟨r, rfl, m⟩
    exact ⟨r, rfl, a1.model m, (m.block _ (Array.getElem?_eq_some_iff.1 a3).1 (show w.heap.size ≠ R by omega)).trans a3⟩
  obtain ⟨y0, y1, y2, y3, y4⟩ := op5 hgW
  have HOP : Hid (∀ V : World, V.heap[w.heap.size]? = some (.cells #[.int .i64 kind, .string (tx s), .string (tx k), .string (tx st), .string (tx te)] 39 (0, 0)) → V.cell? ⟨w.heap.size, 1, none⟩ = some (.string (tx s)) ∧ V.cell? ⟨w.heap.size, 2, none⟩ = some (.string (tx k)) ∧ V.cell? ⟨w.heap.size, 3, none⟩ = some (.string (tx st)) ∧ V.cell? ⟨w.heap.size, 4, none⟩ = some (.string (tx te))) := fun V hV => (op5 hV).2
  clear h hR hRF hS hbW hgW hlt hRW hsW
  obtain ⟨p, hp⟩ : ∃ p, w.heap.size = p := ⟨_, rfl⟩
  rw [hp] at y0 y1 y2 y3 y4 HA HC HOP
  rcases hk with rfl | rfl
  all_goals
    go_enter Try.func17, Try.ntmps17
    go_upto_region 4 with (fail)
    clear hW
    try rw [hp]
    clear hp y0
    go_region_held3 (fun w' => w'.cell? ⟨p, 1, none⟩ = some (.string (tx s)) ∧ w'.cell? ⟨p, 2, none⟩ = some (.string (tx k)) ∧ w'.cell? ⟨p, 3, none⟩ = some (.string (tx st)) ∧ w'.cell? ⟨p, 4, none⟩ = some (.string (tx te))) (first | exact K9 | exact K8 | go_keep) (first | (go_at_call 22; refine HA.out.mono ?_; rintro e w8 ⟨rfl, HM8⟩; (have K8 := HOP.out w8 HM8.out.2.2); clear HA) | (go_at_call 32; refine (HC.out _ HM8.out).mono ?_; rintro e w9 ⟨r, rfl, HM9⟩; (have K9 := HOP.out w9 HM9.out.2)))
    all_goals
      go_wp2_with fail
      go_ret
      exact ⟨_, rfl, HM9.out.1⟩
end Go.Proofs.Ytbcdaddbcjagjaa
