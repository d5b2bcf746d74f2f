/- Two caches that a call made itself, apart. -/
import Derived.Test.YtbcdaddbcjagjaaRd
namespace Go.Proofs.Ytbcdaddbcjagjaa
open Go.RowKit
set_option linter.unusedVariables false
set_option linter.unusedSimpArgs false

structure C2 (w w' : World) (C D : Nat) (most : Int) (E : List UInt8 → List It) (N : List UInt8 → Int × Int) (E' : List UInt8 → List It) (N' : List UInt8 → Int × Int) (ks : List (Nat × Obj)) : Prop where
  ex : ∃ F G, CR w' C F most E N ∧ CR w' D G most E' N' ∧ (∀ q, F q → w.heap.size ≤ q) ∧ (∀ q, G q → w.heap.size ≤ q) ∧ (∀ q, F q → ¬ G q) ∧ ∀ p ∈ ks, w'.heap[p.1]? = some p.2 ∧ ¬ F p.1 ∧ ¬ G p.1
  below : Below w.heap.size w w'
variable {w w1 w2 : World} {C D : Nat} {most : Int} {E E' : List UInt8 → List It} {N N' : List UInt8 → Int × Int} {ks : List (Nat × Obj)}
theorem C2.flip (h : C2 w w1 C D most E N E' N' ks) : C2 w w1 D C most E' N' E N ks := by
  obtain ⟨⟨F, G, h1, h2, h3, h4, h5, h6⟩, h7⟩ := h
  exact ⟨⟨G, F, h2, h1, h4, h3, fun q hq k => h5 q k hq, fun p hp => ⟨(h6 p hp).1, (h6 p hp).2.2, (h6 p hp).2.1⟩⟩, h7⟩
theorem C2.newer (h : C2 w w1 C D most E N E' N' ks) (hb : Below w1.heap.size w1 w2) : C2 w w2 C D most E N E' N' ks := by
  obtain ⟨⟨F, G, h1, h2, h3, h4, h5, h6⟩, h7⟩ := h
  exact ⟨⟨F, G, h1.newer hb, h2.newer hb, h3, h4, h5, fun p hp => ⟨(hb.block p.1 (Array.getElem?_eq_some_iff.1 (h6 p hp).1).1).trans (h6 p hp).1, (h6 p hp).2⟩⟩, h7.trans (hb.mono h7.size)⟩
theorem C2.keep (h : C2 w w1 C D most E N E' N' ks) (hb : Below w1.heap.size w1 w2) {q : Nat} {o : Obj} (hq : w2.heap[q]? = some o) (hn : w1.heap.size ≤ q) : C2 w w2 C D most E N E' N' ((q, o) :: ks) := by
  have h7' := (h.newer hb).below
  obtain ⟨⟨F, G, h1, h2, h3, h4, h5, h6⟩, h7⟩ := h
  refine ⟨⟨F, G, h1.newer hb, h2.newer hb, h3, h4, h5, fun p hp => ?_⟩, h7'⟩
  rcases List.mem_cons.1 hp with rfl | hp
  · exact ⟨hq, fun e => by have := h1.lt _ e; omega, fun e => by have := h2.lt _ e; omega⟩
  · exact ⟨(hb.block p.1 (Array.getElem?_eq_some_iff.1 (h6 p hp).1).1).trans (h6 p hp).1, (h6 p hp).2⟩
theorem C2.less (h : C2 w w1 C D most E N E' N' ks) {ks' : List (Nat × Obj)} (hk : ∀ p ∈ ks', p ∈ ks) : C2 w w1 C D most E N E' N' ks' := by
  obtain ⟨⟨F, G, h1, h2, h3, h4, h5, h6⟩, h7⟩ := h
  exact ⟨⟨F, G, h1, h2, h3, h4, h5, fun p hp => h6 p (hk p hp)⟩, h7⟩
theorem C2.at' (h : C2 w w1 C D most E N E' N' ks) {q : Nat} {o : Obj} (hp : (q, o) ∈ ks) : w1.heap[q]? = some o := by
  obtain ⟨⟨F, G, h1, h2, h3, h4, h5, h6⟩, h7⟩ := h
  exact (h6 _ hp).1
/-- A block beside is turned. -/
theorem C2.poke {q i : Nat} {cs : Array Value} {t : TypeId} (h : C2 w w1 C D most E N E' N' ((q, .cells cs t (0, 0)) :: ks)) (hq : ∀ p ∈ ks, p.1 ≠ q) (v : Value) (hw : w.heap.size ≤ q) : C2 w (w1.setCell ⟨q, i, none⟩ v) C D most E N E' N' ((q, .cells (cs.setIfInBounds i v) t (0, 0)) :: ks) := by
  obtain ⟨⟨F, G, h1, h2, h3, h4, h5, h6⟩, h7⟩ := h
  obtain ⟨g1, g2, g3⟩ := h6 (q, .cells cs t (0, 0)) List.mem_cons_self
  refine ⟨⟨F, G, h1.poke g2 _ _, h2.poke g3 _ _, h3, h4, h5, fun p hp => ?_⟩, h7.setCell hw _⟩
  rcases List.mem_cons.1 hp with rfl | hp
  · exact ⟨row_set v g1, g2, g3⟩
  · obtain ⟨k1, k2⟩ := h6 p (List.mem_cons_of_mem _ hp)
    exact ⟨(Below.heap_setCell _ _ _ _ (hq p hp)).trans k1, k2⟩
/-- The first one is turned. -/
theorem C2.fr {F F' G : Nat → Prop} {E1 : List UInt8 → List It} {N1 : List UInt8 → Int × Int} (h2 : CR w1 D G most E' N') (h3 : ∀ q, F q → w.heap.size ≤ q) (h4 : ∀ q, G q → w.heap.size ≤ q) (h5 : ∀ q, F q → ¬ G q) (h6 : ∀ p ∈ ks, w1.heap[p.1]? = some p.2 ∧ ¬ F p.1 ∧ ¬ G p.1) (h7 : Below w.heap.size w w1) (k1 : CR w2 C F' most E1 N1) (k2 : Fr F F' w1 w2) : C2 w w2 C D most E1 N1 E' N' ks := by
  have hs := h7.size
  refine ⟨⟨F', G, k1, h2.at' fun q hq => k2.block q (h2.lt q hq) fun e => h5 q e hq, k2.low h3 hs, h4, fun q hq e => ?_, fun p hp => ?_⟩, h7.trans (k2.below h3 hs)⟩
  · rcases k2.grow q hq with g | g
    · exact h5 q g e
    · have := h2.lt q e
      omega
  · obtain ⟨g1, g2, g3⟩ := h6 p hp
    have hlt := (Array.getElem?_eq_some_iff.1 g1).1
    refine ⟨(k2.block p.1 hlt g2).trans g1, fun e => ?_, g3⟩
    rcases k2.grow _ e with g | g
    · exact g2 g
    · omega
theorem C2.get (h : C2 w w1 C D most E N E' N' ks) (s k st : List UInt8) (hN : 0 ≤ (N s).1 ∧ (N s).1 ≤ 1000000 ∧ 0 ≤ (N s).2 ∧ (N s).2 ≤ 1000000) : Calls Try.prog 23 #[.pointer (some ⟨C, 0, none⟩), .string (tx s), .string (tx k), .string (tx st)] w1 fun e w2 => e = .returned (.tuple #[.string (tx (getT (lkE k (E s)) st)), .bool (hitB (lkE k (E s)) st)]) ∧ C2 w w2 C D most (updE E s (getEE k st (E s))) (updN N s (getN k st (E s) (N s))) E' N' ks := by
  obtain ⟨⟨F, G, h1, h2, h3, h4, h5, h6⟩, h7⟩ := h
  refine (h1.get s k st hN).mono ?_
  rintro e w2 ⟨rfl, F', k1, k2⟩
  exact ⟨rfl, C2.fr h2 h3 h4 h5 h6 h7 k1 k2⟩
theorem C2.put (h : C2 w w1 C D most E N E' N' ks) (s k st te : List UInt8) (hS : ∃ S : List (List UInt8), S.length ≤ 15 ∧ ∀ x, E x ≠ [] → x ∈ S) : Calls Try.prog 22 #[.pointer (some ⟨C, 0, none⟩), .string (tx s), .string (tx k), .string (tx st), .string (tx te)] w1 fun e w2 => e = .returned (.int .i64 (putR k te)) ∧ C2 w w2 C D most (putEE most E s k st te) N E' N' ks := by
  obtain ⟨⟨F, G, h1, h2, h3, h4, h5, h6⟩, h7⟩ := h
  refine (h1.put s k st te hS).mono ?_
  rintro e w2 ⟨rfl, F', k1, k2⟩
  exact ⟨rfl, C2.fr h2 h3 h4 h5 h6 h7 k1 k2⟩
theorem C2.forget (h : C2 w w1 C D most E N E' N' ks) (s : List UInt8) : Calls Try.prog 24 #[.pointer (some ⟨C, 0, none⟩), .string (tx s)] w1 fun e w2 => e = .returned (.int .i64 ((E s).length : Int)) ∧ C2 w w2 C D most (updE E s []) N E' N' ks := by
  obtain ⟨⟨F, G, h1, h2, h3, h4, h5, h6⟩, h7⟩ := h
  refine (h1.forget s).mono ?_
  rintro e w2 ⟨rfl, F', k1, k2⟩
  exact ⟨rfl, C2.fr h2 h3 h4 h5 h6 h7 k1 k2⟩
theorem C2.len (h : C2 w w1 C D most E N E' N' ks) (s : List UInt8) : Calls Try.prog 18 #[.pointer (some ⟨C, 0, none⟩), .string (tx s)] w1 fun e w2 => e = .returned (.int .i64 ((E s).length : Int)) ∧ w2 = w1 := by
  obtain ⟨⟨F, G, h1, h2, h3, h4, h5, h6⟩, h7⟩ := h
  exact h1.len s
theorem C2.count (h : C2 w w1 C D most E N E' N' ks) (s : List UInt8) : Calls Try.prog 20 #[.pointer (some ⟨C, 0, none⟩), .string (tx s)] w1 fun e w2 => e = .returned (cV (N s)) ∧ C2 w w2 C D most E N E' N' ks := by
  have hh := h
  obtain ⟨⟨F, G, h1, h2, h3, h4, h5, h6⟩, h7⟩ := h
  refine (h1.count s).mono ?_
  rintro e w2 ⟨rfl, hb⟩
  exact ⟨rfl, hh.newer hb⟩
/-- Both new. -/
theorem c2_new (most : Int) (h1 : 1 ≤ most) (h2 : most ≤ 64) {F : Nat → Prop} (hC : CR w1 C F most (fun _ => []) fun _ => (0, 0)) (hF : ∀ q, F q → w.heap.size ≤ q) (hb : Below w.heap.size w w1) : Calls Try.prog 15 #[.int .i64 most] w1 fun e w2 => ∃ D, e = .returned (.pointer (some ⟨D, 0, none⟩)) ∧ Hid (C2 w w2 C D most (fun _ => []) (fun _ => (0, 0)) (fun _ => []) (fun _ => (0, 0)) []) := by
  refine (cnew_some most h1 h2 w1).mono ?_
  rintro e w2 ⟨D, rfl, G, k1, k2, k3⟩
  have := hb.size
  exact ⟨D, rfl, ⟨F, G, hC.newer k3, k1, hF, fun q hq => by have := k2 q hq; omega, fun q hq e => by have := hC.lt q hq; have := k2 q e; omega, fun p hp => by simp at hp⟩, hb.trans (k3.mono this)⟩
/-- A call of the second one by another tenant, beside a new model's cache. -/
theorem C2.step {R : Nat} (h : C2 w w1 C D most E N E' N' ((R, .cells #[.int .i64 1, .slice none 0 0, .slice none 0 0] 58 (0, 0)) :: ks)) (hks : ∀ p ∈ ks, p.1 ≠ R) (hRw : w.heap.size ≤ R) (kind : Int) (s k st te : List UInt8) (hk : kind ≠ 5) (hS : ∃ S : List (List UInt8), S.length ≤ 15 ∧ ∀ x, E' x ≠ [] → x ∈ S) (hN : 0 ≤ (N' s).1 ∧ (N' s).1 ≤ 1000000 ∧ 0 ≤ (N' s).2 ∧ (N' s).2 ≤ 1000000) : Calls Try.prog 17 #[.pointer (some ⟨D, 0, none⟩), .pointer (some ⟨R, 0, none⟩), .agg #[.int .i64 kind, .string (tx s), .string (tx k), .string (tx st), .string (tx te)]] w1 fun e w2 => ∃ b, e = .returned (.bool b) ∧ Hid (∃ E1 N1, C2 w w2 C D most E N E1 N1 ks ∧ Oth s E' E1 N' N1) := by
  obtain ⟨⟨F, G, h1, h2, h3, h4, h5, h6⟩, h7⟩ := h
  obtain ⟨g1, g2, g3⟩ := h6 _ List.mem_cons_self
  have hlt : R < w1.heap.size := (Array.getElem?_eq_some_iff.1 g1).1
  refine (step_any h2 (show RB w1 R _ _ from g1) g3 kind s k st te hk hS hN).mono ?_
  rintro e w2 ⟨b, rfl, HA⟩
  obtain ⟨G', E1, N1, k1, k2, k3, k4⟩ := HA.out
  have hs := h7.size
  refine ⟨b, rfl, E1, N1, ⟨⟨F, G', h1.at' fun q hq => k3.block q (h1.lt q hq) fun e => ?_, k1, h3, k3.low ?_ hs, fun q hq e => ?_, fun p hp => ?_⟩, h7.trans (k3.below ?_ hs)⟩, k2⟩
  · rcases e with e | rfl
    · exact h5 q hq e
    · exact g2 hq
  · rintro q (e | rfl)
    · exact h4 q e
    · exact hRw
  · rcases k3.grow q e with g | g
    · rcases g with g | rfl
      · exact h5 q hq g
      · exact g2 hq
    · have := h1.lt q hq
      omega
  · obtain ⟨j1, j2, j3⟩ := h6 p (List.mem_cons_of_mem _ hp)
    have hl := (Array.getElem?_eq_some_iff.1 j1).1
    have hn : ¬ FX G R p.1 := fun e => e.elim j3 (hks p hp)
    refine ⟨(k3.block p.1 hl hn).trans j1, j2, fun e => ?_⟩
    rcases k3.grow _ e with g | g
    · exact hn g
    · omega
  · rintro q (e | rfl)
    · exact h4 q e
    · exact hRw
end Go.Proofs.Ytbcdaddbcjagjaa
