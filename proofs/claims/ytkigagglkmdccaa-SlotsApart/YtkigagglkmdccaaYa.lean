/- Two tables that a call made itself, apart; what a tenant's jobs get hangs on nobody else's. -/
import Derived.Test.YtkigagglkmdccaaAa
namespace Go.Proofs.Ytkigagglkmdccaa
open Go.RowKit
set_option linter.unusedVariables false
set_option linter.unusedSimpArgs false

/-- Two tables all of whose blocks are newer than a world, and blocks beside them. -/
structure S2 (w w' : World) (T U : Nat) (x y : Fx) (ks : List (Nat × Obj)) : Prop where
  ex : ∃ a b, TR w' T a x ∧ TR w' U b y ∧ (∀ q, TF a q → w.heap.size ≤ q) ∧ (∀ q, TF b q → w.heap.size ≤ q) ∧ (∀ q, TF a q → ¬ TF b q) ∧ (∀ p ∈ ks, w'.heap[p.1]? = some p.2 ∧ ¬ TF a p.1 ∧ ¬ TF b p.1)
  below : Below w.heap.size w w'
theorem S2.flip {w w' : World} {T U : Nat} {x y : Fx} {ks : List (Nat × Obj)} (h : S2 w w' T U x y ks) : S2 w w' U T y x ks := by
  obtain ⟨⟨a, b, h1, h2, h3, h4, h5, h6⟩, h7⟩ := h
  exact ⟨⟨b, a, h2, h1, h4, h3, fun q hq k => h5 q k hq, fun p hp => ⟨(h6 p hp).1, (h6 p hp).2.2, (h6 p hp).2.1⟩⟩, h7⟩
theorem S2.newer {w w1 w2 : World} {T U : Nat} {x y : Fx} {ks : List (Nat × Obj)} (h : S2 w w1 T U x y ks) (hb : Below w1.heap.size w1 w2) : S2 w w2 T U x y ks := by
  obtain ⟨⟨a, b, h1, h2, h3, h4, h5, h6⟩, h7⟩ := h
  exact ⟨⟨a, b, (h1.newer hb).1, (h2.newer hb).1, h3, h4, h5, fun p hp => ⟨(hb.block p.1 (Array.getElem?_eq_some_iff.1 (h6 p hp).1).1).trans (h6 p hp).1, (h6 p hp).2⟩⟩, h7.trans (hb.mono h7.size)⟩
theorem S2.keep {w w1 w2 : World} {T U : Nat} {x y : Fx} {ks : List (Nat × Obj)} (h : S2 w w1 T U x y ks) (hb : Below w1.heap.size w1 w2) {q : Nat} {o : Obj} (hq : w2.heap[q]? = some o) (hn : w1.heap.size ≤ q) : S2 w w2 T U x y ((q, o) :: ks) := by
  have h7 := (h.newer hb).below
  obtain ⟨⟨a, b, k1, k2, k3, k4, k5, k6⟩, k7⟩ := h
  refine ⟨⟨a, b, (k1.newer hb).1, (k2.newer hb).1, k3, k4, k5, fun p hp => ?_⟩, h7⟩
  rcases List.mem_cons.1 hp with rfl | hp
  · exact ⟨hq, fun e => by have := k1.lt _ e; omega, fun e => by have := k2.lt _ e; omega⟩
  · exact ⟨(hb.block p.1 (Array.getElem?_eq_some_iff.1 (k6 p hp).1).1).trans (k6 p hp).1, (k6 p hp).2⟩
theorem S2.less {w w1 : World} {T U : Nat} {x y : Fx} {ks ks' : List (Nat × Obj)} (h : S2 w w1 T U x y ks) (hk : ∀ p ∈ ks', p ∈ ks) : S2 w w1 T U x y ks' := by
  obtain ⟨⟨a, b, h1, h2, h3, h4, h5, h6⟩, h7⟩ := h
  exact ⟨⟨a, b, h1, h2, h3, h4, h5, fun p hp => h6 p (hk p hp)⟩, h7⟩
theorem S2.at' {w w1 : World} {T U : Nat} {x y : Fx} {ks : List (Nat × Obj)} (h : S2 w w1 T U x y ks) {p : Nat × Obj} (hp : p ∈ ks) : w1.heap[p.1]? = some p.2 := by
  obtain ⟨⟨a, b, h1, h2, h3, h4, h5, h6⟩, h7⟩ := h
  exact (h6 p hp).1
/-- The first table is turned. -/
theorem S2.fr {w w1 w2 : World} {T U : Nat} {a a' b : Pa} {x' y : Fx} {ks : List (Nat × Obj)} (h2 : TR w1 U b y) (h3 : ∀ q, TF a q → w.heap.size ≤ q) (h4 : ∀ q, TF b q → w.heap.size ≤ q) (h5 : ∀ q, TF a q → ¬ TF b q) (h6 : ∀ p ∈ ks, w1.heap[p.1]? = some p.2 ∧ ¬ TF a p.1 ∧ ¬ TF b p.1) (h7 : Below w.heap.size w w1) (k1 : TR w2 T a' x') (k2 : Fr (TF a) (TF a') w1 w2) : S2 w w2 T U x' y ks := by
  have hs := h7.size
  refine ⟨⟨a', b, k1, h2.at' fun q hq => k2.block q (h2.lt q hq) fun e => h5 q e hq, k2.low h3 hs, h4, fun q hq e => ?_, fun p hp => ?_⟩, h7.trans (k2.below h3 hs)⟩
  · rcases k2.grow q hq with g | g
    · exact h5 q g e
    · have := h2.lt q e
      omega
  · obtain ⟨g1, g2, g3⟩ := h6 p hp
    have hlt := (Array.getElem?_eq_some_iff.1 g1).1
    refine ⟨(k2.block p.1 hlt g2).trans g1, fun e => ?_, g3⟩
    rcases k2.grow _ e with g | g
    · exact g2 g
    · omega
theorem S2.set {w w1 : World} {T U : Nat} {x y : Fx} {ks : List (Nat × Obj)} (h : S2 w w1 T U x y ks) (hx : Fok x) (nm : List UInt8) (wt : Int) : Calls Try.prog 12 #[.pointer (some ⟨T, 0, none⟩), .string (tx nm), .int .i64 wt] w1 fun e w2 => e = .returned (.int .i64 (setX x nm wt).1) ∧ S2 w w2 T U (setX x nm wt).2 y ks := by
  obtain ⟨⟨a, b, h1, h2, h3, h4, h5, h6⟩, h7⟩ := h
  refine (tset_any h1 hx nm wt).mono ?_
  rintro e w2 ⟨rfl, a', k1, k2⟩
  exact ⟨rfl, S2.fr h2 h3 h4 h5 h6 h7 k1 k2⟩
theorem S2.push {w w1 : World} {T U : Nat} {x y : Fx} {ks : List (Nat × Obj)} (h : S2 w w1 T U x y ks) (hx : Fok x) (nm : List UInt8) (id cost : Int) : Calls Try.prog 13 #[.pointer (some ⟨T, 0, none⟩), .string (tx nm), .agg #[.int .i64 id, .int .i64 cost]] w1 fun e w2 => e = .returned (.int .i64 (pushX x nm id cost).1) ∧ S2 w w2 T U (pushX x nm id cost).2 y ks := by
  obtain ⟨⟨a, b, h1, h2, h3, h4, h5, h6⟩, h7⟩ := h
  refine (tpush_any h1 hx.up hx.le nm id cost (hx.jo nm).1).mono ?_
  rintro e w2 ⟨rfl, a', k1, k2⟩
  exact ⟨rfl, S2.fr h2 h3 h4 h5 h6 h7 k1 k2⟩
theorem S2.step {w w1 : World} {T U : Nat} {x y : Fx} {ks : List (Nat × Obj)} (h : S2 w w1 T U x y ks) (hx : Fok x) (k : Nat) (hk : x.slot = k) (hk2 : k ≤ 1000000) : Calls Try.prog 14 #[.pointer (some ⟨T, 0, none⟩)] w1 fun e w2 => e = .returned (.agg #[.int .i64 k, .string (tx (turnF x k)), .int .i64 (srvJ x.J (turnF x k)).1.1, .int .i64 (srvJ x.J (turnF x k)).1.2.1, .bool (srvJ x.J (turnF x k)).1.2.2.1, .bool (srvJ x.J (turnF x k)).1.2.2.2]) ∧ S2 w w2 T U { x with slot := (k : Int) + 1, J := (srvJ x.J (turnF x k)).2 } y ks := by
  obtain ⟨⟨a, b, h1, h2, h3, h4, h5, h6⟩, h7⟩ := h
  refine (tstep_any h1 k hk hk2 hx.le hx.jo).mono ?_
  rintro e w2 ⟨rfl, a', k1, k2⟩
  exact ⟨rfl, S2.fr h2 h3 h4 h5 h6 h7 k1 k2⟩
theorem S2.waiting {w w1 : World} {T U : Nat} {x y : Fx} {ks : List (Nat × Obj)} (h : S2 w w1 T U x y ks) (nm : List UInt8) : Calls Try.prog 16 #[.pointer (some ⟨T, 0, none⟩), .string (tx nm)] w1 fun e w' => e = .returned (.int .i64 ((x.J nm).length : Int)) ∧ w' = w1 := by
  obtain ⟨⟨a, b, h1, h2, h3, h4, h5, h6⟩, h7⟩ := h
  exact twait_any h1 nm
theorem S2.ahead {w w1 : World} {T U : Nat} {x y : Fx} {ks : List (Nat × Obj)} (h : S2 w w1 T U x y ks) (hx : Fok x) (nm : List UInt8) : Calls Try.prog 15 #[.pointer (some ⟨T, 0, none⟩), .string (tx nm)] w1 fun e w2 => e = .returned (.int .i64 (sumJ (x.J nm))) ∧ S2 w w2 T U x y ks := by
  have hh := h
  obtain ⟨⟨a, b, h1, h2, h3, h4, h5, h6⟩, h7⟩ := h
  refine (tahead_any h1 nm hx.jo).mono ?_
  rintro e w2 ⟨rfl, hb⟩
  exact ⟨rfl, hh.newer hb⟩
/-- Two new ones. -/
theorem s2_new {w w1 : World} {T : Nat} (h : SM w w1 T newX) : Calls Try.prog 7 #[.int .i64 1] w1 fun e w2 => ∃ U, e = .returned (.pointer (some ⟨U, 0, none⟩)) ∧ S2 w w2 T U newX newX [] := by
  obtain ⟨a, h1, h2, h3⟩ := h
  refine (sm_new w1).mono ?_
  rintro e w2 ⟨U, rfl, b, k1, k2, k3⟩
  have := h3.size
  exact ⟨U, rfl, ⟨a, b, (h1.newer k3).1, k1, h2, fun q hq => by have := k2 q hq; omega, fun q hq e => by have := h1.lt q hq; have := k2 q e; omega, fun p hp => by simp at hp⟩, h3.trans (k3.mono this)⟩

/-! Plain: what a tenant has. -/
theorem pushJ_off (J : List UInt8 → List Wn) {s own : List UInt8} (h : s ≠ own) (id cost : Int) : (pushJ J s id cost).2 own = J own := by
  unfold pushJ
  split
  · rfl
  · exact upd_off _ _ (fun e => h e.symm)
theorem pushX_off (x : Fx) {s own : List UInt8} (h : s ≠ own) (id cost : Int) : (pushX x s id cost).2.J own = x.J own := by
  unfold pushX
  repeat' split
  · rfl
  · rfl
  · exact pushJ_off _ h _ _
theorem pushJ_own {J K : List UInt8 → List Wn} {own : List UInt8} (h : J own = K own) (id cost : Int) : (pushJ J own id cost).1 = (pushJ K own id cost).1 ∧ (pushJ J own id cost).2 own = (pushJ K own id cost).2 own := by
  unfold pushJ
  rw [h]
  split
  · exact ⟨rfl, h⟩
  · exact ⟨rfl, by dsimp only; rw [upd_at, upd_at]⟩
theorem pushX_own {x y : Fx} {own : List UInt8} (hn : x.ns = y.ns) (h : x.J own = y.J own) (id cost : Int) : (pushX x own id cost).1 = (pushX y own id cost).1 ∧ (pushX x own id cost).2.J own = (pushX y own id cost).2.J own := by
  unfold pushX
  rw [hn]
  split
  · exact ⟨rfl, h⟩
  · split
    · exact ⟨rfl, h⟩
    · exact pushJ_own h id cost
theorem srvJ_off (J : List UInt8 → List Wn) {s own : List UInt8} (h : s ≠ own) : (srvJ J s).2 own = J own := by
  unfold srvJ
  split
  · rfl
  · exact upd_off _ _ (fun e => h e.symm)
theorem srvJ_own {J K : List UInt8 → List Wn} {own : List UInt8} (h : J own = K own) : (srvJ J own).1 = (srvJ K own).1 ∧ (srvJ J own).2 own = (srvJ K own).2 own := by
  unfold srvJ
  rw [h]
  split
  · exact ⟨rfl, h⟩
  · exact ⟨rfl, by dsimp only; rw [upd_at, upd_at]⟩
end Go.Proofs.Ytkigagglkmdccaa
