import Derived.Test.YtflhgphjkhplmaaMC03
import Derived.WalkKit
import Derived.RangeFuncNested
import Derived.RangeFuncBound
import Derived.RangeFuncCalls
import Derived.RangeFuncLeaves
import Derived.OwnWalkIn
import Derived.TacticsInMore
import Derived.LoopNIn
import Derived.LoopIn
import Derived.StillTailTactics
import Derived.Deep.RegionHeld3
import Derived.Shelf.Abstract
/- A range over a function whose elements lead to memory that the sequence has made: what is told is said of an element, of the world in which it is told, and of the one ahead of it (where the round before it ended). -/
namespace Go.Proofs.Ytflhgphjkhplmaa.R
open Go Go.RowKit
set_option linter.unusedVariables false

variable {P : Program} {F : Fence} {n : Nat} {α : Type}
/-- What a sequence tells: each element x in a world in which X x holds; at its end S holds of all of them. -/
def SeqX (F : Fence) (n : Nat) (P : Program) (g : Nat) (lb : Array Value) (encs : α → Array Value) (X : List α → α → World → World → Prop) (Kp : α → World → World → Prop) (S : List α → World → Prop) (w : World) : Prop :=
  ∀ (l : Nat) (J Jx : List α → World → Prop) (W : World), Below w.heap.size w W → AbidesFrom W.heap.size J → AbidesFrom W.heap.size Jx →
    (∀ pre x V0 V, J pre V0 → Below V0.heap.size V0 V → X pre x V0 V → YieldAt F (n - 1) P l (encs x) V fun e V' => (e = .returned (.bool true) ∧ J (pre ++ [x]) V' ∧ Kp x V V') ∨ (e = .returned (.bool false) ∧ Jx (pre ++ [x]) V')) →
    J [] W → CallsIn F n P g (#[.func (.yield l) #[] #[]] ++ lb) W fun e W' => (∃ v, e = .returned v) ∧ ((∃ xs, S xs W' ∧ J xs W') ∨ ∃ pre, Jx pre W')
theorem SeqX.stops {g : Nat} {lb : Array Value} {encs : α → Array Value} {X : List α → α → World → World → Prop} {Kp : World → World → Prop} {S : List α → World → Prop} {w : World} (h : SeqX F n P g lb encs X (fun _ => Kp) S w) (N : Nat) (hN : ∀ pre : List α, pre.length < N) : SeqStopsK F n P g lb encs Kp (fun _ => True) (fun _ => True) N w := by
  intro l J Jx W hW hJ hJx hY h0
  refine (h l J Jx W hW hJ hJx (fun pre x V0 V hj hb _ => hY pre x V (hJ _ _ _ none hj ⟨hb.os, hb.tape, hb.output, hb.size, fun q hq _ => hb.block q hq⟩ (fun r e => nomatch e)) (hN pre)) h0).mono ?_
  rintro e W' ⟨hv, ⟨xs, -, hx⟩ | ⟨pre, hx⟩⟩
  · exact ⟨hv, .inl ⟨xs, trivial, hx⟩⟩
  · exact ⟨hv, .inr ⟨pre, trivial, hx⟩⟩
/-- A round that goes on. -/
def goesOn (B : Nat) (Kp : World → World → Prop) (J : World → Prop) (W : World) : Exit → Act → World → Prop
  | .normal, _, W' => KeepsFrom B W W' ∧ Kp W W' ∧ J W'
  | _, _, _ => False
theorem range_x {g : Operand} {ps : Array Tmp} {assign body : Code} {Q : Exit → Act → World → Prop} {a : Act} {w : World} (hro : F.round = none) (h1 : 1 ≤ n)
    {gf : Nat} {lb : Array Value} (hg : a.eval g = .func (.func gf) #[] lb) (hFg : F.fn gf) (eg : ∀ args w, (callFunc gf args).run P w = .ok (.enter gf args) w)
    {encs : α → Array Value} {X : List α → α → World → World → Prop} {Kp : α → World → World → Prop} {S : List α → World → Prop} {w0 : World} (hseq : SeqX F (n - 1) P gf lb encs X Kp S w0) (I : List α → World → Prop) (Ax : List α → α → Act → World → Prop)
    (hKt : ∀ {x : α} {A B C : World}, Kp x A B → Kp x B C → Kp x A C) (hKb : ∀ (pre : List α) (x : α) (a : Act) (W : World) (l : Nat) (o o' : Obj), (Ax pre x a W ∨ I (pre ++ [x]) W) → w.heap.size ≤ l → W.heap[l]? = some o → o.isCells = false → o.isWalk = false → Kp x W (W.putObj l o'))
    (hb0 : Below w0.heap.size w0 w) (hps : ∀ x, (encs x).size = ps.size) (hI : OwnFrom w.heap.size I) (hS : OwnFrom w.heap.size S) (h0 : I [] w)
    (hAx : ∀ pre x a', OwnFrom w.heap.size (fun (_ : Unit) W => Ax pre x a' W))
    (hassign : ∀ (l : Nat) (pre : List α) (x : α) (W : World) (W0 : World) (K : Act → World → Prop), I pre W0 → Below W0.heap.size W0 W → X pre x W0 W → (∀ a' W', KeepsFrom w.heap.size W W' → Kp x W W' → Ax pre x a' W' → K a' W') →
      assign.wpIn (F.inRound l) (n - 1 - 1) P (Exit.then K (fun _ _ _ => False)) { tmps := (ps.zip (encs x)).foldl (fun t (p, v) => t.setIfInBounds p v) a.tmps, defers := [] } W)
    (hbody : ∀ (l : Nat) (pre : List α) (x : α) (a' : Act) (W : World), w.heap.size ≤ l → Ax pre x a' W → body.wpIn (F.inRound l) (n - 1 - 1) P (goesOn w.heap.size (Kp x) (I (pre ++ [x])) W) a' W)
    (hdone : ∀ (D : Nat) (xs : List α) (W : World), w.heap.size ≤ D → S xs W → I xs W → W.heap[D]? = some (.deferred (some [])) → Q .normal { a with defers := { target := .collected D, args := #[] } :: a.defers } W) :
    (Code.rangeFunc g ps assign body).wpIn F n P Q a w := by
  refine wpIn_rangeFunc fun fn hfn => ?_
  rw [hro]
  let rc : LoopState → Option Code → Loop := fun st pe => { state := st, pending := pe, fn, tmps := a.tmps, params := ps, assign, body, defers := w.heap.size }
  let L := w.heap.size + 1
  let W1 := (w.alloc (.deferred (some []))).alloc (.loop (rc .ready none))
  have q1 : W1.heap[L]? = some (.loop (rc .ready none)) := by
    have := World.alloc_heap_new (w.alloc (.deferred (some []))) (.loop (rc .ready none))
    rwa [World.size_alloc] at this
  have q0 : W1.heap[w.heap.size]? = some (.deferred (some [])) := (Below.heap_alloc _ _ _ (by simp)).trans (World.alloc_heap_new w _)
  have qs : W1.heap.size = w.heap.size + 2 := by simp [W1]
  have hb1 : Below w0.heap.size w0 W1 := hb0.trans ((((Below.refl _ w).alloc (Nat.le_refl _) _).alloc (by simp) _).mono hb0.size)
  -- the caller's own invariant, with the two blocks that the statement has laid
  let J : List α → World → Prop := fun pre W => I pre W ∧ W.heap[L]? = some (.loop (rc .ready none)) ∧ W.heap[w.heap.size]? = some (.deferred (some []))
  have hJ : AbidesFrom W1.heap.size J := by
    intro s A B row hs hgr hr
    have hr2 : ∀ r, row = some r → w.heap.size ≤ r ∧ ∃ o : Obj, A.heap[r]? = some o ∧ o.isCells = false := fun r e => by
      obtain ⟨hB, o, ho, hw⟩ := hr r e
      exact ⟨by omega, o, ho, Obj.not_cells_of_walk hw⟩
    exact ⟨hI s A B row hs.1 hgr hr2, (grownBy_keeps hgr (fun r e => (hr r e).2) hs.2.1 rfl).trans hs.2.1, (grownBy_keeps hgr (fun r e => (hr r e).2) hs.2.2 rfl).trans hs.2.2⟩
  refine ⟨L, [{ target := .collected w.heap.size, args := #[] }], W1, { target := .fn (.func gf) lb, args := #[.func (.yield L) #[] #[]] }, W1, gf, #[.func (.yield L) #[] #[]] ++ lb, W1, run_enterLoop_outer _ _ _ _ _, ?_, ?_, ?_, fun _ => h1, ?_⟩
  · simp only [resolve, hg]
    simp [go_sem]
  · intro f' hf'
    simp [Target.leads] at hf'
    subst hf'
    exact hFg
  · simp [invoke, go_sem, eg]
  refine (hseq L J (fun _ _ => False) W1 hb1 hJ (fun _ _ _ _ h => h.elim) ?_ ⟨hI.alloc _ (hI.alloc _ h0), q1, q0⟩).mono ?_
  · rintro pre x V0 V hj hbV hX
    have hi := hj.1
    obtain ⟨-, hl, hk⟩ := hJ _ _ _ none hj ⟨hbV.os, hbV.tape, hbV.output, hbV.size, fun q hq _ => hbV.block q hq⟩ (fun r e => nomatch e)
    refine ⟨fn, _, assign, body, run_yield (P := P) (args := encs x) hl (hps x), roundIn_of_wpIn hfn (hassign _ pre x V V0 _ hi hbV hX ?_)⟩
    intro a' Va k1 k2 k3
    have l1 := k1.same _ _ (show w.heap.size ≤ L by omega) hl rfl
    have d1 := k1.same _ _ (Nat.le_refl _) hk rfl
    have s1 : L < Va.heap.size := (Array.getElem?_eq_some_iff.1 l1).1
    refine ⟨_, run_beginRound l1 rfl, ?_⟩
    have l2 : (Va.putObj L (.loop { rc .ready none with state := .busy })).heap[L]? = some (.loop { rc .ready none with state := .busy }) := World.putObj_heap_same s1
    have d2 : (Va.putObj L (.loop { rc .ready none with state := .busy })).heap[w.heap.size]? = some (.deferred (some [])) := (World.putObj_heap_other (by omega)).trans d1
    refine wpIn_mono (hbody _ pre x a' _ (by omega) ((hAx pre x a').putObj (s := ()) _ k3 (by omega) l1 rfl)) ?_
    intro e a3 V3 hp
    cases e with
    | normal =>
      obtain ⟨m1, m2, m3⟩ := hp
      have l3 := m1.same _ _ (show w.heap.size ≤ L by omega) l2 rfl
      have d3 := m1.same _ _ (Nat.le_refl _) d2 rfl
      have s3 : L < V3.heap.size := (Array.getElem?_eq_some_iff.1 l3).1
      refine ⟨_, _, run_endRound (P := P) none l3, .inl ⟨rfl, ⟨hI.putObj _ m3 (by omega) l3 rfl, World.putObj_heap_same s3, (World.putObj_heap_other (by omega)).trans d3⟩, ?_⟩⟩
      exact hKt k2 (hKt (hKt (hKb pre x a' _ _ _ _ (.inl k3) (by omega) l1 rfl rfl) m2) (hKb pre x a' _ _ _ _ (.inr m3) (by omega) l3 rfl rfl))
    | _ => exact hp.elim
  · rintro e W2 ⟨⟨v, rfl⟩, ⟨xs, hs, hi, hl, hk⟩ | ⟨pre, hf⟩⟩
    · exact ⟨none, _, run_endLoop (P := P) hl (by simp [rc]), hdone _ xs _ (Nat.le_refl _) (hS.putObj _ hs (by omega) hl rfl) (hI.putObj _ hi (by omega) hl rfl) ((World.putObj_heap_other (by omega)).trans hk)⟩
    · exact hf.elim
end Go.Proofs.Ytflhgphjkhplmaa.R

/- The good frames, one behind the other: what the sequence tells. -/
namespace Go.Proofs.Ytflhgphjkhplmaa.W
open Go Go.RowKit R
set_option linter.unusedVariables false
set_option linter.unusedSimpArgs false
attribute [local go_sem] Oper.semAt_some

/-- The good frames from a place on. -/
def gdI (zs : List Int) : Nat → Nat → Nat → List (Nat × List Int × Nat)
  | 0, _, _ => []
  | k + 1, at', last => match fatI zs at' with
    | none => []
    | some (n, r, e) => if 0 < at' ∧ n ≠ (last + 1) % 18446744073709551616 then [] else (n, r, e) :: gdI zs k e n
def goodI (zs : List Int) : List (Nat × List Int × Nat) := gdI zs (zs.length + 1) 0 0
/-- A good frame as it is told: with the row of its record. -/
structure El where
  n : Nat
  r : List Int
  e : Nat
  rv : Value
  g : Nat
def El.pl (x : El) : Nat × List Int × Nat := (x.n, x.r, x.e)
def elG (x : El) : Array Value := #[.agg #[.int .u64 (x.n : Int), x.rv], .int .i64 (x.e : Int)]
/-- Its row lies there. -/
def rowX (base : Nat) (x : El) (W : World) : Prop := W.ownsRow base 5 1 x.rv x.r.length (u8l x.r)
/-- Rows of bytes, and one block, lie as they lay. -/
structure KB (bx : Nat) (A B : World) : Prop where
  size : A.heap.size ≤ B.heap.size
  rows : ∀ (q : Nat) (c : Array Value) (f : Nat × Nat), A.heap[q]? = some (.cells c 5 f) → B.heap[q]? = A.heap[q]?
  box : B.heap[bx]? = A.heap[bx]?
theorem KB.refl (bx : Nat) (A : World) : KB bx A A := ⟨Nat.le_refl _, fun _ _ _ _ => rfl, rfl⟩
theorem KB.trans {bx : Nat} {A B C : World} (h : KB bx A B) (k : KB bx B C) : KB bx A C :=
  ⟨Nat.le_trans h.size k.size, fun q c f hq => (k.rows q c f ((h.rows q c f hq).trans hq)).trans (h.rows q c f hq), k.box.trans h.box⟩
theorem KB.of {bx : Nat} {A B : World} (h : Below A.heap.size A B) (hb : bx < A.heap.size) : KB bx A B :=
  ⟨h.size, fun q c f hq => h.block q (Array.getElem?_eq_some_iff.1 hq).1, h.block bx hb⟩
/-- What a round keeps: that, and the box of the frame that is told. -/
def KE (bx : Nat) (x : El) (A B : World) : Prop := KB bx A B ∧ B.heap[x.g]? = A.heap[x.g]?
theorem KE.trans {bx : Nat} {x : El} {A B C : World} (h : KE bx x A B) (k : KE bx x B C) : KE bx x A C := ⟨h.1.trans k.1, k.2.trans h.2⟩
/-- A frame as it is told: its box and its row are new. -/
structure XE (base : Nat) (pre : List El) (x : El) (V0 V : World) : Prop where
  few : pre.length ≤ 2000000
  new : V0.heap.size ≤ x.g
  box : V.heap[x.g]? = some (.cells #[.int .u64 (x.n : Int), x.rv] 81 (0, 0))
  row : rowX V0.heap.size x V
  lo : base ≤ V0.heap.size
theorem KB.put {bx : Nat} {W : World} {l : Nat} {o o' : Obj} (hl : W.heap[l]? = some o) (ho : o.isCells = false) {c : Array Value} {t : TypeId} {f : Nat × Nat} (hb : W.heap[bx]? = some (.cells c t f)) : KB bx W (W.putObj l o') := by
  have off : ∀ (q : Nat) (c : Array Value) (t : TypeId) (f : Nat × Nat), W.heap[q]? = some (.cells c t f) → (W.putObj l o').heap[q]? = W.heap[q]? := fun q c t f hq => World.putObj_heap_other fun e => by
    subst e
    rw [hl] at hq
    cases hq
    cases ho
  exact ⟨by simp, fun q c f hq => off q c 5 f hq, off bx c t f hb⟩
theorem KB.own {bx base : Nat} {A B : World} {v : Value} {n : Nat} {xs : List Value} (h : KB bx A B) (ho : A.ownsRow base 5 1 v n xs) : B.ownsRow base 5 1 v n xs := own_at ho fun q hq => by
  obtain ⟨cur, hc⟩ := own_tag ho hq
  exact h.rows q _ _ hc
theorem KB.bz {bx : Nat} {A B : World} {v : Value} {zs : List Int} (h : KB bx A B) (hz : Bz A v zs) (hr : ∀ q, v.ownBlock = some q → ∃ (c : Array Value) (f : Nat × Nat), A.heap[q]? = some (.cells c 5 f)) : Bz B v zs := by
  obtain ⟨a, c, h1, h2, h3, h4⟩ := hz.ex
  refine ⟨hz.byt, hz.small, a, c, h1, h2, h3, fun i x hi => ?_⟩
  obtain ⟨b, off, e, hc⟩ := h4 i x hi
  refine ⟨b, off, e, (World.cell?_of_block ?_).trans hc⟩
  obtain ⟨cc, ff, hq⟩ := hr b (by rw [h1, e]; rfl)
  exact h.rows b _ _ hq
/-- The bytes that the sequence goes through: in a box, in a row of bytes. -/
structure GB (W : World) (bx : Nat) (v : Value) (zs : List Int) : Prop where
  box : W.heap[bx]? = some (.cells #[v] 23 (0, 0))
  bz : Bz W v zs
  row : ∀ q, v.ownBlock = some q → ∃ (c : Array Value) (f : Nat × Nat), W.heap[q]? = some (.cells c 5 f)
theorem GB.kb {A B : World} {bx : Nat} {v : Value} {zs : List Int} (h : GB A bx v zs) (k : KB bx A B) : GB B bx v zs :=
  ⟨k.box.trans h.box, k.bz h.bz h.row, fun q hq => by obtain ⟨c, f, e⟩ := h.row q hq; exact ⟨c, f, (k.rows q c f e).trans e⟩⟩
theorem GB.lt {W : World} {bx : Nat} {v : Value} {zs : List Int} (h : GB W bx v zs) : bx < W.heap.size := (Array.getElem?_eq_some_iff.1 h.box).1
/-- Where a sequence stands. -/
structure At (zs : List Int) (pre : List El) (at' last k : Nat) : Prop where
  eq : goodI zs = pre.map El.pl ++ gdI zs k at' last
  fuel : zs.length < at' + k
  le : at' ≤ zs.length
  nil : at' = 0 ↔ pre = []
  lst : last < 18446744073709551616
  few : pre.length ≤ at'
theorem At.start (zs : List Int) : At zs [] 0 0 (zs.length + 1) := ⟨rfl, by omega, Nat.zero_le _, by simp, by decide, Nat.le_refl _⟩
theorem At.stop {zs : List Int} {pre : List El} {at' last k : Nat} (h : At zs pre at' last k) (hn : fatI zs at' = none) : pre.map El.pl = goodI zs := by
  rw [h.eq]
  cases k with
  | zero => have := h.fuel; have := h.le; omega
  | succ k => rw [gdI, hn]; simp
theorem At.other {zs : List Int} {pre : List El} {at' last k n e : Nat} {r : List Int} (h : At zs pre at' last k) (hn : fatI zs at' = some (n, r, e)) (h0 : 0 < at') (h1 : n ≠ (last + 1) % 18446744073709551616) : pre.map El.pl = goodI zs := by
  rw [h.eq]
  cases k with
  | zero => have := h.fuel; have := h.le; omega
  | succ k => rw [gdI, hn]; simp only; rw [if_pos ⟨h0, h1⟩]; simp
theorem At.next {zs : List Int} {pre : List El} {at' last k n e : Nat} {r : List Int} (h : At zs pre at' last k) (hn : fatI zs at' = some (n, r, e)) (h1 : ¬ (0 < at' ∧ n ≠ (last + 1) % 18446744073709551616)) (rv : Value) (g : Nat) : ∃ k', At zs (pre ++ [⟨n, r, e, rv, g⟩]) e n k' := by
  obtain ⟨f1, f2, f3, f4, f5, f6, f7⟩ := fatI_some hn
  cases k with
  | zero => have := h.fuel; have := h.le; omega
  | succ k =>
    refine ⟨k, ?_, by have := h.fuel; omega, f6, by simp; omega, f2, by have := h.few; simp; omega⟩
    rw [h.eq, gdI, hn]
    simp only
    rw [if_neg h1, List.map_append, List.append_assoc]
    rfl
end Go.Proofs.Ytflhgphjkhplmaa.W

/- The sequence of good frames. -/
namespace Go.Proofs.Ytflhgphjkhplmaa.W
open Go Go.RowKit R
set_option linter.unusedVariables false
set_option linter.unusedSimpArgs false
attribute [local go_sem] Oper.semAt_some

theorem no_row {W W' : World} {q : Nat} (h : W.grownBy W' none) (hq : q < W.heap.size) : W'.heap[q]? = W.heap[q]? := h.block q hq (by simp)
theorem abides_below {β : Type} {B : Nat} {J : β → World → Prop} (h : AbidesFrom B J) {s : β} {A C : World} (hj : J s A) (hb : Below A.heap.size A C) : J s C :=
  h s A C none hj ⟨hb.os, hb.tape, hb.output, hb.size, fun q hq _ => hb.block q hq⟩ (fun r e => nomatch e)
set_option maxRecDepth 100000 in
set_option maxHeartbeats 4000000 in
theorem good_in (n l bx base : Nat) (v : Value) (zs : List Int) (J Jx : List El → World → Prop) (W : World) (hn : 3 ≤ n)
    (hA : AbidesFrom W.heap.size J) (hb0 : base ≤ W.heap.size) (hG : GB W bx v zs)
    (hY : ∀ pre x V0 V, J pre V0 → Below V0.heap.size V0 V → XE base pre x V0 V → YieldAt Fence.wide (n - 1) Try.prog l (elG x) V fun e V' =>
      (e = .returned (.bool true) ∧ J (pre ++ [x]) V' ∧ KE bx x V V') ∨ (e = .returned (.bool false) ∧ Jx (pre ++ [x]) V')) (h0 : J [] W) :
    CallsIn Fence.wide n Try.prog 66 #[.func (.yield l) #[] #[], .pointer (some ⟨bx, 0, none⟩)] W fun e W' => (∃ v, e = .returned v) ∧
      ((∃ xs : List El, (xs.map El.pl = goodI zs ∧ (∀ x ∈ xs, rowX base x W') ∧ KB bx W W') ∧ J xs W') ∨ ∃ pre, Jx pre W') := by
  obtain ⟨a, c, hv, -⟩ := hG.bz.ex
  obtain ⟨N, hN⟩ : ∃ N, zs.length = N := ⟨_, rfl⟩
  rw [hN] at hv
  subst hv
  have HG : Hid (GB W bx (.slice a N c) zs ∧ zs.length = N ∧ base ≤ W.heap.size ∧ AbidesFrom W.heap.size J) := ⟨hG, hN, hb0, hA⟩
  have ca : W.cell? ⟨bx, 0, none⟩ = some (.slice a N c) := by rw [cell_of_row _ _ _ _ _ _ hG.box]; rfl
  clear hG hN hb0 hA
  refine callsIn_of_wp Try.func66 rfl trivial ?_ rfl
  simp only [Try.ntmps66, List.size_toArray, List.length_cons, List.length_nil, Nat.reduceAdd, Nat.reduceSub, Array.replicate_succ, Array.replicate_zero, List.push_toArray, List.append_toArray, List.nil_append, List.cons_append]
  gi_wp2
  gi_loopw [3, 4] (fun x y wr => ∃ (pre : List El) (at' last k : Nat), Hid (At zs pre at' last k ∧ KB bx W wr ∧ (∀ x ∈ pre, rowX base x wr)) ∧ Hid (J pre wr) ∧ x = .int .u64 (last : Int) ∧ y = .int .i64 (at' : Int)) (fun x y _ => zs.length - (intOf y).toNat)
  case atStart => exact ⟨[], 0, 0, _, ⟨At.start zs, KB.refl _ _, fun x hx => nomatch hx⟩, h0, rfl, rfl⟩
  case round =>
    obtain ⟨pre, at', last, k, HA, HJ, rfl, rfl⟩ := hrel
    have hGr := HG.out.1.kb HA.out.2.1
    have ca : wr.cell? ⟨bx, 0, none⟩ = some (.slice a N c) := by rw [cell_of_row _ _ _ _ _ _ hGr.box]; rfl
    have HF : Hid (Calls Try.prog 67 #[.slice a N c, .int .i64 (at' : Int)] wr fun e w' => ∃ rv, e = .returned (fatV (fatI zs at') rv) ∧ (∀ n r e, fatI zs at' = some (n, r, e) → w'.ownsRow wr.heap.size 5 1 rv r.length (u8l r)) ∧ Below wr.heap.size wr w') := frameAt_any hGr.bz at' HA.out.1.le
    cases hf : fatI zs at' with
    | none =>
      rw [hf] at HF
      have HF2 : Hid (Calls Try.prog 67 #[.slice a N c, .int .i64 (at' : Int)] wr fun e w' => e = .returned (.tuple #[.agg #[.int .u64 0, .slice none 0 0], .int .i64 0, .bool false]) ∧ Hid (Below wr.heap.size wr w')) := HF.out.mono fun e w' ⟨rv, h1, h2, h3⟩ => ⟨h1, h3⟩
      have HE : Hid (pre.map El.pl = goodI zs) := HA.out.1.stop hf
      have hGlt : Hid (bx < wr.heap.size) := hGr.lt
      clear hf hGr HF
      gi_wp2_with (refine ⟨trivial, fun h => by simp [Fence.wide] at h, ?_⟩; gi_at_call 67; refine (callsIn_wide.2 HF2.out).mono ?_; rintro e w2 ⟨rfl, HB⟩)
      have hb : Below wr.heap.size wr (w2.alloc (.cells #[.int .u64 0, .slice none 0 0] 81)) := HB.out.trans ((bel1 w2 _).mono HB.out.size)
      have hlt := hGlt.out
      refine bodyPost_ret (results_none rfl _ _ _) rfl ?_
      exact ⟨⟨_, rfl⟩, .inl ⟨pre, ⟨HE.out, fun x hx => (KB.of (bx := bx) hb hlt).own (HA.out.2.2 x hx), HA.out.2.1.trans (KB.of hb hlt)⟩, abides_below HG.out.2.2.2 HJ.out hb⟩⟩
    | some q =>
      obtain ⟨m, r, e⟩ := q
      rw [hf] at HF
      obtain ⟨L, hL⟩ : ∃ L, r.length = L := ⟨_, rfl⟩
      have HF2 : Hid (Calls Try.prog 67 #[.slice a N c, .int .i64 (at' : Int)] wr fun x w' => ∃ ra rc, x = .returned (.tuple #[.agg #[.int .u64 (m : Int), .slice ra L rc], .int .i64 (e : Int), .bool true]) ∧ Hid (w'.ownsRow wr.heap.size 5 1 (.slice ra L rc) L (u8l r) ∧ Below wr.heap.size wr w')) := HF.out.mono fun x w' ⟨rv, h1, h2, h3⟩ => by
        have h4 := h2 m r e rfl
        rw [hL] at h4
        obtain ⟨ra, rc, rfl⟩ := own_slice h4
        exact ⟨ra, rc, h1, h4, h3⟩
      obtain ⟨f1, f2, f3, f4, f5, f6, f7⟩ := fatI_some hf
      have HFS : Hid (fatI zs at' = some (m, r, e) ∧ r.length = L ∧ at' < e ∧ e ≤ zs.length ∧ m < 18446744073709551616) := ⟨hf, hL, f7, f6, f2⟩
      obtain ⟨T, hT⟩ : ∃ T : Nat, (last + 1) % 18446744073709551616 = T := ⟨_, rfl⟩
      have HT : Hid ((last + 1) % 18446744073709551616 = T) := hT
      have hwr : IntKind.u64.wrap ((last : Int) + 1) = (T : Int) := by rw [← hT]; simp [IntKind.wrap_u64]
      have hGlt : Hid (bx < wr.heap.size) := hGr.lt
      by_cases hgo : 0 < at' ∧ m ≠ T
      · have HE : Hid (pre.map El.pl = goodI zs) := HA.out.1.other hf hgo.1 (by rw [hT]; exact hgo.2)
        have g1 : (0 : Int) < (at' : Int) := by omega
        have g2 : ((m : Int) == (T : Int)) = false := by rw [beq_eq_false_iff_ne]; omega
        have g2' : ¬ (m : Int) = (T : Int) := by omega
        clear hf hGr HF hL f1 f2 f3 f4 f5 f6 f7 hgo hT
        gi_wp2_with (refine ⟨trivial, fun h => by simp [Fence.wide] at h, ?_⟩; gi_at_call 67; refine (callsIn_wide.2 HF2.out).mono ?_; rintro x w2 ⟨ra, rc, rfl, HB⟩)
        have hb : Below wr.heap.size wr (w2.alloc (.cells #[.int .u64 (m : Int), .slice ra L rc] 81)) := HB.out.2.trans ((bel1 w2 _).mono HB.out.2.size)
        have hlt := hGlt.out
        refine bodyPost_ret (results_none rfl _ _ _) rfl ?_
        exact ⟨⟨_, rfl⟩, .inl ⟨pre, ⟨HE.out, fun x hx => (KB.of (bx := bx) hb hlt).own (HA.out.2.2 x hx), HA.out.2.1.trans (KB.of hb hlt)⟩, abides_below HG.out.2.2.2 HJ.out hb⟩⟩
      · have HNX : Hid (∀ rv g, ∃ k', At zs (pre ++ [⟨m, r, e, rv, g⟩]) e m k') := fun rv g => HA.out.1.next hf (by rw [hT]; exact hgo) rv g
        have hgo' : (at' : Int) ≤ 0 ∨ (0 < (at' : Int) ∧ T = m) := by omega
        clear hf hGr HF hL f1 f2 f3 f4 f5 f6 f7 hgo hT
        rcases hgo' with g1 | ⟨g1, rfl⟩
        · gi_wp2_with (refine ⟨trivial, fun h => by simp [Fence.wide] at h, ?_⟩; gi_at_call 67; refine (callsIn_wide.2 HF2.out).mono ?_; rintro x w2 ⟨ra, rc, rfl, HB⟩)
          have hbw : Below wr.heap.size wr (w2.alloc (.cells #[.int .u64 (m : Int), .slice ra L rc] 81)) := HB.out.2.trans ((bel1 w2 _).mono HB.out.2.size)
          have hnew := Go.heap_alloc_new w2 (.cells #[.int .u64 (m : Int), .slice ra L rc] 81 (0, 0))
          have hfew : pre.length ≤ 2000000 := by have h1 := HA.out.1.few; have h2 := HA.out.1.le; have h3 := HG.out.1.bz.small; omega
          have hsz : base ≤ wr.heap.size := by have h1 := HG.out.2.2.1; have h2 := HA.out.2.1.size; omega
          obtain ⟨fn, tmps, assign, body, hy, hR⟩ := hY pre ⟨m, r, e, .slice ra L rc, w2.heap.size⟩ wr _ HJ.out hbw ⟨hfew, HB.out.2.size, hnew, by unfold rowX; rw [HFS.out.2.1]; exact HB.out.1.alloc _, hsz⟩
          unfold elG at hy
          have HBW : Hid (Below wr.heap.size wr (w2.alloc (.cells #[.int .u64 (m : Int), .slice ra L rc] 81)) ∧ base ≤ wr.heap.size ∧ (w2.alloc (.cells #[.int .u64 (m : Int), .slice ra L rc] 81)).heap[w2.heap.size]? = some (.cells #[.int .u64 (m : Int), .slice ra L rc] 81 (0, 0))) := ⟨hbw, hsz, hnew⟩
          clear hbw hnew hsz hfew
          gi_wp2
          refine ⟨fun h => by simp [Fence.wide] at h, hR.mono ?_⟩
          rintro e2 W3 (⟨rfl, hJ3, hk3, hk4⟩ | ⟨rfl, hJx3⟩)
          · have hg3 := hk4.trans HBW.out.2.2
            have c3 : W3.cell? ⟨w2.heap.size, 0, none⟩ = some (.int .u64 (m : Int)) := by rw [cell_of_row _ _ _ _ _ _ hg3]; rfl
            have HN3 : Hid (J (pre ++ [⟨m, r, e, .slice ra L rc, w2.heap.size⟩]) W3 ∧ KB bx (w2.alloc (.cells #[.int .u64 (m : Int), .slice ra L rc] 81)) W3) := ⟨hJ3, hk3⟩
            clear hg3 hJ3 hk3 hk4
            gi_wp2
            go_roundw
            case rel =>
              obtain ⟨k', hk'⟩ := HNX.out (.slice ra L rc) w2.heap.size
              have hlt := hGlt.out
              have k1 : KB bx wr W3 := (KB.of HBW.out.1 hlt).trans HN3.out.2
              refine ⟨pre ++ [⟨m, r, e, .slice ra L rc, w2.heap.size⟩], e, m, k', ⟨hk', HA.out.2.1.trans k1, fun x hx => ?_⟩, (show J _ W3 from HN3.out.1), rfl, rfl⟩
              rcases List.mem_append.1 hx with hx | hx
              · exact k1.own (HA.out.2.2 x hx)
              · obtain rfl := List.mem_singleton.1 hx
                refine HN3.out.2.own ?_
                show World.ownsRow _ base 5 1 (.slice ra L rc) r.length (u8l r)
                rw [HFS.out.2.1]
                exact own_low (HB.out.1.alloc _) HBW.out.2.1
            case measure =>
              have := HFS.out
              simp [intOf]
              omega
          · gi_wp2
            refine bodyPost_ret (results_none rfl _ _ _) rfl ?_
            exact ⟨⟨_, rfl⟩, .inr ⟨_, hJx3⟩⟩
        · gi_wp2_with (refine ⟨trivial, fun h => by simp [Fence.wide] at h, ?_⟩; gi_at_call 67; refine (callsIn_wide.2 HF2.out).mono ?_; rintro x w2 ⟨ra, rc, rfl, HB⟩)
          have hbw : Below wr.heap.size wr (w2.alloc (.cells #[.int .u64 (T : Int), .slice ra L rc] 81)) := HB.out.2.trans ((bel1 w2 _).mono HB.out.2.size)
          have hnew := Go.heap_alloc_new w2 (.cells #[.int .u64 (T : Int), .slice ra L rc] 81 (0, 0))
          have hfew : pre.length ≤ 2000000 := by have h1 := HA.out.1.few; have h2 := HA.out.1.le; have h3 := HG.out.1.bz.small; omega
          have hsz : base ≤ wr.heap.size := by have h1 := HG.out.2.2.1; have h2 := HA.out.2.1.size; omega
          obtain ⟨fn, tmps, assign, body, hy, hR⟩ := hY pre ⟨T, r, e, .slice ra L rc, w2.heap.size⟩ wr _ HJ.out hbw ⟨hfew, HB.out.2.size, hnew, by unfold rowX; rw [HFS.out.2.1]; exact HB.out.1.alloc _, hsz⟩
          unfold elG at hy
          have HBW : Hid (Below wr.heap.size wr (w2.alloc (.cells #[.int .u64 (T : Int), .slice ra L rc] 81)) ∧ base ≤ wr.heap.size ∧ (w2.alloc (.cells #[.int .u64 (T : Int), .slice ra L rc] 81)).heap[w2.heap.size]? = some (.cells #[.int .u64 (T : Int), .slice ra L rc] 81 (0, 0))) := ⟨hbw, hsz, hnew⟩
          clear hbw hnew hsz hfew
          gi_wp2
          refine ⟨fun h => by simp [Fence.wide] at h, hR.mono ?_⟩
          rintro e2 W3 (⟨rfl, hJ3, hk3, hk4⟩ | ⟨rfl, hJx3⟩)
          · have hg3 := hk4.trans HBW.out.2.2
            have c3 : W3.cell? ⟨w2.heap.size, 0, none⟩ = some (.int .u64 (T : Int)) := by rw [cell_of_row _ _ _ _ _ _ hg3]; rfl
            have HN3 : Hid (J (pre ++ [⟨T, r, e, .slice ra L rc, w2.heap.size⟩]) W3 ∧ KB bx (w2.alloc (.cells #[.int .u64 (T : Int), .slice ra L rc] 81)) W3) := ⟨hJ3, hk3⟩
            clear hg3 hJ3 hk3 hk4
            gi_wp2
            go_roundw
            case rel =>
              obtain ⟨k', hk'⟩ := HNX.out (.slice ra L rc) w2.heap.size
              have hlt := hGlt.out
              have k1 : KB bx wr W3 := (KB.of HBW.out.1 hlt).trans HN3.out.2
              refine ⟨pre ++ [⟨T, r, e, .slice ra L rc, w2.heap.size⟩], e, T, k', ⟨hk', HA.out.2.1.trans k1, fun x hx => ?_⟩, (show J _ W3 from HN3.out.1), rfl, rfl⟩
              rcases List.mem_append.1 hx with hx | hx
              · exact k1.own (HA.out.2.2 x hx)
              · obtain rfl := List.mem_singleton.1 hx
                refine HN3.out.2.own ?_
                show World.ownsRow _ base 5 1 (.slice ra L rc) r.length (u8l r)
                rw [HFS.out.2.1]
                exact own_low (HB.out.1.alloc _) HBW.out.2.1
            case measure =>
              have := HFS.out
              simp [intOf]
              omega
          · gi_wp2
            refine bodyPost_ret (results_none rfl _ _ _) rfl ?_
            exact ⟨⟨_, rfl⟩, .inr ⟨_, hJx3⟩⟩
end Go.Proofs.Ytflhgphjkhplmaa.W

/- Frames: the records of the good frames. -/
namespace Go.Proofs.Ytflhgphjkhplmaa.W
open Go Go.RowKit R Go.Shelf
set_option linter.unusedVariables false
set_option linter.unusedSimpArgs false
attribute [local go_sem] Oper.semAt_some

theorem good_seq (n bx base : Nat) (v : Value) (zs : List Int) (w : World) (hn : 3 ≤ n) (hb : base ≤ w.heap.size) (hG : GB w bx v zs) :
    SeqX Fence.wide n Try.prog 66 #[.pointer (some ⟨bx, 0, none⟩)] elG (XE base) (KE bx) (fun xs W => xs.map El.pl = goodI zs ∧ ∀ x ∈ xs, rowX base x W) w := by
  intro l J Jx W hW hA _ hY h0
  have hG2 : GB W bx v zs := hG.kb (KB.of hW hG.lt)
  refine (good_in n l bx base v zs J Jx W hn hA (Nat.le_trans hb hW.size) hG2 hY h0).mono ?_
  rintro e W' ⟨h1, ⟨xs, ⟨h2, h3, -⟩, h4⟩ | h2⟩
  · exact ⟨h1, .inl ⟨xs, ⟨h2, h3⟩, h4⟩⟩
  · exact ⟨h1, .inr h2⟩
theorem good_any (a : Option Addr) (N c : Nat) (w : World) : Calls Try.prog 38 #[.slice a N c] w fun e w' => e = .returned (.func (.func 66) #[] #[.pointer (some ⟨w.heap.size, 0, none⟩)]) ∧ w' = w.alloc (.cells #[.slice a N c] 23) := by
  go_enter Try.func38, Try.ntmps38
  go_wp2
  go_ret
  exact ⟨rfl, rfl⟩
theorem grown_cells {W W' : World} {row : Option Nat} (hg : W.grownBy W' row) (hr : ∀ r, row = some r → ∃ o : Obj, W.heap[r]? = some o ∧ o.isCells = false) {q : Nat} {c : Array Value} {t : TypeId} {f : Nat × Nat} (hq : W.heap[q]? = some (.cells c t f)) : W'.heap[q]? = W.heap[q]? :=
  hg.block q (Array.getElem?_eq_some_iff.1 hq).1 fun e => by
    obtain ⟨o, ho, hc⟩ := hr q e.symm
    rw [hq] at ho
    cases ho
    cases hc
theorem grown_own {W W' : World} {row : Option Nat} (hg : W.grownBy W' row) (hr : ∀ r, row = some r → ∃ o : Obj, W.heap[r]? = some o ∧ o.isCells = false) {base size n : Nat} {e : TypeId} {v : Value} {xs : List Value} (h : W.ownsRow base e size v n xs) : W'.ownsRow base e size v n xs := own_at h fun q hq => by
  obtain ⟨cur, hc⟩ := own_tag h hq
  exact grown_cells hg hr hc
theorem info23 : (Try.prog.info? 23).map (fun i => (i.zero, i.size, i.bytes)) = some (some (.slice none 0 0), 1, 24) := by kernel_rfl
/-- One slice more, behind a row of slices. -/
theorem wpList_append_one23 {w : World} {ops : Array Oper} {rest : List Oper} {o : Oper} {a : Act} {Q : Exit → Act → World → Prop} (hgd : o.guard = none) (s x : Operand)
    (ho : o.op = .call { callee := .builtin .append, args := #[s, x], argTypes := #[29, 29] }) (base : Nat) (v : Value) (n : Nat) (xs : List Value) (hs : a.eval s = v) (V : World) (hown : V.ownsRow base 23 1 v n xs)
    (u : Value) (hu : u.oneCell' = true) (hw : w = V.alloc (.cells #[u] 23)) (hx : a.eval x = .slice (some ⟨V.heap.size, 0, none⟩) 1 1) (hb : n ≤ 2000000) (hbase : base ≤ V.heap.size)
    (h : ∀ g cap w', w'.ownsRow base 23 1 (.slice (some ⟨g, 0, none⟩) (n + 1) cap) (n + 1) (xs ++ [u]) → Gr v V (.slice (some ⟨g, 0, none⟩) (n + 1) cap) w' → wpList Try.prog ops Q rest (a.put o.dst (.slice (some ⟨g, 0, none⟩) (n + 1) cap)) w') : wpList Try.prog ops Q (o :: rest) a w := by
  subst hw
  obtain ⟨i0, hi, hz0, hz1, hz2⟩ := info_parts info23
  refine wpList_append_lies _ hgd s x 29 ho base 23 i0 (.slice none 0 0) 1 24 Try.underlying29 hi hz0 hz1 hz2 rfl (by decide) v n xs hs (hown.alloc _) ⟨V.heap.size, 0, none⟩ 1 1 [u] hx rfl (cell_new1 V _ _) (fun y hy => by obtain rfl := List.mem_singleton.1 hy; exact hu) (by decide) (by unfold maxLen; omega) (by omega) (by simp; omega) (V.heap.size + 1) (by simp) fun g cap w' h1 h2 h3 _ => h g cap w' h1 ?_
  refine ⟨h2.os, h2.tape, h2.output, Nat.le_trans (by simp) h2.size, fun k hk hv => ?_, fun g' hg' => ?_⟩
  · rw [h2.block k (by simp; omega) (fun e => hv e.symm)]
    exact Below.heap_alloc _ _ _ hk
  · have e : g = g' := by simpa [Value.ownBlock] using hg'
    rw [← e]
    rcases h3 with h | h
    · exact .inl h
    · exact .inr (by omega)
theorem keeps_below {W W' : World} (h : Below W.heap.size W W') : KeepsOthers W W' :=
  ⟨h.size, fun k o hk _ => (h.block k (Array.getElem?_eq_some_iff.1 hk).1).trans hk⟩
def lastN (xs : List El) : Nat := (xs.getLast?.map El.n).getD 0
def lastE (xs : List El) : Nat := (xs.getLast?.map El.e).getD 0
theorem lastN_snoc (xs : List El) (x : El) : lastN (xs ++ [x]) = x.n := by simp [lastN]
theorem lastE_snoc (xs : List El) (x : El) : lastE (xs ++ [x]) = x.e := by simp [lastE]
/-- What the loop of Frames keeps: the list so far, the last number, the place behind it. -/
def FrI (w : World) (B B5 B6 B7 : Nat) (pre : List El) (W : World) : Prop :=
  (∃ lv, Boxed W B5 29 lv ∧ W.ownsRow B 23 1 lv pre.length (pre.map El.rv)) ∧ Boxed W B6 22 (.int .u64 (lastN pre : Int)) ∧ Boxed W B7 3 (.int .i64 (lastE pre : Int)) ∧ (Below w.heap.size w W ∧ B ≤ W.heap.size) ∧ ∀ x, pre.getLast? = some x → ∃ (c : Array Value) (t : TypeId) (f : Nat × Nat), W.heap[x.g]? = some (.cells c t f)
theorem FrI.from {w : World} {B B5 B6 B7 : Nat} {pre : List El} {W W' : World} {row : Option Nat} (h : FrI w B B5 B6 B7 pre W) (hg : W.grownBy W' row) (hr : ∀ r, row = some r → w.heap.size ≤ r ∧ ∃ o : Obj, W.heap[r]? = some o ∧ o.isCells = false) : FrI w B B5 B6 B7 pre W' := by
  obtain ⟨⟨lv, h1, h2⟩, h3, h4, h5, h6⟩ := h
  have hr2 := fun r e => (hr r e).2
  exact ⟨⟨lv, (grown_cells hg hr2 h1).trans h1, grown_own hg hr2 h2⟩, (grown_cells hg hr2 h3).trans h3, (grown_cells hg hr2 h4).trans h4, ⟨h5.1.grown hg h5.1.size (fun q hq => (hr q hq).1), Nat.le_trans h5.2 hg.size⟩, fun x hx => by
    obtain ⟨c, t, f, e⟩ := h6 x hx
    exact ⟨c, t, f, (grown_cells hg hr2 e).trans e⟩⟩
theorem FrI.later {w : World} {B B5 B6 B7 : Nat} {pre : List El} {W W' : World} (h : FrI w B B5 B6 B7 pre W) (hb : Below W.heap.size W W') : FrI w B B5 B6 B7 pre W' :=
  h.from (row := none) ⟨hb.os, hb.tape, hb.output, hb.size, fun q hq _ => hb.block q hq⟩ (fun r e => nomatch e)
/-- What an append behind a row of slices keeps. -/
theorem frW {W w9 : World} {B : Nat} {v : Value} {n : Nat} {xs : List Value} {u : Value} (h : W.ownsRow B 23 1 v n xs) (hb : B ≤ W.heap.size) (hg : (W.alloc (.cells #[u] 23)).grownBy w9 v.ownBlock) :
    (∀ (q : Nat) (c : Array Value) (t : TypeId) (f : Nat × Nat), W.heap[q]? = some (.cells c t f) → t ≠ 23 → w9.heap[q]? = W.heap[q]?) ∧ Below B W w9 ∧ KeepsOthers W w9 := by
  have hbA := bel1 W (.cells #[u] 23)
  have hbW : Below B W w9 := (hbA.mono hb).grown hg (Nat.le_trans hb hbA.size) (fun q hq => (h.lt q hq).1)
  refine ⟨fun q c t f hq ht => ?_, hbW, hbW.size, fun k o hk ho => ?_⟩
  rotate_left
  · have hlt := (Array.getElem?_eq_some_iff.1 hk).1
    rw [hg.block k (by simp; omega) (fun e => ?_)]
    · exact (hbA.block k hlt).trans hk
    · obtain ⟨cur, hc⟩ := own_tag h e.symm
      rw [hk] at hc
      cases hc
      cases ho
  have hlt := (Array.getElem?_eq_some_iff.1 hq).1
  rw [hg.block q (by simp; omega) (fun e => ?_)]
  · exact hbA.block q hlt
  · obtain ⟨cur, hc⟩ := own_tag h e.symm
    rw [hq] at hc
    cases hc
    exact ht rfl
set_option maxRecDepth 100000 in
set_option maxHeartbeats 4000000 in
theorem frames_any {v : Value} {zs : List Int} {w : World} (h : Bz w v zs) (hr : ∀ q, v.ownBlock = some q → ∃ (c : Array Value) (f : Nat × Nat), w.heap[q]? = some (.cells c 5 f)) :
    Calls Try.prog 11 #[v] w fun e w' => ∃ (xs : List El) (lv : Value), e = .returned (.tuple #[lv, .int .u64 (lastN xs : Int), .int .i64 (lastE xs : Int)]) ∧ xs.map El.pl = goodI zs ∧ w'.ownsRow w.heap.size 23 1 lv xs.length (xs.map El.rv) ∧ (∀ x ∈ xs, rowX w.heap.size x w') ∧ Below w.heap.size w w' := by
  obtain ⟨a, c, hv, -⟩ := h.ex
  obtain ⟨N, hN⟩ : ∃ N, zs.length = N := ⟨_, rfl⟩
  rw [hN] at hv
  subst hv
  obtain ⟨W1, hW1⟩ : ∃ W1, ((w.alloc (.cells #[.slice none 0 0] 29)).alloc (.cells #[.int .u64 0] 22)).alloc (.cells #[.int .i64 0] 3) = W1 := ⟨_, rfl⟩
  have H1 : Hid (Below w.heap.size w W1 ∧ Boxed W1 w.heap.size 29 (.slice none 0 0) ∧ Boxed W1 (w.heap.size + 1) 22 (.int .u64 0) ∧ Boxed W1 (w.heap.size + 1 + 1) 3 (.int .i64 0) ∧ W1.heap.size = w.heap.size + 3) := by
    show _ ∧ _
    rw [← hW1]
    refine ⟨((bel1 _ _).alloc (by simp) _).alloc (by simp; omega) _, ((Boxed.new _ _ _).alloc _).alloc _, ?_, ?_, by simp⟩
    · have h := Boxed.new (w.alloc (.cells #[.slice none 0 0] 29)) 22 (.int .u64 0)
      rw [World.size_alloc] at h
      exact h.alloc _
    · have h := Boxed.new ((w.alloc (.cells #[.slice none 0 0] 29)).alloc (.cells #[.int .u64 0] 22)) 3 (.int .i64 0)
      rw [World.size_alloc, World.size_alloc] at h
      exact h
  have hG1 : GB (W1.alloc (.cells #[.slice a N c] 23)) W1.heap.size (.slice a N c) zs :=
    ⟨Go.heap_alloc_new _ _, (h.newer H1.out.1).newer (bel1 _ _), fun q hq => by
      obtain ⟨cc, f, e⟩ := hr q hq
      have hlt := (Array.getElem?_eq_some_iff.1 e).1
      have hl1 := H1.out.1.size
      exact ⟨cc, f, ((bel1 W1 _).block q (by omega)).trans ((H1.out.1.block q hlt).trans e)⟩⟩
  have HG : Hid (GB (W1.alloc (.cells #[.slice a N c] 23)) W1.heap.size (.slice a N c) zs) := hG1
  have HW1 : Hid (((w.alloc (.cells #[.slice none 0 0] 29)).alloc (.cells #[.int .u64 0] 22)).alloc (.cells #[.int .i64 0] 3) = W1) := hW1
  clear h hr hG1 hW1 hN
  refine (callsIn_wide (n := 8)).1 ?_
  refine callsIn_of_wp_marks Try.func11 rfl trivial ?_ rfl
  refine wpIn_wide.2 ?_
  simp only [Try.ntmps11, List.size_toArray, List.length_cons, List.length_nil, Nat.reduceAdd, Nat.reduceSub, Array.replicate_succ, Array.replicate_zero, List.push_toArray, List.append_toArray, List.nil_append, List.cons_append]
  go_upto_region 3 with (fail)
  rw [HW1.out]
  clear HW1
  go_wp2_with (go_at_call 38; refine (good_any a N c W1).mono ?_; rintro e W2 ⟨rfl, hW2⟩; rw [hW2]; clear hW2)
  obtain ⟨W2, hW2⟩ : ∃ W2, W1.alloc (.cells #[.slice a N c] 23) = W2 := ⟨_, rfl⟩
  have HB12 : Hid (Below W1.heap.size W1 W2) := by rw [← hW2]; exact bel1 _ _
  rw [hW2] at HG ⊢
  clear hW2
  obtain ⟨B5, B6, B7, BX, e5, e6, e7, eX⟩ : ∃ B5 B6 B7 BX, w.heap.size = B5 ∧ w.heap.size + 1 = B6 ∧ w.heap.size + 1 + 1 = B7 ∧ W1.heap.size = BX := ⟨_, _, _, _, rfl, rfl, rfl, rfl⟩
  have HBN : Hid (w.heap.size ≤ B5 ∧ B5 < B6 ∧ B6 < B7 ∧ B7 < BX ∧ BX < W2.heap.size) := ⟨by omega, by omega, by omega, by have := H1.out.2.2.2.2; omega, by rw [← eX]; exact HG.out.lt⟩
  have HI0 : Hid (FrI w W2.heap.size B5 B6 B7 [] W2) := by
    obtain ⟨h1, h2, h3, h4, h5⟩ := H1.out
    rw [e5] at h2
    rw [e6] at h3
    rw [e7] at h4
    have k : ∀ q, q < W1.heap.size → W2.heap[q]? = W1.heap[q]? := fun q hq => HB12.out.block q hq
    exact ⟨⟨.slice none 0 0, (k B5 (by omega)).trans h2, World.ownsRow_nil _ _ _ _⟩, (k B6 (by omega)).trans h3, (k B7 (by omega)).trans h4, ⟨h1.trans (HB12.out.mono h1.size), Nat.le_refl _⟩, fun x hx => by simp at hx⟩
  rw [e7, e6, e5, eX]
  rw [eX] at HG
  clear e5 e6 e7 eX H1 HB12
  refine (wpIn_wide (n := 8)).1 ?_
  refine range_x rfl (by omega) (gf := 66) (lb := #[.pointer (some ⟨BX, 0, none⟩)]) rfl trivial (enters_of Try.func66 (by kernel_rfl) rfl)
    (good_seq 7 BX w.heap.size (.slice a N c) zs W2 (by omega) (by have := HBN.out; omega) HG.out)
    (FrI w W2.heap.size B5 B6 B7)
    (fun pre x a' W => ∃ g8 ra rc, x.rv = .slice ra x.r.length rc ∧ a' = { tmps := #[.slice a N c, undef, .slice none 0 0, .int .u64 0, .int .i64 0, .pointer (some ⟨B5, 0, none⟩), .pointer (some ⟨B6, 0, none⟩), .pointer (some ⟨B7, 0, none⟩), .pointer (some ⟨g8, 0, none⟩), .int .i64 (x.e : Int), .slice a N c, .func (.func 66) #[] #[.pointer (some ⟨BX, 0, none⟩)], .agg #[.int .u64 (x.n : Int), .slice ra x.r.length rc], .int .i64 (x.e : Int), undef, undef, undef, undef, undef, undef, undef, undef, undef, undef, undef], defers := [] } ∧ FrI w W2.heap.size B5 B6 B7 pre W ∧ W.heap[g8]? = some (.cells #[.int .u64 (x.n : Int), .slice ra x.r.length rc] 81 (0, 0)) ∧ pre.length ≤ 2000000 ∧ ∃ (cc : Array Value) (f : Nat × Nat), W.heap[x.g]? = some (.cells cc 81 f))
    KE.trans ?put (Below.refl _ _) (fun _ => rfl) (fun pre W W' row hs hg hr => hs.from hg (fun r e => ⟨by have := (hr r e).1; have := HBN.out; omega, (hr r e).2⟩)) ?ownS HI0.out ?ownA ?assign ?body ?done
  case put =>
    intro pre x a' W l o o' hor h1 h2 h3 h4
    have off : ∀ (q : Nat) (c : Array Value) (t : TypeId) (f : Nat × Nat), W.heap[q]? = some (.cells c t f) → (W.putObj l o').heap[q]? = W.heap[q]? := fun q c t f hq => World.putObj_heap_other fun e => by
      subst e
      rw [h2] at hq
      cases hq
      cases h3
    have hbx : BX < W2.heap.size := HBN.out.2.2.2.2
    refine ⟨⟨by simp, fun q c f hq => off q c 5 f hq, World.putObj_heap_other (by omega)⟩, ?_⟩
    rcases hor with ⟨_, _, _, _, _, _, _, _, cc, f, hg⟩ | hI
    · exact off _ _ _ _ hg
    · obtain ⟨c, t, f, hg⟩ := hI.2.2.2.2 x (by simp)
      exact off _ _ _ _ hg
  case ownS => exact fun xs W W' row hs hg hr => ⟨hs.1, fun x hx => grown_own hg (fun r e => (hr r e).2) (hs.2 x hx)⟩
  case ownA =>
    rintro pre x a' _ W W' row ⟨g8, ra, rc, h1, h2, h3, h4, h5, cc, f, h6⟩ hg hr
    have hr2 := fun r e => (hr r e).2
    exact ⟨g8, ra, rc, h1, h2, h3.from hg (fun r e => ⟨by have := (hr r e).1; have := HBN.out; omega, (hr r e).2⟩), (grown_cells hg hr2 h4).trans h4, h5, cc, f, (grown_cells hg hr2 h6).trans h6⟩
  case assign =>
    rintro l pre x W W0 K hI hb hX hK
    obtain ⟨x0, x1, x2, x3, x4⟩ := hX
    have hrow : W.ownsRow W0.heap.size 5 1 x.rv x.r.length (u8l x.r) := x3
    obtain ⟨ra, rc, hrv⟩ := own_slice hrow
    have HK := hK
    have HX : Hid (FrI w W2.heap.size B5 B6 B7 pre W ∧ W.heap[x.g]? = some (.cells #[.int .u64 (x.n : Int), x.rv] 81 (0, 0)) ∧ x.rv = .slice ra x.r.length rc ∧ x.g < W.heap.size ∧ pre.length ≤ 2000000 ∧ BX < W.heap.size) := ⟨hI.later hb, x2, hrv, (Array.getElem?_eq_some_iff.1 x2).1, x0, by have h1 := (hI.later hb).2.2.2.1.2; have h2 := HBN.out; omega⟩
    unfold elG
    rw [hrv]
    clear hK hI hb x1 x2 x3 x4 hrow hrv x0
    gi_wp2_with fail
    obtain ⟨k1, k2, k3, k4, k5, k6⟩ := HX.out
    have hb := bel1 W (.cells #[.int .u64 (x.n : Int), .slice ra x.r.length rc] 81)
    exact HK _ _ ((keeps_below hb).from _) ⟨KB.of hb k6, hb.block _ k4⟩ ⟨W.heap.size, ra, rc, k3, rfl, k1.later hb, Go.heap_alloc_new _ _, k5, _, _, (hb.block _ k4).trans k2⟩
  case body =>
    rintro l pre x a' W hl ⟨g8, ra, rc, hrv, rfl, ⟨⟨lv, h1, h2⟩, h3, h4, h5, h6⟩, h7, h8, cc, f, h9⟩
    obtain ⟨i0, hi, hz0, hz1, hz2⟩ := info_parts info23
    obtain ⟨la, lc, hlv⟩ := own_slice h2
    subst hlv
    have c5 : W.cell? ⟨B5, 0, none⟩ = some (.slice la pre.length lc) := h1.cell
    have c8 : W.cell? ⟨g8, 1, none⟩ = some (.slice ra x.r.length rc) := by rw [cell_of_row _ _ _ _ _ _ h7]; rfl
    have n1 : ¬ g8 = B5 := ne_tag h7 h1 (by decide)
    have n2 : ¬ g8 = B6 := ne_tag h7 h3 (by decide)
    have n3 : ¬ g8 = B7 := ne_tag h7 h4 (by decide)
    have n4 : ¬ B6 = B5 := by have := HBN.out; omega
    have n5 : ¬ B7 = B5 := by have := HBN.out; omega
    have n6 : ¬ B7 = B6 := by have := HBN.out; omega
    have HX : Hid ((W.ownsRow W2.heap.size 23 1 (.slice la pre.length lc) pre.length (pre.map El.rv) ∧ W2.heap.size ≤ W.heap.size ∧ pre.length ≤ 2000000) ∧ Boxed W B5 29 (.slice la pre.length lc) ∧ Boxed W B6 22 (.int .u64 (lastN pre : Int)) ∧ Boxed W B7 3 (.int .i64 (lastE pre : Int)) ∧ W.heap[g8]? = some (.cells #[.int .u64 (x.n : Int), .slice ra x.r.length rc] 81 (0, 0)) ∧ W.heap[x.g]? = some (.cells cc 81 f) ∧ x.rv = .slice ra x.r.length rc ∧ Below w.heap.size w W) := ⟨⟨h2, h5.2, h8⟩, h1, h3, h4, h7, h9, hrv, h5.1⟩
    have HI23 : Hid (Try.prog.info? 23 = some i0 ∧ i0.zero = some (.slice none 0 0) ∧ i0.size = 1 ∧ i0.bytes = 24) := ⟨hi, hz0, hz1, hz2⟩
    clear h1 h2 h3 h4 h5 h6 h7 h8 h9 hrv hi hz0 hz1 hz2
    gi_wp2_with (gi_at_builtin; (refine wpListIn_append_own _ rfl (.tmp 14) (.tmp 17) 29 rfl W2.heap.size 23 i0 (.slice none 0 0) 1 24 Try.underlying29 HI23.out.1 HI23.out.2.1 HI23.out.2.2.1 HI23.out.2.2.2 rfl (by decide) (.slice la pre.length lc) pre.length (pre.map El.rv) rfl (HX.out.1.1.alloc _) ⟨W.heap.size, 0, none⟩ 1 1 [.slice ra x.r.length rc] rfl rfl (World.news_of_block (Go.heap_alloc_new _ _)) (by intro u hu; obtain rfl := List.mem_singleton.1 hu; rfl) (by have := HX.out.1.2.2; unfold maxLen; omega) (by have := HX.out.1.2.2; omega) (by have := HX.out.1.2.1; simp; omega) ?_; intro v9 w9 ho9 hg9 h9x; clear h9x; obtain ⟨a9, k9, e9⟩ := own_slice ho9; subst e9; (have H9 : Hid (w9.ownsRow W2.heap.size 23 1 (.slice a9 (pre.length + 1) k9) (pre.length + 1) (pre.map El.rv ++ [.slice ra x.r.length rc]) ∧ (W.alloc (.cells #[.slice ra x.r.length rc] 23)).grownBy w9 (Value.slice la pre.length lc).ownBlock) := ⟨ho9, hg9⟩); clear ho9 hg9; (have KW := frW HX.out.1.1 HX.out.1.2.1 H9.out.2); (have r5 : Boxed w9 B5 29 (.slice la pre.length lc) := (KW.1 _ _ _ _ HX.out.2.1 (by decide)).trans HX.out.2.1); (have r6 : Boxed w9 B6 22 (.int .u64 (lastN pre : Int)) := (KW.1 _ _ _ _ HX.out.2.2.1 (by decide)).trans HX.out.2.2.1); (have r7 : Boxed w9 B7 3 (.int .i64 (lastE pre : Int)) := (KW.1 _ _ _ _ HX.out.2.2.2.1 (by decide)).trans HX.out.2.2.2.1); (have r8 := (KW.1 _ _ _ _ HX.out.2.2.2.2.1 (by decide)).trans HX.out.2.2.2.2.1); (have q5 := r5.cell); (have q6 := r6.cell); (have q7 := r7.cell); (have q8 : w9.cell? ⟨g8, 0, none⟩ = some (.int .u64 (x.n : Int)) := by rw [cell_of_row _ _ _ _ _ _ r8]; rfl); (have p5 := r5.frozen); (have p6 := r6.frozen); (have p7 := r7.frozen); (have HR : Hid (Boxed w9 B5 29 (.slice la pre.length lc) ∧ Boxed w9 B6 22 (.int .u64 (lastN pre : Int)) ∧ Boxed w9 B7 3 (.int .i64 (lastE pre : Int))) := ⟨r5, r6, r7⟩); (have HKW : Hid _ := KW); clear KW r5 r6 r7 r8))
    obtain ⟨k1, k2, k3⟩ := HKW.out
    obtain ⟨r5, r6, r7⟩ := HR.out
    obtain ⟨o1, o2, o3, o4, o5, o6, o7, o8⟩ := HX.out
    obtain ⟨z1, z2, z3, z4, z5⟩ := HBN.out
    have s1 : ∀ q, q ≠ B5 → q ≠ B6 → q ≠ B7 → (((w9.setCell ⟨B5, 0, none⟩ (.slice a9 (pre.length + 1) k9)).setCell ⟨B6, 0, none⟩ (.int .u64 (x.n : Int))).setCell ⟨B7, 0, none⟩ (.int .i64 (x.e : Int))).heap[q]? = w9.heap[q]? := fun q h5 h6 h7 => by
      rw [Below.heap_setCell _ _ _ _ h7, Below.heap_setCell _ _ _ _ h6, Below.heap_setCell _ _ _ _ h5]
    have s0 : (((w9.setCell ⟨B5, 0, none⟩ (.slice a9 (pre.length + 1) k9)).setCell ⟨B6, 0, none⟩ (.int .u64 (x.n : Int))).setCell ⟨B7, 0, none⟩ (.int .i64 (x.e : Int))).heap.size = w9.heap.size := by simp
    have keep : ∀ (q : Nat) (c : Array Value) (t : TypeId) (f : Nat × Nat), W.heap[q]? = some (.cells c t f) → t ≠ 23 → t ≠ 29 → t ≠ 22 → t ≠ 3 → (((w9.setCell ⟨B5, 0, none⟩ (.slice a9 (pre.length + 1) k9)).setCell ⟨B6, 0, none⟩ (.int .u64 (x.n : Int))).setCell ⟨B7, 0, none⟩ (.int .i64 (x.e : Int))).heap[q]? = W.heap[q]? := fun q c t f hq t1 t2 t3 t4 => by
      rw [s1 q (ne_tag hq o2 t2) (ne_tag hq o3 t3) (ne_tag hq o4 t4)]
      exact k1 q c t f hq t1
    have hnb : BX < W.heap.size := by have := o1.2.1; omega
    refine ⟨((k3.trans (KeepsOthers.setCell _ _ _)).trans (KeepsOthers.setCell _ _ _)).trans (KeepsOthers.setCell _ _ _) |>.from _, ⟨⟨by rw [s0]; exact k2.size, fun q c f hq => keep q c 5 f hq (by decide) (by decide) (by decide) (by decide), ?_⟩, keep _ _ _ _ o6 (by decide) (by decide) (by decide) (by decide)⟩, ⟨.slice a9 (pre.length + 1) k9, ?_, ?_⟩, ?_, ?_, ⟨?_, ?_⟩, fun y hy => ?_⟩
    · rw [s1 BX (by omega) (by omega) (by omega)]
      exact k2.block BX z5
    · exact ((r5.set _).other (by omega) _).other (by omega) _
    · rw [List.length_append, List.length_singleton, List.map_append, List.map_cons, List.map_nil, o7]
      refine own_at H9.out.1 fun q hq => ?_
      have := (H9.out.1.lt q hq).1
      exact s1 q (by omega) (by omega) (by omega)
    · rw [lastN_snoc]
      exact ((r6.other (by omega) _).set _).other (by omega) _
    · rw [lastE_snoc]
      exact ((r7.other (by omega) _).other (by omega) _).set _
    · exact ((((o8.trans (k2.mono (by omega))).setCell (p := ⟨B5, 0, none⟩) z1 _).setCell (p := ⟨B6, 0, none⟩) (by show _ ≤ B6; omega) _).setCell (p := ⟨B7, 0, none⟩) (by show _ ≤ B7; omega) _)
    · rw [s0]
      exact Nat.le_trans o1.2.1 k2.size
    · obtain rfl : x = y := by simpa using hy
      exact ⟨cc, 81, f, (keep _ _ _ _ o6 (by decide) (by decide) (by decide) (by decide)).trans o6⟩
  case done =>
    rintro Dm xs W hD ⟨hx1, hx2⟩ ⟨⟨lv, h1, h2⟩, h3, h4, h5, h6⟩ hK
    obtain ⟨la, lc, hlv⟩ := own_slice h2
    subst hlv
    have c5 : W.cell? ⟨B5, 0, none⟩ = some (.slice la xs.length lc) := h1.cell
    have c6 : W.cell? ⟨B6, 0, none⟩ = some (.int .u64 (lastN xs : Int)) := h3.cell
    have c7 : W.cell? ⟨B7, 0, none⟩ = some (.int .i64 (lastE xs : Int)) := h4.cell
    have HE : Hid (xs.map El.pl = goodI zs ∧ (∀ x ∈ xs, rowX w.heap.size x W) ∧ W.ownsRow W2.heap.size 23 1 (.slice la xs.length lc) xs.length (xs.map El.rv) ∧ Below w.heap.size w W ∧ w.heap.size ≤ W2.heap.size ∧ W2.heap.size ≤ Dm) := ⟨hx1, hx2, h2, h5.1, by have := HBN.out; omega, hD⟩
    have HD : Hid (W.heap[Dm]? = some (.deferred (some []))) := hK
    obtain ⟨ln, hln⟩ : ∃ ln, lastN xs = ln := ⟨_, rfl⟩
    obtain ⟨le, hle⟩ : ∃ le, lastE xs = le := ⟨_, rfl⟩
    have HLL : Hid (lastN xs = ln ∧ lastE xs = le) := ⟨hln, hle⟩
    rw [hln] at c6
    rw [hle] at c7
    clear hln hle
    clear hD hx1 hx2 h1 h2 h3 h4 h5 h6 hK
    go_wp2_with fail
    go_quiet (fail)
    go_wp2_with fail
    have hk : (W.drewN nq).heap[Dm]? = some (.deferred (some [])) := HD.out
    obtain ⟨e1, e2, e3, e4, e5, e6⟩ := HE.out
    have hg : (W.drewN nq).grownBy ((W.drewN nq).putObj Dm (.deferred none)) (some Dm) := grownBy_putObj' _ _ _
    have hr : ∀ r, some Dm = some r → ∃ o : Obj, (W.drewN nq).heap[r]? = some o ∧ o.isCells = false := fun r e => by cases e; exact ⟨_, hk, rfl⟩
    have hb0 : Below w.heap.size w (W.drewN nq) := ⟨e4.os, e4.tape, e4.output, e4.size, e4.block⟩
    refine ⟨by simp, .inl ⟨_, _, rfl, run_takeDeferred hk, ?_⟩⟩
    refine ⟨_, results_tmp3 rfl _ _ _, xs, .slice la xs.length lc, by rw [HLL.out.1, HLL.out.2]; rfl, e1, own_low (grown_own hg hr (own_at e3 fun q hq => rfl)) e5, fun x hx => grown_own hg hr (own_at (e2 x hx) fun q hq => rfl), hb0.grown hg hb0.size (fun q e => by cases e; omega)⟩
end Go.Proofs.Ytflhgphjkhplmaa.W
