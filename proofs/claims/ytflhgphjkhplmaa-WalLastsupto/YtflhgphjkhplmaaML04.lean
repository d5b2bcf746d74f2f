import Derived.Test.YtflhgphjkhplmaaML03
import Derived.WalkKit
import Derived.RangeFuncNested
import Derived.RangeFuncBound
import Derived.RangeFuncCalls
import Derived.RangeFuncLeaves
import Derived.OwnWalkIn
import Derived.TacticsInMore
import Derived.LoopNIn
import Derived.LoopIn
/- A range over a function whose elements lead to memory that the sequence has made: what is told is said of an element, of the world in which it is told, and of the one ahead of it (where the round before it ended). -/
namespace Go.Proofs.Ytflhgphjkhplmaa.R
open Go Go.RowKit
set_option linter.unusedVariables false

variable {P : Program} {F : Fence} {n : Nat} {α : Type}
/-- What a sequence tells: each element x in a world in which X x holds; at its end S holds of all of them. -/
def SeqX (F : Fence) (n : Nat) (P : Program) (g : Nat) (lb : Array Value) (encs : α → Array Value) (X : List α → α → World → World → Prop) (Kp : α → World → World → Prop) (S : List α → World → Prop) (w : World) : Prop :=
  ∀ (l : Nat) (J Jx : List α → World → Prop) (W : World), Below w.heap.size w W → AbidesFrom W.heap.size J → AbidesFrom W.heap.size Jx →
    (∀ pre x V0 V, J pre V0 → Below V0.heap.size V0 V → X pre x V0 V → YieldAt F (n - 1) P l (encs x) V fun e V' => (e = .returned (.bool true) ∧ J (pre ++ [x]) V' ∧ Kp x V V') ∨ (e = .returned (.bool false) ∧ Jx (pre ++ [x]) V')) →
    J [] W → CallsIn F n P g (#[.func (.yield l) #[] #[]] ++ lb) W fun e W' => (∃ v, e = .returned v) ∧ ((∃ xs, S xs W' ∧ J xs W') ∨ ∃ pre, Jx pre W')
theorem SeqX.stops {g : Nat} {lb : Array Value} {encs : α → Array Value} {X : List α → α → World → World → Prop} {Kp : World → World → Prop} {S : List α → World → Prop} {w : World} (h : SeqX F n P g lb encs X (fun _ => Kp) S w) (N : Nat) (hN : ∀ pre : List α, pre.length < N) : SeqStopsK F n P g lb encs Kp (fun _ => True) (fun _ => True) N w := by
  intro l J Jx W hW hJ hJx hY h0
  refine (h l J Jx W hW hJ hJx (fun pre x V0 V hj hb _ => hY pre x V (hJ _ _ _ none hj ⟨hb.os, hb.tape, hb.output, hb.size, fun q hq _ => hb.block q hq⟩ (fun r e => nomatch e)) (hN pre)) h0).mono ?_
  rintro e W' ⟨hv, ⟨xs, -, hx⟩ | ⟨pre, hx⟩⟩
  · exact ⟨hv, .inl ⟨xs, trivial, hx⟩⟩
  · exact ⟨hv, .inr ⟨pre, trivial, hx⟩⟩
/-- A round that goes on. -/
def goesOn (B : Nat) (Kp : World → World → Prop) (J : World → Prop) (W : World) : Exit → Act → World → Prop
  | .normal, _, W' => KeepsFrom B W W' ∧ Kp W W' ∧ J W'
  | _, _, _ => False
theorem range_x {g : Operand} {ps : Array Tmp} {assign body : Code} {Q : Exit → Act → World → Prop} {a : Act} {w : World} (hro : F.round = none) (h1 : 1 ≤ n)
    {gf : Nat} {lb : Array Value} (hg : a.eval g = .func (.func gf) #[] lb) (hFg : F.fn gf) (eg : ∀ args w, (callFunc gf args).run P w = .ok (.enter gf args) w)
    {encs : α → Array Value} {X : List α → α → World → World → Prop} {Kp : α → World → World → Prop} {S : List α → World → Prop} {w0 : World} (hseq : SeqX F (n - 1) P gf lb encs X Kp S w0) (I : List α → World → Prop) (Ax : List α → α → Act → World → Prop)
    (hKt : ∀ {x : α} {A B C : World}, Kp x A B → Kp x B C → Kp x A C) (hKb : ∀ (pre : List α) (x : α) (a : Act) (W : World) (l : Nat) (o o' : Obj), (Ax pre x a W ∨ I (pre ++ [x]) W) → w.heap.size ≤ l → W.heap[l]? = some o → o.isCells = false → o.isWalk = false → Kp x W (W.putObj l o'))
    (hb0 : Below w0.heap.size w0 w) (hps : ∀ x, (encs x).size = ps.size) (hI : OwnFrom w.heap.size I) (hS : OwnFrom w.heap.size S) (h0 : I [] w)
    (hAx : ∀ pre x a', OwnFrom w.heap.size (fun (_ : Unit) W => Ax pre x a' W))
    (hassign : ∀ (l : Nat) (pre : List α) (x : α) (W : World) (W0 : World) (K : Act → World → Prop), I pre W0 → Below W0.heap.size W0 W → X pre x W0 W → (∀ a' W', KeepsFrom w.heap.size W W' → Kp x W W' → Ax pre x a' W' → K a' W') →
      assign.wpIn (F.inRound l) (n - 1 - 1) P (Exit.then K (fun _ _ _ => False)) { tmps := (ps.zip (encs x)).foldl (fun t (p, v) => t.setIfInBounds p v) a.tmps, defers := [] } W)
    (hbody : ∀ (l : Nat) (pre : List α) (x : α) (a' : Act) (W : World), w.heap.size ≤ l → Ax pre x a' W → body.wpIn (F.inRound l) (n - 1 - 1) P (goesOn w.heap.size (Kp x) (I (pre ++ [x])) W) a' W)
    (hdone : ∀ (D : Nat) (xs : List α) (W : World), w.heap.size ≤ D → S xs W → I xs W → W.heap[D]? = some (.deferred (some [])) → Q .normal { a with defers := { target := .collected D, args := #[] } :: a.defers } W) :
    (Code.rangeFunc g ps assign body).wpIn F n P Q a w := by
  refine wpIn_rangeFunc fun fn hfn => ?_
  rw [hro]
  let rc : LoopState → Option Code → Loop := fun st pe => { state := st, pending := pe, fn, tmps := a.tmps, params := ps, assign, body, defers := w.heap.size }
  let L := w.heap.size + 1
  let W1 := (w.alloc (.deferred (some []))).alloc (.loop (rc .ready none))
  have q1 : W1.heap[L]? = some (.loop (rc .ready none)) := by
    have := World.alloc_heap_new (w.alloc (.deferred (some []))) (.loop (rc .ready none))
    rwa [World.size_alloc] at this
  have q0 : W1.heap[w.heap.size]? = some (.deferred (some [])) := (Below.heap_alloc _ _ _ (by simp)).trans (World.alloc_heap_new w _)
  have qs : W1.heap.size = w.heap.size + 2 := by simp [W1]
  have hb1 : Below w0.heap.size w0 W1 := hb0.trans ((((Below.refl _ w).alloc (Nat.le_refl _) _).alloc (by simp) _).mono hb0.size)
  -- the caller's own invariant, with the two blocks that the statement has laid
  let J : List α → World → Prop := fun pre W => I pre W ∧ W.heap[L]? = some (.loop (rc .ready none)) ∧ W.heap[w.heap.size]? = some (.deferred (some []))
  have hJ : AbidesFrom W1.heap.size J := by
    intro s A B row hs hgr hr
    have hr2 : ∀ r, row = some r → w.heap.size ≤ r ∧ ∃ o : Obj, A.heap[r]? = some o ∧ o.isCells = false := fun r e => by
      obtain ⟨hB, o, ho, hw⟩ := hr r e
      exact ⟨by omega, o, ho, Obj.not_cells_of_walk hw⟩
    exact ⟨hI s A B row hs.1 hgr hr2, (grownBy_keeps hgr (fun r e => (hr r e).2) hs.2.1 rfl).trans hs.2.1, (grownBy_keeps hgr (fun r e => (hr r e).2) hs.2.2 rfl).trans hs.2.2⟩
  refine ⟨L, [{ target := .collected w.heap.size, args := #[] }], W1, { target := .fn (.func gf) lb, args := #[.func (.yield L) #[] #[]] }, W1, gf, #[.func (.yield L) #[] #[]] ++ lb, W1, run_enterLoop_outer _ _ _ _ _, ?_, ?_, ?_, fun _ => h1, ?_⟩
  · simp only [resolve, hg]
    simp [go_sem]
  · intro f' hf'
    simp [Target.leads] at hf'
    subst hf'
    exact hFg
  · simp [invoke, go_sem, eg]
  refine (hseq L J (fun _ _ => False) W1 hb1 hJ (fun _ _ _ _ h => h.elim) ?_ ⟨hI.alloc _ (hI.alloc _ h0), q1, q0⟩).mono ?_
  · rintro pre x V0 V hj hbV hX
    have hi := hj.1
    obtain ⟨-, hl, hk⟩ := hJ _ _ _ none hj ⟨hbV.os, hbV.tape, hbV.output, hbV.size, fun q hq _ => hbV.block q hq⟩ (fun r e => nomatch e)
    refine ⟨fn, _, assign, body, run_yield (P := P) (args := encs x) hl (hps x), roundIn_of_wpIn hfn (hassign _ pre x V V0 _ hi hbV hX ?_)⟩
    intro a' Va k1 k2 k3
    have l1 := k1.same _ _ (show w.heap.size ≤ L by omega) hl rfl
    have d1 := k1.same _ _ (Nat.le_refl _) hk rfl
    have s1 : L < Va.heap.size := (Array.getElem?_eq_some_iff.1 l1).1
    refine ⟨_, run_beginRound l1 rfl, ?_⟩
    have l2 : (Va.putObj L (.loop { rc .ready none with state := .busy })).heap[L]? = some (.loop { rc .ready none with state := .busy }) := World.putObj_heap_same s1
    have d2 : (Va.putObj L (.loop { rc .ready none with state := .busy })).heap[w.heap.size]? = some (.deferred (some [])) := (World.putObj_heap_other (by omega)).trans d1
    refine wpIn_mono (hbody _ pre x a' _ (by omega) ((hAx pre x a').putObj (s := ()) _ k3 (by omega) l1 rfl)) ?_
    intro e a3 V3 hp
    cases e with
    | normal =>
      obtain ⟨m1, m2, m3⟩ := hp
      have l3 := m1.same _ _ (show w.heap.size ≤ L by omega) l2 rfl
      have d3 := m1.same _ _ (Nat.le_refl _) d2 rfl
      have s3 : L < V3.heap.size := (Array.getElem?_eq_some_iff.1 l3).1
      refine ⟨_, _, run_endRound (P := P) none l3, .inl ⟨rfl, ⟨hI.putObj _ m3 (by omega) l3 rfl, World.putObj_heap_same s3, (World.putObj_heap_other (by omega)).trans d3⟩, ?_⟩⟩
      exact hKt k2 (hKt (hKt (hKb pre x a' _ _ _ _ (.inl k3) (by omega) l1 rfl rfl) m2) (hKb pre x a' _ _ _ _ (.inr m3) (by omega) l3 rfl rfl))
    | _ => exact hp.elim
  · rintro e W2 ⟨⟨v, rfl⟩, ⟨xs, hs, hi, hl, hk⟩ | ⟨pre, hf⟩⟩
    · exact ⟨none, _, run_endLoop (P := P) hl (by simp [rc]), hdone _ xs _ (Nat.le_refl _) (hS.putObj _ hs (by omega) hl rfl) (hI.putObj _ hi (by omega) hl rfl) ((World.putObj_heap_other (by omega)).trans hk)⟩
    · exact hf.elim
end Go.Proofs.Ytflhgphjkhplmaa.R

/- The good frames, one behind the other: what the sequence tells. -/
namespace Go.Proofs.Ytflhgphjkhplmaa.W
open Go Go.RowKit R
set_option linter.unusedVariables false
set_option linter.unusedSimpArgs false
attribute [local go_sem] Oper.semAt_some

/-- The good frames from a place on. -/
def gdI (zs : List Int) : Nat → Nat → Nat → List (Nat × List Int × Nat)
  | 0, _, _ => []
  | k + 1, at', last => match fatI zs at' with
    | none => []
    | some (n, r, e) => if 0 < at' ∧ n ≠ (last + 1) % 18446744073709551616 then [] else (n, r, e) :: gdI zs k e n
def goodI (zs : List Int) : List (Nat × List Int × Nat) := gdI zs (zs.length + 1) 0 0
/-- A good frame as it is told: with the row of its record. -/
structure El where
  n : Nat
  r : List Int
  e : Nat
  rv : Value
  g : Nat
def El.pl (x : El) : Nat × List Int × Nat := (x.n, x.r, x.e)
def elG (x : El) : Array Value := #[.agg #[.int .u64 (x.n : Int), x.rv], .int .i64 (x.e : Int)]
/-- Its row lies there. -/
def rowX (base : Nat) (x : El) (W : World) : Prop := W.ownsRow base 5 1 x.rv x.r.length (u8l x.r)
/-- Rows of bytes, and one block, lie as they lay. -/
structure KB (bx : Nat) (A B : World) : Prop where
  size : A.heap.size ≤ B.heap.size
  rows : ∀ (q : Nat) (c : Array Value) (f : Nat × Nat), A.heap[q]? = some (.cells c 5 f) → B.heap[q]? = A.heap[q]?
  box : B.heap[bx]? = A.heap[bx]?
theorem KB.refl (bx : Nat) (A : World) : KB bx A A := ⟨Nat.le_refl _, fun _ _ _ _ => rfl, rfl⟩
theorem KB.trans {bx : Nat} {A B C : World} (h : KB bx A B) (k : KB bx B C) : KB bx A C :=
  ⟨Nat.le_trans h.size k.size, fun q c f hq => (k.rows q c f ((h.rows q c f hq).trans hq)).trans (h.rows q c f hq), k.box.trans h.box⟩
theorem KB.of {bx : Nat} {A B : World} (h : Below A.heap.size A B) (hb : bx < A.heap.size) : KB bx A B :=
  ⟨h.size, fun q c f hq => h.block q (Array.getElem?_eq_some_iff.1 hq).1, h.block bx hb⟩
/-- What a round keeps: that, and the box of the frame that is told. -/
def KE (bx : Nat) (x : El) (A B : World) : Prop := KB bx A B ∧ B.heap[x.g]? = A.heap[x.g]?
theorem KE.trans {bx : Nat} {x : El} {A B C : World} (h : KE bx x A B) (k : KE bx x B C) : KE bx x A C := ⟨h.1.trans k.1, k.2.trans h.2⟩
/-- A frame as it is told: its box and its row are new. -/
structure XE (base : Nat) (pre : List El) (x : El) (V0 V : World) : Prop where
  few : pre.length ≤ 2000000
  new : V0.heap.size ≤ x.g
  box : V.heap[x.g]? = some (.cells #[.int .u64 (x.n : Int), x.rv] 81 (0, 0))
  row : rowX V0.heap.size x V
  lo : base ≤ V0.heap.size
theorem KB.put {bx : Nat} {W : World} {l : Nat} {o o' : Obj} (hl : W.heap[l]? = some o) (ho : o.isCells = false) {c : Array Value} {t : TypeId} {f : Nat × Nat} (hb : W.heap[bx]? = some (.cells c t f)) : KB bx W (W.putObj l o') := by
  have off : ∀ (q : Nat) (c : Array Value) (t : TypeId) (f : Nat × Nat), W.heap[q]? = some (.cells c t f) → (W.putObj l o').heap[q]? = W.heap[q]? := fun q c t f hq => World.putObj_heap_other fun e => by
    subst e
    rw [hl] at hq
    cases hq
    cases ho
  exact ⟨by simp, fun q c f hq => off q c 5 f hq, off bx c t f hb⟩
theorem KB.own {bx base : Nat} {A B : World} {v : Value} {n : Nat} {xs : List Value} (h : KB bx A B) (ho : A.ownsRow base 5 1 v n xs) : B.ownsRow base 5 1 v n xs := own_at ho fun q hq => by
  obtain ⟨cur, hc⟩ := own_tag ho hq
  exact h.rows q _ _ hc
theorem KB.bz {bx : Nat} {A B : World} {v : Value} {zs : List Int} (h : KB bx A B) (hz : Bz A v zs) (hr : ∀ q, v.ownBlock = some q → ∃ (c : Array Value) (f : Nat × Nat), A.heap[q]? = some (.cells c 5 f)) : Bz B v zs := by
  obtain ⟨a, c, h1, h2, h3, h4⟩ := hz.ex
  refine ⟨hz.byt, hz.small, a, c, h1, h2, h3, fun i x hi => ?_⟩
  obtain ⟨b, off, e, hc⟩ := h4 i x hi
  refine ⟨b, off, e, (World.cell?_of_block ?_).trans hc⟩
  obtain ⟨cc, ff, hq⟩ := hr b (by rw [h1, e]; rfl)
  exact h.rows b _ _ hq
/-- The bytes that the sequence goes through: in a box, in a row of bytes. -/
structure GB (W : World) (bx : Nat) (v : Value) (zs : List Int) : Prop where
  box : W.heap[bx]? = some (.cells #[v] 23 (0, 0))
  bz : Bz W v zs
  row : ∀ q, v.ownBlock = some q → ∃ (c : Array Value) (f : Nat × Nat), W.heap[q]? = some (.cells c 5 f)
theorem GB.kb {A B : World} {bx : Nat} {v : Value} {zs : List Int} (h : GB A bx v zs) (k : KB bx A B) : GB B bx v zs :=
  ⟨k.box.trans h.box, k.bz h.bz h.row, fun q hq => by obtain ⟨c, f, e⟩ := h.row q hq; exact ⟨c, f, (k.rows q c f e).trans e⟩⟩
theorem GB.lt {W : World} {bx : Nat} {v : Value} {zs : List Int} (h : GB W bx v zs) : bx < W.heap.size := (Array.getElem?_eq_some_iff.1 h.box).1
/-- Where a sequence stands. -/
structure At (zs : List Int) (pre : List El) (at' last k : Nat) : Prop where
  eq : goodI zs = pre.map El.pl ++ gdI zs k at' last
  fuel : zs.length < at' + k
  le : at' ≤ zs.length
  nil : at' = 0 ↔ pre = []
  lst : last < 18446744073709551616
  few : pre.length ≤ at'
theorem At.start (zs : List Int) : At zs [] 0 0 (zs.length + 1) := ⟨rfl, by omega, Nat.zero_le _, by simp, by decide, Nat.le_refl _⟩
theorem At.stop {zs : List Int} {pre : List El} {at' last k : Nat} (h : At zs pre at' last k) (hn : fatI zs at' = none) : pre.map El.pl = goodI zs := by
  rw [h.eq]
  cases k with
  | zero => have := h.fuel; have := h.le; omega
  | succ k => rw [gdI, hn]; simp
theorem At.other {zs : List Int} {pre : List El} {at' last k n e : Nat} {r : List Int} (h : At zs pre at' last k) (hn : fatI zs at' = some (n, r, e)) (h0 : 0 < at') (h1 : n ≠ (last + 1) % 18446744073709551616) : pre.map El.pl = goodI zs := by
  rw [h.eq]
  cases k with
  | zero => have := h.fuel; have := h.le; omega
  | succ k => rw [gdI, hn]; simp only; rw [if_pos ⟨h0, h1⟩]; simp
theorem At.next {zs : List Int} {pre : List El} {at' last k n e : Nat} {r : List Int} (h : At zs pre at' last k) (hn : fatI zs at' = some (n, r, e)) (h1 : ¬ (0 < at' ∧ n ≠ (last + 1) % 18446744073709551616)) (rv : Value) (g : Nat) : ∃ k', At zs (pre ++ [⟨n, r, e, rv, g⟩]) e n k' := by
  obtain ⟨f1, f2, f3, f4, f5, f6, f7⟩ := fatI_some hn
  cases k with
  | zero => have := h.fuel; have := h.le; omega
  | succ k =>
    refine ⟨k, ?_, by have := h.fuel; omega, f6, by simp; omega, f2, by have := h.few; simp; omega⟩
    rw [h.eq, gdI, hn]
    simp only
    rw [if_neg h1, List.map_append, List.append_assoc]
    rfl
end Go.Proofs.Ytflhgphjkhplmaa.W

/- The good frames: what is sure of each, and of their end. -/
namespace Go.Proofs.Ytflhgphjkhplmaa.W
set_option linter.unusedVariables false
set_option linter.unusedSimpArgs false

theorem gd_all (zs : List Int) : ∀ (k at' last : Nat) (q : Nat × List Int × Nat), q ∈ gdI zs k at' last → ∃ p, fatI zs p = some q
  | 0, at', last, q, h => by simp [gdI] at h
  | k + 1, at', last, q, h => by
    unfold gdI at h
    cases hf : fatI zs at' with
    | none => rw [hf] at h; simp at h
    | some x =>
      obtain ⟨n, r, e⟩ := x
      rw [hf] at h
      simp only at h
      split at h
      · simp at h
      · rcases List.mem_cons.1 h with rfl | h
        · exact ⟨at', hf⟩
        · exact gd_all zs k e n q h
theorem gd_len (zs : List Int) : ∀ (k at' last : Nat), at' ≤ zs.length → (gdI zs k at' last).length + at' ≤ zs.length
  | 0, at', last, h => by simp [gdI]; exact h
  | k + 1, at', last, h => by
    unfold gdI
    cases hf : fatI zs at' with
    | none => simp; exact h
    | some x =>
      obtain ⟨n, r, e⟩ := x
      obtain ⟨f1, f2, f3, f4, f5, f6, f7⟩ := fatI_some hf
      simp only
      split
      · simp; exact h
      · have := gd_len zs k e n f6
        simp
        omega
theorem good_all {zs : List Int} {q : Nat × List Int × Nat} (h : q ∈ goodI zs) : 1 ≤ q.1 ∧ q.1 < 18446744073709551616 ∧ q.2.1.length ≤ 65536 ∧ q.2.2 ≤ zs.length ∧ 0 < q.2.2 := by
  obtain ⟨p, hp⟩ := gd_all zs _ _ _ q h
  obtain ⟨n, r, e⟩ := q
  obtain ⟨f1, f2, f3, f4, f5, f6, f7⟩ := fatI_some hp
  exact ⟨f1, f2, f3, f6, by show 0 < e; omega⟩
theorem good_len (zs : List Int) : (goodI zs).length ≤ zs.length := by
  have := gd_len zs (zs.length + 1) 0 0 (Nat.zero_le _)
  unfold goodI
  omega
end Go.Proofs.Ytflhgphjkhplmaa.W

/- Frames one behind the other, plainly: which are good. -/
namespace Go.Proofs.Ytflhgphjkhplmaa.W
set_option linter.unusedVariables false
set_option linter.unusedSimpArgs false

def frs (s : Nat) : List (List Int) → List Int
  | [] => []
  | b :: l => frI s b ++ frs (s + 1) l
def gdL (s p : Nat) : List (List Int) → List (Nat × List Int × Nat)
  | [] => []
  | b :: l => (s, b, p + (frI s b).length) :: gdL (s + 1) (p + (frI s b).length) l
theorem fat_end (zs : List Int) : fatI zs zs.length = none := by
  cases h : fatI zs zs.length with
  | none => rfl
  | some x =>
    obtain ⟨n, r, e⟩ := x
    obtain ⟨-, -, -, -, -, h6, h7⟩ := fatI_some h
    omega
theorem fr_pos {s : Nat} {b : List Int} (hs : s < 18446744073709551616) (hb : b.length ≤ 65536) : 0 < (frI s b).length := by have := (frI_len hs hb).1; omega
theorem gd_frs : ∀ (l : List (List Int)) (s : Nat) (pre rest : List Int) (k last : Nat), (∀ b ∈ l, b.length ≤ 65536) → 1 ≤ s → s + l.length ≤ 18446744073709551616 → (l ≠ [] → 0 < pre.length → s = (last + 1) % 18446744073709551616) → l.length < k →
    fatI (pre ++ (frs s l ++ rest)) (pre.length + (frs s l).length) = none → gdI (pre ++ (frs s l ++ rest)) k pre.length last = gdL s pre.length l
  | [], s, pre, rest, k, last, hb, hs, hn, hl, hk, hf => by
    obtain ⟨k, rfl⟩ : ∃ j, k = j + 1 := ⟨k - 1, by simp at hk; omega⟩
    unfold gdI
    have hf' : fatI (pre ++ (frs s [] ++ rest)) pre.length = none := by simpa [frs] using hf
    rw [hf']
    rfl
  | b :: l, s, pre, rest, k, last, hb, hs, hn, hl, hk, hf => by
    obtain ⟨k, rfl⟩ : ∃ j, k = j + 1 := ⟨k - 1, by simp at hk; omega⟩
    have hlen : (b :: l).length = l.length + 1 := rfl
    have hb0 := hb b (by simp)
    have e : pre ++ (frs s (b :: l) ++ rest) = pre ++ (frI s b ++ (frs (s + 1) l ++ rest)) := by simp [frs, List.append_assoc]
    have e2 : pre ++ (frs s (b :: l) ++ rest) = (pre ++ frI s b) ++ (frs (s + 1) l ++ rest) := by simp [frs, List.append_assoc]
    have hfr := fatI_frame pre (frs (s + 1) l ++ rest) b s hs (by omega) hb0
    rw [← e] at hfr
    have hp := fr_pos (s := s) (b := b) (by omega) hb0
    unfold gdI
    rw [hfr]
    simp only
    rw [if_neg (by rintro ⟨h1, h2⟩; exact h2 (hl (by simp) h1))]
    have ih := gd_frs l (s + 1) (pre ++ frI s b) rest k s (fun x hx => hb x (by simp [hx])) (by omega) (by omega) (fun hne _ => ?_) (by simp at hk; omega) ?_
    · rw [← e2] at ih
      rw [List.length_append] at ih
      rw [ih]
      rfl
    · cases l with
      | nil => exact absurd rfl hne
      | cons c l => simp at hn; omega
    · rw [← e2]
      have hq : (pre ++ frI s b).length + (frs (s + 1) l).length = pre.length + (frs s (b :: l)).length := by simp [frs]; omega
      rw [hq]
      exact hf
theorem frs_len : ∀ (l : List (List Int)) (s : Nat), (∀ b ∈ l, b.length ≤ 65536) → s + l.length ≤ 18446744073709551616 → l.length ≤ (frs s l).length
  | [], s, hb, hn => Nat.zero_le _
  | b :: l, s, hb, hn => by
    have h1 := frs_len l (s + 1) (fun x hx => hb x (by simp [hx])) (by simp at hn; omega)
    have h2 := fr_pos (s := s) (b := b) (by simp at hn; omega) (hb b (by simp))
    simp [frs]
    omega
/-- The frames of records, one behind the other, are these. -/
theorem good_frs (l : List (List Int)) (s : Nat) (hb : ∀ b ∈ l, b.length ≤ 65536) (hs : 1 ≤ s) (hn : s + l.length ≤ 18446744073709551616) : goodI (frs s l) = gdL s 0 l := by
  have h := gd_frs l s [] [] ((frs s l).length + 1) 0 hb hs hn (fun _ h => by simp at h) (by have := frs_len l s hb hn; omega) (by
    have := fat_end (frs s l)
    simpa using this)
  simpa [goodI] using h
theorem gdL_pl : ∀ (l : List (List Int)) (s p : Nat), (gdL s p l).map (fun q => q.2.1) = l
  | [], s, p => rfl
  | b :: l, s, p => by simp [gdL, gdL_pl l]
theorem gdL_len : ∀ (l : List (List Int)) (s p : Nat), (gdL s p l).length = l.length
  | [], s, p => rfl
  | b :: l, s, p => by simp [gdL, gdL_len l]
theorem gdL_last : ∀ (l : List (List Int)) (s p : Nat) (b : List Int), (gdL s p (l ++ [b])).getLast? = some (s + l.length, b, p + (frs s (l ++ [b])).length)
  | [], s, p, b => by simp [gdL, frs]
  | c :: l, s, p, b => by
    have h := gdL_last l (s + 1) (p + (frI s c).length) b
    rw [List.cons_append]
    show ((s, c, p + (frI s c).length) :: gdL (s + 1) (p + (frI s c).length) (l ++ [b])).getLast? = _
    rw [List.getLast?_cons, h]
    simp [frs]
    omega
/-- No frame begins another one: a frame that is cut is none. -/
theorem fat_cut (pre b : List Int) (s m : Nat) (h0 : 1 ≤ s) (h1 : s < 18446744073709551616) (h2 : b.length ≤ 65536) (hm : m < (frI s b).length) : fatI (pre ++ (frI s b).take m) pre.length = none := by
  cases h : fatI (pre ++ (frI s b).take m) pre.length with
  | none => rfl
  | some x =>
    obtain ⟨n, r, e⟩ := x
    obtain ⟨f1, f2, f3, f4, f5, f6, f7⟩ := fatI_some h
    rw [drop_pre] at f5
    have hle : (frI n r).length ≤ m := by
      have := congrArg List.length f5
      simp at this
      omega
    rw [List.take_take, Nat.min_eq_left hle] at f5
    have e1 := fatI_frame [] [] b s h0 h1 h2
    have e2 := fatI_frame [] ((frI s b).drop (frI n r).length) r n f1 f2 f3
    have hs : frI s b = frI n r ++ (frI s b).drop (frI n r).length := by
      conv => lhs; rw [← List.take_append_drop (frI n r).length (frI s b)]
      rw [f5]
    rw [List.nil_append] at e1 e2
    rw [← hs] at e2
    rw [List.append_nil, e2] at e1
    simp at e1
    omega
end Go.Proofs.Ytflhgphjkhplmaa.W

/- Frames that are cut, plainly. -/
namespace Go.Proofs.Ytflhgphjkhplmaa.W
set_option linter.unusedVariables false
set_option linter.unusedSimpArgs false

/-- How many of the frames end at n or ahead of it. -/
def whN (s n : Nat) : List (List Int) → Nat
  | [] => 0
  | b :: l => if (frI s b).length ≤ n then whN (s + 1) (n - (frI s b).length) l + 1 else 0
theorem whN_le : ∀ (l : List (List Int)) (s n : Nat), whN s n l ≤ l.length
  | [], s, n => Nat.zero_le _
  | b :: l, s, n => by
    unfold whN
    split
    · have := whN_le l (s + 1) (n - (frI s b).length)
      simp
      omega
    · simp
theorem take_frs : ∀ (l : List (List Int)) (s n : Nat), n ≤ (frs s l).length → ∃ rest, (frs s l).take n = frs s (l.take (whN s n l)) ++ rest ∧ (rest = [] ∨ ∃ b m, l[whN s n l]? = some b ∧ m < (frI (s + whN s n l) b).length ∧ rest = (frI (s + whN s n l) b).take m)
  | [], s, n, h => ⟨[], by simp [frs, whN], .inl rfl⟩
  | b :: l, s, n, h => by
    unfold whN
    split
    · rename_i hle
      obtain ⟨rest, h1, h2⟩ := take_frs l (s + 1) (n - (frI s b).length) (by simp [frs] at h; omega)
      refine ⟨rest, ?_, ?_⟩
      · show (frI s b ++ frs (s + 1) l).take n = frI s b ++ frs (s + 1) (l.take _) ++ rest
        rw [List.take_append, List.take_of_length_le hle, h1, List.append_assoc]
      · rcases h2 with h2 | ⟨c, m, h3, h4, h5⟩
        · exact .inl h2
        · refine .inr ⟨c, m, by simpa using h3, ?_, ?_⟩
          · rw [show s + (whN (s + 1) (n - (frI s b).length) l + 1) = s + 1 + whN (s + 1) (n - (frI s b).length) l by omega]
            exact h4
          · rw [show s + (whN (s + 1) (n - (frI s b).length) l + 1) = s + 1 + whN (s + 1) (n - (frI s b).length) l by omega]
            exact h5
    · rename_i hle
      refine ⟨(frI s b).take n, ?_, .inr ⟨b, n, rfl, by simpa using hle, rfl⟩⟩
      show (frI s b ++ frs (s + 1) l).take n = frs s [] ++ (frI s b).take n
      rw [List.take_append, show n - (frI s b).length = 0 by omega]
      simp [frs]
/-- The good frames of frames that are cut are those that are whole. -/
theorem good_cut (l : List (List Int)) (s n : Nat) (hb : ∀ b ∈ l, b.length ≤ 65536) (hs : 1 ≤ s) (hn : s + l.length ≤ 18446744073709551616) (hle : n ≤ (frs s l).length) : goodI ((frs s l).take n) = gdL s 0 (l.take (whN s n l)) := by
  obtain ⟨rest, h1, h2⟩ := take_frs l s n hle
  have hk := whN_le l s n
  have hb' : ∀ b ∈ l.take (whN s n l), b.length ≤ 65536 := fun b h => hb b (List.mem_of_mem_take h)
  have hlen : (l.take (whN s n l)).length = whN s n l := by simp; omega
  have hfl := frs_len (l.take (whN s n l)) s hb' (by rw [hlen]; omega)
  have h := gd_frs (l.take (whN s n l)) s [] rest (((frs s l).take n).length + 1) 0 hb' hs (by rw [hlen]; omega) (fun _ h => by simp at h) (by rw [h1, List.length_append]; omega) ?_
  · rw [List.nil_append, ← h1] at h
    exact h
  · rw [List.nil_append]
    rcases h2 with rfl | ⟨b, m, h3, h4, rfl⟩
    · have := fat_end (frs s (l.take (whN s n l)))
      simpa using this
    · obtain ⟨hlt, hbe⟩ := List.getElem?_eq_some_iff.1 h3
      have := fat_cut (frs s (l.take (whN s n l))) b (s + whN s n l) m (by omega) (by omega) (hb b (by rw [← hbe]; exact List.getElem_mem _)) h4
      simpa using this
/-- Where the frames end. -/
def enL (s p : Nat) : List (List Int) → List Nat
  | [] => []
  | b :: l => (p + (frI s b).length) :: enL (s + 1) (p + (frI s b).length) l
theorem enL_len : ∀ (l : List (List Int)) (s p : Nat), (enL s p l).length = l.length
  | [], s, p => rfl
  | b :: l, s, p => by simp [enL, enL_len l]
theorem enL_snoc : ∀ (l : List (List Int)) (s p : Nat) (b : List Int), enL s p (l ++ [b]) = enL s p l ++ [p + (frs s (l ++ [b])).length]
  | [], s, p, b => by simp [enL, frs]
  | c :: l, s, p, b => by
    have h := enL_snoc l (s + 1) (p + (frI s c).length) b
    simp [enL, frs, h]
    omega
theorem frs_snoc : ∀ (l : List (List Int)) (s : Nat) (b : List Int), frs s (l ++ [b]) = frs s l ++ frI (s + l.length) b
  | [], s, b => by simp [frs]
  | c :: l, s, b => by
    have h := frs_snoc l (s + 1) b
    simp [frs, h]
    rw [show s + 1 + l.length = s + (l.length + 1) by omega]
theorem enL_at : ∀ (l : List (List Int)) (s p k : Nat), k < l.length → (enL s p l)[k]? = some (p + (frs s (l.take (k + 1))).length)
  | [], s, p, k, h => by simp at h
  | b :: l, s, p, 0, h => by simp [enL, frs]
  | b :: l, s, p, k + 1, h => by
    have h2 := enL_at l (s + 1) (p + (frI s b).length) k (by simpa using h)
    simp only [enL, List.getElem?_cons_succ, h2, List.take_succ_cons, frs, List.length_append]
    rw [Nat.add_assoc]
/-- Which are whole, by their ends. -/
theorem whN_lt : ∀ (l : List (List Int)) (s n k : Nat), k < l.length → ((frs s (l.take (k + 1))).length ≤ n ↔ k < whN s n l)
  | [], s, n, k, h => by simp at h
  | b :: l, s, n, 0, h => by
    unfold whN
    simp only [List.take_succ_cons, List.take_zero, frs, List.append_nil]
    split
    · exact ⟨fun _ => by omega, fun _ => by assumption⟩
    · exact ⟨fun h => absurd h (by assumption), fun h => by omega⟩
  | b :: l, s, n, k + 1, h => by
    unfold whN
    simp only [List.take_succ_cons, frs, List.length_append]
    have h2 := whN_lt l (s + 1) (n - (frI s b).length) k (by simpa using h)
    split
    · rename_i hle
      constructor
      · intro h3
        have := h2.1 (by omega)
        omega
      · intro h3
        have := h2.2 (by omega)
        omega
    · constructor
      · intro h3; omega
      · intro h3; omega
end Go.Proofs.Ytflhgphjkhplmaa.W

/- The model's sum; the model's frame. -/
namespace Go.Proofs.Ytflhgphjkhplmaa.W
open Go.RowKit
set_option linter.unusedVariables false
set_option linter.unusedSimpArgs false

variable {w w' : World} {v : Value} {zs : List Int}
set_option maxHeartbeats 1000000 in
theorem rsum_row (b off len cap : Nat) (zs : List Int) (w : World) (hl : len ≤ zs.length) (hm : (len : Int) ≤ 9223372036854775806) (hz : Byt zs)
    (hc : ∀ i, i < len → w.cell? ⟨b, off + i, none⟩ = some (.int .u8 (zs.getD i 0))) :
    Calls Try.prog 37 #[.slice (some ⟨b, off, none⟩) len cap] w fun e w' => e = .returned (.int .u32 (cpI (crI (zs.take len) 4294967295))) ∧ w' = w := by
  go_enter Try.func37, Try.ntmps37
  go_wp2
  go_loop [3, 4] (fun s i => ∃ k : Nat, k ≤ len ∧ i = .int .i64 k ∧ s = .int .u32 (crI (zs.take k) 4294967295)) (fun _ i => len - (intOf i).toNat)
  case atStart => exact ⟨0, Nat.zero_le _, rfl, rfl⟩
  case round =>
    obtain ⟨k, hk, rfl, rfl⟩ := hrel
    obtain ⟨b0, b1⟩ := cr_bd (zs.take k) (byt_take hz k) 4294967295 (by omega) (by omega)
    by_cases hlt : k < len
    · have hck := hc k hlt
      obtain ⟨z0, z1⟩ := byt_at hz k (by omega)
      have HT : Hid (crI (zs.take (k + 1)) 4294967295 = byI (bits .xor .u32 (crI (zs.take k) 4294967295) (zs.getD k 0))) := by
        show _ = _
        rw [take_snoc zs k (by omega), cr_snoc]
      clear hc
      generalize crI (zs.take k) 4294967295 = S at b0 b1 HT ⊢
      generalize zs.getD k 0 = z at hck z0 z1 HT
      obtain ⟨y0, y1⟩ := xor_bd S z b0 b1 z0 (by omega)
      go_wp2
      generalize bits BinOp.xor IntKind.u32 S z = X at y0 y1 HT ⊢
      go_loop [3, 5] (fun s i => ∃ j : Nat, j ≤ 8 ∧ i = .int .i64 j ∧ s = .int .u32 (stN j X)) (fun _ i => 8 - (intOf i).toNat)
      case atStart => exact ⟨0, by omega, rfl, rfl⟩
      case round =>
        obtain ⟨j, hj, rfl, rfl⟩ := hrel
        obtain ⟨d0, d1⟩ := stN_bd X y0 y1 j
        have HS : Hid (stN (j + 1) X = stI (stN j X)) := rfl
        by_cases hlt8 : j < 8
        · have hlt' : (j : Int) < 8 := by omega
          generalize stN j X = x at d0 d1 HS
          have hlo := low_bit x d0 d1
          by_cases c : x % 2 = 1
          · have c' : (x % 2 == 1) = true := by simpa using c
            have HX : Hid (stI x = bits .xor .u32 (x / 2) 2197175160) := by show _ = _; unfold stI; rw [if_pos c]
            clear c
            go_wp2
            go_round
            case rel => exact ⟨j + 1, by omega, by go_num, by rw [HS.out, HX.out]⟩
            case measure => simp [intOf]; omega
          · have c' : (x % 2 == 1) = false := by simpa using c
            have HX : Hid (stI x = x / 2) := by show _ = _; unfold stI; rw [if_neg c]
            clear c
            go_wp2
            go_round
            case rel => exact ⟨j + 1, by omega, by go_num, by rw [HS.out, HX.out]⟩
            case measure => simp [intOf]; omega
        · have : j = 8 := by omega
          subst this
          go_wp2
          go_round
          case rel => exact ⟨k + 1, by omega, by go_num, by rw [HT.out, stN_8]⟩
          case measure => simp [intOf]; omega
    · have : k = len := by omega
      subst this
      go_wp2
      go_ret
      exact ⟨rfl, rfl⟩


theorem rbsum_any (h : Bz w v zs) (h0 : 0 < zs.length) : Calls Try.prog 37 #[v] w fun e w' => e = .returned (.int .u32 (smI zs)) ∧ w' = w := by
  obtain ⟨b, off, c, rfl, -, hR⟩ := h.row h0
  have := rsum_row b off zs.length c zs w (Nat.le_refl _) (by have := h.small; omega) h.byt (fun i hi => hR.cell i hi)
  rwa [List.take_length] at this
theorem src_lit (w : World) (xs : List Int) : Src (w.alloc (.cells (u8l xs).toArray 5)) (.slice (some ⟨w.heap.size, 0, none⟩) xs.length xs.length) xs :=
  .inr ⟨⟨w.heap.size, 0, none⟩, xs.length, rfl, Nat.le_refl _, fun j u hu => by
    rw [Addr.add_mid, Nat.zero_add, cell_of_row _ _ _ _ _ _ (Go.heap_alloc_new _ _)]
    simpa using hu⟩
theorem leN_four (S : Nat) : leN S 4 = [((S % 256 : Nat) : Int), ((S / 256 % 256 : Nat) : Int), ((S / 65536 % 256 : Nat) : Int), ((S / 16777216 % 256 : Nat) : Int)] := by
  simp only [leN, Nat.div_div_eq_div_mul]
set_option maxRecDepth 20000 in
set_option maxHeartbeats 4000000 in
theorem rframe_any {bs : List Int} (seq : Nat) (hs : seq < 18446744073709551616) (hS : Src w v bs) (hz : Byt bs) (hl : bs.length ≤ 4000000) :
    Calls Try.prog 9 #[.int .u64 (seq : Int), v] w fun e w' => (∃ v', e = .returned (.tuple #[v', .int .i64 (frE seq bs.length)]) ∧ (frE seq bs.length = 0 → w'.ownsRow w.heap.size 5 1 v' (frI seq bs).length (u8l (frI seq bs))) ∧ (frE seq bs.length ≠ 0 → v' = .slice none 0 0)) ∧ Below w.heap.size w w' := by
  obtain ⟨a, c, rfl⟩ := hS.slice
  obtain ⟨n, hn⟩ : ∃ n, bs.length = n := ⟨_, rfl⟩
  obtain ⟨y, hy⟩ : ∃ y : Int, (seq : Int) = y := ⟨_, rfl⟩
  by_cases c1 : seq = 0
  · have : frE seq bs.length = 1 := by unfold frE; rw [if_pos c1]
    rw [this]
    subst c1
    go_enter Try.func9, Try.ntmps9
    go_wp2_with fail
    go_ret2
    exact ⟨⟨_, rfl, fun h => by omega, fun _ => rfl⟩, Below.refl _ _⟩
  · have c1' : ¬ y = 0 := by omega
    by_cases c2 : 65536 < n
    · have : frE seq bs.length = 4 := by unfold frE; rw [if_neg c1, if_pos (by omega)]
      rw [this, hy, hn]
      have c2' : (65536 : Int) < (n : Int) := by omega
      have hl' : (n : Int) ≤ 4000000 := by omega
      clear this hy hn hl hS c2 c1
      go_enter Try.func9, Try.ntmps9
      go_wp2_with fail
      go_ret2
      exact ⟨⟨_, rfl, fun h => by omega, fun _ => rfl⟩, Below.refl _ _⟩
    · have he : frE seq bs.length = 0 := by unfold frE; rw [if_neg c1, if_neg (by omega)]
      rw [he, hy, hn]
      have c2' : ¬ (65536 : Int) < (n : Int) := by omega
      have H0 : Hid (Src w (.slice a n c) bs ∧ Byt bs ∧ bs.length = n ∧ n ≤ 65536 ∧ (seq : Int) = y ∧ seq < 18446744073709551616 ∧ 0 ≤ y ∧ y < 18446744073709551616 ∧ y.toNat = seq) := ⟨by rw [← hn]; exact hS, hz, hn, by omega, hy, hs, by omega, by omega, by omega⟩
      have HP1 : Hid (Calls Try.prog 36 #[.slice none 0 0, .int .u64 y] w fun e w1 => (∃ v1, e = .returned v1 ∧ Hid (w1.ownsRow w.heap.size 5 1 v1 (vN seq).length (u8l (vN seq)) ∧ Below w.heap.size w w1))) := by
        refine (put_any (.slice none 0 0) [] y w H0.out.2.2.2.2.2.2.1 H0.out.2.2.2.2.2.2.2.1 (.inl ⟨rfl, rfl⟩) (by simp)).mono ?_
        rintro e w1 ⟨⟨v1, rfl, ho1⟩, hb1⟩
        exact ⟨v1, rfl, by have h := ho1; rw [List.nil_append, H0.out.2.2.2.2.2.2.2.2] at h; exact h, hb1⟩
      have HP2 : Hid (∀ w1 v1, Hid (w1.ownsRow w.heap.size 5 1 v1 (vN seq).length (u8l (vN seq)) ∧ Below w.heap.size w w1) → Calls Try.prog 36 #[v1, .int .u64 (n : Int)] w1 fun e w2 => (∃ v2, e = .returned v2 ∧ Hid (w2.ownsRow w.heap.size 5 1 v2 (vN seq ++ vN n).length (u8l (vN seq ++ vN n)) ∧ Below w.heap.size w w2))) := fun w1 v1 H1 => by
        refine (put_any v1 (vN seq) (n : Int) w1 (by omega) (by have := H0.out; omega) (own_src H1.out.1) (by have := vN_le10 seq H0.out.2.2.2.2.2.1; omega)).mono ?_
        rintro e w2 ⟨⟨v2, rfl, ho2⟩, hb2⟩
        exact ⟨v2, rfl, by have h := ho2; rw [Int.toNat_natCast] at h; exact own_low h H1.out.2.size, H1.out.2.trans (hb2.mono H1.out.2.size)⟩
      obtain ⟨N, hN⟩ : ∃ N, (hdI seq bs).length = N := ⟨_, rfl⟩
      have hdl := hdI_len (b := bs) hs (by omega)
      rw [hN] at hdl
      obtain ⟨s0, s1⟩ := smI_bd (hdI_byt (seq := seq) hz)
      obtain ⟨S, hS2⟩ : ∃ S, (smI (hdI seq bs)).toNat = S := ⟨_, rfl⟩
      have HSM : Hid (∀ w3 a3 k3, Hid (w3.ownsRow w.heap.size 5 1 (.slice a3 N k3) N (u8l (hdI seq bs)) ∧ Below w.heap.size w w3) → Calls Try.prog 37 #[.slice a3 N k3] w3 fun e w' => e = .returned (.int .u32 (S : Int)) ∧ w' = w3) := fun w3 a3 k3 H3 => by
        have := rbsum_any (own_bz (v := .slice a3 N k3) (zs := hdI seq bs) (by rw [hN]; exact H3.out.1) (hdI_byt hz) (by omega)) (by omega)
        rwa [show smI (hdI seq bs) = (S : Int) by omega] at this
      have HN : Hid ((hdI seq bs).length = N ∧ N ≤ 65556 ∧ (smI (hdI seq bs)).toNat = S ∧ hdI seq bs = vN seq ++ vN n ++ bs ∧ (vN seq ++ vN n).length ≤ 20 ∧ (vN seq ++ vN n).length + n = N) := by
        have h1 := vN_le10 seq hs
        have h2 := vN_le10 n (by omega)
        refine ⟨hN, by omega, hS2, by unfold hdI; rw [hn], by simp only [List.length_append]; omega, ?_⟩
        rw [← hN]
        unfold hdI
        simp only [List.length_append, hn]
      have hl' : (n : Int) ≤ 65536 := by omega
      obtain ⟨s, hs'⟩ : ∃ s : Int, (S : Int) = s := ⟨_, rfl⟩
      have HS' : Hid ((S : Int) = s) := hs'
      have q0 : s < 4294967296 := by omega
      have q1 : 0 ≤ s := by omega
      rw [hs'] at HSM
      clear hs'
      clear hS hz hn hy he hl hs c1 c2 hN hdl s0 s1 hS2
      go_enter Try.func9, Try.ntmps9
      go_wp2_with (first
        | (go_at_call 36; refine HP1.out.mono ?_; rintro e w1 ⟨v1, rfl, H1⟩; clear HP1)
        | (go_at_call 36; refine (HP2.out w1 v1 H1).mono ?_; rintro e w2 ⟨v2, rfl, H2⟩; clear HP2)
        | (at_builtin; (refine wpList_append_src rfl (.tmp 21) (.tmp 22) rfl w.heap.size v2 _ (u8l (vN seq ++ vN n)) rfl H2.out.1 (.slice a n c) bs rfl (H0.out.1.later H2.out.2) (by have := HN.out; have := H0.out; omega) H2.out.2.size ?_; intro v3 w3 ho3 hg3; (have ho4 : w3.ownsRow w.heap.size 5 1 v3 N (u8l (hdI seq bs)) := by have h := ho3; rw [H0.out.2.2.1, HN.out.2.2.2.2.2, u8l_app, ← HN.out.2.2.2.1] at h; exact h); (obtain ⟨a3, k3, hv3⟩ := own_slice ho4); subst hv3; (have H3 : Hid (w3.ownsRow w.heap.size 5 1 (.slice a3 N k3) N (u8l (hdI seq bs)) ∧ Below w.heap.size w w3) := ⟨ho4, H2.out.2.grown hg3 H2.out.2.size (fun q hq => (H2.out.1.lt q hq).1)⟩); clear ho3 hg3 ho4))
        | (go_at_call 37; refine (HSM.out w3 a3 k3 H3).mono ?_; rintro e w4 ⟨rfl, hw4⟩; rw [hw4]; clear hw4 HSM)
        | (at_builtin; (refine wpList_append_src rfl (.tmp 26) (.tmp 38) rfl w.heap.size (.slice a3 N k3) N (u8l (hdI seq bs)) rfl (H3.out.1.alloc _) (.slice (some ⟨w3.heap.size, 0, none⟩) 4 4) [s % 256, s / 256 % 256, s / 65536 % 256, s / 16777216] rfl (show Src _ _ _ from src_lit w3 [s % 256, s / 256 % 256, s / 65536 % 256, s / 16777216]) (by have := HN.out; simp; omega) (Nat.le_trans H3.out.2.size (by simp)) ?_; intro v5 w5 ho5 hg5; (have H5 : Hid (w5.ownsRow w.heap.size 5 1 v5 (N + 4) (u8l (hdI seq bs) ++ u8l [s % 256, s / 256 % 256, s / 65536 % 256, s / 16777216]) ∧ Below w.heap.size w w5) := ⟨ho5, (H3.out.2.trans ((bel1 w3 _).mono H3.out.2.size)).grown hg5 (Nat.le_trans H3.out.2.size (by simp)) (fun q hq => (H3.out.1.lt q hq).1)⟩); clear ho5 hg5)))
      go_ret2
      refine ⟨⟨_, rfl, fun _ => ?_, fun h => absurd rfl h⟩, H5.out.2⟩
      have he := HS'.out
      have hf : frI seq bs = hdI seq bs ++ [s % 256, s / 256 % 256, s / 65536 % 256, s / 16777216] := by
        unfold frI
        rw [HN.out.2.2.1, leN_four]
        congr 1
        simp only [List.cons.injEq, and_true]
        omega
      rw [hf, List.length_append, HN.out.1, ← u8l_app]
      exact H5.out.1
end Go.Proofs.Ytflhgphjkhplmaa.W
