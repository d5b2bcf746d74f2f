/- A cache beside the model's, between calls; their calls. -/
import Derived.Test.YtbcdaddbcjagjaaVa
namespace Go.Proofs.Ytbcdaddbcjagjaa
open Go.RowKit
set_option linter.unusedVariables false
set_option linter.unusedSimpArgs false

structure PP (w0 wr : World) (C R : Nat) (most : Int) (E : List UInt8 → List It) (N : List UInt8 → Int × Int) (l : List An) (cs : List Cn) (ks : List (Nat × Obj)) : Prop where
  ex : ∃ F B lv cv, CR wr C F most E N ∧ MS wr R B most lv cv l cs ∧ (∀ q, F q → w0.heap.size ≤ q) ∧ w0.heap.size ≤ B ∧ (∀ q, F q → ¬ GM R lv cv q) ∧ ∀ p ∈ ks, wr.heap[p.1]? = some p.2 ∧ ¬ F p.1 ∧ ¬ GM R lv cv p.1
  bel : Below w0.heap.size w0 wr
def PS (w0 wr : World) (C R : Nat) (most : Int) (l : List An) (cs : List Cn) (ks : List (Nat × Obj)) : Prop := PP w0 wr C R most (fun x => sel x l) (fun x => lkN x cs) l cs ks
variable {w0 w1 w2 : World} {C R : Nat} {most : Int} {E E' : List UInt8 → List It} {N N' : List UInt8 → Int × Int} {l l' : List An} {cs cs' : List Cn} {ks : List (Nat × Obj)}
theorem PP.newer (h : PP w0 w1 C R most E N l cs ks) (hb : Below w1.heap.size w1 w2) : PP w0 w2 C R most E N l cs ks := by
  obtain ⟨⟨F, B, lv, cv, h1, h2, h3, h4, h5, h6⟩, h7⟩ := h
  exact ⟨⟨F, B, lv, cv, h1.newer hb, h2.newer hb, h3, h4, h5, fun p hp => ⟨(hb.block _ (Array.getElem?_eq_some_iff.1 (h6 p hp).1).1).trans (h6 p hp).1, (h6 p hp).2⟩⟩, h7.trans (hb.mono h7.size)⟩
theorem PP.box (h : PP w0 w1 C R most E N l cs ks) (o : Obj) : PP w0 (w1.alloc o) C R most E N l cs ((w1.heap.size, o) :: ks) := by
  have h' := h.newer (bel1' w1 o)
  obtain ⟨⟨F, B, lv, cv, h1, h2, h3, h4, h5, h6⟩, h7⟩ := h
  refine ⟨⟨F, B, lv, cv, h1.newer (bel1' w1 o), h2.newer (bel1' w1 o), h3, h4, h5, fun p hp => ?_⟩, h'.bel⟩
  rcases List.mem_cons.1 hp with hp | hp
  · rw [hp]
    exact ⟨heap_alloc_new _ _, fun e => by have := h1.lt _ e; dsimp only at this; omega, fun e => by have := h2.lt _ e; dsimp only at this; omega⟩
  · exact ⟨((bel1' w1 o).block _ (Array.getElem?_eq_some_iff.1 (h6 p hp).1).1).trans (h6 p hp).1, (h6 p hp).2⟩
theorem PP.at' (h : PP w0 w1 C R most E N l cs ks) {p : Nat × Obj} (hp : p ∈ ks) : w1.heap[p.1]? = some p.2 := by
  obtain ⟨⟨F, B, lv, cv, h1, h2, h3, h4, h5, h6⟩, h7⟩ := h
  exact (h6 p hp).1
theorem PP.less {ks' : List (Nat × Obj)} (h : PP w0 w1 C R most E N l cs ks) (hk : ∀ p ∈ ks', p ∈ ks) : PP w0 w1 C R most E N l cs ks' := by
  obtain ⟨⟨F, B, lv, cv, h1, h2, h3, h4, h5, h6⟩, h7⟩ := h
  exact ⟨⟨F, B, lv, cv, h1, h2, h3, h4, h5, fun p hp => h6 p (hk p hp)⟩, h7⟩
/-- A call of the cache. -/
theorem PP.prog {fn : Nat} {args : Array Value} {Q : Ending → Prop} (h : PP w0 w1 C R most E N l cs ks) (hc : ∀ F, CR w1 C F most E N → Calls Try.prog fn args w1 fun e w2 => Q e ∧ ∃ F', CR w2 C F' most E' N' ∧ Fr F F' w1 w2) : Calls Try.prog fn args w1 fun e w2 => Q e ∧ Hid (PP w0 w2 C R most E' N' l cs ks) := by
  obtain ⟨⟨F, B, lv, cv, h1, h2, h3, h4, h5, h6⟩, h7⟩ := h
  refine (hc F h1).mono ?_
  rintro e w2 ⟨hq, F', k1, k2⟩
  have hs := h7.size
  refine ⟨hq, ⟨F', B, lv, cv, k1, h2.at' fun q hq => k2.block q (h2.lt q hq) fun e => h5 q e hq, k2.low h3 hs, h4, fun q hq e => ?_, fun p hp => ?_⟩, h7.trans (k2.below h3 hs)⟩
  · rcases k2.grow q hq with g | g
    · exact h5 q g e
    · have := h2.lt q e; omega
  · obtain ⟨j1, j2, j3⟩ := h6 p hp
    have hl := (Array.getElem?_eq_some_iff.1 j1).1
    refine ⟨(k2.block p.1 hl j2).trans j1, fun e => ?_, j3⟩
    rcases k2.grow _ e with g | g
    · exact j2 g
    · omega
/-- A call of the model. -/
theorem PP.model {fn : Nat} {args : Array Value} {Q : Ending → Prop} (h : PP w0 w1 C R most E N l cs ks) (hc : ∀ lv cv B, MS w1 R B most lv cv l cs → Calls Try.prog fn args w1 fun e w2 => Q e ∧ ∃ lv' cv', MS w2 R B most lv' cv' l' cs' ∧ Fr (GM R lv cv) (GM R lv' cv') w1 w2) : Calls Try.prog fn args w1 fun e w2 => Q e ∧ Hid (PP w0 w2 C R most E N l' cs' ks) := by
  obtain ⟨⟨F, B, lv, cv, h1, h2, h3, h4, h5, h6⟩, h7⟩ := h
  refine (hc lv cv B h2).mono ?_
  rintro e w2 ⟨hq, lv', cv', k1, k2⟩
  have hs := h7.size
  have hlow : ∀ q, GM R lv cv q → w0.heap.size ≤ q := fun q hq => by have := h2.low q hq; omega
  refine ⟨hq, ⟨F, B, lv', cv', h1.at' fun q hq => k2.block q (h1.lt q hq) (h5 q hq), k1, h3, h4, fun q hq e => ?_, fun p hp => ?_⟩, h7.trans (k2.below hlow hs)⟩
  · rcases k2.grow q e with g | g
    · exact h5 q hq g
    · have := h1.lt q hq; omega
  · obtain ⟨j1, j2, j3⟩ := h6 p hp
    have hl := (Array.getElem?_eq_some_iff.1 j1).1
    refine ⟨(k2.block p.1 hl j3).trans j1, j2, fun e => ?_⟩
    rcases k2.grow _ e with g | g
    · exact j3 g
    · omega
/-- The model's list is emptied. -/
theorem PP.empty (h : PP w0 w1 C R most E N l cs ks) : PP w0 (w1.setCell ⟨R, 1, none⟩ (.slice none 0 0)) C R most E N [] cs ks := by
  obtain ⟨⟨F, B, lv, cv, h1, h2, h3, h4, h5, h6⟩, h7⟩ := h
  obtain ⟨k1, k2⟩ := h2.turnL (l' := []) (Below.refl _ w1) (World.ownsRow_nil _ _ _ _)
  have hs := h7.size
  have hlow : ∀ q, GM R lv cv q → w0.heap.size ≤ q := fun q hq => by have := h2.low q hq; omega
  refine ⟨⟨F, B, .slice none 0 0, cv, h1.at' fun q hq => k2.block q (h1.lt q hq) (h5 q hq), k1, h3, h4, fun q hq e => ?_, fun p hp => ?_⟩, h7.trans (k2.below hlow hs)⟩
  · rcases k2.grow q e with g | g
    · exact h5 q hq g
    · have := h1.lt q hq; omega
  · obtain ⟨j1, j2, j3⟩ := h6 p hp
    have hl := (Array.getElem?_eq_some_iff.1 j1).1
    refine ⟨(k2.block p.1 hl j3).trans j1, j2, fun e => ?_⟩
    rcases k2.grow _ e with g | g
    · exact j3 g
    · omega
theorem PP.rcell (h : PP w0 w1 C R most E N l cs ks) : ∃ a cap, w1.cell? ⟨R, 1, none⟩ = some (.slice a l.length cap) ∧ w1.frozen? ⟨R, 1, none⟩ = false := by
  obtain ⟨⟨F, B, lv, cv, h1, h2, h3, h4, h5, h6⟩, h7⟩ := h
  obtain ⟨⟨a, cap, rfl, -⟩, -⟩ := h2.forms
  exact ⟨a, cap, h2.cells.2.1, h2.cells.2.2.2 1⟩
/-- Are the counts small? -/
def Cok (n : Int) (cs : List Cn) : Prop := ∀ x, 0 ≤ (lkN x cs).1 ∧ (lkN x cs).1 ≤ n ∧ 0 ≤ (lkN x cs).2 ∧ (lkN x cs).2 ≤ n
theorem Cok.more {n m : Int} (h : Cok n cs) (hm : n ≤ m) : Cok m cs := fun x => ⟨(h x).1, by have := (h x).2.1; omega, (h x).2.2.1, by have := (h x).2.2.2; omega⟩
theorem Cok.get {n : Int} (h : Cok n cs) (s k st : List UInt8) (l : List An) : Cok (n + 1) (cntM s k st l cs) := fun x => by
  have hx := h x
  have hs := h s
  unfold cntM
  split
  · rw [bumpH_lk]
    split <;> (try dsimp only) <;> omega
  · rw [bumpM_lk]
    split <;> (try dsimp only) <;> omega
theorem cntM_len (s k st : List UInt8) (l : List An) (cs : List Cn) : (cntM s k st l cs).length ≤ cs.length + 1 := by
  unfold cntM
  have := addN_len s cs
  have := bump_len s cs
  split <;> omega
theorem getM_len (s k st : List UInt8) (l : List An) : (getM s k st l).length ≤ l.length + 1 := by
  unfold getM
  split
  · split
    · have := cutA_len (fndA s k l 0) l; simp; omega
    · have := cutA_len (fndA s k l 0) l; omega
  · omega
theorem putM_len (most : Int) (s k st te : List UInt8) (l : List An) : (putM most s k st te l).2.length ≤ l.length + 1 := by
  have h1 : (putA s k st te l).length ≤ l.length + 1 := by unfold putA; have := cutA_len (fndA s k l 0) l; simp; omega
  unfold putM
  split
  · dsimp only; omega
  · split
    · dsimp only; omega
    · dsimp only
      split
      · have := cutA_len (lstA s (putA s k st te l) 0 none) (putA s k st te l); omega
      · exact h1
/-- The cache's and the model's calls, one behind the other. -/
theorem PS.put (h : PS w0 w1 C R most l cs ks) (s k st te : List UInt8) : Calls Try.prog 22 #[.pointer (some ⟨C, 0, none⟩), .string (tx s), .string (tx k), .string (tx st), .string (tx te)] w1 fun e w2 => e = .returned (.int .i64 (putM most s k st te l).1) ∧ Hid (PP w0 w2 C R most (fun x => sel x (putM most s k st te l).2) (fun x => lkN x cs) l cs ks) := by
  refine PP.prog (Q := fun e => e = .returned (.int .i64 (putM most s k st te l).1)) h fun F hF => ?_
  by_cases hf : fullB s l = true
  · obtain ⟨e1, e2, e3⟩ := put_full (k := k) (st := st) (te := te) (most := most) hf
    rw [e1]
    refine (hF.full s k st te e2 e3).mono ?_
    rintro e w2 ⟨rfl, rfl⟩
    exact ⟨rfl, F, hF, Fr.refl _ _⟩
  · have hf' : fullB s l = false := by simpa using hf
    obtain ⟨e1, e2⟩ := put_both (k := k) (st := st) (te := te) (most := most) hf'
    rw [e1, e2]
    exact hF.put' s k st te fun he => put_room hf' he
theorem PS.get (h : PS w0 w1 C R most l cs ks) (hN : Cok 1000000 cs) (s k st : List UInt8) : Calls Try.prog 23 #[.pointer (some ⟨C, 0, none⟩), .string (tx s), .string (tx k), .string (tx st)] w1 fun e w2 => e = .returned (.tuple #[.string (tx (txtM s k st l)), .bool (hitM s k st l)]) ∧ Hid (PP w0 w2 C R most (fun x => sel x (getM s k st l)) (fun x => lkN x (cntM s k st l cs)) l cs ks) := by
  refine PP.prog (Q := fun e => e = .returned (.tuple #[.string (tx (txtM s k st l)), .bool (hitM s k st l)])) h fun F hF => ?_
  obtain ⟨e1, e2, e3⟩ := get_both s k st l
  rw [← e1, ← e2, e3, cnt_both]
  exact hF.get s k st (hN s)
theorem PS.forget (h : PS w0 w1 C R most l cs ks) (s : List UInt8) : Calls Try.prog 24 #[.pointer (some ⟨C, 0, none⟩), .string (tx s)] w1 fun e w2 => e = .returned (.int .i64 (cntT s l : Int)) ∧ Hid (PP w0 w2 C R most (fun x => sel x (kpT s l)) (fun x => lkN x cs) l cs ks) := by
  refine PP.prog (Q := fun e => e = .returned (.int .i64 (cntT s l : Int))) h fun F hF => ?_
  rw [forget_both, ← sel_len]
  exact hF.forget s
theorem PP.clear (hl : l.length ≤ 1000) (hp : PP w0 w1 C R most (fun x => sel x l) (fun x => lkN x cs) [] cs ks) : Calls Try.prog 25 #[.pointer (some ⟨C, 0, none⟩)] w1 fun e w2 => e = .returned (.int .i64 (l.length : Int)) ∧ Hid (PS w0 w2 C R most [] cs ks) := by
  refine PP.prog (Q := fun e => e = .returned (.int .i64 (l.length : Int))) hp fun F hF => ?_
  refine (hF.clear ⟨tlT l [], by have := tlT_le l []; simp at this; omega, fun x hx => sel_ten.2 hx⟩).mono ?_
  rintro e w2 ⟨n, rfl, hn, F', k1, k2⟩
  rw [clear_both hn]
  exact ⟨rfl, F', k1, k2⟩
theorem PS.count (h : PS w0 w1 C R most l cs ks) (s : List UInt8) : Calls Try.prog 20 #[.pointer (some ⟨C, 0, none⟩), .string (tx s)] w1 fun e w2 => e = .returned (cV (lkN s cs)) ∧ Hid (PS w0 w2 C R most l cs ks) := by
  refine PP.prog (Q := fun e => e = .returned (cV (lkN s cs))) h fun F hF => ?_
  refine (hF.count s).mono ?_
  rintro e w2 ⟨rfl, hb⟩
  exact ⟨rfl, F, hF.newer hb, Fr.newer hb⟩
theorem PS.len (h : PS w0 w1 C R most l cs ks) (s : List UInt8) : Calls Try.prog 18 #[.pointer (some ⟨C, 0, none⟩), .string (tx s)] w1 fun e w2 => e = .returned (.int .i64 (cntT s l : Int)) ∧ w2 = w1 := by
  obtain ⟨⟨F, B, lv, cv, h1, -⟩, -⟩ := h
  rw [← sel_len]
  exact h1.len s
theorem PP.mlen (h : PP w0 w1 C R most E N l cs ks) (hl : l.length ≤ 90000) (s : List UInt8) : Calls Try.prog 19 #[.pointer (some ⟨R, 0, none⟩), .string (tx s)] w1 fun e w2 => e = .returned (.int .i64 (cntT s l : Int)) ∧ w2 = w1 := by
  obtain ⟨⟨F, B, lv, cv, h1, h2, -⟩, -⟩ := h
  exact h2.len (by omega) s
theorem PP.mput (h : PP w0 w1 C R most E N l cs ks) (hl : l.length ≤ 90000) (s k st te : List UInt8) : Calls Try.prog 32 #[.pointer (some ⟨R, 0, none⟩), .string (tx s), .string (tx k), .string (tx st), .string (tx te)] w1 fun e w2 => e = .returned (.int .i64 (putM most s k st te l).1) ∧ Hid (PP w0 w2 C R most E N (putM most s k st te l).2 cs ks) :=
  PP.model (Q := fun e => e = .returned (.int .i64 (putM most s k st te l).1)) h fun lv cv B hM => (hM.put (by omega) s k st te).mono fun e w2 ⟨h1, lv', h2, h3⟩ => ⟨h1, lv', cv, h2, h3⟩
theorem PP.mget (h : PP w0 w1 C R most E N l cs ks) (hl : l.length ≤ 90000) (hc : cs.length ≤ 90000) (hN : Cok 1000000 cs) (s k st : List UInt8) : Calls Try.prog 33 #[.pointer (some ⟨R, 0, none⟩), .string (tx s), .string (tx k), .string (tx st)] w1 fun e w2 => e = .returned (.tuple #[.string (tx (txtM s k st l)), .bool (hitM s k st l)]) ∧ Hid (PP w0 w2 C R most E N (getM s k st l) (cntM s k st l cs) ks) :=
  PP.model (Q := fun e => e = .returned (.tuple #[.string (tx (txtM s k st l)), .bool (hitM s k st l)])) h fun lv cv B hM => hM.get (by omega) (by omega) s k st (hN s)
theorem PP.mforget (h : PP w0 w1 C R most E N l cs ks) (hl : l.length ≤ 90000) (s : List UInt8) : Calls Try.prog 34 #[.pointer (some ⟨R, 0, none⟩), .string (tx s)] w1 fun e w2 => e = .returned (.int .i64 (cntT s l : Int)) ∧ Hid (PP w0 w2 C R most E N (kpT s l) cs ks) :=
  PP.model (Q := fun e => e = .returned (.int .i64 (cntT s l : Int))) h fun lv cv B hM => (hM.forget (by omega) s).mono fun e w2 ⟨h1, lv', h2, h3⟩ => ⟨h1, lv', cv, h2, h3⟩
theorem PS.mcount (h : PS w0 w1 C R most l cs ks) (hc : cs.length ≤ 90000) (s : List UInt8) : Calls Try.prog 21 #[.pointer (some ⟨R, 0, none⟩), .string (tx s)] w1 fun e w2 => e = .returned (cM (lkN s cs) s) ∧ Hid (PS w0 w2 C R most l (addN s cs) ks) := by
  refine (PP.model (l' := l) (cs' := addN s cs) (Q := fun e => e = .returned (cM (lkN s cs) s)) h fun lv cv B hM => (hM.counts (by omega) s).mono fun e w2 ⟨h1, cv', h2, h3⟩ => ⟨h1, lv, cv', h2, h3⟩).mono ?_
  rintro e w2 ⟨rfl, k⟩
  refine ⟨rfl, ?_⟩
  have e : (fun x => lkN x (addN s cs)) = fun x => lkN x cs := funext fun x => addN_same s cs x
  show PP w0 w2 C R most (fun x => sel x l) (fun x => lkN x (addN s cs)) l (addN s cs) ks
  rw [e]
  exact k.out
end Go.Proofs.Ytbcdaddbcjagjaa
