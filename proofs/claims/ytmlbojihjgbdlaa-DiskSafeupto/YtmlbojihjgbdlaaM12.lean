import Derived.Test.YtmlbojihjgbdlaaM11
import Derived.Deep.RegionHeld3
/- Each call of each side, in the words of the pure steps. -/
namespace Go.Proofs.Ytmlbojihjgbdlaa.D
open Go.RowKit
set_option linter.unusedVariables false
set_option linter.unusedSimpArgs false

variable {w w' : World} {D R k : Nat} {sy : Int} {F G P : Nat → Prop} {dl : List Fd} {s s' : List UInt8} {x : Fd} {bs : List Int} {sv kv : Value} {ks : List Kn}
theorem tf : ¬ (true = false) := by decide
theorem resA_new (h : lkF s dl = none) (bs : List Int) : resA s ⟨s, [], []⟩ bs (insF ⟨s, [], []⟩ dl) = insF ⟨s, bs, if bs = [] then [] else [0]⟩ dl := by
  unfold resA
  rw [(setF_ins s h).1]
  rfl
theorem ren_perm (hnd : (dl.map Fd.nm).Nodup) (h : lkF s dl = some x) : (outF s' (outF s dl) ++ [(⟨s', x.b, x.ws⟩ : Fd)]).Perm (renF s s' x dl) := by
  unfold renF
  split
  · rename_i e
    subst e
    obtain ⟨hn, -⟩ := lkF_some h
    have h2 := outF_perm h
    have h3 := (h2.map Fd.nm).nodup_iff.1 hnd
    rw [List.map_append] at h3
    have hno : lkF s (outF s dl) = none := lkF_none.2 fun hm => (List.nodup_append.1 h3).2.2 s hm s (by simp [hn]) rfl
    rw [outF_none hno, show (⟨s, x.b, x.ws⟩ : Fd) = x by rw [← hn]]
    exact h2.symm
  · exact (List.perm_append_comm (l₂ := [_])).trans (insF_perm _ _)
theorem p_append (h : DR w D F sy dl) (i : Inv k sy dl) (hk : k ≤ 1000000) (hl : (s.length : Int) ≤ 140737488351232) (hsv : SrcG w F sv bs) (hb : bs.length ≤ 1048576) :
    Calls Try.prog 23 #[.pointer (some ⟨D, 0, none⟩), .string (tx s), sv] w fun e w' => e = .returned (.int .i64 (apE s bs dl)) ∧ ∃ F', DR w' D F' sy (apD s bs dl) ∧ Fr F F' w w' := by
  unfold apE apD
  cases hn : nameB s with
  | false =>
    refine (append_key h hl hn sv).mono ?_
    rintro e w' ⟨rfl, rfl⟩
    exact ⟨rfl, F, h, Fr.refl _ _⟩
  | true =>
    rw [if_neg tf, if_neg tf]
    cases hs : lkF s dl with
    | some x =>
      obtain ⟨a1, a2, a3, a4⟩ := i.each x (lk_mem hs)
      dsimp only
      by_cases hf : (bs.length : Int) ≤ 1048576 - x.b.length
      · rw [if_pos hf, if_pos hf]
        exact append_thereG h hs hl hn hsv a2 (by omega) hf
      · rw [if_neg hf, if_neg hf]
        refine (append_size h hs hl hn (hsv w fun _ _ _ => rfl).slice a2 hf (by omega)).mono ?_
        rintro e w' ⟨rfl, rfl⟩
        exact ⟨rfl, F, h, Fr.refl _ _⟩
    | none =>
      dsimp only
      refine (append_newG h hs hl hn hsv i.len (by omega)).mono ?_
      rintro e w' ⟨he, F', h1, h2⟩
      rw [if_neg (by omega)] at he h1
      refine ⟨he, F', ?_, h2⟩
      split
      · rename_i h64
        rw [if_pos h64] at h1
        exact h1
      · rename_i h64
        rw [if_neg h64] at h1
        rw [resA_new hs]
        exact h1.perm ((List.perm_append_comm (l₂ := [_])).trans (insF_perm _ _))
theorem m_append (h : MR w R G sy dl) (i : Inv k sy dl) (hk : k ≤ 1000000) (hl : (s.length : Int) ≤ 140737488351232) (hsv : SrcG w G sv bs) (hb : bs.length ≤ 1048576) :
    Calls Try.prog 32 #[.pointer (some ⟨R, 0, none⟩), .string (tx s), sv] w fun e w' => e = .returned (.int .i64 (apE s bs dl)) ∧ ∃ G', MR w' R G' sy (apD s bs dl) ∧ Fr G G' w w' := by
  unfold apE apD
  cases hn : nameB s with
  | false =>
    refine (rappend_key h hl hn sv).mono ?_
    rintro e w' ⟨rfl, rfl⟩
    exact ⟨rfl, G, h, Fr.refl _ _⟩
  | true =>
    rw [if_neg tf, if_neg tf]
    cases hs : lkF s dl with
    | some x =>
      obtain ⟨a1, a2, a3, a4⟩ := i.each x (lk_mem hs)
      dsimp only
      by_cases hf : (bs.length : Int) ≤ 1048576 - x.b.length
      · rw [if_pos hf, if_pos hf]
        exact (rappend_ok h i.len hl hn hsv (.inl ⟨hs, rfl⟩) a2 (by omega) hf).mono fun e w' h => ⟨h.1, h.2.out⟩
      · rw [if_neg hf, if_neg hf]
        refine (rappend_size h (by have := i.len; omega) hs hl hn hsv.now.slice a2 hf (by omega)).mono ?_
        rintro e w' ⟨rfl, rfl⟩
        exact ⟨rfl, G, h, Fr.refl _ _⟩
    | none =>
      dsimp only
      have hlen := i.len
      by_cases h64 : dl.length = 64
      · rw [if_pos h64, if_pos h64]
        refine (rappend_none h hlen hs hl hn hsv.now.slice (by omega) (.inr h64)).mono ?_
        rintro e w' ⟨rfl, rfl⟩
        exact ⟨by rw [if_neg (by omega)], G, h, Fr.refl _ _⟩
      · rw [if_neg h64, if_neg h64]
        exact (rappend_ok h hlen hl hn hsv (.inr ⟨hs, by omega, rfl, rfl⟩) (by simp) (by simp) (by simp; omega)).mono fun e w' h => ⟨h.1, h.2.out⟩
theorem p_sync (h : DR w D F sy dl) (i : Inv k sy dl) (hk : k ≤ 1000000) : Calls Try.prog 24 #[.pointer (some ⟨D, 0, none⟩), .string (tx s)] w fun e w' => e = .returned (.int .i64 (syE s dl)) ∧ ∃ F', DR w' D F' (syN s dl sy) (syD s dl) ∧ Fr F F' w w' := by
  unfold syE syN syD
  cases hs : lkF s dl with
  | none =>
    refine (sync_no h hs).mono ?_
    rintro e w' ⟨rfl, rfl⟩
    exact ⟨rfl, F, h, Fr.refl _ _⟩
  | some x => exact sync_yes h hs i.lo (by have := i.hi; omega)
theorem m_sync (h : MR w R G sy dl) (i : Inv k sy dl) (hk : k ≤ 1000000) : Calls Try.prog 35 #[.pointer (some ⟨R, 0, none⟩), .string (tx s)] w fun e w' => e = .returned (.int .i64 (syE s dl)) ∧ ∃ G', MR w' R G' (syN s dl sy) (syD s dl) ∧ Fr G G' w w' := by
  have hlen := i.len
  unfold syE syN syD
  cases hs : lkF s dl with
  | none =>
    refine (rsync_no h (by omega) hs).mono ?_
    rintro e w' ⟨rfl, rfl⟩
    exact ⟨rfl, G, h, Fr.refl _ _⟩
  | some x =>
    obtain ⟨a1, a2, a3, a4⟩ := i.each x (lk_mem hs)
    exact (rsync_yes h (by omega) hs (by omega) i.lo (by have := i.hi; omega)).mono fun e w' h => ⟨h.1, h.2.out⟩
theorem p_cut (h : DR w D F sy dl) (i : Inv k sy dl) (n : Int) : Calls Try.prog 25 #[.pointer (some ⟨D, 0, none⟩), .string (tx s), .int .i64 n] w fun e w' => e = .returned (.int .i64 (cuE s n dl)) ∧ ∃ F', DR w' D F' sy (cuD s n dl) ∧ Fr F F' w w' := by
  unfold cuE cuD
  cases hs : lkF s dl with
  | none =>
    refine (cut_no h hs n).mono ?_
    rintro e w' ⟨rfl, rfl⟩
    exact ⟨rfl, F, h, Fr.refl _ _⟩
  | some x =>
    obtain ⟨a1, a2, a3, a4⟩ := i.each x (lk_mem hs)
    dsimp only
    by_cases c : n < 0 ∨ (x.b.length : Int) < n
    · rw [if_pos c, if_pos c]
      refine (cut_bad h hs (by omega) n c).mono ?_
      rintro e w' ⟨rfl, rfl⟩
      exact ⟨rfl, F, h, Fr.refl _ _⟩
    · rw [if_neg c, if_neg c]
      have := cut_yes h hs (by omega) n.toNat (by omega)
      rw [show ((n.toNat : Nat) : Int) = n by omega] at this
      exact this
theorem m_cut (h : MR w R G sy dl) (i : Inv k sy dl) (n : Int) : Calls Try.prog 36 #[.pointer (some ⟨R, 0, none⟩), .string (tx s), .int .i64 n] w fun e w' => e = .returned (.int .i64 (cuE s n dl)) ∧ ∃ G', MR w' R G' sy (cuD s n dl) ∧ Fr G G' w w' := by
  have hlen := i.len
  unfold cuE cuD
  cases hs : lkF s dl with
  | none =>
    refine (rcut_no h (by omega) hs n).mono ?_
    rintro e w' ⟨rfl, rfl⟩
    exact ⟨rfl, G, h, Fr.refl _ _⟩
  | some x =>
    obtain ⟨a1, a2, a3, a4⟩ := i.each x (lk_mem hs)
    dsimp only
    by_cases c : n < 0 ∨ (x.b.length : Int) < n
    · rw [if_pos c, if_pos c]
      refine (rcut_bad h (by omega) hs (by omega) n c).mono ?_
      rintro e w' ⟨rfl, hb⟩
      exact ⟨rfl, G, h.newer hb, Fr.newer hb⟩
    · rw [if_neg c, if_neg c]
      have := rcut_yes h (by omega) hs (by omega) n.toNat (by omega)
      rw [show ((n.toNat : Nat) : Int) = n by omega] at this
      exact this.mono fun e w' h => ⟨h.1, h.2.out⟩
theorem p_move (h : DR w D F sy dl) (hl : (s'.length : Int) ≤ 140737488351232) : Calls Try.prog 30 #[.pointer (some ⟨D, 0, none⟩), .string (tx s), .string (tx s')] w fun e w' => e = .returned (.int .i64 (mvE s s' dl)) ∧ ∃ F', DR w' D F' sy (mvD s s' dl) ∧ Fr F F' w w' := by
  unfold mvE mvD
  cases hs : lkF s dl with
  | none =>
    refine (rename_no h hs _).mono ?_
    rintro e w' ⟨rfl, rfl⟩
    exact ⟨rfl, F, h, Fr.refl _ _⟩
  | some x =>
    dsimp only
    cases hn : nameB s' with
    | false =>
      refine (rename_bad h hs hl hn).mono ?_
      rintro e w' ⟨rfl, rfl⟩
      exact ⟨rfl, F, h, Fr.refl _ _⟩
    | true =>
      rw [if_neg tf, if_neg tf]
      refine (rename_yes h hs hl hn).mono ?_
      rintro e w' ⟨he, F', h1, h2⟩
      exact ⟨he, F', h1.perm (ren_perm h.nd hs), h2⟩
theorem m_move (h : MR w R G sy dl) (i : Inv k sy dl) (hl : (s'.length : Int) ≤ 140737488351232) : Calls Try.prog 37 #[.pointer (some ⟨R, 0, none⟩), .string (tx s), .string (tx s')] w fun e w' => e = .returned (.int .i64 (mvE s s' dl)) ∧ ∃ G', MR w' R G' sy (mvD s s' dl) ∧ Fr G G' w w' := by
  have hlen := i.len
  unfold mvE mvD
  cases hs : lkF s dl with
  | none =>
    refine (rrename_no h (by omega) hs _).mono ?_
    rintro e w' ⟨rfl, rfl⟩
    exact ⟨rfl, G, h, Fr.refl _ _⟩
  | some x =>
    dsimp only
    cases hn : nameB s' with
    | false =>
      refine (rrename_bad h (by omega) hs hl hn).mono ?_
      rintro e w' ⟨rfl, rfl⟩
      exact ⟨rfl, G, h, Fr.refl _ _⟩
    | true =>
      rw [if_neg tf, if_neg tf]
      exact (rrename_yes h (by omega) hs hl hn).mono fun e w' h => ⟨h.1, h.2.out⟩
theorem p_remove (h : DR w D F sy dl) : Calls Try.prog 26 #[.pointer (some ⟨D, 0, none⟩), .string (tx s)] w fun e w' => e = .returned (.int .i64 (rmE s dl)) ∧ ∃ F', DR w' D F' sy (rmD s dl) ∧ Fr F F' w w' := by
  unfold rmE rmD
  cases hs : lkF s dl with
  | none =>
    refine (remove_no h hs).mono ?_
    rintro e w' ⟨rfl, rfl⟩
    exact ⟨rfl, F, by rw [outF_none hs]; exact h, Fr.refl _ _⟩
  | some x => exact remove_yes h hs
theorem m_remove (h : MR w R G sy dl) (i : Inv k sy dl) : Calls Try.prog 38 #[.pointer (some ⟨R, 0, none⟩), .string (tx s)] w fun e w' => e = .returned (.int .i64 (rmE s dl)) ∧ ∃ G', MR w' R G' sy (rmD s dl) ∧ Fr G G' w w' := by
  have hlen := i.len
  unfold rmE rmD
  cases hs : lkF s dl with
  | none =>
    refine (rremove_no h (by omega) hs).mono ?_
    rintro e w' ⟨rfl, rfl⟩
    exact ⟨rfl, G, by rw [outF_none hs]; exact h, Fr.refl _ _⟩
  | some x => exact (rremove_yes h (by omega) hs).mono fun e w' h => ⟨h.1, h.2.out⟩
theorem Inv.cr (i : Inv k sy dl) (hk : k ≤ 1000000) : ∀ x ∈ dl, x.b.length ≤ 2000000 ∧ x.ws.length ≤ 2000000 ∧ WsOk x.b.length x.ws := fun x hx => by
  obtain ⟨a1, a2, a3, a4⟩ := i.each x hx
  exact ⟨by omega, by omega, a4⟩
theorem p_crash (h : DR w D F sy dl) (i : Inv k sy dl) (hk : k ≤ 1000000) (hkv : KeepsAt P w kv ks) (hP : ∀ q, P q → q < w.heap.size ∧ ¬ F q) (hkl : ks.length ≤ 1048576) : Calls Try.prog 16 #[.pointer (some ⟨D, 0, none⟩), kv] w fun e w' => e = .returned (.int .i64 (wrE dl [] ks)) ∧ ∃ F', DR w' D F' sy (crA dl ks) ∧ Fr F F' w w' :=
  (crash_all h hkv hP (i.cr hk) (by omega)).mono fun e w' h => ⟨h.1, h.2.out⟩
theorem m_crash (h : MR w R G sy dl) (i : Inv k sy dl) (hk : k ≤ 1000000) (hkv : KeepsAt P w kv ks) (hP : ∀ q, P q → q < w.heap.size ∧ ¬ G q) (hkl : ks.length ≤ 1048576) : Calls Try.prog 39 #[.pointer (some ⟨R, 0, none⟩), kv] w fun e w' => e = .returned (.int .i64 (wrE dl [] ks)) ∧ ∃ G', MR w' R G' sy (crA dl ks) ∧ Fr G G' w w' :=
  (rcrash_all h hkv hP (i.cr hk) (by have := i.len; omega) (by omega)).mono fun e w' h => ⟨h.1, h.2.out⟩
end Go.Proofs.Ytmlbojihjgbdlaa.D

/- A disk beside the model's, between calls. -/
namespace Go.Proofs.Ytmlbojihjgbdlaa.D
open Go.RowKit
set_option linter.unusedVariables false
set_option linter.unusedSimpArgs false

variable {w0 w1 w2 : World} {D R k : Nat} {s1 s2 sy : Int} {d1 d2 dl : List Fd} {ks ks' : List (Nat × Obj)}
structure PP (w0 wr : World) (D R : Nat) (s1 : Int) (d1 : List Fd) (s2 : Int) (d2 : List Fd) (ks : List (Nat × Obj)) : Prop where
  ex : ∃ F G, DR wr D F s1 d1 ∧ MR wr R G s2 d2 ∧ (∀ q, F q → w0.heap.size ≤ q) ∧ (∀ q, G q → w0.heap.size ≤ q) ∧ (∀ q, F q → ¬ G q) ∧ ∀ p ∈ ks, wr.heap[p.1]? = some p.2 ∧ ¬ F p.1 ∧ ¬ G p.1
  bel : Below w0.heap.size w0 wr
theorem belN (w : World) (o : Obj) : Below w.heap.size w (w.alloc o) := bel1 w o
theorem PP.newer (h : PP w0 w1 D R s1 d1 s2 d2 ks) (hb : Below w1.heap.size w1 w2) : PP w0 w2 D R s1 d1 s2 d2 ks := by
  obtain ⟨⟨F, G, h1, h2, h3, h4, h5, h6⟩, h7⟩ := h
  exact ⟨⟨F, G, h1.newer hb, h2.newer hb, h3, h4, h5, fun p hp => ⟨(hb.block _ (Array.getElem?_eq_some_iff.1 (h6 p hp).1).1).trans (h6 p hp).1, (h6 p hp).2⟩⟩, h7.trans (hb.mono h7.size)⟩
/-- What is new is kept. -/
theorem PP.keep (h : PP w0 w1 D R s1 d1 s2 d2 ks) (hb : Below w1.heap.size w1 w2) {q : Nat} {o : Obj} (hq : w1.heap.size ≤ q) (ho : w2.heap[q]? = some o) : PP w0 w2 D R s1 d1 s2 d2 ((q, o) :: ks) := by
  have h' := h.newer hb
  obtain ⟨⟨F, G, h1, h2, h3, h4, h5, h6⟩, h7⟩ := h
  refine ⟨⟨F, G, h1.newer hb, h2.newer hb, h3, h4, h5, fun p hp => ?_⟩, h'.bel⟩
  rcases List.mem_cons.1 hp with hp | hp
  · rw [hp]
    exact ⟨ho, fun e => by have := h1.lt _ e; dsimp only at this; omega, fun e => by have := h2.lt _ e; dsimp only at this; omega⟩
  · exact ⟨(hb.block _ (Array.getElem?_eq_some_iff.1 (h6 p hp).1).1).trans (h6 p hp).1, (h6 p hp).2⟩
theorem PP.box (h : PP w0 w1 D R s1 d1 s2 d2 ks) (o : Obj) : PP w0 (w1.alloc o) D R s1 d1 s2 d2 ((w1.heap.size, o) :: ks) := h.keep (belN w1 o) (Nat.le_refl _) (heap_alloc_new _ _)
theorem PP.at' (h : PP w0 w1 D R s1 d1 s2 d2 ks) {p : Nat × Obj} (hp : p ∈ ks) : w1.heap[p.1]? = some p.2 := by
  obtain ⟨⟨F, G, h1, h2, h3, h4, h5, h6⟩, h7⟩ := h
  exact (h6 p hp).1
theorem PP.less (h : PP w0 w1 D R s1 d1 s2 d2 ks) (hk : ∀ p ∈ ks', p ∈ ks) : PP w0 w1 D R s1 d1 s2 d2 ks' := by
  obtain ⟨⟨F, G, h1, h2, h3, h4, h5, h6⟩, h7⟩ := h
  exact ⟨⟨F, G, h1, h2, h3, h4, h5, fun p hp => h6 p (hk p hp)⟩, h7⟩
/-- A call of the disk. -/
theorem PP.prog {fn : Nat} {args : Array Value} {Q : Ending → Prop} {s1' : Int} {d1' : List Fd} (h : PP w0 w1 D R s1 d1 s2 d2 ks) (hc : ∀ F, DR w1 D F s1 d1 → (∀ q, F q → w0.heap.size ≤ q) → (∀ p ∈ ks, ¬ F p.1) → Calls Try.prog fn args w1 fun e w2 => Q e ∧ ∃ F', DR w2 D F' s1' d1' ∧ Fr F F' w1 w2) : Calls Try.prog fn args w1 fun e w2 => Q e ∧ Hid (PP w0 w2 D R s1' d1' s2 d2 ks) := by
  obtain ⟨⟨F, G, h1, h2, h3, h4, h5, h6⟩, h7⟩ := h
  refine (hc F h1 h3 fun p hp => (h6 p hp).2.1).mono ?_
  rintro e w2 ⟨hq, F', k1, k2⟩
  have hs := h7.size
  refine ⟨hq, ⟨F', G, k1, h2.at' fun q hq => k2.block q (h2.lt q hq) fun e => h5 q e hq, k2.low h3 hs, h4, fun q hq e => ?_, fun p hp => ?_⟩, h7.trans (k2.below h3 hs)⟩
  · rcases k2.grow q hq with g | g
    · exact h5 q g e
    · have := h2.lt q e; omega
  · obtain ⟨j1, j2, j3⟩ := h6 p hp
    have hl := (Array.getElem?_eq_some_iff.1 j1).1
    refine ⟨(k2.block p.1 hl j2).trans j1, fun e => ?_, j3⟩
    rcases k2.grow _ e with g | g
    · exact j2 g
    · omega
/-- A call of the model. -/
theorem PP.model {fn : Nat} {args : Array Value} {Q : Ending → Prop} {s2' : Int} {d2' : List Fd} (h : PP w0 w1 D R s1 d1 s2 d2 ks) (hc : ∀ G, MR w1 R G s2 d2 → (∀ q, G q → w0.heap.size ≤ q) → Calls Try.prog fn args w1 fun e w2 => Q e ∧ ∃ G', MR w2 R G' s2' d2' ∧ Fr G G' w1 w2) : Calls Try.prog fn args w1 fun e w2 => Q e ∧ Hid (PP w0 w2 D R s1 d1 s2' d2' ks) := by
  obtain ⟨⟨F, G, h1, h2, h3, h4, h5, h6⟩, h7⟩ := h
  refine (hc G h2 h4).mono ?_
  rintro e w2 ⟨hq, G', k1, k2⟩
  have hs := h7.size
  refine ⟨hq, ⟨F, G', h1.at' fun q hq => k2.block q (h1.lt q hq) (h5 q hq), k1, h3, k2.low h4 hs, fun q hq e => ?_, fun p hp => ?_⟩, h7.trans (k2.below h4 hs)⟩
  · rcases k2.grow q e with g | g
    · exact h5 q hq g
    · have := h1.lt q hq; omega
  · obtain ⟨j1, j2, j3⟩ := h6 p hp
    have hl := (Array.getElem?_eq_some_iff.1 j1).1
    refine ⟨(k2.block p.1 hl j3).trans j1, j2, fun e => ?_⟩
    rcases k2.grow _ e with g | g
    · exact j3 g
    · omega
/-- What came in lies outside. -/
theorem PP.srcD {sv : Value} {bs : List Int} (h : PP w0 w1 D R s1 d1 s2 d2 ks) (hb : BysP (fun b => b < w0.heap.size) w0 sv bs) {F : Nat → Prop} (hF : ∀ q, F q → w0.heap.size ≤ q) : SrcG w1 F sv bs :=
  BysP.srcG (P := fun b => b < w0.heap.size) (hb.at' fun q hq => h.bel.block q hq) fun q hq => ⟨Nat.lt_of_lt_of_le hq h.bel.size, fun e => by have := hF q e; omega⟩
theorem PP.keepsD {kv : Value} {kn : List Kn} (h : PP w0 w1 D R s1 d1 s2 d2 ks) (hb : KeepsAt (fun b => b < w0.heap.size) w0 kv kn) : KeepsAt (fun b => b < w0.heap.size) w1 kv kn := hb.at' fun q hq => h.bel.block q hq
theorem PP.outD (h : PP w0 w1 D R s1 d1 s2 d2 ks) {F : Nat → Prop} (hF : ∀ q, F q → w0.heap.size ≤ q) : ∀ q, q < w0.heap.size → q < w1.heap.size ∧ ¬ F q := fun q hq => ⟨Nat.lt_of_lt_of_le hq h.bel.size, fun e => by have := hF q e; omega⟩
/-- The same files on both sides. -/
def PS (w0 wr : World) (D R : Nat) (sy : Int) (dl : List Fd) (ks : List (Nat × Obj)) : Prop := PP w0 wr D R sy dl sy dl ks
/-- Behind a call of both. -/
def PN (w0 w2 : World) (D R : Nat) (k : Nat) (ks : List (Nat × Obj)) : Prop := ∃ sy dl, PS w0 w2 D R sy dl ks ∧ Inv (k + 1) sy dl
/-- A call, as a value. -/
def Cl.val (c : Cl) : Value := .agg #[.int .i64 c.kind, .string (tx c.nm), .string (tx c.nm2), .int .i64 c.n, c.bv, c.kv]
def Cl.obj (c : Cl) : Obj := .cells #[.int .i64 c.kind, .string (tx c.nm), .string (tx c.nm2), .int .i64 c.n, c.bv, c.kv] 34
structure Cl.In (w0 : World) (c : Cl) : Prop where
  fit : c.Fit
  by' : BysP (fun b => b < w0.heap.size) w0 c.bv c.b
  kp : KeepsAt (fun b => b < w0.heap.size) w0 c.kv c.ks
theorem Cl.cells {V : World} {p : Nat} {c : Cl} (h : V.heap[p]? = some c.obj) : V.cell? ⟨p, 0, none⟩ = some (.int .i64 c.kind) ∧ V.cell? ⟨p, 1, none⟩ = some (.string (tx c.nm)) ∧ V.cell? ⟨p, 2, none⟩ = some (.string (tx c.nm2)) ∧ V.cell? ⟨p, 3, none⟩ = some (.int .i64 c.n) ∧ V.cell? ⟨p, 4, none⟩ = some c.bv ∧ V.cell? ⟨p, 5, none⟩ = some c.kv := by
  unfold Cl.obj at h
  refine ⟨?_, ?_, ?_, ?_, ?_, ?_⟩ <;> (rw [cell_of_row _ _ _ _ _ _ h]; rfl)
end Go.Proofs.Ytmlbojihjgbdlaa.D

/- One call of both: Sync. -/
namespace Go.Proofs.Ytmlbojihjgbdlaa.D
open Go.RowKit
set_option linter.unusedVariables false
set_option linter.unusedSimpArgs false

variable {w0 w1 w2 : World} {D R k : Nat} {sy : Int} {dl : List Fd} {ks : List (Nat × Obj)} {c : Cl}
set_option maxRecDepth 20000 in
set_option maxHeartbeats 4000000 in
theorem PS.c_sync (h : PS w0 w1 D R sy dl ks) (i : Inv k sy dl) (hk : k ≤ 1000) (hc : c.In w0) (hkind : c.kind = 1) : Calls Try.prog 11 #[.pointer (some ⟨D, 0, none⟩), .pointer (some ⟨R, 0, none⟩), c.val] w1 fun e w2 => e = .returned (.bool true) ∧ Hid (PN w0 w2 D R k ks) := by
  obtain ⟨kind, s, s', n, bb, kn, bv, kv⟩ := c
  have HCI : Hid (Cl.In w0 ⟨kind, s, s', n, bb, kn, bv, kv⟩) := hc
  dsimp only at hkind
  subst hkind
  obtain ⟨ba, bc, hbv, -⟩ := hc.by'
  obtain ⟨ka, kc, hkv, -⟩ := hc.kp
  dsimp only at hbv hkv
  generalize bb.length = bn at hbv
  generalize kn.length = kkn at hkv
  obtain ⟨W, hW⟩ : ∃ W, w1.alloc (Cl.obj ⟨1, s, s', n, bb, kn, bv, kv⟩) = W := ⟨_, rfl⟩
  have hb : PS w0 W D R sy dl ((w1.heap.size, Cl.obj ⟨1, s, s', n, bb, kn, bv, kv⟩) :: ks) := by rw [← hW]; exact PP.box h _
  obtain ⟨y0, y1, y2, y3, y4, y5⟩ := Cl.cells (PP.at' hb List.mem_cons_self)
  obtain ⟨p, hp⟩ : ∃ p, w1.heap.size = p := ⟨_, rfl⟩
  rw [hp] at hb y0 y1 y2 y3 y4 y5
  obtain ⟨r, hr⟩ : ∃ r, syE s dl = r := ⟨_, rfl⟩
  have HA : Hid (Calls Try.prog 24 #[.pointer (some ⟨D, 0, none⟩), .string (tx s)] W.drew fun e w2 => e = .returned (.int .i64 r) ∧ Hid (PP w0 w2 D R (syN s dl sy) (syD s dl) sy dl ((p, Cl.obj ⟨1, s, s', n, bb, kn, bv, kv⟩) :: ks))) := by
    rw [← hr]
    exact PP.prog (PP.newer hb (drew_below W)) fun F h1 h2 _ => p_sync h1 i (by omega)
  have HC : Hid (∀ V, PP w0 V D R (syN s dl sy) (syD s dl) sy dl ((p, Cl.obj ⟨1, s, s', n, bb, kn, bv, kv⟩) :: ks) → Calls Try.prog 35 #[.pointer (some ⟨R, 0, none⟩), .string (tx s)] V fun e w2 => e = .returned (.int .i64 r) ∧ Hid (PS w0 w2 D R (syN s dl sy) (syD s dl) ((p, Cl.obj ⟨1, s, s', n, bb, kn, bv, kv⟩) :: ks))) := fun V hV => by
    rw [← hr]
    exact PP.model hV fun G h1 h2 => m_sync h1 i (by omega)
  have HOP : Hid (∀ (V : World) (s1 s2 : Int) (d1 d2 : List Fd), PP w0 V D R s1 d1 s2 d2 ((p, Cl.obj ⟨1, s, s', n, bb, kn, bv, kv⟩) :: ks) → V.cell? ⟨p, 1, none⟩ = some (.string (tx s))) := fun V s1 s2 d1 d2 hV => (Cl.cells (PP.at' hV List.mem_cons_self)).2.1
  have HI : Hid (Inv (k + 1) (syN s dl sy) (syD s dl)) := sy_inv i
  unfold Cl.obj at hW
  unfold Cl.val
  dsimp only at hW ⊢
  subst hbv hkv
  clear h hb hk i hr hc
  go_enter Try.func11, Try.ntmps11
  go_upto_region 8 with (fail)
  clear hW
  try rw [hp]
  clear hp y0
  go_region_held3 (fun w' => w'.cell? ⟨p, 1, none⟩ = some (.string (tx s))) (first | exact K9 | exact K8 | go_keep) (first | (go_at_call 24; refine HA.out.mono ?_; rintro e w8 ⟨rfl, HM8⟩; (have K8 := HOP.out w8 _ _ _ _ HM8.out); clear HA) | (go_at_call 35; refine (HC.out _ HM8.out).mono ?_; rintro e w9 ⟨rfl, HM9⟩; (have K9 := HOP.out w9 _ _ _ _ HM9.out)))
  all_goals
    go_wp2_with fail
    go_ret
    exact ⟨rfl, _, _, PP.less HM9.out fun q hq => List.mem_cons_of_mem _ hq, HI.out⟩
end Go.Proofs.Ytmlbojihjgbdlaa.D

/- One call of both: Remove. -/
namespace Go.Proofs.Ytmlbojihjgbdlaa.D
open Go.RowKit
set_option linter.unusedVariables false
set_option linter.unusedSimpArgs false

variable {w0 w1 w2 : World} {D R k : Nat} {sy : Int} {dl : List Fd} {ks : List (Nat × Obj)} {c : Cl}
set_option maxRecDepth 20000 in
set_option maxHeartbeats 4000000 in
theorem PS.c_remove (h : PS w0 w1 D R sy dl ks) (i : Inv k sy dl) (hk : k ≤ 1000) (hc : c.In w0) (hkind : c.kind = 4) : Calls Try.prog 11 #[.pointer (some ⟨D, 0, none⟩), .pointer (some ⟨R, 0, none⟩), c.val] w1 fun e w2 => e = .returned (.bool true) ∧ Hid (PN w0 w2 D R k ks) := by
  obtain ⟨kind, s, s', n, bb, kn, bv, kv⟩ := c
  have HCI : Hid (Cl.In w0 ⟨kind, s, s', n, bb, kn, bv, kv⟩) := hc
  dsimp only at hkind
  subst hkind
  obtain ⟨ba, bc, hbv, -⟩ := hc.by'
  obtain ⟨ka, kc, hkv, -⟩ := hc.kp
  dsimp only at hbv hkv
  generalize bb.length = bn at hbv
  generalize kn.length = kkn at hkv
  obtain ⟨W, hW⟩ : ∃ W, w1.alloc (Cl.obj ⟨4, s, s', n, bb, kn, bv, kv⟩) = W := ⟨_, rfl⟩
  have hb : PS w0 W D R sy dl ((w1.heap.size, Cl.obj ⟨4, s, s', n, bb, kn, bv, kv⟩) :: ks) := by rw [← hW]; exact PP.box h _
  obtain ⟨y0, y1, y2, y3, y4, y5⟩ := Cl.cells (PP.at' hb List.mem_cons_self)
  obtain ⟨p, hp⟩ : ∃ p, w1.heap.size = p := ⟨_, rfl⟩
  rw [hp] at hb y0 y1 y2 y3 y4 y5
  obtain ⟨r, hr⟩ : ∃ r, rmE s dl = r := ⟨_, rfl⟩
  have HA : Hid (Calls Try.prog 26 #[.pointer (some ⟨D, 0, none⟩), .string (tx s)] W.drew fun e w2 => e = .returned (.int .i64 r) ∧ Hid (PP w0 w2 D R sy (rmD s dl) sy dl ((p, Cl.obj ⟨4, s, s', n, bb, kn, bv, kv⟩) :: ks))) := by
    rw [← hr]
    exact PP.prog (PP.newer hb (drew_below W)) fun F h1 h2 _ => p_remove h1
  have HC : Hid (∀ V, PP w0 V D R sy (rmD s dl) sy dl ((p, Cl.obj ⟨4, s, s', n, bb, kn, bv, kv⟩) :: ks) → Calls Try.prog 38 #[.pointer (some ⟨R, 0, none⟩), .string (tx s)] V fun e w2 => e = .returned (.int .i64 r) ∧ Hid (PS w0 w2 D R sy (rmD s dl) ((p, Cl.obj ⟨4, s, s', n, bb, kn, bv, kv⟩) :: ks))) := fun V hV => by
    rw [← hr]
    exact PP.model hV fun G h1 h2 => m_remove h1 i
  have HOP : Hid (∀ (V : World) (s1 s2 : Int) (d1 d2 : List Fd), PP w0 V D R s1 d1 s2 d2 ((p, Cl.obj ⟨4, s, s', n, bb, kn, bv, kv⟩) :: ks) → V.cell? ⟨p, 1, none⟩ = some (.string (tx s))) := fun V s1 s2 d1 d2 hV => (Cl.cells (PP.at' hV List.mem_cons_self)).2.1
  have HI : Hid (Inv (k + 1) sy (rmD s dl)) := rm_inv i
  unfold Cl.obj at hW
  unfold Cl.val
  dsimp only at hW ⊢
  subst hbv hkv
  clear h hb hk i hr hc
  go_enter Try.func11, Try.ntmps11
  go_upto_region 14 with (fail)
  clear hW
  try rw [hp]
  clear hp y0
  go_region_held3 (fun w' => w'.cell? ⟨p, 1, none⟩ = some (.string (tx s))) (first | exact K9 | exact K8 | go_keep) (first | (go_at_call 26; refine HA.out.mono ?_; rintro e w8 ⟨rfl, HM8⟩; (have K8 := HOP.out w8 _ _ _ _ HM8.out); clear HA) | (go_at_call 38; refine (HC.out _ HM8.out).mono ?_; rintro e w9 ⟨rfl, HM9⟩; (have K9 := HOP.out w9 _ _ _ _ HM9.out)))
  all_goals
    go_wp2_with fail
    go_ret
    exact ⟨rfl, _, _, PP.less HM9.out fun q hq => List.mem_cons_of_mem _ hq, HI.out⟩
end Go.Proofs.Ytmlbojihjgbdlaa.D

/- One call of both: Cut. -/
namespace Go.Proofs.Ytmlbojihjgbdlaa.D
open Go.RowKit
set_option linter.unusedVariables false
set_option linter.unusedSimpArgs false

variable {w0 w1 w2 : World} {D R k : Nat} {sy : Int} {dl : List Fd} {ks : List (Nat × Obj)} {c : Cl}
set_option maxRecDepth 20000 in
set_option maxHeartbeats 4000000 in
theorem PS.c_cut (h : PS w0 w1 D R sy dl ks) (i : Inv k sy dl) (hk : k ≤ 1000) (hc : c.In w0) (hkind : c.kind = 2) : Calls Try.prog 11 #[.pointer (some ⟨D, 0, none⟩), .pointer (some ⟨R, 0, none⟩), c.val] w1 fun e w2 => e = .returned (.bool true) ∧ Hid (PN w0 w2 D R k ks) := by
  obtain ⟨kind, s, s', n, bb, kn, bv, kv⟩ := c
  have HCI : Hid (Cl.In w0 ⟨kind, s, s', n, bb, kn, bv, kv⟩) := hc
  dsimp only at hkind
  subst hkind
  obtain ⟨ba, bc, hbv, -⟩ := hc.by'
  obtain ⟨ka, kc, hkv, -⟩ := hc.kp
  dsimp only at hbv hkv
  generalize bb.length = bn at hbv
  generalize kn.length = kkn at hkv
  obtain ⟨W, hW⟩ : ∃ W, w1.alloc (Cl.obj ⟨2, s, s', n, bb, kn, bv, kv⟩) = W := ⟨_, rfl⟩
  have hb : PS w0 W D R sy dl ((w1.heap.size, Cl.obj ⟨2, s, s', n, bb, kn, bv, kv⟩) :: ks) := by rw [← hW]; exact PP.box h _
  obtain ⟨y0, y1, y2, y3, y4, y5⟩ := Cl.cells (PP.at' hb List.mem_cons_self)
  obtain ⟨p, hp⟩ : ∃ p, w1.heap.size = p := ⟨_, rfl⟩
  rw [hp] at hb y0 y1 y2 y3 y4 y5
  obtain ⟨r, hr⟩ : ∃ r, cuE s n dl = r := ⟨_, rfl⟩
  have HA : Hid (Calls Try.prog 25 #[.pointer (some ⟨D, 0, none⟩), .string (tx s), .int .i64 n] W.drew fun e w2 => e = .returned (.int .i64 r) ∧ Hid (PP w0 w2 D R sy (cuD s n dl) sy dl ((p, Cl.obj ⟨2, s, s', n, bb, kn, bv, kv⟩) :: ks))) := by
    rw [← hr]
    exact PP.prog (PP.newer hb (drew_below W)) fun F h1 h2 _ => p_cut h1 i n
  have HC : Hid (∀ V, PP w0 V D R sy (cuD s n dl) sy dl ((p, Cl.obj ⟨2, s, s', n, bb, kn, bv, kv⟩) :: ks) → Calls Try.prog 36 #[.pointer (some ⟨R, 0, none⟩), .string (tx s), .int .i64 n] V fun e w2 => e = .returned (.int .i64 r) ∧ Hid (PS w0 w2 D R sy (cuD s n dl) ((p, Cl.obj ⟨2, s, s', n, bb, kn, bv, kv⟩) :: ks))) := fun V hV => by
    rw [← hr]
    exact PP.model hV fun G h1 h2 => m_cut h1 i n
  have HOP : Hid (∀ (V : World) (s1 s2 : Int) (d1 d2 : List Fd), PP w0 V D R s1 d1 s2 d2 ((p, Cl.obj ⟨2, s, s', n, bb, kn, bv, kv⟩) :: ks) → V.cell? ⟨p, 1, none⟩ = some (.string (tx s)) ∧ V.cell? ⟨p, 3, none⟩ = some (.int .i64 n)) := fun V s1 s2 d1 d2 hV => ⟨(Cl.cells (PP.at' hV List.mem_cons_self)).2.1, (Cl.cells (PP.at' hV List.mem_cons_self)).2.2.2.1⟩
  have HI : Hid (Inv (k + 1) sy (cuD s n dl)) := cu_inv i
  unfold Cl.obj at hW
  unfold Cl.val
  dsimp only at hW ⊢
  subst hbv hkv
  clear h hb hk i hr hc
  go_enter Try.func11, Try.ntmps11
  go_upto_region 10 with (fail)
  clear hW
  try rw [hp]
  clear hp y0
  go_region_held3 (fun w' => w'.cell? ⟨p, 1, none⟩ = some (.string (tx s)) ∧ w'.cell? ⟨p, 3, none⟩ = some (.int .i64 n)) (first | exact K9 | exact K8 | go_keep) (first | (go_at_call 25; refine HA.out.mono ?_; rintro e w8 ⟨rfl, HM8⟩; (have K8 := HOP.out w8 _ _ _ _ HM8.out); clear HA) | (go_at_call 36; refine (HC.out _ HM8.out).mono ?_; rintro e w9 ⟨rfl, HM9⟩; (have K9 := HOP.out w9 _ _ _ _ HM9.out)))
  all_goals
    go_wp2_with fail
    go_ret
    exact ⟨rfl, _, _, PP.less HM9.out fun q hq => List.mem_cons_of_mem _ hq, HI.out⟩
end Go.Proofs.Ytmlbojihjgbdlaa.D

/- One call of both: Rename. -/
namespace Go.Proofs.Ytmlbojihjgbdlaa.D
open Go.RowKit
set_option linter.unusedVariables false
set_option linter.unusedSimpArgs false

variable {w0 w1 w2 : World} {D R k : Nat} {sy : Int} {dl : List Fd} {ks : List (Nat × Obj)} {c : Cl}
set_option maxRecDepth 20000 in
set_option maxHeartbeats 4000000 in
theorem PS.c_move (h : PS w0 w1 D R sy dl ks) (i : Inv k sy dl) (hk : k ≤ 1000) (hc : c.In w0) (hkind : c.kind = 3) : Calls Try.prog 11 #[.pointer (some ⟨D, 0, none⟩), .pointer (some ⟨R, 0, none⟩), c.val] w1 fun e w2 => e = .returned (.bool true) ∧ Hid (PN w0 w2 D R k ks) := by
  obtain ⟨kind, s, s', n, bb, kn, bv, kv⟩ := c
  have HCI : Hid (Cl.In w0 ⟨kind, s, s', n, bb, kn, bv, kv⟩) := hc
  have hsl : (s'.length : Int) ≤ 140737488351232 := hc.fit.tol
  dsimp only at hkind
  subst hkind
  obtain ⟨ba, bc, hbv, -⟩ := hc.by'
  obtain ⟨ka, kc, hkv, -⟩ := hc.kp
  dsimp only at hbv hkv
  generalize bb.length = bn at hbv
  generalize kn.length = kkn at hkv
  obtain ⟨W, hW⟩ : ∃ W, w1.alloc (Cl.obj ⟨3, s, s', n, bb, kn, bv, kv⟩) = W := ⟨_, rfl⟩
  have hb : PS w0 W D R sy dl ((w1.heap.size, Cl.obj ⟨3, s, s', n, bb, kn, bv, kv⟩) :: ks) := by rw [← hW]; exact PP.box h _
  obtain ⟨y0, y1, y2, y3, y4, y5⟩ := Cl.cells (PP.at' hb List.mem_cons_self)
  obtain ⟨p, hp⟩ : ∃ p, w1.heap.size = p := ⟨_, rfl⟩
  rw [hp] at hb y0 y1 y2 y3 y4 y5
  obtain ⟨r, hr⟩ : ∃ r, mvE s s' dl = r := ⟨_, rfl⟩
  have HA : Hid (Calls Try.prog 30 #[.pointer (some ⟨D, 0, none⟩), .string (tx s), .string (tx s')] W.drew fun e w2 => e = .returned (.int .i64 r) ∧ Hid (PP w0 w2 D R sy (mvD s s' dl) sy dl ((p, Cl.obj ⟨3, s, s', n, bb, kn, bv, kv⟩) :: ks))) := by
    rw [← hr]
    exact PP.prog (PP.newer hb (drew_below W)) fun F h1 h2 _ => p_move h1 hsl
  have HC : Hid (∀ V, PP w0 V D R sy (mvD s s' dl) sy dl ((p, Cl.obj ⟨3, s, s', n, bb, kn, bv, kv⟩) :: ks) → Calls Try.prog 37 #[.pointer (some ⟨R, 0, none⟩), .string (tx s), .string (tx s')] V fun e w2 => e = .returned (.int .i64 r) ∧ Hid (PS w0 w2 D R sy (mvD s s' dl) ((p, Cl.obj ⟨3, s, s', n, bb, kn, bv, kv⟩) :: ks))) := fun V hV => by
    rw [← hr]
    exact PP.model hV fun G h1 h2 => m_move h1 i hsl
  have HOP : Hid (∀ (V : World) (s1 s2 : Int) (d1 d2 : List Fd), PP w0 V D R s1 d1 s2 d2 ((p, Cl.obj ⟨3, s, s', n, bb, kn, bv, kv⟩) :: ks) → V.cell? ⟨p, 1, none⟩ = some (.string (tx s)) ∧ V.cell? ⟨p, 2, none⟩ = some (.string (tx s'))) := fun V s1 s2 d1 d2 hV => ⟨(Cl.cells (PP.at' hV List.mem_cons_self)).2.1, (Cl.cells (PP.at' hV List.mem_cons_self)).2.2.1⟩
  have HI : Hid (Inv (k + 1) sy (mvD s s' dl)) := mv_inv i
  unfold Cl.obj at hW
  unfold Cl.val
  dsimp only at hW ⊢
  subst hbv hkv
  clear h hb hk i hr hc hsl
  go_enter Try.func11, Try.ntmps11
  go_upto_region 12 with (fail)
  clear hW
  try rw [hp]
  clear hp y0
  go_region_held3 (fun w' => w'.cell? ⟨p, 1, none⟩ = some (.string (tx s)) ∧ w'.cell? ⟨p, 2, none⟩ = some (.string (tx s'))) (first | exact K9 | exact K8 | go_keep) (first | (go_at_call 30; refine HA.out.mono ?_; rintro e w8 ⟨rfl, HM8⟩; (have K8 := HOP.out w8 _ _ _ _ HM8.out); clear HA) | (go_at_call 37; refine (HC.out _ HM8.out).mono ?_; rintro e w9 ⟨rfl, HM9⟩; (have K9 := HOP.out w9 _ _ _ _ HM9.out)))
  all_goals
    go_wp2_with fail
    go_ret
    exact ⟨rfl, _, _, PP.less HM9.out fun q hq => List.mem_cons_of_mem _ hq, HI.out⟩
end Go.Proofs.Ytmlbojihjgbdlaa.D

/- One call of both: Crash. -/
namespace Go.Proofs.Ytmlbojihjgbdlaa.D
open Go.RowKit
set_option linter.unusedVariables false
set_option linter.unusedSimpArgs false

variable {w0 w1 w2 : World} {D R k : Nat} {sy : Int} {dl : List Fd} {ks : List (Nat × Obj)} {c : Cl}
set_option maxRecDepth 20000 in
set_option maxHeartbeats 4000000 in
theorem PS.c_crash (h : PS w0 w1 D R sy dl ks) (i : Inv k sy dl) (hk : k ≤ 1000) (hc : c.In w0) (hkind : c.kind = 5) : Calls Try.prog 11 #[.pointer (some ⟨D, 0, none⟩), .pointer (some ⟨R, 0, none⟩), c.val] w1 fun e w2 => e = .returned (.bool true) ∧ Hid (PN w0 w2 D R k ks) := by
  obtain ⟨kind, s, s', n, bb, kn, bv, kv⟩ := c
  have HCI : Hid (Cl.In w0 ⟨kind, s, s', n, bb, kn, bv, kv⟩) := hc
  have hkl : kn.length ≤ 1048576 := hc.fit.kl
  have hkp : KeepsAt (fun b => b < w0.heap.size) w0 kv kn := hc.kp
  dsimp only at hkind
  subst hkind
  obtain ⟨ba, bc, hbv, -⟩ := hc.by'
  obtain ⟨ka, kc, hkv, -⟩ := hc.kp
  dsimp only at hbv hkv
  generalize bb.length = bn at hbv
  obtain ⟨kkn, hkkn⟩ : ∃ kkn, kn.length = kkn := ⟨_, rfl⟩
  rw [hkkn] at hkv
  obtain ⟨W, hW⟩ : ∃ W, w1.alloc (Cl.obj ⟨5, s, s', n, bb, kn, bv, kv⟩) = W := ⟨_, rfl⟩
  have hb : PS w0 W D R sy dl ((w1.heap.size, Cl.obj ⟨5, s, s', n, bb, kn, bv, kv⟩) :: ks) := by rw [← hW]; exact PP.box h _
  obtain ⟨y0, y1, y2, y3, y4, y5⟩ := Cl.cells (PP.at' hb List.mem_cons_self)
  obtain ⟨p, hp⟩ : ∃ p, w1.heap.size = p := ⟨_, rfl⟩
  rw [hp] at hb y0 y1 y2 y3 y4 y5
  obtain ⟨r, hr⟩ : ∃ r, wrE dl [] kn = r := ⟨_, rfl⟩
  have HA : Hid (Calls Try.prog 16 #[.pointer (some ⟨D, 0, none⟩), .slice ka kkn kc] W.drew fun e w2 => e = .returned (.int .i64 r) ∧ Hid (PP w0 w2 D R sy (crA dl kn) sy dl ((p, Cl.obj ⟨5, s, s', n, bb, kn, bv, kv⟩) :: ks))) := by
    rw [← hr]
    exact PP.prog (PP.newer hb (drew_below W)) fun F h1 h2 _ => p_crash h1 i (by omega) (by have := PP.keepsD (PP.newer hb (drew_below W)) hkp; rw [hkv] at this; exact this) (PP.outD (PP.newer hb (drew_below W)) h2) hkl
  have HC : Hid (∀ V, PP w0 V D R sy (crA dl kn) sy dl ((p, Cl.obj ⟨5, s, s', n, bb, kn, bv, kv⟩) :: ks) → Calls Try.prog 39 #[.pointer (some ⟨R, 0, none⟩), .slice ka kkn kc] V fun e w2 => e = .returned (.int .i64 r) ∧ Hid (PS w0 w2 D R sy (crA dl kn) ((p, Cl.obj ⟨5, s, s', n, bb, kn, bv, kv⟩) :: ks))) := fun V hV => by
    rw [← hr]
    exact PP.model hV fun G h1 h2 => m_crash h1 i (by omega) (by have := PP.keepsD hV hkp; rw [hkv] at this; exact this) (PP.outD hV h2) hkl
  have HOP : Hid (∀ (V : World) (s1 s2 : Int) (d1 d2 : List Fd), PP w0 V D R s1 d1 s2 d2 ((p, Cl.obj ⟨5, s, s', n, bb, kn, bv, kv⟩) :: ks) → V.cell? ⟨p, 5, none⟩ = some (.slice ka kkn kc)) := fun V s1 s2 d1 d2 hV => (by have := (Cl.cells (PP.at' hV List.mem_cons_self)).2.2.2.2.2; rw [← hkv]; exact this)
  have HI : Hid (Inv (k + 1) sy (crA dl kn)) := crA_inv i
  unfold Cl.obj at hW
  unfold Cl.val
  dsimp only at hW ⊢
  subst hbv hkv
  clear hkkn h hb hk i hr hc hkl hkp
  go_enter Try.func11, Try.ntmps11
  go_upto_region 16 with (fail)
  clear hW
  try rw [hp]
  clear hp y0
  go_region_held3 (fun w' => w'.cell? ⟨p, 5, none⟩ = some (.slice ka kkn kc)) (first | exact K9 | exact K8 | go_keep) (first | (go_at_call 16; refine HA.out.mono ?_; rintro e w8 ⟨rfl, HM8⟩; (have K8 := HOP.out w8 _ _ _ _ HM8.out); clear HA) | (go_at_call 39; refine (HC.out _ HM8.out).mono ?_; rintro e w9 ⟨rfl, HM9⟩; (have K9 := HOP.out w9 _ _ _ _ HM9.out)))
  all_goals
    go_wp2_with fail
    go_ret
    exact ⟨rfl, _, _, PP.less HM9.out fun q hq => List.mem_cons_of_mem _ hq, HI.out⟩
end Go.Proofs.Ytmlbojihjgbdlaa.D

/- What was lent: kept, spoilt. -/
namespace Go.Proofs.Ytmlbojihjgbdlaa.D
open Go.RowKit
set_option linter.unusedVariables false
set_option linter.unusedSimpArgs false

variable {w w' w0 w1 w2 : World} {D R k base : Nat} {s1 s2 sy : Int} {d1 d2 dl : List Fd} {ks : List (Nat × Obj)} {bs : List Int} {lv sv : Value}
theorem LentR.row (h : LentR w base lv bs) : ∃ g cap cur, lv = .slice (some ⟨g, 0, none⟩) bs.length cap ∧ base ≤ g ∧ w.heap[g]? = some (.cells cur 5 (0, 0)) ∧ (∀ w', w'.heap[g]? = w.heap[g]? → LentR w' base lv bs) ∧ (w.ownsRow base 5 1 lv bs.length (u8l bs)) ∧ w.cell? ⟨g, bs.length, none⟩ = some (.int .u8 77) ∧ bs.length + 1 ≤ cap ∧ cap ≤ maxLen := by
  obtain ⟨g, cap, rfl, ho⟩ := h
  obtain ⟨hl, hr⟩ := ho
  rcases hr with ⟨h1, -⟩ | ⟨g', cap', cur, h1, h2, h3, h4, h5, h6, h7⟩
  · cases h1
  · injection h1 with e1 e2 e3
    have e1 : g' = g := by injection e1 with e1; injection e1 with e1; exact e1.symm
    subst e1 e3
    have hx : ((bs.length + 1) * 1) = bs.length + 1 := Nat.mul_one _
    rw [hx] at h7
    refine ⟨g', cap, cur, rfl, h2, h3, fun w' hw => ⟨g', cap, rfl, hl, .inr ⟨g', cap, cur, rfl, h2, hw.trans h3, h4, h5, h6, by rw [hx]; exact h7⟩⟩, ⟨by simp [u8l_len], .inr ⟨g', cap, cur, rfl, h2, h3, by omega, h5, h6, ?_⟩⟩, ?_, h4, h5⟩
    · rw [Nat.mul_one]
      have := congrArg (List.take bs.length) h7
      rw [List.take_take, Nat.min_eq_left (by omega), List.take_append_of_le_length (by rw [u8l_len]; omega), show List.take bs.length (u8l bs) = u8l bs from List.take_of_length_le (by rw [u8l_len]; omega)] at this
      exact this
    · have hr : w.ownsRow base 5 1 (.slice (some ⟨g', 0, none⟩) (bs.length + 1) cap) (bs.length + 1) (u8l bs ++ [.int .u8 77]) := ⟨hl, .inr ⟨g', cap, cur, rfl, h2, h3, h4, h5, h6, by rw [hx]; exact h7⟩⟩
      rw [hr.cellAt bs.length (by omega), List.getElem?_append_right (by rw [u8l_len]; omega), u8l_len, Nat.sub_self]
      rfl
theorem LentR.srcG (h : LentR w base lv bs) {F : Nat → Prop} (hF : ∀ g, lv.ownBlock = some g → ¬ F g) : SrcG w F lv bs := fun W hW => by
  obtain ⟨g, cap, cur, rfl, -, h3, h4, -⟩ := h.row
  have := h4 W (hW g (Array.getElem?_eq_some_iff.1 h3).1 (hF g rfl))
  obtain ⟨_, _, _, -, -, -, -, h5, -⟩ := this.row
  exact own_src h5
set_option maxRecDepth 20000 in
set_option maxHeartbeats 4000000 in
theorem kept_any (h : LentR w base lv bs) (hs : Src w sv bs) (hb : Byt bs) (hl : bs.length ≤ 2000000) : Calls Try.prog 33 #[lv, sv] w fun e w' => e = .returned (.bool true) ∧ w' = w := by
  obtain ⟨g, cap, cur, rfl, -, h3, -, h5, h6, h7, h8⟩ := h.row
  have hc1 := Src.conv (own_src h5) hb
  have hc2 := Src.conv hs hb
  obtain ⟨sa, sc, rfl⟩ := hs.slice
  generalize (⟨(strB bs).toArray⟩ : ByteArray) = T at hc1 hc2
  have hT : (T.toList == T.toList) = true := by simp
  generalize bs.length = n at *
  have h7i : (n : Int) + 1 ≤ (cap : Int) := by omega
  have hni : (n : Int) ≤ 2000000 := by omega
  have f3 := frozen_of_row w g n _ _ h3
  clear h hs hb hl h3 h5 h7
  go_enter Try.func33, Try.ntmps33
  go_wp2_with fail
  go_ret
  exact ⟨rfl, rfl⟩
/-- The row that was lent is spoilt. -/
theorem PP.spoil {g : Nat} {v u : Value} (hv : v.ownBlock = some g) (hg : w0.heap.size ≤ g) {o : Obj} (hgk : PP w0 w1 D R s1 d1 s2 d2 ((g, o) :: ks)) (hne : ∀ p ∈ ks, p.1 ≠ g) (hgr : Gr v w1 u w2) : PP w0 w2 D R s1 d1 s2 d2 ks := by
  obtain ⟨⟨F, G, h1, h2, h3, h4, h5, h6⟩, h7⟩ := hgk
  obtain ⟨-, g1, g2⟩ := h6 _ List.mem_cons_self
  have hblk : ∀ q, q < w1.heap.size → q ≠ g → w2.heap[q]? = w1.heap[q]? := fun q hq hn => hgr.block q hq (by rw [hv]; exact fun e => hn (Option.some.inj e).symm)
  refine ⟨⟨F, G, h1.at' fun q hq => hblk q (h1.lt q hq) fun e => g1 (by rw [← e]; exact hq), h2.at' fun q hq => hblk q (h2.lt q hq) fun e => g2 (by rw [← e]; exact hq), h3, h4, h5, fun p hp => ?_⟩, h7.trans (hgr.below h7.size fun q hq => by rw [hv] at hq; cases hq; exact hg)⟩
  obtain ⟨j1, j2, j3⟩ := h6 p (List.mem_cons_of_mem _ hp)
  exact ⟨(hblk p.1 (Array.getElem?_eq_some_iff.1 j1).1 (hne p hp)).trans j1, j2, j3⟩
end Go.Proofs.Ytmlbojihjgbdlaa.D

/- One call of both: Append. -/
namespace Go.Proofs.Ytmlbojihjgbdlaa.D
open Go.RowKit
set_option linter.unusedVariables false
set_option linter.unusedSimpArgs false

variable {w0 w1 w2 : World} {D R k : Nat} {sy : Int} {dl : List Fd} {ks : List (Nat × Obj)} {c : Cl}
set_option maxRecDepth 20000 in
set_option maxHeartbeats 8000000 in
theorem PS.c_append (h : PS w0 w1 D R sy dl ks) (i : Inv k sy dl) (hk : k ≤ 1000) (hc : c.In w0) (hkind : c.kind = 0) : Calls Try.prog 11 #[.pointer (some ⟨D, 0, none⟩), .pointer (some ⟨R, 0, none⟩), c.val] w1 fun e w2 => e = .returned (.bool true) ∧ Hid (PN w0 w2 D R k ks) := by
  obtain ⟨kind, s, s', n, bb, kn, bv, kv⟩ := c
  have hbf : Byt bb := hc.fit.byt
  have hbl : bb.length ≤ 1048576 := hc.fit.bl
  have hsl : (s.length : Int) ≤ 140737488351232 := hc.fit.nml
  have hby : BysP (fun b => b < w0.heap.size) w0 bv bb := hc.by'
  dsimp only at hkind
  subst hkind
  obtain ⟨ba, bc, hbv, -⟩ := hc.by'
  obtain ⟨ka, kc, hkv, -⟩ := hc.kp
  dsimp only at hbv hkv
  obtain ⟨bn, hbn⟩ : ∃ bn, bb.length = bn := ⟨_, rfl⟩
  rw [hbn] at hbv
  generalize kn.length = kkn at hkv
  obtain ⟨W, hW⟩ : ∃ W, w1.alloc (Cl.obj ⟨0, s, s', n, bb, kn, bv, kv⟩) = W := ⟨_, rfl⟩
  have hb : PS w0 W D R sy dl ((w1.heap.size, Cl.obj ⟨0, s, s', n, bb, kn, bv, kv⟩) :: ks) := by rw [← hW]; exact PP.box h _
  obtain ⟨y0, y1, y2, y3, y4, y5⟩ := Cl.cells (PP.at' hb List.mem_cons_self)
  obtain ⟨p, hp⟩ : ∃ p, w1.heap.size = p := ⟨_, rfl⟩
  have hpW : p < W.heap.size := by rw [← hW, ← hp]; simp
  rw [hp] at hb y0 y1 y2 y3 y4 y5
  have hsrcV : ∀ (V : World) (s1 s2 : Int) (d1 d2 : List Fd) (kk : List (Nat × Obj)), PP w0 V D R s1 d1 s2 d2 kk → Src V bv bb := fun V s1 s2 d1 d2 kk hV => (hV.srcD hby (F := fun q => w0.heap.size ≤ q) fun q hq => hq) V fun _ _ _ => rfl
  -- lent
  have HLE : Hid (Calls Try.prog 31 #[bv] W fun e w2 => ∃ g cap cur, e = .returned (.slice (some ⟨g, 0, none⟩) bn cap) ∧ (W.heap.size ≤ g ∧ LentR w2 W.heap.size (.slice (some ⟨g, 0, none⟩) bn cap) bb ∧ PS w0 w2 D R sy dl ((g, .cells cur 5 (0, 0)) :: (p, Cl.obj ⟨0, s, s', n, bb, kn, bv, kv⟩) :: ks))) := by
    refine (lent_any (hsrcV W _ _ _ _ _ hb) (by omega)).mono ?_
    rintro e w2 ⟨v, rfl, h1, h2⟩
    obtain ⟨g, cap, cur, rfl, j1, j2, -⟩ := h1.row
    rw [hbn] at h1 ⊢
    exact ⟨g, cap, cur, rfl, j1, h1, PP.keep hb h2 j1 j2⟩
  obtain ⟨r, hr⟩ : ∃ r, apE s bb dl = r := ⟨_, rfl⟩
  have HLK : Hid (∀ (V : World) (g cap : Nat) (cur : Array Value) (s1 s2 : Int) (d1 d2 : List Fd) (w4 : World), LentR w4 W.heap.size (.slice (some ⟨g, 0, none⟩) bn cap) bb → PP w0 w4 D R sy dl sy dl ((g, .cells cur 5 (0, 0)) :: (p, Cl.obj ⟨0, s, s', n, bb, kn, bv, kv⟩) :: ks) → PP w0 V D R s1 d1 s2 d2 ((g, .cells cur 5 (0, 0)) :: (p, Cl.obj ⟨0, s, s', n, bb, kn, bv, kv⟩) :: ks) → LentR V W.heap.size (.slice (some ⟨g, 0, none⟩) bn cap) bb) := fun V g cap cur s1 s2 d1 d2 w4 hl h4 hV => by
    obtain ⟨g', cap', cur', e, -, -, j3, -⟩ := hl.row
    have e1 : g' = g := by injection e with e; injection e with e; injection e with e; exact e.symm
    subst e1
    exact j3 V ((PP.at' hV List.mem_cons_self).trans (PP.at' h4 List.mem_cons_self).symm)
  have HA : Hid (∀ (V : World) (g cap : Nat) (cur : Array Value), LentR V W.heap.size (.slice (some ⟨g, 0, none⟩) bn cap) bb → PP w0 V D R sy dl sy dl ((g, .cells cur 5 (0, 0)) :: (p, Cl.obj ⟨0, s, s', n, bb, kn, bv, kv⟩) :: ks) → Calls Try.prog 23 #[.pointer (some ⟨D, 0, none⟩), .string (tx s), .slice (some ⟨g, 0, none⟩) bn cap] V fun e w2 => e = .returned (.int .i64 r) ∧ Hid (PP w0 w2 D R sy (apD s bb dl) sy dl ((g, .cells cur 5 (0, 0)) :: (p, Cl.obj ⟨0, s, s', n, bb, kn, bv, kv⟩) :: ks))) := fun V g cap cur hl hV => by
    rw [← hr]
    exact PP.prog hV fun F h1 h2 h3 => p_append h1 i (by omega) hsl (hl.srcG fun q hq => by cases hq; exact h3 _ List.mem_cons_self) hbl
  have HC : Hid (∀ (V : World) (kk : List (Nat × Obj)), PP w0 V D R sy (apD s bb dl) sy dl kk → Calls Try.prog 32 #[.pointer (some ⟨R, 0, none⟩), .string (tx s), bv] V fun e w2 => e = .returned (.int .i64 r) ∧ Hid (PS w0 w2 D R sy (apD s bb dl) kk)) := fun V kk hV => by
    rw [← hr]
    exact PP.model hV fun G h1 h2 => m_append h1 i (by omega) hsl (hV.srcD hby h2) hbl
  have HK : Hid (∀ (V : World) (lv : Value) (kk : List (Nat × Obj)), LentR V W.heap.size lv bb → PS w0 V D R sy (apD s bb dl) kk → Calls Try.prog 33 #[lv, bv] V fun e w2 => e = .returned (.bool true) ∧ w2 = V) := fun V lv kk hl hV => kept_any hl (hsrcV V _ _ _ _ _ hV) hbf (by omega)
  have HSP : Hid (∀ (V : World) (g cap : Nat) (cur : Array Value), W.heap.size ≤ g → LentR V W.heap.size (.slice (some ⟨g, 0, none⟩) bn cap) bb → PS w0 V D R sy (apD s bb dl) ((g, .cells cur 5 (0, 0)) :: (p, Cl.obj ⟨0, s, s', n, bb, kn, bv, kv⟩) :: ks) → Calls Try.prog 34 #[.slice (some ⟨g, 0, none⟩) bn cap] V fun e w2 => (∃ u, e = .returned u) ∧ Hid (PS w0 w2 D R sy (apD s bb dl) ks)) := fun V g cap cur hg hl hV => by
    obtain ⟨g', cap', cur', e, -, -, -, j5, -⟩ := hl.row
    rw [hbn] at e
    have j6 : V.ownsRow W.heap.size 5 1 (.slice (some ⟨g, 0, none⟩) bn cap) bb.length (u8l bb) := j5
    refine (spoil_own j6 hbf (by omega)).mono ?_
    rintro e w2 ⟨he, hgr⟩
    refine ⟨he, ?_⟩
    have hlt : ∀ q ∈ (p, Cl.obj ⟨0, s, s', n, bb, kn, bv, kv⟩) :: ks, q.1 ≠ g := fun q hq e => by
      have := (Array.getElem?_eq_some_iff.1 (PP.at' hb hq)).1
      omega
    exact PP.less (PP.spoil (v := .slice (some ⟨g, 0, none⟩) bn cap) rfl (Nat.le_trans hb.bel.size hg) hV hlt hgr) fun q hq => List.mem_cons_of_mem _ hq
  have HOP : Hid (∀ (V : World) (s1 s2 : Int) (d1 d2 : List Fd) (q : Nat × Obj), PP w0 V D R s1 d1 s2 d2 (q :: (p, Cl.obj ⟨0, s, s', n, bb, kn, bv, kv⟩) :: ks) → V.cell? ⟨p, 1, none⟩ = some (.string (tx s)) ∧ V.cell? ⟨p, 4, none⟩ = some bv) := fun V s1 s2 d1 d2 q hV => by
    have := Cl.cells (PP.at' hV (List.mem_cons_of_mem _ List.mem_cons_self))
    exact ⟨this.2.1, this.2.2.2.2.1⟩
  have HI : Hid (Inv (k + 1) sy (apD s bb dl)) := ap_inv i hbf hbl
  unfold Cl.obj at hW
  unfold Cl.val
  dsimp only at hW ⊢ y4
  subst hbv hkv
  clear h hb hk i hr hc hbf hbl hsl hby hsrcV hbn hpW
  go_enter Try.func11, Try.ntmps11
  go_upto_region 4 with (go_at_call 31; (refine HLE.out.mono ?_; rintro e w4 ⟨g, cap, cur, rfl, hg⟩; (have HG : Hid (W.heap.size ≤ g ∧ LentR w4 W.heap.size (.slice (some ⟨g, 0, none⟩) bn cap) bb ∧ PS w0 w4 D R sy dl ((g, .cells cur 5 (0, 0)) :: (p, Cl.obj ⟨0, s, s', n, bb, kn, .slice ba bn bc, .slice ka kkn kc⟩) :: ks)) := hg); clear hg))
  clear hW
  try rw [hp]
  clear hp y0 y1 y2 y3 y4 y5
  have HG4 : Hid (LentR w4.drew W.heap.size (.slice (some ⟨g, 0, none⟩) bn cap) bb ∧ PS w0 w4.drew D R sy dl ((g, .cells cur 5 (0, 0)) :: (p, Cl.obj ⟨0, s, s', n, bb, kn, .slice ba bn bc, .slice ka kkn kc⟩) :: ks)) := by
    have h1 : PS w0 w4.drew D R sy dl ((g, .cells cur 5 (0, 0)) :: (p, Cl.obj ⟨0, s, s', n, bb, kn, .slice ba bn bc, .slice ka kkn kc⟩) :: ks) := PP.newer HG.out.2.2 (drew_below w4)
    exact ⟨HLK.out _ g cap cur _ _ _ _ w4 HG.out.2.1 HG.out.2.2 h1, h1⟩
  have HA4 : Hid (Calls Try.prog 23 #[.pointer (some ⟨D, 0, none⟩), .string (tx s), .slice (some ⟨g, 0, none⟩) bn cap] w4.drew fun e w2 => e = .returned (.int .i64 r) ∧ Hid (PP w0 w2 D R sy (apD s bb dl) sy dl ((g, .cells cur 5 (0, 0)) :: (p, Cl.obj ⟨0, s, s', n, bb, kn, .slice ba bn bc, .slice ka kkn kc⟩) :: ks))) := HA.out _ g cap cur HG4.out.1 HG4.out.2
  obtain ⟨y1, y4⟩ := HOP.out w4 _ _ _ _ _ HG.out.2.2
  go_region_held3 (fun w' => w'.cell? ⟨p, 1, none⟩ = some (.string (tx s)) ∧ w'.cell? ⟨p, 4, none⟩ = some (.slice ba bn bc)) (first | exact K9 | exact K8 | go_keep) (first | (go_at_call 23; refine HA4.out.mono ?_; rintro e w8 ⟨rfl, HM8⟩; (have K8 := HOP.out w8 _ _ _ _ _ HM8.out); clear HA4) | (go_at_call 32; refine (HC.out _ _ HM8.out).mono ?_; rintro e w9 ⟨rfl, HM9⟩; (have K9 := HOP.out w9 _ _ _ _ _ HM9.out)) | (go_at_call 33; refine (HK.out w9 _ _ (HLK.out w9 g cap cur _ _ _ _ _ HG4.out.1 HG4.out.2 HM9.out) HM9.out).mono ?_; rintro e w10 ⟨rfl, hw10⟩; rw [hw10]; clear hw10))
  all_goals
    go_wp2_with (go_at_call 34; refine (HSP.out w9 g cap cur HG.out.1 (HLK.out w9 g cap cur _ _ _ _ _ HG4.out.1 HG4.out.2 HM9.out) HM9.out).mono ?_; rintro e w11 ⟨⟨u11, rfl⟩, HM11⟩)
    go_ret
    exact ⟨rfl, _, _, HM11.out, HI.out⟩
end Go.Proofs.Ytmlbojihjgbdlaa.D

/- One call of both: what is read. -/
namespace Go.Proofs.Ytmlbojihjgbdlaa.D
open Go.RowKit
set_option linter.unusedVariables false
set_option linter.unusedSimpArgs false

variable {w w' w0 w1 w2 : World} {D R k : Nat} {s1 s2 sy : Int} {F G : Nat → Prop} {d1 d2 dl : List Fd} {ks : List (Nat × Obj)} {c : Cl} {s : List UInt8} {v : Value} {B : List Int}
def rdB (s : List UInt8) (dl : List Fd) : List Int := match lkF s dl with | none => [] | some x => x.b
def rdE (s : List UInt8) (dl : List Fd) : Int := match lkF s dl with | none => 5 | some _ => 0
theorem Inv.rd (i : Inv k sy dl) (s : List UInt8) : Byt (rdB s dl) ∧ (rdB s dl).length ≤ 1048576 := by
  unfold rdB
  cases hs : lkF s dl with
  | none => exact ⟨(fun x hx => nomatch hx), Nat.zero_le _⟩
  | some x => exact ⟨(i.each x (lk_mem hs)).1, (i.each x (lk_mem hs)).2.1⟩
theorem p_read (h : DR w D F sy dl) (i : Inv k sy dl) (s : List UInt8) : Calls Try.prog 20 #[.pointer (some ⟨D, 0, none⟩), .string (tx s)] w fun e w' => ∃ a cap, e = .returned (.tuple #[.slice a (rdB s dl).length cap, .int .i64 (rdE s dl)]) ∧ w'.ownsRow w.heap.size 5 1 (.slice a (rdB s dl).length cap) (rdB s dl).length (u8l (rdB s dl)) ∧ Below w.heap.size w w' := by
  have hi := (i.rd s).2
  unfold rdB rdE at *
  cases hs : lkF s dl with
  | none =>
    refine (read_no h hs).mono ?_
    rintro e w' ⟨rfl, rfl⟩
    exact ⟨none, 0, rfl, World.ownsRow_nil _ _ _ _, Below.refl _ _⟩
  | some x =>
    rw [hs] at hi
    refine (read_yes h hs (by dsimp only at hi; omega)).mono ?_
    rintro e w' ⟨⟨v', rfl, h1⟩, h2⟩
    obtain ⟨a, cap, rfl⟩ := own_slice h1
    exact ⟨a, cap, rfl, h1, h2⟩
theorem m_read (h : MR w R G sy dl) (i : Inv k sy dl) (s : List UInt8) : Calls Try.prog 40 #[.pointer (some ⟨R, 0, none⟩), .string (tx s)] w fun e w' => ∃ a cap, e = .returned (.tuple #[.slice a (rdB s dl).length cap, .int .i64 (rdE s dl)]) ∧ w'.ownsRow w.heap.size 5 1 (.slice a (rdB s dl).length cap) (rdB s dl).length (u8l (rdB s dl)) ∧ Below w.heap.size w w' := by
  have hi := (i.rd s).2
  have hlen := i.len
  unfold rdB rdE at *
  cases hs : lkF s dl with
  | none =>
    refine (rread_no h (by omega) hs).mono ?_
    rintro e w' ⟨rfl, rfl⟩
    exact ⟨none, 0, rfl, World.ownsRow_nil _ _ _ _, Below.refl _ _⟩
  | some x =>
    rw [hs] at hi
    refine (rread_yes h (by omega) hs (by dsimp only at hi; omega)).mono ?_
    rintro e w' ⟨⟨v', rfl, h1⟩, h2⟩
    obtain ⟨a, cap, rfl⟩ := own_slice h1
    exact ⟨a, cap, rfl, h1, h2⟩
theorem p_len (h : DR w D F sy dl) (i : Inv k sy dl) (s : List UInt8) : Calls Try.prog 27 #[.pointer (some ⟨D, 0, none⟩), .string (tx s)] w fun e w' => e = .returned (.tuple #[.int .i64 ((rdB s dl).length : Int), .int .i64 (rdE s dl)]) ∧ w' = w := by
  have hi := (i.rd s).2
  unfold rdB rdE at *
  cases hs : lkF s dl with
  | none => exact len_no h hs
  | some x =>
    rw [hs] at hi
    exact len_yes h hs (by dsimp only at hi; omega)
/-- A row that is new: it reads, and it may be spoilt. -/
theorem PP.rowNew (h : PP w0 w1 D R s1 d1 s2 d2 ks) (hb : Below w1.heap.size w1 w2) (ho : w2.ownsRow w1.heap.size 5 1 v B.length (u8l B)) (hB : Byt B) (hl : B.length ≤ 2000000) : ∃ kk, PP w0 w2 D R s1 d1 s2 d2 (kk ++ ks) ∧ ∀ V ka, PP w0 V D R s1 d1 s2 d2 (ka ++ (kk ++ ks)) → Src V v B ∧ Calls Try.prog 34 #[v] V fun e w3 => (∃ u, e = .returned u) ∧ Hid (PP w0 w3 D R s1 d1 s2 d2 ks) := by
  rcases ho.2 with ⟨rfl, h0⟩ | ⟨g, cap, cur, rfl, h1, h2, h3⟩
  · have hB0 : B = [] := List.eq_nil_of_length_eq_zero h0
    subst hB0
    refine ⟨[], h.newer hb, fun V ka hV => ⟨.inl ⟨rfl, rfl⟩, (spoil_none V).mono ?_⟩⟩
    rintro e w3 ⟨he, hgr⟩
    exact ⟨he, (PP.less (ks' := ks) hV fun q hq => by simp [hq]).newer (hgr.below (Nat.le_refl _) fun q hq => by cases hq)⟩
  · refine ⟨[(g, .cells cur 5 (0, 0))], h.keep hb h1 h2, fun V ka hV => ?_⟩
    have hV' : PP w0 V D R s1 d1 s2 d2 ((g, .cells cur 5 (0, 0)) :: ks) := PP.less hV fun q hq => by
      rcases List.mem_cons.1 hq with e | e
      · simp [e]
      · simp [e]
    have hoV : V.ownsRow w1.heap.size 5 1 (.slice (some ⟨g, 0, none⟩) B.length cap) B.length (u8l B) := ⟨ho.1, .inr ⟨g, cap, cur, rfl, h1, PP.at' hV' List.mem_cons_self, h3⟩⟩
    refine ⟨own_src hoV, (spoil_own hoV hB (by omega)).mono ?_⟩
    rintro e w3 ⟨he, hgr⟩
    exact ⟨he, PP.spoil (v := .slice (some ⟨g, 0, none⟩) B.length cap) rfl (Nat.le_trans h.bel.size h1) hV' (fun q hq e => by have e' : q.1 = g := e; have := (Array.getElem?_eq_some_iff.1 (PP.at' h hq)).1; omega) hgr⟩
set_option maxRecDepth 20000 in
set_option maxHeartbeats 8000000 in
theorem PS.c_read (h : PS w0 w1 D R sy dl ks) (i : Inv k sy dl) (hc : c.In w0) (hkind : c.kind ≠ 0 ∧ c.kind ≠ 1 ∧ c.kind ≠ 2 ∧ c.kind ≠ 3 ∧ c.kind ≠ 4 ∧ c.kind ≠ 5) : Calls Try.prog 11 #[.pointer (some ⟨D, 0, none⟩), .pointer (some ⟨R, 0, none⟩), c.val] w1 fun e w2 => e = .returned (.bool true) ∧ Hid (PN w0 w2 D R k ks) := by
  obtain ⟨kind, s, s', n, bb, kn, bv, kv⟩ := c
  obtain ⟨n0, n1, n2, n3, n4, n5⟩ := hkind
  dsimp only at n0 n1 n2 n3 n4 n5
  obtain ⟨ba, bc, hbv, -⟩ := hc.by'
  obtain ⟨ka, kc, hkv, -⟩ := hc.kp
  dsimp only at hbv hkv
  generalize bb.length = bn at hbv
  generalize kn.length = kkn at hkv
  obtain ⟨W, hW⟩ : ∃ W, w1.alloc (Cl.obj ⟨kind, s, s', n, bb, kn, bv, kv⟩) = W := ⟨_, rfl⟩
  have hb : PS w0 W D R sy dl ((w1.heap.size, Cl.obj ⟨kind, s, s', n, bb, kn, bv, kv⟩) :: ks) := by rw [← hW]; exact PP.box h _
  obtain ⟨y0, y1, y2, y3, y4, y5⟩ := Cl.cells (PP.at' hb List.mem_cons_self)
  obtain ⟨p, hp⟩ : ∃ p, w1.heap.size = p := ⟨_, rfl⟩
  rw [hp] at hb y0 y1 y2 y3 y4 y5
  obtain ⟨hB, hBl⟩ := i.rd s
  have HPP : Hid (PS w0 W D R sy dl ((p, Cl.obj ⟨kind, s, s', n, bb, kn, bv, kv⟩) :: ks)) := hb
  have HD : Hid (∀ V kk, PS w0 V D R sy dl kk → (∃ F, DR V D F sy dl) ∧ ∃ G, MR V R G sy dl) := fun V kk hV => by
    obtain ⟨⟨F, G, h1, h2, -⟩, -⟩ := hV
    exact ⟨⟨F, h1⟩, G, h2⟩
  have HP : Hid (∀ V kk, PS w0 V D R sy dl kk → Calls Try.prog 20 #[.pointer (some ⟨D, 0, none⟩), .string (tx s)] V fun e w' => ∃ a cap, e = .returned (.tuple #[.slice a (rdB s dl).length cap, .int .i64 (rdE s dl)]) ∧ w'.ownsRow V.heap.size 5 1 (.slice a (rdB s dl).length cap) (rdB s dl).length (u8l (rdB s dl)) ∧ Below V.heap.size V w') := fun V kk hV => by
    obtain ⟨F, hF⟩ := (HD.out V kk hV).1
    exact p_read hF i s
  have HM : Hid (∀ V kk, PS w0 V D R sy dl kk → Calls Try.prog 40 #[.pointer (some ⟨R, 0, none⟩), .string (tx s)] V fun e w' => ∃ a cap, e = .returned (.tuple #[.slice a (rdB s dl).length cap, .int .i64 (rdE s dl)]) ∧ w'.ownsRow V.heap.size 5 1 (.slice a (rdB s dl).length cap) (rdB s dl).length (u8l (rdB s dl)) ∧ Below V.heap.size V w') := fun V kk hV => by
    obtain ⟨G, hG⟩ := (HD.out V kk hV).2
    exact m_read hG i s
  have HL : Hid (∀ V kk, PS w0 V D R sy dl kk → Calls Try.prog 27 #[.pointer (some ⟨D, 0, none⟩), .string (tx s)] V fun e w' => e = .returned (.tuple #[.int .i64 ((rdB s dl).length : Int), .int .i64 (rdE s dl)]) ∧ w' = V) := fun V kk hV => by
    obtain ⟨F, hF⟩ := (HD.out V kk hV).1
    exact p_len hF i s
  have HOP : Hid (∀ (V : World) (kk : List (Nat × Obj)), PS w0 V D R sy dl (kk ++ (p, Cl.obj ⟨kind, s, s', n, bb, kn, bv, kv⟩) :: ks) → V.cell? ⟨p, 1, none⟩ = some (.string (tx s))) := fun V kk hV => (Cl.cells (PP.at' hV (List.mem_append_right kk List.mem_cons_self))).2.1
  have HI : Hid (Inv (k + 1) sy dl) := i.more
  obtain ⟨B, hBe⟩ : ∃ B, rdB s dl = B := ⟨_, rfl⟩
  obtain ⟨E, hEe⟩ : ∃ E, rdE s dl = E := ⟨_, rfl⟩
  rw [hBe, hEe] at HP HM HL
  rw [hBe] at hB hBl
  obtain ⟨N, hN⟩ : ∃ N, B.length = N := ⟨_, rfl⟩
  have HB : Hid (Byt B ∧ B.length ≤ 1048576) := ⟨hB, hBl⟩
  have hNi : (N : Int) ≤ 1048576 := by omega
  have HT : Hid (∀ (V : World) (v : Value), Src V v B → (convert 31 9 v).run Try.prog V = .ok (.string ⟨(strB B).toArray⟩) V) := fun V v hV => Src.conv hV hB
  obtain ⟨T, hT⟩ : ∃ T : ByteArray, (⟨(strB B).toArray⟩ : ByteArray) = T := ⟨_, rfl⟩
  rw [hT] at HT
  have HNN : Hid (B.length = N) := hN
  have hTT : (T.toList == T.toList) = true := by simp
  unfold Cl.obj at hW
  unfold Cl.val
  dsimp only at hW ⊢
  subst hbv hkv
  clear h hb i hc hB hBl hBe hEe hT hN
  go_enter Try.func11, Try.ntmps11
  go_upto_region 17 with (fail)
  clear hW
  try rw [hp]
  clear hp y0 y2 y3 y4 y5
  go_upto_region 18 with (go_at_call 20; refine (HP.out W _ HPP.out).mono ?_; rintro e w4 ⟨a4, c4, rfl, hr4, hb4⟩; (have HR4 : Hid (w4.ownsRow W.heap.size 5 1 (.slice a4 B.length c4) B.length (u8l B) ∧ Below W.heap.size W w4) := ⟨hr4, hb4⟩); clear hr4 hb4)
  obtain ⟨k4, hk4, HS4⟩ : ∃ kk, PS w0 w4 D R sy dl (kk ++ (p, Cl.obj ⟨kind, s, s', n, bb, kn, .slice ba bn bc, .slice ka kkn kc⟩) :: ks) ∧ Hid (∀ V ka', PS w0 V D R sy dl (ka' ++ (kk ++ (p, Cl.obj ⟨kind, s, s', n, bb, kn, .slice ba bn bc, .slice ka kkn kc⟩) :: ks)) → Src V (.slice a4 B.length c4) B ∧ Calls Try.prog 34 #[.slice a4 B.length c4] V fun e w3 => (∃ u, e = .returned u) ∧ Hid (PS w0 w3 D R sy dl ((p, Cl.obj ⟨kind, s, s', n, bb, kn, .slice ba bn bc, .slice ka kkn kc⟩) :: ks))) := PP.rowNew HPP.out HR4.out.2 HR4.out.1 HB.out.1 (by have := HB.out.2; omega)
  have HK4 : Hid (PS w0 w4 D R sy dl (k4 ++ (p, Cl.obj ⟨kind, s, s', n, bb, kn, .slice ba bn bc, .slice ka kkn kc⟩) :: ks)) := hk4
  clear hk4 y1
  have y1 := HOP.out w4 _ HK4.out
  go_upto_region 19 with (go_at_call 40; refine (HM.out w4 _ HK4.out).mono ?_; rintro e w5 ⟨a5, c5, rfl, hr5, hb5⟩; (have HR5 : Hid (w5.ownsRow w4.heap.size 5 1 (.slice a5 B.length c5) B.length (u8l B) ∧ Below w4.heap.size w4 w5) := ⟨hr5, hb5⟩); clear hr5 hb5)
  have HK5 : Hid (PS w0 w5 D R sy dl (k4 ++ (p, Cl.obj ⟨kind, s, s', n, bb, kn, .slice ba bn bc, .slice ka kkn kc⟩) :: ks)) := PP.newer HK4.out HR5.out.2
  clear y1
  have y1 := HOP.out w5 _ HK5.out
  go_upto_region 20 with (go_at_call 27; refine (HL.out w5 _ HK5.out).mono ?_; rintro e w6 ⟨rfl, hw6⟩; rw [hw6]; clear hw6)
  have t4 := HT.out w5 _ (HS4.out w5 [] HK5.out).1
  have t5 := HT.out w5 _ (own_src HR5.out.1)
  have HSP := (HS4.out w5 [] HK5.out).2
  rw [HNN.out] at t4 t5 HSP ⊢
  have HSP : Hid _ := HSP
  go_wp2_with (go_at_call 34; go_loud (refine Calls.mono HSP.out ?_; rintro e w7 ⟨⟨u7, rfl⟩, HM7⟩))
  go_ret
  exact ⟨rfl, _, _, PP.less HM7.out fun q hq => List.mem_cons_of_mem _ hq, HI.out⟩
end Go.Proofs.Ytmlbojihjgbdlaa.D
