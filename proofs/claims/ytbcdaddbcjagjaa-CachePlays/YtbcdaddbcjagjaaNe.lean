/- A list by keys as it lies; a node leaves, a node leads, a count, a map is turned. -/
import Derived.Test.YtbcdaddbcjagjaaNd
namespace Go.Proofs.Ytbcdaddbcjagjaa
open Go.RowKit
set_option linter.unusedVariables false
set_option linter.unusedSimpArgs false

structure Nod where
  N : Nat
  key : List UInt8
  st : List UInt8
  te : List UInt8
def ad (n : Nod) : Addr := ⟨n.N, 0, none⟩
/-- A block of so many cells. -/
def Bk (w : World) (b : Nat) (t : TypeId) (m : Nat) : Prop := ∃ cs : Array Value, w.heap[b]? = some (.cells cs t (0, 0)) ∧ cs.size = m
theorem Bk.cell {w : World} {b m i : Nat} {t : TypeId} (h : Bk w b t m) (hi : i < m) : ∃ v, w.cell? ⟨b, i, none⟩ = some v := by
  obtain ⟨cs, h1, h2⟩ := h
  exact ⟨cs[i]'(by omega), by rw [cell_of_row _ _ _ _ _ _ h1]; exact Array.getElem?_eq_getElem (by omega)⟩
theorem Bk.free {w : World} {b m : Nat} {t : TypeId} (h : Bk w b t m) (i : Nat) : w.frozen? ⟨b, i, none⟩ = false := by
  obtain ⟨cs, h1, h2⟩ := h
  simp [World.frozen?, h1]
theorem Bk.lt {w : World} {b m : Nat} {t : TypeId} (h : Bk w b t m) : b < w.heap.size := by
  obtain ⟨cs, h1, h2⟩ := h
  exact (Array.getElem?_eq_some_iff.1 h1).1
theorem Bk.at' {w w' : World} {b m : Nat} {t : TypeId} (h : Bk w b t m) (hk : w'.heap[b]? = w.heap[b]?) : Bk w' b t m := by
  obtain ⟨cs, h1, h2⟩ := h
  exact ⟨cs, hk.trans h1, h2⟩
theorem Bk.set {w : World} {b m g i : Nat} {t : TypeId} (h : Bk w b t m) (v : Value) : Bk (w.setCell ⟨g, i, none⟩ v) b t m := by
  by_cases e : b = g
  · subst e
    obtain ⟨cs, h1, h2⟩ := h
    exact ⟨_, row_set v h1, by simpa using h2⟩
  · exact h.at' (Below.heap_setCell _ _ _ _ e)
theorem Bk.ne {w : World} {a b m n : Nat} {t u : TypeId} (h : Bk w a t m) (k : Bk w b u n) (ht : t ≠ u) : a ≠ b := by
  obtain ⟨cs, h1, h2⟩ := h
  obtain ⟨ds, k1, k2⟩ := k
  exact ne_tag h1 k1 ht
theorem cell_eq {w w' : World} {b i : Nat} (h : w'.heap[b]? = w.heap[b]?) : w'.cell? ⟨b, i, none⟩ = w.cell? ⟨b, i, none⟩ := by
  simp [World.cell?, h]
theorem set_off {w : World} {g i b j : Nat} (v : Value) (h : b = g → j ≠ i) : (w.setCell ⟨g, i, none⟩ v).cell? ⟨b, j, none⟩ = w.cell? ⟨b, j, none⟩ :=
  World.cell?_setCell_other _ _ _ _ fun e => h (congrArg Addr.block e).symm (congrArg Addr.off e).symm
structure LX (w : World) (L M : Nat) (most cnt : Int) (l dl : List Nod) (ml : List (List UInt8 × Nat)) : Prop where
  bk : Bk w L 92 8
  c0 : w.cell? ⟨L, 0, none⟩ = some (.int .i64 most)
  c1 : w.cell? ⟨L, 1, none⟩ = some (.int .i64 cnt)
  c2 : w.cell? ⟨L, 2, none⟩ = some (.map (some M))
  nb : ∀ n ∈ dl, Bk w n.N 90 5 ∧ w.cell? ⟨n.N, 0, none⟩ = some (.string (tx n.key)) ∧ w.cell? ⟨n.N, 1, none⟩ = some (.string (tx n.st)) ∧ w.cell? ⟨n.N, 2, none⟩ = some (.string (tx n.te))
  ch : Ch w ⟨L, 3, none⟩ (l.map ad) ⟨L, 3, none⟩
  sub : ∀ n ∈ l, n ∈ dl
  nd : (l.map Nod.N).Nodup
  mp : MM w M ml
def LF (L M : Nat) (dl : List Nod) (q : Nat) : Prop := q = L ∨ q = M ∨ ∃ n ∈ dl, n.N = q
variable {w w' : World} {L M : Nat} {most cnt : Int} {l dl a b : List Nod} {n : Nod} {ml : List (List UInt8 × Nat)}
theorem LX.nl (h : LX w L M most cnt l dl ml) (hn : n ∈ dl) : n.N ≠ L := (h.nb n hn).1.ne h.bk (by decide)
theorem LX.ml' (h : LX w L M most cnt l dl ml) : L ≠ M := by
  rintro rfl
  obtain ⟨cs, h1, h2⟩ := h.bk
  obtain ⟨es, c, k1, k2⟩ := h.mp
  unfold MapAt at k1
  rw [h1] at k1
  cases k1
theorem LX.nm (h : LX w L M most cnt l dl ml) (hn : n ∈ dl) : n.N ≠ M := by
  intro e
  obtain ⟨cs, h1, h2⟩ := (h.nb n hn).1
  obtain ⟨es, c, k1, k2⟩ := h.mp
  unfold MapAt at k1
  rw [e, k1] at h1
  cases h1
theorem LX.lt (h : LX w L M most cnt l dl ml) : ∀ q, LF L M dl q → q < w.heap.size := by
  rintro q (rfl | rfl | ⟨n, hn, rfl⟩)
  · exact h.bk.lt
  · exact h.mp.lt
  · exact (h.nb n hn).1.lt
theorem LX.at' (h : LX w L M most cnt l dl ml) (hk : ∀ q, LF L M dl q → w'.heap[q]? = w.heap[q]?) : LX w' L M most cnt l dl ml := by
  have kL := hk L (.inl rfl)
  have kN : ∀ n ∈ dl, w'.heap[n.N]? = w.heap[n.N]? := fun n hn => hk _ (.inr (.inr ⟨n, hn, rfl⟩))
  refine ⟨h.bk.at' kL, (cell_eq kL).trans h.c0, (cell_eq kL).trans h.c1, (cell_eq kL).trans h.c2, fun n hn => ?_, h.ch.keep (fun c hc => ?_) fun c hc => ?_, h.sub, h.nd, h.mp.at' (hk M (.inr (.inl rfl)))⟩
  · obtain ⟨h1, h2, h3, h4⟩ := h.nb n hn
    exact ⟨h1.at' (kN n hn), (cell_eq (kN n hn)).trans h2, (cell_eq (kN n hn)).trans h3, (cell_eq (kN n hn)).trans h4⟩
  · rcases List.mem_cons.1 hc with rfl | hc
    · exact cell_eq kL
    · obtain ⟨n, hn, rfl⟩ := List.mem_map.1 hc
      exact cell_eq (kN n (h.sub n hn))
  · rcases List.mem_append.1 hc with hc | hc
    · obtain ⟨n, hn, rfl⟩ := List.mem_map.1 hc
      exact cell_eq (kN n (h.sub n hn))
    · obtain rfl := List.mem_singleton.1 hc
      exact cell_eq kL
theorem Fr.refl (F : Nat → Prop) (w : World) : Fr F F w w := ⟨rfl, rfl, rfl, Nat.le_refl _, fun _ _ _ => rfl, fun _ h => .inl h⟩
theorem Fr.trans' {F F' F'' : Nat → Prop} {w w' w'' : World} (h : Fr F F' w w') (k : Fr F' F'' w' w'') : Fr F F'' w w'' := by
  have hs := h.size
  have ks := k.size
  refine ⟨k.os.trans h.os, k.tape.trans h.tape, k.output.trans h.output, by omega, fun q hq hn => (k.block q (by omega) fun e => ?_).trans (h.block q hq hn), fun q hq => ?_⟩
  · rcases h.grow q e with e | e
    · exact hn e
    · omega
  · rcases k.grow q hq with e | e
    · exact h.grow q e
    · exact .inr (by omega)
theorem Fr.sub {F F' F'' : Nat → Prop} {w w' : World} (h : Fr F F' w w') (hs : ∀ q, F'' q → F' q) : Fr F F'' w w' := ⟨h.os, h.tape, h.output, h.size, h.block, fun q hq => h.grow q (hs q hq)⟩
theorem Fr.newer {F : Nat → Prop} {w w' : World} (hb : Below w.heap.size w w') : Fr F F w w' := ⟨hb.os, hb.tape, hb.output, hb.size, fun q hq _ => hb.block q hq, fun q hq => .inl hq⟩
theorem LX.newer (h : LX w L M most cnt l dl ml) (hb : Below w.heap.size w w') : LX w' L M most cnt l dl ml := h.at' fun q hq => hb.block q (h.lt q hq)
theorem LX.less (h : LX w L M most cnt l dl ml) {dl' : List Nod} (h1 : ∀ n ∈ dl', n ∈ dl) (h2 : ∀ n ∈ l, n ∈ dl') : LX w L M most cnt l dl' ml := ⟨h.bk, h.c0, h.c1, h.c2, fun n hn => h.nb n (h1 n hn), h.ch, h2, h.nd, h.mp⟩
/-- A place in the chain: the ends, or a node. -/
def Site (L : Nat) (l : List Nod) (x : Addr) : Prop := ∃ bb o, x = ⟨bb, o, none⟩ ∧ ((bb = L ∧ o = 3) ∨ (o = 0 ∧ ∃ m ∈ l, m.N = bb))
theorem site_of {x : Addr} (h : x ∈ (⟨L, 3, none⟩ : Addr) :: l.map ad) : Site L l x := by
  rcases List.mem_cons.1 h with rfl | h
  · exact ⟨L, 3, rfl, .inl ⟨rfl, rfl⟩⟩
  · obtain ⟨m, hm, rfl⟩ := List.mem_map.1 h
    exact ⟨m.N, 0, rfl, .inr ⟨rfl, m, hm, rfl⟩⟩
theorem site_of' {x : Addr} (h : x ∈ l.map ad ++ [(⟨L, 3, none⟩ : Addr)]) : Site L l x := site_of (by simp at h ⊢; exact h.symm)
theorem Site.more {x : Addr} {l l' : List Nod} (h : Site L l x) (hs : ∀ m ∈ l, m ∈ l') : Site L l' x := by
  obtain ⟨bb, o, e, h | ⟨h, m, hm, e2⟩⟩ := h
  · exact ⟨bb, o, e, .inl h⟩
  · exact ⟨bb, o, e, .inr ⟨h, m, hs m hm, e2⟩⟩
/-- What of a site can be stored. -/
theorem LX.site (h : LX w L M most cnt l dl ml) {x : Addr} (hx : Site L dl x) : ∃ bb o, x = ⟨bb, o, none⟩ ∧ (o = 0 ∨ o = 3) ∧ LF L M dl bb ∧ bb ≠ M ∧ (bb = L → o = 3) ∧ (bb ≠ L → o = 0) ∧ (∃ v, w.cell? ⟨bb, o + 4, none⟩ = some v) ∧ (∃ v, w.cell? ⟨bb, o + 3, none⟩ = some v) ∧ ∀ i, w.frozen? ⟨bb, i, none⟩ = false := by
  obtain ⟨bb, o, e, ⟨rfl, rfl⟩ | ⟨rfl, m, hm, rfl⟩⟩ := hx
  · exact ⟨bb, 3, e, .inr rfl, .inl rfl, h.ml', fun _ => rfl, fun k => (k rfl).elim, h.bk.cell (by omega), h.bk.cell (by omega), fun i => h.bk.free i⟩
  · exact ⟨m.N, 0, e, .inl rfl, .inr (.inr ⟨m, hm, rfl⟩), h.nm hm, fun k => (h.nl hm k).elim, fun _ => rfl, (h.nb m hm).1.cell (by omega), (h.nb m hm).1.cell (by omega), fun i => (h.nb m hm).1.free i⟩
/-- Links alone are turned: what stays. -/
theorem LX.links (h : LX w L M most cnt l dl ml) {V : World} {l' : List Nod} (hb : ∀ bb t m, Bk w bb t m → Bk V bb t m) (hc : ∀ bb i, i < 3 → V.cell? ⟨bb, i, none⟩ = w.cell? ⟨bb, i, none⟩) (hm : V.heap[M]? = w.heap[M]?) (hch : Ch V ⟨L, 3, none⟩ (l'.map ad) ⟨L, 3, none⟩) (hs : ∀ n ∈ l', n ∈ dl) (hn : (l'.map Nod.N).Nodup) : LX V L M most cnt l' dl ml :=
  ⟨hb _ _ _ h.bk, (hc _ _ (by omega)).trans h.c0, (hc _ _ (by omega)).trans h.c1, (hc _ _ (by omega)).trans h.c2, fun n hn' => ⟨hb _ _ _ (h.nb n hn').1, (hc _ _ (by omega)).trans (h.nb n hn').2.1, (hc _ _ (by omega)).trans (h.nb n hn').2.2.1, (hc _ _ (by omega)).trans (h.nb n hn').2.2.2⟩, hch, hs, hn, h.mp.at' hm⟩
theorem Hq.at' {V w' : World} (h : Hq V w') (q : Nat) : w'.heap[q]? = V.heap[q]? := by rw [h.heap]
theorem ad_nodup (h : (l.map Nod.N).Nodup) (hL : ∀ n ∈ l, n.N ≠ L) : ((⟨L, 3, none⟩ : Addr) :: l.map ad).Nodup ∧ (⟨L, 3, none⟩ : Addr) ∉ l.map ad := by
  have h1 : (⟨L, 3, none⟩ : Addr) ∉ l.map ad := fun e => by
    obtain ⟨m, hm, e⟩ := List.mem_map.1 e
    exact hL m hm (congrArg Addr.block e)
  refine ⟨List.nodup_cons.2 ⟨h1, ?_⟩, h1⟩
  have h2 : (l.map ad) = (l.map Nod.N).map fun q => (⟨q, 0, none⟩ : Addr) := by rw [List.map_map]; rfl
  rw [h2]
  exact List.Pairwise.map (fun q => (⟨q, 0, none⟩ : Addr)) (fun x y hxy e => hxy (congrArg Addr.block e)) h
set_option maxHeartbeats 1000000 in
/-- A node leaves. -/
theorem LX.leave (h : LX w L M most cnt (a ++ n :: b) dl ml) : Calls Try.prog 51 #[.pointer (some ⟨n.N, 0, none⟩)] w fun e w' => e = .returned (.tuple #[]) ∧ LX w' L M most cnt (a ++ b) dl ml ∧ Fr (LF L M dl) (LF L M dl) w w' := by
  have hch := h.ch
  rw [List.map_append, List.map_cons] at hch
  obtain ⟨hnd, hq⟩ := ad_nodup h.nd fun n hn => h.nl (h.sub n hn)
  rw [List.map_append, List.map_cons] at hnd hq
  obtain ⟨x, y, hx, hy, l1, l2, k⟩ := Ch.out hch hnd hq
  have sx := (site_of hx).more (l' := dl) fun m hm => h.sub m (by simp [hm])
  have sy := (site_of' hy).more (l' := dl) fun m hm => h.sub m (by simp [hm])
  have hnx : x ≠ ad n := by
    rintro rfl
    rcases List.mem_cons.1 hx with e | e
    · exact h.nl (h.sub n (by simp)) (congrArg Addr.block e)
    · simp at hnd
      obtain ⟨m, hm, e⟩ := List.mem_map.1 e
      have := h.nd
      rw [List.map_append, List.map_cons, List.nodup_append] at this
      exact this.2.2 m.N (List.mem_map.2 ⟨m, hm, rfl⟩) n.N List.mem_cons_self (congrArg Addr.block e)
  have hny : y ≠ ad n := by
    rintro rfl
    rcases List.mem_append.1 hy with e | e
    · obtain ⟨m, hm, e⟩ := List.mem_map.1 e
      have := h.nd
      rw [List.map_append, List.map_cons, List.nodup_append] at this
      exact (List.nodup_cons.1 this.2.1).1 (List.mem_map.2 ⟨m, hm, congrArg Addr.block e⟩)
    · exact h.nl (h.sub n (by simp)) (congrArg Addr.block (List.mem_singleton.1 e))
  obtain ⟨pb, po, rfl, hpo, fp, pm, pL, pN, ⟨v1, hv1⟩, -, pf⟩ := h.site sx
  obtain ⟨qb, qo, rfl, hqo, fq, qm, qL, qN, -, ⟨v2, hv2⟩, qf⟩ := h.site sy
  have np : ¬ n.N = pb := fun e => hnx (by subst e; rw [pN (h.nl (h.sub n (by simp)))]; rfl)
  have nq : ¬ n.N = qb := fun e => hny (by subst e; rw [qN (h.nl (h.sub n (by simp)))]; rfl)
  have hx : pb = qb → po = qo := fun e => by
    subst e
    by_cases c : pb = L
    · rw [pL c, qL c]
    · rw [pN c, qN c]
  refine (leave_any (w := w) (N := n.N) l1.2 l2.1 hv1 (pf _) hv2 (qf _) np nq hx).mono ?_
  rintro e w' ⟨rfl, hV⟩
  obtain ⟨V, hVe⟩ : ∃ V, (w.setCell ⟨pb, po + 4, none⟩ (.pointer (some ⟨qb, qo, none⟩))).setCell ⟨qb, qo + 3, none⟩ (.pointer (some ⟨pb, po, none⟩)) = V := ⟨_, rfl⟩
  rw [hVe] at hV
  have off : ∀ bb i, (bb = pb → i ≠ po + 4) → (bb = qb → i ≠ qo + 3) → V.cell? ⟨bb, i, none⟩ = w.cell? ⟨bb, i, none⟩ := fun bb i h1 h2 => by
    rw [← hVe, set_off _ h2, set_off _ h1]
  have hbl : ∀ q, q ≠ pb → q ≠ qb → V.heap[q]? = w.heap[q]? := fun q h1 h2 => by
    rw [← hVe, Below.heap_setCell _ _ _ _ h2, Below.heap_setCell _ _ _ _ h1]
  have hsz : V.heap.size = w.heap.size := by rw [← hVe]; simp
  have hLX : LX V L M most cnt (a ++ b) dl ml := by
    refine h.links (fun bb t m hb => by rw [← hVe]; exact (hb.set _).set _) (fun bb i hi => off bb i (fun _ => by omega) fun _ => by omega) (hbl M (fun e => pm e.symm) fun e => qm e.symm) ?_ (fun m hm => h.sub m (by simp at hm ⊢; rcases hm with hm | hm <;> simp [hm])) ?_
    · rw [List.map_append]
      refine k V ⟨?_, ?_⟩ (fun c hc hne => ?_) fun c hc hne => ?_
      · show V.cell? ⟨pb, po + 4, none⟩ = _
        rw [← hVe, set_off _ (fun e => by have := hx e; omega)]
        exact World.cell?_setCell_same _ _ _ hv1
      · show V.cell? ⟨qb, qo + 3, none⟩ = _
        rw [← hVe]
        exact World.cell?_setCell_same _ _ _ (u := v2) (by rw [set_off _ (fun e => by have := hx e.symm; omega)]; exact hv2)
      · have sc : Site L dl c := (site_of (l := a ++ b) (by rw [List.map_append]; exact hc)).more fun m hm => h.sub m (by simp at hm ⊢; rcases hm with hm | hm <;> simp [hm])
        obtain ⟨cb, co, rfl, hco, -, -, cL, cN, -⟩ := h.site sc
        refine off cb (co + 4) (fun e => ?_) fun e => by omega
        subst e
        intro e2
        exact hne (by rw [show co = po by omega])
      · have sc : Site L dl c := (site_of' (l := a ++ b) (by rw [List.map_append]; exact hc)).more fun m hm => h.sub m (by simp at hm ⊢; rcases hm with hm | hm <;> simp [hm])
        obtain ⟨cb, co, rfl, hco, -, -, cL, cN, -⟩ := h.site sc
        refine off cb (co + 3) (fun e => by omega) fun e => ?_
        subst e
        intro e2
        exact hne (by rw [show co = qo by omega])
    · have := h.nd
      rw [List.map_append, List.map_cons] at this
      rw [List.map_append]
      exact this.sublist ((List.Sublist.refl _).append (List.sublist_cons_self _ _))
  refine ⟨rfl, hLX.at' fun q _ => hV.at' q, ⟨?_, ?_, ?_, ?_, fun q hq hn => ?_, fun q hq => .inl hq⟩⟩
  · rw [hV.os, ← hVe]; rfl
  · rw [hV.tape, ← hVe]; rfl
  · rw [hV.output, ← hVe]; rfl
  · rw [hV.heap, hsz]; exact Nat.le_refl _
  · rw [hV.at' q]; exact hbl q (fun e => hn (e ▸ fp)) fun e => hn (e ▸ fq)
end Go.Proofs.Ytbcdaddbcjagjaa
