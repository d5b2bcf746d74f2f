/- A node leads; find; drop; add. -/
import Derived.Test.YtbcdaddbcjagjaaNe
namespace Go.Proofs.Ytbcdaddbcjagjaa
open Go.RowKit
set_option linter.unusedVariables false
set_option linter.unusedSimpArgs false

variable {w w' : World} {L M : Nat} {most cnt : Int} {l dl a b : List Nod} {n : Nod} {ml : List (List UInt8 × Nat)}
set_option maxHeartbeats 1000000 in
theorem LX.lead (h : LX w L M most cnt l dl ml) (hn : n ∈ dl) (hnl : n.N ∉ l.map Nod.N) : Calls Try.prog 52 #[.pointer (some ⟨L, 0, none⟩), .pointer (some ⟨n.N, 0, none⟩)] w fun e w' => e = .returned (.tuple #[]) ∧ LX w' L M most cnt (n :: l) dl ml ∧ Fr (LF L M dl) (LF L M dl) w w' := by
  obtain ⟨hnd, hq⟩ := ad_nodup h.nd fun n hn => h.nl (h.sub n hn)
  have hF := h.ch.first
  have hdm : hd (l.map ad) ⟨L, 3, none⟩ ∈ l.map ad ++ [(⟨L, 3, none⟩ : Addr)] := by
    cases l with
    | nil => simp [hd]
    | cons f r => simp [hd]
  have hcome := fun V => Ch.come (w' := V) (n := ad n) h.ch hnd hq
  have sf := (site_of' hdm).more (l' := dl) fun m hm => h.sub m hm
  have hnF : hd (l.map ad) ⟨L, 3, none⟩ ≠ ad n := by
    intro e
    rw [e] at hdm
    rcases List.mem_append.1 hdm with e | e
    · obtain ⟨m, hm, e⟩ := List.mem_map.1 e
      exact hnl (List.mem_map.2 ⟨m, hm, congrArg Addr.block e⟩)
    · exact h.nl hn (congrArg Addr.block (List.mem_singleton.1 e))
  generalize hd (l.map ad) ⟨L, 3, none⟩ = F at *
  obtain ⟨fb, fo, rfl, hfo, ff, fm, fL, fN, -, ⟨v3, hv3⟩, fz⟩ := h.site sf
  obtain ⟨v1, hv1⟩ := (h.nb n hn).1.cell (i := 3) (by omega)
  obtain ⟨v2, hv2⟩ := (h.nb n hn).1.cell (i := 4) (by omega)
  have nl := h.nl hn
  have nf : ¬ n.N = fb := fun e => hnF (by subst e; rw [fN nl]; rfl)
  have h7 : w.cell? ⟨L, 7, none⟩ = some (.pointer (some ⟨fb, fo, none⟩)) := hF.1
  refine (lead_any (w := w) (L := L) (N := n.N) h7 (h.bk.free _) hv1 ((h.nb n hn).1.free _) hv2 ((h.nb n hn).1.free _) hv3 (fz _) nl nf fL).mono ?_
  rintro e w' ⟨rfl, hV⟩
  obtain ⟨V, hVe⟩ : ∃ V, (((w.setCell ⟨n.N, 3, none⟩ (.pointer (some ⟨L, 3, none⟩))).setCell ⟨n.N, 4, none⟩ (.pointer (some ⟨fb, fo, none⟩))).setCell ⟨L, 7, none⟩ (.pointer (some ⟨n.N, 0, none⟩))).setCell ⟨fb, fo + 3, none⟩ (.pointer (some ⟨n.N, 0, none⟩)) = V := ⟨_, rfl⟩
  rw [hVe] at hV
  have off : ∀ bb i, (bb = n.N → i ≠ 3 ∧ i ≠ 4) → (bb = L → i ≠ 7) → (bb = fb → i ≠ fo + 3) → V.cell? ⟨bb, i, none⟩ = w.cell? ⟨bb, i, none⟩ := fun bb i h1 h2 h3 => by
    rw [← hVe, set_off _ h3, set_off _ h2, set_off _ (fun e => (h1 e).2), set_off _ (fun e => (h1 e).1)]
  have hbl : ∀ q, q ≠ n.N → q ≠ L → q ≠ fb → V.heap[q]? = w.heap[q]? := fun q h1 h2 h3 => by
    rw [← hVe, Below.heap_setCell _ _ _ _ h3, Below.heap_setCell _ _ _ _ h2, Below.heap_setCell _ _ _ _ h1, Below.heap_setCell _ _ _ _ h1]
  have hsz : V.heap.size = w.heap.size := by rw [← hVe]; simp
  have hLX : LX V L M most cnt (n :: l) dl ml := by
    refine h.links (fun bb t m hb => by rw [← hVe]; exact (((hb.set _).set _).set _).set _) (fun bb i hi => off bb i (fun _ => by omega) (fun _ => by omega) fun _ => by omega) (hbl M (fun e => h.nm hn e.symm) (fun e => h.ml' e.symm) fun e => fm e.symm) ?_ (fun m hm => by rcases List.mem_cons.1 hm with rfl | hm; exact hn; exact h.sub m hm) (List.nodup_cons.2 ⟨hnl, h.nd⟩)
    refine hcome V ⟨?_, ?_⟩ ⟨?_, ?_⟩ (fun c hc => ?_) fun c hc hne => ?_
    · show V.cell? ⟨L, 7, none⟩ = _
      rw [← hVe, set_off _ (fun e => by have := fL e.symm; omega)]
      exact World.cell?_setCell_same _ _ _ (u := .pointer (some ⟨fb, fo, none⟩)) (by rw [set_off _ (fun e => (nl e.symm).elim), set_off _ (fun e => (nl e.symm).elim)]; exact h7)
    · show V.cell? ⟨n.N, 3, none⟩ = _
      rw [← hVe, set_off _ (fun e => (nf e).elim), set_off _ (fun e => (nl e).elim), set_off _ (fun e => by omega)]
      exact World.cell?_setCell_same _ _ _ hv1
    · show V.cell? ⟨n.N, 4, none⟩ = _
      rw [← hVe, set_off _ (fun e => (nf e).elim), set_off _ (fun e => (nl e).elim)]
      exact World.cell?_setCell_same _ _ _ (u := v2) (by rw [set_off _ (fun e => by omega)]; exact hv2)
    · show V.cell? ⟨fb, fo + 3, none⟩ = _
      rw [← hVe]
      exact World.cell?_setCell_same _ _ _ (u := v3) (by rw [set_off _ (fun e => by have := fL e; omega), set_off _ (fun e => (nf e.symm).elim), set_off _ (fun e => (nf e.symm).elim)]; exact hv3)
    · obtain ⟨m, hm, rfl⟩ := List.mem_map.1 hc
      exact off m.N 4 (fun e => (hnl (List.mem_map.2 ⟨m, hm, e⟩)).elim) (fun e => (h.nl (h.sub m hm) e).elim) fun e => by omega
    · obtain ⟨cb, co, rfl, hco, -, -, cL, cN, -⟩ := h.site ((site_of' hc).more fun m hm => h.sub m hm)
      refine off cb (co + 3) (fun e => ?_) (fun e => by omega) fun e => ?_
      · subst e
        rcases List.mem_append.1 hc with e | e
        · obtain ⟨m, hm, e⟩ := List.mem_map.1 e
          exact (hnl (List.mem_map.2 ⟨m, hm, congrArg Addr.block e⟩)).elim
        · exact (nl (congrArg Addr.block (List.mem_singleton.1 e))).elim
      · subst e
        intro e2
        exact hne (by rw [show co = fo by omega])
  refine ⟨rfl, hLX.at' fun q _ => hV.at' q, ⟨?_, ?_, ?_, ?_, fun q hq hn' => ?_, fun q hq => .inl hq⟩⟩
  · rw [hV.os, ← hVe]; rfl
  · rw [hV.tape, ← hVe]; rfl
  · rw [hV.output, ← hVe]; rfl
  · rw [hV.heap, hsz]; exact Nat.le_refl _
  · rw [hV.at' q]; exact hbl q (fun e => hn' (.inr (.inr ⟨n, hn, e.symm⟩))) (fun e => hn' (.inl e)) fun e => hn' (e ▸ ff)
/-- The count is turned. -/
theorem LX.count (h : LX w L M most cnt l dl ml) (c : Int) : LX (w.setCell ⟨L, 1, none⟩ (.int .i64 c)) L M most c l dl ml ∧ Fr (LF L M dl) (LF L M dl) w (w.setCell ⟨L, 1, none⟩ (.int .i64 c)) := by
  have off : ∀ bb i, (bb = L → i ≠ 1) → (w.setCell ⟨L, 1, none⟩ (.int .i64 c)).cell? ⟨bb, i, none⟩ = w.cell? ⟨bb, i, none⟩ := fun bb i hi => set_off _ hi
  refine ⟨⟨h.bk.set _, (off _ _ (fun _ => by omega)).trans h.c0, World.cell?_setCell_same _ _ _ h.c1, (off _ _ (fun _ => by omega)).trans h.c2, fun n hn => ?_, h.ch.keep (fun c hc => ?_) fun c hc => ?_, h.sub, h.nd, h.mp.at' (Below.heap_setCell _ _ _ _ fun e => h.ml' e.symm)⟩, ⟨rfl, rfl, rfl, by simp, fun q hq hn => Below.heap_setCell _ _ _ _ fun e => hn (.inl e), fun q hq => .inl hq⟩⟩
  · have nl := h.nl hn
    obtain ⟨h1, h2, h3, h4⟩ := h.nb n hn
    exact ⟨h1.set _, (off _ _ (fun e => (nl e).elim)).trans h2, (off _ _ (fun e => (nl e).elim)).trans h3, (off _ _ (fun e => (nl e).elim)).trans h4⟩
  · obtain ⟨cb, co, rfl, hco, -⟩ := h.site ((site_of hc).more fun m hm => h.sub m hm)
    exact off cb (co + 4) fun e => by omega
  · obtain ⟨cb, co, rfl, hco, -⟩ := h.site ((site_of' hc).more fun m hm => h.sub m hm)
    exact off cb (co + 3) fun e => by omega
/-- The map is turned. -/
theorem LX.turnM (h : LX w L M most cnt l dl ml) {o : Obj} {ml' : List (List UInt8 × Nat)} (hm : MM (setM w M o) M ml') : LX (setM w M o) L M most cnt l dl ml' ∧ Fr (LF L M dl) (LF L M dl) w (setM w M o) := by
  have off : ∀ q, q ≠ M → (setM w M o).heap[q]? = w.heap[q]? := fun q hq => setM_off hq
  have kL := off L h.ml'
  have kN : ∀ n ∈ dl, (setM w M o).heap[n.N]? = w.heap[n.N]? := fun n hn => off _ (h.nm hn)
  refine ⟨⟨h.bk.at' kL, (cell_eq kL).trans h.c0, (cell_eq kL).trans h.c1, (cell_eq kL).trans h.c2, fun n hn => ?_, h.ch.keep (fun c hc => ?_) fun c hc => ?_, h.sub, h.nd, hm⟩, ⟨rfl, rfl, rfl, by rw [setM_size]; exact Nat.le_refl _, fun q hq hn => off q fun e => hn (.inr (.inl e)), fun q hq => .inl hq⟩⟩
  · obtain ⟨h1, h2, h3, h4⟩ := h.nb n hn
    exact ⟨h1.at' (kN n hn), (cell_eq (kN n hn)).trans h2, (cell_eq (kN n hn)).trans h3, (cell_eq (kN n hn)).trans h4⟩
  · obtain ⟨cb, co, rfl, hco, -, cM, -⟩ := h.site ((site_of hc).more fun m hm => h.sub m hm)
    exact cell_eq (off _ cM)
  · obtain ⟨cb, co, rfl, hco, -, cM, -⟩ := h.site ((site_of' hc).more fun m hm => h.sub m hm)
    exact cell_eq (off _ cM)
/-- A new node. -/
theorem LX.born (h : LX w L M most cnt l dl ml) (key st te : List UInt8) {V : World} (hb : Below w.heap.size w V) {g : Nat} {c3 c4 : Value} (hg : V.heap[g]? = some (.cells #[.string (tx key), .string (tx st), .string (tx te), c3, c4] 90 (0, 0))) : LX V L M most cnt l (⟨g, key, st, te⟩ :: dl) ml := by
  have h' := h.newer hb
  refine ⟨h'.bk, h'.c0, h'.c1, h'.c2, fun n hn => ?_, h'.ch, fun n hn => List.mem_cons_of_mem _ (h.sub n hn), h.nd, h'.mp⟩
  rcases List.mem_cons.1 hn with rfl | hn
  · exact ⟨⟨_, hg, rfl⟩, by rw [cell_of_row _ _ _ _ _ _ hg]; rfl, by rw [cell_of_row _ _ _ _ _ _ hg]; rfl, by rw [cell_of_row _ _ _ _ _ _ hg]; rfl⟩
  · exact h'.nb n hn
set_option maxRecDepth 20000 in
/-- find. -/
theorem LX.find (h : LX w L M most cnt l dl ml) (hm : 1 ≤ most) (hk : (ml.map Prod.fst).Nodup) (s : List UInt8) : Calls Try.prog 48 #[.pointer (some ⟨L, 0, none⟩), .string (tx s)] w fun e w' => e = .returned (ptM (lkM s ml)) ∧ Below w.heap.size w w' := by
  have HN : Hid (Calls Try.prog 47 #[.pointer (some ⟨L, 0, none⟩)] w fun e w' => e = .returned (.bool false) ∧ w' = w) := none_some h.c0 hm
  have HI : Hid (Calls Try.prog 55 #[.string (tx s)] w fun e w' => e = .returned (.bool true) ∧ Below w.heap.size w w') := itselfS s w
  have HX : Hid (∀ V, Below w.heap.size w V → V.cell? ⟨L, 2, none⟩ = some (.map (some M)) ∧ (Instr.lookup 87 (.map (some M)) (.string (tx s)) false).run Try.prog V = .ok (ptM (lkM s ml)) V) := fun V hV => ⟨(h.newer hV).c2, (h.newer hV).mp.look hk s⟩
  clear h hm hk
  generalize ptM (lkM s ml) = r at *
  go_enter Try.func48, Try.ntmps48
  go_upto_region 3 with (first | (go_at_call 47; refine HN.out.mono ?_; rintro e w1 ⟨rfl, hw1⟩; rw [hw1]; clear hw1) | (go_at_call 55; refine HI.out.mono ?_; rintro e w1 ⟨rfl, hb1⟩; (have HB1 : Hid (Below w.heap.size w w1) := hb1); clear hb1))
  obtain ⟨y2, hl⟩ := HX.out w1 HB1.out
  go_wp2_with fail
  go_ret
  exact ⟨rfl, HB1.out⟩
end Go.Proofs.Ytbcdaddbcjagjaa
