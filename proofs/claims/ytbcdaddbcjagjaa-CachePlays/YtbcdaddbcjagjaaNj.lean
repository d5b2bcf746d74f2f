/- Get of a list by keys. -/
import Derived.Test.YtbcdaddbcjagjaaNi
namespace Go.Proofs.Ytbcdaddbcjagjaa
open Go.RowKit
set_option linter.unusedVariables false
set_option linter.unusedSimpArgs false

variable {w w' : World} {L M : Nat} {F : Nat → Prop} {most : Int} {es : List It}
theorem LX.front {a b : List Nod} {n : Nod} (h : LX w L M most ((a ++ n :: b).length : Int) (n :: (a ++ b)) (a ++ n :: b) (mlO (a ++ n :: b))) : LX w L M most ((n :: (a ++ b)).length : Int) (n :: (a ++ b)) (n :: (a ++ b)) (mlO (n :: (a ++ b))) := by
  have h2 := (h.less (dl' := n :: (a ++ b)) (fun m hm => by simp at hm ⊢; rcases hm with hm | hm | hm <;> simp [hm]) fun m hm => hm).mlp ((mid_perm a b n).map _)
  have e : ((a ++ n :: b).length : Int) = ((n :: (a ++ b)).length : Int) := by simp; omega
  rwa [e] at h2
theorem row2 {W : World} {g : Nat} {a b : Value} (e : W.heap[g]? = some (.cells #[a, b] 76 (0, 0))) : W.cell? ⟨g, 0, none⟩ = some a ∧ W.cell? ⟨g, 1, none⟩ = some b ∧ W.frozen? ⟨g, 0, none⟩ = false ∧ W.frozen? ⟨g, 1, none⟩ = false :=
  ⟨by rw [cell_of_row _ _ _ _ _ _ e]; rfl, by rw [cell_of_row _ _ _ _ _ _ e]; rfl, by simp [World.frozen?, e], by simp [World.frozen?, e]⟩
set_option maxRecDepth 20000 in
set_option maxHeartbeats 4000000 in
theorem LR.get (h : LR w L M F most es) (k : List UInt8) : Calls Try.prog 40 #[.pointer (some ⟨L, 0, none⟩), .string (tx k)] w fun e w' => e = .returned (gtV (lkE k es)) ∧ ∃ F', LR w' L M F' most (getE k es) ∧ Fr F F' w w' := by
  have HH : Hid (LR w L M F most es) := h
  obtain ⟨W0, hW0⟩ : ∃ W, w.alloc (.cells #[.string { data := #[] }, .string { data := #[] }] 76) = W := ⟨_, rfl⟩
  have hb0 : Below w.heap.size w W0 := by rw [← hW0]; exact bel1' _ _
  have hg0 : W0.heap[w.heap.size]? = some (.cells #[.string { data := #[] }, .string { data := #[] }] 76 (0, 0)) := by rw [← hW0]; exact heap_alloc_new _ _
  have hs0 : W0.heap.size = w.heap.size + 1 := by rw [← hW0]; simp
  obtain ⟨⟨l, h1, rfl, h3⟩, h4, h5, h6, h7⟩ := h
  have hkn : ((mlO l).map Prod.fst).Nodup := by rw [mlO_fst]; exact h4
  have HF : Hid (Calls Try.prog 48 #[.pointer (some ⟨L, 0, none⟩), .string (tx k)] W0 fun e w' => e = .returned (ptM (lkM k (mlO l))) ∧ Below W0.heap.size W0 w') := (h1.newer hb0).find h5 hkn k
  cases hl : lkE k (l.map ct) with
  | none =>
    rw [none_of hl] at HF
    have HO : Hid (getE k (l.map ct) = l.map ct) := by show _ = _; unfold getE; rw [hl]
    have HF' : Hid (Calls Try.prog 48 #[.pointer (some ⟨L, 0, none⟩), .string (tx k)] W0 fun e w' => e = .returned (.pointer none) ∧ Below W0.heap.size W0 w') := HF.out
    have HB0 : Hid (Below w.heap.size w W0 ∧ W0.heap[w.heap.size]? = some (.cells #[.string { data := #[] }, .string { data := #[] }] 76 (0, 0)) ∧ W0.heap.size = w.heap.size + 1) := ⟨hb0, hg0, hs0⟩
    clear HF h1 h3 h4 h5 h6 h7 hkn hl hb0 hg0 hs0
    go_enter Try.func40, Try.ntmps40
    go_upto_region 1 with (fail)
    clear hW0
    go_upto_region 2 with (go_at_call 48; refine HF'.out.mono ?_; rintro e w1 ⟨rfl, hb1⟩; (have HB1 : Hid (Below W0.heap.size W0 w1) := hb1); clear hb1)
    have hr : w1.heap[w.heap.size]? = some (.cells #[.string { data := #[] }, .string { data := #[] }] 76 (0, 0)) := (HB1.out.block _ (by have := HB0.out.2.2; omega)).trans HB0.out.2.1
    have HR : Hid (w1.heap[w.heap.size]? = some (.cells #[.string { data := #[] }, .string { data := #[] }] 76 (0, 0))) := hr
    have HBW : Hid (Below w.heap.size w w1) := HB0.out.1.trans (HB1.out.mono HB0.out.1.size)
    clear HB0 HB1 HF' hr
    go_upto_region 4 with (fail)
    obtain ⟨W1, hW1⟩ : ∃ W1, w1.alloc (.cells #[.string { data := #[] }, .string { data := #[] }] 76) = W1 := ⟨_, rfl⟩
    have hr : W1.heap[w.heap.size]? = some (.cells #[.string { data := #[] }, .string { data := #[] }] 76 (0, 0)) := by rw [← hW1, Below.heap_alloc _ _ _ (Array.getElem?_eq_some_iff.1 HR.out).1]; exact HR.out
    have hv : W1.heap[w1.heap.size]? = some (.cells #[.string { data := #[] }, .string { data := #[] }] 76 (0, 0)) := by rw [← hW1]; exact heap_alloc_new _ _
    have HB2 : Hid (Below w.heap.size w W1) := by rw [← hW1]; exact HBW.out.alloc HBW.out.size _
    obtain ⟨y0, y1, z0, z1⟩ := row2 hr
    obtain ⟨x0, x1, -, -⟩ := row2 hv
    have HR1 : Hid (W1.heap[w.heap.size]? = some (.cells #[.string { data := #[] }, .string { data := #[] }] 76 (0, 0))) := hr
    rw [hW1]
    clear hW1 hr hv HBW HR
    generalize w1.heap.size = gv at *
    obtain ⟨g, hg⟩ : ∃ g, w.heap.size = g := ⟨_, rfl⟩
    have HG : Hid (w.heap.size = g) := hg
    rw [hg] at y0 y1 z0 z1 ⊢
    clear hg
    go_wp2_with fail
    obtain ⟨V, hV⟩ : ∃ V, (W1.setCell ⟨g, 0, none⟩ (.string { data := #[] })).setCell ⟨g, 1, none⟩ (.string { data := #[] }) = V := ⟨_, rfl⟩
    have hrV : V.heap[g]? = some (.cells #[.string { data := #[] }, .string { data := #[] }] 76 (0, 0)) := by
      have := HR1.out
      rw [HG.out] at this
      rw [← hV]
      exact row_set _ (row_set _ this)
    have hBV : Below w.heap.size w V := by
      rw [← hV]
      refine (HB2.out.setCell ?_ _).setCell ?_ _ <;> (rw [HG.out]; exact Nat.le_refl _)
    rw [hV]
    refine bodyPost_ret (v := gtV none) (results_two Try.results40 _ _ g #[.string { data := #[] }, .string { data := #[] }] _ rfl rfl (load76 hrV rfl)) rfl ⟨rfl, F, ?_, Fr.newer hBV⟩
    rw [HO.out]
    exact HH.out.newer hBV
  | some x =>
    obtain ⟨a, n, b, rfl, hx, hkey, hout, hlk⟩ := mid_of h4 hl
    rw [hlk] at HF
    have HF' : Hid (Calls Try.prog 48 #[.pointer (some ⟨L, 0, none⟩), .string (tx k)] W0 fun e w' => e = .returned (.pointer (some ⟨n.N, 0, none⟩)) ∧ Below W0.heap.size W0 w') := HF.out
    have HE : Hid (getE k ((a ++ n :: b).map ct) = (n :: (a ++ b)).map ct ∧ (((a ++ n :: b).map ct).map It.key).Nodup ∧ 1 ≤ most ∧ most ≤ 1000 ∧ (((a ++ n :: b).map ct).length : Int) ≤ most ∧ ∀ q, F q ↔ LF L M (a ++ n :: b) q) := ⟨by unfold getE; rw [hl, hout, ← hx]; rfl, h4, h5, h6, h7, h3⟩
    have HX : Hid (LX w L M most ((a ++ n :: b).length : Int) (a ++ n :: b) (a ++ n :: b) (mlO (a ++ n :: b))) := h1
    have HB0 : Hid (Below w.heap.size w W0 ∧ W0.heap[w.heap.size]? = some (.cells #[.string { data := #[] }, .string { data := #[] }] 76 (0, 0)) ∧ W0.heap.size = w.heap.size + 1) := ⟨hb0, hg0, hs0⟩
    obtain rfl := hx
    clear HF h1 h3 h4 h5 h6 h7 hkn hl hb0 hg0 hs0 hout hlk HH
    go_enter Try.func40, Try.ntmps40
    go_upto_region 1 with (fail)
    clear hW0
    go_upto_region 2 with (go_at_call 48; refine HF'.out.mono ?_; rintro e w1 ⟨rfl, hb1⟩; (have HB1 : Hid (Below W0.heap.size W0 w1) := hb1); clear hb1)
    have HBW : Hid (Below w.heap.size w w1) := HB0.out.1.trans (HB1.out.mono HB0.out.1.size)
    have HR : Hid (w1.heap[w.heap.size]? = some (.cells #[.string { data := #[] }, .string { data := #[] }] 76 (0, 0))) := (HB1.out.block _ (by have := HB0.out.2.2; omega)).trans HB0.out.2.1
    have HL : Hid (Calls Try.prog 51 #[.pointer (some ⟨n.N, 0, none⟩)] w1 fun e w' => e = .returned (.tuple #[]) ∧ Hid (LX w' L M most ((a ++ n :: b).length : Int) (a ++ b) (a ++ n :: b) (mlO (a ++ n :: b)) ∧ Fr (LF L M (a ++ n :: b)) (LF L M (a ++ n :: b)) w1 w')) := (HX.out.newer HBW.out).leave
    have HNL : Hid (n.N ∉ (a ++ b).map Nod.N) := by
      have := HX.out.nd
      rw [List.map_append, List.map_cons] at this
      show n.N ∉ (a ++ b).map Nod.N
      rw [List.map_append]
      exact nd_mid this
    clear HB0 HB1 HF'
    go_upto_region 6 with (go_at_call 51; refine HL.out.mono ?_; rintro e w2 ⟨rfl, H2⟩)
    have HLD : Hid (Calls Try.prog 52 #[.pointer (some ⟨L, 0, none⟩), .pointer (some ⟨n.N, 0, none⟩)] w2 fun e w' => e = .returned (.tuple #[]) ∧ Hid (LX w' L M most ((a ++ n :: b).length : Int) (n :: (a ++ b)) (a ++ n :: b) (mlO (a ++ n :: b)) ∧ Fr (LF L M (a ++ n :: b)) (LF L M (a ++ n :: b)) w2 w')) := H2.out.1.lead (by simp) HNL.out
    go_upto_region 7 with (go_at_call 52; refine HLD.out.mono ?_; rintro e w3 ⟨rfl, H3⟩)
    have HF3 : Hid (Fr (LF L M (a ++ n :: b)) (LF L M (a ++ n :: b)) w1 w3) := H2.out.2.trans' H3.out.2
    have hr : w3.heap[w.heap.size]? = some (.cells #[.string { data := #[] }, .string { data := #[] }] 76 (0, 0)) :=
      (HF3.out.block _ (Array.getElem?_eq_some_iff.1 HR.out).1 fun e => by have := HX.out.lt _ e; omega).trans HR.out
    have HR3 : Hid (w3.heap[w.heap.size]? = some (.cells #[.string { data := #[] }, .string { data := #[] }] 76 (0, 0))) := hr
    obtain ⟨y0, y1, z0, z1⟩ := row2 hr
    obtain ⟨hb, q0, q1, q2⟩ := H3.out.1.nb n (by simp)
    clear hb q0 hr HL HLD H2 HR
    obtain ⟨g, hg⟩ : ∃ g, w.heap.size = g := ⟨_, rfl⟩
    have HG : Hid (w.heap.size = g) := hg
    rw [hg] at y0 y1 z0 z1 ⊢
    clear hg
    go_wp2_with fail
    obtain ⟨V, hV⟩ : ∃ V, (w3.setCell ⟨g, 0, none⟩ (.string (tx n.st))).setCell ⟨g, 1, none⟩ (.string (tx n.te)) = V := ⟨_, rfl⟩
    have hrV : V.heap[g]? = some (.cells #[.string (tx n.st), .string (tx n.te)] 76 (0, 0)) := by
      have := HR3.out
      rw [HG.out] at this
      rw [← hV]
      exact row_set _ (row_set _ this)
    obtain ⟨e1, e2, e3, e4, e5, e6⟩ := HE.out
    have hnl : ∀ q, LF L M (a ++ n :: b) q → q < g := fun q hq => by have := HX.out.lt q hq; have := HG.out; omega
    have hoff : ∀ q, q ≠ g → V.heap[q]? = w3.heap[q]? := fun q hq => by rw [← hV, Below.heap_setCell _ _ _ _ hq, Below.heap_setCell _ _ _ _ hq]
    have hsz : V.heap.size = w3.heap.size := by rw [← hV]; simp
    have f1 : Fr F (LF L M (a ++ n :: b)) w w1 := ⟨HBW.out.os, HBW.out.tape, HBW.out.output, HBW.out.size, fun q hq _ => HBW.out.block q hq, fun q hq => .inl ((e6 q).2 hq)⟩
    have f2 := f1.trans' HF3.out
    have f3 : Fr F (LF L M (a ++ n :: b)) w V := ⟨by rw [← hV]; exact f2.os, by rw [← hV]; exact f2.tape, by rw [← hV]; exact f2.output, by rw [hsz]; exact f2.size, fun q hq hn => (hoff q (by have := HG.out; omega)).trans (f2.block q hq hn), f2.grow⟩
    rw [hV]
    refine bodyPost_ret (v := gtV (some (ct n))) (results_two Try.results40 _ _ g #[.string (tx n.st), .string (tx n.te)] _ rfl rfl (load76 hrV rfl)) rfl ⟨rfl, LF L M (n :: (a ++ b)), ⟨⟨n :: (a ++ b), (H3.out.1.at' fun q hq => hoff q (by have := hnl q hq; omega)).front, e1, fun q => Iff.rfl⟩, ?_, e3, e4, ?_⟩, f3.sub fun q hq => hq.more fun m hm => by simp at hm ⊢; rcases hm with hm | hm | hm <;> simp [hm]⟩
    · rw [e1]
      exact (((mid_perm a b n).map ct).map It.key).nodup_iff.1 e2
    · rw [e1]
      simp at e5 ⊢
      omega
end Go.Proofs.Ytbcdaddbcjagjaa
