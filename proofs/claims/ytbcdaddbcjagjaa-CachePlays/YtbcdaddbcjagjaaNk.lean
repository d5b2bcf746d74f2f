/- Put of a list by keys. -/
import Derived.Test.YtbcdaddbcjagjaaNj
namespace Go.Proofs.Ytbcdaddbcjagjaa
open Go.RowKit
set_option linter.unusedVariables false
set_option linter.unusedSimpArgs false

variable {w w' : World} {L M : Nat} {F : Nat → Prop} {most : Int} {es : List It}
def putE (most : Int) (x : It) (es : List It) : List UInt8 × Bool × List It :=
  if ((x :: outE x.key es).length : Int) ≤ most then ([], false, x :: outE x.key es) else ((((x :: outE x.key es).getLast?).map It.key).getD [], true, (x :: outE x.key es).dropLast)
theorem outE_keys : ∀ {es : List It} {k : List UInt8}, (es.map It.key).Nodup → k ∉ (outE k es).map It.key ∧ ((outE k es).map It.key).Nodup ∧ (outE k es).length ≤ es.length
  | [], k, h => by simp [outE]
  | x :: r, k, h => by
    have h0 := List.nodup_cons.1 (show (x.key :: r.map It.key).Nodup from h)
    unfold outE
    by_cases e : k = x.key
    · rw [if_pos e]
      exact ⟨by rw [e]; exact h0.1, h0.2, by simp⟩
    · rw [if_neg e]
      obtain ⟨h1, h2, h3⟩ := outE_keys (k := k) h0.2
      refine ⟨by simp only [List.map_cons, List.mem_cons, not_or]; exact ⟨e, h1⟩, List.nodup_cons.2 ⟨fun hm => h0.1 ?_, h2⟩, by simp; exact h3⟩
      have hs : ∀ (es : List It) (k j : List UInt8), j ∈ (outE k es).map It.key → j ∈ es.map It.key := by
        intro es
        induction es with
        | nil => intro k j hj; exact hj
        | cons y r ih =>
          intro k j hj
          unfold outE at hj
          split at hj
          · exact List.mem_cons_of_mem _ hj
          · rcases List.mem_cons.1 hj with hj | hj
            · rw [hj]; exact List.mem_cons_self
            · exact List.mem_cons_of_mem _ (ih k j hj)
      exact hs r k _ hm
theorem LX.added {l1 : List Nod} {n : Nod} (h : LX w L M most ((l1.length : Int) + 1) (n :: l1) (n :: l1) (mlO l1 ++ [(n.key, n.N)])) : LX w L M most ((n :: l1).length : Int) (n :: l1) (n :: l1) (mlO (n :: l1)) := by
  have h2 := h.mlp (ml' := mlO (n :: l1)) (List.perm_append_comm)
  have e : ((n :: l1).length : Int) = (l1.length : Int) + 1 := by simp
  rw [e]
  exact h2
theorem last_of {α : Type} : ∀ {l : List α}, l ≠ [] → ∃ i z, l = i ++ [z]
  | [], h => (h rfl).elim
  | [x], _ => ⟨[], x, rfl⟩
  | x :: y :: r, _ => by
    obtain ⟨i, z, e⟩ := last_of (l := y :: r) (by simp)
    exact ⟨x :: i, z, by rw [e]; rfl⟩
set_option maxRecDepth 20000 in
set_option maxHeartbeats 4000000 in
theorem LR.put (h : LR w L M F most es) (k st te : List UInt8) : Calls Try.prog 39 #[.pointer (some ⟨L, 0, none⟩), .string (tx k), .agg #[.string (tx st), .string (tx te)]] w fun e w' => e = .returned (.tuple #[.string (tx (putE most ⟨k, st, te⟩ es).1), .bool (putE most ⟨k, st, te⟩ es).2.1]) ∧ ∃ F', LR w' L M F' most (putE most ⟨k, st, te⟩ es).2.2 ∧ Fr F F' w w' := by
  obtain ⟨W0, hW0⟩ : ∃ W, w.alloc (.cells #[.string (tx st), .string (tx te)] 76) = W := ⟨_, rfl⟩
  have hb0 : Below w.heap.size w W0 := by rw [← hW0]; exact bel1' _ _
  have hg0 : W0.heap[w.heap.size]? = some (.cells #[.string (tx st), .string (tx te)] 76 (0, 0)) := by rw [← hW0]; exact heap_alloc_new _ _
  have hs0 : W0.heap.size = w.heap.size + 1 := by rw [← hW0]; simp
  obtain ⟨⟨l, h1, rfl, h3⟩, h4, h5, h6, h7⟩ := h
  have hkn : ((mlO l).map Prod.fst).Nodup := by rw [mlO_fst]; exact h4
  have HN : Hid (Calls Try.prog 47 #[.pointer (some ⟨L, 0, none⟩)] W0 fun e w' => e = .returned (.bool false) ∧ w' = W0) := none_some (h1.newer hb0).c0 h5
  have HF : Hid (Calls Try.prog 48 #[.pointer (some ⟨L, 0, none⟩), .string (tx k)] W0 fun e w' => e = .returned (ptM (lkM k (mlO l))) ∧ Below W0.heap.size W0 w') := (h1.newer hb0).find h5 hkn k
  obtain ⟨hk1, hk2, hk3⟩ := outE_keys (k := k) h4
  have HC : Hid (1 ≤ most ∧ most ≤ 1000 ∧ (∀ q, F q ↔ LF L M l q) ∧ k ∉ (outE k (l.map ct)).map It.key ∧ ((outE k (l.map ct)).map It.key).Nodup ∧ ((outE k (l.map ct)).length : Int) ≤ most) := ⟨h5, h6, h3, hk1, hk2, by omega⟩
  have HB0 : Hid (Below w.heap.size w W0 ∧ W0.heap[w.heap.size]? = some (.cells #[.string (tx st), .string (tx te)] 76 (0, 0)) ∧ W0.heap.size = w.heap.size + 1) := ⟨hb0, hg0, hs0⟩
  have HX : Hid (LX w L M most (l.length : Int) l l (mlO l)) := h1
  have HL1000 : Hid ((l.length : Int) ≤ 1000) := by show _ ≤ _; simp at h7; omega
  have HKN : Hid (((mlO l).map Prod.fst).Nodup ∧ ((l.map ct).map It.key).Nodup) := ⟨hkn, h4⟩
  clear h1 h3 h4 h5 h6 h7 hkn hb0 hg0 hs0 hk1 hk2 hk3
  go_enter Try.func39, Try.ntmps39
  go_upto_region 1 with (fail)
  clear hW0
  go_upto_region 4 with (go_at_call 47; refine HN.out.mono ?_; rintro e w1 ⟨rfl, hw1⟩; rw [hw1]; clear hw1)
  clear HN
  have hfork : (lkE k (l.map ct) = none) ∨ ∃ a n b, l = a ++ n :: b ∧ n.key = k ∧ outE k (l.map ct) = (a ++ b).map ct ∧ lkM k (mlO l) = some n.N := by
    cases hl : lkE k (l.map ct) with
    | none => exact .inl rfl
    | some x =>
      obtain ⟨a, n, b, e1, e2, e3, e4, e5⟩ := mid_of HKN.out.2 hl
      exact .inr ⟨a, n, b, e1, e3, e4, e5⟩
  rcases hfork with hl | ⟨a, n, b, hll, hkey, hout, hlk⟩
  focus
    have hlk := none_of hl
    rw [hlk] at HF
    have HF' : Hid (Calls Try.prog 48 #[.pointer (some ⟨L, 0, none⟩), .string (tx k)] W0 fun e w' => e = .returned (.pointer none) ∧ Below W0.heap.size W0 w') := HF.out
    have HO : Hid (l.map ct = outE k (l.map ct)) := (outE_none (lkE_none.1 hl)).symm
    clear HF hl hlk
    go_upto_region 7 with (go_at_call 48; refine HF'.out.mono ?_; rintro e w2 ⟨rfl, hb1⟩; (have HB1 : Hid (Below W0.heap.size W0 w2) := hb1); clear hb1)
    have H2 : Hid (∃ l1, LX w2 L M most (l1.length : Int) l1 l1 (mlO l1) ∧ l1.map ct = outE k (l.map ct) ∧ Fr F (LF L M l1) w w2 ∧ w2.heap[w.heap.size]? = some (.cells #[.string (tx st), .string (tx te)] 76 (0, 0)) ∧ ∀ q, LF L M l1 q → q < w.heap.size) := by
      have hbw : Below w.heap.size w w2 := HB0.out.1.trans (HB1.out.mono HB0.out.1.size)
      exact ⟨l, HX.out.newer hbw, HO.out, ⟨hbw.os, hbw.tape, hbw.output, hbw.size, fun q hq _ => hbw.block q hq, fun q hq => .inl ((HC.out.2.2.1 q).2 hq)⟩, (HB1.out.block _ (by have := HB0.out.2.2; omega)).trans HB0.out.2.1, fun q hq => HX.out.lt q hq⟩
    clear HF' HO HB1 HX HB0 HL1000 HKN
  rotate_left 1
  focus
    rw [hlk] at HF
    have HF' : Hid (Calls Try.prog 48 #[.pointer (some ⟨L, 0, none⟩), .string (tx k)] W0 fun e w' => e = .returned (.pointer (some ⟨n.N, 0, none⟩)) ∧ Below W0.heap.size W0 w') := HF.out
    have HO : Hid ((a ++ b).map ct = outE k (l.map ct)) := hout.symm
    have HX2 : Hid (LX w L M most ((a ++ n :: b).length : Int) (a ++ n :: b) (a ++ n :: b) (mlO (a ++ n :: b)) ∧ ∀ q, LF L M l q ↔ LF L M (a ++ n :: b) q) := by
      have := HX.out
      rw [hll] at this
      exact ⟨this, fun q => by rw [hll]⟩
    have HD : Hid (∀ V, Below w.heap.size w V → Calls Try.prog 49 #[.pointer (some ⟨L, 0, none⟩), .pointer (some ⟨n.N, 0, none⟩)] V fun e w' => e = .returned (.tuple #[]) ∧ Hid (LX w' L M most ((a ++ n :: b).length - 1 : Int) (a ++ b) (a ++ n :: b) ((mlO (a ++ n :: b)).erase (n.key, n.N)) ∧ Fr (LF L M (a ++ n :: b)) (LF L M (a ++ n :: b)) V w')) := fun V hV => (HX2.out.1.newer hV).drop (by have := HKN.out.1; rwa [hll] at this) (List.mem_map.2 ⟨n, by simp, rfl⟩) (by simp; omega) (by have := HL1000.out; rw [hll] at this; omega)
    clear HF hlk hout hkey hll
    go_upto_region 6 with (go_at_call 48; refine HF'.out.mono ?_; rintro e w1 ⟨rfl, hb1⟩; (have HB1 : Hid (Below W0.heap.size W0 w1) := hb1); clear hb1)
    have HBW : Hid (Below w.heap.size w w1) := HB0.out.1.trans (HB1.out.mono HB0.out.1.size)
    go_upto_region 7 with (go_at_call 49; refine (HD.out _ HBW.out).mono ?_; rintro e w2 ⟨rfl, HDD⟩)
    have H2 : Hid (∃ l1, LX w2 L M most (l1.length : Int) l1 l1 (mlO l1) ∧ l1.map ct = outE k (l.map ct) ∧ Fr F (LF L M l1) w w2 ∧ w2.heap[w.heap.size]? = some (.cells #[.string (tx st), .string (tx te)] 76 (0, 0)) ∧ ∀ q, LF L M l1 q → q < w.heap.size) := by
      have hr : w1.heap[w.heap.size]? = some (.cells #[.string (tx st), .string (tx te)] 76 (0, 0)) := (HB1.out.block _ (by have := HB0.out.2.2; omega)).trans HB0.out.2.1
      have f1 : Fr F (LF L M (a ++ n :: b)) w w1 := ⟨HBW.out.os, HBW.out.tape, HBW.out.output, HBW.out.size, fun q hq _ => HBW.out.block q hq, fun q hq => .inl ((HC.out.2.2.1 q).2 ((HX2.out.2 q).2 hq))⟩
      have hsub : ∀ q, LF L M (a ++ b) q → LF L M (a ++ n :: b) q := fun q hq => hq.more fun m hm => by simp at hm ⊢; rcases hm with hm | hm <;> simp [hm]
      refine ⟨a ++ b, HDD.out.1.gone, HO.out, (f1.trans' HDD.out.2).sub hsub, ?_, fun q hq => HX2.out.1.lt q (hsub q hq)⟩
      exact (HDD.out.2.block _ (Array.getElem?_eq_some_iff.1 hr).1 fun e => by have := HX2.out.1.lt _ e; omega).trans hr
    clear HF' HO HD HDD HB1 HBW HX HX2 HB0 HL1000 HKN
  all_goals
    obtain ⟨l1, hX, hct, hFr, hrow, hlt⟩ := H2.out
    obtain ⟨y0, y1, -, -⟩ := row2 hrow
    have HP : Hid (l1.map ct = outE k (l.map ct) ∧ Fr F (LF L M l1) w w2 ∧ ∀ q, LF L M l1 q → q < w.heap.size) := ⟨hct, hFr, hlt⟩
    have hlen : (l1.length : Int) ≤ 1000 ∧ (0 : Int) ≤ (l1.length : Int) := by
      have h1 := HC.out.2.2.2.2.2
      rw [← hct] at h1
      simp at h1
      have := HC.out.2.1
      omega
    have hnot : k ∉ (mlO l1).map Prod.fst := by rw [mlO_fst, hct]; exact HC.out.2.2.2.1
    have HADD : Hid (Calls Try.prog 50 #[.pointer (some ⟨L, 0, none⟩), .string (tx k), .agg #[.string (tx st), .string (tx te)]] w2 fun e w' => e = .returned (.tuple #[]) ∧ Hid (∃ g, w2.heap.size ≤ g ∧ LX w' L M most ((l1.length : Int) + 1) (⟨g, k, st, te⟩ :: l1) (⟨g, k, st, te⟩ :: l1) (mlO l1 ++ [(k, g)]) ∧ Fr (LF L M l1) (LF L M (⟨g, k, st, te⟩ :: l1)) w2 w')) := hX.add hnot st te hlen.2 (by omega)
    have HLEN : Hid ((l1.length : Int) ≤ 1000) := hlen.1
    obtain ⟨bx, hbx⟩ : ∃ bx, w.heap.size = bx := ⟨_, rfl⟩
    rw [hbx] at y0 y1 ⊢
    clear hX hct hFr hrow hlt hlen hnot H2 hbx
    go_upto_region 8 with (go_at_call 50; refine HADD.out.mono ?_; rintro e w3 ⟨rfl, H3⟩)
    clear y0 y1 HADD
    obtain ⟨g, hg, hX3, hF3⟩ := H3.out
    have c1 := hX3.added.c1
    have c0 := hX3.added.c0
    have HX3 : Hid (LX w3 L M most ((⟨g, k, st, te⟩ :: l1 : List Nod).length : Int) (⟨g, k, st, te⟩ :: l1) (⟨g, k, st, te⟩ :: l1) (mlO (⟨g, k, st, te⟩ :: l1)) ∧ Fr F (LF L M (⟨g, k, st, te⟩ :: l1)) w w3) := ⟨hX3.added, HP.out.2.1.trans' hF3⟩
    have hcl : ((⟨g, k, st, te⟩ :: l1 : List Nod).length : Int) = (((⟨k, st, te⟩ : It) :: outE k (l.map ct)).length : Int) := by rw [← HP.out.1]; simp
    rw [hcl] at c1
    clear hg hX3 hF3 H3
    by_cases hfit : (((⟨k, st, te⟩ : It) :: outE k (l.map ct)).length : Int) ≤ most
    · have hput : putE most ⟨k, st, te⟩ (l.map ct) = ([], false, ⟨k, st, te⟩ :: outE k (l.map ct)) := by unfold putE; rw [if_pos hfit]
      have HPUT : Hid (putE most ⟨k, st, te⟩ (l.map ct) = ([], false, ⟨k, st, te⟩ :: outE k (l.map ct))) := hput
      have HFIT : Hid ((((⟨k, st, te⟩ : It) :: outE k (l.map ct)).length : Int) ≤ most) := hfit
      clear hput hcl
      generalize (((⟨k, st, te⟩ : It) :: outE k (l.map ct)).length : Int) = c at c1 hfit
      go_wp2_with fail
      go_region
      all_goals
        go_wp2_with fail
        go_ret2
        have hbd : Below w3.heap.size w3 w3.drew := drew_below w3
        refine ⟨by rw [HPUT.out]; rfl, LF L M (⟨g, k, st, te⟩ :: l1), ?_, HX3.out.2.trans' (Fr.newer hbd)⟩
        rw [HPUT.out]
        refine ⟨⟨⟨g, k, st, te⟩ :: l1, HX3.out.1.newer hbd, by rw [List.map_cons, HP.out.1]; rfl, fun q => Iff.rfl⟩, ?_, HC.out.1, HC.out.2.1, HFIT.out⟩
        exact List.nodup_cons.2 ⟨HC.out.2.2.2.1, HC.out.2.2.2.2.1⟩
    · obtain ⟨i, z, hz⟩ := last_of (l := (⟨g, k, st, te⟩ :: l1 : List Nod)) (by simp)
      have hes : (⟨k, st, te⟩ : It) :: outE k (l.map ct) = i.map ct ++ [ct z] := by
        have := congrArg (List.map ct) hz
        rw [List.map_cons, HP.out.1, List.map_append] at this
        exact this
      have hput : putE most ⟨k, st, te⟩ (l.map ct) = (z.key, true, i.map ct) := by
        unfold putE
        rw [if_neg hfit]
        dsimp only
        rw [hes, List.getLast?_concat, List.dropLast_concat]
        rfl
      have HPUT : Hid (putE most ⟨k, st, te⟩ (l.map ct) = (z.key, true, i.map ct) ∧ (⟨k, st, te⟩ : It) :: outE k (l.map ct) = i.map ct ++ [ct z]) := ⟨hput, hes⟩
      have hkz : ((mlO (i ++ [z])).map Prod.fst).Nodup := by
        rw [mlO_fst, List.map_append, List.map_singleton, ← hes]
        exact List.nodup_cons.2 ⟨HC.out.2.2.2.1, HC.out.2.2.2.2.1⟩
      have HX4 : Hid (LX w3 L M most ((i ++ [z]).length : Int) (i ++ [z]) (i ++ [z]) (mlO (i ++ [z])) ∧ Fr F (LF L M (i ++ [z])) w w3) := by
        have := HX3.out
        rw [hz] at this
        exact this
      have hL : ((i ++ [z]).length : Int) ≤ 1001 := by
        have e := congrArg List.length hz
        simp at e
        have := HLEN.out
        simp
        omega
      have c6 : w3.cell? ⟨L, 6, none⟩ = some (.pointer (some ⟨z.N, 0, none⟩)) := by
        have := HX4.out.1.ch
        rw [List.map_append, List.map_singleton] at this
        exact this.last
      have HD : Hid (∀ V, Below w3.heap.size w3 V → Calls Try.prog 49 #[.pointer (some ⟨L, 0, none⟩), .pointer (some ⟨z.N, 0, none⟩)] V fun e w' => e = .returned (.tuple #[]) ∧ Hid (LX w' L M most ((i ++ [z]).length - 1 : Int) (i ++ []) (i ++ [z]) ((mlO (i ++ [z])).erase (z.key, z.N)) ∧ Fr (LF L M (i ++ [z])) (LF L M (i ++ [z])) V w')) := fun V hV => (HX4.out.1.newer hV).drop hkz (List.mem_map.2 ⟨z, by simp, rfl⟩) (by simp; omega) (by omega)
      have HLE : Hid (((outE k (l.map ct)).length : Int) ≤ most) := HC.out.2.2.2.2.2
      clear hput hes hkz hz hL HX3 hcl HLEN
      generalize (((⟨k, st, te⟩ : It) :: outE k (l.map ct)).length : Int) = c at c1 hfit
      have hfit' : most < c := by omega
      go_wp2_with fail
      go_region
      all_goals
        go_wp2_with (go_at_call 49; refine (HD.out _ (drew_below w3)).mono ?_; rintro e w4 ⟨rfl, H4⟩; (have z0 := (H4.out.1.nb z (by simp)).2.1))
        go_ret2
        have hX5 := H4.out.1.gone
        rw [List.append_nil] at hX5
        refine ⟨by rw [HPUT.out.1]; rfl, LF L M i, ?_, ((HX4.out.2.trans' (Fr.newer (drew_below w3))).trans' H4.out.2).sub fun q hq => hq.more fun m hm => by simp [hm]⟩
        rw [HPUT.out.1]
        refine ⟨⟨i, hX5, rfl, fun q => Iff.rfl⟩, ?_, HC.out.1, HC.out.2.1, ?_⟩
        · have hn : (((⟨k, st, te⟩ : It) :: outE k (l.map ct)).map It.key).Nodup := List.nodup_cons.2 ⟨HC.out.2.2.2.1, HC.out.2.2.2.2.1⟩
          rw [HPUT.out.2, List.map_append] at hn
          exact (List.nodup_append.1 hn).1
        · have e := congrArg List.length HPUT.out.2
          have := HLE.out
          simp at e ⊢
          omega
end Go.Proofs.Ytbcdaddbcjagjaa
