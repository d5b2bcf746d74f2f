/- Del, Get, Put, New of a list by keys. -/
import Derived.Test.YtbcdaddbcjagjaaNh
namespace Go.Proofs.Ytbcdaddbcjagjaa
open Go.RowKit
set_option linter.unusedVariables false
set_option linter.unusedSimpArgs false

variable {w w' : World} {L M : Nat} {F : Nat → Prop} {most : Int} {es : List It}
theorem keys_out {α : Type} {a b : List α} {n : α} (h : (a ++ n :: b).Nodup) : (a ++ b).Nodup := h.sublist ((List.Sublist.refl _).append (List.sublist_cons_self _ _))
/-- What is left when a node goes. -/
theorem LX.gone {a b : List Nod} {n : Nod} (h : LX w L M most ((a ++ n :: b).length - 1 : Int) (a ++ b) (a ++ n :: b) ((mlO (a ++ n :: b)).erase (n.key, n.N))) : LX w L M most ((a ++ b).length : Int) (a ++ b) (a ++ b) (mlO (a ++ b)) := by
  have hp : ((mlO (a ++ n :: b)).erase (n.key, n.N)).Perm (mlO (a ++ b)) := by
    have h1 : (mlO (a ++ n :: b)).Perm ((n.key, n.N) :: mlO (a ++ b)) := (mid_perm a b n).map _
    have h2 := h1.erase (n.key, n.N)
    rwa [List.erase_cons_head] at h2
  have h2 := (h.less (dl' := a ++ b) (fun m hm => by simp at hm ⊢; rcases hm with hm | hm <;> simp [hm]) fun m hm => hm).mlp hp
  have e : (((a ++ n :: b).length : Int) - 1) = ((a ++ b).length : Int) := by simp; omega
  rwa [e] at h2
theorem LF.less {q : Nat} {dl dl' : List Nod} (h : LF L M dl' q) (hs : ∀ m ∈ dl', m ∈ dl) : LF L M dl q := h.more hs
set_option maxRecDepth 20000 in
set_option maxHeartbeats 4000000 in
theorem LR.del (h : LR w L M F most es) (k : List UInt8) : Calls Try.prog 53 #[.pointer (some ⟨L, 0, none⟩), .string (tx k)] w fun e w' => e = .returned (.bool (lkE k es).isSome) ∧ ∃ F', LR w' L M F' most (outE k es) ∧ Fr F F' w w' := by
  have HH : Hid (LR w L M F most es) := h
  obtain ⟨⟨l, h1, rfl, h3⟩, h4, h5, h6, h7⟩ := h
  have hkn : ((mlO l).map Prod.fst).Nodup := by rw [mlO_fst]; exact h4
  have HF : Hid (Calls Try.prog 48 #[.pointer (some ⟨L, 0, none⟩), .string (tx k)] w fun e w' => e = .returned (ptM (lkM k (mlO l))) ∧ Below w.heap.size w w') := h1.find h5 hkn k
  cases hl : lkE k (l.map ct) with
  | none =>
    rw [none_of hl] at HF
    have HO : Hid (outE k (l.map ct) = l.map ct) := outE_none (lkE_none.1 hl)
    have HF' : Hid (Calls Try.prog 48 #[.pointer (some ⟨L, 0, none⟩), .string (tx k)] w fun e w' => e = .returned (.pointer none) ∧ Below w.heap.size w w') := HF.out
    clear HF h1 h3 h4 h5 h6 h7 hkn hl
    go_enter Try.func53, Try.ntmps53
    go_wp2_with (go_at_call 48; refine HF'.out.mono ?_; rintro e w1 ⟨rfl, hb1⟩; (have HB1 : Hid (Below w.heap.size w w1) := hb1); clear hb1)
    go_ret
    exact ⟨rfl, F, by rw [HO.out]; exact HH.out.newer HB1.out, Fr.newer HB1.out⟩
  | some x =>
    obtain ⟨a, n, b, rfl, hx, hkey, hout, hlk⟩ := mid_of h4 hl
    rw [hlk] at HF
    have HF' : Hid (Calls Try.prog 48 #[.pointer (some ⟨L, 0, none⟩), .string (tx k)] w fun e w' => e = .returned (.pointer (some ⟨n.N, 0, none⟩)) ∧ Below w.heap.size w w') := HF.out
    have hlen : (1 : Int) ≤ ((a ++ n :: b).length : Int) ∧ ((a ++ n :: b).length : Int) ≤ 1000000 := by simp at h7 ⊢; omega
    have HD : Hid (∀ V, Below w.heap.size w V → Calls Try.prog 49 #[.pointer (some ⟨L, 0, none⟩), .pointer (some ⟨n.N, 0, none⟩)] V fun e w' => e = .returned (.tuple #[]) ∧ Hid (LX w' L M most ((a ++ n :: b).length - 1 : Int) (a ++ b) (a ++ n :: b) ((mlO (a ++ n :: b)).erase (n.key, n.N)) ∧ Fr (LF L M (a ++ n :: b)) (LF L M (a ++ n :: b)) V w')) := fun V hV => (h1.newer hV).drop hkn (List.mem_map.2 ⟨n, by simp, rfl⟩) hlen.1 hlen.2
    have HE : Hid (outE k ((a ++ n :: b).map ct) = (a ++ b).map ct ∧ (((a ++ n :: b).map ct).map It.key).Nodup ∧ 1 ≤ most ∧ most ≤ 1000 ∧ (((a ++ n :: b).map ct).length : Int) ≤ most ∧ ∀ q, F q ↔ LF L M (a ++ n :: b) q) := ⟨hout, h4, h5, h6, h7, h3⟩
    clear HF h1 h3 h4 h5 h6 h7 hkn hl hlk hout hlen HH
    go_enter Try.func53, Try.ntmps53
    go_wp2_with (first | (go_at_call 48; refine HF'.out.mono ?_; rintro e w1 ⟨rfl, hb1⟩; (have HB1 : Hid (Below w.heap.size w w1) := hb1); clear hb1) | (go_at_call 49; refine (HD.out _ HB1.out).mono ?_; rintro e w2 ⟨rfl, H2⟩))
    go_ret
    obtain ⟨e1, e2, e3, e4, e5, e6⟩ := HE.out
    obtain ⟨k1, k2⟩ := H2.out
    refine ⟨rfl, LF L M (a ++ b), ⟨⟨a ++ b, k1.gone, e1, fun q => Iff.rfl⟩, ?_, e3, e4, ?_⟩, ?_⟩
    · rw [e1]
      rw [List.map_append, List.map_append, List.map_cons, List.map_cons] at e2
      rw [List.map_append, List.map_append]
      exact keys_out e2
    · rw [e1]
      simp at e5 ⊢
      omega
    · have f1 : Fr F (LF L M (a ++ n :: b)) w w1 := ⟨HB1.out.os, HB1.out.tape, HB1.out.output, HB1.out.size, fun q hq _ => HB1.out.block q hq, fun q hq => .inl ((e6 q).2 hq)⟩
      exact (f1.trans' k2).sub fun q hq => hq.more fun m hm => by simp at hm ⊢; rcases hm with hm | hm <;> simp [hm]
end Go.Proofs.Ytbcdaddbcjagjaa
