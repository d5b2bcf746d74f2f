/- Get of a list by keys. -/
import Derived.Test.YtbcdaddbcjagjaaIi
namespace Go.Proofs.Ytbcdaddbcjagjaa.I
open Go.RowKit
set_option linter.unusedVariables false
set_option linter.unusedSimpArgs false

variable {w w' : World} {L M : Nat} {F : Nat → Prop} {most : Int} {es : List It}
theorem LX.front {a b : List Nod} {n : Nod} (h : LX w L M most ((a ++ n :: b).length : Int) (n :: (a ++ b)) (a ++ n :: b) (mlO (a ++ n :: b))) : LX w L M most ((n :: (a ++ b)).length : Int) (n :: (a ++ b)) (n :: (a ++ b)) (mlO (n :: (a ++ b))) := by
  have h2 := (h.less (dl' := n :: (a ++ b)) (fun m hm => by simp at hm ⊢; rcases hm with hm | hm | hm <;> simp [hm]) fun m hm => hm).mlp ((mid_perm a b n).map _)
  have e : ((a ++ n :: b).length : Int) = ((n :: (a ++ b)).length : Int) := by simp; omega
  rwa [e] at h2
def gtV (o : Option It) : Value := match o with | some x => .tuple #[.int .i64 x.v, .bool true] | none => .tuple #[.int .i64 0, .bool false]
set_option maxRecDepth 20000 in
set_option maxHeartbeats 4000000 in
theorem LR.get (h : LR w L M F most es) (k : Int) : Calls Try.prog 10 #[.pointer (some ⟨L, 0, none⟩), .int .i64 k] w fun e w' => e = .returned (gtV (lkE k es)) ∧ ∃ F', LR w' L M F' most (getE k es) ∧ Fr F F' w w' := by
  have HH : Hid (LR w L M F most es) := h
  obtain ⟨⟨l, h1, rfl, h3⟩, h4, h5, h7⟩ := h
  have hkn : ((mlO l).map Prod.fst).Nodup := by rw [mlO_fst]; exact h4
  have HF : Hid (Calls Try.prog 26 #[.pointer (some ⟨L, 0, none⟩), .int .i64 k] w fun e w' => e = .returned (ptM (lkM k (mlO l))) ∧ Below w.heap.size w w') := h1.find h5 hkn k
  cases hl : lkE k (l.map ct) with
  | none =>
    rw [none_of hl] at HF
    have HO : Hid (getE k (l.map ct) = l.map ct) := by show _ = _; unfold getE; rw [hl]
    have HF' : Hid (Calls Try.prog 26 #[.pointer (some ⟨L, 0, none⟩), .int .i64 k] w fun e w' => e = .returned (.pointer none) ∧ Below w.heap.size w w') := HF.out
    clear HF h1 h3 h4 h5 h7 hkn hl
    go_enter Try.func10, Try.ntmps10
    go_wp2_with (go_at_call 26; refine HF'.out.mono ?_; rintro e w1 ⟨rfl, hb1⟩; (have HB1 : Hid (Below w.heap.size w w1) := hb1); clear hb1)
    go_ret2
    exact ⟨rfl, F, by rw [HO.out]; exact HH.out.newer HB1.out, Fr.newer HB1.out⟩
  | some x =>
    obtain ⟨a, n, b, rfl, hx, hkey, hout, hlk⟩ := mid_of h4 hl
    rw [hlk] at HF
    have HF' : Hid (Calls Try.prog 26 #[.pointer (some ⟨L, 0, none⟩), .int .i64 k] w fun e w' => e = .returned (.pointer (some ⟨n.N, 0, none⟩)) ∧ Below w.heap.size w w') := HF.out
    have HE : Hid (getE k ((a ++ n :: b).map ct) = (n :: (a ++ b)).map ct ∧ (((a ++ n :: b).map ct).map It.key).Nodup ∧ 1 ≤ most ∧ (((a ++ n :: b).map ct).length : Int) ≤ most ∧ ∀ q, F q ↔ LF L M (a ++ n :: b) q) := ⟨by unfold getE; rw [hl, hout, ← hx]; rfl, h4, h5, h7, h3⟩
    have HX : Hid (LX w L M most ((a ++ n :: b).length : Int) (a ++ n :: b) (a ++ n :: b) (mlO (a ++ n :: b))) := h1
    obtain rfl := hx
    clear HF h1 h3 h4 h5 h7 hkn hl hout hlk HH
    go_enter Try.func10, Try.ntmps10
    go_upto_region 5 with (go_at_call 26; refine HF'.out.mono ?_; rintro e w1 ⟨rfl, hb1⟩; (have HBW : Hid (Below w.heap.size w w1) := hb1); clear hb1)
    have HL : Hid (Calls Try.prog 27 #[.pointer (some ⟨n.N, 0, none⟩)] w1 fun e w' => e = .returned (.tuple #[]) ∧ Hid (LX w' L M most ((a ++ n :: b).length : Int) (a ++ b) (a ++ n :: b) (mlO (a ++ n :: b)) ∧ Fr (LF L M (a ++ n :: b)) (LF L M (a ++ n :: b)) w1 w')) := (HX.out.newer HBW.out).leave
    have HNL : Hid (n.N ∉ (a ++ b).map Nod.N) := by
      have := HX.out.nd
      rw [List.map_append, List.map_cons] at this
      show n.N ∉ (a ++ b).map Nod.N
      rw [List.map_append]
      exact nd_mid this
    clear HF'
    go_upto_region 6 with (go_at_call 27; refine HL.out.mono ?_; rintro e w2 ⟨rfl, H2⟩)
    have HLD : Hid (Calls Try.prog 28 #[.pointer (some ⟨L, 0, none⟩), .pointer (some ⟨n.N, 0, none⟩)] w2 fun e w' => e = .returned (.tuple #[]) ∧ Hid (LX w' L M most ((a ++ n :: b).length : Int) (n :: (a ++ b)) (a ++ n :: b) (mlO (a ++ n :: b)) ∧ Fr (LF L M (a ++ n :: b)) (LF L M (a ++ n :: b)) w2 w')) := H2.out.1.lead (by simp) HNL.out
    go_upto_region 7 with (go_at_call 28; refine HLD.out.mono ?_; rintro e w3 ⟨rfl, H3⟩)
    have HF3 : Hid (Fr (LF L M (a ++ n :: b)) (LF L M (a ++ n :: b)) w1 w3) := H2.out.2.trans' H3.out.2
    obtain ⟨hb, q0, q1⟩ := H3.out.1.nb n (by simp)
    clear hb q0 HL HLD H2
    go_wp2_with fail
    go_ret2
    obtain ⟨e1, e2, e3, e5, e6⟩ := HE.out
    have f1 : Fr F (LF L M (a ++ n :: b)) w w1 := ⟨HBW.out.os, HBW.out.tape, HBW.out.output, HBW.out.size, fun q hq _ => HBW.out.block q hq, fun q hq => .inl ((e6 q).2 hq)⟩
    refine ⟨rfl, LF L M (n :: (a ++ b)), ⟨⟨n :: (a ++ b), H3.out.1.front, e1, fun q => Iff.rfl⟩, ?_, e3, ?_⟩, (f1.trans' HF3.out).sub fun q hq => hq.more fun m hm => by simp at hm ⊢; rcases hm with hm | hm | hm <;> simp [hm]⟩
    · rw [e1]
      exact (((mid_perm a b n).map ct).map It.key).nodup_iff.1 e2
    · rw [e1]
      simp at e5 ⊢
      omega
end Go.Proofs.Ytbcdaddbcjagjaa.I
