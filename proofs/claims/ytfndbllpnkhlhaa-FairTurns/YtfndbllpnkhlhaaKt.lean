/- Regions that draw, in a round: all but the last operations read. -/
import Derived.Test.YtfndbllpnkhlhaaKr
import Derived.StillTailTactics
namespace Go.Proofs.Ytfndbllpnkhlhaa
open Go.RowKit Go.Shelf
set_option linter.unusedVariables false
set_option linter.unusedSimpArgs false

theorem still_of_quiet {P : Program} {ops : Array Oper} {W : World} {Q : Act → Prop} : ∀ (l : List Oper) (a : Act), wpQuiet P ops (fun w' => w' = W) Q l a → wpStill P ops W Q l a
  | [], a, h => h
  | o :: l, a, h => by
    unfold wpQuiet at h
    unfold wpStill
    split
    · rename_i hw
      rw [if_pos hw] at h
      obtain ⟨v, h1, h2⟩ := h
      have h3 := h1 W rfl
      have h4 := still_of_quiet l _ h2
      unfold Oper.quietAt at h3
      unfold Oper.still
      generalize (execOp a.eval o).run P W = r at h3
      cases r with
      | ok n w' =>
        cases n with
        | value u => obtain ⟨e1, e2⟩ := h3; subst e1; subst e2; exact ⟨rfl, h4⟩
        | skip => obtain ⟨e1, e2⟩ := h3; subst e1; subst e2; exact ⟨rfl, h4⟩
        | enter f args => obtain ⟨e1, e2⟩ := h3; subst e1; exact ⟨rfl, v, e2, h4⟩
        | _ => exact h3.elim
      | halt x w' => exact h3.elim
    · rename_i hw
      rw [if_neg hw] at h
      exact still_of_quiet l _ h
/-- No operation defers a call. -/
def noDefer (ops : Array Oper) : Bool := ops.all fun o => match o.op with | .defer _ => false | _ => true
theorem noDefer_at {ops : Array Oper} (h : noDefer ops = true) {i : Nat} {o : Oper} (hi : ops[i]? = some o) : ∀ c, o.op ≠ .defer c := by
  intro c hc
  obtain ⟨hlt, he⟩ := Array.getElem?_eq_some_iff.1 hi
  have := (Array.all_eq_true.1 h) i hlt
  rw [he] at this
  simp [hc] at this
/-- Only on, with what is said of it. -/
def on (R : Act → World → Prop) : Exit → Act → World → Prop := fun e a w => e = .normal ∧ R a w
theorem oper_lift {P : Program} {n l : Nat} {o : Oper} {a : Act} {w : World} {K K' R : Act → World → Prop} {Q' : Exit → Act → World → Prop} (hd : ∀ c, o.op ≠ .defer c) (hk : ∀ a w, K a w → K' a w) (h : o.wp P a w K (on R)) : o.wpIn (Fence.wide.inRound l) n P a w K' Q' := by
  unfold Oper.wp at h
  unfold Oper.wpIn
  refine ⟨fun _ _ => trivial, ?_⟩
  rw [Oper.semAt_plain _ _ _ hd]
  generalize (execOp a.eval o).run P w = r at *
  cases r with
  | ok x w' =>
    cases x <;> simp only [Oper.upon] at h <;> simp only [Oper.uponIn]
    case value u => exact hk _ _ h
    case skip => exact hk _ _ h
    case defer d => exact hk _ _ h
    case enter f args =>
      refine ⟨fun h => by simp [Fence.wide] at h, ?_⟩
      exact (CallsIn.inRound l (callsIn_wide.2 h)).mono fun e w'' he => by
        cases e with
        | returned v => exact hk _ _ he
        | panicked c => exact absurd he.1 (by simp)
        | outgrown => obtain ⟨_, _, h1, _⟩ := he; exact absurd h1 (by simp)
    case row row args =>
      refine ⟨fun h => by simp [Fence.wide] at h, fun c cs _ => ?_⟩
      obtain ⟨v, w2, h1, h2⟩ := h c cs
      exact ⟨v, w2, hk _ _ h1, stepsIn_wide.2 h2⟩
  | halt x w' => cases x <;> simp only [Oper.upon] at h <;> first | exact h.elim | exact absurd h.1 (by simp)
theorem op_lift {P : Program} {ops : Array Oper} {n l i : Nat} {a : Act} {w : World} {K K' R : Act → World → Prop} {Q' : Exit → Act → World → Prop} (hnd : noDefer ops = true) (hk : ∀ a w, K a w → K' a w) (h : wpOp P ops (on R) i K a w) : wpOpIn (Fence.wide.inRound l) n P ops Q' i K' a w := by
  unfold wpOp at h
  unfold wpOpIn
  split
  · rename_i ho; simp only [ho] at h; exact hk _ _ h
  · rename_i o ho
    simp only [ho] at h
    split
    · rename_i hw
      simp only [hw, if_true] at h
      rcases h with h | ⟨_, _, _, h1, _⟩
      · exact oper_lift (noDefer_at hnd ho) hk h
      · exact absurd h1 (by simp)
    · rename_i hw; simp only [hw] at h; exact ⟨fun _ _ => trivial, hk _ _ h⟩
theorem any_lift {P : Program} {md : Region.Mode} {ops : Array Oper} {n l : Nat} {R : Act → World → Prop} {Q' : Exit → Act → World → Prop} (hnd : noDefer ops = true) (hQ : ∀ a w, R a w → Q' .normal a w) : ∀ (fuel : Nat) (listed : Array Bool) (a : Act) (w : World),
    wpAny P md ops (on R) fuel listed a w → wpAnyIn (Fence.wide.inRound l) n P md ops Q' fuel listed a w
  | 0, _, _, _, h => ⟨h.1, hQ _ _ h.2.2⟩
  | fuel + 1, _, _, _, h => ⟨fun h0 => hQ _ _ (h.1 h0).2, fun i hi => op_lift hnd (fun a' w' => any_lift hnd hQ fuel _ a' w') (h.2 i hi)⟩
/-- All orders of operations of which the first k read, and come in any order, and the others come behind them one after another. -/
theorem any_tail {P : Program} {Q : Exit → Act → World → Prop} {a : Act} {w : World} (ls : List Oper) (k : Nat) (hB : Region.lexTailB .any ls.toArray k = true)
    (h : wpStill P ls.toArray w (fun a' => wpList P ls.toArray Q (ls.drop k) a' w) (ls.take k) a) : wpAny P .any ls.toArray Q ls.toArray.size (Array.replicate ls.toArray.size false) a w := by
  unfold Region.lexTailB at hB
  obtain ⟨hB, b5⟩ := Bool.and_eq_true_iff.1 hB
  obtain ⟨hB, b4⟩ := Bool.and_eq_true_iff.1 hB
  obtain ⟨hB, b3⟩ := Bool.and_eq_true_iff.1 hB
  obtain ⟨b1, b2⟩ := Bool.and_eq_true_iff.1 hB
  have hlt : k < ls.toArray.size := of_decide_eq_true b2
  have hk : k ≤ ls.length := by rw [List.size_toArray] at hlt; omega
  have l1 : (ls.take k).length = k := List.length_take_of_le hk
  have l2 : (ls.drop k).length = ls.toArray.size - k := by rw [List.length_drop, List.size_toArray]
  have back : ∀ (listed : Array Bool) (a' : Act), Region.seqB .any ls.toArray (ls.toArray.size - k) k listed = true ∧ wpList P ls.toArray Q (ls.drop k) a' w → wpAny P .any ls.toArray Q (ls.toArray.size - k) listed a' w := by
    rintro listed a' ⟨s1, s2⟩
    rw [← l2] at s1 ⊢
    exact wpAny_of_seq (ls.drop k) k listed a' w (fun j => by rw [List.getElem?_drop, List.getElem?_toArray]) s1 s2
  have none_yet : HeadInv .any ls.toArray k (Array.replicate ls.toArray.size false) := by
    refine ⟨Array.size_replicate, ?_, fun t _ ht => getD_in (by rw [Array.size_replicate]; exact ht) (getD_replicate_false _ _)⟩
    intro j oj _ hl
    rw [getD_replicate_false] at hl
    exact absurd hl (by decide)
  have front := wpAnyL_lex (P := P) (w := w) b1 b3 b4 hlt (ls.take k) 0 _ a (fun j hj => by rw [l1] at hj; rw [List.getElem?_take_of_lt hj, Nat.zero_add, List.getElem?_toArray]) (by rw [l1, Nat.zero_add]) none_yet (by rw [l1]; exact b5) h
  have all := wpAny_of_head back _ _ _ front
  rwa [l1, Nat.add_sub_cancel' (Nat.le_of_lt hlt)] at all
/-- A region that draws, in a round: all but the last operations read. -/
theorem region_round_tail {P : Program} {id n l : Nat} {Q : Exit → Act → World → Prop} {a : Act} {w : World} {ls : List Oper} (k : Nat) (hnd : noDefer ls.toArray = true) (hm : P.follows .mixedOrders = true) (hB : Region.lexTailB .any ls.toArray k = true)
    (h : wpStill P ls.toArray w.drew (fun a' => wpList P ls.toArray (on (Q .normal)) (ls.drop k) a' w.drew) (ls.take k) a) : (Code.region id ls.toArray true).wpIn (Fence.wide.inRound l) n P Q a w :=
  wpIn_region_any hm (any_lift hnd (R := Q .normal) (fun _ _ h => h) _ _ _ _ (any_tail ls k hB h))
end Go.Proofs.Ytfndbllpnkhlhaa
