/- Tables: a session is looked for, and told. -/
import Derived.Test.YtnghgclogeefgaaT1
namespace Go.Proofs.Ytnghgclogeefgaa
open Go.RowKit
set_option linter.unusedVariables false
set_option linter.unusedSimpArgs false

/-- A table: the number told last, its sessions. -/
structure Tb (w : World) (T base : Nat) (last : Int) (sv : Value) (ss : List Se) : Prop where
  tab : w.heap[T]? = some (.cells #[.int .i64 last, sv] 64 (0, 0))
  row : w.ownsRow base 68 5 sv ss.length (seL ss)
  low : base ≤ T
theorem Tb.later {w w' : World} {T base : Nat} {last : Int} {sv : Value} {ss : List Se} {B : Nat} (h : Tb w T base last sv ss) (hb : Below B w w') (hB : w.heap.size ≤ B) : Tb w' T base last sv ss := by
  have hlt := (Array.getElem?_eq_some_iff.1 h.tab).1
  exact ⟨(hb.block T (by omega)).trans h.tab, own_at h.row fun q hq => hb.block q (by have := (h.row.lt q hq).2; omega), h.low⟩
theorem results_two {fn : Func} {p q : Tmp} {ty : TypeId} (h : fn.results = #[.cell p ty, .tmp q]) (tmps : Array Value) (w : World) (g : Nat) (cs : Array Value) (v : Value)
    (hp : tmps.getD p undef = .pointer (some ⟨g, 0, none⟩)) (hq : tmps.getD q undef = v) (hl : (loadVar ty ⟨g, 0, none⟩).run Try.prog w = .ok (.agg cs) w) :
    (results fn tmps).run Try.prog w = .ok (.tuple #[.agg cs, v]) w := by
  have hp' : tmps[p]?.getD undef = .pointer (some ⟨g, 0, none⟩) := by simpa using hp
  have hq' : tmps[q]?.getD undef = v := by simpa using hq
  simp [results, h, hp', hq', asAddr, hl]
theorem new_any (w : World) : Calls Try.prog 17 #[] w fun e w' => e = .returned (.pointer (some ⟨w.heap.size, 0, none⟩)) ∧ w' = w.alloc (.cells #[.int .i64 0, .slice none 0 0] 64) := by
  go_enter Try.func17, Try.ntmps17
  go_wp2
  go_ret
  exact ⟨rfl, rfl⟩
theorem tb_new (w : World) : Tb (w.alloc (.cells #[.int .i64 0, .slice none 0 0] 64)) w.heap.size w.heap.size 0 (.slice none 0 0) [] :=
  ⟨Go.heap_alloc_new _ _, World.ownsRow_nil _ _ _ _, Nat.le_refl _⟩
theorem len_any (T base : Nat) (last : Int) (sv : Value) (ss : List Se) (w : World) (h : Tb w T base last sv ss) : Calls Try.prog 29 #[.pointer (some ⟨T, 0, none⟩)] w fun e w' => e = .returned (.int .i64 (ss.length : Int)) ∧ w' = w := by
  obtain ⟨a, c, e⟩ := own_slice h.row
  have c1 : w.cell? ⟨T, 1, none⟩ = some (.slice a ss.length c) := by rw [cell_of_row _ _ _ _ _ _ h.tab, ← e]; rfl
  clear h e
  go_enter Try.func29, Try.ntmps29
  go_wp2
  go_ret
  exact ⟨rfl, rfl⟩
set_option maxRecDepth 20000 in
theorem find_any (T base : Nat) (last : Int) (sv : Value) (ss : List Se) (id : Int) (w : World) (h : Tb w T base last sv ss) (hl : ss.length ≤ 1000) :
    Calls Try.prog 42 #[.pointer (some ⟨T, 0, none⟩), .int .i64 id] w fun e w' => e = .returned (.tuple #[.int .i64 (ixI ss id), .bool (decide (0 ≤ ixI ss id))]) ∧ Below w.heap.size w w' := by
  have hlt := (Array.getElem?_eq_some_iff.1 h.tab).1
  have h' : Tb (w.alloc (.cells #[.int .i64 id] 2)) T base last sv ss := h.later (bel1 _ _) (Nat.le_refl _)
  have HI : Hid (Calls Try.prog 49 #[sv, .func (.func 50) #[] #[.pointer (some ⟨w.heap.size, 0, none⟩)]] (w.alloc (.cells #[.int .i64 id] 2)) fun e w' => e = .returned (.int .i64 (ixI ss id)) ∧ Below (w.alloc (.cells #[.int .i64 id] 2)).heap.size (w.alloc (.cells #[.int .i64 id] 2)) w') := index_any base sv ss w.heap.size id _ h'.row hl (by rw [cell_of_row _ _ _ _ _ _ (Go.heap_alloc_new _ _)]; rfl)
  obtain ⟨a, c, e⟩ := own_slice h.row
  rw [e] at HI
  have c1 : (w.alloc (.cells #[.int .i64 id] 2)).cell? ⟨T, 1, none⟩ = some (.slice a ss.length c) := by rw [cell_of_row _ _ _ _ _ _ h'.tab, ← e]; rfl
  clear h h' e
  go_enter Try.func42, Try.ntmps42
  go_wp2_with (go_at_call 49; refine HI.out.mono ?_; rintro e w2 ⟨rfl, hb2⟩)
  go_ret2
  exact ⟨rfl, (bel1 _ _).trans (hb2.mono (by simp))⟩
/-- Whether there is a session of a number whose time is not over. -/
def thI (ss : List Se) (id now : Int) : Option Se := match ix ss id with | some k => (match ss[k]? with | some s => if s.til ≤ now then none else some s | none => none) | none => none
set_option maxRecDepth 20000 in
set_option maxHeartbeats 4000000 in
theorem there_any (T base : Nat) (last : Int) (sv : Value) (ss : List Se) (id now : Int) (w : World) (h : Tb w T base last sv ss) (hl : ss.length ≤ 1000) :
    Calls Try.prog 40 #[.pointer (some ⟨T, 0, none⟩), .int .i64 id, .int .i64 now] w fun e w' => e = .returned (.tuple #[.int .i64 (ixI ss id), .bool (thI ss id now).isSome]) ∧ Below w.heap.size w w' := by
  have HF : Hid (Calls Try.prog 42 #[.pointer (some ⟨T, 0, none⟩), .int .i64 id] w fun e w' => e = .returned (.tuple #[.int .i64 (ixI ss id), .bool (decide (0 ≤ ixI ss id))]) ∧ Below w.heap.size w w') := find_any T base last sv ss id w h hl
  have HT : Hid (Tb w T base last sv ss) := h
  cases hx : ix ss id with
  | none =>
    have e1 : ixI ss id = -1 := by unfold ixI; rw [hx]
    have e2 : (thI ss id now).isSome = false := by unfold thI; rw [hx]; rfl
    rw [e2]
    rw [e1] at HF ⊢
    rw [show decide ((0 : Int) ≤ -1) = false from rfl] at HF
    clear h hx e1 e2 HT
    go_enter Try.func40, Try.ntmps40
    go_wp2_with (go_at_call 42; refine HF.out.mono ?_; rintro e w2 ⟨rfl, hb2⟩)
    go_ret2
    exact ⟨rfl, hb2⟩
  | some k =>
    obtain ⟨s, hs, hid⟩ := ix_some ss id k hx
    clear hid
    have e1 : ixI ss id = (k : Int) := by unfold ixI; rw [hx]
    have e2 : (thI ss id now).isSome = !decide (s.til ≤ now) := by unfold thI; rw [hx]; simp only; rw [hs]; simp only; by_cases c : s.til ≤ now <;> simp [c]
    have hk : k < ss.length := (List.getElem?_eq_some_iff.1 hs).1
    rw [e2]
    rw [e1] at HF ⊢
    rw [show decide ((0 : Int) ≤ (k : Int)) = true from decide_eq_true (by omega)] at HF
    have HOV : Hid (∀ W, Calls Try.prog 46 #[.agg #[.int .i64 s.num, .string (tx s.t), .string (tx s.u), .bool s.a, .int .i64 s.til], .int .i64 now] W fun e w' => e = .returned (.bool (decide (s.til ≤ now))) ∧ Below W.heap.size W w') := fun W => over_any s now W
    have HS : Hid (ss[k]? = some s) := hs
    obtain ⟨g, c, e⟩ := own_form h.row (by omega)
    subst e
    have HSC : Hid (SC w g k s ∧ g < w.heap.size) := ⟨own_sc h.row hs, (own_lt h.row).2⟩
    have hk' : (k : Int) < (ss.length : Int) := by omega
    have hcap : (ss.length : Int) ≤ (c : Int) := by have := own_cap h.row; omega
    have hl' : (ss.length : Int) ≤ 1000 := by omega
    clear h hx e1 e2 hs hk
    go_enter Try.func40, Try.ntmps40
    go_wp2_with fail
    refine HF.out.mono ?_
    rintro e w2 ⟨rfl, hb2⟩
    obtain ⟨c0, c1, c2, c3, c4⟩ := HSC.out.1.later hb2 HSC.out.2
    have ht2 := HT.out.later hb2 (Nat.le_refl _)
    have d1 : w2.cell? ⟨T, 1, none⟩ = some (.slice (some ⟨g, 0, none⟩) ss.length c) := by rw [cell_of_row _ _ _ _ _ _ ht2.tab]; rfl
    clear ht2
    go_wp2_with (go_at_call 46; refine (HOV.out _).mono ?_; rintro e w3 ⟨rfl, hb3⟩)
    go_ret2
    exact ⟨rfl, hb2.trans (hb3.mono hb2.size)⟩
/-- What Who answers. -/
def whoV : Option Se → Value
  | some s => .tuple #[.agg (idV s.t s.u s.a), .int .i64 0]
  | none => .tuple #[.agg (idV [] [] false), .int .i64 5]
set_option maxRecDepth 20000 in
set_option maxHeartbeats 2000000 in
theorem who_any (T base : Nat) (last : Int) (sv : Value) (ss : List Se) (id now : Int) (w : World) (h : Tb w T base last sv ss) (hl : ss.length ≤ 1000) :
    Calls Try.prog 20 #[.pointer (some ⟨T, 0, none⟩), .int .i64 id, .int .i64 now] w fun e w' => e = .returned (whoV (thI ss id now)) ∧ Below w.heap.size w w' := by
  have HT : Hid (Tb w T base last sv ss) := h
  have HTH : Hid (∀ W, Tb W T base last sv ss → Calls Try.prog 40 #[.pointer (some ⟨T, 0, none⟩), .int .i64 id, .int .i64 now] W fun e w' => e = .returned (.tuple #[.int .i64 (ixI ss id), .bool (thI ss id now).isSome]) ∧ Below W.heap.size W w') := fun W hW => there_any T base last sv ss id now W hW hl
  clear h
  go_enter Try.func20, Try.ntmps20
  go_wp2_with fail
  obtain ⟨W, hW⟩ : ∃ W, w.alloc (Obj.cells #[Value.string { data := #[] }, Value.string { data := #[] }, Value.bool false] 23) = W := ⟨_, rfl⟩
  have HB : Hid (Below w.heap.size w W) := by show Below _ _ _; rw [← hW]; exact bel1 _ _
  have HR : Hid (W.heap[w.heap.size]? = some (.cells #[.string (tx []), .string (tx []), .bool false] 23 (0, 0))) := by show _ = _; rw [← hW]; exact Go.heap_alloc_new _ _
  have HTW : Hid (Tb W T base last sv ss) := HT.out.later HB.out (Nat.le_refl _)
  rw [hW]
  clear hW
  refine (HTH.out _ HTW.out).mono ?_
  rintro e w2 ⟨rfl, hb2⟩
  have HB2 : Hid (Below W.heap.size W w2) := hb2
  have HR2 : Hid (RS w w2) := ⟨(hb2.block _ (Array.getElem?_eq_some_iff.1 HR.out).1).trans HR.out, HB.out.trans (hb2.mono HB.out.size)⟩
  have HT2 : Hid (Tb w2 T base last sv ss) := HTW.out.later hb2 (Nat.le_refl _)
  have z0 : w2.cell? ⟨w.heap.size, 0, none⟩ = some (.string (tx [])) := by rw [cell_of_row _ _ _ _ _ _ HR2.out.res]; rfl
  have z1 : w2.cell? ⟨w.heap.size, 1, none⟩ = some (.string (tx [])) := by rw [cell_of_row _ _ _ _ _ _ HR2.out.res]; rfl
  have z2 : w2.cell? ⟨w.heap.size, 2, none⟩ = some (.bool false) := by rw [cell_of_row _ _ _ _ _ _ HR2.out.res]; rfl
  have f0 : w2.frozen? ⟨w.heap.size, 0, none⟩ = false := frozen_of_row _ _ 0 _ _ HR2.out.res
  have f1 : w2.frozen? ⟨w.heap.size, 1, none⟩ = false := frozen_of_row _ _ 1 _ _ HR2.out.res
  have f2 : w2.frozen? ⟨w.heap.size, 2, none⟩ = false := frozen_of_row _ _ 2 _ _ HR2.out.res
  clear hb2 HTH HB HR
  cases ho : thI ss id now with
  | none =>
    rw [show (none : Option Se).isSome = false from rfl]
    have HO : Hid (thI ss id now = none) := ho
    clear ho
    go_wp2_with fail
    refine bodyPost_ret (v := whoV none) (results_two Try.results20 _ _ w.heap.size (idV [] [] false) _ rfl rfl (load23 (HR2.out.ans [] [] false).1 rfl)) rfl ⟨by rw [HO.out], (HR2.out.ans [] [] false).2⟩
  | some s =>
    obtain ⟨k, hx, hs⟩ : ∃ k, ix ss id = some k ∧ ss[k]? = some s := by
      unfold thI at ho
      split at ho
      · rename_i k hk
        split at ho
        · rename_i s' hs'
          split at ho
          · cases ho
          · cases ho; exact ⟨k, hk, hs'⟩
        · cases ho
      · cases ho
    have e1 : ixI ss id = (k : Int) := by unfold ixI; rw [hx]
    have hk : k < ss.length := (List.getElem?_eq_some_iff.1 hs).1
    rw [show (some s).isSome = true from rfl, e1]
    obtain ⟨g, c, e⟩ := own_form HT2.out.row (by omega)
    subst e
    obtain ⟨c0, c1, c2, c3, c4⟩ := own_sc HT2.out.row hs
    have d1 : w2.cell? ⟨T, 1, none⟩ = some (.slice (some ⟨g, 0, none⟩) ss.length c) := by rw [cell_of_row _ _ _ _ _ _ HT2.out.tab]; rfl
    have hk' : (k : Int) < (ss.length : Int) := by omega
    have hcap : (ss.length : Int) ≤ (c : Int) := by have := own_cap HT2.out.row; omega
    have hl' : (ss.length : Int) ≤ 1000 := by omega
    have HO : Hid (thI ss id now = some s) := ho
    clear ho hx hs e1 hk
    go_wp2_with fail
    refine bodyPost_ret (v := whoV (some s)) (results_two Try.results20 _ _ w.heap.size (idV s.t s.u s.a) _ rfl rfl (load23 (HR2.out.ans s.t s.u s.a).1 rfl)) rfl ⟨by rw [HO.out], (HR2.out.ans s.t s.u s.a).2⟩
end Go.Proofs.Ytnghgclogeefgaa
