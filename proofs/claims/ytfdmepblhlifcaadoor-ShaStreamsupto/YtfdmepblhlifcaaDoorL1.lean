/- A stream's length; a stream begun anew. -/
import Derived.Test.YtfdmepblhlifcaaDoorI4
namespace Go.Proofs.YtfdmepblhlifcaaDoor
open Go.RowKit Go.Shelf
set_option linter.unusedVariables false
set_option linter.unusedSimpArgs false

theorem wpList_storeV {P : Program} {w w' : World} {ops : Array Oper} {rest : List Oper} {o : Oper} {a : Act} {Q : Exit → Act → World → Prop} (ty : TypeId) (x y : Operand) (ho : o.op = .store ty x y) (hw : Region.wanted o (yielded ops a.tmps) = true)
    (p : Addr) (hx : a.eval x = .pointer (some p)) (v : Value) (hy : a.eval y = v) (hl : (storeVar ty p v).run P w = .ok () w') (h : wpList P ops Q rest (a.put o.dst undef) w') : wpList P ops Q (o :: rest) a w := by
  refine wpList_step fun K hK => ?_
  rw [if_pos hw]
  unfold Oper.wp
  simp only [execOp, ho, hx, hy, Instr.storeAt, Instr.sureAddr, Sem.run_bind, Sem.run_pure, Result.andThen_ok, hl]
  exact hK _ _ h
theorem strC_one (s : List Int) (n : Int) (a : Option Addr) (l c : Nat) (rest : List Int) (left : Int) : (strC s n (.slice a l c) rest left).toArray.all Value.oneCell' = true := by
  have h1 := one_u8s rest
  have h2 := one_chain s n
  rw [Array.all_eq_true_iff_forall_mem] at *
  intro v hv
  simp only [strC, List.mem_toArray, List.mem_append, List.mem_cons, List.mem_nil_iff, or_false] at hv
  rcases hv with h | rfl | rfl | h | rfl
  · exact h2 v (by simp [chainV, u32s]; left; simpa [u32l] using h)
  · rfl
  · rfl
  · exact h1 v (by simpa [u8s, u8l] using h)
  · rfl

set_option maxRecDepth 20000 in
set_option maxHeartbeats 2000000 in
theorem len_any (p : Nat) (s : List Int) (n : Int) (pv : Value) (rest : List Int) (left : Int) (w : World) (h : Str w p s n pv rest left) (hs : s.length = 8) (hr : rest.length = 64) (n0 : 0 ≤ n) (n1 : n ≤ 4000000000000) (l0 : 0 ≤ left) (l1 : left ≤ 64) :
    Calls Tryd.prog 27 #[.pointer (some ⟨p, 0, none⟩)] w fun e w' => e = .returned (.int .i64 (n * 64 + left)) ∧ Below w.heap.size w w' := by
  have c8 := h.blocksAt hs
  have c74 := h.leftAt hs hr
  clear h
  go_enter Tryd.func27, Tryd.ntmps27
  go_wp2_with fail
  go_region
  go_wp2_with fail
  go_ret
  exact ⟨rfl, (Below.refl _ w).drew⟩

set_option maxRecDepth 20000 in
set_option maxHeartbeats 2000000 in
theorem reset_any (p : Nat) (s : List Int) (n : Int) (pv : Value) (rest : List Int) (left : Int) (w : World) (h : Str w p s n pv rest left) (hs : s.length = 8) (hr : rest.length = 64) :
    Calls Tryd.prog 22 #[.pointer (some ⟨p, 0, none⟩)] w fun e w' => (∃ v, e = .returned v) ∧ Str w' p beginI 0 (.slice none 0 0) (List.replicate 64 0) 0 ∧ Bx p w.heap.size w w' := by
  have HH : Hid (Str w p s n pv rest left) := h
  have HS : Hid (s.length = 8 ∧ rest.length = 64) := ⟨hs, hr⟩
  clear h hs hr
  go_enter Tryd.func22, Tryd.ntmps22
  go_wp2_with (first | (go_at_call 19; refine (new_any w).mono ?_; rintro e w1 ⟨⟨q, rfl, hq, hsq⟩, hb1⟩; (have HQ : Hid (Str w1 q beginI 0 (.slice none 0 0) (List.replicate 64 0) 0) := hsq); (have HB : Hid (Below w.heap.size w w1) := hb1); (have HP1 : Hid (Str w1 p s n pv rest left) := HH.out.later (hb1.block _ HH.out.lt)); clear hsq hb1) | (refine wpList_loadV 69 _ rfl rfl ⟨q, 0, none⟩ rfl _ (run_loadVar_row _ _ 69 69 _ (0, 0) _ HQ.out Tryd.underlying69 rfl (by kernel_rfl)) ?_) | (refine wpList_storeV 69 _ _ rfl rfl ⟨p, 0, none⟩ rfl _ rfl (run_storeVar_row _ p 69 69 _ _ HP1.out (by kernel_rfl) (by rw [List.size_toArray, List.size_toArray, strC_len HS.out.1 HS.out.2]; rfl) (strC_one _ _ _ _ _ _ _)) ?_))
  go_end0
  exact ⟨⟨_, rfl⟩, setRow_heap _ _ _ _ _ _ HP1.out, (Bx.of HB.out).trans (Bx.setRow p w.heap.size w1 _)⟩
end Go.Proofs.YtfdmepblhlifcaaDoor
