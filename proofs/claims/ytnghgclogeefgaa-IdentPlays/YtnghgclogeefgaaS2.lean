/- The law of texts: who asks is read and written, there and back. -/
import Derived.Test.YtnghgclogeefgaaS1
import Derived.DeepKeys
import Derived.StillTailTactics
namespace Go.Proofs.Ytnghgclogeefgaa
open Go.RowKit
set_option linter.unusedVariables false
set_option linter.unusedSimpArgs false

theorem eqId (t u : List UInt8) (b : Bool) (ht : (t.length : Int) ≤ 140737488351232) (hu : (u.length : Int) ≤ 140737488351232) (w : World) : (Op.equalIn 10000 23 (.agg #[.string (tx t), .string (tx u), .bool b]) (.agg #[.string (tx t), .string (tx u), .bool b])).run Try.prog w = .ok true w := by
  have c9 : Try.prog.cellsOf 9 = 1 := by kernel_rfl
  have c4 : Try.prog.cellsOf 4 = 1 := by kernel_rfl
  have c23 : Try.prog.cellsOf 23 = 3 := by kernel_rfl
  have l1 : (tx t).size ≤ maxLen := by rw [tx_size]; unfold maxLen; omega
  have l2 : (tx u).size ≤ maxLen := by rw [tx_size]; unfold maxLen; omega
  have hk : Try.prog.keyLits 2 23 [.string (tx t), .string (tx u), .bool b] = some [.string (tx t).data.toList, .string (tx u).data.toList, .bool b] := by
    simp [Program.keyLits, Try.underlying23, Try.underlying9, Try.underlying4, c9, c4, c23, l1, l2]
  have hf : Value.formed Try.prog 23 (.agg #[.string (tx t), .string (tx u), .bool b]) = true := by
    unfold Value.formed
    simp only [Try.underlying23, c23]
    rfl
  obtain ⟨r, hr, hiff⟩ := run_equalIn_deep (P := Try.prog) 9998 2 23 (by kernel_rfl) w 2 2 (.agg #[.string (tx t), .string (tx u), .bool b]) (.agg #[.string (tx t), .string (tx u), .bool b]) _ _ hf hf hk hk
  rw [hiff.2 rfl] at hr
  exact hr
theorem region_quietC {P : Program} {id : Nat} {Q : Exit → Act → World → Prop} {a : Act} {w : World} {l : List Oper} (C : World → Prop) (hm : P.follows .mixedOrders = true) (hB : Region.lexB .any l.toArray = true) (hC : C w.drew)
    (h : wpQuiet P l.toArray C (fun a' => ∀ w', C w' → Q .normal a' w') l a) : (Code.region id l.toArray true).wp P Q a w :=
  wp_region_quiet (C := C) hm hB hC (by simpa using h)
theorem quiet_loadC {P : Program} {C : World → Prop} {a : Act} {o : Oper} {K : Act → Prop} (ty : TypeId) (x : Operand) (ho : o.op = .load ty x) (p : Addr) (hx : a.eval x = .pointer (some p)) (v : Value) (hl : ∀ W, C W → (loadVar ty p).run P W = .ok v W)
    (hk : K (a.put o.dst v)) : o.quiet P a C K := by
  refine ⟨v, fun w hw => ?_, hk⟩
  unfold Oper.quietAt
  simp only [execOp, ho, hx, Instr.loadAt, Instr.sureAddr, Sem.run_bind, Sem.run_pure, Result.andThen_ok, hl w hw]
  exact ⟨rfl, rfl⟩
/-- What was read of a text, with letters. -/
theorem res_form (s : List UInt8) : ∃ t u b E K, resP (pI s) = .tuple #[.agg #[.string (tx t), .string (tx u), .bool b], .int .i64 E, .int .i64 K] ∧ ((E = 0 ∧ pI s = .inl (t, u, b)) ∨ E = 100) ∧ (t.length : Int) ≤ 140737488351232 ∧ (u.length : Int) ≤ 140737488351232 := by
  cases h : pI s with
  | inl x =>
    obtain ⟨t, u, b⟩ := x
    obtain ⟨h1, h2, _⟩ := p_was s t u b h
    have := nl_max t
    have := nl_max u
    have := h1.2
    have := h2.2
    exact ⟨t, u, b, 0, 0, rfl, .inl ⟨rfl, rfl⟩, by omega, by omega⟩
  | inr k => exact ⟨[], [], false, 100, k, rfl, .inr rfl, by simp, by simp⟩
theorem pr_form (t u : List UInt8) (b : Bool) : ∃ p G, prV t u b = .tuple #[.string (tx p), .int .i64 G] ∧ ((G = 0 ∧ rn t ∧ rn u ∧ p = prI t u b) ∨ G = 100) := by
  by_cases h : rn t ∧ rn u
  · exact ⟨_, 0, by unfold prV; rw [if_pos h], .inl ⟨rfl, h.1, h.2, rfl⟩⟩
  · exact ⟨_, 100, by unfold prV; rw [if_neg h], .inr rfl⟩
set_option maxRecDepth 20000 in
set_option maxHeartbeats 8000000 in
theorem reads_law (s t u : List UInt8) (b : Bool) (w : World) (hm : (s.length : Int) ≤ 140737488351232) (ht : (t.length : Int) ≤ 140737488351232) (hu : (u.length : Int) ≤ 140737488351232)
    (hK : ∀ W : World, Below w.heap.size w W → Calls Try.prog 16 #[] W fun e w' => e = .returned (.bool true) ∧ Below W.heap.size W w') :
    Calls Try.prog 3 #[.string (tx s), .agg #[.string (tx t), .string (tx u), .bool b]] w fun e w' => e = .returned (.bool true) ∧ Below w.heap.size w w' := by
  have HM : Hid ((s.length : Int) ≤ 140737488351232 ∧ (t.length : Int) ≤ 140737488351232 ∧ (u.length : Int) ≤ 140737488351232) := ⟨hm, ht, hu⟩
  have HK : Hid _ := hK
  obtain ⟨at', au, ab, E, K, hres, hE, ha1, ha2⟩ := res_form s
  obtain ⟨p, G, hpr, hG⟩ := pr_form t u b
  have HE : Hid ((E = 0 ∧ pI s = .inl (at', au, ab)) ∨ E = 100) := hE
  have HG : Hid ((G = 0 ∧ rn t ∧ rn u ∧ p = prI t u b) ∨ G = 100) := hG
  have H8 : Hid (∀ W, Calls Try.prog 8 #[.string (tx s)] W fun e w' => e = .returned (.tuple #[.agg #[.string (tx at'), .string (tx au), .bool ab], .int .i64 E, .int .i64 K]) ∧ Below W.heap.size W w') := fun W => by have h := parse_any s W hm; rw [hres] at h; exact h
  have H9 : Hid (∀ W, Calls Try.prog 9 #[.string (tx s)] W fun e w' => e = .returned (.tuple #[.agg #[.string (tx at'), .string (tx au), .bool ab], .int .i64 E, .int .i64 K]) ∧ Below W.heap.size W w') := fun W => by have h := rparse_any s W hm; rw [hres] at h; exact h
  have H10 : Hid (∀ W, Calls Try.prog 10 #[.agg #[.string (tx t), .string (tx u), .bool b]] W fun e w' => e = .returned (.tuple #[.string (tx p), .int .i64 G]) ∧ Below W.heap.size W w') := fun W => by have h := print_any t u b W ht hu; rw [hpr] at h; exact h
  have H11 : Hid (∀ W, Calls Try.prog 11 #[.agg #[.string (tx t), .string (tx u), .bool b]] W fun e w' => e = .returned (.tuple #[.string (tx p), .int .i64 G]) ∧ Below W.heap.size W w') := fun W => by have h := rprint_any t u b W ht hu; rw [hpr] at h; exact h
  have EQ1 := eqId at' au ab ha1 ha2
  have EQ2 := eqId t u b ht hu
  have HEQ2 : Hid (∀ W, (Op.equalIn 10000 23 (.agg #[.string (tx t), .string (tx u), .bool b]) (.agg #[.string (tx t), .string (tx u), .bool b])).run Try.prog W = .ok true W) := EQ2
  clear hK hres hpr hE hG ha1 ha2 hm ht hu EQ2
  go_enter Try.func3, Try.ntmps3
  go_wp2_with fail
  obtain ⟨W0, hW0⟩ : ∃ W0, w.alloc (.cells #[.string (tx t), .string (tx u), .bool b] 23) = W0 := ⟨_, rfl⟩
  have HI0 : Hid (W0.heap[w.heap.size]? = some (.cells #[.string (tx t), .string (tx u), .bool b] 23 (0, 0)) ∧ Below w.heap.size w W0) := by rw [← hW0]; exact ⟨Go.heap_alloc_new _ _, bel1' _ _⟩
  rw [hW0]
  clear hW0
  refine (H8.out W0).mono ?_
  rintro e w1 ⟨rfl, hb1⟩
  go_wp2_with fail
  obtain ⟨W1, hW1⟩ : ∃ W1, w1.alloc (.cells #[.string (tx at'), .string (tx au), .bool ab] 23) = W1 := ⟨_, rfl⟩
  have h01 : Below W0.heap.size W0 W1 := by rw [← hW1]; exact hb1.trans ((bel1' _ _).mono hb1.size)
  have l0 : w.heap.size < W0.heap.size := (Array.getElem?_eq_some_iff.1 HI0.out.1).1
  have HI1 : Hid (W1.heap[w.heap.size]? = some (.cells #[.string (tx t), .string (tx u), .bool b] 23 (0, 0)) ∧ W1.heap[w1.heap.size]? = some (.cells #[.string (tx at'), .string (tx au), .bool ab] 23 (0, 0)) ∧ Below w.heap.size w W1) := ⟨(h01.block _ l0).trans HI0.out.1, by rw [← hW1]; exact Go.heap_alloc_new _ _, HI0.out.2.trans (h01.mono HI0.out.2.size)⟩
  rw [hW1]
  generalize w1.heap.size = q5 at HI1 ⊢
  clear hW1 h01 hb1 HI0 l0
  refine (H9.out W1).mono ?_
  rintro e w2 ⟨rfl, hb2⟩
  go_upto_region 3 with fail
  obtain ⟨W2, hW2⟩ : ∃ W2, w2.alloc (.cells #[.string (tx at'), .string (tx au), .bool ab] 23) = W2 := ⟨_, rfl⟩
  have h12 : Below W1.heap.size W1 W2 := by rw [← hW2]; exact hb2.trans ((bel1' _ _).mono hb2.size)
  have HI2 : Hid (W2.heap[w.heap.size]? = some (.cells #[.string (tx t), .string (tx u), .bool b] 23 (0, 0)) ∧ W2.heap[q5]? = some (.cells #[.string (tx at'), .string (tx au), .bool ab] 23 (0, 0)) ∧ W2.heap[w2.heap.size]? = some (.cells #[.string (tx at'), .string (tx au), .bool ab] 23 (0, 0)) ∧ Below w.heap.size w W2) := ⟨(h12.block _ (Array.getElem?_eq_some_iff.1 HI1.out.1).1).trans HI1.out.1, (h12.block _ (Array.getElem?_eq_some_iff.1 HI1.out.2.1).1).trans HI1.out.2.1, by rw [← hW2]; exact Go.heap_alloc_new _ _, HI1.out.2.2.trans (h12.mono HI1.out.2.2.size)⟩
  rw [hW2]
  generalize w2.heap.size = q8 at HI2 ⊢
  clear hW2 h12 hb2 HI1
  have i0 : W2.cell? ⟨w.heap.size, 0, none⟩ = some (.string (tx t)) := by rw [cell_of_row _ _ _ _ _ _ HI2.out.1]; rfl
  have i1 : W2.cell? ⟨w.heap.size, 1, none⟩ = some (.string (tx u)) := by rw [cell_of_row _ _ _ _ _ _ HI2.out.1]; rfl
  have i2 : W2.cell? ⟨w.heap.size, 2, none⟩ = some (.bool b) := by rw [cell_of_row _ _ _ _ _ _ HI2.out.1]; rfl
  go_wp2_with fail
  refine (H10.out W2).mono ?_
  rintro e W3 ⟨rfl, hb3⟩
  have HI3 : Hid (W3.heap[w.heap.size]? = some (.cells #[.string (tx t), .string (tx u), .bool b] 23 (0, 0)) ∧ W3.heap[q5]? = some (.cells #[.string (tx at'), .string (tx au), .bool ab] 23 (0, 0)) ∧ W3.heap[q8]? = some (.cells #[.string (tx at'), .string (tx au), .bool ab] 23 (0, 0)) ∧ Below w.heap.size w W3) := ⟨(hb3.block _ (Array.getElem?_eq_some_iff.1 HI2.out.1).1).trans HI2.out.1, (hb3.block _ (Array.getElem?_eq_some_iff.1 HI2.out.2.1).1).trans HI2.out.2.1, (hb3.block _ (Array.getElem?_eq_some_iff.1 HI2.out.2.2.1).1).trans HI2.out.2.2.1, HI2.out.2.2.2.trans (hb3.mono HI2.out.2.2.2.size)⟩
  clear hb3 HI2 i0 i1 i2
  have i0 : W3.cell? ⟨w.heap.size, 0, none⟩ = some (.string (tx t)) := by rw [cell_of_row _ _ _ _ _ _ HI3.out.1]; rfl
  have i1 : W3.cell? ⟨w.heap.size, 1, none⟩ = some (.string (tx u)) := by rw [cell_of_row _ _ _ _ _ _ HI3.out.1]; rfl
  have i2 : W3.cell? ⟨w.heap.size, 2, none⟩ = some (.bool b) := by rw [cell_of_row _ _ _ _ _ _ HI3.out.1]; rfl
  go_wp2_with fail
  refine (H11.out W3).mono ?_
  rintro e W4 ⟨rfl, hb4⟩
  have HI4 : Hid (W4.heap[w.heap.size]? = some (.cells #[.string (tx t), .string (tx u), .bool b] 23 (0, 0)) ∧ W4.heap[q5]? = some (.cells #[.string (tx at'), .string (tx au), .bool ab] 23 (0, 0)) ∧ W4.heap[q8]? = some (.cells #[.string (tx at'), .string (tx au), .bool ab] 23 (0, 0)) ∧ Below w.heap.size w W4) := ⟨(hb4.block _ (Array.getElem?_eq_some_iff.1 HI3.out.1).1).trans HI3.out.1, (hb4.block _ (Array.getElem?_eq_some_iff.1 HI3.out.2.1).1).trans HI3.out.2.1, (hb4.block _ (Array.getElem?_eq_some_iff.1 HI3.out.2.2.1).1).trans HI3.out.2.2.1, HI3.out.2.2.2.trans (hb4.mono HI3.out.2.2.2.size)⟩
  clear hb4 HI3 i0 i1 i2
  go_upto_region 5 with fail
  obtain ⟨C, hC⟩ : ∃ C : World → Prop, C = Below W4.heap.size W4 := ⟨_, rfl⟩
  have ct : ∀ V V', C V → Below V.heap.size V V' → C V' := fun V V' hV hb => by rw [hC] at hV ⊢; exact hV.trans (hb.mono hV.size)
  have HCd : Hid (C W4.drew) := by show C _; rw [hC]; exact (Below.refl _ W4).drew
  have HCI : Hid (∀ V, C V → V.heap[w.heap.size]? = some (.cells #[.string (tx t), .string (tx u), .bool b] 23 (0, 0)) ∧ V.heap[q5]? = some (.cells #[.string (tx at'), .string (tx au), .bool ab] 23 (0, 0)) ∧ V.heap[q8]? = some (.cells #[.string (tx at'), .string (tx au), .bool ab] 23 (0, 0)) ∧ Below w.heap.size w V) := fun V hV => by
    rw [hC] at hV
    exact ⟨(hV.block _ (Array.getElem?_eq_some_iff.1 HI4.out.1).1).trans HI4.out.1, (hV.block _ (Array.getElem?_eq_some_iff.1 HI4.out.2.1).1).trans HI4.out.2.1, (hV.block _ (Array.getElem?_eq_some_iff.1 HI4.out.2.2.1).1).trans HI4.out.2.2.1, HI4.out.2.2.2.trans (hV.mono HI4.out.2.2.2.size)⟩
  have HC12 : Hid (∀ V, C V → Calls Try.prog 12 #[.agg #[.string (tx t), .string (tx u), .bool b]] V fun e w' => e = .returned (.int .i64 (rtI t u)) ∧ C w') := fun V hV => (rightI_any t u b V HM.out.2.1 HM.out.2.2).mono fun e w' ⟨h1, h2⟩ => ⟨h1, ct V w' hV h2⟩
  have HC13 : Hid (∀ V, C V → Calls Try.prog 13 #[.agg #[.string (tx t), .string (tx u), .bool b]] V fun e w' => e = .returned (.int .i64 (rtI t u)) ∧ C w') := fun V hV => (rrightI_any t u b V HM.out.2.1 HM.out.2.2).mono fun e w' ⟨h1, h2⟩ => ⟨h1, ct V w' hV h2⟩
  have HC14 : Hid (∀ V, C V → Calls Try.prog 14 #[.string (tx s)] V fun e w' => e = .returned (.bool (decide (rn s))) ∧ C w') := fun V hV => (name_any s V HM.out.1).mono fun e w' ⟨h1, h2⟩ => ⟨h1, by rw [h2]; exact hV⟩
  have HC15 : Hid (∀ V, C V → Calls Try.prog 15 #[.string (tx s)] V fun e w' => e = .returned (.bool (decide (rn s))) ∧ C w') := fun V hV => (rname_ref s V HM.out.1).mono fun e w' ⟨h1, h2⟩ => ⟨h1, by rw [h2]; exact hV⟩
  have HL3 : Hid (∀ V, C V → (loadVar 23 ⟨w.heap.size, 0, none⟩).run Try.prog V = .ok (.agg #[.string (tx t), .string (tx u), .bool b]) V) := fun V hV => load23 (HCI.out V hV).1 rfl
  have HL5 : Hid (∀ V, C V → (loadVar 23 ⟨q5, 0, none⟩).run Try.prog V = .ok (.agg #[.string (tx at'), .string (tx au), .bool ab]) V) := fun V hV => load23 (HCI.out V hV).2.1 rfl
  have HL8 : Hid (∀ V, C V → (loadVar 23 ⟨q8, 0, none⟩).run Try.prog V = .ok (.agg #[.string (tx at'), .string (tx au), .bool ab]) V) := fun V hV => load23 (HCI.out V hV).2.2.1 rfl
  generalize rtI t u = R at HC12 HC13
  generalize decide (rn s) = N at HC14 HC15
  clear ct hC HI4
  refine region_quietC C (by kernel_rfl) (by kernel_rfl) HCd.out ?_
  (go_big_quiet_want; refine quiet_loadC 23 _ rfl ⟨q5, 0, none⟩ rfl _ HL5.out ?_; go_big_quiet_on)
  simp only [Act.put, List.setIfInBounds_toArray, List.set_cons_succ, List.set_cons_zero]
  (go_big_quiet_want; refine quiet_loadC 23 _ rfl ⟨q8, 0, none⟩ rfl _ HL8.out ?_; go_big_quiet_on)
  simp only [Act.put, List.setIfInBounds_toArray, List.set_cons_succ, List.set_cons_zero]
  (first | (go_big_quiet_want; go_big_quiet_op; go_big_quiet_on) | (go_big_quiet_want; go_big_quiet_op; refine ⟨_, fun _ _ => rfl, ?_⟩; go_big_quiet_on))
  (first | (go_big_quiet_want; go_big_quiet_op; go_big_quiet_on) | (go_big_quiet_want; go_big_quiet_op; refine ⟨_, fun _ _ => rfl, ?_⟩; go_big_quiet_on))
  (first | (go_big_quiet_want; go_big_quiet_op; go_big_quiet_on) | (go_big_quiet_want; go_big_quiet_op; refine ⟨_, fun _ _ => rfl, ?_⟩; go_big_quiet_on))
  (first | (go_big_quiet_want; go_big_quiet_op; go_big_quiet_on) | (go_big_quiet_want; go_big_quiet_op; refine ⟨_, fun _ _ => rfl, ?_⟩; go_big_quiet_on))
  (first | (go_big_quiet_want; go_big_quiet_op; go_big_quiet_on) | (go_big_quiet_want; go_big_quiet_op; refine ⟨_, fun _ _ => rfl, ?_⟩; go_big_quiet_on))
  (first | (go_big_quiet_want; go_big_quiet_op; go_big_quiet_on) | (go_big_quiet_want; go_big_quiet_op; refine ⟨_, fun _ _ => rfl, ?_⟩; go_big_quiet_on))
  (first | (go_big_quiet_want; go_big_quiet_op; go_big_quiet_on) | (go_big_quiet_want; go_big_quiet_op; refine ⟨_, fun _ _ => rfl, ?_⟩; go_big_quiet_on))
  (first | (go_big_quiet_want; go_big_quiet_op; go_big_quiet_on) | (go_big_quiet_want; go_big_quiet_op; refine ⟨_, fun _ _ => rfl, ?_⟩; go_big_quiet_on))
  (first | (go_big_quiet_want; go_big_quiet_op; go_big_quiet_on) | (go_big_quiet_want; go_big_quiet_op; refine ⟨_, fun _ _ => rfl, ?_⟩; go_big_quiet_on))
  (first | (go_big_quiet_want; go_big_quiet_op; go_big_quiet_on) | (go_big_quiet_want; go_big_quiet_op; refine ⟨_, fun _ _ => rfl, ?_⟩; go_big_quiet_on))
  (first | (go_big_quiet_want; go_big_quiet_op; go_big_quiet_on) | (go_big_quiet_want; go_big_quiet_op; refine ⟨_, fun _ _ => rfl, ?_⟩; go_big_quiet_on))
  (first | (go_big_quiet_want; go_big_quiet_op; go_big_quiet_on) | (go_big_quiet_want; go_big_quiet_op; refine ⟨_, fun _ _ => rfl, ?_⟩; go_big_quiet_on))
  (first | (go_big_quiet_want; go_big_quiet_op; go_big_quiet_on) | (go_big_quiet_want; go_big_quiet_op; refine ⟨_, fun _ _ => rfl, ?_⟩; go_big_quiet_on))
  (first | (go_big_quiet_want; go_big_quiet_op; go_big_quiet_on) | (go_big_quiet_want; go_big_quiet_op; refine ⟨_, fun _ _ => rfl, ?_⟩; go_big_quiet_on))
  (first | (go_big_quiet_want; go_big_quiet_op; go_big_quiet_on) | (go_big_quiet_want; go_big_quiet_op; refine ⟨_, fun _ _ => rfl, ?_⟩; go_big_quiet_on))
  (first | (go_big_quiet_want; go_big_quiet_op; go_big_quiet_on) | (go_big_quiet_want; go_big_quiet_op; refine ⟨_, fun _ _ => rfl, ?_⟩; go_big_quiet_on))
  (first | (go_big_quiet_want; go_big_quiet_op; go_big_quiet_on) | (go_big_quiet_want; go_big_quiet_op; refine ⟨_, fun _ _ => rfl, ?_⟩; go_big_quiet_on))
  (first | (go_big_quiet_want; go_big_quiet_op; go_big_quiet_on) | (go_big_quiet_want; go_big_quiet_op; refine ⟨_, fun _ _ => rfl, ?_⟩; go_big_quiet_on))
  (first | (go_big_quiet_want; go_big_quiet_op; go_big_quiet_on) | (go_big_quiet_want; go_big_quiet_op; refine ⟨_, fun _ _ => rfl, ?_⟩; go_big_quiet_on))
  (first | (go_big_quiet_want; go_big_quiet_op; go_big_quiet_on) | (go_big_quiet_want; go_big_quiet_op; refine ⟨_, fun _ _ => rfl, ?_⟩; go_big_quiet_on))
  (first | (go_big_quiet_want; go_big_quiet_op; go_big_quiet_on) | (go_big_quiet_want; go_big_quiet_op; refine ⟨_, fun _ _ => rfl, ?_⟩; go_big_quiet_on))
  (first | (go_big_quiet_want; go_big_quiet_op; go_big_quiet_on) | (go_big_quiet_want; go_big_quiet_op; refine ⟨_, fun _ _ => rfl, ?_⟩; go_big_quiet_on))
  (go_big_quiet_want; refine quiet_loadC 23 _ rfl ⟨w.heap.size, 0, none⟩ rfl _ HL3.out ?_; go_big_quiet_on)
  simp only [Act.put, List.setIfInBounds_toArray, List.set_cons_succ, List.set_cons_zero]
  (go_big_quiet_want; go_big_quiet_op; refine ⟨_, HC12.out, ?_⟩; go_big_quiet_on)
  (go_big_quiet_want; refine quiet_loadC 23 _ rfl ⟨w.heap.size, 0, none⟩ rfl _ HL3.out ?_; go_big_quiet_on)
  simp only [Act.put, List.setIfInBounds_toArray, List.set_cons_succ, List.set_cons_zero]
  (go_big_quiet_want; go_big_quiet_op; refine ⟨_, HC13.out, ?_⟩; go_big_quiet_on)
  (first | (go_big_quiet_want; go_big_quiet_op; go_big_quiet_on) | (go_big_quiet_want; go_big_quiet_op; refine ⟨_, fun _ _ => rfl, ?_⟩; go_big_quiet_on))
  (first | (go_big_quiet_want; go_big_quiet_op; go_big_quiet_on) | (go_big_quiet_want; go_big_quiet_op; refine ⟨_, fun _ _ => rfl, ?_⟩; go_big_quiet_on))
  (first | (go_big_quiet_want; go_big_quiet_op; go_big_quiet_on) | (go_big_quiet_want; go_big_quiet_op; refine ⟨_, fun _ _ => rfl, ?_⟩; go_big_quiet_on))
  (first | (go_big_quiet_want; go_big_quiet_op; go_big_quiet_on) | (go_big_quiet_want; go_big_quiet_op; refine ⟨_, fun _ _ => rfl, ?_⟩; go_big_quiet_on))
  (go_big_quiet_want; go_big_quiet_op; refine ⟨_, HC14.out, ?_⟩; go_big_quiet_on)
  (first | (go_big_quiet_want; go_big_quiet_op; go_big_quiet_on) | (go_big_quiet_want; go_big_quiet_op; refine ⟨_, fun _ _ => rfl, ?_⟩; go_big_quiet_on))
  (go_big_quiet_want; go_big_quiet_op; refine ⟨_, HC15.out, ?_⟩; go_big_quiet_on)
  (first | (go_big_quiet_want; go_big_quiet_op; go_big_quiet_on) | (go_big_quiet_want; go_big_quiet_op; refine ⟨_, fun _ _ => rfl, ?_⟩; go_big_quiet_on))
  (first | (go_big_quiet_want; go_big_quiet_op; go_big_quiet_on) | (go_big_quiet_want; go_big_quiet_op; refine ⟨_, fun _ _ => rfl, ?_⟩; go_big_quiet_on))
  refine wpQuiet_nil ?_
  intro V hV
  have HV : Hid (V.heap[w.heap.size]? = some (.cells #[.string (tx t), .string (tx u), .bool b] 23 (0, 0)) ∧ V.heap[q5]? = some (.cells #[.string (tx at'), .string (tx au), .bool ab] 23 (0, 0)) ∧ Below w.heap.size w V) := ⟨(HCI.out V hV).1, (HCI.out V hV).2.1, (HCI.out V hV).2.2.2⟩
  clear hV HCI HCd HC12 HC13 HC14 HC15 HL3 HL5 HL8 H8 H9 H10 H11
  rcases HE.out with ⟨hE0, hpi⟩ | hE
  · subst hE0
    obtain ⟨ha, hau, hps⟩ := p_was s at' au ab hpi
    have HPR : Hid (Calls Try.prog 10 #[.agg #[.string (tx at'), .string (tx au), .bool ab]] V fun e w' => e = .returned (.tuple #[.string (tx s), .int .i64 0]) ∧ Below V.heap.size V w') := by
      have h1 := nl_max at'
      have h2 := nl_max au
      have h3 := ha.2
      have h4 := hau.2
      have h := print_any at' au ab V (by omega) (by omega)
      unfold prV at h
      rw [if_pos ⟨ha, hau⟩, hps] at h
      exact h
    have k0 : V.cell? ⟨q5, 0, none⟩ = some (.string (tx at')) := by rw [cell_of_row _ _ _ _ _ _ HV.out.2.1]; rfl
    have k1 : V.cell? ⟨q5, 1, none⟩ = some (.string (tx au)) := by rw [cell_of_row _ _ _ _ _ _ HV.out.2.1]; rfl
    have k2 : V.cell? ⟨q5, 2, none⟩ = some (.bool ab) := by rw [cell_of_row _ _ _ _ _ _ HV.out.2.1]; rfl
    clear hpi ha hau hps HE
    go_wp2_with fail
    refine HPR.out.mono ?_
    rintro e V2 ⟨rfl, hb2⟩
    have HV2 : Hid (V2.heap[w.heap.size]? = some (.cells #[.string (tx t), .string (tx u), .bool b] 23 (0, 0)) ∧ Below w.heap.size w V2) := ⟨(hb2.block _ (Array.getElem?_eq_some_iff.1 HV.out.1).1).trans HV.out.1, HV.out.2.2.trans (hb2.mono HV.out.2.2.size)⟩
    clear hb2 HV k0 k1 k2 HPR EQ1
    rcases HG.out with ⟨hG0, hrt, hru, hpp⟩ | hG
    · subst hG0
      subst hpp
      have HPB : Hid (∀ X, Calls Try.prog 8 #[.string (tx (prI t u b))] X fun e w' => e = .returned (.tuple #[.agg #[.string (tx t), .string (tx u), .bool b], .int .i64 0, .int .i64 0]) ∧ Below X.heap.size X w') := fun X => by
        have h := parse_any (prI t u b) X (by have h1 := nl_max t; have h2 := nl_max u; have h3 := hrt.2; have h4 := hru.2; cases b <;> simp [prI, hd, ad] <;> omega)
        rw [p_back t u b hrt hru] at h
        exact h
      clear hrt hru HG
      go_wp2_with fail
      refine (HPB.out V2).mono ?_
      rintro e w8 ⟨rfl, hb8⟩
      obtain ⟨W8, hW8⟩ : ∃ W8, w8.alloc (.cells #[.string (tx t), .string (tx u), .bool b] 23) = W8 := ⟨_, rfl⟩
      have h28 : Below V2.heap.size V2 W8 := by rw [← hW8]; exact hb8.trans ((bel1' _ _).mono hb8.size)
      have hr3 : W8.heap[w.heap.size]? = some (.cells #[.string (tx t), .string (tx u), .bool b] 23 (0, 0)) := (h28.block _ (Array.getElem?_eq_some_iff.1 HV2.out.1).1).trans HV2.out.1
      have hr8 : W8.heap[w8.heap.size]? = some (.cells #[.string (tx t), .string (tx u), .bool b] 23 (0, 0)) := by rw [← hW8]; exact Go.heap_alloc_new _ _
      have HB8 : Hid (Below w.heap.size w W8) := HV2.out.2.trans (h28.mono HV2.out.2.size)
      have EQ2 := HEQ2.out
      go_upto_region 14 with fail
      try rw [hW8]
      generalize w8.heap.size = q9 at hr8 ⊢
      have i0 : W8.cell? ⟨w.heap.size, 0, none⟩ = some (.string (tx t)) := by rw [cell_of_row _ _ _ _ _ _ hr3]; rfl
      have j0 : W8.cell? ⟨q9, 0, none⟩ = some (.string (tx t)) := by rw [cell_of_row _ _ _ _ _ _ hr8]; rfl
      have i1 : W8.cell? ⟨w.heap.size, 1, none⟩ = some (.string (tx u)) := by rw [cell_of_row _ _ _ _ _ _ hr3]; rfl
      have j1 : W8.cell? ⟨q9, 1, none⟩ = some (.string (tx u)) := by rw [cell_of_row _ _ _ _ _ _ hr8]; rfl
      have i2 : W8.cell? ⟨w.heap.size, 2, none⟩ = some (.bool b) := by rw [cell_of_row _ _ _ _ _ _ hr3]; rfl
      have j2 : W8.cell? ⟨q9, 2, none⟩ = some (.bool b) := by rw [cell_of_row _ _ _ _ _ _ hr8]; rfl
      clear hW8 hr3 hr8 h28 hb8
      go_wp2_with (go_at_call 16; refine (HK.out _ HB8.out).mono ?_; rintro e w9 ⟨rfl, hb9⟩)
      go_ret
      exact ⟨rfl, HB8.out.trans (hb9.mono HB8.out.size)⟩
    · subst hG
      go_wp2_with (go_at_call 16; refine (HK.out _ HV2.out.2).mono ?_; rintro e w9 ⟨rfl, hb9⟩)
      go_ret
      exact ⟨rfl, HV2.out.2.trans (hb9.mono HV2.out.2.size)⟩
  · subst hE
    have HV2 : Hid (V.heap[w.heap.size]? = some (.cells #[.string (tx t), .string (tx u), .bool b] 23 (0, 0)) ∧ Below w.heap.size w V) := ⟨HV.out.1, HV.out.2.2⟩
    clear HV EQ1 HE
    rcases HG.out with ⟨hG0, hrt, hru, hpp⟩ | hG
    · subst hG0
      subst hpp
      have HPB : Hid (∀ X, Calls Try.prog 8 #[.string (tx (prI t u b))] X fun e w' => e = .returned (.tuple #[.agg #[.string (tx t), .string (tx u), .bool b], .int .i64 0, .int .i64 0]) ∧ Below X.heap.size X w') := fun X => by
        have h := parse_any (prI t u b) X (by have h1 := nl_max t; have h2 := nl_max u; have h3 := hrt.2; have h4 := hru.2; cases b <;> simp [prI, hd, ad] <;> omega)
        rw [p_back t u b hrt hru] at h
        exact h
      clear hrt hru HG
      go_wp2_with fail
      refine (HPB.out V).mono ?_
      rintro e w8 ⟨rfl, hb8⟩
      obtain ⟨W8, hW8⟩ : ∃ W8, w8.alloc (.cells #[.string (tx t), .string (tx u), .bool b] 23) = W8 := ⟨_, rfl⟩
      have h28 : Below V.heap.size V W8 := by rw [← hW8]; exact hb8.trans ((bel1' _ _).mono hb8.size)
      have hr3 : W8.heap[w.heap.size]? = some (.cells #[.string (tx t), .string (tx u), .bool b] 23 (0, 0)) := (h28.block _ (Array.getElem?_eq_some_iff.1 HV2.out.1).1).trans HV2.out.1
      have hr8 : W8.heap[w8.heap.size]? = some (.cells #[.string (tx t), .string (tx u), .bool b] 23 (0, 0)) := by rw [← hW8]; exact Go.heap_alloc_new _ _
      have HB8 : Hid (Below w.heap.size w W8) := HV2.out.2.trans (h28.mono HV2.out.2.size)
      have EQ2 := HEQ2.out
      go_upto_region 14 with fail
      try rw [hW8]
      generalize w8.heap.size = q9 at hr8 ⊢
      have i0 : W8.cell? ⟨w.heap.size, 0, none⟩ = some (.string (tx t)) := by rw [cell_of_row _ _ _ _ _ _ hr3]; rfl
      have j0 : W8.cell? ⟨q9, 0, none⟩ = some (.string (tx t)) := by rw [cell_of_row _ _ _ _ _ _ hr8]; rfl
      have i1 : W8.cell? ⟨w.heap.size, 1, none⟩ = some (.string (tx u)) := by rw [cell_of_row _ _ _ _ _ _ hr3]; rfl
      have j1 : W8.cell? ⟨q9, 1, none⟩ = some (.string (tx u)) := by rw [cell_of_row _ _ _ _ _ _ hr8]; rfl
      have i2 : W8.cell? ⟨w.heap.size, 2, none⟩ = some (.bool b) := by rw [cell_of_row _ _ _ _ _ _ hr3]; rfl
      have j2 : W8.cell? ⟨q9, 2, none⟩ = some (.bool b) := by rw [cell_of_row _ _ _ _ _ _ hr8]; rfl
      clear hW8 hr3 hr8 h28 hb8
      go_wp2_with (go_at_call 16; refine (HK.out _ HB8.out).mono ?_; rintro e w9 ⟨rfl, hb9⟩)
      go_ret
      exact ⟨rfl, HB8.out.trans (hb9.mono HB8.out.size)⟩
    · subst hG
      go_wp2_with (go_at_call 16; refine (HK.out _ HV2.out.2).mono ?_; rintro e w9 ⟨rfl, hb9⟩)
      go_ret
      exact ⟨rfl, HV2.out.2.trans (hb9.mono HV2.out.2.size)⟩
end Go.Proofs.Ytnghgclogeefgaa
