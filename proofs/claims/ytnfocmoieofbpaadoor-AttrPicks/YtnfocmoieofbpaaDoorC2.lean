/- Attributes as they lie; lists of them that are alike. -/
import Derived.Test.YtnfocmoieofbpaaDoorC1
import Derived.DeepKeys
import Derived.StillTailTactics
import Derived.Deep.CutRange
import Derived.Deep.MidRow
namespace Go.Proofs.YtnfocmoieofbpaaDoor
open Go.RowKit
set_option linter.unusedVariables false
set_option linter.unusedSimpArgs false

/-- An attribute: its key, its value. -/
abbrev At := List UInt8 × List UInt8
/-- A text's length can be. -/
def Can (x : At) : Prop := (x.1.length : Int) ≤ 140737488351232 ∧ (x.2.length : Int) ≤ 140737488351232
def atV (x : At) : Value := .agg #[.string (tx x.1), .string (tx x.2)]
/-- Attributes, as they lie. -/
structure Ats (W : World) (sa : Option Addr) (cap : Nat) (l : List At) : Prop where
  cap : l.length ≤ cap
  cells : ∀ i x, l[i]? = some x → ∃ b off, sa = some ⟨b, off, none⟩ ∧ W.cell? ⟨b, off + i * 2, none⟩ = some (.string (tx x.1)) ∧ W.cell? ⟨b, off + i * 2 + 1, none⟩ = some (.string (tx x.2))
  can : ∀ x ∈ l, Can x
theorem Ats.drew {W : World} {sa : Option Addr} {cap : Nat} {l : List At} (h : Ats W sa cap l) : Ats W.drew sa cap l := ⟨h.cap, h.cells, h.can⟩
theorem eqAt (x y : At) (hx : Can x) (hy : Can y) (w : World) : (Op.equalIn 10000 45 (.agg #[.string (tx x.1), .string (tx x.2)]) (.agg #[.string (tx y.1), .string (tx y.2)])).run Tryd.prog w = .ok (decide (x = y)) w := by
  have c9 : Tryd.prog.cellsOf 9 = 1 := by kernel_rfl
  have c45 : Tryd.prog.cellsOf 45 = 2 := by kernel_rfl
  have hk : ∀ z : At, Can z → Tryd.prog.keyLits 2 45 [.string (tx z.1), .string (tx z.2)] = some [.string (tx z.1).data.toList, .string (tx z.2).data.toList] := fun z hz => by
    have l1 : (tx z.1).size ≤ maxLen := by rw [tx_size]; unfold maxLen; have := hz.1; omega
    have l2 : (tx z.2).size ≤ maxLen := by rw [tx_size]; unfold maxLen; have := hz.2; omega
    simp [Program.keyLits, Tryd.underlying45, Tryd.underlying9, c9, c45, l1, l2]
  have hf : ∀ z : At, Value.formed Tryd.prog 45 (.agg #[.string (tx z.1), .string (tx z.2)]) = true := fun z => by
    unfold Value.formed
    simp only [Tryd.underlying45, c45]
    rfl
  obtain ⟨r, hr, hiff⟩ := run_equalIn_deep (P := Tryd.prog) 9998 2 45 (by kernel_rfl) w 2 2 (.agg #[.string (tx x.1), .string (tx x.2)]) (.agg #[.string (tx y.1), .string (tx y.2)]) _ _ (hf x) (hf y) (hk x hx) (hk y hy)
  have e : r = decide (x = y) := by
    rw [Bool.eq_iff_iff, hiff]
    have t1 : ∀ l : List UInt8, (tx l).data.toList = l := fun l => rfl
    simp only [t1, decide_eq_true_eq]
    constructor
    · intro h
      simp at h
      exact Prod.ext h.1 h.2
    · rintro rfl
      rfl
  rw [e] at hr
  exact hr
theorem still_of_quiet {P : Program} {ops : Array Oper} {W : World} {Q : Act → Prop} : ∀ (l : List Oper) (a : Act), wpQuiet P ops (fun w' => w' = W) Q l a → wpStill P ops W Q l a
  | [], a, h => h
  | o :: l, a, h => by
    unfold wpQuiet at h
    unfold wpStill
    split
    · rename_i hw
      rw [if_pos hw] at h
      obtain ⟨v, h1, h2⟩ := h
      have h3 := h1 W rfl
      have h4 := still_of_quiet l _ h2
      unfold Oper.quietAt at h3
      unfold Oper.still
      generalize (execOp a.eval o).run P W = r at h3
      cases r with
      | ok n w' =>
        cases n with
        | value u => obtain ⟨e1, e2⟩ := h3; subst e1; subst e2; exact ⟨rfl, h4⟩
        | skip => obtain ⟨e1, e2⟩ := h3; subst e1; subst e2; exact ⟨rfl, h4⟩
        | enter f args => obtain ⟨e1, e2⟩ := h3; subst e1; exact ⟨rfl, v, e2, h4⟩
        | _ => exact h3.elim
      | halt x w' => exact h3.elim
    · rename_i hw
      rw [if_neg hw] at h
      exact still_of_quiet l _ h
theorem quiet_loadV {P : Program} {W : World} {a : Act} {o : Oper} {K : Act → Prop} (ty : TypeId) (x : Operand) (ho : o.op = .load ty x) (p : Addr) (hx : a.eval x = .pointer (some p)) (v : Value) (hl : (loadVar ty p).run P W = .ok v W)
    (hk : K (a.put o.dst v)) : o.quiet P a (fun w' => w' = W) K := by
  refine ⟨v, fun w hw => ?_, hk⟩
  subst hw
  unfold Oper.quietAt
  simp only [execOp, ho, hx, Instr.loadAt, Instr.sureAddr, Sem.run_bind, Sem.run_pure, Result.andThen_ok, hl]
  exact ⟨rfl, rfl⟩
theorem quiet_neqAt {W : World} {a : Act} {o : Oper} {K : Act → Prop} (x y : Operand) (ho : o.op = .binOp .neq 45 x y 45) (u v : Array Value) (hx : a.eval x = .agg u) (hy : a.eval y = .agg v) (r : Bool) (hr : (Op.equalIn 10000 45 (.agg u) (.agg v)).run Tryd.prog W = .ok r W)
    (hk : K (a.put o.dst (.bool (!r)))) : o.quiet Tryd.prog a (fun w' => w' = W) K := by
  have hg : Tryd.prog.eqGuardType Tryd.prog.depth 45 = false := by kernel_rfl
  have hm : Op.maxDepth = 10000 := rfl
  refine ⟨_, fun w hw => ?_, hk⟩
  subst hw
  unfold Oper.quietAt
  simp only [execOp, ho, hx, hy]
  simp only [eqGuard, binOp, Op.equal, hg, hm]
  generalize Op.equalIn 10000 45 (.agg u) (.agg v) = E at hr ⊢
  simp [hr, go_sem, Oper.quietUpon]
theorem load45 {w : World} {b off : Nat} {x : At} (h0 : w.cell? ⟨b, off, none⟩ = some (.string (tx x.1))) (h1 : w.cell? ⟨b, off + 1, none⟩ = some (.string (tx x.2))) : (loadVar 45 ⟨b, off, none⟩).run Tryd.prog w = .ok (.agg #[.string (tx x.1), .string (tx x.2)]) w := by
  refine run_loadVar_mid w b off 45 [.string (tx x.1), .string (tx x.2)] _ (fun i v hv => ?_) Tryd.underlying45 rfl (by kernel_rfl)
  match i, hv with
  | 0, hv => rw [← hv]; exact h0
  | 1, hv => rw [← hv]; exact h1
  | i + 2, hv => simp at hv
set_option maxHeartbeats 4000000 in
theorem same_any (sa sb : Option Addr) (ca cb : Nat) (l m : List At) (w : World) (hl : Ats w sa ca l) (hm : Ats w sb cb m) (h1 : (l.length : Int) ≤ 140737488351232) (h2 : (m.length : Int) ≤ 140737488351232) :
    Calls Tryd.prog 9 #[.slice sa l.length ca, .slice sb m.length cb] w fun e w' => e = .returned (.bool (decide (l = m))) ∧ Below w.heap.size w w' := by
  by_cases hn : l.length = m.length
  · have hn' : (l.length : Int) = (m.length : Int) := by omega
    have hb : ((l.length : Int) != (m.length : Int)) = false := by simp [hn']
    have HL : Hid (Ats w sa ca l ∧ Ats w sb cb m ∧ l.length = m.length) := ⟨hl, hm, hn⟩
    have ca' : (l.length : Int) ≤ (ca : Int) := by have := hl.cap; omega
    have cb' : (m.length : Int) ≤ (cb : Int) := by have := hm.cap; omega
    obtain ⟨n, hnn⟩ : ∃ n, m.length = n := ⟨_, rfl⟩
    rw [hn] at h1 hb ca' ⊢
    rw [hnn] at h1 h2 hb ca' cb' ⊢
    have HN : Hid (m.length = n) := hnn
    clear hn hn' hnn hl hm
    go_enter Tryd.func9, Tryd.ntmps9
    go_wp2
    go_loopw [5] (fun i wr => ∃ (k : Nat), k ≤ n ∧ i = .int .i64 k ∧ (∀ j, j < k → l[j]? = m[j]?) ∧ Ats wr sa ca l ∧ Ats wr sb cb m ∧ Below w.heap.size w wr) (fun i _ => n - (intOf i).toNat)
    case atStart => exact ⟨0, Nat.zero_le _, rfl, fun j hj => by omega, HL.out.1, HL.out.2.1, Below.refl _ _⟩
    case round =>
      obtain ⟨k, hk, rfl, hD, a1, a2, a3⟩ := hrel
      have HD : Hid ((∀ j, j < k → l[j]? = m[j]?) ∧ Ats wr sa ca l ∧ Ats wr sb cb m ∧ Below w.heap.size w wr) := ⟨hD, a1, a2, a3⟩
      clear hD a1 a2 a3
      by_cases hlt : k < n
      · obtain ⟨x, hx⟩ : ∃ x, l[k]? = some x := ⟨_, List.getElem?_eq_getElem (by have := HL.out.2.2; have := HN.out; omega)⟩
        obtain ⟨y, hy⟩ : ∃ y, m[k]? = some y := ⟨_, List.getElem?_eq_getElem (by have := HN.out; omega)⟩
        obtain ⟨b, o, hsa, x0, x1⟩ := HD.out.2.1.cells k x hx
        obtain ⟨d, p, hsb, y0, y1⟩ := HD.out.2.2.1.cells k y hy
        subst hsa
        subst hsb
        have HX : Hid ((loadVar 45 ⟨b, o + k * 2, none⟩).run Tryd.prog wr.drew = .ok (.agg #[.string (tx x.1), .string (tx x.2)]) wr.drew) := load45 (w := wr.drew) x0 x1
        have HY : Hid ((loadVar 45 ⟨d, p + k * 2, none⟩).run Tryd.prog wr.drew = .ok (.agg #[.string (tx y.1), .string (tx y.2)]) wr.drew) := load45 (w := wr.drew) y0 y1
        have hq := eqAt x y (HL.out.1.can x (List.mem_of_getElem? hx)) (HL.out.2.1.can y (List.mem_of_getElem? hy))
        have HXY : Hid (l[k]? = some x ∧ m[k]? = some y) := ⟨hx, hy⟩
        have hlt' : (k : Int) < (n : Int) := by omega
        have k0 : (0 : Int) ≤ (k : Int) := by omega
        clear hx hy x0 x1 y0 y1
        go_upto_region 6 with fail
        refine wp_region_still_lit (by kernel_rfl) (by kernel_rfl) (still_of_quiet _ _ ?_)
        rw [show ({ wr with drawn := wr.drawn + 1 } : World) = wr.drew from rfl]
        repeat (first | go_big_quiet_skip | (go_big_quiet_want; go_big_quiet_op; go_big_quiet_on))
        (go_big_quiet_want; refine quiet_loadV 45 _ rfl ⟨b, o + k * 2, none⟩ rfl _ HX.out ?_; go_big_quiet_on)
        simp only [Act.put, List.setIfInBounds_toArray, List.set_cons_succ, List.set_cons_zero]
        repeat (first | go_big_quiet_skip | (go_big_quiet_want; go_big_quiet_op; go_big_quiet_on))
        (go_big_quiet_want; refine quiet_loadV 45 _ rfl ⟨d, p + k * 2, none⟩ rfl _ HY.out ?_; go_big_quiet_on)
        simp only [Act.put, List.setIfInBounds_toArray, List.set_cons_succ, List.set_cons_zero]
        (go_big_quiet_want; refine quiet_neqAt _ _ rfl _ _ rfl rfl (decide (x = y)) (hq _) ?_; go_big_quiet_on)
        simp only [Act.put, List.setIfInBounds_toArray, List.set_cons_succ, List.set_cons_zero]
        refine wpQuiet_nil ?_
        clear hq HX HY
        by_cases he : x = y
        · rw [decide_eq_true he]
          have HS : Hid (∀ j, j < k + 1 → l[j]? = m[j]?) := by
            intro j hj
            rcases (show j = k ∨ j < k from by omega) with rfl | h
            · rw [HXY.out.1, HXY.out.2, he]
            · exact HD.out.1 j h
          clear he
          go_wp2
          go_roundw
          case rel => exact ⟨k + 1, by omega, by go_num, HS.out, HD.out.2.1.drew, HD.out.2.2.1.drew, HD.out.2.2.2.drew⟩
          case measure => simp [intOf]; omega
        · rw [decide_eq_false he]
          have HN2 : Hid (decide (l = m) = false) := by
            refine decide_eq_false (fun h => he ?_)
            have h1 := HXY.out.1
            rw [h, HXY.out.2] at h1
            exact (Option.some.inj h1).symm
          clear he
          go_wp2
          go_ret
          exact ⟨by rw [HN2.out]; rfl, HD.out.2.2.2.drew⟩
      · have hkk : k = n := by omega
        have hge : ¬ ((k : Int) < (n : Int)) := by omega
        have HE : Hid (l = m) := by
          show _ = _
          apply List.ext_getElem?
          intro j
          by_cases hj : j < k
          · exact HD.out.1 j hj
          · rw [List.getElem?_eq_none (by have := HL.out.2.2; have := HN.out; omega), List.getElem?_eq_none (by have := HN.out; omega)]
        clear hkk hlt
        go_wp2
        go_ret
        exact ⟨by rw [decide_eq_true HE.out]; rfl, HD.out.2.2.2⟩
  · have e : decide (l = m) = false := decide_eq_false (fun h => hn (by rw [h]))
    have hb : ((l.length : Int) != (m.length : Int)) = true := by simpa using (by omega : ¬ (l.length : Int) = (m.length : Int))
    have hb2 : ¬ (l.length : Int) = (m.length : Int) := by omega
    rw [e]
    clear e hn hl hm
    go_enter Tryd.func9, Tryd.ntmps9
    go_wp2
    go_ret
    exact ⟨rfl, Below.refl _ _⟩
end Go.Proofs.YtnfocmoieofbpaaDoor
