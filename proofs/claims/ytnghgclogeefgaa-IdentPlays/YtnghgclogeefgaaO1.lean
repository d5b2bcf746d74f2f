/- The numbers of a tenant's sessions. -/
import Derived.Test.YtnghgclogeefgaaE5
import Derived.Test.YtnghgclogeefgaaU1
namespace Go.Proofs.Ytnghgclogeefgaa
open Go.RowKit
set_option linter.unusedVariables false
set_option linter.unusedSimpArgs false

def ofI (ss : List Se) (tn : List UInt8) : List Int := (ss.filter fun s => decide (s.t = tn)).map (·.num)
def i64l (l : List Int) : List Value := l.map (Value.int .i64)
theorem i64l_len (l : List Int) : (i64l l).length = l.length := by simp [i64l]
theorem info2 : (Try.prog.info? 2).map (fun i => (i.zero, i.size, i.bytes)) = some (some (.int .i64 0), 1, 8) := by kernel_rfl
theorem ofI_snoc (ss : List Se) (tn : List UInt8) (k : Nat) (s : Se) (h : ss[k]? = some s) : ofI (ss.take (k + 1)) tn = ofI (ss.take k) tn ++ (if s.t = tn then [s.num] else []) := by
  have e : ss.take (k + 1) = ss.take k ++ [s] := by
    obtain ⟨h1, h2⟩ := List.getElem?_eq_some_iff.1 h
    rw [List.take_succ_eq_append_getElem h1, h2]
  unfold ofI
  rw [e, List.filter_append, List.map_append]
  congr 1
  by_cases c : s.t = tn <;> simp [c]
theorem ofI_len (ss : List Se) (tn : List UInt8) : (ofI ss tn).length ≤ ss.length := by unfold ofI; rw [List.length_map]; exact List.length_filter_le _ _
theorem tx_beq (a b : List UInt8) : ((tx a).toList == (tx b).toList) = decide (a = b) := by
  rw [tx_list, tx_list, Bool.eq_iff_iff]
  simp
/-- One number more. -/
theorem wpList_append_num {w : World} {ops : Array Oper} {rest : List Oper} {o : Oper} {a : Act} {Q : Exit → Act → World → Prop} (hgd : o.guard = none) (s x : Operand)
    (ho : o.op = .call { callee := .builtin .append, args := #[s, x], argTypes := #[78, 78] }) (base : Nat) (v : Value) (n : Nat) (xs : List Value) (hs : a.eval s = v) (V : World) (hown : V.ownsRow base 2 1 v n xs)
    (p : Int) (hw : w = V.alloc (.cells #[.int .i64 p] 2)) (hx : a.eval x = .slice (some ⟨V.heap.size, 0, none⟩) 1 1) (hb : n ≤ 1000) (hbase : base ≤ V.heap.size)
    (h : ∀ g cap w', w'.ownsRow base 2 1 (.slice (some ⟨g, 0, none⟩) (n + 1) cap) (n + 1) (xs ++ [.int .i64 p]) → V.grownBy w' v.ownBlock → wpList Try.prog ops Q rest (a.put o.dst (.slice (some ⟨g, 0, none⟩) (n + 1) cap)) w') : wpList Try.prog ops Q (o :: rest) a w := by
  subst hw
  obtain ⟨i0, hi, hz0, hz1, hz2⟩ := info_parts info2
  refine wpList_append_lies _ hgd s x 78 ho base 2 i0 (.int .i64 0) 1 8 Try.underlying78 hi hz0 hz1 hz2 rfl (by decide) v n xs hs (hown.alloc _) ⟨V.heap.size, 0, none⟩ 1 1 [.int .i64 p] hx rfl (World.news_of_block (Go.heap_alloc_new _ _)) (by intro u hu; simp at hu; rw [hu]; rfl) (by decide) (by unfold maxLen; omega) (by omega) (by simp; omega) (V.heap.size + 1) (by simp) fun g cap w' h1 h2 h3 _ => h g cap w' h1 ?_
  exact ⟨h2.os, h2.tape, h2.output, Nat.le_trans (by simp) h2.size, fun k hk hv => by rw [h2.block k (by simp; omega) hv]; exact Below.heap_alloc _ _ _ hk⟩
set_option maxRecDepth 20000 in
set_option maxHeartbeats 4000000 in
theorem of_any (T base : Nat) (last : Int) (sv : Value) (ss : List Se) (tn : List UInt8) (w : World) (h : Tb w T base last sv ss) (hl : ss.length ≤ 64) :
    Calls Try.prog 30 #[.pointer (some ⟨T, 0, none⟩), .string (tx tn)] w fun e w' => ∃ B v, e = .returned (.func (.func 51) #[] #[.pointer (some ⟨B, 0, none⟩)]) ∧ w'.heap[B]? = some (.cells #[v] 78 (0, 0)) ∧ w'.ownsRow w.heap.size 2 1 v (ofI ss tn).length (i64l (ofI ss tn)) ∧ Below w.heap.size w w' ∧ w.heap.size ≤ B ∧ w'.heap.size = B + 1 := by
  have HT : Hid (Tb w T base last sv ss) := h
  obtain ⟨sa, cap, e⟩ := own_slice h.row
  subst e
  obtain ⟨n, hn⟩ : ∃ n, ss.length = n := ⟨_, rfl⟩
  have HN : Hid (ss.length = n) := hn
  have h64 : (n : Int) ≤ 64 := by omega
  have d1 : w.cell? ⟨T, 1, none⟩ = some (.slice sa n cap) := by rw [cell_of_row _ _ _ _ _ _ h.tab, hn]; rfl
  clear h hl hn
  go_enter Try.func30, Try.ntmps30
  go_wp2_with fail
  go_loopw [5, 7, 15] (fun l x i wr => ∃ k : Nat, k ≤ n ∧ i = .int .i64 (k : Int) ∧ wr.ownsRow w.heap.size 2 1 l (ofI (ss.take k) tn).length (i64l (ofI (ss.take k) tn)) ∧ Below w.heap.size w wr) (fun l x i wr => n - (intOf i).toNat)
  case atStart => exact ⟨0, by omega, rfl, World.ownsRow_nil _ _ _ _, Below.refl _ _⟩
  case round =>
    obtain ⟨k, hk, rfl, hrow, hbel⟩ := hrel
    have HR : Hid (wr.ownsRow w.heap.size 2 1 u5 (ofI (ss.take k) tn).length (i64l (ofI (ss.take k) tn)) ∧ Below w.heap.size w wr) := ⟨hrow, hbel⟩
    have HTW : Hid (Tb wr T base last (.slice sa ss.length cap) ss) := HT.out.later hbel (Nat.le_refl _)
    clear hrow hbel
    by_cases hlt : k < n
    · have hlt' : (k : Int) < (n : Int) := by omega
      obtain ⟨s, hs⟩ : ∃ s, ss[k]? = some s := ⟨_, List.getElem?_eq_getElem (by have := HN.out; omega)⟩
      have HS : Hid (ss[k]? = some s) := hs
      obtain ⟨g, cp, hv⟩ := own_form HTW.out.row (by have := HN.out; omega)
      have hsa : sa = some ⟨g, 0, none⟩ := (Value.slice.inj hv).1
      subst hsa
      obtain ⟨c0, c1, c2, c3, c4⟩ := own_sc HTW.out.row hs
      have hcap : (n : Int) ≤ (cap : Int) := by have := own_cap HTW.out.row; have := HN.out; omega
      have hbq := tx_beq s.t tn
      have HLL : Hid ((ofI (ss.take k) tn).length ≤ 64) := by have h1 := ofI_len (ss.take k) tn; rw [List.length_take] at h1; show _ ≤ _; omega
      clear hs hv
      go_upto_region 6 with fail
      obtain ⟨W3, hW3⟩ : ∃ W3, wr.alloc (.cells #[.int .i64 s.num, .string (tx s.t), .string (tx s.u), .bool s.a, .int .i64 s.til] 68) = W3 := ⟨_, rfl⟩
      have h33 : Below wr.heap.size wr W3 := by rw [← hW3]; exact bel1 _ _
      have hr3 : W3.heap[wr.heap.size]? = some (.cells #[.int .i64 s.num, .string (tx s.t), .string (tx s.u), .bool s.a, .int .i64 s.til] 68 (0, 0)) := by rw [← hW3]; exact Go.heap_alloc_new _ _
      have x0 : W3.cell? ⟨wr.heap.size, 0, none⟩ = some (.int .i64 s.num) := by rw [cell_of_row _ _ _ _ _ _ hr3]; rfl
      have x1 : W3.cell? ⟨wr.heap.size, 1, none⟩ = some (.string (tx s.t)) := by rw [cell_of_row _ _ _ _ _ _ hr3]; rfl
      have HR3 : Hid (W3.ownsRow w.heap.size 2 1 u5 (ofI (ss.take k) tn).length (i64l (ofI (ss.take k) tn)) ∧ Below w.heap.size w W3) := ⟨own_at HR.out.1 fun q hq => h33.block q (HR.out.1.lt q hq).2, HR.out.2.trans (h33.mono HR.out.2.size)⟩
      have HWS : Hid (w.heap.size ≤ W3.heap.size) := HR3.out.2.size
      try rw [hW3]
      generalize wr.heap.size = q at x0 x1 ⊢
      clear hW3 h33 hr3 c0 c1 c2 c3 c4
      by_cases ht : s.t = tn
      · have HSN : Hid (ofI (ss.take (k + 1)) tn = ofI (ss.take k) tn ++ [s.num]) := by show _ = _; rw [ofI_snoc ss tn k s HS.out, if_pos ht]
        rw [decide_eq_true ht] at hbq
        clear ht
        go_wp2_with (at_builtin; (refine wpList_append_num rfl (.tmp 24) (.tmp 27) rfl w.heap.size u5 (ofI (ss.take k) tn).length (i64l (ofI (ss.take k) tn)) rfl W3 HR3.out.1 s.num rfl rfl (by have := HLL.out; omega) HWS.out ?_; intro g9 c9 w9 ho9 hg9; (have HO9 : Hid (w9.ownsRow w.heap.size 2 1 (.slice (some ⟨g9, 0, none⟩) ((ofI (ss.take k) tn).length + 1) c9) ((ofI (ss.take k) tn).length + 1) (i64l (ofI (ss.take k) tn) ++ [.int .i64 s.num]) ∧ W3.grownBy w9 u5.ownBlock) := ⟨ho9, hg9⟩); clear ho9 hg9))
        go_roundw
        case rel =>
          have hg := HO9.out.2
          refine ⟨k + 1, by omega, by go_num, ?_, HR3.out.2.trans ⟨hg.os, hg.tape, hg.output, hg.size, fun q hq => hg.block q (by have := HWS.out; omega) (fun e => by have := (HR3.out.1.lt q e.symm).1; omega)⟩⟩
          rw [HSN.out, List.length_append]
          have h := HO9.out.1
          unfold i64l at h ⊢
          rw [List.map_append]
          exact h
        case measure => simp [intOf]; omega
      · have HSN : Hid (ofI (ss.take (k + 1)) tn = ofI (ss.take k) tn) := by show _ = _; rw [ofI_snoc ss tn k s HS.out, if_neg ht, List.append_nil]
        rw [decide_eq_false ht] at hbq
        clear ht
        go_wp2_with fail
        go_roundw
        case rel => exact ⟨k + 1, by omega, by go_num, by rw [HSN.out]; exact HR3.out.1, HR3.out.2⟩
        case measure => simp [intOf]; omega
    · have hkn : k = n := by omega
      have hge : ¬ ((k : Int) < (n : Int)) := by omega
      have htk : ss.take k = ss := by rw [hkn, ← HN.out, List.take_length]
      rw [htk] at HR
      obtain ⟨xa, xc, hu5⟩ := own_slice HR.out.1
      subst hu5
      clear hlt hkn htk
      go_wp2_with (go_at_call 47; refine (values_any _ _ _ _).mono ?_; rintro e w' ⟨rfl, hw'⟩; rw [hw']; clear hw')
      go_ret
      refine ⟨wr.heap.size, _, rfl, Go.heap_alloc_new _ _, HR.out.1.alloc _, HR.out.2.trans ((bel1 _ _).mono HR.out.2.size), HR.out.2.size, by simp⟩
end Go.Proofs.Ytnghgclogeefgaa
