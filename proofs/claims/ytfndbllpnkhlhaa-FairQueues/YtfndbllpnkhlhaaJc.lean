/- The program's queues of numbers: all that wait; what is asked of them. -/
import Derived.Test.YtfndbllpnkhlhaaJb
import Derived.Laws.OwnMore
namespace Go.Proofs.Ytfndbllpnkhlhaa
open Go.RowKit
set_option linter.unusedVariables false
set_option linter.unusedSimpArgs false

theorem ifl_len (l : List Int) : (fl iv l).length = l.length := by rw [fl_len iv_len, Nat.mul_one]
set_option maxRecDepth 20000 in
set_option maxHeartbeats 4000000 in
theorem iclone_any (sv : Value) (l : List Int) (w : World) (h : Tl iv 1 w 0 3 sv l) (hl : l.length ≤ 1000) : Calls Try.prog 31 #[sv] w fun e w' => (∃ v', e = .returned v' ∧ w'.ownsRow w.heap.size 3 1 v' l.length (fl iv l)) ∧ Below w.heap.size w w' := by
  rcases h with ⟨rfl, rfl⟩ | ⟨g, o, cap, cur, rfl, _, hg, h1, h2, h3, h4⟩
  · have hq : ∀ w, (binOp .eql 22 (.slice none 0 0) (.slice none 0 0)).run Try.prog w = .ok (.bool true) w := fun w => by kernel_rfl
    go_enter Try.func31, Try.ntmps31
    go_wp2_with fail
    go_ret
    exact ⟨⟨_, rfl, World.ownsRow_nil _ _ _ _⟩, Below.refl _ _⟩
  · have HC : Hid (∀ j u, (fl iv l)[j]? = some u → (w.alloc (.cells #[] 3)).cell? ((⟨g, o, none⟩ : Addr).add j) = some u) := fun j u hu => by
      rw [Addr.add_lit]
      have : (w.alloc (.cells #[] 3)).heap[g]? = some (.cells cur 3 (0, 0)) := (Below.heap_alloc _ _ _ (Array.getElem?_eq_some_iff.1 hg).1).trans hg
      rw [cell_of_row _ _ _ _ _ _ this]
      exact h4 j u hu
    obtain ⟨L, hL⟩ : ∃ L, l.length = L := ⟨_, rfl⟩
    have HL : Hid (l.length = L) := hL
    rw [hL] at hl ⊢
    have hq : ∀ w, (binOp .eql 22 (.slice (some ⟨g, o, none⟩) L cap) (.slice none 0 0)).run Try.prog w = .ok (.bool false) w := fun w => by kernel_rfl
    have HI : Hid _ := info_parts info3
    have h1O : ∀ u ∈ fl iv l, u.oneCell' = true := fun u hu => by
      obtain ⟨j, hj⟩ := List.getElem?_of_mem hu
      rw [iv_at] at hj
      obtain ⟨y, _, rfl⟩ := Option.map_eq_some_iff.1 hj
      rfl
    have H1 : Hid (∀ u ∈ fl iv l, u.oneCell' = true) := h1O
    clear h1 h2 h3 h4 hg hL h1O
    obtain ⟨i0, hi, hz0, hz1, hz2⟩ := HI.out
    go_enter Try.func31, Try.ntmps31
    go_wp2_with (at_builtin; (refine wpList_append_own _ rfl (.tmp 5) (.tmp 6) 22 rfl w.heap.size 3 i0 (.int .i64 0) 1 8 Try.underlying22 hi hz0 hz1 hz2 rfl (by decide) (.slice (some ⟨w.heap.size, 0, none⟩) 0 0) 0 [] rfl (World.ownsRow_lit w #[] 0 (Nat.le_refl _) (by decide) rfl) ⟨g, o, none⟩ L cap (fl iv l) rfl (by rw [ifl_len, HL.out, Nat.mul_one]) HC.out H1.out (by unfold maxLen; omega) (by omega) (by simp) ?_; intro v' w' ho' hg' _))
    go_ret
    refine ⟨⟨_, rfl, ?_⟩, (bel1' _ _).grown hg' (by simp) ?_⟩
    · have h := ho'
      rw [Nat.zero_add, List.nil_append] at h
      exact h
    · intro q hq'
      simp [Value.ownBlock] at hq'
      omega
set_option maxRecDepth 20000 in
theorem iall_any (Q : Nat) (F : Nat → Prop) (most : Int) (l : List Int) (w : World) (h : PQ w Q F most l) (hl : l.length ≤ 1000) :
    Calls Try.prog 15 #[.pointer (some ⟨Q, 0, none⟩)] w fun e w' => ∃ a c, e = .returned (.slice a l.length c) ∧ l.length ≤ c ∧ ∃ F', PQ w' Q F' most l ∧ Fr F F' w w' ∧ (l = [] ∨ (w'.ownsRow w.heap.size 3 1 (.slice a l.length c) l.length (fl iv l) ∧ ∀ q, (Value.slice a l.length c).ownBlock = some q → ¬ F' q)) := by
  have HS : Hid (PQ w Q F most l) := h
  obtain ⟨sv, hQ, hF⟩ := h
  have HC : Hid (Calls Try.prog 31 #[sv] w fun e w' => (∃ v', e = .returned v' ∧ w'.ownsRow w.heap.size 3 1 v' l.length (fl iv l)) ∧ Below w.heap.size w w') := iclone_any sv l w hQ.items hl
  obtain ⟨c0, c1, _⟩ := hQ.cells
  obtain ⟨a, cap, rfl, _, _⟩ := tl_slice hQ.items
  obtain ⟨n, hn⟩ : ∃ n, l.length = n := ⟨_, rfl⟩
  have HN : Hid (l.length = n) := hn
  rw [hn] at c1 HC
  clear hQ hF hl hn
  go_enter Try.func15, Try.ntmps15
  go_wp2_with (go_at_call 31; refine HC.out.mono ?_; rintro e w2 ⟨⟨v2, rfl, ho2⟩, hb2⟩; (have H2 : Hid (w2.ownsRow w.heap.size 3 1 v2 n (fl iv l) ∧ Below w.heap.size w w2) := ⟨ho2, hb2⟩); clear ho2 hb2)
  refine bodyPost_ret (results_tmp rfl _ _ _) rfl ?_
  obtain ⟨a2, c2, hv2⟩ := own_slice H2.out.1
  have hc2 : n ≤ c2 := by
    rcases H2.out.1.2 with ⟨h1, h2⟩ | ⟨g, cap, cur, h1, _, _, h3, _⟩
    · omega
    · rw [hv2] at h1
      have := (Value.slice.inj h1).2.2
      omega
  have hb := H2.out.2
  have k1 : PQ w2 Q F most l := HS.out.at' fun q hq => hb.block q (HS.out.lt q hq)
  rw [HN.out]
  refine ⟨a2, c2, by rw [← hv2]; rfl, hc2, F, k1, ⟨hb.os, hb.tape, hb.output, hb.size, fun q hq _ => hb.block q hq, fun q hq => .inl hq⟩, .inr ⟨hv2 ▸ H2.out.1, fun q hq hf => ?_⟩⟩
  have h1 := (H2.out.1.lt q (by rw [hv2]; exact hq)).1
  have := HS.out.lt q hf
  omega
theorem prgQ : PrgQ PQ where
  at' := PQ.at'
  lt := PQ.lt
  nothing := inothing
  new := inew
  push := fun Q F most l x w h _ hl => by
    by_cases hm : most ≤ (l.length : Int)
    · rw [if_pos hm, if_pos hm]; exact ipush_full Q F most l x w h hl hm
    · rw [if_neg hm, if_neg hm]; exact ipush_any Q F most l x w h hl hm
  drop := fun Q F most l w h _ hl => idrop_any Q F most l w h hl
  peek := fun Q F most l w h _ hl => by
    have HS := h
    obtain ⟨sv, hQ, _⟩ := h
    exact (ipeek_any Q most sv l w hQ hl).mono fun e w' ⟨h1, h2⟩ => ⟨h1, by rw [h2]; exact HS.same⟩
  pop := fun Q F most l w h _ hl => by
    cases l with
    | nil => exact ipop_none Q F most w h
    | cons x r => exact ipop_any Q F most x r w h hl
  all := fun Q F most l w h _ hl => iall_any Q F most l w h hl
  len := fun Q F most l w h _ hl => by
    have HS := h
    obtain ⟨sv, hQ, _⟩ := h
    exact (ilen_any Q most sv l w hQ).mono fun e w' ⟨h1, h2⟩ => ⟨h1, by rw [h2]; exact HS.same⟩
end Go.Proofs.Ytfndbllpnkhlhaa
