/- Attributes of other keys: Without. -/
import Derived.Test.YtnfocmoieofbpaaDoorD1
import Derived.Deep.AppendLies
import Derived.Laws.AppendOwnNone
namespace Go.Proofs.YtnfocmoieofbpaaDoor
open Go.RowKit
set_option linter.unusedVariables false
set_option linter.unusedSimpArgs false

theorem Ats.later {W W' : World} {sa : Option Addr} {cap : Nat} {l : List At} (h : Ats W sa cap l) (hb : Below W.heap.size W W') : Ats W' sa cap l := by
  refine ⟨h.cap, fun i x hx => ?_, h.can⟩
  obtain ⟨b, o, h1, h2, h3⟩ := h.cells i x hx
  have hlt : b < W.heap.size := World.block_lt_of_cell? W _ h2
  exact ⟨b, o, h1, (hb.cell (p := ⟨b, o + i * 2, none⟩) hlt).trans h2, (hb.cell (p := ⟨b, o + i * 2 + 1, none⟩) hlt).trans h3⟩
theorem Txs.later {W W' : World} {sa : Option Addr} {cap : Nat} {l : List (List UInt8)} (h : Txs W sa cap l) (hb : Below W.heap.size W W') : Txs W' sa cap l := by
  refine ⟨h.cap, fun i x hx => ?_⟩
  obtain ⟨b, o, h1, h2⟩ := h.cells i x hx
  exact ⟨b, o, h1, (hb.cell (p := ⟨b, o + i, none⟩) (World.block_lt_of_cell? W _ h2)).trans h2⟩
/-- The attributes of other keys. -/
def woI (l : List At) (ks : List (List UInt8)) : List At := l.filter fun x => !decide (x.1 ∈ ks)
def at2 (x : At) : List Value := [.string (tx x.1), .string (tx x.2)]
def atL (l : List At) : List Value := l.flatMap at2
theorem atL_app (l m : List At) : atL (l ++ m) = atL l ++ atL m := by simp [atL]
theorem wo_len (l : List At) (ks : List (List UInt8)) : (woI l ks).length ≤ l.length := List.length_filter_le _ _
theorem wo_snoc (l : List At) (ks : List (List UInt8)) (k : Nat) (x : At) (h : l[k]? = some x) : woI (l.take (k + 1)) ks = woI (l.take k) ks ++ (if x.1 ∈ ks then [] else [x]) := by
  have e : l.take (k + 1) = l.take k ++ [x] := by
    obtain ⟨h1, h2⟩ := List.getElem?_eq_some_iff.1 h
    rw [List.take_succ_eq_append_getElem h1, h2]
  unfold woI
  rw [e, List.filter_append]
  congr 1
  by_cases c : x.1 ∈ ks <;> simp [c]
theorem own_at {w w' : World} {base size n : Nat} {e : TypeId} {v : Value} {xs : List Value} (h : w.ownsRow base e size v n xs) (hk : ∀ q, v.ownBlock = some q → w'.heap[q]? = w.heap[q]?) : w'.ownsRow base e size v n xs :=
  ⟨h.1, h.2.imp id fun ⟨g, cap, cur, hv, hg, hc, r⟩ => ⟨g, cap, cur, hv, hg, (hk g (by rw [hv]; rfl)).trans hc, r⟩⟩
theorem own_slice {w : World} {base size n : Nat} {e : TypeId} {v : Value} {xs : List Value} (h : w.ownsRow base e size v n xs) : ∃ a cap, v = .slice a n cap := by
  rcases h.2 with ⟨h, h'⟩ | ⟨g, cp, cur, hv, _⟩
  · exact ⟨_, _, by rw [h, h']⟩
  · exact ⟨_, cp, hv⟩
theorem info45 : (Tryd.prog.info? 45).map (fun i => (i.zero, i.size, i.bytes)) = some (some (.agg #[.string ⟨#[]⟩, .string ⟨#[]⟩]), 2, 32) := by kernel_rfl
/-- One attribute more. -/
theorem wpList_append_at {w : World} {ops : Array Oper} {rest : List Oper} {o : Oper} {a : Act} {Q : Exit → Act → World → Prop} (hgd : o.guard = none) (s x : Operand)
    (ho : o.op = .call { callee := .builtin .append, args := #[s, x], argTypes := #[22, 22] }) (base : Nat) (v : Value) (n : Nat) (xs : List Value) (hs : a.eval s = v) (V : World) (hown : V.ownsRow base 45 2 v n xs)
    (p : At) (hw : w = V.alloc (.cells #[.string (tx p.1), .string (tx p.2)] 45)) (hx : a.eval x = .slice (some ⟨V.heap.size, 0, none⟩) 1 1) (hb : (n + 1) * 32 ≤ 140737488355328) (hbase : base ≤ V.heap.size)
    (h : ∀ g cap w', w'.ownsRow base 45 2 (.slice (some ⟨g, 0, none⟩) (n + 1) cap) (n + 1) (xs ++ at2 p) → V.grownBy w' v.ownBlock → wpList Tryd.prog ops Q rest (a.put o.dst (.slice (some ⟨g, 0, none⟩) (n + 1) cap)) w') : wpList Tryd.prog ops Q (o :: rest) a w := by
  subst hw
  obtain ⟨i0, hi, hz0, hz1, hz2⟩ := info_parts info45
  refine wpList_append_lies _ hgd s x 22 ho base 45 i0 (.agg #[.string ⟨#[]⟩, .string ⟨#[]⟩]) 2 32 Tryd.underlying22 hi hz0 hz1 hz2 rfl (by decide) v n xs hs (hown.alloc _) ⟨V.heap.size, 0, none⟩ 1 1 (at2 p) hx rfl (World.news_of_block (Go.heap_alloc_new _ _)) (by intro u hu; simp [at2] at hu; rcases hu with rfl | rfl <;> rfl) (by decide) (by unfold maxLen; omega) hb (by simp; omega) (V.heap.size + 1) (by simp) fun g cap w' h1 h2 h3 _ => h g cap w' h1 ?_
  exact ⟨h2.os, h2.tape, h2.output, Nat.le_trans (by simp) h2.size, fun k hk hv => by rw [h2.block k (by simp; omega) hv]; exact Below.heap_alloc _ _ _ hk⟩
set_option maxRecDepth 20000 in
set_option maxHeartbeats 4000000 in
theorem without_any (sa sk : Option Addr) (ca ck : Nat) (l : List At) (ks : List (List UInt8)) (w : World) (hl : Ats w sa ca l) (hks : Txs w sk ck ks) (h1 : (l.length + 1 : Int) * 32 ≤ 140737488355328) (h2 : (ks.length : Int) ≤ 140737488351232) :
    Calls Tryd.prog 22 #[.slice sa l.length ca, .slice sk ks.length ck] w fun e w' => (∃ v, e = .returned v ∧ w'.ownsRow w.heap.size 45 2 v (woI l ks).length (atL (woI l ks))) ∧ Below w.heap.size w w' := by
  have HL : Hid (Ats w sa ca l ∧ Txs w sk ck ks) := ⟨hl, hks⟩
  obtain ⟨n, hn⟩ : ∃ n, l.length = n := ⟨_, rfl⟩
  have ca' : (n : Int) ≤ (ca : Int) := by have := hl.cap; omega
  have HN : Hid (l.length = n ∧ (ks.length : Int) ≤ 140737488351232) := ⟨hn, h2⟩
  rw [hn] at h1 ⊢
  obtain ⟨nk, hnk⟩ : ∃ n, ks.length = n := ⟨_, rfl⟩
  have HNK : Hid (ks.length = nk) := hnk
  rw [hnk] at h2 ⊢
  clear hn hl hks hnk
  go_enter Tryd.func22, Tryd.ntmps22
  go_wp2_with fail
  go_loopw [5, 10] (fun v i wr => ∃ k : Nat, k ≤ n ∧ i = .int .i64 (k : Int) ∧ wr.ownsRow w.heap.size 45 2 v (woI (l.take k) ks).length (atL (woI (l.take k) ks)) ∧ Below w.heap.size w wr) (fun v i wr => n - (intOf i).toNat)
  case atStart => exact ⟨0, by omega, rfl, World.ownsRow_nil _ _ _ _, Below.refl _ _⟩
  case round =>
    obtain ⟨k, hk, rfl, hrow, hbel⟩ := hrel
    have HR : Hid (wr.ownsRow w.heap.size 45 2 u5 (woI (l.take k) ks).length (atL (woI (l.take k) ks)) ∧ Below w.heap.size w wr) := ⟨hrow, hbel⟩
    clear hrow hbel
    by_cases hlt : k < n
    · obtain ⟨x, hx⟩ : ∃ x, l[k]? = some x := ⟨_, List.getElem?_eq_getElem (by have := HN.out.1; omega)⟩
      obtain ⟨b, o, hsa, x0, x1⟩ := (HL.out.1.later HR.out.2).cells k x hx
      subst hsa
      have HX : Hid (l[k]? = some x) := hx
      have hlt' : (k : Int) < (n : Int) := by omega
      have k0 : (0 : Int) ≤ (k : Int) := by omega
      have HLL : Hid (((woI (l.take k) ks).length + 1) * 32 ≤ 140737488355328) := by have h1 := wo_len (l.take k) ks; rw [List.length_take] at h1; show _ ≤ _; omega
      clear hx
      go_upto_region 5 with fail
      obtain ⟨W3, hW3⟩ : ∃ W3, wr.alloc (.cells #[.string (tx x.1), .string (tx x.2)] 45) = W3 := ⟨_, rfl⟩
      have h33 : Below wr.heap.size wr W3 := by rw [← hW3]; exact bel1 _ _
      have hr3 : W3.heap[wr.heap.size]? = some (.cells #[.string (tx x.1), .string (tx x.2)] 45 (0, 0)) := by rw [← hW3]; exact Go.heap_alloc_new _ _
      have z0 : W3.cell? ⟨wr.heap.size, 0, none⟩ = some (.string (tx x.1)) := by rw [cell_of_row _ _ _ _ _ _ hr3]; rfl
      have z1 : W3.cell? ⟨wr.heap.size, 1, none⟩ = some (.string (tx x.2)) := by rw [cell_of_row _ _ _ _ _ _ hr3]; rfl
      have HR3 : Hid (W3.ownsRow w.heap.size 45 2 u5 (woI (l.take k) ks).length (atL (woI (l.take k) ks)) ∧ Below w.heap.size w W3) := ⟨own_at HR.out.1 fun q hq => h33.block q (HR.out.1.lt q hq).2, HR.out.2.trans (h33.mono HR.out.2.size)⟩
      have HWS : Hid (w.heap.size ≤ W3.heap.size) := HR3.out.2.size
      have HCT : Hid (Calls Tryd.prog 38 #[.slice sk nk ck, .string (tx x.1)] W3 fun e w' => e = .returned (.bool (decide (x.1 ∈ ks))) ∧ w' = W3) := by
        have h := contains_any sk ck ks x.1 W3 (HL.out.2.later HR3.out.2) HN.out.2
        rw [HNK.out] at h
        exact h
      try rw [hW3]
      generalize wr.heap.size = q at z0 z1 ⊢
      clear hW3 h33 hr3 x0 x1
      by_cases ht : x.1 ∈ ks
      · have HSN : Hid (woI (l.take (k + 1)) ks = woI (l.take k) ks) := by show _ = _; rw [wo_snoc l ks k x HX.out, if_pos ht, List.append_nil]
        rw [decide_eq_true ht] at HCT
        clear ht
        go_wp2_with (go_at_call 38; refine HCT.out.mono ?_; rintro e w9 ⟨rfl, hw9⟩; rw [hw9]; clear hw9)
        go_roundw
        case rel => exact ⟨k + 1, by omega, by go_num, by rw [HSN.out]; exact HR3.out.1, HR3.out.2⟩
        case measure => simp [intOf]; omega
      · have HSN : Hid (woI (l.take (k + 1)) ks = woI (l.take k) ks ++ [x]) := by show _ = _; rw [wo_snoc l ks k x HX.out, if_neg ht]
        rw [decide_eq_false ht] at HCT
        clear ht
        go_wp2_with (first | (go_at_call 38; refine HCT.out.mono ?_; rintro e w9 ⟨rfl, hw9⟩; rw [hw9]; clear hw9) | (at_builtin; (refine wpList_append_at rfl (.tmp 19) (.tmp 21) rfl w.heap.size u5 (woI (l.take k) ks).length (atL (woI (l.take k) ks)) rfl W3 HR3.out.1 x rfl rfl HLL.out HWS.out ?_; intro g9 c9 w9 ho9 hg9; (have HO9 : Hid (w9.ownsRow w.heap.size 45 2 (.slice (some ⟨g9, 0, none⟩) ((woI (l.take k) ks).length + 1) c9) ((woI (l.take k) ks).length + 1) (atL (woI (l.take k) ks) ++ at2 x) ∧ W3.grownBy w9 u5.ownBlock) := ⟨ho9, hg9⟩); clear ho9 hg9)))
        go_roundw
        case rel =>
          have hg := HO9.out.2
          refine ⟨k + 1, by omega, by go_num, ?_, HR3.out.2.trans ⟨hg.os, hg.tape, hg.output, hg.size, fun q hq => hg.block q (by have := HWS.out; omega) (fun e => by have := (HR3.out.1.lt q e.symm).1; omega)⟩⟩
          rw [HSN.out, List.length_append, atL_app]
          have h := HO9.out.1
          rw [show atL [x] = at2 x by simp [atL]]
          exact h
        case measure => simp [intOf]; omega
    · have hge : ¬ ((k : Int) < (n : Int)) := by omega
      have htk : l.take k = l := by rw [List.take_of_length_le (by have := HN.out.1; omega)]
      rw [htk] at HR
      clear hlt htk
      go_wp2_with fail
      go_ret
      exact ⟨⟨_, rfl, HR.out.1⟩, HR.out.2⟩
end Go.Proofs.YtnfocmoieofbpaaDoor
