import Derived.Test.YtflhgphjkhplmaaMN16
import Derived.Lib.SlBytesConst
import Derived.Laws.IdiomStrings
import Derived.RangeFuncNested
import Derived.RangeFuncBound
import Derived.RangeFuncCalls
import Derived.RangeFuncLeaves
import Derived.Shelf.Abstract
import Derived.OwnWalkIn
import Derived.TacticsInMore
import Derived.LoopNIn
import Derived.LoopIn
/- The fixed calls. -/
namespace Go.Proofs.Ytflhgphjkhplmaa.D
open Go Go.RowKit W R Go.Shelf
set_option linter.unusedVariables false
set_option linter.unusedSimpArgs false
attribute [local go_sem] Oper.semAt_some

variable {w w' W : World} {L D k : Nat} {sy : Int} {F F' P P' : Nat → Prop} {dl : List Fd} {g : Lg} {s : List UInt8} {bs : List Int}
theorem src_newG {G : Nat → Prop} (w : World) (zs : List Int) (n : Nat) (hn : zs.length = n) (hG : ¬ G w.heap.size) : SrcG (w.alloc (.cells (u8l zs).toArray 5 (n, n + 1))) G (.slice (some ⟨w.heap.size, 0, none⟩) n n) zs := by
  subst hn
  intro W hW
  have hb : W.heap[w.heap.size]? = some (.cells (u8l zs).toArray 5 (zs.length, zs.length + 1)) := (hW _ (by simp) hG).trans (Go.heap_alloc_new _ _)
  refine .inr ⟨⟨w.heap.size, 0, none⟩, zs.length, rfl, Nat.le_refl _, fun j u hu => ?_⟩
  rw [Addr.add_mid, Nat.zero_add, cell_of_row _ _ _ _ _ _ hb]
  simpa using hu
/-- The log beside its disk, all of it made behind w. -/
structure SK (w : World) (D L k : Nat) (F P : Nat → Prop) (sy : Int) (dl : List Fd) (g : Lg) (W : World) : Prop where
  ws : WS W D L k F P sy dl g
  fr : Fr (fun _ => False) (fun q => F q ∨ P q) w W
theorem SK.below (h : SK w D L k F P sy dl g W) : Below w.heap.size w W := ⟨h.fr.os, h.fr.tape, h.fr.output, h.fr.size, fun q hq => h.fr.block q hq fun e => e⟩
theorem SK.newer (h : SK w D L k F P sy dl g W) (hb : Below W.heap.size W w') : SK w D L k F P sy dl g w' := ⟨h.ws.newer hb, h.fr.trans' (Fr.newer hb)⟩
theorem SK.new (h : SK w D L k F P sy dl g W) : ¬ (F W.heap.size ∨ P W.heap.size) := fun e => e.elim (fun e => by have := h.ws.dr.lt _ e; omega) fun e => by have := h.ws.lg.lt _ e; omega
theorem sk_open (h : DR W D F sy dl) (hf : Fr (fun _ => False) F w W) (i : Inv k sy dl) (hk : k ≤ 1000000) (h0 : rbE dl = 0) : Calls Try.prog 25 #[.pointer (some ⟨D, 0, none⟩), .string { data := #[97] }] W fun e w' => ∃ L, e = .returned (.tuple #[.pointer (some ⟨L, 0, none⟩), .int .i64 0]) ∧ ∃ F' P', Hid (SK w D L (k + 2) F' P' sy (opD dl) (opG dl) w') := by
  refine (open_any h i hk).mono ?_
  rintro e w' ⟨-, h2⟩
  obtain ⟨L, F', P', rfl, h3, h4⟩ := h2 h0
  exact ⟨L, rfl, F', P', h3, hf.trans' h4⟩
theorem sk_append (h : SK w D L k F P sy dl g W) (hk : k ≤ 1000000) (hl : g.rs.length ≤ 1000000) (hsq : seqN g + 1 < 18446744073709551616) (zs : List Int) (n : Nat) (hn : zs.length = n) (hz : Byt zs) (hzl : zs.length ≤ 2000000) (h0 : apLE g zs dl = 0) :
    Calls Try.prog 29 #[.pointer (some ⟨L, 0, none⟩), .slice (some ⟨W.heap.size, 0, none⟩) n n] (W.alloc (.cells (u8l zs).toArray 5 (n, n + 1))) fun e w' => e = .returned (.int .i64 0) ∧ ∃ F' P', Hid (SK w D L (k + 1) F' P' sy (apLD g zs dl) (apLG g zs dl) w') := by
  have h1 := h.newer (bel1 W (.cells (u8l zs).toArray 5 (n, n + 1)))
  refine (append_any h1.ws hk hl hsq (src_newG W zs n hn h.new) hz hzl).mono ?_
  rintro e w' ⟨rfl, F', P', h2, h3⟩
  rw [h0]
  exact ⟨rfl, F', P', h2, h1.fr.trans' h3⟩
set_option maxRecDepth 20000 in
set_option maxHeartbeats 8000000 in
theorem known_any (w : World) : Calls Try.prog 15 #[] w fun e w' => e = .returned (.bool true) ∧ Below w.heap.size w w' := by
  have hcv : ∀ (C : Array Value) (n c : Nat) (W : World), (convert 23 23 (.slice (some ⟨W.heap.size, 0, none⟩) n c)).run Try.prog (W.alloc (.cells C 5)) = .ok (.slice (some ⟨W.heap.size, 0, none⟩) n c) (W.alloc (.cells C 5 (C.size, C.size + 1))) := fun C n c W => Lib.run_convert_bytes_const W 23 5 C n c Try.underlying23 Try.underlying5
  go_enter Try.func15, Try.ntmps15
  go_wp2_with fail
  refine (disk_new w).mono ?_
  rintro e w1 ⟨D, rfl, h1, h2, h3⟩
  have HO1 : Hid (Calls Try.prog 25 #[.pointer (some ⟨D, 0, none⟩), .string { data := #[97] }] w1 fun e w' => ∃ L, e = .returned (.tuple #[.pointer (some ⟨L, 0, none⟩), .int .i64 0]) ∧ ∃ F' P', Hid (SK w D L 2 F' P' 0 [] g0 w')) := by
    have := sk_open (w := w) h1 ⟨h3.os, h3.tape, h3.output, h3.size, fun q hq _ => h3.block q hq, fun q hq => .inr (by rw [show q = D from hq]; exact h2)⟩ (k := 0) ⟨by decide, fun x hx => (nomatch hx), by decide, by decide⟩ (by decide) k0.1
    rw [k0.2.1, k0.2.2] at this
    exact this
  clear h1 h2 h3
  go_wp2_with fail
  refine HO1.out.mono ?_
  rintro e w2 ⟨L, rfl, F2, P2, H2⟩
  clear HO1
  go_wp2_with fail
  refine (sk_append H2.out (by decide) (by decide) (by decide) [120] 1 rfl (by intro c hc; simp at hc; omega) (by decide) k1.1).mono ?_
  rw [k1.2.1, k1.2.2]
  rintro e w3 ⟨rfl, F3, P3, H3⟩
  go_wp2_with fail
  refine (lsync_any H3.out.ws (by decide)).mono ?_
  rintro e w4 ⟨⟨y4, rfl⟩, F4, h4, h4'⟩
  rw [k2] at h4
  have H4 : Hid (SK w D L 4 F4 P3 (syN nLog kd1 0) kd2 kg1 w4) := ⟨h4, H3.out.fr.trans' h4'⟩
  clear h4 h4'
  go_wp2_with fail
  refine (sk_append H4.out (by decide) (by decide) (by decide) [121] 1 rfl (by intro c hc; simp at hc; omega) (by decide) k3.1).mono ?_
  rw [k3.2.1, k3.2.2]
  rintro e w5 ⟨rfl, F5, P5, H5⟩
  go_wp2_with fail
  obtain ⟨W6, hW6⟩ : ∃ W6, (w5.alloc (.cells #[.int .i64 2] 3)).alloc (.cells #[.string { data := #[97, 46, 108, 111, 103] }, .slice (some ⟨w5.heap.size, 0, none⟩) 1 1] 86) = W6 := ⟨_, rfl⟩
  have hb56 : Below w5.heap.size w5 W6 := by rw [← hW6]; exact ((Below.refl _ w5).alloc (Nat.le_refl _) _).alloc (by simp) _
  have hr1 : W6.heap[w5.heap.size]? = some (.cells #[.int .i64 2] 3 (0, 0)) := by rw [← hW6]; exact (Below.heap_alloc _ _ _ (by simp)).trans (Go.heap_alloc_new _ _)
  have hr2 : W6.heap[w5.heap.size + 1]? = some (.cells #[.string { data := #[97, 46, 108, 111, 103] }, .slice (some ⟨w5.heap.size, 0, none⟩) 1 1] 86 (0, 0)) := by
    rw [← hW6]
    have h := Go.heap_alloc_new (w5.alloc (.cells #[.int .i64 2] 3)) (.cells #[.string { data := #[97, 46, 108, 111, 103] }, .slice (some ⟨w5.heap.size, 0, none⟩) 1 1] 86)
    simp only [World.size_alloc] at h
    exact h
  try rw [hW6]
  have H6 : Hid (SK w D L 5 F5 P5 (syN nLog kd1 0) kd3 kg2 W6) := H5.out.newer hb56
  have HCR : Hid (Calls Try.prog 40 #[.pointer (some ⟨D, 0, none⟩), .slice (some ⟨w5.heap.size + 1, 0, none⟩) 1 1] W6 fun e w' => (∃ y, e = .returned (.int .i64 y)) ∧ ∃ F7, Hid (DR w' D F7 (syN nLog kd1 0) kd4 ∧ Inv 6 (syN nLog kd1 0) kd4 ∧ Fr (fun _ => False) F7 w w')) := by
    have hka : KeepsAt (fun q => q = w5.heap.size ∨ q = w5.heap.size + 1) W6 (.slice (some ⟨w5.heap.size + 1, 0, none⟩) 1 1) [(nLog, [2])] := by
      refine ⟨_, 1, rfl, Nat.le_refl _, fun i x hi => ?_⟩
      have h0 : i = 0 ∧ x = (nLog, [2]) := by
        rcases i with _ | i
        · simp at hi; exact ⟨rfl, hi.symm⟩
        · simp at hi
      obtain ⟨rfl, rfl⟩ := h0
      refine ⟨by decide, w5.heap.size + 1, 0, .slice (some ⟨w5.heap.size, 0, none⟩) 1 1, rfl, .inr rfl, by rw [cell_of_row _ _ _ _ _ _ hr2]; rfl, by rw [cell_of_row _ _ _ _ _ _ hr2]; rfl, _, 1, rfl, Nat.le_refl _, fun j y hj => ?_⟩
      have h0 : j = 0 ∧ y = 2 := by
        rcases j with _ | j
        · simp at hj; exact ⟨rfl, hj.symm⟩
        · simp at hj
      obtain ⟨rfl, rfl⟩ := h0
      exact ⟨w5.heap.size, 0, rfl, .inl rfl, by rw [cell_of_row _ _ _ _ _ _ hr1]; rfl⟩
    have hn : ∀ q, F5 q → q < w5.heap.size := H5.out.ws.dr.lt
    refine (p_crash H6.out.ws.dr H6.out.ws.inv (by decide) hka (fun q hq => ?_) (by decide)).mono ?_
    · have h1 := (Array.getElem?_eq_some_iff.1 hr1).1
      have h2 := (Array.getElem?_eq_some_iff.1 hr2).1
      rcases hq with rfl | rfl
      · exact ⟨h1, fun e => by have := hn _ e; omega⟩
      · exact ⟨h2, fun e => by have := hn _ e; omega⟩
    · rw [k4]
      rintro e w' ⟨rfl, F7, h1, h2⟩
      have h3 := crA_inv (ks := [(nLog, [2])]) H6.out.ws.inv
      rw [k4] at h3
      have h4 : Fr (fun _ => False) F5 w W6 := H6.out.fr.sub fun q hq => .inl hq
      exact ⟨⟨_, rfl⟩, F7, h1, h3, h4.trans' h2⟩
  clear hW6 hb56 hr1 hr2
  refine HCR.out.mono ?_
  rintro e w7 ⟨⟨y7, rfl⟩, F7, H7⟩
  clear HCR
  have HO7 : Hid (Calls Try.prog 25 #[.pointer (some ⟨D, 0, none⟩), .string { data := #[97] }] w7 fun e w' => ∃ L, e = .returned (.tuple #[.pointer (some ⟨L, 0, none⟩), .int .i64 0]) ∧ ∃ F' P', Hid (SK w D L 8 F' P' (syN nLog kd1 0) (opD kd4) (opG kd4) w')) := by
    obtain ⟨h1, h2, h3⟩ := H7.out
    exact sk_open (w := w) h1 h3 h2 (by decide) k5.1
  go_wp2_with fail
  refine HO7.out.mono ?_
  rintro e w8 ⟨M, rfl, F8, P8, H8⟩
  clear HO7
  have hg : (opG kd4).rs.length = 1 ∧ (opG kd4).cut = 2 ∧ seqN (opG kd4) = 1 := by
    refine ⟨by rw [k5.2.1]; rfl, k5.2.2.2, ?_⟩
    unfold seqN
    rw [k5.2.1]
    rfl
  have HL : Hid (∀ V, Below w8.heap.size w8 V → Calls Try.prog 30 #[.pointer (some ⟨M, 0, none⟩)] V fun e w' => e = .returned (.int .i64 1) ∧ w' = V) := fun V hV => by
    have := len_some (H8.out.ws.newer hV).lg
    rw [hg.1] at this
    exact this
  have HC : Hid (∀ V, Below w8.heap.size w8 V → Calls Try.prog 32 #[.pointer (some ⟨M, 0, none⟩)] V fun e w' => e = .returned (.int .i64 2) ∧ w' = V) := fun V hV => by
    have := cut_some (H8.out.ws.newer hV).lg
    rw [hg.2.1] at this
    exact this
  have HQ : Hid (∀ V, Below w8.heap.size w8 V → Calls Try.prog 31 #[.pointer (some ⟨M, 0, none⟩)] V fun e w' => e = .returned (.int .u64 1) ∧ ∃ n, w' = V.drewN n) := fun V hV => by
    have := seq_some (H8.out.ws.newer hV).lg (by rw [hg.1]; decide)
    rw [hg.2.2] at this
    exact this
  clear hg
  have HB8 : Hid (Below w.heap.size w w8) := H8.out.below
  go_wp2_with (first | (go_at_call 30; refine (HL.out _ (by first | exact Below.refl _ _ | exact drewN_below _ _)).mono ?_; rintro e w9 ⟨rfl, hw9⟩; rw [hw9]; clear hw9) | (go_at_call 32; refine (HC.out _ (by first | exact Below.refl _ _ | exact drewN_below _ _)).mono ?_; rintro e w9 ⟨rfl, hw9⟩; rw [hw9]; clear hw9) | (go_at_call 31; refine (HQ.out _ (by first | exact Below.refl _ _ | exact drewN_below _ _)).mono ?_; rintro e w9 ⟨rfl, n9, hw9⟩; rw [hw9]; clear hw9))
  go_ret
  exact ⟨rfl, HB8.out.trans ((drewN_below _ _).mono HB8.out.size)⟩
end Go.Proofs.Ytflhgphjkhplmaa.D

/- Calls of a log that is not there. -/
namespace Go.Proofs.Ytflhgphjkhplmaa.D
open Go Go.RowKit W R Go.Shelf
set_option linter.unusedVariables false
set_option linter.unusedSimpArgs false
attribute [local go_sem] Oper.semAt_some

theorem n_append (v : Value) (w : World) : Calls Try.prog 29 #[.pointer none, v] w fun e w' => e = .returned (.int .i64 2) ∧ w' = w := by
  go_enter Try.func29, Try.ntmps29
  go_wp2_with fail
  go_ret
  exact ⟨rfl, rfl⟩
theorem n_sync (w : World) : Calls Try.prog 21 #[.pointer none] w fun e w' => e = .returned (.int .i64 2) ∧ w' = w := by
  go_enter Try.func21, Try.ntmps21
  go_wp2_with fail
  go_ret
  exact ⟨rfl, rfl⟩
theorem n_ckp (v : Value) (w : World) : Calls Try.prog 19 #[.pointer none, v] w fun e w' => e = .returned (.int .i64 2) ∧ w' = w := by
  go_enter Try.func19, Try.ntmps19
  go_wp2_with fail
  go_ret
  exact ⟨rfl, rfl⟩
theorem n_base (w : World) : Calls Try.prog 27 #[.pointer none] w fun e w' => e = .returned (.tuple #[.slice none 0 0, .bool false]) ∧ w' = w := by
  go_enter Try.func27, Try.ntmps27
  go_wp2_with fail
  go_ret2
  exact ⟨rfl, rfl⟩
theorem n_len (w : World) : Calls Try.prog 30 #[.pointer none] w fun e w' => e = .returned (.int .i64 0) ∧ w' = w := by
  go_enter Try.func30, Try.ntmps30
  go_wp2_with fail
  go_ret
  exact ⟨rfl, rfl⟩
theorem n_seq (w : World) : Calls Try.prog 31 #[.pointer none] w fun e w' => e = .returned (.int .u64 0) ∧ w' = w := by
  go_enter Try.func31, Try.ntmps31
  go_wp2_with fail
  go_ret
  exact ⟨rfl, rfl⟩
theorem n_cut (w : World) : Calls Try.prog 32 #[.pointer none] w fun e w' => e = .returned (.int .i64 0) ∧ w' = w := by
  go_enter Try.func32, Try.ntmps32
  go_wp2_with fail
  go_ret
  exact ⟨rfl, rfl⟩
theorem n_all (w : World) : Calls Try.prog 28 #[.pointer none] w fun e w' => e = .returned (.func (.func 61) #[] #[.pointer (some ⟨w.heap.size, 0, none⟩)]) ∧ w' = w.alloc (.cells #[.slice none 0 0] 93) := by
  have hmf : ∀ (fn : Fn) (first cap : Array Value) (w : World), (Instr.makeFunc fn first cap).run Try.prog w = .ok (.func fn first cap) w := fun _ _ _ _ => rfl
  go_enter Try.func28, Try.ntmps28
  go_wp2_with fail
  go_ret
  exact ⟨rfl, rfl⟩
theorem none_in (n : Nat) (l B : Nat) (W : World) (h : W.cell? ⟨B, 0, none⟩ = some (.slice none 0 0)) :
    CallsIn Fence.wide n Try.prog 61 #[.func (.yield l) #[] #[], .pointer (some ⟨B, 0, none⟩)] W fun e W' => (∃ v, e = .returned v) ∧ W' = W := by
  refine callsIn_of_wp Try.func61 rfl trivial ?_ rfl
  simp only [Try.ntmps61, List.size_toArray, List.length_cons, List.length_nil, Nat.reduceAdd, Nat.reduceSub, Array.replicate_succ, Array.replicate_zero, List.push_toArray, List.append_toArray, List.nil_append, List.cons_append]
  gi_wp2
  gi_loopw [7] (fun x wr => x = .int .i64 0 ∧ wr = W) (fun x wr => 0)
  case atStart => exact ⟨rfl, rfl⟩
  case round =>
    obtain ⟨rfl, rfl⟩ := hrel
    gi_wp2
    go_end0
    exact ⟨⟨_, rfl⟩, rfl⟩
theorem none_stops (n n₀ B : Nat) (w : World) (h : w.cell? ⟨B, 0, none⟩ = some (.slice none 0 0)) :
    SeqStopsK Fence.wide n Try.prog 61 #[.pointer (some ⟨B, 0, none⟩)] (fun x : Empty => #[]) (Below n₀) (fun ys => ys = []) (fun _ => True) 0 w := by
  intro l J Jx W hW _ _ hY h0
  refine (none_in n l B W ((hW.cell (World.block_lt_of_cell? w _ h)).trans h)).mono ?_
  rintro e W' ⟨h1, rfl⟩
  exact ⟨h1, .inl ⟨[], rfl, h0⟩⟩
set_option maxRecDepth 100000 in
set_option maxHeartbeats 8000000 in
theorem nil_law (s : ByteArray) (a : Option Addr) (l c : Nat) (w : World) :
    Calls Try.prog 5 #[.string s, .slice a l c] w fun e w' => e = .returned (.bool true) ∧ Below w.heap.size w w' := by
  have hnf : ∀ (fn : Fn) (first cap : Array Value) (w : World), (binOp BinOp.neq 66 (.func fn first cap) .nilFunc).run Try.prog w = .ok (.bool true) w := fun _ _ _ _ => by kernel_rfl
  refine (callsIn_wide (n := 5)).1 ?_
  refine callsIn_of_wp_marks Try.func5 rfl trivial ?_ rfl
  simp only [Try.ntmps5, List.size_toArray, List.length_cons, List.length_nil, Nat.reduceAdd, Nat.reduceSub, Array.replicate_succ, Array.replicate_zero, List.push_toArray, List.append_toArray, List.nil_append, List.cons_append]
  gi_wp2_with (refine ⟨trivial, ?_⟩; first | (gi_at_call 25; refine (callsIn_wide.2 (open_nil _ _)).mono ?_; rintro e w1 ⟨rfl, hb1⟩; (have HB1 : Hid (Below w.heap.size w w1) := hb1); clear hb1) | (gi_at_call 28; refine (callsIn_wide.2 (n_all _)).mono ?_; rintro e w2 ⟨rfl, hw2⟩; (have HW2 : Hid (w2 = _) := hw2); clear hw2))
  obtain ⟨W0, hW0⟩ : ∃ W0, w2 = W0 := ⟨_, rfl⟩
  rw [hW0] at HW2 ⊢
  clear hW0
  have q0 : Boxed W0 w1.heap.size 3 (.int .i64 0) := by
    rw [HW2.out]
    exact (Boxed.new _ _ _).alloc _
  have qB : W0.cell? ⟨w1.heap.size + 1, 0, none⟩ = some (.slice none 0 0) := by
    rw [HW2.out]
    have h := Boxed.new (w1.alloc (.cells #[.int .i64 0] 3)) 93 (.slice none 0 0)
    rw [World.size_alloc] at h
    exact h.cell
  have hB0 : Below w1.heap.size w1 W0 := by
    rw [HW2.out]
    exact (bel1 _ _).alloc (by simp) _
  have hsz : W0.heap.size = w1.heap.size + 2 := by rw [HW2.out]; simp
  refine wpIn_rangeFunc_ownH rfl (by omega) (gf := 61) (lb := #[.pointer (some ⟨w1.heap.size + 1, 0, none⟩)]) rfl trivial (enters_of Try.func61 (by kernel_rfl) rfl)
    (none_stops _ w1.heap.size (w1.heap.size + 1) W0 qB) belowK_t (belowK_b (by omega)) (Below.refl _ _) (fun x => nomatch x)
    (fun pre W => Boxed W w1.heap.size 3 (.int .i64 0) ∧ Below w1.heap.size w1 W)
    (fun _ _ _ => False)
    (OwnFrom.and (Own.from (boxed_own _ _ (fun _ : List Empty => .int .i64 0)) _) (ownFrom_below (Nat.le_refl _) (by omega)))
    (fun _ _ _ _ _ hs _ _ => hs)
    ⟨q0, hB0⟩
    (fun x a' W => False)
    (fun x a' _ X Y row hs hg hr => hs)
    ?assign ?body ?done ?stop
  case assign => exact fun l pre x => nomatch x
  case body =>
    rintro l pre x a' W _ _ _ h _
    exact h.elim
  case done =>
    rintro D zs' W hD rfl ⟨i0, hB1⟩ hK
    have i0' := i0.cell
    have hD2 : D ≠ w1.heap.size := by omega
    have hDlt : D < W.heap.size := (Array.getElem?_eq_some_iff.1 hK).1
    gi_wp2_with (refine ⟨trivial, ?_⟩; first | (gi_at_call 27; refine (callsIn_wide.2 (n_base _)).mono ?_; rintro e w2 ⟨rfl, rfl⟩) | (gi_at_call 29; refine (callsIn_wide.2 (n_append _ _)).mono ?_; rintro e w3 ⟨rfl, rfl⟩) | (gi_at_call 21; refine (callsIn_wide.2 (n_sync _)).mono ?_; rintro e w4 ⟨rfl, rfl⟩) | (gi_at_call 19; refine (callsIn_wide.2 (n_ckp _ _)).mono ?_; rintro e w5 ⟨rfl, rfl⟩) | (gi_at_call 30; refine (callsIn_wide.2 (n_len _)).mono ?_; rintro e w6 ⟨rfl, rfl⟩) | (gi_at_call 31; refine (callsIn_wide.2 (n_seq _)).mono ?_; rintro e w7 ⟨rfl, rfl⟩) | (gi_at_call 32; refine (callsIn_wide.2 (n_cut _)).mono ?_; rintro e w8 ⟨rfl, rfl⟩) | (gi_at_call 15; refine (callsIn_wide.2 (known_any _)).mono ?_; rintro e w9 ⟨rfl, hb9⟩; (have HB9 : Hid (Below _ _ w9) := hb9); clear hb9))
    have hb9 := HB9.out
    have hK2 : w9.heap[D]? = some (.deferred (some [])) := (hb9.block _ hDlt).trans hK
    refine ⟨by simp, .inl ⟨_, _, rfl, run_takeDeferred hK2, ?_⟩⟩
    refine ⟨_, results_tmp Try.results5 _ _ _, rfl, ?_⟩
    have hw1 := HB1.out
    have hb : Below w1.heap.size w1 w9 := hB1.trans (hb9.mono hB1.size)
    have hk := hb.trans (belowK_b (w := w1) (Nat.le_refl _) _ D (.deferred (some [])) (.deferred none) (by omega) hK2 rfl rfl)
    exact hw1.trans (hk.mono hw1.size)
  case stop =>
    rintro D c pre W _ _ h _
    exact h.elim
end Go.Proofs.Ytflhgphjkhplmaa.D
