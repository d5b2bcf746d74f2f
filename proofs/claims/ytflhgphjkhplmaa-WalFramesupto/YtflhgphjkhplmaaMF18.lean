import Derived.Test.YtflhgphjkhplmaaMF17
import Derived.Lib.SlBytesConst
import Derived.Laws.IdiomStrings
import Derived.Test.YtflhgphjkhplmaaMF13
import Derived.Test.YtflhgphjkhplmaaRows
import Derived.Deep.Slices
import Derived.OpenShut
import Derived.ProofKit
/- The fixed calls. -/
namespace Go.Proofs.Ytflhgphjkhplmaa.D
open Go Go.RowKit W R Go.Shelf
set_option linter.unusedVariables false
set_option linter.unusedSimpArgs false
attribute [local go_sem] Oper.semAt_some

variable {w w' W : World} {L D k : Nat} {sy : Int} {F F' P P' : Nat → Prop} {dl : List Fd} {g : Lg} {s : List UInt8} {bs : List Int}
theorem src_newG {G : Nat → Prop} (w : World) (zs : List Int) (n : Nat) (hn : zs.length = n) (hG : ¬ G w.heap.size) : SrcG (w.alloc (.cells (u8l zs).toArray 5 (n, n + 1))) G (.slice (some ⟨w.heap.size, 0, none⟩) n n) zs := by
  subst hn
  intro W hW
  have hb : W.heap[w.heap.size]? = some (.cells (u8l zs).toArray 5 (zs.length, zs.length + 1)) := (hW _ (by simp) hG).trans (Go.heap_alloc_new _ _)
  refine .inr ⟨⟨w.heap.size, 0, none⟩, zs.length, rfl, Nat.le_refl _, fun j u hu => ?_⟩
  rw [Addr.add_mid, Nat.zero_add, cell_of_row _ _ _ _ _ _ hb]
  simpa using hu
/-- The log beside its disk, all of it made behind w. -/
structure SK (w : World) (D L k : Nat) (F P : Nat → Prop) (sy : Int) (dl : List Fd) (g : Lg) (W : World) : Prop where
  ws : WS W D L k F P sy dl g
  fr : Fr (fun _ => False) (fun q => F q ∨ P q) w W
theorem SK.below (h : SK w D L k F P sy dl g W) : Below w.heap.size w W := ⟨h.fr.os, h.fr.tape, h.fr.output, h.fr.size, fun q hq => h.fr.block q hq fun e => e⟩
theorem SK.newer (h : SK w D L k F P sy dl g W) (hb : Below W.heap.size W w') : SK w D L k F P sy dl g w' := ⟨h.ws.newer hb, h.fr.trans' (Fr.newer hb)⟩
theorem SK.new (h : SK w D L k F P sy dl g W) : ¬ (F W.heap.size ∨ P W.heap.size) := fun e => e.elim (fun e => by have := h.ws.dr.lt _ e; omega) fun e => by have := h.ws.lg.lt _ e; omega
theorem sk_open (h : DR W D F sy dl) (hf : Fr (fun _ => False) F w W) (i : Inv k sy dl) (hk : k ≤ 1000000) (h0 : rbE dl = 0) : Calls Try.prog 25 #[.pointer (some ⟨D, 0, none⟩), .string { data := #[97] }] W fun e w' => ∃ L, e = .returned (.tuple #[.pointer (some ⟨L, 0, none⟩), .int .i64 0]) ∧ ∃ F' P', Hid (SK w D L (k + 2) F' P' sy (opD dl) (opG dl) w') := by
  refine (open_any h i hk).mono ?_
  rintro e w' ⟨-, h2⟩
  obtain ⟨L, F', P', rfl, h3, h4⟩ := h2 h0
  exact ⟨L, rfl, F', P', h3, hf.trans' h4⟩
theorem sk_append (h : SK w D L k F P sy dl g W) (hk : k ≤ 1000000) (hl : g.rs.length ≤ 1000000) (hsq : seqN g + 1 < 18446744073709551616) (zs : List Int) (n : Nat) (hn : zs.length = n) (hz : Byt zs) (hzl : zs.length ≤ 2000000) (h0 : apLE g zs dl = 0) :
    Calls Try.prog 29 #[.pointer (some ⟨L, 0, none⟩), .slice (some ⟨W.heap.size, 0, none⟩) n n] (W.alloc (.cells (u8l zs).toArray 5 (n, n + 1))) fun e w' => e = .returned (.int .i64 0) ∧ ∃ F' P', Hid (SK w D L (k + 1) F' P' sy (apLD g zs dl) (apLG g zs dl) w') := by
  have h1 := h.newer (bel1 W (.cells (u8l zs).toArray 5 (n, n + 1)))
  refine (append_any h1.ws hk hl hsq (src_newG W zs n hn h.new) hz hzl).mono ?_
  rintro e w' ⟨rfl, F', P', h2, h3⟩
  rw [h0]
  exact ⟨rfl, F', P', h2, h1.fr.trans' h3⟩
set_option maxRecDepth 20000 in
set_option maxHeartbeats 8000000 in
theorem known_any (w : World) : Calls Try.prog 15 #[] w fun e w' => e = .returned (.bool true) ∧ Below w.heap.size w w' := by
  have hcv : ∀ (C : Array Value) (n c : Nat) (W : World), (convert 23 23 (.slice (some ⟨W.heap.size, 0, none⟩) n c)).run Try.prog (W.alloc (.cells C 5)) = .ok (.slice (some ⟨W.heap.size, 0, none⟩) n c) (W.alloc (.cells C 5 (C.size, C.size + 1))) := fun C n c W => Lib.run_convert_bytes_const W 23 5 C n c Try.underlying23 Try.underlying5
  go_enter Try.func15, Try.ntmps15
  go_wp2_with fail
  refine (disk_new w).mono ?_
  rintro e w1 ⟨D, rfl, h1, h2, h3⟩
  have HO1 : Hid (Calls Try.prog 25 #[.pointer (some ⟨D, 0, none⟩), .string { data := #[97] }] w1 fun e w' => ∃ L, e = .returned (.tuple #[.pointer (some ⟨L, 0, none⟩), .int .i64 0]) ∧ ∃ F' P', Hid (SK w D L 2 F' P' 0 [] g0 w')) := by
    have := sk_open (w := w) h1 ⟨h3.os, h3.tape, h3.output, h3.size, fun q hq _ => h3.block q hq, fun q hq => .inr (by rw [show q = D from hq]; exact h2)⟩ (k := 0) ⟨by decide, fun x hx => (nomatch hx), by decide, by decide⟩ (by decide) k0.1
    rw [k0.2.1, k0.2.2] at this
    exact this
  clear h1 h2 h3
  go_wp2_with fail
  refine HO1.out.mono ?_
  rintro e w2 ⟨L, rfl, F2, P2, H2⟩
  clear HO1
  go_wp2_with fail
  refine (sk_append H2.out (by decide) (by decide) (by decide) [120] 1 rfl (by intro c hc; simp at hc; omega) (by decide) k1.1).mono ?_
  rw [k1.2.1, k1.2.2]
  rintro e w3 ⟨rfl, F3, P3, H3⟩
  go_wp2_with fail
  refine (lsync_any H3.out.ws (by decide)).mono ?_
  rintro e w4 ⟨⟨y4, rfl⟩, F4, h4, h4'⟩
  rw [k2] at h4
  have H4 : Hid (SK w D L 4 F4 P3 (syN nLog kd1 0) kd2 kg1 w4) := ⟨h4, H3.out.fr.trans' h4'⟩
  clear h4 h4'
  go_wp2_with fail
  refine (sk_append H4.out (by decide) (by decide) (by decide) [121] 1 rfl (by intro c hc; simp at hc; omega) (by decide) k3.1).mono ?_
  rw [k3.2.1, k3.2.2]
  rintro e w5 ⟨rfl, F5, P5, H5⟩
  go_wp2_with fail
  obtain ⟨W6, hW6⟩ : ∃ W6, (w5.alloc (.cells #[.int .i64 2] 3)).alloc (.cells #[.string { data := #[97, 46, 108, 111, 103] }, .slice (some ⟨w5.heap.size, 0, none⟩) 1 1] 86) = W6 := ⟨_, rfl⟩
  have hb56 : Below w5.heap.size w5 W6 := by rw [← hW6]; exact ((Below.refl _ w5).alloc (Nat.le_refl _) _).alloc (by simp) _
  have hr1 : W6.heap[w5.heap.size]? = some (.cells #[.int .i64 2] 3 (0, 0)) := by rw [← hW6]; exact (Below.heap_alloc _ _ _ (by simp)).trans (Go.heap_alloc_new _ _)
  have hr2 : W6.heap[w5.heap.size + 1]? = some (.cells #[.string { data := #[97, 46, 108, 111, 103] }, .slice (some ⟨w5.heap.size, 0, none⟩) 1 1] 86 (0, 0)) := by
    rw [← hW6]
    have h := Go.heap_alloc_new (w5.alloc (.cells #[.int .i64 2] 3)) (.cells #[.string { data := #[97, 46, 108, 111, 103] }, .slice (some ⟨w5.heap.size, 0, none⟩) 1 1] 86)
    simp only [World.size_alloc] at h
    exact h
  try rw [hW6]
  have H6 : Hid (SK w D L 5 F5 P5 (syN nLog kd1 0) kd3 kg2 W6) := H5.out.newer hb56
  have HCR : Hid (Calls Try.prog 40 #[.pointer (some ⟨D, 0, none⟩), .slice (some ⟨w5.heap.size + 1, 0, none⟩) 1 1] W6 fun e w' => (∃ y, e = .returned (.int .i64 y)) ∧ ∃ F7, Hid (DR w' D F7 (syN nLog kd1 0) kd4 ∧ Inv 6 (syN nLog kd1 0) kd4 ∧ Fr (fun _ => False) F7 w w')) := by
    have hka : KeepsAt (fun q => q = w5.heap.size ∨ q = w5.heap.size + 1) W6 (.slice (some ⟨w5.heap.size + 1, 0, none⟩) 1 1) [(nLog, [2])] := by
      refine ⟨_, 1, rfl, Nat.le_refl _, fun i x hi => ?_⟩
      have h0 : i = 0 ∧ x = (nLog, [2]) := by
        rcases i with _ | i
        · simp at hi; exact ⟨rfl, hi.symm⟩
        · simp at hi
      obtain ⟨rfl, rfl⟩ := h0
      refine ⟨by decide, w5.heap.size + 1, 0, .slice (some ⟨w5.heap.size, 0, none⟩) 1 1, rfl, .inr rfl, by rw [cell_of_row _ _ _ _ _ _ hr2]; rfl, by rw [cell_of_row _ _ _ _ _ _ hr2]; rfl, _, 1, rfl, Nat.le_refl _, fun j y hj => ?_⟩
      have h0 : j = 0 ∧ y = 2 := by
        rcases j with _ | j
        · simp at hj; exact ⟨rfl, hj.symm⟩
        · simp at hj
      obtain ⟨rfl, rfl⟩ := h0
      exact ⟨w5.heap.size, 0, rfl, .inl rfl, by rw [cell_of_row _ _ _ _ _ _ hr1]; rfl⟩
    have hn : ∀ q, F5 q → q < w5.heap.size := H5.out.ws.dr.lt
    refine (p_crash H6.out.ws.dr H6.out.ws.inv (by decide) hka (fun q hq => ?_) (by decide)).mono ?_
    · have h1 := (Array.getElem?_eq_some_iff.1 hr1).1
      have h2 := (Array.getElem?_eq_some_iff.1 hr2).1
      rcases hq with rfl | rfl
      · exact ⟨h1, fun e => by have := hn _ e; omega⟩
      · exact ⟨h2, fun e => by have := hn _ e; omega⟩
    · rw [k4]
      rintro e w' ⟨rfl, F7, h1, h2⟩
      have h3 := crA_inv (ks := [(nLog, [2])]) H6.out.ws.inv
      rw [k4] at h3
      have h4 : Fr (fun _ => False) F5 w W6 := H6.out.fr.sub fun q hq => .inl hq
      exact ⟨⟨_, rfl⟩, F7, h1, h3, h4.trans' h2⟩
  clear hW6 hb56 hr1 hr2
  refine HCR.out.mono ?_
  rintro e w7 ⟨⟨y7, rfl⟩, F7, H7⟩
  clear HCR
  have HO7 : Hid (Calls Try.prog 25 #[.pointer (some ⟨D, 0, none⟩), .string { data := #[97] }] w7 fun e w' => ∃ L, e = .returned (.tuple #[.pointer (some ⟨L, 0, none⟩), .int .i64 0]) ∧ ∃ F' P', Hid (SK w D L 8 F' P' (syN nLog kd1 0) (opD kd4) (opG kd4) w')) := by
    obtain ⟨h1, h2, h3⟩ := H7.out
    exact sk_open (w := w) h1 h3 h2 (by decide) k5.1
  go_wp2_with fail
  refine HO7.out.mono ?_
  rintro e w8 ⟨M, rfl, F8, P8, H8⟩
  clear HO7
  have hg : (opG kd4).rs.length = 1 ∧ (opG kd4).cut = 2 ∧ seqN (opG kd4) = 1 := by
    refine ⟨by rw [k5.2.1]; rfl, k5.2.2.2, ?_⟩
    unfold seqN
    rw [k5.2.1]
    rfl
  have HL : Hid (∀ V, Below w8.heap.size w8 V → Calls Try.prog 30 #[.pointer (some ⟨M, 0, none⟩)] V fun e w' => e = .returned (.int .i64 1) ∧ w' = V) := fun V hV => by
    have := len_some (H8.out.ws.newer hV).lg
    rw [hg.1] at this
    exact this
  have HC : Hid (∀ V, Below w8.heap.size w8 V → Calls Try.prog 32 #[.pointer (some ⟨M, 0, none⟩)] V fun e w' => e = .returned (.int .i64 2) ∧ w' = V) := fun V hV => by
    have := cut_some (H8.out.ws.newer hV).lg
    rw [hg.2.1] at this
    exact this
  have HQ : Hid (∀ V, Below w8.heap.size w8 V → Calls Try.prog 31 #[.pointer (some ⟨M, 0, none⟩)] V fun e w' => e = .returned (.int .u64 1) ∧ ∃ n, w' = V.drewN n) := fun V hV => by
    have := seq_some (H8.out.ws.newer hV).lg (by rw [hg.1]; decide)
    rw [hg.2.2] at this
    exact this
  clear hg
  have HB8 : Hid (Below w.heap.size w w8) := H8.out.below
  go_wp2_with (first | (go_at_call 30; refine (HL.out _ (by first | exact Below.refl _ _ | exact drewN_below _ _)).mono ?_; rintro e w9 ⟨rfl, hw9⟩; rw [hw9]; clear hw9) | (go_at_call 32; refine (HC.out _ (by first | exact Below.refl _ _ | exact drewN_below _ _)).mono ?_; rintro e w9 ⟨rfl, hw9⟩; rw [hw9]; clear hw9) | (go_at_call 31; refine (HQ.out _ (by first | exact Below.refl _ _ | exact drewN_below _ _)).mono ?_; rintro e w9 ⟨rfl, n9, hw9⟩; rw [hw9]; clear hw9))
  go_ret
  exact ⟨rfl, HB8.out.trans ((drewN_below _ _).mono HB8.out.size)⟩
end Go.Proofs.Ytflhgphjkhplmaa.D

/- WalFrames' law: contracts. -/
namespace Go.Proofs.Ytflhgphjkhplmaa.D
open Go Go.RowKit W R Go.Shelf
set_option linter.unusedVariables false
set_option linter.unusedSimpArgs false
attribute [local go_sem] Oper.semAt_some

variable {w w' V : World} {bs : List Int} {v : Value} {S : Nat}
/-- Bytes that came in: they lie in every later world. -/
structure SV (w : World) (v : Value) (bs : List Int) : Prop where
  bz : Bz w v bs
  len : bs.length ≤ 1048576
theorem SV.byt (h : SV w v bs) : Byt bs := h.bz.byt
theorem SV.src (h : SV w v bs) (W : World) (hb : Below w.heap.size w W) : Src W v bs := (h.bz.newer hb).src
def frO (S : Nat) (bs : List Int) : List Int := if frE S bs.length = 0 then frI S bs else []
theorem frO_byt (h : Byt bs) : Byt (frO S bs) := by
  unfold frO
  split
  · exact frI_byt h
  · exact fun c hc => (nomatch hc)
theorem frO_len (hs : S < 18446744073709551616) : (frO S bs).length ≤ 70000 := by
  unfold frO
  split
  · rename_i h
    have := (frI_len hs (frE_ok h).2).2
    have := (frE_ok h).2
    omega
  · simp
theorem frm8 (hs : S < 18446744073709551616) (hS : Src V v bs) (hz : Byt bs) (hl : bs.length ≤ 4000000) : Calls Try.prog 8 #[.int .u64 (S : Int), v] V fun e w' => ∃ xa xc, e = .returned (.tuple #[.slice xa (frO S bs).length xc, .int .i64 (frE S bs.length)]) ∧ Hid (w'.ownsRow V.heap.size 5 1 (.slice xa (frO S bs).length xc) (frO S bs).length (u8l (frO S bs)) ∧ Below V.heap.size V w') := by
  refine (frame_any S hs hS hz hl).mono ?_
  rintro e w' ⟨⟨v', rfl, h1, h2⟩, h3⟩
  by_cases hE : frE S bs.length = 0
  · have e : frO S bs = frI S bs := if_pos hE
    rw [e]
    obtain ⟨a, c, rfl⟩ := own_slice (h1 hE)
    exact ⟨a, c, rfl, h1 hE, h3⟩
  · have e : frO S bs = [] := if_neg hE
    rw [e]
    obtain rfl := h2 hE
    exact ⟨none, 0, rfl, World.ownsRow_nil _ _ _ _, h3⟩
theorem frm9 (hs : S < 18446744073709551616) (hS : Src V v bs) (hz : Byt bs) (hl : bs.length ≤ 4000000) : Calls Try.prog 9 #[.int .u64 (S : Int), v] V fun e w' => ∃ xa xc, e = .returned (.tuple #[.slice xa (frO S bs).length xc, .int .i64 (frE S bs.length)]) ∧ Hid (w'.ownsRow V.heap.size 5 1 (.slice xa (frO S bs).length xc) (frO S bs).length (u8l (frO S bs)) ∧ Below V.heap.size V w') := by
  refine (rframe_any S hs hS hz hl).mono ?_
  rintro e w' ⟨⟨v', rfl, h1, h2⟩, h3⟩
  by_cases hE : frE S bs.length = 0
  · have e : frO S bs = frI S bs := if_pos hE
    rw [e]
    obtain ⟨a, c, rfl⟩ := own_slice (h1 hE)
    exact ⟨a, c, rfl, h1 hE, h3⟩
  · have e : frO S bs = [] := if_neg hE
    rw [e]
    obtain rfl := h2 hE
    exact ⟨none, 0, rfl, World.ownsRow_nil _ _ _ _, h3⟩
/-- What Lent gives, in all later worlds. -/
theorem lent7 (hv : Src V v bs) (hz : Byt bs) (hl : bs.length ≤ 1048576) : Calls Try.prog 7 #[v] V fun e w' => ∃ g c, e = .returned (.slice (some ⟨g, 0, none⟩) bs.length c) ∧ Hid (LentR w' V.heap.size (.slice (some ⟨g, 0, none⟩) bs.length c) bs ∧ Below V.heap.size V w') := by
  refine (lent_any hv (by omega)).mono ?_
  rintro e w' ⟨u, rfl, h1, h2⟩
  obtain ⟨g, c, e, h3⟩ := h1
  subst e
  exact ⟨g, c, rfl, ⟨g, c, rfl, h3⟩, h2⟩
theorem LentR.later {W W' : World} {base : Nat} (h : LentR W base v bs) (hb : Below W.heap.size W W') : LentR W' base v bs := by
  obtain ⟨g, cap, cur, h1, h2, h3, h4, -⟩ := h.row
  exact h4 W' (hb.block g (Array.getElem?_eq_some_iff.1 h3).1)
theorem LentR.own {W : World} {base : Nat} (h : LentR W base v bs) : W.ownsRow base 5 1 v bs.length (u8l bs) := by
  obtain ⟨g, cap, cur, h1, h2, h3, h4, h5, -⟩ := h.row
  exact h5
theorem lastN_pl {xs ys : List El} (h : xs.map El.pl = ys.map El.pl) : lastN xs = lastN ys ∧ lastE xs = lastE ys ∧ xs.length = ys.length := by
  have h1 : xs.getLast?.map El.pl = ys.getLast?.map El.pl := by rw [← List.getLast?_map, h, List.getLast?_map]
  refine ⟨?_, ?_, by simpa using congrArg List.length h⟩
  · unfold lastN
    have := congrArg (Option.map (fun q : Nat × List Int × Nat => q.1)) h1
    rw [Option.map_map, Option.map_map] at this
    exact congrArg (Option.getD · 0) this
  · unfold lastE
    have := congrArg (Option.map (fun q : Nat × List Int × Nat => q.2.2)) h1
    rw [Option.map_map, Option.map_map] at this
    exact congrArg (Option.getD · 0) this
def lnL (zs : List Int) : Nat := ((goodI zs).getLast?.map fun q => q.1).getD 0
theorem lastN_good {xs : List El} {zs : List Int} (h : xs.map El.pl = goodI zs) : lastN xs = lnL zs := by
  unfold lastN lnL
  rw [← h, List.getLast?_map, Option.map_map]
  rfl
/-- A list of records as it lies. -/
structure RecsAt (W : World) (base : Nat) (lv : Value) (xs : List El) (zs : List Int) : Prop where
  pl : xs.map El.pl = goodI zs
  row : W.ownsRow base 23 1 lv xs.length (xs.map El.rv)
  each : ∀ x ∈ xs, rowX base x W
theorem RecsAt.later {W W' : World} {base : Nat} {lv : Value} {xs : List El} {zs : List Int} (h : RecsAt W base lv xs zs) (hb : Below W.heap.size W W') : RecsAt W' base lv xs zs :=
  ⟨h.pl, own_at h.row fun q hq => hb.block q (h.row.lt q hq).2, fun x hx => own_at (h.each x hx) fun q hq => hb.block q ((h.each x hx).lt q hq).2⟩
theorem RecsAt.len {W : World} {base : Nat} {lv : Value} {xs : List El} {zs : List Int} (h : RecsAt W base lv xs zs) : xs.length = (goodI zs).length := by rw [← h.pl, List.length_map]
theorem RecsAt.byt {W : World} {base : Nat} {lv : Value} {xs : List El} {zs : List Int} (h : RecsAt W base lv xs zs) (hz : Byt zs) : ∀ x ∈ xs, Byt x.r := fun x hx => by
  have hm : El.pl x ∈ goodI zs := by rw [← h.pl]; exact List.mem_map_of_mem hx
  obtain ⟨p, hp⟩ := gd_all zs _ _ _ _ hm
  obtain ⟨f1, f2, f3, f4, f5, f6, f7⟩ := fatI_some hp
  intro c hc
  have h1 : c ∈ frI x.n x.r := by unfold frI hdI; simp [hc]
  have h2 : c ∈ (zs.drop p).take (frI x.n x.r).length := by rw [show (zs.drop p).take (frI x.n x.r).length = frI x.n x.r from f5]; exact h1
  exact hz c (List.mem_of_mem_drop (List.mem_of_mem_take h2))
theorem RecsAt.small {W : World} {base : Nat} {lv : Value} {xs : List El} {zs : List Int} (h : RecsAt W base lv xs zs) : ∀ x ∈ xs, x.r.length ≤ 65536 := fun x hx => by
  have hm : El.pl x ∈ goodI zs := by rw [← h.pl]; exact List.mem_map_of_mem hx
  exact (good_all hm).2.2.1
/-- One record is spoilt; the others, and the list, lie as they lay. -/
theorem spoil_round {W4 W W' : World} {x : El} {l : List El} {n : Nat} {lv : Value} {vs : List Value} (hb : Below W4.heap.size W4 W) (hr : W.ownsRow W4.heap.size 23 1 lv n vs) (hx : ∀ y ∈ x :: l, rowX W4.heap.size y W) (ha : ∀ y ∈ l, Apq x y) (hg : Gr x.rv W (.slice none 0 0) W') :
    Below W4.heap.size W4 W' ∧ W'.ownsRow W4.heap.size 23 1 lv n vs ∧ ∀ y ∈ l, rowX W4.heap.size y W' := by
  have h0 : W.ownsRow W4.heap.size 5 1 x.rv x.r.length (u8l x.r) := hx x (by simp)
  refine ⟨hb.trans (hg.below hb.size fun q hq => (h0.lt q hq).1), own_at hr fun q hq => ?_, fun y hy => ?_⟩
  · refine hg.block q (hr.lt q hq).2 fun e => ?_
    obtain ⟨c1, e1⟩ := own_tag hr hq
    obtain ⟨c2, e2⟩ := own_tag h0 e
    exact ne_tag e1 e2 (by decide) rfl
  · have h1 : W.ownsRow W4.heap.size 5 1 y.rv y.r.length (u8l y.r) := hx y (by simp [hy])
    exact own_at h1 fun q hq => hg.block q (h1.lt q hq).2 fun e => ha y hy q e hq
theorem frm11 {zs : List Int} (h : Bz V v zs) (hr : ∀ q, v.ownBlock = some q → ∃ (c : Array Value) (f : Nat × Nat), V.heap[q]? = some (.cells c 5 f)) : Calls Try.prog 11 #[v] V fun e w' => ∃ xs la lc, e = .returned (.tuple #[.slice la (goodI zs).length lc, .int .u64 (lnL zs : Int), .int .i64 (endL zs : Int)]) ∧ Hid (RecsAt w' V.heap.size (.slice la (goodI zs).length lc) xs zs ∧ xs.Pairwise Apq ∧ Below V.heap.size V w') := by
  refine (frames_apart h hr).mono ?_
  rintro e w' ⟨xs, lv, rfl, h1, h2, h3, h4, h5⟩
  have hR : RecsAt w' V.heap.size lv xs zs := ⟨h1, h2, h3⟩
  obtain ⟨la, lc, rfl⟩ := own_slice h2
  rw [lastN_good h1, (lastE_good h1).1]
  rw [hR.len] at hR ⊢
  exact ⟨xs, la, lc, rfl, hR, h5, h4⟩
theorem frm12 {zs : List Int} (h : Bz V v zs) : Calls Try.prog 12 #[v] V fun e w' => ∃ xs la lc, e = .returned (.tuple #[.slice la (goodI zs).length lc, .int .u64 (lnL zs : Int), .int .i64 (endL zs : Int)]) ∧ Hid (RecsAt w' V.heap.size (.slice la (goodI zs).length lc) xs zs ∧ Below V.heap.size V w') := by
  refine (rframes_any h).mono ?_
  rintro e w' ⟨xs, lv, rfl, h1, h2, h3, h4⟩
  have hR : RecsAt w' V.heap.size lv xs zs := ⟨h1, h2, h3⟩
  obtain ⟨la, lc, rfl⟩ := own_slice h2
  rw [lastN_good h1, (lastE_good h1).1]
  rw [hR.len] at hR ⊢
  exact ⟨xs, la, lc, rfl, hR, h4⟩
theorem same_recs {W : World} {b1 b2 : Nat} {la lb : Value} {xs ys : List El} {zs : List Int} (h1 : RecsAt W b1 la xs zs) (h2 : RecsAt W b2 lb ys zs) (hz : Byt zs) (hl : zs.length ≤ 2000000) : Calls Try.prog 13 #[la, lb] W fun e w' => e = .returned (.bool true) ∧ ∃ n, w' = W.drewN n := by
  have m : ∀ l : List El, (l.map fun x => (x.rv, x.r)).map Prod.fst = l.map El.rv := fun l => by rw [List.map_map]; rfl
  have e : ∀ l : List El, l.map El.pl = goodI zs → (l.map fun x => (x.rv, x.r)).map Prod.snd = (goodI zs).map fun q => q.2.1 := fun l h => by rw [List.map_map, ← h, List.map_map]; rfl
  have hlen := good_len zs
  refine same_yes W la lb (xs.map fun x => (x.rv, x.r)) (ys.map fun x => (x.rv, x.r)) (ba := b1) (bb := b2) ?_ ?_ ?_ ?_ ?_ ?_
  · rw [m, List.length_map]; exact h1.row
  · rw [m, List.length_map]; exact h2.row
  · intro x hx
    obtain ⟨y, hy, rfl⟩ := List.mem_map.1 hx
    exact ⟨own_src (h1.each y hy), h1.byt hz y hy⟩
  · intro x hx
    obtain ⟨y, hy, rfl⟩ := List.mem_map.1 hx
    exact ⟨own_src (h2.each y hy), h2.byt hz y hy⟩
  · rw [e xs h1.pl, e ys h2.pl]
  · rw [List.length_map, h1.len]; omega
theorem two_good {S : Nat} {bs cs : List Int} (h1 : 1 ≤ S) (h2 : S + 1 < 18446744073709551616) (hb : bs.length ≤ 65536) (hc : cs.length ≤ 65536) : (goodI (frI S bs ++ frI (S + 1) cs)).length = 2 ∧ lnL (frI S bs ++ frI (S + 1) cs) = S + 1 ∧ endL (frI S bs ++ frI (S + 1) cs) = (frI S bs).length + (frI (S + 1) cs).length ∧ (goodI (frI S bs ++ frI (S + 1) cs)).map (fun q => q.2.1) = [bs, cs] := by
  have e : frI S bs ++ frI (S + 1) cs = frs S [bs, cs] := by simp [frs]
  have hg := good_frs [bs, cs] S (fun b hb' => by simp at hb'; rcases hb' with rfl | rfl <;> assumption) h1 (by simp; omega)
  unfold lnL endL
  rw [e, hg]
  refine ⟨by simp [gdL], by simp [gdL], ?_, by simp [gdL]⟩
  simp [gdL]
theorem u8l_append (a b : List Int) : u8l (a ++ b) = u8l a ++ u8l b := by simp [u8l]
/-- A list of two slices, laid as a literal. -/
theorem lit2 (W : World) (x y : Value) : (W.alloc (.cells #[x, y] 23)).ownsRow W.heap.size 23 1 (.slice (some ⟨W.heap.size, 0, none⟩) 2 2) 2 [x, y] :=
  ⟨rfl, .inr ⟨W.heap.size, 2, #[x, y], rfl, Nat.le_refl _, Go.heap_alloc_new _ _, Nat.le_refl _, by unfold maxLen; omega, rfl, rfl⟩⟩
end Go.Proofs.Ytflhgphjkhplmaa.D

/- WalFrames' law. -/
namespace Go.Proofs.Ytflhgphjkhplmaa.D
open Go Go.RowKit W R Go.Shelf
set_option linter.unusedVariables false
set_option linter.unusedSimpArgs false
attribute [local go_sem] Oper.semAt_some

variable {w w' V : World} {bs cs ms : List Int} {vb vc vm : Value} {S : Nat}
theorem bz_sv {W : World} {a : Option Addr} {n c : Nat} {zs : List Int} (h : SV w (.slice a n c) zs) (hb : Below w.heap.size w W) : Bz W (.slice a n c) zs := h.bz.newer hb
set_option maxRecDepth 100000 in
set_option maxHeartbeats 8000000 in
theorem frames_law (hs : S < 18446744073709551616) (hb : SV w vb bs) (hc : SV w vc cs) (hm : SV w vm ms) : Calls Try.prog 3 #[.int .u64 (S : Int), vb, vc, vm] w fun e w' => e = .returned (.bool true) ∧ Below w.heap.size w w' := by
  obtain ⟨ba, bc, rfl⟩ := (hb.src w (Below.refl _ _)).slice
  obtain ⟨ca, cc, rfl⟩ := (hc.src w (Below.refl _ _)).slice
  obtain ⟨ma, mc, rfl⟩ := (hm.src w (Below.refl _ _)).slice
  obtain ⟨B, hB⟩ : ∃ B, bs.length = B := ⟨_, rfl⟩
  obtain ⟨C, hC⟩ : ∃ C, cs.length = C := ⟨_, rfl⟩
  obtain ⟨M, hM⟩ : ∃ M, ms.length = M := ⟨_, rfl⟩
  have HL : Hid (bs.length = B ∧ cs.length = C ∧ ms.length = M ∧ S < 18446744073709551616) := ⟨hB, hC, hM, hs⟩
  have HSB : Hid (SV w (.slice ba B bc) bs) := by rw [hB] at hb; exact hb
  have HSC : Hid (SV w (.slice ca C cc) cs) := by rw [hC] at hc; exact hc
  have HSM : Hid (SV w (.slice ma M mc) ms) := by rw [hM] at hm; exact hm
  obtain ⟨E, hE⟩ : ∃ E, frE S B = E := ⟨_, rfl⟩
  obtain ⟨fr, hfr⟩ : ∃ fr, frO S bs = fr := ⟨_, rfl⟩
  obtain ⟨N, hN⟩ : ∃ N, fr.length = N := ⟨_, rfl⟩
  have HE : Hid (frE S B = E ∧ frO S bs = fr ∧ fr.length = N ∧ Byt fr ∧ N ≤ 70000) := ⟨hE, hfr, hN, by rw [← hfr]; exact frO_byt hb.byt, by rw [← hN, ← hfr]; exact frO_len hs⟩
  have HL7 : Hid (Calls Try.prog 7 #[.slice ba B bc] w fun e w' => ∃ g c, e = .returned (.slice (some ⟨g, 0, none⟩) B c) ∧ Hid (LentR w' w.heap.size (.slice (some ⟨g, 0, none⟩) B c) bs ∧ Below w.heap.size w w')) := by
    have h := lent7 (HSB.out.src w (Below.refl _ _)) hb.byt hb.len
    rw [hB] at h
    exact h
  have HF8 : Hid (∀ V v, Below w.heap.size w V → Src V v bs → Calls Try.prog 8 #[.int .u64 (S : Int), v] V fun e w' => ∃ xa xc, e = .returned (.tuple #[.slice xa N xc, .int .i64 E]) ∧ Hid (w'.ownsRow w.heap.size 5 1 (.slice xa N xc) fr.length (u8l fr) ∧ Below w.heap.size w w' ∧ Below V.heap.size V w')) := by
    show ∀ V v, _
    intro V v hV hv
    have h := frm8 hs hv hb.byt (by have := hb.len; omega)
    rw [hB, hfr, hN, hE] at h
    refine h.mono ?_
    rintro e w' ⟨xa, xc, rfl, h1, h2⟩
    refine ⟨xa, xc, rfl, ?_, hV.trans (h2.mono hV.size), h2⟩
    rw [hN]
    exact own_low h1 hV.size
  have HF9 : Hid (∀ V v, Below w.heap.size w V → Src V v bs → Calls Try.prog 9 #[.int .u64 (S : Int), v] V fun e w' => ∃ xa xc, e = .returned (.tuple #[.slice xa N xc, .int .i64 E]) ∧ Hid (w'.ownsRow w.heap.size 5 1 (.slice xa N xc) fr.length (u8l fr) ∧ Below w.heap.size w w' ∧ Below V.heap.size V w')) := by
    show ∀ V v, _
    intro V v hV hv
    have h := frm9 hs hv hb.byt (by have := hb.len; omega)
    rw [hB, hfr, hN, hE] at h
    refine h.mono ?_
    rintro e w' ⟨xa, xc, rfl, h1, h2⟩
    refine ⟨xa, xc, rfl, ?_, hV.trans (h2.mono hV.size), h2⟩
    rw [hN]
    exact own_low h1 hV.size
  rw [hB, hC, hM]
  clear hb hc hm hs hB hC hM hE hfr hN
  go_enter Try.func3, Try.ntmps3
  go_upto_region 4 with (first | (go_at_call 7; refine HL7.out.mono ?_; rintro e w1 ⟨g1, k1, rfl, H1⟩) | (go_at_call 8; refine (HF8.out _ _ H1.out.2 (own_src H1.out.1.own)).mono ?_; rintro e w2 ⟨xa, xc, rfl, H2⟩) | (go_at_call 9; refine (HF9.out _ _ H2.out.2.1 (HSB.out.src _ H2.out.2.1)).mono ?_; rintro e w3 ⟨ya, yc, rfl, H3⟩))
  have HX3 : Hid (w3.ownsRow w.heap.size 5 1 (.slice xa N xc) fr.length (u8l fr) ∧ LentR w3 w.heap.size (.slice (some ⟨g1, 0, none⟩) B k1) bs) := ⟨own_at H2.out.1 fun q hq => H3.out.2.2.block q (H2.out.1.lt q hq).2, (H1.out.1.later H2.out.2.2).later H3.out.2.2⟩
  obtain ⟨T, hT⟩ : ∃ T : ByteArray, (⟨(strB fr).toArray⟩ : ByteArray) = T := ⟨_, rfl⟩
  have q1 : (convert 23 9 (.slice xa N xc)).run Try.prog w3 = .ok (.string T) w3 := by rw [← hT]; exact Src.conv (own_src HX3.out.1) HE.out.2.2.2.1
  have q2 : (convert 23 9 (.slice ya N yc)).run Try.prog w3 = .ok (.string T) w3 := by rw [← hT]; exact Src.conv (own_src H3.out.1) HE.out.2.2.2.1
  have hTT : (T.toList == T.toList) = true := by simp
  have HK : Hid (Calls Try.prog 10 #[.slice (some ⟨g1, 0, none⟩) B k1, .slice ba B bc] w3 fun e w' => e = .returned (.bool true) ∧ w' = w3) := by
    have h := kept_any (lv := .slice (some ⟨g1, 0, none⟩) B k1) HX3.out.2 (HSB.out.src _ H3.out.2.1) HSB.out.byt (by have := HSB.out.len; omega)
    exact h
  have HL7b : Hid (Calls Try.prog 7 #[.slice ma M mc] w3 fun e w' => ∃ g c, e = .returned (.slice (some ⟨g, 0, none⟩) M c) ∧ Hid (LentR w' w3.heap.size (.slice (some ⟨g, 0, none⟩) M c) ms ∧ Below w3.heap.size w3 w')) := by
    have h := lent7 (HSM.out.src w3 H3.out.2.1) HSM.out.byt HSM.out.len
    rw [HL.out.2.2.1] at h
    exact h
  clear hT HL7 HF9
  go_upto_region 7 with (first | (go_at_call 10; refine HK.out.mono ?_; rintro e wk ⟨rfl, hwk⟩; rw [hwk]; clear hwk) | (go_at_call 7; refine HL7b.out.mono ?_; rintro e w4 ⟨g4, k4, rfl, H4⟩))
  have hb34 : Below w.heap.size w w4 := H3.out.2.1.trans (H4.out.2.mono H3.out.2.1.size)
  have HX4 : Hid (w4.ownsRow w.heap.size 5 1 (.slice xa N xc) fr.length (u8l fr) ∧ Below w.heap.size w w4 ∧ Byt ms ∧ M ≤ 1048576) := ⟨own_at HX3.out.1 fun q hq => H4.out.2.block q (HX3.out.1.lt q hq).2, hb34, HSM.out.byt, by have := HSM.out.len; have := HL.out.2.2.1; omega⟩
  obtain ⟨n0, hn0⟩ : ∃ n, (goodI ms).length = n := ⟨_, rfl⟩
  obtain ⟨l0, hl0⟩ : ∃ n, lnL ms = n := ⟨_, rfl⟩
  obtain ⟨e0, he0⟩ : ∃ n, endL ms = n := ⟨_, rfl⟩
  have HG : Hid ((goodI ms).length = n0 ∧ n0 ≤ 1048576) := ⟨hn0, by have h1 := good_len ms; have h2 := HX4.out.2.2.2; have h3 := HL.out.2.2.1; omega⟩
  have hn0i : (n0 : Int) ≤ 1048576 := by have := HG.out.2; omega
  have HF11 : Hid (Calls Try.prog 11 #[.slice (some ⟨g4, 0, none⟩) M k4] w4 fun e w' => ∃ xs la lc, e = .returned (.tuple #[.slice la n0 lc, .int .u64 (l0 : Int), .int .i64 (e0 : Int)]) ∧ Hid (RecsAt w' w4.heap.size (.slice la n0 lc) xs ms ∧ xs.Pairwise Apq ∧ Below w4.heap.size w4 w')) := by
    have hw := H4.out.1.own
    have h := frm11 (own_bz hw HX4.out.2.2.1 (by have := HX4.out.2.2.2; have := HL.out.2.2.1; omega)) (fun q hq => by obtain ⟨cur, hcur⟩ := own_tag hw hq; exact ⟨cur, _, hcur⟩)
    rw [hn0, hl0, he0] at h
    exact h
  have HF12 : Hid (∀ V, Below w4.heap.size w4 V → Calls Try.prog 12 #[.slice ma M mc] V fun e w' => ∃ xs la lc, e = .returned (.tuple #[.slice la n0 lc, .int .u64 (l0 : Int), .int .i64 (e0 : Int)]) ∧ Hid (RecsAt w' V.heap.size (.slice la n0 lc) xs ms ∧ Below V.heap.size V w')) := by
    show ∀ V, _
    intro V hV
    have h := frm12 (bz_sv HSM.out (HX4.out.2.1.trans (hV.mono HX4.out.2.1.size)))
    rw [hn0, hl0, he0] at h
    exact h
  clear hb34 hn0 hl0 he0 HK HL7b q1 q2 hTT
  go_upto_region 9 with (first | (go_at_call 11; refine HF11.out.mono ?_; rintro e w5 ⟨xs5, la5, lc5, rfl, H5⟩) | (go_at_call 12; refine (HF12.out _ H5.out.2.2).mono ?_; rintro e w6 ⟨xs6, la6, lc6, rfl, H6⟩))
  have HS13 : Hid (Calls Try.prog 13 #[.slice la5 n0 lc5, .slice la6 n0 lc6] w6 fun e w' => e = .returned (.bool true) ∧ ∃ n, w' = w6.drewN n) := by
    exact same_recs (H5.out.1.later H6.out.2) H6.out.1 HX4.out.2.2.1 (by have := HX4.out.2.2.2; have := HL.out.2.2.1; omega)
  clear HF11 HF12
  go_upto_region 11 with (first | (go_at_call 13; refine HS13.out.mono ?_; rintro e w7 ⟨rfl, n7, hw7⟩; rw [hw7]; clear hw7))
  have HX6 : Hid (Below w4.heap.size w4 (w6.drewN n7) ∧ RecsAt (w6.drewN n7) w4.heap.size (.slice la5 n0 lc5) xs5 ms ∧ xs5.Pairwise Apq ∧ xs5.length = n0) :=
    ⟨(H5.out.2.2.trans (H6.out.2.mono H5.out.2.2.size)).trans ((drewN_below w6 n7).mono (Nat.le_trans H5.out.2.2.size H6.out.2.size)), (H5.out.1.later H6.out.2).later (drewN_below w6 n7), H5.out.2.1, by rw [H5.out.1.len]; exact HG.out.1⟩
  obtain ⟨w8, hw8⟩ : ∃ w8, w6.drewN n7 = w8 := ⟨_, rfl⟩
  rw [hw8] at HX6 ⊢
  clear hw8 HS13
  go_wp2_with fail
  go_loopw [20] (fun x wr => ∃ k : Nat, k ≤ n0 ∧ x = .int .i64 (k : Int) ∧ Hid (Below w4.heap.size w4 wr ∧ wr.ownsRow w4.heap.size 23 1 (.slice la5 n0 lc5) n0 (xs5.map El.rv) ∧ ∀ x ∈ xs5.drop k, rowX w4.heap.size x wr)) (fun x wr => n0 - (intOf x).toNat)
  case atStart => exact ⟨0, Nat.zero_le _, rfl, HX6.out.1, by have h := HX6.out.2.1.row; rw [HX6.out.2.2.2] at h; exact h, fun x hx => HX6.out.2.1.each x (by simpa using hx)⟩
  case round =>
    obtain ⟨k, hk, rfl, H⟩ := hrel
    by_cases hlt : k < n0
    · obtain ⟨g5, rfl⟩ : ∃ g, la5 = some ⟨g, 0, none⟩ := by
        obtain ⟨g, c, e⟩ := own_form H.out.2.1 (by omega)
        injection e with e1
        exact ⟨g, e1⟩
      have hk5 : k < xs5.length := by rw [HX6.out.2.2.2]; exact hlt
      obtain ⟨x, hx⟩ : ∃ x, xs5[k] = x := ⟨_, rfl⟩
      have hd : xs5.drop k = x :: xs5.drop (k + 1) := by rw [← hx]; exact List.drop_eq_getElem_cons hk5
      have hrow : wr.ownsRow w4.heap.size 5 1 x.rv x.r.length (u8l x.r) := H.out.2.2 x (by rw [hd]; simp)
      have hmem : x ∈ xs5 := by rw [← hx]; exact List.getElem_mem _
      have HSP : Hid (Calls Try.prog 14 #[x.rv] wr fun e w' => (∃ u, e = .returned u) ∧ Hid (Gr x.rv wr (.slice none 0 0) w')) := by
        exact spoil_own hrow (HX6.out.2.1.byt HX4.out.2.2.1 x hmem) (by have := HX6.out.2.1.small x hmem; omega)
      have hc : wr.cell? ⟨g5, k, none⟩ = some x.rv := by
        have h := H.out.2.1
        have h2 := h.cellAt k (by omega)
        rw [List.getElem?_map, List.getElem?_eq_getElem hk5, hx] at h2
        exact h2
      obtain ⟨xa', xc', hrv⟩ := own_slice hrow
      have HRX : Hid (xs5.drop k = x :: xs5.drop (k + 1) ∧ (∀ y ∈ xs5.drop (k + 1), Apq x y) ∧ x.rv = .slice xa' x.r.length xc') := by
        refine ⟨hd, fun y hy => ?_, hrv⟩
        have hp := HX6.out.2.2.1
        have h2 : (xs5.drop k).Pairwise Apq := hp.sublist (List.drop_sublist _ _)
        rw [hd] at h2
        exact (List.pairwise_cons.1 h2).1 y hy
      have hki : (k : Int) < (n0 : Int) := by omega
      rw [hrv] at hc HSP
      clear hrow hmem hx hd hrv hk5
      go_wp2_with (go_at_call 14; refine HSP.out.mono ?_; rintro e w9 ⟨⟨u9, rfl⟩, H9⟩)
      go_roundw
      case rel =>
        refine ⟨k + 1, by omega, by go_num, ?_⟩
        have h := H.out
        rw [HRX.out.1] at h
        have h9 := H9.out
        rw [← HRX.out.2.2] at h9
        exact spoil_round h.1 h.2.1 h.2.2 HRX.out.2.1 h9
      case measure => simp [intOf]; omega
    · have hkn : k = n0 := by omega
      subst hkn
      have HB : Hid (Below w.heap.size w wr ∧ Below w4.heap.size w4 wr) := ⟨HX4.out.2.1.trans (H.out.1.mono HX4.out.2.1.size), H.out.1⟩
      have HKb : Hid (Calls Try.prog 10 #[.slice (some ⟨g4, 0, none⟩) M k4, .slice ma M mc] wr fun e w' => e = .returned (.bool true) ∧ w' = wr) := by
        have h := kept_any (lv := .slice (some ⟨g4, 0, none⟩) M k4) (H4.out.1.later HB.out.2) (HSM.out.src _ HB.out.1) HSM.out.byt (by have := HSM.out.len; omega)
        exact h
      have HKN : Hid (∀ V, Below w.heap.size w V → Calls Try.prog 15 #[] V fun e w' => e = .returned (.bool true) ∧ Hid (Below w.heap.size w w')) := by
        show ∀ V, _
        intro V hV
        refine (known_any V).mono ?_
        rintro e w' ⟨rfl, h⟩
        exact ⟨rfl, hV.trans (h.mono hV.size)⟩
      clear H hk hlt
      have HR0 : Hid (wr.ownsRow w.heap.size 5 1 (.slice xa N xc) fr.length (u8l fr)) := own_at HX4.out.1 fun q hq => HB.out.2.block q (HX4.out.1.lt q hq).2
      have HF8c : Hid (∀ (S2 : Nat), S2 < 18446744073709551616 → ∀ V, Below w.heap.size w V → Calls Try.prog 8 #[.int .u64 (S2 : Int), .slice ca C cc] V fun e w' => ∃ za zc, e = .returned (.tuple #[.slice za (frO S2 cs).length zc, .int .i64 (frE S2 C)]) ∧ Hid (w'.ownsRow V.heap.size 5 1 (.slice za (frO S2 cs).length zc) (frO S2 cs).length (u8l (frO S2 cs)) ∧ Below V.heap.size V w')) := by
        show ∀ S2 : Nat, _
        intro S2 h2 V hV
        have h := frm8 (S := S2) h2 (HSC.out.src V hV) HSC.out.byt (by have := HSC.out.len; omega)
        rw [HL.out.2.1] at h
        exact h
      clear HF8
      rcases Nat.lt_or_ge (S + 1) 18446744073709551616 with hS1 | hS1
      · have hS1i : (S : Int) + 1 < 18446744073709551616 := by omega
        obtain ⟨E2, hE2⟩ : ∃ E2, frE (S + 1) C = E2 := ⟨_, rfl⟩
        obtain ⟨fs, hfs⟩ : ∃ fs, frO (S + 1) cs = fs := ⟨_, rfl⟩
        obtain ⟨N2, hN2⟩ : ∃ N2, fs.length = N2 := ⟨_, rfl⟩
        have HE2 : Hid (frE (S + 1) C = E2 ∧ frO (S + 1) cs = fs ∧ fs.length = N2 ∧ Byt fs ∧ N2 ≤ 70000) := ⟨hE2, hfs, hN2, by rw [← hfs]; exact frO_byt HSC.out.byt, by rw [← hN2, ← hfs]; exact frO_len hS1⟩
        have HF8d : Hid (Calls Try.prog 8 #[.int .u64 ((S : Int) + 1), .slice ca C cc] wr fun e w' => ∃ za zc, e = .returned (.tuple #[.slice za N2 zc, .int .i64 E2]) ∧ Hid (w'.ownsRow wr.heap.size 5 1 (.slice za N2 zc) fs.length (u8l fs) ∧ Below wr.heap.size wr w')) := by
          have h := HF8c.out (S + 1) hS1 wr HB.out.1
          rw [hE2, hfs, hN2] at h
          rw [hN2]
          exact h
        clear HF8c hE2 hfs hN2
        have HS1 : Hid (S + 1 < 18446744073709551616) := hS1
        clear hS1
        by_cases hE0 : E = 0
        · by_cases hE2 : E2 = 0
          · subst hE0
            subst hE2
            go_upto_region 20 with (first | (go_at_call 10; refine HKb.out.mono ?_; rintro e wk ⟨rfl, hwk⟩; rw [hwk]; clear hwk) | (go_at_call 8; refine HF8d.out.mono ?_; rintro e w10 ⟨za, zc, rfl, H10⟩))
            have hb0 := frE_ok HE.out.1
            have hc0 := frE_ok HE2.out.1
            have efr : fr = frI S bs := by rw [← HE.out.2.1]; exact if_pos (by rw [HL.out.1]; exact HE.out.1)
            have efs : fs = frI (S + 1) cs := by rw [← HE2.out.2.1]; exact if_pos (by rw [HL.out.2.1]; exact HE2.out.1)
            have hNp : 0 < N := by rw [← HE.out.2.2.1, efr]; exact fr_pos HL.out.2.2.2 (by rw [HL.out.1]; exact hb0.2)
            have hN2p : 0 < N2 := by rw [← HE2.out.2.2.1, efs]; exact fr_pos HS1.out (by rw [HL.out.2.1]; exact hc0.2)
            have HR10 : Hid (w10.ownsRow w.heap.size 5 1 (.slice xa N xc) N (u8l fr)) := by
              have h : w10.ownsRow w.heap.size 5 1 (.slice xa N xc) fr.length (u8l fr) := own_at HR0.out fun q hq => H10.out.2.block q (HR0.out.lt q hq).2
              rw [HE.out.2.2.1] at h
              exact h
            have HZ10 : Hid (w10.ownsRow wr.heap.size 5 1 (.slice za N2 zc) N2 (u8l fs)) := by
              have h := H10.out.1
              rw [HE2.out.2.2.1] at h
              exact h
            obtain ⟨gz, rfl⟩ : ∃ g, za = some ⟨g, 0, none⟩ := by
              obtain ⟨g, c, e⟩ := own_form HZ10.out hN2p
              injection e with e1
              exact ⟨g, e1⟩
            have HB10 : Hid (Below w.heap.size w w10) := HB.out.1.trans (H10.out.2.mono HB.out.1.size)
            have HFF : Hid (fr = frI S bs ∧ fs = frI (S + 1) cs ∧ 0 < N2 ∧ N ≤ 70000 ∧ N2 ≤ 70000) := ⟨efr, efs, hN2p, HE.out.2.2.2.2, HE2.out.2.2.2.2⟩
            obtain ⟨zs, hzs⟩ : ∃ zs, fr ++ fs = zs := ⟨_, rfl⟩
            have HZS : Hid (fr ++ fs = zs ∧ zs.length = N + N2 ∧ Byt zs ∧ (goodI zs).length = 2 ∧ lnL zs = S + 1 ∧ endL zs = N + N2 ∧ (goodI zs).map (fun q => q.2.1) = [bs, cs]) := by
              have hlen : zs.length = N + N2 := by rw [← hzs, List.length_append, HE.out.2.2.1, HE2.out.2.2.1]
              have h2 := two_good (S := S) (bs := bs) (cs := cs) (by have := hb0.1; omega) HS1.out (by rw [HL.out.1]; exact hb0.2) (by rw [HL.out.2.1]; exact hc0.2)
              rw [← efr, ← efs, hzs, HE.out.2.2.1, HE2.out.2.2.1] at h2
              exact ⟨hzs, hlen, by rw [← hzs]; exact byt_app HE.out.2.2.2.1 HE2.out.2.2.2.1, h2.1, h2.2.1, h2.2.2.1, h2.2.2.2⟩
            obtain ⟨i0, hi, hz0, hz1, hz2⟩ := info_parts info5
            clear hb0 hc0 efr efs hNp hN2p hzs HF8d HKb
            go_upto_region 21 with (at_builtin; (refine wpList_append_lies _ rfl (.tmp 110) (.tmp 111) 23 rfl w.heap.size 5 i0 (.int .u8 0) 1 1 Try.underlying23 hi hz0 hz1 hz2 rfl (by decide) (.slice xa N xc) N (u8l fr) rfl HR10.out ⟨gz, 0, none⟩ N2 zc (u8l fs) rfl (by rw [u8l_len]; have := HE2.out.2.2.1; omega) (HZ10.out.cells rfl) (u8l_one fs) HFF.out.2.2.1 (by have := HFF.out; unfold maxLen; omega) (by have := HFF.out; omega) HB10.out.size w10.heap.size rfl ?_; intro g11 cp11 w11 ho11 hg11 hx11 hy11; (have H11 : Hid (w11.ownsRow w.heap.size 5 1 (.slice (some ⟨g11, 0, none⟩) (N + N2) cp11) (N + N2) (u8l fr ++ u8l fs) ∧ w10.grownBy w11 (Value.slice xa N xc).ownBlock) := ⟨ho11, hg11⟩); clear ho11 hg11 hx11 hy11))
            have HB11 : Hid (Below w.heap.size w w11) := HB10.out.grown H11.out.2 HB10.out.size fun q hq => (HR10.out.lt q hq).1
            have HF11 : Hid (Calls Try.prog 11 #[.slice (some ⟨g11, 0, none⟩) (N + N2) cp11] w11 fun e w' => ∃ xs la lc, e = .returned (.tuple #[.slice la 2 lc, .int .u64 ((S : Int) + 1), .int .i64 ((N : Int) + (N2 : Int))]) ∧ Hid (RecsAt w' w11.heap.size (.slice la 2 lc) xs zs ∧ Below w11.heap.size w11 w')) := by
              have hw : w11.ownsRow w.heap.size 5 1 (.slice (some ⟨g11, 0, none⟩) (N + N2) cp11) zs.length (u8l zs) := by
                rw [HZS.out.2.1, ← HZS.out.1, u8l_append]
                exact H11.out.1
              have h := frm11 (own_bz hw HZS.out.2.2.1 (by have := HZS.out.2.1; have := HFF.out; omega)) (fun q hq => by obtain ⟨cur, hcur⟩ := own_tag hw hq; exact ⟨cur, _, hcur⟩)
              rw [HZS.out.2.2.2.1, HZS.out.2.2.2.2.1, HZS.out.2.2.2.2.2.1] at h
              refine h.mono ?_
              rintro e w' ⟨xs, la, lc, rfl, h1⟩
              exact ⟨xs, la, lc, rfl, h1.out.1, h1.out.2.2⟩
            go_upto_region 22 with (go_at_call 11; refine HF11.out.mono ?_; rintro e w12 ⟨xs12, la12, lc12, rfl, H12⟩)
            have HB12 : Hid (Below w.heap.size w w12) := HB11.out.trans (H12.out.2.mono HB11.out.size)
            have HS13 : Hid (Calls Try.prog 13 #[.slice la12 2 lc12, .slice (some ⟨w12.heap.size, 0, none⟩) 2 2] (w12.alloc (.cells #[.slice ba B bc, .slice ca C cc] 23)) fun e w' => e = .returned (.bool true) ∧ Hid (Below w.heap.size w w')) := by
              have hbA := bel1 w12 (.cells #[.slice ba B bc, .slice ca C cc] 23)
              have hbW := HB12.out.trans (hbA.mono HB12.out.size)
              have hR := H12.out.1.later hbA
              have m : ∀ l : List El, (l.map fun x => (x.rv, x.r)).map Prod.fst = l.map El.rv := fun l => by rw [List.map_map]; rfl
              have hl2 : xs12.length = 2 := by rw [hR.len]; exact HZS.out.2.2.2.1
              refine (same_yes _ (.slice la12 2 lc12) (.slice (some ⟨w12.heap.size, 0, none⟩) 2 2) (xs12.map fun x => (x.rv, x.r)) [(.slice ba B bc, bs), (.slice ca C cc, cs)] (ba := w11.heap.size) (bb := w12.heap.size) ?_ (lit2 w12 _ _) ?_ ?_ ?_ ?_).mono ?_
              · rw [m, List.length_map]; exact hR.row
              · intro x hx
                obtain ⟨y, hy, rfl⟩ := List.mem_map.1 hx
                exact ⟨own_src (hR.each y hy), hR.byt HZS.out.2.2.1 y hy⟩
              · intro x hx
                simp at hx
                rcases hx with rfl | rfl
                · exact ⟨HSB.out.src _ hbW, HSB.out.byt⟩
                · exact ⟨HSC.out.src _ hbW, HSC.out.byt⟩
              · rw [List.map_map]
                have e := HZS.out.2.2.2.2.2.2
                rw [← hR.pl, List.map_map] at e
                exact e
              · rw [List.length_map, hl2]; decide
              · rintro e w' ⟨rfl, n, rfl⟩
                exact ⟨rfl, hbW.trans ((drewN_below _ n).mono hbW.size)⟩
            go_wp2_with (first | (go_at_call 13; refine HS13.out.mono ?_; rintro e w13 ⟨rfl, H13⟩) | (go_at_call 15; refine (HKN.out _ H13.out).mono ?_; rintro e w14 ⟨rfl, H14⟩))
            go_ret
            exact ⟨rfl, H14.out⟩
          · subst hE0
            have hE2' : (E2 != 0) = true := by rw [bne_iff_ne]; exact hE2
            clear hE2
            go_wp2_with (first | (go_at_call 10; refine HKb.out.mono ?_; rintro e wk ⟨rfl, hwk⟩; rw [hwk]; clear hwk) | (go_at_call 8; refine HF8d.out.mono ?_; rintro e w10 ⟨za, zc, rfl, H10⟩) | (go_at_call 15; refine (HKN.out _ (HB.out.1.trans (H10.out.2.mono HB.out.1.size))).mono ?_; rintro e w11 ⟨rfl, H11⟩))
            go_ret
            exact ⟨rfl, H11.out⟩
        · have hE0' : (E != 0) = true := by rw [bne_iff_ne]; exact hE0
          clear hE0
          go_wp2_with (first | (go_at_call 10; refine HKb.out.mono ?_; rintro e wk ⟨rfl, hwk⟩; rw [hwk]; clear hwk) | (go_at_call 8; refine HF8d.out.mono ?_; rintro e w10 ⟨za, zc, rfl, H10⟩) | (go_at_call 15; refine (HKN.out _ (HB.out.1.trans (H10.out.2.mono HB.out.1.size))).mono ?_; rintro e w11 ⟨rfl, H11⟩))
          go_ret
          exact ⟨rfl, H11.out⟩
      · have hS0 : S = 18446744073709551615 := by have := HL.out.2.2.2; omega
        have HF8d : Hid (Calls Try.prog 8 #[.int .u64 0, .slice ca C cc] wr fun e w' => ∃ za n zc, e = .returned (.tuple #[.slice za n zc, .int .i64 1]) ∧ Hid (Below wr.heap.size wr w')) := by
          have h := HF8c.out 0 (by omega) wr HB.out.1
          refine h.mono ?_
          rintro e w' ⟨za, zc, rfl, h1⟩
          exact ⟨za, _, zc, rfl, h1.out.2⟩
        clear HF8c hS1
        subst hS0
        by_cases hE0 : E = 0
        · subst hE0
          go_wp2_with (first | (go_at_call 10; refine HKb.out.mono ?_; rintro e wk ⟨rfl, hwk⟩; rw [hwk]; clear hwk) | (go_at_call 8; refine HF8d.out.mono ?_; rintro e w10 ⟨za, n10, zc, rfl, H10⟩) | (go_at_call 15; refine (HKN.out _ (HB.out.1.trans (H10.out.mono HB.out.1.size))).mono ?_; rintro e w11 ⟨rfl, H11⟩))
          go_ret
          exact ⟨rfl, H11.out⟩
        · have hE0' : (E != 0) = true := by rw [bne_iff_ne]; exact hE0
          clear hE0
          go_wp2_with (first | (go_at_call 10; refine HKb.out.mono ?_; rintro e wk ⟨rfl, hwk⟩; rw [hwk]; clear hwk) | (go_at_call 8; refine HF8d.out.mono ?_; rintro e w10 ⟨za, n10, zc, rfl, H10⟩) | (go_at_call 15; refine (HKN.out _ (HB.out.1.trans (H10.out.mono HB.out.1.size))).mono ?_; rintro e w11 ⟨rfl, H11⟩))
          go_ret
          exact ⟨rfl, H11.out⟩
end Go.Proofs.Ytflhgphjkhplmaa.D

/- What comes in: bytes; of bulk at most 1048576. -/
namespace Go.Proofs.Ytflhgphjkhplmaa.D
open Go.ChangeShapes Go.WideShapes Go.ChangeAt Go.RowKit W
set_option linter.unusedVariables false
set_option linter.unusedSimpArgs false

theorem bulk_one {H : Type} (d : DataW H) : 1 ≤ Rows.uptoBulk d := by
  cases d with
  | lit l => cases l <;> simp [Rows.uptoBulk]
  | _ => simp [Rows.uptoBulk]
theorem bulk_len {H : Type} : ∀ l : List (DataW H), l.length ≤ Rows.uptoBulkAll l
  | [] => by simp [Rows.uptoBulkAll]
  | d :: r => by have h1 := bulk_len r; have h2 := bulk_one d; simp only [Rows.uptoBulkAll, List.length_cons]; omega
theorem bulk_mem {H : Type} {d : DataW H} : ∀ {l : List (DataW H)}, d ∈ l → Rows.uptoBulk d ≤ Rows.uptoBulkAll l
  | x :: r, h => by
    simp only [Rows.uptoBulkAll]
    rcases List.mem_cons.1 h with rfl | h
    · omega
    · have := bulk_mem h; omega
theorem bulk_ints {H : Type} {k : IntKind} {a b : List Int} {B : Nat} (h : Rows.uptoBulk (DataW.slice (H := H) (lits k a) (lits k b)) ≤ B) : a.length ≤ B := by
  simp only [Rows.uptoBulk] at h
  have h1 := bulk_len (lits (H := H) k a)
  have h2 : (lits (H := H) k a).length = a.length := by simp [lits]
  omega
theorem plain_addr {W : World} {x : Addr} {v : Value} (h : W.cell? x = some v) : ∃ b off, x = ⟨b, off, none⟩ := by
  obtain ⟨bb, off, sp⟩ := x
  cases sp with
  | none => exact ⟨bb, off, rfl⟩
  | some q =>
    simp [World.cell?] at h
    split at h <;> simp at h
theorem cell_block {W : World} {b o : Nat} {v : Value} (h : W.cell? ⟨b, o, none⟩ = some v) : b < W.heap.size := by
  rcases Nat.lt_or_ge b W.heap.size with h' | h'
  · exact h'
  · simp [World.cell?, Array.getElem?_eq_none h'] at h
theorem sv_of {H : Type} {enc : TypeId × Value → H} {W : World} {fuel : Nat} {v : Value} {d : DataW H} {q : List MemPlace} (h : DataW.trod enc Try.prog W 0 (fun _ => true) true fuel 23 [v] = some (d, q)) (hd : Rows.uptoBulk d ≤ 1048576) : ∃ bs, SV W v bs := by
  rcases open_ints Try.underlying23 Try.underlying5 (by kernel_rfl) h with ⟨hcs, _⟩ | ⟨x, l, c, zs, hcs, _, hl, hm, hz, hx, hcell, hwz⟩
  · simp only [List.cons.injEq, and_true] at hcs
    exact ⟨[], ⟨fun x hx => (nomatch hx), by decide, none, 0, hcs, Nat.le_refl _, fun _ => rfl, fun i x hi => by simp at hi⟩, by decide⟩
  · simp only [List.cons.injEq, and_true] at hcs
    have hz' : zs.length = c := by simpa using hz
    simp only [Prod.mk.injEq] at hx
    rw [hx.1] at hd
    have hb := bulk_ints hd
    have hlen : (zs.take l).length = l := by simp; omega
    refine ⟨zs.take l, ⟨fun y hy => bounds_u8 (hwz y (List.mem_of_mem_take hy)), by omega, some x, c, by rw [hlen]; exact hcs, by omega, fun e => (nomatch e), fun j u hu => ?_⟩, by omega⟩
    have hj : j < l := by have := (List.getElem?_eq_some_iff.1 hu).1; omega
    rw [List.getElem?_take_of_lt hj, List.getElem?_eq_getElem (by omega)] at hu
    have hc := hcell j (by omega)
    rw [List.getD_eq_getElem?_getD, List.getElem?_eq_getElem (by omega)] at hc
    obtain ⟨bb, off, rfl⟩ := plain_addr (x := x) (by have := hcell 0 (by omega); simpa [Addr.add] using this)
    rw [Addr.add_mid] at hc
    refine ⟨bb, off, rfl, ?_⟩
    rw [hc, ← Option.some.inj hu]
    rfl
end Go.Proofs.Ytflhgphjkhplmaa.D
