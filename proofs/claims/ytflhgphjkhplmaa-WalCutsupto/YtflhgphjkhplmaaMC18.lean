import Derived.Test.YtflhgphjkhplmaaMC17
import Derived.Lib.SlBytesConst
import Derived.Laws.IdiomStrings
import Derived.Test.YtflhgphjkhplmaaMC13
import Derived.Test.YtflhgphjkhplmaaRows
import Derived.Deep.Slices
import Derived.OpenShut
import Derived.ProofKit
/- The fixed calls. -/
namespace Go.Proofs.Ytflhgphjkhplmaa.D
open Go Go.RowKit W R Go.Shelf
set_option linter.unusedVariables false
set_option linter.unusedSimpArgs false
attribute [local go_sem] Oper.semAt_some

variable {w w' W : World} {L D k : Nat} {sy : Int} {F F' P P' : Nat → Prop} {dl : List Fd} {g : Lg} {s : List UInt8} {bs : List Int}
theorem src_newG {G : Nat → Prop} (w : World) (zs : List Int) (n : Nat) (hn : zs.length = n) (hG : ¬ G w.heap.size) : SrcG (w.alloc (.cells (u8l zs).toArray 5 (n, n + 1))) G (.slice (some ⟨w.heap.size, 0, none⟩) n n) zs := by
  subst hn
  intro W hW
  have hb : W.heap[w.heap.size]? = some (.cells (u8l zs).toArray 5 (zs.length, zs.length + 1)) := (hW _ (by simp) hG).trans (Go.heap_alloc_new _ _)
  refine .inr ⟨⟨w.heap.size, 0, none⟩, zs.length, rfl, Nat.le_refl _, fun j u hu => ?_⟩
  rw [Addr.add_mid, Nat.zero_add, cell_of_row _ _ _ _ _ _ hb]
  simpa using hu
/-- The log beside its disk, all of it made behind w. -/
structure SK (w : World) (D L k : Nat) (F P : Nat → Prop) (sy : Int) (dl : List Fd) (g : Lg) (W : World) : Prop where
  ws : WS W D L k F P sy dl g
  fr : Fr (fun _ => False) (fun q => F q ∨ P q) w W
theorem SK.below (h : SK w D L k F P sy dl g W) : Below w.heap.size w W := ⟨h.fr.os, h.fr.tape, h.fr.output, h.fr.size, fun q hq => h.fr.block q hq fun e => e⟩
theorem SK.newer (h : SK w D L k F P sy dl g W) (hb : Below W.heap.size W w') : SK w D L k F P sy dl g w' := ⟨h.ws.newer hb, h.fr.trans' (Fr.newer hb)⟩
theorem SK.new (h : SK w D L k F P sy dl g W) : ¬ (F W.heap.size ∨ P W.heap.size) := fun e => e.elim (fun e => by have := h.ws.dr.lt _ e; omega) fun e => by have := h.ws.lg.lt _ e; omega
theorem sk_open (h : DR W D F sy dl) (hf : Fr (fun _ => False) F w W) (i : Inv k sy dl) (hk : k ≤ 1000000) (h0 : rbE dl = 0) : Calls Try.prog 25 #[.pointer (some ⟨D, 0, none⟩), .string { data := #[97] }] W fun e w' => ∃ L, e = .returned (.tuple #[.pointer (some ⟨L, 0, none⟩), .int .i64 0]) ∧ ∃ F' P', Hid (SK w D L (k + 2) F' P' sy (opD dl) (opG dl) w') := by
  refine (open_any h i hk).mono ?_
  rintro e w' ⟨-, h2⟩
  obtain ⟨L, F', P', rfl, h3, h4⟩ := h2 h0
  exact ⟨L, rfl, F', P', h3, hf.trans' h4⟩
theorem sk_append (h : SK w D L k F P sy dl g W) (hk : k ≤ 1000000) (hl : g.rs.length ≤ 1000000) (hsq : seqN g + 1 < 18446744073709551616) (zs : List Int) (n : Nat) (hn : zs.length = n) (hz : Byt zs) (hzl : zs.length ≤ 2000000) (h0 : apLE g zs dl = 0) :
    Calls Try.prog 29 #[.pointer (some ⟨L, 0, none⟩), .slice (some ⟨W.heap.size, 0, none⟩) n n] (W.alloc (.cells (u8l zs).toArray 5 (n, n + 1))) fun e w' => e = .returned (.int .i64 0) ∧ ∃ F' P', Hid (SK w D L (k + 1) F' P' sy (apLD g zs dl) (apLG g zs dl) w') := by
  have h1 := h.newer (bel1 W (.cells (u8l zs).toArray 5 (n, n + 1)))
  refine (append_any h1.ws hk hl hsq (src_newG W zs n hn h.new) hz hzl).mono ?_
  rintro e w' ⟨rfl, F', P', h2, h3⟩
  rw [h0]
  exact ⟨rfl, F', P', h2, h1.fr.trans' h3⟩
set_option maxRecDepth 20000 in
set_option maxHeartbeats 8000000 in
theorem known_any (w : World) : Calls Try.prog 15 #[] w fun e w' => e = .returned (.bool true) ∧ Below w.heap.size w w' := by
  have hcv : ∀ (C : Array Value) (n c : Nat) (W : World), (convert 23 23 (.slice (some ⟨W.heap.size, 0, none⟩) n c)).run Try.prog (W.alloc (.cells C 5)) = .ok (.slice (some ⟨W.heap.size, 0, none⟩) n c) (W.alloc (.cells C 5 (C.size, C.size + 1))) := fun C n c W => Lib.run_convert_bytes_const W 23 5 C n c Try.underlying23 Try.underlying5
  go_enter Try.func15, Try.ntmps15
  go_wp2_with fail
  refine (disk_new w).mono ?_
  rintro e w1 ⟨D, rfl, h1, h2, h3⟩
  have HO1 : Hid (Calls Try.prog 25 #[.pointer (some ⟨D, 0, none⟩), .string { data := #[97] }] w1 fun e w' => ∃ L, e = .returned (.tuple #[.pointer (some ⟨L, 0, none⟩), .int .i64 0]) ∧ ∃ F' P', Hid (SK w D L 2 F' P' 0 [] g0 w')) := by
    have := sk_open (w := w) h1 ⟨h3.os, h3.tape, h3.output, h3.size, fun q hq _ => h3.block q hq, fun q hq => .inr (by rw [show q = D from hq]; exact h2)⟩ (k := 0) ⟨by decide, fun x hx => (nomatch hx), by decide, by decide⟩ (by decide) k0.1
    rw [k0.2.1, k0.2.2] at this
    exact this
  clear h1 h2 h3
  go_wp2_with fail
  refine HO1.out.mono ?_
  rintro e w2 ⟨L, rfl, F2, P2, H2⟩
  clear HO1
  go_wp2_with fail
  refine (sk_append H2.out (by decide) (by decide) (by decide) [120] 1 rfl (by intro c hc; simp at hc; omega) (by decide) k1.1).mono ?_
  rw [k1.2.1, k1.2.2]
  rintro e w3 ⟨rfl, F3, P3, H3⟩
  go_wp2_with fail
  refine (lsync_any H3.out.ws (by decide)).mono ?_
  rintro e w4 ⟨⟨y4, rfl⟩, F4, h4, h4'⟩
  rw [k2] at h4
  have H4 : Hid (SK w D L 4 F4 P3 (syN nLog kd1 0) kd2 kg1 w4) := ⟨h4, H3.out.fr.trans' h4'⟩
  clear h4 h4'
  go_wp2_with fail
  refine (sk_append H4.out (by decide) (by decide) (by decide) [121] 1 rfl (by intro c hc; simp at hc; omega) (by decide) k3.1).mono ?_
  rw [k3.2.1, k3.2.2]
  rintro e w5 ⟨rfl, F5, P5, H5⟩
  go_wp2_with fail
  obtain ⟨W6, hW6⟩ : ∃ W6, (w5.alloc (.cells #[.int .i64 2] 3)).alloc (.cells #[.string { data := #[97, 46, 108, 111, 103] }, .slice (some ⟨w5.heap.size, 0, none⟩) 1 1] 86) = W6 := ⟨_, rfl⟩
  have hb56 : Below w5.heap.size w5 W6 := by rw [← hW6]; exact ((Below.refl _ w5).alloc (Nat.le_refl _) _).alloc (by simp) _
  have hr1 : W6.heap[w5.heap.size]? = some (.cells #[.int .i64 2] 3 (0, 0)) := by rw [← hW6]; exact (Below.heap_alloc _ _ _ (by simp)).trans (Go.heap_alloc_new _ _)
  have hr2 : W6.heap[w5.heap.size + 1]? = some (.cells #[.string { data := #[97, 46, 108, 111, 103] }, .slice (some ⟨w5.heap.size, 0, none⟩) 1 1] 86 (0, 0)) := by
    rw [← hW6]
    have h := Go.heap_alloc_new (w5.alloc (.cells #[.int .i64 2] 3)) (.cells #[.string { data := #[97, 46, 108, 111, 103] }, .slice (some ⟨w5.heap.size, 0, none⟩) 1 1] 86)
    simp only [World.size_alloc] at h
    exact h
  try rw [hW6]
  have H6 : Hid (SK w D L 5 F5 P5 (syN nLog kd1 0) kd3 kg2 W6) := H5.out.newer hb56
  have HCR : Hid (Calls Try.prog 40 #[.pointer (some ⟨D, 0, none⟩), .slice (some ⟨w5.heap.size + 1, 0, none⟩) 1 1] W6 fun e w' => (∃ y, e = .returned (.int .i64 y)) ∧ ∃ F7, Hid (DR w' D F7 (syN nLog kd1 0) kd4 ∧ Inv 6 (syN nLog kd1 0) kd4 ∧ Fr (fun _ => False) F7 w w')) := by
    have hka : KeepsAt (fun q => q = w5.heap.size ∨ q = w5.heap.size + 1) W6 (.slice (some ⟨w5.heap.size + 1, 0, none⟩) 1 1) [(nLog, [2])] := by
      refine ⟨_, 1, rfl, Nat.le_refl _, fun i x hi => ?_⟩
      have h0 : i = 0 ∧ x = (nLog, [2]) := by
        rcases i with _ | i
        · simp at hi; exact ⟨rfl, hi.symm⟩
        · simp at hi
      obtain ⟨rfl, rfl⟩ := h0
      refine ⟨by decide, w5.heap.size + 1, 0, .slice (some ⟨w5.heap.size, 0, none⟩) 1 1, rfl, .inr rfl, by rw [cell_of_row _ _ _ _ _ _ hr2]; rfl, by rw [cell_of_row _ _ _ _ _ _ hr2]; rfl, _, 1, rfl, Nat.le_refl _, fun j y hj => ?_⟩
      have h0 : j = 0 ∧ y = 2 := by
        rcases j with _ | j
        · simp at hj; exact ⟨rfl, hj.symm⟩
        · simp at hj
      obtain ⟨rfl, rfl⟩ := h0
      exact ⟨w5.heap.size, 0, rfl, .inl rfl, by rw [cell_of_row _ _ _ _ _ _ hr1]; rfl⟩
    have hn : ∀ q, F5 q → q < w5.heap.size := H5.out.ws.dr.lt
    refine (p_crash H6.out.ws.dr H6.out.ws.inv (by decide) hka (fun q hq => ?_) (by decide)).mono ?_
    · have h1 := (Array.getElem?_eq_some_iff.1 hr1).1
      have h2 := (Array.getElem?_eq_some_iff.1 hr2).1
      rcases hq with rfl | rfl
      · exact ⟨h1, fun e => by have := hn _ e; omega⟩
      · exact ⟨h2, fun e => by have := hn _ e; omega⟩
    · rw [k4]
      rintro e w' ⟨rfl, F7, h1, h2⟩
      have h3 := crA_inv (ks := [(nLog, [2])]) H6.out.ws.inv
      rw [k4] at h3
      have h4 : Fr (fun _ => False) F5 w W6 := H6.out.fr.sub fun q hq => .inl hq
      exact ⟨⟨_, rfl⟩, F7, h1, h3, h4.trans' h2⟩
  clear hW6 hb56 hr1 hr2
  refine HCR.out.mono ?_
  rintro e w7 ⟨⟨y7, rfl⟩, F7, H7⟩
  clear HCR
  have HO7 : Hid (Calls Try.prog 25 #[.pointer (some ⟨D, 0, none⟩), .string { data := #[97] }] w7 fun e w' => ∃ L, e = .returned (.tuple #[.pointer (some ⟨L, 0, none⟩), .int .i64 0]) ∧ ∃ F' P', Hid (SK w D L 8 F' P' (syN nLog kd1 0) (opD kd4) (opG kd4) w')) := by
    obtain ⟨h1, h2, h3⟩ := H7.out
    exact sk_open (w := w) h1 h3 h2 (by decide) k5.1
  go_wp2_with fail
  refine HO7.out.mono ?_
  rintro e w8 ⟨M, rfl, F8, P8, H8⟩
  clear HO7
  have hg : (opG kd4).rs.length = 1 ∧ (opG kd4).cut = 2 ∧ seqN (opG kd4) = 1 := by
    refine ⟨by rw [k5.2.1]; rfl, k5.2.2.2, ?_⟩
    unfold seqN
    rw [k5.2.1]
    rfl
  have HL : Hid (∀ V, Below w8.heap.size w8 V → Calls Try.prog 30 #[.pointer (some ⟨M, 0, none⟩)] V fun e w' => e = .returned (.int .i64 1) ∧ w' = V) := fun V hV => by
    have := len_some (H8.out.ws.newer hV).lg
    rw [hg.1] at this
    exact this
  have HC : Hid (∀ V, Below w8.heap.size w8 V → Calls Try.prog 32 #[.pointer (some ⟨M, 0, none⟩)] V fun e w' => e = .returned (.int .i64 2) ∧ w' = V) := fun V hV => by
    have := cut_some (H8.out.ws.newer hV).lg
    rw [hg.2.1] at this
    exact this
  have HQ : Hid (∀ V, Below w8.heap.size w8 V → Calls Try.prog 31 #[.pointer (some ⟨M, 0, none⟩)] V fun e w' => e = .returned (.int .u64 1) ∧ ∃ n, w' = V.drewN n) := fun V hV => by
    have := seq_some (H8.out.ws.newer hV).lg (by rw [hg.1]; decide)
    rw [hg.2.2] at this
    exact this
  clear hg
  have HB8 : Hid (Below w.heap.size w w8) := H8.out.below
  go_wp2_with (first | (go_at_call 30; refine (HL.out _ (by first | exact Below.refl _ _ | exact drewN_below _ _)).mono ?_; rintro e w9 ⟨rfl, hw9⟩; rw [hw9]; clear hw9) | (go_at_call 32; refine (HC.out _ (by first | exact Below.refl _ _ | exact drewN_below _ _)).mono ?_; rintro e w9 ⟨rfl, hw9⟩; rw [hw9]; clear hw9) | (go_at_call 31; refine (HQ.out _ (by first | exact Below.refl _ _ | exact drewN_below _ _)).mono ?_; rintro e w9 ⟨rfl, n9, hw9⟩; rw [hw9]; clear hw9))
  go_ret
  exact ⟨rfl, HB8.out.trans ((drewN_below _ _).mono HB8.out.size)⟩
end Go.Proofs.Ytflhgphjkhplmaa.D

/- WalFrames' law: contracts. -/
namespace Go.Proofs.Ytflhgphjkhplmaa.D
open Go Go.RowKit W R Go.Shelf
set_option linter.unusedVariables false
set_option linter.unusedSimpArgs false
attribute [local go_sem] Oper.semAt_some

variable {w w' V : World} {bs : List Int} {v : Value} {S : Nat}
/-- Bytes that came in: they lie in every later world. -/
structure SV (w : World) (v : Value) (bs : List Int) : Prop where
  bz : Bz w v bs
  len : bs.length ≤ 1048576
theorem SV.byt (h : SV w v bs) : Byt bs := h.bz.byt
theorem SV.src (h : SV w v bs) (W : World) (hb : Below w.heap.size w W) : Src W v bs := (h.bz.newer hb).src
def frO (S : Nat) (bs : List Int) : List Int := if frE S bs.length = 0 then frI S bs else []
theorem frO_byt (h : Byt bs) : Byt (frO S bs) := by
  unfold frO
  split
  · exact frI_byt h
  · exact fun c hc => (nomatch hc)
theorem frO_len (hs : S < 18446744073709551616) : (frO S bs).length ≤ 70000 := by
  unfold frO
  split
  · rename_i h
    have := (frI_len hs (frE_ok h).2).2
    have := (frE_ok h).2
    omega
  · simp
theorem frm8 (hs : S < 18446744073709551616) (hS : Src V v bs) (hz : Byt bs) (hl : bs.length ≤ 4000000) : Calls Try.prog 8 #[.int .u64 (S : Int), v] V fun e w' => ∃ xa xc, e = .returned (.tuple #[.slice xa (frO S bs).length xc, .int .i64 (frE S bs.length)]) ∧ Hid (w'.ownsRow V.heap.size 5 1 (.slice xa (frO S bs).length xc) (frO S bs).length (u8l (frO S bs)) ∧ Below V.heap.size V w') := by
  refine (frame_any S hs hS hz hl).mono ?_
  rintro e w' ⟨⟨v', rfl, h1, h2⟩, h3⟩
  by_cases hE : frE S bs.length = 0
  · have e : frO S bs = frI S bs := if_pos hE
    rw [e]
    obtain ⟨a, c, rfl⟩ := own_slice (h1 hE)
    exact ⟨a, c, rfl, h1 hE, h3⟩
  · have e : frO S bs = [] := if_neg hE
    rw [e]
    obtain rfl := h2 hE
    exact ⟨none, 0, rfl, World.ownsRow_nil _ _ _ _, h3⟩
theorem frm9 (hs : S < 18446744073709551616) (hS : Src V v bs) (hz : Byt bs) (hl : bs.length ≤ 4000000) : Calls Try.prog 9 #[.int .u64 (S : Int), v] V fun e w' => ∃ xa xc, e = .returned (.tuple #[.slice xa (frO S bs).length xc, .int .i64 (frE S bs.length)]) ∧ Hid (w'.ownsRow V.heap.size 5 1 (.slice xa (frO S bs).length xc) (frO S bs).length (u8l (frO S bs)) ∧ Below V.heap.size V w') := by
  refine (rframe_any S hs hS hz hl).mono ?_
  rintro e w' ⟨⟨v', rfl, h1, h2⟩, h3⟩
  by_cases hE : frE S bs.length = 0
  · have e : frO S bs = frI S bs := if_pos hE
    rw [e]
    obtain ⟨a, c, rfl⟩ := own_slice (h1 hE)
    exact ⟨a, c, rfl, h1 hE, h3⟩
  · have e : frO S bs = [] := if_neg hE
    rw [e]
    obtain rfl := h2 hE
    exact ⟨none, 0, rfl, World.ownsRow_nil _ _ _ _, h3⟩
/-- What Lent gives, in all later worlds. -/
theorem lent7 (hv : Src V v bs) (hz : Byt bs) (hl : bs.length ≤ 1048576) : Calls Try.prog 7 #[v] V fun e w' => ∃ g c, e = .returned (.slice (some ⟨g, 0, none⟩) bs.length c) ∧ Hid (LentR w' V.heap.size (.slice (some ⟨g, 0, none⟩) bs.length c) bs ∧ Below V.heap.size V w') := by
  refine (lent_any hv (by omega)).mono ?_
  rintro e w' ⟨u, rfl, h1, h2⟩
  obtain ⟨g, c, e, h3⟩ := h1
  subst e
  exact ⟨g, c, rfl, ⟨g, c, rfl, h3⟩, h2⟩
theorem LentR.later {W W' : World} {base : Nat} (h : LentR W base v bs) (hb : Below W.heap.size W W') : LentR W' base v bs := by
  obtain ⟨g, cap, cur, h1, h2, h3, h4, -⟩ := h.row
  exact h4 W' (hb.block g (Array.getElem?_eq_some_iff.1 h3).1)
theorem LentR.own {W : World} {base : Nat} (h : LentR W base v bs) : W.ownsRow base 5 1 v bs.length (u8l bs) := by
  obtain ⟨g, cap, cur, h1, h2, h3, h4, h5, -⟩ := h.row
  exact h5
theorem lastN_pl {xs ys : List El} (h : xs.map El.pl = ys.map El.pl) : lastN xs = lastN ys ∧ lastE xs = lastE ys ∧ xs.length = ys.length := by
  have h1 : xs.getLast?.map El.pl = ys.getLast?.map El.pl := by rw [← List.getLast?_map, h, List.getLast?_map]
  refine ⟨?_, ?_, by simpa using congrArg List.length h⟩
  · unfold lastN
    have := congrArg (Option.map (fun q : Nat × List Int × Nat => q.1)) h1
    rw [Option.map_map, Option.map_map] at this
    exact congrArg (Option.getD · 0) this
  · unfold lastE
    have := congrArg (Option.map (fun q : Nat × List Int × Nat => q.2.2)) h1
    rw [Option.map_map, Option.map_map] at this
    exact congrArg (Option.getD · 0) this
def lnL (zs : List Int) : Nat := ((goodI zs).getLast?.map fun q => q.1).getD 0
theorem lastN_good {xs : List El} {zs : List Int} (h : xs.map El.pl = goodI zs) : lastN xs = lnL zs := by
  unfold lastN lnL
  rw [← h, List.getLast?_map, Option.map_map]
  rfl
/-- A list of records as it lies. -/
structure RecsAt (W : World) (base : Nat) (lv : Value) (xs : List El) (zs : List Int) : Prop where
  pl : xs.map El.pl = goodI zs
  row : W.ownsRow base 23 1 lv xs.length (xs.map El.rv)
  each : ∀ x ∈ xs, rowX base x W
theorem RecsAt.later {W W' : World} {base : Nat} {lv : Value} {xs : List El} {zs : List Int} (h : RecsAt W base lv xs zs) (hb : Below W.heap.size W W') : RecsAt W' base lv xs zs :=
  ⟨h.pl, own_at h.row fun q hq => hb.block q (h.row.lt q hq).2, fun x hx => own_at (h.each x hx) fun q hq => hb.block q ((h.each x hx).lt q hq).2⟩
theorem RecsAt.len {W : World} {base : Nat} {lv : Value} {xs : List El} {zs : List Int} (h : RecsAt W base lv xs zs) : xs.length = (goodI zs).length := by rw [← h.pl, List.length_map]
theorem RecsAt.byt {W : World} {base : Nat} {lv : Value} {xs : List El} {zs : List Int} (h : RecsAt W base lv xs zs) (hz : Byt zs) : ∀ x ∈ xs, Byt x.r := fun x hx => by
  have hm : El.pl x ∈ goodI zs := by rw [← h.pl]; exact List.mem_map_of_mem hx
  obtain ⟨p, hp⟩ := gd_all zs _ _ _ _ hm
  obtain ⟨f1, f2, f3, f4, f5, f6, f7⟩ := fatI_some hp
  intro c hc
  have h1 : c ∈ frI x.n x.r := by unfold frI hdI; simp [hc]
  have h2 : c ∈ (zs.drop p).take (frI x.n x.r).length := by rw [show (zs.drop p).take (frI x.n x.r).length = frI x.n x.r from f5]; exact h1
  exact hz c (List.mem_of_mem_drop (List.mem_of_mem_take h2))
theorem RecsAt.small {W : World} {base : Nat} {lv : Value} {xs : List El} {zs : List Int} (h : RecsAt W base lv xs zs) : ∀ x ∈ xs, x.r.length ≤ 65536 := fun x hx => by
  have hm : El.pl x ∈ goodI zs := by rw [← h.pl]; exact List.mem_map_of_mem hx
  exact (good_all hm).2.2.1
/-- One record is spoilt; the others, and the list, lie as they lay. -/
theorem spoil_round {W4 W W' : World} {x : El} {l : List El} {n : Nat} {lv : Value} {vs : List Value} (hb : Below W4.heap.size W4 W) (hr : W.ownsRow W4.heap.size 23 1 lv n vs) (hx : ∀ y ∈ x :: l, rowX W4.heap.size y W) (ha : ∀ y ∈ l, Apq x y) (hg : Gr x.rv W (.slice none 0 0) W') :
    Below W4.heap.size W4 W' ∧ W'.ownsRow W4.heap.size 23 1 lv n vs ∧ ∀ y ∈ l, rowX W4.heap.size y W' := by
  have h0 : W.ownsRow W4.heap.size 5 1 x.rv x.r.length (u8l x.r) := hx x (by simp)
  refine ⟨hb.trans (hg.below hb.size fun q hq => (h0.lt q hq).1), own_at hr fun q hq => ?_, fun y hy => ?_⟩
  · refine hg.block q (hr.lt q hq).2 fun e => ?_
    obtain ⟨c1, e1⟩ := own_tag hr hq
    obtain ⟨c2, e2⟩ := own_tag h0 e
    exact ne_tag e1 e2 (by decide) rfl
  · have h1 : W.ownsRow W4.heap.size 5 1 y.rv y.r.length (u8l y.r) := hx y (by simp [hy])
    exact own_at h1 fun q hq => hg.block q (h1.lt q hq).2 fun e => ha y hy q e hq
theorem frm11 {zs : List Int} (h : Bz V v zs) (hr : ∀ q, v.ownBlock = some q → ∃ (c : Array Value) (f : Nat × Nat), V.heap[q]? = some (.cells c 5 f)) : Calls Try.prog 11 #[v] V fun e w' => ∃ xs la lc, e = .returned (.tuple #[.slice la (goodI zs).length lc, .int .u64 (lnL zs : Int), .int .i64 (endL zs : Int)]) ∧ Hid (RecsAt w' V.heap.size (.slice la (goodI zs).length lc) xs zs ∧ xs.Pairwise Apq ∧ Below V.heap.size V w') := by
  refine (frames_apart h hr).mono ?_
  rintro e w' ⟨xs, lv, rfl, h1, h2, h3, h4, h5⟩
  have hR : RecsAt w' V.heap.size lv xs zs := ⟨h1, h2, h3⟩
  obtain ⟨la, lc, rfl⟩ := own_slice h2
  rw [lastN_good h1, (lastE_good h1).1]
  rw [hR.len] at hR ⊢
  exact ⟨xs, la, lc, rfl, hR, h5, h4⟩
theorem frm12 {zs : List Int} (h : Bz V v zs) : Calls Try.prog 12 #[v] V fun e w' => ∃ xs la lc, e = .returned (.tuple #[.slice la (goodI zs).length lc, .int .u64 (lnL zs : Int), .int .i64 (endL zs : Int)]) ∧ Hid (RecsAt w' V.heap.size (.slice la (goodI zs).length lc) xs zs ∧ Below V.heap.size V w') := by
  refine (rframes_any h).mono ?_
  rintro e w' ⟨xs, lv, rfl, h1, h2, h3, h4⟩
  have hR : RecsAt w' V.heap.size lv xs zs := ⟨h1, h2, h3⟩
  obtain ⟨la, lc, rfl⟩ := own_slice h2
  rw [lastN_good h1, (lastE_good h1).1]
  rw [hR.len] at hR ⊢
  exact ⟨xs, la, lc, rfl, hR, h4⟩
theorem same_recs {W : World} {b1 b2 : Nat} {la lb : Value} {xs ys : List El} {zs : List Int} (h1 : RecsAt W b1 la xs zs) (h2 : RecsAt W b2 lb ys zs) (hz : Byt zs) (hl : zs.length ≤ 2000000) : Calls Try.prog 13 #[la, lb] W fun e w' => e = .returned (.bool true) ∧ ∃ n, w' = W.drewN n := by
  have m : ∀ l : List El, (l.map fun x => (x.rv, x.r)).map Prod.fst = l.map El.rv := fun l => by rw [List.map_map]; rfl
  have e : ∀ l : List El, l.map El.pl = goodI zs → (l.map fun x => (x.rv, x.r)).map Prod.snd = (goodI zs).map fun q => q.2.1 := fun l h => by rw [List.map_map, ← h, List.map_map]; rfl
  have hlen := good_len zs
  refine same_yes W la lb (xs.map fun x => (x.rv, x.r)) (ys.map fun x => (x.rv, x.r)) (ba := b1) (bb := b2) ?_ ?_ ?_ ?_ ?_ ?_
  · rw [m, List.length_map]; exact h1.row
  · rw [m, List.length_map]; exact h2.row
  · intro x hx
    obtain ⟨y, hy, rfl⟩ := List.mem_map.1 hx
    exact ⟨own_src (h1.each y hy), h1.byt hz y hy⟩
  · intro x hx
    obtain ⟨y, hy, rfl⟩ := List.mem_map.1 hx
    exact ⟨own_src (h2.each y hy), h2.byt hz y hy⟩
  · rw [e xs h1.pl, e ys h2.pl]
  · rw [List.length_map, h1.len]; omega
theorem two_good {S : Nat} {bs cs : List Int} (h1 : 1 ≤ S) (h2 : S + 1 < 18446744073709551616) (hb : bs.length ≤ 65536) (hc : cs.length ≤ 65536) : (goodI (frI S bs ++ frI (S + 1) cs)).length = 2 ∧ lnL (frI S bs ++ frI (S + 1) cs) = S + 1 ∧ endL (frI S bs ++ frI (S + 1) cs) = (frI S bs).length + (frI (S + 1) cs).length ∧ (goodI (frI S bs ++ frI (S + 1) cs)).map (fun q => q.2.1) = [bs, cs] := by
  have e : frI S bs ++ frI (S + 1) cs = frs S [bs, cs] := by simp [frs]
  have hg := good_frs [bs, cs] S (fun b hb' => by simp at hb'; rcases hb' with rfl | rfl <;> assumption) h1 (by simp; omega)
  unfold lnL endL
  rw [e, hg]
  refine ⟨by simp [gdL], by simp [gdL], ?_, by simp [gdL]⟩
  simp [gdL]
theorem u8l_append (a b : List Int) : u8l (a ++ b) = u8l a ++ u8l b := by simp [u8l]
/-- A list of two slices, laid as a literal. -/
theorem lit2 (W : World) (x y : Value) : (W.alloc (.cells #[x, y] 23)).ownsRow W.heap.size 23 1 (.slice (some ⟨W.heap.size, 0, none⟩) 2 2) 2 [x, y] :=
  ⟨rfl, .inr ⟨W.heap.size, 2, #[x, y], rfl, Nat.le_refl _, Go.heap_alloc_new _ _, Nat.le_refl _, by unfold maxLen; omega, rfl, rfl⟩⟩
end Go.Proofs.Ytflhgphjkhplmaa.D

/- What comes in: bytes; of bulk at most 1048576. -/
namespace Go.Proofs.Ytflhgphjkhplmaa.D
open Go.ChangeShapes Go.WideShapes Go.ChangeAt Go.RowKit W
set_option linter.unusedVariables false
set_option linter.unusedSimpArgs false

theorem bulk_one {H : Type} (d : DataW H) : 1 ≤ Rows.uptoBulk d := by
  cases d with
  | lit l => cases l <;> simp [Rows.uptoBulk]
  | _ => simp [Rows.uptoBulk]
theorem bulk_len {H : Type} : ∀ l : List (DataW H), l.length ≤ Rows.uptoBulkAll l
  | [] => by simp [Rows.uptoBulkAll]
  | d :: r => by have h1 := bulk_len r; have h2 := bulk_one d; simp only [Rows.uptoBulkAll, List.length_cons]; omega
theorem bulk_mem {H : Type} {d : DataW H} : ∀ {l : List (DataW H)}, d ∈ l → Rows.uptoBulk d ≤ Rows.uptoBulkAll l
  | x :: r, h => by
    simp only [Rows.uptoBulkAll]
    rcases List.mem_cons.1 h with rfl | h
    · omega
    · have := bulk_mem h; omega
theorem bulk_ints {H : Type} {k : IntKind} {a b : List Int} {B : Nat} (h : Rows.uptoBulk (DataW.slice (H := H) (lits k a) (lits k b)) ≤ B) : a.length ≤ B := by
  simp only [Rows.uptoBulk] at h
  have h1 := bulk_len (lits (H := H) k a)
  have h2 : (lits (H := H) k a).length = a.length := by simp [lits]
  omega
theorem plain_addr {W : World} {x : Addr} {v : Value} (h : W.cell? x = some v) : ∃ b off, x = ⟨b, off, none⟩ := by
  obtain ⟨bb, off, sp⟩ := x
  cases sp with
  | none => exact ⟨bb, off, rfl⟩
  | some q =>
    simp [World.cell?] at h
    split at h <;> simp at h
theorem cell_block {W : World} {b o : Nat} {v : Value} (h : W.cell? ⟨b, o, none⟩ = some v) : b < W.heap.size := by
  rcases Nat.lt_or_ge b W.heap.size with h' | h'
  · exact h'
  · simp [World.cell?, Array.getElem?_eq_none h'] at h
theorem sv_of {H : Type} {enc : TypeId × Value → H} {W : World} {fuel : Nat} {v : Value} {d : DataW H} {q : List MemPlace} (h : DataW.trod enc Try.prog W 0 (fun _ => true) true fuel 23 [v] = some (d, q)) (hd : Rows.uptoBulk d ≤ 1048576) : ∃ bs, SV W v bs := by
  rcases open_ints Try.underlying23 Try.underlying5 (by kernel_rfl) h with ⟨hcs, _⟩ | ⟨x, l, c, zs, hcs, _, hl, hm, hz, hx, hcell, hwz⟩
  · simp only [List.cons.injEq, and_true] at hcs
    exact ⟨[], ⟨fun x hx => (nomatch hx), by decide, none, 0, hcs, Nat.le_refl _, fun _ => rfl, fun i x hi => by simp at hi⟩, by decide⟩
  · simp only [List.cons.injEq, and_true] at hcs
    have hz' : zs.length = c := by simpa using hz
    simp only [Prod.mk.injEq] at hx
    rw [hx.1] at hd
    have hb := bulk_ints hd
    have hlen : (zs.take l).length = l := by simp; omega
    refine ⟨zs.take l, ⟨fun y hy => bounds_u8 (hwz y (List.mem_of_mem_take hy)), by omega, some x, c, by rw [hlen]; exact hcs, by omega, fun e => (nomatch e), fun j u hu => ?_⟩, by omega⟩
    have hj : j < l := by have := (List.getElem?_eq_some_iff.1 hu).1; omega
    rw [List.getElem?_take_of_lt hj, List.getElem?_eq_getElem (by omega)] at hu
    have hc := hcell j (by omega)
    rw [List.getD_eq_getElem?_getD, List.getElem?_eq_getElem (by omega)] at hc
    obtain ⟨bb, off, rfl⟩ := plain_addr (x := x) (by have := hcell 0 (by omega); simpa [Addr.add] using this)
    rw [Addr.add_mid] at hc
    refine ⟨bb, off, rfl, ?_⟩
    rw [hc, ← Option.some.inj hu]
    rfl
end Go.Proofs.Ytflhgphjkhplmaa.D

/- Count; a list of rows that comes in. -/
namespace Go.Proofs.Ytflhgphjkhplmaa.D
open Go.ChangeShapes Go.WideShapes Go.ChangeAt Go.RowKit W
set_option linter.unusedVariables false
set_option linter.unusedSimpArgs false

theorem count_any (n : Int) (m : Nat) (h0 : 0 < m) (hm : m ≤ 10000000) : ∃ z : Nat, z < m ∧ ∀ V : World, Calls Try.prog 23 #[.int .i64 n, .int .i64 (m : Int)] V fun e w' => e = .returned (.int .i64 (z : Int)) ∧ w' = V := by
  have h3 : (n.tmod (m : Int)).natAbs < m := by
    rw [Int.natAbs_tmod]
    exact Nat.mod_lt _ (by simpa using h0)
  have HT : Hid ((n.tmod (m : Int)).natAbs < m ∧ m ≤ 10000000) := ⟨h3, hm⟩
  have hm0 : ¬ (m : Int) = 0 := by omega
  clear h3 hm h0
  by_cases h : n.tmod (m : Int) < 0
  · refine ⟨(n.tmod (m : Int) + m).toNat, by have := HT.out; omega, fun V => ?_⟩
    have HZ : Hid (((n.tmod (m : Int) + m).toNat : Int) = wrap64 (n.tmod (m : Int) + m)) := by
      show _ = _
      have := HT.out
      have e : wrap64 (n.tmod (m : Int) + m) = n.tmod (m : Int) + m := by unfold wrap64; omega
      rw [e]
      omega
    rw [HZ.out]
    go_enter Try.func23, Try.ntmps23
    go_wp2
    go_ret
    exact ⟨rfl, rfl⟩
  · refine ⟨(n.tmod (m : Int)).toNat, by have := HT.out; omega, fun V => ?_⟩
    have HZ : Hid (((n.tmod (m : Int)).toNat : Int) = n.tmod (m : Int)) := by show _ = _; omega
    rw [HZ.out]
    go_enter Try.func23, Try.ntmps23
    go_wp2
    go_ret
    exact ⟨rfl, rfl⟩
/-- A list of rows of bytes that came in. -/
structure LV (w : World) (v : Value) (ls : List (Value × List Int)) : Prop where
  ex : ∃ a cap, v = .slice a ls.length cap ∧ ls.length ≤ cap ∧ ∀ i x, ls[i]? = some x → ∃ b off, a = some ⟨b, off, none⟩ ∧ w.cell? ⟨b, off + i, none⟩ = some x.1
  each : ∀ x ∈ ls, SV w x.1 x.2
  len : ls.length ≤ 1048576
theorem row_of {H : Type} {enc : TypeId × Value → H} {W : World} {fuel b o : Nat} {cs : List Value} {x : DataW H × List MemPlace} (hc : W.cells? 0 ⟨b, o, none⟩ 1 = some cs) (h : DataW.trod enc Try.prog W 0 (fun _ => true) true fuel 23 cs = some x) (hd : Rows.uptoBulk x.1 ≤ 1048576) :
    ∃ k : Value × List Int, W.cell? ⟨b, o, none⟩ = some k.1 ∧ SV W k.1 k.2 := by
  obtain ⟨_, hlen, hcell⟩ := World.cells?_some hc
  match cs, hlen with
  | [v0], _ =>
    have e0 := hcell 0 (by omega)
    rw [Addr.add_mid] at e0
    simp at e0
    obtain ⟨bs, h1⟩ := sv_of (d := x.1) (q := x.2) h hd
    exact ⟨(v0, bs), e0, h1⟩
theorem rows_of {H : Type} {enc : TypeId × Value → H} {W : World} {fuel : Nat} {v : Value} {d : DataW H} {q : List MemPlace} (h : DataW.trod enc Try.prog W 0 (fun _ => true) true fuel 29 [v] = some (d, q)) (hd : Rows.uptoBulk d ≤ 1048576) : ∃ ls, LV W v ls := by
  rcases Deep.open_slice Try.underlying29 h with ⟨hcs, _⟩ | ⟨a, len, cap, m, n, D, Pl, hcs, _, hl, hm, hmm, hx, hcell⟩
  · simp only [List.cons.injEq, and_true] at hcs
    subst hcs
    exact ⟨[], ⟨none, 0, rfl, Nat.le_refl _, fun i f hi => by simp at hi⟩, fun x hx => (nomatch hx), by decide⟩
  · simp only [List.cons.injEq, and_true] at hcs
    subst hcs
    simp only [Prod.mk.injEq] at hx
    rw [hx.1] at hd
    simp only [Rows.uptoBulk] at hd
    have hmc : m = cap := by simpa using hmm
    have hlen := bulk_len ((List.range len).map D)
    simp only [List.length_map, List.length_range] at hlen
    have k23 : Try.prog.cellsOf 23 = 1 := by kernel_rfl
    rw [k23] at hcell
    by_cases h0 : len = 0
    · subst h0
      exact ⟨[], ⟨some a, cap, rfl, Nat.zero_le _, fun i f hi => by simp at hi⟩, fun x hx => (nomatch hx), by decide⟩
    · obtain ⟨b, off, rfl⟩ : ∃ b off, a = ⟨b, off, none⟩ := by
        obtain ⟨cs, h1, _⟩ := hcell 0 (by omega)
        obtain ⟨_, hlen', hc'⟩ := World.cells?_some h1
        have h2 := hc' 0 (by omega)
        exact plain_addr (x := a) (v := cs[0]'(by omega)) (by
          have h3 : W.cell? a = cs[0]? := by simpa [Addr.add] using h2
          rw [h3]
          exact List.getElem?_eq_getElem (by omega))
      have each : ∀ i, i < len → ∃ k : Value × List Int, W.cell? ⟨b, off + i, none⟩ = some k.1 ∧ SV W k.1 k.2 := fun i hi => by
        obtain ⟨cs, h1, h2⟩ := hcell i (by omega)
        rw [Addr.add_mid, Nat.mul_one] at h1
        have hmem : D i ∈ (List.range len).map D := List.mem_map.2 ⟨i, List.mem_range.2 hi, rfl⟩
        have hb := bulk_mem hmem
        exact row_of h1 h2 (by show Rows.uptoBulk (D i) ≤ _; omega)
      have inh : Inhabited (Value × List Int) := ⟨(.slice none 0 0, [])⟩
      obtain ⟨F, hF⟩ := Deep.choose_lt each
      have hil : ∀ i f, ((List.range len).map F)[i]? = some f → i < len ∧ F i = f := fun i f hi => by
        obtain ⟨h1, h2⟩ := List.getElem?_eq_some_iff.1 hi
        simp at h1 h2
        exact ⟨h1, h2⟩
      refine ⟨(List.range len).map F, ⟨some ⟨b, off, none⟩, cap, by simp, by simpa using hl, fun i f hi => ?_⟩, fun x hx => ?_, by simp; omega⟩
      · obtain ⟨h1, rfl⟩ := hil i f hi
        exact ⟨b, off, rfl, (hF i h1).1⟩
      · obtain ⟨i, hi, rfl⟩ := List.mem_map.1 hx
        exact (hF i (List.mem_range.1 hi)).2
end Go.Proofs.Ytflhgphjkhplmaa.D

/- Frames that are cut, plainly. -/
namespace Go.Proofs.Ytflhgphjkhplmaa.W
set_option linter.unusedVariables false
set_option linter.unusedSimpArgs false

/-- How many of the frames end at n or ahead of it. -/
def whN (s n : Nat) : List (List Int) → Nat
  | [] => 0
  | b :: l => if (frI s b).length ≤ n then whN (s + 1) (n - (frI s b).length) l + 1 else 0
theorem whN_le : ∀ (l : List (List Int)) (s n : Nat), whN s n l ≤ l.length
  | [], s, n => Nat.zero_le _
  | b :: l, s, n => by
    unfold whN
    split
    · have := whN_le l (s + 1) (n - (frI s b).length)
      simp
      omega
    · simp
theorem take_frs : ∀ (l : List (List Int)) (s n : Nat), n ≤ (frs s l).length → ∃ rest, (frs s l).take n = frs s (l.take (whN s n l)) ++ rest ∧ (rest = [] ∨ ∃ b m, l[whN s n l]? = some b ∧ m < (frI (s + whN s n l) b).length ∧ rest = (frI (s + whN s n l) b).take m)
  | [], s, n, h => ⟨[], by simp [frs, whN], .inl rfl⟩
  | b :: l, s, n, h => by
    unfold whN
    split
    · rename_i hle
      obtain ⟨rest, h1, h2⟩ := take_frs l (s + 1) (n - (frI s b).length) (by simp [frs] at h; omega)
      refine ⟨rest, ?_, ?_⟩
      · show (frI s b ++ frs (s + 1) l).take n = frI s b ++ frs (s + 1) (l.take _) ++ rest
        rw [List.take_append, List.take_of_length_le hle, h1, List.append_assoc]
      · rcases h2 with h2 | ⟨c, m, h3, h4, h5⟩
        · exact .inl h2
        · refine .inr ⟨c, m, by simpa using h3, ?_, ?_⟩
          · rw [show s + (whN (s + 1) (n - (frI s b).length) l + 1) = s + 1 + whN (s + 1) (n - (frI s b).length) l by omega]
            exact h4
          · rw [show s + (whN (s + 1) (n - (frI s b).length) l + 1) = s + 1 + whN (s + 1) (n - (frI s b).length) l by omega]
            exact h5
    · rename_i hle
      refine ⟨(frI s b).take n, ?_, .inr ⟨b, n, rfl, by simpa using hle, rfl⟩⟩
      show (frI s b ++ frs (s + 1) l).take n = frs s [] ++ (frI s b).take n
      rw [List.take_append, show n - (frI s b).length = 0 by omega]
      simp [frs]
/-- The good frames of frames that are cut are those that are whole. -/
theorem good_cut (l : List (List Int)) (s n : Nat) (hb : ∀ b ∈ l, b.length ≤ 65536) (hs : 1 ≤ s) (hn : s + l.length ≤ 18446744073709551616) (hle : n ≤ (frs s l).length) : goodI ((frs s l).take n) = gdL s 0 (l.take (whN s n l)) := by
  obtain ⟨rest, h1, h2⟩ := take_frs l s n hle
  have hk := whN_le l s n
  have hb' : ∀ b ∈ l.take (whN s n l), b.length ≤ 65536 := fun b h => hb b (List.mem_of_mem_take h)
  have hlen : (l.take (whN s n l)).length = whN s n l := by simp; omega
  have hfl := frs_len (l.take (whN s n l)) s hb' (by rw [hlen]; omega)
  have h := gd_frs (l.take (whN s n l)) s [] rest (((frs s l).take n).length + 1) 0 hb' hs (by rw [hlen]; omega) (fun _ h => by simp at h) (by rw [h1, List.length_append]; omega) ?_
  · rw [List.nil_append, ← h1] at h
    exact h
  · rw [List.nil_append]
    rcases h2 with rfl | ⟨b, m, h3, h4, rfl⟩
    · have := fat_end (frs s (l.take (whN s n l)))
      simpa using this
    · obtain ⟨hlt, hbe⟩ := List.getElem?_eq_some_iff.1 h3
      have := fat_cut (frs s (l.take (whN s n l))) b (s + whN s n l) m (by omega) (by omega) (hb b (by rw [← hbe]; exact List.getElem_mem _)) h4
      simpa using this
/-- Where the frames end. -/
def enL (s p : Nat) : List (List Int) → List Nat
  | [] => []
  | b :: l => (p + (frI s b).length) :: enL (s + 1) (p + (frI s b).length) l
theorem enL_len : ∀ (l : List (List Int)) (s p : Nat), (enL s p l).length = l.length
  | [], s, p => rfl
  | b :: l, s, p => by simp [enL, enL_len l]
theorem enL_snoc : ∀ (l : List (List Int)) (s p : Nat) (b : List Int), enL s p (l ++ [b]) = enL s p l ++ [p + (frs s (l ++ [b])).length]
  | [], s, p, b => by simp [enL, frs]
  | c :: l, s, p, b => by
    have h := enL_snoc l (s + 1) (p + (frI s c).length) b
    simp [enL, frs, h]
    omega
theorem frs_snoc : ∀ (l : List (List Int)) (s : Nat) (b : List Int), frs s (l ++ [b]) = frs s l ++ frI (s + l.length) b
  | [], s, b => by simp [frs]
  | c :: l, s, b => by
    have h := frs_snoc l (s + 1) b
    simp [frs, h]
    rw [show s + 1 + l.length = s + (l.length + 1) by omega]
theorem enL_at : ∀ (l : List (List Int)) (s p k : Nat), k < l.length → (enL s p l)[k]? = some (p + (frs s (l.take (k + 1))).length)
  | [], s, p, k, h => by simp at h
  | b :: l, s, p, 0, h => by simp [enL, frs]
  | b :: l, s, p, k + 1, h => by
    have h2 := enL_at l (s + 1) (p + (frI s b).length) k (by simpa using h)
    simp only [enL, List.getElem?_cons_succ, h2, List.take_succ_cons, frs, List.length_append]
    rw [Nat.add_assoc]
/-- Which are whole, by their ends. -/
theorem whN_lt : ∀ (l : List (List Int)) (s n k : Nat), k < l.length → ((frs s (l.take (k + 1))).length ≤ n ↔ k < whN s n l)
  | [], s, n, k, h => by simp at h
  | b :: l, s, n, 0, h => by
    unfold whN
    simp only [List.take_succ_cons, List.take_zero, frs, List.append_nil]
    split
    · exact ⟨fun _ => by omega, fun _ => by assumption⟩
    · exact ⟨fun h => absurd h (by assumption), fun h => by omega⟩
  | b :: l, s, n, k + 1, h => by
    unfold whN
    simp only [List.take_succ_cons, frs, List.length_append]
    have h2 := whN_lt l (s + 1) (n - (frI s b).length) k (by simpa using h)
    split
    · rename_i hle
      constructor
      · intro h3
        have := h2.1 (by omega)
        omega
      · intro h3
        have := h2.2 (by omega)
        omega
    · constructor
      · intro h3; omega
      · intro h3; omega
end Go.Proofs.Ytflhgphjkhplmaa.W
