import Derived.Test.YtflhgphjkhplmaaML17
import Derived.Lib.SlBytesConst
import Derived.Laws.IdiomStrings
import Derived.Test.YtflhgphjkhplmaaML06
import Derived.Test.YtflhgphjkhplmaaML15
/- The fixed calls. -/
namespace Go.Proofs.Ytflhgphjkhplmaa.D
open Go Go.RowKit W R Go.Shelf
set_option linter.unusedVariables false
set_option linter.unusedSimpArgs false
attribute [local go_sem] Oper.semAt_some

variable {w w' W : World} {L D k : Nat} {sy : Int} {F F' P P' : Nat → Prop} {dl : List Fd} {g : Lg} {s : List UInt8} {bs : List Int}
theorem src_newG {G : Nat → Prop} (w : World) (zs : List Int) (n : Nat) (hn : zs.length = n) (hG : ¬ G w.heap.size) : SrcG (w.alloc (.cells (u8l zs).toArray 5 (n, n + 1))) G (.slice (some ⟨w.heap.size, 0, none⟩) n n) zs := by
  subst hn
  intro W hW
  have hb : W.heap[w.heap.size]? = some (.cells (u8l zs).toArray 5 (zs.length, zs.length + 1)) := (hW _ (by simp) hG).trans (Go.heap_alloc_new _ _)
  refine .inr ⟨⟨w.heap.size, 0, none⟩, zs.length, rfl, Nat.le_refl _, fun j u hu => ?_⟩
  rw [Addr.add_mid, Nat.zero_add, cell_of_row _ _ _ _ _ _ hb]
  simpa using hu
/-- The log beside its disk, all of it made behind w. -/
structure SK (w : World) (D L k : Nat) (F P : Nat → Prop) (sy : Int) (dl : List Fd) (g : Lg) (W : World) : Prop where
  ws : WS W D L k F P sy dl g
  fr : Fr (fun _ => False) (fun q => F q ∨ P q) w W
theorem SK.below (h : SK w D L k F P sy dl g W) : Below w.heap.size w W := ⟨h.fr.os, h.fr.tape, h.fr.output, h.fr.size, fun q hq => h.fr.block q hq fun e => e⟩
theorem SK.newer (h : SK w D L k F P sy dl g W) (hb : Below W.heap.size W w') : SK w D L k F P sy dl g w' := ⟨h.ws.newer hb, h.fr.trans' (Fr.newer hb)⟩
theorem SK.new (h : SK w D L k F P sy dl g W) : ¬ (F W.heap.size ∨ P W.heap.size) := fun e => e.elim (fun e => by have := h.ws.dr.lt _ e; omega) fun e => by have := h.ws.lg.lt _ e; omega
theorem sk_open (h : DR W D F sy dl) (hf : Fr (fun _ => False) F w W) (i : Inv k sy dl) (hk : k ≤ 1000000) (h0 : rbE dl = 0) : Calls Try.prog 25 #[.pointer (some ⟨D, 0, none⟩), .string { data := #[97] }] W fun e w' => ∃ L, e = .returned (.tuple #[.pointer (some ⟨L, 0, none⟩), .int .i64 0]) ∧ ∃ F' P', Hid (SK w D L (k + 2) F' P' sy (opD dl) (opG dl) w') := by
  refine (open_any h i hk).mono ?_
  rintro e w' ⟨-, h2⟩
  obtain ⟨L, F', P', rfl, h3, h4⟩ := h2 h0
  exact ⟨L, rfl, F', P', h3, hf.trans' h4⟩
theorem sk_append (h : SK w D L k F P sy dl g W) (hk : k ≤ 1000000) (hl : g.rs.length ≤ 1000000) (hsq : seqN g + 1 < 18446744073709551616) (zs : List Int) (n : Nat) (hn : zs.length = n) (hz : Byt zs) (hzl : zs.length ≤ 2000000) (h0 : apLE g zs dl = 0) :
    Calls Try.prog 29 #[.pointer (some ⟨L, 0, none⟩), .slice (some ⟨W.heap.size, 0, none⟩) n n] (W.alloc (.cells (u8l zs).toArray 5 (n, n + 1))) fun e w' => e = .returned (.int .i64 0) ∧ ∃ F' P', Hid (SK w D L (k + 1) F' P' sy (apLD g zs dl) (apLG g zs dl) w') := by
  have h1 := h.newer (bel1 W (.cells (u8l zs).toArray 5 (n, n + 1)))
  refine (append_any h1.ws hk hl hsq (src_newG W zs n hn h.new) hz hzl).mono ?_
  rintro e w' ⟨rfl, F', P', h2, h3⟩
  rw [h0]
  exact ⟨rfl, F', P', h2, h1.fr.trans' h3⟩
set_option maxRecDepth 20000 in
set_option maxHeartbeats 8000000 in
theorem known_any (w : World) : Calls Try.prog 15 #[] w fun e w' => e = .returned (.bool true) ∧ Below w.heap.size w w' := by
  have hcv : ∀ (C : Array Value) (n c : Nat) (W : World), (convert 23 23 (.slice (some ⟨W.heap.size, 0, none⟩) n c)).run Try.prog (W.alloc (.cells C 5)) = .ok (.slice (some ⟨W.heap.size, 0, none⟩) n c) (W.alloc (.cells C 5 (C.size, C.size + 1))) := fun C n c W => Lib.run_convert_bytes_const W 23 5 C n c Try.underlying23 Try.underlying5
  go_enter Try.func15, Try.ntmps15
  go_wp2_with fail
  refine (disk_new w).mono ?_
  rintro e w1 ⟨D, rfl, h1, h2, h3⟩
  have HO1 : Hid (Calls Try.prog 25 #[.pointer (some ⟨D, 0, none⟩), .string { data := #[97] }] w1 fun e w' => ∃ L, e = .returned (.tuple #[.pointer (some ⟨L, 0, none⟩), .int .i64 0]) ∧ ∃ F' P', Hid (SK w D L 2 F' P' 0 [] g0 w')) := by
    have := sk_open (w := w) h1 ⟨h3.os, h3.tape, h3.output, h3.size, fun q hq _ => h3.block q hq, fun q hq => .inr (by rw [show q = D from hq]; exact h2)⟩ (k := 0) ⟨by decide, fun x hx => (nomatch hx), by decide, by decide⟩ (by decide) k0.1
    rw [k0.2.1, k0.2.2] at this
    exact this
  clear h1 h2 h3
  go_wp2_with fail
  refine HO1.out.mono ?_
  rintro e w2 ⟨L, rfl, F2, P2, H2⟩
  clear HO1
  go_wp2_with fail
  refine (sk_append H2.out (by decide) (by decide) (by decide) [120] 1 rfl (by intro c hc; simp at hc; omega) (by decide) k1.1).mono ?_
  rw [k1.2.1, k1.2.2]
  rintro e w3 ⟨rfl, F3, P3, H3⟩
  go_wp2_with fail
  refine (lsync_any H3.out.ws (by decide)).mono ?_
  rintro e w4 ⟨⟨y4, rfl⟩, F4, h4, h4'⟩
  rw [k2] at h4
  have H4 : Hid (SK w D L 4 F4 P3 (syN nLog kd1 0) kd2 kg1 w4) := ⟨h4, H3.out.fr.trans' h4'⟩
  clear h4 h4'
  go_wp2_with fail
  refine (sk_append H4.out (by decide) (by decide) (by decide) [121] 1 rfl (by intro c hc; simp at hc; omega) (by decide) k3.1).mono ?_
  rw [k3.2.1, k3.2.2]
  rintro e w5 ⟨rfl, F5, P5, H5⟩
  go_wp2_with fail
  obtain ⟨W6, hW6⟩ : ∃ W6, (w5.alloc (.cells #[.int .i64 2] 3)).alloc (.cells #[.string { data := #[97, 46, 108, 111, 103] }, .slice (some ⟨w5.heap.size, 0, none⟩) 1 1] 86) = W6 := ⟨_, rfl⟩
  have hb56 : Below w5.heap.size w5 W6 := by rw [← hW6]; exact ((Below.refl _ w5).alloc (Nat.le_refl _) _).alloc (by simp) _
  have hr1 : W6.heap[w5.heap.size]? = some (.cells #[.int .i64 2] 3 (0, 0)) := by rw [← hW6]; exact (Below.heap_alloc _ _ _ (by simp)).trans (Go.heap_alloc_new _ _)
  have hr2 : W6.heap[w5.heap.size + 1]? = some (.cells #[.string { data := #[97, 46, 108, 111, 103] }, .slice (some ⟨w5.heap.size, 0, none⟩) 1 1] 86 (0, 0)) := by
    rw [← hW6]
    have h := Go.heap_alloc_new (w5.alloc (.cells #[.int .i64 2] 3)) (.cells #[.string { data := #[97, 46, 108, 111, 103] }, .slice (some ⟨w5.heap.size, 0, none⟩) 1 1] 86)
    simp only [World.size_alloc] at h
    exact h
  try rw [hW6]
  have H6 : Hid (SK w D L 5 F5 P5 (syN nLog kd1 0) kd3 kg2 W6) := H5.out.newer hb56
  have HCR : Hid (Calls Try.prog 40 #[.pointer (some ⟨D, 0, none⟩), .slice (some ⟨w5.heap.size + 1, 0, none⟩) 1 1] W6 fun e w' => (∃ y, e = .returned (.int .i64 y)) ∧ ∃ F7, Hid (DR w' D F7 (syN nLog kd1 0) kd4 ∧ Inv 6 (syN nLog kd1 0) kd4 ∧ Fr (fun _ => False) F7 w w')) := by
    have hka : KeepsAt (fun q => q = w5.heap.size ∨ q = w5.heap.size + 1) W6 (.slice (some ⟨w5.heap.size + 1, 0, none⟩) 1 1) [(nLog, [2])] := by
      refine ⟨_, 1, rfl, Nat.le_refl _, fun i x hi => ?_⟩
      have h0 : i = 0 ∧ x = (nLog, [2]) := by
        rcases i with _ | i
        · simp at hi; exact ⟨rfl, hi.symm⟩
        · simp at hi
      obtain ⟨rfl, rfl⟩ := h0
      refine ⟨by decide, w5.heap.size + 1, 0, .slice (some ⟨w5.heap.size, 0, none⟩) 1 1, rfl, .inr rfl, by rw [cell_of_row _ _ _ _ _ _ hr2]; rfl, by rw [cell_of_row _ _ _ _ _ _ hr2]; rfl, _, 1, rfl, Nat.le_refl _, fun j y hj => ?_⟩
      have h0 : j = 0 ∧ y = 2 := by
        rcases j with _ | j
        · simp at hj; exact ⟨rfl, hj.symm⟩
        · simp at hj
      obtain ⟨rfl, rfl⟩ := h0
      exact ⟨w5.heap.size, 0, rfl, .inl rfl, by rw [cell_of_row _ _ _ _ _ _ hr1]; rfl⟩
    have hn : ∀ q, F5 q → q < w5.heap.size := H5.out.ws.dr.lt
    refine (p_crash H6.out.ws.dr H6.out.ws.inv (by decide) hka (fun q hq => ?_) (by decide)).mono ?_
    · have h1 := (Array.getElem?_eq_some_iff.1 hr1).1
      have h2 := (Array.getElem?_eq_some_iff.1 hr2).1
      rcases hq with rfl | rfl
      · exact ⟨h1, fun e => by have := hn _ e; omega⟩
      · exact ⟨h2, fun e => by have := hn _ e; omega⟩
    · rw [k4]
      rintro e w' ⟨rfl, F7, h1, h2⟩
      have h3 := crA_inv (ks := [(nLog, [2])]) H6.out.ws.inv
      rw [k4] at h3
      have h4 : Fr (fun _ => False) F5 w W6 := H6.out.fr.sub fun q hq => .inl hq
      exact ⟨⟨_, rfl⟩, F7, h1, h3, h4.trans' h2⟩
  clear hW6 hb56 hr1 hr2
  refine HCR.out.mono ?_
  rintro e w7 ⟨⟨y7, rfl⟩, F7, H7⟩
  clear HCR
  have HO7 : Hid (Calls Try.prog 25 #[.pointer (some ⟨D, 0, none⟩), .string { data := #[97] }] w7 fun e w' => ∃ L, e = .returned (.tuple #[.pointer (some ⟨L, 0, none⟩), .int .i64 0]) ∧ ∃ F' P', Hid (SK w D L 8 F' P' (syN nLog kd1 0) (opD kd4) (opG kd4) w')) := by
    obtain ⟨h1, h2, h3⟩ := H7.out
    exact sk_open (w := w) h1 h3 h2 (by decide) k5.1
  go_wp2_with fail
  refine HO7.out.mono ?_
  rintro e w8 ⟨M, rfl, F8, P8, H8⟩
  clear HO7
  have hg : (opG kd4).rs.length = 1 ∧ (opG kd4).cut = 2 ∧ seqN (opG kd4) = 1 := by
    refine ⟨by rw [k5.2.1]; rfl, k5.2.2.2, ?_⟩
    unfold seqN
    rw [k5.2.1]
    rfl
  have HL : Hid (∀ V, Below w8.heap.size w8 V → Calls Try.prog 30 #[.pointer (some ⟨M, 0, none⟩)] V fun e w' => e = .returned (.int .i64 1) ∧ w' = V) := fun V hV => by
    have := len_some (H8.out.ws.newer hV).lg
    rw [hg.1] at this
    exact this
  have HC : Hid (∀ V, Below w8.heap.size w8 V → Calls Try.prog 32 #[.pointer (some ⟨M, 0, none⟩)] V fun e w' => e = .returned (.int .i64 2) ∧ w' = V) := fun V hV => by
    have := cut_some (H8.out.ws.newer hV).lg
    rw [hg.2.1] at this
    exact this
  have HQ : Hid (∀ V, Below w8.heap.size w8 V → Calls Try.prog 31 #[.pointer (some ⟨M, 0, none⟩)] V fun e w' => e = .returned (.int .u64 1) ∧ ∃ n, w' = V.drewN n) := fun V hV => by
    have := seq_some (H8.out.ws.newer hV).lg (by rw [hg.1]; decide)
    rw [hg.2.2] at this
    exact this
  clear hg
  have HB8 : Hid (Below w.heap.size w w8) := H8.out.below
  go_wp2_with (first | (go_at_call 30; refine (HL.out _ (by first | exact Below.refl _ _ | exact drewN_below _ _)).mono ?_; rintro e w9 ⟨rfl, hw9⟩; rw [hw9]; clear hw9) | (go_at_call 32; refine (HC.out _ (by first | exact Below.refl _ _ | exact drewN_below _ _)).mono ?_; rintro e w9 ⟨rfl, hw9⟩; rw [hw9]; clear hw9) | (go_at_call 31; refine (HQ.out _ (by first | exact Below.refl _ _ | exact drewN_below _ _)).mono ?_; rintro e w9 ⟨rfl, n9, hw9⟩; rw [hw9]; clear hw9))
  go_ret
  exact ⟨rfl, HB8.out.trans ((drewN_below _ _).mono HB8.out.size)⟩
end Go.Proofs.Ytflhgphjkhplmaa.D

/- Frames, with its records apart. -/
namespace Go.Proofs.Ytflhgphjkhplmaa.W
open Go Go.RowKit R Go.Shelf
set_option linter.unusedVariables false
set_option linter.unusedSimpArgs false
attribute [local go_sem] Oper.semAt_some

/-- Two records' rows lie apart. -/
def Apq (x y : El) : Prop := ∀ q, x.rv.ownBlock = some q → y.rv.ownBlock ≠ some q
def Ap (pre : List El) (W : World) : Prop := (∀ x ∈ pre, ∀ q, x.rv.ownBlock = some q → q < W.heap.size) ∧ pre.Pairwise Apq
theorem Ap.nil (W : World) : Ap [] W := ⟨fun x hx => (nomatch hx), .nil⟩
theorem Ap.le {pre : List El} {W W' : World} (h : Ap pre W) (hs : W.heap.size ≤ W'.heap.size) : Ap pre W' := ⟨fun x hx q hq => by have := h.1 x hx q hq; omega, h.2⟩
theorem Ap.snoc {pre : List El} {x : El} {W0 W : World} (h : Ap pre W0) (hs : W0.heap.size ≤ W.heap.size) {n : Nat} {zs : List Value} (ho : W.ownsRow W0.heap.size 5 1 x.rv n zs) : Ap (pre ++ [x]) W := by
  refine ⟨fun y hy q hq => ?_, List.pairwise_append.2 ⟨h.2, List.pairwise_singleton _ _, fun y hy z hz q hq e => ?_⟩⟩
  · rcases List.mem_append.1 hy with hy | hy
    · have := h.1 y hy q hq; omega
    · obtain rfl := List.mem_singleton.1 hy
      exact (ho.lt q hq).2
  · obtain rfl := List.mem_singleton.1 hz
    have h1 := h.1 y hy q hq
    have h2 := (ho.lt q e).1
    omega
set_option maxRecDepth 100000 in
set_option maxHeartbeats 4000000 in
theorem frames_apart {v : Value} {zs : List Int} {w : World} (h : Bz w v zs) (hr : ∀ q, v.ownBlock = some q → ∃ (c : Array Value) (f : Nat × Nat), w.heap[q]? = some (.cells c 5 f)) :
    Calls Try.prog 11 #[v] w fun e w' => ∃ (xs : List El) (lv : Value), e = .returned (.tuple #[lv, .int .u64 (lastN xs : Int), .int .i64 (lastE xs : Int)]) ∧ xs.map El.pl = goodI zs ∧ w'.ownsRow w.heap.size 23 1 lv xs.length (xs.map El.rv) ∧ (∀ x ∈ xs, rowX w.heap.size x w') ∧ Below w.heap.size w w' ∧ xs.Pairwise Apq := by
  obtain ⟨a, c, hv, -⟩ := h.ex
  obtain ⟨N, hN⟩ : ∃ N, zs.length = N := ⟨_, rfl⟩
  rw [hN] at hv
  subst hv
  obtain ⟨W1, hW1⟩ : ∃ W1, ((w.alloc (.cells #[.slice none 0 0] 29)).alloc (.cells #[.int .u64 0] 22)).alloc (.cells #[.int .i64 0] 3) = W1 := ⟨_, rfl⟩
  have H1 : Hid (Below w.heap.size w W1 ∧ Boxed W1 w.heap.size 29 (.slice none 0 0) ∧ Boxed W1 (w.heap.size + 1) 22 (.int .u64 0) ∧ Boxed W1 (w.heap.size + 1 + 1) 3 (.int .i64 0) ∧ W1.heap.size = w.heap.size + 3) := by
    show _ ∧ _
    rw [← hW1]
    refine ⟨((bel1 _ _).alloc (by simp) _).alloc (by simp; omega) _, ((Boxed.new _ _ _).alloc _).alloc _, ?_, ?_, by simp⟩
    · have h := Boxed.new (w.alloc (.cells #[.slice none 0 0] 29)) 22 (.int .u64 0)
      rw [World.size_alloc] at h
      exact h.alloc _
    · have h := Boxed.new ((w.alloc (.cells #[.slice none 0 0] 29)).alloc (.cells #[.int .u64 0] 22)) 3 (.int .i64 0)
      rw [World.size_alloc, World.size_alloc] at h
      exact h
  have hG1 : GB (W1.alloc (.cells #[.slice a N c] 23)) W1.heap.size (.slice a N c) zs :=
    ⟨Go.heap_alloc_new _ _, (h.newer H1.out.1).newer (bel1 _ _), fun q hq => by
      obtain ⟨cc, f, e⟩ := hr q hq
      have hlt := (Array.getElem?_eq_some_iff.1 e).1
      have hl1 := H1.out.1.size
      exact ⟨cc, f, ((bel1 W1 _).block q (by omega)).trans ((H1.out.1.block q hlt).trans e)⟩⟩
  have HG : Hid (GB (W1.alloc (.cells #[.slice a N c] 23)) W1.heap.size (.slice a N c) zs) := hG1
  have HW1 : Hid (((w.alloc (.cells #[.slice none 0 0] 29)).alloc (.cells #[.int .u64 0] 22)).alloc (.cells #[.int .i64 0] 3) = W1) := hW1
  clear h hr hG1 hW1 hN
  refine (callsIn_wide (n := 8)).1 ?_
  refine callsIn_of_wp_marks Try.func11 rfl trivial ?_ rfl
  refine wpIn_wide.2 ?_
  simp only [Try.ntmps11, List.size_toArray, List.length_cons, List.length_nil, Nat.reduceAdd, Nat.reduceSub, Array.replicate_succ, Array.replicate_zero, List.push_toArray, List.append_toArray, List.nil_append, List.cons_append]
  go_upto_region 3 with (fail)
  rw [HW1.out]
  clear HW1
  go_wp2_with (go_at_call 38; refine (good_any a N c W1).mono ?_; rintro e W2 ⟨rfl, hW2⟩; rw [hW2]; clear hW2)
  obtain ⟨W2, hW2⟩ : ∃ W2, W1.alloc (.cells #[.slice a N c] 23) = W2 := ⟨_, rfl⟩
  have HB12 : Hid (Below W1.heap.size W1 W2) := by rw [← hW2]; exact bel1 _ _
  rw [hW2] at HG ⊢
  clear hW2
  obtain ⟨B5, B6, B7, BX, e5, e6, e7, eX⟩ : ∃ B5 B6 B7 BX, w.heap.size = B5 ∧ w.heap.size + 1 = B6 ∧ w.heap.size + 1 + 1 = B7 ∧ W1.heap.size = BX := ⟨_, _, _, _, rfl, rfl, rfl, rfl⟩
  have HBN : Hid (w.heap.size ≤ B5 ∧ B5 < B6 ∧ B6 < B7 ∧ B7 < BX ∧ BX < W2.heap.size) := ⟨by omega, by omega, by omega, by have := H1.out.2.2.2.2; omega, by rw [← eX]; exact HG.out.lt⟩
  have HI0 : Hid (FrI w W2.heap.size B5 B6 B7 [] W2) := by
    obtain ⟨h1, h2, h3, h4, h5⟩ := H1.out
    rw [e5] at h2
    rw [e6] at h3
    rw [e7] at h4
    have k : ∀ q, q < W1.heap.size → W2.heap[q]? = W1.heap[q]? := fun q hq => HB12.out.block q hq
    exact ⟨⟨.slice none 0 0, (k B5 (by omega)).trans h2, World.ownsRow_nil _ _ _ _⟩, (k B6 (by omega)).trans h3, (k B7 (by omega)).trans h4, ⟨h1.trans (HB12.out.mono h1.size), Nat.le_refl _⟩, fun x hx => by simp at hx⟩
  rw [e7, e6, e5, eX]
  rw [eX] at HG
  clear e5 e6 e7 eX H1 HB12
  refine (wpIn_wide (n := 8)).1 ?_
  refine range_x rfl (by omega) (gf := 66) (lb := #[.pointer (some ⟨BX, 0, none⟩)]) rfl trivial (enters_of Try.func66 (by kernel_rfl) rfl)
    (good_seq 7 BX w.heap.size (.slice a N c) zs W2 (by omega) (by have := HBN.out; omega) HG.out)
    (fun pre W => FrI w W2.heap.size B5 B6 B7 pre W ∧ Ap pre W)
    (fun pre x a' W => (∃ g8 ra rc, x.rv = .slice ra x.r.length rc ∧ a' = { tmps := #[.slice a N c, undef, .slice none 0 0, .int .u64 0, .int .i64 0, .pointer (some ⟨B5, 0, none⟩), .pointer (some ⟨B6, 0, none⟩), .pointer (some ⟨B7, 0, none⟩), .pointer (some ⟨g8, 0, none⟩), .int .i64 (x.e : Int), .slice a N c, .func (.func 66) #[] #[.pointer (some ⟨BX, 0, none⟩)], .agg #[.int .u64 (x.n : Int), .slice ra x.r.length rc], .int .i64 (x.e : Int), undef, undef, undef, undef, undef, undef, undef, undef, undef, undef, undef], defers := [] } ∧ FrI w W2.heap.size B5 B6 B7 pre W ∧ W.heap[g8]? = some (.cells #[.int .u64 (x.n : Int), .slice ra x.r.length rc] 81 (0, 0)) ∧ pre.length ≤ 2000000 ∧ ∃ (cc : Array Value) (f : Nat × Nat), W.heap[x.g]? = some (.cells cc 81 f)) ∧ Ap (pre ++ [x]) W)
    KE.trans ?put (Below.refl _ _) (fun _ => rfl) (fun pre W W' row hs hg hr => ⟨hs.1.from hg (fun r e => ⟨by have := (hr r e).1; have := HBN.out; omega, (hr r e).2⟩), hs.2.le hg.size⟩) ?ownS ⟨HI0.out, Ap.nil _⟩ ?ownA ?assign ?body ?done
  case put =>
    intro pre x a' W l o o' hor h1 h2 h3 h4
    have off : ∀ (q : Nat) (c : Array Value) (t : TypeId) (f : Nat × Nat), W.heap[q]? = some (.cells c t f) → (W.putObj l o').heap[q]? = W.heap[q]? := fun q c t f hq => World.putObj_heap_other fun e => by
      subst e
      rw [h2] at hq
      cases hq
      cases h3
    have hbx : BX < W2.heap.size := HBN.out.2.2.2.2
    refine ⟨⟨by simp, fun q c f hq => off q c 5 f hq, World.putObj_heap_other (by omega)⟩, ?_⟩
    rcases hor with ⟨⟨_, _, _, _, _, _, _, _, cc, f, hg⟩, _⟩ | hI
    · exact off _ _ _ _ hg
    · obtain ⟨c, t, f, hg⟩ := hI.1.2.2.2.2 x (by simp)
      exact off _ _ _ _ hg
  case ownS => exact fun xs W W' row hs hg hr => ⟨hs.1, fun x hx => grown_own hg (fun r e => (hr r e).2) (hs.2 x hx)⟩
  case ownA =>
    rintro pre x a' _ W W' row ⟨⟨g8, ra, rc, h1, h2, h3, h4, h5, cc, f, h6⟩, hap⟩ hg hr
    have hr2 := fun r e => (hr r e).2
    exact ⟨⟨g8, ra, rc, h1, h2, h3.from hg (fun r e => ⟨by have := (hr r e).1; have := HBN.out; omega, (hr r e).2⟩), (grown_cells hg hr2 h4).trans h4, h5, cc, f, (grown_cells hg hr2 h6).trans h6⟩, hap.le hg.size⟩
  case assign =>
    rintro l pre x W W0 K hI hb hX hK
    obtain ⟨x0, x1, x2, x3, x4⟩ := hX
    have hrow : W.ownsRow W0.heap.size 5 1 x.rv x.r.length (u8l x.r) := x3
    obtain ⟨ra, rc, hrv⟩ := own_slice hrow
    have HK := hK
    have HAP : Hid (Ap (pre ++ [x]) W) := hI.2.snoc hb.size hrow
    have hI := hI.1
    have HX : Hid (FrI w W2.heap.size B5 B6 B7 pre W ∧ W.heap[x.g]? = some (.cells #[.int .u64 (x.n : Int), x.rv] 81 (0, 0)) ∧ x.rv = .slice ra x.r.length rc ∧ x.g < W.heap.size ∧ pre.length ≤ 2000000 ∧ BX < W.heap.size) := ⟨hI.later hb, x2, hrv, (Array.getElem?_eq_some_iff.1 x2).1, x0, by have h1 := (hI.later hb).2.2.2.1.2; have h2 := HBN.out; omega⟩
    unfold elG
    rw [hrv]
    clear hK hI hb x1 x2 x3 x4 hrow hrv x0
    gi_wp2_with fail
    obtain ⟨k1, k2, k3, k4, k5, k6⟩ := HX.out
    have hb := bel1 W (.cells #[.int .u64 (x.n : Int), .slice ra x.r.length rc] 81)
    exact HK _ _ ((keeps_below hb).from _) ⟨KB.of hb k6, hb.block _ k4⟩ ⟨⟨W.heap.size, ra, rc, k3, rfl, k1.later hb, Go.heap_alloc_new _ _, k5, _, _, (hb.block _ k4).trans k2⟩, HAP.out.le hb.size⟩
  case body =>
    rintro l pre x a' W hl ⟨⟨g8, ra, rc, hrv, rfl, ⟨⟨lv, h1, h2⟩, h3, h4, h5, h6⟩, h7, h8, cc, f, h9⟩, hap⟩
    have HAP : Hid (Ap (pre ++ [x]) W) := hap
    clear hap
    obtain ⟨i0, hi, hz0, hz1, hz2⟩ := info_parts info23
    obtain ⟨la, lc, hlv⟩ := own_slice h2
    subst hlv
    have c5 : W.cell? ⟨B5, 0, none⟩ = some (.slice la pre.length lc) := h1.cell
    have c8 : W.cell? ⟨g8, 1, none⟩ = some (.slice ra x.r.length rc) := by rw [cell_of_row _ _ _ _ _ _ h7]; rfl
    have n1 : ¬ g8 = B5 := ne_tag h7 h1 (by decide)
    have n2 : ¬ g8 = B6 := ne_tag h7 h3 (by decide)
    have n3 : ¬ g8 = B7 := ne_tag h7 h4 (by decide)
    have n4 : ¬ B6 = B5 := by have := HBN.out; omega
    have n5 : ¬ B7 = B5 := by have := HBN.out; omega
    have n6 : ¬ B7 = B6 := by have := HBN.out; omega
    have HX : Hid ((W.ownsRow W2.heap.size 23 1 (.slice la pre.length lc) pre.length (pre.map El.rv) ∧ W2.heap.size ≤ W.heap.size ∧ pre.length ≤ 2000000) ∧ Boxed W B5 29 (.slice la pre.length lc) ∧ Boxed W B6 22 (.int .u64 (lastN pre : Int)) ∧ Boxed W B7 3 (.int .i64 (lastE pre : Int)) ∧ W.heap[g8]? = some (.cells #[.int .u64 (x.n : Int), .slice ra x.r.length rc] 81 (0, 0)) ∧ W.heap[x.g]? = some (.cells cc 81 f) ∧ x.rv = .slice ra x.r.length rc ∧ Below w.heap.size w W) := ⟨⟨h2, h5.2, h8⟩, h1, h3, h4, h7, h9, hrv, h5.1⟩
    have HI23 : Hid (Try.prog.info? 23 = some i0 ∧ i0.zero = some (.slice none 0 0) ∧ i0.size = 1 ∧ i0.bytes = 24) := ⟨hi, hz0, hz1, hz2⟩
    clear h1 h2 h3 h4 h5 h6 h7 h8 h9 hrv hi hz0 hz1 hz2
    gi_wp2_with (gi_at_builtin; (refine wpListIn_append_own _ rfl (.tmp 14) (.tmp 17) 29 rfl W2.heap.size 23 i0 (.slice none 0 0) 1 24 Try.underlying29 HI23.out.1 HI23.out.2.1 HI23.out.2.2.1 HI23.out.2.2.2 rfl (by decide) (.slice la pre.length lc) pre.length (pre.map El.rv) rfl (HX.out.1.1.alloc _) ⟨W.heap.size, 0, none⟩ 1 1 [.slice ra x.r.length rc] rfl rfl (World.news_of_block (Go.heap_alloc_new _ _)) (by intro u hu; obtain rfl := List.mem_singleton.1 hu; rfl) (by have := HX.out.1.2.2; unfold maxLen; omega) (by have := HX.out.1.2.2; omega) (by have := HX.out.1.2.1; simp; omega) ?_; intro v9 w9 ho9 hg9 h9x; clear h9x; obtain ⟨a9, k9, e9⟩ := own_slice ho9; subst e9; (have H9 : Hid (w9.ownsRow W2.heap.size 23 1 (.slice a9 (pre.length + 1) k9) (pre.length + 1) (pre.map El.rv ++ [.slice ra x.r.length rc]) ∧ (W.alloc (.cells #[.slice ra x.r.length rc] 23)).grownBy w9 (Value.slice la pre.length lc).ownBlock) := ⟨ho9, hg9⟩); clear ho9 hg9; (have KW := frW HX.out.1.1 HX.out.1.2.1 H9.out.2); (have r5 : Boxed w9 B5 29 (.slice la pre.length lc) := (KW.1 _ _ _ _ HX.out.2.1 (by decide)).trans HX.out.2.1); (have r6 : Boxed w9 B6 22 (.int .u64 (lastN pre : Int)) := (KW.1 _ _ _ _ HX.out.2.2.1 (by decide)).trans HX.out.2.2.1); (have r7 : Boxed w9 B7 3 (.int .i64 (lastE pre : Int)) := (KW.1 _ _ _ _ HX.out.2.2.2.1 (by decide)).trans HX.out.2.2.2.1); (have r8 := (KW.1 _ _ _ _ HX.out.2.2.2.2.1 (by decide)).trans HX.out.2.2.2.2.1); (have q5 := r5.cell); (have q6 := r6.cell); (have q7 := r7.cell); (have q8 : w9.cell? ⟨g8, 0, none⟩ = some (.int .u64 (x.n : Int)) := by rw [cell_of_row _ _ _ _ _ _ r8]; rfl); (have p5 := r5.frozen); (have p6 := r6.frozen); (have p7 := r7.frozen); (have HR : Hid (Boxed w9 B5 29 (.slice la pre.length lc) ∧ Boxed w9 B6 22 (.int .u64 (lastN pre : Int)) ∧ Boxed w9 B7 3 (.int .i64 (lastE pre : Int))) := ⟨r5, r6, r7⟩); (have HKW : Hid _ := KW); clear KW r5 r6 r7 r8))
    obtain ⟨k1, k2, k3⟩ := HKW.out
    obtain ⟨r5, r6, r7⟩ := HR.out
    obtain ⟨o1, o2, o3, o4, o5, o6, o7, o8⟩ := HX.out
    obtain ⟨z1, z2, z3, z4, z5⟩ := HBN.out
    have s1 : ∀ q, q ≠ B5 → q ≠ B6 → q ≠ B7 → (((w9.setCell ⟨B5, 0, none⟩ (.slice a9 (pre.length + 1) k9)).setCell ⟨B6, 0, none⟩ (.int .u64 (x.n : Int))).setCell ⟨B7, 0, none⟩ (.int .i64 (x.e : Int))).heap[q]? = w9.heap[q]? := fun q h5 h6 h7 => by
      rw [Below.heap_setCell _ _ _ _ h7, Below.heap_setCell _ _ _ _ h6, Below.heap_setCell _ _ _ _ h5]
    have s0 : (((w9.setCell ⟨B5, 0, none⟩ (.slice a9 (pre.length + 1) k9)).setCell ⟨B6, 0, none⟩ (.int .u64 (x.n : Int))).setCell ⟨B7, 0, none⟩ (.int .i64 (x.e : Int))).heap.size = w9.heap.size := by simp
    have keep : ∀ (q : Nat) (c : Array Value) (t : TypeId) (f : Nat × Nat), W.heap[q]? = some (.cells c t f) → t ≠ 23 → t ≠ 29 → t ≠ 22 → t ≠ 3 → (((w9.setCell ⟨B5, 0, none⟩ (.slice a9 (pre.length + 1) k9)).setCell ⟨B6, 0, none⟩ (.int .u64 (x.n : Int))).setCell ⟨B7, 0, none⟩ (.int .i64 (x.e : Int))).heap[q]? = W.heap[q]? := fun q c t f hq t1 t2 t3 t4 => by
      rw [s1 q (ne_tag hq o2 t2) (ne_tag hq o3 t3) (ne_tag hq o4 t4)]
      exact k1 q c t f hq t1
    have hnb : BX < W.heap.size := by have := o1.2.1; omega
    refine ⟨((k3.trans (KeepsOthers.setCell _ _ _)).trans (KeepsOthers.setCell _ _ _)).trans (KeepsOthers.setCell _ _ _) |>.from _, ⟨⟨by rw [s0]; exact k2.size, fun q c f hq => keep q c 5 f hq (by decide) (by decide) (by decide) (by decide), ?_⟩, keep _ _ _ _ o6 (by decide) (by decide) (by decide) (by decide)⟩, ⟨⟨.slice a9 (pre.length + 1) k9, ?_, ?_⟩, ?_, ?_, ⟨?_, ?_⟩, fun y hy => ?_⟩, HAP.out.le (by rw [s0]; exact k2.size)⟩
    · rw [s1 BX (by omega) (by omega) (by omega)]
      exact k2.block BX z5
    · exact ((r5.set _).other (by omega) _).other (by omega) _
    · rw [List.length_append, List.length_singleton, List.map_append, List.map_cons, List.map_nil, o7]
      refine own_at H9.out.1 fun q hq => ?_
      have := (H9.out.1.lt q hq).1
      exact s1 q (by omega) (by omega) (by omega)
    · rw [lastN_snoc]
      exact ((r6.other (by omega) _).set _).other (by omega) _
    · rw [lastE_snoc]
      exact ((r7.other (by omega) _).other (by omega) _).set _
    · exact ((((o8.trans (k2.mono (by omega))).setCell (p := ⟨B5, 0, none⟩) z1 _).setCell (p := ⟨B6, 0, none⟩) (by show _ ≤ B6; omega) _).setCell (p := ⟨B7, 0, none⟩) (by show _ ≤ B7; omega) _)
    · rw [s0]
      exact Nat.le_trans o1.2.1 k2.size
    · obtain rfl : x = y := by simpa using hy
      exact ⟨cc, 81, f, (keep _ _ _ _ o6 (by decide) (by decide) (by decide) (by decide)).trans o6⟩
  case done =>
    rintro Dm xs W hD ⟨hx1, hx2⟩ ⟨⟨⟨lv, h1, h2⟩, h3, h4, h5, h6⟩, hap⟩ hK
    have HAP : Hid (xs.Pairwise Apq) := hap.2
    clear hap
    obtain ⟨la, lc, hlv⟩ := own_slice h2
    subst hlv
    have c5 : W.cell? ⟨B5, 0, none⟩ = some (.slice la xs.length lc) := h1.cell
    have c6 : W.cell? ⟨B6, 0, none⟩ = some (.int .u64 (lastN xs : Int)) := h3.cell
    have c7 : W.cell? ⟨B7, 0, none⟩ = some (.int .i64 (lastE xs : Int)) := h4.cell
    have HE : Hid (xs.map El.pl = goodI zs ∧ (∀ x ∈ xs, rowX w.heap.size x W) ∧ W.ownsRow W2.heap.size 23 1 (.slice la xs.length lc) xs.length (xs.map El.rv) ∧ Below w.heap.size w W ∧ w.heap.size ≤ W2.heap.size ∧ W2.heap.size ≤ Dm) := ⟨hx1, hx2, h2, h5.1, by have := HBN.out; omega, hD⟩
    have HD : Hid (W.heap[Dm]? = some (.deferred (some []))) := hK
    obtain ⟨ln, hln⟩ : ∃ ln, lastN xs = ln := ⟨_, rfl⟩
    obtain ⟨le, hle⟩ : ∃ le, lastE xs = le := ⟨_, rfl⟩
    have HLL : Hid (lastN xs = ln ∧ lastE xs = le) := ⟨hln, hle⟩
    rw [hln] at c6
    rw [hle] at c7
    clear hln hle
    clear hD hx1 hx2 h1 h2 h3 h4 h5 h6 hK
    go_wp2_with fail
    go_quiet (fail)
    go_wp2_with fail
    have hk : (W.drewN nq).heap[Dm]? = some (.deferred (some [])) := HD.out
    obtain ⟨e1, e2, e3, e4, e5, e6⟩ := HE.out
    have hg : (W.drewN nq).grownBy ((W.drewN nq).putObj Dm (.deferred none)) (some Dm) := grownBy_putObj' _ _ _
    have hr : ∀ r, some Dm = some r → ∃ o : Obj, (W.drewN nq).heap[r]? = some o ∧ o.isCells = false := fun r e => by cases e; exact ⟨_, hk, rfl⟩
    have hb0 : Below w.heap.size w (W.drewN nq) := ⟨e4.os, e4.tape, e4.output, e4.size, e4.block⟩
    refine ⟨by simp, .inl ⟨_, _, rfl, run_takeDeferred hk, ?_⟩⟩
    refine ⟨_, results_tmp3 rfl _ _ _, xs, .slice la xs.length lc, by rw [HLL.out.1, HLL.out.2]; rfl, e1, own_low (grown_own hg hr (own_at e3 fun q hq => rfl)) e5, fun x hx => grown_own hg hr (own_at (e2 x hx) fun q hq => rfl), hb0.grown hg hb0.size (fun q e => by cases e; omega), HAP.out⟩
end Go.Proofs.Ytflhgphjkhplmaa.W

/- What was lent is kept; two lists of rows are the same. -/
namespace Go.Proofs.Ytflhgphjkhplmaa.D
open Go.RowKit W R
set_option linter.unusedVariables false
set_option linter.unusedSimpArgs false

variable {w w' w0 w1 w2 : World} {base : Nat} {bs : List Int} {lv sv : Value}
theorem LentR.row (h : LentR w base lv bs) : ∃ g cap cur, lv = .slice (some ⟨g, 0, none⟩) bs.length cap ∧ base ≤ g ∧ w.heap[g]? = some (.cells cur 5 (0, 0)) ∧ (∀ w', w'.heap[g]? = w.heap[g]? → LentR w' base lv bs) ∧ (w.ownsRow base 5 1 lv bs.length (u8l bs)) ∧ w.cell? ⟨g, bs.length, none⟩ = some (.int .u8 77) ∧ bs.length + 1 ≤ cap ∧ cap ≤ maxLen := by
  obtain ⟨g, cap, rfl, ho⟩ := h
  obtain ⟨hl, hr⟩ := ho
  rcases hr with ⟨h1, -⟩ | ⟨g', cap', cur, h1, h2, h3, h4, h5, h6, h7⟩
  · cases h1
  · injection h1 with e1 e2 e3
    have e1 : g' = g := by injection e1 with e1; injection e1 with e1; exact e1.symm
    subst e1 e3
    have hx : ((bs.length + 1) * 1) = bs.length + 1 := Nat.mul_one _
    rw [hx] at h7
    refine ⟨g', cap, cur, rfl, h2, h3, fun w' hw => ⟨g', cap, rfl, hl, .inr ⟨g', cap, cur, rfl, h2, hw.trans h3, h4, h5, h6, by rw [hx]; exact h7⟩⟩, ⟨by simp [u8l_len], .inr ⟨g', cap, cur, rfl, h2, h3, by omega, h5, h6, ?_⟩⟩, ?_, h4, h5⟩
    · rw [Nat.mul_one]
      have := congrArg (List.take bs.length) h7
      rw [List.take_take, Nat.min_eq_left (by omega), List.take_append_of_le_length (by rw [u8l_len]; omega), show List.take bs.length (u8l bs) = u8l bs from List.take_of_length_le (by rw [u8l_len]; omega)] at this
      exact this
    · have hr : w.ownsRow base 5 1 (.slice (some ⟨g', 0, none⟩) (bs.length + 1) cap) (bs.length + 1) (u8l bs ++ [.int .u8 77]) := ⟨hl, .inr ⟨g', cap, cur, rfl, h2, h3, h4, h5, h6, by rw [hx]; exact h7⟩⟩
      rw [hr.cellAt bs.length (by omega), List.getElem?_append_right (by rw [u8l_len]; omega), u8l_len, Nat.sub_self]
      rfl
theorem LentR.srcG (h : LentR w base lv bs) {F : Nat → Prop} (hF : ∀ g, lv.ownBlock = some g → ¬ F g) : SrcG w F lv bs := fun W hW => by
  obtain ⟨g, cap, cur, rfl, -, h3, h4, -⟩ := h.row
  have := h4 W (hW g (Array.getElem?_eq_some_iff.1 h3).1 (hF g rfl))
  obtain ⟨_, _, _, -, -, -, -, h5, -⟩ := this.row
  exact own_src h5
set_option maxRecDepth 20000 in
set_option maxHeartbeats 4000000 in
theorem kept_any (h : LentR w base lv bs) (hs : Src w sv bs) (hb : Byt bs) (hl : bs.length ≤ 2000000) : Calls Try.prog 10 #[lv, sv] w fun e w' => e = .returned (.bool true) ∧ w' = w := by
  obtain ⟨g, cap, cur, rfl, -, h3, -, h5, h6, h7, h8⟩ := h.row
  have hc1 := Src.conv (own_src h5) hb
  have hc2 := Src.conv hs hb
  obtain ⟨sa, sc, rfl⟩ := hs.slice
  generalize (⟨(strB bs).toArray⟩ : ByteArray) = T at hc1 hc2
  have hT : (T.toList == T.toList) = true := by simp
  generalize bs.length = n at *
  have h7i : (n : Int) + 1 ≤ (cap : Int) := by omega
  have hni : (n : Int) ≤ 2000000 := by omega
  have f3 := frozen_of_row w g n _ _ h3
  clear h hs hb hl h3 h5 h7
  go_enter Try.func10, Try.ntmps10
  go_wp2_with fail
  go_ret
  exact ⟨rfl, rfl⟩
set_option maxRecDepth 20000 in
set_option maxHeartbeats 4000000 in
/-- Two lists of rows of bytes, alike. -/
theorem same_yes (W : World) (la lb : Value) (A B : List (Value × List Int)) {ba bb : Nat} (ha : W.ownsRow ba 23 1 la A.length (A.map Prod.fst)) (hb : W.ownsRow bb 23 1 lb B.length (B.map Prod.fst)) (hA : ∀ x ∈ A, Src W x.1 x.2 ∧ Byt x.2) (hB : ∀ x ∈ B, Src W x.1 x.2 ∧ Byt x.2) (he : A.map Prod.snd = B.map Prod.snd) (hl : A.length ≤ 2000000) :
    Calls Try.prog 13 #[la, lb] W fun e w' => e = .returned (.bool true) ∧ ∃ n, w' = W.drewN n := by
  obtain ⟨aa, ac, rfl⟩ := own_slice ha
  obtain ⟨ab, bc, rfl⟩ := own_slice hb
  have hAB : A.length = B.length := by have := congrArg List.length he; simpa using this
  obtain ⟨N, hN⟩ : ∃ N, A.length = N := ⟨_, rfl⟩
  rw [← hAB] at hb ⊢
  have HH : Hid (W.ownsRow ba 23 1 (.slice aa A.length ac) A.length (A.map Prod.fst) ∧ W.ownsRow bb 23 1 (.slice ab A.length bc) A.length (B.map Prod.fst) ∧ (∀ x ∈ A, Src W x.1 x.2 ∧ Byt x.2) ∧ (∀ x ∈ B, Src W x.1 x.2 ∧ Byt x.2) ∧ A.map Prod.snd = B.map Prod.snd ∧ A.length = N ∧ A.length = B.length) := ⟨ha, hb, hA, hB, he, hN, hAB⟩
  rw [hN] at hl ⊢
  have hNi : (N : Int) ≤ 2000000 := by omega
  clear ha hb hA hB he hN hAB hl
  go_enter Try.func13, Try.ntmps13
  go_wp2_with fail
  go_loopw [5] (fun x wr => ∃ k : Nat, k ≤ N ∧ x = .int .i64 (k : Int) ∧ ∃ n, wr = W.drewN n) (fun x wr => N - (intOf x).toNat)
  case atStart => exact ⟨0, Nat.zero_le _, rfl, 0, rfl⟩
  case round =>
    obtain ⟨k, hk, rfl, n, rfl⟩ := hrel
    by_cases hlt : k < N
    · obtain ⟨h1, h2, h3, h4, h5, h6, h7⟩ := HH.out
      obtain ⟨ga, ca, rfl⟩ : ∃ g c, aa = some ⟨g, 0, none⟩ := by
        obtain ⟨g, cap, e⟩ := own_form h1 (by omega)
        injection e with e1
        exact ⟨g, 0, e1⟩
      obtain ⟨gb, cb, rfl⟩ : ∃ g c, ab = some ⟨g, 0, none⟩ := by
        obtain ⟨g, cap, e⟩ := own_form h2 (by omega)
        injection e with e1
        exact ⟨g, 0, e1⟩
      have hkA : k < A.length := by omega
      have hkB : k < B.length := by omega
      obtain ⟨⟨va, za⟩, hva⟩ : ∃ x, A[k] = x := ⟨_, rfl⟩
      obtain ⟨⟨vb, zb⟩, hvb⟩ : ∃ x, B[k] = x := ⟨_, rfl⟩
      have hz : za = zb := by
        have h := congrArg (fun l => l[k]?) h5
        simp only [List.getElem?_map, List.getElem?_eq_getElem hkA, List.getElem?_eq_getElem hkB, hva, hvb, Option.map_some, Option.some.injEq] at h
        exact h
      subst hz
      obtain ⟨s1, z1⟩ : Src W va za ∧ Byt za := h3 (va, za) (hva ▸ List.getElem_mem hkA)
      obtain ⟨s2, -⟩ : Src W vb za ∧ Byt za := h4 (vb, za) (hvb ▸ List.getElem_mem hkB)
      have ka : ∀ m, (W.drewN m).cell? ⟨ga, k, none⟩ = some va := fun m => by
        have h := h1.cellAt k (by omega)
        rw [List.getElem?_map, List.getElem?_eq_getElem hkA, hva] at h
        exact h
      have kb : ∀ m, (W.drewN m).cell? ⟨gb, k, none⟩ = some vb := fun m => by
        have h := h2.cellAt k (by omega)
        rw [List.getElem?_map, List.getElem?_eq_getElem hkB, hvb] at h
        exact h
      obtain ⟨aa', ac', rfl⟩ := s1.slice
      obtain ⟨ab', ac2, rfl⟩ := s2.slice
      obtain ⟨T, hT⟩ : ∃ T : ByteArray, (⟨(strB za).toArray⟩ : ByteArray) = T := ⟨_, rfl⟩
      have q1 : ∀ m, (convert 23 9 (.slice aa' za.length ac')).run Try.prog (W.drewN m) = .ok (.string T) (W.drewN m) := fun m => by rw [← hT]; exact Src.conv (w := W.drewN m) s1 z1
      have q2 : ∀ m, (convert 23 9 (.slice ab' za.length ac2)).run Try.prog (W.drewN m) = .ok (.string T) (W.drewN m) := fun m => by rw [← hT]; exact Src.conv (w := W.drewN m) s2 z1
      have hTT : (T.toList == T.toList) = true := by simp
      have hki : (k : Int) < (N : Int) := by omega
      generalize za.length = M at *
      clear h1 h2 h3 h4 h5 h6 h7 s1 s2 z1 hva hvb hT hkA hkB
      go_wp2_with fail
      go_quiet (fail)
      go_wp2_with fail
      go_roundw
      case rel => exact ⟨k + 1, by omega, by go_num, _, rfl⟩
      case measure => simp [intOf]; omega
    · have hkN : k = N := by omega
      subst hkN
      go_wp2_with fail
      go_ret
      exact ⟨rfl, n, rfl⟩
end Go.Proofs.Ytflhgphjkhplmaa.D

/- The model's log as it lies; its last number. -/
namespace Go.Proofs.Ytflhgphjkhplmaa.D
open Go Go.RowKit W R Go.Shelf
set_option linter.unusedVariables false
set_option linter.unusedSimpArgs false
attribute [local go_sem] Oper.semAt_some

variable {w w' : World} {B R k : Nat} {P : Nat → Prop}
/-- The model's log, plainly: its checkpoint's number and record (0: none), the records behind it, what was cut. -/
structure Mg where
  at' : Nat
  b : List Int
  l : List (List Int)
  cut : Nat
def mgC (R : Nat) (m : Mg) (bv lv : Value) : Array Value := #[.pointer (some ⟨R, 0, none⟩), .string (tx [97]), bv, .bool (decide (m.at' ≠ 0)), .int .u64 (m.at' : Int), lv, .int .i64 (m.cut : Int)]
/-- As it lies, at B, on the model's disk at R; P: its blocks. -/
structure MG (w : World) (B R : Nat) (m : Mg) (P : Nat → Prop) : Prop where
  ex : ∃ bv lv xs, w.heap[B]? = some (.cells (mgC R m bv lv) 57 (0, 0)) ∧ w.ownsRow 0 5 1 bv m.b.length (u8l m.b) ∧ w.ownsRow 0 23 1 lv xs.length (xs.map Prod.fst) ∧ xs.map Prod.snd = m.l ∧ (∀ x ∈ xs, w.ownsRow 0 5 1 x.1 x.2.length (u8l x.2)) ∧ ∀ q, P q ↔ q = B ∨ bv.ownBlock = some q ∨ lv.ownBlock = some q ∨ ∃ x ∈ (xs : List (Value × List Int)), x.1.ownBlock = some q
theorem MG.at' {m : Mg} (h : MG w B R m P) (hk : ∀ q, P q → w'.heap[q]? = w.heap[q]?) : MG w' B R m P := by
  obtain ⟨bv, lv, xs, h1, h2, h3, h4, h5, h6⟩ := h
  exact ⟨bv, lv, xs, (hk B ((h6 B).2 (.inl rfl))).trans h1, own_at h2 fun q hq => hk q ((h6 q).2 (.inr (.inl hq))), own_at h3 fun q hq => hk q ((h6 q).2 (.inr (.inr (.inl hq)))), h4, fun x hx => own_at (h5 x hx) fun q hq => hk q ((h6 q).2 (.inr (.inr (.inr ⟨x, hx, hq⟩)))), h6⟩
theorem MG.lt {m : Mg} (h : MG w B R m P) : ∀ q, P q → q < w.heap.size := by
  obtain ⟨bv, lv, xs, h1, h2, h3, h4, h5, h6⟩ := h
  intro q hq
  rcases (h6 q).1 hq with rfl | e | e | ⟨x, hx, e⟩
  · exact (Array.getElem?_eq_some_iff.1 h1).1
  · exact (h2.lt q e).2
  · exact (h3.lt q e).2
  · exact ((h5 x hx).lt q e).2
theorem MG.newer {m : Mg} (h : MG w B R m P) (hb : Below w.heap.size w w') : MG w' B R m P := h.at' fun q hq => hb.block q (h.lt q hq)
set_option maxRecDepth 20000 in
theorem mseq_any {m : Mg} (h : MG w B R m P) (hl : m.l.length ≤ 4000000) (hs : m.at' + m.l.length < 18446744073709551616) : Calls Try.prog 46 #[.pointer (some ⟨B, 0, none⟩)] w fun e w' => e = .returned (.int .u64 ((m.at' : Int) + (m.l.length : Int))) ∧ ∃ n, w' = w.drewN n := by
  obtain ⟨bv, lv, xs, h1, h2, h3, h4, h5, h6⟩ := h
  obtain ⟨la, lc, rfl⟩ := own_slice h3
  have hlen : xs.length = m.l.length := by rw [← h4, List.length_map]
  rw [hlen] at h1
  obtain ⟨N, hN⟩ : ∃ N, m.l.length = N := ⟨_, rfl⟩
  obtain ⟨A, hA⟩ : ∃ A, m.at' = A := ⟨_, rfl⟩
  rw [hN] at h1 hl hs ⊢
  rw [hA] at hs ⊢
  have c4 : ∀ n, (w.drewN n).cell? ⟨B, 4, none⟩ = some (.int .u64 (A : Int)) := fun n => by show w.cell? _ = _; rw [cell_of_row _ _ _ _ _ _ h1, ← hA]; rfl
  have c5 : ∀ n, (w.drewN n).cell? ⟨B, 5, none⟩ = some (.slice la N lc) := fun n => by show w.cell? _ = _; rw [cell_of_row _ _ _ _ _ _ h1]; rfl
  have hNi : (N : Int) ≤ 4000000 := by omega
  have hsi : (A : Int) + (N : Int) < 18446744073709551616 := by omega
  clear h1 h2 h3 h4 h5 h6 hlen hN hA hl hs
  go_enter Try.func46, Try.ntmps46
  go_wp2_with fail
  go_quiet (fail)
  go_wp2_with fail
  go_ret
  exact ⟨rfl, _, rfl⟩
end Go.Proofs.Ytflhgphjkhplmaa.D

/- The model's log beside its disk; Sync. -/
namespace Go.Proofs.Ytflhgphjkhplmaa.D
open Go Go.RowKit W R Go.Shelf
set_option linter.unusedVariables false
set_option linter.unusedSimpArgs false
attribute [local go_sem] Oper.semAt_some

variable {w w' : World} {B R k k' : Nat} {sy sy' : Int} {G G' P P' : Nat → Prop} {dl dl' : List Fd} {m : Mg}
structure WM (w : World) (R B k : Nat) (G P : Nat → Prop) (sy : Int) (dl : List Fd) (m : Mg) : Prop where
  mr : MR w R G sy dl
  inv : Inv k sy dl
  mg : MG w B R m P
  ap : ∀ q, P q → ¬ G q
theorem WM.newer (h : WM w R B k G P sy dl m) (hb : Below w.heap.size w w') : WM w' R B k G P sy dl m := ⟨h.mr.newer hb, h.inv, h.mg.newer hb, h.ap⟩
theorem WM.disk (h : WM w R B k G P sy dl m) (hd : MR w' R G' sy' dl') (hf : Fr G G' w w') (hi : Inv k' sy' dl') : WM w' R B k' G' P sy' dl' m ∧ Fr (fun q => G q ∨ P q) (fun q => G' q ∨ P q) w w' := by
  refine ⟨⟨hd, hi, h.mg.at' fun q hq => hf.block q (h.mg.lt q hq) (h.ap q hq), fun q hq e => ?_⟩, ⟨hf.os, hf.tape, hf.output, hf.size, fun q hq hn => hf.block q hq fun e => hn (.inl e), fun q hq => ?_⟩⟩
  · rcases hf.grow q e with e | e
    · exact h.ap q hq e
    · have := h.mg.lt q hq; omega
  · rcases hq with hq | hq
    · exact (hf.grow q hq).imp .inl id
    · exact .inl (.inr hq)
theorem WM.cells (h : WM w R B k G P sy dl m) : w.cell? ⟨B, 0, none⟩ = some (.pointer (some ⟨R, 0, none⟩)) ∧ w.cell? ⟨B, 1, none⟩ = some (.string { data := #[97] }) := by
  obtain ⟨bv, lv, xs, h1, -⟩ := h.mg
  exact ⟨by rw [cell_of_row _ _ _ _ _ _ h1]; rfl, by rw [cell_of_row _ _ _ _ _ _ h1]; rfl⟩
set_option maxRecDepth 20000 in
set_option maxHeartbeats 4000000 in
theorem msync_any (h : WM w R B k G P sy dl m) (hk : k ≤ 1000000) : Calls Try.prog 22 #[.pointer (some ⟨B, 0, none⟩)] w fun e w' => e = .returned (.int .i64 0) ∧ ∃ G', WM w' R B (k + 1) G' P (syN nLog dl sy) (syD nLog dl) m ∧ Fr (fun q => G q ∨ P q) (fun q => G' q ∨ P q) w w' := by
  have HS : Hid (WM w R B k G P sy dl m ∧ k ≤ 1000000) := ⟨h, hk⟩
  have HSY : Hid (Calls Try.prog 49 #[.pointer (some ⟨R, 0, none⟩), .string (tx nLog)] w.drew fun e w' => (∃ y, e = .returned (.int .i64 y)) ∧ ∃ G', Hid (WM w' R B (k + 1) G' P (syN nLog dl sy) (syD nLog dl) m ∧ Fr (fun q => G q ∨ P q) (fun q => G' q ∨ P q) w w')) := by
    have hw := HS.out.1.newer (drewN_below w 1)
    refine (m_sync hw.mr hw.inv HS.out.2 (s := nLog)).mono ?_
    rintro e w' ⟨rfl, G', h1, h2⟩
    obtain ⟨h3, h4⟩ := hw.disk h1 h2 (sy_inv hw.inv)
    exact ⟨⟨_, rfl⟩, G', h3, (Fr.newer (drewN_below w 1)).trans' h4⟩
  have hcat : ∀ W, (binOp .add 9 (.string { data := #[97] }) (.string { data := #[46, 108, 111, 103] })).run Try.prog W = .ok (.string (tx nLog)) W := fun W => by kernel_rfl
  obtain ⟨d0, d1⟩ : w.drew.cell? ⟨B, 0, none⟩ = some (.pointer (some ⟨R, 0, none⟩)) ∧ w.drew.cell? ⟨B, 1, none⟩ = some (.string { data := #[97] }) := (HS.out.1.newer (drewN_below w 1)).cells
  have HCD : Hid (∀ w' G', WM w' R B (k + 1) G' P (syN nLog dl sy) (syD nLog dl) m → w'.cell? ⟨B, 0, none⟩ = some (.pointer (some ⟨R, 0, none⟩)) ∧ w'.cell? ⟨B, 1, none⟩ = some (.string { data := #[97] })) := fun w' G' h => h.cells
  clear h hk
  go_enter Try.func22, Try.ntmps22
  go_upto_region 1 with (fail)
  go_region_held3 (fun w' => w'.cell? ⟨B, 0, none⟩ = some (.pointer (some ⟨R, 0, none⟩)) ∧ w'.cell? ⟨B, 1, none⟩ = some (.string { data := #[97] })) (first | exact K1 | go_keep) ((go_at_call 49; refine HSY.out.mono ?_; rintro e w3 ⟨⟨y3, rfl⟩, F3, H3⟩; (have K1 := HCD.out w3 F3 H3.out.1)))
  all_goals
    go_wp2_with fail
    go_ret
    exact ⟨rfl, F3, H3.out⟩
end Go.Proofs.Ytflhgphjkhplmaa.D

/- The model's Append. -/
namespace Go.Proofs.Ytflhgphjkhplmaa.D
open Go Go.RowKit W R Go.Shelf
set_option linter.unusedVariables false
set_option linter.unusedSimpArgs false
attribute [local go_sem] Oper.semAt_some

variable {w w' : World} {B R k k' : Nat} {sy sy' : Int} {G G' P P' : Nat → Prop} {dl dl' : List Fd} {m : Mg} {bs : List Int}
def mpF (m : Mg) (bs : List Int) : List Int := frI (m.at' + m.l.length + 1) bs
def mpE (m : Mg) (bs : List Int) (dl : List Fd) : Int := if 65536 < bs.length then 4 else apE nLog (mpF m bs) dl
def mpD (m : Mg) (bs : List Int) (dl : List Fd) : List Fd := if 65536 < bs.length then dl else apD nLog (mpF m bs) dl
def mpG (m : Mg) (bs : List Int) (dl : List Fd) : Mg := if mpE m bs dl = 0 then ⟨m.at', m.b, m.l ++ [bs], m.cut⟩ else m
set_option maxRecDepth 100000 in
set_option maxHeartbeats 4000000 in
theorem mappend_size (h : WM w R B k G P sy dl m) {v : Value} (hsv : SrcG w (fun q => G q ∨ P q) v bs) (hbl : bs.length ≤ 2000000) (h6 : 65536 < bs.length) : Calls Try.prog 42 #[.pointer (some ⟨B, 0, none⟩), v] w fun e w' => e = .returned (.int .i64 (mpE m bs dl)) ∧ ∃ G' P', WM w' R B k G' P' sy (mpD m bs dl) (mpG m bs dl) ∧ Fr (fun q => G q ∨ P q) (fun q => G' q ∨ P' q) w w' := by
  obtain ⟨va, vc, rfl⟩ := hsv.now.slice
  have e1 : mpE m bs dl = 4 := if_pos h6
  have e2 : mpD m bs dl = dl := if_pos h6
  have e3 : mpG m bs dl = m := by unfold mpG; rw [e1]; rfl
  rw [e1, e2, e3]
  obtain ⟨N, hN⟩ : ∃ N, bs.length = N := ⟨_, rfl⟩
  rw [hN] at h6 ⊢
  have h6i : (65536 : Int) < (N : Int) := by omega
  have HS : Hid (WM w R B k G P sy dl m) := h
  clear h hsv hbl h6 e1 e2 e3
  go_enter Try.func42, Try.ntmps42
  go_wp2_with fail
  refine bodyPost_ret (v := .int .i64 4) (results_tmp Try.results42 _ _ _) rfl ?_
  exact ⟨rfl, G, P, HS.out, Fr.refl _ _⟩
end Go.Proofs.Ytflhgphjkhplmaa.D

/- The model's Append, whole. -/
namespace Go.Proofs.Ytflhgphjkhplmaa.D
open Go Go.RowKit W R Go.Shelf
set_option linter.unusedVariables false
set_option linter.unusedSimpArgs false
attribute [local go_sem] Oper.semAt_some

variable {w w' : World} {B R k k' : Nat} {sy sy' : Int} {G G' P P' : Nat → Prop} {dl dl' : List Fd} {m : Mg} {bs : List Int}
theorem mp_fin {V : World} {bv lv lv' cv : Value} {xs : List (Value × List Int)} {m' : Mg} (h : WM w R B k G P sy dl m) (l1 : w.heap[B]? = some (.cells (mgC R m bv lv) 57 (0, 0))) (l2 : w.ownsRow 0 5 1 bv m.b.length (u8l m.b)) (l3 : w.ownsRow 0 23 1 lv xs.length (xs.map Prod.fst)) (l4 : xs.map Prod.snd = m.l) (l5 : ∀ x ∈ xs, w.ownsRow 0 5 1 x.1 x.2.length (u8l x.2))
    (l6 : ∀ q, P q ↔ q = B ∨ bv.ownBlock = some q ∨ lv.ownBlock = some q ∨ ∃ x ∈ xs, x.1.ownBlock = some q) (hgb : m'.b = m.b) (hgr : m'.l = m.l ++ [bs])
    (hL : V.heap[B]? = some (.cells (mgC R m' bv lv') 57 (0, 0))) (hk : ∀ q, q < w.heap.size → q ≠ B → lv.ownBlock ≠ some q → V.heap[q]? = w.heap[q]?) (hos : V.os = w.os) (htape : V.tape = w.tape) (hout : V.output = w.output) (hsz : w.heap.size ≤ V.heap.size)
    (hv : V.ownsRow 0 23 1 lv' (xs.length + 1) (xs.map Prod.fst ++ [cv])) (hn : ∀ q, lv'.ownBlock = some q → lv.ownBlock = some q ∨ w.heap.size ≤ q) (hc : V.ownsRow w.heap.size 5 1 cv bs.length (u8l bs)) :
    ∃ P', WM V R B k G P' sy dl m' ∧ Fr (fun q => G q ∨ P q) (fun q => G q ∨ P' q) w V := by
  have hPL : P B := (l6 B).2 (.inl rfl)
  have hPr : ∀ q, lv.ownBlock = some q → P q := fun q hq => (l6 q).2 (.inr (.inr (.inl hq)))
  have hFk : ∀ q, G q → V.heap[q]? = w.heap[q]? := fun q hq => hk q (h.mr.lt q hq) (fun e => h.ap B hPL (e ▸ hq)) fun e => h.ap q (hPr q e) hq
  have h5k : ∀ {v : Value} {n : Nat} {zs : List Value}, w.ownsRow 0 5 1 v n zs → ∀ q, v.ownBlock = some q → V.heap[q]? = w.heap[q]? := fun {v n zs} ho q hq => by
    obtain ⟨cur, hcur⟩ := own_tag ho hq
    refine hk q (ho.lt q hq).2 (fun e => ?_) fun e => ?_
    · subst e; exact ne_tag l1 hcur (by decide) rfl
    · obtain ⟨cur', hcur'⟩ := own_tag l3 e
      exact ne_tag hcur' hcur (by decide) rfl
  have hmem : ∀ y, y ∈ xs ++ [(cv, bs)] → y ∈ xs ∨ y = (cv, bs) := fun y hy => by simpa using hy
  refine ⟨fun q => q = B ∨ bv.ownBlock = some q ∨ lv'.ownBlock = some q ∨ ∃ y ∈ xs ++ [(cv, bs)], y.1.ownBlock = some q, ⟨h.mr.at' hFk, h.inv, ⟨bv, lv', xs ++ [(cv, bs)], hL, ?_, ?_, ?_, fun y hy => ?_, fun q => Iff.rfl⟩, fun q hq hF => ?_⟩, ⟨hos, htape, hout, hsz, fun q hq hn' => hk q hq (fun e => hn' (.inr (e ▸ hPL))) fun e => hn' (.inr (hPr q e)), fun q hq => ?_⟩⟩
  · rw [hgb]
    exact own_at l2 (h5k l2)
  · rw [List.length_append, List.length_singleton, List.map_append]
    exact hv
  · rw [List.map_append, l4, hgr]
    rfl
  · rcases hmem y hy with hy | rfl
    · exact own_at (l5 y hy) (h5k (l5 y hy))
    · exact own_low hc (Nat.zero_le _)
  · have hlt := h.mr.lt q hF
    rcases hq with rfl | e | e | ⟨y, hy, e⟩
    · exact h.ap q hPL hF
    · exact h.ap q ((l6 q).2 (.inr (.inl e))) hF
    · rcases hn q e with e | e
      · exact h.ap q (hPr q e) hF
      · omega
    · rcases hmem y hy with hy | rfl
      · exact h.ap q ((l6 q).2 (.inr (.inr (.inr ⟨y, hy, e⟩)))) hF
      · have := (hc.lt q e).1; omega
  · rcases hq with hq | rfl | e | e | ⟨y, hy, e⟩
    · exact .inl (.inl hq)
    · exact .inl (.inr hPL)
    · exact .inl (.inr ((l6 q).2 (.inr (.inl e))))
    · exact (hn q e).imp (fun e => .inr (hPr q e)) id
    · rcases hmem y hy with hy | rfl
      · exact .inl (.inr ((l6 q).2 (.inr (.inr (.inr ⟨y, hy, e⟩)))))
      · exact .inr (hc.lt q e).1
set_option maxRecDepth 100000 in
set_option maxHeartbeats 4000000 in
theorem mappend_any (h : WM w R B k G P sy dl m) (hk : k ≤ 1000000) (hl : m.l.length ≤ 1000000) (hsq : m.at' + m.l.length + 1 < 18446744073709551616) {v : Value} (hsv : SrcG w (fun q => G q ∨ P q) v bs) (hb : Byt bs) (hbl : bs.length ≤ 2000000) : Calls Try.prog 42 #[.pointer (some ⟨B, 0, none⟩), v] w fun e w' => e = .returned (.int .i64 (mpE m bs dl)) ∧ ∃ G' P', WM w' R B (k + 1) G' P' sy (mpD m bs dl) (mpG m bs dl) ∧ Fr (fun q => G q ∨ P q) (fun q => G' q ∨ P' q) w w' := by
  by_cases h6 : 65536 < bs.length
  · refine (mappend_size h hsv hbl h6).mono ?_
    rintro e w' ⟨rfl, G', P', h1, h2⟩
    exact ⟨rfl, G', P', ⟨h1.mr, h1.inv.more, h1.mg, h1.ap⟩, h2⟩
  obtain ⟨va, vc, rfl⟩ := hsv.now.slice
  have HS : Hid (WM w R B k G P sy dl m ∧ SrcG w (fun q => G q ∨ P q) (.slice va bs.length vc) bs ∧ Byt bs ∧ bs.length ≤ 65536 ∧ k ≤ 1000000 ∧ m.at' + m.l.length + 1 < 18446744073709551616 ∧ m.l.length ≤ 1000000) := ⟨h, hsv, hb, by omega, hk, hsq, hl⟩
  obtain ⟨S, hS⟩ : ∃ S, m.at' + m.l.length = S := ⟨_, rfl⟩
  have HSQ : Hid (m.at' + m.l.length = S) := hS
  have hS1 : (S : Int) + 1 < 18446744073709551616 := by omega
  have HQ : Hid (Calls Try.prog 46 #[.pointer (some ⟨B, 0, none⟩)] w fun e w' => e = .returned (.int .u64 (S : Int)) ∧ ∃ n, w' = w.drewN n) := by
    have := mseq_any h.mg (by omega) (by omega)
    rw [show (m.at' : Int) + (m.l.length : Int) = (S : Int) by omega] at this
    exact this
  obtain ⟨N, hN⟩ : ∃ N, bs.length = N := ⟨_, rfl⟩
  have hE0 : frE (S + 1) N = 0 := by unfold frE; rw [if_neg (by omega), if_neg (by omega)]
  obtain ⟨fr, hfr⟩ : ∃ fr, frI (S + 1) bs = fr := ⟨_, rfl⟩
  obtain ⟨M, hM⟩ : ∃ M, fr.length = M := ⟨_, rfl⟩
  have hfb : Byt fr := by rw [← hfr]; exact frI_byt hb
  have HM : Hid (fr.length = M ∧ M ≤ 1048576 ∧ bs.length = N ∧ N ≤ 65536) := by
    have := (frI_len (seq := S + 1) (b := bs) (by omega) (by omega)).2
    rw [hfr] at this
    exact ⟨hM, by omega, hN, by omega⟩
  have HFR : Hid (∀ n, Calls Try.prog 9 #[.int .u64 ((S : Int) + 1), .slice va N vc] (w.drewN n) fun e w' => ∃ fa fc, e = .returned (.tuple #[.slice fa M fc, .int .i64 0]) ∧ Hid (w'.ownsRow w.heap.size 5 1 (.slice fa M fc) fr.length (u8l fr) ∧ Below w.heap.size w w')) := by
    show ∀ n, _
    intro n
    have := rframe_any (w := w.drewN n) (S + 1) (by omega) (hsv (w.drewN n) fun q _ _ => rfl) hb (by omega)
    rw [hN, hE0, hfr] at this
    refine this.mono ?_
    rintro e w' ⟨⟨v', rfl, h1, h2⟩, h3⟩
    have h4 := h1 rfl
    rw [hM] at h4
    obtain ⟨fa, fc, rfl⟩ := own_slice h4
    refine ⟨fa, fc, rfl, ?_, (drewN_below w n).trans h3⟩
    rw [hM]
    exact h4
  obtain ⟨A, hA⟩ : ∃ A, apE nLog fr dl = A := ⟨_, rfl⟩
  have ef : mpF m bs = fr := by unfold mpF; rw [hS, hfr]
  have e1 : mpE m bs dl = A := by unfold mpE; rw [if_neg h6, ef, hA]
  have e2' : mpD m bs dl = apD nLog fr dl := by unfold mpD; rw [if_neg h6, ef]
  obtain ⟨m2, hm2⟩ : ∃ m2, mpG m bs dl = m2 := ⟨_, rfl⟩
  have HG2 : Hid (m2 = if A = 0 then ⟨m.at', m.b, m.l ++ [bs], m.cut⟩ else m) := by show _ = _; rw [← hm2]; unfold mpG; rw [e1]
  obtain ⟨dl2, hd2⟩ : ∃ dl2, apD nLog fr dl = dl2 := ⟨_, rfl⟩
  rw [e1, e2', hm2, hd2, hN]
  have h6i : ¬ (65536 : Int) < (N : Int) := by omega
  have HAP : Hid (∀ V fa fc, Below w.heap.size w V → V.ownsRow w.heap.size 5 1 (.slice fa M fc) fr.length (u8l fr) → Calls Try.prog 47 #[.pointer (some ⟨R, 0, none⟩), .string (tx nLog), .slice fa M fc] V fun e w' => e = .returned (.int .i64 A) ∧ ∃ F3, Hid (WM w' R B (k + 1) F3 P sy dl2 m ∧ Fr (fun q => G q ∨ P q) (fun q => F3 q ∨ P q) w w' ∧ Fr (fun q => G q ∨ P q) (fun q => F3 q ∨ P q) V w')) := by
    show ∀ V fa fc, _
    intro V fa fc hV ho
    have hw := HS.out.1.newer hV
    have hs : SrcG V G (.slice fa M fc) fr := SrcG.own (by rw [HM.out.1] at ho ⊢; exact ho) fun q hq hF => by
      have h1 := (ho.lt q hq).1
      have h2 := HS.out.1.mr.lt q hF
      omega
    have := m_append hw.mr hw.inv HS.out.2.2.2.2.1 (s := nLog) (by decide) hs (by rw [HM.out.1]; exact HM.out.2.1)
    rw [hA, hd2] at this
    refine this.mono ?_
    rintro e w' ⟨rfl, F3, h1, h2⟩
    obtain ⟨h3, h4⟩ := hw.disk h1 h2 (by rw [← hd2]; exact ap_inv hw.inv hfb (by rw [HM.out.1]; exact HM.out.2.1))
    exact ⟨rfl, F3, h3, (Fr.newer hV).trans' h4, h4⟩
  have hcat : ∀ W, (binOp .add 9 (.string { data := #[97] }) (.string { data := #[46, 108, 111, 103] })).run Try.prog W = .ok (.string (tx nLog)) W := fun W => by kernel_rfl
  have HCL : Hid (∀ V, Below w.heap.size w V → V.cell? ⟨B, 0, none⟩ = some (.pointer (some ⟨R, 0, none⟩)) ∧ V.cell? ⟨B, 1, none⟩ = some (.string { data := #[97] })) := fun V hV => (HS.out.1.newer hV).cells
  have HCW : Hid (∀ V W F3, Below w.heap.size w V → Fr (fun q => G q ∨ P q) (fun q => F3 q ∨ P q) V W → WM W R B (k + 1) F3 P sy dl2 m → W.cell? ⟨B, 0, none⟩ = some (.pointer (some ⟨R, 0, none⟩)) ∧ W.cell? ⟨B, 1, none⟩ = some (.string { data := #[97] })) := fun V W F3 _ _ hW => hW.cells
  clear h hk hl hsq hsv hb hbl h6 hS hN hE0 hfr hM hfb hA ef e1 e2' hm2 hd2
  go_enter Try.func42, Try.ntmps42
  go_upto_region 4 with (first | (go_at_call 46; refine HQ.out.mono ?_; rintro e w1 ⟨rfl, n1, rfl⟩) | (go_at_call 9; refine (HFR.out _).mono ?_; rintro e w2 ⟨fa, fc, rfl, H2⟩))
  obtain ⟨d0, d1⟩ := HCL.out w2.drew (H2.out.2.trans (drewN_below w2 1 |>.mono H2.out.2.size))
  go_cut [7] from 20 to 30 (fun x wx => x = .int .i64 A ∧ ∃ F3, Hid (WM wx R B (k + 1) F3 P sy dl2 m ∧ Fr (fun q => G q ∨ P q) (fun q => F3 q ∨ P q) w wx))
  case first =>
    go_region_held3 (fun w' => w'.cell? ⟨B, 0, none⟩ = some (.pointer (some ⟨R, 0, none⟩)) ∧ w'.cell? ⟨B, 1, none⟩ = some (.string { data := #[97] })) (first | exact K1 | go_keep) ((go_at_call 47; refine (HAP.out w2.drew fa fc (H2.out.2.trans (drewN_below w2 1 |>.mono H2.out.2.size)) (own_at H2.out.1 fun q hq => rfl)).mono ?_; rintro e w3 ⟨rfl, F3, H3⟩; (have K1 := HCW.out w2.drew w3 F3 (H2.out.2.trans (drewN_below w2 1 |>.mono H2.out.2.size)) H3.out.2.2 H3.out.1)))
    all_goals
      go_wp2_with fail
      go_meet
      exact ⟨rfl, F3, H3.out.1, H3.out.2.1⟩
  case rest =>
  obtain ⟨rfl, F3, H3⟩ := hcut
  clear d0 d1 hcat HCL HCW HAP HFR HQ
  by_cases hA : A = 0
  · subst hA
    obtain ⟨bv, lv, xs, g1, g2, g3, g4, g5, g6⟩ := H3.out.1.mg
    obtain ⟨la, lc, rfl⟩ := own_slice g3
    obtain ⟨X, hX⟩ : ∃ X, xs.length = X := ⟨_, rfl⟩
    have HL : Hid (wc.heap[B]? = some (.cells (mgC R m bv (.slice la X lc)) 57 (0, 0)) ∧ wc.ownsRow 0 5 1 bv m.b.length (u8l m.b) ∧ wc.ownsRow 0 23 1 (.slice la X lc) X (xs.map Prod.fst) ∧ xs.map Prod.snd = m.l ∧ (∀ x ∈ xs, wc.ownsRow 0 5 1 x.1 x.2.length (u8l x.2)) ∧ (∀ q, P q ↔ q = B ∨ bv.ownBlock = some q ∨ (Value.slice la X lc).ownBlock = some q ∨ ∃ x ∈ xs, x.1.ownBlock = some q) ∧ xs.length = X ∧ X ≤ 1000000) := by
      rw [hX] at g1 g3 g6
      exact ⟨g1, g2, g3, g4, g5, g6, hX, by have := HS.out.2.2.2.2.2.2; rw [← g4, List.length_map] at this; omega⟩
    have c5 : wc.cell? ⟨B, 5, none⟩ = some (.slice la X lc) := by rw [cell_of_row _ _ _ _ _ _ HL.out.1]; rfl
    have HSV : Hid (Src wc (.slice va N vc) bs) := by
      have h := HS.out.2.1 wc fun q hq hn => H3.out.2.block q hq hn
      rw [HM.out.2.2.1] at h
      exact h
    clear g1 g2 g3 g4 g5 g6 hX
    go_upto_region 9 with (at_builtin; (refine wpList_append_src rfl (.tmp 34) (.tmp 35) rfl wc.heap.size (.slice none 0 0) 0 [] rfl (World.ownsRow_nil _ _ _ _) (.slice va N vc) bs rfl HSV.out (by have := HM.out; omega) (Nat.le_refl _) ?_; intro v3 w3 ho3 hg3; (have ho4 : w3.ownsRow wc.heap.size 5 1 v3 bs.length (u8l bs) := by have h := ho3; rw [Nat.zero_add, List.nil_append] at h; exact h); (obtain ⟨oa, oc, hv3⟩ := own_slice ho4); subst hv3; (have H4 : Hid (w3.ownsRow wc.heap.size 5 1 (.slice oa bs.length oc) bs.length (u8l bs) ∧ Below wc.heap.size wc w3) := ⟨ho4, (Below.refl _ wc).grown hg3 (Nat.le_refl _) (by intro q hq; cases hq)⟩); clear ho3 ho4 hg3))
    have hB4 : Hid (w3.heap[B]? = some (.cells (mgC R m bv (.slice la X lc)) 57 (0, 0))) := (H4.out.2.block B (Array.getElem?_eq_some_iff.1 HL.out.1).1).trans HL.out.1
    have c5 : w3.cell? ⟨B, 5, none⟩ = some (.slice la X lc) := by rw [cell_of_row _ _ _ _ _ _ hB4.out]; rfl
    have hown : Hid (w3.ownsRow 0 23 1 (.slice la X lc) X (xs.map Prod.fst)) := own_at HL.out.2.2.1 fun q hq => H4.out.2.block q (HL.out.2.2.1.lt q hq).2
    clear h6i hS1
    go_wp2_with (at_builtin; (refine wpList_append_one23 rfl (.tmp 41) (.tmp 43) rfl 0 (.slice la X lc) X (xs.map Prod.fst) rfl w3 hown.out (.slice oa bs.length oc) rfl rfl rfl (by have := HL.out.2.2.2.2.2.2.2; omega) (Nat.zero_le _) ?_; intro g9 k9 w9 ho9 hg9; (have HB9 : Hid (w9.heap[B]? = some (.cells (mgC R m bv (.slice la X lc)) 57 (0, 0))) := (hg9.block B (Array.getElem?_eq_some_iff.1 hB4.out).1 (fun e => own_other hown.out hB4.out (by decide) e.symm)).trans hB4.out); (have c5 : w9.cell? ⟨B, 5, none⟩ = some (.slice la X lc) := by rw [cell_of_row _ _ _ _ _ _ HB9.out]; rfl); (have f5 := frozen_of_row _ _ 5 _ _ HB9.out); (have H9 : Hid (w9.ownsRow 0 23 1 (.slice (some ⟨g9, 0, none⟩) (X + 1) k9) (X + 1) (xs.map Prod.fst ++ [.slice oa bs.length oc]) ∧ Gr (.slice la X lc) w3 (.slice (some ⟨g9, 0, none⟩) (X + 1) k9) w9) := ⟨ho9, hg9⟩); clear ho9 hg9))
    refine bodyPost_ret (v := .int .i64 0) (results_tmp Try.results42 _ _ _) rfl ⟨rfl, ?_⟩
    obtain ⟨l1, l2, l3, l4, l5, l6, l7, l8⟩ := HL.out
    obtain ⟨a1, a2⟩ := H9.out
    have hBc : B < wc.heap.size := (Array.getElem?_eq_some_iff.1 l1).1
    have hs3 := H4.out.2.size
    have hs9 := a2.size
    have hV : ∀ q, q ≠ B → (w9.setCell ⟨B, 5, none⟩ (.slice (some ⟨g9, 0, none⟩) (X + 1) k9)).heap[q]? = w9.heap[q]? := fun q hq => Below.heap_setCell _ _ _ _ hq
    obtain ⟨P', h1, h2⟩ := mp_fin (V := w9.setCell ⟨B, 5, none⟩ (.slice (some ⟨g9, 0, none⟩) (X + 1) k9)) (bv := bv) (lv := .slice la X lc) (lv' := .slice (some ⟨g9, 0, none⟩) (X + 1) k9) (cv := .slice oa bs.length oc) (xs := xs) (m' := m2) (bs := bs) H3.out.1 l1 l2 (by rw [l7]; exact l3) l4 l5 l6 (by rw [HG2.out]; rfl) (by rw [HG2.out]; rfl) (by
        have e : m2 = ⟨m.at', m.b, m.l ++ [bs], m.cut⟩ := HG2.out
        rw [e]
        exact row_set (i := 5) (.slice (some ⟨g9, 0, none⟩) (X + 1) k9) HB9.out)
      (fun q hq hn hr => (hV q hn).trans ((a2.block q (by omega) hr).trans (H4.out.2.block q hq)))
      (a2.os.trans H4.out.2.os) (a2.tape.trans H4.out.2.tape) (a2.output.trans H4.out.2.output) (by simp; omega)
      (by
        rw [l7]
        refine own_at a1 fun q hq => hV q fun e => ?_
        subst e
        obtain ⟨cur, hc⟩ := own_tag a1 hq
        exact ne_tag HB9.out hc (by decide) rfl)
      (fun q hq => (a2.near q hq).imp id fun e => by omega)
      (own_at H4.out.1 fun q hq => by
        obtain ⟨b1, b2⟩ := H4.out.1.lt q hq
        exact (hV q (by omega)).trans (a2.block q b2 fun e => by have := (l3.lt q e).2; omega))
    exact ⟨F3, P', h1, H3.out.2.trans' h2⟩
  · have e : m2 = m := by rw [HG2.out, if_neg hA]
    have hA1 : (A != 0) = true := by rw [bne_iff_ne]; exact hA
    clear hA h6i hS1
    go_wp2_with fail
    refine bodyPost_ret (v := .int .i64 A) (results_tmp Try.results42 _ _ _) rfl ?_
    rw [e]
    exact ⟨rfl, F3, P, H3.out.1, H3.out.2⟩
end Go.Proofs.Ytflhgphjkhplmaa.D
