import Derived.Test.YtflhgphjkhplmaaML02
import Derived.Laws.MakeOwn
import Derived.BigQuiet
import Derived.Lib.AppendZeros
/- Varints are put behind bytes: the layer's own Put; a clone; equal bytes; a head. -/
namespace Go.Proofs.Ytflhgphjkhplmaa.W
open Go.RowKit
set_option linter.unusedVariables false
set_option linter.unusedSimpArgs false

variable {w w' : World} {v : Value} {zs : List Int}
set_option maxRecDepth 20000 in
set_option maxHeartbeats 1000000 in
theorem wput_any (v : Value) (bs : List Int) (m : Int) (w : World) (m0 : 0 ≤ m) (m1 : m < 18446744073709551616) (hS : Src w v bs) (hn : bs.length ≤ 4000000) :
    Calls Try.prog 33 #[v, .int .u64 m] w fun e w' => (∃ v', e = .returned v' ∧ w'.ownsRow w.heap.size 5 1 v' (bs ++ vN m.toNat).length (u8l (bs ++ vN m.toNat))) ∧ Below w.heap.size w w' := by
  obtain ⟨a, c, rfl⟩ := hS.slice
  obtain ⟨i0, hi, hz0, hz1, hz2⟩ := info_parts info5
  obtain ⟨hL10, -⟩ := vN_le10 m.toNat (by omega)
  obtain ⟨L, hL⟩ : ∃ L, (vN m.toNat).length = L := ⟨_, rfl⟩
  obtain ⟨n, hnn⟩ : ∃ n, bs.length = n := ⟨_, rfl⟩
  have HV : Hid (Calls Try.prog 62 #[.int .u64 m] w fun e w' => e = .returned (.int .i64 (L : Int)) ∧ w' = w) := by
    have := varintSize_any m w m0 m1
    rw [hL] at this
    exact this
  obtain ⟨W1, hmk, ho1, hg1⟩ := run_make_own (P := Try.prog) w w.heap.size 23 5 i0 (.int .u8 0) 1 Try.underlying23 hi hz0 hz1 .i64 .i64 (n + L) (by rw [hz2]; omega) (by unfold maxLen; omega) (Nat.le_refl _)
  have hB1 : Below w.heap.size w W1 := (Below.refl _ w).grown hg1 (Nat.le_refl _) (by intro q hq; cases hq)
  have H1 : Hid (W1.ownsRow w.heap.size 5 1 (.slice (some ⟨w.heap.size, 0, none⟩) 0 (n + L)) 0 [] ∧ Below w.heap.size w W1 ∧ Src W1 (.slice a n c) bs ∧ bs.length = n ∧ n ≤ 4000000 ∧ L ≤ 10 ∧ (vN m.toNat).length = L ∧ 0 ≤ m ∧ m < 18446744073709551616) := ⟨ho1, hB1, by rw [← hnn]; exact hS.later hB1, hnn, by omega, by omega, hL, m0, m1⟩
  rw [hnn] at hn ⊢
  rw [hL] at hL10
  have hmk' : (Instr.makeSlice 23 (.int .i64 0) (.int .i64 ((n : Int) + (L : Int)))).run Try.prog w = .ok (.slice (some ⟨w.heap.size, 0, none⟩) 0 (n + L)) W1 := by
    rw [show ((n : Int) + (L : Int)) = ((n + L : Nat) : Int) by omega]; exact hmk
  have n1 : (n : Int) ≤ 4000000 := by omega
  have n2 : (L : Int) ≤ 10 := by omega
  clear hS hn hmk ho1 hg1 hB1 hi hz0 hz1 hz2 hL hL10 hnn
  go_enter Try.func33, Try.ntmps33
  go_wp2_with (first | (go_at_call 62; refine HV.out.mono ?_; rintro e w1 ⟨rfl, hw1⟩; rw [hw1]; clear hw1) | (at_builtin; go_loud (refine wpList_append_src rfl (.tmp 12) (.tmp 13) rfl w.heap.size (.slice (some ⟨w.heap.size, 0, none⟩) 0 (n + L)) 0 [] rfl H1.out.1 (.slice a n c) bs rfl H1.out.2.2.1 (by have := H1.out; omega) H1.out.2.1.size ?_; intro v2 w2 ho2 hg2; (have H2 : Hid (w2.ownsRow w.heap.size 5 1 v2 n (u8l bs) ∧ Below w.heap.size w w2) := ⟨by have h := ho2; rw [Nat.zero_add, List.nil_append, H1.out.2.2.2.1] at h; exact h, H1.out.2.1.grown hg2 H1.out.2.1.size (fun q hq => (H1.out.1.lt q hq).1)⟩); clear ho2 hg2)) | (go_at_call 63; go_loud (refine (appendVarint_any w.heap.size v2 n (u8l bs) m w2 H1.out.2.2.2.2.2.2.2.1 H1.out.2.2.2.2.2.2.2.2 H2.out.1 H2.out.2.size (by have := H1.out; omega)).mono ?_; rintro e w3 ⟨v3, rfl, ho3, hg3⟩; (have H3 : Hid (w3.ownsRow w.heap.size 5 1 v3 (n + (vN m.toNat).length) (u8l bs ++ u8l (vN m.toNat)) ∧ Gr v2 w2 v3 w3) := ⟨ho3, hg3⟩); clear ho3 hg3)))
  go_ret
  refine ⟨⟨_, rfl, ?_⟩, H2.out.2.trans (H3.out.2.below H2.out.2.size (ownBlock_ge H2.out.1))⟩
  rw [← u8l_app, List.length_append, H1.out.2.2.2.1]
  exact H3.out.1
set_option maxRecDepth 20000 in
set_option maxHeartbeats 1000000 in
theorem bclone_any (v : Value) (bs : List Int) (w : World) (hS : Src w v bs) (hl : bs.length ≤ 9000000) : Calls Try.prog 45 #[v] w fun e w' => (∃ v', e = .returned v' ∧ w'.ownsRow w.heap.size 5 1 v' bs.length (u8l bs)) ∧ Below w.heap.size w w' := by
  rcases hS with ⟨rfl, rfl⟩ | ⟨ad, cap, rfl, hcap, hC⟩
  · have hq : ∀ w, (binOp .eql 23 (.slice none 0 0) (.slice none 0 0)).run Try.prog w = .ok (.bool true) w := fun w => by kernel_rfl
    go_enter Try.func45, Try.ntmps45
    go_wp2_with fail
    go_ret
    exact ⟨⟨_, rfl, World.ownsRow_nil _ _ _ _⟩, Below.refl _ _⟩
  · have HS : Hid (Src w (.slice (some ad) bs.length cap) bs ∧ bs.length ≤ 9000000) := ⟨.inr ⟨ad, cap, rfl, hcap, hC⟩, hl⟩
    obtain ⟨L, hL⟩ : ∃ L, bs.length = L := ⟨_, rfl⟩
    have HL : Hid (bs.length = L) := hL
    rw [hL] at HS ⊢
    have hq : ∀ w, (binOp .eql 23 (.slice (some ad) L cap) (.slice none 0 0)).run Try.prog w = .ok (.bool false) w := fun w => by kernel_rfl
    clear hcap hC hl hL
    go_enter Try.func45, Try.ntmps45
    go_wp2_with (at_builtin; (refine wpList_append_src rfl (.tmp 5) (.tmp 6) rfl w.heap.size (.slice (some ⟨w.heap.size, 0, none⟩) 0 0) 0 [] rfl (World.ownsRow_lit w #[] 0 (Nat.le_refl _) (by decide) rfl) (.slice (some ad) L cap) bs rfl (HS.out.1.later (bel1 _ _)) (by have h1 := HS.out.2; have h2 := HL.out; omega) (by simp) ?_; intro v' w' ho' hg'))
    go_ret
    refine ⟨⟨_, rfl, ?_⟩, (bel1 _ _).grown hg' (by simp) ?_⟩
    · have h := ho'
      rw [Nat.zero_add, List.nil_append, HL.out] at h
      exact h
    · intro q hq'
      simp [Value.ownBlock] at hq'
      omega
set_option maxRecDepth 20000 in
theorem equal_any {v u : Value} {zs xs : List Int} (h1 : Bz w v zs) (h2 : Bz w u xs) : Calls Try.prog 95 #[v, u] w fun e w' => e = .returned (.bool (decide (zs = xs))) ∧ w' = w := by
  have HC1 : Hid (∀ W, Below w.heap.size w W → (convert 23 9 v).run Try.prog W = .ok (.string (bT zs)) W) := h1.conv
  have HC2 : Hid (∀ W, Below w.heap.size w W → (convert 23 9 u).run Try.prog W = .ok (.string (bT xs)) W) := h2.conv
  have c1 := HC1.out w (Below.refl _ _)
  have c2 := HC2.out w (Below.refl _ _)
  have HQ : Hid (((bT zs).toList == (bT xs).toList) = decide (zs = xs)) := bT_eq h1.byt h2.byt
  clear h1 h2
  generalize bT zs = A at *
  generalize bT xs = B at *
  go_enter Try.func95, Try.ntmps95
  go_wp2_with fail
  go_ret
  exact ⟨by show Ending.returned (.bool (A.toList == B.toList)) = _; rw [HQ.out], rfl⟩
set_option maxRecDepth 20000 in
set_option maxHeartbeats 1000000 in
theorem prefix_any {v u : Value} {zs xs : List Int} (h1 : Bz w v zs) (h2 : Bz w u xs) : Calls Try.prog 88 #[v, u] w fun e w' => e = .returned (.bool (decide (zs.take xs.length = xs))) ∧ w' = w := by
  obtain ⟨a, c, e1, hc, -⟩ := h1.ex
  obtain ⟨a', c', e2, -⟩ := h2.ex
  have hs1 := h1.small
  have hs2 := h2.small
  subst e1
  subst e2
  obtain ⟨n, hn⟩ : ∃ n, zs.length = n := ⟨_, rfl⟩
  obtain ⟨m, hm⟩ : ∃ m, xs.length = m := ⟨_, rfl⟩
  by_cases hle : m ≤ n
  · have hcut := h1.cut0 m (by omega)
    have HE : Hid (Calls Try.prog 95 #[.slice a m c, .slice a' m c'] w fun e w' => e = .returned (.bool (decide (zs.take m = xs))) ∧ w' = w) := by
      have := equal_any hcut h2
      rw [hm] at this
      exact this
    rw [hm]
    rw [hn] at hc hs1 ⊢
    rw [hm] at hs2
    have q1 : (m : Int) ≤ (n : Int) := by omega
    have q2 : (m : Int) ≤ (c : Int) := by omega
    have q3 : (n : Int) ≤ 2000000 := by omega
    clear h1 h2 hcut hn hm hle hs1 hs2 hc
    go_enter Try.func88, Try.ntmps88
    go_wp2_with (go_at_call 95; refine HE.out.mono ?_; rintro e w1 ⟨rfl, hw1⟩; rw [hw1]; clear hw1)
    go_ret
    exact ⟨rfl, rfl⟩
  · have HR : Hid (decide (zs.take m = xs) = false) := by
      show _ = _
      refine decide_eq_false fun e => ?_
      have := congrArg List.length e
      simp at this
      omega
    rw [hm]
    rw [hn] at hc hs1 ⊢
    rw [hm] at hs2
    have q1 : ¬ (m : Int) ≤ (n : Int) := by omega
    have q2 : (n : Int) < (m : Int) := by omega
    have q3 : (n : Int) ≤ 2000000 := by omega
    clear h1 h2 hn hm hle hs1 hs2 hc
    go_enter Try.func88, Try.ntmps88
    go_wp2_with fail
    go_ret
    exact ⟨by rw [HR.out]; rfl, rfl⟩
end Go.Proofs.Ytflhgphjkhplmaa.W

/- Two rows of bytes put together; a sum is put behind bytes. -/
namespace Go.Proofs.Ytflhgphjkhplmaa.W
open Go.RowKit
set_option linter.unusedVariables false
set_option linter.unusedSimpArgs false

variable {w w' : World} {v : Value} {zs : List Int}
set_option maxRecDepth 20000 in
set_option maxHeartbeats 2000000 in
theorem grow_any (N : Nat) (w : World) (h0 : 0 < N) (h1 : N ≤ 4000000) : Calls Try.prog 65 #[.slice none 0 0, .int .i64 (N : Int)] w fun e w' => (∃ v, e = .returned v ∧ w'.ownsRow w.heap.size 5 1 v 0 []) ∧ Below w.heap.size w w' := by
  obtain ⟨i0, hi, hz0, hz1, hz2⟩ := info_parts info5
  have hrz : ∀ ty, (Builtin.append_ #[23, 3] ty #[.slice none 0 0, .int .i64 (N : Int)]).run Try.prog w = .ok (.slice (some ⟨w.heap.size, 0, none⟩) N (grownCap w N 0 5)) (w.drew.alloc (.cells (Builtin.zeroCells (Value.int .u8 0).cells N ++ Builtin.zeroCells (Value.int .u8 0).cells (grownCap w N 0 5 - N)) 5)) := fun ty =>
    Lib.run_append_nil_zeros w 23 3 ty 5 i0 (.int .u8 0) .i64 .i64 Try.underlying23 Try.underlying3 hi hz0 N h0 (by rw [hz1]; decide) (by omega) (by rw [hz2]; omega)
  have hG : N ≤ grownCap w N 0 5 := grownCap_ge w _ _ _
  have hM : grownCap w N 0 5 ≤ maxLen := grownCap_le_maxLen w N 0 5 (by unfold maxLen; omega)
  obtain ⟨G, hGe⟩ : ∃ G, G = grownCap w N 0 5 := ⟨_, rfl⟩
  rw [← hGe] at hrz hG hM
  have HM : Hid (N ≤ G ∧ G ≤ maxLen) := ⟨hG, hM⟩
  have HRZ : Hid (∀ ty, (Builtin.append_ #[23, 3] ty #[.slice none 0 0, .int .i64 (N : Int)]).run Try.prog w = .ok (.slice (some ⟨w.heap.size, 0, none⟩) N G) (w.drew.alloc (.cells (Builtin.zeroCells (Value.int .u8 0).cells N ++ Builtin.zeroCells (Value.int .u8 0).cells (G - N)) 5))) := hrz
  have n0 : (0 : Int) < (N : Int) := by omega
  have n1 : (N : Int) ≤ 4000000 := by omega
  clear hrz hGe hG hM hi hz0 hz1 hz2 h0 h1
  go_enter Try.func65, Try.ntmps65
  go_wp2_with (at_builtin; refine Lib.wpList_append_run _ rfl _ _ _ _ rfl _ _ rfl rfl _ _ (HRZ.out _) ?_)
  go_ret
  obtain ⟨h1, h2⟩ := HM.out
  refine ⟨⟨_, rfl, rfl, .inr ⟨w.heap.size, G, _, rfl, Nat.le_refl _, Go.heap_alloc_new _ _, by omega, h2, ?_, by simp⟩⟩, ((Below.refl _ w).alloc (Nat.le_refl _) _).drew⟩
  simp [Builtin.zeroCells]
  omega
set_option maxRecDepth 20000 in
set_option maxHeartbeats 4000000 in
theorem concat_any (pb : Nat) (va vb : Value) (a b : List Int) (w : World) (hp : pb < w.heap.size) (p0 : w.cell? ⟨pb, 0, none⟩ = some va) (p1 : w.cell? ⟨pb, 1, none⟩ = some vb) (ha : Src w va a) (hb : Src w vb b) (h0 : 0 < a.length) (h1 : a.length + b.length ≤ 4000000) :
    Calls Try.prog 35 #[.slice (some ⟨pb, 0, none⟩) 2 2] w fun e w' => (∃ v, e = .returned v ∧ w'.ownsRow w.heap.size 5 1 v (a ++ b).length (u8l (a ++ b))) ∧ Below w.heap.size w w' := by
  obtain ⟨aa, ac, rfl⟩ := ha.slice
  obtain ⟨ba, bc, rfl⟩ := hb.slice
  obtain ⟨n, hn⟩ : ∃ n, a.length = n := ⟨_, rfl⟩
  obtain ⟨m, hm⟩ : ∃ m, b.length = m := ⟨_, rfl⟩
  rw [hn] at p0 ha
  rw [hm] at p1 hb
  have HA : Hid (Src w (.slice aa n ac) a ∧ Src w (.slice ba m bc) b ∧ a.length = n ∧ b.length = m ∧ pb < w.heap.size ∧ n + m ≤ 4000000) := ⟨ha, hb, hn, hm, hp, by omega⟩
  have HG : Hid (∀ V : World, Calls Try.prog 65 #[.slice none 0 0, .int .i64 ((n : Int) + (m : Int))] V fun e w' => (∃ v, e = .returned v ∧ w'.ownsRow V.heap.size 5 1 v 0 []) ∧ Below V.heap.size V w') := fun V => by
    have := grow_any (n + m) V (by omega) (by omega)
    rwa [show ((n + m : Nat) : Int) = (n : Int) + (m : Int) by omega] at this
  have n1 : (n : Int) ≤ 4000000 := by omega
  have n2 : (m : Int) ≤ 4000000 := by omega
  have n3 : (n : Int) + (m : Int) ≤ 4000000 := by omega
  clear ha hb hp hn hm h0 h1
  go_enter Try.func35, Try.ntmps35
  go_wp2_with fail
  go_loopw [3, 5, 11] (fun z s i wr => wr = w ∧ ((i = .int .i64 0 ∧ z = .int .i64 0) ∨ (i = .int .i64 1 ∧ z = .int .i64 (n : Int)) ∨ (i = .int .i64 2 ∧ z = .int .i64 ((n : Int) + (m : Int))))) (fun z s i wr => 2 - (intOf i).toNat)
  case atStart => exact ⟨rfl, .inl ⟨rfl, rfl⟩⟩
  case round =>
    obtain ⟨hw, hcase⟩ := hrel
    rw [hw]
    clear hw
    rcases hcase with ⟨rfl, rfl⟩ | ⟨rfl, rfl⟩ | ⟨rfl, rfl⟩
    · go_wp2_with fail
      go_roundw
      case rel => exact ⟨trivial, .inr (.inl ⟨rfl, by go_num⟩)⟩
      case measure => simp [intOf]
    · go_wp2_with fail
      go_roundw
      case rel => exact ⟨trivial, .inr (.inr ⟨rfl, rfl⟩)⟩
      case measure => simp [intOf]
    · go_wp2_with (go_at_call 65; refine (HG.out w).mono ?_; rintro e w1 ⟨⟨v1, rfl, hown1⟩, hb1⟩)
      go_loopw [6, 8, 27] (fun v s i wr => Below w.heap.size w wr ∧ ((i = .int .i64 0 ∧ wr.ownsRow w.heap.size 5 1 v 0 []) ∨ (i = .int .i64 1 ∧ wr.ownsRow w.heap.size 5 1 v n (u8l a)) ∨ (i = .int .i64 2 ∧ wr.ownsRow w.heap.size 5 1 v (n + m) (u8l (a ++ b))))) (fun v s i wr => 2 - (intOf i).toNat)
      case atStart => exact ⟨hb1, .inl ⟨rfl, hown1⟩⟩
      case round =>
        clear hown1 hb1
        obtain ⟨hbel, hcase⟩ := hrel
        have HBEL : Hid (Below w.heap.size w wr) := hbel
        have q0 : wr.cell? ⟨pb, 0, none⟩ = some (.slice aa n ac) := (hbel.cell HA.out.2.2.2.2.1).trans p0
        have q1 : wr.cell? ⟨pb, 1, none⟩ = some (.slice ba m bc) := (hbel.cell HA.out.2.2.2.2.1).trans p1
        clear hbel p0 p1
        rcases hcase with ⟨rfl, hown⟩ | ⟨rfl, hown⟩ | ⟨rfl, hown⟩
        · have HOWN : Hid (wr.ownsRow w.heap.size 5 1 u6 0 []) := hown
          clear hown
          go_wp2_with (at_builtin; (refine wpList_append_src rfl (.tmp 31) (.tmp 32) rfl w.heap.size u6 0 [] rfl HOWN.out (.slice aa n ac) a rfl (HA.out.1.later HBEL.out) (by have := HA.out; omega) HBEL.out.size ?_; intro v3 w3 ho3 hg3; (have H3 : Hid (w3.ownsRow w.heap.size 5 1 v3 n (u8l a) ∧ Below w.heap.size w w3) := ⟨by have h := ho3; rw [Nat.zero_add, List.nil_append, HA.out.2.2.1] at h; exact h, HBEL.out.trans ((Below.refl _ wr).grown hg3 HBEL.out.size (ownBlock_ge HOWN.out))⟩); clear ho3 hg3))
          go_roundw
          case rel => exact ⟨H3.out.2, .inr (.inl ⟨rfl, H3.out.1⟩)⟩
          case measure => simp [intOf]
        · have HOWN : Hid (wr.ownsRow w.heap.size 5 1 u6 n (u8l a)) := hown
          clear hown
          go_wp2_with (at_builtin; (refine wpList_append_src rfl (.tmp 31) (.tmp 32) rfl w.heap.size u6 n (u8l a) rfl HOWN.out (.slice ba m bc) b rfl (HA.out.2.1.later HBEL.out) (by have := HA.out; omega) HBEL.out.size ?_; intro v3 w3 ho3 hg3; (have H3 : Hid (w3.ownsRow w.heap.size 5 1 v3 (n + m) (u8l (a ++ b)) ∧ Below w.heap.size w w3) := ⟨by have h := ho3; rw [u8l_app, HA.out.2.2.2.1] at h; exact h, HBEL.out.trans ((Below.refl _ wr).grown hg3 HBEL.out.size (ownBlock_ge HOWN.out))⟩); clear ho3 hg3))
          go_roundw
          case rel => exact ⟨H3.out.2, .inr (.inr ⟨rfl, H3.out.1⟩)⟩
          case measure => simp [intOf]
        · have HOWN : Hid (wr.ownsRow w.heap.size 5 1 u6 (n + m) (u8l (a ++ b))) := hown
          clear hown
          go_wp2_with fail
          go_ret
          exact ⟨⟨_, rfl, by rw [List.length_append, HA.out.2.2.1, HA.out.2.2.2.1]; exact HOWN.out⟩, HBEL.out⟩
/-- The sum of any bytes. -/
def smI (zs : List Int) : Int := cpI (crI zs 4294967295)
theorem smI_bd (h : Byt zs) : 0 ≤ smI zs ∧ smI zs < 4294967296 := by
  obtain ⟨a, b⟩ := cr_bd zs h 4294967295 (by omega) (by omega)
  unfold smI cpI
  exact xor_bd _ _ (by decide) (by decide) a b
theorem bsum_any (h : Bz w v zs) (h0 : 0 < zs.length) : Calls Try.prog 64 #[v] w fun e w' => e = .returned (.int .u32 (smI zs)) ∧ w' = w := by
  obtain ⟨b, off, c, rfl, -, hR⟩ := h.row h0
  have := sum_row b off zs.length c zs w (Nat.le_refl _) (by have := h.small; omega) h.byt (fun i hi => hR.cell i hi)
  rwa [List.take_length] at this
end Go.Proofs.Ytflhgphjkhplmaa.W

/- A sum is put behind bytes; a frame. -/
namespace Go.Proofs.Ytflhgphjkhplmaa.W
open Go.RowKit
set_option linter.unusedVariables false
set_option linter.unusedSimpArgs false

variable {w w' : World} {v : Value} {zs : List Int}
theorem leN_snoc : ∀ (n k : Nat), leN n (k + 1) = leN n k ++ [((n / 256 ^ k % 256 : Nat) : Int)]
  | n, 0 => by simp [leN]
  | n, k + 1 => by
    rw [leN, leN_snoc (n / 256) k, leN, List.cons_append, Nat.div_div_eq_div_mul, Nat.pow_succ, Nat.mul_comm 256]
set_option maxRecDepth 20000 in
set_option maxHeartbeats 4000000 in
theorem putSum_any (base : Nat) (h : w.ownsRow base 5 1 v zs.length (u8l zs)) (hb : base ≤ w.heap.size) (hz : Byt zs) (h0 : 0 < zs.length) (h1 : zs.length ≤ 1900000) : Calls Try.prog 34 #[v] w fun e w' => (∃ v', e = .returned v' ∧ w'.ownsRow base 5 1 v' (zs ++ leN (smI zs).toNat 4).length (u8l (zs ++ leN (smI zs).toNat 4)) ∧ Gr v w v' w') := by
  obtain ⟨b0, b1⟩ := smI_bd hz
  obtain ⟨a, c, rfl⟩ := own_slice h
  obtain ⟨S, hS⟩ : ∃ S, (smI zs).toNat = S := ⟨_, rfl⟩
  have eS : smI zs = (S : Int) := by omega
  have hS2 : S < 4294967296 := by omega
  have HC : Hid (Calls Try.prog 64 #[.slice a zs.length c] w fun e w' => e = .returned (.int .u32 (S : Int)) ∧ w' = w) := by
    have := bsum_any (own_bz h hz (by omega)) h0
    rwa [eS] at this
  rw [hS]
  obtain ⟨n, hn⟩ : ∃ n, zs.length = n := ⟨_, rfl⟩
  rw [hn] at HC h ⊢
  have HO : Hid (w.ownsRow base 5 1 (.slice a n c) n (u8l zs) ∧ base ≤ w.heap.size ∧ zs.length = n ∧ n ≤ 1900000 ∧ S < 4294967296) := ⟨h, hb, hn, by omega, hS2⟩
  clear h hb hn h0 h1 hS eS b0 b1 hS2
  go_enter Try.func34, Try.ntmps34
  go_wp2_with (go_at_call 64; refine HC.out.mono ?_; rintro e w1 ⟨rfl, hw1⟩; rw [hw1]; clear hw1)
  go_loopw [0, 3, 6] (fun x s i wr => ∃ k : Nat, k ≤ 4 ∧ i = .int .i64 (k : Int) ∧ s = .int .u32 ((S / 256 ^ k : Nat) : Int) ∧ wr.ownsRow base 5 1 x (n + k) (u8l (zs ++ leN S k)) ∧ Gr (.slice a n c) w x wr) (fun x s i wr => 4 - (intOf i).toNat)
  case atStart => exact ⟨0, by omega, rfl, by simp, by simpa [leN] using HO.out.1, Gr.refl _ _⟩
  case round =>
    obtain ⟨k, hk, rfl, rfl, hown, hgr⟩ := hrel
    have HOW : Hid (wr.ownsRow base 5 1 u0 (n + k) (u8l (zs ++ leN S k)) ∧ Gr (.slice a n c) w u0 wr) := ⟨hown, hgr⟩
    have HK : Hid (n + k ≤ 100000000 ∧ base ≤ wr.heap.size) := ⟨by have := HO.out; omega, Nat.le_trans HO.out.2.1 hgr.size⟩
    obtain ⟨q, hq⟩ : ∃ q : Nat, S / 256 ^ k = q := ⟨_, rfl⟩
    have HQ : Hid (S / 256 ^ k = q ∧ S / 256 ^ (k + 1) = q / 256 ∧ leN S (k + 1) = leN S k ++ [((q % 256 : Nat) : Int)]) := ⟨hq, by rw [Nat.pow_succ, ← Nat.div_div_eq_div_mul, hq], by rw [leN_snoc, hq]⟩
    have q0 : (q : Int) < 4294967296 := by
      have := HO.out.2.2.2.2
      have h2 : S / 256 ^ k ≤ S := Nat.div_le_self _ _
      omega
    rw [hq]
    obtain ⟨y, hy⟩ : ∃ y : Int, (q : Int) = y := ⟨_, rfl⟩
    have y0 : 0 ≤ y := by omega
    have HY : Hid ((q : Int) = y) := hy
    rw [hy] at q0 ⊢
    clear hown hgr hq hy
    by_cases hlt : k < 4
    · have hlt' : (k : Int) < 4 := by omega
      go_wp2_with (at_builtin; (refine wpList_append_one rfl (.tmp 8) (.tmp 11) rfl base u0 (n + k) (u8l (zs ++ leN S k)) rfl wr HOW.out.1 _ rfl rfl HK.out.1 HK.out.2 ?_; intro g' c' w' ho' hb'; (have HO2 : Hid (w'.ownsRow base 5 1 (.slice (some ⟨g', 0, none⟩) (n + k + 1) c') (n + k + 1) (u8l (zs ++ leN S k) ++ u8l [y % 256]) ∧ Gr u0 wr (.slice (some ⟨g', 0, none⟩) (n + k + 1) c') w') := ⟨ho', hb'⟩); clear ho' hb'))
      go_roundw
      case rel =>
        refine ⟨k + 1, by omega, by go_num, ?_, ?_, HOW.out.2.trans HO2.out.2⟩
        · rw [HQ.out.2.1]
          have := HY.out
          show Value.int .u32 (y / 256) = _
          congr 1
          omega
        · have h := HO2.out.1
          rw [u8l_app, List.append_assoc] at h
          rw [HQ.out.2.2, show (((q % 256 : Nat) : Int)) = y % 256 by have := HY.out; omega]
          exact h
      case measure => simp [intOf]; omega
    · have : k = 4 := by omega
      subst this
      go_wp2_with fail
      go_ret
      exact ⟨_, rfl, by rw [List.length_append, leN_len, HO.out.2.2.1]; exact HOW.out.1, HOW.out.2⟩
end Go.Proofs.Ytflhgphjkhplmaa.W

/- A frame. -/
namespace Go.Proofs.Ytflhgphjkhplmaa.W
open Go.RowKit
set_option linter.unusedVariables false
set_option linter.unusedSimpArgs false

variable {w w' : World} {v : Value} {zs : List Int}
/-- A frame. -/
def hdI (seq : Nat) (b : List Int) : List Int := vN seq ++ vN b.length ++ b
def frI (seq : Nat) (b : List Int) : List Int := hdI seq b ++ leN (smI (hdI seq b)).toNat 4
def frE (seq : Nat) (n : Nat) : Int := if seq = 0 then 1 else if 65536 < n then 4 else 0
theorem hdI_byt {seq : Nat} {b : List Int} (h : Byt b) : Byt (hdI seq b) := byt_app (byt_app (vN_byt _) (vN_byt _)) h
theorem frI_byt {seq : Nat} {b : List Int} (h : Byt b) : Byt (frI seq b) := byt_app (hdI_byt h) (leN_byt _ _)
theorem hdI_len {seq : Nat} {b : List Int} (hs : seq < 18446744073709551616) (hb : b.length ≤ 65536) : 2 + b.length ≤ (hdI seq b).length ∧ (hdI seq b).length ≤ 20 + b.length := by
  unfold hdI
  obtain ⟨a1, a2⟩ := vN_le10 seq hs
  obtain ⟨b1, b2⟩ := vN_le10 b.length (by omega)
  simp only [List.length_append]
  omega
theorem frI_len {seq : Nat} {b : List Int} (hs : seq < 18446744073709551616) (hb : b.length ≤ 65536) : 6 + b.length ≤ (frI seq b).length ∧ (frI seq b).length ≤ 24 + b.length := by
  have := hdI_len (b := b) hs hb
  unfold frI
  rw [List.length_append, leN_len]
  omega
set_option maxRecDepth 20000 in
set_option maxHeartbeats 4000000 in
theorem frame_any {bs : List Int} (seq : Nat) (hs : seq < 18446744073709551616) (hS : Src w v bs) (hz : Byt bs) (hl : bs.length ≤ 4000000) :
    Calls Try.prog 8 #[.int .u64 (seq : Int), v] w fun e w' => (∃ v', e = .returned (.tuple #[v', .int .i64 (frE seq bs.length)]) ∧ (frE seq bs.length = 0 → w'.ownsRow w.heap.size 5 1 v' (frI seq bs).length (u8l (frI seq bs))) ∧ (frE seq bs.length ≠ 0 → v' = .slice none 0 0)) ∧ Below w.heap.size w w' := by
  obtain ⟨a, c, rfl⟩ := hS.slice
  obtain ⟨n, hn⟩ : ∃ n, bs.length = n := ⟨_, rfl⟩
  obtain ⟨y, hy⟩ : ∃ y : Int, (seq : Int) = y := ⟨_, rfl⟩
  by_cases c1 : seq = 0
  · have : frE seq bs.length = 1 := by unfold frE; rw [if_pos c1]
    rw [this]
    subst c1
    go_enter Try.func8, Try.ntmps8
    go_wp2_with fail
    go_ret2
    exact ⟨⟨_, rfl, fun h => by omega, fun _ => rfl⟩, Below.refl _ _⟩
  · have c1' : ¬ y = 0 := by omega
    by_cases c2 : 65536 < n
    · have : frE seq bs.length = 4 := by unfold frE; rw [if_neg c1, if_pos (by omega)]
      rw [this, hy, hn]
      have c2' : (65536 : Int) < (n : Int) := by omega
      have hl' : (n : Int) ≤ 4000000 := by omega
      clear this hy hn hl hS c2 c1
      go_enter Try.func8, Try.ntmps8
      go_wp2_with fail
      go_ret2
      exact ⟨⟨_, rfl, fun h => by omega, fun _ => rfl⟩, Below.refl _ _⟩
    · have he : frE seq bs.length = 0 := by unfold frE; rw [if_neg c1, if_neg (by omega)]
      rw [he, hy, hn]
      have c2' : ¬ (65536 : Int) < (n : Int) := by omega
      have H0 : Hid (Src w (.slice a n c) bs ∧ Byt bs ∧ bs.length = n ∧ n ≤ 65536 ∧ (seq : Int) = y ∧ seq < 18446744073709551616 ∧ 0 ≤ y ∧ y < 18446744073709551616 ∧ y.toNat = seq) := ⟨by rw [← hn]; exact hS, hz, hn, by omega, hy, hs, by omega, by omega, by omega⟩
      obtain ⟨N2, hN2⟩ : ∃ N2, (vN seq ++ vN n).length = N2 := ⟨_, rfl⟩
      have HP1 : Hid (Calls Try.prog 33 #[.slice none 0 0, .int .u64 y] w fun e w1 => (∃ v1, e = .returned v1 ∧ Hid (w1.ownsRow w.heap.size 5 1 v1 (vN seq).length (u8l (vN seq)) ∧ Below w.heap.size w w1))) := by
        refine (wput_any (.slice none 0 0) [] y w H0.out.2.2.2.2.2.2.1 H0.out.2.2.2.2.2.2.2.1 (.inl ⟨rfl, rfl⟩) (by simp)).mono ?_
        rintro e w1 ⟨⟨v1, rfl, ho1⟩, hb1⟩
        exact ⟨v1, rfl, by have h := ho1; rw [List.nil_append, H0.out.2.2.2.2.2.2.2.2] at h; exact h, hb1⟩
      have HP2 : Hid (∀ w1 v1, Hid (w1.ownsRow w.heap.size 5 1 v1 (vN seq).length (u8l (vN seq)) ∧ Below w.heap.size w w1) → Calls Try.prog 33 #[v1, .int .u64 (n : Int)] w1 fun e w2 => (∃ a2 k2, e = .returned (.slice a2 N2 k2) ∧ Hid (w2.ownsRow w.heap.size 5 1 (.slice a2 N2 k2) N2 (u8l (vN seq ++ vN n)) ∧ Below w.heap.size w w2))) := fun w1 v1 H1 => by
        refine (wput_any v1 (vN seq) (n : Int) w1 (by omega) (by have := H0.out; omega) (own_src H1.out.1) (by have := vN_le10 seq H0.out.2.2.2.2.2.1; omega)).mono ?_
        rintro e w2 ⟨⟨v2, rfl, ho2⟩, hb2⟩
        rw [Int.toNat_natCast, hN2] at ho2
        obtain ⟨a2, k2, rfl⟩ := own_slice ho2
        exact ⟨a2, k2, rfl, own_low ho2 H1.out.2.size, H1.out.2.trans (hb2.mono H1.out.2.size)⟩
      have HP3 : Hid (∀ w2 a2 k2, Hid (w2.ownsRow w.heap.size 5 1 (.slice a2 N2 k2) N2 (u8l (vN seq ++ vN n)) ∧ Below w.heap.size w w2) → Calls Try.prog 35 #[.slice (some ⟨w2.heap.size, 0, none⟩) 2 2] (w2.alloc (.cells #[.slice a2 N2 k2, .slice a n c] 23)) fun e w3 => (∃ v3, e = .returned v3 ∧ Hid (w3.ownsRow w.heap.size 5 1 v3 (hdI seq bs).length (u8l (hdI seq bs)) ∧ Below w.heap.size w w3))) := fun w2 a2 k2 H2 => by
        have hbA : Below w2.heap.size w2 (w2.alloc (.cells #[.slice a2 N2 k2, .slice a n c] 23)) := bel1 w2 _
        have hnew := Go.heap_alloc_new w2 (.cells #[.slice a2 N2 k2, .slice a n c] 23 (0, 0))
        refine (concat_any w2.heap.size (.slice a2 N2 k2) (.slice a n c) (vN seq ++ vN n) bs _ (by simp) (by rw [cell_of_row _ _ _ _ _ _ hnew]; rfl) (by rw [cell_of_row _ _ _ _ _ _ hnew]; rfl) ((own_src (by rw [hN2]; exact H2.out.1)).later hbA) (H0.out.1.later (H2.out.2.trans (hbA.mono H2.out.2.size))) (by have := vN_le10 seq H0.out.2.2.2.2.2.1; simp only [List.length_append]; omega) (by have h1 := vN_le10 seq H0.out.2.2.2.2.2.1; have h2 := vN_le10 n (by have := H0.out; omega); have := H0.out; simp only [List.length_append]; omega)).mono ?_
        rintro e w3 ⟨⟨v3, rfl, ho3⟩, hb3⟩
        refine ⟨v3, rfl, ?_, (H2.out.2.trans (hbA.mono H2.out.2.size)).trans (hb3.mono (Nat.le_trans H2.out.2.size hbA.size))⟩
        rw [show hdI seq bs = vN seq ++ vN n ++ bs by unfold hdI; rw [H0.out.2.2.1]]
        exact own_low ho3 (Nat.le_trans H2.out.2.size hbA.size)
      have HP4 : Hid (∀ w3 v3, Hid (w3.ownsRow w.heap.size 5 1 v3 (hdI seq bs).length (u8l (hdI seq bs)) ∧ Below w.heap.size w w3) → Calls Try.prog 34 #[v3] w3 fun e w4 => (∃ v4, e = .returned v4 ∧ Hid (w4.ownsRow w.heap.size 5 1 v4 (frI seq bs).length (u8l (frI seq bs)) ∧ Below w.heap.size w w4))) := fun w3 v3 H3 => by
        have hl := hdI_len (b := bs) H0.out.2.2.2.2.2.1 (by have := H0.out; omega)
        refine (putSum_any w.heap.size H3.out.1 H3.out.2.size (hdI_byt H0.out.2.1) (by omega) (by have := H0.out; omega)).mono ?_
        rintro e w4 ⟨v4, rfl, ho4, hg4⟩
        exact ⟨v4, rfl, ho4, H3.out.2.trans (hg4.below H3.out.2.size (ownBlock_ge H3.out.1))⟩
      have hl' : (n : Int) ≤ 65536 := by omega
      clear hN2 hS hz hn hy he hl hs c1 c2
      go_enter Try.func8, Try.ntmps8
      go_wp2_with (first
        | (go_at_call 33; refine HP1.out.mono ?_; rintro e w1 ⟨v1, rfl, H1⟩; clear HP1)
        | (go_at_call 33; refine (HP2.out w1 v1 H1).mono ?_; rintro e w2 ⟨a2, k2, rfl, H2⟩; clear HP2)
        | (go_at_call 35; go_loud (refine (HP3.out w2 a2 k2 H2).mono ?_); rintro e w3 ⟨v3, rfl, H3⟩)
        | (go_at_call 34; refine (HP4.out w3 v3 H3).mono ?_; rintro e w4 ⟨v4, rfl, H4⟩))
      go_ret2
      exact ⟨⟨_, rfl, fun _ => H4.out.1, fun h => absurd rfl h⟩, H4.out.2⟩
end Go.Proofs.Ytflhgphjkhplmaa.W

/- A frame at a place, plainly. -/
namespace Go.Proofs.Ytflhgphjkhplmaa.W
open Go.RowKit
set_option linter.unusedVariables false
set_option linter.unusedSimpArgs false

theorem scan_vN (rest : List Int) : ∀ n : Nat, scan (vN n ++ rest) = some (vN n).length := by
  intro n
  induction n using Nat.strongRecOn with
  | ind n ih =>
    by_cases h : n < 128
    · rw [vN_lo h]
      simp only [List.cons_append, List.nil_append, scan]
      rw [if_pos (by omega)]
      rfl
    · rw [vN_hi h]
      simp only [List.cons_append, scan]
      rw [if_neg (by omega), ih (n / 128) (by omega)]
      rfl
theorem jv_vN : ∀ n : Nat, (n : Int) < 18446744073709551616 → jv (vN n) = (n : Int) := by
  intro n
  induction n using Nat.strongRecOn with
  | ind n ih =>
    intro hn
    by_cases h : n < 128
    · rw [vN_lo h]
      simp only [jv]
      omega
    · rw [vN_hi h]
      simp only [jv]
      rw [ih (n / 128) (by omega) (by omega)]
      omega
theorem vN_last : ∀ (k n : Nat), (vN n).length = k + 1 → (vN n).getD k 0 = ((n / 128 ^ k : Nat) : Int)
  | 0, n, h => by
    by_cases hn : n < 128
    · rw [vN_lo hn]; simp
    · rw [vN_hi hn] at h
      have h2 := (vN_len (n / 128))
      obtain ⟨k, e, _⟩ := h2
      simp at h
      rw [h] at e
      simp at e
  | k + 1, n, h => by
    by_cases hn : n < 128
    · rw [vN_lo hn] at h; simp at h
    · rw [vN_hi hn] at h ⊢
      have e := vN_last k (n / 128) (by simpa using h)
      rw [List.getD_cons_succ, e, Nat.div_div_eq_div_mul, Nat.pow_succ, Nat.mul_comm]
theorem drop_pre (pre l : List Int) : (pre ++ l).drop pre.length = l := by simp
theorem get_vN (pre rest : List Int) (n : Nat) (hn : (n : Int) < 18446744073709551616) : getI (pre ++ (vN n ++ rest)) pre.length = ((n : Int), ((pre.length + (vN n).length : Nat) : Int), 0) := by
  unfold getI
  rw [drop_pre, scan_vN]
  simp only
  have hl := vN_le10 n (by omega)
  rw [if_neg, List.take_left, jv_vN n hn]
  rintro (h | ⟨h, h2⟩)
  · omega
  · have e := vN_last 9 n h
    have e2 : (pre ++ (vN n ++ rest)).getD (pre.length + 9) 0 = (vN n).getD 9 0 := by
      simp only [List.getD_eq_getElem?_getD]
      rw [List.getElem?_append_right (by omega), show pre.length + 9 - pre.length = 9 by omega, List.getElem?_append_left (by omega)]
    rw [e2, e] at h2
    have : (128 : Nat) ^ 9 = 9223372036854775808 := by decide
    rw [this] at h2
    omega
theorem get_ok (zs : List Int) (at' : Nat) : (∃ e, getI zs at' = (0, 0, e) ∧ (e = 8 ∨ e = 30)) ∨ ∃ (n : Int) (p : Nat), getI zs at' = (n, (p : Int), 0) ∧ 0 ≤ n ∧ n < 18446744073709551616 ∧ at' < p ∧ p ≤ zs.length := by
  unfold getI
  cases hs : scan (zs.drop at') with
  | none => exact .inl ⟨8, rfl, .inl rfl⟩
  | some k =>
    simp only
    have hk := scan_le _ _ hs
    rw [List.length_drop] at hk
    split
    · exact .inl ⟨30, rfl, .inr rfl⟩
    · obtain ⟨h1, h2⟩ := jv_bd ((zs.drop at').take k)
      exact .inr ⟨_, at' + k, rfl, h1, h2, by omega, by omega⟩

/-- The frame at a place: its number, its record, the place behind it. -/
def fatI (zs : List Int) (at' : Nat) : Option (Nat × List Int × Nat) :=
  let g := getI zs at'
  if g.2.2 ≠ 0 then none else
  let s := getI zs g.2.1.toNat
  if s.2.2 ≠ 0 then none else
  if (zs.length : Int) - s.2.1 < s.1 then none else
  let r := (zs.drop s.2.1.toNat).take s.1.toNat
  if frE g.1.toNat r.length ≠ 0 then none else
  if (zs.drop at').take (frI g.1.toNat r).length = frI g.1.toNat r then some (g.1.toNat, r, at' + (frI g.1.toNat r).length) else none
theorem frE_ok {n m : Nat} (h : frE n m = 0) : n ≠ 0 ∧ m ≤ 65536 := by
  unfold frE at h
  split at h
  · cases h
  · split at h
    · cases h
    · omega
theorem fatI_some {zs : List Int} {at' n e : Nat} {r : List Int} (h : fatI zs at' = some (n, r, e)) : 1 ≤ n ∧ n < 18446744073709551616 ∧ r.length ≤ 65536 ∧ e = at' + (frI n r).length ∧ (zs.drop at').take (frI n r).length = frI n r ∧ e ≤ zs.length ∧ at' < e := by
  unfold fatI at h
  rcases get_ok zs at' with ⟨x, h1, h2⟩ | ⟨x, p, h1, h2, h3, h4, h5⟩
  · rw [h1] at h
    rw [if_pos (by simp; omega)] at h
    cases h
  · rw [h1] at h
    simp only [Int.toNat_natCast] at h
    rw [if_neg (by omega)] at h
    split at h
    · cases h
    · split at h
      · cases h
      · split at h
        · cases h
        · rename_i k1 k2 k3
          obtain ⟨f1, f2⟩ := frE_ok (Classical.not_not.1 k3)
          split at h
          · rename_i k4
            simp only [Option.some.injEq, Prod.mk.injEq] at h
            obtain ⟨rfl, rfl, rfl⟩ := h
            have hl := frI_len (seq := x.toNat) (by omega) f2
            have k5 := congrArg List.length k4
            simp only [List.length_take, List.length_drop] at k5
            generalize frI x.toNat _ = fr at *
            refine ⟨by omega, by omega, f2, rfl, k4, by omega, by omega⟩
          · cases h
/-- A frame that stands there is read. -/
theorem fatI_frame (pre rest b : List Int) (n : Nat) (h0 : 1 ≤ n) (h1 : n < 18446744073709551616) (h2 : b.length ≤ 65536) : fatI (pre ++ (frI n b ++ rest)) pre.length = some (n, b, pre.length + (frI n b).length) := by
  have e1 : pre ++ (frI n b ++ rest) = pre ++ (vN n ++ (vN b.length ++ (b ++ (leN (smI (hdI n b)).toNat 4 ++ rest)))) := by
    unfold frI
    conv => lhs; arg 2; arg 1; arg 1; unfold hdI
    simp only [List.append_assoc]
  have g1 := get_vN pre (vN b.length ++ (b ++ (leN (smI (hdI n b)).toNat 4 ++ rest))) n (by omega)
  rw [← e1] at g1
  have e2 : pre ++ (frI n b ++ rest) = (pre ++ vN n) ++ (vN b.length ++ (b ++ (leN (smI (hdI n b)).toNat 4 ++ rest))) := by rw [e1]; simp only [List.append_assoc]
  have g2 := get_vN (pre ++ vN n) (b ++ (leN (smI (hdI n b)).toNat 4 ++ rest)) b.length (by omega)
  rw [← e2, List.length_append] at g2
  have e3 : pre ++ (frI n b ++ rest) = (pre ++ vN n ++ vN b.length) ++ (b ++ (leN (smI (hdI n b)).toNat 4 ++ rest)) := by rw [e1]; simp only [List.append_assoc]
  have e4 : ((pre ++ (frI n b ++ rest)).drop (pre.length + (vN n).length + (vN b.length).length)).take b.length = b := by
    rw [e3, show pre.length + (vN n).length + (vN b.length).length = (pre ++ vN n ++ vN b.length).length by simp only [List.length_append], drop_pre, List.take_left]
  unfold fatI
  rw [g1]
  simp only [Int.toNat_natCast]
  rw [g2]
  simp only [Int.toNat_natCast]
  rw [e4, if_neg (by simp), if_neg (by simp), if_neg (by rw [e3]; simp only [List.length_append]; omega), if_neg (by unfold frE; rw [if_neg (by omega), if_neg (by omega)]; simp), if_pos]
  rw [drop_pre, List.take_left]
end Go.Proofs.Ytflhgphjkhplmaa.W

/- The frame at a place. -/
namespace Go.Proofs.Ytflhgphjkhplmaa.W
open Go.RowKit
set_option linter.unusedVariables false
set_option linter.unusedSimpArgs false

variable {w w' : World} {v : Value} {zs : List Int}
theorem getI_nil : getI [] 0 = (0, 0, 8) := rfl
set_option maxRecDepth 20000 in
theorem get_bz (h : Bz w v zs) (at' : Nat) (ha : at' ≤ zs.length) : Calls Try.prog 87 #[v, .int .i64 (at' : Int)] w fun e w' => e = .returned (gv (getI zs at')) ∧ w' = w := by
  by_cases h0 : 0 < zs.length
  · obtain ⟨b, off, c, rfl, hc, hR⟩ := h.row h0
    exact get_any b off c at' zs w hR hc ha
  · have hz : zs = [] := List.eq_nil_of_length_eq_zero (by omega)
    subst hz
    obtain rfl : at' = 0 := by simpa using ha
    obtain ⟨a, c, rfl, -⟩ := h.ex
    have HE : Hid (∀ W, Calls Try.prog 93 #[.slice a 0 c, .int .i64 0] W fun e w' => e = .returned (.tuple #[.int .i64 0, .bool false]) ∧ w' = W) := fun W => by
      go_enter Try.func93, Try.ntmps93
      go_wp2
      go_step3
      go_wp2
      go_step3
      go_wp2
      go_loopw [1] (fun x wr => x = .int .i64 0 ∧ wr = W) (fun x wr => 0)
      case atStart => exact ⟨rfl, rfl⟩
      case round =>
        obtain ⟨rfl, rfl⟩ := hrel
        go_wp2
        try rw [Exit.noGoto_ret]
        go_ret2
        exact ⟨rfl, rfl⟩
    clear h ha h0
    go_enter Try.func87, Try.ntmps87
    go_wp2_with (go_at_call 93; refine (HE.out _).mono ?_; rintro e w1 ⟨rfl, hw1⟩; rw [hw1]; clear hw1)
    go_ret3
    exact ⟨rfl, rfl⟩
theorem bel_set {w0 w : World} (h : Below w0.heap.size w0 w) {g : Nat} (hg : w0.heap.size ≤ g) (i : Nat) (u : Value) : Below w0.heap.size w0 (w.setCell ⟨g, i, none⟩ u) := h.setCell (p := ⟨g, i, none⟩) hg u
theorem results_cell3 {P : Program} {fn : Func} {p q r : Tmp} {ty : TypeId} (h : fn.results = #[.cell p ty, .tmp q, .tmp r]) (tmps : Array Value) (w : World) (g : Nat) (cs : Array Value) (v u : Value)
    (hp : tmps.getD p undef = .pointer (some ⟨g, 0, none⟩)) (hq : tmps.getD q undef = v) (hr : tmps.getD r undef = u) (hl : (loadVar ty ⟨g, 0, none⟩).run P w = .ok (.agg cs) w) :
    (results fn tmps).run P w = .ok (.tuple #[.agg cs, v, u]) w := by
  have hp' : tmps[p]?.getD undef = .pointer (some ⟨g, 0, none⟩) := by simpa using hp
  have hq' : tmps[q]?.getD undef = v := by simpa using hq
  have hr' : tmps[r]?.getD undef = u := by simpa using hr
  simp [results, h, hp', hq', hr', asAddr, hl]
theorem load81 {W : World} {g : Nat} {cs : Array Value} (h : W.heap[g]? = some (.cells cs 81 (0, 0))) (hs : cs.size = 2) : (loadVar 81 ⟨g, 0, none⟩).run Try.prog W = .ok (.agg cs) W :=
  run_loadVar_row W g 81 81 cs (0, 0) _ h Try.underlying81 rfl (by rw [hs]; kernel_rfl)
theorem row2 {W : World} {g : Nat} {x y : Value} (a b : Value) (h : W.heap[g]? = some (.cells #[x, y] 81 (0, 0))) : ((W.setCell ⟨g, 0, none⟩ a).setCell ⟨g, 1, none⟩ b).heap[g]? = some (.cells #[a, b] 81 (0, 0)) :=
  row_set b (row_set a h)
/-- What frameAt tells. -/
def fatV (o : Option (Nat × List Int × Nat)) (rv : Value) : Value := match o with
  | none => .tuple #[.agg #[.int .u64 0, .slice none 0 0], .int .i64 0, .bool false]
  | some (n, r, e) => .tuple #[.agg #[.int .u64 (n : Int), rv], .int .i64 (e : Int), .bool true]
theorem fat_no {o : Option (Nat × List Int × Nat)} {w w' : World} (h : o = none) (hb : Below w.heap.size w w') : ∃ rv, Ending.returned (.tuple #[.agg #[.int .u64 0, .slice none 0 0], .int .i64 0, .bool false]) = .returned (fatV o rv) ∧ (∀ n r e, o = some (n, r, e) → w'.ownsRow w.heap.size 5 1 rv r.length (u8l r)) ∧ Below w.heap.size w w' := by
  subst h
  exact ⟨.slice none 0 0, rfl, fun _ _ _ h => (nomatch h), hb⟩
set_option maxRecDepth 20000 in
set_option maxHeartbeats 4000000 in
theorem frameAt_any (h : Bz w v zs) (at' : Nat) (ha : at' ≤ zs.length) : Calls Try.prog 67 #[v, .int .i64 (at' : Int)] w fun e w' => ∃ rv, e = .returned (fatV (fatI zs at') rv) ∧ (∀ n r e, fatI zs at' = some (n, r, e) → w'.ownsRow w.heap.size 5 1 rv r.length (u8l r)) ∧ Below w.heap.size w w' := by
  obtain ⟨W, hW⟩ : ∃ W, w.alloc (.cells #[.int .u64 0, .slice none 0 0] 81) = W := ⟨_, rfl⟩
  have hB : Below w.heap.size w W := by rw [← hW]; exact bel1 w _
  have hG : W.heap[w.heap.size]? = some (.cells #[.int .u64 0, .slice none 0 0] 81 (0, 0)) := by rw [← hW]; exact Go.heap_alloc_new _ _
  have hZ := h.newer hB
  obtain ⟨a, c, hv, hc, -⟩ := h.ex
  have hs := h.small
  subst hv
  have HG1 : Hid (Calls Try.prog 87 #[.slice a zs.length c, .int .i64 (at' : Int)] W fun e w' => e = .returned (gv (getI zs at')) ∧ w' = W) := get_bz hZ at' ha
  obtain ⟨N, hN⟩ : ∃ N, zs.length = N := ⟨_, rfl⟩
  rcases get_ok zs at' with ⟨x, h1, h2⟩ | ⟨x, p, h1, h2, h3, h4, h5⟩
  · have HN : Hid (fatI zs at' = none) := by
      show _ = _
      unfold fatI
      rw [h1]
      exact if_pos (by simp; omega)
    rw [h1] at HG1
    unfold gv at HG1
    have hx : ¬ x = 0 := by omega
    have HB : Hid (Below w.heap.size w W ∧ W.heap[w.heap.size]? = some (.cells #[.int .u64 0, .slice none 0 0] 81 (0, 0))) := ⟨hB, hG⟩
    have c0 : W.cell? ⟨w.heap.size, 0, none⟩ = some (.int .u64 0) := by rw [cell_of_row _ _ _ _ _ _ hG]; rfl
    have c1 : W.cell? ⟨w.heap.size, 1, none⟩ = some (.slice none 0 0) := by rw [cell_of_row _ _ _ _ _ _ hG]; rfl
    have f0 := frozen_of_row _ _ 0 _ _ hG
    have f1 := frozen_of_row _ _ 1 _ _ hG
    rw [hN] at HG1 ⊢
    clear h hB hG hZ hs hc ha h1 h2 hN
    go_enter Try.func67, Try.ntmps67
    go_wp2_with (go_at_call 87; refine HG1.out.mono ?_; rintro e w1 ⟨rfl, hw1⟩; rw [hw1]; clear hw1)
    refine bodyPost_ret (v := .tuple #[.agg #[.int .u64 0, .slice none 0 0], .int .i64 0, .bool false]) (results_cell3 Try.results67 _ _ w.heap.size #[.int .u64 0, .slice none 0 0] _ _ rfl rfl rfl (load81 (row2 _ _ HB.out.2) rfl)) rfl ?_
    exact fat_no HN.out (bel_set (bel_set HB.out.1 (Nat.le_refl _) _ _) (Nat.le_refl _) _ _)
  · have hp : (p : Int) ≤ (zs.length : Int) := by omega
    have HG2 : Hid (Calls Try.prog 87 #[.slice a zs.length c, .int .i64 (p : Int)] W fun e w' => e = .returned (gv (getI zs p)) ∧ w' = W) := get_bz hZ p h5
    rw [h1] at HG1
    unfold gv at HG1
    have c0 : W.cell? ⟨w.heap.size, 0, none⟩ = some (.int .u64 0) := by rw [cell_of_row _ _ _ _ _ _ hG]; rfl
    have c1 : W.cell? ⟨w.heap.size, 1, none⟩ = some (.slice none 0 0) := by rw [cell_of_row _ _ _ _ _ _ hG]; rfl
    have f0 := frozen_of_row _ _ 0 _ _ hG
    have f1 := frozen_of_row _ _ 1 _ _ hG
    have HB : Hid (Below w.heap.size w W ∧ W.heap[w.heap.size]? = some (.cells #[.int .u64 0, .slice none 0 0] 81 (0, 0))) := ⟨hB, hG⟩
    rcases get_ok zs p with ⟨x2, k1, k2⟩ | ⟨s, q, k1, k2, k3, k4, k5⟩
    · have HN : Hid (fatI zs at' = none) := by
        show _ = _
        unfold fatI
        rw [h1]
        simp only [Int.toNat_natCast]
        rw [k1]
        rw [if_neg (by simp), if_pos (by simp; omega)]
      have hx : ¬ x2 = 0 := by omega
      rw [k1] at HG2
      unfold gv at HG2
      rw [hN] at HG1 HG2 ⊢
      clear h hB hG hZ hs hc ha h1 h2 hN k1 k2 h3 h4 h5 hp
      go_enter Try.func67, Try.ntmps67
      go_wp2_with (first | (go_at_call 87; refine HG1.out.mono ?_; rintro e w1 ⟨rfl, hw1⟩; rw [hw1]; clear hw1 HG1) | (go_at_call 87; refine HG2.out.mono ?_; rintro e w1 ⟨rfl, hw1⟩; rw [hw1]; clear hw1 HG2))
      refine bodyPost_ret (v := .tuple #[.agg #[.int .u64 0, .slice none 0 0], .int .i64 0, .bool false]) (results_cell3 Try.results67 _ _ w.heap.size #[.int .u64 0, .slice none 0 0] _ _ rfl rfl rfl (load81 (row2 _ _ HB.out.2) rfl)) rfl ?_
      exact fat_no HN.out (bel_set (bel_set HB.out.1 (Nat.le_refl _) _ _) (Nat.le_refl _) _ _)
    · rw [k1] at HG2
      unfold gv at HG2
      by_cases hlt : (zs.length : Int) - (q : Int) < s
      · have HN : Hid (fatI zs at' = none) := by
          show _ = _
          unfold fatI
          rw [h1]
          simp only [Int.toNat_natCast]
          rw [k1]
          rw [if_neg (by simp), if_neg (by simp), if_pos hlt]
        rw [hN] at HG1 HG2 hlt hs k5 ⊢
        have hq0 : (q : Int) ≤ (N : Int) := by omega
        have hN2 : (N : Int) ≤ 2000000 := by omega
        clear h hB hG hZ hs hc ha h1 h2 hN k1 h3 h4 h5 k4 k5 hp
        go_enter Try.func67, Try.ntmps67
        go_wp2_with (first | (go_at_call 87; refine HG1.out.mono ?_; rintro e w1 ⟨rfl, hw1⟩; rw [hw1]; clear hw1 HG1) | (go_at_call 87; refine HG2.out.mono ?_; rintro e w1 ⟨rfl, hw1⟩; rw [hw1]; clear hw1 HG2))
        refine bodyPost_ret (v := .tuple #[.agg #[.int .u64 0, .slice none 0 0], .int .i64 0, .bool false]) (results_cell3 Try.results67 _ _ w.heap.size #[.int .u64 0, .slice none 0 0] _ _ rfl rfl rfl (load81 (row2 _ _ HB.out.2) rfl)) rfl ?_
        exact fat_no HN.out (bel_set (bel_set HB.out.1 (Nat.le_refl _) _ _) (Nat.le_refl _) _ _)
      · obtain ⟨X, rfl⟩ : ∃ X : Nat, x = (X : Int) := ⟨x.toNat, by omega⟩
        obtain ⟨S, rfl⟩ : ∃ S : Nat, s = (S : Int) := ⟨s.toNat, by omega⟩
        obtain ⟨rc, hrc⟩ : ∃ rc, (zs.drop q).take S = rc := ⟨_, rfl⟩
        have hrl : rc.length = S := by rw [← hrc]; simp; omega
        have hcut := hZ.cut q (q + S) (by omega) (by omega)
        rw [Nat.add_sub_cancel_left, hrc] at hcut
        obtain ⟨a2, ha2⟩ : ∃ a2, (if c = q then a else a.map (fun x => x.add q)) = a2 := ⟨_, rfl⟩
        rw [ha2] at hcut
        have hcut2 := hZ.cut at' zs.length ha (Nat.le_refl _)
        have hrest : (zs.drop at').take (zs.length - at') = zs.drop at' := List.take_of_length_le (by simp)
        rw [hrest] at hcut2
        obtain ⟨a3, ha3⟩ : ∃ a3, (if c = at' then a else a.map (fun x => x.add at')) = a3 := ⟨_, rfl⟩
        rw [ha3] at hcut2
        have HF : Hid (Calls Try.prog 8 #[.int .u64 (X : Int), .slice a2 S (c - q)] W fun e w' => (∃ v', e = .returned (.tuple #[v', .int .i64 (frE X S)]) ∧ Hid (frE X S = 0 → w'.ownsRow W.heap.size 5 1 v' (frI X rc).length (u8l (frI X rc))) ∧ (frE X S ≠ 0 → v' = .slice none 0 0)) ∧ Hid (Below W.heap.size W w')) := by
          have := frame_any X (by omega) hcut.src hcut.byt (by omega)
          rw [hrl] at this
          exact this
        have hfe : fatI zs at' = if frE X S ≠ 0 then none else if (zs.drop at').take (frI X rc).length = frI X rc then some (X, rc, at' + (frI X rc).length) else none := by
          unfold fatI
          rw [h1]
          simp only [Int.toNat_natCast]
          rw [k1]
          simp only [Int.toNat_natCast]
          rw [if_neg (by simp), if_neg (by simp), if_neg hlt, hrc, hrl]
        have hqc : (q : Int) ≤ (c : Int) := by omega
        have hqs : (q : Int) + (S : Int) ≤ (c : Int) := by omega
        have hac : (at' : Int) ≤ (N : Int) := by omega
        have hNc : (N : Int) ≤ (c : Int) := by omega
        have hq0 : (q : Int) ≤ (N : Int) := by omega
        have hN2 : (N : Int) ≤ 2000000 := by omega
        have hS2 : (S : Int) ≤ 2000000 := by omega
        have hSS : (S : Int) ≤ (N : Int) - (q : Int) := by omega
        have HK : Hid (Bz W (.slice a2 S (c - q)) rc ∧ Bz W (.slice a3 (zs.length - at') (c - at')) (zs.drop at') ∧ zs.length = N ∧ rc.length = S ∧ X < 18446744073709551616 ∧ S ≤ 2000000) := ⟨hcut, hcut2, hN, hrl, by omega, by omega⟩
        rw [hN] at HG1 HG2 hcut2 ⊢
        by_cases hE : frE X S ≠ 0
        · have HN : Hid (fatI zs at' = none) := by show _ = _; rw [hfe, if_pos hE]
          have HE : Hid (frE X S ≠ 0) := hE
          obtain ⟨y, hy⟩ : ∃ y, frE X S = y := ⟨_, rfl⟩
          rw [hy] at HE HF
          have hy0 : ¬ y = 0 := HE.out
          clear h hB hG hZ hs hc ha h1 h2 hN k1 h3 h4 h5 k4 k5 hp k2 k3 hrc hrl hcut hcut2 hrest hfe hE hy hlt
          go_enter Try.func67, Try.ntmps67
          go_wp2_with (first | (go_at_call 87; refine HG1.out.mono ?_; rintro e w1 ⟨rfl, hw1⟩; rw [hw1]; clear hw1 HG1) | (go_at_call 87; refine HG2.out.mono ?_; rintro e w1 ⟨rfl, hw1⟩; rw [hw1]; clear hw1 HG2) | (go_at_call 8; refine HF.out.mono ?_; rintro e w2 ⟨⟨v2, rfl, H2, hv2⟩, HB2⟩; (have hv3 := hv2 HE.out); subst hv3; clear hv2; (have R2 := (HB2.out.block _ (Array.getElem?_eq_some_iff.1 HB.out.2).1).trans HB.out.2); (have c0 : w2.cell? ⟨w.heap.size, 0, none⟩ = some (.int .u64 0) := by rw [cell_of_row _ _ _ _ _ _ R2]; rfl); (have c1 : w2.cell? ⟨w.heap.size, 1, none⟩ = some (.slice none 0 0) := by rw [cell_of_row _ _ _ _ _ _ R2]; rfl); (have f0 := frozen_of_row _ _ 0 _ _ R2); (have f1 := frozen_of_row _ _ 1 _ _ R2); (have HR2 : Hid _ := R2); clear R2))
          refine bodyPost_ret (v := .tuple #[.agg #[.int .u64 0, .slice none 0 0], .int .i64 0, .bool false]) (results_cell3 Try.results67 _ _ w.heap.size #[.int .u64 0, .slice none 0 0] _ _ rfl rfl rfl (load81 (row2 _ _ HR2.out) rfl)) rfl ?_
          exact fat_no HN.out (bel_set (bel_set (HB.out.1.trans (HB2.out.mono HB.out.1.size)) (Nat.le_refl _) _ _) (Nat.le_refl _) _ _)
        · have hE0 : frE X S = 0 := Classical.not_not.1 hE
          obtain ⟨fr, hfr⟩ : ∃ fr, frI X rc = fr := ⟨_, rfl⟩
          rw [hfr] at HF hfe
          rw [hE0] at HF
          rw [hE0, if_neg (by simp)] at hfe
          have hfb : Byt fr := by rw [← hfr]; exact frI_byt hcut.byt
          obtain ⟨x1, x2⟩ := frE_ok hE0
          have hfl := frI_len (seq := X) (b := rc) (by omega) (by omega)
          rw [hfr] at hfl
          obtain ⟨L, hL⟩ : ∃ L, fr.length = L := ⟨_, rfl⟩
          rw [hL] at HF hfe hfl
          have HF2 : Hid (Calls Try.prog 8 #[.int .u64 (X : Int), .slice a2 S (c - q)] W fun e w' => ∃ a4 c4, e = .returned (.tuple #[.slice a4 L c4, .int .i64 0]) ∧ Hid (w'.ownsRow W.heap.size 5 1 (.slice a4 L c4) L (u8l fr) ∧ Below W.heap.size W w')) := by
            refine HF.out.mono ?_
            rintro e w2 ⟨⟨v2, rfl, h2, -⟩, hb2⟩
            have h3 := h2.out rfl
            obtain ⟨a4, c4, rfl⟩ := own_slice h3
            exact ⟨a4, c4, rfl, h3, hb2.out⟩
          have HPX : Hid (∀ w2 a4 c4, Hid (w2.ownsRow W.heap.size 5 1 (.slice a4 L c4) L (u8l fr) ∧ Below W.heap.size W w2) → Calls Try.prog 88 #[.slice a3 (N - at') (c - at'), .slice a4 L c4] w2 fun e w' => e = .returned (.bool (decide ((zs.drop at').take L = fr))) ∧ w' = w2) := fun w2 a4 c4 H => by
            have := prefix_any (hcut2.newer H.out.2) (own_bz (v := .slice a4 L c4) (zs := fr) (by rw [hL]; exact H.out.1) hfb (by omega))
            rwa [hL] at this
          have HCL : Hid (∀ w2, Below W.heap.size W w2 → Calls Try.prog 45 #[.slice a2 S (c - q)] w2 fun e w3 => ∃ a5 c5, e = .returned (.slice a5 S c5) ∧ Hid (w3.ownsRow w2.heap.size 5 1 (.slice a5 S c5) S (u8l rc) ∧ Below w2.heap.size w2 w3)) := fun w2 hb => by
            refine (bclone_any _ rc w2 (hcut.newer hb).src (by omega)).mono ?_
            rintro e w3 ⟨⟨v', rfl, ho⟩, hb3⟩
            rw [hrl] at ho
            obtain ⟨a5, c5, rfl⟩ := own_slice ho
            exact ⟨a5, c5, rfl, ho, hb3⟩
          have hLi : (L : Int) ≤ 65560 := by omega
          have hai : (at' : Int) + (L : Int) ≤ 3000000 := by omega
          by_cases hpx : (zs.drop at').take L = fr
          · have HN : Hid (fatI zs at' = some (X, rc, at' + L) ∧ rc.length = S) := ⟨by rw [hfe, if_pos hpx], hrl⟩
            have hdp : decide ((zs.drop at').take L = fr) = true := decide_eq_true hpx
            rw [hdp] at HPX
            clear h hB hG hZ hs hc ha h1 h2 hN k1 h3 h4 h5 k4 k5 hp k2 k3 hrc hrl hcut hcut2 hrest hfe hE hE0 hlt HF hfr hfb x1 x2 hfl hL hpx hdp
            go_enter Try.func67, Try.ntmps67
            go_wp2_with (first | (go_at_call 87; refine HG1.out.mono ?_; rintro e w1 ⟨rfl, hw1⟩; rw [hw1]; clear hw1 HG1) | (go_at_call 87; refine HG2.out.mono ?_; rintro e w1 ⟨rfl, hw1⟩; rw [hw1]; clear hw1 HG2) | (go_at_call 8; refine HF2.out.mono ?_; rintro e w2 ⟨a4, c4, rfl, H2⟩; clear c0 c1 f0 f1) | (go_at_call 88; refine (HPX.out w2 a4 c4 H2).mono ?_; rintro e w5 ⟨rfl, hw5⟩; rw [hw5]; clear hw5) | (go_at_call 45; refine (HCL.out w2 H2.out.2).mono ?_; rintro e w3 ⟨a5, c5, rfl, H3⟩; (have R2 := (H3.out.2.block _ (Nat.lt_of_lt_of_le (Array.getElem?_eq_some_iff.1 HB.out.2).1 H2.out.2.size)).trans ((H2.out.2.block _ (Array.getElem?_eq_some_iff.1 HB.out.2).1).trans HB.out.2)); (have c0 : w3.cell? ⟨w.heap.size, 0, none⟩ = some (.int .u64 0) := by rw [cell_of_row _ _ _ _ _ _ R2]; rfl); (have c1 : w3.cell? ⟨w.heap.size, 1, none⟩ = some (.slice none 0 0) := by rw [cell_of_row _ _ _ _ _ _ R2]; rfl); (have f0 := frozen_of_row _ _ 0 _ _ R2); (have f1 := frozen_of_row _ _ 1 _ _ R2); (have HR2 : Hid _ := R2); clear R2))
            have hbb : Below w.heap.size w w3 := (HB.out.1.trans (H2.out.2.mono HB.out.1.size)).trans (H3.out.2.mono (Nat.le_trans HB.out.1.size H2.out.2.size))
            have hgs : w.heap.size < w2.heap.size := Nat.lt_of_lt_of_le (Array.getElem?_eq_some_iff.1 HB.out.2).1 H2.out.2.size
            refine bodyPost_ret (v := .tuple #[.agg #[.int .u64 (X : Int), .slice a5 S c5], .int .i64 ((at' : Int) + (L : Int)), .bool true]) (results_cell3 Try.results67 _ _ w.heap.size #[.int .u64 (X : Int), .slice a5 S c5] _ _ rfl rfl rfl (load81 (row2 _ _ HR2.out) rfl)) rfl ?_
            rw [HN.out.1]
            refine ⟨.slice a5 S c5, by show _ = Ending.returned (.tuple #[_, .int .i64 ((at' + L : Nat) : Int), _]); rw [show ((at' + L : Nat) : Int) = (at' : Int) + (L : Int) by omega], fun n r e he => ?_, bel_set (bel_set hbb (Nat.le_refl _) _ _) (Nat.le_refl _) _ _⟩
            simp only [Option.some.injEq, Prod.mk.injEq] at he
            obtain ⟨-, rfl, -⟩ := he
            rw [HN.out.2]
            have ho := own_low H3.out.1 (base' := w.heap.size) (by omega)
            refine own_at ho fun q hq => ?_
            have hq2 := (H3.out.1.lt q hq).1
            rw [Below.heap_setCell _ _ _ _ (by show q ≠ w.heap.size; omega), Below.heap_setCell _ _ _ _ (by show q ≠ w.heap.size; omega)]
          · have HN : Hid (fatI zs at' = none) := by show _ = _; rw [hfe, if_neg hpx]
            have hdp : decide ((zs.drop at').take L = fr) = false := decide_eq_false hpx
            rw [hdp] at HPX
            clear h hB hG hZ hs hc ha h1 h2 hN k1 h3 h4 h5 k4 k5 hp k2 k3 hrc hrl hcut hcut2 hrest hfe hE hE0 hlt HF HCL hfr hfb x1 x2 hfl hL hpx hdp
            go_enter Try.func67, Try.ntmps67
            go_wp2_with (first | (go_at_call 87; refine HG1.out.mono ?_; rintro e w1 ⟨rfl, hw1⟩; rw [hw1]; clear hw1 HG1) | (go_at_call 87; refine HG2.out.mono ?_; rintro e w1 ⟨rfl, hw1⟩; rw [hw1]; clear hw1 HG2) | (go_at_call 8; refine HF2.out.mono ?_; rintro e w2 ⟨a4, c4, rfl, H2⟩; (have R2 := (H2.out.2.block _ (Array.getElem?_eq_some_iff.1 HB.out.2).1).trans HB.out.2); (have c0 : w2.cell? ⟨w.heap.size, 0, none⟩ = some (.int .u64 0) := by rw [cell_of_row _ _ _ _ _ _ R2]; rfl); (have c1 : w2.cell? ⟨w.heap.size, 1, none⟩ = some (.slice none 0 0) := by rw [cell_of_row _ _ _ _ _ _ R2]; rfl); (have f0 := frozen_of_row _ _ 0 _ _ R2); (have f1 := frozen_of_row _ _ 1 _ _ R2); (have HR2 : Hid _ := R2); clear R2) | (go_at_call 88; refine (HPX.out w2 a4 c4 H2).mono ?_; rintro e w5 ⟨rfl, hw5⟩; rw [hw5]; clear hw5))
            refine bodyPost_ret (v := .tuple #[.agg #[.int .u64 0, .slice none 0 0], .int .i64 0, .bool false]) (results_cell3 Try.results67 _ _ w.heap.size #[.int .u64 0, .slice none 0 0] _ _ rfl rfl rfl (load81 (row2 _ _ HR2.out) rfl)) rfl ?_
            exact fat_no HN.out (bel_set (bel_set (HB.out.1.trans (H2.out.2.mono HB.out.1.size)) (Nat.le_refl _) _ _) (Nat.le_refl _) _ _)
end Go.Proofs.Ytflhgphjkhplmaa.W
