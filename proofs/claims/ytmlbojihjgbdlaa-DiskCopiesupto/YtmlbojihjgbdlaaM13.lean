import Derived.Test.YtmlbojihjgbdlaaM12
import Derived.Deep.RegionHeld3
import Derived.Test.YtmlbojihjgbdlaaM06
import Derived.Lib.SlBytesConst
import Derived.Laws.IdiomStrings
/- One call of both: Cut. -/
namespace Go.Proofs.Ytmlbojihjgbdlaa.D
open Go.RowKit
set_option linter.unusedVariables false
set_option linter.unusedSimpArgs false

variable {w0 w1 w2 : World} {D R k : Nat} {sy : Int} {dl : List Fd} {ks : List (Nat × Obj)} {c : Cl}
set_option maxRecDepth 20000 in
set_option maxHeartbeats 4000000 in
theorem PS.c_cut (h : PS w0 w1 D R sy dl ks) (i : Inv k sy dl) (hk : k ≤ 1000) (hc : c.In w0) (hkind : c.kind = 2) : Calls Try.prog 11 #[.pointer (some ⟨D, 0, none⟩), .pointer (some ⟨R, 0, none⟩), c.val] w1 fun e w2 => e = .returned (.bool true) ∧ Hid (PN w0 w2 D R k dl ks) := by
  obtain ⟨kind, s, s', n, bb, kn, bv, kv⟩ := c
  have HCI : Hid (Cl.In w0 ⟨kind, s, s', n, bb, kn, bv, kv⟩) := hc
  dsimp only at hkind
  subst hkind
  obtain ⟨ba, bc, hbv, -⟩ := hc.by'
  obtain ⟨ka, kc, hkv, -⟩ := hc.kp
  dsimp only at hbv hkv
  generalize bb.length = bn at hbv
  generalize kn.length = kkn at hkv
  obtain ⟨W, hW⟩ : ∃ W, w1.alloc (Cl.obj ⟨2, s, s', n, bb, kn, bv, kv⟩) = W := ⟨_, rfl⟩
  have hb : PS w0 W D R sy dl ((w1.heap.size, Cl.obj ⟨2, s, s', n, bb, kn, bv, kv⟩) :: ks) := by rw [← hW]; exact PP.box h _
  obtain ⟨y0, y1, y2, y3, y4, y5⟩ := Cl.cells (PP.at' hb List.mem_cons_self)
  obtain ⟨p, hp⟩ : ∃ p, w1.heap.size = p := ⟨_, rfl⟩
  rw [hp] at hb y0 y1 y2 y3 y4 y5
  obtain ⟨r, hr⟩ : ∃ r, cuE s n dl = r := ⟨_, rfl⟩
  have HA : Hid (Calls Try.prog 25 #[.pointer (some ⟨D, 0, none⟩), .string (tx s), .int .i64 n] W.drew fun e w2 => e = .returned (.int .i64 r) ∧ Hid (PP w0 w2 D R sy (cuD s n dl) sy dl ((p, Cl.obj ⟨2, s, s', n, bb, kn, bv, kv⟩) :: ks))) := by
    rw [← hr]
    exact PP.prog (PP.newer hb (drew_below W)) fun F h1 h2 _ => p_cut h1 i n
  have HC : Hid (∀ V, PP w0 V D R sy (cuD s n dl) sy dl ((p, Cl.obj ⟨2, s, s', n, bb, kn, bv, kv⟩) :: ks) → Calls Try.prog 36 #[.pointer (some ⟨R, 0, none⟩), .string (tx s), .int .i64 n] V fun e w2 => e = .returned (.int .i64 r) ∧ Hid (PS w0 w2 D R sy (cuD s n dl) ((p, Cl.obj ⟨2, s, s', n, bb, kn, bv, kv⟩) :: ks))) := fun V hV => by
    rw [← hr]
    exact PP.model hV fun G h1 h2 => m_cut h1 i n
  have HOP : Hid (∀ (V : World) (s1 s2 : Int) (d1 d2 : List Fd), PP w0 V D R s1 d1 s2 d2 ((p, Cl.obj ⟨2, s, s', n, bb, kn, bv, kv⟩) :: ks) → V.cell? ⟨p, 1, none⟩ = some (.string (tx s)) ∧ V.cell? ⟨p, 3, none⟩ = some (.int .i64 n)) := fun V s1 s2 d1 d2 hV => ⟨(Cl.cells (PP.at' hV List.mem_cons_self)).2.1, (Cl.cells (PP.at' hV List.mem_cons_self)).2.2.2.1⟩
  have HI : Hid (Inv (k + 1) sy (cuD s n dl)) := cu_inv i
  have HO : Hid (Ord dl → Ord (cuD s n dl)) := fun h => h.cu
  unfold Cl.obj at hW
  unfold Cl.val
  dsimp only at hW ⊢
  subst hbv hkv
  clear h hb hk i hr hc
  go_enter Try.func11, Try.ntmps11
  go_upto_region 10 with (fail)
  clear hW
  try rw [hp]
  clear hp y0
  go_region_held3 (fun w' => w'.cell? ⟨p, 1, none⟩ = some (.string (tx s)) ∧ w'.cell? ⟨p, 3, none⟩ = some (.int .i64 n)) (first | exact K9 | exact K8 | go_keep) (first | (go_at_call 25; refine HA.out.mono ?_; rintro e w8 ⟨rfl, HM8⟩; (have K8 := HOP.out w8 _ _ _ _ HM8.out); clear HA) | (go_at_call 36; refine (HC.out _ HM8.out).mono ?_; rintro e w9 ⟨rfl, HM9⟩; (have K9 := HOP.out w9 _ _ _ _ HM9.out)))
  all_goals
    go_wp2_with fail
    go_ret
    exact ⟨rfl, _, _, PP.less HM9.out fun q hq => List.mem_cons_of_mem _ hq, HI.out, HO.out⟩
end Go.Proofs.Ytmlbojihjgbdlaa.D

/- One call of both: Rename. -/
namespace Go.Proofs.Ytmlbojihjgbdlaa.D
open Go.RowKit
set_option linter.unusedVariables false
set_option linter.unusedSimpArgs false

variable {w0 w1 w2 : World} {D R k : Nat} {sy : Int} {dl : List Fd} {ks : List (Nat × Obj)} {c : Cl}
set_option maxRecDepth 20000 in
set_option maxHeartbeats 4000000 in
theorem PS.c_move (h : PS w0 w1 D R sy dl ks) (i : Inv k sy dl) (hk : k ≤ 1000) (hc : c.In w0) (hkind : c.kind = 3) : Calls Try.prog 11 #[.pointer (some ⟨D, 0, none⟩), .pointer (some ⟨R, 0, none⟩), c.val] w1 fun e w2 => e = .returned (.bool true) ∧ Hid (PN w0 w2 D R k dl ks) := by
  obtain ⟨kind, s, s', n, bb, kn, bv, kv⟩ := c
  have HCI : Hid (Cl.In w0 ⟨kind, s, s', n, bb, kn, bv, kv⟩) := hc
  have hsl : (s'.length : Int) ≤ 140737488351232 := hc.fit.tol
  dsimp only at hkind
  subst hkind
  obtain ⟨ba, bc, hbv, -⟩ := hc.by'
  obtain ⟨ka, kc, hkv, -⟩ := hc.kp
  dsimp only at hbv hkv
  generalize bb.length = bn at hbv
  generalize kn.length = kkn at hkv
  obtain ⟨W, hW⟩ : ∃ W, w1.alloc (Cl.obj ⟨3, s, s', n, bb, kn, bv, kv⟩) = W := ⟨_, rfl⟩
  have hb : PS w0 W D R sy dl ((w1.heap.size, Cl.obj ⟨3, s, s', n, bb, kn, bv, kv⟩) :: ks) := by rw [← hW]; exact PP.box h _
  obtain ⟨y0, y1, y2, y3, y4, y5⟩ := Cl.cells (PP.at' hb List.mem_cons_self)
  obtain ⟨p, hp⟩ : ∃ p, w1.heap.size = p := ⟨_, rfl⟩
  rw [hp] at hb y0 y1 y2 y3 y4 y5
  obtain ⟨r, hr⟩ : ∃ r, mvE s s' dl = r := ⟨_, rfl⟩
  have HA : Hid (Calls Try.prog 30 #[.pointer (some ⟨D, 0, none⟩), .string (tx s), .string (tx s')] W.drew fun e w2 => e = .returned (.int .i64 r) ∧ Hid (PP w0 w2 D R sy (mvD s s' dl) sy dl ((p, Cl.obj ⟨3, s, s', n, bb, kn, bv, kv⟩) :: ks))) := by
    rw [← hr]
    exact PP.prog (PP.newer hb (drew_below W)) fun F h1 h2 _ => p_move h1 hsl
  have HC : Hid (∀ V, PP w0 V D R sy (mvD s s' dl) sy dl ((p, Cl.obj ⟨3, s, s', n, bb, kn, bv, kv⟩) :: ks) → Calls Try.prog 37 #[.pointer (some ⟨R, 0, none⟩), .string (tx s), .string (tx s')] V fun e w2 => e = .returned (.int .i64 r) ∧ Hid (PS w0 w2 D R sy (mvD s s' dl) ((p, Cl.obj ⟨3, s, s', n, bb, kn, bv, kv⟩) :: ks))) := fun V hV => by
    rw [← hr]
    exact PP.model hV fun G h1 h2 => m_move h1 i hsl
  have HOP : Hid (∀ (V : World) (s1 s2 : Int) (d1 d2 : List Fd), PP w0 V D R s1 d1 s2 d2 ((p, Cl.obj ⟨3, s, s', n, bb, kn, bv, kv⟩) :: ks) → V.cell? ⟨p, 1, none⟩ = some (.string (tx s)) ∧ V.cell? ⟨p, 2, none⟩ = some (.string (tx s'))) := fun V s1 s2 d1 d2 hV => ⟨(Cl.cells (PP.at' hV List.mem_cons_self)).2.1, (Cl.cells (PP.at' hV List.mem_cons_self)).2.2.1⟩
  have HI : Hid (Inv (k + 1) sy (mvD s s' dl)) := mv_inv i
  have HO : Hid (Ord dl → Ord (mvD s s' dl)) := fun h => h.mv
  unfold Cl.obj at hW
  unfold Cl.val
  dsimp only at hW ⊢
  subst hbv hkv
  clear h hb hk i hr hc hsl
  go_enter Try.func11, Try.ntmps11
  go_upto_region 12 with (fail)
  clear hW
  try rw [hp]
  clear hp y0
  go_region_held3 (fun w' => w'.cell? ⟨p, 1, none⟩ = some (.string (tx s)) ∧ w'.cell? ⟨p, 2, none⟩ = some (.string (tx s'))) (first | exact K9 | exact K8 | go_keep) (first | (go_at_call 30; refine HA.out.mono ?_; rintro e w8 ⟨rfl, HM8⟩; (have K8 := HOP.out w8 _ _ _ _ HM8.out); clear HA) | (go_at_call 37; refine (HC.out _ HM8.out).mono ?_; rintro e w9 ⟨rfl, HM9⟩; (have K9 := HOP.out w9 _ _ _ _ HM9.out)))
  all_goals
    go_wp2_with fail
    go_ret
    exact ⟨rfl, _, _, PP.less HM9.out fun q hq => List.mem_cons_of_mem _ hq, HI.out, HO.out⟩
end Go.Proofs.Ytmlbojihjgbdlaa.D

/- One call of both: Crash. -/
namespace Go.Proofs.Ytmlbojihjgbdlaa.D
open Go.RowKit
set_option linter.unusedVariables false
set_option linter.unusedSimpArgs false

variable {w0 w1 w2 : World} {D R k : Nat} {sy : Int} {dl : List Fd} {ks : List (Nat × Obj)} {c : Cl}
set_option maxRecDepth 20000 in
set_option maxHeartbeats 4000000 in
theorem PS.c_crash (h : PS w0 w1 D R sy dl ks) (i : Inv k sy dl) (hk : k ≤ 1000) (hc : c.In w0) (hkind : c.kind = 5) : Calls Try.prog 11 #[.pointer (some ⟨D, 0, none⟩), .pointer (some ⟨R, 0, none⟩), c.val] w1 fun e w2 => e = .returned (.bool true) ∧ Hid (PN w0 w2 D R k dl ks) := by
  obtain ⟨kind, s, s', n, bb, kn, bv, kv⟩ := c
  have HCI : Hid (Cl.In w0 ⟨kind, s, s', n, bb, kn, bv, kv⟩) := hc
  have hkl : kn.length ≤ 1048576 := hc.fit.kl
  have hkp : KeepsAt (fun b => b < w0.heap.size) w0 kv kn := hc.kp
  dsimp only at hkind
  subst hkind
  obtain ⟨ba, bc, hbv, -⟩ := hc.by'
  obtain ⟨ka, kc, hkv, -⟩ := hc.kp
  dsimp only at hbv hkv
  generalize bb.length = bn at hbv
  obtain ⟨kkn, hkkn⟩ : ∃ kkn, kn.length = kkn := ⟨_, rfl⟩
  rw [hkkn] at hkv
  obtain ⟨W, hW⟩ : ∃ W, w1.alloc (Cl.obj ⟨5, s, s', n, bb, kn, bv, kv⟩) = W := ⟨_, rfl⟩
  have hb : PS w0 W D R sy dl ((w1.heap.size, Cl.obj ⟨5, s, s', n, bb, kn, bv, kv⟩) :: ks) := by rw [← hW]; exact PP.box h _
  obtain ⟨y0, y1, y2, y3, y4, y5⟩ := Cl.cells (PP.at' hb List.mem_cons_self)
  obtain ⟨p, hp⟩ : ∃ p, w1.heap.size = p := ⟨_, rfl⟩
  rw [hp] at hb y0 y1 y2 y3 y4 y5
  obtain ⟨r, hr⟩ : ∃ r, wrE dl [] kn = r := ⟨_, rfl⟩
  have HA : Hid (Calls Try.prog 16 #[.pointer (some ⟨D, 0, none⟩), .slice ka kkn kc] W.drew fun e w2 => e = .returned (.int .i64 r) ∧ Hid (PP w0 w2 D R sy (crA dl kn) sy dl ((p, Cl.obj ⟨5, s, s', n, bb, kn, bv, kv⟩) :: ks))) := by
    rw [← hr]
    exact PP.prog (PP.newer hb (drew_below W)) fun F h1 h2 _ => p_crash h1 i (by omega) (by have := PP.keepsD (PP.newer hb (drew_below W)) hkp; rw [hkv] at this; exact this) (PP.outD (PP.newer hb (drew_below W)) h2) hkl
  have HC : Hid (∀ V, PP w0 V D R sy (crA dl kn) sy dl ((p, Cl.obj ⟨5, s, s', n, bb, kn, bv, kv⟩) :: ks) → Calls Try.prog 39 #[.pointer (some ⟨R, 0, none⟩), .slice ka kkn kc] V fun e w2 => e = .returned (.int .i64 r) ∧ Hid (PS w0 w2 D R sy (crA dl kn) ((p, Cl.obj ⟨5, s, s', n, bb, kn, bv, kv⟩) :: ks))) := fun V hV => by
    rw [← hr]
    exact PP.model hV fun G h1 h2 => m_crash h1 i (by omega) (by have := PP.keepsD hV hkp; rw [hkv] at this; exact this) (PP.outD hV h2) hkl
  have HOP : Hid (∀ (V : World) (s1 s2 : Int) (d1 d2 : List Fd), PP w0 V D R s1 d1 s2 d2 ((p, Cl.obj ⟨5, s, s', n, bb, kn, bv, kv⟩) :: ks) → V.cell? ⟨p, 5, none⟩ = some (.slice ka kkn kc)) := fun V s1 s2 d1 d2 hV => (by have := (Cl.cells (PP.at' hV List.mem_cons_self)).2.2.2.2.2; rw [← hkv]; exact this)
  have HI : Hid (Inv (k + 1) sy (crA dl kn)) := crA_inv i
  have HO : Hid (Ord dl → Ord (crA dl kn)) := fun h => h.cr
  unfold Cl.obj at hW
  unfold Cl.val
  dsimp only at hW ⊢
  subst hbv hkv
  clear hkkn h hb hk i hr hc hkl hkp
  go_enter Try.func11, Try.ntmps11
  go_upto_region 16 with (fail)
  clear hW
  try rw [hp]
  clear hp y0
  go_region_held3 (fun w' => w'.cell? ⟨p, 5, none⟩ = some (.slice ka kkn kc)) (first | exact K9 | exact K8 | go_keep) (first | (go_at_call 16; refine HA.out.mono ?_; rintro e w8 ⟨rfl, HM8⟩; (have K8 := HOP.out w8 _ _ _ _ HM8.out); clear HA) | (go_at_call 39; refine (HC.out _ HM8.out).mono ?_; rintro e w9 ⟨rfl, HM9⟩; (have K9 := HOP.out w9 _ _ _ _ HM9.out)))
  all_goals
    go_wp2_with fail
    go_ret
    exact ⟨rfl, _, _, PP.less HM9.out fun q hq => List.mem_cons_of_mem _ hq, HI.out, HO.out⟩
end Go.Proofs.Ytmlbojihjgbdlaa.D

/- What was lent: kept, spoilt. -/
namespace Go.Proofs.Ytmlbojihjgbdlaa.D
open Go.RowKit
set_option linter.unusedVariables false
set_option linter.unusedSimpArgs false

variable {w w' w0 w1 w2 : World} {D R k base : Nat} {s1 s2 sy : Int} {d1 d2 dl : List Fd} {ks : List (Nat × Obj)} {bs : List Int} {lv sv : Value}
theorem LentR.row (h : LentR w base lv bs) : ∃ g cap cur, lv = .slice (some ⟨g, 0, none⟩) bs.length cap ∧ base ≤ g ∧ w.heap[g]? = some (.cells cur 5 (0, 0)) ∧ (∀ w', w'.heap[g]? = w.heap[g]? → LentR w' base lv bs) ∧ (w.ownsRow base 5 1 lv bs.length (u8l bs)) ∧ w.cell? ⟨g, bs.length, none⟩ = some (.int .u8 77) ∧ bs.length + 1 ≤ cap ∧ cap ≤ maxLen := by
  obtain ⟨g, cap, rfl, ho⟩ := h
  obtain ⟨hl, hr⟩ := ho
  rcases hr with ⟨h1, -⟩ | ⟨g', cap', cur, h1, h2, h3, h4, h5, h6, h7⟩
  · cases h1
  · injection h1 with e1 e2 e3
    have e1 : g' = g := by injection e1 with e1; injection e1 with e1; exact e1.symm
    subst e1 e3
    have hx : ((bs.length + 1) * 1) = bs.length + 1 := Nat.mul_one _
    rw [hx] at h7
    refine ⟨g', cap, cur, rfl, h2, h3, fun w' hw => ⟨g', cap, rfl, hl, .inr ⟨g', cap, cur, rfl, h2, hw.trans h3, h4, h5, h6, by rw [hx]; exact h7⟩⟩, ⟨by simp [u8l_len], .inr ⟨g', cap, cur, rfl, h2, h3, by omega, h5, h6, ?_⟩⟩, ?_, h4, h5⟩
    · rw [Nat.mul_one]
      have := congrArg (List.take bs.length) h7
      rw [List.take_take, Nat.min_eq_left (by omega), List.take_append_of_le_length (by rw [u8l_len]; omega), show List.take bs.length (u8l bs) = u8l bs from List.take_of_length_le (by rw [u8l_len]; omega)] at this
      exact this
    · have hr : w.ownsRow base 5 1 (.slice (some ⟨g', 0, none⟩) (bs.length + 1) cap) (bs.length + 1) (u8l bs ++ [.int .u8 77]) := ⟨hl, .inr ⟨g', cap, cur, rfl, h2, h3, h4, h5, h6, by rw [hx]; exact h7⟩⟩
      rw [hr.cellAt bs.length (by omega), List.getElem?_append_right (by rw [u8l_len]; omega), u8l_len, Nat.sub_self]
      rfl
theorem LentR.srcG (h : LentR w base lv bs) {F : Nat → Prop} (hF : ∀ g, lv.ownBlock = some g → ¬ F g) : SrcG w F lv bs := fun W hW => by
  obtain ⟨g, cap, cur, rfl, -, h3, h4, -⟩ := h.row
  have := h4 W (hW g (Array.getElem?_eq_some_iff.1 h3).1 (hF g rfl))
  obtain ⟨_, _, _, -, -, -, -, h5, -⟩ := this.row
  exact own_src h5
set_option maxRecDepth 20000 in
set_option maxHeartbeats 4000000 in
theorem kept_any (h : LentR w base lv bs) (hs : Src w sv bs) (hb : Byt bs) (hl : bs.length ≤ 2000000) : Calls Try.prog 33 #[lv, sv] w fun e w' => e = .returned (.bool true) ∧ w' = w := by
  obtain ⟨g, cap, cur, rfl, -, h3, -, h5, h6, h7, h8⟩ := h.row
  have hc1 := Src.conv (own_src h5) hb
  have hc2 := Src.conv hs hb
  obtain ⟨sa, sc, rfl⟩ := hs.slice
  generalize (⟨(strB bs).toArray⟩ : ByteArray) = T at hc1 hc2
  have hT : (T.toList == T.toList) = true := by simp
  generalize bs.length = n at *
  have h7i : (n : Int) + 1 ≤ (cap : Int) := by omega
  have hni : (n : Int) ≤ 2000000 := by omega
  have f3 := frozen_of_row w g n _ _ h3
  clear h hs hb hl h3 h5 h7
  go_enter Try.func33, Try.ntmps33
  go_wp2_with fail
  go_ret
  exact ⟨rfl, rfl⟩
/-- The row that was lent is spoilt. -/
theorem PP.spoil {g : Nat} {v u : Value} (hv : v.ownBlock = some g) (hg : w0.heap.size ≤ g) {o : Obj} (hgk : PP w0 w1 D R s1 d1 s2 d2 ((g, o) :: ks)) (hne : ∀ p ∈ ks, p.1 ≠ g) (hgr : Gr v w1 u w2) : PP w0 w2 D R s1 d1 s2 d2 ks := by
  obtain ⟨⟨F, G, h1, h2, h3, h4, h5, h6⟩, h7⟩ := hgk
  obtain ⟨-, g1, g2⟩ := h6 _ List.mem_cons_self
  have hblk : ∀ q, q < w1.heap.size → q ≠ g → w2.heap[q]? = w1.heap[q]? := fun q hq hn => hgr.block q hq (by rw [hv]; exact fun e => hn (Option.some.inj e).symm)
  refine ⟨⟨F, G, h1.at' fun q hq => hblk q (h1.lt q hq) fun e => g1 (by rw [← e]; exact hq), h2.at' fun q hq => hblk q (h2.lt q hq) fun e => g2 (by rw [← e]; exact hq), h3, h4, h5, fun p hp => ?_⟩, h7.trans (hgr.below h7.size fun q hq => by rw [hv] at hq; cases hq; exact hg)⟩
  obtain ⟨j1, j2, j3⟩ := h6 p (List.mem_cons_of_mem _ hp)
  exact ⟨(hblk p.1 (Array.getElem?_eq_some_iff.1 j1).1 (hne p hp)).trans j1, j2, j3⟩
end Go.Proofs.Ytmlbojihjgbdlaa.D

/- One call of both: Append. -/
namespace Go.Proofs.Ytmlbojihjgbdlaa.D
open Go.RowKit
set_option linter.unusedVariables false
set_option linter.unusedSimpArgs false

variable {w0 w1 w2 : World} {D R k : Nat} {sy : Int} {dl : List Fd} {ks : List (Nat × Obj)} {c : Cl}
set_option maxRecDepth 20000 in
set_option maxHeartbeats 8000000 in
theorem PS.c_append (h : PS w0 w1 D R sy dl ks) (i : Inv k sy dl) (hk : k ≤ 1000) (hc : c.In w0) (hkind : c.kind = 0) : Calls Try.prog 11 #[.pointer (some ⟨D, 0, none⟩), .pointer (some ⟨R, 0, none⟩), c.val] w1 fun e w2 => e = .returned (.bool true) ∧ Hid (PN w0 w2 D R k dl ks) := by
  obtain ⟨kind, s, s', n, bb, kn, bv, kv⟩ := c
  have hbf : Byt bb := hc.fit.byt
  have hbl : bb.length ≤ 1048576 := hc.fit.bl
  have hsl : (s.length : Int) ≤ 140737488351232 := hc.fit.nml
  have hby : BysP (fun b => b < w0.heap.size) w0 bv bb := hc.by'
  dsimp only at hkind
  subst hkind
  obtain ⟨ba, bc, hbv, -⟩ := hc.by'
  obtain ⟨ka, kc, hkv, -⟩ := hc.kp
  dsimp only at hbv hkv
  obtain ⟨bn, hbn⟩ : ∃ bn, bb.length = bn := ⟨_, rfl⟩
  rw [hbn] at hbv
  generalize kn.length = kkn at hkv
  obtain ⟨W, hW⟩ : ∃ W, w1.alloc (Cl.obj ⟨0, s, s', n, bb, kn, bv, kv⟩) = W := ⟨_, rfl⟩
  have hb : PS w0 W D R sy dl ((w1.heap.size, Cl.obj ⟨0, s, s', n, bb, kn, bv, kv⟩) :: ks) := by rw [← hW]; exact PP.box h _
  obtain ⟨y0, y1, y2, y3, y4, y5⟩ := Cl.cells (PP.at' hb List.mem_cons_self)
  obtain ⟨p, hp⟩ : ∃ p, w1.heap.size = p := ⟨_, rfl⟩
  have hpW : p < W.heap.size := by rw [← hW, ← hp]; simp
  rw [hp] at hb y0 y1 y2 y3 y4 y5
  have hsrcV : ∀ (V : World) (s1 s2 : Int) (d1 d2 : List Fd) (kk : List (Nat × Obj)), PP w0 V D R s1 d1 s2 d2 kk → Src V bv bb := fun V s1 s2 d1 d2 kk hV => (hV.srcD hby (F := fun q => w0.heap.size ≤ q) fun q hq => hq) V fun _ _ _ => rfl
  -- lent
  have HLE : Hid (Calls Try.prog 31 #[bv] W fun e w2 => ∃ g cap cur, e = .returned (.slice (some ⟨g, 0, none⟩) bn cap) ∧ (W.heap.size ≤ g ∧ LentR w2 W.heap.size (.slice (some ⟨g, 0, none⟩) bn cap) bb ∧ PS w0 w2 D R sy dl ((g, .cells cur 5 (0, 0)) :: (p, Cl.obj ⟨0, s, s', n, bb, kn, bv, kv⟩) :: ks))) := by
    refine (lent_any (hsrcV W _ _ _ _ _ hb) (by omega)).mono ?_
    rintro e w2 ⟨v, rfl, h1, h2⟩
    obtain ⟨g, cap, cur, rfl, j1, j2, -⟩ := h1.row
    rw [hbn] at h1 ⊢
    exact ⟨g, cap, cur, rfl, j1, h1, PP.keep hb h2 j1 j2⟩
  obtain ⟨r, hr⟩ : ∃ r, apE s bb dl = r := ⟨_, rfl⟩
  have HLK : Hid (∀ (V : World) (g cap : Nat) (cur : Array Value) (s1 s2 : Int) (d1 d2 : List Fd) (w4 : World), LentR w4 W.heap.size (.slice (some ⟨g, 0, none⟩) bn cap) bb → PP w0 w4 D R sy dl sy dl ((g, .cells cur 5 (0, 0)) :: (p, Cl.obj ⟨0, s, s', n, bb, kn, bv, kv⟩) :: ks) → PP w0 V D R s1 d1 s2 d2 ((g, .cells cur 5 (0, 0)) :: (p, Cl.obj ⟨0, s, s', n, bb, kn, bv, kv⟩) :: ks) → LentR V W.heap.size (.slice (some ⟨g, 0, none⟩) bn cap) bb) := fun V g cap cur s1 s2 d1 d2 w4 hl h4 hV => by
    obtain ⟨g', cap', cur', e, -, -, j3, -⟩ := hl.row
    have e1 : g' = g := by injection e with e; injection e with e; injection e with e; exact e.symm
    subst e1
    exact j3 V ((PP.at' hV List.mem_cons_self).trans (PP.at' h4 List.mem_cons_self).symm)
  have HA : Hid (∀ (V : World) (g cap : Nat) (cur : Array Value), LentR V W.heap.size (.slice (some ⟨g, 0, none⟩) bn cap) bb → PP w0 V D R sy dl sy dl ((g, .cells cur 5 (0, 0)) :: (p, Cl.obj ⟨0, s, s', n, bb, kn, bv, kv⟩) :: ks) → Calls Try.prog 23 #[.pointer (some ⟨D, 0, none⟩), .string (tx s), .slice (some ⟨g, 0, none⟩) bn cap] V fun e w2 => e = .returned (.int .i64 r) ∧ Hid (PP w0 w2 D R sy (apD s bb dl) sy dl ((g, .cells cur 5 (0, 0)) :: (p, Cl.obj ⟨0, s, s', n, bb, kn, bv, kv⟩) :: ks))) := fun V g cap cur hl hV => by
    rw [← hr]
    exact PP.prog hV fun F h1 h2 h3 => p_append h1 i (by omega) hsl (hl.srcG fun q hq => by cases hq; exact h3 _ List.mem_cons_self) hbl
  have HC : Hid (∀ (V : World) (kk : List (Nat × Obj)), PP w0 V D R sy (apD s bb dl) sy dl kk → Calls Try.prog 32 #[.pointer (some ⟨R, 0, none⟩), .string (tx s), bv] V fun e w2 => e = .returned (.int .i64 r) ∧ Hid (PS w0 w2 D R sy (apD s bb dl) kk)) := fun V kk hV => by
    rw [← hr]
    exact PP.model hV fun G h1 h2 => m_append h1 i (by omega) hsl (hV.srcD hby h2) hbl
  have HK : Hid (∀ (V : World) (lv : Value) (kk : List (Nat × Obj)), LentR V W.heap.size lv bb → PS w0 V D R sy (apD s bb dl) kk → Calls Try.prog 33 #[lv, bv] V fun e w2 => e = .returned (.bool true) ∧ w2 = V) := fun V lv kk hl hV => kept_any hl (hsrcV V _ _ _ _ _ hV) hbf (by omega)
  have HSP : Hid (∀ (V : World) (g cap : Nat) (cur : Array Value), W.heap.size ≤ g → LentR V W.heap.size (.slice (some ⟨g, 0, none⟩) bn cap) bb → PS w0 V D R sy (apD s bb dl) ((g, .cells cur 5 (0, 0)) :: (p, Cl.obj ⟨0, s, s', n, bb, kn, bv, kv⟩) :: ks) → Calls Try.prog 34 #[.slice (some ⟨g, 0, none⟩) bn cap] V fun e w2 => (∃ u, e = .returned u) ∧ Hid (PS w0 w2 D R sy (apD s bb dl) ks)) := fun V g cap cur hg hl hV => by
    obtain ⟨g', cap', cur', e, -, -, -, j5, -⟩ := hl.row
    rw [hbn] at e
    have j6 : V.ownsRow W.heap.size 5 1 (.slice (some ⟨g, 0, none⟩) bn cap) bb.length (u8l bb) := j5
    refine (spoil_own j6 hbf (by omega)).mono ?_
    rintro e w2 ⟨he, hgr⟩
    refine ⟨he, ?_⟩
    have hlt : ∀ q ∈ (p, Cl.obj ⟨0, s, s', n, bb, kn, bv, kv⟩) :: ks, q.1 ≠ g := fun q hq e => by
      have := (Array.getElem?_eq_some_iff.1 (PP.at' hb hq)).1
      omega
    exact PP.less (PP.spoil (v := .slice (some ⟨g, 0, none⟩) bn cap) rfl (Nat.le_trans hb.bel.size hg) hV hlt hgr) fun q hq => List.mem_cons_of_mem _ hq
  have HOP : Hid (∀ (V : World) (s1 s2 : Int) (d1 d2 : List Fd) (q : Nat × Obj), PP w0 V D R s1 d1 s2 d2 (q :: (p, Cl.obj ⟨0, s, s', n, bb, kn, bv, kv⟩) :: ks) → V.cell? ⟨p, 1, none⟩ = some (.string (tx s)) ∧ V.cell? ⟨p, 4, none⟩ = some bv) := fun V s1 s2 d1 d2 q hV => by
    have := Cl.cells (PP.at' hV (List.mem_cons_of_mem _ List.mem_cons_self))
    exact ⟨this.2.1, this.2.2.2.2.1⟩
  have HI : Hid (Inv (k + 1) sy (apD s bb dl)) := ap_inv i hbf hbl
  have HO : Hid (Ord dl → Ord (apD s bb dl)) := fun h => h.ap
  unfold Cl.obj at hW
  unfold Cl.val
  dsimp only at hW ⊢ y4
  subst hbv hkv
  clear h hb hk i hr hc hbf hbl hsl hby hsrcV hbn hpW
  go_enter Try.func11, Try.ntmps11
  go_upto_region 4 with (go_at_call 31; (refine HLE.out.mono ?_; rintro e w4 ⟨g, cap, cur, rfl, hg⟩; (have HG : Hid (W.heap.size ≤ g ∧ LentR w4 W.heap.size (.slice (some ⟨g, 0, none⟩) bn cap) bb ∧ PS w0 w4 D R sy dl ((g, .cells cur 5 (0, 0)) :: (p, Cl.obj ⟨0, s, s', n, bb, kn, .slice ba bn bc, .slice ka kkn kc⟩) :: ks)) := hg); clear hg))
  clear hW
  try rw [hp]
  clear hp y0 y1 y2 y3 y4 y5
  have HG4 : Hid (LentR w4.drew W.heap.size (.slice (some ⟨g, 0, none⟩) bn cap) bb ∧ PS w0 w4.drew D R sy dl ((g, .cells cur 5 (0, 0)) :: (p, Cl.obj ⟨0, s, s', n, bb, kn, .slice ba bn bc, .slice ka kkn kc⟩) :: ks)) := by
    have h1 : PS w0 w4.drew D R sy dl ((g, .cells cur 5 (0, 0)) :: (p, Cl.obj ⟨0, s, s', n, bb, kn, .slice ba bn bc, .slice ka kkn kc⟩) :: ks) := PP.newer HG.out.2.2 (drew_below w4)
    exact ⟨HLK.out _ g cap cur _ _ _ _ w4 HG.out.2.1 HG.out.2.2 h1, h1⟩
  have HA4 : Hid (Calls Try.prog 23 #[.pointer (some ⟨D, 0, none⟩), .string (tx s), .slice (some ⟨g, 0, none⟩) bn cap] w4.drew fun e w2 => e = .returned (.int .i64 r) ∧ Hid (PP w0 w2 D R sy (apD s bb dl) sy dl ((g, .cells cur 5 (0, 0)) :: (p, Cl.obj ⟨0, s, s', n, bb, kn, .slice ba bn bc, .slice ka kkn kc⟩) :: ks))) := HA.out _ g cap cur HG4.out.1 HG4.out.2
  obtain ⟨y1, y4⟩ := HOP.out w4 _ _ _ _ _ HG.out.2.2
  go_region_held3 (fun w' => w'.cell? ⟨p, 1, none⟩ = some (.string (tx s)) ∧ w'.cell? ⟨p, 4, none⟩ = some (.slice ba bn bc)) (first | exact K9 | exact K8 | go_keep) (first | (go_at_call 23; refine HA4.out.mono ?_; rintro e w8 ⟨rfl, HM8⟩; (have K8 := HOP.out w8 _ _ _ _ _ HM8.out); clear HA4) | (go_at_call 32; refine (HC.out _ _ HM8.out).mono ?_; rintro e w9 ⟨rfl, HM9⟩; (have K9 := HOP.out w9 _ _ _ _ _ HM9.out)) | (go_at_call 33; refine (HK.out w9 _ _ (HLK.out w9 g cap cur _ _ _ _ _ HG4.out.1 HG4.out.2 HM9.out) HM9.out).mono ?_; rintro e w10 ⟨rfl, hw10⟩; rw [hw10]; clear hw10))
  all_goals
    go_wp2_with (go_at_call 34; refine (HSP.out w9 g cap cur HG.out.1 (HLK.out w9 g cap cur _ _ _ _ _ HG4.out.1 HG4.out.2 HM9.out) HM9.out).mono ?_; rintro e w11 ⟨⟨u11, rfl⟩, HM11⟩)
    go_ret
    exact ⟨rfl, _, _, HM11.out, HI.out, HO.out⟩
end Go.Proofs.Ytmlbojihjgbdlaa.D

/- One call of both: what is read. -/
namespace Go.Proofs.Ytmlbojihjgbdlaa.D
open Go.RowKit
set_option linter.unusedVariables false
set_option linter.unusedSimpArgs false

variable {w w' w0 w1 w2 : World} {D R k : Nat} {s1 s2 sy : Int} {F G : Nat → Prop} {d1 d2 dl : List Fd} {ks : List (Nat × Obj)} {c : Cl} {s : List UInt8} {v : Value} {B : List Int}
def rdB (s : List UInt8) (dl : List Fd) : List Int := match lkF s dl with | none => [] | some x => x.b
def rdE (s : List UInt8) (dl : List Fd) : Int := match lkF s dl with | none => 5 | some _ => 0
theorem Inv.rd (i : Inv k sy dl) (s : List UInt8) : Byt (rdB s dl) ∧ (rdB s dl).length ≤ 1048576 := by
  unfold rdB
  cases hs : lkF s dl with
  | none => exact ⟨(fun x hx => nomatch hx), Nat.zero_le _⟩
  | some x => exact ⟨(i.each x (lk_mem hs)).1, (i.each x (lk_mem hs)).2.1⟩
theorem p_read (h : DR w D F sy dl) (i : Inv k sy dl) (s : List UInt8) : Calls Try.prog 20 #[.pointer (some ⟨D, 0, none⟩), .string (tx s)] w fun e w' => ∃ a cap, e = .returned (.tuple #[.slice a (rdB s dl).length cap, .int .i64 (rdE s dl)]) ∧ w'.ownsRow w.heap.size 5 1 (.slice a (rdB s dl).length cap) (rdB s dl).length (u8l (rdB s dl)) ∧ Below w.heap.size w w' := by
  have hi := (i.rd s).2
  unfold rdB rdE at *
  cases hs : lkF s dl with
  | none =>
    refine (read_no h hs).mono ?_
    rintro e w' ⟨rfl, rfl⟩
    exact ⟨none, 0, rfl, World.ownsRow_nil _ _ _ _, Below.refl _ _⟩
  | some x =>
    rw [hs] at hi
    refine (read_yes h hs (by dsimp only at hi; omega)).mono ?_
    rintro e w' ⟨⟨v', rfl, h1⟩, h2⟩
    obtain ⟨a, cap, rfl⟩ := own_slice h1
    exact ⟨a, cap, rfl, h1, h2⟩
theorem m_read (h : MR w R G sy dl) (i : Inv k sy dl) (s : List UInt8) : Calls Try.prog 40 #[.pointer (some ⟨R, 0, none⟩), .string (tx s)] w fun e w' => ∃ a cap, e = .returned (.tuple #[.slice a (rdB s dl).length cap, .int .i64 (rdE s dl)]) ∧ w'.ownsRow w.heap.size 5 1 (.slice a (rdB s dl).length cap) (rdB s dl).length (u8l (rdB s dl)) ∧ Below w.heap.size w w' := by
  have hi := (i.rd s).2
  have hlen := i.len
  unfold rdB rdE at *
  cases hs : lkF s dl with
  | none =>
    refine (rread_no h (by omega) hs).mono ?_
    rintro e w' ⟨rfl, rfl⟩
    exact ⟨none, 0, rfl, World.ownsRow_nil _ _ _ _, Below.refl _ _⟩
  | some x =>
    rw [hs] at hi
    refine (rread_yes h (by omega) hs (by dsimp only at hi; omega)).mono ?_
    rintro e w' ⟨⟨v', rfl, h1⟩, h2⟩
    obtain ⟨a, cap, rfl⟩ := own_slice h1
    exact ⟨a, cap, rfl, h1, h2⟩
theorem p_len (h : DR w D F sy dl) (i : Inv k sy dl) (s : List UInt8) : Calls Try.prog 27 #[.pointer (some ⟨D, 0, none⟩), .string (tx s)] w fun e w' => e = .returned (.tuple #[.int .i64 ((rdB s dl).length : Int), .int .i64 (rdE s dl)]) ∧ w' = w := by
  have hi := (i.rd s).2
  unfold rdB rdE at *
  cases hs : lkF s dl with
  | none => exact len_no h hs
  | some x =>
    rw [hs] at hi
    exact len_yes h hs (by dsimp only at hi; omega)
/-- A row that is new: it reads, and it may be spoilt. -/
theorem PP.rowNew (h : PP w0 w1 D R s1 d1 s2 d2 ks) (hb : Below w1.heap.size w1 w2) (ho : w2.ownsRow w1.heap.size 5 1 v B.length (u8l B)) (hB : Byt B) (hl : B.length ≤ 2000000) : ∃ kk, PP w0 w2 D R s1 d1 s2 d2 (kk ++ ks) ∧ ∀ V ka, PP w0 V D R s1 d1 s2 d2 (ka ++ (kk ++ ks)) → Src V v B ∧ Calls Try.prog 34 #[v] V fun e w3 => (∃ u, e = .returned u) ∧ Hid (PP w0 w3 D R s1 d1 s2 d2 ks) := by
  rcases ho.2 with ⟨rfl, h0⟩ | ⟨g, cap, cur, rfl, h1, h2, h3⟩
  · have hB0 : B = [] := List.eq_nil_of_length_eq_zero h0
    subst hB0
    refine ⟨[], h.newer hb, fun V ka hV => ⟨.inl ⟨rfl, rfl⟩, (spoil_none V).mono ?_⟩⟩
    rintro e w3 ⟨he, hgr⟩
    exact ⟨he, (PP.less (ks' := ks) hV fun q hq => by simp [hq]).newer (hgr.below (Nat.le_refl _) fun q hq => by cases hq)⟩
  · refine ⟨[(g, .cells cur 5 (0, 0))], h.keep hb h1 h2, fun V ka hV => ?_⟩
    have hV' : PP w0 V D R s1 d1 s2 d2 ((g, .cells cur 5 (0, 0)) :: ks) := PP.less hV fun q hq => by
      rcases List.mem_cons.1 hq with e | e
      · simp [e]
      · simp [e]
    have hoV : V.ownsRow w1.heap.size 5 1 (.slice (some ⟨g, 0, none⟩) B.length cap) B.length (u8l B) := ⟨ho.1, .inr ⟨g, cap, cur, rfl, h1, PP.at' hV' List.mem_cons_self, h3⟩⟩
    refine ⟨own_src hoV, (spoil_own hoV hB (by omega)).mono ?_⟩
    rintro e w3 ⟨he, hgr⟩
    exact ⟨he, PP.spoil (v := .slice (some ⟨g, 0, none⟩) B.length cap) rfl (Nat.le_trans h.bel.size h1) hV' (fun q hq e => by have e' : q.1 = g := e; have := (Array.getElem?_eq_some_iff.1 (PP.at' h hq)).1; omega) hgr⟩
set_option maxRecDepth 20000 in
set_option maxHeartbeats 8000000 in
theorem PS.c_read (h : PS w0 w1 D R sy dl ks) (i : Inv k sy dl) (hc : c.In w0) (hkind : c.kind ≠ 0 ∧ c.kind ≠ 1 ∧ c.kind ≠ 2 ∧ c.kind ≠ 3 ∧ c.kind ≠ 4 ∧ c.kind ≠ 5) : Calls Try.prog 11 #[.pointer (some ⟨D, 0, none⟩), .pointer (some ⟨R, 0, none⟩), c.val] w1 fun e w2 => e = .returned (.bool true) ∧ Hid (PN w0 w2 D R k dl ks) := by
  obtain ⟨kind, s, s', n, bb, kn, bv, kv⟩ := c
  obtain ⟨n0, n1, n2, n3, n4, n5⟩ := hkind
  dsimp only at n0 n1 n2 n3 n4 n5
  obtain ⟨ba, bc, hbv, -⟩ := hc.by'
  obtain ⟨ka, kc, hkv, -⟩ := hc.kp
  dsimp only at hbv hkv
  generalize bb.length = bn at hbv
  generalize kn.length = kkn at hkv
  obtain ⟨W, hW⟩ : ∃ W, w1.alloc (Cl.obj ⟨kind, s, s', n, bb, kn, bv, kv⟩) = W := ⟨_, rfl⟩
  have hb : PS w0 W D R sy dl ((w1.heap.size, Cl.obj ⟨kind, s, s', n, bb, kn, bv, kv⟩) :: ks) := by rw [← hW]; exact PP.box h _
  obtain ⟨y0, y1, y2, y3, y4, y5⟩ := Cl.cells (PP.at' hb List.mem_cons_self)
  obtain ⟨p, hp⟩ : ∃ p, w1.heap.size = p := ⟨_, rfl⟩
  rw [hp] at hb y0 y1 y2 y3 y4 y5
  obtain ⟨hB, hBl⟩ := i.rd s
  have HPP : Hid (PS w0 W D R sy dl ((p, Cl.obj ⟨kind, s, s', n, bb, kn, bv, kv⟩) :: ks)) := hb
  have HD : Hid (∀ V kk, PS w0 V D R sy dl kk → (∃ F, DR V D F sy dl) ∧ ∃ G, MR V R G sy dl) := fun V kk hV => by
    obtain ⟨⟨F, G, h1, h2, -⟩, -⟩ := hV
    exact ⟨⟨F, h1⟩, G, h2⟩
  have HP : Hid (∀ V kk, PS w0 V D R sy dl kk → Calls Try.prog 20 #[.pointer (some ⟨D, 0, none⟩), .string (tx s)] V fun e w' => ∃ a cap, e = .returned (.tuple #[.slice a (rdB s dl).length cap, .int .i64 (rdE s dl)]) ∧ w'.ownsRow V.heap.size 5 1 (.slice a (rdB s dl).length cap) (rdB s dl).length (u8l (rdB s dl)) ∧ Below V.heap.size V w') := fun V kk hV => by
    obtain ⟨F, hF⟩ := (HD.out V kk hV).1
    exact p_read hF i s
  have HM : Hid (∀ V kk, PS w0 V D R sy dl kk → Calls Try.prog 40 #[.pointer (some ⟨R, 0, none⟩), .string (tx s)] V fun e w' => ∃ a cap, e = .returned (.tuple #[.slice a (rdB s dl).length cap, .int .i64 (rdE s dl)]) ∧ w'.ownsRow V.heap.size 5 1 (.slice a (rdB s dl).length cap) (rdB s dl).length (u8l (rdB s dl)) ∧ Below V.heap.size V w') := fun V kk hV => by
    obtain ⟨G, hG⟩ := (HD.out V kk hV).2
    exact m_read hG i s
  have HL : Hid (∀ V kk, PS w0 V D R sy dl kk → Calls Try.prog 27 #[.pointer (some ⟨D, 0, none⟩), .string (tx s)] V fun e w' => e = .returned (.tuple #[.int .i64 ((rdB s dl).length : Int), .int .i64 (rdE s dl)]) ∧ w' = V) := fun V kk hV => by
    obtain ⟨F, hF⟩ := (HD.out V kk hV).1
    exact p_len hF i s
  have HOP : Hid (∀ (V : World) (kk : List (Nat × Obj)), PS w0 V D R sy dl (kk ++ (p, Cl.obj ⟨kind, s, s', n, bb, kn, bv, kv⟩) :: ks) → V.cell? ⟨p, 1, none⟩ = some (.string (tx s))) := fun V kk hV => (Cl.cells (PP.at' hV (List.mem_append_right kk List.mem_cons_self))).2.1
  have HI : Hid (Inv (k + 1) sy dl) := i.more
  have HO : Hid (Ord dl → Ord dl) := fun h => h
  obtain ⟨B, hBe⟩ : ∃ B, rdB s dl = B := ⟨_, rfl⟩
  obtain ⟨E, hEe⟩ : ∃ E, rdE s dl = E := ⟨_, rfl⟩
  rw [hBe, hEe] at HP HM HL
  rw [hBe] at hB hBl
  obtain ⟨N, hN⟩ : ∃ N, B.length = N := ⟨_, rfl⟩
  have HB : Hid (Byt B ∧ B.length ≤ 1048576) := ⟨hB, hBl⟩
  have hNi : (N : Int) ≤ 1048576 := by omega
  have HT : Hid (∀ (V : World) (v : Value), Src V v B → (convert 31 9 v).run Try.prog V = .ok (.string ⟨(strB B).toArray⟩) V) := fun V v hV => Src.conv hV hB
  obtain ⟨T, hT⟩ : ∃ T : ByteArray, (⟨(strB B).toArray⟩ : ByteArray) = T := ⟨_, rfl⟩
  rw [hT] at HT
  have HNN : Hid (B.length = N) := hN
  have hTT : (T.toList == T.toList) = true := by simp
  unfold Cl.obj at hW
  unfold Cl.val
  dsimp only at hW ⊢
  subst hbv hkv
  clear h hb i hc hB hBl hBe hEe hT hN
  go_enter Try.func11, Try.ntmps11
  go_upto_region 17 with (fail)
  clear hW
  try rw [hp]
  clear hp y0 y2 y3 y4 y5
  go_upto_region 18 with (go_at_call 20; refine (HP.out W _ HPP.out).mono ?_; rintro e w4 ⟨a4, c4, rfl, hr4, hb4⟩; (have HR4 : Hid (w4.ownsRow W.heap.size 5 1 (.slice a4 B.length c4) B.length (u8l B) ∧ Below W.heap.size W w4) := ⟨hr4, hb4⟩); clear hr4 hb4)
  obtain ⟨k4, hk4, HS4⟩ : ∃ kk, PS w0 w4 D R sy dl (kk ++ (p, Cl.obj ⟨kind, s, s', n, bb, kn, .slice ba bn bc, .slice ka kkn kc⟩) :: ks) ∧ Hid (∀ V ka', PS w0 V D R sy dl (ka' ++ (kk ++ (p, Cl.obj ⟨kind, s, s', n, bb, kn, .slice ba bn bc, .slice ka kkn kc⟩) :: ks)) → Src V (.slice a4 B.length c4) B ∧ Calls Try.prog 34 #[.slice a4 B.length c4] V fun e w3 => (∃ u, e = .returned u) ∧ Hid (PS w0 w3 D R sy dl ((p, Cl.obj ⟨kind, s, s', n, bb, kn, .slice ba bn bc, .slice ka kkn kc⟩) :: ks))) := PP.rowNew HPP.out HR4.out.2 HR4.out.1 HB.out.1 (by have := HB.out.2; omega)
  have HK4 : Hid (PS w0 w4 D R sy dl (k4 ++ (p, Cl.obj ⟨kind, s, s', n, bb, kn, .slice ba bn bc, .slice ka kkn kc⟩) :: ks)) := hk4
  clear hk4 y1
  have y1 := HOP.out w4 _ HK4.out
  go_upto_region 19 with (go_at_call 40; refine (HM.out w4 _ HK4.out).mono ?_; rintro e w5 ⟨a5, c5, rfl, hr5, hb5⟩; (have HR5 : Hid (w5.ownsRow w4.heap.size 5 1 (.slice a5 B.length c5) B.length (u8l B) ∧ Below w4.heap.size w4 w5) := ⟨hr5, hb5⟩); clear hr5 hb5)
  have HK5 : Hid (PS w0 w5 D R sy dl (k4 ++ (p, Cl.obj ⟨kind, s, s', n, bb, kn, .slice ba bn bc, .slice ka kkn kc⟩) :: ks)) := PP.newer HK4.out HR5.out.2
  clear y1
  have y1 := HOP.out w5 _ HK5.out
  go_upto_region 20 with (go_at_call 27; refine (HL.out w5 _ HK5.out).mono ?_; rintro e w6 ⟨rfl, hw6⟩; rw [hw6]; clear hw6)
  have t4 := HT.out w5 _ (HS4.out w5 [] HK5.out).1
  have t5 := HT.out w5 _ (own_src HR5.out.1)
  have HSP := (HS4.out w5 [] HK5.out).2
  rw [HNN.out] at t4 t5 HSP ⊢
  have HSP : Hid _ := HSP
  go_wp2_with (go_at_call 34; go_loud (refine Calls.mono HSP.out ?_; rintro e w7 ⟨⟨u7, rfl⟩, HM7⟩))
  go_ret
  exact ⟨rfl, _, _, PP.less HM7.out fun q hq => List.mem_cons_of_mem _ hq, HI.out, HO.out⟩
end Go.Proofs.Ytmlbojihjgbdlaa.D

/- The fixed run. -/
namespace Go.Proofs.Ytmlbojihjgbdlaa
open Go.RowKit
set_option linter.unusedVariables false
set_option linter.unusedSimpArgs false

theorem src_new (w : World) (zs : List Int) (n : Nat) (hn : zs.length = n) : Src5 (w.alloc (.cells (u8l zs).toArray 5 (n, n + 1))) (.slice (some ⟨w.heap.size, 0, none⟩) n n) zs := by
  subst hn
  intro W hW
  have hb : W.heap[w.heap.size]? = some (.cells (u8l zs).toArray 5 (zs.length, zs.length + 1)) := (hW _ _ _ (Go.heap_alloc_new _ _)).trans (Go.heap_alloc_new _ _)
  refine .inr ⟨⟨w.heap.size, 0, none⟩, zs.length, rfl, Nat.le_refl _, fun j u hu => ?_⟩
  rw [Addr.add_mid, Nat.zero_add, cell_of_row _ _ _ _ _ _ hb]
  simpa using hu
theorem new70 (w : World) : Calls Try.prog 8 #[] w fun e w' => e = .returned (.pointer (some ⟨w.heap.size, 0, none⟩)) ∧ w' = w.alloc (.cells #[.map none, .int .i64 0] 70) := by
  go_enter Try.func8, Try.ntmps8
  go_wp2
  go_ret
  exact ⟨rfl, rfl⟩
theorem str_bytes (w : World) (base : Nat) (v : Value) (h : w.ownsRow base 5 1 v 7 (u8l [97, 98, 99, 0, 0, 102, 103])) : (convert 31 9 v).run Try.prog w = .ok (.string ⟨#[97, 98, 99, 0, 0, 102, 103]⟩) w := by
  obtain ⟨g, cap, rfl⟩ := own_form h (by decide)
  refine run_convert_bytes_back (P := Try.prog) w 31 9 5 ⟨g, 0, none⟩ cap [97, 98, 99, 0, 0, 102, 103] Try.underlying31 Try.underlying5 Try.underlying9 (fun j hj => ?_)
  rw [Addr.add_mid, Nat.zero_add, h.cellAt j (by simpa using hj)]
  have hj' : j < 7 := by simpa using hj
  rcases (show j = 0 ∨ j = 1 ∨ j = 2 ∨ j = 3 ∨ j = 4 ∨ j = 5 ∨ j = 6 from by omega) with rfl | rfl | rfl | rfl | rfl | rfl | rfl <;> rfl
set_option maxRecDepth 20000 in
set_option maxHeartbeats 8000000 in
theorem known_any (w : World) : Calls Try.prog 13 #[] w fun e w' => e = .returned (.bool true) ∧ Below w.heap.size w w' := by
  have hcv : ∀ (C : Array Value) (n c : Nat) (W : World), (convert 31 31 (.slice (some ⟨W.heap.size, 0, none⟩) n c)).run Try.prog (W.alloc (.cells C 5)) = .ok (.slice (some ⟨W.heap.size, 0, none⟩) n c) (W.alloc (.cells C 5 (C.size, C.size + 1))) := fun C n c W => Lib.run_convert_bytes_const W 31 5 C n c Try.underlying31 Try.underlying5
  go_enter Try.func13, Try.ntmps13
  go_wp2_with fail
  refine (new70 w).mono ?_
  rintro e w1 ⟨rfl, hw1⟩
  have HD1 : Hid (w1.heap[w.heap.size]? = some (.cells #[.map none, .int .i64 0] 70 (0, 0)) ∧ Below w.heap.size w w1) := by rw [hw1]; exact ⟨Go.heap_alloc_new _ _, bel1 _ _⟩
  clear hw1
  go_wp2_with fail
  have hlt1 := (Array.getElem?_eq_some_iff.1 HD1.out.1).1
  refine (append_first w.heap.size w.heap.size 0 (.slice (some ⟨w1.heap.size, 0, none⟩) 3 3) [97, 98, 99] _ ((Below.heap_alloc _ _ _ hlt1).trans HD1.out.1) (Nat.le_refl _) (src_new w1 [97, 98, 99] 3 rfl) (by decide) (by decide)).mono ?_
  rintro e w2 ⟨rfl, ⟨B, F, d2, b2, ho2⟩, hb2⟩
  have HB2 : Hid (Below w.heap.size w w2) := (HD1.out.2.trans ((bel1 w1 _).mono HD1.out.2.size)).trans hb2
  clear hb2 hlt1 HD1
  go_wp2_with fail
  refine (sync_one w.heap.size w.heap.size B F 0 d2 b2 _ _ w2 ho2 (by decide) (by decide)).mono ?_
  rintro e w3 ⟨rfl, ho3, hb3⟩
  have HB3 : Hid (Below w.heap.size w w3) := HB2.out.trans hb3
  clear hb3 ho2
  have HO3 : Hid (One w3 w.heap.size w.heap.size B F (0 + 1) d2 (.slice none 0 0) [97, 98, 99] []) := ho3
  clear ho3
  go_wp2_with fail
  refine (append_more w.heap.size w.heap.size B F (0 + 1) d2 _ (.slice (some ⟨w3.heap.size, 0, none⟩) 2 2) [97, 98, 99] [] [100, 101] _ (HO3.out.keep (bel1 _ _)) (src_new w3 [100, 101] 2 rfl) (by decide) (by decide) (by decide)).mono ?_
  rintro e w4 ⟨rfl, ⟨d4, b4, ho4⟩, hb4⟩
  have HB4 : Hid (Below w.heap.size w w4) := (HB3.out.trans ((bel1 w3 _).mono HB3.out.size)).trans hb4
  have HO4 : Hid (One w4 w.heap.size w.heap.size B F (0 + 1) d4 b4 [97, 98, 99, 100, 101] [3]) := ho4
  clear hb4 ho4 HO3
  go_wp2_with fail
  refine (append_more w.heap.size w.heap.size B F (0 + 1) d4 b4 (.slice (some ⟨w4.heap.size, 0, none⟩) 3 3) [97, 98, 99, 100, 101] [3] [102, 103, 104] _ (HO4.out.keep (bel1 _ _)) (src_new w4 [102, 103, 104] 3 rfl) (by decide) (by decide) (by decide)).mono ?_
  rintro e w5 ⟨rfl, ⟨d5, b5, ho5⟩, hb5⟩
  have HB5 : Hid (Below w.heap.size w w5) := (HB4.out.trans ((bel1 w4 _).mono HB4.out.size)).trans hb5
  have HO5 : Hid (One w5 w.heap.size w.heap.size B F (0 + 1) d5 b5 [97, 98, 99, 100, 101, 102, 103, 104] [3, 5]) := ho5
  clear hb5 ho5 HO4
  go_wp2_with fail
  obtain ⟨W6, hW6⟩ : ∃ W6, (w5.alloc (.cells #[.int .i64 0, .int .i64 2] 3)).alloc (.cells #[.string ⟨#[97]⟩, .slice (some ⟨w5.heap.size, 0, none⟩) 2 2] 45) = W6 := ⟨_, rfl⟩
  have hb56 : Below w5.heap.size w5 W6 := by rw [← hW6]; exact ((Below.refl _ w5).alloc (Nat.le_refl _) _).alloc (by simp) _
  have hr1 : W6.heap[w5.heap.size]? = some (.cells #[.int .i64 0, .int .i64 2] 3 (0, 0)) := by rw [← hW6]; exact (Below.heap_alloc _ _ _ (by simp)).trans (Go.heap_alloc_new _ _)
  have hr2 : W6.heap[w5.heap.size + 1]? = some (.cells #[.string ⟨#[97]⟩, .slice (some ⟨w5.heap.size, 0, none⟩) 2 2] 45 (0, 0)) := by
    rw [← hW6]
    have h := Go.heap_alloc_new (w5.alloc (.cells #[.int .i64 0, .int .i64 2] 3)) (.cells #[.string ⟨#[97]⟩, .slice (some ⟨w5.heap.size, 0, none⟩) 2 2] 45)
    simp only [World.size_alloc] at h
    exact h
  try rw [hW6]
  refine (crash_one w.heap.size w.heap.size B F (0 + 1) d5 b5 W6 (HO5.out.keep hb56) (w5.heap.size + 1) 1 w5.heap.size 2 (by rw [cell_of_row _ _ _ _ _ _ hr2]; rfl) (by rw [cell_of_row _ _ _ _ _ _ hr2]; rfl) (by decide) (by rw [cell_of_row _ _ _ _ _ _ hr1]; rfl) (by rw [cell_of_row _ _ _ _ _ _ hr1]; rfl) (by decide)).mono ?_
  rintro e w7 ⟨rfl, ⟨d7, ho7⟩, hb7⟩
  have HB7 : Hid (Below w.heap.size w w7) := (HB5.out.trans (hb56.mono HB5.out.size)).trans hb7
  have HO7 : Hid (One w7 w.heap.size w.heap.size B F (0 + 1) d7 (.slice none 0 0) [97, 98, 99, 0, 0, 102, 103] []) := ho7
  clear hb7 ho7 hr1 hr2 hb56 hW6 HO5
  go_wp2_with fail
  refine (read_one w.heap.size w.heap.size B F (0 + 1) d7 _ _ _ w7 HO7.out (by decide)).mono ?_
  rintro e w8 ⟨⟨v8, rfl, ho8⟩, hb8⟩
  have ho8' : w8.ownsRow w7.heap.size 5 1 v8 7 (u8l [97, 98, 99, 0, 0, 102, 103]) := ho8
  have hst := str_bytes w8 _ v8 ho8'
  have HB8 : Hid (Below w.heap.size w w8) := HB7.out.trans (hb8.mono HB7.out.size)
  obtain ⟨a8, c8, hv8⟩ := own_slice ho8'
  clear ho8 ho8' hb8
  subst hv8
  go_wp2_with fail
  go_ret
  exact ⟨rfl, HB8.out⟩
end Go.Proofs.Ytmlbojihjgbdlaa

/- One call of both, any; all calls of an input. -/
namespace Go.Proofs.Ytmlbojihjgbdlaa.D
open Go.RowKit
set_option linter.unusedVariables false
set_option linter.unusedSimpArgs false

variable {w w0 w1 w2 : World} {D R k : Nat} {sy : Int} {dl : List Fd} {ks : List (Nat × Obj)} {c : Cl}
theorem PS.call_any (h : PS w0 w1 D R sy dl ks) (i : Inv k sy dl) (hk : k ≤ 1000) (hc : c.In w0) : Calls Try.prog 11 #[.pointer (some ⟨D, 0, none⟩), .pointer (some ⟨R, 0, none⟩), c.val] w1 fun e w2 => e = .returned (.bool true) ∧ Hid (PN w0 w2 D R k dl ks) := by
  by_cases h0 : c.kind = 0
  · exact h.c_append i hk hc h0
  by_cases h1 : c.kind = 1
  · exact h.c_sync i hk hc h1
  by_cases h2 : c.kind = 2
  · exact h.c_cut i hk hc h2
  by_cases h3 : c.kind = 3
  · exact h.c_move i hk hc h3
  by_cases h4 : c.kind = 4
  · exact h.c_remove i hk hc h4
  by_cases h5 : c.kind = 5
  · exact h.c_crash i hk hc h5
  exact h.c_read i hc ⟨h0, h1, h2, h3, h4, h5⟩
/-- Calls that came in. -/
def OpsIn (w : World) (v : Value) (cs : List Cl) : Prop := ∃ a cap, v = .slice a cs.length cap ∧ cs.length ≤ cap ∧ ∀ (i : Nat) (c : Cl), cs[i]? = some c → c.In w ∧ ∃ b off, a = some ⟨b, off, none⟩ ∧ b < w.heap.size ∧ w.cell? ⟨b, off + i * 6, none⟩ = some (.int .i64 c.kind) ∧ w.cell? ⟨b, off + i * 6 + 1, none⟩ = some (.string (tx c.nm)) ∧ w.cell? ⟨b, off + i * 6 + 2, none⟩ = some (.string (tx c.nm2)) ∧ w.cell? ⟨b, off + i * 6 + 3, none⟩ = some (.int .i64 c.n) ∧ w.cell? ⟨b, off + i * 6 + 4, none⟩ = some c.bv ∧ w.cell? ⟨b, off + i * 6 + 5, none⟩ = some c.kv
theorem ps_new (w : World) : ∃ W1 W2, w.alloc (.cells #[.map none, .int .i64 0] 70) = W1 ∧ W1.alloc (.cells #[.slice none 0 0, .int .i64 0] 29) = W2 ∧ W1.heap.size = w.heap.size + 1 ∧ PS w W2 w.heap.size (w.heap.size + 1) 0 [] [] := by
  refine ⟨_, _, rfl, rfl, by simp, ?_⟩
  have hb1 := bel1 w (.cells #[.map none, .int .i64 0] 70)
  obtain ⟨W1, hW⟩ : ∃ W1, w.alloc (.cells #[.map none, .int .i64 0] 70) = W1 := ⟨_, rfl⟩
  have hs : W1.heap.size = w.heap.size + 1 := by rw [← hW]; simp
  have hD : DR W1 w.heap.size (fun q => q = w.heap.size) 0 [] := ⟨.inl ⟨rfl, by rw [← hW]; exact heap_alloc_new _ _, fun q => Iff.rfl⟩⟩
  rw [hW] at hb1 ⊢
  have hb2 := bel1 W1 (.cells #[.slice none 0 0, .int .i64 0] 29)
  have hM : MS (W1.alloc (.cells #[.slice none 0 0, .int .i64 0] 29)) (w.heap.size + 1) (.slice none 0 0) [] 0 := ⟨by rw [← hs]; exact heap_alloc_new _ _, World.ownsRow_nil _ _ _ _, (fun t ht => nomatch ht), .nil⟩
  have hG : ∀ q, GM (w.heap.size + 1) (.slice none 0 0) [] q → q = w.heap.size + 1 := by
    rintro q (h | h | ⟨t, ht, -⟩)
    · exact h
    · cases h
    · cases ht
  exact ⟨⟨_, _, hD.newer hb2, hM.mr, fun q hq => by rw [hq]; exact Nat.le_refl _, fun q hq => by rw [hG q hq]; omega, fun q hq e => by have := hG q e; omega, fun p hp => by simp at hp⟩, hb1.trans (hb2.mono hb1.size)⟩
theorem inv_nil : Inv 0 0 [] := ⟨by decide, (fun x hx => nomatch hx), Int.le_refl _, Int.le_refl _⟩
/-- Behind all calls. -/
def PD (w0 w2 : World) (D R : Nat) : Prop := ∃ sy dl, PS w0 w2 D R sy dl [] ∧ Inv 120 sy dl ∧ Ord dl
theorem Inv.to {m : Nat} (h : Inv k sy dl) (hm : k ≤ m) : Inv m sy dl := ⟨h.len, fun y hy => by obtain ⟨a1, a2, a3, a4⟩ := h.each y hy; exact ⟨a1, a2, by omega, a4⟩, h.lo, by have := h.hi; omega⟩
set_option maxRecDepth 100000 in
set_option maxHeartbeats 16000000 in
theorem played_any {ov : Value} {cs : List Cl} (hx : OpsIn w ov cs) (hl : cs.length ≤ 1048576) : Calls Try.prog 14 #[ov] w fun e w' => ∃ D R, e = .returned (.tuple #[.pointer (some ⟨D, 0, none⟩), .pointer (some ⟨R, 0, none⟩)]) ∧ Hid (PD w w' D R) := by
  have HX : Hid (OpsIn w ov cs) := hx
  obtain ⟨sa, cap, rfl, hcap, -⟩ := hx
  obtain ⟨len, hlen⟩ : ∃ len, cs.length = len := ⟨_, rfl⟩
  have HN : Hid (cs.length = len) := hlen
  rw [hlen] at hl hcap HX ⊢
  obtain ⟨W1, W2, e1, e2, e3, hP⟩ := ps_new w
  have HP : Hid (PS w W2 w.heap.size (w.heap.size + 1) 0 [] []) := hP
  have HNEW : Hid (Calls Try.prog 8 #[] w fun e w' => e = .returned (.pointer (some ⟨w.heap.size, 0, none⟩)) ∧ w' = W1) := by
    rw [← e1]
    exact new70 w
  obtain ⟨R, hR⟩ : ∃ R, w.heap.size + 1 = R := ⟨_, rfl⟩
  obtain ⟨D, hD⟩ : ∃ D, w.heap.size = D := ⟨_, rfl⟩
  rw [hR] at e3 HP
  rw [hD] at HP HNEW
  have hcapi : (len : Int) ≤ (cap : Int) := by omega
  have hli : (len : Int) ≤ 1048576 := by omega
  clear hlen hP e1 hcap hR hD hl
  go_enter Try.func14, Try.ntmps14
  go_upto_region 6 with (go_at_call 8; refine HNEW.out.mono ?_; rintro e w1 ⟨rfl, hw1⟩; rw [hw1]; clear hw1)
  clear HNEW e2 e3
  go_loopw [6] (fun b wx => ∃ (i : Nat) (sy : Int) (dl : List Fd), b = .int .i64 (i : Int) ∧ i ≤ 120 ∧ i ≤ len ∧ Hid (Inv i sy dl ∧ Ord dl) ∧ Hid (PS w wx D R sy dl [])) (fun b wx => 120 - (intOf b).toNat)
  case atStart => exact ⟨0, 0, [], rfl, by omega, by omega, ⟨inv_nil, ord_nil⟩, HP⟩
  case round =>
    obtain ⟨i, sy, dl, rfl, hi, hil, HI, H⟩ := hrel
    by_cases cl : i < len ∧ i < 120
    · have cl' : (i : Int) < (len : Int) := by omega
      have c2' : (i : Int) < 120 := by omega
      obtain ⟨c, hxx⟩ : ∃ c, cs[i]? = some c := ⟨_, List.getElem?_eq_getElem (by have := HN.out; omega)⟩
      obtain ⟨sa', cap', e0, -, hops⟩ := HX.out
      obtain ⟨hin, b, off, e, hlt, y0, y1, y2, y3, y4, y5⟩ := hops i c hxx
      have HCI : Hid (c.In w) := hin
      have e0' : sa' = sa := by injection e0 with e0; exact e0.symm
      rw [e0'] at e
      subst e
      have hcl : ∀ (j : Nat) (u : Value), w.cell? ⟨b, j, none⟩ = some u → wr.cell? ⟨b, j, none⟩ = some u := fun j u hu => (cell_same (H.out.bel.block b hlt)).trans hu
      replace y0 := hcl _ _ y0
      replace y1 := hcl _ _ y1
      replace y2 := hcl _ _ y2
      replace y3 := hcl _ _ y3
      replace y4 := hcl _ _ y4
      replace y5 := hcl _ _ y5
      have HCA : Hid (Calls Try.prog 11 #[.pointer (some ⟨D, 0, none⟩), .pointer (some ⟨R, 0, none⟩), c.val] wr fun e w2 => e = .returned (.bool true) ∧ Hid (PN w w2 D R i dl [])) := PS.call_any H.out HI.out.1 (by omega) hin
      obtain ⟨ba, bc, hbv, -⟩ := hin.by'
      obtain ⟨ka, kc, hkv, -⟩ := hin.kp
      obtain ⟨kind, s, s', n, bb, kn, bv, kv⟩ := c
      unfold Cl.val at HCA
      dsimp only at y0 y1 y2 y3 y4 y5 hbv hkv HCA
      generalize bb.length = bn at hbv
      generalize kn.length = kkn at hkv
      subst hbv hkv
      have HII : Hid (i < 120 ∧ i < len) := ⟨cl.2, cl.1⟩
      have HOR : Hid (Ord dl) := HI.out.2
      clear hcl hops e0 e0' hin hlt hxx cl hi hil H HI HX
      go_wp2_with (go_at_call 11; refine HCA.out.mono ?_; rintro e w4 ⟨rfl, HM4⟩)
      go_roundw
      case rel =>
        obtain ⟨sy', dl', k1, k2, k3⟩ := HM4.out
        exact ⟨i + 1, sy', dl', by go_num, by have := HII.out; omega, by have := HII.out; omega, ⟨k2, k3 HOR.out⟩, k1⟩
      case measure => have := HII.out; simp [intOf]; omega
    · have HE : Hid (PD w wr D R) := ⟨sy, dl, H.out, HI.out.1.to hi, HI.out.2⟩
      by_cases c1 : i < len
      · have hi' : i = 120 := by omega
        subst hi'
        have c1' : ((120 : Nat) : Int) < (len : Int) := by omega
        rw [show ((120 : Nat) : Int) = 120 from rfl] at c1' ⊢
        clear cl c1 hi hil H HI
        go_wp2_with fail
        go_ret2
        exact ⟨_, _, rfl, HE⟩
      · have c1' : ¬ (i : Int) < (len : Int) := by omega
        clear cl c1 hi hil H HI
        go_wp2_with fail
        go_ret2
        exact ⟨_, _, rfl, HE⟩
end Go.Proofs.Ytmlbojihjgbdlaa.D
