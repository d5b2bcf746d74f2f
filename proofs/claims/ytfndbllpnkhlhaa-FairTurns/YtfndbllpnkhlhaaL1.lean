/- What is asked of the program's scheduler; the fixed run. -/
import Derived.Test.YtfndbllpnkhlhaaP0
import Derived.Test.YtfndbllpnkhlhaaProg
namespace Go.Proofs.Ytfndbllpnkhlhaa
open Go.RowKit
set_option linter.unusedVariables false
set_option linter.unusedSimpArgs false

/-- All that is not in some blocks lies as it lay; these are joined by new ones alone. -/
structure Fr (F F' : Nat → Prop) (w w' : World) : Prop where
  os : w'.os = w.os
  tape : w'.tape = w.tape
  output : w'.output = w.output
  size : w.heap.size ≤ w'.heap.size
  block : ∀ q, q < w.heap.size → ¬ F q → w'.heap[q]? = w.heap[q]?
  grow : ∀ q, F' q → F q ∨ w.heap.size ≤ q
theorem Fr.below {F F' : Nat → Prop} {w w' : World} {base : Nat} (h : Fr F F' w w') (hF : ∀ q, F q → base ≤ q) (hb : base ≤ w.heap.size) : Below base w w' :=
  ⟨h.os, h.tape, h.output, h.size, fun q hq => h.block q (by omega) fun hf => by have := hF q hf; omega⟩
theorem Fr.low {F F' : Nat → Prop} {w w' : World} {base : Nat} (h : Fr F F' w w') (hF : ∀ q, F q → base ≤ q) (hb : base ≤ w.heap.size) : ∀ q, F' q → base ≤ q := fun q hq => by
  rcases h.grow q hq with h' | h'
  · exact hF q h'
  · omega
def ansV (a : Ans) : Value := .tuple #[.string (tx a.nm), .agg #[.int .i64 a.id, .int .i64 a.cost], .bool a.don, .bool a.some]
/-- What is asked of the program's scheduler. -/
structure PrgS (PF : World → Nat → (Nat → Prop) → Sc → Prop) : Prop where
  at' : ∀ {w w' : World} {T : Nat} {F : Nat → Prop} {s : Sc}, PF w T F s → (∀ q, F q → w'.heap[q]? = w.heap[q]?) → PF w' T F s
  lt : ∀ {w : World} {T : Nat} {F : Nat → Prop} {s : Sc}, PF w T F s → ∀ q, F q → q < w.heap.size
  new : ∀ w : World, Calls Try.prog 17 #[] w fun e w' => ∃ T F, e = .returned (.pointer (some ⟨T, 0, none⟩)) ∧ PF w' T F newS ∧ (∀ q, F q → w.heap.size ≤ q) ∧ Below w.heap.size w w'
  set : ∀ (N : Int) (T : Nat) (F : Nat → Prop) (s : Sc) (nm : List UInt8) (wt : Int) (w : World), PF w T F s → Sok N s → N ≤ 100000 →
    Calls Try.prog 20 #[.pointer (some ⟨T, 0, none⟩), .string (tx nm), .int .i64 wt] w fun e w' => e = .returned (.int .i64 (setS s nm wt).1) ∧ ∃ F', PF w' T F' (setS s nm wt).2 ∧ Fr F F' w w'
  push : ∀ (N : Int) (T : Nat) (F : Nat → Prop) (s : Sc) (nm : List UInt8) (id cost : Int) (w : World), PF w T F s → Sok N s → N ≤ 100000 →
    Calls Try.prog 21 #[.pointer (some ⟨T, 0, none⟩), .string (tx nm), .agg #[.int .i64 id, .int .i64 cost]] w fun e w' => e = .returned (.int .i64 (pushS s nm id cost).1) ∧ ∃ F', PF w' T F' (pushS s nm id cost).2 ∧ Fr F F' w w'
  step : ∀ (N : Int) (T : Nat) (F : Nat → Prop) (s : Sc) (w : World), PF w T F s → Sok N s → N ≤ 100000 →
    Calls Try.prog 22 #[.pointer (some ⟨T, 0, none⟩)] w fun e w' => e = .returned (ansV (stepS s).1) ∧ ∃ F', PF w' T F' (stepS s).2 ∧ Fr F F' w w'
variable {PF : World → Nat → (Nat → Prop) → Sc → Prop}
theorem PrgS.later (G : PrgS PF) {w w' : World} {T B : Nat} {F : Nat → Prop} {s : Sc} (h : PF w T F s) (hb : Below B w w') (hB : w.heap.size ≤ B) : PF w' T F s := G.at' h fun q hq => hb.block q (by have := G.lt h q hq; omega)
/-- A scheduler from a place on. -/
def S1 (PF : World → Nat → (Nat → Prop) → Sc → Prop) (base : Nat) (w : World) (T : Nat) (s : Sc) : Prop := ∃ F, PF w T F s ∧ (∀ q, F q → base ≤ q) ∧ base ≤ w.heap.size
theorem s1_step {base : Nat} {w w' : World} {T : Nat} {F F' : Nat → Prop} {s' : Sc} (hF : ∀ q, F q → base ≤ q) (hb : base ≤ w.heap.size) (h1 : PF w' T F' s') (h2 : Fr F F' w w') : S1 PF base w' T s' ∧ Below base w w' :=
  ⟨⟨F', h1, h2.low hF hb, by have := h2.size; omega⟩, h2.below hF hb⟩
theorem S1.later (G : PrgS PF) {base B : Nat} {w w' : World} {T : Nat} {s : Sc} (h : S1 PF base w T s) (hb : Below B w w') (hB : w.heap.size ≤ B) : S1 PF base w' T s := by
  obtain ⟨F, h1, h2, h3⟩ := h
  exact ⟨F, G.later h1 hb hB, h2, by have := hb.size; omega⟩
theorem S1.new (G : PrgS PF) (w : World) : Calls Try.prog 17 #[] w fun e w' => ∃ T, e = .returned (.pointer (some ⟨T, 0, none⟩)) ∧ S1 PF w.heap.size w' T newS ∧ Below w.heap.size w w' :=
  (G.new w).mono fun e w' ⟨T, F, h0, h1, h2, h3⟩ => ⟨T, h0, ⟨F, h1, h2, h3.size⟩, h3⟩
theorem S1.set (G : PrgS PF) {base : Nat} {N : Int} {T : Nat} {s : Sc} {nm : List UInt8} {wt : Int} {w : World} (h : S1 PF base w T s) (hs : Sok N s) (hN : N ≤ 100000) :
    Calls Try.prog 20 #[.pointer (some ⟨T, 0, none⟩), .string (tx nm), .int .i64 wt] w fun e w' => e = .returned (.int .i64 (setS s nm wt).1) ∧ S1 PF base w' T (setS s nm wt).2 ∧ Below base w w' := by
  obtain ⟨F, h1, h2, h3⟩ := h
  exact (G.set N T F s nm wt w h1 hs hN).mono fun e w' ⟨h0, F', k1, k2⟩ => ⟨h0, s1_step h2 h3 k1 k2⟩
theorem S1.push (G : PrgS PF) {base : Nat} {N : Int} {T : Nat} {s : Sc} {nm : List UInt8} {id cost : Int} {w : World} (h : S1 PF base w T s) (hs : Sok N s) (hN : N ≤ 100000) :
    Calls Try.prog 21 #[.pointer (some ⟨T, 0, none⟩), .string (tx nm), .agg #[.int .i64 id, .int .i64 cost]] w fun e w' => e = .returned (.int .i64 (pushS s nm id cost).1) ∧ S1 PF base w' T (pushS s nm id cost).2 ∧ Below base w w' := by
  obtain ⟨F, h1, h2, h3⟩ := h
  exact (G.push N T F s nm id cost w h1 hs hN).mono fun e w' ⟨h0, F', k1, k2⟩ => ⟨h0, s1_step h2 h3 k1 k2⟩
theorem S1.step (G : PrgS PF) {base : Nat} {N : Int} {T : Nat} {s : Sc} {w : World} (h : S1 PF base w T s) (hs : Sok N s) (hN : N ≤ 100000) :
    Calls Try.prog 22 #[.pointer (some ⟨T, 0, none⟩)] w fun e w' => e = .returned (.tuple #[.string (tx (stepS s).1.nm), .agg #[.int .i64 (stepS s).1.id, .int .i64 (stepS s).1.cost], .bool (stepS s).1.don, .bool (stepS s).1.some]) ∧ S1 PF base w' T (stepS s).2 ∧ Below base w w' := by
  obtain ⟨F, h1, h2, h3⟩ := h
  exact (G.step N T F s w h1 hs hN).mono fun e w' ⟨h0, F', k1, k2⟩ => ⟨h0, s1_step h2 h3 k1 k2⟩
/-! The fixed run. -/
def ks0 : Sc := (pushS (pushS (pushS (setS (setS newS [97] 1).2 [98] 2).2 [97] 1 2).2 [98] 2 2).2 [98] 3 2).2
def ks : Nat → Sc
  | 0 => ks0
  | k + 1 => (stepS (ks k)).2
theorem ks0_ok : Sok 3 ks0 := push_ok (by decide) (push_ok (by decide) (push_ok (N := 0) (by decide) (set_ok (set_ok (new_ok (Int.le_refl _)) _ _) _ _) _ _ _) _ _ _) _ _ _
theorem ks_ok : ∀ k, Sok 3 (ks k)
  | 0 => ks0_ok
  | k + 1 => step_ok (by decide) (ks_ok k)
theorem ka0 : (stepS (ks 0)).1 = ⟨[97], 1, 2, false, true⟩ := by kernel_rfl
theorem ka1 : (stepS (ks 1)).1 = ⟨[97], 1, 2, true, true⟩ := by kernel_rfl
theorem ka2 : (stepS (ks 2)).1 = ⟨[98], 2, 2, false, true⟩ := by kernel_rfl
theorem ka3 : (stepS (ks 3)).1 = ⟨[98], 2, 2, true, true⟩ := by kernel_rfl
theorem ka4 : (stepS (ks 4)).1 = ⟨[98], 3, 2, false, true⟩ := by kernel_rfl
theorem ka5 : (stepS (ks 5)).1 = ⟨[98], 3, 2, true, true⟩ := by kernel_rfl
def kn : Nat → Int
  | 0 => 0
  | 1 => 0
  | 2 => 1
  | 3 => 1
  | 4 => 12
  | 5 => 12
  | _ => 123
set_option maxRecDepth 20000 in
set_option maxHeartbeats 4000000 in
theorem known_any (G : PrgS PF) (w : World) : Calls Try.prog 10 #[] w fun e w' => e = .returned (.bool true) ∧ Below w.heap.size w w' := by
  have HG : Hid (PrgS PF) := G
  have ea : ({ data := #[97] } : ByteArray) = tx [97] := rfl
  have eb : ({ data := #[98] } : ByteArray) = tx [98] := rfl
  have ok0 : Sok 0 (setS newS [97] 1).2 := set_ok (new_ok (Int.le_refl _)) _ _
  have HOK : Hid (Sok 0 newS ∧ Sok 0 (setS newS [97] 1).2 ∧ Sok 0 (setS (setS newS [97] 1).2 [98] 2).2 ∧ Sok 1 (pushS (setS (setS newS [97] 1).2 [98] 2).2 [97] 1 2).2 ∧ Sok 2 (pushS (pushS (setS (setS newS [97] 1).2 [98] 2).2 [97] 1 2).2 [98] 2 2).2) := ⟨new_ok (Int.le_refl _), ok0, set_ok ok0 _ _, push_ok (N := 0) (by decide) (set_ok ok0 _ _) _ _ _, push_ok (N := 1) (by decide) (push_ok (N := 0) (by decide) (set_ok ok0 _ _) _ _ _) _ _ _⟩
  clear G ok0
  go_enter Try.func10, Try.ntmps10
  go_wp2_with fail
  refine (S1.new HG.out w).mono ?_
  rintro e w1 ⟨T, rfl, hp1, hb1⟩
  have HP1 : Hid (S1 PF w.heap.size w1 T newS ∧ Below w.heap.size w w1) := ⟨hp1, hb1⟩
  clear hp1 hb1
  go_wp2_with fail
  refine (S1.set HG.out HP1.out.1 HOK.out.1 (by decide)).mono ?_
  rintro e w2 ⟨rfl, hp2, hb2⟩
  have HP2 : Hid (S1 PF w.heap.size w2 T (setS newS [97] 1).2 ∧ Below w.heap.size w w2) := ⟨hp2, HP1.out.2.trans hb2⟩
  clear hp2 hb2 HP1
  go_wp2_with fail
  refine (S1.set HG.out HP2.out.1 HOK.out.2.1 (by decide)).mono ?_
  rintro e w3 ⟨rfl, hp3, hb3⟩
  have HP3 : Hid (S1 PF w.heap.size w3 T (setS (setS newS [97] 1).2 [98] 2).2 ∧ Below w.heap.size w w3) := ⟨hp3, HP2.out.2.trans hb3⟩
  clear hp3 hb3 HP2
  go_wp2_with fail
  refine (S1.push HG.out HP3.out.1 HOK.out.2.2.1 (by decide)).mono ?_
  rintro e w4 ⟨rfl, hp4, hb4⟩
  have HP4 : Hid (S1 PF w.heap.size w4 T (pushS (setS (setS newS [97] 1).2 [98] 2).2 [97] 1 2).2 ∧ Below w.heap.size w w4) := ⟨hp4, HP3.out.2.trans hb4⟩
  clear hp4 hb4 HP3
  go_wp2_with fail
  refine (S1.push HG.out HP4.out.1 HOK.out.2.2.2.1 (by decide)).mono ?_
  rintro e w5 ⟨rfl, hp5, hb5⟩
  have HP5 : Hid (S1 PF w.heap.size w5 T (pushS (pushS (setS (setS newS [97] 1).2 [98] 2).2 [97] 1 2).2 [98] 2 2).2 ∧ Below w.heap.size w w5) := ⟨hp5, HP4.out.2.trans hb5⟩
  clear hp5 hb5 HP4
  go_wp2_with fail
  refine (S1.push HG.out HP5.out.1 HOK.out.2.2.2.2 (by decide)).mono ?_
  rintro e w6 ⟨rfl, hp6, hb6⟩
  have HP6 : Hid (S1 PF w.heap.size w6 T (ks 0) ∧ Below w.heap.size w w6) := ⟨hp6, HP5.out.2.trans hb6⟩
  clear hp6 hb6 HP5 HOK
  go_wp2_with fail
  go_loopw [2, 3] (fun a c wr => ∃ k : Nat, k ≤ 6 ∧ a = .int .i64 (kn k) ∧ c = .int .i64 ((k : Int) + 1) ∧ S1 PF w.heap.size wr T (ks k) ∧ Below w.heap.size w wr) (fun a c wr => 7 - (intOf c).toNat)
  case atStart => exact ⟨0, by omega, rfl, rfl, HP6.out⟩
  case round =>
    obtain ⟨k, hk, rfl, rfl, hS, hB⟩ := hrel
    have HM : Hid (S1 PF w.heap.size wr T (ks k) ∧ Below w.heap.size w wr) := ⟨hS, hB⟩
    clear hS hB
    rcases (show k = 6 ∨ k = 0 ∨ k = 1 ∨ k = 2 ∨ k = 3 ∨ k = 4 ∨ k = 5 by omega) with rfl | rfl | rfl | rfl | rfl | rfl | rfl
    · rw [show ((6 : Nat) : Int) + 1 = 7 from rfl, show kn 6 = 123 from rfl]
      go_wp2_with fail
      go_ret
      exact ⟨rfl, HM.out.2⟩
    · rw [show ((0 : Nat) : Int) + 1 = 1 from rfl, show kn 0 = 0 from rfl]
      go_wp2_with fail
      refine (S1.step HG.out HM.out.1 (ks_ok 0) (by decide)).mono ?_
      rintro e w7 ⟨rfl, hp7, hb7⟩
      rw [ka0]
      have HM7 : Hid (S1 PF w.heap.size w7 T (ks 1) ∧ Below w.heap.size w w7) := ⟨hp7, HM.out.2.trans hb7⟩
      clear hp7 hb7
      go_wp2_with fail
      go_roundw
      case rel => exact ⟨1, by omega, rfl, by go_num, HM7.out.1.later HG.out (bel1 w7 _) (Nat.le_refl _), HM7.out.2.trans ((bel1 w7 _).mono HM7.out.2.size)⟩
      case measure => simp [intOf]
    · rw [show ((1 : Nat) : Int) + 1 = 2 from rfl, show kn 1 = 0 from rfl]
      go_wp2_with fail
      refine (S1.step HG.out HM.out.1 (ks_ok 1) (by decide)).mono ?_
      rintro e w7 ⟨rfl, hp7, hb7⟩
      rw [ka1]
      have HM7 : Hid (S1 PF w.heap.size w7 T (ks 2) ∧ Below w.heap.size w w7) := ⟨hp7, HM.out.2.trans hb7⟩
      clear hp7 hb7
      go_wp2_with fail
      go_roundw
      case rel => exact ⟨2, by omega, rfl, by go_num, HM7.out.1.later HG.out (bel1 w7 _) (Nat.le_refl _), HM7.out.2.trans ((bel1 w7 _).mono HM7.out.2.size)⟩
      case measure => simp [intOf]
    · rw [show ((2 : Nat) : Int) + 1 = 3 from rfl, show kn 2 = 1 from rfl]
      go_wp2_with fail
      refine (S1.step HG.out HM.out.1 (ks_ok 2) (by decide)).mono ?_
      rintro e w7 ⟨rfl, hp7, hb7⟩
      rw [ka2]
      have HM7 : Hid (S1 PF w.heap.size w7 T (ks 3) ∧ Below w.heap.size w w7) := ⟨hp7, HM.out.2.trans hb7⟩
      clear hp7 hb7
      go_wp2_with fail
      go_roundw
      case rel => exact ⟨3, by omega, rfl, by go_num, HM7.out.1.later HG.out (bel1 w7 _) (Nat.le_refl _), HM7.out.2.trans ((bel1 w7 _).mono HM7.out.2.size)⟩
      case measure => simp [intOf]
    · rw [show ((3 : Nat) : Int) + 1 = 4 from rfl, show kn 3 = 1 from rfl]
      go_wp2_with fail
      refine (S1.step HG.out HM.out.1 (ks_ok 3) (by decide)).mono ?_
      rintro e w7 ⟨rfl, hp7, hb7⟩
      rw [ka3]
      have HM7 : Hid (S1 PF w.heap.size w7 T (ks 4) ∧ Below w.heap.size w w7) := ⟨hp7, HM.out.2.trans hb7⟩
      clear hp7 hb7
      go_wp2_with fail
      go_roundw
      case rel => exact ⟨4, by omega, rfl, by go_num, HM7.out.1.later HG.out (bel1 w7 _) (Nat.le_refl _), HM7.out.2.trans ((bel1 w7 _).mono HM7.out.2.size)⟩
      case measure => simp [intOf]
    · rw [show ((4 : Nat) : Int) + 1 = 5 from rfl, show kn 4 = 12 from rfl]
      go_wp2_with fail
      refine (S1.step HG.out HM.out.1 (ks_ok 4) (by decide)).mono ?_
      rintro e w7 ⟨rfl, hp7, hb7⟩
      rw [ka4]
      have HM7 : Hid (S1 PF w.heap.size w7 T (ks 5) ∧ Below w.heap.size w w7) := ⟨hp7, HM.out.2.trans hb7⟩
      clear hp7 hb7
      go_wp2_with fail
      go_roundw
      case rel => exact ⟨5, by omega, rfl, by go_num, HM7.out.1.later HG.out (bel1 w7 _) (Nat.le_refl _), HM7.out.2.trans ((bel1 w7 _).mono HM7.out.2.size)⟩
      case measure => simp [intOf]
    · rw [show ((5 : Nat) : Int) + 1 = 6 from rfl, show kn 5 = 12 from rfl]
      go_wp2_with fail
      refine (S1.step HG.out HM.out.1 (ks_ok 5) (by decide)).mono ?_
      rintro e w7 ⟨rfl, hp7, hb7⟩
      rw [ka5]
      have HM7 : Hid (S1 PF w.heap.size w7 T (ks 6) ∧ Below w.heap.size w w7) := ⟨hp7, HM.out.2.trans hb7⟩
      clear hp7 hb7
      go_wp2_with fail
      go_roundw
      case rel => exact ⟨6, by omega, rfl, by go_num, HM7.out.1.later HG.out (bel1 w7 _) (Nat.le_refl _), HM7.out.2.trans ((bel1 w7 _).mono HM7.out.2.size)⟩
      case measure => simp [intOf]
end Go.Proofs.Ytfndbllpnkhlhaa
