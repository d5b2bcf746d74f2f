/- The laws of buckets: what is asked of the program's table; one call of both, its first kinds. -/
import Derived.Test.YtpobfcmbbabchaaR8
import Derived.Test.YtpobfcmbbabchaaP2
namespace Go.Proofs.Ytpobfcmbbabchaa
open Go.RowKit
set_option linter.unusedVariables false
set_option linter.unusedSimpArgs false

/-- What is asked of the program: how a table lies (PT), in blocks of which types (bad), and what its calls do. -/
structure Prg (PT : World → Nat → Nat → List Bk → Prop) (bad : TypeId → Bool) : Prop where
  b39 : bad 39 = false
  b63 : bad 78 = false
  b32 : bad 32 = false
  later : ∀ {w w' : World} {T base B : Nat} {l : List Bk}, PT w T base l → Below B w w' → w.heap.size ≤ B → PT w' T base l
  kept : ∀ {w w' : World} {T base : Nat} {l : List Bk}, PT w T base l → Kx badR w w' → PT w' T base l
  set : ∀ (N : Int) (T base : Nat) (l : List Bk) (nm : List UInt8) (rate burst now : Int) (w : World), PT w T base l → Tok N l → N ≤ 1000000 → base ≤ w.heap.size →
    Calls Try.prog 15 #[.pointer (some ⟨T, 0, none⟩), .string (tx nm), .int .i64 rate, .int .i64 burst, .int .i64 now] w fun e w' => e = .returned (.int .i64 (setI l nm rate burst now).1) ∧ PT w' T base (setI l nm rate burst now).2 ∧ Below base w w' ∧ Kx bad w w'
  take : ∀ (N : Int) (T base : Nat) (l : List Bk) (nm : List UInt8) (cost now : Int) (w : World), PT w T base l → Tok N l → N ≤ 1000000 → base ≤ w.heap.size →
    Calls Try.prog 16 #[.pointer (some ⟨T, 0, none⟩), .string (tx nm), .int .i64 cost, .int .i64 now] w fun e w' => e = .returned (.int .i64 (takeI l nm cost now).1) ∧ PT w' T base (takeI l nm cost now).2 ∧ Below base w w' ∧ Kx bad w w'
  give : ∀ (N : Int) (T base : Nat) (l : List Bk) (nm : List UInt8) (cost now : Int) (w : World), PT w T base l → Tok N l → N ≤ 1000000 → base ≤ w.heap.size →
    Calls Try.prog 19 #[.pointer (some ⟨T, 0, none⟩), .string (tx nm), .int .i64 cost, .int .i64 now] w fun e w' => e = .returned (.int .i64 (giveI l nm cost now).1) ∧ PT w' T base (giveI l nm cost now).2 ∧ Below base w w' ∧ Kx bad w w'
  tok : ∀ (N : Int) (T base : Nat) (l : List Bk) (nm : List UInt8) (now : Int) (w : World), PT w T base l → Tok N l → N ≤ 1000000 → base ≤ w.heap.size →
    Calls Try.prog 12 #[.pointer (some ⟨T, 0, none⟩), .string (tx nm), .int .i64 now] w fun e w' => e = .returned (.tuple #[.int .i64 (tokI l nm now).1, .int .i64 (tokI l nm now).2.1]) ∧ PT w' T base (tokI l nm now).2.2 ∧ Below base w w' ∧ Kx bad w w'
  next : ∀ (N : Int) (T base : Nat) (l : List Bk) (nm : List UInt8) (cost now : Int) (w : World), PT w T base l → Tok N l → N ≤ 1000000 → base ≤ w.heap.size →
    Calls Try.prog 17 #[.pointer (some ⟨T, 0, none⟩), .string (tx nm), .int .i64 cost, .int .i64 now] w fun e w' => e = .returned (.tuple #[.int .i64 (nextI l nm cost now).1.1, .int .i64 (nextI l nm cost now).1.2]) ∧ PT w' T base (nextI l nm cost now).2 ∧ Below base w w' ∧ Kx bad w w'
  cnt : ∀ (N : Int) (T base : Nat) (l : List Bk) (nm : List UInt8) (w : World), PT w T base l → Tok N l → N ≤ 1000000 → base ≤ w.heap.size →
    Calls Try.prog 14 #[.pointer (some ⟨T, 0, none⟩), .string (tx nm)] w fun e w' => e = .returned (cntV (cntI l nm)) ∧ PT w' T base l ∧ Below base w w' ∧ Kx bad w w'
  drop : ∀ (N : Int) (T base : Nat) (l : List Bk) (nm : List UInt8) (w : World), PT w T base l → Tok N l → N ≤ 1000000 → base ≤ w.heap.size →
    Calls Try.prog 20 #[.pointer (some ⟨T, 0, none⟩), .string (tx nm)] w fun e w' => e = .returned (.int .i64 (dropI l nm).1) ∧ PT w' T base (dropI l nm).2 ∧ Below base w w' ∧ Kx bad w w'
  len : ∀ (N : Int) (T base : Nat) (l : List Bk) (w : World), PT w T base l → Tok N l → N ≤ 1000000 → base ≤ w.heap.size →
    Calls Try.prog 21 #[.pointer (some ⟨T, 0, none⟩)] w fun e w' => e = .returned (.int .i64 (l.length : Int)) ∧ PT w' T base l ∧ Below base w w' ∧ Kx bad w w'
/-- And a table that is new. -/
structure PrgN (PT : World → Nat → Nat → List Bk → Prop) (bad : TypeId → Bool) : Prop where
  prg : Prg PT bad
  new : ∀ w : World, Calls Try.prog 11 #[] w fun e w' => ∃ T, e = .returned (.pointer (some ⟨T, 0, none⟩)) ∧ PT w' T w.heap.size [] ∧ Below w.heap.size w w'
/-- The types of both. -/
def badB (bad : TypeId → Bool) (t : TypeId) : Bool := bad t || badR t
theorem badB_l {bad : TypeId → Bool} : ∀ t, badB bad t = false → bad t = false := fun t h => by unfold badB at h; simp at h; exact h.1
theorem badB_r {bad : TypeId → Bool} : ∀ t, badB bad t = false → badR t = false := fun t h => by unfold badB at h; simp at h; exact h.2
/-- Both tables between calls. -/
structure Mid (PT : World → Nat → Nat → List Bk → Prop) (bad : TypeId → Bool) (T R base : Nat) (lt lr : List Bk) (w0 w : World) : Prop where
  pt : PT w T base lt
  rt : ∃ sv, RT w R base sv lr
  bel : Below base w0 w
  kx : Kx (badB bad) w0 w
  bs : base ≤ w.heap.size
theorem Mid.prog {PT : World → Nat → Nat → List Bk → Prop} {bad : TypeId → Bool} (G : Prg PT bad) {T R base : Nat} {lt lr lt' : List Bk} {w0 w w' : World} (h : Mid PT bad T R base lt lr w0 w) (h1 : PT w' T base lt') (h2 : Below base w w') (h3 : Kx bad w w') : Mid PT bad T R base lt' lr w0 w' :=
  ⟨h1, h.rt.imp fun sv hr => hr.kept h3 G.b39 G.b63, h.bel.trans h2, h.kx.trans (h3.mono badB_l), by have := h.bs; have := h2.size; omega⟩
theorem Mid.model {PT : World → Nat → Nat → List Bk → Prop} {bad : TypeId → Bool} (G : Prg PT bad) {T R base : Nat} {lt lr lr' : List Bk} {w0 w w' : World} (h : Mid PT bad T R base lt lr w0 w) (h1 : ∃ sv, RT w' R base sv lr') (h2 : Below base w w') (h3 : Kx badR w w') : Mid PT bad T R base lt lr' w0 w' :=
  ⟨G.kept h.pt h3, h1, h.bel.trans h2, h.kx.trans (h3.mono badB_r), by have := h.bs; have := h2.size; omega⟩
theorem Mid.later {PT : World → Nat → Nat → List Bk → Prop} {bad : TypeId → Bool} (G : Prg PT bad) {T R base B : Nat} {lt lr : List Bk} {w0 w w' : World} (h : Mid PT bad T R base lt lr w0 w) (hb : Below B w w') (hB : w.heap.size ≤ B) : Mid PT bad T R base lt lr w0 w' :=
  ⟨G.later h.pt hb hB, h.rt.imp fun sv hr => hr.later hb hB, h.bel.trans (hb.mono (Nat.le_trans h.bs hB)), h.kx.trans (Kx.of hb hB), by have := h.bs; have := hb.size; omega⟩
theorem Mid.drew {PT : World → Nat → Nat → List Bk → Prop} {bad : TypeId → Bool} {T R base : Nat} {lt lr : List Bk} {w0 w : World} {G : Prg PT bad} (h : Mid PT bad T R base lt lr w0 w) : Mid PT bad T R base lt lr w0 w.drew :=
  h.later G ((Below.refl w.heap.size w).drew) (Nat.le_refl _)
def opV (o : OpI) : Value := .agg #[.int .i64 o.kind, .string (tx o.nm), .int .i64 o.rate, .int .i64 o.burst, .int .i64 o.cost, .int .i64 o.now]
/-- What a call of both tells. -/
def stepB (lt lr : List Bk) (o : OpI) : Bool :=
  if o.kind = 0 then (setI lt o.nm o.rate o.burst o.now).1 == (setI lr o.nm o.rate o.burst o.now).1
  else if 1 ≤ o.kind ∧ o.kind ≤ 4 then (takeI lt o.nm o.cost o.now).1 == (takeI lr o.nm o.cost o.now).1
  else if o.kind = 5 then (giveI lt o.nm o.cost o.now).1 == (giveI lr o.nm o.cost o.now).1
  else if o.kind = 6 then (tokI lt o.nm o.now).1 == (tokI lr o.nm o.now).1 && (tokI lt o.nm o.now).2.1 == (tokI lr o.nm o.now).2.1
  else if o.kind = 7 then (nextI lt o.nm o.cost o.now).1.1 == (nextI lr o.nm o.cost o.now).1.1 && (nextI lt o.nm o.cost o.now).1.2 == (nextI lr o.nm o.cost o.now).1.2
  else if o.kind = 8 then (dropI lt o.nm).1 == (dropI lr o.nm).1
  else (cntI lt o.nm).1.1 == (cntI lr o.nm).1.1 && (cntI lt o.nm).1.2.1 == (cntI lr o.nm).1.2.1 && (cntI lt o.nm).1.2.2 == (cntI lr o.nm).1.2.2 && (cntI lt o.nm).2 == (cntI lr o.nm).2
theorem stepB_same (l : List Bk) (o : OpI) : stepB l l o = true := by
  unfold stepB
  split
  · simp
  · split
    · simp
    · split
      · simp
      · split
        · simp
        · split
          · simp
          · split <;> simp
variable {PT : World → Nat → Nat → List Bk → Prop} {bad : TypeId → Bool}
set_option maxRecDepth 20000 in
set_option maxHeartbeats 4000000 in
theorem step0 (G : Prg PT bad) (N : Int) (T R base : Nat) (lt lr : List Bk) (o : OpI) (w0 w : World) (h : Mid PT bad T R base lt lr w0 w) (ht : Tok N lt) (hr : Tok N lr) (hN : N ≤ 1000000) (hk : o.kind = 0) :
    Calls Try.prog 13 #[.pointer (some ⟨T, 0, none⟩), .pointer (some ⟨R, 0, none⟩), opV o] w fun e w' => e = .returned (.bool (stepB lt lr o)) ∧ Mid PT bad T R base (stepT lt o) (stepT lr o) w0 w' := by
  have HG : Hid (Prg PT bad) := G
  have HM : Hid (Mid PT bad T R base lt lr w0 w) := h
  have HT : Hid (Tok N lt ∧ Tok N lr ∧ N ≤ 1000000) := ⟨ht, hr, hN⟩
  have HB : Hid (stepB lt lr o = ((setI lt o.nm o.rate o.burst o.now).1 == (setI lr o.nm o.rate o.burst o.now).1)) := by show _ = _; unfold stepB; simp [hk]
  have HS : Hid (∀ l, stepT l o = (setI l o.nm o.rate o.burst o.now).2) := fun l => by unfold stepT; simp [hk]
  obtain ⟨kind, nm, rate, burst, cost, now⟩ := o
  simp only at hk HB HS
  subst hk
  show Calls Try.prog 13 #[_, _, .agg #[.int .i64 0, .string (tx nm), .int .i64 rate, .int .i64 burst, .int .i64 cost, .int .i64 now]] w _
  have HA : Hid (∀ W, Mid PT bad T R base lt lr w0 W → Calls Try.prog 15 #[.pointer (some ⟨T, 0, none⟩), .string (tx nm), .int .i64 rate, .int .i64 burst, .int .i64 now] W fun e w' => e = .returned (.int .i64 (setI lt nm rate burst now).1) ∧ Mid PT bad T R base (setI lt nm rate burst now).2 lr w0 w' ∧ Kx (badB bad) W w') := fun W hW =>
    (HG.out.set N T base lt nm rate burst now W hW.pt HT.out.1 HT.out.2.2 hW.bs).mono fun e w' ⟨h1, h2, h3, h4⟩ => ⟨h1, hW.prog HG.out h2 h3 h4, h4.mono badB_l⟩
  have HC : Hid (∀ W, Mid PT bad T R base (setI lt nm rate burst now).2 lr w0 W → Calls Try.prog 24 #[.pointer (some ⟨R, 0, none⟩), .string (tx nm), .int .i64 rate, .int .i64 burst, .int .i64 now] W fun e w' => e = .returned (.int .i64 (setI lr nm rate burst now).1) ∧ Mid PT bad T R base (setI lt nm rate burst now).2 (setI lr nm rate burst now).2 w0 w' ∧ Kx (badB bad) W w') := fun W hW => by
    obtain ⟨sv, hsv⟩ := hW.rt
    exact (rset_any R base sv lr nm rate burst now W hsv HT.out.2.1.len hW.bs).mono fun e w' ⟨h1, h2, h3, h4⟩ => ⟨h1, hW.model HG.out h2 h3 h4, h4.mono badB_r⟩
  have h32 : badB bad 32 = false := by unfold badB; rw [G.b32]; rfl
  have H32 : Hid (badB bad 32 = false) := h32
  generalize (setI lt nm rate burst now).1 = A1 at HA HB
  generalize (setI lr nm rate burst now).1 = A2 at HC HB
  clear h ht hr hN h32 G
  go_enter Try.func13, Try.ntmps13
  go_wp2_with fail
  obtain ⟨W, hW⟩ : ∃ W, w.alloc (.cells #[.int .i64 0, .string (tx nm), .int .i64 rate, .int .i64 burst, .int .i64 cost, .int .i64 now] 32) = W := ⟨_, rfl⟩
  have HP : Hid (W.heap[w.heap.size]? = some (.cells #[.int .i64 0, .string (tx nm), .int .i64 rate, .int .i64 burst, .int .i64 cost, .int .i64 now] 32 (0, 0))) := by show _ = _; rw [← hW]; exact heap_alloc_new _ _
  have HMW : Hid (Mid PT bad T R base lt lr w0 W) := by rw [← hW]; exact HM.out.later HG.out (bel1 w _) (Nat.le_refl _)
  rw [hW]
  clear hW HM
  generalize w.heap.size = p at HP ⊢
  have HCW : Hid (∀ V, Kx (badB bad) W V → V.cell? ⟨p, 1, none⟩ = some (.string (tx nm)) ∧ V.cell? ⟨p, 2, none⟩ = some (.int .i64 rate) ∧ V.cell? ⟨p, 3, none⟩ = some (.int .i64 burst) ∧ V.cell? ⟨p, 5, none⟩ = some (.int .i64 now)) := fun V hV => by
    have h := hV.row HP.out H32.out
    exact ⟨by rw [cell_of_row _ _ _ _ _ _ h]; rfl, by rw [cell_of_row _ _ _ _ _ _ h]; rfl, by rw [cell_of_row _ _ _ _ _ _ h]; rfl, by rw [cell_of_row _ _ _ _ _ _ h]; rfl⟩
  obtain ⟨y1, y2, y3, y5⟩ := HCW.out W (Kx.refl _ _)
  go_region_held3 (fun w' => w'.cell? ⟨p, 1, none⟩ = some (.string (tx nm)) ∧ w'.cell? ⟨p, 2, none⟩ = some (.int .i64 rate) ∧ w'.cell? ⟨p, 3, none⟩ = some (.int .i64 burst) ∧ w'.cell? ⟨p, 5, none⟩ = some (.int .i64 now)) (first | exact K9 | exact K8 | go_keep) (first | (go_at_call 15; refine (HA.out _ (HMW.out.drew (G := HG.out))).mono ?_; rintro e w8 ⟨rfl, hm8, hk8⟩; (have HM8 : Hid (Mid PT bad T R base (setI lt nm rate burst now).2 lr w0 w8) := hm8); (have HK8 : Hid (Kx (badB bad) W w8) := hk8); (have K8 := HCW.out w8 hk8); clear hm8 hk8 HMW) | (go_at_call 24; refine (HC.out _ HM8.out).mono ?_; rintro e w9 ⟨rfl, hm9, hk9⟩; (have HM9 : Hid (Mid PT bad T R base (setI lt nm rate burst now).2 (setI lr nm rate burst now).2 w0 w9) := hm9); (have K9 := HCW.out w9 (HK8.out.trans hk9)); clear hm9 hk9))
  go_wp2_with fail
  go_ret
  exact ⟨by rw [HB.out]; rfl, by rw [HS.out, HS.out]; exact HM9.out⟩
end Go.Proofs.Ytpobfcmbbabchaa
