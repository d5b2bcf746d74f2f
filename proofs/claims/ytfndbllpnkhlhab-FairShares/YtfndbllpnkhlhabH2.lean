/- FairShares' law, over any program's scheduler. -/
import Derived.Test.YtfndbllpnkhlhabH1
namespace Go.Proofs.Ytfndbllpnkhlhab
open Go.RowKit
set_option linter.unusedVariables false
set_option linter.unusedSimpArgs false

variable {PF : World → Nat → (Nat → Prop) → Sc → Prop}
theorem count_in (n : Int) (w : World) (l0 : -9223372036854775808 ≤ n) (l1 : n ≤ 9223372036854775807) :
    Calls Try.prog 7 #[.int .i64 n, .int .i64 400] w fun e w' => (∃ c : Int, e = .returned (.int .i64 c) ∧ 0 ≤ c ∧ c < 400) ∧ w' = w := by
  have t0 : -400 < n.tmod 400 := by have := Int.lt_tmod_of_pos n (show (0 : Int) < 400 by decide); omega
  have t1 : n.tmod 400 < 400 := Int.tmod_lt_of_pos n (by decide)
  generalize hr : n.tmod 400 = r at t0 t1
  by_cases c : r < 0
  · go_enter Try.func7, Try.ntmps7
    go_wp2
    go_ret
    exact ⟨⟨r + 400, rfl, by omega, by omega⟩, rfl⟩
  · have c' : 0 ≤ r := by omega
    clear c
    go_enter Try.func7, Try.ntmps7
    go_wp2
    go_ret
    exact ⟨⟨r, rfl, c', t1⟩, rfl⟩
/-- A scheduler, and a block beside it. -/
def SA (PF : World → Nat → (Nat → Prop) → Sc → Prop) (base p : Nat) (w0 w : World) (T : Nat) (s : Sc) : Prop := ∃ F, PF w T F s ∧ (∀ q, F q → base ≤ q) ∧ base ≤ w.heap.size ∧ (p < w.heap.size ∧ ¬ F p) ∧ Below base w0 w
theorem sa_step {base p : Nat} {w0 w w' : World} {T : Nat} {F F' : Nat → Prop} {s' : Sc} (hF : ∀ q, F q → base ≤ q) (hb : base ≤ w.heap.size) (hp : p < w.heap.size ∧ ¬ F p) (hB : Below base w0 w) (h1 : PF w' T F' s') (h2 : Fr F F' w w') : SA PF base p w0 w' T s' ∧ w'.heap[p]? = w.heap[p]? :=
  ⟨⟨F', h1, h2.low hF hb, by have := h2.size; omega, ⟨by have := h2.size; omega, fun hf => by rcases h2.grow p hf with h | h; exact hp.2 h; omega⟩, hB.trans (h2.below hF hb)⟩, h2.block p hp.1 hp.2⟩
theorem SA.push (G : PrgS PF) {base p : Nat} {N : Int} {T : Nat} {s : Sc} {nm : List UInt8} {id cost : Int} {w0 w : World} (h : SA PF base p w0 w T s) (hs : Sok N s) (hN : N ≤ 100000) :
    Calls Try.prog 8 #[.pointer (some ⟨T, 0, none⟩), .string (tx nm), .agg #[.int .i64 id, .int .i64 cost]] w fun e w' => e = .returned (.int .i64 (pushS s nm id cost).1) ∧ SA PF base p w0 w' T (pushS s nm id cost).2 ∧ w'.heap[p]? = w.heap[p]? := by
  obtain ⟨F, h1, h2, h3, h4, h5⟩ := h
  exact (G.push N T F s nm id cost w h1 hs hN).mono fun e w' ⟨h0, F', k1, k2⟩ => ⟨h0, sa_step h2 h3 h4 h5 k1 k2⟩
theorem SA.step (G : PrgS PF) {base p : Nat} {N : Int} {T : Nat} {s : Sc} {w0 w : World} (h : SA PF base p w0 w T s) (hs : Sok N s) (hN : N ≤ 100000) :
    Calls Try.prog 9 #[.pointer (some ⟨T, 0, none⟩)] w fun e w' => e = .returned (.tuple #[.string (tx (stepS s).1.nm), .agg #[.int .i64 (stepS s).1.id, .int .i64 (stepS s).1.cost], .bool (stepS s).1.don, .bool (stepS s).1.some]) ∧ SA PF base p w0 w' T (stepS s).2 ∧ w'.heap[p]? = w.heap[p]? := by
  obtain ⟨F, h1, h2, h3, h4, h5⟩ := h
  exact (G.step N T F s w h1 hs hN).mono fun e w' ⟨h0, F', k1, k2⟩ => ⟨h0, sa_step h2 h3 h4 h5 k1 k2⟩
theorem SA.later (G : PrgS PF) {base p B : Nat} {w0 w w' : World} {T : Nat} {s : Sc} (h : SA PF base p w0 w T s) (hb : Below B w w') (hB : w.heap.size ≤ B) : SA PF base p w0 w' T s := by
  obtain ⟨F, h1, h2, h3, h4, h5⟩ := h
  exact ⟨F, G.later h1 hb hB, h2, by have := hb.size; omega, ⟨by have := hb.size; omega, h4.2⟩, h5.trans (hb.mono (by omega))⟩
theorem SA.bel {base p : Nat} {w0 w : World} {T : Nat} {s : Sc} (h : SA PF base p w0 w T s) : Below base w0 w := by
  obtain ⟨F, h1, h2, h3, h4, h5⟩ := h
  exact h5
theorem SA.setCell (G : PrgS PF) {base p : Nat} {w0 w : World} {T : Nat} {s : Sc} (h : SA PF base p w0 w T s) (hp : base ≤ p) (i : Nat) (v : Value) : SA PF base p w0 (w.setCell ⟨p, i, none⟩ v) T s := by
  obtain ⟨F, h1, h2, h3, h4, h5⟩ := h
  exact ⟨F, G.at' h1 fun q hq => Below.heap_setCell _ _ _ _ fun e => h4.2 ((show q = p from e) ▸ hq), h2, by simpa using h3, ⟨by simpa using h4.1, h4.2⟩, h5.setCell hp _⟩
set_option maxRecDepth 20000 in
set_option maxHeartbeats 8000000 in
theorem shares_law (G : PrgS PF) (v w' slots : Int) (w : World) (l0 : -9223372036854775808 ≤ slots) (l1 : slots ≤ 9223372036854775807) :
    Calls Try.prog 3 #[.int .i64 v, .int .i64 w', .int .i64 slots] w fun e W => e = .returned (.bool true) ∧ Below w.heap.size w W := by
  have HG : Hid (PrgS PF) := G
  have HCT : Hid (∀ W, Calls Try.prog 7 #[.int .i64 slots, .int .i64 400] W fun e w' => (∃ c : Int, e = .returned (.int .i64 c) ∧ 0 ≤ c ∧ c < 400) ∧ w' = W) := fun W => count_in slots W l0 l1
  have ea : ({ data := #[97] } : ByteArray) = tx [97] := rfl
  have eb : ({ data := #[98] } : ByteArray) = tx [98] := rfl
  have HOK1 : Hid (Sok 0 newS ∧ Sok 0 (setS newS [97] v).2 ∧ Sok 0 (setS (setS newS [97] v).2 [98] w').2) := ⟨new_ok (Int.le_refl _), set_ok (new_ok (Int.le_refl _)) _ _, set_ok (set_ok (new_ok (Int.le_refl _)) _ _) _ _⟩
  clear G l0 l1
  go_enter Try.func3, Try.ntmps3
  go_wp2_with fail
  refine (S1.new HG.out w).mono ?_
  rintro e w1 ⟨T, rfl, hp1, hb1⟩
  have HP1 : Hid (S1 PF w.heap.size w1 T newS ∧ Below w.heap.size w w1) := ⟨hp1, hb1⟩
  clear hp1 hb1
  by_cases hv : 1 ≤ v ∧ v ≤ 16
  · by_cases hw : 1 ≤ w' ∧ w' ≤ 16
    · obtain ⟨A, hA⟩ : ∃ A, 720720 / v = A := ⟨_, rfl⟩
      obtain ⟨B, hB⟩ : ∃ B, 720720 / w' = B := ⟨_, rfl⟩
      have hA1 := scale_of hv
      have hB1 := scale_of hw
      rw [hA] at hA1
      rw [hB] at hB1
      have hA0 : 0 ≤ A := by rw [← hA]; exact Int.ediv_nonneg (by decide) (by omega)
      have hB0 : 0 ≤ B := by rw [← hB]; exact Int.ediv_nonneg (by decide) (by omega)
      obtain ⟨s1, s2⟩ := set2 hv hw A B
      have HAB : Hid (720720 / v = A ∧ 720720 / w' = B ∧ A * v = 720720 ∧ B * w' = 720720 ∧ 0 ≤ A ∧ 0 ≤ B) := ⟨hA, hB, hA1, hB1, hA0, hB0⟩
      have HSS : Hid ((setS newS [97] v).1 = 0 ∧ setS (setS newS [97] v).2 [98] w' = (0, iniS v w' A B 0 0)) := ⟨s1, s2⟩
      obtain ⟨v0, v1⟩ := hv
      obtain ⟨u0, u1⟩ := hw
      clear hA hB hA1 hB1 hA0 hB0 s1 s2
      go_wp2_with fail
      refine (S1.set HG.out HP1.out.1 HOK1.out.1 (by decide)).mono ?_
      rintro e w2 ⟨rfl, hp2, hb2⟩
      rw [HSS.out.1]
      have HP2 : Hid (S1 PF w.heap.size w2 T (setS newS [97] v).2 ∧ Below w.heap.size w w2) := ⟨hp2, HP1.out.2.trans hb2⟩
      clear hp2 hb2 HP1
      go_wp2_with fail
      refine (S1.set HG.out HP2.out.1 HOK1.out.2.1 (by decide)).mono ?_
      rintro e w3 ⟨rfl, hp3, hb3⟩
      have hok := HOK1.out.2.2
      rw [HSS.out.2] at hp3 hok
      rw [HSS.out.2]
      have HP3 : Hid (S1 PF w.heap.size w3 T (iniS v w' A B 0 0) ∧ Below w.heap.size w w3) := ⟨hp3, HP2.out.2.trans hb3⟩
      have HOK2 : Hid (Sok 0 (iniS v w' A B 0 0)) := hok
      clear hp3 hb3 HP2 HOK1 HSS hok
      go_wp2_with fail
      refine (HCT.out w3).mono ?_
      rintro e w4 ⟨⟨c, rfl, c0, c1⟩, hw4⟩
      rw [hw4]
      clear hw4
      go_wp2_with fail
      obtain ⟨V, hV⟩ : ∃ V, w3.alloc (.cells #[.int .i64 0, .int .i64 0] 28) = V := ⟨_, rfl⟩
      have HV : Hid (SA PF w.heap.size w3.heap.size w V T (iniS v w' A B 0 0) ∧ V.heap[w3.heap.size]? = some (.cells #[.int .i64 0, .int .i64 0] 28 (0, 0))) := by
        obtain ⟨F, h1, h2, h3⟩ := HP3.out.1
        rw [← hV]
        exact ⟨⟨F, HG.out.later h1 (bel1 w3 _) (Nat.le_refl _), h2, by simp; omega, ⟨by simp, fun hf => by have := HG.out.lt h1 _ hf; omega⟩, HP3.out.2.trans ((bel1 w3 _).mono HP3.out.2.size)⟩, heap_alloc_new _ _⟩
      have HPB : Hid (w.heap.size ≤ w3.heap.size) := HP3.out.2.size
      rw [hV]
      clear hV HP3
      generalize w3.heap.size = p at HV HPB ⊢
      go_loopw [9] (fun a X => ∃ k : Nat, a = .int .i64 (k : Int) ∧ k ≤ 4 ∧ SA PF w.heap.size p w X T (iniS v w' A B k k) ∧ X.heap[p]? = some (.cells #[.int .i64 0, .int .i64 0] 28 (0, 0)) ∧ Sok (2 * (k : Int)) (iniS v w' A B k k)) (fun a X => 4 - (intOf a).toNat)
      case atStart => exact ⟨0, rfl, by omega, HV.out.1, HV.out.2, HOK2.out⟩
      case round =>
        obtain ⟨k, rfl, k1, hM, hR, hO⟩ := hrel
        have HMk : Hid (SA PF w.heap.size p w wr T (iniS v w' A B k k) ∧ wr.heap[p]? = some (.cells #[.int .i64 0, .int .i64 0] 28 (0, 0)) ∧ Sok (2 * (k : Int)) (iniS v w' A B k k)) := ⟨hM, hR, hO⟩
        clear hM hR hO HV HOK2
        by_cases e1 : k < 4
        · have e1' : (k : Int) < 4 := by omega
          have HO1 : Hid (pushS (iniS v w' A B k k) [97] 1 1 = (0, iniS v w' A B (k + 1) k) ∧ Sok (2 * (k : Int) + 1) (iniS v w' A B (k + 1) k)) := by
            have h1 := pushA (w := w') (B := B) (j := k) HAB.out.1 HAB.out.2.2.2.2.1 e1
            have h2 := push_ok (by omega) HMk.out.2.2 [97] 1 1
            rw [h1] at h2
            exact ⟨h1, h2⟩
          have HO2 : Hid (pushS (iniS v w' A B (k + 1) k) [98] 2 1 = (0, iniS v w' A B (k + 1) (k + 1)) ∧ Sok (2 * ((k + 1 : Nat) : Int)) (iniS v w' A B (k + 1) (k + 1))) := by
            have h1 := pushB (v := v) (A := A) (k := k + 1) HAB.out.2.1 HAB.out.2.2.2.2.2 e1
            have h2 := push_ok (by omega) HO1.out.2 [98] 2 1
            rw [h1] at h2
            rw [show 2 * ((k + 1 : Nat) : Int) = 2 * (k : Int) + 1 + 1 by omega]
            exact ⟨h1, h2⟩
          clear e1 k1
          go_wp2_with fail
          refine (SA.push HG.out HMk.out.1 HMk.out.2.2 (by omega)).mono ?_
          rintro e w5 ⟨rfl, hp5, hh5⟩
          rw [HO1.out.1] at hp5
          have HP5 : Hid (SA PF w.heap.size p w w5 T (iniS v w' A B (k + 1) k) ∧ w5.heap[p]? = some (.cells #[.int .i64 0, .int .i64 0] 28 (0, 0))) := ⟨hp5, hh5.trans HMk.out.2.1⟩
          clear hp5 hh5
          go_wp2_with fail
          refine (SA.push HG.out HP5.out.1 HO1.out.2 (by omega)).mono ?_
          rintro e w6 ⟨rfl, hp6, hh6⟩
          rw [HO2.out.1] at hp6
          have HP6 : Hid (SA PF w.heap.size p w w6 T (iniS v w' A B (k + 1) (k + 1)) ∧ w6.heap[p]? = some (.cells #[.int .i64 0, .int .i64 0] 28 (0, 0))) := ⟨hp6, hh6.trans HP5.out.2⟩
          clear hp6 hh6 HP5
          go_wp2_with fail
          go_roundw
          case rel => exact ⟨k + 1, by go_num, by omega, HP6.out.1, HP6.out.2, HO2.out.2⟩
          case measure => simp [intOf]; omega
        · obtain rfl : k = 4 := by omega
          have h4 := HMk.out
          rw [ini4] at h4
          have HM4 : Hid (SA PF w.heap.size p w wr T (shS v w' A B 0 0 0 []) ∧ wr.heap[p]? = some (.cells #[.int .i64 0, .int .i64 0] 28 (0, 0)) ∧ Sok 8 (shS v w' A B 0 0 0 [])) := h4
          clear h4 HMk e1 k1
          rw [show ((4 : Nat) : Int) = 4 from rfl]
          go_wp2_with fail
          go_loopw [10] (fun a X => ∃ (j : Nat) (m n clk : Int) (srv : List UInt8), a = .int .i64 (j : Int) ∧ (j : Int) ≤ c ∧ 0 ≤ m ∧ 0 ≤ n ∧ m + n = (j : Int) ∧ m ≤ 400 ∧ n ≤ 400 ∧ -v ≤ m * w' - n * v ∧ m * w' - n * v ≤ w' ∧ SA PF w.heap.size p w X T (shS v w' A B m n clk srv) ∧ X.heap[p]? = some (.cells #[.int .i64 m, .int .i64 n] 28 (0, 0)) ∧ Sok (8 + (j : Int)) (shS v w' A B m n clk srv)) (fun a X => c.toNat - (intOf a).toNat)
          case atStart => exact ⟨0, 0, 0, 0, [], rfl, by omega, by omega, by omega, rfl, by omega, by omega, by simp; omega, by simp; omega, HM4.out.1, HM4.out.2.1, HM4.out.2.2⟩
          case round =>
            obtain ⟨j, m, n, clk, srv, rfl, j1, m0, n0, mn, m1, n1, d0, d1, hM, hR, hO⟩ := hrel
            have HMj : Hid (SA PF w.heap.size p w wr T (shS v w' A B m n clk srv) ∧ wr.heap[p]? = some (.cells #[.int .i64 m, .int .i64 n] 28 (0, 0)) ∧ Sok (8 + (j : Int)) (shS v w' A B m n clk srv)) := ⟨hM, hR, hO⟩
            clear hM hR hO HM4
            by_cases e1 : (j : Int) < c
            · rcases Int.lt_or_le (n * B) (m * A) with hh | hh
              · obtain ⟨st1, st2⟩ := stepB hh HAB.out.2.1 HAB.out.2.2.2.2.2 (v := v) (w := w') (clk := clk) (srv := srv)
                have ht := turn_lt (by omega) (by omega) HAB.out.2.2.1 HAB.out.2.2.2.1 hh
                have HS1 : Hid ((stepS (shS v w' A B m n clk srv)).1 = ⟨[98], 2, 1, true, true⟩ ∧ pushS (stepS (shS v w' A B m n clk srv)).2 [98] 2 1 = (0, shS v w' A B m (n + 1) (n * B) [98])) := ⟨st1, st2⟩
                have HO2 : Hid (Sok (8 + (j : Int)) (stepS (shS v w' A B m n clk srv)).2) := step_ok (by omega) HMj.out.2.2
                have HO3 : Hid (Sok (8 + ((j + 1 : Nat) : Int)) (shS v w' A B m (n + 1) (n * B) [98])) := by
                  have h := push_ok (by omega) HO2.out [98] 2 1
                  rw [HS1.out.2] at h
                  rw [show 8 + ((j + 1 : Nat) : Int) = 8 + (j : Int) + 1 by omega]
                  exact h
                have ex : ((tx [98]).toList == (tx [98]).toList) = true := by simp
                have e1 : m * w' = m * w' := rfl
                have e2 : (n + 1) * v = n * v + v := by rw [Int.add_mul, Int.one_mul]
                obtain ⟨X, hX⟩ : ∃ X, m * w' = X := ⟨_, rfl⟩
                obtain ⟨Y, hY⟩ : ∃ Y, (n + 1) * v = Y := ⟨_, rfl⟩
                have x0 : 0 ≤ X := by rw [← hX]; exact Int.mul_nonneg (by omega) (by omega)
                have y0 : 0 ≤ Y := by rw [← hY]; exact Int.mul_nonneg (by omega) (by omega)
                have x1 : X ≤ 400 * w' := by rw [← hX]; exact Int.mul_le_mul_of_nonneg_right (by omega) (by omega)
                have y1 : Y ≤ 400 * v := by rw [← hY]; exact Int.mul_le_mul_of_nonneg_right (by omega) (by omega)
                have b0 : -v ≤ X - Y := by omega
                have b1 : X - Y ≤ w' := by omega
                obtain ⟨D, hD⟩ : ∃ D, X - Y = D := ⟨_, rfl⟩
                rw [hD] at b0 b1
                have b2 : D ≤ v + w' := by omega
                have b3 : -D ≤ v + w' := by omega
                clear st1 st2 e1 e2 ht
                go_wp2_with fail
                refine (SA.step HG.out HMj.out.1 HMj.out.2.2 (by omega)).mono ?_
                rintro e w5 ⟨rfl, hp5, hh5⟩
                rw [HS1.out.1]
                have hr5 := hh5.trans HMj.out.2.1
                have hlt5 := (Array.getElem?_eq_some_iff.1 hr5).1
                have z0 : w5.cell? ⟨p, 0, none⟩ = some (.int .i64 m) := by rw [cell_of_row _ _ _ _ _ _ hr5]; rfl
                have z1 : w5.cell? ⟨p, 1, none⟩ = some (.int .i64 n) := by rw [cell_of_row _ _ _ _ _ _ hr5]; rfl
                have f0 : w5.frozen? ⟨p, 1, none⟩ = false := frozen_of_row _ _ 1 _ _ hr5
                have HP5 : Hid (∀ o, SA PF w.heap.size p w ((w5.setCell ⟨p, 1, none⟩ (.int .i64 (n + 1))).alloc o) T (stepS (shS v w' A B m n clk srv)).2 ∧ ((w5.setCell ⟨p, 1, none⟩ (.int .i64 (n + 1))).alloc o).heap[p]? = some (.cells #[.int .i64 m, .int .i64 (n + 1)] 28 (0, 0))) := fun o => ⟨(hp5.setCell HG.out HPB.out 1 _).later HG.out (bel1 _ o) (Nat.le_refl _), (Below.heap_alloc _ _ _ (by simpa using hlt5)).trans (row_set _ hr5)⟩
                clear hp5 hh5 hr5
                go_wp2_with fail
                obtain ⟨W6, hW6⟩ : ∃ W6, (w5.setCell ⟨p, 1, none⟩ (.int .i64 (n + 1))).alloc (.cells #[.int .i64 2, .int .i64 1] 31) = W6 := ⟨_, rfl⟩
                have HP6 : Hid (SA PF w.heap.size p w W6 T (stepS (shS v w' A B m n clk srv)).2 ∧ W6.heap[p]? = some (.cells #[.int .i64 m, .int .i64 (n + 1)] 28 (0, 0))) := by rw [← hW6]; exact HP5.out _
                rw [hW6]
                clear hW6 HP5 z0 z1 f0 hlt5
                refine (SA.push HG.out HP6.out.1 HO2.out (by omega)).mono ?_
                rintro e w7 ⟨rfl, hp7, hh7⟩
                rw [HS1.out.2] at hp7
                rw [HS1.out.2]
                have hr7 := hh7.trans HP6.out.2
                have z0 : w7.cell? ⟨p, 0, none⟩ = some (.int .i64 m) := by rw [cell_of_row _ _ _ _ _ _ hr7]; rfl
                have z1 : w7.cell? ⟨p, 1, none⟩ = some (.int .i64 (n + 1)) := by rw [cell_of_row _ _ _ _ _ _ hr7]; rfl
                have HP7 : Hid (SA PF w.heap.size p w w7 T (shS v w' A B m (n + 1) (n * B) [98]) ∧ w7.heap[p]? = some (.cells #[.int .i64 m, .int .i64 (n + 1)] 28 (0, 0))) := ⟨hp7, hr7⟩
                clear hp7 hh7 hr7 HP6
                have HDD : Hid (-v ≤ m * w' - (n + 1) * v ∧ m * w' - (n + 1) * v ≤ w') := by rw [hX, hY, hD]; exact ⟨b0, b1⟩
                go_wp2_with fail
                go_roundw
                case rel => exact ⟨j + 1, m, (n + 1), _, _, by go_num, by omega, by omega, by omega, by omega, by omega, by omega, HDD.out.1, HDD.out.2, HP7.out.1, HP7.out.2, HO3.out⟩
                case measure => simp [intOf]; omega
              · obtain ⟨st1, st2⟩ := stepA hh HAB.out.1 HAB.out.2.2.2.2.1 (v := v) (w := w') (clk := clk) (srv := srv)
                have ht := turn_le (by omega) (by omega) HAB.out.2.2.1 HAB.out.2.2.2.1 hh
                have HS1 : Hid ((stepS (shS v w' A B m n clk srv)).1 = ⟨[97], 1, 1, true, true⟩ ∧ pushS (stepS (shS v w' A B m n clk srv)).2 [97] 1 1 = (0, shS v w' A B (m + 1) n (m * A) [97])) := ⟨st1, st2⟩
                have HO2 : Hid (Sok (8 + (j : Int)) (stepS (shS v w' A B m n clk srv)).2) := step_ok (by omega) HMj.out.2.2
                have HO3 : Hid (Sok (8 + ((j + 1 : Nat) : Int)) (shS v w' A B (m + 1) n (m * A) [97])) := by
                  have h := push_ok (by omega) HO2.out [97] 1 1
                  rw [HS1.out.2] at h
                  rw [show 8 + ((j + 1 : Nat) : Int) = 8 + (j : Int) + 1 by omega]
                  exact h
                have ex : ((tx [97]).toList == (tx [98]).toList) = false := by rw [tx_list, tx_list]; decide
                have e1 : (m + 1) * w' = m * w' + w' := by rw [Int.add_mul, Int.one_mul]
                have e2 : n * v = n * v := rfl
                obtain ⟨X, hX⟩ : ∃ X, (m + 1) * w' = X := ⟨_, rfl⟩
                obtain ⟨Y, hY⟩ : ∃ Y, n * v = Y := ⟨_, rfl⟩
                have x0 : 0 ≤ X := by rw [← hX]; exact Int.mul_nonneg (by omega) (by omega)
                have y0 : 0 ≤ Y := by rw [← hY]; exact Int.mul_nonneg (by omega) (by omega)
                have x1 : X ≤ 400 * w' := by rw [← hX]; exact Int.mul_le_mul_of_nonneg_right (by omega) (by omega)
                have y1 : Y ≤ 400 * v := by rw [← hY]; exact Int.mul_le_mul_of_nonneg_right (by omega) (by omega)
                have b0 : -v ≤ X - Y := by omega
                have b1 : X - Y ≤ w' := by omega
                obtain ⟨D, hD⟩ : ∃ D, X - Y = D := ⟨_, rfl⟩
                rw [hD] at b0 b1
                have b2 : D ≤ v + w' := by omega
                have b3 : -D ≤ v + w' := by omega
                clear st1 st2 e1 e2 ht
                go_wp2_with fail
                refine (SA.step HG.out HMj.out.1 HMj.out.2.2 (by omega)).mono ?_
                rintro e w5 ⟨rfl, hp5, hh5⟩
                rw [HS1.out.1]
                have hr5 := hh5.trans HMj.out.2.1
                have hlt5 := (Array.getElem?_eq_some_iff.1 hr5).1
                have z0 : w5.cell? ⟨p, 0, none⟩ = some (.int .i64 m) := by rw [cell_of_row _ _ _ _ _ _ hr5]; rfl
                have z1 : w5.cell? ⟨p, 1, none⟩ = some (.int .i64 n) := by rw [cell_of_row _ _ _ _ _ _ hr5]; rfl
                have f0 : w5.frozen? ⟨p, 0, none⟩ = false := frozen_of_row _ _ 0 _ _ hr5
                have HP5 : Hid (∀ o, SA PF w.heap.size p w ((w5.setCell ⟨p, 0, none⟩ (.int .i64 (m + 1))).alloc o) T (stepS (shS v w' A B m n clk srv)).2 ∧ ((w5.setCell ⟨p, 0, none⟩ (.int .i64 (m + 1))).alloc o).heap[p]? = some (.cells #[.int .i64 (m + 1), .int .i64 n] 28 (0, 0))) := fun o => ⟨(hp5.setCell HG.out HPB.out 0 _).later HG.out (bel1 _ o) (Nat.le_refl _), (Below.heap_alloc _ _ _ (by simpa using hlt5)).trans (row_set _ hr5)⟩
                clear hp5 hh5 hr5
                go_wp2_with fail
                obtain ⟨W6, hW6⟩ : ∃ W6, (w5.setCell ⟨p, 0, none⟩ (.int .i64 (m + 1))).alloc (.cells #[.int .i64 1, .int .i64 1] 31) = W6 := ⟨_, rfl⟩
                have HP6 : Hid (SA PF w.heap.size p w W6 T (stepS (shS v w' A B m n clk srv)).2 ∧ W6.heap[p]? = some (.cells #[.int .i64 (m + 1), .int .i64 n] 28 (0, 0))) := by rw [← hW6]; exact HP5.out _
                rw [hW6]
                clear hW6 HP5 z0 z1 f0 hlt5
                refine (SA.push HG.out HP6.out.1 HO2.out (by omega)).mono ?_
                rintro e w7 ⟨rfl, hp7, hh7⟩
                rw [HS1.out.2] at hp7
                rw [HS1.out.2]
                have hr7 := hh7.trans HP6.out.2
                have z0 : w7.cell? ⟨p, 0, none⟩ = some (.int .i64 (m + 1)) := by rw [cell_of_row _ _ _ _ _ _ hr7]; rfl
                have z1 : w7.cell? ⟨p, 1, none⟩ = some (.int .i64 n) := by rw [cell_of_row _ _ _ _ _ _ hr7]; rfl
                have HP7 : Hid (SA PF w.heap.size p w w7 T (shS v w' A B (m + 1) n (m * A) [97]) ∧ w7.heap[p]? = some (.cells #[.int .i64 (m + 1), .int .i64 n] 28 (0, 0))) := ⟨hp7, hr7⟩
                clear hp7 hh7 hr7 HP6
                have HDD : Hid (-v ≤ (m + 1) * w' - n * v ∧ (m + 1) * w' - n * v ≤ w') := by rw [hX, hY, hD]; exact ⟨b0, b1⟩
                go_wp2_with fail
                go_roundw
                case rel => exact ⟨j + 1, (m + 1), n, _, _, by go_num, by omega, by omega, by omega, by omega, by omega, by omega, HDD.out.1, HDD.out.2, HP7.out.1, HP7.out.2, HO3.out⟩
                case measure => simp [intOf]; omega
            · clear j1
              go_wp2_with (go_at_call 6; refine (known_any HG.out _).mono ?_; rintro e w5 ⟨rfl, hb5⟩)
              go_ret
              exact ⟨rfl, HMj.out.1.bel.trans (hb5.mono HMj.out.1.bel.size)⟩
    · have hs2 : setS (setS newS [97] v).2 [98] w' = (1, (setS newS [97] v).2) := set_bad hw
      have hs1 : (setS newS [97] v).1 = 0 := by simp [setS, newS, lookT, ixT, hv]
      have HSS : Hid ((setS newS [97] v).1 = 0 ∧ (setS (setS newS [97] v).2 [98] w').1 = 1) := ⟨hs1, by rw [hs2]⟩
      clear hv hw hs1 hs2
      go_wp2_with fail
      refine (S1.set HG.out HP1.out.1 HOK1.out.1 (by decide)).mono ?_
      rintro e w2 ⟨rfl, hp2, hb2⟩
      rw [HSS.out.1]
      have HP2 : Hid (S1 PF w.heap.size w2 T (setS newS [97] v).2 ∧ Below w.heap.size w w2) := ⟨hp2, HP1.out.2.trans hb2⟩
      clear hp2 hb2 HP1
      go_wp2_with fail
      refine (S1.set HG.out HP2.out.1 HOK1.out.2.1 (by decide)).mono ?_
      rintro e w3 ⟨rfl, hp3, hb3⟩
      rw [HSS.out.2]
      have HP3 : Hid (Below w.heap.size w w3) := HP2.out.2.trans hb3
      clear hp3 hb3 HP2
      go_wp2_with (go_at_call 6; refine (known_any HG.out _).mono ?_; rintro e w5 ⟨rfl, hb5⟩)
      go_ret
      exact ⟨rfl, HP3.out.trans (hb5.mono HP3.out.size)⟩
  · have HSS : Hid ((setS newS [97] v).1 = 1) := by show _ = _; rw [set_bad hv]
    clear hv
    go_wp2_with fail
    refine (S1.set HG.out HP1.out.1 HOK1.out.1 (by decide)).mono ?_
    rintro e w2 ⟨rfl, hp2, hb2⟩
    rw [HSS.out]
    have HP2 : Hid (Below w.heap.size w w2) := HP1.out.2.trans hb2
    clear hp2 hb2 HP1
    go_wp2_with (go_at_call 6; refine (known_any HG.out _).mono ?_; rintro e w5 ⟨rfl, hb5⟩)
    go_ret
    exact ⟨rfl, HP2.out.trans (hb5.mono HP2.out.size)⟩
end Go.Proofs.Ytfndbllpnkhlhab
