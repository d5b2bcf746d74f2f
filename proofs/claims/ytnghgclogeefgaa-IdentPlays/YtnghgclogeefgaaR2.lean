/- The model's reading of a peer's text. -/
import Derived.Test.YtnghgclogeefgaaQ1
import Derived.Test.YtnghgclogeefgaaR1
namespace Go.Proofs.Ytnghgclogeefgaa
open Go.RowKit
set_option linter.unusedVariables false
set_option linter.unusedSimpArgs false

/-- The answer's place, ahead. -/
structure RS (w W : World) : Prop where
  res : W.heap[w.heap.size]? = some (.cells #[.string (tx []), .string (tx []), .bool false] 23 (0, 0))
  bel : Below w.heap.size w W
theorem RS.drew {w W : World} (h : RS w W) (n : Nat) : RS w (W.drewN n) := ⟨h.res, below_drewN h.bel n⟩
theorem RS.start (w : World) : RS w (w.alloc (Obj.cells #[Value.string { data := #[] }, Value.string { data := #[] }, Value.bool false] 23)) :=
  ⟨Go.heap_alloc_new _ _, (Below.refl _ w).alloc (Nat.le_refl _) _⟩
/-- And who was read so far. -/
structure RT (w W : World) (i : Nat) (t u : List UInt8) : Prop where
  rs : RS w W
  who : W.heap[i]? = some (.cells #[.string (tx t), .string (tx u), .bool false] 23 (0, 0))
  lt : w.heap.size < i
theorem RT.drew {w W : World} {i : Nat} {t u : List UInt8} (h : RT w W i t u) (n : Nat) : RT w (W.drewN n) i t u := ⟨h.rs.drew n, h.who, h.lt⟩
theorem RT.new {w W : World} (h : RS w W) (t : List UInt8) : RT w (W.alloc (.cells #[.string (tx t), .string { data := #[] }, .bool false] 23)) W.heap.size t [] := by
  have hlt := (Array.getElem?_eq_some_iff.1 h.res).1
  exact ⟨⟨(Below.heap_alloc _ _ _ hlt).trans h.res, h.bel.alloc (by omega) _⟩, Go.heap_alloc_new _ _, hlt⟩
theorem RT.user {w W : World} {i : Nat} {t u : List UInt8} (h : RT w W i t u) (x : List UInt8) : RT w (W.setCell ⟨i, 1, none⟩ (.string (tx x))) i t x := by
  have hlt := h.lt
  exact ⟨⟨(Below.heap_setCell _ _ _ _ (by show w.heap.size ≠ i; omega)).trans h.rs.res, h.rs.bel.setCell (by show w.heap.size ≤ i; omega) _⟩, row_set _ h.who, h.lt⟩
/-- The three cells of the answer written. -/
theorem RS.ans {w W : World} (h : RS w W) (t u : List UInt8) (b : Bool) : (((W.setCell ⟨w.heap.size, 0, none⟩ (.string (tx t))).setCell ⟨w.heap.size, 1, none⟩ (.string (tx u))).setCell ⟨w.heap.size, 2, none⟩ (.bool b)).heap[w.heap.size]? = some (.cells (idV t u b) 23 (0, 0)) ∧ Below w.heap.size w (((W.setCell ⟨w.heap.size, 0, none⟩ (.string (tx t))).setCell ⟨w.heap.size, 1, none⟩ (.string (tx u))).setCell ⟨w.heap.size, 2, none⟩ (.bool b)) :=
  ⟨row_set _ (row_set _ (row_set _ h.res)), ((h.bel.setCell (Nat.le_refl _) _).setCell (Nat.le_refl _) _).setCell (Nat.le_refl _) _⟩

set_option maxRecDepth 20000 in
set_option maxHeartbeats 8000000 in
theorem rparse_any (s : List UInt8) (w : World) (hm : (s.length : Int) ≤ 140737488351232) :
    Calls Try.prog 9 #[.string (tx s)] w fun e w' => e = .returned (resP (pI s)) ∧ Below w.heap.size w w' := by
  have hsz : (tx s).size = s.length := tx_size s
  have HS0 : Hid (RS w (w.alloc (Obj.cells #[Value.string { data := #[] }, Value.string { data := #[] }, Value.bool false] 23))) := RS.start w
  go_enter Try.func9, Try.ntmps9
  go_wp2_with fail
  generalize w.alloc (Obj.cells #[Value.string { data := #[] }, Value.string { data := #[] }, Value.bool false] 23) = W0 at HS0 ⊢
  go_loopw [6] (fun v wr => ∃ k : Nat, k ≤ 7 ∧ v = .int .i64 k ∧ k ≤ s.length ∧ (∀ j, j < k → s[j]? = hd[j]?) ∧ RS w wr) (fun v wr => 7 - (intOf v).toNat)
  case atStart => exact ⟨0, by omega, rfl, by omega, fun j hj => (Nat.not_lt_zero _ hj).elim, HS0.out⟩
  case round =>
    clear HS0
    obtain ⟨k, hk, rfl, hks, hD, hr⟩ := hrel
    have HD : Hid (∀ j, j < k → s[j]? = hd[j]?) := hD
    have H1 : Hid (RS w wr) := hr
    clear hD hr
    by_cases hlt : k < 7
    · have hlt' : (k : Int) < 7 := by omega
      obtain ⟨d, hdd⟩ : ∃ d, hd[k]? = some d := ⟨_, List.getElem?_eq_getElem (by show k < 7; exact hlt)⟩
      have hiy : ∀ W, (Instr.index 9 (.string ⟨#[98, 101, 108, 102, 114, 121, 58]⟩) (.int .i64 (k : Int))).run Try.prog W = .ok (.int .u8 (d.toNat : Int)) W := fun W => tx_at hd k d hdd _ W
      have HLT : Hid (k < 7) := hlt
      by_cases hend : k = s.length
      · have hb : decide (s.length ≤ k) = true := decide_eq_true (by omega)
        have HP : Hid (pI s = .inr k) := by
          have h := lcp_of k s hd HD.out (by omega) (by show k ≤ 7; omega) (.inr (.inl hend))
          show _ = _
          unfold pI
          rw [h, if_pos hlt]
        clear hend hlt hdd
        have z0 : wr.cell? ⟨w.heap.size, 0, none⟩ = some (.string (tx [])) := by rw [cell_of_row _ _ _ _ _ _ H1.out.res]; rfl
        have f0 : wr.frozen? ⟨w.heap.size, 0, none⟩ = false := frozen_of_row _ _ 0 _ _ H1.out.res
        have z1 : wr.cell? ⟨w.heap.size, 1, none⟩ = some (.string (tx [])) := by rw [cell_of_row _ _ _ _ _ _ H1.out.res]; rfl
        have f1 : wr.frozen? ⟨w.heap.size, 1, none⟩ = false := frozen_of_row _ _ 1 _ _ H1.out.res
        have z2 : wr.cell? ⟨w.heap.size, 2, none⟩ = some (.bool false) := by rw [cell_of_row _ _ _ _ _ _ H1.out.res]; rfl
        have f2 : wr.frozen? ⟨w.heap.size, 2, none⟩ = false := frozen_of_row _ _ 2 _ _ H1.out.res
        go_wp2_with fail
        go_quiet (fail)
        go_wp2_with fail
        have hz : RS w (wr.drewN nq) := H1.out.drew nq
        refine bodyPost_ret (v := resP (.inr k)) (results_three Try.results9 _ _ w.heap.size (idV [] [] false) _ _ rfl rfl rfl (load23 (hz.ans [] [] false).1 rfl)) rfl ⟨by rw [HP.out], ?_⟩
        exact (hz.ans [] [] false).2
      · have hlt2 : (k : Int) < (s.length : Int) := by omega
        have hb : decide (s.length ≤ k) = false := decide_eq_false (by omega)
        obtain ⟨c, hc⟩ : ∃ c, s[k]? = some c := ⟨_, List.getElem?_eq_getElem (by omega)⟩
        have hix : ∀ W, (Instr.index 9 (.string (tx s)) (.int .i64 (k : Int))).run Try.prog W = .ok (.int .u8 (c.toNat : Int)) W := fun W => tx_at s k c hc _ W
        have HC : Hid (s[k]? = some c) := hc
        have HDD : Hid (hd[k]? = some d) := hdd
        clear hend hc hdd hlt
        by_cases heq : c = d
        · subst heq
          have hne : ((c.toNat : Int) != (c.toNat : Int)) = false := by simp
          have HN : Hid (∀ j, j < k + 1 → s[j]? = hd[j]?) := by
            intro j hj
            rcases (show j = k ∨ j < k from by omega) with rfl | h
            · rw [HC.out, HDD.out]
            · exact HD.out j h
          generalize (c.toNat : Int) = C at hix hiy hne
          go_wp2_with fail
          go_quiet (fail)
          go_wp2_with fail
          go_roundw
          case rel => exact ⟨k + 1, HLT.out, by go_num, by omega, HN.out, H1.out.drew _⟩
          case measure => have := HLT.out; simp [intOf]; omega
        · have hne : ((c.toNat : Int) != (d.toNat : Int)) = true := by
            rw [bne_iff_ne]
            intro e
            exact heq (UInt8.toNat_inj.1 (by omega))
          have HP : Hid (pI s = .inr k) := by
            have h := lcp_of k s hd HD.out (by omega) (by show k ≤ 7; have := HLT.out; omega) (.inr (.inr (by rw [HC.out, HDD.out]; simpa using heq)))
            show _ = _
            unfold pI
            rw [h, if_pos HLT.out]
          generalize (c.toNat : Int) = C at hix hne
          generalize (d.toNat : Int) = D at hiy hne
          clear heq
          have z0 : wr.cell? ⟨w.heap.size, 0, none⟩ = some (.string (tx [])) := by rw [cell_of_row _ _ _ _ _ _ H1.out.res]; rfl
          have f0 : wr.frozen? ⟨w.heap.size, 0, none⟩ = false := frozen_of_row _ _ 0 _ _ H1.out.res
          have z1 : wr.cell? ⟨w.heap.size, 1, none⟩ = some (.string (tx [])) := by rw [cell_of_row _ _ _ _ _ _ H1.out.res]; rfl
          have f1 : wr.frozen? ⟨w.heap.size, 1, none⟩ = false := frozen_of_row _ _ 1 _ _ H1.out.res
          have z2 : wr.cell? ⟨w.heap.size, 2, none⟩ = some (.bool false) := by rw [cell_of_row _ _ _ _ _ _ H1.out.res]; rfl
          have f2 : wr.frozen? ⟨w.heap.size, 2, none⟩ = false := frozen_of_row _ _ 2 _ _ H1.out.res
          go_wp2_with fail
          go_quiet (fail)
          go_wp2_with fail
          have hz : RS w (wr.drewN nq) := H1.out.drew nq
          refine bodyPost_ret (v := resP (.inr k)) (results_three Try.results9 _ _ w.heap.size (idV [] [] false) _ _ rfl rfl rfl (load23 (hz.ans [] [] false).1 rfl)) rfl ⟨by rw [HP.out], ?_⟩
          exact (hz.ans [] [] false).2
    · have hk7 : k = 7 := by omega
      subst hk7
      have e7 : lcp s hd = 7 := lcp_of 7 s hd HD.out hks (Nat.le_refl _) (.inl rfl)
      rw [show ((7 : Nat) : Int) = 7 from rfl]
      have hlen7 : (7 : Int) ≤ (s.length : Int) := by omega
      have hxf : (tx s).extract 7 s.length = tx (s.drop 7) := tx_from s 7
      have HL : Hid (∀ w, Calls Try.prog 34 #[.string (tx (s.drop 7))] w fun e w' => e = .returned (.int .i64 (nl (s.drop 7))) ∧ w' = w) := fun w => fits_any _ w (by simp; omega)
      have hn1 := nl_le (s.drop 7)
      have HN32 : Hid (nl (s.drop 7) ≤ 32) := nl_max _
      rw [List.length_drop] at hn1
      obtain ⟨n, hn⟩ : ∃ n, nl (s.drop 7) = n := ⟨_, rfl⟩
      have HN : Hid (nl (s.drop 7) = n) := hn
      rw [hn] at HL hn1
      have HF2 : Hid (n = 0 ∨ s[7 + n]? ≠ some 47 → pI s = .inr (7 + n)) := fun h => by unfold pI; rw [if_neg (by omega)]; simp only; rw [hn, if_pos h]
      have HF : Hid (n ≠ 0 → s[7 + n]? = some 47 → pI s = (if nl (s.drop (8 + n)) = 0 then .inr (8 + n)
            else if 8 + n + nl (s.drop (8 + n)) = s.length then .inl ((s.drop 7).take n, (s.drop (8 + n)).take (nl (s.drop (8 + n))), false)
            else if lcp (s.drop (8 + n + nl (s.drop (8 + n)))) ad < 6 ∨ 14 + n + nl (s.drop (8 + n)) ≠ s.length then .inr (8 + n + nl (s.drop (8 + n)) + lcp (s.drop (8 + n + nl (s.drop (8 + n)))) ad)
            else .inl ((s.drop 7).take n, (s.drop (8 + n)).take (nl (s.drop (8 + n))), true))) := by
        intro d2 h47
        unfold pI
        rw [if_neg (by omega)]
        simp only [HN.out]
        rw [if_neg (by intro h; rcases h with h | h; exact d2 h; exact h h47)]
      obtain ⟨p, hp⟩ : ∃ p, 7 + n = p := ⟨_, rfl⟩
      have hp1 : (7 : Int) + (n : Int) = (p : Int) := by omega
      have hxg : (tx s).extract 7 p = tx ((s.drop 7).take n) := by rw [tx_extract, show p - 7 = n by omega]
      have HX : Hid (8 + n = p + 1) := by show _ = _; omega
      rw [hp] at HF2 HF
      rw [HX.out, show 14 + n = p + 7 by omega] at HF
      have hpl : (p : Int) ≤ (s.length : Int) := by omega
      have hp7 : (7 : Int) ≤ (p : Int) := by omega
      have hn32 : (n : Int) ≤ 32 := by have := HN32.out; omega
      clear hn HN HN32 hks HD hk hlt e7 hn1 hp HX
      by_cases d2 : n = 0
      · have hb : ((n : Int) == 0) = true := by simpa using d2
        have HP : Hid (pI s = .inr p) := HF2.out (.inl d2)
        clear d2 HF2 HF
        have z0 : wr.cell? ⟨w.heap.size, 0, none⟩ = some (.string (tx [])) := by rw [cell_of_row _ _ _ _ _ _ H1.out.res]; rfl
        have f0 : wr.frozen? ⟨w.heap.size, 0, none⟩ = false := frozen_of_row _ _ 0 _ _ H1.out.res
        have z1 : wr.cell? ⟨w.heap.size, 1, none⟩ = some (.string (tx [])) := by rw [cell_of_row _ _ _ _ _ _ H1.out.res]; rfl
        have f1 : wr.frozen? ⟨w.heap.size, 1, none⟩ = false := frozen_of_row _ _ 1 _ _ H1.out.res
        have z2 : wr.cell? ⟨w.heap.size, 2, none⟩ = some (.bool false) := by rw [cell_of_row _ _ _ _ _ _ H1.out.res]; rfl
        have f2 : wr.frozen? ⟨w.heap.size, 2, none⟩ = false := frozen_of_row _ _ 2 _ _ H1.out.res
        go_wp2_with fail
        refine (HL.out _).mono ?_
        rintro e w1 ⟨rfl, hw1⟩
        rw [hw1]; clear hw1 w1
        go_wp2_with fail
        refine bodyPost_ret (v := resP (.inr p)) (results_three Try.results9 _ _ w.heap.size (idV [] [] false) _ _ rfl rfl rfl (load23 (H1.out.ans [] [] false).1 rfl)) rfl ⟨by rw [HP.out], ?_⟩
        exact (H1.out.ans [] [] false).2
      · have hb : ((n : Int) == 0) = false := by simpa using d2
        by_cases d3 : s.length ≤ p
        · have hb2 : decide (s.length ≤ p) = true := decide_eq_true (by omega)
          have hb3 : (s.length : Int) ≤ (p : Int) := by omega
          have HP : Hid (pI s = .inr p) := HF2.out (.inr (by rw [List.getElem?_eq_none d3]; simp))
          clear d2 d3 HF2 HF
          have z0 : wr.cell? ⟨w.heap.size, 0, none⟩ = some (.string (tx [])) := by rw [cell_of_row _ _ _ _ _ _ H1.out.res]; rfl
          have f0 : wr.frozen? ⟨w.heap.size, 0, none⟩ = false := frozen_of_row _ _ 0 _ _ H1.out.res
          have z1 : wr.cell? ⟨w.heap.size, 1, none⟩ = some (.string (tx [])) := by rw [cell_of_row _ _ _ _ _ _ H1.out.res]; rfl
          have f1 : wr.frozen? ⟨w.heap.size, 1, none⟩ = false := frozen_of_row _ _ 1 _ _ H1.out.res
          have z2 : wr.cell? ⟨w.heap.size, 2, none⟩ = some (.bool false) := by rw [cell_of_row _ _ _ _ _ _ H1.out.res]; rfl
          have f2 : wr.frozen? ⟨w.heap.size, 2, none⟩ = false := frozen_of_row _ _ 2 _ _ H1.out.res
          go_wp2_with fail
          refine (HL.out _).mono ?_
          rintro e w1 ⟨rfl, hw1⟩
          rw [hw1]; clear hw1 w1
          go_wp2_with fail
          refine bodyPost_ret (v := resP (.inr p)) (results_three Try.results9 _ _ w.heap.size (idV [] [] false) _ _ rfl rfl rfl (load23 (H1.out.ans [] [] false).1 rfl)) rfl ⟨by rw [HP.out], ?_⟩
          exact (H1.out.ans [] [] false).2
        · have hb2 : decide (s.length ≤ p) = false := decide_eq_false (by omega)
          have hpl' : (p : Int) < (s.length : Int) := by omega
          obtain ⟨c, hc⟩ : ∃ c, s[p]? = some c := ⟨_, List.getElem?_eq_getElem (by omega)⟩
          have hix : ∀ W, (Instr.index 9 (.string (tx s)) (.int .i64 (p : Int))).run Try.prog W = .ok (.int .u8 (c.toNat : Int)) W := fun W => tx_at s p c hc _ W
          by_cases d4 : c = 47
          · have hne : ((c.toNat : Int) != 47) = false := by rw [d4]; rfl
            have HG : Hid _ := HF.out d2 (by rw [hc, d4])
            generalize (c.toNat : Int) = C at hix hne
            clear d2 d3 d4 hc HF HF2
            have hq0 : (p : Int) + 1 = ((p + 1 : Nat) : Int) := by omega
            obtain ⟨q, hq⟩ : ∃ q, p + 1 = q := ⟨_, rfl⟩
            rw [hq] at hq0
            have hxq : (tx s).extract q s.length = tx (s.drop q) := tx_from s q
            have HL2 : Hid (∀ w, Calls Try.prog 34 #[.string (tx (s.drop q))] w fun e w' => e = .returned (.int .i64 (nl (s.drop q))) ∧ w' = w) := fun w => fits_any _ w (by simp; omega)
            have hm1 := nl_le (s.drop q)
            have hm32 := nl_max (s.drop q)
            rw [List.length_drop] at hm1
            have hql : (q : Int) ≤ (s.length : Int) := by omega
            have HG2 : Hid (pI s = (if nl (s.drop q) = 0 then .inr q
                        else if q + nl (s.drop q) = s.length then .inl ((s.drop 7).take n, (s.drop q).take (nl (s.drop q)), false)
                        else if lcp (s.drop (q + nl (s.drop q))) ad < 6 ∨ q + nl (s.drop q) + 6 ≠ s.length then .inr (q + nl (s.drop q) + lcp (s.drop (q + nl (s.drop q))) ad)
                        else .inl ((s.drop 7).take n, (s.drop q).take (nl (s.drop q)), true))) := by
              have h := HG.out
              rw [show p + 7 + nl (s.drop (p + 1)) = p + 1 + nl (s.drop (p + 1)) + 6 by omega, hq] at h
              exact h
            clear HG
            generalize hTT : (s.drop 7).take n = T at HG2 hxg
            generalize hUU : (s.drop q).take (nl (s.drop q)) = U at HG2
            generalize hmm : nl (s.drop q) = m at HG2 HL2 hm1 hm32 hUU
            obtain ⟨r, hr⟩ : ∃ r, q + m = r := ⟨_, rfl⟩
            have hr1 : (q : Int) + (m : Int) = (r : Int) := by omega
            have hxr : (tx s).extract q r = tx U := by rw [tx_extract, show r - q = m by omega, hUU]
            have hrl : (r : Int) ≤ (s.length : Int) := by omega
            have hqr : (q : Int) ≤ (r : Int) := by omega
            rw [hr] at HG2
            have hm32' : (m : Int) ≤ 32 := by omega
            clear hm1 hm32 hmm hUU hTT hq hr
            go_wp2_with fail
            refine (HL.out _).mono ?_
            rintro e w1 ⟨rfl, hw1⟩
            rw [hw1]; clear hw1 w1
            go_wp2_with fail
            obtain ⟨i, hi⟩ : ∃ i, wr.heap.size = i := ⟨_, rfl⟩
            have H2 : Hid (RT w (wr.alloc (.cells #[.string (tx T), .string { data := #[] }, .bool false] 23)) i T []) := by rw [← hi]; exact RT.new H1.out T
            rw [hi]
            generalize wr.alloc (.cells #[.string (tx T), .string { data := #[] }, .bool false] 23) = W2 at H2 ⊢
            clear hi H1 HL
            try rw [hxq]
            refine (HL2.out _).mono ?_
            rintro e w1 ⟨rfl, hw1⟩
            rw [hw1]; clear hw1 w1 HL2
            have hiR : ¬ i = w.heap.size := by have := H2.out.lt; omega
            have hiR' : ¬ w.heap.size = i := by have := H2.out.lt; omega
            by_cases e1 : m = 0
            · have hbm : ((m : Int) == 0) = true := by simpa using e1
              have HP : Hid (pI s = .inr q) := by show _ = _; rw [HG2.out, if_pos e1]
              clear e1 HG2
              have z0 : W2.cell? ⟨w.heap.size, 0, none⟩ = some (.string (tx [])) := by rw [cell_of_row _ _ _ _ _ _ H2.out.rs.res]; rfl
              have f0 : W2.frozen? ⟨w.heap.size, 0, none⟩ = false := frozen_of_row _ _ 0 _ _ H2.out.rs.res
              have z1 : W2.cell? ⟨w.heap.size, 1, none⟩ = some (.string (tx [])) := by rw [cell_of_row _ _ _ _ _ _ H2.out.rs.res]; rfl
              have f1 : W2.frozen? ⟨w.heap.size, 1, none⟩ = false := frozen_of_row _ _ 1 _ _ H2.out.rs.res
              have z2 : W2.cell? ⟨w.heap.size, 2, none⟩ = some (.bool false) := by rw [cell_of_row _ _ _ _ _ _ H2.out.rs.res]; rfl
              have f2 : W2.frozen? ⟨w.heap.size, 2, none⟩ = false := frozen_of_row _ _ 2 _ _ H2.out.rs.res
              go_wp2_with fail
              refine bodyPost_ret (v := resP (.inr q)) (results_three Try.results9 _ _ w.heap.size (idV [] [] false) _ _ rfl rfl rfl (load23 (H2.out.rs.ans [] [] false).1 rfl)) rfl ⟨by rw [HP.out], ?_⟩
              exact (H2.out.rs.ans [] [] false).2
            · have hbm : ((m : Int) == 0) = false := by simpa using e1
              have HG3 : Hid (pI s = (if r = s.length then .inl (T, U, false) else if lcp (s.drop r) ad < 6 ∨ r + 6 ≠ s.length then .inr (r + lcp (s.drop r) ad) else .inl (T, U, true))) := by show _ = _; rw [HG2.out, if_neg e1]
              clear e1 HG2
              have y0 : W2.cell? ⟨i, 0, none⟩ = some (.string (tx T)) := by rw [cell_of_row _ _ _ _ _ _ H2.out.who]; rfl
              have g0 : W2.frozen? ⟨i, 0, none⟩ = false := frozen_of_row _ _ 0 _ _ H2.out.who
              have y1 : W2.cell? ⟨i, 1, none⟩ = some (.string (tx [])) := by rw [cell_of_row _ _ _ _ _ _ H2.out.who]; rfl
              have g1 : W2.frozen? ⟨i, 1, none⟩ = false := frozen_of_row _ _ 1 _ _ H2.out.who
              have y2 : W2.cell? ⟨i, 2, none⟩ = some (.bool false) := by rw [cell_of_row _ _ _ _ _ _ H2.out.who]; rfl
              have g2 : W2.frozen? ⟨i, 2, none⟩ = false := frozen_of_row _ _ 2 _ _ H2.out.who
              go_upto_region 18 with fail
              have H3 : Hid (RT w (W2.setCell ⟨i, 1, none⟩ (.string (tx U))) i T U) := H2.out.user U
              generalize W2.setCell ⟨i, 1, none⟩ (.string (tx U)) = W3 at H3 ⊢
              clear y0 y1 y2 g0 g1 g2 H2
              by_cases e2 : r = s.length
              · have hbr : ((r : Int) == (s.length : Int)) = true := by simpa using (by omega : (r : Int) = (s.length : Int))
                have HP : Hid (pI s = .inl (T, U, false)) := by show _ = _; rw [HG3.out, if_pos e2]
                clear e2 HG3
                have y0 : W3.cell? ⟨i, 0, none⟩ = some (.string (tx T)) := by rw [cell_of_row _ _ _ _ _ _ H3.out.who]; rfl
                have g0 : W3.frozen? ⟨i, 0, none⟩ = false := frozen_of_row _ _ 0 _ _ H3.out.who
                have y1 : W3.cell? ⟨i, 1, none⟩ = some (.string (tx U)) := by rw [cell_of_row _ _ _ _ _ _ H3.out.who]; rfl
                have g1 : W3.frozen? ⟨i, 1, none⟩ = false := frozen_of_row _ _ 1 _ _ H3.out.who
                have y2 : W3.cell? ⟨i, 2, none⟩ = some (.bool false) := by rw [cell_of_row _ _ _ _ _ _ H3.out.who]; rfl
                have g2 : W3.frozen? ⟨i, 2, none⟩ = false := frozen_of_row _ _ 2 _ _ H3.out.who
                have z0 : W3.cell? ⟨w.heap.size, 0, none⟩ = some (.string (tx [])) := by rw [cell_of_row _ _ _ _ _ _ H3.out.rs.res]; rfl
                have f0 : W3.frozen? ⟨w.heap.size, 0, none⟩ = false := frozen_of_row _ _ 0 _ _ H3.out.rs.res
                have z1 : W3.cell? ⟨w.heap.size, 1, none⟩ = some (.string (tx [])) := by rw [cell_of_row _ _ _ _ _ _ H3.out.rs.res]; rfl
                have f1 : W3.frozen? ⟨w.heap.size, 1, none⟩ = false := frozen_of_row _ _ 1 _ _ H3.out.rs.res
                have z2 : W3.cell? ⟨w.heap.size, 2, none⟩ = some (.bool false) := by rw [cell_of_row _ _ _ _ _ _ H3.out.rs.res]; rfl
                have f2 : W3.frozen? ⟨w.heap.size, 2, none⟩ = false := frozen_of_row _ _ 2 _ _ H3.out.rs.res
                go_wp2_with fail
                refine bodyPost_ret (v := resP (.inl (T, U, false))) (results_three Try.results9 _ _ w.heap.size (idV T U false) _ _ rfl rfl rfl (load23 (H3.out.rs.ans T U false).1 rfl)) rfl ⟨by rw [HP.out], ?_⟩
                exact (H3.out.rs.ans T U false).2
              · have hbr : ((r : Int) == (s.length : Int)) = false := by simpa using (by omega : ¬ (r : Int) = (s.length : Int))
                have HG4 : Hid (pI s = (if lcp (s.drop r) ad < 6 ∨ r + 6 ≠ s.length then .inr (r + lcp (s.drop r) ad) else .inl (T, U, true))) := by show _ = _; rw [HG3.out, if_neg e2]
                clear HG3 e2
                go_wp2_with fail
                go_loopw [11] (fun v wr => ∃ k : Nat, k ≤ 6 ∧ v = .int .i64 k ∧ r + k ≤ s.length ∧ (∀ j, j < k → (s.drop r)[j]? = ad[j]?) ∧ RT w wr i T U) (fun v wr => 6 - (intOf v).toNat)
                case atStart => exact ⟨0, by omega, rfl, by omega, fun j hj => (Nat.not_lt_zero _ hj).elim, H3.out⟩
                case round =>
                  clear H3
                  obtain ⟨k, hk, rfl, hks, hD, hr⟩ := hrel
                  have HD : Hid (∀ j, j < k → (s.drop r)[j]? = ad[j]?) := hD
                  have H4 : Hid (RT w wr i T U) := hr
                  clear hD hr
                  obtain ⟨x, hx⟩ : ∃ x, r + k = x := ⟨_, rfl⟩
                  have hx1 : (r : Int) + (k : Int) = (x : Int) := by omega
                  have hxl : (x : Int) ≤ (s.length : Int) := by omega
                  by_cases hlt : k < 6
                  · have hlt' : (k : Int) < 6 := by omega
                    obtain ⟨d, hdd⟩ : ∃ d, ad[k]? = some d := ⟨_, List.getElem?_eq_getElem (by show k < 6; exact hlt)⟩
                    have hiy : ∀ W, (Instr.index 9 (.string ⟨#[35, 97, 100, 109, 105, 110]⟩) (.int .i64 (k : Int))).run Try.prog W = .ok (.int .u8 (d.toNat : Int)) W := fun W => tx_at ad k d hdd _ W
                    have HLT : Hid (k < 6) := hlt
                    by_cases hend : x = s.length
                    · have hb : decide (s.length ≤ x) = true := decide_eq_true (by omega)
                      have HP : Hid (pI s = .inr x) := by
                        have h := lcp_of k (s.drop r) ad HD.out (by simp; omega) (by show k ≤ 6; omega) (.inr (.inl (by simp; omega)))
                        show _ = _
                        rw [HG4.out, h, if_pos (.inl hlt), hx]
                      clear hend hlt hdd hx hks
                      have z0 : wr.cell? ⟨w.heap.size, 0, none⟩ = some (.string (tx [])) := by rw [cell_of_row _ _ _ _ _ _ H4.out.rs.res]; rfl
                      have f0 : wr.frozen? ⟨w.heap.size, 0, none⟩ = false := frozen_of_row _ _ 0 _ _ H4.out.rs.res
                      have z1 : wr.cell? ⟨w.heap.size, 1, none⟩ = some (.string (tx [])) := by rw [cell_of_row _ _ _ _ _ _ H4.out.rs.res]; rfl
                      have f1 : wr.frozen? ⟨w.heap.size, 1, none⟩ = false := frozen_of_row _ _ 1 _ _ H4.out.rs.res
                      have z2 : wr.cell? ⟨w.heap.size, 2, none⟩ = some (.bool false) := by rw [cell_of_row _ _ _ _ _ _ H4.out.rs.res]; rfl
                      have f2 : wr.frozen? ⟨w.heap.size, 2, none⟩ = false := frozen_of_row _ _ 2 _ _ H4.out.rs.res
                      go_wp2_with fail
                      go_quiet (fail)
                      go_wp2_with fail
                      have hz : RS w (wr.drewN nq) := H4.out.rs.drew nq
                      refine bodyPost_ret (v := resP (.inr x)) (results_three Try.results9 _ _ w.heap.size (idV [] [] false) _ _ rfl rfl rfl (load23 (hz.ans [] [] false).1 rfl)) rfl ⟨by rw [HP.out], ?_⟩
                      exact (hz.ans [] [] false).2
                    · have hlt2 : (x : Int) < (s.length : Int) := by omega
                      have hb : decide (s.length ≤ x) = false := decide_eq_false (by omega)
                      obtain ⟨c, hc⟩ : ∃ c, s[x]? = some c := ⟨_, List.getElem?_eq_getElem (by omega)⟩
                      have hix2 : ∀ W, (Instr.index 9 (.string (tx s)) (.int .i64 (x : Int))).run Try.prog W = .ok (.int .u8 (c.toNat : Int)) W := fun W => tx_at s x c hc _ W
                      have HC : Hid ((s.drop r)[k]? = some c) := by show _ = _; rw [List.getElem?_drop, hx]; exact hc
                      have HDD : Hid (ad[k]? = some d) := hdd
                      have HKS : Hid (r + k < s.length) := by show _ < _; omega
                      have HX : Hid (r + k = x) := hx
                      clear hend hc hdd hlt hx hks
                      by_cases heq : c = d
                      · subst heq
                        have hne2 : ((c.toNat : Int) != (c.toNat : Int)) = false := by simp
                        have HN : Hid (∀ j, j < k + 1 → (s.drop r)[j]? = ad[j]?) := by
                          intro j hj
                          rcases (show j = k ∨ j < k from by omega) with rfl | h
                          · rw [HC.out, HDD.out]
                          · exact HD.out j h
                        generalize (c.toNat : Int) = C2 at hix2 hiy hne2
                        go_wp2_with fail
                        go_quiet (fail)
                        go_wp2_with fail
                        go_roundw
                        case rel => exact ⟨k + 1, HLT.out, by go_num, by have := HKS.out; omega, HN.out, H4.out.drew _⟩
                        case measure => have := HLT.out; simp [intOf]; omega
                      · have hne2 : ((c.toNat : Int) != (d.toNat : Int)) = true := by
                          rw [bne_iff_ne]
                          intro e
                          exact heq (UInt8.toNat_inj.1 (by omega))
                        have HP : Hid (pI s = .inr x) := by
                          have h := lcp_of k (s.drop r) ad HD.out (by simp; have := HKS.out; omega) (by show k ≤ 6; have := HLT.out; omega) (.inr (.inr (by rw [HC.out, HDD.out]; simpa using heq)))
                          show _ = _
                          rw [HG4.out, h, if_pos (.inl HLT.out), HX.out]
                        generalize (c.toNat : Int) = C2 at hix2 hne2
                        generalize (d.toNat : Int) = D2 at hiy hne2
                        clear heq
                        have z0 : wr.cell? ⟨w.heap.size, 0, none⟩ = some (.string (tx [])) := by rw [cell_of_row _ _ _ _ _ _ H4.out.rs.res]; rfl
                        have f0 : wr.frozen? ⟨w.heap.size, 0, none⟩ = false := frozen_of_row _ _ 0 _ _ H4.out.rs.res
                        have z1 : wr.cell? ⟨w.heap.size, 1, none⟩ = some (.string (tx [])) := by rw [cell_of_row _ _ _ _ _ _ H4.out.rs.res]; rfl
                        have f1 : wr.frozen? ⟨w.heap.size, 1, none⟩ = false := frozen_of_row _ _ 1 _ _ H4.out.rs.res
                        have z2 : wr.cell? ⟨w.heap.size, 2, none⟩ = some (.bool false) := by rw [cell_of_row _ _ _ _ _ _ H4.out.rs.res]; rfl
                        have f2 : wr.frozen? ⟨w.heap.size, 2, none⟩ = false := frozen_of_row _ _ 2 _ _ H4.out.rs.res
                        go_wp2_with fail
                        go_quiet (fail)
                        go_wp2_with fail
                        have hz : RS w (wr.drewN nq) := H4.out.rs.drew nq
                        refine bodyPost_ret (v := resP (.inr x)) (results_three Try.results9 _ _ w.heap.size (idV [] [] false) _ _ rfl rfl rfl (load23 (hz.ans [] [] false).1 rfl)) rfl ⟨by rw [HP.out], ?_⟩
                        exact (hz.ans [] [] false).2
                  · have hk6 : k = 6 := by omega
                    subst hk6
                    have e6 : lcp (s.drop r) ad = 6 := lcp_of 6 (s.drop r) ad HD.out (by simp; omega) (Nat.le_refl _) (.inl rfl)
                    rw [e6, hx] at HG4
                    rw [show ((6 : Nat) : Int) = 6 from rfl] at hx1 ⊢
                    by_cases e5 : x = s.length
                    · have hbx : ((x : Int) != (s.length : Int)) = false := by simpa using (by omega : (x : Int) = (s.length : Int))
                      have HP : Hid (pI s = .inl (T, U, true)) := by show _ = _; rw [HG4.out, if_neg (by omega)]
                      have H5 : Hid (RT w wr i T U) := H4.out
                      clear hlt e6 hx hks HD e5 HG4
                      have y0 : wr.cell? ⟨i, 0, none⟩ = some (.string (tx T)) := by rw [cell_of_row _ _ _ _ _ _ H4.out.who]; rfl
                      have g0 : wr.frozen? ⟨i, 0, none⟩ = false := frozen_of_row _ _ 0 _ _ H4.out.who
                      have y1 : wr.cell? ⟨i, 1, none⟩ = some (.string (tx U)) := by rw [cell_of_row _ _ _ _ _ _ H4.out.who]; rfl
                      have g1 : wr.frozen? ⟨i, 1, none⟩ = false := frozen_of_row _ _ 1 _ _ H4.out.who
                      have y2 : wr.cell? ⟨i, 2, none⟩ = some (.bool false) := by rw [cell_of_row _ _ _ _ _ _ H4.out.who]; rfl
                      have g2 : wr.frozen? ⟨i, 2, none⟩ = false := frozen_of_row _ _ 2 _ _ H4.out.who
                      have z0 : wr.cell? ⟨w.heap.size, 0, none⟩ = some (.string (tx [])) := by rw [cell_of_row _ _ _ _ _ _ H4.out.rs.res]; rfl
                      have f0 : wr.frozen? ⟨w.heap.size, 0, none⟩ = false := frozen_of_row _ _ 0 _ _ H4.out.rs.res
                      have z1 : wr.cell? ⟨w.heap.size, 1, none⟩ = some (.string (tx [])) := by rw [cell_of_row _ _ _ _ _ _ H4.out.rs.res]; rfl
                      have f1 : wr.frozen? ⟨w.heap.size, 1, none⟩ = false := frozen_of_row _ _ 1 _ _ H4.out.rs.res
                      have z2 : wr.cell? ⟨w.heap.size, 2, none⟩ = some (.bool false) := by rw [cell_of_row _ _ _ _ _ _ H4.out.rs.res]; rfl
                      have f2 : wr.frozen? ⟨w.heap.size, 2, none⟩ = false := frozen_of_row _ _ 2 _ _ H4.out.rs.res
                      have HQ : Hid (RS w (wr.setCell ⟨i, 2, none⟩ (.bool true))) := ⟨(Below.heap_setCell _ _ _ _ (by show w.heap.size ≠ i; exact hiR')).trans H5.out.rs.res, H5.out.rs.bel.setCell (by show w.heap.size ≤ i; have := H5.out.lt; omega) _⟩
                      go_wp2_with fail
                      refine bodyPost_ret (v := resP (.inl (T, U, true))) (results_three Try.results9 _ _ w.heap.size (idV T U true) _ _ rfl rfl rfl (load23 (HQ.out.ans T U true).1 rfl)) rfl ⟨by rw [HP.out], ?_⟩
                      exact (HQ.out.ans T U true).2
                    · have hbx : ((x : Int) != (s.length : Int)) = true := by simpa using (by omega : ¬ (x : Int) = (s.length : Int))
                      have HP : Hid (pI s = .inr x) := by show _ = _; rw [HG4.out, if_pos (.inr e5)]
                      clear hlt e6 hx hks HD e5 HG4
                      have z0 : wr.cell? ⟨w.heap.size, 0, none⟩ = some (.string (tx [])) := by rw [cell_of_row _ _ _ _ _ _ H4.out.rs.res]; rfl
                      have f0 : wr.frozen? ⟨w.heap.size, 0, none⟩ = false := frozen_of_row _ _ 0 _ _ H4.out.rs.res
                      have z1 : wr.cell? ⟨w.heap.size, 1, none⟩ = some (.string (tx [])) := by rw [cell_of_row _ _ _ _ _ _ H4.out.rs.res]; rfl
                      have f1 : wr.frozen? ⟨w.heap.size, 1, none⟩ = false := frozen_of_row _ _ 1 _ _ H4.out.rs.res
                      have z2 : wr.cell? ⟨w.heap.size, 2, none⟩ = some (.bool false) := by rw [cell_of_row _ _ _ _ _ _ H4.out.rs.res]; rfl
                      have f2 : wr.frozen? ⟨w.heap.size, 2, none⟩ = false := frozen_of_row _ _ 2 _ _ H4.out.rs.res
                      go_wp2_with fail
                      refine bodyPost_ret (v := resP (.inr x)) (results_three Try.results9 _ _ w.heap.size (idV [] [] false) _ _ rfl rfl rfl (load23 (H4.out.rs.ans [] [] false).1 rfl)) rfl ⟨by rw [HP.out], ?_⟩
                      exact (H4.out.rs.ans [] [] false).2
          · have hne : ((c.toNat : Int) != 47) = true := by
              rw [bne_iff_ne]
              intro e
              exact d4 (UInt8.toNat_inj.1 (by show c.toNat = 47; omega))
            have HP : Hid (pI s = .inr p) := HF2.out (.inr (by rw [hc]; simpa using d4))
            generalize (c.toNat : Int) = C at hix hne
            clear d2 d3 d4 hc HF HF2 hpl
            have z0 : wr.cell? ⟨w.heap.size, 0, none⟩ = some (.string (tx [])) := by rw [cell_of_row _ _ _ _ _ _ H1.out.res]; rfl
            have f0 : wr.frozen? ⟨w.heap.size, 0, none⟩ = false := frozen_of_row _ _ 0 _ _ H1.out.res
            have z1 : wr.cell? ⟨w.heap.size, 1, none⟩ = some (.string (tx [])) := by rw [cell_of_row _ _ _ _ _ _ H1.out.res]; rfl
            have f1 : wr.frozen? ⟨w.heap.size, 1, none⟩ = false := frozen_of_row _ _ 1 _ _ H1.out.res
            have z2 : wr.cell? ⟨w.heap.size, 2, none⟩ = some (.bool false) := by rw [cell_of_row _ _ _ _ _ _ H1.out.res]; rfl
            have f2 : wr.frozen? ⟨w.heap.size, 2, none⟩ = false := frozen_of_row _ _ 2 _ _ H1.out.res
            go_wp2_with fail
            refine (HL.out _).mono ?_
            rintro e w1 ⟨rfl, hw1⟩
            rw [hw1]; clear hw1 w1
            go_wp2_with fail
            refine bodyPost_ret (v := resP (.inr p)) (results_three Try.results9 _ _ w.heap.size (idV [] [] false) _ _ rfl rfl rfl (load23 (H1.out.ans [] [] false).1 rfl)) rfl ⟨by rw [HP.out], ?_⟩
            exact (H1.out.ans [] [] false).2
end Go.Proofs.Ytnghgclogeefgaa
