/- The program's table against the plain list: Take, Give, Tokens, Next. -/
import Derived.Test.YtpobfcmbbabchaaQ5
namespace Go.Proofs.Ytpobfcmbbabchaa
open Go.RowKit
set_option linter.unusedVariables false
set_option linter.unusedSimpArgs false

/-- The program's table holds what a plain list of buckets says, in whatever order. -/
def PF (w : World) (T : Nat) (F : Nat → Prop) (l : List Bk) : Prop := ∃ sv m, PR w T sv m ∧ (bks m).Perm l ∧ ∀ q, F q ↔ foot T sv m q
theorem Fr.refl (F : Nat → Prop) (w : World) : Fr F F w w := ⟨rfl, rfl, rfl, Nat.le_refl _, fun _ _ _ => rfl, fun _ h => .inl h⟩
theorem PF.same {w : World} {T : Nat} {F : Nat → Prop} {l : List Bk} (h : PF w T F l) : ∃ F', PF w T F' l ∧ Fr F F' w w ∧ Kx badQ w w := ⟨F, h, Fr.refl F w, Kx.refl _ _⟩
/-- Its rows and the same tenant's bucket in both. -/
theorem PF.look {w : World} {T : Nat} {F : Nat → Prop} {l : List Bk} (h : PF w T F l) (ht : l.length ≤ 16) (nm : List UInt8) :
    ∃ sv m, PR w T sv m ∧ m.length ≤ 16 ∧ ((∃ i p b k, fnd m nm = some (i, p, b) ∧ lookB l nm = some (k, b) ∧ ∀ c w', c.nm = b.nm → w'.heap[p]? = some (pkO c) → Kp p w w' → ∃ F', PF w' T F' (l.set k c) ∧ Fr F F' w w' ∧ Kx badQ w w') ∨ (fnd m nm = none ∧ lookB l nm = none)) := by
  obtain ⟨sv, m, h1, h2, h3⟩ := h
  have hlen : m.length ≤ 16 := by have := h2.length_eq; unfold bks at this; rw [List.length_map] at this; omega
  refine ⟨sv, m, h1, hlen, ?_⟩
  rcases fnd_look (nm := nm) h1.up h2 with ⟨i, p, b, k, hf, hk, _⟩ | ⟨hf, hk, _⟩
  · refine .inl ⟨i, p, b, k, hf, hk, fun c w' hc hr hkp => ?_⟩
    have g := fnd_some hf
    have hin : (p, b) ∈ m := List.mem_of_getElem? g.2.2.1
    have hFp : F p := (h3 p).2 (.inr (.inr (List.mem_map.2 ⟨(p, b), hin, rfl⟩)))
    refine ⟨F, ⟨sv, m.set i (p, c), h1.put g.2.2.1 hc hr (fun q _ hq => hkp.block q hq), ?_, fun q => ?_⟩, ⟨hkp.os, hkp.tape, hkp.output, by rw [hkp.size]; exact Nat.le_refl _, fun q hq hn => hkp.block q fun e => hn (by rw [e]; exact hFp), fun q hq => .inl hq⟩, Kx.kp hkp (show w.heap[p]? = some (.cells _ 85 (0, 0)) from h1.each p b hin) rfl⟩
    · have e : bks (m.set i (p, c)) = (bks m).set i c := by unfold bks; rw [List.map_set]
      rw [e]
      exact perm_set h2 (lookB_some hk).2.1 (bks_at g.2.2.1)
    · rw [h3 q]
      unfold foot
      have e : pts (m.set i (p, c)) = pts m := by
        unfold pts
        rw [List.map_set]
        exact List.ext_getElem? fun j => by
          by_cases e : i = j
          · subst e; rw [List.getElem?_set_self (by simpa using (List.getElem?_eq_some_iff.1 g.2.2.1).1), List.getElem?_map, g.2.2.1]; rfl
          · rw [List.getElem?_set_ne e]
      rw [e]
  · exact .inr ⟨hf, hk⟩
theorem tot_lt {N : Int} {c : Bk} (h : Bok N c) (cost : Int) : (c.has < cost ↔ ¬ cost * 1000000000 ≤ tot c) := by
  have := h.p0; have := h.p1
  unfold tot
  omega
theorem tot_le {N : Int} {c : Bk} (h : Bok N c) : tot c ≤ 1000000000000000000 := by have := tot_cap h; have := h.b1; omega
theorem okA_all {cost now : Int} (h : okA cost now = true) : 0 ≤ cost ∧ cost ≤ 1000000000 ∧ 0 ≤ now ∧ now ≤ 1125899906842624 := by unfold okA at h; simpa using h
set_option maxRecDepth 20000 in
set_option maxHeartbeats 4000000 in
theorem take_any (N : Int) (T : Nat) (F : Nat → Prop) (l : List Bk) (nm : List UInt8) (cost now : Int) (w : World) (h : PF w T F l) (ht : Tok N l) (hN : N ≤ 1000000) :
    Calls Try.prog 16 #[.pointer (some ⟨T, 0, none⟩), .string (tx nm), .int .i64 cost, .int .i64 now] w fun e w' => e = .returned (.int .i64 (takeI l nm cost now).1) ∧ ∃ F', PF w' T F' (takeI l nm cost now).2 ∧ Fr F F' w w' ∧ Kx badQ w w' := by
  have HS : Hid (∃ F', PF w T F' l ∧ Fr F F' w w ∧ Kx badQ w w) := h.same
  cases ha : okA cost now with
  | false =>
    have HR : Hid (takeI l nm cost now = (1, l)) := by show _ = _; unfold takeI; rw [if_pos ha]
    have HC : Hid (∀ W, Calls Try.prog 22 #[.pointer (some ⟨T, 0, none⟩), .string (tx nm), .int .i64 cost, .int .i64 now] W fun e w' => e = .returned (.tuple #[.pointer none, .int .i64 1]) ∧ w' = W) := fun W => filled_arg T nm cost now W ha
    clear h ht ha
    go_enter Try.func16, Try.ntmps16
    go_wp2_with (go_at_call 22; refine (HC.out _).mono ?_; rintro e w1 ⟨rfl, hw1⟩; rw [hw1]; clear hw1)
    go_ret
    rw [HR.out]
    exact ⟨rfl, HS.out⟩
  | true =>
    obtain ⟨sv, m, hp, hl, ⟨i, p, b, k, hf, hx, hput⟩ | ⟨hf, hx⟩⟩ := h.look ht.len nm
    · have hb := ht.at (lookB_some hx).2.1
      obtain ⟨a1, a2, a3, a4⟩ := okA_all ha
      have hB := fill_ok hb a4
      have hnm := fill_nm b now
      have HC : Hid (∀ W, W = w → Calls Try.prog 22 #[.pointer (some ⟨T, 0, none⟩), .string (tx nm), .int .i64 cost, .int .i64 now] W fun e w' => e = .returned (.tuple #[.pointer (some ⟨p, 1, none⟩), .int .i64 0]) ∧ w'.heap[p]? = some (pkO (fillI b now)) ∧ Kp p W w') := fun W e => by
        subst e
        exact filled_some N T sv m nm cost now W i p b hp hl ha hf hb
      have hR : takeI l nm cost now = if (fillI b now).has < cost then (190, l.set k { fillI b now with rf := (fillI b now).rf + 1 }) else (0, l.set k (paid (fillI b now) cost)) := by unfold takeI; rw [if_neg (by rw [ha]; decide), hx]
      have HP : Hid (∀ c w', c.nm = b.nm → w'.heap[p]? = some (pkO c) → Kp p w w' → ∃ F', PF w' T F' (l.set k c) ∧ Fr F F' w w' ∧ Kx badQ w w') := hput
      generalize fillI b now = c at hR HC hB hnm
      have HNM : Hid (c.nm = b.nm) := hnm
      have hlt := tot_lt hB cost
      have t0 := tot_pos hB
      have t1 := tot_le hB
      have k0 := hB.k0
      have k1 := hB.k1
      have f0 := hB.f0
      have f1 := hB.f1
      have s0 := hB.c0
      have s1 := hB.c1
      have k2 : c.tk ≤ 1000000 := by omega
      have f2 : c.rf ≤ 1000000 := by omega
      have HV : Hid (∀ W : World, W.heap[p]? = some (pkO c) → Calls Try.prog 35 #[.pointer (some ⟨p, 1, none⟩), .int .i64 cost] W fun e w' => e = .returned (.bool (decide (cost * 1000000000 ≤ tot c))) ∧ w' = W) := fun W hW => covers_any p _ _ _ _ _ _ _ _ _ W hW a1 a2
      by_cases hc : c.has < cost
      · rw [if_pos hc] at hR
        have HR : Hid (takeI l nm cost now = (190, l.set k { c with rf := c.rf + 1 })) := hR
        rw [decide_eq_false (hlt.1 hc)] at HV
        clear h ht ha hp hl hf hx hput hb hB hnm hlt hc hR
        go_enter Try.func16, Try.ntmps16
        go_wp2_with (first | (go_at_call 22; refine (HC.out _ rfl).mono ?_; rintro e w1 ⟨rfl, hr, hk⟩; (obtain ⟨c0, c1, c2, c3, c4, c5, c6, c7⟩ := row8_cells hr); (have f6 := row8_frozen (i := 6) hr); (have HE : Hid (w1.heap[p]? = some (pkO c) ∧ Kp p w w1) := ⟨hr, hk⟩); clear hr hk) | (go_at_call 35; refine (HV.out _ HE.out.1).mono ?_; rintro e w2 ⟨rfl, hw2⟩; rw [hw2]; clear hw2))
        go_ret
        rw [HR.out]
        exact ⟨rfl, HP.out _ _ HNM.out (row8_rf HE.out.1 _) (HE.out.2.setCell 6 _)⟩
      · rw [if_neg hc] at hR
        have HR : Hid (takeI l nm cost now = (0, l.set k (paid c cost))) := hR
        have hle : cost * 1000000000 ≤ tot c := by
          rcases Int.lt_or_le (tot c) (cost * 1000000000) with g | g
          · exact absurd (hlt.2 (by omega)) hc
          · exact g
        rw [decide_eq_true hle] at HV
        have HT : Hid (∀ W : World, W.heap[p]? = some (pkO c) → Calls Try.prog 36 #[.pointer (some ⟨p, 1, none⟩), .int .i64 cost] W fun e w' => e = .returned (.tuple #[]) ∧ w'.heap[p]? = some (row8 c.nm c.rate (c.burst * 1000000000) (tot c - cost * 1000000000) c.tim c.tk c.rf c.cs) ∧ Kp p W w') := fun W hW => btake_any p _ _ _ _ _ _ _ _ _ W hW a1 a2 hle t1
        have HQ : Hid (pkO (paid c cost) = row8 c.nm c.rate (c.burst * 1000000000) (tot c - cost * 1000000000) c.tim (c.tk + 1) c.rf (if 4611686018427387904 < c.cs + cost then 4611686018427387904 else c.cs + cost)) := by
          show _ = _
          unfold pkO paid tot
          simp only
          rw [show (c.has - cost) * 1000000000 + c.part = c.has * 1000000000 + c.part - cost * 1000000000 by omega]
        have hc0 : 0 ≤ c.cs + cost := by omega
        have hc1 : c.cs + cost ≤ 5000000000000000000 := by omega
        clear h ht ha hp hl hf hx hput hb hB hnm hlt hc hR hle
        go_enter Try.func16, Try.ntmps16
        go_wp2_with (first | (go_at_call 22; refine (HC.out _ rfl).mono ?_; rintro e w1 ⟨rfl, hr, hk⟩; (have HE : Hid (w1.heap[p]? = some (pkO c) ∧ Kp p w w1) := ⟨hr, hk⟩); clear hr hk) | (go_at_call 35; refine (HV.out _ HE.out.1).mono ?_; rintro e w2 ⟨rfl, hw2⟩; rw [hw2]; clear hw2) | (go_at_call 36; refine (HT.out _ HE.out.1).mono ?_; rintro e w3 ⟨rfl, hr, hk⟩; (obtain ⟨c0, c1, c2, c3, c4, c5, c6, c7⟩ := row8_cells hr); (have f5 := row8_frozen (i := 5) hr); (have f7 := row8_frozen (i := 7) hr); (have HE3 : Hid (w3.heap[p]? = some (row8 c.nm c.rate (c.burst * 1000000000) (tot c - cost * 1000000000) c.tim c.tk c.rf c.cs) ∧ Kp p w w3) := ⟨hr, HE.out.2.trans hk⟩); clear hr hk))
        all_goals
          go_ret
          rw [HR.out]
          refine ⟨rfl, HP.out _ _ HNM.out ?_ ((HE3.out.2.setCell 5 _).setCell 7 _)⟩
          rw [HQ.out]
          first
          | (rw [if_pos (by omega)]; exact row8_cs (row8_tk HE3.out.1 _) _)
          | (rw [if_neg (by omega)]; exact row8_cs (row8_tk HE3.out.1 _) _)
    · have HR : Hid (takeI l nm cost now = (5, l)) := by show _ = _; unfold takeI; rw [if_neg (by rw [ha]; decide), hx]
      have HC : Hid (∀ W, W = w → Calls Try.prog 22 #[.pointer (some ⟨T, 0, none⟩), .string (tx nm), .int .i64 cost, .int .i64 now] W fun e w' => e = .returned (.tuple #[.pointer none, .int .i64 5]) ∧ w' = W) := fun W e => by
        subst e
        exact filled_none T sv m nm cost now W hp hl ha hf
      clear h ht ha hp hl hf hx
      go_enter Try.func16, Try.ntmps16
      go_wp2_with (go_at_call 22; refine (HC.out _ rfl).mono ?_; rintro e w1 ⟨rfl, hw1⟩; rw [hw1]; clear hw1)
      go_ret
      rw [HR.out]
      exact ⟨rfl, HS.out⟩
theorem given_tot {N : Int} {c : Bk} (h : Bok N c) {cost : Int} (h0 : 0 ≤ cost) (h1 : cost ≤ 1000000000) : min (adI (tot c) (cost * 1000000000)) (c.burst * 1000000000) = tot (given c cost) := by
  have := tot_pos h
  have := tot_le h
  have := h.p0
  have := h.p1
  have := h.b1
  have := h.b0
  unfold adI
  rw [nrm_of _ (by omega), nrm_of _ (by omega), sat_of _ (by omega) (by omega)]
  unfold given
  split
  · show _ = c.burst * 1000000000 + 0
    unfold tot
    omega
  · show _ = (c.has + cost) * 1000000000 + c.part
    unfold tot
    omega
set_option maxRecDepth 20000 in
set_option maxHeartbeats 4000000 in
theorem give_any (N : Int) (T : Nat) (F : Nat → Prop) (l : List Bk) (nm : List UInt8) (cost now : Int) (w : World) (h : PF w T F l) (ht : Tok N l) (hN : N ≤ 1000000) :
    Calls Try.prog 19 #[.pointer (some ⟨T, 0, none⟩), .string (tx nm), .int .i64 cost, .int .i64 now] w fun e w' => e = .returned (.int .i64 (giveI l nm cost now).1) ∧ ∃ F', PF w' T F' (giveI l nm cost now).2 ∧ Fr F F' w w' ∧ Kx badQ w w' := by
  have HS : Hid (∃ F', PF w T F' l ∧ Fr F F' w w ∧ Kx badQ w w) := h.same
  cases ha : okA cost now with
  | false =>
    have HR : Hid (giveI l nm cost now = (1, l)) := by show _ = _; unfold giveI; rw [if_pos ha]
    have HC : Hid (∀ W, Calls Try.prog 22 #[.pointer (some ⟨T, 0, none⟩), .string (tx nm), .int .i64 cost, .int .i64 now] W fun e w' => e = .returned (.tuple #[.pointer none, .int .i64 1]) ∧ w' = W) := fun W => filled_arg T nm cost now W ha
    clear h ht ha
    go_enter Try.func19, Try.ntmps19
    go_wp2_with (go_at_call 22; refine (HC.out _).mono ?_; rintro e w1 ⟨rfl, hw1⟩; rw [hw1]; clear hw1)
    go_ret
    rw [HR.out]
    exact ⟨rfl, HS.out⟩
  | true =>
    obtain ⟨sv, m, hp, hl, ⟨i, p, b, k, hf, hx, hput⟩ | ⟨hf, hx⟩⟩ := h.look ht.len nm
    · have hb := ht.at (lookB_some hx).2.1
      obtain ⟨a1, a2, a3, a4⟩ := okA_all ha
      have hB := fill_ok hb a4
      have hnm := fill_nm b now
      have HC : Hid (∀ W, W = w → Calls Try.prog 22 #[.pointer (some ⟨T, 0, none⟩), .string (tx nm), .int .i64 cost, .int .i64 now] W fun e w' => e = .returned (.tuple #[.pointer (some ⟨p, 1, none⟩), .int .i64 0]) ∧ w'.heap[p]? = some (pkO (fillI b now)) ∧ Kp p W w') := fun W e => by
        subst e
        exact filled_some N T sv m nm cost now W i p b hp hl ha hf hb
      have HR : Hid (giveI l nm cost now = (0, l.set k (given (fillI b now) cost))) := by show _ = _; unfold giveI; rw [if_neg (by rw [ha]; decide), hx]
      have HP : Hid (∀ c w', c.nm = b.nm → w'.heap[p]? = some (pkO c) → Kp p w w' → ∃ F', PF w' T F' (l.set k c) ∧ Fr F F' w w' ∧ Kx badQ w w') := hput
      generalize fillI b now = c at HR HC hB hnm
      have HNM : Hid ((given c cost).nm = b.nm) := (given_nm c cost).trans hnm
      have t1 := tot_le hB
      have HG : Hid (min (adI (tot c) (cost * 1000000000)) (c.burst * 1000000000) = tot (given c cost)) := given_tot hB a1 a2
      have HA : Hid (∀ W : World, W.heap[p]? = some (pkO c) → Calls Try.prog 39 #[.pointer (some ⟨p, 1, none⟩), .int .i64 (cost * 1000000000)] W fun e w' => e = .returned (.tuple #[]) ∧ w'.heap[p]? = some (row8 c.nm c.rate (c.burst * 1000000000) (min (adI (tot c) (cost * 1000000000)) (c.burst * 1000000000)) c.tim c.tk c.rf c.cs) ∧ Kp p W w') := fun W hW => badd_any p _ _ _ _ _ _ _ _ _ W hW (by omega) (by omega)
      rw [HG.out] at HA
      have HQ : Hid (pkO (given c cost) = row8 c.nm c.rate (c.burst * 1000000000) (tot (given c cost)) c.tim c.tk c.rf c.cs) := by
        show _ = _
        unfold pkO given
        split <;> rfl
      clear h ht ha hp hl hf hx hput hb hB hnm HG
      go_enter Try.func19, Try.ntmps19
      go_wp2_with (first | (go_at_call 22; refine (HC.out _ rfl).mono ?_; rintro e w1 ⟨rfl, hr, hk⟩; (have HE : Hid (w1.heap[p]? = some (pkO c) ∧ Kp p w w1) := ⟨hr, hk⟩); clear hr hk) | (go_at_call 39; refine (HA.out _ HE.out.1).mono ?_; rintro e w3 ⟨rfl, hr, hk⟩; (have HE3 : Hid (w3.heap[p]? = some (row8 c.nm c.rate (c.burst * 1000000000) (tot (given c cost)) c.tim c.tk c.rf c.cs) ∧ Kp p w w3) := ⟨hr, HE.out.2.trans hk⟩); clear hr hk))
      go_ret
      rw [HR.out]
      exact ⟨rfl, HP.out _ _ HNM.out (by rw [HQ.out]; exact HE3.out.1) HE3.out.2⟩
    · have HR : Hid (giveI l nm cost now = (5, l)) := by show _ = _; unfold giveI; rw [if_neg (by rw [ha]; decide), hx]
      have HC : Hid (∀ W, W = w → Calls Try.prog 22 #[.pointer (some ⟨T, 0, none⟩), .string (tx nm), .int .i64 cost, .int .i64 now] W fun e w' => e = .returned (.tuple #[.pointer none, .int .i64 5]) ∧ w' = W) := fun W e => by
        subst e
        exact filled_none T sv m nm cost now W hp hl ha hf
      clear h ht ha hp hl hf hx
      go_enter Try.func19, Try.ntmps19
      go_wp2_with (go_at_call 22; refine (HC.out _ rfl).mono ?_; rintro e w1 ⟨rfl, hw1⟩; rw [hw1]; clear hw1)
      go_ret
      rw [HR.out]
      exact ⟨rfl, HS.out⟩
set_option maxRecDepth 20000 in
set_option maxHeartbeats 4000000 in
theorem tok_any (N : Int) (T : Nat) (F : Nat → Prop) (l : List Bk) (nm : List UInt8) (now : Int) (w : World) (h : PF w T F l) (ht : Tok N l) (hN : N ≤ 1000000) :
    Calls Try.prog 12 #[.pointer (some ⟨T, 0, none⟩), .string (tx nm), .int .i64 now] w fun e w' => e = .returned (.tuple #[.int .i64 (tokI l nm now).1, .int .i64 (tokI l nm now).2.1]) ∧ ∃ F', PF w' T F' (tokI l nm now).2.2 ∧ Fr F F' w w' ∧ Kx badQ w w' := by
  have HS : Hid (∃ F', PF w T F' l ∧ Fr F F' w w ∧ Kx badQ w w) := h.same
  cases ha : okA 0 now with
  | false =>
    have HR : Hid (tokI l nm now = (0, 1, l)) := by show _ = _; unfold tokI; rw [if_pos ha]
    have HC : Hid (∀ W, Calls Try.prog 22 #[.pointer (some ⟨T, 0, none⟩), .string (tx nm), .int .i64 0, .int .i64 now] W fun e w' => e = .returned (.tuple #[.pointer none, .int .i64 1]) ∧ w' = W) := fun W => filled_arg T nm 0 now W ha
    clear h ht ha
    go_enter Try.func12, Try.ntmps12
    go_wp2_with (go_at_call 22; refine (HC.out _).mono ?_; rintro e w1 ⟨rfl, hw1⟩; rw [hw1]; clear hw1)
    go_ret2
    rw [HR.out]
    exact ⟨rfl, HS.out⟩
  | true =>
    obtain ⟨sv, m, hp, hl, ⟨i, p, b, k, hf, hx, hput⟩ | ⟨hf, hx⟩⟩ := h.look ht.len nm
    · have hb := ht.at (lookB_some hx).2.1
      obtain ⟨a1, a2, a3, a4⟩ := okA_all ha
      have hB := fill_ok hb a4
      have hnm := fill_nm b now
      have HC : Hid (∀ W, W = w → Calls Try.prog 22 #[.pointer (some ⟨T, 0, none⟩), .string (tx nm), .int .i64 0, .int .i64 now] W fun e w' => e = .returned (.tuple #[.pointer (some ⟨p, 1, none⟩), .int .i64 0]) ∧ w'.heap[p]? = some (pkO (fillI b now)) ∧ Kp p W w') := fun W e => by
        subst e
        exact filled_some N T sv m nm 0 now W i p b hp hl ha hf hb
      have HR : Hid (tokI l nm now = ((fillI b now).has, 0, l.set k (fillI b now))) := by show _ = _; unfold tokI; rw [if_neg (by rw [ha]; decide), hx]
      have HP : Hid (∀ c w', c.nm = b.nm → w'.heap[p]? = some (pkO c) → Kp p w w' → ∃ F', PF w' T F' (l.set k c) ∧ Fr F F' w w' ∧ Kx badQ w w') := hput
      generalize fillI b now = c at HR HC hB hnm
      have HNM : Hid (c.nm = b.nm) := hnm
      have t0 := tot_pos hB
      have t1 := tot_le hB
      have HW : Hid (∀ W : World, W.heap[p]? = some (pkO c) → Calls Try.prog 23 #[.pointer (some ⟨p, 1, none⟩)] W fun e w' => e = .returned (.int .i64 (tot c / 1000000000)) ∧ w' = W) := fun W hW => whole_any p _ _ _ _ _ _ _ _ W hW t0 t1
      rw [tot_has hB] at HW
      clear h ht ha hp hl hf hx hput hb hB hnm
      go_enter Try.func12, Try.ntmps12
      go_wp2_with (first | (go_at_call 22; refine (HC.out _ rfl).mono ?_; rintro e w1 ⟨rfl, hr, hk⟩; (have HE : Hid (w1.heap[p]? = some (pkO c) ∧ Kp p w w1) := ⟨hr, hk⟩); clear hr hk) | (go_at_call 23; refine (HW.out _ HE.out.1).mono ?_; rintro e w2 ⟨rfl, hw2⟩; rw [hw2]; clear hw2))
      go_ret2
      rw [HR.out]
      exact ⟨rfl, HP.out _ _ HNM.out HE.out.1 HE.out.2⟩
    · have HR : Hid (tokI l nm now = (0, 5, l)) := by show _ = _; unfold tokI; rw [if_neg (by rw [ha]; decide), hx]
      have HC : Hid (∀ W, W = w → Calls Try.prog 22 #[.pointer (some ⟨T, 0, none⟩), .string (tx nm), .int .i64 0, .int .i64 now] W fun e w' => e = .returned (.tuple #[.pointer none, .int .i64 5]) ∧ w' = W) := fun W e => by
        subst e
        exact filled_none T sv m nm 0 now W hp hl ha hf
      clear h ht ha hp hl hf hx
      go_enter Try.func12, Try.ntmps12
      go_wp2_with (go_at_call 22; refine (HC.out _ rfl).mono ?_; rintro e w1 ⟨rfl, hw1⟩; rw [hw1]; clear hw1)
      go_ret2
      rw [HR.out]
      exact ⟨rfl, HS.out⟩
theorem when_both {N : Int} {c : Bk} (h : Bok N c) {cost : Int} (h0 : 0 ≤ cost) : whenI c cost = if (whI c cost).2 = false then (0, 190) else if timI (whI c cost).1 = false then (0, 1) else ((whI c cost).1, 0) := by
  have hlt := tot_lt h cost
  have ht0 := h.t0
  have ht1 := h.t1
  have hh := h.h1
  have hr := h.r0
  unfold whenI whI
  by_cases hc : cost * 1000000000 ≤ tot c
  · have hle : ¬ c.has < cost := fun g => hlt.1 g hc
    have htm : timI c.tim = true := by unfold timI; simp [ht0, ht1]
    rw [if_neg (by omega), if_pos (by omega), if_pos hc]
    simp [htm]
  · have hle : c.has < cost := hlt.2 hc
    rw [if_neg hc]
    by_cases hq : c.burst * 1000000000 < cost * 1000000000 ∨ c.rate = 0
    · rw [if_pos (by omega), if_pos hq]
      simp
    · rw [if_neg (by omega), if_neg (by omega), if_neg hq]
      have e : (cost - c.has) * 1000000000 - c.part + c.rate - 1 = cost * 1000000000 - tot c + c.rate - 1 := by unfold tot; omega
      rw [e]
      have hj : 0 ≤ (cost * 1000000000 - tot c + c.rate - 1) / c.rate := Int.ediv_nonneg (by omega) hr
      generalize (cost * 1000000000 - tot c + c.rate - 1) / c.rate = J at hj
      by_cases hm : 1125899906842624 - c.tim < J
      · have : timI (c.tim + J) = false := by unfold timI; simp; omega
        rw [if_pos hm]
        simp [this]
      · have : timI (c.tim + J) = true := by unfold timI; simp; omega
        rw [if_neg hm]
        simp [this]
set_option maxRecDepth 20000 in
set_option maxHeartbeats 4000000 in
theorem next_any (N : Int) (T : Nat) (F : Nat → Prop) (l : List Bk) (nm : List UInt8) (cost now : Int) (w : World) (h : PF w T F l) (ht : Tok N l) (hN : N ≤ 1000000) :
    Calls Try.prog 17 #[.pointer (some ⟨T, 0, none⟩), .string (tx nm), .int .i64 cost, .int .i64 now] w fun e w' => e = .returned (.tuple #[.int .i64 (nextI l nm cost now).1.1, .int .i64 (nextI l nm cost now).1.2]) ∧ ∃ F', PF w' T F' (nextI l nm cost now).2 ∧ Fr F F' w w' ∧ Kx badQ w w' := by
  have HS : Hid (∃ F', PF w T F' l ∧ Fr F F' w w ∧ Kx badQ w w) := h.same
  cases ha : okA cost now with
  | false =>
    have HR : Hid (nextI l nm cost now = ((0, 1), l)) := by show _ = _; unfold nextI; rw [if_pos ha]
    have HC : Hid (∀ W, Calls Try.prog 22 #[.pointer (some ⟨T, 0, none⟩), .string (tx nm), .int .i64 cost, .int .i64 now] W fun e w' => e = .returned (.tuple #[.pointer none, .int .i64 1]) ∧ w' = W) := fun W => filled_arg T nm cost now W ha
    clear h ht ha
    go_enter Try.func17, Try.ntmps17
    go_wp2_with (go_at_call 22; refine (HC.out _).mono ?_; rintro e w1 ⟨rfl, hw1⟩; rw [hw1]; clear hw1)
    go_ret2
    rw [HR.out]
    exact ⟨rfl, HS.out⟩
  | true =>
    obtain ⟨sv, m, hp, hl, ⟨i, p, b, k, hf, hx, hput⟩ | ⟨hf, hx⟩⟩ := h.look ht.len nm
    · have hb := ht.at (lookB_some hx).2.1
      obtain ⟨a1, a2, a3, a4⟩ := okA_all ha
      have hB := fill_ok hb a4
      have hnm := fill_nm b now
      have HC : Hid (∀ W, W = w → Calls Try.prog 22 #[.pointer (some ⟨T, 0, none⟩), .string (tx nm), .int .i64 cost, .int .i64 now] W fun e w' => e = .returned (.tuple #[.pointer (some ⟨p, 1, none⟩), .int .i64 0]) ∧ w'.heap[p]? = some (pkO (fillI b now)) ∧ Kp p W w') := fun W e => by
        subst e
        exact filled_some N T sv m nm cost now W i p b hp hl ha hf hb
      have hR : nextI l nm cost now = (whenI (fillI b now) cost, l.set k (fillI b now)) := by unfold nextI; rw [if_neg (by rw [ha]; decide), hx]
      have HP : Hid (∀ c w', c.nm = b.nm → w'.heap[p]? = some (pkO c) → Kp p w w' → ∃ F', PF w' T F' (l.set k c) ∧ Fr F F' w w' ∧ Kx badQ w w') := hput
      generalize fillI b now = c at hR HC hB hnm
      have HNM : Hid (c.nm = b.nm) := hnm
      rw [when_both hB a1] at hR
      have HW : Hid (∀ W : World, W.heap[p]? = some (pkO c) → Calls Try.prog 37 #[.pointer (some ⟨p, 1, none⟩), .int .i64 cost] W fun e w' => e = .returned (.tuple #[.int .i64 (whI c cost).1, .bool (whI c cost).2]) ∧ ∃ k, w' = W.drewN k) := fun W hW => when_any N p c cost W hW hB a1 a2
      generalize (whI c cost).1 = X at hR HW
      have HT : Hid (∀ W, Calls Try.prog 32 #[.int .i64 X] W fun e w' => e = .returned (.bool (timI X)) ∧ w' = W) := fun W => ptime_any X W
      cases hB2 : (whI c cost).2 with
      | false =>
        rw [hB2] at hR HW
        have HR : Hid (nextI l nm cost now = ((0, 190), l.set k c)) := by show _ = _; simpa using hR
        clear h ht ha hp hl hf hx hput hb hB hnm hR hB2 HT
        go_enter Try.func17, Try.ntmps17
        go_wp2_with (first | (go_at_call 22; refine (HC.out _ rfl).mono ?_; rintro e w1 ⟨rfl, hr, hk⟩; (have HE : Hid (w1.heap[p]? = some (pkO c) ∧ Kp p w w1) := ⟨hr, hk⟩); clear hr hk) | (go_at_call 37; refine (HW.out _ HE.out.1).mono ?_; rintro e w2 ⟨rfl, kd, hw2⟩; rw [hw2]; clear hw2))
        go_ret2
        rw [HR.out]
        exact ⟨rfl, HP.out _ _ HNM.out HE.out.1 (HE.out.2.drewN _)⟩
      | true =>
        rw [hB2] at hR HW
        cases hT : timI X with
        | false =>
          rw [hT] at hR HT
          have HR : Hid (nextI l nm cost now = ((0, 1), l.set k c)) := by show _ = _; simpa using hR
          clear h ht ha hp hl hf hx hput hb hB hnm hR hB2 hT
          go_enter Try.func17, Try.ntmps17
          go_wp2_with (first | (go_at_call 22; refine (HC.out _ rfl).mono ?_; rintro e w1 ⟨rfl, hr, hk⟩; (have HE : Hid (w1.heap[p]? = some (pkO c) ∧ Kp p w w1) := ⟨hr, hk⟩); clear hr hk) | (go_at_call 37; refine (HW.out _ HE.out.1).mono ?_; rintro e w2 ⟨rfl, kd, hw2⟩; rw [hw2]; clear hw2) | (go_at_call 32; refine (HT.out _).mono ?_; rintro e w3 ⟨rfl, hw3⟩; rw [hw3]; clear hw3))
          go_ret2
          rw [HR.out]
          exact ⟨rfl, HP.out _ _ HNM.out HE.out.1 (HE.out.2.drewN _)⟩
        | true =>
          rw [hT] at hR HT
          have HR : Hid (nextI l nm cost now = ((X, 0), l.set k c)) := by show _ = _; simpa using hR
          clear h ht ha hp hl hf hx hput hb hB hnm hR hB2 hT
          go_enter Try.func17, Try.ntmps17
          go_wp2_with (first | (go_at_call 22; refine (HC.out _ rfl).mono ?_; rintro e w1 ⟨rfl, hr, hk⟩; (have HE : Hid (w1.heap[p]? = some (pkO c) ∧ Kp p w w1) := ⟨hr, hk⟩); clear hr hk) | (go_at_call 37; refine (HW.out _ HE.out.1).mono ?_; rintro e w2 ⟨rfl, kd, hw2⟩; rw [hw2]; clear hw2) | (go_at_call 32; refine (HT.out _).mono ?_; rintro e w3 ⟨rfl, hw3⟩; rw [hw3]; clear hw3))
          go_ret2
          rw [HR.out]
          exact ⟨rfl, HP.out _ _ HNM.out HE.out.1 (HE.out.2.drewN _)⟩
    · have HR : Hid (nextI l nm cost now = ((0, 5), l)) := by show _ = _; unfold nextI; rw [if_neg (by rw [ha]; decide), hx]
      have HC : Hid (∀ W, W = w → Calls Try.prog 22 #[.pointer (some ⟨T, 0, none⟩), .string (tx nm), .int .i64 cost, .int .i64 now] W fun e w' => e = .returned (.tuple #[.pointer none, .int .i64 5]) ∧ w' = W) := fun W e => by
        subst e
        exact filled_none T sv m nm cost now W hp hl ha hf
      clear h ht ha hp hl hf hx
      go_enter Try.func17, Try.ntmps17
      go_wp2_with (go_at_call 22; refine (HC.out _ rfl).mono ?_; rintro e w1 ⟨rfl, hw1⟩; rw [hw1]; clear hw1)
      go_ret2
      rw [HR.out]
      exact ⟨rfl, HS.out⟩
end Go.Proofs.Ytpobfcmbbabchaa
