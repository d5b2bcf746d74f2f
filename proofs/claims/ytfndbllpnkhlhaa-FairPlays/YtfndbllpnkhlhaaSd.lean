/- What can be seen of both schedulers; the law of plays. -/
import Derived.Test.YtfndbllpnkhlhaaSc
namespace Go.Proofs.Ytfndbllpnkhlhaa
open Go.RowKit
set_option linter.unusedVariables false
set_option linter.unusedSimpArgs false

variable {T R base : Nat} {s : Sc} {w0 w : World} {N : Int}
theorem rwts_sum : ∀ m : List Rt, (m.map fun r => r.t.wt).sum = sumW (rts m)
  | [] => rfl
  | r :: m => by
    have h := rwts_sum m
    show r.t.wt + (m.map fun r => r.t.wt).sum = r.t.wt + sumW (rts m)
    rw [h]
set_option maxRecDepth 20000 in
set_option maxHeartbeats 4000000 in
theorem alike_any (nm : List UInt8) (h : Mid T R base s s w0 w) (hs : Sok N s) (hN : N ≤ 100000) :
    Calls Try.prog 19 #[.pointer (some ⟨T, 0, none⟩), .pointer (some ⟨R, 0, none⟩), .string (tx nm)] w fun e w' => e = .returned (.bool true) ∧ Mid T R base s s w0 w' := by
  have HM : Hid (Mid T R base s s w0 w) := h
  have HA : Hid (∀ W, Mid T R base s s w0 W → Calls Try.prog 24 #[.pointer (some ⟨T, 0, none⟩)] W fun e w' => e = .returned (.tuple #[.int .i64 (sumW s.ts), .int .i64 (s.ts.length : Int)]) ∧ Mid T R base s s w0 w') := fun W hW => by
    obtain ⟨F, f1, f2⟩ := hW.pf
    exact (prgSX.weights N T F s W f1 hs hN).mono fun e w' ⟨h1, F', h2, h3⟩ => ⟨h1, (hW.prog f1 f2 h2 h3).1⟩
  have HB : Hid (∀ W, Mid T R base s s w0 W → Calls Try.prog 36 #[.pointer (some ⟨R, 0, none⟩)] W fun e w' => e = .returned (.tuple #[.int .i64 (sumW s.ts), .int .i64 (s.ts.length : Int)]) ∧ Mid T R base s s w0 w') := fun W hW => by
    obtain ⟨lv, m, g1, g2⟩ := hW.rp
    obtain ⟨k1, k2⟩ := rok hs g2
    refine (rwts_any W g1 k1 fun r hr => ⟨by have := (k2 r hr).w0; omega, (k2 r hr).w1⟩).mono fun e w' ⟨h1, j, h2⟩ => ⟨?_, by rw [h2]; exact hW.drewN j⟩
    rw [h1, rwts_sum, g2]
    have : m.length = s.ts.length := by rw [← g2]; simp [rts]
    rw [this]
  have HC : Hid (∀ W, Mid T R base s s w0 W → Calls Try.prog 29 #[.pointer (some ⟨T, 0, none⟩), .string (tx nm)] W fun e w' => e = .returned (.int .i64 (waitS s nm)) ∧ Mid T R base s s w0 w') := fun W hW => by
    obtain ⟨F, f1, f2⟩ := hW.pf
    exact (prgSX.waiting N T F s nm W f1 hs hN).mono fun e w' ⟨h1, F', h2, h3⟩ => ⟨h1, (hW.prog f1 f2 h2 h3).1⟩
  have HD : Hid (∀ W, Mid T R base s s w0 W → Calls Try.prog 37 #[.pointer (some ⟨R, 0, none⟩), .string (tx nm)] W fun e w' => e = .returned (.int .i64 (waitS s nm)) ∧ Mid T R base s s w0 w') := fun W hW => by
    obtain ⟨lv, m, g1, g2⟩ := hW.rp
    obtain ⟨k1, k2⟩ := rok hs g2
    refine (rwait_any nm W g1 k1).mono fun e w' ⟨h1, h2⟩ => ⟨?_, by rw [h2]; exact hW⟩
    rw [h1, g2]
    rfl
  have HE : Hid (∀ W, Mid T R base s s w0 W → Calls Try.prog 23 #[.pointer (some ⟨T, 0, none⟩), .string (tx nm)] W fun e w' => e = .returned (.int .i64 (aheadS s nm)) ∧ Mid T R base s s w0 w') := fun W hW => by
    obtain ⟨F, f1, f2⟩ := hW.pf
    exact (prgSX.ahead N T F s nm W f1 hs hN).mono fun e w' ⟨h1, F', h2, h3⟩ => ⟨h1, (hW.prog f1 f2 h2 h3).1⟩
  have HF : Hid (∀ W, Mid T R base s s w0 W → Calls Try.prog 38 #[.pointer (some ⟨R, 0, none⟩), .string (tx nm)] W fun e w' => e = .returned (.int .i64 (aheadS s nm)) ∧ Mid T R base s s w0 w') := fun W hW => by
    obtain ⟨lv, m, g1, g2⟩ := hW.rp
    obtain ⟨k1, k2⟩ := rok hs g2
    refine (rahead_any nm W g1 k1 fun r hr => ⟨(k2 r hr).n, fun x hx => by have h9 := (k2 r hr).all x hx; have q1 := h9.l0; have q2 := h9.l1; have q3 := h9.c1; omega⟩).mono fun e w' ⟨h1, h2⟩ => ⟨?_, by rw [h2]; exact hW⟩
    rw [h1, g2]
    rfl
  generalize sumW s.ts = A1 at HA HB
  generalize (s.ts.length : Int) = A2 at HA HB
  generalize waitS s nm = A3 at HC HD
  generalize aheadS s nm = A4 at HE HF
  clear h hs hN
  go_enter Try.func19, Try.ntmps19
  go_wp2_with (first | (go_at_call 24; refine (HA.out _ HM.out).mono ?_; rintro e w1 ⟨rfl, hm⟩; (have HM1 : Hid (Mid T R base s s w0 w1) := hm); clear hm) | (go_at_call 36; refine (HB.out _ HM1.out).mono ?_; rintro e w2 ⟨rfl, hm⟩; (have HM2 : Hid (Mid T R base s s w0 w2) := hm); clear hm) | (go_at_call 29; refine (HC.out _ HM2.out).mono ?_; rintro e w3 ⟨rfl, hm⟩; (have HM3 : Hid (Mid T R base s s w0 w3) := hm); clear hm) | (go_at_call 37; refine (HD.out _ HM3.out).mono ?_; rintro e w4 ⟨rfl, hm⟩; (have HM4 : Hid (Mid T R base s s w0 w4) := hm); clear hm) | (go_at_call 23; refine (HE.out _ HM4.out).mono ?_; rintro e w5 ⟨rfl, hm⟩; (have HM5 : Hid (Mid T R base s s w0 w5) := hm); clear hm) | (go_at_call 38; refine (HF.out _ HM5.out).mono ?_; rintro e w6 ⟨rfl, hm⟩; (have HM6 : Hid (Mid T R base s s w0 w6) := hm); clear hm))
  go_ret
  exact ⟨by simp, HM6.out⟩
theorem step_all (o : OpF) (h : Mid T R base s s w0 w) (hs : Sok N s) (hN : N ≤ 100000) :
    Calls Try.prog 18 #[.pointer (some ⟨T, 0, none⟩), .pointer (some ⟨R, 0, none⟩), opV o] w fun e w' => e = .returned (.bool true) ∧ Mid T R base (opS s o) (opS s o) w0 w' := by
  rcases (show o.kind = 0 ∨ o.kind = 1 ∨ o.kind = 2 ∨ o.kind = 3 ∨ o.kind = 4 ∨ (o.kind < 0 ∨ 4 < o.kind) by omega) with k | k | k | k | k | k
  · exact step0 o h hs hN k
  · exact step1 o h hs hN k
  · exact step2 o h hs hN k
  · exact step3 o h hs hN k
  · exact step4 o h hs hN k
  · exact step9 o h hs hN k
set_option maxRecDepth 20000 in
set_option maxHeartbeats 4000000 in
theorem plays_law (sa : Option Addr) (len cap : Nat) (os : List OpF) (w : World) (h : OpsAt w sa len cap os) (hl : (len : Int) ≤ 140737488351232) :
    Calls Try.prog 4 #[.slice sa len cap] w fun e w' => e = .returned (.bool true) ∧ Below w.heap.size w w' := by
  have HX : Hid (OpsAt w sa len cap os) := h
  have HI : Hid (∀ (w1 : World) (T : Nat) (F : Nat → Prop), PF w1 T F newS → (∀ q, F q → w.heap.size ≤ q) → Below w.heap.size w w1 → ∃ W, w1.alloc (.cells #[.slice none 0 0, .int .i64 0, .string ⟨#[]⟩, .bool false] 39) = W ∧ Mid T w1.heap.size w.heap.size newS newS w W) := fun w1 T F h1 h2 h3 => by
    refine ⟨_, rfl, ⟨F, h1.at' fun q hq => (bel1 w1 _).block q (h1.lt q hq), h2⟩, ⟨.slice none 0 0, [], ⟨heap_alloc_new _ _, World.ownsRow_nil _ _ _ _, fun r hr => (nomatch hr), fun i j q r r' hi => (by simp at hi), h3.size⟩, rfl⟩, h3.alloc h3.size _⟩
  clear h
  go_enter Try.func4, Try.ntmps4
  go_wp2_with (go_at_call 17; refine (prgS.new w).mono ?_; rintro e w1 ⟨T, F, rfl, hp1, hf1, hb1⟩; (obtain ⟨W, hW, hm⟩ := HI.out w1 T F hp1 hf1 hb1); (have HM : Hid (Mid T w1.heap.size w.heap.size newS newS w W) := hm); clear hp1 hf1 hb1 hm)
  go_loopw [5] (fun v wr => ∃ (i : Nat) (s : Sc), (i : Int) ≤ 300 ∧ i ≤ len ∧ v = .int .i64 (i : Int) ∧ Mid T w1.heap.size w.heap.size s s w wr ∧ Sok (i : Int) s) (fun v wr => 300 - (intOf v).toNat)
  case atStart => exact ⟨0, newS, by omega, by omega, rfl, HM.out, new_ok (Int.le_refl _)⟩
  case round =>
    obtain ⟨i, s, hi, hil, rfl, hm, hs⟩ := hrel
    have HR : Hid (Mid T w1.heap.size w.heap.size s s w wr ∧ Sok (i : Int) s) := ⟨hm, hs⟩
    by_cases hgo : i < len ∧ i < 300
    · obtain ⟨g1, g2⟩ := hgo
      have hx := HX.out.later hm.bel (Nat.le_refl _)
      obtain ⟨o, ho⟩ : ∃ o, os[i]? = some o := ⟨_, List.getElem?_eq_getElem (by have := HX.out.n; omega)⟩
      obtain ⟨b, off, e, hlt, y0, y1, y2, y3, y4⟩ := hx.l i o ho
      subst e
      have g1' : (i : Int) < (len : Int) := by omega
      have g2' : (i : Int) < 300 := by omega
      have hcap : (len : Int) ≤ (cap : Int) := by have := HX.out.c; omega
      have HST : Hid (Calls Try.prog 18 #[.pointer (some ⟨T, 0, none⟩), .pointer (some ⟨w1.heap.size, 0, none⟩), .agg #[.int .i64 o.kind, .string (tx o.nm), .int .i64 o.wt, .int .i64 o.id, .int .i64 o.cost]] wr fun e w' => e = .returned (.bool true) ∧ Mid T w1.heap.size w.heap.size (opS s o) (opS s o) w w') := step_all o hm hs (by omega)
      have HAL : Hid (∀ W, Mid T w1.heap.size w.heap.size (opS s o) (opS s o) w W → Calls Try.prog 19 #[.pointer (some ⟨T, 0, none⟩), .pointer (some ⟨w1.heap.size, 0, none⟩), .string (tx o.nm)] W fun e w' => e = .returned (.bool true) ∧ Mid T w1.heap.size w.heap.size (opS s o) (opS s o) w w') := fun W hW => alike_any o.nm hW (opS_ok (by omega) hs o) (by omega)
      have HCN : Hid (∀ W, Mid T w1.heap.size w.heap.size (opS s o) (opS s o) w W → W.cell? ⟨b, off + i * 5 + 1, none⟩ = some (.string (tx o.nm))) := fun W hW => by
        obtain ⟨b', off', e, _, _, z1, _⟩ := (HX.out.later hW.bel (Nat.le_refl _)).l i o ho
        have e2 : b = b' ∧ off = off' := by simpa using e
        obtain ⟨rfl, rfl⟩ := e2
        exact z1
      have HOK : Hid (Sok ((i : Int) + 1) (opS s o)) := opS_ok (by omega) hs o
      clear hm hs hx ho g1 g2 hi hil hlt
      go_wp2_with (first | (go_at_call 18; refine HST.out.mono ?_; rintro e w2 ⟨rfl, hm2⟩; (have q1 := HCN.out w2 hm2); (have HM2 : Hid (Mid T w1.heap.size w.heap.size (opS s o) (opS s o) w w2) := hm2); clear hm2) | (go_at_call 19; refine (HAL.out _ HM2.out).mono ?_; rintro e w3 ⟨rfl, hm3⟩; (have HM3 : Hid (Mid T w1.heap.size w.heap.size (opS s o) (opS s o) w w3) := hm3); clear hm3))
      go_roundw
      case rel => exact ⟨i + 1, opS s o, by omega, by omega, by go_num, HM3.out, by have := HOK.out; simpa using this⟩
      case measure => simp [intOf]; omega
    · have HKN : Hid (Calls Try.prog 10 #[] wr fun e w' => e = .returned (.bool true) ∧ Below w.heap.size w w') := (known_any prgS wr).mono fun e w' ⟨h1, h2⟩ => ⟨h1, hm.bel.trans (h2.mono hm.rp.bs)⟩
      clear hm hs
      by_cases h1 : i < len
      · have h1' : (i : Int) < (len : Int) := by omega
        obtain rfl : i = 300 := by omega
        clear hgo hi hil h1
        go_wp2_with (go_at_call 10; refine HKN.out.mono ?_; rintro e w2 ⟨rfl, hb2⟩)
        go_ret
        exact ⟨rfl, hb2⟩
      · obtain rfl : i = len := by omega
        clear hgo hi hil h1
        go_wp2_with (go_at_call 10; refine HKN.out.mono ?_; rintro e w2 ⟨rfl, hb2⟩)
        go_ret
        exact ⟨rfl, hb2⟩
end Go.Proofs.Ytfndbllpnkhlhaa
