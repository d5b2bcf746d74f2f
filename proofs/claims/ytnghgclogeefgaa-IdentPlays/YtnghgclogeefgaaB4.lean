/- The law of plays. -/
import Derived.Test.YtnghgclogeefgaaB3
import Derived.Test.YtnghgclogeefgaaB5
namespace Go.Proofs.Ytnghgclogeefgaa
open Go.RowKit Go.Shelf
set_option linter.unusedVariables false
set_option linter.unusedSimpArgs false

/-- Calls as they came in, each peer's text of a length that can be. -/
def OpsS (W : World) (sa : Option Addr) (n cap : Nat) : Prop := n ≤ cap ∧ ∀ i, i < n → ∃ (b off : Nat) (K I N S : Int) (P : ByteArray), sa = some ⟨b, off, none⟩ ∧ W.cell? ⟨b, off + i * 5, none⟩ = some (.int .i64 K) ∧ W.cell? ⟨b, off + i * 5 + 1, none⟩ = some (.string P) ∧ W.cell? ⟨b, off + i * 5 + 2, none⟩ = some (.int .i64 I) ∧ W.cell? ⟨b, off + i * 5 + 3, none⟩ = some (.int .i64 N) ∧ W.cell? ⟨b, off + i * 5 + 4, none⟩ = some (.int .i64 S) ∧ (P.data.toList.length : Int) ≤ 140737488351232
theorem alike_mid {w V : World} {T R q : Nat} {row : Array Value} {la lb : Int} {ss : List Se} (h : Mid w T R q row la lb ss ss V) (hg : ∃ l, Good l ss) :
    Calls Try.prog 28 #[.pointer (some ⟨T, 0, none⟩), .pointer (some ⟨R, 0, none⟩)] V fun e w' => e = .returned (.bool true) ∧ Mid w T R q row la lb ss ss w' := by
  obtain ⟨sv, ht⟩ := h.t
  obtain ⟨sr, hr⟩ := h.r
  obtain ⟨l, hg⟩ := hg
  refine (alike_any T R T T la lb sv sr ss V ht hr hg.len hg.rise).mono ?_
  rintro e w' ⟨h1, h2⟩
  exact ⟨h1, h.later h2⟩
set_option maxRecDepth 100000 in
set_option maxHeartbeats 16000000 in
theorem plays_law (sa : Option Addr) (n cap : Nat) (w : World) (hO : OpsS w sa n cap) (hn : (n : Int) ≤ 140737488351232) :
    Calls Try.prog 4 #[.slice sa n cap] w fun e w' => e = .returned (.bool true) ∧ Below w.heap.size w w' := by
  have HOI : Hid (OpsS w sa n cap) := hO
  have hcap : (n : Int) ≤ (cap : Int) := by have := hO.1; omega
  clear hO
  go_enter Try.func4, Try.ntmps4
  go_wp2_with fail
  refine (new_any w).mono ?_
  rintro e w1 ⟨rfl, hw1⟩
  have HI1 : Hid (Tb w1 w.heap.size w.heap.size 0 (.slice none 0 0) [] ∧ Below w.heap.size w w1 ∧ w1.heap.size = w.heap.size + 1) := by rw [hw1]; exact ⟨tb_new w, bel1 _ _, by simp⟩
  clear hw1
  obtain ⟨T, hT⟩ : ∃ T, w.heap.size = T := ⟨_, rfl⟩
  have HT : Hid (w.heap.size = T) := hT
  rw [hT] at HI1 ⊢
  clear hT
  obtain ⟨R, hR⟩ : ∃ R, w1.heap.size = R := ⟨_, rfl⟩
  have HI2 : Hid ((∃ sv, Tb (w1.alloc (.cells #[.slice none 0 0, .int .i64 0] 39)) T T 0 sv []) ∧ (∃ sv, RTb (w1.alloc (.cells #[.slice none 0 0, .int .i64 0] 39)) R T 0 sv []) ∧ Below T w (w1.alloc (.cells #[.slice none 0 0, .int .i64 0] 39))) := by
    refine ⟨⟨_, HI1.out.1.later (bel1 _ _) (Nat.le_refl _)⟩, ⟨.slice none 0 0, ?_, World.ownsRow_nil _ _ _ _, by have := HI1.out.2.2; omega⟩, HI1.out.2.1.trans ((bel1 _ _).mono (by have := HI1.out.2.2; omega))⟩
    rw [← hR]
    exact Go.heap_alloc_new _ _
  go_upto_region 5 with fail
  try rw [hR]
  obtain ⟨W1, hW1⟩ : ∃ W1, w1.alloc (.cells #[.slice none 0 0, .int .i64 0] 39) = W1 := ⟨_, rfl⟩
  rw [hW1] at HI2 ⊢
  clear hW1 hR HI1
  go_wp2_with fail
  go_loopw [5] (fun v wr => ∃ (k : Nat) (last : Int) (ss : List Se), k ≤ 100 ∧ v = .int .i64 (k : Int) ∧ 0 ≤ last ∧ last ≤ (k : Int) ∧ Good last ss ∧ (∃ sv, Tb wr T T last sv ss) ∧ (∃ sv, RTb wr R T last sv ss) ∧ Below T w wr) (fun v wr => 100 - (intOf v).toNat)
  case atStart => exact ⟨0, 0, [], by omega, rfl, by omega, by omega, good_nil, HI2.out.1, HI2.out.2.1, HI2.out.2.2⟩
  case round =>
    clear HI2
    obtain ⟨k, last, ss, hk, rfl, l0, l1, hg, ⟨sv, htk⟩, ⟨sr, hrk⟩, hbk⟩ := hrel
    have HG : Hid (Good last ss) := hg
    have HK : Hid (Tb wr T T last sv ss ∧ RTb wr R T last sr ss ∧ Below T w wr) := ⟨htk, hrk, hbk⟩
    clear hg htk hrk hbk
    by_cases c1 : (k : Int) < (n : Int)
    · by_cases c2 : (k : Int) < 100
      · obtain ⟨b, off, KK, I, NN, S, P, hsa, o0, o1, o2, o3, o4, hP⟩ := HOI.out.2 k (by omega)
        subst hsa
        obtain ⟨peer, hpe⟩ : ∃ peer, P.data.toList = peer := ⟨_, rfl⟩
        have hPp : P = tx peer := by rw [← hpe]; exact (tx_of P).symm
        rw [hpe] at hP
        subst hPp
        have HPL : Hid ((peer.length : Int) ≤ 140737488351232) := hP
        have hbl : b < w.heap.size := World.block_lt_of_cell? w _ o0
        have hbT : b < T := by have := HT.out; omega
        have r0 := (HK.out.2.2.cell (p := ⟨b, off + k * 5, none⟩) hbT).trans o0
        have r1 := (HK.out.2.2.cell (p := ⟨b, off + k * 5 + 1, none⟩) hbT).trans o1
        have r2 := (HK.out.2.2.cell (p := ⟨b, off + k * 5 + 2, none⟩) hbT).trans o2
        have r3 := (HK.out.2.2.cell (p := ⟨b, off + k * 5 + 3, none⟩) hbT).trans o3
        have r4 := (HK.out.2.2.cell (p := ⟨b, off + k * 5 + 4, none⟩) hbT).trans o4
        clear o0 o1 o2 o3 o4 hbl hbT hP hpe
        go_upto_region 9 with fail
        obtain ⟨W2, hW2⟩ : ∃ W2, wr.alloc (.cells #[.int .i64 KK, .string (tx peer), .int .i64 I, .int .i64 NN, .int .i64 S] 41) = W2 := ⟨_, rfl⟩
        have h22 : Below wr.heap.size wr W2 := by rw [← hW2]; exact bel1 _ _
        have HM : Hid (Mid w T R wr.heap.size #[.int .i64 KK, .string (tx peer), .int .i64 I, .int .i64 NN, .int .i64 S] last last ss ss W2) :=
          ⟨⟨_, HK.out.1.later h22 (Nat.le_refl _)⟩, ⟨_, HK.out.2.1.later h22 (Nat.le_refl _)⟩, by rw [← hW2]; exact Go.heap_alloc_new _ _, HK.out.2.2.trans (h22.mono (by have := HK.out.2.2.size; have := HT.out; omega))⟩
        try rw [hW2]
        clear hW2 h22 r0 r1 r2 r3 r4 HK
        generalize wr.heap.size = q at HM ⊢
        have p0 : W2.cell? ⟨q, 0, none⟩ = some (.int .i64 KK) := HM.out.at 0 _ rfl
        have p1 : W2.cell? ⟨q, 1, none⟩ = some (.string (tx peer)) := HM.out.at 1 _ rfl
        have p2 : W2.cell? ⟨q, 2, none⟩ = some (.int .i64 I) := HM.out.at 2 _ rfl
        have p3 : W2.cell? ⟨q, 3, none⟩ = some (.int .i64 NN) := HM.out.at 3 _ rfl
        have p4 : W2.cell? ⟨q, 4, none⟩ = some (.int .i64 S) := HM.out.at 4 _ rfl
        by_cases d0 : KK = 0
        · subst d0
          have HGO := good_open HG.out l0 peer NN S
          obtain ⟨⟨x1, x2, x3, x4⟩, hx⟩ : ∃ x, opI last ss peer NN S = x := ⟨_, rfl⟩
          rw [hx] at HGO
          have HGO' : Hid (Good x3 x4 ∧ 0 ≤ x3 ∧ x3 ≤ last + 1) := HGO
          have HOA : Hid (Calls Try.prog 18 #[.pointer (some ⟨T, 0, none⟩), .string (tx peer), .int .i64 NN, .int .i64 S] W2 fun e w' => e = .returned (.tuple #[.int .i64 x1, .int .i64 x2]) ∧ Mid w T R q #[.int .i64 0, .string (tx peer), .int .i64 I, .int .i64 NN, .int .i64 S] x3 last x4 ss w') := by
            obtain ⟨sv, ht⟩ := HM.out.t
            refine (open_kg T T last sv ss peer NN S W2 ht HG.out.len HPL.out l0 (by omega) HM.out.low).mono ?_
            rintro e w' ⟨⟨h1, h2⟩, h3, h4⟩
            rw [hx] at h1 h2
            exact ⟨h1, HM.out.a h2 h3 h4⟩
          have HOB : Hid (∀ V, Mid w T R q #[.int .i64 0, .string (tx peer), .int .i64 I, .int .i64 NN, .int .i64 S] x3 last x4 ss V → Calls Try.prog 19 #[.pointer (some ⟨R, 0, none⟩), .string (tx peer), .int .i64 NN, .int .i64 S] V fun e w' => e = .returned (.tuple #[.int .i64 x1, .int .i64 x2]) ∧ Mid w T R q #[.int .i64 0, .string (tx peer), .int .i64 I, .int .i64 NN, .int .i64 S] x3 x3 x4 x4 w') := by
            intro V hV
            obtain ⟨sv, ht⟩ := hV.r
            refine (ropen_kg R T last sv ss peer NN S V ht HG.out.len HPL.out l0 (by omega) hV.low).mono ?_
            rintro e w' ⟨⟨h1, h2⟩, h3, h4⟩
            rw [hx] at h1 h2
            exact ⟨h1, hV.c h2 h3 h4⟩
          clear hx HGO
          go_wp2_with fail
          refine HOA.out.mono ?_
          rintro e w5 ⟨rfl, hm5⟩
          have HM5 : Hid (Mid w T R q #[.int .i64 0, .string (tx peer), .int .i64 I, .int .i64 NN, .int .i64 S] x3 last x4 ss w5) := hm5
          have q1 : w5.cell? ⟨q, 1, none⟩ = some (.string (tx peer)) := hm5.at 1 _ rfl
          have q3 : w5.cell? ⟨q, 3, none⟩ = some (.int .i64 NN) := hm5.at 3 _ rfl
          have q4 : w5.cell? ⟨q, 4, none⟩ = some (.int .i64 S) := hm5.at 4 _ rfl
          clear hm5
          go_wp2_with fail
          refine (HOB.out w5 HM5.out).mono ?_
          rintro e w6 ⟨rfl, hm6⟩
          have HM6 : Hid (Mid w T R q #[.int .i64 0, .string (tx peer), .int .i64 I, .int .i64 NN, .int .i64 S] x3 x3 x4 x4 w6) := hm6
          clear hm6
          go_wp2_with fail
          refine (alike_mid HM6.out ⟨_, HGO'.out.1⟩).mono ?_
          rintro e w7 ⟨rfl, hm7⟩
          have HM7 : Hid (Mid w T R q #[.int .i64 0, .string (tx peer), .int .i64 I, .int .i64 NN, .int .i64 S] x3 x3 x4 x4 w7) := hm7
          clear hm7
          go_wp2_with fail
          go_roundw
          case rel => exact ⟨k + 1, x3, x4, by omega, by go_num, HGO'.out.2.1, by have := HGO'.out.2.2; omega, HGO'.out.1, HM7.out.t, HM7.out.r, HM7.out.b⟩
          case measure => simp [intOf]; omega
        · have d0' : (KK == 0) = false := by simpa using d0
          by_cases d1 : KK = 1
          · subst d1
            have HWA : Hid (Calls Try.prog 20 #[.pointer (some ⟨T, 0, none⟩), .int .i64 I, .int .i64 NN] W2 fun e w' => e = .returned (whoV (thI ss I NN)) ∧ Below W2.heap.size W2 w') := by
              obtain ⟨sv, ht⟩ := HM.out.t
              exact who_any T T last sv ss I NN W2 ht (by have := HG.out.len; omega)
            have HWB : Hid (∀ V, Mid w T R q #[.int .i64 1, .string (tx peer), .int .i64 I, .int .i64 NN, .int .i64 S] last last ss ss V → Calls Try.prog 21 #[.pointer (some ⟨R, 0, none⟩), .int .i64 I, .int .i64 NN] V fun e w' => e = .returned (whoV (thI ss I NN)) ∧ Below V.heap.size V w') := by
              intro V hV
              obtain ⟨sv, ht⟩ := hV.r
              exact rwho_any R T last sv ss I NN V ht (by have := HG.out.len; omega)
            obtain ⟨t, u, bb, E, hwv, hEQ⟩ : ∃ (t u : List UInt8) (bb : Bool) (E : Int), whoV (thI ss I NN) = .tuple #[.agg #[.string (tx t), .string (tx u), .bool bb], .int .i64 E] ∧ ∀ w : World, (Op.equalIn 10000 23 (.agg #[.string (tx t), .string (tx u), .bool bb]) (.agg #[.string (tx t), .string (tx u), .bool bb])).run Try.prog w = .ok true w := by
              cases hth : thI ss I NN with
              | none => exact ⟨[], [], false, 5, rfl, eqId [] [] false (by decide) (by decide)⟩
              | some z =>
                obtain ⟨j, _, hj⟩ := th_at ss I NN z hth
                obtain ⟨_, _, f1, f2⟩ := HG.out.all z (List.mem_of_getElem? hj)
                exact ⟨z.t, z.u, z.a, 0, rfl, eqId z.t z.u z.a f1 f2⟩
            rw [hwv] at HWA HWB
            clear hwv
            go_wp2_with fail
            refine HWA.out.mono ?_
            rintro e w5 ⟨rfl, hb5⟩
            have HM5 : Hid (Mid w T R q #[.int .i64 1, .string (tx peer), .int .i64 I, .int .i64 NN, .int .i64 S] last last ss ss (w5.alloc (.cells #[.string (tx t), .string (tx u), .bool bb] 23))) := (HM.out.later hb5).later (bel1 _ _)
            clear hb5
            go_upto_region 19 with fail
            obtain ⟨W5, hW5⟩ : ∃ W5, w5.alloc (.cells #[.string (tx t), .string (tx u), .bool bb] 23) = W5 := ⟨_, rfl⟩
            have HR5 : Hid (W5.heap[w5.heap.size]? = some (.cells #[.string (tx t), .string (tx u), .bool bb] 23 (0, 0))) := by rw [← hW5]; exact Go.heap_alloc_new _ _
            rw [hW5] at HM5 ⊢
            clear hW5
            generalize w5.heap.size = q5 at HR5 ⊢
            have q2 : W5.cell? ⟨q, 2, none⟩ = some (.int .i64 I) := HM5.out.at 2 _ rfl
            have q3 : W5.cell? ⟨q, 3, none⟩ = some (.int .i64 NN) := HM5.out.at 3 _ rfl
            go_wp2_with fail
            refine (HWB.out W5 HM5.out).mono ?_
            rintro e w6 ⟨rfl, hb6⟩
            have HM6 : Hid (Mid w T R q #[.int .i64 1, .string (tx peer), .int .i64 I, .int .i64 NN, .int .i64 S] last last ss ss (w6.alloc (.cells #[.string (tx t), .string (tx u), .bool bb] 23))) := (HM5.out.later hb6).later (bel1 _ _)
            have HR6 : Hid (w6.heap[q5]? = some (.cells #[.string (tx t), .string (tx u), .bool bb] 23 (0, 0))) := (hb6.block _ (Array.getElem?_eq_some_iff.1 HR5.out).1).trans HR5.out
            clear hb6
            go_upto_region 20 with fail
            obtain ⟨W6, hW6⟩ : ∃ W6, w6.alloc (.cells #[.string (tx t), .string (tx u), .bool bb] 23) = W6 := ⟨_, rfl⟩
            have g1 : W6.heap[q5]? = some (.cells #[.string (tx t), .string (tx u), .bool bb] 23 (0, 0)) := by rw [← hW6]; exact (Below.heap_alloc _ _ _ (Array.getElem?_eq_some_iff.1 HR6.out).1).trans HR6.out
            have g2 : W6.heap[w6.heap.size]? = some (.cells #[.string (tx t), .string (tx u), .bool bb] 23 (0, 0)) := by rw [← hW6]; exact Go.heap_alloc_new _ _
            rw [hW6] at HM6 ⊢
            clear hW6 HR5 HR6
            generalize w6.heap.size = q6 at g2 ⊢
            have i0 : W6.cell? ⟨q5, 0, none⟩ = some (.string (tx t)) := by rw [cell_of_row _ _ _ _ _ _ g1]; rfl
            have i1 : W6.cell? ⟨q5, 1, none⟩ = some (.string (tx u)) := by rw [cell_of_row _ _ _ _ _ _ g1]; rfl
            have i2 : W6.cell? ⟨q5, 2, none⟩ = some (.bool bb) := by rw [cell_of_row _ _ _ _ _ _ g1]; rfl
            have j0 : W6.cell? ⟨q6, 0, none⟩ = some (.string (tx t)) := by rw [cell_of_row _ _ _ _ _ _ g2]; rfl
            have j1 : W6.cell? ⟨q6, 1, none⟩ = some (.string (tx u)) := by rw [cell_of_row _ _ _ _ _ _ g2]; rfl
            have j2 : W6.cell? ⟨q6, 2, none⟩ = some (.bool bb) := by rw [cell_of_row _ _ _ _ _ _ g2]; rfl
            clear g1 g2
            go_wp2_with fail
            refine (alike_mid HM6.out ⟨_, HG.out⟩).mono ?_
            rintro e w7 ⟨rfl, hm7⟩
            have HM7 : Hid (Mid w T R q #[.int .i64 1, .string (tx peer), .int .i64 I, .int .i64 NN, .int .i64 S] last last ss ss w7) := hm7
            clear hm7
            go_wp2_with fail
            go_roundw
            case rel => exact ⟨k + 1, last, ss, by omega, by go_num, l0, by omega, HG.out, HM7.out.t, HM7.out.r, HM7.out.b⟩
            case measure => simp [intOf]; omega
          · have d1' : (KK == 1) = false := by simpa using d1
            by_cases d2 : KK = 2
            · subst d2
              go_upto_region 23 with fail
              refine wp_on (reg23 w T R q 2 I NN S (tx peer) last last ss W2 HG.out.len HM.out) ?_
              rintro a V ⟨rfl, hmV⟩
              have HMV : Hid (Mid w T R q #[.int .i64 2, .string (tx peer), .int .i64 I, .int .i64 NN, .int .i64 S] last last (rnI ss I NN S).2 (rnI ss I NN S).2 V) := hmV
              have HGV : Hid (Good last (rnI ss I NN S).2) := good_renew HG.out I NN S
              clear hmV
              go_wp2_with fail
              refine (alike_mid HMV.out ⟨_, HGV.out⟩).mono ?_
              rintro e w7 ⟨rfl, hm7⟩
              have HM7 : Hid (Mid w T R q #[.int .i64 2, .string (tx peer), .int .i64 I, .int .i64 NN, .int .i64 S] last last (rnI ss I NN S).2 (rnI ss I NN S).2 w7) := hm7
              clear hm7
              go_wp2_with fail
              go_roundw
              case rel => exact ⟨k + 1, last, (rnI ss I NN S).2, by omega, by go_num, l0, by omega, HGV.out, HM7.out.t, HM7.out.r, HM7.out.b⟩
              case measure => simp [intOf]; omega
            · have d2' : (KK == 2) = false := by simpa using d2
              by_cases d3 : KK = 3
              · subst d3
                go_upto_region 26 with fail
                refine wp_on (reg26 w T R q 3 I NN S (tx peer) last last ss W2 HG.out.len HM.out) ?_
                rintro a V ⟨rfl, hmV⟩
                have HMV : Hid (Mid w T R q #[.int .i64 3, .string (tx peer), .int .i64 I, .int .i64 NN, .int .i64 S] last last (clI ss I) (clI ss I) V) := hmV
                have HGV : Hid (Good last (clI ss I)) := good_close HG.out I
                clear hmV
                go_wp2_with fail
                refine (alike_mid HMV.out ⟨_, HGV.out⟩).mono ?_
                rintro e w7 ⟨rfl, hm7⟩
                have HM7 : Hid (Mid w T R q #[.int .i64 3, .string (tx peer), .int .i64 I, .int .i64 NN, .int .i64 S] last last (clI ss I) (clI ss I) w7) := hm7
                clear hm7
                go_wp2_with fail
                go_roundw
                case rel => exact ⟨k + 1, last, (clI ss I), by omega, by go_num, l0, by omega, HGV.out, HM7.out.t, HM7.out.r, HM7.out.b⟩
                case measure => simp [intOf]; omega
              · have d3' : (KK == 3) = false := by simpa using d3
                go_upto_region 10 with fail
                refine wp_on (reg10 w T R q KK I NN S (tx peer) last last ss W2 HG.out.len HM.out) ?_
                rintro a V ⟨rfl, hmV⟩
                have HMV : Hid (Mid w T R q #[.int .i64 KK, .string (tx peer), .int .i64 I, .int .i64 NN, .int .i64 S] last last (exI ss NN) (exI ss NN) V) := hmV
                have HGV : Hid (Good last (exI ss NN)) := good_expire HG.out NN
                clear hmV
                go_wp2_with fail
                refine (alike_mid HMV.out ⟨_, HGV.out⟩).mono ?_
                rintro e w7 ⟨rfl, hm7⟩
                have HM7 : Hid (Mid w T R q #[.int .i64 KK, .string (tx peer), .int .i64 I, .int .i64 NN, .int .i64 S] last last (exI ss NN) (exI ss NN) w7) := hm7
                clear hm7
                go_wp2_with fail
                go_roundw
                case rel => exact ⟨k + 1, last, (exI ss NN), by omega, by go_num, l0, by omega, HGV.out, HM7.out.t, HM7.out.r, HM7.out.b⟩
                case measure => simp [intOf]; omega
      · go_wp2_with (go_at_call 16; refine (known_any _).mono ?_; rintro e w8 ⟨rfl, hb8⟩)
        go_ret
        exact ⟨rfl, by rw [HT.out]; exact HK.out.2.2.trans (hb8.mono (by have := HK.out.2.2.size; have := HT.out; omega))⟩
    · go_wp2_with (go_at_call 16; refine (known_any _).mono ?_; rintro e w8 ⟨rfl, hb8⟩)
      go_ret
      exact ⟨rfl, by rw [HT.out]; exact HK.out.2.2.trans (hb8.mono (by have := HK.out.2.2.size; have := HT.out; omega))⟩
end Go.Proofs.Ytnghgclogeefgaa
