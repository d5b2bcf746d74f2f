/- The digest, by the definition. -/
import Derived.Test.YtfdmepblhlifcaaDoorF4
import Derived.Test.YtfdmepblhlifcaaDoorF3
import Derived.Deep.MidRow
import Derived.Laws.AppendOwnNone
namespace Go.Proofs.YtfdmepblhlifcaaDoor
open Go.RowKit
set_option linter.unusedVariables false
set_option linter.unusedSimpArgs false

def zg (l : Nat) : Nat := (119 - l % 64) % 64
def padI (zs : List Int) : List Int := zs ++ [128] ++ List.replicate (zg zs.length) 0 ++ be8 ((zs.length : Int) * 8) 8
theorem pad_byt (zs : List Int) (hz : Byt zs) : Byt (padI zs) :=
  byt_app (byt_app (byt_app hz (byt_rep 1 128 (by decide) (by decide))) (byt_rep _ 0 (by decide) (by decide))) (be8_byt _ _)
theorem pad_len (zs : List Int) : (padI zs).length = zs.length + 1 + zg zs.length + 8 := by
  simp [padI, be8_len]
  omega
def rsumI (zs : List Int) : List Int := bytesI (stB (padI zs) ((padI zs).length / 64))

theorem wpList_loadV {P : Program} {w : World} {ops : Array Oper} {rest : List Oper} {o : Oper} {a : Act} {Q : Exit → Act → World → Prop} (ty : TypeId) (x : Operand) (ho : o.op = .load ty x) (hw : Region.wanted o (yielded ops a.tmps) = true)
    (p : Addr) (hx : a.eval x = .pointer (some p)) (v : Value) (hl : (loadVar ty p).run P w = .ok v w) (h : wpList P ops Q rest (a.put o.dst v) w) : wpList P ops Q (o :: rest) a w := by
  refine wpList_step fun K hK => ?_
  rw [if_pos hw]
  unfold Oper.wp
  simp only [execOp, ho, hx, Instr.loadAt, Instr.sureAddr, Sem.run_bind, Sem.run_pure, Result.andThen_ok, hl]
  exact hK _ _ h
theorem load_last {w : World} {zs : List Int} {base g cap n kk : Nat} (h : w.ownsRow base 62 8 (.slice (some ⟨g, 0, none⟩) n cap) n (flatS zs n)) (hn : n = kk + 1) : (loadVar 62 ⟨g, kk * 8, none⟩).run Tryd.prog w = .ok (.agg (u32s (stB zs n))) w := by
  have hl := (stB_ok zs n).1
  refine run_loadVar_mid w g (kk * 8) 62 (u32l (stB zs n)) _ (fun j v hv => ?_) Tryd.underlying62 rfl (by simp only [u32l, List.length_map, hl]; kernel_rfl)
  have hj : j < 8 := by
    have := (List.getElem?_eq_some_iff.1 hv).1
    simpa [u32l, hl] using this
  rw [h.cellAt (kk * 8 + j) (by omega)]
  subst hn
  rw [show flatS zs (kk + 1) = flatS zs kk ++ u32l (stB zs (kk + 1)) from rfl, List.getElem?_append_right (by rw [flatS_len]; omega), flatS_len, Nat.add_sub_cancel_left]
  exact hv

set_option maxRecDepth 20000 in
set_option maxHeartbeats 4000000 in
theorem rsum_some (zs : List Int) (ad : Addr) (L cap : Nat) (w : World) (hL : L = zs.length) (hz : Byt zs) (hC : ∀ W, Below w.heap.size w W → ∀ j u, (u8l zs)[j]? = some u → W.cell? (ad.add j) = some u) (hl : (zs.length : Int) ≤ 140737488351232) :
    Calls Tryd.prog 10 #[.slice (some ad) L cap] w fun e w' => e = .returned (.agg (u8s (rsumI zs))) ∧ Below w.heap.size w w' := by
  obtain ⟨i0, hi, hz0, hz1, hz2⟩ := info_parts info5
  have HC : Hid (∀ W, Below w.heap.size w W → ∀ j u, (u8l zs)[j]? = some u → W.cell? (ad.add j) = some u) := hC
  have HZ : Hid (Byt zs) := hz
  have HLL : Hid (L = zs.length) := hL
  clear hC hz hL
  go_enter Tryd.func10, Tryd.ntmps10
  go_wp2_with (first | (at_builtin; (refine wpList_append_own _ rfl (.tmp 7) (.tmp 8) 22 rfl (w.heap.size + 1) 5 i0 (.int .u8 0) 1 1 Tryd.underlying22 hi hz0 hz1 hz2 rfl (by decide) _ 0 [] rfl (World.ownsRow_nil _ _ _ _) ad L cap (u8l zs) rfl (by rw [u8l_len, HLL.out, Nat.mul_one]) (HC.out _ ((Below.refl _ w).alloc (Nat.le_refl _) _)) (u8l_one _) (by rw [HLL.out]; unfold maxLen; omega) (by rw [HLL.out]; omega) (by simp) ?_; intro v2 w2 hown2 hgrow2 hx2; clear hx2; (rw [Nat.zero_add, List.nil_append, HLL.out] at hown2); (have hb2 : Below (w.heap.size + 1) (w.alloc (.cells (u8s (List.replicate 32 0)) 23)) w2 := (Below.refl _ _).grown hgrow2 (by simp) (by intro k hk; cases hk)); (have HB2 : Hid (Below (w.heap.size + 1) (w.alloc (.cells (u8s (List.replicate 32 0)) 23)) w2) := hb2); (have HOWN2 : Hid (w2.ownsRow (w.heap.size + 1) 5 1 v2 zs.length (u8l zs)) := hown2); clear hown2 hgrow2 hb2)) | (at_builtin; (refine wpList_append_own _ rfl (.tmp 10) (.tmp 11) 22 rfl (w.heap.size + 1) 5 i0 (.int .u8 0) 1 1 Tryd.underlying22 hi hz0 hz1 hz2 rfl (by decide) _ zs.length (u8l zs) rfl (HOWN2.out.alloc _) ⟨w2.heap.size, 0, none⟩ 1 1 (u8l [128]) rfl rfl (cell_new1 w2 _ _) (u8l_one _) (by unfold maxLen; omega) (by omega) (by have := HB2.out.size; simp at *; omega) ?_; intro v3 w3 hown3 hgrow3 hx3; clear hx3; (rw [u8l_app] at hown3); (obtain ⟨g3, cp3, hv3⟩ := own_form hown3 (by omega)); (have hb3 : Below (w.heap.size + 1) w2 w3 := ((Below.refl _ _).alloc (by have := HB2.out.size; simp at *; omega) _).grown hgrow3 (by have := HB2.out.size; simp at *; omega) (ownBlock_ge HOWN2.out)); (have HB3 : Hid (Below (w.heap.size + 1) w2 w3) := hb3); (rw [hv3] at hown3); (rw [hv3]); (have HOWN3 : Hid (w3.ownsRow (w.heap.size + 1) 5 1 (.slice (some ⟨g3, 0, none⟩) (zs.length + 1) cp3) (zs.length + 1) (u8l (zs ++ [128]))) := hown3); clear hown3 hgrow3 hb3 hv3)))
  obtain ⟨WA, hWA⟩ : ∃ WA, w.alloc (.cells (u8s (List.replicate 32 0)) 23) = WA := ⟨_, rfl⟩
  have HBA : Hid (Below (w.heap.size + 1) WA w3) := by
    show Below _ _ _
    rw [← hWA]
    exact HB2.out.trans HB3.out
  have HWA0 : Hid (WA.heap[w.heap.size]? = some (.cells (u8s (List.replicate 32 0)) 23 (0, 0))) := by
    show _ = _
    rw [← hWA]
    exact Go.heap_alloc_new _ _
  have HWAB : Hid (Below w.heap.size w WA ∧ WA.heap.size = w.heap.size + 1) := by
    refine ⟨?_, by rw [← hWA]; simp⟩
    rw [← hWA]
    exact (Below.refl _ w).alloc (Nat.le_refl _) _
  clear hWA HB2 HB3 HOWN2
  go_loopw [3] (fun v wr => ∃ (j m g cp : Nat), j ≤ zg zs.length ∧ m = zs.length + 1 + j ∧ v = .slice (some ⟨g, 0, none⟩) m cp ∧ wr.ownsRow (w.heap.size + 1) 5 1 (.slice (some ⟨g, 0, none⟩) m cp) m (u8l (zs ++ [128] ++ List.replicate j 0)) ∧ Below (w.heap.size + 1) WA wr) (fun v wr => zs.length + 200 - sliceLen v)
  case atStart => exact ⟨0, _, g3, cp3, by omega, rfl, rfl, by simpa using HOWN3.out, HBA.out⟩
  case round =>
    clear HOWN3 HBA
    obtain ⟨j, m, g, cp, hj, hm, rfl, hown, hbel⟩ := hrel
    have HOWN : Hid (wr.ownsRow (w.heap.size + 1) 5 1 (.slice (some ⟨g, 0, none⟩) m cp) m (u8l (zs ++ [128] ++ List.replicate j 0))) := hown
    have HBEL : Hid (Below (w.heap.size + 1) WA wr) := hbel
    have HM : Hid (m = zs.length + 1 + j) := hm
    have HJ : Hid (j ≤ zg zs.length) := hj
    have hz120 : zg zs.length ≤ 64 := by unfold zg; omega
    have hm0 : (m : Int) < 140737488351500 := by omega
    clear hown hbel
    by_cases hlt : j < zg zs.length
    · have ht : ((m : Int) % 64 != 56) = true := by
        unfold zg at hlt
        simp
        omega
      have HLT : Hid (j < zg zs.length) := hlt
      have hsz : w.heap.size + 1 ≤ wr.heap.size := by have := HBEL.out.size; have := HWAB.out.2; omega
      have HSZ : Hid (w.heap.size + 1 ≤ wr.heap.size) := hsz
      clear hlt hj hm hz120 hsz
      go_wp2_with (at_builtin; (refine wpList_append_own _ rfl (.tmp 17) (.tmp 18) 22 rfl (w.heap.size + 1) 5 i0 (.int .u8 0) 1 1 Tryd.underlying22 hi hz0 hz1 hz2 rfl (by decide) _ m (u8l (zs ++ [128] ++ List.replicate j 0)) rfl (HOWN.out.alloc _) ⟨wr.heap.size, 0, none⟩ 1 1 (u8l [0]) rfl rfl (cell_new1 wr _ _) (u8l_one _) (by unfold maxLen; omega) (by omega) (by have := HSZ.out; simp; omega) ?_; intro v3 w3 hown3 hgrow3 hx3; clear hx3; (rw [u8l_app] at hown3); (obtain ⟨g3, cp3, hv3⟩ := own_form hown3 (by omega)); (have hb3 : Below (w.heap.size + 1) wr w3 := ((Below.refl _ _).alloc HSZ.out _).grown hgrow3 (by have := HSZ.out; simp; omega) (ownBlock_ge HOWN.out)); (have HB3 : Hid (Below (w.heap.size + 1) wr w3) := hb3); (rw [hv3] at hown3); (rw [hv3]); (have HOWN3 : Hid (w3.ownsRow (w.heap.size + 1) 5 1 (.slice (some ⟨g3, 0, none⟩) (m + 1) cp3) (m + 1) (u8l (zs ++ [128] ++ List.replicate j 0 ++ [0]))) := hown3); clear hown3 hgrow3 hb3 hv3))
      go_roundw
      case rel =>
        refine ⟨j + 1, m + 1, g3, cp3, by have := HLT.out; omega, by have := HM.out; omega, rfl, ?_, HBEL.out.trans HB3.out⟩
        have h := HOWN3.out
        rwa [List.append_assoc, ← List.replicate_succ'] at h
      case measure =>
        have h1 := HM.out
        have h2 := HLT.out
        unfold zg at h2
        simp [sliceLen]
        omega
    · have hje : j = zg zs.length := by omega
      have ht : ((m : Int) % 64 != 56) = false := by
        rw [hje] at hm
        unfold zg at hm
        simp
        omega
      have HJE : Hid (j = zg zs.length) := hje
      clear hlt hj hm hje hz120
      have hLb : (L : Int) ≤ 140737488351232 := by rw [HLL.out]; exact hl
      have u0 : IntKind.u64.wrap (L : Int) = L := by unfold IntKind.wrap; simp [IntKind.bits, IntKind.signed]; omega
      go_wp2_with fail
      go_loopw [3, 5] (fun v sh wr => ∃ (i m2 g cp : Nat), i ≤ 8 ∧ m2 = m + i ∧ sh = .int .i64 (7 - (i : Int)) ∧ v = .slice (some ⟨g, 0, none⟩) m2 cp ∧ wr.ownsRow (w.heap.size + 1) 5 1 (.slice (some ⟨g, 0, none⟩) m2 cp) m2 (u8l (zs ++ [128] ++ List.replicate j 0 ++ be8 ((L : Int) * 8) i)) ∧ Below (w.heap.size + 1) WA wr) (fun v sh wr => (intOf sh + 8).toNat)
      case atStart => exact ⟨0, _, g, cp, by omega, rfl, rfl, rfl, by simpa [be8] using HOWN.out, HBEL.out⟩
      case round =>
        clear HOWN HBEL
        obtain ⟨i, m2, g, cp, hi8, hm2, rfl, rfl, hown, hbel⟩ := hrel
        have HOWN : Hid (wr.ownsRow (w.heap.size + 1) 5 1 (.slice (some ⟨g, 0, none⟩) m2 cp) m2 (u8l (zs ++ [128] ++ List.replicate j 0 ++ be8 ((L : Int) * 8) i))) := hown
        have HBEL : Hid (Below (w.heap.size + 1) WA wr) := hbel
        have HM2 : Hid (m2 = m + i) := hm2
        have hm20 : (m2 : Int) < 140737488351600 := by omega
        have hsz : w.heap.size + 1 ≤ wr.heap.size := by have := HBEL.out.size; have := HWAB.out.2; omega
        have HSZ : Hid (w.heap.size + 1 ≤ wr.heap.size) := hsz
        clear hown hbel hm2 hsz
        by_cases hlt : i < 8
        · obtain ⟨q, hq⟩ : ∃ q : Nat, q = 7 - i := ⟨_, rfl⟩
          have e3 : 7 - (i : Int) = (q : Int) := by omega
          have HQ7 : Hid (7 - (i : Int) = (q : Int)) := e3
          have hq7 : (q : Int) ≤ 7 := by omega
          have HT : Hid (be8 ((L : Int) * 8) (i + 1) = be8 ((L : Int) * 8) i ++ [(L : Int) * 8 / 2 ^ (8 * q) % 256]) := by
            rw [show 8 * q = 56 - 8 * i by omega]
            rfl
          rw [e3]
          clear e3
          have x0 : 0 ≤ (L : Int) * 8 := by omega
          have x1 : (L : Int) * 8 < 18446744073709551616 := by omega
          have HI8 : Hid (i < 8) := hlt
          clear hlt hq hl u0 hi8 hLb
          generalize (L : Int) * 8 = Y at x0 x1 HT HOWN ⊢
          go_wp2_with (at_builtin; (refine wpList_append_own _ rfl (.tmp 28) (.tmp 35) 22 rfl (w.heap.size + 1) 5 i0 (.int .u8 0) 1 1 Tryd.underlying22 hi hz0 hz1 hz2 rfl (by decide) _ m2 (u8l (zs ++ [128] ++ List.replicate j 0 ++ be8 Y i)) rfl (HOWN.out.alloc _) ⟨wr.heap.size, 0, none⟩ 1 1 (u8l [Y / 2 ^ (8 * q) % 256]) rfl rfl (cell_new1 wr _ _) (u8l_one _) (by unfold maxLen; omega) (by omega) (by have := HSZ.out; simp; omega) ?_; intro v3 w3 hown3 hgrow3 hx3; clear hx3; (rw [u8l_app] at hown3); (obtain ⟨g3, cp3, hv3⟩ := own_form hown3 (by omega)); (have hb3 : Below (w.heap.size + 1) wr w3 := ((Below.refl _ _).alloc HSZ.out _).grown hgrow3 (by have := HSZ.out; simp; omega) (ownBlock_ge HOWN.out)); (have HB3 : Hid (Below (w.heap.size + 1) wr w3) := hb3); (rw [hv3] at hown3); (rw [hv3]); (have HOWN3 : Hid (w3.ownsRow (w.heap.size + 1) 5 1 (.slice (some ⟨g3, 0, none⟩) (m2 + 1) cp3) (m2 + 1) (u8l (zs ++ [128] ++ List.replicate j 0 ++ be8 Y i ++ [Y / 2 ^ (8 * q) % 256]))) := hown3); clear hown3 hgrow3 hb3 hv3))
          go_roundw
          case rel =>
            refine ⟨i + 1, m2 + 1, g3, cp3, by have := HI8.out; omega, by have := HM2.out; omega, ?_, rfl, ?_, HBEL.out.trans HB3.out⟩
            · have h7 := HQ7.out
              have : (7 - ((i + 1 : Nat) : Int)) = (q : Int) - 1 := by omega
              rw [this]
            · have h := HOWN3.out
              rwa [HT.out, ← List.append_assoc]
          case measure => simp [intOf]; omega
        · have hi8e : i = 8 := by omega
          subst hi8e
          rw [show 7 - ((8 : Nat) : Int) = -1 from rfl]
          have hm2' : m2 = (padI zs).length := by
            have h1 := HM2.out
            have h2 := HM.out
            have h3 := HJE.out
            rw [pad_len]; omega
          have HLI : Hid (padI zs = zs ++ [128] ++ List.replicate j 0 ++ be8 ((L : Int) * 8) 8) := by
            show _ = _
            rw [HJE.out, HLL.out]; rfl
          have hown := HOWN.out
          rw [← HLI.out] at hown
          have hrow : BRow wr g 0 (padI zs) := by
            refine ⟨fun t ht => ?_, pad_byt zs HZ.out, by rw [← hm2']; omega⟩
            rw [Nat.zero_add, hown.cellAt t (by omega)]
            simp [u8l, List.getElem?_eq_getElem ht]
          have hgb : g < wr.heap.size := World.block_lt_of_cell? wr _ (hrow.cell 0 (by rw [← hm2']; have := HM2.out; omega))
          have hcp : m2 ≤ cp := own_cap hown
          have hst := states_any (padI zs) g 0 cp wr hgb hrow (by rw [← hm2']; omega) (by omega)
          rw [← hm2'] at hst
          obtain ⟨n, hn⟩ : ∃ n, m2 / 64 = n := ⟨_, rfl⟩
          obtain ⟨kk, hkk⟩ : ∃ kk, n = kk + 1 := ⟨n - 1, by have h1 := HM2.out; have h2 := HM.out; have h3 := HJE.out; unfold zg at h3; omega⟩
          have HNP : Hid ((padI zs).length / 64 = n) := by rw [← hm2']; exact hn
          have HNK : Hid (n = kk + 1) := hkk
          have hkb : (n : Int) ≤ 140737488351600 := by omega
          have ek : (n : Int) - 1 = (kk : Int) := by omega
          have lk : (kk : Int) < (n : Int) := by omega
          have wk : wrap64 (kk : Int) = kk := by unfold wrap64; omega
          rw [hn] at hst
          have HST : Hid (Calls Tryd.prog 32 #[.slice (some ⟨g, 0, none⟩) m2 cp] wr fun e w' => (∃ v, e = .returned v ∧ w'.ownsRow wr.heap.size 62 8 v n (flatS (padI zs) n)) ∧ Below wr.heap.size wr w') := hst
          have HQ0 : Hid (wr.heap[w.heap.size]? = some (.cells (u8s (List.replicate 32 0)) 23 (0, 0))) := (HBEL.out.block _ (by omega)).trans HWA0.out
          have HWW : Hid (Below w.heap.size w wr) := HWAB.out.1.trans (HBEL.out.mono (by omega))
          clear hst hown hrow hgb hcp hlt hm2' hkk hn hl u0 hi8 hLb
          clear hm20 hm0
          go_wp2_with fail
          refine HST.out.mono ?_
          rintro e w4 ⟨⟨v4, rfl, hown4⟩, hb4⟩
          obtain ⟨g4, cp4, hv4⟩ := own_form hown4 (by have := HNK.out; omega)
          subst hv4
          have HOWN4 : Hid (w4.ownsRow wr.heap.size 62 8 (.slice (some ⟨g4, 0, none⟩) n cp4) n (flatS (padI zs) n)) := hown4
          have HB4 : Hid (Below wr.heap.size wr w4) := hb4
          clear hown4 hb4 hkb
          have HLD : Hid ((loadVar 62 ⟨g4, kk * 8, none⟩).run Tryd.prog w4 = .ok (.agg (u32s (stB (padI zs) n))) w4) := load_last HOWN4.out HNK.out
          have HSO : Hid ((stB (padI zs) n).length = 8 ∧ W32 (stB (padI zs) n)) := stB_ok _ _
          have HRS : Hid (rsumI zs = bytesI (stB (padI zs) n)) := by show _ = _; unfold rsumI; rw [HNP.out]
          have HBL : Hid ((bytesI (stB (padI zs) n)).length = 32) := by show _ = _; rw [bytes_len, HSO.out.1]
          generalize stB (padI zs) n = T at *
          have hzl : w.heap.size < wr.heap.size := by have := HSZ.out; omega
          have HQ4 : Hid (w4.heap[w.heap.size]? = some (.cells (u8s (List.replicate 32 0)) 23 (0, 0))) := (HB4.out.block _ hzl).trans HQ0.out
          have HZL : Hid (w.heap.size < wr.heap.size) := hzl
          clear hzl
          go_wp2_with (first | (refine wpList_loadV 62 _ rfl rfl ⟨g4, kk * 8, none⟩ rfl _ HLD.out ?_) | (go_at_call 33; refine (rbytes_any T w4 HSO.out.1 HSO.out.2).mono ?_; rintro e w5 ⟨rfl, hb5⟩; (have HB5 : Hid (Below w4.heap.size w4 w5) := hb5); clear hb5) | (refine wpList_store_row rfl 23 _ _ rfl w.heap.size (u8s (bytesI T)) rfl rfl 23 (u8s (List.replicate 32 0)) ((HB5.out.block _ (by have := HB4.out.size; have := HZL.out; omega)).trans HQ4.out) ?h2 ?h3 (one_u8s _) ?_))
          case h2 => rw [size_u8s, HBL.out]; kernel_rfl
          case h3 => simp [size_u8s, HBL.out]
          refine bodyPost_ret (v := .agg (u8s (bytesI T))) (results_cell_row Tryd.results10 _ _ w.heap.size 23 (u8s (bytesI T)) (0, 0) _ rfl (setRow_heap _ _ _ _ _ _ ((HB5.out.block _ (by have := HB4.out.size; have := HZL.out; omega)).trans HQ4.out)) Tryd.underlying23 rfl (by rw [size_u8s, HBL.out]; kernel_rfl)) rfl ⟨by rw [HRS.out], below_setRow ((HWW.out.trans (HB4.out.mono (by have := HWW.out.size; omega))).trans (HB5.out.mono (by have := HB4.out.size; have := HWW.out.size; omega))) (Nat.le_refl _) _⟩
set_option maxRecDepth 20000 in
set_option maxHeartbeats 4000000 in
theorem rsum_none (zs : List Int) (L : Nat) (w : World) (hL : L = zs.length) (hz0' : zs = []) (hz : Byt zs) (hl : (zs.length : Int) ≤ 140737488351232) :
    Calls Tryd.prog 10 #[.slice none L 0] w fun e w' => e = .returned (.agg (u8s (rsumI zs))) ∧ Below w.heap.size w w' := by
  obtain ⟨i0, hi, hz0, hz1, hz2⟩ := info_parts info5
  have HZ : Hid (Byt zs) := hz
  have HLL : Hid (L = zs.length) := hL
  have HL0 : Hid (L = 0) := by rw [hL, hz0']; rfl
  have HZ0 : Hid (zs = []) := hz0'
  clear hz hL hz0'
  go_enter Tryd.func10, Tryd.ntmps10
  go_wp2_with (first | (at_builtin; (refine wpList_append_own_none rfl (.tmp 7) (.tmp 8) 22 rfl (w.heap.size + 1) 5 i0 1 Tryd.underlying22 hi _ 0 [] rfl (World.ownsRow_nil _ _ _ _) (by rw [HL0.out]; rfl) ?_; (have HB2 : Hid (Below (w.heap.size + 1) (w.alloc (.cells (u8s (List.replicate 32 0)) 23)) (w.alloc (.cells (u8s (List.replicate 32 0)) 23))) := Below.refl _ _); (have HOWN2 : Hid ((w.alloc (.cells (u8s (List.replicate 32 0)) 23)).ownsRow (w.heap.size + 1) 5 1 (.slice none 0 0) zs.length (u8l zs)) := by (show World.ownsRow _ _ _ _ _ _ _); (rw [HZ0.out]); exact World.ownsRow_nil _ _ _ _))) | (at_builtin; (refine wpList_append_own _ rfl (.tmp 10) (.tmp 11) 22 rfl (w.heap.size + 1) 5 i0 (.int .u8 0) 1 1 Tryd.underlying22 hi hz0 hz1 hz2 rfl (by decide) _ zs.length (u8l zs) rfl (HOWN2.out.alloc _) ⟨w.heap.size + 1, 0, none⟩ 1 1 (u8l [128]) rfl rfl (by have h := cell_new1 (w.alloc (.cells (u8s (List.replicate 32 0)) 23)) (.int .u8 128) 5; simp only [World.size_alloc] at h; exact h) (u8l_one _) (by unfold maxLen; omega) (by omega) (by simp) ?_; intro v3 w3 hown3 hgrow3 hx3; clear hx3; (rw [u8l_app] at hown3); (obtain ⟨g3, cp3, hv3⟩ := own_form hown3 (by omega)); (have hb3 : Below (w.heap.size + 1) (w.alloc (.cells (u8s (List.replicate 32 0)) 23)) w3 := ((Below.refl _ _).alloc (by simp) _).grown hgrow3 (by simp) (ownBlock_ge HOWN2.out)); (have HB3 : Hid (Below (w.heap.size + 1) (w.alloc (.cells (u8s (List.replicate 32 0)) 23)) w3) := hb3); (rw [hv3] at hown3); (rw [hv3]); (have HOWN3 : Hid (w3.ownsRow (w.heap.size + 1) 5 1 (.slice (some ⟨g3, 0, none⟩) (zs.length + 1) cp3) (zs.length + 1) (u8l (zs ++ [128]))) := hown3); clear hown3 hgrow3 hb3 hv3)))
  obtain ⟨WA, hWA⟩ : ∃ WA, w.alloc (.cells (u8s (List.replicate 32 0)) 23) = WA := ⟨_, rfl⟩
  have HBA : Hid (Below (w.heap.size + 1) WA w3) := by
    show Below _ _ _
    rw [← hWA]
    exact HB2.out.trans HB3.out
  have HWA0 : Hid (WA.heap[w.heap.size]? = some (.cells (u8s (List.replicate 32 0)) 23 (0, 0))) := by
    show _ = _
    rw [← hWA]
    exact Go.heap_alloc_new _ _
  have HWAB : Hid (Below w.heap.size w WA ∧ WA.heap.size = w.heap.size + 1) := by
    refine ⟨?_, by rw [← hWA]; simp⟩
    rw [← hWA]
    exact (Below.refl _ w).alloc (Nat.le_refl _) _
  clear hWA HB2 HB3 HOWN2
  go_loopw [3] (fun v wr => ∃ (j m g cp : Nat), j ≤ zg zs.length ∧ m = zs.length + 1 + j ∧ v = .slice (some ⟨g, 0, none⟩) m cp ∧ wr.ownsRow (w.heap.size + 1) 5 1 (.slice (some ⟨g, 0, none⟩) m cp) m (u8l (zs ++ [128] ++ List.replicate j 0)) ∧ Below (w.heap.size + 1) WA wr) (fun v wr => zs.length + 200 - sliceLen v)
  case atStart => exact ⟨0, _, g3, cp3, by omega, rfl, rfl, by simpa using HOWN3.out, HBA.out⟩
  case round =>
    clear HOWN3 HBA
    obtain ⟨j, m, g, cp, hj, hm, rfl, hown, hbel⟩ := hrel
    have HOWN : Hid (wr.ownsRow (w.heap.size + 1) 5 1 (.slice (some ⟨g, 0, none⟩) m cp) m (u8l (zs ++ [128] ++ List.replicate j 0))) := hown
    have HBEL : Hid (Below (w.heap.size + 1) WA wr) := hbel
    have HM : Hid (m = zs.length + 1 + j) := hm
    have HJ : Hid (j ≤ zg zs.length) := hj
    have hz120 : zg zs.length ≤ 64 := by unfold zg; omega
    have hm0 : (m : Int) < 140737488351500 := by omega
    clear hown hbel
    by_cases hlt : j < zg zs.length
    · have ht : ((m : Int) % 64 != 56) = true := by
        unfold zg at hlt
        simp
        omega
      have HLT : Hid (j < zg zs.length) := hlt
      have hsz : w.heap.size + 1 ≤ wr.heap.size := by have := HBEL.out.size; have := HWAB.out.2; omega
      have HSZ : Hid (w.heap.size + 1 ≤ wr.heap.size) := hsz
      clear hlt hj hm hz120 hsz
      go_wp2_with (at_builtin; (refine wpList_append_own _ rfl (.tmp 17) (.tmp 18) 22 rfl (w.heap.size + 1) 5 i0 (.int .u8 0) 1 1 Tryd.underlying22 hi hz0 hz1 hz2 rfl (by decide) _ m (u8l (zs ++ [128] ++ List.replicate j 0)) rfl (HOWN.out.alloc _) ⟨wr.heap.size, 0, none⟩ 1 1 (u8l [0]) rfl rfl (cell_new1 wr _ _) (u8l_one _) (by unfold maxLen; omega) (by omega) (by have := HSZ.out; simp; omega) ?_; intro v3 w3 hown3 hgrow3 hx3; clear hx3; (rw [u8l_app] at hown3); (obtain ⟨g3, cp3, hv3⟩ := own_form hown3 (by omega)); (have hb3 : Below (w.heap.size + 1) wr w3 := ((Below.refl _ _).alloc HSZ.out _).grown hgrow3 (by have := HSZ.out; simp; omega) (ownBlock_ge HOWN.out)); (have HB3 : Hid (Below (w.heap.size + 1) wr w3) := hb3); (rw [hv3] at hown3); (rw [hv3]); (have HOWN3 : Hid (w3.ownsRow (w.heap.size + 1) 5 1 (.slice (some ⟨g3, 0, none⟩) (m + 1) cp3) (m + 1) (u8l (zs ++ [128] ++ List.replicate j 0 ++ [0]))) := hown3); clear hown3 hgrow3 hb3 hv3))
      go_roundw
      case rel =>
        refine ⟨j + 1, m + 1, g3, cp3, by have := HLT.out; omega, by have := HM.out; omega, rfl, ?_, HBEL.out.trans HB3.out⟩
        have h := HOWN3.out
        rwa [List.append_assoc, ← List.replicate_succ'] at h
      case measure =>
        have h1 := HM.out
        have h2 := HLT.out
        unfold zg at h2
        simp [sliceLen]
        omega
    · have hje : j = zg zs.length := by omega
      have ht : ((m : Int) % 64 != 56) = false := by
        rw [hje] at hm
        unfold zg at hm
        simp
        omega
      have HJE : Hid (j = zg zs.length) := hje
      clear hlt hj hm hje hz120
      have hLb : (L : Int) ≤ 140737488351232 := by rw [HLL.out]; exact hl
      have u0 : IntKind.u64.wrap (L : Int) = L := by unfold IntKind.wrap; simp [IntKind.bits, IntKind.signed]; omega
      go_wp2_with fail
      go_loopw [3, 5] (fun v sh wr => ∃ (i m2 g cp : Nat), i ≤ 8 ∧ m2 = m + i ∧ sh = .int .i64 (7 - (i : Int)) ∧ v = .slice (some ⟨g, 0, none⟩) m2 cp ∧ wr.ownsRow (w.heap.size + 1) 5 1 (.slice (some ⟨g, 0, none⟩) m2 cp) m2 (u8l (zs ++ [128] ++ List.replicate j 0 ++ be8 ((L : Int) * 8) i)) ∧ Below (w.heap.size + 1) WA wr) (fun v sh wr => (intOf sh + 8).toNat)
      case atStart => exact ⟨0, _, g, cp, by omega, rfl, rfl, rfl, by simpa [be8] using HOWN.out, HBEL.out⟩
      case round =>
        clear HOWN HBEL
        obtain ⟨i, m2, g, cp, hi8, hm2, rfl, rfl, hown, hbel⟩ := hrel
        have HOWN : Hid (wr.ownsRow (w.heap.size + 1) 5 1 (.slice (some ⟨g, 0, none⟩) m2 cp) m2 (u8l (zs ++ [128] ++ List.replicate j 0 ++ be8 ((L : Int) * 8) i))) := hown
        have HBEL : Hid (Below (w.heap.size + 1) WA wr) := hbel
        have HM2 : Hid (m2 = m + i) := hm2
        have hm20 : (m2 : Int) < 140737488351600 := by omega
        have hsz : w.heap.size + 1 ≤ wr.heap.size := by have := HBEL.out.size; have := HWAB.out.2; omega
        have HSZ : Hid (w.heap.size + 1 ≤ wr.heap.size) := hsz
        clear hown hbel hm2 hsz
        by_cases hlt : i < 8
        · obtain ⟨q, hq⟩ : ∃ q : Nat, q = 7 - i := ⟨_, rfl⟩
          have e3 : 7 - (i : Int) = (q : Int) := by omega
          have HQ7 : Hid (7 - (i : Int) = (q : Int)) := e3
          have hq7 : (q : Int) ≤ 7 := by omega
          have HT : Hid (be8 ((L : Int) * 8) (i + 1) = be8 ((L : Int) * 8) i ++ [(L : Int) * 8 / 2 ^ (8 * q) % 256]) := by
            rw [show 8 * q = 56 - 8 * i by omega]
            rfl
          rw [e3]
          clear e3
          have x0 : 0 ≤ (L : Int) * 8 := by omega
          have x1 : (L : Int) * 8 < 18446744073709551616 := by omega
          have HI8 : Hid (i < 8) := hlt
          clear hlt hq hl u0 hi8 hLb
          generalize (L : Int) * 8 = Y at x0 x1 HT HOWN ⊢
          go_wp2_with (at_builtin; (refine wpList_append_own _ rfl (.tmp 28) (.tmp 35) 22 rfl (w.heap.size + 1) 5 i0 (.int .u8 0) 1 1 Tryd.underlying22 hi hz0 hz1 hz2 rfl (by decide) _ m2 (u8l (zs ++ [128] ++ List.replicate j 0 ++ be8 Y i)) rfl (HOWN.out.alloc _) ⟨wr.heap.size, 0, none⟩ 1 1 (u8l [Y / 2 ^ (8 * q) % 256]) rfl rfl (cell_new1 wr _ _) (u8l_one _) (by unfold maxLen; omega) (by omega) (by have := HSZ.out; simp; omega) ?_; intro v3 w3 hown3 hgrow3 hx3; clear hx3; (rw [u8l_app] at hown3); (obtain ⟨g3, cp3, hv3⟩ := own_form hown3 (by omega)); (have hb3 : Below (w.heap.size + 1) wr w3 := ((Below.refl _ _).alloc HSZ.out _).grown hgrow3 (by have := HSZ.out; simp; omega) (ownBlock_ge HOWN.out)); (have HB3 : Hid (Below (w.heap.size + 1) wr w3) := hb3); (rw [hv3] at hown3); (rw [hv3]); (have HOWN3 : Hid (w3.ownsRow (w.heap.size + 1) 5 1 (.slice (some ⟨g3, 0, none⟩) (m2 + 1) cp3) (m2 + 1) (u8l (zs ++ [128] ++ List.replicate j 0 ++ be8 Y i ++ [Y / 2 ^ (8 * q) % 256]))) := hown3); clear hown3 hgrow3 hb3 hv3))
          go_roundw
          case rel =>
            refine ⟨i + 1, m2 + 1, g3, cp3, by have := HI8.out; omega, by have := HM2.out; omega, ?_, rfl, ?_, HBEL.out.trans HB3.out⟩
            · have h7 := HQ7.out
              have : (7 - ((i + 1 : Nat) : Int)) = (q : Int) - 1 := by omega
              rw [this]
            · have h := HOWN3.out
              rwa [HT.out, ← List.append_assoc]
          case measure => simp [intOf]; omega
        · have hi8e : i = 8 := by omega
          subst hi8e
          rw [show 7 - ((8 : Nat) : Int) = -1 from rfl]
          have hm2' : m2 = (padI zs).length := by
            have h1 := HM2.out
            have h2 := HM.out
            have h3 := HJE.out
            rw [pad_len]; omega
          have HLI : Hid (padI zs = zs ++ [128] ++ List.replicate j 0 ++ be8 ((L : Int) * 8) 8) := by
            show _ = _
            rw [HJE.out, HLL.out]; rfl
          have hown := HOWN.out
          rw [← HLI.out] at hown
          have hrow : BRow wr g 0 (padI zs) := by
            refine ⟨fun t ht => ?_, pad_byt zs HZ.out, by rw [← hm2']; omega⟩
            rw [Nat.zero_add, hown.cellAt t (by omega)]
            simp [u8l, List.getElem?_eq_getElem ht]
          have hgb : g < wr.heap.size := World.block_lt_of_cell? wr _ (hrow.cell 0 (by rw [← hm2']; have := HM2.out; omega))
          have hcp : m2 ≤ cp := own_cap hown
          have hst := states_any (padI zs) g 0 cp wr hgb hrow (by rw [← hm2']; omega) (by omega)
          rw [← hm2'] at hst
          obtain ⟨n, hn⟩ : ∃ n, m2 / 64 = n := ⟨_, rfl⟩
          obtain ⟨kk, hkk⟩ : ∃ kk, n = kk + 1 := ⟨n - 1, by have h1 := HM2.out; have h2 := HM.out; have h3 := HJE.out; unfold zg at h3; omega⟩
          have HNP : Hid ((padI zs).length / 64 = n) := by rw [← hm2']; exact hn
          have HNK : Hid (n = kk + 1) := hkk
          have hkb : (n : Int) ≤ 140737488351600 := by omega
          have ek : (n : Int) - 1 = (kk : Int) := by omega
          have lk : (kk : Int) < (n : Int) := by omega
          have wk : wrap64 (kk : Int) = kk := by unfold wrap64; omega
          rw [hn] at hst
          have HST : Hid (Calls Tryd.prog 32 #[.slice (some ⟨g, 0, none⟩) m2 cp] wr fun e w' => (∃ v, e = .returned v ∧ w'.ownsRow wr.heap.size 62 8 v n (flatS (padI zs) n)) ∧ Below wr.heap.size wr w') := hst
          have HQ0 : Hid (wr.heap[w.heap.size]? = some (.cells (u8s (List.replicate 32 0)) 23 (0, 0))) := (HBEL.out.block _ (by omega)).trans HWA0.out
          have HWW : Hid (Below w.heap.size w wr) := HWAB.out.1.trans (HBEL.out.mono (by omega))
          clear hst hown hrow hgb hcp hlt hm2' hkk hn hl u0 hi8 hLb
          clear hm20 hm0
          go_wp2_with fail
          refine HST.out.mono ?_
          rintro e w4 ⟨⟨v4, rfl, hown4⟩, hb4⟩
          obtain ⟨g4, cp4, hv4⟩ := own_form hown4 (by have := HNK.out; omega)
          subst hv4
          have HOWN4 : Hid (w4.ownsRow wr.heap.size 62 8 (.slice (some ⟨g4, 0, none⟩) n cp4) n (flatS (padI zs) n)) := hown4
          have HB4 : Hid (Below wr.heap.size wr w4) := hb4
          clear hown4 hb4 hkb
          have HLD : Hid ((loadVar 62 ⟨g4, kk * 8, none⟩).run Tryd.prog w4 = .ok (.agg (u32s (stB (padI zs) n))) w4) := load_last HOWN4.out HNK.out
          have HSO : Hid ((stB (padI zs) n).length = 8 ∧ W32 (stB (padI zs) n)) := stB_ok _ _
          have HRS : Hid (rsumI zs = bytesI (stB (padI zs) n)) := by show _ = _; unfold rsumI; rw [HNP.out]
          have HBL : Hid ((bytesI (stB (padI zs) n)).length = 32) := by show _ = _; rw [bytes_len, HSO.out.1]
          generalize stB (padI zs) n = T at *
          have hzl : w.heap.size < wr.heap.size := by have := HSZ.out; omega
          have HQ4 : Hid (w4.heap[w.heap.size]? = some (.cells (u8s (List.replicate 32 0)) 23 (0, 0))) := (HB4.out.block _ hzl).trans HQ0.out
          have HZL : Hid (w.heap.size < wr.heap.size) := hzl
          clear hzl
          go_wp2_with (first | (refine wpList_loadV 62 _ rfl rfl ⟨g4, kk * 8, none⟩ rfl _ HLD.out ?_) | (go_at_call 33; refine (rbytes_any T w4 HSO.out.1 HSO.out.2).mono ?_; rintro e w5 ⟨rfl, hb5⟩; (have HB5 : Hid (Below w4.heap.size w4 w5) := hb5); clear hb5) | (refine wpList_store_row rfl 23 _ _ rfl w.heap.size (u8s (bytesI T)) rfl rfl 23 (u8s (List.replicate 32 0)) ((HB5.out.block _ (by have := HB4.out.size; have := HZL.out; omega)).trans HQ4.out) ?h2 ?h3 (one_u8s _) ?_))
          case h2 => rw [size_u8s, HBL.out]; kernel_rfl
          case h3 => simp [size_u8s, HBL.out]
          refine bodyPost_ret (v := .agg (u8s (bytesI T))) (results_cell_row Tryd.results10 _ _ w.heap.size 23 (u8s (bytesI T)) (0, 0) _ rfl (setRow_heap _ _ _ _ _ _ ((HB5.out.block _ (by have := HB4.out.size; have := HZL.out; omega)).trans HQ4.out)) Tryd.underlying23 rfl (by rw [size_u8s, HBL.out]; kernel_rfl)) rfl ⟨by rw [HRS.out], below_setRow ((HWW.out.trans (HB4.out.mono (by have := HWW.out.size; omega))).trans (HB5.out.mono (by have := HB4.out.size; have := HWW.out.size; omega))) (Nat.le_refl _) _⟩
end Go.Proofs.YtfdmepblhlifcaaDoor
