import Derived.Test.YtflhgphjkhplmaaML14
import Derived.Test.YtflhgphjkhplmaaRows
import Derived.Test.YtflhgphjkhplmaaML02
import Derived.Deep.Slices
import Derived.OpenShut
import Derived.ProofKit
import Derived.Test.YtflhgphjkhplmaaML10
import Derived.StillTailTactics
import Derived.BigQuiet
/- The model's Crash, walked. -/
namespace Go.Proofs.Ytflhgphjkhplmaa.D
open Go.RowKit
set_option linter.unusedVariables false
set_option linter.unusedSimpArgs false

variable {w w' w2 wx : World} {R : Nat} {sy : Int} {G P : Nat → Prop} {dl : List Fd} {lv : Value} {m : List Mt} {ks : List Kn} {kv : Value}
set_option maxRecDepth 20000 in
set_option maxHeartbeats 8000000 in
theorem rcrash_all (h : MR w R G sy dl) (hk : KeepsAt P w kv ks) (hP : ∀ q, P q → q < w.heap.size ∧ ¬ G q) (hl : ∀ x ∈ dl, x.b.length ≤ 2000000 ∧ x.ws.length ≤ 2000000 ∧ WsOk x.b.length x.ws) (hdl : dl.length ≤ 1000000) (hkl : (ks.length : Int) ≤ 140737488351232) :
    Calls Try.prog 54 #[.pointer (some ⟨R, 0, none⟩), kv] w fun e w' => e = .returned (.int .i64 (wrE dl [] ks)) ∧ Hid (∃ G', MR w' R G' sy (crA dl ks) ∧ Fr G G' w w') := by
  have HH : Hid (MR w R G sy dl ∧ (∀ q, P q → q < w.heap.size ∧ ¬ G q) ∧ ∀ x ∈ dl, x.b.length ≤ 2000000 ∧ x.ws.length ≤ 2000000 ∧ WsOk x.b.length x.ws) := ⟨h, hP, hl⟩
  have HKA : Hid (KeepsAt P w kv ks) := hk
  obtain ⟨ka, kc, rfl, hkc, -⟩ := hk
  have HWR : Hid (Calls Try.prog 79 #[.pointer (some ⟨R, 0, none⟩), .slice ka ks.length kc] w fun e w' => e = .returned (.int .i64 (wrE dl [] ks)) ∧ DwQ w w') := by
    obtain ⟨lv, m, h1, rfl, -⟩ := h
    rw [xsM_len] at hdl
    exact rwrong_any h1 hdl (fun t ht => (hl t.x (List.mem_map.2 ⟨t, ht, rfl⟩)).2.1) HKA.out hkl
  obtain ⟨n, hn⟩ : ∃ n, ks.length = n := ⟨_, rfl⟩
  obtain ⟨M, hM⟩ : ∃ M, dl.length = M := ⟨_, rfl⟩
  have HN : Hid (ks.length = n ∧ dl.length = M) := ⟨hn, hM⟩
  rw [hn] at hkl hkc HKA HWR ⊢
  rw [hM] at hdl
  have hkci : (n : Int) ≤ (kc : Int) := by omega
  have hMi : (M : Int) ≤ 1000000 := by omega
  clear h hP hl hn hM hkc
  by_cases hz : wrE dl [] ks = 0
  · have HZ : Hid (wrE dl [] ks = 0 ∧ crA dl ks = crD ks dl) := ⟨hz, by unfold crA; rw [if_pos hz]⟩
    rw [hz] at HWR ⊢
    rw [HZ.out.2]
    clear hz
    go_enter Try.func54, Try.ntmps54
    go_upto_region 4 with (go_at_call 79; refine HWR.out.mono ?_; rintro e w1 ⟨rfl, hd1⟩; (have HD1 : Hid (DwQ w w1) := hd1); clear hd1)
    have HRO : Hid (RO w w1 G R sy dl ks 0) := by
      obtain ⟨lv, m, h1, h2, h3⟩ := HH.out.1
      refine ⟨lv, m, h1.at' fun q _ => HD1.out.heap q, ?_, (Fr.newer HD1.out.below).sub fun q hq => (h3 q).2 hq⟩
      rw [h2]
      rfl
    go_wp2_with fail
    go_loopw [6, 7, 8] (fun a _ _ wx => ∃ j : Nat, j ≤ M ∧ a = .int .i64 (j : Int) ∧ Hid (RO w wx G R sy dl ks j)) (fun a _ _ wx => M - (intOf a).toNat)
    case atStart => exact ⟨0, Nat.zero_le _, rfl, HRO⟩
    case round =>
      obtain ⟨j, hj, rfl, HI⟩ := hrel
      obtain ⟨lv, m, ms, mx, mf⟩ := HI.out.ex
      have hml : m.length = M := by rw [RO.len (by have := HN.out; omega) mx]; exact HN.out.2
      obtain ⟨la, lc, hlv⟩ := own_slice ms.row
      have c0 := ms.cells.1
      rw [hlv, hml] at c0
      by_cases hlt : j < M
      · have hlt' : (j : Int) < (M : Int) := by omega
        have HJ : Hid (j < M) := hlt
        obtain ⟨x, hx⟩ : ∃ x, dl[j]? = some x := ⟨_, List.getElem?_eq_getElem (by have := HN.out; omega)⟩
        obtain ⟨t, ht, htx⟩ := RO.at' hx mx
        subst htx
        have HM : Hid (MS wr R lv m sy ∧ xsM m = crD ks (dl.take j) ++ dl.drop j ∧ Fr G (GM R lv m) w wr ∧ m[j]? = some t ∧ dl[j]? = some t.x) := ⟨ms, mx, mf, ht, hx⟩
        have HKW : Hid (∀ V, DwQ wr V → KeepsAt P V (.slice ka n kc) ks) := fun V hV => HKA.out.at' fun q hq => (hV.heap q).trans (mf.block q (HH.out.2.1 q hq).1 (HH.out.2.1 q hq).2)
        have HLT : Hid (∀ q, P q → q < wr.heap.size) := fun q hq => by have h1 := (HH.out.2.1 q hq).1; have h2 := mf.size; omega
        have HSW : Hid (∀ V, DwQ wr V → MS V R lv m sy) := fun V hV => ms.at' fun q _ => hV.heap q
        have HLV : Hid (m.length = M) := hml
        clear ms mx mf hx ht hlt hj hml HI hlv
        go_upto_region 9 with (fail)
        clear c0
        obtain ⟨w1', hw1'⟩ : ∃ w1', wr = w1' := ⟨_, rfl⟩
        rw [hw1'] at HM HKW HLT HSW ⊢
        clear hw1'
        go_wp2_with fail
        go_loopw [7, 8] (fun v a wx => ∃ i : Nat, i ≤ n ∧ a = .int .i64 (i : Int) ∧ (∃ na nl nc, v = .slice na nl nc) ∧ Hid (DwQ w1' wx ∧ NumsP P wx v (kNs t.x.nm (ks.take i)) ∧ ((kNs t.x.nm (ks.take i)).length : Int) ≤ 140737488351232)) (fun v a wx => n - (intOf a).toNat)
        case atStart => exact ⟨0, Nat.zero_le _, rfl, ⟨none, 0, 0, rfl⟩, DwQ.refl _, ⟨none, 0, rfl, Nat.le_refl _, fun i x hi => by simp [kNs, kIx] at hi⟩, by simp [kNs, kIx]⟩
        case round =>
          obtain ⟨i, hi, rfl, ⟨va, vl, vc, rfl⟩, HV⟩ := hrel
          by_cases hli : i < n
          · have hli' : (i : Int) < (n : Int) := by omega
            obtain ⟨k, hki⟩ : ∃ k, ks[i]? = some k := ⟨_, List.getElem?_eq_getElem (by have := HN.out; omega)⟩
            obtain ⟨ka', kc', hkv, -, hcl⟩ := HKW.out wr HV.out.1
            obtain ⟨hna, -, hnc⟩ := Value.slice.inj hkv
            subst hna
            subst hnc
            obtain ⟨nl, kb, ko, nv, hkb, -, k0, k1, knv⟩ := hcl i k hki
            subst hkb
            have HKV : Hid (NumsP P wr nv k.2 ∧ (k.2.length : Int) ≤ 140737488351232) := ⟨knv, nl⟩
            obtain ⟨na, nc, rfl, -⟩ := knv
            obtain ⟨g, cap, hlv, q1, q2, q3, e0, -, -, -, -⟩ := (HSW.out wr HV.out.1).openK HM.out.2.2.2.1
            rw [HLV.out] at q1 q2 q3
            have HKN : Hid (kNs t.x.nm (ks.take (i + 1)) = if t.x.nm = k.1 then k.2 else kNs t.x.nm (ks.take i)) := kNs_step (wrE_zero HZ.out.1).2 hki
            have HII : Hid (i < n) := hli
            have HQD : Hid (∀ m, DwQ w1' (wr.drewN m)) := fun m => HV.out.1.drewN m
            have hdw : ∀ m, DwQ wr (wr.drewN m) := fun m => ⟨m, rfl⟩
            have HNX1 : Hid (∀ m, NumsP P (wr.drewN m) (.slice na k.2.length nc) k.2 ∧ NumsP P (wr.drewN m) (.slice va vl vc) (kNs t.x.nm (ks.take i))) := fun m => ⟨HKV.out.1, HV.out.2.1⟩
            clear hkv hcl nl hki hli hi hdw
            by_cases hq : t.x.nm = k.1
            · have hb : ((tx k.1).toList == (tx t.x.nm).toList) = true := by rw [tx_list, tx_list]; simpa using hq.symm
              have HKQ : Hid (kNs t.x.nm (ks.take (i + 1)) = k.2) := by show _ = _; rw [HKN.out, if_pos hq]
              clear hq
              go_upto_region 11 with (fail)
              go_quiet (fail)
              obtain ⟨W3, hW3⟩ : ∃ W3, wr.drewN nq = W3 := ⟨_, rfl⟩
              have k1' : W3.cell? ⟨kb, ko + i * 2 + 1, none⟩ = some (.slice na k.2.length nc) := by rw [← hW3]; exact k1
              have HREL : Hid (DwQ w1' W3 ∧ NumsP P W3 (.slice na k.2.length nc) (kNs t.x.nm (ks.take (i + 1))) ∧ ((kNs t.x.nm (ks.take (i + 1))).length : Int) ≤ 140737488351232) := by
                show _ ∧ _ ∧ _
                rw [HKQ.out, ← hW3]
                exact ⟨HQD.out _, (HNX1.out _).1, HKV.out.2⟩
              rw [hW3]
              clear hW3 k0 k1 q3 e0
              go_wp2_with fail
              go_roundw
              case rel => exact ⟨i + 1, HII.out, by go_num, ⟨_, _, _, rfl⟩, HREL.out⟩
              case measure => have := HII.out; simp [intOf]; omega
            · have hb : ((tx k.1).toList == (tx t.x.nm).toList) = false := by rw [tx_list, tx_list]; simpa using fun e => hq e.symm
              have HKQ : Hid (kNs t.x.nm (ks.take (i + 1)) = kNs t.x.nm (ks.take i)) := by show _ = _; rw [HKN.out, if_neg hq]
              clear hq
              go_upto_region 11 with (fail)
              go_quiet (fail)
              go_wp2_with fail
              go_roundw
              case rel =>
                refine ⟨i + 1, HII.out, by go_num, ⟨_, _, _, rfl⟩, ?_⟩
                show _ ∧ _ ∧ _
                rw [HKQ.out]
                exact ⟨HQD.out _, (HNX1.out _).2, HV.out.2.2⟩
              case measure => have := HII.out; simp [intOf]; omega
          · obtain rfl : i = n := by omega
            have hgi : ¬ ((i : Int) < (i : Int)) := by omega
            have HVA : Hid (NumsP P wr (.slice va vl vc) (kNs t.x.nm ks) ∧ ((kNs t.x.nm ks).length : Int) ≤ 140737488351232 ∧ ∀ x ∈ kNs t.x.nm ks, 0 ≤ x) := by
              have h1 := HV.out
              have h2 := kNs_all (s := t.x.nm) HZ.out.1 i
              rw [List.take_of_length_le (by have := HN.out; omega)] at h1 h2
              exact ⟨h1.2.1, h1.2.2, h2⟩
            have HD1 : Hid (DwQ w1' wr) := HV.out.1
            clear hli hi HV
            go_upto_region 13 with (fail)
            have hms : MS wr R lv m sy := HSW.out wr HD1.out
            obtain ⟨g, cap, hlv, q1, q2, q3, e0, e1, e2, e3, e4⟩ := hms.openK HM.out.2.2.2.1
            rw [HLV.out] at q1 q2 q3
            have hlt3 := HH.out.2.2 t.x (List.mem_of_getElem? HM.out.2.2.2.2)
            have HCR : Hid (∀ V, DwQ wr V → Calls Try.prog 80 #[.agg #[.string (tx t.x.nm), .slice t.da t.x.b.length t.dc, .int .i64 (safeN t.x.b t.x.ws), .slice t.ba t.x.ws.length t.bc], .slice va vl vc] V fun e w' => ∃ a c, e = .returned (.agg #[.string (tx t.x.nm), .slice a (crB t.x.b t.x.ws (kNs t.x.nm ks)).length c, .int .i64 ((crB t.x.b t.x.ws (kNs t.x.nm ks)).length : Int), .slice none 0 0]) ∧ Hid (w'.ownsRow V.heap.size 5 1 (.slice a (crB t.x.b t.x.ws (kNs t.x.nm ks)).length c) (crB t.x.b t.x.ws (kNs t.x.nm ks)).length (u8l (crB t.x.b t.x.ws (kNs t.x.nm ks))) ∧ Below V.heap.size V w')) := fun V hV =>
              rcrash_any ((hms.ml t (List.mem_of_getElem? HM.out.2.2.2.1)).at' fun q _ => hV.heap q) hlt3.1 hlt3.2.1 hlt3.2.2 ((HVA.out.1.at' fun q _ => hV.heap q).nums fun q hq => by obtain ⟨k, rfl⟩ := hV; obtain ⟨k2, rfl⟩ := HD1.out; exact HLT.out q hq) HVA.out.2.1 HVA.out.2.2
            have HKEY : Hid (∀ (V W : World) (a : Option Addr) (c : Nat), DwQ wr V → W.ownsRow V.heap.size 5 1 (.slice a (crB t.x.b t.x.ws (kNs t.x.nm ks)).length c) (crB t.x.b t.x.ws (kNs t.x.nm ks)).length (u8l (crB t.x.b t.x.ws (kNs t.x.nm ks))) → Below V.heap.size V W → (W.cell? ⟨R, 0, none⟩ = some (.slice (some ⟨g, 0, none⟩) M cap) ∧ W.cell? ⟨g, j * 4, none⟩ = some (.string (tx t.x.nm)) ∧ W.cell? ⟨g, j * 4 + 1, none⟩ = some (.slice t.da t.x.b.length t.dc) ∧ W.cell? ⟨g, j * 4 + 2, none⟩ = some (.int .i64 (safeN t.x.b t.x.ws)) ∧ W.cell? ⟨g, j * 4 + 3, none⟩ = some (.slice t.ba t.x.ws.length t.bc) ∧ ∀ i, W.frozen? ⟨g, i, none⟩ = false) ∧ ∀ d, RO w ((W.setCells g (j * 4) [.string (tx t.x.nm), .slice a (crB t.x.b t.x.ws (kNs t.x.nm ks)).length c, .int .i64 ((crB t.x.b t.x.ws (kNs t.x.nm ks)).length : Int), .slice none 0 0]).drewN d) G R sy dl ks (j + 1)) := fun V W a c hV ho hb => by
              have hbw : Below wr.heap.size wr W := by
                obtain ⟨k, rfl⟩ := hV
                exact ⟨hb.os, hb.tape, hb.output, hb.size, hb.block⟩
              have hVs : V.heap.size = wr.heap.size := by obtain ⟨k, rfl⟩ := hV; rfl
              rw [hVs] at ho
              have hW := hms.newer hbw
              obtain ⟨g', cap', e, -, -, p3, p4⟩ := hW.openK HM.out.2.2.2.1
              rw [hlv] at e
              obtain ⟨e5, -, e6⟩ := Value.slice.inj e
              injection e5 with e5
              injection e5 with e5
              subst e5
              subst e6
              rw [HLV.out] at p3
              refine ⟨⟨p3, p4⟩, fun d => ?_⟩
              have hlv2 := hlv
              have hms2 := hms
              rw [hlv2] at hms2
              obtain ⟨r1, r2⟩ := hms2.turnK (t' := crT t (kNs t.x.nm ks) a c) (w2 := W) HM.out.2.2.2.1 ⟨own_low ho (Nat.zero_le _), World.ownsRow_nil _ _ _ _⟩ (fun q hq => by
                rcases hq with hq | hq
                · exact .inr (ho.lt q hq).1
                · cases hq) (fun q hq _ => hbw.block q hq) ⟨hbw.os, hbw.tape, hbw.output, hbw.size⟩
              have hfr : Fr G (GM R (.slice (some ⟨g, 0, none⟩) m.length cap) m) w wr := by
                have h1 := HM.out.2.2.1
                rw [hlv2] at h1
                exact h1.trans' (Fr.newer HD1.out.below)
              exact ⟨_, _, r1.at' fun _ _ => rfl, RO.next HM.out.2.2.2.2 HM.out.2.1 rfl HM.out.2.2.2.1, (hfr.trans' r2).trans' ⟨rfl, rfl, rfl, Nat.le_refl _, fun _ _ _ => rfl, fun q hq => .inl hq⟩⟩
            generalize crB t.x.b t.x.ws (kNs t.x.nm ks) = cb at *
            obtain ⟨cl, hcl⟩ : ∃ cl, cb.length = cl := ⟨_, rfl⟩
            rw [hcl] at HCR HKEY
            have HDR : Hid (DwQ wr wr.drew) := ⟨1, rfl⟩
            clear hms hlt3 hlv hcl e4
            go_region_with (go_at_call 80; refine (HCR.out _ HDR.out).mono ?_; rintro e w5 ⟨a5, c5, rfl, H5⟩; (obtain ⟨⟨p0, p1, p2, p3, p4, pf⟩, hro⟩ := HKEY.out _ w5 a5 c5 HDR.out H5.out.1 H5.out.2); (have HRO : Hid (∀ d, RO w ((w5.setCells g (j * 4) [.string (tx t.x.nm), .slice a5 cl c5, .int .i64 (cl : Int), .slice none 0 0]).drewN d) G R sy dl ks (j + 1)) := hro); (have f0 := pf (j * 4)); (have f1 := pf (j * 4 + 1)); (have f2 := pf (j * 4 + 2)); (have f3 := pf (j * 4 + 3)); clear hro pf)
            all_goals
              go_wp2_with fail
              go_roundw
              case rel => exact ⟨j + 1, HJ.out, by go_num, HRO.out 0⟩
              case measure => have := HJ.out; simp [intOf]; omega
      · obtain rfl : j = M := by omega
        have hge : ¬ ((j : Int) < (j : Int)) := by omega
        have HFIN : Hid (∃ G', MR wr R G' sy (crD ks dl) ∧ Fr G G' w wr) := by
          rw [List.take_of_length_le (by have := HN.out; omega), List.drop_of_length_le (by have := HN.out; omega), List.append_nil] at mx
          rw [← mx]
          exact ⟨_, ms.mr, mf⟩
        clear hlt hj ms mx mf hlv hml
        go_wp2_with fail
        go_ret
        exact ⟨rfl, HFIN.out⟩
  · have hzb : (wrE dl [] ks == 0) = false := by simpa using hz
    have HZ : Hid (crA dl ks = dl) := by show _ = _; unfold crA; rw [if_neg hz]
    rw [HZ.out]
    generalize wrE dl [] ks = z at *
    go_enter Try.func54, Try.ntmps54
    go_wp2_with (go_at_call 79; refine HWR.out.mono ?_; rintro e w1 ⟨rfl, hd1⟩; (have HD1 : Hid (DwQ w w1) := hd1); clear hd1)
    go_ret
    exact ⟨rfl, G, HH.out.1.newer HD1.out.below, Fr.newer HD1.out.below⟩
end Go.Proofs.Ytflhgphjkhplmaa.D

/- The model's lesser calls: Rename refused; bytes spoilt; conversions. -/
namespace Go.Proofs.Ytflhgphjkhplmaa.D
open Go.RowKit W
set_option linter.unusedVariables false
set_option linter.unusedSimpArgs false

variable {w w' w2 : World} {R : Nat} {sy : Int} {G : Nat → Prop} {dl : List Fd} {s s' : List UInt8} {x : Fd}
set_option maxRecDepth 20000 in
theorem rrename_no (h : MR w R G sy dl) (hl : dl.length ≤ 1000000) (hs : lkF s dl = none) (v : Value) : Calls Try.prog 50 #[.pointer (some ⟨R, 0, none⟩), .string (tx s), v] w fun e w' => e = .returned (.int .i64 5) ∧ w' = w := by
  obtain ⟨lv, m, h1, rfl, -⟩ := h
  rw [xsM_len] at hl
  have HF : Hid (Calls Try.prog 76 #[.pointer (some ⟨R, 0, none⟩), .string (tx s)] w fun e w' => e = .returned (.int .i64 (-1)) ∧ w' = w) := by
    have := h1.find (by omega) s
    rw [ixM_no hs] at this
    exact this
  clear h1 hl hs
  go_enter Try.func50, Try.ntmps50
  go_wp2_with (go_at_call 76; refine HF.out.mono ?_; rintro e w1 ⟨rfl, hw1⟩; rw [hw1]; clear hw1)
  go_ret
  exact ⟨rfl, rfl⟩
set_option maxRecDepth 20000 in
theorem rrename_bad (h : MR w R G sy dl) (hl : dl.length ≤ 1000000) (hs : lkF s dl = some x) (hsl : (s'.length : Int) ≤ 140737488351232) (hn : nameB s' = false) : Calls Try.prog 50 #[.pointer (some ⟨R, 0, none⟩), .string (tx s), .string (tx s')] w fun e w' => e = .returned (.int .i64 40) ∧ w' = w := by
  obtain ⟨lv, m, h1, rfl, hG⟩ := h
  rw [xsM_len] at hl
  obtain ⟨k, t, k1, k2, -⟩ := ixM_lk hs
  have HF : Hid (Calls Try.prog 76 #[.pointer (some ⟨R, 0, none⟩), .string (tx s)] w fun e w' => e = .returned (.int .i64 (k : Int)) ∧ w' = w) := by
    have := h1.find (by omega) s
    rw [k1] at this
    exact this
  have HNM : Hid (Calls Try.prog 71 #[.string (tx s')] w fun e w' => e = .returned (.bool false) ∧ w' = w) := by
    have := rname_any s' w hsl
    rw [hn] at this
    exact this
  have hk0 : ¬ (k : Int) < 0 := by omega
  clear h1 hl hs hn hsl k1 k2 hG
  go_enter Try.func50, Try.ntmps50
  go_wp2_with (first | (go_at_call 76; refine HF.out.mono ?_; rintro e w1 ⟨rfl, hw1⟩; rw [hw1]; clear hw1) | (go_at_call 71; refine HNM.out.mono ?_; rintro e w1 ⟨rfl, hw1⟩; rw [hw1]; clear hw1))
  go_ret
  exact ⟨rfl, rfl⟩
theorem Gr.end_ {v v' : Value} {w w' : World} (h : Gr v w v' w') : Gr v w (.slice none 0 0) w' := ⟨h.os, h.tape, h.output, h.size, h.block, fun g hg => by cases hg⟩
theorem gr_set {v v' : Value} {w w' : World} (h : Gr v w v' w') {g k : Nat} {x : Value} (hg : v'.ownBlock = some g) : Gr v w v' (w'.setCell ⟨g, k, none⟩ x) := by
  refine ⟨h.os, h.tape, h.output, by simpa using h.size, fun q hq hv => ?_, h.near⟩
  have hne : q ≠ g := by
    rintro rfl
    rcases h.near q hg with e | e
    · exact hv e
    · omega
  rw [Below.heap_setCell _ _ _ _ hne]
  exact h.block q hq hv

set_option maxRecDepth 20000 in
set_option maxHeartbeats 4000000 in
theorem spoil_some (base g n cp : Nat) (zs : List Int) (w : World) (hn : n = zs.length) (h : w.ownsRow base 5 1 (.slice (some ⟨g, 0, none⟩) n cp) n (u8l zs)) (hz : Byt zs) (hl : (zs.length : Int) ≤ 9000000) :
    Calls Try.prog 14 #[.slice (some ⟨g, 0, none⟩) n cp] w fun e w' => (∃ v, e = .returned v) ∧ Gr (.slice (some ⟨g, 0, none⟩) n cp) w (.slice none 0 0) w' := by
  have HO : Hid (w.ownsRow base 5 1 (.slice (some ⟨g, 0, none⟩) n cp) n (u8l zs)) := h
  have HZ : Hid (Byt zs) := hz
  have HN : Hid (n = zs.length) := hn
  have hcap : (n : Int) ≤ (cp : Int) := by have := own_cap h; omega
  have hn5 : (n : Int) ≤ 10000000 := by omega
  clear h hz hn hl
  go_enter Try.func14, Try.ntmps14
  go_wp2_with fail
  go_loopw [2] (fun x wr => ∃ (k : Nat) (xs : List Value), k ≤ n ∧ x = .int .i64 k ∧ wr.ownsRow base 5 1 (.slice (some ⟨g, 0, none⟩) n cp) n xs ∧ (∀ j, k ≤ j → j < n → xs[j]? = some (.int .u8 (zs.getD j 0))) ∧ Gr (.slice (some ⟨g, 0, none⟩) n cp) w (.slice (some ⟨g, 0, none⟩) n cp) wr) (fun x wr => n - (intOf x).toNat)
  case atStart =>
    refine ⟨0, u8l zs, by omega, rfl, HO.out, fun j _ hj => ?_, Gr.refl _ _⟩
    have hn := HN.out
    simp [u8l, List.getD_eq_getElem?_getD, List.getElem?_eq_getElem (show j < zs.length by omega)]
  case round =>
    obtain ⟨k, xs, hk, rfl, hown, hrest, hbx⟩ := hrel
    have HOW : Hid (wr.ownsRow base 5 1 (.slice (some ⟨g, 0, none⟩) n cp) n xs) := hown
    have HRE : Hid (∀ j, k ≤ j → j < n → xs[j]? = some (.int .u8 (zs.getD j 0))) := hrest
    have HBX : Hid (Gr (.slice (some ⟨g, 0, none⟩) n cp) w (.slice (some ⟨g, 0, none⟩) n cp) wr) := hbx
    clear hown hrest hbx
    by_cases hlt : k < n
    · have hc : wr.cell? ⟨g, k, none⟩ = some (.int .u8 (zs.getD k 0)) := by
        have h := HOW.out.cells (g := g) rfl k _ (HRE.out k (Nat.le_refl _) hlt)
        rwa [Addr.add_mid, Nat.zero_add] at h
      have hf : wr.frozen? ⟨g, k, none⟩ = false := HOW.out.frozenAt k
      have hzb := HZ.out (zs.getD k 0) (by have := HN.out; rw [List.getD_eq_getElem?_getD, List.getElem?_eq_getElem (by omega)]; exact List.getElem_mem _)
      generalize hz : zs.getD k 0 = z at *
      clear hz
      go_wp2_with fail
      go_roundw
      case rel =>
        refine ⟨k + 1, xs.set k _, by omega, by go_num, (HOW.out.stored k _).1, fun j h1 h2 => ?_, gr_set HBX.out rfl⟩
        rw [List.getElem?_set_ne (by omega)]; exact HRE.out j (by omega) h2
      case measure => simp [intOf]; omega
    · have HBW : Hid (base ≤ wr.heap.size ∧ n ≤ 100000000) := ⟨by have h1 := (HOW.out.lt g rfl); omega, by omega⟩
      go_wp2_with (at_builtin; (refine wpList_append_one rfl (.tmp 17) (.tmp 18) rfl base (.slice (some ⟨g, 0, none⟩) n cp) n xs rfl wr HOW.out _ rfl rfl HBW.out.2 HBW.out.1 ?_; intro g3 cp3 w3 hown3 hgrow3; (have c3 : w3.cell? ⟨g3, n, none⟩ = some (.int .u8 99) := (by rw [hown3.cellAt n (by omega)]; (have hx := HOW.out.1); rw [List.getElem?_append_right (by omega)]; rw [show n - xs.length = 0 by omega]; rfl)); (have f3 := hown3.frozenAt n); (have q3 := own_cap hown3); (have q4 : (n : Int) + 1 ≤ (cp3 : Int) := by omega); (have HG3 : Hid (Gr (.slice (some ⟨g, 0, none⟩) n cp) w (.slice (some ⟨g3, 0, none⟩) (n + 1) cp3) w3) := HBX.out.trans hgrow3); clear hown3 hgrow3 q3))
      go_end0
      exact ⟨⟨_, rfl⟩, Gr.end_ (gr_set HG3.out rfl)⟩

set_option maxRecDepth 20000 in
set_option maxHeartbeats 4000000 in
theorem spoil_none (w : World) : Calls Try.prog 14 #[.slice none 0 0] w fun e w' => (∃ v, e = .returned v) ∧ Gr (.slice none 0 0) w (.slice none 0 0) w' := by
  go_enter Try.func14, Try.ntmps14
  go_wp2_with fail
  go_loopw [2] (fun x wr => x = .int .i64 0 ∧ wr = w) (fun x wr => 0)
  case atStart => exact ⟨rfl, rfl⟩
  case round =>
    obtain ⟨rfl, rfl⟩ := hrel
    go_wp2_with (at_builtin; (refine wpList_append_one rfl (.tmp 17) (.tmp 18) rfl wr.heap.size (.slice none 0 0) 0 [] rfl wr (World.ownsRow_nil _ _ _ _) _ rfl rfl (by decide) (Nat.le_refl _) ?_; intro g3 cp3 w3 hown3 hgrow3; (have c3 : w3.cell? ⟨g3, 0, none⟩ = some (.int .u8 99) := (by rw [hown3.cellAt 0 (by omega)]; rfl)); (have f3 := hown3.frozenAt 0); (have q3 := own_cap hown3); (have q4 : (1 : Int) ≤ (cp3 : Int) := by omega); (have HG3 : Hid (Gr (.slice none 0 0) wr (.slice (some ⟨g3, 0, none⟩) (0 + 1) cp3) w3) := hgrow3); clear hown3 hgrow3 q3))
    go_end0
    exact ⟨⟨_, rfl⟩, Gr.end_ (gr_set HG3.out rfl)⟩
theorem spoil_own {w : World} {base : Nat} {v : Value} {zs : List Int} (h : w.ownsRow base 5 1 v zs.length (u8l zs)) (hz : Byt zs) (hl : (zs.length : Int) ≤ 9000000) :
    Calls Try.prog 14 #[v] w fun e w' => (∃ u, e = .returned u) ∧ Gr v w (.slice none 0 0) w' := by
  rcases h.2 with ⟨rfl, _⟩ | ⟨g, cap, cur, rfl, _⟩
  · exact spoil_none w
  · exact spoil_some base g zs.length cap zs w rfl h hz hl

/-- Bytes that were lent: of room behind them, a mark there. -/
def LentR (W : World) (base : Nat) (v : Value) (bs : List Int) : Prop := ∃ g cap, v = .slice (some ⟨g, 0, none⟩) bs.length cap ∧ W.ownsRow base 5 1 (.slice (some ⟨g, 0, none⟩) (bs.length + 1) cap) (bs.length + 1) (u8l bs ++ [.int .u8 77])
set_option maxRecDepth 20000 in
set_option maxHeartbeats 4000000 in
theorem lent_any {sv : Value} {bs : List Int} (h : Src w sv bs) (hl : bs.length ≤ 2000000) : Calls Try.prog 7 #[sv] w fun e w' => ∃ v, e = .returned v ∧ LentR w' w.heap.size v bs ∧ Below w.heap.size w w' := by
  obtain ⟨sa, sc, rfl⟩ := h.slice
  have HS : Hid (Src w (.slice sa bs.length sc) bs) := h
  obtain ⟨n, hn⟩ : ∃ n, bs.length = n := ⟨_, rfl⟩
  have HL : Hid (n ≤ 2000000 ∧ bs.length = n) := ⟨by omega, hn⟩
  rw [hn] at HS ⊢
  have hni : (n : Int) ≤ 2000000 := by omega
  clear h hl hn
  go_enter Try.func7, Try.ntmps7
  go_wp2_with (at_builtin; first | (refine wpList_append_src rfl (.tmp 4) (.tmp 5) rfl w.heap.size (.slice none 0 0) 0 [] rfl (World.ownsRow_nil _ _ _ _) (.slice sa n sc) bs rfl HS.out (by have := HL.out; omega) (Nat.le_refl _) ?_; intro v1 w1 ho1 hg1; (have H1 : Hid (w1.ownsRow w.heap.size 5 1 v1 n (u8l bs) ∧ Below w.heap.size w w1) := ⟨by rw [show n = 0 + bs.length by have := HL.out; omega]; simpa using ho1, hg1.os, hg1.tape, hg1.output, hg1.size, fun q hq => hg1.block q hq (by simp [Value.ownBlock])⟩); clear ho1 hg1; (obtain ⟨a1, c1, hv1⟩ := own_slice H1.out.1); subst hv1) | (refine wpList_append_one rfl (.tmp 7) (.tmp 8) rfl w.heap.size (.slice a1 n c1) n (u8l bs) rfl w1 H1.out.1 _ rfl rfl (by have := HL.out; omega) H1.out.2.size ?_; intro g3 cp3 w3 hown3 hgrow3; (have q3 := own_cap hown3); (have q4 : (n : Int) + 1 ≤ (cp3 : Int) := by omega); (have H3 : Hid (w3.ownsRow w.heap.size 5 1 (.slice (some ⟨g3, 0, none⟩) (n + 1) cp3) (n + 1) (u8l bs ++ [.int .u8 77]) ∧ Below w.heap.size w w3) := ⟨hown3, H1.out.2.trans (hgrow3.below H1.out.2.size fun q hq => (H1.out.1.lt q hq).1)⟩); clear hown3 hgrow3 q3))
  go_ret
  exact ⟨.slice (some ⟨g3, 0, none⟩) n cp3, rfl, ⟨g3, cp3, by rw [HL.out.2], by rw [HL.out.2]; exact H3.out.1⟩, H3.out.2⟩
end Go.Proofs.Ytflhgphjkhplmaa.D

/- What each call does to the files: pure, with what it answers; what holds of the files between calls. -/
namespace Go.Proofs.Ytflhgphjkhplmaa.D
open Go.RowKit
set_option linter.unusedVariables false
set_option linter.unusedSimpArgs false

variable {w w' : World} {D R : Nat} {sy : Int} {F G : Nat → Prop} {dl : List Fd} {s s' : List UInt8} {x : Fd} {bs : List Int}
structure Inv (k : Nat) (sy : Int) (dl : List Fd) : Prop where
  len : dl.length ≤ 64
  each : ∀ x ∈ dl, Byt x.b ∧ x.b.length ≤ 1048576 ∧ x.ws.length ≤ k ∧ WsOk x.b.length x.ws
  lo : 0 ≤ sy
  hi : sy ≤ k
def apE (s : List UInt8) (bs : List Int) (dl : List Fd) : Int := if nameB s = false then 40 else match lkF s dl with
  | some x => if (bs.length : Int) ≤ 1048576 - x.b.length then 0 else 4
  | none => if dl.length = 64 then 7 else 0
def apD (s : List UInt8) (bs : List Int) (dl : List Fd) : List Fd := if nameB s = false then dl else match lkF s dl with
  | some x => if (bs.length : Int) ≤ 1048576 - x.b.length then resA s x bs dl else dl
  | none => if dl.length = 64 then dl else resA s ⟨s, [], []⟩ bs (insF ⟨s, [], []⟩ dl)
def syE (s : List UInt8) (dl : List Fd) : Int := match lkF s dl with | none => 5 | some _ => 0
def syD (s : List UInt8) (dl : List Fd) : List Fd := match lkF s dl with | none => dl | some x => setF s x.b [] dl
def syN (s : List UInt8) (dl : List Fd) (sy : Int) : Int := match lkF s dl with | none => sy | some _ => sy + 1
def cuE (s : List UInt8) (n : Int) (dl : List Fd) : Int := match lkF s dl with | none => 5 | some x => if n < 0 ∨ (x.b.length : Int) < n then 1 else 0
def cuD (s : List UInt8) (n : Int) (dl : List Fd) : List Fd := match lkF s dl with | none => dl | some x => if n < 0 ∨ (x.b.length : Int) < n then dl else setF s (x.b.take n.toNat) [] dl
def mvE (s s' : List UInt8) (dl : List Fd) : Int := match lkF s dl with | none => 5 | some _ => if nameB s' = false then 40 else 0
def mvD (s s' : List UInt8) (dl : List Fd) : List Fd := match lkF s dl with | none => dl | some x => if nameB s' = false then dl else renF s s' x dl
def rmE (s : List UInt8) (dl : List Fd) : Int := match lkF s dl with | none => 5 | some _ => 0
def rmD (s : List UInt8) (dl : List Fd) : List Fd := outF s dl

theorem lk_mem : ∀ {dl : List Fd} {s : List UInt8} {x : Fd}, lkF s dl = some x → x ∈ dl := fun h => by
  obtain ⟨-, a, b, rfl, -⟩ := lkF_some h
  simp
theorem insF_perm (x : Fd) : ∀ dl : List Fd, (x :: dl).Perm (insF x dl)
  | [] => .refl _
  | y :: r => by
    unfold insF
    split
    · exact (List.Perm.swap y x r).trans ((insF_perm x r).cons y)
    · exact .refl _
theorem outF_perm {dl : List Fd} (h : lkF s dl = some x) : dl.Perm (outF s dl ++ [x]) := by
  obtain ⟨-, a, b, rfl, e, -⟩ := lkF_some h
  rw [e]
  refine (List.perm_middle).trans ?_
  exact (List.perm_append_comm (l₁ := [x]) (l₂ := a ++ b))
theorem outF_mem : ∀ {dl : List Fd} {y : Fd}, y ∈ outF s dl → y ∈ dl
  | [], y, h => h
  | z :: r, y, h => by
    unfold outF at h
    split at h
    · exact List.mem_cons_of_mem _ h
    · rcases List.mem_cons.1 h with rfl | h
      · exact List.mem_cons_self ..
      · exact List.mem_cons_of_mem _ (outF_mem h)
theorem outF_len : ∀ dl : List Fd, (outF s dl).length ≤ dl.length
  | [] => Nat.le_refl _
  | z :: r => by
    unfold outF
    split
    · simp
    · have := outF_len r
      simp; omega
theorem setF_mem {b ws : List Int} : ∀ {dl : List Fd} {y : Fd}, y ∈ setF s b ws dl → y ∈ dl ∨ y = ⟨s, b, ws⟩
  | [], y, h => .inl h
  | z :: r, y, h => by
    unfold setF at h
    split at h
    · rename_i e
      rcases List.mem_cons.1 h with h | h
      · exact .inr (by rw [h, e])
      · exact .inl (List.mem_cons_of_mem _ h)
    · rcases List.mem_cons.1 h with rfl | h
      · exact .inl (List.mem_cons_self ..)
      · exact (setF_mem h).imp (List.mem_cons_of_mem _) id
theorem setF_len {b ws : List Int} : ∀ dl : List Fd, (setF s b ws dl).length = dl.length
  | [] => rfl
  | z :: r => by
    unfold setF
    split
    · rfl
    · simp [setF_len r]
theorem insF_mem {x y : Fd} {dl : List Fd} (h : y ∈ insF x dl) : y ∈ dl ∨ y = x := by
  have := (insF_perm x dl).mem_iff.2 h
  exact (List.mem_cons.1 this).symm
theorem insF_len (x : Fd) (dl : List Fd) : (insF x dl).length = dl.length + 1 := (insF_perm x dl).length_eq.symm
theorem ws_nil (n : Nat) : WsOk n [] := fun i h => absurd h (by simp)
theorem ws_app {n m : Nat} {ws : List Int} (h : WsOk n ws) : WsOk (n + m) (ws ++ [(n : Int)]) := fun i hi => by
  rw [List.length_append, List.length_singleton] at hi
  rcases Nat.lt_or_ge i ws.length with h1 | h1
  · obtain ⟨a1, a2, a3⟩ := h i h1
    have e : (ws ++ [(n : Int)]).getD i 0 = ws.getD i 0 := by simp [List.getD_eq_getElem?_getD, List.getElem?_append_left h1]
    have e2 : endI (n + m) (ws ++ [(n : Int)]) i = endI n ws i := by
      unfold endI
      rw [List.length_append, List.length_singleton, if_pos (by omega)]
      split
      · rename_i h2
        simp [List.getD_eq_getElem?_getD, List.getElem?_append_left h2]
      · have h3 : i + 1 = ws.length := by omega
        simp [List.getD_eq_getElem?_getD, h3]
    rw [e, e2]
    exact ⟨a1, a2, by push_cast; omega⟩
  · have h3 : i = ws.length := by omega
    subst h3
    have e : (ws ++ [(n : Int)]).getD ws.length 0 = (n : Int) := by simp [List.getD_eq_getElem?_getD]
    have e2 : endI (n + m) (ws ++ [(n : Int)]) ws.length = ((n + m : Nat) : Int) := by
      unfold endI
      rw [List.length_append, List.length_singleton, if_neg (by omega)]
    rw [e, e2]
    exact ⟨by omega, by push_cast; omega, Int.le_refl _⟩
theorem byt_splice {a c : List Int} {p : Nat} (ha : Byt a) (hc : Byt c) : Byt (splice a p c) := fun y hy => by
  unfold splice at hy
  rcases List.mem_append.1 hy with h | h
  · exact ha y (List.mem_of_mem_take h)
  · rcases List.mem_append.1 h with h | h
    · exact hc y h
    · exact ha y (List.mem_of_mem_drop h)
theorem byt_crS {b ws ns : List Int} (hb : Byt b) : ∀ i, Byt (crS b ws ns i).1
  | 0 => byt_splice (fun y hy => by have := List.eq_of_mem_replicate hy; omega) fun y hy => hb y (List.mem_of_mem_take hy)
  | i + 1 => by
    unfold crS crStep
    split
    · exact byt_splice (byt_crS hb i) fun y hy => hb y (List.mem_of_mem_drop (List.mem_of_mem_take hy))
    · exact byt_crS hb i
theorem crA_inv {k : Nat} {ks : List Kn} (h : Inv k sy dl) : Inv (k + 1) sy (crA dl ks) := by
  unfold crA
  split
  · refine ⟨by unfold crD; rw [List.length_map]; exact h.len, fun y hy => ?_, h.lo, by have := h.hi; push_cast; omega⟩
    obtain ⟨x, hx, rfl⟩ := List.mem_map.1 hy
    obtain ⟨a1, a2, a3, a4⟩ := h.each x hx
    have h1 := crB_len (ns := kNs x.nm ks) a4
    have h2 := (crS_len (ns := kNs x.nm ks) a4 x.ws.length (Nat.le_refl _)).2
    refine ⟨fun z hz => byt_crS a1 _ z (List.mem_of_mem_take hz), ?_, Nat.zero_le _, ws_nil _⟩
    show (crB x.b x.ws (kNs x.nm ks)).length ≤ _
    omega
  · exact ⟨h.len, fun y hy => by obtain ⟨a1, a2, a3, a4⟩ := h.each y hy; exact ⟨a1, a2, by omega, a4⟩, h.lo, by have := h.hi; push_cast; omega⟩
theorem Inv.more {k : Nat} (h : Inv k sy dl) : Inv (k + 1) sy dl := ⟨h.len, fun y hy => by obtain ⟨a1, a2, a3, a4⟩ := h.each y hy; exact ⟨a1, a2, by omega, a4⟩, h.lo, by have := h.hi; push_cast; omega⟩
theorem resA_inv {k : Nat} (h : Inv k sy dl) (hx : Byt x.b ∧ x.b.length ≤ 1048576 ∧ x.ws.length ≤ k ∧ WsOk x.b.length x.ws) (hb : Byt bs) (hl : (bs.length : Int) ≤ 1048576 - x.b.length) : Inv (k + 1) sy (resA s x bs dl) := by
  refine ⟨by unfold resA; rw [setF_len]; exact h.len, fun y hy => ?_, h.lo, by have := h.hi; push_cast; omega⟩
  rcases setF_mem hy with h1 | rfl
  · exact h.more.each y h1
  · obtain ⟨a1, a2, a3, a4⟩ := hx
    refine ⟨fun z hz => (List.mem_append.1 hz).elim (a1 z) (hb z), by rw [List.length_append]; omega, ?_, ?_⟩
    · dsimp only; split
      · omega
      · simp; omega
    · dsimp only
      rw [List.length_append]
      split
      · rename_i e
        rw [e]
        exact a4
      · exact ws_app a4
theorem ap_inv {k : Nat} (h : Inv k sy dl) (hb : Byt bs) (hl : bs.length ≤ 1048576) : Inv (k + 1) sy (apD s bs dl) := by
  unfold apD
  split
  · exact h.more
  · split
    · rename_i x hx
      split
      · exact resA_inv h (h.each x (lk_mem hx)) hb (by assumption)
      · exact h.more
    · split
      · exact h.more
      · rename_i h64
        refine resA_inv (k := k) ⟨by rw [insF_len]; have := h.len; omega, fun y hy => ?_, h.lo, h.hi⟩ ⟨(fun x hx => nomatch hx), Nat.zero_le _, Nat.zero_le _, ws_nil _⟩ hb (by simp; omega)
        rcases insF_mem hy with h1 | rfl
        · exact h.each y h1
        · exact ⟨(fun x hx => nomatch hx), by simp, Nat.zero_le _, ws_nil _⟩
theorem sy_inv {k : Nat} (h : Inv k sy dl) : Inv (k + 1) (syN s dl sy) (syD s dl) := by
  unfold syN syD
  cases hx : lkF s dl with
  | none => exact h.more
  | some x =>
    refine ⟨by dsimp only; rw [setF_len]; exact h.len, fun y hy => ?_, by have := h.lo; dsimp only; omega, by have := h.hi; dsimp only; push_cast; omega⟩
    rcases setF_mem hy with h1 | rfl
    · exact h.more.each y h1
    · obtain ⟨a1, a2, a3, a4⟩ := h.each x (lk_mem hx)
      exact ⟨a1, a2, Nat.zero_le _, ws_nil _⟩
theorem cu_inv {k : Nat} {n : Int} (h : Inv k sy dl) : Inv (k + 1) sy (cuD s n dl) := by
  unfold cuD
  cases hx : lkF s dl with
  | none => exact h.more
  | some x =>
    dsimp only
    split
    · exact h.more
    · refine ⟨by rw [setF_len]; exact h.len, fun y hy => ?_, h.lo, by have := h.hi; push_cast; omega⟩
      rcases setF_mem hy with h1 | rfl
      · exact h.more.each y h1
      · obtain ⟨a1, a2, a3, a4⟩ := h.each x (lk_mem hx)
        exact ⟨fun z hz => a1 z (List.mem_of_mem_take hz), by rw [List.length_take]; omega, Nat.zero_le _, ws_nil _⟩
theorem rm_inv {k : Nat} (h : Inv k sy dl) : Inv (k + 1) sy (rmD s dl) :=
  ⟨Nat.le_trans (outF_len dl) h.len, fun y hy => h.more.each y (outF_mem hy), h.lo, by have := h.hi; push_cast; omega⟩
theorem outF_len_lk (h : lkF s dl = some x) : (outF s dl).length + 1 = dl.length := by
  have := (outF_perm h).length_eq
  rw [List.length_append, List.length_singleton] at this
  omega
theorem mv_inv {k : Nat} (h : Inv k sy dl) : Inv (k + 1) sy (mvD s s' dl) := by
  unfold mvD
  cases hx : lkF s dl with
  | none => exact h.more
  | some x =>
    dsimp only
    split
    · exact h.more
    · unfold renF
      split
      · exact h.more
      · refine ⟨?_, fun y hy => ?_, h.lo, by have := h.hi; push_cast; omega⟩
        · rw [insF_len]
          have h1 := outF_len (s := s') (outF s dl)
          have h2 := outF_len_lk hx
          have := h.len
          omega
        · rcases insF_mem hy with h1 | rfl
          · exact h.more.each y (outF_mem (outF_mem h1))
          · exact h.more.each x (lk_mem hx)
end Go.Proofs.Ytflhgphjkhplmaa.D

/- Each call of each side, in the words of the pure steps. -/
namespace Go.Proofs.Ytflhgphjkhplmaa.D
open Go.RowKit
set_option linter.unusedVariables false
set_option linter.unusedSimpArgs false

variable {w w' : World} {D R k : Nat} {sy : Int} {F G P : Nat → Prop} {dl : List Fd} {s s' : List UInt8} {x : Fd} {bs : List Int} {sv kv : Value} {ks : List Kn}
theorem tf : ¬ (true = false) := by decide
theorem resA_new (h : lkF s dl = none) (bs : List Int) : resA s ⟨s, [], []⟩ bs (insF ⟨s, [], []⟩ dl) = insF ⟨s, bs, if bs = [] then [] else [0]⟩ dl := by
  unfold resA
  rw [(setF_ins s h).1]
  rfl
theorem ren_perm (hnd : (dl.map Fd.nm).Nodup) (h : lkF s dl = some x) : (outF s' (outF s dl) ++ [(⟨s', x.b, x.ws⟩ : Fd)]).Perm (renF s s' x dl) := by
  unfold renF
  split
  · rename_i e
    subst e
    obtain ⟨hn, -⟩ := lkF_some h
    have h2 := outF_perm h
    have h3 := (h2.map Fd.nm).nodup_iff.1 hnd
    rw [List.map_append] at h3
    have hno : lkF s (outF s dl) = none := lkF_none.2 fun hm => (List.nodup_append.1 h3).2.2 s hm s (by simp [hn]) rfl
    rw [outF_none hno, show (⟨s, x.b, x.ws⟩ : Fd) = x by rw [← hn]]
    exact h2.symm
  · exact (List.perm_append_comm (l₂ := [_])).trans (insF_perm _ _)
theorem p_append (h : DR w D F sy dl) (i : Inv k sy dl) (hk : k ≤ 1000000) (hl : (s.length : Int) ≤ 140737488351232) (hsv : SrcG w F sv bs) (hb : bs.length ≤ 1048576) :
    Calls Try.prog 55 #[.pointer (some ⟨D, 0, none⟩), .string (tx s), sv] w fun e w' => e = .returned (.int .i64 (apE s bs dl)) ∧ ∃ F', DR w' D F' sy (apD s bs dl) ∧ Fr F F' w w' := by
  unfold apE apD
  cases hn : nameB s with
  | false =>
    refine (append_key h hl hn sv).mono ?_
    rintro e w' ⟨rfl, rfl⟩
    exact ⟨rfl, F, h, Fr.refl _ _⟩
  | true =>
    rw [if_neg tf, if_neg tf]
    cases hs : lkF s dl with
    | some x =>
      obtain ⟨a1, a2, a3, a4⟩ := i.each x (lk_mem hs)
      dsimp only
      by_cases hf : (bs.length : Int) ≤ 1048576 - x.b.length
      · rw [if_pos hf, if_pos hf]
        exact append_thereG h hs hl hn hsv a2 (by omega) hf
      · rw [if_neg hf, if_neg hf]
        refine (append_size h hs hl hn (hsv w fun _ _ _ => rfl).slice a2 hf (by omega)).mono ?_
        rintro e w' ⟨rfl, rfl⟩
        exact ⟨rfl, F, h, Fr.refl _ _⟩
    | none =>
      dsimp only
      refine (append_newG h hs hl hn hsv i.len (by omega)).mono ?_
      rintro e w' ⟨he, F', h1, h2⟩
      rw [if_neg (by omega)] at he h1
      refine ⟨he, F', ?_, h2⟩
      split
      · rename_i h64
        rw [if_pos h64] at h1
        exact h1
      · rename_i h64
        rw [if_neg h64] at h1
        rw [resA_new hs]
        exact h1.perm ((List.perm_append_comm (l₂ := [_])).trans (insF_perm _ _))
theorem m_append (h : MR w R G sy dl) (i : Inv k sy dl) (hk : k ≤ 1000000) (hl : (s.length : Int) ≤ 140737488351232) (hsv : SrcG w G sv bs) (hb : bs.length ≤ 1048576) :
    Calls Try.prog 47 #[.pointer (some ⟨R, 0, none⟩), .string (tx s), sv] w fun e w' => e = .returned (.int .i64 (apE s bs dl)) ∧ ∃ G', MR w' R G' sy (apD s bs dl) ∧ Fr G G' w w' := by
  unfold apE apD
  cases hn : nameB s with
  | false =>
    refine (rappend_key h hl hn sv).mono ?_
    rintro e w' ⟨rfl, rfl⟩
    exact ⟨rfl, G, h, Fr.refl _ _⟩
  | true =>
    rw [if_neg tf, if_neg tf]
    cases hs : lkF s dl with
    | some x =>
      obtain ⟨a1, a2, a3, a4⟩ := i.each x (lk_mem hs)
      dsimp only
      by_cases hf : (bs.length : Int) ≤ 1048576 - x.b.length
      · rw [if_pos hf, if_pos hf]
        exact (rappend_ok h i.len hl hn hsv (.inl ⟨hs, rfl⟩) a2 (by omega) hf).mono fun e w' h => ⟨h.1, h.2.out⟩
      · rw [if_neg hf, if_neg hf]
        refine (rappend_size h (by have := i.len; omega) hs hl hn hsv.now.slice a2 hf (by omega)).mono ?_
        rintro e w' ⟨rfl, rfl⟩
        exact ⟨rfl, G, h, Fr.refl _ _⟩
    | none =>
      dsimp only
      have hlen := i.len
      by_cases h64 : dl.length = 64
      · rw [if_pos h64, if_pos h64]
        refine (rappend_none h hlen hs hl hn hsv.now.slice (by omega) (.inr h64)).mono ?_
        rintro e w' ⟨rfl, rfl⟩
        exact ⟨by rw [if_neg (by omega)], G, h, Fr.refl _ _⟩
      · rw [if_neg h64, if_neg h64]
        exact (rappend_ok h hlen hl hn hsv (.inr ⟨hs, by omega, rfl, rfl⟩) (by simp) (by simp) (by simp; omega)).mono fun e w' h => ⟨h.1, h.2.out⟩
theorem p_sync (h : DR w D F sy dl) (i : Inv k sy dl) (hk : k ≤ 1000000) : Calls Try.prog 52 #[.pointer (some ⟨D, 0, none⟩), .string (tx s)] w fun e w' => e = .returned (.int .i64 (syE s dl)) ∧ ∃ F', DR w' D F' (syN s dl sy) (syD s dl) ∧ Fr F F' w w' := by
  unfold syE syN syD
  cases hs : lkF s dl with
  | none =>
    refine (sync_no h hs).mono ?_
    rintro e w' ⟨rfl, rfl⟩
    exact ⟨rfl, F, h, Fr.refl _ _⟩
  | some x => exact sync_yes h hs i.lo (by have := i.hi; omega)
theorem m_sync (h : MR w R G sy dl) (i : Inv k sy dl) (hk : k ≤ 1000000) : Calls Try.prog 49 #[.pointer (some ⟨R, 0, none⟩), .string (tx s)] w fun e w' => e = .returned (.int .i64 (syE s dl)) ∧ ∃ G', MR w' R G' (syN s dl sy) (syD s dl) ∧ Fr G G' w w' := by
  have hlen := i.len
  unfold syE syN syD
  cases hs : lkF s dl with
  | none =>
    refine (rsync_no h (by omega) hs).mono ?_
    rintro e w' ⟨rfl, rfl⟩
    exact ⟨rfl, G, h, Fr.refl _ _⟩
  | some x =>
    obtain ⟨a1, a2, a3, a4⟩ := i.each x (lk_mem hs)
    exact (rsync_yes h (by omega) hs (by omega) i.lo (by have := i.hi; omega)).mono fun e w' h => ⟨h.1, h.2.out⟩
theorem p_cut (h : DR w D F sy dl) (i : Inv k sy dl) (n : Int) : Calls Try.prog 44 #[.pointer (some ⟨D, 0, none⟩), .string (tx s), .int .i64 n] w fun e w' => e = .returned (.int .i64 (cuE s n dl)) ∧ ∃ F', DR w' D F' sy (cuD s n dl) ∧ Fr F F' w w' := by
  unfold cuE cuD
  cases hs : lkF s dl with
  | none =>
    refine (cut_no h hs n).mono ?_
    rintro e w' ⟨rfl, rfl⟩
    exact ⟨rfl, F, h, Fr.refl _ _⟩
  | some x =>
    obtain ⟨a1, a2, a3, a4⟩ := i.each x (lk_mem hs)
    dsimp only
    by_cases c : n < 0 ∨ (x.b.length : Int) < n
    · rw [if_pos c, if_pos c]
      refine (cut_bad h hs (by omega) n c).mono ?_
      rintro e w' ⟨rfl, rfl⟩
      exact ⟨rfl, F, h, Fr.refl _ _⟩
    · rw [if_neg c, if_neg c]
      have := cut_yes h hs (by omega) n.toNat (by omega)
      rw [show ((n.toNat : Nat) : Int) = n by omega] at this
      exact this
theorem m_cut (h : MR w R G sy dl) (i : Inv k sy dl) (n : Int) : Calls Try.prog 51 #[.pointer (some ⟨R, 0, none⟩), .string (tx s), .int .i64 n] w fun e w' => e = .returned (.int .i64 (cuE s n dl)) ∧ ∃ G', MR w' R G' sy (cuD s n dl) ∧ Fr G G' w w' := by
  have hlen := i.len
  unfold cuE cuD
  cases hs : lkF s dl with
  | none =>
    refine (rcut_no h (by omega) hs n).mono ?_
    rintro e w' ⟨rfl, rfl⟩
    exact ⟨rfl, G, h, Fr.refl _ _⟩
  | some x =>
    obtain ⟨a1, a2, a3, a4⟩ := i.each x (lk_mem hs)
    dsimp only
    by_cases c : n < 0 ∨ (x.b.length : Int) < n
    · rw [if_pos c, if_pos c]
      refine (rcut_bad h (by omega) hs (by omega) n c).mono ?_
      rintro e w' ⟨rfl, hb⟩
      exact ⟨rfl, G, h.newer hb, Fr.newer hb⟩
    · rw [if_neg c, if_neg c]
      have := rcut_yes h (by omega) hs (by omega) n.toNat (by omega)
      rw [show ((n.toNat : Nat) : Int) = n by omega] at this
      exact this.mono fun e w' h => ⟨h.1, h.2.out⟩
theorem p_move (h : DR w D F sy dl) (hl : (s'.length : Int) ≤ 140737488351232) : Calls Try.prog 73 #[.pointer (some ⟨D, 0, none⟩), .string (tx s), .string (tx s')] w fun e w' => e = .returned (.int .i64 (mvE s s' dl)) ∧ ∃ F', DR w' D F' sy (mvD s s' dl) ∧ Fr F F' w w' := by
  unfold mvE mvD
  cases hs : lkF s dl with
  | none =>
    refine (rename_no h hs _).mono ?_
    rintro e w' ⟨rfl, rfl⟩
    exact ⟨rfl, F, h, Fr.refl _ _⟩
  | some x =>
    dsimp only
    cases hn : nameB s' with
    | false =>
      refine (rename_bad h hs hl hn).mono ?_
      rintro e w' ⟨rfl, rfl⟩
      exact ⟨rfl, F, h, Fr.refl _ _⟩
    | true =>
      rw [if_neg tf, if_neg tf]
      refine (rename_yes h hs hl hn).mono ?_
      rintro e w' ⟨he, F', h1, h2⟩
      exact ⟨he, F', h1.perm (ren_perm h.nd hs), h2⟩
theorem m_move (h : MR w R G sy dl) (i : Inv k sy dl) (hl : (s'.length : Int) ≤ 140737488351232) : Calls Try.prog 50 #[.pointer (some ⟨R, 0, none⟩), .string (tx s), .string (tx s')] w fun e w' => e = .returned (.int .i64 (mvE s s' dl)) ∧ ∃ G', MR w' R G' sy (mvD s s' dl) ∧ Fr G G' w w' := by
  have hlen := i.len
  unfold mvE mvD
  cases hs : lkF s dl with
  | none =>
    refine (rrename_no h (by omega) hs _).mono ?_
    rintro e w' ⟨rfl, rfl⟩
    exact ⟨rfl, G, h, Fr.refl _ _⟩
  | some x =>
    dsimp only
    cases hn : nameB s' with
    | false =>
      refine (rrename_bad h (by omega) hs hl hn).mono ?_
      rintro e w' ⟨rfl, rfl⟩
      exact ⟨rfl, G, h, Fr.refl _ _⟩
    | true =>
      rw [if_neg tf, if_neg tf]
      exact (rrename_yes h (by omega) hs hl hn).mono fun e w' h => ⟨h.1, h.2.out⟩
theorem p_remove (h : DR w D F sy dl) : Calls Try.prog 60 #[.pointer (some ⟨D, 0, none⟩), .string (tx s)] w fun e w' => e = .returned (.int .i64 (rmE s dl)) ∧ ∃ F', DR w' D F' sy (rmD s dl) ∧ Fr F F' w w' := by
  unfold rmE rmD
  cases hs : lkF s dl with
  | none =>
    refine (remove_no h hs).mono ?_
    rintro e w' ⟨rfl, rfl⟩
    exact ⟨rfl, F, by rw [outF_none hs]; exact h, Fr.refl _ _⟩
  | some x => exact remove_yes h hs
theorem m_remove (h : MR w R G sy dl) (i : Inv k sy dl) : Calls Try.prog 48 #[.pointer (some ⟨R, 0, none⟩), .string (tx s)] w fun e w' => e = .returned (.int .i64 (rmE s dl)) ∧ ∃ G', MR w' R G' sy (rmD s dl) ∧ Fr G G' w w' := by
  have hlen := i.len
  unfold rmE rmD
  cases hs : lkF s dl with
  | none =>
    refine (rremove_no h (by omega) hs).mono ?_
    rintro e w' ⟨rfl, rfl⟩
    exact ⟨rfl, G, by rw [outF_none hs]; exact h, Fr.refl _ _⟩
  | some x => exact (rremove_yes h (by omega) hs).mono fun e w' h => ⟨h.1, h.2.out⟩
theorem Inv.cr (i : Inv k sy dl) (hk : k ≤ 1000000) : ∀ x ∈ dl, x.b.length ≤ 2000000 ∧ x.ws.length ≤ 2000000 ∧ WsOk x.b.length x.ws := fun x hx => by
  obtain ⟨a1, a2, a3, a4⟩ := i.each x hx
  exact ⟨by omega, by omega, a4⟩
theorem p_crash (h : DR w D F sy dl) (i : Inv k sy dl) (hk : k ≤ 1000000) (hkv : KeepsAt P w kv ks) (hP : ∀ q, P q → q < w.heap.size ∧ ¬ F q) (hkl : ks.length ≤ 1048576) : Calls Try.prog 40 #[.pointer (some ⟨D, 0, none⟩), kv] w fun e w' => e = .returned (.int .i64 (wrE dl [] ks)) ∧ ∃ F', DR w' D F' sy (crA dl ks) ∧ Fr F F' w w' :=
  (crash_all h hkv hP (i.cr hk) (by omega)).mono fun e w' h => ⟨h.1, h.2.out⟩
theorem m_crash (h : MR w R G sy dl) (i : Inv k sy dl) (hk : k ≤ 1000000) (hkv : KeepsAt P w kv ks) (hP : ∀ q, P q → q < w.heap.size ∧ ¬ G q) (hkl : ks.length ≤ 1048576) : Calls Try.prog 54 #[.pointer (some ⟨R, 0, none⟩), kv] w fun e w' => e = .returned (.int .i64 (wrE dl [] ks)) ∧ ∃ G', MR w' R G' sy (crA dl ks) ∧ Fr G G' w w' :=
  (rcrash_all h hkv hP (i.cr hk) (by have := i.len; omega) (by omega)).mono fun e w' h => ⟨h.1, h.2.out⟩
end Go.Proofs.Ytflhgphjkhplmaa.D

/- A log and its disk; reading a file of it. -/
namespace Go.Proofs.Ytflhgphjkhplmaa.D
open Go Go.RowKit W R Go.Shelf
set_option linter.unusedVariables false
set_option linter.unusedSimpArgs false
attribute [local go_sem] Oper.semAt_some

variable {w w' : World} {L D k : Nat} {sy : Int} {F F' P P' : Nat → Prop} {dl : List Fd} {g : Lg} {s : List UInt8}
/-- A log beside its disk. -/
structure WS (w : World) (D L k : Nat) (F P : Nat → Prop) (sy : Int) (dl : List Fd) (g : Lg) : Prop where
  dr : DR w D F sy dl
  inv : Inv k sy dl
  lg : LG w L D g P
  ap : ∀ q, P q → ¬ F q
theorem WS.newer (h : WS w D L k F P sy dl g) (hb : Below w.heap.size w w') : WS w' D L k F P sy dl g := ⟨h.dr.newer hb, h.inv, h.lg.newer hb, h.ap⟩
def rdBs (s : List UInt8) (dl : List Fd) : List Int := match lkF s dl with | none => [] | some x => x.b
def rdEs (s : List UInt8) (dl : List Fd) : Int := match lkF s dl with | none => 5 | some _ => 0
theorem Inv.rdb (i : Inv k sy dl) (s : List UInt8) : Byt (rdBs s dl) ∧ (rdBs s dl).length ≤ 1048576 := by
  unfold rdBs
  cases h : lkF s dl with
  | none => exact ⟨fun c hc => (nomatch hc), by decide⟩
  | some x => obtain ⟨h1, h2, -⟩ := i.each x (lk_mem h); exact ⟨h1, h2⟩
theorem rd_any (h : DR w D F sy dl) (i : Inv k sy dl) (s : List UInt8) : Calls Try.prog 83 #[.pointer (some ⟨D, 0, none⟩), .string (tx s)] w fun e w' => ∃ a c, e = .returned (.tuple #[.slice a (rdBs s dl).length c, .int .i64 (rdEs s dl)]) ∧ w'.ownsRow w.heap.size 5 1 (.slice a (rdBs s dl).length c) (rdBs s dl).length (u8l (rdBs s dl)) ∧ Below w.heap.size w w' := by
  unfold rdBs rdEs
  cases hs : lkF s dl with
  | none =>
    refine (read_no h hs).mono ?_
    rintro e w' ⟨rfl, rfl⟩
    exact ⟨none, 0, rfl, World.ownsRow_nil _ _ _ _, Below.refl _ _⟩
  | some x =>
    obtain ⟨-, h2, -⟩ := i.each x (lk_mem hs)
    refine (read_yes h hs (by omega)).mono ?_
    rintro e w' ⟨⟨v, rfl, ho⟩, hb⟩
    obtain ⟨a, c, rfl⟩ := own_slice ho
    exact ⟨a, c, rfl, ho, hb⟩
def nLog : List UInt8 := [97, 46, 108, 111, 103]
def nCkp : List UInt8 := [97, 46, 99, 107, 112]
def nNew : List UInt8 := [97, 46, 99, 107, 112, 46, 110, 101, 119]
def rcE (x : El) : Rc := ⟨x.n, x.r, x.rv⟩
/-- What the loop of readRecords keeps. -/
def RrI (w : World) (B B4 B5 : Nat) (pre : List El) (W : World) : Prop :=
  (∃ rv, Boxed W B4 93 rv ∧ W.ownsRow B 81 2 rv pre.length (fl e2 (pre.map rcE))) ∧ Boxed W B5 3 (.int .i64 (lastE pre : Int)) ∧ (Below w.heap.size w W ∧ B ≤ W.heap.size) ∧ ∀ x, pre.getLast? = some x → ∃ (c : Array Value) (t : TypeId) (f : Nat × Nat), W.heap[x.g]? = some (.cells c t f)
theorem RrI.from {B B4 B5 : Nat} {pre : List El} {W W' : World} {row : Option Nat} (h : RrI w B B4 B5 pre W) (hg : W.grownBy W' row) (hr : ∀ r, row = some r → w.heap.size ≤ r ∧ ∃ o : Obj, W.heap[r]? = some o ∧ o.isCells = false) : RrI w B B4 B5 pre W' := by
  obtain ⟨⟨rv, h1, h2⟩, h4, h5, h6⟩ := h
  have hr2 := fun r e => (hr r e).2
  exact ⟨⟨rv, (grown_cells hg hr2 h1).trans h1, grown_own hg hr2 h2⟩, (grown_cells hg hr2 h4).trans h4, ⟨h5.1.grown hg h5.1.size (fun q hq => (hr q hq).1), Nat.le_trans h5.2 hg.size⟩, fun x hx => by
    obtain ⟨c, t, f, e⟩ := h6 x hx
    exact ⟨c, t, f, (grown_cells hg hr2 e).trans e⟩⟩
theorem RrI.later {B B4 B5 : Nat} {pre : List El} {W W' : World} (h : RrI w B B4 B5 pre W) (hb : Below W.heap.size W W') : RrI w B B4 B5 pre W' :=
  h.from (row := none) ⟨hb.os, hb.tape, hb.output, hb.size, fun q hq _ => hb.block q hq⟩ (fun r e => nomatch e)
/-- What an append behind a row of records keeps. -/
theorem rrW {W w9 : World} {B : Nat} {v : Value} {n : Nat} {xs us : List Value} (h : W.ownsRow B 81 2 v n xs) (hb : B ≤ W.heap.size) (hg : (W.alloc (.cells us.toArray 81)).grownBy w9 v.ownBlock) :
    (∀ (q : Nat), q < W.heap.size → v.ownBlock ≠ some q → w9.heap[q]? = W.heap[q]?) ∧ Below B W w9 ∧ KeepsOthers W w9 := by
  have hbA := bel1 W (.cells us.toArray 81)
  have hbW : Below B W w9 := (hbA.mono hb).grown hg (Nat.le_trans hb hbA.size) (fun q hq => (h.lt q hq).1)
  refine ⟨fun q hlt hq => ?_, hbW, hbW.size, fun k o hk ho => ?_⟩
  · rw [hg.block q (by simp; omega) (fun e => hq e.symm)]
    exact hbA.block q hlt
  · have hlt := (Array.getElem?_eq_some_iff.1 hk).1
    rw [hg.block k (by simp; omega) (fun e => ?_)]
    · exact (hbA.block k hlt).trans hk
    · obtain ⟨cur, hc⟩ := own_tag h e.symm
      rw [hk] at hc
      cases hc
      cases ho
theorem still_of_quiet {P : Program} {ops : Array Oper} {W : World} {Q : Act → Prop} : ∀ (l : List Oper) (a : Act), wpQuiet P ops (fun w' => w' = W) Q l a → wpStill P ops W Q l a
  | [], a, h => h
  | o :: l, a, h => by
    unfold wpQuiet at h
    unfold wpStill
    split
    · rename_i hw
      rw [if_pos hw] at h
      obtain ⟨v, h1, h2⟩ := h
      have h3 := h1 W rfl
      have h4 := still_of_quiet l _ h2
      unfold Oper.quietAt at h3
      unfold Oper.still
      generalize (execOp a.eval o).run P W = r at h3
      cases r with
      | ok n w' =>
        cases n with
        | value u => obtain ⟨e1, e2⟩ := h3; subst e1; subst e2; exact ⟨rfl, h4⟩
        | skip => obtain ⟨e1, e2⟩ := h3; subst e1; subst e2; exact ⟨rfl, h4⟩
        | enter f args => obtain ⟨e1, e2⟩ := h3; subst e1; exact ⟨rfl, v, e2, h4⟩
        | _ => exact h3.elim
      | halt x w' => exact h3.elim
    · rename_i hw
      rw [if_neg hw] at h
      exact still_of_quiet l _ h
theorem cat_log : tx [97] ++ (⟨#[46, 108, 111, 103]⟩ : ByteArray) = tx nLog := by decide
theorem cat_ckp : tx [97] ++ (⟨#[46, 99, 107, 112]⟩ : ByteArray) = tx nCkp := by decide
theorem cat_new : tx nCkp ++ (⟨#[46, 110, 101, 119]⟩ : ByteArray) = tx nNew := by decide
end Go.Proofs.Ytflhgphjkhplmaa.D
