import Derived.Test.YtflhgphjkhplmaaMC12
import Derived.Test.YtflhgphjkhplmaaRows
import Derived.Test.YtflhgphjkhplmaaMC02
import Derived.Deep.Slices
import Derived.OpenShut
import Derived.ProofKit
import Derived.Test.YtflhgphjkhplmaaMC05
import Derived.Test.YtflhgphjkhplmaaMC04
import Derived.Test.YtflhgphjkhplmaaMC03
/- The model's Crash, walked. -/
namespace Go.Proofs.Ytflhgphjkhplmaa.D
open Go.RowKit
set_option linter.unusedVariables false
set_option linter.unusedSimpArgs false

variable {w w' w2 wx : World} {R : Nat} {sy : Int} {G P : Nat → Prop} {dl : List Fd} {lv : Value} {m : List Mt} {ks : List Kn} {kv : Value}
set_option maxRecDepth 20000 in
set_option maxHeartbeats 8000000 in
theorem rcrash_all (h : MR w R G sy dl) (hk : KeepsAt P w kv ks) (hP : ∀ q, P q → q < w.heap.size ∧ ¬ G q) (hl : ∀ x ∈ dl, x.b.length ≤ 2000000 ∧ x.ws.length ≤ 2000000 ∧ WsOk x.b.length x.ws) (hdl : dl.length ≤ 1000000) (hkl : (ks.length : Int) ≤ 140737488351232) :
    Calls Try.prog 54 #[.pointer (some ⟨R, 0, none⟩), kv] w fun e w' => e = .returned (.int .i64 (wrE dl [] ks)) ∧ Hid (∃ G', MR w' R G' sy (crA dl ks) ∧ Fr G G' w w') := by
  have HH : Hid (MR w R G sy dl ∧ (∀ q, P q → q < w.heap.size ∧ ¬ G q) ∧ ∀ x ∈ dl, x.b.length ≤ 2000000 ∧ x.ws.length ≤ 2000000 ∧ WsOk x.b.length x.ws) := ⟨h, hP, hl⟩
  have HKA : Hid (KeepsAt P w kv ks) := hk
  obtain ⟨ka, kc, rfl, hkc, -⟩ := hk
  have HWR : Hid (Calls Try.prog 79 #[.pointer (some ⟨R, 0, none⟩), .slice ka ks.length kc] w fun e w' => e = .returned (.int .i64 (wrE dl [] ks)) ∧ DwQ w w') := by
    obtain ⟨lv, m, h1, rfl, -⟩ := h
    rw [xsM_len] at hdl
    exact rwrong_any h1 hdl (fun t ht => (hl t.x (List.mem_map.2 ⟨t, ht, rfl⟩)).2.1) HKA.out hkl
  obtain ⟨n, hn⟩ : ∃ n, ks.length = n := ⟨_, rfl⟩
  obtain ⟨M, hM⟩ : ∃ M, dl.length = M := ⟨_, rfl⟩
  have HN : Hid (ks.length = n ∧ dl.length = M) := ⟨hn, hM⟩
  rw [hn] at hkl hkc HKA HWR ⊢
  rw [hM] at hdl
  have hkci : (n : Int) ≤ (kc : Int) := by omega
  have hMi : (M : Int) ≤ 1000000 := by omega
  clear h hP hl hn hM hkc
  by_cases hz : wrE dl [] ks = 0
  · have HZ : Hid (wrE dl [] ks = 0 ∧ crA dl ks = crD ks dl) := ⟨hz, by unfold crA; rw [if_pos hz]⟩
    rw [hz] at HWR ⊢
    rw [HZ.out.2]
    clear hz
    go_enter Try.func54, Try.ntmps54
    go_upto_region 4 with (go_at_call 79; refine HWR.out.mono ?_; rintro e w1 ⟨rfl, hd1⟩; (have HD1 : Hid (DwQ w w1) := hd1); clear hd1)
    have HRO : Hid (RO w w1 G R sy dl ks 0) := by
      obtain ⟨lv, m, h1, h2, h3⟩ := HH.out.1
      refine ⟨lv, m, h1.at' fun q _ => HD1.out.heap q, ?_, (Fr.newer HD1.out.below).sub fun q hq => (h3 q).2 hq⟩
      rw [h2]
      rfl
    go_wp2_with fail
    go_loopw [6, 7, 8] (fun a _ _ wx => ∃ j : Nat, j ≤ M ∧ a = .int .i64 (j : Int) ∧ Hid (RO w wx G R sy dl ks j)) (fun a _ _ wx => M - (intOf a).toNat)
    case atStart => exact ⟨0, Nat.zero_le _, rfl, HRO⟩
    case round =>
      obtain ⟨j, hj, rfl, HI⟩ := hrel
      obtain ⟨lv, m, ms, mx, mf⟩ := HI.out.ex
      have hml : m.length = M := by rw [RO.len (by have := HN.out; omega) mx]; exact HN.out.2
      obtain ⟨la, lc, hlv⟩ := own_slice ms.row
      have c0 := ms.cells.1
      rw [hlv, hml] at c0
      by_cases hlt : j < M
      · have hlt' : (j : Int) < (M : Int) := by omega
        have HJ : Hid (j < M) := hlt
        obtain ⟨x, hx⟩ : ∃ x, dl[j]? = some x := ⟨_, List.getElem?_eq_getElem (by have := HN.out; omega)⟩
        obtain ⟨t, ht, htx⟩ := RO.at' hx mx
        subst htx
        have HM : Hid (MS wr R lv m sy ∧ xsM m = crD ks (dl.take j) ++ dl.drop j ∧ Fr G (GM R lv m) w wr ∧ m[j]? = some t ∧ dl[j]? = some t.x) := ⟨ms, mx, mf, ht, hx⟩
        have HKW : Hid (∀ V, DwQ wr V → KeepsAt P V (.slice ka n kc) ks) := fun V hV => HKA.out.at' fun q hq => (hV.heap q).trans (mf.block q (HH.out.2.1 q hq).1 (HH.out.2.1 q hq).2)
        have HLT : Hid (∀ q, P q → q < wr.heap.size) := fun q hq => by have h1 := (HH.out.2.1 q hq).1; have h2 := mf.size; omega
        have HSW : Hid (∀ V, DwQ wr V → MS V R lv m sy) := fun V hV => ms.at' fun q _ => hV.heap q
        have HLV : Hid (m.length = M) := hml
        clear ms mx mf hx ht hlt hj hml HI hlv
        go_upto_region 9 with (fail)
        clear c0
        obtain ⟨w1', hw1'⟩ : ∃ w1', wr = w1' := ⟨_, rfl⟩
        rw [hw1'] at HM HKW HLT HSW ⊢
        clear hw1'
        go_wp2_with fail
        go_loopw [7, 8] (fun v a wx => ∃ i : Nat, i ≤ n ∧ a = .int .i64 (i : Int) ∧ (∃ na nl nc, v = .slice na nl nc) ∧ Hid (DwQ w1' wx ∧ NumsP P wx v (kNs t.x.nm (ks.take i)) ∧ ((kNs t.x.nm (ks.take i)).length : Int) ≤ 140737488351232)) (fun v a wx => n - (intOf a).toNat)
        case atStart => exact ⟨0, Nat.zero_le _, rfl, ⟨none, 0, 0, rfl⟩, DwQ.refl _, ⟨none, 0, rfl, Nat.le_refl _, fun i x hi => by simp [kNs, kIx] at hi⟩, by simp [kNs, kIx]⟩
        case round =>
          obtain ⟨i, hi, rfl, ⟨va, vl, vc, rfl⟩, HV⟩ := hrel
          by_cases hli : i < n
          · have hli' : (i : Int) < (n : Int) := by omega
            obtain ⟨k, hki⟩ : ∃ k, ks[i]? = some k := ⟨_, List.getElem?_eq_getElem (by have := HN.out; omega)⟩
            obtain ⟨ka', kc', hkv, -, hcl⟩ := HKW.out wr HV.out.1
            obtain ⟨hna, -, hnc⟩ := Value.slice.inj hkv
            subst hna
            subst hnc
            obtain ⟨nl, kb, ko, nv, hkb, -, k0, k1, knv⟩ := hcl i k hki
            subst hkb
            have HKV : Hid (NumsP P wr nv k.2 ∧ (k.2.length : Int) ≤ 140737488351232) := ⟨knv, nl⟩
            obtain ⟨na, nc, rfl, -⟩ := knv
            obtain ⟨g, cap, hlv, q1, q2, q3, e0, -, -, -, -⟩ := (HSW.out wr HV.out.1).openK HM.out.2.2.2.1
            rw [HLV.out] at q1 q2 q3
            have HKN : Hid (kNs t.x.nm (ks.take (i + 1)) = if t.x.nm = k.1 then k.2 else kNs t.x.nm (ks.take i)) := kNs_step (wrE_zero HZ.out.1).2 hki
            have HII : Hid (i < n) := hli
            have HQD : Hid (∀ m, DwQ w1' (wr.drewN m)) := fun m => HV.out.1.drewN m
            have hdw : ∀ m, DwQ wr (wr.drewN m) := fun m => ⟨m, rfl⟩
            have HNX1 : Hid (∀ m, NumsP P (wr.drewN m) (.slice na k.2.length nc) k.2 ∧ NumsP P (wr.drewN m) (.slice va vl vc) (kNs t.x.nm (ks.take i))) := fun m => ⟨HKV.out.1, HV.out.2.1⟩
            clear hkv hcl nl hki hli hi hdw
            by_cases hq : t.x.nm = k.1
            · have hb : ((tx k.1).toList == (tx t.x.nm).toList) = true := by rw [tx_list, tx_list]; simpa using hq.symm
              have HKQ : Hid (kNs t.x.nm (ks.take (i + 1)) = k.2) := by show _ = _; rw [HKN.out, if_pos hq]
              clear hq
              go_upto_region 11 with (fail)
              go_quiet (fail)
              obtain ⟨W3, hW3⟩ : ∃ W3, wr.drewN nq = W3 := ⟨_, rfl⟩
              have k1' : W3.cell? ⟨kb, ko + i * 2 + 1, none⟩ = some (.slice na k.2.length nc) := by rw [← hW3]; exact k1
              have HREL : Hid (DwQ w1' W3 ∧ NumsP P W3 (.slice na k.2.length nc) (kNs t.x.nm (ks.take (i + 1))) ∧ ((kNs t.x.nm (ks.take (i + 1))).length : Int) ≤ 140737488351232) := by
                show _ ∧ _ ∧ _
                rw [HKQ.out, ← hW3]
                exact ⟨HQD.out _, (HNX1.out _).1, HKV.out.2⟩
              rw [hW3]
              clear hW3 k0 k1 q3 e0
              go_wp2_with fail
              go_roundw
              case rel => exact ⟨i + 1, HII.out, by go_num, ⟨_, _, _, rfl⟩, HREL.out⟩
              case measure => have := HII.out; simp [intOf]; omega
            · have hb : ((tx k.1).toList == (tx t.x.nm).toList) = false := by rw [tx_list, tx_list]; simpa using fun e => hq e.symm
              have HKQ : Hid (kNs t.x.nm (ks.take (i + 1)) = kNs t.x.nm (ks.take i)) := by show _ = _; rw [HKN.out, if_neg hq]
              clear hq
              go_upto_region 11 with (fail)
              go_quiet (fail)
              go_wp2_with fail
              go_roundw
              case rel =>
                refine ⟨i + 1, HII.out, by go_num, ⟨_, _, _, rfl⟩, ?_⟩
                show _ ∧ _ ∧ _
                rw [HKQ.out]
                exact ⟨HQD.out _, (HNX1.out _).2, HV.out.2.2⟩
              case measure => have := HII.out; simp [intOf]; omega
          · obtain rfl : i = n := by omega
            have hgi : ¬ ((i : Int) < (i : Int)) := by omega
            have HVA : Hid (NumsP P wr (.slice va vl vc) (kNs t.x.nm ks) ∧ ((kNs t.x.nm ks).length : Int) ≤ 140737488351232 ∧ ∀ x ∈ kNs t.x.nm ks, 0 ≤ x) := by
              have h1 := HV.out
              have h2 := kNs_all (s := t.x.nm) HZ.out.1 i
              rw [List.take_of_length_le (by have := HN.out; omega)] at h1 h2
              exact ⟨h1.2.1, h1.2.2, h2⟩
            have HD1 : Hid (DwQ w1' wr) := HV.out.1
            clear hli hi HV
            go_upto_region 13 with (fail)
            have hms : MS wr R lv m sy := HSW.out wr HD1.out
            obtain ⟨g, cap, hlv, q1, q2, q3, e0, e1, e2, e3, e4⟩ := hms.openK HM.out.2.2.2.1
            rw [HLV.out] at q1 q2 q3
            have hlt3 := HH.out.2.2 t.x (List.mem_of_getElem? HM.out.2.2.2.2)
            have HCR : Hid (∀ V, DwQ wr V → Calls Try.prog 80 #[.agg #[.string (tx t.x.nm), .slice t.da t.x.b.length t.dc, .int .i64 (safeN t.x.b t.x.ws), .slice t.ba t.x.ws.length t.bc], .slice va vl vc] V fun e w' => ∃ a c, e = .returned (.agg #[.string (tx t.x.nm), .slice a (crB t.x.b t.x.ws (kNs t.x.nm ks)).length c, .int .i64 ((crB t.x.b t.x.ws (kNs t.x.nm ks)).length : Int), .slice none 0 0]) ∧ Hid (w'.ownsRow V.heap.size 5 1 (.slice a (crB t.x.b t.x.ws (kNs t.x.nm ks)).length c) (crB t.x.b t.x.ws (kNs t.x.nm ks)).length (u8l (crB t.x.b t.x.ws (kNs t.x.nm ks))) ∧ Below V.heap.size V w')) := fun V hV =>
              rcrash_any ((hms.ml t (List.mem_of_getElem? HM.out.2.2.2.1)).at' fun q _ => hV.heap q) hlt3.1 hlt3.2.1 hlt3.2.2 ((HVA.out.1.at' fun q _ => hV.heap q).nums fun q hq => by obtain ⟨k, rfl⟩ := hV; obtain ⟨k2, rfl⟩ := HD1.out; exact HLT.out q hq) HVA.out.2.1 HVA.out.2.2
            have HKEY : Hid (∀ (V W : World) (a : Option Addr) (c : Nat), DwQ wr V → W.ownsRow V.heap.size 5 1 (.slice a (crB t.x.b t.x.ws (kNs t.x.nm ks)).length c) (crB t.x.b t.x.ws (kNs t.x.nm ks)).length (u8l (crB t.x.b t.x.ws (kNs t.x.nm ks))) → Below V.heap.size V W → (W.cell? ⟨R, 0, none⟩ = some (.slice (some ⟨g, 0, none⟩) M cap) ∧ W.cell? ⟨g, j * 4, none⟩ = some (.string (tx t.x.nm)) ∧ W.cell? ⟨g, j * 4 + 1, none⟩ = some (.slice t.da t.x.b.length t.dc) ∧ W.cell? ⟨g, j * 4 + 2, none⟩ = some (.int .i64 (safeN t.x.b t.x.ws)) ∧ W.cell? ⟨g, j * 4 + 3, none⟩ = some (.slice t.ba t.x.ws.length t.bc) ∧ ∀ i, W.frozen? ⟨g, i, none⟩ = false) ∧ ∀ d, RO w ((W.setCells g (j * 4) [.string (tx t.x.nm), .slice a (crB t.x.b t.x.ws (kNs t.x.nm ks)).length c, .int .i64 ((crB t.x.b t.x.ws (kNs t.x.nm ks)).length : Int), .slice none 0 0]).drewN d) G R sy dl ks (j + 1)) := fun V W a c hV ho hb => by
              have hbw : Below wr.heap.size wr W := by
                obtain ⟨k, rfl⟩ := hV
                exact ⟨hb.os, hb.tape, hb.output, hb.size, hb.block⟩
              have hVs : V.heap.size = wr.heap.size := by obtain ⟨k, rfl⟩ := hV; rfl
              rw [hVs] at ho
              have hW := hms.newer hbw
              obtain ⟨g', cap', e, -, -, p3, p4⟩ := hW.openK HM.out.2.2.2.1
              rw [hlv] at e
              obtain ⟨e5, -, e6⟩ := Value.slice.inj e
              injection e5 with e5
              injection e5 with e5
              subst e5
              subst e6
              rw [HLV.out] at p3
              refine ⟨⟨p3, p4⟩, fun d => ?_⟩
              have hlv2 := hlv
              have hms2 := hms
              rw [hlv2] at hms2
              obtain ⟨r1, r2⟩ := hms2.turnK (t' := crT t (kNs t.x.nm ks) a c) (w2 := W) HM.out.2.2.2.1 ⟨own_low ho (Nat.zero_le _), World.ownsRow_nil _ _ _ _⟩ (fun q hq => by
                rcases hq with hq | hq
                · exact .inr (ho.lt q hq).1
                · cases hq) (fun q hq _ => hbw.block q hq) ⟨hbw.os, hbw.tape, hbw.output, hbw.size⟩
              have hfr : Fr G (GM R (.slice (some ⟨g, 0, none⟩) m.length cap) m) w wr := by
                have h1 := HM.out.2.2.1
                rw [hlv2] at h1
                exact h1.trans' (Fr.newer HD1.out.below)
              exact ⟨_, _, r1.at' fun _ _ => rfl, RO.next HM.out.2.2.2.2 HM.out.2.1 rfl HM.out.2.2.2.1, (hfr.trans' r2).trans' ⟨rfl, rfl, rfl, Nat.le_refl _, fun _ _ _ => rfl, fun q hq => .inl hq⟩⟩
            generalize crB t.x.b t.x.ws (kNs t.x.nm ks) = cb at *
            obtain ⟨cl, hcl⟩ : ∃ cl, cb.length = cl := ⟨_, rfl⟩
            rw [hcl] at HCR HKEY
            have HDR : Hid (DwQ wr wr.drew) := ⟨1, rfl⟩
            clear hms hlt3 hlv hcl e4
            go_region_with (go_at_call 80; refine (HCR.out _ HDR.out).mono ?_; rintro e w5 ⟨a5, c5, rfl, H5⟩; (obtain ⟨⟨p0, p1, p2, p3, p4, pf⟩, hro⟩ := HKEY.out _ w5 a5 c5 HDR.out H5.out.1 H5.out.2); (have HRO : Hid (∀ d, RO w ((w5.setCells g (j * 4) [.string (tx t.x.nm), .slice a5 cl c5, .int .i64 (cl : Int), .slice none 0 0]).drewN d) G R sy dl ks (j + 1)) := hro); (have f0 := pf (j * 4)); (have f1 := pf (j * 4 + 1)); (have f2 := pf (j * 4 + 2)); (have f3 := pf (j * 4 + 3)); clear hro pf)
            all_goals
              go_wp2_with fail
              go_roundw
              case rel => exact ⟨j + 1, HJ.out, by go_num, HRO.out 0⟩
              case measure => have := HJ.out; simp [intOf]; omega
      · obtain rfl : j = M := by omega
        have hge : ¬ ((j : Int) < (j : Int)) := by omega
        have HFIN : Hid (∃ G', MR wr R G' sy (crD ks dl) ∧ Fr G G' w wr) := by
          rw [List.take_of_length_le (by have := HN.out; omega), List.drop_of_length_le (by have := HN.out; omega), List.append_nil] at mx
          rw [← mx]
          exact ⟨_, ms.mr, mf⟩
        clear hlt hj ms mx mf hlv hml
        go_wp2_with fail
        go_ret
        exact ⟨rfl, HFIN.out⟩
  · have hzb : (wrE dl [] ks == 0) = false := by simpa using hz
    have HZ : Hid (crA dl ks = dl) := by show _ = _; unfold crA; rw [if_neg hz]
    rw [HZ.out]
    generalize wrE dl [] ks = z at *
    go_enter Try.func54, Try.ntmps54
    go_wp2_with (go_at_call 79; refine HWR.out.mono ?_; rintro e w1 ⟨rfl, hd1⟩; (have HD1 : Hid (DwQ w w1) := hd1); clear hd1)
    go_ret
    exact ⟨rfl, G, HH.out.1.newer HD1.out.below, Fr.newer HD1.out.below⟩
end Go.Proofs.Ytflhgphjkhplmaa.D

/- The model's lesser calls: Rename refused; bytes spoilt; conversions. -/
namespace Go.Proofs.Ytflhgphjkhplmaa.D
open Go.RowKit W
set_option linter.unusedVariables false
set_option linter.unusedSimpArgs false

variable {w w' w2 : World} {R : Nat} {sy : Int} {G : Nat → Prop} {dl : List Fd} {s s' : List UInt8} {x : Fd}
set_option maxRecDepth 20000 in
theorem rrename_no (h : MR w R G sy dl) (hl : dl.length ≤ 1000000) (hs : lkF s dl = none) (v : Value) : Calls Try.prog 50 #[.pointer (some ⟨R, 0, none⟩), .string (tx s), v] w fun e w' => e = .returned (.int .i64 5) ∧ w' = w := by
  obtain ⟨lv, m, h1, rfl, -⟩ := h
  rw [xsM_len] at hl
  have HF : Hid (Calls Try.prog 76 #[.pointer (some ⟨R, 0, none⟩), .string (tx s)] w fun e w' => e = .returned (.int .i64 (-1)) ∧ w' = w) := by
    have := h1.find (by omega) s
    rw [ixM_no hs] at this
    exact this
  clear h1 hl hs
  go_enter Try.func50, Try.ntmps50
  go_wp2_with (go_at_call 76; refine HF.out.mono ?_; rintro e w1 ⟨rfl, hw1⟩; rw [hw1]; clear hw1)
  go_ret
  exact ⟨rfl, rfl⟩
set_option maxRecDepth 20000 in
theorem rrename_bad (h : MR w R G sy dl) (hl : dl.length ≤ 1000000) (hs : lkF s dl = some x) (hsl : (s'.length : Int) ≤ 140737488351232) (hn : nameB s' = false) : Calls Try.prog 50 #[.pointer (some ⟨R, 0, none⟩), .string (tx s), .string (tx s')] w fun e w' => e = .returned (.int .i64 40) ∧ w' = w := by
  obtain ⟨lv, m, h1, rfl, hG⟩ := h
  rw [xsM_len] at hl
  obtain ⟨k, t, k1, k2, -⟩ := ixM_lk hs
  have HF : Hid (Calls Try.prog 76 #[.pointer (some ⟨R, 0, none⟩), .string (tx s)] w fun e w' => e = .returned (.int .i64 (k : Int)) ∧ w' = w) := by
    have := h1.find (by omega) s
    rw [k1] at this
    exact this
  have HNM : Hid (Calls Try.prog 71 #[.string (tx s')] w fun e w' => e = .returned (.bool false) ∧ w' = w) := by
    have := rname_any s' w hsl
    rw [hn] at this
    exact this
  have hk0 : ¬ (k : Int) < 0 := by omega
  clear h1 hl hs hn hsl k1 k2 hG
  go_enter Try.func50, Try.ntmps50
  go_wp2_with (first | (go_at_call 76; refine HF.out.mono ?_; rintro e w1 ⟨rfl, hw1⟩; rw [hw1]; clear hw1) | (go_at_call 71; refine HNM.out.mono ?_; rintro e w1 ⟨rfl, hw1⟩; rw [hw1]; clear hw1))
  go_ret
  exact ⟨rfl, rfl⟩
theorem Gr.end_ {v v' : Value} {w w' : World} (h : Gr v w v' w') : Gr v w (.slice none 0 0) w' := ⟨h.os, h.tape, h.output, h.size, h.block, fun g hg => by cases hg⟩
theorem gr_set {v v' : Value} {w w' : World} (h : Gr v w v' w') {g k : Nat} {x : Value} (hg : v'.ownBlock = some g) : Gr v w v' (w'.setCell ⟨g, k, none⟩ x) := by
  refine ⟨h.os, h.tape, h.output, by simpa using h.size, fun q hq hv => ?_, h.near⟩
  have hne : q ≠ g := by
    rintro rfl
    rcases h.near q hg with e | e
    · exact hv e
    · omega
  rw [Below.heap_setCell _ _ _ _ hne]
  exact h.block q hq hv

set_option maxRecDepth 20000 in
set_option maxHeartbeats 4000000 in
theorem spoil_some (base g n cp : Nat) (zs : List Int) (w : World) (hn : n = zs.length) (h : w.ownsRow base 5 1 (.slice (some ⟨g, 0, none⟩) n cp) n (u8l zs)) (hz : Byt zs) (hl : (zs.length : Int) ≤ 9000000) :
    Calls Try.prog 14 #[.slice (some ⟨g, 0, none⟩) n cp] w fun e w' => (∃ v, e = .returned v) ∧ Gr (.slice (some ⟨g, 0, none⟩) n cp) w (.slice none 0 0) w' := by
  have HO : Hid (w.ownsRow base 5 1 (.slice (some ⟨g, 0, none⟩) n cp) n (u8l zs)) := h
  have HZ : Hid (Byt zs) := hz
  have HN : Hid (n = zs.length) := hn
  have hcap : (n : Int) ≤ (cp : Int) := by have := own_cap h; omega
  have hn5 : (n : Int) ≤ 10000000 := by omega
  clear h hz hn hl
  go_enter Try.func14, Try.ntmps14
  go_wp2_with fail
  go_loopw [2] (fun x wr => ∃ (k : Nat) (xs : List Value), k ≤ n ∧ x = .int .i64 k ∧ wr.ownsRow base 5 1 (.slice (some ⟨g, 0, none⟩) n cp) n xs ∧ (∀ j, k ≤ j → j < n → xs[j]? = some (.int .u8 (zs.getD j 0))) ∧ Gr (.slice (some ⟨g, 0, none⟩) n cp) w (.slice (some ⟨g, 0, none⟩) n cp) wr) (fun x wr => n - (intOf x).toNat)
  case atStart =>
    refine ⟨0, u8l zs, by omega, rfl, HO.out, fun j _ hj => ?_, Gr.refl _ _⟩
    have hn := HN.out
    simp [u8l, List.getD_eq_getElem?_getD, List.getElem?_eq_getElem (show j < zs.length by omega)]
  case round =>
    obtain ⟨k, xs, hk, rfl, hown, hrest, hbx⟩ := hrel
    have HOW : Hid (wr.ownsRow base 5 1 (.slice (some ⟨g, 0, none⟩) n cp) n xs) := hown
    have HRE : Hid (∀ j, k ≤ j → j < n → xs[j]? = some (.int .u8 (zs.getD j 0))) := hrest
    have HBX : Hid (Gr (.slice (some ⟨g, 0, none⟩) n cp) w (.slice (some ⟨g, 0, none⟩) n cp) wr) := hbx
    clear hown hrest hbx
    by_cases hlt : k < n
    · have hc : wr.cell? ⟨g, k, none⟩ = some (.int .u8 (zs.getD k 0)) := by
        have h := HOW.out.cells (g := g) rfl k _ (HRE.out k (Nat.le_refl _) hlt)
        rwa [Addr.add_mid, Nat.zero_add] at h
      have hf : wr.frozen? ⟨g, k, none⟩ = false := HOW.out.frozenAt k
      have hzb := HZ.out (zs.getD k 0) (by have := HN.out; rw [List.getD_eq_getElem?_getD, List.getElem?_eq_getElem (by omega)]; exact List.getElem_mem _)
      generalize hz : zs.getD k 0 = z at *
      clear hz
      go_wp2_with fail
      go_roundw
      case rel =>
        refine ⟨k + 1, xs.set k _, by omega, by go_num, (HOW.out.stored k _).1, fun j h1 h2 => ?_, gr_set HBX.out rfl⟩
        rw [List.getElem?_set_ne (by omega)]; exact HRE.out j (by omega) h2
      case measure => simp [intOf]; omega
    · have HBW : Hid (base ≤ wr.heap.size ∧ n ≤ 100000000) := ⟨by have h1 := (HOW.out.lt g rfl); omega, by omega⟩
      go_wp2_with (at_builtin; (refine wpList_append_one rfl (.tmp 17) (.tmp 18) rfl base (.slice (some ⟨g, 0, none⟩) n cp) n xs rfl wr HOW.out _ rfl rfl HBW.out.2 HBW.out.1 ?_; intro g3 cp3 w3 hown3 hgrow3; (have c3 : w3.cell? ⟨g3, n, none⟩ = some (.int .u8 99) := (by rw [hown3.cellAt n (by omega)]; (have hx := HOW.out.1); rw [List.getElem?_append_right (by omega)]; rw [show n - xs.length = 0 by omega]; rfl)); (have f3 := hown3.frozenAt n); (have q3 := own_cap hown3); (have q4 : (n : Int) + 1 ≤ (cp3 : Int) := by omega); (have HG3 : Hid (Gr (.slice (some ⟨g, 0, none⟩) n cp) w (.slice (some ⟨g3, 0, none⟩) (n + 1) cp3) w3) := HBX.out.trans hgrow3); clear hown3 hgrow3 q3))
      go_end0
      exact ⟨⟨_, rfl⟩, Gr.end_ (gr_set HG3.out rfl)⟩

set_option maxRecDepth 20000 in
set_option maxHeartbeats 4000000 in
theorem spoil_none (w : World) : Calls Try.prog 14 #[.slice none 0 0] w fun e w' => (∃ v, e = .returned v) ∧ Gr (.slice none 0 0) w (.slice none 0 0) w' := by
  go_enter Try.func14, Try.ntmps14
  go_wp2_with fail
  go_loopw [2] (fun x wr => x = .int .i64 0 ∧ wr = w) (fun x wr => 0)
  case atStart => exact ⟨rfl, rfl⟩
  case round =>
    obtain ⟨rfl, rfl⟩ := hrel
    go_wp2_with (at_builtin; (refine wpList_append_one rfl (.tmp 17) (.tmp 18) rfl wr.heap.size (.slice none 0 0) 0 [] rfl wr (World.ownsRow_nil _ _ _ _) _ rfl rfl (by decide) (Nat.le_refl _) ?_; intro g3 cp3 w3 hown3 hgrow3; (have c3 : w3.cell? ⟨g3, 0, none⟩ = some (.int .u8 99) := (by rw [hown3.cellAt 0 (by omega)]; rfl)); (have f3 := hown3.frozenAt 0); (have q3 := own_cap hown3); (have q4 : (1 : Int) ≤ (cp3 : Int) := by omega); (have HG3 : Hid (Gr (.slice none 0 0) wr (.slice (some ⟨g3, 0, none⟩) (0 + 1) cp3) w3) := hgrow3); clear hown3 hgrow3 q3))
    go_end0
    exact ⟨⟨_, rfl⟩, Gr.end_ (gr_set HG3.out rfl)⟩
theorem spoil_own {w : World} {base : Nat} {v : Value} {zs : List Int} (h : w.ownsRow base 5 1 v zs.length (u8l zs)) (hz : Byt zs) (hl : (zs.length : Int) ≤ 9000000) :
    Calls Try.prog 14 #[v] w fun e w' => (∃ u, e = .returned u) ∧ Gr v w (.slice none 0 0) w' := by
  rcases h.2 with ⟨rfl, _⟩ | ⟨g, cap, cur, rfl, _⟩
  · exact spoil_none w
  · exact spoil_some base g zs.length cap zs w rfl h hz hl

/-- Bytes that were lent: of room behind them, a mark there. -/
def LentR (W : World) (base : Nat) (v : Value) (bs : List Int) : Prop := ∃ g cap, v = .slice (some ⟨g, 0, none⟩) bs.length cap ∧ W.ownsRow base 5 1 (.slice (some ⟨g, 0, none⟩) (bs.length + 1) cap) (bs.length + 1) (u8l bs ++ [.int .u8 77])
set_option maxRecDepth 20000 in
set_option maxHeartbeats 4000000 in
theorem lent_any {sv : Value} {bs : List Int} (h : Src w sv bs) (hl : bs.length ≤ 2000000) : Calls Try.prog 7 #[sv] w fun e w' => ∃ v, e = .returned v ∧ LentR w' w.heap.size v bs ∧ Below w.heap.size w w' := by
  obtain ⟨sa, sc, rfl⟩ := h.slice
  have HS : Hid (Src w (.slice sa bs.length sc) bs) := h
  obtain ⟨n, hn⟩ : ∃ n, bs.length = n := ⟨_, rfl⟩
  have HL : Hid (n ≤ 2000000 ∧ bs.length = n) := ⟨by omega, hn⟩
  rw [hn] at HS ⊢
  have hni : (n : Int) ≤ 2000000 := by omega
  clear h hl hn
  go_enter Try.func7, Try.ntmps7
  go_wp2_with (at_builtin; first | (refine wpList_append_src rfl (.tmp 4) (.tmp 5) rfl w.heap.size (.slice none 0 0) 0 [] rfl (World.ownsRow_nil _ _ _ _) (.slice sa n sc) bs rfl HS.out (by have := HL.out; omega) (Nat.le_refl _) ?_; intro v1 w1 ho1 hg1; (have H1 : Hid (w1.ownsRow w.heap.size 5 1 v1 n (u8l bs) ∧ Below w.heap.size w w1) := ⟨by rw [show n = 0 + bs.length by have := HL.out; omega]; simpa using ho1, hg1.os, hg1.tape, hg1.output, hg1.size, fun q hq => hg1.block q hq (by simp [Value.ownBlock])⟩); clear ho1 hg1; (obtain ⟨a1, c1, hv1⟩ := own_slice H1.out.1); subst hv1) | (refine wpList_append_one rfl (.tmp 7) (.tmp 8) rfl w.heap.size (.slice a1 n c1) n (u8l bs) rfl w1 H1.out.1 _ rfl rfl (by have := HL.out; omega) H1.out.2.size ?_; intro g3 cp3 w3 hown3 hgrow3; (have q3 := own_cap hown3); (have q4 : (n : Int) + 1 ≤ (cp3 : Int) := by omega); (have H3 : Hid (w3.ownsRow w.heap.size 5 1 (.slice (some ⟨g3, 0, none⟩) (n + 1) cp3) (n + 1) (u8l bs ++ [.int .u8 77]) ∧ Below w.heap.size w w3) := ⟨hown3, H1.out.2.trans (hgrow3.below H1.out.2.size fun q hq => (H1.out.1.lt q hq).1)⟩); clear hown3 hgrow3 q3))
  go_ret
  exact ⟨.slice (some ⟨g3, 0, none⟩) n cp3, rfl, ⟨g3, cp3, by rw [HL.out.2], by rw [HL.out.2]; exact H3.out.1⟩, H3.out.2⟩
end Go.Proofs.Ytflhgphjkhplmaa.D

/- What was lent is kept; two lists of rows are the same. -/
namespace Go.Proofs.Ytflhgphjkhplmaa.D
open Go.RowKit W R
set_option linter.unusedVariables false
set_option linter.unusedSimpArgs false

variable {w w' w0 w1 w2 : World} {base : Nat} {bs : List Int} {lv sv : Value}
theorem LentR.row (h : LentR w base lv bs) : ∃ g cap cur, lv = .slice (some ⟨g, 0, none⟩) bs.length cap ∧ base ≤ g ∧ w.heap[g]? = some (.cells cur 5 (0, 0)) ∧ (∀ w', w'.heap[g]? = w.heap[g]? → LentR w' base lv bs) ∧ (w.ownsRow base 5 1 lv bs.length (u8l bs)) ∧ w.cell? ⟨g, bs.length, none⟩ = some (.int .u8 77) ∧ bs.length + 1 ≤ cap ∧ cap ≤ maxLen := by
  obtain ⟨g, cap, rfl, ho⟩ := h
  obtain ⟨hl, hr⟩ := ho
  rcases hr with ⟨h1, -⟩ | ⟨g', cap', cur, h1, h2, h3, h4, h5, h6, h7⟩
  · cases h1
  · injection h1 with e1 e2 e3
    have e1 : g' = g := by injection e1 with e1; injection e1 with e1; exact e1.symm
    subst e1 e3
    have hx : ((bs.length + 1) * 1) = bs.length + 1 := Nat.mul_one _
    rw [hx] at h7
    refine ⟨g', cap, cur, rfl, h2, h3, fun w' hw => ⟨g', cap, rfl, hl, .inr ⟨g', cap, cur, rfl, h2, hw.trans h3, h4, h5, h6, by rw [hx]; exact h7⟩⟩, ⟨by simp [u8l_len], .inr ⟨g', cap, cur, rfl, h2, h3, by omega, h5, h6, ?_⟩⟩, ?_, h4, h5⟩
    · rw [Nat.mul_one]
      have := congrArg (List.take bs.length) h7
      rw [List.take_take, Nat.min_eq_left (by omega), List.take_append_of_le_length (by rw [u8l_len]; omega), show List.take bs.length (u8l bs) = u8l bs from List.take_of_length_le (by rw [u8l_len]; omega)] at this
      exact this
    · have hr : w.ownsRow base 5 1 (.slice (some ⟨g', 0, none⟩) (bs.length + 1) cap) (bs.length + 1) (u8l bs ++ [.int .u8 77]) := ⟨hl, .inr ⟨g', cap, cur, rfl, h2, h3, h4, h5, h6, by rw [hx]; exact h7⟩⟩
      rw [hr.cellAt bs.length (by omega), List.getElem?_append_right (by rw [u8l_len]; omega), u8l_len, Nat.sub_self]
      rfl
theorem LentR.srcG (h : LentR w base lv bs) {F : Nat → Prop} (hF : ∀ g, lv.ownBlock = some g → ¬ F g) : SrcG w F lv bs := fun W hW => by
  obtain ⟨g, cap, cur, rfl, -, h3, h4, -⟩ := h.row
  have := h4 W (hW g (Array.getElem?_eq_some_iff.1 h3).1 (hF g rfl))
  obtain ⟨_, _, _, -, -, -, -, h5, -⟩ := this.row
  exact own_src h5
set_option maxRecDepth 20000 in
set_option maxHeartbeats 4000000 in
theorem kept_any (h : LentR w base lv bs) (hs : Src w sv bs) (hb : Byt bs) (hl : bs.length ≤ 2000000) : Calls Try.prog 10 #[lv, sv] w fun e w' => e = .returned (.bool true) ∧ w' = w := by
  obtain ⟨g, cap, cur, rfl, -, h3, -, h5, h6, h7, h8⟩ := h.row
  have hc1 := Src.conv (own_src h5) hb
  have hc2 := Src.conv hs hb
  obtain ⟨sa, sc, rfl⟩ := hs.slice
  generalize (⟨(strB bs).toArray⟩ : ByteArray) = T at hc1 hc2
  have hT : (T.toList == T.toList) = true := by simp
  generalize bs.length = n at *
  have h7i : (n : Int) + 1 ≤ (cap : Int) := by omega
  have hni : (n : Int) ≤ 2000000 := by omega
  have f3 := frozen_of_row w g n _ _ h3
  clear h hs hb hl h3 h5 h7
  go_enter Try.func10, Try.ntmps10
  go_wp2_with fail
  go_ret
  exact ⟨rfl, rfl⟩
set_option maxRecDepth 20000 in
set_option maxHeartbeats 4000000 in
/-- Two lists of rows of bytes, alike. -/
theorem same_yes (W : World) (la lb : Value) (A B : List (Value × List Int)) {ba bb : Nat} (ha : W.ownsRow ba 23 1 la A.length (A.map Prod.fst)) (hb : W.ownsRow bb 23 1 lb B.length (B.map Prod.fst)) (hA : ∀ x ∈ A, Src W x.1 x.2 ∧ Byt x.2) (hB : ∀ x ∈ B, Src W x.1 x.2 ∧ Byt x.2) (he : A.map Prod.snd = B.map Prod.snd) (hl : A.length ≤ 2000000) :
    Calls Try.prog 13 #[la, lb] W fun e w' => e = .returned (.bool true) ∧ ∃ n, w' = W.drewN n := by
  obtain ⟨aa, ac, rfl⟩ := own_slice ha
  obtain ⟨ab, bc, rfl⟩ := own_slice hb
  have hAB : A.length = B.length := by have := congrArg List.length he; simpa using this
  obtain ⟨N, hN⟩ : ∃ N, A.length = N := ⟨_, rfl⟩
  rw [← hAB] at hb ⊢
  have HH : Hid (W.ownsRow ba 23 1 (.slice aa A.length ac) A.length (A.map Prod.fst) ∧ W.ownsRow bb 23 1 (.slice ab A.length bc) A.length (B.map Prod.fst) ∧ (∀ x ∈ A, Src W x.1 x.2 ∧ Byt x.2) ∧ (∀ x ∈ B, Src W x.1 x.2 ∧ Byt x.2) ∧ A.map Prod.snd = B.map Prod.snd ∧ A.length = N ∧ A.length = B.length) := ⟨ha, hb, hA, hB, he, hN, hAB⟩
  rw [hN] at hl ⊢
  have hNi : (N : Int) ≤ 2000000 := by omega
  clear ha hb hA hB he hN hAB hl
  go_enter Try.func13, Try.ntmps13
  go_wp2_with fail
  go_loopw [5] (fun x wr => ∃ k : Nat, k ≤ N ∧ x = .int .i64 (k : Int) ∧ ∃ n, wr = W.drewN n) (fun x wr => N - (intOf x).toNat)
  case atStart => exact ⟨0, Nat.zero_le _, rfl, 0, rfl⟩
  case round =>
    obtain ⟨k, hk, rfl, n, rfl⟩ := hrel
    by_cases hlt : k < N
    · obtain ⟨h1, h2, h3, h4, h5, h6, h7⟩ := HH.out
      obtain ⟨ga, ca, rfl⟩ : ∃ g c, aa = some ⟨g, 0, none⟩ := by
        obtain ⟨g, cap, e⟩ := own_form h1 (by omega)
        injection e with e1
        exact ⟨g, 0, e1⟩
      obtain ⟨gb, cb, rfl⟩ : ∃ g c, ab = some ⟨g, 0, none⟩ := by
        obtain ⟨g, cap, e⟩ := own_form h2 (by omega)
        injection e with e1
        exact ⟨g, 0, e1⟩
      have hkA : k < A.length := by omega
      have hkB : k < B.length := by omega
      obtain ⟨⟨va, za⟩, hva⟩ : ∃ x, A[k] = x := ⟨_, rfl⟩
      obtain ⟨⟨vb, zb⟩, hvb⟩ : ∃ x, B[k] = x := ⟨_, rfl⟩
      have hz : za = zb := by
        have h := congrArg (fun l => l[k]?) h5
        simp only [List.getElem?_map, List.getElem?_eq_getElem hkA, List.getElem?_eq_getElem hkB, hva, hvb, Option.map_some, Option.some.injEq] at h
        exact h
      subst hz
      obtain ⟨s1, z1⟩ : Src W va za ∧ Byt za := h3 (va, za) (hva ▸ List.getElem_mem hkA)
      obtain ⟨s2, -⟩ : Src W vb za ∧ Byt za := h4 (vb, za) (hvb ▸ List.getElem_mem hkB)
      have ka : ∀ m, (W.drewN m).cell? ⟨ga, k, none⟩ = some va := fun m => by
        have h := h1.cellAt k (by omega)
        rw [List.getElem?_map, List.getElem?_eq_getElem hkA, hva] at h
        exact h
      have kb : ∀ m, (W.drewN m).cell? ⟨gb, k, none⟩ = some vb := fun m => by
        have h := h2.cellAt k (by omega)
        rw [List.getElem?_map, List.getElem?_eq_getElem hkB, hvb] at h
        exact h
      obtain ⟨aa', ac', rfl⟩ := s1.slice
      obtain ⟨ab', ac2, rfl⟩ := s2.slice
      obtain ⟨T, hT⟩ : ∃ T : ByteArray, (⟨(strB za).toArray⟩ : ByteArray) = T := ⟨_, rfl⟩
      have q1 : ∀ m, (convert 23 9 (.slice aa' za.length ac')).run Try.prog (W.drewN m) = .ok (.string T) (W.drewN m) := fun m => by rw [← hT]; exact Src.conv (w := W.drewN m) s1 z1
      have q2 : ∀ m, (convert 23 9 (.slice ab' za.length ac2)).run Try.prog (W.drewN m) = .ok (.string T) (W.drewN m) := fun m => by rw [← hT]; exact Src.conv (w := W.drewN m) s2 z1
      have hTT : (T.toList == T.toList) = true := by simp
      have hki : (k : Int) < (N : Int) := by omega
      generalize za.length = M at *
      clear h1 h2 h3 h4 h5 h6 h7 s1 s2 z1 hva hvb hT hkA hkB
      go_wp2_with fail
      go_quiet (fail)
      go_wp2_with fail
      go_roundw
      case rel => exact ⟨k + 1, by omega, by go_num, _, rfl⟩
      case measure => simp [intOf]; omega
    · have hkN : k = N := by omega
      subst hkN
      go_wp2_with fail
      go_ret
      exact ⟨rfl, n, rfl⟩
end Go.Proofs.Ytflhgphjkhplmaa.D

/- The good frames: what is sure of each, and of their end. -/
namespace Go.Proofs.Ytflhgphjkhplmaa.W
set_option linter.unusedVariables false
set_option linter.unusedSimpArgs false

theorem gd_all (zs : List Int) : ∀ (k at' last : Nat) (q : Nat × List Int × Nat), q ∈ gdI zs k at' last → ∃ p, fatI zs p = some q
  | 0, at', last, q, h => by simp [gdI] at h
  | k + 1, at', last, q, h => by
    unfold gdI at h
    cases hf : fatI zs at' with
    | none => rw [hf] at h; simp at h
    | some x =>
      obtain ⟨n, r, e⟩ := x
      rw [hf] at h
      simp only at h
      split at h
      · simp at h
      · rcases List.mem_cons.1 h with rfl | h
        · exact ⟨at', hf⟩
        · exact gd_all zs k e n q h
theorem gd_len (zs : List Int) : ∀ (k at' last : Nat), at' ≤ zs.length → (gdI zs k at' last).length + at' ≤ zs.length
  | 0, at', last, h => by simp [gdI]; exact h
  | k + 1, at', last, h => by
    unfold gdI
    cases hf : fatI zs at' with
    | none => simp; exact h
    | some x =>
      obtain ⟨n, r, e⟩ := x
      obtain ⟨f1, f2, f3, f4, f5, f6, f7⟩ := fatI_some hf
      simp only
      split
      · simp; exact h
      · have := gd_len zs k e n f6
        simp
        omega
theorem good_all {zs : List Int} {q : Nat × List Int × Nat} (h : q ∈ goodI zs) : 1 ≤ q.1 ∧ q.1 < 18446744073709551616 ∧ q.2.1.length ≤ 65536 ∧ q.2.2 ≤ zs.length ∧ 0 < q.2.2 := by
  obtain ⟨p, hp⟩ := gd_all zs _ _ _ q h
  obtain ⟨n, r, e⟩ := q
  obtain ⟨f1, f2, f3, f4, f5, f6, f7⟩ := fatI_some hp
  exact ⟨f1, f2, f3, f6, by show 0 < e; omega⟩
theorem good_len (zs : List Int) : (goodI zs).length ≤ zs.length := by
  have := gd_len zs (zs.length + 1) 0 0 (Nat.zero_le _)
  unfold goodI
  omega
end Go.Proofs.Ytflhgphjkhplmaa.W

/- Frames one behind the other, plainly: which are good. -/
namespace Go.Proofs.Ytflhgphjkhplmaa.W
set_option linter.unusedVariables false
set_option linter.unusedSimpArgs false

def frs (s : Nat) : List (List Int) → List Int
  | [] => []
  | b :: l => frI s b ++ frs (s + 1) l
def gdL (s p : Nat) : List (List Int) → List (Nat × List Int × Nat)
  | [] => []
  | b :: l => (s, b, p + (frI s b).length) :: gdL (s + 1) (p + (frI s b).length) l
theorem fat_end (zs : List Int) : fatI zs zs.length = none := by
  cases h : fatI zs zs.length with
  | none => rfl
  | some x =>
    obtain ⟨n, r, e⟩ := x
    obtain ⟨-, -, -, -, -, h6, h7⟩ := fatI_some h
    omega
theorem fr_pos {s : Nat} {b : List Int} (hs : s < 18446744073709551616) (hb : b.length ≤ 65536) : 0 < (frI s b).length := by have := (frI_len hs hb).1; omega
theorem gd_frs : ∀ (l : List (List Int)) (s : Nat) (pre rest : List Int) (k last : Nat), (∀ b ∈ l, b.length ≤ 65536) → 1 ≤ s → s + l.length ≤ 18446744073709551616 → (l ≠ [] → 0 < pre.length → s = (last + 1) % 18446744073709551616) → l.length < k →
    fatI (pre ++ (frs s l ++ rest)) (pre.length + (frs s l).length) = none → gdI (pre ++ (frs s l ++ rest)) k pre.length last = gdL s pre.length l
  | [], s, pre, rest, k, last, hb, hs, hn, hl, hk, hf => by
    obtain ⟨k, rfl⟩ : ∃ j, k = j + 1 := ⟨k - 1, by simp at hk; omega⟩
    unfold gdI
    have hf' : fatI (pre ++ (frs s [] ++ rest)) pre.length = none := by simpa [frs] using hf
    rw [hf']
    rfl
  | b :: l, s, pre, rest, k, last, hb, hs, hn, hl, hk, hf => by
    obtain ⟨k, rfl⟩ : ∃ j, k = j + 1 := ⟨k - 1, by simp at hk; omega⟩
    have hlen : (b :: l).length = l.length + 1 := rfl
    have hb0 := hb b (by simp)
    have e : pre ++ (frs s (b :: l) ++ rest) = pre ++ (frI s b ++ (frs (s + 1) l ++ rest)) := by simp [frs, List.append_assoc]
    have e2 : pre ++ (frs s (b :: l) ++ rest) = (pre ++ frI s b) ++ (frs (s + 1) l ++ rest) := by simp [frs, List.append_assoc]
    have hfr := fatI_frame pre (frs (s + 1) l ++ rest) b s hs (by omega) hb0
    rw [← e] at hfr
    have hp := fr_pos (s := s) (b := b) (by omega) hb0
    unfold gdI
    rw [hfr]
    simp only
    rw [if_neg (by rintro ⟨h1, h2⟩; exact h2 (hl (by simp) h1))]
    have ih := gd_frs l (s + 1) (pre ++ frI s b) rest k s (fun x hx => hb x (by simp [hx])) (by omega) (by omega) (fun hne _ => ?_) (by simp at hk; omega) ?_
    · rw [← e2] at ih
      rw [List.length_append] at ih
      rw [ih]
      rfl
    · cases l with
      | nil => exact absurd rfl hne
      | cons c l => simp at hn; omega
    · rw [← e2]
      have hq : (pre ++ frI s b).length + (frs (s + 1) l).length = pre.length + (frs s (b :: l)).length := by simp [frs]; omega
      rw [hq]
      exact hf
theorem frs_len : ∀ (l : List (List Int)) (s : Nat), (∀ b ∈ l, b.length ≤ 65536) → s + l.length ≤ 18446744073709551616 → l.length ≤ (frs s l).length
  | [], s, hb, hn => Nat.zero_le _
  | b :: l, s, hb, hn => by
    have h1 := frs_len l (s + 1) (fun x hx => hb x (by simp [hx])) (by simp at hn; omega)
    have h2 := fr_pos (s := s) (b := b) (by simp at hn; omega) (hb b (by simp))
    simp [frs]
    omega
/-- The frames of records, one behind the other, are these. -/
theorem good_frs (l : List (List Int)) (s : Nat) (hb : ∀ b ∈ l, b.length ≤ 65536) (hs : 1 ≤ s) (hn : s + l.length ≤ 18446744073709551616) : goodI (frs s l) = gdL s 0 l := by
  have h := gd_frs l s [] [] ((frs s l).length + 1) 0 hb hs hn (fun _ h => by simp at h) (by have := frs_len l s hb hn; omega) (by
    have := fat_end (frs s l)
    simpa using this)
  simpa [goodI] using h
theorem gdL_pl : ∀ (l : List (List Int)) (s p : Nat), (gdL s p l).map (fun q => q.2.1) = l
  | [], s, p => rfl
  | b :: l, s, p => by simp [gdL, gdL_pl l]
theorem gdL_len : ∀ (l : List (List Int)) (s p : Nat), (gdL s p l).length = l.length
  | [], s, p => rfl
  | b :: l, s, p => by simp [gdL, gdL_len l]
theorem gdL_last : ∀ (l : List (List Int)) (s p : Nat) (b : List Int), (gdL s p (l ++ [b])).getLast? = some (s + l.length, b, p + (frs s (l ++ [b])).length)
  | [], s, p, b => by simp [gdL, frs]
  | c :: l, s, p, b => by
    have h := gdL_last l (s + 1) (p + (frI s c).length) b
    rw [List.cons_append]
    show ((s, c, p + (frI s c).length) :: gdL (s + 1) (p + (frI s c).length) (l ++ [b])).getLast? = _
    rw [List.getLast?_cons, h]
    simp [frs]
    omega
/-- No frame begins another one: a frame that is cut is none. -/
theorem fat_cut (pre b : List Int) (s m : Nat) (h0 : 1 ≤ s) (h1 : s < 18446744073709551616) (h2 : b.length ≤ 65536) (hm : m < (frI s b).length) : fatI (pre ++ (frI s b).take m) pre.length = none := by
  cases h : fatI (pre ++ (frI s b).take m) pre.length with
  | none => rfl
  | some x =>
    obtain ⟨n, r, e⟩ := x
    obtain ⟨f1, f2, f3, f4, f5, f6, f7⟩ := fatI_some h
    rw [drop_pre] at f5
    have hle : (frI n r).length ≤ m := by
      have := congrArg List.length f5
      simp at this
      omega
    rw [List.take_take, Nat.min_eq_left hle] at f5
    have e1 := fatI_frame [] [] b s h0 h1 h2
    have e2 := fatI_frame [] ((frI s b).drop (frI n r).length) r n f1 f2 f3
    have hs : frI s b = frI n r ++ (frI s b).drop (frI n r).length := by
      conv => lhs; rw [← List.take_append_drop (frI n r).length (frI s b)]
      rw [f5]
    rw [List.nil_append] at e1 e2
    rw [← hs] at e2
    rw [List.append_nil, e2] at e1
    simp at e1
    omega
end Go.Proofs.Ytflhgphjkhplmaa.W

/- The model's sum; the model's frame. -/
namespace Go.Proofs.Ytflhgphjkhplmaa.W
open Go.RowKit
set_option linter.unusedVariables false
set_option linter.unusedSimpArgs false

variable {w w' : World} {v : Value} {zs : List Int}
set_option maxHeartbeats 1000000 in
theorem rsum_row (b off len cap : Nat) (zs : List Int) (w : World) (hl : len ≤ zs.length) (hm : (len : Int) ≤ 9223372036854775806) (hz : Byt zs)
    (hc : ∀ i, i < len → w.cell? ⟨b, off + i, none⟩ = some (.int .u8 (zs.getD i 0))) :
    Calls Try.prog 37 #[.slice (some ⟨b, off, none⟩) len cap] w fun e w' => e = .returned (.int .u32 (cpI (crI (zs.take len) 4294967295))) ∧ w' = w := by
  go_enter Try.func37, Try.ntmps37
  go_wp2
  go_loop [3, 4] (fun s i => ∃ k : Nat, k ≤ len ∧ i = .int .i64 k ∧ s = .int .u32 (crI (zs.take k) 4294967295)) (fun _ i => len - (intOf i).toNat)
  case atStart => exact ⟨0, Nat.zero_le _, rfl, rfl⟩
  case round =>
    obtain ⟨k, hk, rfl, rfl⟩ := hrel
    obtain ⟨b0, b1⟩ := cr_bd (zs.take k) (byt_take hz k) 4294967295 (by omega) (by omega)
    by_cases hlt : k < len
    · have hck := hc k hlt
      obtain ⟨z0, z1⟩ := byt_at hz k (by omega)
      have HT : Hid (crI (zs.take (k + 1)) 4294967295 = byI (bits .xor .u32 (crI (zs.take k) 4294967295) (zs.getD k 0))) := by
        show _ = _
        rw [take_snoc zs k (by omega), cr_snoc]
      clear hc
      generalize crI (zs.take k) 4294967295 = S at b0 b1 HT ⊢
      generalize zs.getD k 0 = z at hck z0 z1 HT
      obtain ⟨y0, y1⟩ := xor_bd S z b0 b1 z0 (by omega)
      go_wp2
      generalize bits BinOp.xor IntKind.u32 S z = X at y0 y1 HT ⊢
      go_loop [3, 5] (fun s i => ∃ j : Nat, j ≤ 8 ∧ i = .int .i64 j ∧ s = .int .u32 (stN j X)) (fun _ i => 8 - (intOf i).toNat)
      case atStart => exact ⟨0, by omega, rfl, rfl⟩
      case round =>
        obtain ⟨j, hj, rfl, rfl⟩ := hrel
        obtain ⟨d0, d1⟩ := stN_bd X y0 y1 j
        have HS : Hid (stN (j + 1) X = stI (stN j X)) := rfl
        by_cases hlt8 : j < 8
        · have hlt' : (j : Int) < 8 := by omega
          generalize stN j X = x at d0 d1 HS
          have hlo := low_bit x d0 d1
          by_cases c : x % 2 = 1
          · have c' : (x % 2 == 1) = true := by simpa using c
            have HX : Hid (stI x = bits .xor .u32 (x / 2) 2197175160) := by show _ = _; unfold stI; rw [if_pos c]
            clear c
            go_wp2
            go_round
            case rel => exact ⟨j + 1, by omega, by go_num, by rw [HS.out, HX.out]⟩
            case measure => simp [intOf]; omega
          · have c' : (x % 2 == 1) = false := by simpa using c
            have HX : Hid (stI x = x / 2) := by show _ = _; unfold stI; rw [if_neg c]
            clear c
            go_wp2
            go_round
            case rel => exact ⟨j + 1, by omega, by go_num, by rw [HS.out, HX.out]⟩
            case measure => simp [intOf]; omega
        · have : j = 8 := by omega
          subst this
          go_wp2
          go_round
          case rel => exact ⟨k + 1, by omega, by go_num, by rw [HT.out, stN_8]⟩
          case measure => simp [intOf]; omega
    · have : k = len := by omega
      subst this
      go_wp2
      go_ret
      exact ⟨rfl, rfl⟩


theorem rbsum_any (h : Bz w v zs) (h0 : 0 < zs.length) : Calls Try.prog 37 #[v] w fun e w' => e = .returned (.int .u32 (smI zs)) ∧ w' = w := by
  obtain ⟨b, off, c, rfl, -, hR⟩ := h.row h0
  have := rsum_row b off zs.length c zs w (Nat.le_refl _) (by have := h.small; omega) h.byt (fun i hi => hR.cell i hi)
  rwa [List.take_length] at this
theorem src_lit (w : World) (xs : List Int) : Src (w.alloc (.cells (u8l xs).toArray 5)) (.slice (some ⟨w.heap.size, 0, none⟩) xs.length xs.length) xs :=
  .inr ⟨⟨w.heap.size, 0, none⟩, xs.length, rfl, Nat.le_refl _, fun j u hu => by
    rw [Addr.add_mid, Nat.zero_add, cell_of_row _ _ _ _ _ _ (Go.heap_alloc_new _ _)]
    simpa using hu⟩
theorem leN_four (S : Nat) : leN S 4 = [((S % 256 : Nat) : Int), ((S / 256 % 256 : Nat) : Int), ((S / 65536 % 256 : Nat) : Int), ((S / 16777216 % 256 : Nat) : Int)] := by
  simp only [leN, Nat.div_div_eq_div_mul]
set_option maxRecDepth 20000 in
set_option maxHeartbeats 4000000 in
theorem rframe_any {bs : List Int} (seq : Nat) (hs : seq < 18446744073709551616) (hS : Src w v bs) (hz : Byt bs) (hl : bs.length ≤ 4000000) :
    Calls Try.prog 9 #[.int .u64 (seq : Int), v] w fun e w' => (∃ v', e = .returned (.tuple #[v', .int .i64 (frE seq bs.length)]) ∧ (frE seq bs.length = 0 → w'.ownsRow w.heap.size 5 1 v' (frI seq bs).length (u8l (frI seq bs))) ∧ (frE seq bs.length ≠ 0 → v' = .slice none 0 0)) ∧ Below w.heap.size w w' := by
  obtain ⟨a, c, rfl⟩ := hS.slice
  obtain ⟨n, hn⟩ : ∃ n, bs.length = n := ⟨_, rfl⟩
  obtain ⟨y, hy⟩ : ∃ y : Int, (seq : Int) = y := ⟨_, rfl⟩
  by_cases c1 : seq = 0
  · have : frE seq bs.length = 1 := by unfold frE; rw [if_pos c1]
    rw [this]
    subst c1
    go_enter Try.func9, Try.ntmps9
    go_wp2_with fail
    go_ret2
    exact ⟨⟨_, rfl, fun h => by omega, fun _ => rfl⟩, Below.refl _ _⟩
  · have c1' : ¬ y = 0 := by omega
    by_cases c2 : 65536 < n
    · have : frE seq bs.length = 4 := by unfold frE; rw [if_neg c1, if_pos (by omega)]
      rw [this, hy, hn]
      have c2' : (65536 : Int) < (n : Int) := by omega
      have hl' : (n : Int) ≤ 4000000 := by omega
      clear this hy hn hl hS c2 c1
      go_enter Try.func9, Try.ntmps9
      go_wp2_with fail
      go_ret2
      exact ⟨⟨_, rfl, fun h => by omega, fun _ => rfl⟩, Below.refl _ _⟩
    · have he : frE seq bs.length = 0 := by unfold frE; rw [if_neg c1, if_neg (by omega)]
      rw [he, hy, hn]
      have c2' : ¬ (65536 : Int) < (n : Int) := by omega
      have H0 : Hid (Src w (.slice a n c) bs ∧ Byt bs ∧ bs.length = n ∧ n ≤ 65536 ∧ (seq : Int) = y ∧ seq < 18446744073709551616 ∧ 0 ≤ y ∧ y < 18446744073709551616 ∧ y.toNat = seq) := ⟨by rw [← hn]; exact hS, hz, hn, by omega, hy, hs, by omega, by omega, by omega⟩
      have HP1 : Hid (Calls Try.prog 36 #[.slice none 0 0, .int .u64 y] w fun e w1 => (∃ v1, e = .returned v1 ∧ Hid (w1.ownsRow w.heap.size 5 1 v1 (vN seq).length (u8l (vN seq)) ∧ Below w.heap.size w w1))) := by
        refine (put_any (.slice none 0 0) [] y w H0.out.2.2.2.2.2.2.1 H0.out.2.2.2.2.2.2.2.1 (.inl ⟨rfl, rfl⟩) (by simp)).mono ?_
        rintro e w1 ⟨⟨v1, rfl, ho1⟩, hb1⟩
        exact ⟨v1, rfl, by have h := ho1; rw [List.nil_append, H0.out.2.2.2.2.2.2.2.2] at h; exact h, hb1⟩
      have HP2 : Hid (∀ w1 v1, Hid (w1.ownsRow w.heap.size 5 1 v1 (vN seq).length (u8l (vN seq)) ∧ Below w.heap.size w w1) → Calls Try.prog 36 #[v1, .int .u64 (n : Int)] w1 fun e w2 => (∃ v2, e = .returned v2 ∧ Hid (w2.ownsRow w.heap.size 5 1 v2 (vN seq ++ vN n).length (u8l (vN seq ++ vN n)) ∧ Below w.heap.size w w2))) := fun w1 v1 H1 => by
        refine (put_any v1 (vN seq) (n : Int) w1 (by omega) (by have := H0.out; omega) (own_src H1.out.1) (by have := vN_le10 seq H0.out.2.2.2.2.2.1; omega)).mono ?_
        rintro e w2 ⟨⟨v2, rfl, ho2⟩, hb2⟩
        exact ⟨v2, rfl, by have h := ho2; rw [Int.toNat_natCast] at h; exact own_low h H1.out.2.size, H1.out.2.trans (hb2.mono H1.out.2.size)⟩
      obtain ⟨N, hN⟩ : ∃ N, (hdI seq bs).length = N := ⟨_, rfl⟩
      have hdl := hdI_len (b := bs) hs (by omega)
      rw [hN] at hdl
      obtain ⟨s0, s1⟩ := smI_bd (hdI_byt (seq := seq) hz)
      obtain ⟨S, hS2⟩ : ∃ S, (smI (hdI seq bs)).toNat = S := ⟨_, rfl⟩
      have HSM : Hid (∀ w3 a3 k3, Hid (w3.ownsRow w.heap.size 5 1 (.slice a3 N k3) N (u8l (hdI seq bs)) ∧ Below w.heap.size w w3) → Calls Try.prog 37 #[.slice a3 N k3] w3 fun e w' => e = .returned (.int .u32 (S : Int)) ∧ w' = w3) := fun w3 a3 k3 H3 => by
        have := rbsum_any (own_bz (v := .slice a3 N k3) (zs := hdI seq bs) (by rw [hN]; exact H3.out.1) (hdI_byt hz) (by omega)) (by omega)
        rwa [show smI (hdI seq bs) = (S : Int) by omega] at this
      have HN : Hid ((hdI seq bs).length = N ∧ N ≤ 65556 ∧ (smI (hdI seq bs)).toNat = S ∧ hdI seq bs = vN seq ++ vN n ++ bs ∧ (vN seq ++ vN n).length ≤ 20 ∧ (vN seq ++ vN n).length + n = N) := by
        have h1 := vN_le10 seq hs
        have h2 := vN_le10 n (by omega)
        refine ⟨hN, by omega, hS2, by unfold hdI; rw [hn], by simp only [List.length_append]; omega, ?_⟩
        rw [← hN]
        unfold hdI
        simp only [List.length_append, hn]
      have hl' : (n : Int) ≤ 65536 := by omega
      obtain ⟨s, hs'⟩ : ∃ s : Int, (S : Int) = s := ⟨_, rfl⟩
      have HS' : Hid ((S : Int) = s) := hs'
      have q0 : s < 4294967296 := by omega
      have q1 : 0 ≤ s := by omega
      rw [hs'] at HSM
      clear hs'
      clear hS hz hn hy he hl hs c1 c2 hN hdl s0 s1 hS2
      go_enter Try.func9, Try.ntmps9
      go_wp2_with (first
        | (go_at_call 36; refine HP1.out.mono ?_; rintro e w1 ⟨v1, rfl, H1⟩; clear HP1)
        | (go_at_call 36; refine (HP2.out w1 v1 H1).mono ?_; rintro e w2 ⟨v2, rfl, H2⟩; clear HP2)
        | (at_builtin; (refine wpList_append_src rfl (.tmp 21) (.tmp 22) rfl w.heap.size v2 _ (u8l (vN seq ++ vN n)) rfl H2.out.1 (.slice a n c) bs rfl (H0.out.1.later H2.out.2) (by have := HN.out; have := H0.out; omega) H2.out.2.size ?_; intro v3 w3 ho3 hg3; (have ho4 : w3.ownsRow w.heap.size 5 1 v3 N (u8l (hdI seq bs)) := by have h := ho3; rw [H0.out.2.2.1, HN.out.2.2.2.2.2, u8l_app, ← HN.out.2.2.2.1] at h; exact h); (obtain ⟨a3, k3, hv3⟩ := own_slice ho4); subst hv3; (have H3 : Hid (w3.ownsRow w.heap.size 5 1 (.slice a3 N k3) N (u8l (hdI seq bs)) ∧ Below w.heap.size w w3) := ⟨ho4, H2.out.2.grown hg3 H2.out.2.size (fun q hq => (H2.out.1.lt q hq).1)⟩); clear ho3 hg3 ho4))
        | (go_at_call 37; refine (HSM.out w3 a3 k3 H3).mono ?_; rintro e w4 ⟨rfl, hw4⟩; rw [hw4]; clear hw4 HSM)
        | (at_builtin; (refine wpList_append_src rfl (.tmp 26) (.tmp 38) rfl w.heap.size (.slice a3 N k3) N (u8l (hdI seq bs)) rfl (H3.out.1.alloc _) (.slice (some ⟨w3.heap.size, 0, none⟩) 4 4) [s % 256, s / 256 % 256, s / 65536 % 256, s / 16777216] rfl (show Src _ _ _ from src_lit w3 [s % 256, s / 256 % 256, s / 65536 % 256, s / 16777216]) (by have := HN.out; simp; omega) (Nat.le_trans H3.out.2.size (by simp)) ?_; intro v5 w5 ho5 hg5; (have H5 : Hid (w5.ownsRow w.heap.size 5 1 v5 (N + 4) (u8l (hdI seq bs) ++ u8l [s % 256, s / 256 % 256, s / 65536 % 256, s / 16777216]) ∧ Below w.heap.size w w5) := ⟨ho5, (H3.out.2.trans ((bel1 w3 _).mono H3.out.2.size)).grown hg5 (Nat.le_trans H3.out.2.size (by simp)) (fun q hq => (H3.out.1.lt q hq).1)⟩); clear ho5 hg5)))
      go_ret2
      refine ⟨⟨_, rfl, fun _ => ?_, fun h => absurd rfl h⟩, H5.out.2⟩
      have he := HS'.out
      have hf : frI seq bs = hdI seq bs ++ [s % 256, s / 256 % 256, s / 65536 % 256, s / 16777216] := by
        unfold frI
        rw [HN.out.2.2.1, leN_four]
        congr 1
        simp only [List.cons.injEq, and_true]
        omega
      rw [hf, List.length_append, HN.out.1, ← u8l_app]
      exact H5.out.1
end Go.Proofs.Ytflhgphjkhplmaa.W
