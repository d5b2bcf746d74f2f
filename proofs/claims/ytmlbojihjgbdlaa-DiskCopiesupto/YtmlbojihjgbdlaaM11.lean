import Derived.Test.YtmlbojihjgbdlaaM10
import Derived.Test.YtmlbojihjgbdlaaRows
import Derived.Deep.Slices
import Derived.OpenShut
import Derived.ProofKit
/- The model's Crash, walked. -/
namespace Go.Proofs.Ytmlbojihjgbdlaa.D
open Go.RowKit
set_option linter.unusedVariables false
set_option linter.unusedSimpArgs false

variable {w w' w2 wx : World} {R : Nat} {sy : Int} {G P : Nat → Prop} {dl : List Fd} {lv : Value} {m : List Mt} {ks : List Kn} {kv : Value}
set_option maxRecDepth 20000 in
set_option maxHeartbeats 8000000 in
theorem rcrash_all (h : MR w R G sy dl) (hk : KeepsAt P w kv ks) (hP : ∀ q, P q → q < w.heap.size ∧ ¬ G q) (hl : ∀ x ∈ dl, x.b.length ≤ 2000000 ∧ x.ws.length ≤ 2000000 ∧ WsOk x.b.length x.ws) (hdl : dl.length ≤ 1000000) (hkl : (ks.length : Int) ≤ 140737488351232) :
    Calls Try.prog 39 #[.pointer (some ⟨R, 0, none⟩), kv] w fun e w' => e = .returned (.int .i64 (wrE dl [] ks)) ∧ Hid (∃ G', MR w' R G' sy (crA dl ks) ∧ Fr G G' w w') := by
  have HH : Hid (MR w R G sy dl ∧ (∀ q, P q → q < w.heap.size ∧ ¬ G q) ∧ ∀ x ∈ dl, x.b.length ≤ 2000000 ∧ x.ws.length ≤ 2000000 ∧ WsOk x.b.length x.ws) := ⟨h, hP, hl⟩
  have HKA : Hid (KeepsAt P w kv ks) := hk
  obtain ⟨ka, kc, rfl, hkc, -⟩ := hk
  have HWR : Hid (Calls Try.prog 58 #[.pointer (some ⟨R, 0, none⟩), .slice ka ks.length kc] w fun e w' => e = .returned (.int .i64 (wrE dl [] ks)) ∧ DwQ w w') := by
    obtain ⟨lv, m, h1, rfl, -⟩ := h
    rw [xsM_len] at hdl
    exact rwrong_any h1 hdl (fun t ht => (hl t.x (List.mem_map.2 ⟨t, ht, rfl⟩)).2.1) HKA.out hkl
  obtain ⟨n, hn⟩ : ∃ n, ks.length = n := ⟨_, rfl⟩
  obtain ⟨M, hM⟩ : ∃ M, dl.length = M := ⟨_, rfl⟩
  have HN : Hid (ks.length = n ∧ dl.length = M) := ⟨hn, hM⟩
  rw [hn] at hkl hkc HKA HWR ⊢
  rw [hM] at hdl
  have hkci : (n : Int) ≤ (kc : Int) := by omega
  have hMi : (M : Int) ≤ 1000000 := by omega
  clear h hP hl hn hM hkc
  by_cases hz : wrE dl [] ks = 0
  · have HZ : Hid (wrE dl [] ks = 0 ∧ crA dl ks = crD ks dl) := ⟨hz, by unfold crA; rw [if_pos hz]⟩
    rw [hz] at HWR ⊢
    rw [HZ.out.2]
    clear hz
    go_enter Try.func39, Try.ntmps39
    go_upto_region 4 with (go_at_call 58; refine HWR.out.mono ?_; rintro e w1 ⟨rfl, hd1⟩; (have HD1 : Hid (DwQ w w1) := hd1); clear hd1)
    have HRO : Hid (RO w w1 G R sy dl ks 0) := by
      obtain ⟨lv, m, h1, h2, h3⟩ := HH.out.1
      refine ⟨lv, m, h1.at' fun q _ => HD1.out.heap q, ?_, (Fr.newer HD1.out.below).sub fun q hq => (h3 q).2 hq⟩
      rw [h2]
      rfl
    go_wp2_with fail
    go_loopw [6, 7, 8] (fun a _ _ wx => ∃ j : Nat, j ≤ M ∧ a = .int .i64 (j : Int) ∧ Hid (RO w wx G R sy dl ks j)) (fun a _ _ wx => M - (intOf a).toNat)
    case atStart => exact ⟨0, Nat.zero_le _, rfl, HRO⟩
    case round =>
      obtain ⟨j, hj, rfl, HI⟩ := hrel
      obtain ⟨lv, m, ms, mx, mf⟩ := HI.out.ex
      have hml : m.length = M := by rw [RO.len (by have := HN.out; omega) mx]; exact HN.out.2
      obtain ⟨la, lc, hlv⟩ := own_slice ms.row
      have c0 := ms.cells.1
      rw [hlv, hml] at c0
      by_cases hlt : j < M
      · have hlt' : (j : Int) < (M : Int) := by omega
        have HJ : Hid (j < M) := hlt
        obtain ⟨x, hx⟩ : ∃ x, dl[j]? = some x := ⟨_, List.getElem?_eq_getElem (by have := HN.out; omega)⟩
        obtain ⟨t, ht, htx⟩ := RO.at' hx mx
        subst htx
        have HM : Hid (MS wr R lv m sy ∧ xsM m = crD ks (dl.take j) ++ dl.drop j ∧ Fr G (GM R lv m) w wr ∧ m[j]? = some t ∧ dl[j]? = some t.x) := ⟨ms, mx, mf, ht, hx⟩
        have HKW : Hid (∀ V, DwQ wr V → KeepsAt P V (.slice ka n kc) ks) := fun V hV => HKA.out.at' fun q hq => (hV.heap q).trans (mf.block q (HH.out.2.1 q hq).1 (HH.out.2.1 q hq).2)
        have HLT : Hid (∀ q, P q → q < wr.heap.size) := fun q hq => by have h1 := (HH.out.2.1 q hq).1; have h2 := mf.size; omega
        have HSW : Hid (∀ V, DwQ wr V → MS V R lv m sy) := fun V hV => ms.at' fun q _ => hV.heap q
        have HLV : Hid (m.length = M) := hml
        clear ms mx mf hx ht hlt hj hml HI hlv
        go_upto_region 9 with (fail)
        clear c0
        obtain ⟨w1', hw1'⟩ : ∃ w1', wr = w1' := ⟨_, rfl⟩
        rw [hw1'] at HM HKW HLT HSW ⊢
        clear hw1'
        go_wp2_with fail
        go_loopw [7, 8] (fun v a wx => ∃ i : Nat, i ≤ n ∧ a = .int .i64 (i : Int) ∧ (∃ na nl nc, v = .slice na nl nc) ∧ Hid (DwQ w1' wx ∧ NumsP P wx v (kNs t.x.nm (ks.take i)) ∧ ((kNs t.x.nm (ks.take i)).length : Int) ≤ 140737488351232)) (fun v a wx => n - (intOf a).toNat)
        case atStart => exact ⟨0, Nat.zero_le _, rfl, ⟨none, 0, 0, rfl⟩, DwQ.refl _, ⟨none, 0, rfl, Nat.le_refl _, fun i x hi => by simp [kNs, kIx] at hi⟩, by simp [kNs, kIx]⟩
        case round =>
          obtain ⟨i, hi, rfl, ⟨va, vl, vc, rfl⟩, HV⟩ := hrel
          by_cases hli : i < n
          · have hli' : (i : Int) < (n : Int) := by omega
            obtain ⟨k, hki⟩ : ∃ k, ks[i]? = some k := ⟨_, List.getElem?_eq_getElem (by have := HN.out; omega)⟩
            obtain ⟨ka', kc', hkv, -, hcl⟩ := HKW.out wr HV.out.1
            obtain ⟨hna, -, hnc⟩ := Value.slice.inj hkv
            subst hna
            subst hnc
            obtain ⟨nl, kb, ko, nv, hkb, -, k0, k1, knv⟩ := hcl i k hki
            subst hkb
            have HKV : Hid (NumsP P wr nv k.2 ∧ (k.2.length : Int) ≤ 140737488351232) := ⟨knv, nl⟩
            obtain ⟨na, nc, rfl, -⟩ := knv
            obtain ⟨g, cap, hlv, q1, q2, q3, e0, -, -, -, -⟩ := (HSW.out wr HV.out.1).openK HM.out.2.2.2.1
            rw [HLV.out] at q1 q2 q3
            have HKN : Hid (kNs t.x.nm (ks.take (i + 1)) = if t.x.nm = k.1 then k.2 else kNs t.x.nm (ks.take i)) := kNs_step (wrE_zero HZ.out.1).2 hki
            have HII : Hid (i < n) := hli
            have HQD : Hid (∀ m, DwQ w1' (wr.drewN m)) := fun m => HV.out.1.drewN m
            have hdw : ∀ m, DwQ wr (wr.drewN m) := fun m => ⟨m, rfl⟩
            have HNX1 : Hid (∀ m, NumsP P (wr.drewN m) (.slice na k.2.length nc) k.2 ∧ NumsP P (wr.drewN m) (.slice va vl vc) (kNs t.x.nm (ks.take i))) := fun m => ⟨HKV.out.1, HV.out.2.1⟩
            clear hkv hcl nl hki hli hi hdw
            by_cases hq : t.x.nm = k.1
            · have hb : ((tx k.1).toList == (tx t.x.nm).toList) = true := by rw [tx_list, tx_list]; simpa using hq.symm
              have HKQ : Hid (kNs t.x.nm (ks.take (i + 1)) = k.2) := by show _ = _; rw [HKN.out, if_pos hq]
              clear hq
              go_upto_region 11 with (fail)
              go_quiet (fail)
              obtain ⟨W3, hW3⟩ : ∃ W3, wr.drewN nq = W3 := ⟨_, rfl⟩
              have k1' : W3.cell? ⟨kb, ko + i * 2 + 1, none⟩ = some (.slice na k.2.length nc) := by rw [← hW3]; exact k1
              have HREL : Hid (DwQ w1' W3 ∧ NumsP P W3 (.slice na k.2.length nc) (kNs t.x.nm (ks.take (i + 1))) ∧ ((kNs t.x.nm (ks.take (i + 1))).length : Int) ≤ 140737488351232) := by
                show _ ∧ _ ∧ _
                rw [HKQ.out, ← hW3]
                exact ⟨HQD.out _, (HNX1.out _).1, HKV.out.2⟩
              rw [hW3]
              clear hW3 k0 k1 q3 e0
              go_wp2_with fail
              go_roundw
              case rel => exact ⟨i + 1, HII.out, by go_num, ⟨_, _, _, rfl⟩, HREL.out⟩
              case measure => have := HII.out; simp [intOf]; omega
            · have hb : ((tx k.1).toList == (tx t.x.nm).toList) = false := by rw [tx_list, tx_list]; simpa using fun e => hq e.symm
              have HKQ : Hid (kNs t.x.nm (ks.take (i + 1)) = kNs t.x.nm (ks.take i)) := by show _ = _; rw [HKN.out, if_neg hq]
              clear hq
              go_upto_region 11 with (fail)
              go_quiet (fail)
              go_wp2_with fail
              go_roundw
              case rel =>
                refine ⟨i + 1, HII.out, by go_num, ⟨_, _, _, rfl⟩, ?_⟩
                show _ ∧ _ ∧ _
                rw [HKQ.out]
                exact ⟨HQD.out _, (HNX1.out _).2, HV.out.2.2⟩
              case measure => have := HII.out; simp [intOf]; omega
          · obtain rfl : i = n := by omega
            have hgi : ¬ ((i : Int) < (i : Int)) := by omega
            have HVA : Hid (NumsP P wr (.slice va vl vc) (kNs t.x.nm ks) ∧ ((kNs t.x.nm ks).length : Int) ≤ 140737488351232 ∧ ∀ x ∈ kNs t.x.nm ks, 0 ≤ x) := by
              have h1 := HV.out
              have h2 := kNs_all (s := t.x.nm) HZ.out.1 i
              rw [List.take_of_length_le (by have := HN.out; omega)] at h1 h2
              exact ⟨h1.2.1, h1.2.2, h2⟩
            have HD1 : Hid (DwQ w1' wr) := HV.out.1
            clear hli hi HV
            go_upto_region 13 with (fail)
            have hms : MS wr R lv m sy := HSW.out wr HD1.out
            obtain ⟨g, cap, hlv, q1, q2, q3, e0, e1, e2, e3, e4⟩ := hms.openK HM.out.2.2.2.1
            rw [HLV.out] at q1 q2 q3
            have hlt3 := HH.out.2.2 t.x (List.mem_of_getElem? HM.out.2.2.2.2)
            have HCR : Hid (∀ V, DwQ wr V → Calls Try.prog 59 #[.agg #[.string (tx t.x.nm), .slice t.da t.x.b.length t.dc, .int .i64 (safeN t.x.b t.x.ws), .slice t.ba t.x.ws.length t.bc], .slice va vl vc] V fun e w' => ∃ a c, e = .returned (.agg #[.string (tx t.x.nm), .slice a (crB t.x.b t.x.ws (kNs t.x.nm ks)).length c, .int .i64 ((crB t.x.b t.x.ws (kNs t.x.nm ks)).length : Int), .slice none 0 0]) ∧ Hid (w'.ownsRow V.heap.size 5 1 (.slice a (crB t.x.b t.x.ws (kNs t.x.nm ks)).length c) (crB t.x.b t.x.ws (kNs t.x.nm ks)).length (u8l (crB t.x.b t.x.ws (kNs t.x.nm ks))) ∧ Below V.heap.size V w')) := fun V hV =>
              rcrash_any ((hms.ml t (List.mem_of_getElem? HM.out.2.2.2.1)).at' fun q _ => hV.heap q) hlt3.1 hlt3.2.1 hlt3.2.2 ((HVA.out.1.at' fun q _ => hV.heap q).nums fun q hq => by obtain ⟨k, rfl⟩ := hV; obtain ⟨k2, rfl⟩ := HD1.out; exact HLT.out q hq) HVA.out.2.1 HVA.out.2.2
            have HKEY : Hid (∀ (V W : World) (a : Option Addr) (c : Nat), DwQ wr V → W.ownsRow V.heap.size 5 1 (.slice a (crB t.x.b t.x.ws (kNs t.x.nm ks)).length c) (crB t.x.b t.x.ws (kNs t.x.nm ks)).length (u8l (crB t.x.b t.x.ws (kNs t.x.nm ks))) → Below V.heap.size V W → (W.cell? ⟨R, 0, none⟩ = some (.slice (some ⟨g, 0, none⟩) M cap) ∧ W.cell? ⟨g, j * 4, none⟩ = some (.string (tx t.x.nm)) ∧ W.cell? ⟨g, j * 4 + 1, none⟩ = some (.slice t.da t.x.b.length t.dc) ∧ W.cell? ⟨g, j * 4 + 2, none⟩ = some (.int .i64 (safeN t.x.b t.x.ws)) ∧ W.cell? ⟨g, j * 4 + 3, none⟩ = some (.slice t.ba t.x.ws.length t.bc) ∧ ∀ i, W.frozen? ⟨g, i, none⟩ = false) ∧ ∀ d, RO w ((W.setCells g (j * 4) [.string (tx t.x.nm), .slice a (crB t.x.b t.x.ws (kNs t.x.nm ks)).length c, .int .i64 ((crB t.x.b t.x.ws (kNs t.x.nm ks)).length : Int), .slice none 0 0]).drewN d) G R sy dl ks (j + 1)) := fun V W a c hV ho hb => by
              have hbw : Below wr.heap.size wr W := by
                obtain ⟨k, rfl⟩ := hV
                exact ⟨hb.os, hb.tape, hb.output, hb.size, hb.block⟩
              have hVs : V.heap.size = wr.heap.size := by obtain ⟨k, rfl⟩ := hV; rfl
              rw [hVs] at ho
              have hW := hms.newer hbw
              obtain ⟨g', cap', e, -, -, p3, p4⟩ := hW.openK HM.out.2.2.2.1
              rw [hlv] at e
              obtain ⟨e5, -, e6⟩ := Value.slice.inj e
              injection e5 with e5
              injection e5 with e5
              subst e5
              subst e6
              rw [HLV.out] at p3
              refine ⟨⟨p3, p4⟩, fun d => ?_⟩
              have hlv2 := hlv
              have hms2 := hms
              rw [hlv2] at hms2
              obtain ⟨r1, r2⟩ := hms2.turnK (t' := crT t (kNs t.x.nm ks) a c) (w2 := W) HM.out.2.2.2.1 ⟨own_low ho (Nat.zero_le _), World.ownsRow_nil _ _ _ _⟩ (fun q hq => by
                rcases hq with hq | hq
                · exact .inr (ho.lt q hq).1
                · cases hq) (fun q hq _ => hbw.block q hq) ⟨hbw.os, hbw.tape, hbw.output, hbw.size⟩
              have hfr : Fr G (GM R (.slice (some ⟨g, 0, none⟩) m.length cap) m) w wr := by
                have h1 := HM.out.2.2.1
                rw [hlv2] at h1
                exact h1.trans' (Fr.newer HD1.out.below)
              exact ⟨_, _, r1.at' fun _ _ => rfl, RO.next HM.out.2.2.2.2 HM.out.2.1 rfl HM.out.2.2.2.1, (hfr.trans' r2).trans' ⟨rfl, rfl, rfl, Nat.le_refl _, fun _ _ _ => rfl, fun q hq => .inl hq⟩⟩
            generalize crB t.x.b t.x.ws (kNs t.x.nm ks) = cb at *
            obtain ⟨cl, hcl⟩ : ∃ cl, cb.length = cl := ⟨_, rfl⟩
            rw [hcl] at HCR HKEY
            have HDR : Hid (DwQ wr wr.drew) := ⟨1, rfl⟩
            clear hms hlt3 hlv hcl e4
            go_region_with (go_at_call 59; refine (HCR.out _ HDR.out).mono ?_; rintro e w5 ⟨a5, c5, rfl, H5⟩; (obtain ⟨⟨p0, p1, p2, p3, p4, pf⟩, hro⟩ := HKEY.out _ w5 a5 c5 HDR.out H5.out.1 H5.out.2); (have HRO : Hid (∀ d, RO w ((w5.setCells g (j * 4) [.string (tx t.x.nm), .slice a5 cl c5, .int .i64 (cl : Int), .slice none 0 0]).drewN d) G R sy dl ks (j + 1)) := hro); (have f0 := pf (j * 4)); (have f1 := pf (j * 4 + 1)); (have f2 := pf (j * 4 + 2)); (have f3 := pf (j * 4 + 3)); clear hro pf)
            all_goals
              go_wp2_with fail
              go_roundw
              case rel => exact ⟨j + 1, HJ.out, by go_num, HRO.out 0⟩
              case measure => have := HJ.out; simp [intOf]; omega
      · obtain rfl : j = M := by omega
        have hge : ¬ ((j : Int) < (j : Int)) := by omega
        have HFIN : Hid (∃ G', MR wr R G' sy (crD ks dl) ∧ Fr G G' w wr) := by
          rw [List.take_of_length_le (by have := HN.out; omega), List.drop_of_length_le (by have := HN.out; omega), List.append_nil] at mx
          rw [← mx]
          exact ⟨_, ms.mr, mf⟩
        clear hlt hj ms mx mf hlv hml
        go_wp2_with fail
        go_ret
        exact ⟨rfl, HFIN.out⟩
  · have hzb : (wrE dl [] ks == 0) = false := by simpa using hz
    have HZ : Hid (crA dl ks = dl) := by show _ = _; unfold crA; rw [if_neg hz]
    rw [HZ.out]
    generalize wrE dl [] ks = z at *
    go_enter Try.func39, Try.ntmps39
    go_wp2_with (go_at_call 58; refine HWR.out.mono ?_; rintro e w1 ⟨rfl, hd1⟩; (have HD1 : Hid (DwQ w w1) := hd1); clear hd1)
    go_ret
    exact ⟨rfl, G, HH.out.1.newer HD1.out.below, Fr.newer HD1.out.below⟩
end Go.Proofs.Ytmlbojihjgbdlaa.D

/- What comes in: bytes, numbers, Keeps, calls; of bulk at most 1048576. -/
namespace Go.Proofs.Ytmlbojihjgbdlaa.D
open Go.ChangeShapes Go.WideShapes Go.ChangeAt Go.RowKit
set_option linter.unusedVariables false
set_option linter.unusedSimpArgs false

theorem bulk_one {H : Type} (d : DataW H) : 1 ≤ Rows.uptoBulk d := by
  cases d with
  | lit l => cases l <;> simp [Rows.uptoBulk]
  | _ => simp [Rows.uptoBulk]
theorem bulk_len {H : Type} : ∀ l : List (DataW H), l.length ≤ Rows.uptoBulkAll l
  | [] => by simp [Rows.uptoBulkAll]
  | d :: r => by have h1 := bulk_len r; have h2 := bulk_one d; simp only [Rows.uptoBulkAll, List.length_cons]; omega
theorem bulk_mem {H : Type} {d : DataW H} : ∀ {l : List (DataW H)}, d ∈ l → Rows.uptoBulk d ≤ Rows.uptoBulkAll l
  | x :: r, h => by
    simp only [Rows.uptoBulkAll]
    rcases List.mem_cons.1 h with rfl | h
    · omega
    · have := bulk_mem h; omega
theorem bulk_ints {H : Type} {k : IntKind} {a b : List Int} {B : Nat} (h : Rows.uptoBulk (DataW.slice (H := H) (lits k a) (lits k b)) ≤ B) : a.length ≤ B := by
  simp only [Rows.uptoBulk] at h
  have h1 := bulk_len (lits (H := H) k a)
  have h2 : (lits (H := H) k a).length = a.length := by simp [lits]
  omega
theorem plain_addr {W : World} {x : Addr} {v : Value} (h : W.cell? x = some v) : ∃ b off, x = ⟨b, off, none⟩ := by
  obtain ⟨bb, off, sp⟩ := x
  cases sp with
  | none => exact ⟨bb, off, rfl⟩
  | some q =>
    simp [World.cell?] at h
    split at h <;> simp at h
theorem cell_block {W : World} {b o : Nat} {v : Value} (h : W.cell? ⟨b, o, none⟩ = some v) : b < W.heap.size := by
  rcases Nat.lt_or_ge b W.heap.size with h' | h'
  · exact h'
  · simp [World.cell?, Array.getElem?_eq_none h'] at h
theorem tx_of' (P : ByteArray) : P = tx P.data.toList := by cases P; simp [tx]
variable {P : Nat → Prop} {w w' : World}
/-- Bytes as they lie, in blocks of P. -/
def BysP (P : Nat → Prop) (w : World) (v : Value) (bs : List Int) : Prop := ∃ a cap, v = .slice a bs.length cap ∧ bs.length ≤ cap ∧ (a = none → cap = 0) ∧ ∀ (i : Nat) (x : Int), bs[i]? = some x → ∃ b off, a = some ⟨b, off, none⟩ ∧ P b ∧ w.cell? ⟨b, off + i, none⟩ = some (.int .u8 x)
theorem BysP.at' {v : Value} {bs : List Int} (h : BysP P w v bs) (hk : ∀ q, P q → w'.heap[q]? = w.heap[q]?) : BysP P w' v bs := by
  obtain ⟨a, cap, h1, h2, h0, h3⟩ := h
  refine ⟨a, cap, h1, h2, h0, fun i x hi => ?_⟩
  obtain ⟨b, off, e1, e2, e3⟩ := h3 i x hi
  exact ⟨b, off, e1, e2, (cell_same (hk b e2)).trans e3⟩
theorem BysP.src {v : Value} {bs : List Int} (h : BysP P w v bs) : Src w v bs := by
  obtain ⟨a, cap, rfl, h2, h0, h3⟩ := h
  cases a with
  | none =>
    have hb : bs = [] := List.eq_nil_of_length_eq_zero (by have := h0 rfl; omega)
    subst hb
    rw [h0 rfl]
    exact .inl ⟨rfl, rfl⟩
  | some ad =>
    refine .inr ⟨ad, cap, rfl, h2, fun j u hu => ?_⟩
    obtain ⟨x, hx, rfl⟩ : ∃ x, bs[j]? = some x ∧ uV x = u := by
      rw [u8l_uV, List.getElem?_map] at hu
      exact Option.map_eq_some_iff.1 hu
    obtain ⟨b, off, e1, -, e3⟩ := h3 j x hx
    injection e1 with e1
    subst e1
    rw [Addr.add_mid]
    exact e3
theorem BysP.srcG {v : Value} {bs : List Int} {G : Nat → Prop} (h : BysP P w v bs) (hP : ∀ q, P q → q < w.heap.size ∧ ¬ G q) : SrcG w G v bs := fun W hW => (h.at' (w' := W) fun q hq => hW q (hP q hq).1 (hP q hq).2).src
theorem bytes_of {H : Type} {enc : TypeId × Value → H} {W : World} {fuel : Nat} {v : Value} {d : DataW H} {q : List MemPlace} (h : DataW.trod enc Try.prog W 0 (fun _ => true) true fuel 31 [v] = some (d, q)) (hd : Rows.uptoBulk d ≤ 1048576) :
    ∃ bs, BysP (fun b => b < W.heap.size) W v bs ∧ Byt bs ∧ bs.length ≤ 1048576 := by
  rcases open_ints Try.underlying31 Try.underlying5 (by kernel_rfl) h with ⟨hcs, _⟩ | ⟨x, l, c, zs, hcs, _, hl, hm, hz, hx, hcell, hwz⟩
  · simp only [List.cons.injEq, and_true] at hcs
    exact ⟨[], ⟨none, 0, hcs, Nat.le_refl _, fun _ => rfl, fun i x hi => by simp at hi⟩, fun x hx => (nomatch hx), by decide⟩
  · simp only [List.cons.injEq, and_true] at hcs
    have hz' : zs.length = c := by simpa using hz
    simp only [Prod.mk.injEq] at hx
    rw [hx.1] at hd
    have hb := bulk_ints hd
    have hlen : (zs.take l).length = l := by simp; omega
    refine ⟨zs.take l, ⟨some x, c, by rw [hlen]; exact hcs, by omega, fun e => (nomatch e), fun j u hu => ?_⟩, fun y hy => bounds_u8 (hwz y (List.mem_of_mem_take hy)), by rw [hlen]; omega⟩
    have hj : j < l := by have := (List.getElem?_eq_some_iff.1 hu).1; omega
    rw [List.getElem?_take_of_lt hj, List.getElem?_eq_getElem (by omega)] at hu
    have hc := hcell j (by omega)
    rw [List.getD_eq_getElem?_getD, List.getElem?_eq_getElem (by omega)] at hc
    obtain ⟨bb, off, rfl⟩ := plain_addr (x := x) (by have := hcell 0 (by omega); simpa [Addr.add] using this)
    rw [Addr.add_mid] at hc
    refine ⟨bb, off, rfl, cell_block hc, ?_⟩
    rw [hc, ← Option.some.inj hu]
    rfl
theorem nums_of {H : Type} {enc : TypeId × Value → H} {W : World} {fuel : Nat} {v : Value} {d : DataW H} {q : List MemPlace} (h : DataW.trod enc Try.prog W 0 (fun _ => true) true fuel 41 [v] = some (d, q)) (hd : Rows.uptoBulk d ≤ 1048576) :
    ∃ ns, NumsP (fun b => b < W.heap.size) W v ns ∧ ns.length ≤ 1048576 := by
  rcases open_ints Try.underlying41 Try.underlying3 (by kernel_rfl) h with ⟨hcs, _⟩ | ⟨x, l, c, zs, hcs, _, hl, hm, hz, hx, hcell, hwz⟩
  · simp only [List.cons.injEq, and_true] at hcs
    exact ⟨[], ⟨none, 0, hcs, Nat.le_refl _, fun i x hi => by simp at hi⟩, by decide⟩
  · simp only [List.cons.injEq, and_true] at hcs
    have hz' : zs.length = c := by simpa using hz
    simp only [Prod.mk.injEq] at hx
    rw [hx.1] at hd
    have hb := bulk_ints hd
    have hlen : (zs.take l).length = l := by simp; omega
    refine ⟨zs.take l, ⟨some x, c, by rw [hlen]; exact hcs, by omega, fun j u hu => ?_⟩, by rw [hlen]; omega⟩
    have hj : j < l := by have := (List.getElem?_eq_some_iff.1 hu).1; omega
    rw [List.getElem?_take_of_lt hj, List.getElem?_eq_getElem (by omega)] at hu
    have hc := hcell j (by omega)
    rw [List.getD_eq_getElem?_getD, List.getElem?_eq_getElem (by omega)] at hc
    obtain ⟨bb, off, rfl⟩ := plain_addr (x := x) (by have := hcell 0 (by omega); simpa [Addr.add] using this)
    rw [Addr.add_mid] at hc
    refine ⟨bb, off, rfl, cell_block hc, ?_⟩
    rw [hc, ← Option.some.inj hu]
    rfl
set_option maxRecDepth 20000 in
/-- One Keep, as it lies. -/
theorem keep_of {H : Type} {enc : TypeId × Value → H} {W : World} {fuel b o : Nat} {cs : List Value} {x : DataW H × List MemPlace} (hc : W.cells? 0 ⟨b, o, none⟩ 2 = some cs) (h : DataW.trod enc Try.prog W 0 (fun _ => true) true fuel 45 cs = some x) (hd : Rows.uptoBulk x.1 ≤ 1048576) :
    ∃ (k : Kn) (nv : Value), W.cell? ⟨b, o, none⟩ = some (.string (tx k.1)) ∧ W.cell? ⟨b, o + 1, none⟩ = some nv ∧ NumsP (fun b => b < W.heap.size) W nv k.2 ∧ k.2.length ≤ 1048576 := by
  obtain ⟨_, hlen, hcell⟩ := World.cells?_some hc
  obtain ⟨xs, k, hk, hxy, _, hxl, hf⟩ := DataW.trod_struct Try.underlying45 h
  match xs, hxl, cs, hlen with
  | [y0, y1], _, [v0, v1], _ =>
    have g0 := hf 0 _ rfl
    have g1 := hf 1 _ rfl
    have k9 : Try.prog.cellsOf 9 = 1 := by kernel_rfl
    have k41 : Try.prog.cellsOf 41 = 1 := by kernel_rfl
    simp [k9, k41] at g0 g1
    have e0 := hcell 0 (by omega)
    have e1 := hcell 1 (by omega)
    rw [Addr.add_mid] at e0 e1
    simp at e0 e1
    obtain ⟨A, hA, hxA, _⟩ := DataW.trod_string Try.underlying9 g0
    simp only [List.cons.injEq, and_true] at hA
    rw [hxy] at hd
    simp only [List.map_cons, List.map_nil, Rows.uptoBulk, Rows.uptoBulkAll] at hd
    obtain ⟨ns, h1, h2⟩ := nums_of (d := y1.1) (q := y1.2) g1 (by omega)
    refine ⟨(A.data.toList, ns), v1, ?_, e1, h1, h2⟩
    rw [e0, hA]
    exact congrArg (fun x => some (Value.string x)) (tx_of' A)
theorem keeps_of {H : Type} {enc : TypeId × Value → H} {W : World} {fuel : Nat} {v : Value} {d : DataW H} {q : List MemPlace} (h : DataW.trod enc Try.prog W 0 (fun _ => true) true fuel 32 [v] = some (d, q)) (hd : Rows.uptoBulk d ≤ 1048576) :
    ∃ ks, KeepsAt (fun b => b < W.heap.size) W v ks ∧ ks.length ≤ 1048576 := by
  rcases Deep.open_slice Try.underlying32 h with ⟨hcs, _⟩ | ⟨a, len, cap, m, n, D, Pl, hcs, _, hl, hm, hmm, hx, hcell⟩
  · simp only [List.cons.injEq, and_true] at hcs
    subst hcs
    exact ⟨[], ⟨none, 0, rfl, Nat.le_refl _, fun i f hi => by simp at hi⟩, by decide⟩
  · simp only [List.cons.injEq, and_true] at hcs
    subst hcs
    simp only [Prod.mk.injEq] at hx
    rw [hx.1] at hd
    simp only [Rows.uptoBulk] at hd
    have hmc : m = cap := by simpa using hmm
    have hlen := bulk_len ((List.range len).map D)
    simp only [List.length_map, List.length_range] at hlen
    have k45 : Try.prog.cellsOf 45 = 2 := by kernel_rfl
    rw [k45] at hcell
    by_cases h0 : len = 0
    · subst h0
      exact ⟨[], ⟨some a, cap, rfl, Nat.zero_le _, fun i f hi => by simp at hi⟩, by decide⟩
    · obtain ⟨b, off, rfl⟩ : ∃ b off, a = ⟨b, off, none⟩ := by
        obtain ⟨cs, h1, _⟩ := hcell 0 (by omega)
        obtain ⟨_, hlen', hc'⟩ := World.cells?_some h1
        have h2 := hc' 0 (by omega)
        exact plain_addr (x := a) (v := cs[0]'(by omega)) (by
          have h3 : W.cell? a = cs[0]? := by simpa [Addr.add] using h2
          rw [h3]
          exact List.getElem?_eq_getElem (by omega))
      have each : ∀ i, i < len → ∃ k : Kn, ∃ nv : Value, W.cell? ⟨b, off + i * 2, none⟩ = some (.string (tx k.1)) ∧ W.cell? ⟨b, off + i * 2 + 1, none⟩ = some nv ∧ NumsP (fun b => b < W.heap.size) W nv k.2 ∧ k.2.length ≤ 1048576 := fun i hi => by
        obtain ⟨cs, h1, h2⟩ := hcell i (by omega)
        rw [Addr.add_mid] at h1
        have hmem : D i ∈ (List.range len).map D := List.mem_map.2 ⟨i, List.mem_range.2 hi, rfl⟩
        have hb := bulk_mem hmem
        exact keep_of h1 h2 (by show Rows.uptoBulk (D i) ≤ _; omega)
      have inh : Inhabited Kn := ⟨([], [])⟩
      obtain ⟨F, hF⟩ := Deep.choose_lt each
      refine ⟨(List.range len).map F, ⟨some ⟨b, off, none⟩, cap, by simp, by simpa using hl, fun i f hi => ?_⟩, by simp; omega⟩
      rw [List.getElem?_map] at hi
      have hil : i < len := by
        cases hq : (List.range len)[i]? with
        | none => rw [hq] at hi; cases hi
        | some y => have := (List.getElem?_eq_some_iff.1 hq).1; simpa using this
      rw [List.getElem?_range hil] at hi
      have hfe : F i = f := by simpa using hi
      obtain ⟨nv, c0, c1, c2, c3⟩ := hF i hil
      rw [hfe] at c0 c2 c3
      exact ⟨by omega, b, off, nv, rfl, cell_block c0, c0, c1, c2⟩
/-- A call that came in, as its cells say. -/
structure Cl where
  kind : Int
  nm : List UInt8
  nm2 : List UInt8
  n : Int
  b : List Int
  ks : List Kn
  bv : Value
  kv : Value
/-- The cells of a call, in blocks of P. -/
def ClAt (P : Nat → Prop) (w : World) (b o : Nat) (c : Cl) : Prop := P b ∧ w.cell? ⟨b, o, none⟩ = some (.int .i64 c.kind) ∧ w.cell? ⟨b, o + 1, none⟩ = some (.string (tx c.nm)) ∧ w.cell? ⟨b, o + 2, none⟩ = some (.string (tx c.nm2)) ∧ w.cell? ⟨b, o + 3, none⟩ = some (.int .i64 c.n) ∧ w.cell? ⟨b, o + 4, none⟩ = some c.bv ∧ w.cell? ⟨b, o + 5, none⟩ = some c.kv ∧ BysP P w c.bv c.b ∧ KeepsAt P w c.kv c.ks
structure Cl.Fit (c : Cl) : Prop where
  byt : Byt c.b
  bl : c.b.length ≤ 1048576
  kl : c.ks.length ≤ 1048576
  nml : (c.nm.length : Int) ≤ 140737488351232
  tol : (c.nm2.length : Int) ≤ 140737488351232
def OpsAt (P : Nat → Prop) (w : World) (v : Value) (cs : List Cl) : Prop := ∃ a cap, v = .slice a cs.length cap ∧ cs.length ≤ cap ∧ ∀ (i : Nat) (c : Cl), cs[i]? = some c → c.Fit ∧ ∃ b off, a = some ⟨b, off, none⟩ ∧ ClAt P w b (off + i * 6) c
end Go.Proofs.Ytmlbojihjgbdlaa.D

/- The model's lesser calls: Rename refused; bytes spoilt; conversions. -/
namespace Go.Proofs.Ytmlbojihjgbdlaa.D
open Go.RowKit
set_option linter.unusedVariables false
set_option linter.unusedSimpArgs false

variable {w w' w2 : World} {R : Nat} {sy : Int} {G : Nat → Prop} {dl : List Fd} {s s' : List UInt8} {x : Fd}
set_option maxRecDepth 20000 in
theorem rrename_no (h : MR w R G sy dl) (hl : dl.length ≤ 1000000) (hs : lkF s dl = none) (v : Value) : Calls Try.prog 37 #[.pointer (some ⟨R, 0, none⟩), .string (tx s), v] w fun e w' => e = .returned (.int .i64 5) ∧ w' = w := by
  obtain ⟨lv, m, h1, rfl, -⟩ := h
  rw [xsM_len] at hl
  have HF : Hid (Calls Try.prog 55 #[.pointer (some ⟨R, 0, none⟩), .string (tx s)] w fun e w' => e = .returned (.int .i64 (-1)) ∧ w' = w) := by
    have := h1.find (by omega) s
    rw [ixM_no hs] at this
    exact this
  clear h1 hl hs
  go_enter Try.func37, Try.ntmps37
  go_wp2_with (go_at_call 55; refine HF.out.mono ?_; rintro e w1 ⟨rfl, hw1⟩; rw [hw1]; clear hw1)
  go_ret
  exact ⟨rfl, rfl⟩
set_option maxRecDepth 20000 in
theorem rrename_bad (h : MR w R G sy dl) (hl : dl.length ≤ 1000000) (hs : lkF s dl = some x) (hsl : (s'.length : Int) ≤ 140737488351232) (hn : nameB s' = false) : Calls Try.prog 37 #[.pointer (some ⟨R, 0, none⟩), .string (tx s), .string (tx s')] w fun e w' => e = .returned (.int .i64 40) ∧ w' = w := by
  obtain ⟨lv, m, h1, rfl, hG⟩ := h
  rw [xsM_len] at hl
  obtain ⟨k, t, k1, k2, -⟩ := ixM_lk hs
  have HF : Hid (Calls Try.prog 55 #[.pointer (some ⟨R, 0, none⟩), .string (tx s)] w fun e w' => e = .returned (.int .i64 (k : Int)) ∧ w' = w) := by
    have := h1.find (by omega) s
    rw [k1] at this
    exact this
  have HNM : Hid (Calls Try.prog 10 #[.string (tx s')] w fun e w' => e = .returned (.bool false) ∧ w' = w) := by
    have := rname_any s' w hsl
    rw [hn] at this
    exact this
  have hk0 : ¬ (k : Int) < 0 := by omega
  clear h1 hl hs hn hsl k1 k2 hG
  go_enter Try.func37, Try.ntmps37
  go_wp2_with (first | (go_at_call 55; refine HF.out.mono ?_; rintro e w1 ⟨rfl, hw1⟩; rw [hw1]; clear hw1) | (go_at_call 10; refine HNM.out.mono ?_; rintro e w1 ⟨rfl, hw1⟩; rw [hw1]; clear hw1))
  go_ret
  exact ⟨rfl, rfl⟩
theorem Gr.end_ {v v' : Value} {w w' : World} (h : Gr v w v' w') : Gr v w (.slice none 0 0) w' := ⟨h.os, h.tape, h.output, h.size, h.block, fun g hg => by cases hg⟩
theorem gr_set {v v' : Value} {w w' : World} (h : Gr v w v' w') {g k : Nat} {x : Value} (hg : v'.ownBlock = some g) : Gr v w v' (w'.setCell ⟨g, k, none⟩ x) := by
  refine ⟨h.os, h.tape, h.output, by simpa using h.size, fun q hq hv => ?_, h.near⟩
  have hne : q ≠ g := by
    rintro rfl
    rcases h.near q hg with e | e
    · exact hv e
    · omega
  rw [Below.heap_setCell _ _ _ _ hne]
  exact h.block q hq hv

set_option maxRecDepth 20000 in
set_option maxHeartbeats 4000000 in
theorem spoil_some (base g n cp : Nat) (zs : List Int) (w : World) (hn : n = zs.length) (h : w.ownsRow base 5 1 (.slice (some ⟨g, 0, none⟩) n cp) n (u8l zs)) (hz : Byt zs) (hl : (zs.length : Int) ≤ 9000000) :
    Calls Try.prog 34 #[.slice (some ⟨g, 0, none⟩) n cp] w fun e w' => (∃ v, e = .returned v) ∧ Gr (.slice (some ⟨g, 0, none⟩) n cp) w (.slice none 0 0) w' := by
  have HO : Hid (w.ownsRow base 5 1 (.slice (some ⟨g, 0, none⟩) n cp) n (u8l zs)) := h
  have HZ : Hid (Byt zs) := hz
  have HN : Hid (n = zs.length) := hn
  have hcap : (n : Int) ≤ (cp : Int) := by have := own_cap h; omega
  have hn5 : (n : Int) ≤ 10000000 := by omega
  clear h hz hn hl
  go_enter Try.func34, Try.ntmps34
  go_wp2_with fail
  go_loopw [2] (fun x wr => ∃ (k : Nat) (xs : List Value), k ≤ n ∧ x = .int .i64 k ∧ wr.ownsRow base 5 1 (.slice (some ⟨g, 0, none⟩) n cp) n xs ∧ (∀ j, k ≤ j → j < n → xs[j]? = some (.int .u8 (zs.getD j 0))) ∧ Gr (.slice (some ⟨g, 0, none⟩) n cp) w (.slice (some ⟨g, 0, none⟩) n cp) wr) (fun x wr => n - (intOf x).toNat)
  case atStart =>
    refine ⟨0, u8l zs, by omega, rfl, HO.out, fun j _ hj => ?_, Gr.refl _ _⟩
    have hn := HN.out
    simp [u8l, List.getD_eq_getElem?_getD, List.getElem?_eq_getElem (show j < zs.length by omega)]
  case round =>
    obtain ⟨k, xs, hk, rfl, hown, hrest, hbx⟩ := hrel
    have HOW : Hid (wr.ownsRow base 5 1 (.slice (some ⟨g, 0, none⟩) n cp) n xs) := hown
    have HRE : Hid (∀ j, k ≤ j → j < n → xs[j]? = some (.int .u8 (zs.getD j 0))) := hrest
    have HBX : Hid (Gr (.slice (some ⟨g, 0, none⟩) n cp) w (.slice (some ⟨g, 0, none⟩) n cp) wr) := hbx
    clear hown hrest hbx
    by_cases hlt : k < n
    · have hc : wr.cell? ⟨g, k, none⟩ = some (.int .u8 (zs.getD k 0)) := by
        have h := HOW.out.cells (g := g) rfl k _ (HRE.out k (Nat.le_refl _) hlt)
        rwa [Addr.add_mid, Nat.zero_add] at h
      have hf : wr.frozen? ⟨g, k, none⟩ = false := HOW.out.frozenAt k
      have hzb := HZ.out (zs.getD k 0) (by have := HN.out; rw [List.getD_eq_getElem?_getD, List.getElem?_eq_getElem (by omega)]; exact List.getElem_mem _)
      generalize hz : zs.getD k 0 = z at *
      clear hz
      go_wp2_with fail
      go_roundw
      case rel =>
        refine ⟨k + 1, xs.set k _, by omega, by go_num, (HOW.out.stored k _).1, fun j h1 h2 => ?_, gr_set HBX.out rfl⟩
        rw [List.getElem?_set_ne (by omega)]; exact HRE.out j (by omega) h2
      case measure => simp [intOf]; omega
    · have HBW : Hid (base ≤ wr.heap.size ∧ n ≤ 100000000) := ⟨by have h1 := (HOW.out.lt g rfl); omega, by omega⟩
      go_wp2_with (at_builtin; (refine wpList_append_one rfl (.tmp 17) (.tmp 18) rfl base (.slice (some ⟨g, 0, none⟩) n cp) n xs rfl wr HOW.out _ rfl rfl HBW.out.2 HBW.out.1 ?_; intro g3 cp3 w3 hown3 hgrow3; (have c3 : w3.cell? ⟨g3, n, none⟩ = some (.int .u8 99) := (by rw [hown3.cellAt n (by omega)]; (have hx := HOW.out.1); rw [List.getElem?_append_right (by omega)]; rw [show n - xs.length = 0 by omega]; rfl)); (have f3 := hown3.frozenAt n); (have q3 := own_cap hown3); (have q4 : (n : Int) + 1 ≤ (cp3 : Int) := by omega); (have HG3 : Hid (Gr (.slice (some ⟨g, 0, none⟩) n cp) w (.slice (some ⟨g3, 0, none⟩) (n + 1) cp3) w3) := HBX.out.trans hgrow3); clear hown3 hgrow3 q3))
      go_end0
      exact ⟨⟨_, rfl⟩, Gr.end_ (gr_set HG3.out rfl)⟩

set_option maxRecDepth 20000 in
set_option maxHeartbeats 4000000 in
theorem spoil_none (w : World) : Calls Try.prog 34 #[.slice none 0 0] w fun e w' => (∃ v, e = .returned v) ∧ Gr (.slice none 0 0) w (.slice none 0 0) w' := by
  go_enter Try.func34, Try.ntmps34
  go_wp2_with fail
  go_loopw [2] (fun x wr => x = .int .i64 0 ∧ wr = w) (fun x wr => 0)
  case atStart => exact ⟨rfl, rfl⟩
  case round =>
    obtain ⟨rfl, rfl⟩ := hrel
    go_wp2_with (at_builtin; (refine wpList_append_one rfl (.tmp 17) (.tmp 18) rfl wr.heap.size (.slice none 0 0) 0 [] rfl wr (World.ownsRow_nil _ _ _ _) _ rfl rfl (by decide) (Nat.le_refl _) ?_; intro g3 cp3 w3 hown3 hgrow3; (have c3 : w3.cell? ⟨g3, 0, none⟩ = some (.int .u8 99) := (by rw [hown3.cellAt 0 (by omega)]; rfl)); (have f3 := hown3.frozenAt 0); (have q3 := own_cap hown3); (have q4 : (1 : Int) ≤ (cp3 : Int) := by omega); (have HG3 : Hid (Gr (.slice none 0 0) wr (.slice (some ⟨g3, 0, none⟩) (0 + 1) cp3) w3) := hgrow3); clear hown3 hgrow3 q3))
    go_end0
    exact ⟨⟨_, rfl⟩, Gr.end_ (gr_set HG3.out rfl)⟩
theorem spoil_own {w : World} {base : Nat} {v : Value} {zs : List Int} (h : w.ownsRow base 5 1 v zs.length (u8l zs)) (hz : Byt zs) (hl : (zs.length : Int) ≤ 9000000) :
    Calls Try.prog 34 #[v] w fun e w' => (∃ u, e = .returned u) ∧ Gr v w (.slice none 0 0) w' := by
  rcases h.2 with ⟨rfl, _⟩ | ⟨g, cap, cur, rfl, _⟩
  · exact spoil_none w
  · exact spoil_some base g zs.length cap zs w rfl h hz hl

def strB (zs : List Int) : List UInt8 := zs.map fun x => UInt8.ofNat x.toNat
theorem conv_cells (w : World) (ad : Addr) (cap : Nat) (zs : List Int) (hz : Byt zs) (hC : ∀ j u, (u8l zs)[j]? = some u → w.cell? (ad.add j) = some u) :
    (convert 31 9 (.slice (some ad) zs.length cap)).run Try.prog w = .ok (.string ⟨(strB zs).toArray⟩) w := by
  have h := run_convert_bytes_back (P := Try.prog) w 31 9 5 ad cap (strB zs) Try.underlying31 Try.underlying5 Try.underlying9 (fun j hj => by
    unfold strB at hj ⊢
    rw [List.length_map] at hj
    have hb := hz (zs.getD j 0) (by rw [List.getD_eq_getElem?_getD, List.getElem?_eq_getElem hj]; exact List.getElem_mem _)
    rw [List.getD_eq_getElem?_getD, List.getElem?_eq_getElem hj] at hb
    simp only [Option.getD_some] at hb
    refine hC j _ ?_
    unfold u8l
    rw [List.getElem?_map, List.getElem?_eq_getElem hj, List.getElem_map, UInt8.toNat_ofNat_of_lt' (by show _ < 256; omega)]
    simp only [Option.map_some, Option.some.injEq, Value.int.injEq, true_and]
    omega)
  unfold strB at h
  rw [List.length_map] at h
  exact h
/-- Bytes as a text. -/
theorem Src.conv {w : World} {sv : Value} {bs : List Int} (h : Src w sv bs) (hb : Byt bs) : (convert 31 9 sv).run Try.prog w = .ok (.string ⟨(strB bs).toArray⟩) w := by
  rcases h with ⟨rfl, rfl⟩ | ⟨ad, cap, rfl, _, hC⟩
  · exact (show (convert 31 9 (.slice none 0 0)).run Try.prog w = .ok (.string ⟨#[]⟩) w by kernel_rfl)
  · exact conv_cells w ad cap bs hb hC
theorem strB_inj {a b : List Int} (ha : Byt a) (hb : Byt b) (h : strB a = strB b) : a = b := by
  induction a generalizing b with
  | nil => cases b with
    | nil => rfl
    | cons y b => simp [strB] at h
  | cons x a ih => cases b with
    | nil => simp [strB] at h
    | cons y b =>
      simp only [strB, List.map_cons, List.cons.injEq] at h
      have hx := ha x (List.mem_cons_self ..)
      have hy := hb y (List.mem_cons_self ..)
      have h1 := congrArg UInt8.toNat h.1
      rw [UInt8.toNat_ofNat_of_lt' (by show _ < 256; omega), UInt8.toNat_ofNat_of_lt' (by show _ < 256; omega)] at h1
      rw [ih (fun c hc => ha c (List.mem_cons_of_mem _ hc)) (fun c hc => hb c (List.mem_cons_of_mem _ hc)) h.2]
      congr 1
      omega

/-- Bytes that were lent: of room behind them, a mark there. -/
def LentR (W : World) (base : Nat) (v : Value) (bs : List Int) : Prop := ∃ g cap, v = .slice (some ⟨g, 0, none⟩) bs.length cap ∧ W.ownsRow base 5 1 (.slice (some ⟨g, 0, none⟩) (bs.length + 1) cap) (bs.length + 1) (u8l bs ++ [.int .u8 77])
set_option maxRecDepth 20000 in
set_option maxHeartbeats 4000000 in
theorem lent_any {sv : Value} {bs : List Int} (h : Src w sv bs) (hl : bs.length ≤ 2000000) : Calls Try.prog 31 #[sv] w fun e w' => ∃ v, e = .returned v ∧ LentR w' w.heap.size v bs ∧ Below w.heap.size w w' := by
  obtain ⟨sa, sc, rfl⟩ := h.slice
  have HS : Hid (Src w (.slice sa bs.length sc) bs) := h
  obtain ⟨n, hn⟩ : ∃ n, bs.length = n := ⟨_, rfl⟩
  have HL : Hid (n ≤ 2000000 ∧ bs.length = n) := ⟨by omega, hn⟩
  rw [hn] at HS ⊢
  have hni : (n : Int) ≤ 2000000 := by omega
  clear h hl hn
  go_enter Try.func31, Try.ntmps31
  go_wp2_with (at_builtin; first | (refine wpList_append_src rfl (.tmp 4) (.tmp 5) rfl w.heap.size (.slice none 0 0) 0 [] rfl (World.ownsRow_nil _ _ _ _) (.slice sa n sc) bs rfl HS.out (by have := HL.out; omega) (Nat.le_refl _) ?_; intro v1 w1 ho1 hg1; (have H1 : Hid (w1.ownsRow w.heap.size 5 1 v1 n (u8l bs) ∧ Below w.heap.size w w1) := ⟨by rw [show n = 0 + bs.length by have := HL.out; omega]; simpa using ho1, hg1.os, hg1.tape, hg1.output, hg1.size, fun q hq => hg1.block q hq (by simp [Value.ownBlock])⟩); clear ho1 hg1; (obtain ⟨a1, c1, hv1⟩ := own_slice H1.out.1); subst hv1) | (refine wpList_append_one rfl (.tmp 7) (.tmp 8) rfl w.heap.size (.slice a1 n c1) n (u8l bs) rfl w1 H1.out.1 _ rfl rfl (by have := HL.out; omega) H1.out.2.size ?_; intro g3 cp3 w3 hown3 hgrow3; (have q3 := own_cap hown3); (have q4 : (n : Int) + 1 ≤ (cp3 : Int) := by omega); (have H3 : Hid (w3.ownsRow w.heap.size 5 1 (.slice (some ⟨g3, 0, none⟩) (n + 1) cp3) (n + 1) (u8l bs ++ [.int .u8 77]) ∧ Below w.heap.size w w3) := ⟨hown3, H1.out.2.trans (hgrow3.below H1.out.2.size fun q hq => (H1.out.1.lt q hq).1)⟩); clear hown3 hgrow3 q3))
  go_ret
  exact ⟨.slice (some ⟨g3, 0, none⟩) n cp3, rfl, ⟨g3, cp3, by rw [HL.out.2], by rw [HL.out.2]; exact H3.out.1⟩, H3.out.2⟩
end Go.Proofs.Ytmlbojihjgbdlaa.D

/- What each call does to the files: pure, with what it answers; what holds of the files between calls. -/
namespace Go.Proofs.Ytmlbojihjgbdlaa.D
open Go.RowKit
set_option linter.unusedVariables false
set_option linter.unusedSimpArgs false

variable {w w' : World} {D R : Nat} {sy : Int} {F G : Nat → Prop} {dl : List Fd} {s s' : List UInt8} {x : Fd} {bs : List Int}
structure Inv (k : Nat) (sy : Int) (dl : List Fd) : Prop where
  len : dl.length ≤ 64
  each : ∀ x ∈ dl, Byt x.b ∧ x.b.length ≤ 1048576 ∧ x.ws.length ≤ k ∧ WsOk x.b.length x.ws
  lo : 0 ≤ sy
  hi : sy ≤ k
def apE (s : List UInt8) (bs : List Int) (dl : List Fd) : Int := if nameB s = false then 40 else match lkF s dl with
  | some x => if (bs.length : Int) ≤ 1048576 - x.b.length then 0 else 4
  | none => if dl.length = 64 then 7 else 0
def apD (s : List UInt8) (bs : List Int) (dl : List Fd) : List Fd := if nameB s = false then dl else match lkF s dl with
  | some x => if (bs.length : Int) ≤ 1048576 - x.b.length then resA s x bs dl else dl
  | none => if dl.length = 64 then dl else resA s ⟨s, [], []⟩ bs (insF ⟨s, [], []⟩ dl)
def syE (s : List UInt8) (dl : List Fd) : Int := match lkF s dl with | none => 5 | some _ => 0
def syD (s : List UInt8) (dl : List Fd) : List Fd := match lkF s dl with | none => dl | some x => setF s x.b [] dl
def syN (s : List UInt8) (dl : List Fd) (sy : Int) : Int := match lkF s dl with | none => sy | some _ => sy + 1
def cuE (s : List UInt8) (n : Int) (dl : List Fd) : Int := match lkF s dl with | none => 5 | some x => if n < 0 ∨ (x.b.length : Int) < n then 1 else 0
def cuD (s : List UInt8) (n : Int) (dl : List Fd) : List Fd := match lkF s dl with | none => dl | some x => if n < 0 ∨ (x.b.length : Int) < n then dl else setF s (x.b.take n.toNat) [] dl
def mvE (s s' : List UInt8) (dl : List Fd) : Int := match lkF s dl with | none => 5 | some _ => if nameB s' = false then 40 else 0
def mvD (s s' : List UInt8) (dl : List Fd) : List Fd := match lkF s dl with | none => dl | some x => if nameB s' = false then dl else renF s s' x dl
def rmE (s : List UInt8) (dl : List Fd) : Int := match lkF s dl with | none => 5 | some _ => 0
def rmD (s : List UInt8) (dl : List Fd) : List Fd := outF s dl

theorem lk_mem : ∀ {dl : List Fd} {s : List UInt8} {x : Fd}, lkF s dl = some x → x ∈ dl := fun h => by
  obtain ⟨-, a, b, rfl, -⟩ := lkF_some h
  simp
theorem insF_perm (x : Fd) : ∀ dl : List Fd, (x :: dl).Perm (insF x dl)
  | [] => .refl _
  | y :: r => by
    unfold insF
    split
    · exact (List.Perm.swap y x r).trans ((insF_perm x r).cons y)
    · exact .refl _
theorem outF_perm {dl : List Fd} (h : lkF s dl = some x) : dl.Perm (outF s dl ++ [x]) := by
  obtain ⟨-, a, b, rfl, e, -⟩ := lkF_some h
  rw [e]
  refine (List.perm_middle).trans ?_
  exact (List.perm_append_comm (l₁ := [x]) (l₂ := a ++ b))
theorem outF_mem : ∀ {dl : List Fd} {y : Fd}, y ∈ outF s dl → y ∈ dl
  | [], y, h => h
  | z :: r, y, h => by
    unfold outF at h
    split at h
    · exact List.mem_cons_of_mem _ h
    · rcases List.mem_cons.1 h with rfl | h
      · exact List.mem_cons_self ..
      · exact List.mem_cons_of_mem _ (outF_mem h)
theorem outF_len : ∀ dl : List Fd, (outF s dl).length ≤ dl.length
  | [] => Nat.le_refl _
  | z :: r => by
    unfold outF
    split
    · simp
    · have := outF_len r
      simp; omega
theorem setF_mem {b ws : List Int} : ∀ {dl : List Fd} {y : Fd}, y ∈ setF s b ws dl → y ∈ dl ∨ y = ⟨s, b, ws⟩
  | [], y, h => .inl h
  | z :: r, y, h => by
    unfold setF at h
    split at h
    · rename_i e
      rcases List.mem_cons.1 h with h | h
      · exact .inr (by rw [h, e])
      · exact .inl (List.mem_cons_of_mem _ h)
    · rcases List.mem_cons.1 h with rfl | h
      · exact .inl (List.mem_cons_self ..)
      · exact (setF_mem h).imp (List.mem_cons_of_mem _) id
theorem setF_len {b ws : List Int} : ∀ dl : List Fd, (setF s b ws dl).length = dl.length
  | [] => rfl
  | z :: r => by
    unfold setF
    split
    · rfl
    · simp [setF_len r]
theorem insF_mem {x y : Fd} {dl : List Fd} (h : y ∈ insF x dl) : y ∈ dl ∨ y = x := by
  have := (insF_perm x dl).mem_iff.2 h
  exact (List.mem_cons.1 this).symm
theorem insF_len (x : Fd) (dl : List Fd) : (insF x dl).length = dl.length + 1 := (insF_perm x dl).length_eq.symm
theorem ws_nil (n : Nat) : WsOk n [] := fun i h => absurd h (by simp)
theorem ws_app {n m : Nat} {ws : List Int} (h : WsOk n ws) : WsOk (n + m) (ws ++ [(n : Int)]) := fun i hi => by
  rw [List.length_append, List.length_singleton] at hi
  rcases Nat.lt_or_ge i ws.length with h1 | h1
  · obtain ⟨a1, a2, a3⟩ := h i h1
    have e : (ws ++ [(n : Int)]).getD i 0 = ws.getD i 0 := by simp [List.getD_eq_getElem?_getD, List.getElem?_append_left h1]
    have e2 : endI (n + m) (ws ++ [(n : Int)]) i = endI n ws i := by
      unfold endI
      rw [List.length_append, List.length_singleton, if_pos (by omega)]
      split
      · rename_i h2
        simp [List.getD_eq_getElem?_getD, List.getElem?_append_left h2]
      · have h3 : i + 1 = ws.length := by omega
        simp [List.getD_eq_getElem?_getD, h3]
    rw [e, e2]
    exact ⟨a1, a2, by push_cast; omega⟩
  · have h3 : i = ws.length := by omega
    subst h3
    have e : (ws ++ [(n : Int)]).getD ws.length 0 = (n : Int) := by simp [List.getD_eq_getElem?_getD]
    have e2 : endI (n + m) (ws ++ [(n : Int)]) ws.length = ((n + m : Nat) : Int) := by
      unfold endI
      rw [List.length_append, List.length_singleton, if_neg (by omega)]
    rw [e, e2]
    exact ⟨by omega, by push_cast; omega, Int.le_refl _⟩
theorem byt_splice {a c : List Int} {p : Nat} (ha : Byt a) (hc : Byt c) : Byt (splice a p c) := fun y hy => by
  unfold splice at hy
  rcases List.mem_append.1 hy with h | h
  · exact ha y (List.mem_of_mem_take h)
  · rcases List.mem_append.1 h with h | h
    · exact hc y h
    · exact ha y (List.mem_of_mem_drop h)
theorem byt_crS {b ws ns : List Int} (hb : Byt b) : ∀ i, Byt (crS b ws ns i).1
  | 0 => byt_splice (fun y hy => by have := List.eq_of_mem_replicate hy; omega) fun y hy => hb y (List.mem_of_mem_take hy)
  | i + 1 => by
    unfold crS crStep
    split
    · exact byt_splice (byt_crS hb i) fun y hy => hb y (List.mem_of_mem_drop (List.mem_of_mem_take hy))
    · exact byt_crS hb i
theorem crA_inv {k : Nat} {ks : List Kn} (h : Inv k sy dl) : Inv (k + 1) sy (crA dl ks) := by
  unfold crA
  split
  · refine ⟨by unfold crD; rw [List.length_map]; exact h.len, fun y hy => ?_, h.lo, by have := h.hi; push_cast; omega⟩
    obtain ⟨x, hx, rfl⟩ := List.mem_map.1 hy
    obtain ⟨a1, a2, a3, a4⟩ := h.each x hx
    have h1 := crB_len (ns := kNs x.nm ks) a4
    have h2 := (crS_len (ns := kNs x.nm ks) a4 x.ws.length (Nat.le_refl _)).2
    refine ⟨fun z hz => byt_crS a1 _ z (List.mem_of_mem_take hz), ?_, Nat.zero_le _, ws_nil _⟩
    show (crB x.b x.ws (kNs x.nm ks)).length ≤ _
    omega
  · exact ⟨h.len, fun y hy => by obtain ⟨a1, a2, a3, a4⟩ := h.each y hy; exact ⟨a1, a2, by omega, a4⟩, h.lo, by have := h.hi; push_cast; omega⟩
theorem Inv.more {k : Nat} (h : Inv k sy dl) : Inv (k + 1) sy dl := ⟨h.len, fun y hy => by obtain ⟨a1, a2, a3, a4⟩ := h.each y hy; exact ⟨a1, a2, by omega, a4⟩, h.lo, by have := h.hi; push_cast; omega⟩
theorem resA_inv {k : Nat} (h : Inv k sy dl) (hx : Byt x.b ∧ x.b.length ≤ 1048576 ∧ x.ws.length ≤ k ∧ WsOk x.b.length x.ws) (hb : Byt bs) (hl : (bs.length : Int) ≤ 1048576 - x.b.length) : Inv (k + 1) sy (resA s x bs dl) := by
  refine ⟨by unfold resA; rw [setF_len]; exact h.len, fun y hy => ?_, h.lo, by have := h.hi; push_cast; omega⟩
  rcases setF_mem hy with h1 | rfl
  · exact h.more.each y h1
  · obtain ⟨a1, a2, a3, a4⟩ := hx
    refine ⟨fun z hz => (List.mem_append.1 hz).elim (a1 z) (hb z), by rw [List.length_append]; omega, ?_, ?_⟩
    · dsimp only; split
      · omega
      · simp; omega
    · dsimp only
      rw [List.length_append]
      split
      · rename_i e
        rw [e]
        exact a4
      · exact ws_app a4
theorem ap_inv {k : Nat} (h : Inv k sy dl) (hb : Byt bs) (hl : bs.length ≤ 1048576) : Inv (k + 1) sy (apD s bs dl) := by
  unfold apD
  split
  · exact h.more
  · split
    · rename_i x hx
      split
      · exact resA_inv h (h.each x (lk_mem hx)) hb (by assumption)
      · exact h.more
    · split
      · exact h.more
      · rename_i h64
        refine resA_inv (k := k) ⟨by rw [insF_len]; have := h.len; omega, fun y hy => ?_, h.lo, h.hi⟩ ⟨(fun x hx => nomatch hx), Nat.zero_le _, Nat.zero_le _, ws_nil _⟩ hb (by simp; omega)
        rcases insF_mem hy with h1 | rfl
        · exact h.each y h1
        · exact ⟨(fun x hx => nomatch hx), by simp, Nat.zero_le _, ws_nil _⟩
theorem sy_inv {k : Nat} (h : Inv k sy dl) : Inv (k + 1) (syN s dl sy) (syD s dl) := by
  unfold syN syD
  cases hx : lkF s dl with
  | none => exact h.more
  | some x =>
    refine ⟨by dsimp only; rw [setF_len]; exact h.len, fun y hy => ?_, by have := h.lo; dsimp only; omega, by have := h.hi; dsimp only; push_cast; omega⟩
    rcases setF_mem hy with h1 | rfl
    · exact h.more.each y h1
    · obtain ⟨a1, a2, a3, a4⟩ := h.each x (lk_mem hx)
      exact ⟨a1, a2, Nat.zero_le _, ws_nil _⟩
theorem cu_inv {k : Nat} {n : Int} (h : Inv k sy dl) : Inv (k + 1) sy (cuD s n dl) := by
  unfold cuD
  cases hx : lkF s dl with
  | none => exact h.more
  | some x =>
    dsimp only
    split
    · exact h.more
    · refine ⟨by rw [setF_len]; exact h.len, fun y hy => ?_, h.lo, by have := h.hi; push_cast; omega⟩
      rcases setF_mem hy with h1 | rfl
      · exact h.more.each y h1
      · obtain ⟨a1, a2, a3, a4⟩ := h.each x (lk_mem hx)
        exact ⟨fun z hz => a1 z (List.mem_of_mem_take hz), by rw [List.length_take]; omega, Nat.zero_le _, ws_nil _⟩
theorem rm_inv {k : Nat} (h : Inv k sy dl) : Inv (k + 1) sy (rmD s dl) :=
  ⟨Nat.le_trans (outF_len dl) h.len, fun y hy => h.more.each y (outF_mem hy), h.lo, by have := h.hi; push_cast; omega⟩
theorem outF_len_lk (h : lkF s dl = some x) : (outF s dl).length + 1 = dl.length := by
  have := (outF_perm h).length_eq
  rw [List.length_append, List.length_singleton] at this
  omega
theorem mv_inv {k : Nat} (h : Inv k sy dl) : Inv (k + 1) sy (mvD s s' dl) := by
  unfold mvD
  cases hx : lkF s dl with
  | none => exact h.more
  | some x =>
    dsimp only
    split
    · exact h.more
    · unfold renF
      split
      · exact h.more
      · refine ⟨?_, fun y hy => ?_, h.lo, by have := h.hi; push_cast; omega⟩
        · rw [insF_len]
          have h1 := outF_len (s := s') (outF s dl)
          have h2 := outF_len_lk hx
          have := h.len
          omega
        · rcases insF_mem hy with h1 | rfl
          · exact h.more.each y (outF_mem (outF_mem h1))
          · exact h.more.each x (lk_mem hx)
end Go.Proofs.Ytmlbojihjgbdlaa.D
