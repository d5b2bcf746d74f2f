/- Bytes are written to a stream. -/
import Derived.Test.YtfdmepblhlifcaaDoorI1
namespace Go.Proofs.YtfdmepblhlifcaaDoor
open Go.RowKit Go.Shelf
set_option linter.unusedVariables false
set_option linter.unusedSimpArgs false

theorem roots_bx {p B : Nat} {w w' : World} (R : Roots w) (hb : Bx p B w w') (h0 : 0 < B) (hp : 0 ≠ p) : Roots w' := fun j hj => (World.cell?_of_block (hb.block 0 h0 hp)).trans (R j hj)
theorem brow_bx {p B : Nat} {w w' : World} {b off : Nat} {zs : List Int} (R : BRow w b off zs) (hb : Bx p B w w') (h0 : b < B) (hp : b ≠ p) : BRow w' b off zs :=
  ⟨fun i hi => (World.cell?_of_block (a := ⟨b, off + i, none⟩) (hb.block b h0 hp)).trans (R.cell i hi), R.byt, R.small⟩
theorem chain_begin (zs : List Int) : stB zs (zs.length / 64) = beginI ∨ (((zs.length / 64 : Nat) : Int) ≠ 0) := by
  by_cases h : zs.length / 64 = 0
  · left; rw [h]; rfl
  · right; omega

set_option maxRecDepth 20000 in
set_option maxHeartbeats 4000000 in
theorem write_some (zs bs : List Int) (p base bb off cap : Nat) (w : World) (hH : Holds w p base zs) (R : Roots w) (hp0 : 0 ≠ p) (hpb : p < base) (hbw : base ≤ w.heap.size) (hB : BRow w bb off bs) (hbb : bb < base) (hbp : bb ≠ p) (hcap : bs.length ≤ cap) (hz : Byt zs) (hl : (zs.length : Int) + (bs.length : Int) ≤ 140737488351232) :
    Calls Tryd.prog 20 #[.pointer (some ⟨p, 0, none⟩), .slice (some ⟨bb, off, none⟩) bs.length cap] w fun e w' => e = .returned (.int .i64 0) ∧ Holds w' p base (zs ++ bs) ∧ Bx p base w w' := by
  have HH : Hid (Holds w p base zs) := hH
  have HR : Hid (Roots w) := R
  have HP : Hid (0 ≠ p ∧ p < base ∧ base ≤ w.heap.size ∧ bb < base ∧ bb ≠ p) := ⟨hp0, hpb, hbw, hbb, hbp⟩
  have HB : Hid (BRow w bb off bs) := hB
  have HC : Hid (bs.length ≤ cap) := hcap
  have HZ : Hid (Byt zs) := hz
  have HL : Hid ((zs.length : Int) + (bs.length : Int) ≤ 140737488351232) := hl
  clear hH R hp0 hpb hbw hB hbb hbp hcap hz hl
  go_enter Tryd.func20, Tryd.ntmps20
  go_wp2_with fail
  go_loopw [1, 5] (fun v x wr => ∃ (j : Nat) (pa : Option Addr), j ≤ bs.length ∧ v = .slice pa (bs.length - j) (cap - j) ∧ (j < bs.length → pa = some ⟨bb, off + j, none⟩) ∧ Holds wr p base (zs ++ bs.take j) ∧ Bx p base w wr) (fun v x wr => sliceLen v)
  case atStart => exact ⟨0, _, by omega, rfl, fun _ => rfl, by simpa using HH.out, Bx.refl _ _ _⟩
  case round =>
    obtain ⟨j, pa, hj, rfl, hpa, hH, hbx⟩ := hrel
    have HH1 : Hid (Holds wr p base (zs ++ bs.take j)) := hH
    have HBX : Hid (Bx p base w wr) := hbx
    clear hH hbx
    by_cases hlt : j < bs.length
    · obtain rfl := hpa hlt
      have hlen : (zs ++ bs.take j).length = zs.length + j := by simp; omega
      obtain ⟨cur, hcur⟩ : ∃ cur, zs ++ bs.take j = cur := ⟨_, rfl⟩
      have HCU : Hid (zs ++ bs.take j = cur) := hcur
      have HCL : Hid (cur.length = zs.length + j) := by show _ = _; rw [← hcur]; exact hlen
      have hH1 := HH1.out
      rw [hcur] at hH1
      obtain ⟨pv, rest, hS, hrl, hrb, hrt, hown⟩ := hH1
      obtain ⟨q, hq⟩ : ∃ q, cur.length / 64 = q := ⟨_, rfl⟩
      obtain ⟨r, hr⟩ : ∃ r, cur.length % 64 = r := ⟨_, rfl⟩
      have hr64 : r < 64 := by omega
      obtain ⟨c, hc⟩ : ∃ c, (bs.drop j).take (min (64 - r) (bs.length - j)) = c := ⟨_, rfl⟩
      have hcl : c.length = min (bs.length - j) (64 - r) := by rw [← hc]; simp; omega
      obtain ⟨n, hn⟩ : ∃ n, c.length = n := ⟨_, rfl⟩
      have hn1 : 0 < n := by omega
      have hn2 : n ≤ 64 - r := by omega
      have hn3 : n ≤ bs.length - j := by omega
      have hcb : Byt c := fun x hx => HB.out.byt x (by rw [← hc] at hx; exact List.mem_of_mem_drop (List.mem_of_mem_take hx))
      have hbr : BRow wr bb off bs := brow_bx HB.out HBX.out HP.out.2.2.2.1 HP.out.2.2.2.2
      have hsrc : ∀ i v, (u8l c)[i]? = some v → wr.drew.cell? ((⟨bb, off + j, none⟩ : Addr).add i) = some v := by
        intro i v hv
        have hi : i < c.length := by have := (List.getElem?_eq_some_iff.1 hv).1; rwa [u8l_len] at this
        rw [Addr.add_mid, Nat.add_assoc]
        refine (hbr.cell (j + i) (by omega)).trans ?_
        unfold u8l at hv
        rw [List.getElem?_map, List.getElem?_eq_getElem hi] at hv
        rw [← hv]
        have : c[i] = bs.getD (j + i) 0 := by
          have h2 : c[i]? = bs[j + i]? := by rw [← hc, List.getElem?_take_of_lt (by rw [hn] at hi; omega), List.getElem?_drop]
          rw [List.getElem?_eq_getElem hi, List.getElem?_eq_getElem (by omega)] at h2
          rw [List.getD_eq_getElem?_getD, List.getElem?_eq_getElem (by omega)]
          simpa using h2
        rw [this]
        rfl
      rw [hq, hr] at hS
      rw [hq, hr] at hrt
      rw [hq] at hown
      have hs8 := (stB_ok cur q).1
      have hsw := (stB_ok cur q).2
      have c74 : wr.cell? ⟨p, 74, none⟩ = some (.int .i64 (r : Int)) := hS.leftAt hs8 hrl
      have HS : Hid (Str wr.drew p (stB cur q) (q : Int) pv rest (r : Int)) := hS
      have HSRC : Hid (∀ i v, (u8l c)[i]? = some v → wr.drew.cell? ((⟨bb, off + j, none⟩ : Addr).add i) = some v) := hsrc
      have HN : Hid (c.length = n ∧ 0 < n ∧ n ≤ 64 - r ∧ n ≤ bs.length - j ∧ c.length = min (bs.length - j) (64 - r) ∧ r < 64 ∧ j < bs.length) := ⟨hn, hn1, hn2, hn3, hcl, hr64, hlt⟩
      have HRR : Hid (rest.length = 64 ∧ Byt rest ∧ Byt c ∧ rest.take r = cur.drop (64 * q)) := ⟨hrl, hrb, hcb, hrt⟩
      have HOW : Hid (wr.ownsRow base 23 32 pv q (flatD cur q)) := hown
      have HQR : Hid (cur.length / 64 = q ∧ cur.length % 64 = r) := ⟨hq, hr⟩
      have HS8 : Hid ((stB cur q).length = 8 ∧ W32 (stB cur q)) := ⟨hs8, hsw⟩
      have HCC : Hid ((bs.drop j).take (min (64 - r) (bs.length - j)) = c) := hc
      have r0 : (r : Int) ≤ 64 := by omega
      have r1 : ¬ 64 = r := by omega
      obtain ⟨m, hm⟩ : ∃ m, bs.length - j = m := ⟨_, rfl⟩
      obtain ⟨cp, hcp⟩ : ∃ cp, cap - j = cp := ⟨_, rfl⟩
      have HM : Hid (bs.length - j = m ∧ cap - j = cp) := ⟨hm, hcp⟩
      rw [hm, hcp]
      have m0 : 0 < (m : Int) := by omega
      have n0 : (n : Int) ≤ (cp : Int) := by have := HC.out; omega
      have n1 : (n : Int) ≤ (m : Int) := by omega
      have mc : (m : Int) ≤ (cp : Int) := by have := HC.out; omega
      obtain ⟨Lf, hLf⟩ : ∃ Lf, r + n = Lf := ⟨_, rfl⟩
      have eL : (r : Int) + (n : Int) = (Lf : Int) := by omega
      have HLF : Hid (r + n = Lf) := hLf
      obtain ⟨PA, hPA⟩ : ∃ PA, (if cp = n then some (⟨bb, off + j, none⟩ : Addr) else some ⟨bb, off + j + n, none⟩) = PA := ⟨_, rfl⟩
      have HPA : Hid ((if cp = n then some (⟨bb, off + j, none⟩ : Addr) else some ⟨bb, off + j + n, none⟩) = PA) := hPA
      clear hlen hcur hq hr hr64 hc hcl hn hn1 hn2 hn3 hcb hbr hsrc hrl hrb hrt hown hs8 hsw hS hm hcp hLf hPA hlt hj hpa
      go_wp2_with fail
      refine wp_region_still_tail 9 (by kernel_rfl) (by kernel_rfl) (still_of_quiet _ _ ?_)
      simp only [List.take_succ_cons, List.take_zero, List.drop_succ_cons, List.drop_zero]
      rw [show ({ wr with drawn := wr.drawn + 1 } : World) = wr.drew from rfl]
      repeat (first | go_big_quiet_skip | (go_big_quiet_want; go_big_quiet_op; go_big_quiet_on))
      refine wpQuiet_nil ?_
      obtain ⟨W1, hW1⟩ : ∃ W1, wr.drew.setRow p (strC (stB cur q) (q : Int) pv (restI rest c r) (r : Int)).toArray = W1 := ⟨_, rfl⟩
      have hfit : r + c.length ≤ 64 := by have := HN.out; omega
      have HE : Hid (((strC (stB cur q) (q : Int) pv rest (r : Int)).toArray.toList.take (10 + r) ++ (u8l c ++ (strC (stB cur q) (q : Int) pv rest (r : Int)).toArray.toList.drop (10 + r + (u8l c).length))).toArray = (strC (stB cur q) (q : Int) pv (restI rest c r) (r : Int)).toArray) := by
        show _ = _
        rw [← List.append_assoc]
        exact congrArg List.toArray (strC_copy _ _ _ _ _ _ _ HS8.out.1 HRR.out.1 hfit)
      have HGI : Hid (goInt (u8l c).length = .int .i64 (n : Int)) := by show _ = _; rw [u8l_len, HN.out.1]; rfl
      have HS1 : Hid (Str W1 p (stB cur q) (q : Int) pv (restI rest c r) (r : Int)) := by
        show Str W1 p _ _ _ _ _
        rw [← hW1]
        exact setRow_heap _ _ _ _ _ _ HS.out
      have HB1 : Hid (Bx p base w W1) := by
        show Bx _ _ _ _
        rw [← hW1]
        exact HBX.out.trans ((Bx.drew p base wr).trans (Bx.setRow p base wr.drew _))
      have HO1 : Hid (W1.ownsRow base 23 32 pv q (flatD cur q)) := by
        show World.ownsRow _ _ _ _ _ _ _
        rw [← hW1]
        exact own_kept HOW.out fun g hg hlt => setRow_other _ _ _ _ (by have := HP.out; omega)
      have HR1 : Hid ((restI rest c r).length = 64 ∧ Byt (restI rest c r)) := ⟨rest_len _ _ _ HRR.out.1 hfit, rest_byt _ _ _ HRR.out.2.1 HRR.out.2.2.1⟩
      have HHW : Hid (wr.drew.setRow p (strC (stB cur q) (q : Int) pv (restI rest c r) (r : Int)).toArray = W1) := hW1
      have k74 := HS1.out.leftAt HS8.out.1 HR1.out.1
      have f74 := HS1.out.frozen 74
      clear hW1 hfit c74
      refine wpList_copy_own rfl (.tmp 18) (.tmp 19) 22 22 rfl 5 Tryd.underlying22 (by kernel_rfl) p (10 + r) (64 - r) (64 - r) ⟨bb, off + j, none⟩ m cp rfl rfl (strC (stB cur q) (q : Int) pv rest (r : Int)).toArray 69 HS.out (u8l c) ?hlen HSRC.out ?hft (u8l_one _) ?hmain
      case hlen =>
        rw [u8l_len, HN.out.2.2.2.2.1, HM.out.1]
      case hft =>
        have h1 := HN.out
        have h2 := HRR.out.1
        have h3 := HS8.out.1
        rw [u8l_len, List.size_toArray, strC_len h3 h2]
        omega
      case hmain =>
        rw [HE.out, HGI.out, HHW.out]
        have hct : zs ++ bs.take (j + n) = cur ++ c := by
          have h1 := HN.out
          have h2 : c = (bs.drop j).take n := by rw [← HCC.out]; congr 1; omega
          rw [← HCU.out, h2, List.append_assoc, List.take_add]
        have HCT : Hid (zs ++ bs.take (j + n) = cur ++ c) := hct
        have wL : wrap64 (Lf : Int) = Lf := by have := HN.out; have := HLF.out; unfold wrap64; omega
        clear hct
        by_cases hfull : Lf = 64
        · have HLF' : Hid (r + n = 64) := by rw [← hfull]; exact HLF.out
          rw [hfull] at eL wL
          rw [show ((64 : Nat) : Int) = 64 from rfl] at eL wL
          obtain ⟨W2, hW2⟩ : ∃ W2, W1.setCell ⟨p, 74, none⟩ (.int .i64 64) = W2 := ⟨_, rfl⟩
          have hS2 : Str W2 p (stB cur q) (q : Int) pv (restI rest c r) 64 := by rw [← hW2]; exact HS1.out.setLeft HS8.out.1 HR1.out.1 64
          have hB2 : Bx p base w W2 := by rw [← hW2]; exact HB1.out.trans (Bx.setCell p base W1 74 _)
          have hO2 : W2.ownsRow base 23 32 pv q (flatD cur q) := by
            rw [← hW2]
            exact own_kept HO1.out fun g hg hlt => Below.heap_setCell _ _ _ _ (by have := HP.out; show g ≠ p; omega)
          have hqb : q ≤ 4000000000000 := by have h1 := HQR.out; have h2 := HCL.out; have h3 := HL.out; have h4 := HN.out; omega
          have HCLO : Hid (Calls Tryd.prog 37 #[.pointer (some ⟨p, 0, none⟩)] W2 fun e w' => (∃ v, e = .returned v) ∧ (∃ pv', Str w' p (afterI (stB cur q) (restI rest c r)) ((q : Int) + 1) pv' (restI rest c r) 0 ∧ w'.ownsRow base 23 32 pv' (q + 1) (flatD cur q ++ u8l (bytesI (afterI (stB cur q) (restI rest c r))))) ∧ Bx p base W2 w') :=
            close_any p base q (stB cur q) (q : Int) pv (restI rest c r) 64 (flatD cur q) W2 (roots_bx HR.out hB2 (by have := HP.out; omega) HP.out.1) (by have := hB2.size; have := HP.out; omega) hS2 HS8.out.1 HS8.out.2 HR1.out.1 HR1.out.2 (by omega) (by omega) (by have h := chain_begin cur; rw [HQR.out.1] at h; exact h) HP.out.2.1 (by have := hB2.size; have := HP.out; omega) hO2 hqb
          have HB2 : Hid (Bx p base w W2) := hB2
          have k74b := hS2.leftAt HS8.out.1 HR1.out.1
          have HW2 : Hid (W1.setCell ⟨p, 74, none⟩ (.int .i64 64) = W2) := hW2
          clear hW2 hS2 hB2 hO2 hqb
          go_wp2_with (go_at_call 37; rw [HW2.out]; refine HCLO.out.mono ?_; rintro e w3 ⟨⟨v3, rfl⟩, ⟨pv', hs3, ho3⟩, hb3⟩)
          go_roundw
          case rel =>
            have h1 := HN.out
            have h2 := HM.out
            have h3 := HC.out
            refine ⟨j + n, (if cp = n then some (⟨bb, off + j, none⟩ : Addr) else some ⟨bb, off + j + n, none⟩), by omega, ?_, fun hh => ?_, ?_, ?_⟩
            · rw [show m - n = bs.length - (j + n) by omega, show cp - n = cap - (j + n) by omega]
            · rw [if_neg (by omega), Nat.add_assoc]
            · rw [HCT.out]
              have hq := HQR.out
              have hs3' := hs3
              have ho3' := ho3
              refine holds_full (pv := pv') (rest := rest) HRR.out.1 HRR.out.2.1 HRR.out.2.2.1 (by rw [hq.1, hq.2]; exact HRR.out.2.2.2) (by rw [hq.2, h1.1]; exact HLF'.out) ?_ ?_
              · rw [hq.1, hq.2]; exact hs3'
              · rw [hq.1, hq.2]; exact ho3'
            · exact HB2.out.trans hb3
          case measure =>
            have h1 := HN.out
            simp [sliceLen]
            omega
        · have hLn : ((Lf : Int) == 64) = false := by rw [beq_eq_false_iff_ne]; omega
          have HLn : Hid (¬ Lf = 64) := hfull
          clear hfull
          go_wp2_with fail
          go_roundw
          case rel =>
            have h1 := HN.out
            have h2 := HM.out
            have h3 := HC.out
            refine ⟨j + n, (if cp = n then some (⟨bb, off + j, none⟩ : Addr) else some ⟨bb, off + j + n, none⟩), by omega, ?_, fun hh => ?_, ?_, ?_⟩
            · rw [show m - n = bs.length - (j + n) by omega, show cp - n = cap - (j + n) by omega]
            · rw [if_neg (by omega), Nat.add_assoc]
            · rw [HCT.out]
              have hq := HQR.out
              have hlf := HLF.out
              have hln := HLn.out
              refine holds_more (pv := pv) (rest := rest) ?_ HRR.out.1 HRR.out.2.1 HRR.out.2.2.1 (by rw [hq.1, hq.2]; exact HRR.out.2.2.2) ?_ (by rw [hq.2, h1.1]; omega)
              · rw [hq.1, hq.2, List.length_append, h1.1, show (cur.length + n) % 64 = Lf by omega]
                exact HS1.out.setLeft HS8.out.1 HR1.out.1 _
              · rw [hq.1]
                exact own_kept HO1.out fun g hg hlt => Below.heap_setCell _ _ _ _ (by have := HP.out; show g ≠ p; omega)
            · exact HB1.out.trans (Bx.setCell p base W1 74 _)
          case measure =>
            have h1 := HN.out
            simp [sliceLen]
            omega
    · have hje : j = bs.length := by omega
      have HJE : Hid (j = bs.length) := hje
      rw [show bs.length - j = 0 by omega]
      clear hlt hj hpa hje
      go_wp2_with fail
      go_ret
      refine ⟨rfl, ?_, HBX.out⟩
      have h := HH1.out
      rwa [HJE.out, List.take_length] at h
end Go.Proofs.YtfdmepblhlifcaaDoor
