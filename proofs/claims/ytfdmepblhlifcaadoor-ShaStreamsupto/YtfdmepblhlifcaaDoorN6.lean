/- The law of streams. -/
import Derived.Test.YtfdmepblhlifcaaDoorN5
namespace Go.Proofs.YtfdmepblhlifcaaDoor
open Go.RowKit Go.Shelf
set_option linter.unusedVariables false
set_option linter.unusedSimpArgs false

set_option maxRecDepth 100000 in
set_option maxHeartbeats 4000000 in
theorem streams_any (b off cap n : Nat) (sa : Option Addr) (w : World) (R : Roots w) (h0 : 0 < w.heap.size) (hn : (n : Int) ≤ 1048576) (hncap : (n : Int) ≤ (cap : Int)) (hsa : 0 < n → sa = some ⟨b, off, none⟩) (hb : 0 < n → b < w.heap.size)
    (hP : ∀ i, i < n → ∃ K sa l c bs, Piece w b (off + i * 2) K sa l c bs)
    (hK : ∀ W : World, Below w.heap.size w W → Calls Tryd.prog 14 #[] W fun e w' => e = .returned (.bool true) ∧ Below W.heap.size W w') :
    Calls Tryd.prog 5 #[.slice sa n cap] w fun e w' => e = .returned (.bool true) ∧ Below w.heap.size w w' := by
  have HK : Hid (∀ W : World, Below w.heap.size w W → Calls Tryd.prog 14 #[] W fun e w' => e = .returned (.bool true) ∧ Below W.heap.size W w') := hK
  have HR : Hid (Roots w ∧ 0 < w.heap.size) := ⟨R, h0⟩
  have HSA : Hid (0 < n → sa = some ⟨b, off, none⟩) := hsa
  have HB : Hid (0 < n → b < w.heap.size) := hb
  have HP : Hid (∀ i, i < n → ∃ K sa l c bs, Piece w b (off + i * 2) K sa l c bs) := hP
  clear hK R h0 hsa hb hP
  go_enter Tryd.func5, Tryd.ntmps5
  go_wp2_with (go_at_call 19; refine (new_any w).mono ?_; rintro e w1 ⟨⟨p, rfl, hp, hs1⟩, hb1⟩)
  have HS0 : Hid (Stands w w1 p (.slice none 0 0) []) := ⟨hb1, holds_new hs1, World.ownsRow_nil _ _ _ _, (fun x hx => nomatch hx), by decide, hp⟩
  clear hp hs1 hb1
  go_loopw [4, 5] (fun v x wr => ∃ (k : Nat) (zs : List Int), k ≤ n ∧ x = .int .i64 k ∧ Stands w wr p v zs) (fun v x wr => n - (intOf x).toNat)
  case atStart => exact ⟨0, [], by omega, rfl, HS0.out⟩
  case round =>
    obtain ⟨k, zs, hk, rfl, hS⟩ := hrel
    obtain ⟨ba, bc, hbv⟩ := own_slice hS.own
    subst hbv
    have HS : Hid (Stands w wr p (.slice ba zs.length bc) zs) := hS
    obtain ⟨L, hL⟩ : ∃ L, zs.length = L := ⟨_, rfl⟩
    have HL : Hid (zs.length = L) := hL
    rw [hL] at HS ⊢
    clear hS hL
    by_cases hgo : k < n ∧ (k : Int) < 40 ∧ (L : Int) < 5000
    · obtain ⟨hlt, h40, h5⟩ := hgo
      obtain ⟨K, qa, ql, qc, bs, hPi⟩ := HP.out k hlt
      obtain rfl := HSA.out (by omega)
      have hbw := HB.out (by omega)
      have c0 : wr.cell? ⟨b, off + k * 2, none⟩ = some (.int .i64 K) := (HS.out.bel.cell (p := ⟨b, off + k * 2, none⟩) hbw).trans hPi.kind
      have c1 : wr.cell? ⟨b, off + k * 2 + 1, none⟩ = some (.slice qa ql qc) := (HS.out.bel.cell (p := ⟨b, off + k * 2 + 1, none⟩) hbw).trans hPi.at_
      have HPI : Hid (Piece w b (off + k * 2) K qa ql qc bs) := hPi
      clear hPi hbw
      go_wp2_with fail
      have HM0 := HS.out.mid HPI.out
      have hW0s : (wr.alloc (.cells #[.int .i64 K, .slice qa ql qc] 39)).heap.size = wr.heap.size + 1 := by simp
      generalize wr.alloc (.cells #[.int .i64 K, .slice qa ql qc] 39) = W0 at *
      refine (lent_src HM0.src HPI.out.byt (by have := HPI.out.short; omega)).mono ?_
      rintro e w2 ⟨⟨g, cp, rfl, hloan⟩, hb2⟩
      rw [hW0s] at hloan
      have HM : Hid (Mid w w2 p wr.heap.size zs zs (.slice ba L bc) K (.slice qa ql qc) bs) := HM0.later hb2
      have HLO : Hid (Loan w2 (wr.heap.size + 1) g cp bs) := hloan
      have HBL : Hid (∀ q, (Value.slice ba L bc).ownBlock = some q → q < wr.heap.size + 1) := fun q hq => by have := (HS.out.own.lt q hq).2; omega
      have HLB : Hid (Byt bs ∧ (bs.length : Int) ≤ 1048576 ∧ Byt zs) := ⟨HPI.out.byt, HPI.out.short, HS.out.byt⟩
      obtain ⟨d0, d1⟩ := HM.out.cells
      obtain ⟨M, hM⟩ : ∃ M, bs.length = M := ⟨_, rfl⟩
      have HMM : Hid (bs.length = M) := hM
      rw [hM]
      clear HM0 hW0s hloan hb2 hM c0 c1
      by_cases k0 : K = 0
      · subst k0
        have HA : Hid (Below w.heap.size w w2) := HM.out.bel
        go_wp2_with (first | (go_at_call 20; refine (HM.out.write HLO.out HMM.out HR.out.1 HR.out.2 HLB.out.2.2 (by have h1 := HLB.out.2.1; have h2 := HL.out; omega)).mono ?_; rintro e w3 ⟨rfl, hm3, hl3⟩; (have HM3 : Hid (Mid w w3 p wr.heap.size (zs ++ bs) zs (.slice ba L bc) 0 (.slice qa ql qc) bs) := hm3); (have HL3 : Hid (Loan w3 (wr.heap.size + 1) g cp bs) := hl3); (obtain ⟨e0, e1⟩ := hm3.cells); clear hm3 hl3) | (go_at_call 11; refine (HM3.out.still HL3.out HMM.out (by have h1 := HLB.out.2.1; omega)).mono ?_; rintro e w3' ⟨rfl, rfl⟩) | (go_at_call 21; refine (HM3.out.spoil HL3.out HMM.out (by have := HM3.out.hx; omega) HBL.out (by have h1 := HLB.out.2.1; omega)).mono ?_; rintro e w4 ⟨⟨v4, rfl⟩, hm4⟩; (have HM4 : Hid (Mid w w4 p wr.heap.size (zs ++ bs) zs (.slice ba L bc) 0 (.slice qa ql qc) bs) := hm4); (obtain ⟨e0, e1⟩ := hm4.cells); clear hm4) | (at_builtin; (refine wpList_append_src rfl (.tmp 52) (.tmp 54) rfl w.heap.size (.slice ba L bc) L (u8l zs) rfl (by have h := HM4.out.own; rw [HL.out] at h; exact h) (.slice qa ql qc) bs rfl HM4.out.src (by have h1 := HLB.out.2.1; omega) HM4.out.bel.size ?_; intro v5 w5 ho5 hg5; (have ho5' := own_len (m := 0) ho5 (by rw [HL.out])); (have HM5 : Hid (Mid w w5 p wr.heap.size (zs ++ bs) (zs ++ bs) v5 0 (.slice qa ql qc) bs) := HM4.out.grew ho5' hg5); clear ho5 ho5' hg5)) | (go_at_call 24; refine (HM5.out.alike HR.out.1 HR.out.2 (byt_app HLB.out.2.2 HLB.out.1) (by have h1 := HLB.out.2.1; have h2 := HL.out; rw [List.length_append]; omega)).mono ?_; rintro e w6 ⟨rfl, hS6⟩))
        go_roundw
        case rel => exact ⟨k + 1, zs ++ bs, by omega, by go_num, hS6⟩
        case measure => simp [intOf]; omega
      · have k0' : (K == 0) = false := by simpa using k0
        by_cases k1 : K = 1
        · subst k1
          go_wp2_with (first | (go_at_call 22; refine HM.out.reset.mono ?_; rintro e w3 ⟨⟨v3, rfl⟩, hm3⟩; (have HM3 : Hid (Mid w w3 p wr.heap.size [] [] (.slice none 0 0) 1 (.slice qa ql qc) bs) := hm3); clear hm3) | (go_at_call 24; refine (HM3.out.alike HR.out.1 HR.out.2 (fun x hx => nomatch hx) (by decide)).mono ?_; rintro e w6 ⟨rfl, hS6⟩))
          go_roundw
          case rel => exact ⟨k + 1, [], by omega, by go_num, hS6⟩
          case measure => simp [intOf]; omega
        · have k1' : (K == 1) = false := by simpa using k1
          by_cases k2 : K = 2
          · subst k2
            go_wp2_with (first | (go_at_call 23; refine (HM.out.copy HLO.out (by have h2 := HL.out; omega)).mono ?_; rintro e w3 ⟨rfl, hm3, hl3, hh3, hb3⟩; (have HM3 : Hid (Mid w w3 p wr.heap.size zs zs (.slice ba L bc) 2 (.slice qa ql qc) bs) := hm3); (have HL3 : Hid (Loan w3 (wr.heap.size + 1) g cp bs) := hl3); (have HH3 : Hid (Holds w3 w2.heap.size (w2.heap.size + 1) zs) := hh3); (have HB3 : Hid (Below w2.heap.size w2 w3) := hb3); (obtain ⟨e0, e1⟩ := hm3.cells); clear hm3 hl3 hh3 hb3) | (go_at_call 20; refine (write_copy HH3.out (roots_later HR.out.1 HR.out.2 HM3.out.bel) (by have h1 := HM.out.bel.size; have h2 := HR.out.2; omega) HL3.out HMM.out HLB.out.2.2 (by have h1 := HLB.out.2.1; have h2 := HL.out; omega)).mono ?_; rintro e w4 ⟨rfl, hh4, hb4⟩; (have HH4 : Hid (Holds w4 w2.heap.size (w2.heap.size + 1) (zs ++ bs)) := hh4); (have HM4 : Hid (Mid w w4 p wr.heap.size zs zs (.slice ba L bc) 2 (.slice qa ql qc) bs) := HM.out.later ((HB3.out.trans hb4))); (obtain ⟨e0, e1⟩ := HM4.out.cells); clear hh4 hb4) | (at_builtin; (refine wpList_append_src rfl (.tmp 72) (.tmp 73) rfl w4.heap.size (.slice none 0 0) 0 [] rfl (World.ownsRow_nil _ _ _ _) (.slice ba L bc) zs rfl (own_src HM4.out.own) (by have h2 := HL.out; omega) (Nat.le_refl _) ?_; intro v5 w5 ho5 hg5; (have HB5 : Hid (Below w4.heap.size w4 w5) := (Below.refl _ w4).grown hg5 (Nat.le_refl _) (by intro q hq; cases hq)); (have HO5 : Hid (w5.ownsRow w4.heap.size 5 1 v5 L (u8l zs)) := (by have h := ho5; rw [Nat.zero_add, List.nil_append, HL.out] at h; exact h)); (have HM5 : Hid (Mid w w5 p wr.heap.size zs zs (.slice ba L bc) 2 (.slice qa ql qc) bs) := HM4.out.later HB5.out); (obtain ⟨e0, e1⟩ := HM5.out.cells); clear ho5 hg5)) | (at_builtin; (refine wpList_append_src rfl (.tmp 75) (.tmp 77) rfl w4.heap.size v5 L (u8l zs) rfl HO5.out (.slice qa ql qc) bs rfl HM5.out.src (by have h1 := HLB.out.2.1; omega) HB5.out.size ?_; intro v6 w6 ho6 hg6; (have HB6 : Hid (Below w4.heap.size w4 w6) := HB5.out.grown hg6 HB5.out.size (ownBlock_ge HO5.out)); (have HO6 : Hid (w6.ownsRow w4.heap.size 5 1 v6 (zs ++ bs).length (u8l (zs ++ bs))) := own_len (m := 0) ho6 (by rw [HL.out])); (have HM6 : Hid (Mid w w6 p wr.heap.size zs zs (.slice ba L bc) 2 (.slice qa ql qc) bs) := HM4.out.later HB6.out); clear ho6 hg6)))
            have HH6 : Hid (Holds w6 w2.heap.size (w2.heap.size + 1) (zs ++ bs)) := HH4.out.later (HB6.out.block _ (by obtain ⟨pv, rest, h1, _⟩ := HH4.out; exact h1.lt)) (fun q _ hq => HB6.out.block q hq)
            refine (alike_own w2.heap.size (w2.heap.size + 1) w4.heap.size (zs ++ bs) (byt_app HLB.out.2.2 HLB.out.1) v6 w6 HH6.out (roots_later HR.out.1 HR.out.2 HM6.out.bel) (by have h1 := HM6.out.bel.size; have h2 := HR.out.2; omega) (by have h1 := HLB.out.2.1; have h2 := HL.out; rw [List.length_append]; omega) HO6.out).mono ?_
            rintro e w7 ⟨rfl, hb7⟩
            have HM7 : Hid (Mid w w7 p wr.heap.size zs zs (.slice ba L bc) 2 (.slice qa ql qc) bs) := HM6.out.later hb7
            clear hb7 e0 e1
            go_wp2_with (go_at_call 24; refine (HM7.out.alike HR.out.1 HR.out.2 HLB.out.2.2 (by have h2 := HL.out; omega)).mono ?_; rintro e w8 ⟨rfl, hS6⟩)
            go_roundw
            case rel => exact ⟨k + 1, zs, by omega, by go_num, hS6⟩
            case measure => simp [intOf]; omega
          · have k2' : (K == 2) = false := by simpa using k2
            go_wp2_with (go_at_call 24; refine (HM.out.alike HR.out.1 HR.out.2 HLB.out.2.2 (by have h2 := HL.out; omega)).mono ?_; rintro e w6 ⟨rfl, hS6⟩)
            go_roundw
            case rel => exact ⟨k + 1, zs, by omega, by go_num, hS6⟩
            case measure => simp [intOf]; omega
    · have HA : Hid (Calls Tryd.prog 24 #[.pointer (some ⟨p, 0, none⟩), .slice ba L bc] wr fun e w' => e = .returned (.bool true) ∧ Below wr.heap.size wr w') := by
        have h := HS.out
        have hs := h.bel.size
        have h0 := HR.out.2
        refine alike_own p (p + 1) w.heap.size zs h.byt _ wr h.holds (roots_later HR.out.1 h0 h.bel) (by omega) (by have := h.short; omega) ?_
        have ho := h.own
        rw [HL.out]
        rw [HL.out] at ho
        exact ho
      have HKW : Hid (∀ W, Below wr.heap.size wr W → Below w.heap.size w W) := fun W hW => HS.out.bel.trans (hW.mono HS.out.bel.size)
      by_cases hlt : k < n
      · by_cases h40 : (k : Int) < 40
        · have h5 : ¬ (L : Int) < 5000 := fun h => hgo ⟨hlt, h40, h⟩
          clear hgo
          go_wp2_with (first | (go_at_call 24; refine HA.out.mono ?_; rintro e w2 ⟨rfl, hb2⟩; (have HB2 : Hid (Below wr.heap.size wr w2) := hb2); clear hb2) | (go_at_call 14; refine (HK.out w2 (HKW.out w2 HB2.out)).mono ?_; rintro e w3 ⟨rfl, hb3⟩))
          go_ret
          exact ⟨rfl, (HKW.out w2 HB2.out).trans (hb3.mono (HKW.out w2 HB2.out).size)⟩
        · clear hgo
          go_wp2_with (first | (go_at_call 24; refine HA.out.mono ?_; rintro e w2 ⟨rfl, hb2⟩; (have HB2 : Hid (Below wr.heap.size wr w2) := hb2); clear hb2) | (go_at_call 14; refine (HK.out w2 (HKW.out w2 HB2.out)).mono ?_; rintro e w3 ⟨rfl, hb3⟩))
          go_ret
          exact ⟨rfl, (HKW.out w2 HB2.out).trans (hb3.mono (HKW.out w2 HB2.out).size)⟩
      · clear hgo
        go_wp2_with (first | (go_at_call 24; refine HA.out.mono ?_; rintro e w2 ⟨rfl, hb2⟩; (have HB2 : Hid (Below wr.heap.size wr w2) := hb2); clear hb2) | (go_at_call 14; refine (HK.out w2 (HKW.out w2 HB2.out)).mono ?_; rintro e w3 ⟨rfl, hb3⟩))
        go_ret
        exact ⟨rfl, (HKW.out w2 HB2.out).trans (hb3.mono (HKW.out w2 HB2.out).size)⟩
end Go.Proofs.YtfdmepblhlifcaaDoor
