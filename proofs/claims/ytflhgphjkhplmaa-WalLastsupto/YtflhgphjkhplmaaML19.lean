import Derived.Test.YtflhgphjkhplmaaML18
import Derived.Test.YtflhgphjkhplmaaML04
/- The model's Checkpoint. -/
namespace Go.Proofs.Ytflhgphjkhplmaa.D
open Go Go.RowKit W R Go.Shelf
set_option linter.unusedVariables false
set_option linter.unusedSimpArgs false
attribute [local go_sem] Oper.semAt_some

variable {w w' : World} {B R k k' : Nat} {sy sy' : Int} {G G' P P' : Nat → Prop} {dl dl' : List Fd} {m : Mg} {bs : List Int}
def mkF (m : Mg) (bs : List Int) : List Int := frI (m.at' + m.l.length) bs
def mkE (m : Mg) (bs : List Int) (dl : List Fd) : Int := if 65536 < bs.length then 4 else if m.at' + m.l.length = 0 then 5 else apE nNew (mkF m bs) dl
def mkD (m : Mg) (bs : List Int) (dl : List Fd) : List Fd := if 65536 < bs.length then dl else if m.at' + m.l.length = 0 then dl else if apE nNew (mkF m bs) dl = 0 then cuD nLog 0 (mvD nNew nCkp (syD nNew (apD nNew (mkF m bs) dl))) else rmD nNew (apD nNew (mkF m bs) dl)
def mkG (m : Mg) (bs : List Int) (dl : List Fd) : Mg := if mkE m bs dl = 0 then ⟨m.at' + m.l.length, bs, [], m.cut⟩ else m
theorem WM.upto {j : Nat} (h : WM w R B k G P sy dl m) (hj : k ≤ j) : WM w R B j G P sy dl m := by
  obtain ⟨i, rfl⟩ : ∃ i, j = k + i := ⟨j - k, by omega⟩
  clear hj
  induction i with
  | zero => exact h
  | succ i ih => exact ⟨ih.mr, ih.inv.more, ih.mg, ih.ap⟩
theorem mk_fin {V : World} {bv bv' lv : Value} {xs : List (Value × List Int)} {m' : Mg} (h : WM w R B k G P sy dl m) (hP : P B) (hml : m'.l = []) (hL : V.heap[B]? = some (.cells (mgC R m' bv' (.slice none 0 0)) 57 (0, 0)))
    (hk : ∀ q, q < w.heap.size → q ≠ B → V.heap[q]? = w.heap[q]?) (hos : V.os = w.os) (htape : V.tape = w.tape) (hout : V.output = w.output) (hsz : w.heap.size ≤ V.heap.size) (hv : V.ownsRow w.heap.size 5 1 bv' m'.b.length (u8l m'.b)) :
    ∃ P', WM V R B k G P' sy dl m' ∧ Fr (fun q => G q ∨ P q) (fun q => G q ∨ P' q) w V := by
  have hG : ∀ q, G q → q ≠ B := fun q hq e => h.ap B hP (e ▸ hq)
  refine ⟨fun q => q = B ∨ bv'.ownBlock = some q, ⟨h.mr.at' fun q hq => hk q (h.mr.lt q hq) (hG q hq), h.inv, ⟨bv', .slice none 0 0, [], hL, own_low hv (Nat.zero_le _), World.ownsRow_nil _ _ _ _, hml.symm, (fun x hx => nomatch hx), fun q => ?_⟩, fun q hq hF => ?_⟩, ⟨hos, htape, hout, hsz, fun q hq hn => hk q hq fun e => hn (.inr (e ▸ hP)), fun q hq => ?_⟩⟩
  · constructor
    · rintro (e | e)
      · exact .inl e
      · exact .inr (.inl e)
    · rintro (e | e | e | ⟨x, hx, e⟩)
      · exact .inl e
      · exact .inr e
      · cases e
      · cases hx
  · rcases hq with rfl | e
    · exact hG q hF rfl
    · have h1 := h.mr.lt q hF
      have h2 := (hv.lt q e).1
      omega
  · rcases hq with hq | rfl | e
    · exact .inl (.inl hq)
    · exact .inl (.inr hP)
    · exact .inr (hv.lt q e).1
set_option maxRecDepth 100000 in
set_option maxHeartbeats 4000000 in
theorem mckp_any (h : WM w R B k G P sy dl m) (hk : k ≤ 900000) (hl : m.l.length ≤ 1000000) (hsq : m.at' + m.l.length < 18446744073709551616) {v : Value} (hsv : SrcG w (fun q => G q ∨ P q) v bs) (hb : Byt bs) (hbl : bs.length ≤ 2000000) : Calls Try.prog 20 #[.pointer (some ⟨B, 0, none⟩), v] w fun e w' => e = .returned (.int .i64 (mkE m bs dl)) ∧ ∃ G' P' sy', WM w' R B (k + 6) G' P' sy' (mkD m bs dl) (mkG m bs dl) ∧ Fr (fun q => G q ∨ P q) (fun q => G' q ∨ P' q) w w' := by
  obtain ⟨va, vc, rfl⟩ := hsv.now.slice
  obtain ⟨N, hN⟩ : ∃ N, bs.length = N := ⟨_, rfl⟩
  obtain ⟨S, hS⟩ : ∃ S, m.at' + m.l.length = S := ⟨_, rfl⟩
  have HS : Hid (WM w R B k G P sy dl m ∧ k ≤ 900000 ∧ SrcG w (fun q => G q ∨ P q) (.slice va bs.length vc) bs ∧ Byt bs ∧ N ≤ 2000000 ∧ bs.length = N ∧ m.at' + m.l.length = S ∧ S < 18446744073709551616 ∧ m.l.length ≤ 1000000) := ⟨h, hk, hsv, hb, by omega, hN, hS, by omega, hl⟩
  have HQ : Hid (∀ V G2 sy2 dl2 k2, WM V R B k2 G2 P sy2 dl2 m → Calls Try.prog 46 #[.pointer (some ⟨B, 0, none⟩)] V fun e w' => e = .returned (.int .u64 (S : Int)) ∧ ∃ n, w' = V.drewN n) := by
    show ∀ V, _
    intro V G2 sy2 dl2 k2 hV
    have := mseq_any hV.mg (by omega) (by omega)
    rw [show (m.at' : Int) + (m.l.length : Int) = (S : Int) by omega] at this
    exact this
  rw [hN]
  by_cases h6 : 65536 < N
  · have h6i : (65536 : Int) < (N : Int) := by omega
    have H6 : Hid (65536 < N) := h6
    clear h hk hl hsq hsv hb hbl h6 hN hS
    go_enter Try.func20, Try.ntmps20
    go_wp2_with fail
    refine bodyPost_ret (v := .int .i64 4) (results_tmp Try.results20 _ _ _) rfl ?_
    have e1 : mkE m bs dl = 4 := if_pos (by rw [HS.out.2.2.2.2.2.1]; exact H6.out)
    have e2 : mkD m bs dl = dl := if_pos (by rw [HS.out.2.2.2.2.2.1]; exact H6.out)
    have e3 : mkG m bs dl = m := by unfold mkG; rw [e1]; rfl
    rw [e1, e2, e3]
    exact ⟨rfl, G, P, sy, HS.out.1.upto (by omega), Fr.refl _ _⟩
  have h6i : ¬ (65536 : Int) < (N : Int) := by omega
  have H6 : Hid (¬ 65536 < bs.length) := by rw [← hN] at h6; exact h6
  by_cases hS0 : S = 0
  · subst hS0
    clear h hk hl hsq hsv hb hbl h6 hN
    go_enter Try.func20, Try.ntmps20
    go_upto_region 3 with fail
    clear h6i
    go_wp2_with (go_at_call 46; refine (HQ.out _ _ _ _ _ (HS.out.1.newer (drewN_below w 0))).mono ?_; rintro e w1 ⟨rfl, n1, rfl⟩)
    refine bodyPost_ret (v := .int .i64 5) (results_tmp Try.results20 _ _ _) rfl ?_
    have e1 : mkE m bs dl = 5 := by unfold mkE; rw [if_neg H6.out, if_pos hS]
    have e2 : mkD m bs dl = dl := by unfold mkD; rw [if_neg H6.out, if_pos hS]
    have e3 : mkG m bs dl = m := by unfold mkG; rw [e1]; rfl
    rw [e1, e2, e3]
    exact ⟨rfl, G, P, sy, (HS.out.1.newer (drewN_below w n1)).upto (by omega), Fr.newer (drewN_below w n1)⟩
  have HS0 : Hid (S ≠ 0) := hS0
  have hS1 : ((S : Int) == 0) = false := by rw [beq_eq_false_iff_ne]; omega
  have hE0 : frE S N = 0 := by unfold frE; rw [if_neg (by omega), if_neg (by omega)]
  obtain ⟨fr, hfr⟩ : ∃ fr, frI S bs = fr := ⟨_, rfl⟩
  obtain ⟨M, hM⟩ : ∃ M, fr.length = M := ⟨_, rfl⟩
  have hfb : Byt fr := by rw [← hfr]; exact frI_byt hb
  have HM : Hid (fr.length = M ∧ M ≤ 1048576 ∧ Byt fr) := by
    have := (frI_len (seq := S) (b := bs) (by omega) (by omega)).2
    rw [hfr] at this
    exact ⟨hM, by omega, hfb⟩
  have HFR : Hid (∀ n, Calls Try.prog 9 #[.int .u64 (S : Int), .slice va N vc] (w.drewN n) fun e w' => ∃ fa fc, e = .returned (.tuple #[.slice fa M fc, .int .i64 0]) ∧ Hid (w'.ownsRow w.heap.size 5 1 (.slice fa M fc) fr.length (u8l fr) ∧ Below w.heap.size w w')) := by
    show ∀ n, _
    intro n
    have := rframe_any (w := w.drewN n) S (by omega) (hsv (w.drewN n) fun q _ _ => rfl) hb (by omega)
    rw [hN, hE0, hfr] at this
    refine this.mono ?_
    rintro e w' ⟨⟨v', rfl, h1, h2⟩, h3⟩
    have h4 := h1 rfl
    rw [hM] at h4
    obtain ⟨fa, fc, rfl⟩ := own_slice h4
    refine ⟨fa, fc, rfl, ?_, (drewN_below w n).trans h3⟩
    rw [hM]
    exact h4
  obtain ⟨A, hA⟩ : ∃ A, apE nNew fr dl = A := ⟨_, rfl⟩
  obtain ⟨d1, hd1⟩ : ∃ d1, apD nNew fr dl = d1 := ⟨_, rfl⟩
  have ef : mkF m bs = fr := by unfold mkF; rw [hS, hfr]
  have HE : Hid (mkE m bs dl = A ∧ mkD m bs dl = (if A = 0 then cuD nLog 0 (mvD nNew nCkp (syD nNew d1)) else rmD nNew d1) ∧ mkG m bs dl = if A = 0 then ⟨S, bs, [], m.cut⟩ else m) := by
    have e1 : mkE m bs dl = A := by unfold mkE; rw [if_neg H6.out, if_neg (by omega), ef, hA]
    refine ⟨e1, ?_, ?_⟩
    · unfold mkD; rw [if_neg H6.out, if_neg (by omega), ef, hA, hd1]
    · unfold mkG; rw [e1, hS]
  have HAP : Hid (∀ V fa fc, Below w.heap.size w V → V.ownsRow w.heap.size 5 1 (.slice fa M fc) fr.length (u8l fr) → Calls Try.prog 47 #[.pointer (some ⟨R, 0, none⟩), .string (tx nNew), .slice fa M fc] V fun e w' => e = .returned (.int .i64 A) ∧ ∃ F3, Hid (WM w' R B (k + 1) F3 P sy d1 m ∧ Fr (fun q => G q ∨ P q) (fun q => F3 q ∨ P q) w w')) := by
    show ∀ V fa fc, _
    intro V fa fc hV ho
    have hw := HS.out.1.newer hV
    have hs : SrcG V G (.slice fa M fc) fr := SrcG.own (by rw [HM.out.1] at ho ⊢; exact ho) fun q hq hF => by
      have h1 := (ho.lt q hq).1
      have h2 := HS.out.1.mr.lt q hF
      omega
    have := m_append hw.mr hw.inv (by have := HS.out.2.1; omega) (s := nNew) (by decide) hs (by rw [HM.out.1]; exact HM.out.2.1)
    rw [hA, hd1] at this
    refine this.mono ?_
    rintro e w' ⟨rfl, F3, h1, h2⟩
    obtain ⟨h3, h4⟩ := hw.disk h1 h2 (by rw [← hd1]; exact ap_inv hw.inv HM.out.2.2 (by rw [HM.out.1]; exact HM.out.2.1))
    exact ⟨rfl, F3, h3, (Fr.newer hV).trans' h4⟩
  have hcN : ∀ W, (binOp .add 9 (.string { data := #[97] }) (.string { data := #[46, 99, 107, 112, 46, 110, 101, 119] })).run Try.prog W = .ok (.string (tx nNew)) W := fun W => by kernel_rfl
  have hcC : ∀ W, (binOp .add 9 (.string { data := #[97] }) (.string { data := #[46, 99, 107, 112] })).run Try.prog W = .ok (.string (tx nCkp)) W := fun W => by kernel_rfl
  have hcL : ∀ W, (binOp .add 9 (.string { data := #[97] }) (.string { data := #[46, 108, 111, 103] })).run Try.prog W = .ok (.string (tx nLog)) W := fun W => by kernel_rfl
  have HC : Hid (∀ {V G2 P2 sy2 dl2 m2 k2}, WM V R B k2 G2 P2 sy2 dl2 m2 → V.cell? ⟨B, 0, none⟩ = some (.pointer (some ⟨R, 0, none⟩)) ∧ V.cell? ⟨B, 1, none⟩ = some (.string { data := #[97] })) := fun h => h.cells
  rw [HE.out.1]
  clear h hk hl hsq hsv hb hbl h6 hN hE0 hfr hM hfb hA hd1 ef hS hS0
  go_enter Try.func20, Try.ntmps20
  go_upto_region 3 with fail
  clear h6i
  go_upto_region 6 with (first | (go_at_call 46; refine (HQ.out _ _ _ _ _ HS.out.1).mono ?_; rintro e w1 ⟨rfl, n1, rfl⟩) | (go_at_call 46; refine (HQ.out _ _ _ _ _ (HS.out.1.newer (drewN_below w _))).mono ?_; rintro e w1 ⟨rfl, n2, rfl⟩) | (go_at_call 9; refine (HFR.out _).mono ?_; rintro e w2 ⟨fa, fc, rfl, H2⟩))
  have B2 : Below w.heap.size w w2.drew := H2.out.2.trans (drewN_below w2 1 |>.mono H2.out.2.size)
  have HB2 : Hid (Below w.heap.size w w2.drew) := B2
  obtain ⟨c0, c1⟩ := HC.out (HS.out.1.newer B2)
  clear B2
  go_cut [7] from 21 to 31 (fun x wx => x = .int .i64 A ∧ ∃ F3, Hid (WM wx R B (k + 1) F3 P sy d1 m ∧ Fr (fun q => G q ∨ P q) (fun q => F3 q ∨ P q) w wx))
  case first =>
    go_region_held3 (fun w' => w'.cell? ⟨B, 0, none⟩ = some (.pointer (some ⟨R, 0, none⟩)) ∧ w'.cell? ⟨B, 1, none⟩ = some (.string { data := #[97] })) (first | exact K1 | go_keep) ((go_at_call 47; refine (HAP.out w2.drew fa fc HB2.out (own_at H2.out.1 fun q hq => rfl)).mono ?_; rintro e w3 ⟨rfl, F3, H3⟩; (have K1 := HC.out H3.out.1)))
    all_goals
      go_wp2_with fail
      go_meet
      exact ⟨rfl, F3, H3⟩
  case rest =>
  obtain ⟨rfl, F3, H3⟩ := hcut
  clear c0 c1 HAP HFR
  by_cases hA : A = 0
  ·
    subst hA
    go_upto_region 10 with fail
    have HD5 : WM wc.drew R B (k + 1) F3 P sy (d1) m := H3.out.1.newer (drewN_below wc 1)
    have HW5 : Hid (WM wc.drew R B (k + 1) F3 P sy (d1) m ∧ Fr (fun q => G q ∨ P q) (fun q => F3 q ∨ P q) w wc.drew) := ⟨HD5, H3.out.2.trans' (Fr.newer (drewN_below wc 1))⟩
    obtain ⟨c0, c1⟩ := HC.out HD5
    clear HD5
    have HOP5 : Hid (Calls Try.prog 49 #[.pointer (some ⟨R, 0, none⟩), .string (tx nNew)] wc.drew fun e w' => (∃ y, e = .returned (.int .i64 y)) ∧ ∃ F4, Hid (WM w' R B (k + 2) F4 P (syN nNew d1 sy) (syD nNew d1) m ∧ Fr (fun q => G q ∨ P q) (fun q => F4 q ∨ P q) w w')) := by
      refine (m_sync HW5.out.1.mr HW5.out.1.inv (by have := HS.out.2.1; omega)).mono ?_
      rintro e w' ⟨rfl, F4, h1, h2⟩
      obtain ⟨h3, h4⟩ := HW5.out.1.disk h1 h2 (sy_inv HW5.out.1.inv)
      exact ⟨⟨_, rfl⟩, F4, h3, HW5.out.2.trans' h4⟩
    go_cut [] from 45 to 54 (fun wx => ∃ F4, Hid (WM wx R B (k + 2) F4 P (syN nNew d1 sy) (syD nNew d1) m ∧ Fr (fun q => G q ∨ P q) (fun q => F4 q ∨ P q) w wx))
    case first =>
      go_region_held3 (fun w' => w'.cell? ⟨B, 0, none⟩ = some (.pointer (some ⟨R, 0, none⟩)) ∧ w'.cell? ⟨B, 1, none⟩ = some (.string { data := #[97] })) (first | exact K1 | go_keep) ((go_at_call 49; refine HOP5.out.mono ?_; rintro e w4 ⟨⟨y4, rfl⟩, F4, H4⟩; (have K1 := HC.out H4.out.1)))
      all_goals
        go_wp2_with fail
        go_meet
        exact ⟨F4, H4⟩
    case rest =>
    obtain ⟨F5x, H5x⟩ := hcut
    clear c0 c1 HOP5
    go_upto_region 11 with fail
    have HD6 : WM wc.drew R B (k + 2) F5x P (syN nNew d1 sy) (syD nNew d1) m := H5x.out.1.newer (drewN_below wc 1)
    have HW6 : Hid (WM wc.drew R B (k + 2) F5x P (syN nNew d1 sy) (syD nNew d1) m ∧ Fr (fun q => G q ∨ P q) (fun q => F5x q ∨ P q) w wc.drew) := ⟨HD6, H5x.out.2.trans' (Fr.newer (drewN_below wc 1))⟩
    obtain ⟨c0, c1⟩ := HC.out HD6
    clear HD6
    have HOP6 : Hid (Calls Try.prog 50 #[.pointer (some ⟨R, 0, none⟩), .string (tx nNew), .string (tx nCkp)] wc.drew fun e w' => (∃ y, e = .returned (.int .i64 y)) ∧ ∃ F4, Hid (WM w' R B (k + 3) F4 P (syN nNew d1 sy) (mvD nNew nCkp (syD nNew d1)) m ∧ Fr (fun q => G q ∨ P q) (fun q => F4 q ∨ P q) w w')) := by
      refine (m_move HW6.out.1.mr HW6.out.1.inv (by decide)).mono ?_
      rintro e w' ⟨rfl, F4, h1, h2⟩
      obtain ⟨h3, h4⟩ := HW6.out.1.disk h1 h2 (mv_inv HW6.out.1.inv)
      exact ⟨⟨_, rfl⟩, F4, h3, HW6.out.2.trans' h4⟩
    go_cut [] from 55 to 69 (fun wx => ∃ F4, Hid (WM wx R B (k + 3) F4 P (syN nNew d1 sy) (mvD nNew nCkp (syD nNew d1)) m ∧ Fr (fun q => G q ∨ P q) (fun q => F4 q ∨ P q) w wx))
    case first =>
      go_region_held3 (fun w' => w'.cell? ⟨B, 0, none⟩ = some (.pointer (some ⟨R, 0, none⟩)) ∧ w'.cell? ⟨B, 1, none⟩ = some (.string { data := #[97] })) (first | exact K1 | go_keep) ((go_at_call 50; refine HOP6.out.mono ?_; rintro e w4 ⟨⟨y4, rfl⟩, F4, H4⟩; (have K1 := HC.out H4.out.1)))
      all_goals
        go_wp2_with fail
        go_meet
        exact ⟨F4, H4⟩
    case rest =>
    obtain ⟨F6x, H6x⟩ := hcut
    clear c0 c1 HOP6
    go_upto_region 12 with fail
    have HD7 : WM wc.drew R B (k + 3) F6x P (syN nNew d1 sy) (mvD nNew nCkp (syD nNew d1)) m := H6x.out.1.newer (drewN_below wc 1)
    have HW7 : Hid (WM wc.drew R B (k + 3) F6x P (syN nNew d1 sy) (mvD nNew nCkp (syD nNew d1)) m ∧ Fr (fun q => G q ∨ P q) (fun q => F6x q ∨ P q) w wc.drew) := ⟨HD7, H6x.out.2.trans' (Fr.newer (drewN_below wc 1))⟩
    obtain ⟨c0, c1⟩ := HC.out HD7
    clear HD7
    have HOP7 : Hid (Calls Try.prog 51 #[.pointer (some ⟨R, 0, none⟩), .string (tx nLog), .int .i64 0] wc.drew fun e w' => (∃ y, e = .returned (.int .i64 y)) ∧ ∃ F4, Hid (WM w' R B (k + 4) F4 P (syN nNew d1 sy) (cuD nLog 0 (mvD nNew nCkp (syD nNew d1))) m ∧ Fr (fun q => G q ∨ P q) (fun q => F4 q ∨ P q) w w')) := by
      refine (m_cut HW7.out.1.mr HW7.out.1.inv 0).mono ?_
      rintro e w' ⟨rfl, F4, h1, h2⟩
      obtain ⟨h3, h4⟩ := HW7.out.1.disk h1 h2 (cu_inv HW7.out.1.inv)
      exact ⟨⟨_, rfl⟩, F4, h3, HW7.out.2.trans' h4⟩
    go_cut [] from 70 to 79 (fun wx => ∃ F4, Hid (WM wx R B (k + 4) F4 P (syN nNew d1 sy) (cuD nLog 0 (mvD nNew nCkp (syD nNew d1))) m ∧ Fr (fun q => G q ∨ P q) (fun q => F4 q ∨ P q) w wx))
    case first =>
      go_region_held3 (fun w' => w'.cell? ⟨B, 0, none⟩ = some (.pointer (some ⟨R, 0, none⟩)) ∧ w'.cell? ⟨B, 1, none⟩ = some (.string { data := #[97] })) (first | exact K1 | go_keep) ((go_at_call 51; refine HOP7.out.mono ?_; rintro e w4 ⟨⟨y4, rfl⟩, F4, H4⟩; (have K1 := HC.out H4.out.1)))
      all_goals
        go_wp2_with fail
        go_meet
        exact ⟨F4, H4⟩
    case rest =>
    obtain ⟨F7x, H7x⟩ := hcut
    clear c0 c1 HOP7
    obtain ⟨bv, lv, xs, g1, g2, g3, g4, g5, g6⟩ := H7x.out.1.mg
    have HL : Hid (wc.heap[B]? = some (.cells (mgC R m bv lv) 57 (0, 0)) ∧ P B) := ⟨g1, (g6 B).2 (.inl rfl)⟩
    have f2 := frozen_of_row _ _ 2 _ _ g1
    have f3 := frozen_of_row _ _ 3 _ _ g1
    have f4 := frozen_of_row _ _ 4 _ _ g1
    have f5 := frozen_of_row _ _ 5 _ _ g1
    have c2 : wc.cell? ⟨B, 2, none⟩ = some bv := by rw [cell_of_row _ _ _ _ _ _ g1]; rfl
    have c3 : wc.cell? ⟨B, 3, none⟩ = some (.bool (decide (m.at' ≠ 0))) := by rw [cell_of_row _ _ _ _ _ _ g1]; rfl
    have c4 : wc.cell? ⟨B, 4, none⟩ = some (.int .u64 (m.at' : Int)) := by rw [cell_of_row _ _ _ _ _ _ g1]; rfl
    have c5 : wc.cell? ⟨B, 5, none⟩ = some lv := by rw [cell_of_row _ _ _ _ _ _ g1]; rfl
    have HSV : Hid (∀ V : World, (∀ q, q < wc.heap.size → q ≠ B → V.heap[q]? = wc.heap[q]?) → Src V (.slice va N vc) bs) := by
      show ∀ V : World, _
      intro V hV
      have h := HS.out.2.2.1 V fun q hq hn => (hV q (Nat.lt_of_lt_of_le hq H7x.out.2.size) (fun e => hn (.inr (e ▸ HL.out.2)))).trans (H7x.out.2.block q hq hn)
      rw [HS.out.2.2.2.2.2.1] at h
      exact h
    clear g1 g2 g3 g4 g5 g6 hcN hcC hcL
    go_upto_region 17 with (first | (go_at_call 46; refine (HQ.out _ _ _ _ _ H7x.out.1).mono ?_; rintro e w5 ⟨rfl, n5, rfl⟩))
    have g1 := HL.out.1
    have hb1 : (wc.drewN n5).heap[B]? = some (.cells (mgC R m bv lv) 57 (0, 0)) := g1
    have hb2 := row_set (i := 4) (.int .u64 (S : Int)) hb1
    have hb3 := row_set (i := 5) (.slice none 0 0) hb2
    have hb4 := row_set (i := 3) (.bool true) hb3
    have hb5 := row_set (i := 2) (.slice none 0 0) hb4
    obtain ⟨W8, hW8⟩ : ∃ W8, (((((wc.drewN n5).setCell ⟨B, 4, none⟩ (.int .u64 (S : Int))).setCell ⟨B, 5, none⟩ (.slice none 0 0)).setCell ⟨B, 3, none⟩ (.bool true)).setCell ⟨B, 2, none⟩ (.slice none 0 0)) = W8 := ⟨_, rfl⟩
    have H8 : Hid (W8.heap[B]? = some (.cells (mgC R ⟨S, bs, [], m.cut⟩ (.slice none 0 0) (.slice none 0 0)) 57 (0, 0)) ∧ (∀ q, q ≠ B → W8.heap[q]? = wc.heap[q]?) ∧ W8.heap.size = wc.heap.size ∧ W8.os = wc.os ∧ W8.tape = wc.tape ∧ W8.output = wc.output) := by
      show _ ∧ _
      rw [hW8] at hb5
      refine ⟨?_, fun q hq => ?_, ?_, ?_, ?_, ?_⟩
      · rw [hb5]
        unfold mgC
        have hd : decide ((⟨S, bs, [], m.cut⟩ : Mg).at' ≠ 0) = true := decide_eq_true HS0.out
        rw [hd]
        rfl
      · rw [← hW8, Below.heap_setCell _ _ _ _ hq, Below.heap_setCell _ _ _ _ hq, Below.heap_setCell _ _ _ _ hq, Below.heap_setCell _ _ _ _ hq]
        rfl
      · rw [← hW8]; simp
      · rw [← hW8]; rfl
      · rw [← hW8]; rfl
      · rw [← hW8]; rfl
    rw [hW8]
    clear hb1 hb2 hb3 hb4 hb5 hW8 c2 c3 c4 c5 f2 f3 f4 f5 g1
    have c2 : W8.cell? ⟨B, 2, none⟩ = some (.slice none 0 0) := by rw [cell_of_row _ _ _ _ _ _ H8.out.1]; rfl
    go_wp2_with (at_builtin; (refine wpList_append_src rfl (.tmp 98) (.tmp 99) rfl W8.heap.size (.slice none 0 0) 0 [] rfl (World.ownsRow_nil _ _ _ _) (.slice va N vc) bs rfl (HSV.out W8 fun q _ hq => H8.out.2.1 q hq) (by have := HS.out; omega) (Nat.le_refl _) ?_; intro v9 w9 ho9 hg9; (have ho4 : w9.ownsRow W8.heap.size 5 1 v9 bs.length (u8l bs) := by have h := ho9; rw [Nat.zero_add, List.nil_append] at h; exact h); (obtain ⟨oa, oc, hv9⟩ := own_slice ho4); subst hv9; (have H9 : Hid (w9.ownsRow W8.heap.size 5 1 (.slice oa bs.length oc) bs.length (u8l bs) ∧ Below W8.heap.size W8 w9) := ⟨ho4, (Below.refl _ W8).grown hg9 (Nat.le_refl _) (by intro q hq; cases hq)⟩); (have HB9 : Hid (w9.heap[B]? = some (.cells (mgC R ⟨S, bs, [], m.cut⟩ (.slice none 0 0) (.slice none 0 0)) 57 (0, 0))) := (H9.out.2.block B (Array.getElem?_eq_some_iff.1 H8.out.1).1).trans H8.out.1); (have f2 := frozen_of_row _ _ 2 _ _ HB9.out); (have c2 : w9.cell? ⟨B, 2, none⟩ = some (.slice none 0 0) := by rw [cell_of_row _ _ _ _ _ _ HB9.out]; rfl); clear ho9 ho4 hg9))
    refine bodyPost_ret (v := .int .i64 0) (results_tmp Try.results20 _ _ _) rfl ⟨rfl, ?_⟩
    obtain ⟨a1, a2, a3, a4, a5, a6⟩ := H8.out
    obtain ⟨b1, b2⟩ := H9.out
    have hBc : B < wc.heap.size := (Array.getElem?_eq_some_iff.1 HL.out.1).1
    have hV : ∀ q, q ≠ B → (w9.setCell ⟨B, 2, none⟩ (.slice oa bs.length oc)).heap[q]? = w9.heap[q]? := fun q hq => Below.heap_setCell _ _ _ _ hq
    obtain ⟨P', h1, h2⟩ := mk_fin (V := w9.setCell ⟨B, 2, none⟩ (.slice oa bs.length oc)) (bv' := (.slice oa bs.length oc)) (lv := .slice none 0 0) (xs := []) (bv := .slice none 0 0) (m' := ⟨S, bs, [], m.cut⟩) H7x.out.1 HL.out.2 rfl
      (row_set (i := 2) (.slice oa bs.length oc) HB9.out)
      (fun q hq hn => (hV q hn).trans ((b2.block q (by omega)).trans (a2 q hn)))
      (b2.os.trans a4) (b2.tape.trans a5) (b2.output.trans a6) (by have := b2.size; simp; omega)
      (by
        rw [a3] at b1
        exact own_at b1 fun q hq => hV q (by have := (b1.lt q hq).1; omega))
    rw [HE.out.2.1, HE.out.2.2, if_pos trivial, if_pos trivial]
    exact ⟨F7x, P', _, h1.upto (by omega), H7x.out.2.trans' h2⟩
  · have hA1 : (A != 0) = true := by rw [bne_iff_ne]; exact hA
    have HA : Hid (A ≠ 0) := hA
    clear hA
    go_upto_region 8 with fail
    have HD3 : WM wc.drew R B (k + 1) F3 P sy d1 m := H3.out.1.newer (drewN_below wc 1)
    have HW3 : Hid (WM wc.drew R B (k + 1) F3 P sy d1 m ∧ Fr (fun q => G q ∨ P q) (fun q => F3 q ∨ P q) w wc.drew) := ⟨HD3, H3.out.2.trans' (Fr.newer (drewN_below wc 1))⟩
    obtain ⟨c0, c1⟩ := HC.out HD3
    clear HD3
    have HRM : Hid (Calls Try.prog 48 #[.pointer (some ⟨R, 0, none⟩), .string (tx nNew)] wc.drew fun e w' => (∃ y, e = .returned (.int .i64 y)) ∧ ∃ F4, Hid (WM w' R B (k + 2) F4 P sy (rmD nNew d1) m ∧ Fr (fun q => G q ∨ P q) (fun q => F4 q ∨ P q) w w')) := by
      refine (m_remove HW3.out.1.mr HW3.out.1.inv).mono ?_
      rintro e w' ⟨rfl, F4, h1, h2⟩
      obtain ⟨h3, h4⟩ := HW3.out.1.disk h1 h2 (rm_inv HW3.out.1.inv)
      exact ⟨⟨_, rfl⟩, F4, h3, HW3.out.2.trans' h4⟩
    go_cut [] from 34 to 43 (fun wx => ∃ F4, Hid (WM wx R B (k + 2) F4 P sy (rmD nNew d1) m ∧ Fr (fun q => G q ∨ P q) (fun q => F4 q ∨ P q) w wx))
    case first =>
      go_region_held3 (fun w' => w'.cell? ⟨B, 0, none⟩ = some (.pointer (some ⟨R, 0, none⟩)) ∧ w'.cell? ⟨B, 1, none⟩ = some (.string { data := #[97] })) (first | exact K1 | go_keep) ((go_at_call 48; refine HRM.out.mono ?_; rintro e w4 ⟨⟨y4, rfl⟩, F4, H4⟩; (have K1 := HC.out H4.out.1)))
      all_goals
        go_wp2_with fail
        go_meet
        exact ⟨F4, H4⟩
    case rest =>
    obtain ⟨F4, H4⟩ := hcut
    clear c0 c1 HRM
    go_wp2_with fail
    refine bodyPost_ret (v := .int .i64 A) (results_tmp Try.results20 _ _ _) rfl ?_
    rw [HE.out.2.1, HE.out.2.2, if_neg HA.out, if_neg HA.out]
    exact ⟨rfl, F4, P, sy, H4.out.1.upto (by omega), H4.out.2⟩
end Go.Proofs.Ytflhgphjkhplmaa.D

/- WalFrames' law: contracts. -/
namespace Go.Proofs.Ytflhgphjkhplmaa.D
open Go Go.RowKit W R Go.Shelf
set_option linter.unusedVariables false
set_option linter.unusedSimpArgs false
attribute [local go_sem] Oper.semAt_some

variable {w w' V : World} {bs : List Int} {v : Value} {S : Nat}
/-- Bytes that came in: they lie in every later world. -/
structure SV (w : World) (v : Value) (bs : List Int) : Prop where
  bz : Bz w v bs
  len : bs.length ≤ 1048576
theorem SV.byt (h : SV w v bs) : Byt bs := h.bz.byt
theorem SV.src (h : SV w v bs) (W : World) (hb : Below w.heap.size w W) : Src W v bs := (h.bz.newer hb).src
def frO (S : Nat) (bs : List Int) : List Int := if frE S bs.length = 0 then frI S bs else []
theorem frO_byt (h : Byt bs) : Byt (frO S bs) := by
  unfold frO
  split
  · exact frI_byt h
  · exact fun c hc => (nomatch hc)
theorem frO_len (hs : S < 18446744073709551616) : (frO S bs).length ≤ 70000 := by
  unfold frO
  split
  · rename_i h
    have := (frI_len hs (frE_ok h).2).2
    have := (frE_ok h).2
    omega
  · simp
theorem frm8 (hs : S < 18446744073709551616) (hS : Src V v bs) (hz : Byt bs) (hl : bs.length ≤ 4000000) : Calls Try.prog 8 #[.int .u64 (S : Int), v] V fun e w' => ∃ xa xc, e = .returned (.tuple #[.slice xa (frO S bs).length xc, .int .i64 (frE S bs.length)]) ∧ Hid (w'.ownsRow V.heap.size 5 1 (.slice xa (frO S bs).length xc) (frO S bs).length (u8l (frO S bs)) ∧ Below V.heap.size V w') := by
  refine (frame_any S hs hS hz hl).mono ?_
  rintro e w' ⟨⟨v', rfl, h1, h2⟩, h3⟩
  by_cases hE : frE S bs.length = 0
  · have e : frO S bs = frI S bs := if_pos hE
    rw [e]
    obtain ⟨a, c, rfl⟩ := own_slice (h1 hE)
    exact ⟨a, c, rfl, h1 hE, h3⟩
  · have e : frO S bs = [] := if_neg hE
    rw [e]
    obtain rfl := h2 hE
    exact ⟨none, 0, rfl, World.ownsRow_nil _ _ _ _, h3⟩
theorem frm9 (hs : S < 18446744073709551616) (hS : Src V v bs) (hz : Byt bs) (hl : bs.length ≤ 4000000) : Calls Try.prog 9 #[.int .u64 (S : Int), v] V fun e w' => ∃ xa xc, e = .returned (.tuple #[.slice xa (frO S bs).length xc, .int .i64 (frE S bs.length)]) ∧ Hid (w'.ownsRow V.heap.size 5 1 (.slice xa (frO S bs).length xc) (frO S bs).length (u8l (frO S bs)) ∧ Below V.heap.size V w') := by
  refine (rframe_any S hs hS hz hl).mono ?_
  rintro e w' ⟨⟨v', rfl, h1, h2⟩, h3⟩
  by_cases hE : frE S bs.length = 0
  · have e : frO S bs = frI S bs := if_pos hE
    rw [e]
    obtain ⟨a, c, rfl⟩ := own_slice (h1 hE)
    exact ⟨a, c, rfl, h1 hE, h3⟩
  · have e : frO S bs = [] := if_neg hE
    rw [e]
    obtain rfl := h2 hE
    exact ⟨none, 0, rfl, World.ownsRow_nil _ _ _ _, h3⟩
/-- What Lent gives, in all later worlds. -/
theorem lent7 (hv : Src V v bs) (hz : Byt bs) (hl : bs.length ≤ 1048576) : Calls Try.prog 7 #[v] V fun e w' => ∃ g c, e = .returned (.slice (some ⟨g, 0, none⟩) bs.length c) ∧ Hid (LentR w' V.heap.size (.slice (some ⟨g, 0, none⟩) bs.length c) bs ∧ Below V.heap.size V w') := by
  refine (lent_any hv (by omega)).mono ?_
  rintro e w' ⟨u, rfl, h1, h2⟩
  obtain ⟨g, c, e, h3⟩ := h1
  subst e
  exact ⟨g, c, rfl, ⟨g, c, rfl, h3⟩, h2⟩
theorem LentR.later {W W' : World} {base : Nat} (h : LentR W base v bs) (hb : Below W.heap.size W W') : LentR W' base v bs := by
  obtain ⟨g, cap, cur, h1, h2, h3, h4, -⟩ := h.row
  exact h4 W' (hb.block g (Array.getElem?_eq_some_iff.1 h3).1)
theorem LentR.own {W : World} {base : Nat} (h : LentR W base v bs) : W.ownsRow base 5 1 v bs.length (u8l bs) := by
  obtain ⟨g, cap, cur, h1, h2, h3, h4, h5, -⟩ := h.row
  exact h5
theorem lastN_pl {xs ys : List El} (h : xs.map El.pl = ys.map El.pl) : lastN xs = lastN ys ∧ lastE xs = lastE ys ∧ xs.length = ys.length := by
  have h1 : xs.getLast?.map El.pl = ys.getLast?.map El.pl := by rw [← List.getLast?_map, h, List.getLast?_map]
  refine ⟨?_, ?_, by simpa using congrArg List.length h⟩
  · unfold lastN
    have := congrArg (Option.map (fun q : Nat × List Int × Nat => q.1)) h1
    rw [Option.map_map, Option.map_map] at this
    exact congrArg (Option.getD · 0) this
  · unfold lastE
    have := congrArg (Option.map (fun q : Nat × List Int × Nat => q.2.2)) h1
    rw [Option.map_map, Option.map_map] at this
    exact congrArg (Option.getD · 0) this
def lnL (zs : List Int) : Nat := ((goodI zs).getLast?.map fun q => q.1).getD 0
theorem lastN_good {xs : List El} {zs : List Int} (h : xs.map El.pl = goodI zs) : lastN xs = lnL zs := by
  unfold lastN lnL
  rw [← h, List.getLast?_map, Option.map_map]
  rfl
/-- A list of records as it lies. -/
structure RecsAt (W : World) (base : Nat) (lv : Value) (xs : List El) (zs : List Int) : Prop where
  pl : xs.map El.pl = goodI zs
  row : W.ownsRow base 23 1 lv xs.length (xs.map El.rv)
  each : ∀ x ∈ xs, rowX base x W
theorem RecsAt.later {W W' : World} {base : Nat} {lv : Value} {xs : List El} {zs : List Int} (h : RecsAt W base lv xs zs) (hb : Below W.heap.size W W') : RecsAt W' base lv xs zs :=
  ⟨h.pl, own_at h.row fun q hq => hb.block q (h.row.lt q hq).2, fun x hx => own_at (h.each x hx) fun q hq => hb.block q ((h.each x hx).lt q hq).2⟩
theorem RecsAt.len {W : World} {base : Nat} {lv : Value} {xs : List El} {zs : List Int} (h : RecsAt W base lv xs zs) : xs.length = (goodI zs).length := by rw [← h.pl, List.length_map]
theorem RecsAt.byt {W : World} {base : Nat} {lv : Value} {xs : List El} {zs : List Int} (h : RecsAt W base lv xs zs) (hz : Byt zs) : ∀ x ∈ xs, Byt x.r := fun x hx => by
  have hm : El.pl x ∈ goodI zs := by rw [← h.pl]; exact List.mem_map_of_mem hx
  obtain ⟨p, hp⟩ := gd_all zs _ _ _ _ hm
  obtain ⟨f1, f2, f3, f4, f5, f6, f7⟩ := fatI_some hp
  intro c hc
  have h1 : c ∈ frI x.n x.r := by unfold frI hdI; simp [hc]
  have h2 : c ∈ (zs.drop p).take (frI x.n x.r).length := by rw [show (zs.drop p).take (frI x.n x.r).length = frI x.n x.r from f5]; exact h1
  exact hz c (List.mem_of_mem_drop (List.mem_of_mem_take h2))
theorem RecsAt.small {W : World} {base : Nat} {lv : Value} {xs : List El} {zs : List Int} (h : RecsAt W base lv xs zs) : ∀ x ∈ xs, x.r.length ≤ 65536 := fun x hx => by
  have hm : El.pl x ∈ goodI zs := by rw [← h.pl]; exact List.mem_map_of_mem hx
  exact (good_all hm).2.2.1
/-- One record is spoilt; the others, and the list, lie as they lay. -/
theorem spoil_round {W4 W W' : World} {x : El} {l : List El} {n : Nat} {lv : Value} {vs : List Value} (hb : Below W4.heap.size W4 W) (hr : W.ownsRow W4.heap.size 23 1 lv n vs) (hx : ∀ y ∈ x :: l, rowX W4.heap.size y W) (ha : ∀ y ∈ l, Apq x y) (hg : Gr x.rv W (.slice none 0 0) W') :
    Below W4.heap.size W4 W' ∧ W'.ownsRow W4.heap.size 23 1 lv n vs ∧ ∀ y ∈ l, rowX W4.heap.size y W' := by
  have h0 : W.ownsRow W4.heap.size 5 1 x.rv x.r.length (u8l x.r) := hx x (by simp)
  refine ⟨hb.trans (hg.below hb.size fun q hq => (h0.lt q hq).1), own_at hr fun q hq => ?_, fun y hy => ?_⟩
  · refine hg.block q (hr.lt q hq).2 fun e => ?_
    obtain ⟨c1, e1⟩ := own_tag hr hq
    obtain ⟨c2, e2⟩ := own_tag h0 e
    exact ne_tag e1 e2 (by decide) rfl
  · have h1 : W.ownsRow W4.heap.size 5 1 y.rv y.r.length (u8l y.r) := hx y (by simp [hy])
    exact own_at h1 fun q hq => hg.block q (h1.lt q hq).2 fun e => ha y hy q e hq
theorem frm11 {zs : List Int} (h : Bz V v zs) (hr : ∀ q, v.ownBlock = some q → ∃ (c : Array Value) (f : Nat × Nat), V.heap[q]? = some (.cells c 5 f)) : Calls Try.prog 11 #[v] V fun e w' => ∃ xs la lc, e = .returned (.tuple #[.slice la (goodI zs).length lc, .int .u64 (lnL zs : Int), .int .i64 (endL zs : Int)]) ∧ Hid (RecsAt w' V.heap.size (.slice la (goodI zs).length lc) xs zs ∧ xs.Pairwise Apq ∧ Below V.heap.size V w') := by
  refine (frames_apart h hr).mono ?_
  rintro e w' ⟨xs, lv, rfl, h1, h2, h3, h4, h5⟩
  have hR : RecsAt w' V.heap.size lv xs zs := ⟨h1, h2, h3⟩
  obtain ⟨la, lc, rfl⟩ := own_slice h2
  rw [lastN_good h1, (lastE_good h1).1]
  rw [hR.len] at hR ⊢
  exact ⟨xs, la, lc, rfl, hR, h5, h4⟩
theorem frm12 {zs : List Int} (h : Bz V v zs) : Calls Try.prog 12 #[v] V fun e w' => ∃ xs la lc, e = .returned (.tuple #[.slice la (goodI zs).length lc, .int .u64 (lnL zs : Int), .int .i64 (endL zs : Int)]) ∧ Hid (RecsAt w' V.heap.size (.slice la (goodI zs).length lc) xs zs ∧ Below V.heap.size V w') := by
  refine (rframes_any h).mono ?_
  rintro e w' ⟨xs, lv, rfl, h1, h2, h3, h4⟩
  have hR : RecsAt w' V.heap.size lv xs zs := ⟨h1, h2, h3⟩
  obtain ⟨la, lc, rfl⟩ := own_slice h2
  rw [lastN_good h1, (lastE_good h1).1]
  rw [hR.len] at hR ⊢
  exact ⟨xs, la, lc, rfl, hR, h4⟩
theorem same_recs {W : World} {b1 b2 : Nat} {la lb : Value} {xs ys : List El} {zs : List Int} (h1 : RecsAt W b1 la xs zs) (h2 : RecsAt W b2 lb ys zs) (hz : Byt zs) (hl : zs.length ≤ 2000000) : Calls Try.prog 13 #[la, lb] W fun e w' => e = .returned (.bool true) ∧ ∃ n, w' = W.drewN n := by
  have m : ∀ l : List El, (l.map fun x => (x.rv, x.r)).map Prod.fst = l.map El.rv := fun l => by rw [List.map_map]; rfl
  have e : ∀ l : List El, l.map El.pl = goodI zs → (l.map fun x => (x.rv, x.r)).map Prod.snd = (goodI zs).map fun q => q.2.1 := fun l h => by rw [List.map_map, ← h, List.map_map]; rfl
  have hlen := good_len zs
  refine same_yes W la lb (xs.map fun x => (x.rv, x.r)) (ys.map fun x => (x.rv, x.r)) (ba := b1) (bb := b2) ?_ ?_ ?_ ?_ ?_ ?_
  · rw [m, List.length_map]; exact h1.row
  · rw [m, List.length_map]; exact h2.row
  · intro x hx
    obtain ⟨y, hy, rfl⟩ := List.mem_map.1 hx
    exact ⟨own_src (h1.each y hy), h1.byt hz y hy⟩
  · intro x hx
    obtain ⟨y, hy, rfl⟩ := List.mem_map.1 hx
    exact ⟨own_src (h2.each y hy), h2.byt hz y hy⟩
  · rw [e xs h1.pl, e ys h2.pl]
  · rw [List.length_map, h1.len]; omega
theorem two_good {S : Nat} {bs cs : List Int} (h1 : 1 ≤ S) (h2 : S + 1 < 18446744073709551616) (hb : bs.length ≤ 65536) (hc : cs.length ≤ 65536) : (goodI (frI S bs ++ frI (S + 1) cs)).length = 2 ∧ lnL (frI S bs ++ frI (S + 1) cs) = S + 1 ∧ endL (frI S bs ++ frI (S + 1) cs) = (frI S bs).length + (frI (S + 1) cs).length ∧ (goodI (frI S bs ++ frI (S + 1) cs)).map (fun q => q.2.1) = [bs, cs] := by
  have e : frI S bs ++ frI (S + 1) cs = frs S [bs, cs] := by simp [frs]
  have hg := good_frs [bs, cs] S (fun b hb' => by simp at hb'; rcases hb' with rfl | rfl <;> assumption) h1 (by simp; omega)
  unfold lnL endL
  rw [e, hg]
  refine ⟨by simp [gdL], by simp [gdL], ?_, by simp [gdL]⟩
  simp [gdL]
theorem u8l_append (a b : List Int) : u8l (a ++ b) = u8l a ++ u8l b := by simp [u8l]
/-- A list of two slices, laid as a literal. -/
theorem lit2 (W : World) (x y : Value) : (W.alloc (.cells #[x, y] 23)).ownsRow W.heap.size 23 1 (.slice (some ⟨W.heap.size, 0, none⟩) 2 2) 2 [x, y] :=
  ⟨rfl, .inr ⟨W.heap.size, 2, #[x, y], rfl, Nat.le_refl _, Go.heap_alloc_new _ _, Nat.le_refl _, by unfold maxLen; omega, rfl, rfl⟩⟩
end Go.Proofs.Ytflhgphjkhplmaa.D
