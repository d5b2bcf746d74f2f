import Derived.Test.YtflhgphjkhplmaaML20
import Derived.Test.YtflhgphjkhplmaaML17
import Derived.Test.YtflhgphjkhplmaaML16
import Derived.Test.YtflhgphjkhplmaaML18
import Derived.Test.YtflhgphjkhplmaaML05
/- Checkpoint. -/
namespace Go.Proofs.Ytflhgphjkhplmaa.D
open Go Go.RowKit W R Go.Shelf
set_option linter.unusedVariables false
set_option linter.unusedSimpArgs false
attribute [local go_sem] Oper.semAt_some

variable {w w' : World} {L D k : Nat} {sy : Int} {F F' P P' : Nat → Prop} {dl : List Fd} {g : Lg} {s : List UInt8} {bs : List Int}
/-- What Checkpoint answers, and what is left behind it. -/
def kpE (g : Lg) (bs : List Int) (dl : List Fd) : Int := if 65536 < bs.length then 4 else if seqN g = 0 then 5 else wbE (frI (seqN g) bs) dl
def kpGo (g : Lg) (bs : List Int) : Prop := ¬ 65536 < bs.length ∧ ¬ seqN g = 0
instance (g : Lg) (bs : List Int) : Decidable (kpGo g bs) := by unfold kpGo; infer_instance
def kpG (g : Lg) (bs : List Int) (dl : List Fd) : Lg := if kpE g bs dl = 0 then ⟨seqN g, bs, [], g.cut⟩ else g
def kpD (g : Lg) (bs : List Int) (dl : List Fd) : List Fd := if kpGo g bs then (if wbE (frI (seqN g) bs) dl = 0 then cuD nLog 0 (wbD (frI (seqN g) bs) dl) else wbD (frI (seqN g) bs) dl) else dl
def kpS (g : Lg) (bs : List Int) (dl : List Fd) (sy : Int) : Int := if kpGo g bs then wbS (frI (seqN g) bs) dl sy else sy
theorem WS.upto {j : Nat} (h : WS w D L k F P sy dl g) (hj : k ≤ j) : WS w D L j F P sy dl g := by
  obtain ⟨i, rfl⟩ : ∃ i, j = k + i := ⟨j - k, by omega⟩
  clear hj
  induction i with
  | zero => exact h
  | succ i ih => exact ih.more
set_option maxRecDepth 100000 in
set_option maxHeartbeats 4000000 in
theorem ckp_any (h : WS w D L k F P sy dl g) (hk : k ≤ 900000) (hl : g.rs.length ≤ 1000000) (hsq : seqN g < 18446744073709551616) {v : Value} (hsv : SrcG w (fun q => F q ∨ P q) v bs) (hb : Byt bs) (hbl : bs.length ≤ 2000000) : Calls Try.prog 19 #[.pointer (some ⟨L, 0, none⟩), v] w fun e w' => e = .returned (.int .i64 (kpE g bs dl)) ∧ ∃ F' P', WS w' D L (k + 6) F' P' (kpS g bs dl sy) (kpD g bs dl) (kpG g bs dl) ∧ Fr (fun q => F q ∨ P q) (fun q => F' q ∨ P' q) w w' := by
  obtain ⟨va, vc, rfl⟩ := hsv.now.slice
  obtain ⟨S, hS⟩ : ∃ S, seqN g = S := ⟨_, rfl⟩
  obtain ⟨B, hB⟩ : ∃ B, bs.length = B := ⟨_, rfl⟩
  have HS : Hid (WS w D L k F P sy dl g ∧ k ≤ 900000 ∧ SrcG w (fun q => F q ∨ P q) (.slice va bs.length vc) bs ∧ Byt bs ∧ B ≤ 2000000 ∧ bs.length = B ∧ seqN g = S ∧ S < 18446744073709551616) := ⟨h, hk, hsv, hb, by omega, hB, hS, by omega⟩
  have HQ : Hid (∀ m, Calls Try.prog 31 #[.pointer (some ⟨L, 0, none⟩)] (w.drewN m) fun e w' => e = .returned (.int .u64 (S : Int)) ∧ ∃ n, w' = w.drewN n) := by
    show ∀ m, _
    intro m
    have := seq_some (h.newer (drewN_below w m)).lg (by omega)
    rw [hS] at this
    refine this.mono ?_
    rintro e w' ⟨rfl, n, rfl⟩
    exact ⟨rfl, m + n, by rw [World.drewN_drewN]⟩
  rw [hB]
  have hBi : (B : Int) ≤ 2000000 := by omega
  clear h hk hsv hb hbl hS hB hsq hl
  by_cases h1 : 65536 < B
  · have h1i : (65536 : Int) < (B : Int) := by omega
    have HB1 : Hid (65536 < B) := h1
    clear h1
    go_enter Try.func19, Try.ntmps19
    go_wp2_with fail
    refine bodyPost_ret (v := .int .i64 4) (results_tmp Try.results19 _ _ _) rfl ?_
    have n0 : ¬ kpGo g bs := fun h => h.1 (by rw [HS.out.2.2.2.2.2.1]; exact HB1.out)
    have e1 : kpE g bs dl = 4 := by unfold kpE; rw [HS.out.2.2.2.2.2.1, if_pos HB1.out]
    have e2 : kpD g bs dl = dl := if_neg n0
    have e3 : kpS g bs dl sy = sy := if_neg n0
    have e4 : kpG g bs dl = g := by unfold kpG; rw [e1]; rfl
    rw [e1, e2, e3, e4]
    exact ⟨rfl, F, P, HS.out.1.upto (by omega), Fr.refl _ _⟩
  · have h1i : ¬ (65536 : Int) < (B : Int) := by omega
    have HB1 : Hid (¬ 65536 < B) := h1
    clear h1
    by_cases hS0 : S = 0
    · subst hS0
      go_enter Try.func19, Try.ntmps19
      go_wp2_with (go_at_call 31; refine (HQ.out 0).mono ?_; rintro e w1 ⟨rfl, n1, rfl⟩)
      refine bodyPost_ret (v := .int .i64 5) (results_tmp Try.results19 _ _ _) rfl ?_
      have n0 : ¬ kpGo g bs := fun h => h.2 HS.out.2.2.2.2.2.2.1
      have e1 : kpE g bs dl = 5 := by unfold kpE; rw [HS.out.2.2.2.2.2.1, if_neg HB1.out, HS.out.2.2.2.2.2.2.1, if_pos rfl]
      have e2 : kpD g bs dl = dl := if_neg n0
      have e3 : kpS g bs dl sy = sy := if_neg n0
      have e4 : kpG g bs dl = g := by unfold kpG; rw [e1]; rfl
      rw [e1, e2, e3, e4]
      exact ⟨rfl, F, P, (HS.out.1.newer (drewN_below w n1)).upto (by omega), Fr.newer (drewN_below w n1)⟩
    · have hS1 : ((S : Int) == 0) = false := by rw [beq_eq_false_iff_ne]; omega
      have HS0 : Hid (S ≠ 0) := hS0
      have hS0i : ¬ (S : Int) = 0 := by omega
      clear hS0
      go_enter Try.func19, Try.ntmps19
      go_upto_region 7 with (go_at_call 31; refine (HQ.out 0).mono ?_; rintro e w1 ⟨rfl, n1, rfl⟩)
      obtain ⟨fs, hfs⟩ : ∃ fs, frI S bs = fs := ⟨_, rfl⟩
      obtain ⟨N, hN⟩ : ∃ N, fs.length = N := ⟨_, rfl⟩
      have hBl : bs.length ≤ 65536 := by rw [HS.out.2.2.2.2.2.1]; have := HB1.out; omega
      have hE : frE S bs.length = 0 := by unfold frE; rw [if_neg HS0.out, if_neg (by omega)]
      have HFS : Hid (frI S bs = fs ∧ fs.length = N ∧ Byt fs ∧ N ≤ 1048576) := ⟨hfs, hN, by rw [← hfs]; exact frI_byt HS.out.2.2.2.1, by have := (frI_len HS.out.2.2.2.2.2.2.2 hBl).2; rw [hfs] at this; omega⟩
      have HF8 : Hid (∀ m, Calls Try.prog 8 #[.int .u64 (S : Int), .slice va B vc] (w.drewN m) fun e w' => ∃ fa fc, e = .returned (.tuple #[.slice fa N fc, .int .i64 0]) ∧ Hid (w'.ownsRow w.heap.size 5 1 (.slice fa N fc) fs.length (u8l fs) ∧ Below w.heap.size w w')) := by
        show ∀ m, _
        intro m
        have h := frame_any (w := w.drewN m) S HS.out.2.2.2.2.2.2.2 (HS.out.2.2.1 (w.drewN m) fun q _ _ => rfl) HS.out.2.2.2.1 (by omega)
        rw [hE, HS.out.2.2.2.2.2.1] at h
        refine h.mono ?_
        rintro e w' ⟨⟨v', rfl, h1, h2⟩, h3⟩
        have h4 := h1 rfl
        rw [hfs] at h4
        obtain ⟨fa, fc, rfl⟩ := own_slice h4
        rw [hN] at h4 ⊢
        exact ⟨fa, fc, rfl, h4, (drewN_below w m).trans h3⟩
      clear hBl hE hfs hN
      go_upto_region 11 with (first | (go_at_call 31; refine (HQ.out n1).mono ?_; rintro e w2 ⟨rfl, n2, rfl⟩) | (go_at_call 8; refine (HF8.out _).mono ?_; rintro e w3 ⟨fa, fc, rfl, H3⟩))
      obtain ⟨E, hE⟩ : ∃ E, wbE fs dl = E := ⟨_, rfl⟩
      have HWB : Hid (Calls Try.prog 43 #[.pointer (some ⟨L, 0, none⟩), .slice fa N fc] w3 fun e w' => e = .returned (.int .i64 E) ∧ ∃ F4, Hid (WS w' D L (k + 5) F4 P (wbS fs dl sy) (wbD fs dl) g ∧ Fr (fun q => F q ∨ P q) (fun q => F4 q ∨ P q) w w')) := by
        have hw := HS.out.1.newer H3.out.2
        have hs : SrcG w3 F (.slice fa N fc) fs := SrcG.own H3.out.1 fun q hq hF => by
          have h1 := (H3.out.1.lt q hq).1
          have h2 := HS.out.1.dr.lt q hF
          omega
        have h := writeBase_any hw HS.out.2.1 hs HFS.out.2.2.1 (by have := HFS.out; omega)
        rw [hE] at h
        refine h.mono ?_
        rintro e w' ⟨rfl, F4, h1, h2⟩
        exact ⟨rfl, F4, h1, (Fr.newer H3.out.2).trans' h2⟩
      have HE : Hid (wbE fs dl = E) := hE
      have g0 : kpGo g bs := ⟨by rw [HS.out.2.2.2.2.2.1]; exact HB1.out, by rw [HS.out.2.2.2.2.2.2.1]; exact HS0.out⟩
      have e1 : kpE g bs dl = E := by unfold kpE; rw [HS.out.2.2.2.2.2.1, if_neg HB1.out, HS.out.2.2.2.2.2.2.1, if_neg HS0.out, HFS.out.1, hE]
      have HGO : Hid (kpE g bs dl = E ∧ kpD g bs dl = (if E = 0 then cuD nLog 0 (wbD fs dl) else wbD fs dl) ∧ kpS g bs dl sy = wbS fs dl sy ∧ kpG g bs dl = if E = 0 then ⟨S, bs, [], g.cut⟩ else g) := by
        refine ⟨e1, ?_, ?_, ?_⟩
        · unfold kpD; rw [if_pos g0, HS.out.2.2.2.2.2.2.1, HFS.out.1, hE]
        · unfold kpS; rw [if_pos g0, HS.out.2.2.2.2.2.2.1, HFS.out.1]
        · unfold kpG; rw [e1, HS.out.2.2.2.2.2.2.1]
      clear hE g0 e1 HF8 HQ
      by_cases hE0 : E = 0
      · subst hE0
        go_upto_region 14 with (go_at_call 43; refine HWB.out.mono ?_; rintro e w4 ⟨rfl, F4, H4⟩)
        have H4d : Hid (WS w4.drew D L (k + 5) F4 P (wbS fs dl sy) (wbD fs dl) g ∧ Fr (fun q => F q ∨ P q) (fun q => F4 q ∨ P q) w w4.drew) := ⟨H4.out.1.newer (drewN_below w4 1), H4.out.2.trans' (Fr.newer (drewN_below w4 1))⟩
        obtain ⟨x0, x1⟩ := H4d.out.1.cellD
        have hcat : ∀ W, (binOp .add 9 (.string { data := #[97] }) (.string { data := #[46, 108, 111, 103] })).run Try.prog W = .ok (.string (tx nLog)) W := fun W => by kernel_rfl
        have HCT : Hid (Calls Try.prog 44 #[.pointer (some ⟨D, 0, none⟩), .string (tx nLog), .int .i64 0] w4.drew fun e w' => (∃ y, e = .returned (.int .i64 y)) ∧ ∃ F5, Hid (WS w' D L (k + 6) F5 P (wbS fs dl sy) (cuD nLog 0 (wbD fs dl)) g ∧ Fr (fun q => F q ∨ P q) (fun q => F5 q ∨ P q) w w')) := by
          refine (p_cut H4d.out.1.dr H4d.out.1.inv 0).mono ?_
          rintro e w' ⟨rfl, F5, h1, h2⟩
          obtain ⟨h3, h4⟩ := H4d.out.1.disk h1 h2 (cu_inv H4d.out.1.inv)
          exact ⟨⟨_, rfl⟩, F5, h3, H4d.out.2.trans' h4⟩
        have HCD : Hid (∀ w' F5, WS w' D L (k + 6) F5 P (wbS fs dl sy) (cuD nLog 0 (wbD fs dl)) g → w'.cell? ⟨L, 0, none⟩ = some (.pointer (some ⟨D, 0, none⟩)) ∧ w'.cell? ⟨L, 1, none⟩ = some (.string { data := #[97] })) := fun w' F5 h => h.cellD
        clear HWB
        go_region_held3 (fun w' => w'.cell? ⟨L, 0, none⟩ = some (.pointer (some ⟨D, 0, none⟩)) ∧ w'.cell? ⟨L, 1, none⟩ = some (.string { data := #[97] })) (first | exact K1 | go_keep) ((go_at_call 44; refine HCT.out.mono ?_; rintro e w5 ⟨⟨y5, rfl⟩, F5, H5⟩; (have K1 := HCD.out w5 F5 H5.out.1)))
        all_goals (
          obtain ⟨bv, rv, xs, l1, l2, l3, l4, l5, l6⟩ := H5.out.1.lg
          have HLG : Hid (w5.heap[L]? = some (.cells (logC D g bv rv) 95 (0, 0)) ∧ P L) := ⟨l1, (l6 L).2 (.inl rfl)⟩
          have HCN : Hid (Calls Try.prog 45 #[.slice va B vc] w5 fun e w6 => ∃ ca cc, e = .returned (.slice ca B cc) ∧ Hid (w6.ownsRow w5.heap.size 5 1 (.slice ca B cc) bs.length (u8l bs) ∧ Below w5.heap.size w5 w6)) := by
            have hsrc : Src w5 (.slice va bs.length vc) bs := HS.out.2.2.1 w5 fun q hq hn => H5.out.2.block q hq hn
            have hc := bclone_any _ bs w5 hsrc (by have := HS.out.2.2.2.2.1; have := HS.out.2.2.2.2.2.1; omega)
            rw [HS.out.2.2.2.2.2.1] at hc
            refine hc.mono ?_
            rintro e w6 ⟨⟨v', rfl, ho⟩, h2⟩
            obtain ⟨ca, cc, rfl⟩ := own_slice ho
            refine ⟨ca, cc, rfl, ?_, h2⟩
            rw [HS.out.2.2.2.2.2.1]
            exact ho
          clear l1 l2 l3 l4 l5 l6 x0 x1 hcat HCT HCD
          go_wp2_with (go_at_call 45; refine HCN.out.mono ?_; rintro e w6 ⟨ca, cc, rfl, H6⟩; (have hL6 : w6.heap[L]? = some (.cells (logC D g bv rv) 95 (0, 0)) := (H6.out.2.block L (Array.getElem?_eq_some_iff.1 HLG.out.1).1).trans HLG.out.1); (have k2 : w6.cell? ⟨L, 2, none⟩ = some (.int .u64 (g.bn : Int)) := by rw [cell_of_row _ _ _ _ _ _ hL6]; rfl); (have k3 : w6.cell? ⟨L, 3, none⟩ = some bv := by rw [cell_of_row _ _ _ _ _ _ hL6]; rfl); (have k4 : w6.cell? ⟨L, 4, none⟩ = some rv := by rw [cell_of_row _ _ _ _ _ _ hL6]; rfl); (have f2 := frozen_of_row _ _ 2 _ _ hL6); (have f3 := frozen_of_row _ _ 3 _ _ hL6); (have f4 := frozen_of_row _ _ 4 _ _ hL6); (have HL6 : Hid (w6.heap[L]? = some (.cells (logC D g bv rv) 95 (0, 0))) := hL6); clear hL6)
          refine bodyPost_ret (v := .int .i64 0) (results_tmp Try.results19 _ _ _) rfl ?_
          obtain ⟨q1, q2, q3, q4⟩ := HGO.out
          rw [q1, q2, q3, q4]
          simp only [if_true]
          have hLl : L < w5.heap.size := (Array.getElem?_eq_some_iff.1 HLG.out.1).1
          have hV : ∀ q, q ≠ L → (((w6.setCell ⟨L, 2, none⟩ (.int .u64 (S : Int))).setCell ⟨L, 3, none⟩ (.slice ca B cc)).setCell ⟨L, 4, none⟩ (.slice none 0 0)).heap[q]? = w6.heap[q]? := fun q hq => by rw [Below.heap_setCell _ _ _ _ hq, Below.heap_setCell _ _ _ _ hq, Below.heap_setCell _ _ _ _ hq]
          obtain ⟨P', r1, r2⟩ := rb_fin (V := ((w6.setCell ⟨L, 2, none⟩ (.int .u64 (S : Int))).setCell ⟨L, 3, none⟩ (.slice ca B cc)).setCell ⟨L, 4, none⟩ (.slice none 0 0)) (bv := bv) (bv' := .slice ca B cc) (v := .slice none 0 0) (xs := []) (g' := ⟨S, bs, [], g.cut⟩) H5.out.1 (fun q hq => by cases hq) (fun x hx => (nomatch hx)) HLG.out.2 (World.ownsRow_nil _ _ _ _) (fun x hx => (nomatch hx)) rfl
            (row_set (i := 4) (.slice none 0 0) (row_set (i := 3) (.slice ca B cc) (row_set (i := 2) (.int .u64 (S : Int)) HL6.out))) (fun q hq hn => (hV q hn).trans (H6.out.2.block q hq)) H6.out.2.os H6.out.2.tape H6.out.2.output (by simpa using H6.out.2.size)
            (own_at H6.out.1 fun q hq => hV q fun e => by have := (H6.out.1.lt q hq).1; omega)
          first | exact ⟨rfl, F5, P', r1, H5.out.2.trans' r2⟩ | exact ⟨trivial, F5, P', r1, H5.out.2.trans' r2⟩ | exact ⟨F5, P', r1, H5.out.2.trans' r2⟩)
      · have hE1 : (E != 0) = true := by rw [bne_iff_ne]; exact hE0
        have HE0 : Hid (E ≠ 0) := hE0
        clear hE0
        go_wp2_with (go_at_call 43; refine HWB.out.mono ?_; rintro e w4 ⟨rfl, F4, H4⟩)
        refine bodyPost_ret (v := .int .i64 E) (results_tmp Try.results19 _ _ _) rfl ?_
        obtain ⟨q1, q2, q3, q4⟩ := HGO.out
        rw [q1, q2, q3, q4, if_neg HE0.out, if_neg HE0.out]
        exact ⟨rfl, F4, P, H4.out.1.more, H4.out.2⟩
end Go.Proofs.Ytflhgphjkhplmaa.D

/- A log and its files, plainly, as the calls of the law turn them: appended to, synced, checkpointed. -/
namespace Go.Proofs.Ytflhgphjkhplmaa.D
open W
set_option linter.unusedVariables false
set_option linter.unusedSimpArgs false

/-- The checkpoint (its number and record), the log's file (its bytes, and where its writes begin), the records behind the checkpoint, what was cut. -/
structure Ps where
  c : Option (Nat × List Int)
  f : Option (List Int × List Int)
  l : List (List Int)
  cut : Nat
def Ps.at' (s : Ps) : Nat := match s.c with | some q => q.1 | none => 0
def Ps.b (s : Ps) : List Int := match s.c with | some q => q.2 | none => []
def Ps.dl (s : Ps) : List Fd := (match s.c with | some q => [⟨nCkp, frI q.1 q.2, []⟩] | none => []) ++ (match s.f with | some p => [⟨nLog, p.1, p.2⟩] | none => [])
def Ps.g (s : Ps) : Lg := ⟨s.at', s.b, numL (s.at' + 1) s.l, s.cut⟩
def Ps.m (s : Ps) : Mg := ⟨s.at', s.b, s.l, s.cut⟩
def Ps.seq (s : Ps) : Nat := s.at' + s.l.length
theorem ne1 : ¬ nLog = nCkp := by decide
theorem ne2 : ¬ nCkp = nLog := by decide
theorem ne3 : ¬ nNew = nCkp := by decide
theorem ne4 : ¬ nNew = nLog := by decide
theorem ne5 : ¬ nCkp = nNew := by decide
theorem ne6 : ¬ nLog = nNew := by decide
theorem lt1 : ltB nCkp nLog = true := by decide
theorem lt2 : ltB nCkp nNew = true := by decide
theorem lt3 : ltB nLog nNew = false := by decide
theorem lt4 : ltB nLog nCkp = false := by decide
theorem lt5 : ltB nNew nLog = true := by decide
theorem lt6 : ltB nCkp nCkp = false := by decide
theorem nm1 : nameB nLog = true := by decide
theorem nm2 : nameB nNew = true := by decide
theorem nm3 : nameB nCkp = true := by decide
theorem numL_last : ∀ (l : List (List Int)) (n : Nat), (numL n l).getLast?.map Prod.fst = if l = [] then none else some (n + l.length - 1)
  | [], n => rfl
  | [b], n => by simp [numL]
  | b :: c :: l, n => by
    have ih := numL_last (c :: l) (n + 1)
    have e : numL n (b :: c :: l) = (n, b) :: numL (n + 1) (c :: l) := rfl
    rw [e, List.getLast?_cons]
    cases hx : (numL (n + 1) (c :: l)).getLast? with
    | none => simp [numL] at hx
    | some x =>
      rw [hx] at ih
      simp at ih ⊢
      omega
theorem seq_g (s : Ps) : seqN s.g = s.seq := by
  unfold seqN Ps.g Ps.seq
  dsimp only
  have h := numL_last s.l (s.at' + 1)
  cases hx : (numL (s.at' + 1) s.l).getLast? with
  | none =>
    rw [hx] at h
    by_cases hl : s.l = []
    · rw [hl]; rfl
    · rw [if_neg hl] at h; simp at h
  | some x =>
    rw [hx] at h
    by_cases hl : s.l = []
    · rw [if_pos hl] at h; simp at h
    · rw [if_neg hl] at h
      simp at h ⊢
      have : 0 < s.l.length := List.length_pos_iff.2 hl
      omega
theorem lk_log (s : Ps) : lkF nLog s.dl = s.f.map fun p => ⟨nLog, p.1, p.2⟩ := by
  obtain ⟨c, f, l, cut⟩ := s
  cases c <;> cases f <;> simp [Ps.dl, lkF, ne1]
theorem lk_ckp (s : Ps) : lkF nCkp s.dl = s.c.map fun q => ⟨nCkp, frI q.1 q.2, []⟩ := by
  obtain ⟨c, f, l, cut⟩ := s
  cases c <;> cases f <;> simp [Ps.dl, lkF, ne2]
theorem lk_new (s : Ps) : lkF nNew s.dl = none := by
  obtain ⟨c, f, l, cut⟩ := s
  cases c <;> cases f <;> simp [Ps.dl, lkF, ne3, ne4]
theorem dl_len (s : Ps) : s.dl.length ≤ 2 := by
  obtain ⟨c, f, l, cut⟩ := s
  cases c <;> cases f <;> simp [Ps.dl]
def Ps.fr (s : Ps) (bs : List Int) : List Int := frI (s.seq + 1) bs
def Ps.apOk (s : Ps) (bs : List Int) : Prop := ¬ 65536 < bs.length ∧ match s.f with | none => True | some p => ((s.fr bs).length : Int) ≤ 1048576 - p.1.length
instance (s : Ps) (bs : List Int) : Decidable (s.apOk bs) := by
  unfold Ps.apOk
  cases s.f <;> infer_instance
def Ps.ap (s : Ps) (bs : List Int) : Ps := ⟨s.c, some (match s.f with | none => (s.fr bs, [0]) | some p => (p.1 ++ s.fr bs, p.2 ++ [(p.1.length : Int)])), s.l ++ [bs], s.cut⟩
theorem ap_yes {s : Ps} {bs : List Int} (h : s.apOk bs) (hs : s.seq + 1 < 18446744073709551616) : apE nLog (s.fr bs) s.dl = 0 ∧ apD nLog (s.fr bs) s.dl = (s.ap bs).dl := by
  have hp := fr_pos (b := bs) hs (by have := h.1; omega)
  have hne : s.fr bs ≠ [] := by
    intro e
    unfold Ps.fr at e
    rw [e] at hp
    simp at hp
  unfold apE apD
  rw [lk_log, nm1]
  simp only [Bool.true_eq_false, if_false]
  obtain ⟨c, f, l, cut⟩ := s
  cases f with
  | none =>
    have hl : ¬ (Ps.mk c none l cut).dl.length = 64 := by have := dl_len ⟨c, none, l, cut⟩; omega
    simp only [Option.map_none]
    rw [if_neg hl, if_neg hl]
    refine ⟨rfl, ?_⟩
    unfold resA
    rw [if_neg hne]
    cases c <;> simp [Ps.dl, Ps.ap, insF, setF, lt1, ne1]
  | some p =>
    have h2 : (((Ps.mk c (some p) l cut).fr bs).length : Int) ≤ 1048576 - p.1.length := h.2
    simp only [Option.map_some]
    rw [if_pos h2, if_pos h2]
    refine ⟨rfl, ?_⟩
    unfold resA
    rw [if_neg hne]
    cases c <;> simp [Ps.dl, Ps.ap, setF, ne1]
theorem ap_no {s : Ps} {bs : List Int} (h : ¬ s.apOk bs) (hb : ¬ 65536 < bs.length) : apE nLog (s.fr bs) s.dl = 4 ∧ apD nLog (s.fr bs) s.dl = s.dl := by
  unfold apE apD
  rw [lk_log, nm1]
  simp only [Bool.true_eq_false, if_false]
  obtain ⟨c, f, l, cut⟩ := s
  cases f with
  | none => exact absurd ⟨hb, trivial⟩ h
  | some p =>
    have h2 : ¬ (((Ps.mk c (some p) l cut).fr bs).length : Int) ≤ 1048576 - p.1.length := fun e => h ⟨hb, e⟩
    simp only [Option.map_some]
    rw [if_neg h2, if_neg h2]
    exact ⟨rfl, rfl⟩
theorem frE_le {n m : Nat} (h : ¬ 65536 < m) : frE (n + 1) m = 0 := by unfold frE; rw [if_neg (by omega), if_neg (by omega)]
theorem frE_gt {n m : Nat} (h : 65536 < m) : frE (n + 1) m = 4 := by unfold frE; rw [if_neg (by omega), if_pos h]
def Ps.apT (s : Ps) (bs : List Int) : Ps := if s.apOk bs then s.ap bs else s
def Ps.apR (s : Ps) (bs : List Int) : Int := if s.apOk bs then 0 else 4
/-- What Append does, on both sides. -/
theorem ap_both (s : Ps) (bs : List Int) (hs : s.seq + 1 < 18446744073709551616) : (apLE s.g bs s.dl = s.apR bs ∧ apLD s.g bs s.dl = (s.apT bs).dl ∧ apLG s.g bs s.dl = (s.apT bs).g) ∧ mpE s.m bs s.dl = s.apR bs ∧ mpD s.m bs s.dl = (s.apT bs).dl ∧ mpG s.m bs s.dl = (s.apT bs).m := by
  have hf : mpF s.m bs = s.fr bs := rfl
  unfold Ps.apR Ps.apT
  by_cases hb : 65536 < bs.length
  · have hn : ¬ s.apOk bs := fun h => h.1 hb
    rw [if_neg hn, if_neg hn]
    have e1 : apLE s.g bs s.dl = 4 := by unfold apLE; rw [frE_gt hb]; rfl
    have e2 : mpE s.m bs s.dl = 4 := if_pos hb
    refine ⟨⟨e1, ?_, ?_⟩, e2, ?_, ?_⟩
    · unfold apLD; rw [frE_gt hb]; rfl
    · unfold apLG; rw [e1]; rfl
    · exact if_pos hb
    · unfold mpG; rw [e2]; rfl
  · have e0 : apLE s.g bs s.dl = apE nLog (s.fr bs) s.dl := by unfold apLE; rw [frE_le hb, if_pos rfl, seq_g]; rfl
    have e1 : apLD s.g bs s.dl = apD nLog (s.fr bs) s.dl := by unfold apLD; rw [frE_le hb, if_pos rfl, seq_g]; rfl
    have e2 : mpE s.m bs s.dl = apE nLog (s.fr bs) s.dl := by unfold mpE; rw [if_neg hb, hf]
    have e3 : mpD s.m bs s.dl = apD nLog (s.fr bs) s.dl := by unfold mpD; rw [if_neg hb, hf]
    by_cases h : s.apOk bs
    · obtain ⟨a1, a2⟩ := ap_yes h hs
      rw [if_pos h, if_pos h]
      rw [a1] at e0 e2
      rw [a2] at e1 e3
      refine ⟨⟨e0, e1, ?_⟩, e2, e3, ?_⟩
      · unfold apLG
        rw [e0, if_pos rfl, seq_g]
        show Lg.mk s.at' s.b (numL (s.at' + 1) s.l ++ [(s.at' + s.l.length + 1, bs)]) s.cut = Lg.mk s.at' s.b (numL (s.at' + 1) (s.l ++ [bs])) s.cut
        rw [numL_app, show s.at' + 1 + s.l.length = s.at' + s.l.length + 1 by omega]
        rfl
      · unfold mpG
        rw [e2, if_pos rfl]
        rfl
    · obtain ⟨a1, a2⟩ := ap_no h hb
      rw [if_neg h, if_neg h]
      rw [a1] at e0 e2
      rw [a2] at e1 e3
      refine ⟨⟨e0, e1, ?_⟩, e2, e3, ?_⟩
      · unfold apLG; rw [e0]; rfl
      · unfold mpG; rw [e2]; rfl
/-- Sync. -/
def Ps.sy (s : Ps) : Ps := ⟨s.c, s.f.map fun p => (p.1, []), s.l, s.cut⟩
theorem sy_both (s : Ps) : syD nLog s.dl = s.sy.dl ∧ s.sy.g = s.g ∧ s.sy.m = s.m := by
  refine ⟨?_, rfl, rfl⟩
  unfold syD
  rw [lk_log]
  obtain ⟨c, f, l, cut⟩ := s
  cases f with
  | none => rfl
  | some p => cases c <;> simp [Ps.dl, Ps.sy, setF, ne1]
/-- Checkpoint. -/
def Ps.ckOk (s : Ps) (bs : List Int) : Prop := ¬ 65536 < bs.length ∧ ¬ s.seq = 0
instance (s : Ps) (bs : List Int) : Decidable (s.ckOk bs) := by unfold Ps.ckOk; infer_instance
def Ps.ck (s : Ps) (bs : List Int) : Ps := ⟨some (s.seq, bs), s.f.map fun p => ([], []), [], s.cut⟩
def Ps.ckT (s : Ps) (bs : List Int) : Ps := if s.ckOk bs then s.ck bs else s
def Ps.ckR (s : Ps) (bs : List Int) : Int := if 65536 < bs.length then 4 else if s.seq = 0 then 5 else 0
theorem new_steps {s : Ps} {bs : List Int} {n : Nat} (hn : n < 18446744073709551616) (hb : ¬ 65536 < bs.length) : apE nNew (frI n bs) s.dl = 0 ∧ lkF nNew (apD nNew (frI n bs) s.dl) = some ⟨nNew, frI n bs, [0]⟩ ∧ mvE nNew nCkp (syD nNew (apD nNew (frI n bs) s.dl)) = 0 ∧ mvD nNew nCkp (syD nNew (apD nNew (frI n bs) s.dl)) = (Ps.mk (some (n, bs)) s.f s.l s.cut).dl := by
  have hp := fr_pos (b := bs) hn (by omega)
  have hne : frI n bs ≠ [] := by
    intro e
    rw [e] at hp
    simp at hp
  have hl : ¬ s.dl.length = 64 := by have := dl_len s; omega
  have e0 : apE nNew (frI n bs) s.dl = 0 := by unfold apE; rw [lk_new, nm2]; simp only [Bool.true_eq_false, if_false]; rw [if_neg hl]
  have e1 : apD nNew (frI n bs) s.dl = resA nNew ⟨nNew, [], []⟩ (frI n bs) (insF ⟨nNew, [], []⟩ s.dl) := by unfold apD; rw [lk_new, nm2]; simp only [Bool.true_eq_false, if_false]; rw [if_neg hl]
  have e2 : lkF nNew (apD nNew (frI n bs) s.dl) = some ⟨nNew, frI n bs, [0]⟩ := by
    rw [e1]
    unfold resA
    rw [if_neg hne]
    obtain ⟨c, f, l, cut⟩ := s
    cases c <;> cases f <;> simp [Ps.dl, insF, setF, lkF, lt2, lt3, ne3, ne4]
  have e3 : syD nNew (apD nNew (frI n bs) s.dl) = setF nNew (frI n bs) [] (apD nNew (frI n bs) s.dl) := by unfold syD; rw [e2]
  have e4 : lkF nNew (syD nNew (apD nNew (frI n bs) s.dl)) = some ⟨nNew, frI n bs, []⟩ := by
    rw [e3, e1]
    unfold resA
    rw [if_neg hne]
    obtain ⟨c, f, l, cut⟩ := s
    cases c <;> cases f <;> simp [Ps.dl, insF, setF, lkF, lt2, lt3, ne3, ne4]
  refine ⟨e0, e2, ?_, ?_⟩
  · unfold mvE; rw [e4, nm3]; rfl
  · unfold mvD
    rw [e4, nm3]
    simp only [Bool.true_eq_false, if_false]
    unfold renF
    rw [if_neg ne3, e3, e1]
    unfold resA
    rw [if_neg hne]
    obtain ⟨c, f, l, cut⟩ := s
    cases c <;> cases f <;> simp [Ps.dl, insF, setF, outF, lt1, lt2, lt3, lt4, lt5, ne1, ne2, ne3, ne4, ne5, ne6]
theorem cu_log (s : Ps) : cuD nLog 0 s.dl = (Ps.mk s.c (s.f.map fun p => ([], [])) s.l s.cut).dl := by
  unfold cuD
  rw [lk_log]
  obtain ⟨c, f, l, cut⟩ := s
  cases f with
  | none => rfl
  | some p =>
    simp only [Option.map_some]
    rw [if_neg (by omega)]
    cases c <;> simp [Ps.dl, setF, ne1]
theorem ck_both (s : Ps) (bs : List Int) (hs : s.seq < 18446744073709551616) : (kpE s.g bs s.dl = s.ckR bs ∧ kpD s.g bs s.dl = (s.ckT bs).dl ∧ kpG s.g bs s.dl = (s.ckT bs).g) ∧ mkE s.m bs s.dl = s.ckR bs ∧ mkD s.m bs s.dl = (s.ckT bs).dl ∧ mkG s.m bs s.dl = (s.ckT bs).m := by
  have hm : s.m.at' + s.m.l.length = s.seq := rfl
  have hrm : wb1 s.dl = s.dl := outF_none (lk_new s)
  unfold Ps.ckR Ps.ckT
  by_cases hb : 65536 < bs.length
  · have hn : ¬ s.ckOk bs := fun h => h.1 hb
    have hk : ¬ kpGo s.g bs := fun h => h.1 hb
    rw [if_pos hb, if_neg hn]
    have e1 : kpE s.g bs s.dl = 4 := if_pos hb
    have e2 : mkE s.m bs s.dl = 4 := if_pos hb
    refine ⟨⟨e1, if_neg hk, ?_⟩, e2, if_pos hb, ?_⟩
    · unfold kpG; rw [e1]; rfl
    · unfold mkG; rw [e2]; rfl
  · rw [if_neg hb]
    by_cases h0 : s.seq = 0
    · have hn : ¬ s.ckOk bs := fun h => h.2 h0
      have hk : ¬ kpGo s.g bs := fun h => h.2 (by rw [seq_g]; exact h0)
      rw [if_pos h0, if_neg hn]
      have e1 : kpE s.g bs s.dl = 5 := by unfold kpE; rw [if_neg hb, seq_g, if_pos h0]
      have e2 : mkE s.m bs s.dl = 5 := by unfold mkE; rw [if_neg hb, hm, if_pos h0]
      refine ⟨⟨e1, if_neg hk, ?_⟩, e2, ?_, ?_⟩
      · unfold kpG; rw [e1]; rfl
      · unfold mkD; rw [if_neg hb, hm, if_pos h0]
      · unfold mkG; rw [e2]; rfl
    · have hn : s.ckOk bs := ⟨hb, h0⟩
      have hk : kpGo s.g bs := ⟨hb, by rw [seq_g]; exact h0⟩
      rw [if_neg h0, if_pos hn]
      obtain ⟨n1, n2, n3, n4⟩ := new_steps (s := s) hs hb
      have hw : wbE (frI s.seq bs) s.dl = 0 := by
        unfold wbE wb3 wb2
        rw [hrm, n1, if_neg (by simp)]
        have e : syE nNew (apD nNew (frI s.seq bs) s.dl) = 0 := by unfold syE; rw [n2]
        rw [e, if_neg (by simp), n3]
      have hwd : wbD (frI s.seq bs) s.dl = (Ps.mk (some (s.seq, bs)) s.f s.l s.cut).dl := by
        unfold wbD wb3 wb2
        rw [hrm, n1, if_neg (by simp)]
        have e : syE nNew (apD nNew (frI s.seq bs) s.dl) = 0 := by unfold syE; rw [n2]
        rw [e, if_neg (by simp), n4]
        exact outF_none (lk_new _)
      have e1 : kpE s.g bs s.dl = 0 := by unfold kpE; rw [if_neg hb, seq_g, if_neg h0, hw]
      have e2 : mkE s.m bs s.dl = 0 := by unfold mkE; rw [if_neg hb, hm, if_neg h0]; exact n1
      have hcu := cu_log (Ps.mk (some (s.seq, bs)) s.f s.l s.cut)
      refine ⟨⟨e1, ?_, ?_⟩, e2, ?_, ?_⟩
      · unfold kpD; rw [if_pos hk, seq_g, if_pos hw, hwd, hcu]; rfl
      · unfold kpG; rw [e1, if_pos rfl, seq_g]; rfl
      · unfold mkD mkF; rw [if_neg hb, hm, if_neg h0, if_pos n1, n4, hcu]; rfl
      · unfold mkG; rw [e2, if_pos rfl, hm]; rfl
end Go.Proofs.Ytflhgphjkhplmaa.D

/- A log and its files, plainly: crashed, opened, opened again; records that are put. -/
namespace Go.Proofs.Ytflhgphjkhplmaa.D
open W Go.RowKit
set_option linter.unusedVariables false
set_option linter.unusedSimpArgs false

theorem ws_le {n : Nat} {ws : List Int} (h : WsOk n ws) : ∀ i, i < ws.length → ws.getD 0 0 ≤ ws.getD i 0
  | 0, _ => Int.le_refl _
  | i + 1, hi => by
    have ih := ws_le h i (by omega)
    have h1 := (h i (by omega)).2.1
    have e : endI n ws i = ws.getD (i + 1) 0 := by unfold endI; rw [if_pos hi]
    omega
theorem safe_head {b : List Int} {x : Int} {ws : List Int} : safeN b (x :: ws) = x := rfl
theorem take_splice {α : Type} (L cs : List α) (p n : Nat) (h : n ≤ p) (hp : p ≤ L.length) : (splice L p cs).take n = L.take n := by
  unfold splice
  rw [List.take_append_of_le_length (by rw [List.length_take]; omega), List.take_take, Nat.min_eq_left h]
theorem crS_safe {b ws ns : List Int} (h : WsOk b.length ws) : ∀ i, i ≤ ws.length → (crS b ws ns i).1.take (safeN b ws).toNat = b.take (safeN b ws).toNat ∧ (safeN b ws).toNat ≤ (crS b ws ns i).2
  | 0, _ => by
    have hs := safe_ok h
    unfold crS
    refine ⟨?_, Nat.le_refl _⟩
    dsimp only
    unfold splice
    rw [List.take_zero, List.nil_append, List.take_append_of_le_length (by rw [List.length_take]; omega), List.take_take, Nat.min_self]
  | i + 1, hi => by
    obtain ⟨h1, h2⟩ := crS_safe (ns := ns) h i (by omega)
    obtain ⟨l1, l2⟩ := crS_len (ns := ns) h i (by omega)
    have hw := ws_le h i (by omega)
    have h0 := (h i (by omega))
    have hsf : safeN b ws = ws.getD 0 0 := by
      cases ws with
      | nil => simp at hi
      | cons x r => rfl
    unfold crS crStep
    split
    · refine ⟨?_, ?_⟩
      · dsimp only
        rw [take_splice _ _ _ _ (by unfold wAt; omega) (by unfold wAt; omega)]
        exact h1
      · dsimp only
        unfold wAt
        omega
    · exact ⟨h1, h2⟩
theorem crB_pre {b ws ns : List Int} (h : WsOk b.length ws) : ∃ z, crB b ws ns = b.take (safeN b ws).toNat ++ z := by
  obtain ⟨h1, h2⟩ := crS_safe (ns := ns) h ws.length (Nat.le_refl _)
  refine ⟨(crB b ws ns).drop (safeN b ws).toNat, ?_⟩
  conv => lhs; rw [← List.take_append_drop (safeN b ws).toNat (crB b ws ns)]
  congr 1
  unfold crB
  rw [List.take_take, Nat.min_eq_left h2, h1]
theorem crB_none (b ns : List Int) : crB b [] ns = b := by
  unfold crB
  show (splice (List.replicate b.length 0) 0 (b.take (safeN b []).toNat)).take (safeN b []).toNat = b
  have e : (safeN b []).toNat = b.length := by unfold safeN; simp
  rw [e, List.take_length]
  unfold splice
  simp
/-- A crash: the checkpoint stands, and the log's file begins as it was safe. -/
theorem cr_any (s : Ps) (ks : List Kn) (h : ∀ p, s.f = some p → WsOk p.1.length p.2) : ∃ f', crA s.dl ks = (Ps.mk s.c f' s.l s.cut).dl ∧ (s.f = none → f' = none) ∧ ∀ p, s.f = some p → ∃ p' z, f' = some p' ∧ p'.1 = p.1.take (safeN p.1 p.2).toNat ++ z := by
  unfold crA
  split
  · unfold crD
    obtain ⟨c, f, l, cut⟩ := s
    cases f with
    | none =>
      refine ⟨none, ?_, fun _ => rfl, fun p hp => by simp at hp⟩
      cases c with
      | none => rfl
      | some q => simp [Ps.dl, crF, crB_none]
    | some p =>
      obtain ⟨z, hz⟩ := crB_pre (ns := kNs nLog ks) (h p rfl)
      refine ⟨some (crB p.1 p.2 (kNs nLog ks), []), ?_, fun h => by simp at h, fun p' hp => ?_⟩
      · cases c with
        | none => simp [Ps.dl, crF]
        | some q => simp [Ps.dl, crF, crB_none]
      · obtain rfl := Option.some.inj hp
        exact ⟨_, z, rfl, hz⟩
  · refine ⟨s.f, rfl, fun h => h, fun p hp => ⟨p, p.1.drop (safeN p.1 p.2).toNat, hp, ?_⟩⟩
    rw [List.take_append_drop]
/-- A checkpoint that can be. -/
def Ps.okC (s : Ps) : Prop := ∀ q, s.c = some q → 1 ≤ q.1 ∧ q.1 < 18446744073709551615 ∧ q.2.length ≤ 65536
def Ps.z (s : Ps) : List Int := match s.f with | some p => p.1 | none => []
theorem rd_log (s : Ps) : rdBs nLog s.dl = s.z := by
  unfold rdBs Ps.z
  rw [lk_log]
  cases s.f <;> rfl
theorem rb_both (s : Ps) (h : s.okC) : rbE s.dl = 0 ∧ rbG g0 s.dl = ⟨s.at', s.b, [], 0⟩ := by
  obtain ⟨c, f, l, cut⟩ := s
  cases c with
  | none =>
    have e : rdEs nCkp (Ps.mk none f l cut).dl = 5 := by unfold rdEs; rw [lk_ckp]; rfl
    exact ⟨by unfold rbE; rw [e]; rfl, by unfold rbG; rw [e]; rfl⟩
  | some q =>
    obtain ⟨h1, h2, h3⟩ := h q rfl
    have e : rdEs nCkp (Ps.mk (some q) f l cut).dl = 0 := by unfold rdEs; rw [lk_ckp]; rfl
    have e2 : rdBs nCkp (Ps.mk (some q) f l cut).dl = frI q.1 q.2 := by unfold rdBs; rw [lk_ckp]; rfl
    have e3 : rbO (Ps.mk (some q) f l cut).dl = some (q.1, q.2) := by
      unfold rbO
      rw [e2]
      have hf := fatI_frame [] [] q.2 q.1 h1 (by omega) h3
      simp only [List.nil_append, List.append_nil, List.length_nil, Nat.zero_add] at hf
      rw [hf]
      simp
    exact ⟨by unfold rbE; rw [e, e3]; rfl, by unfold rbG; rw [e, e3]; rfl⟩
/-- Open. -/
def Ps.op (s : Ps) : Ps := ⟨s.c, if 0 < s.z.length - takenL s.z s.at' then some (s.z.take (takenL s.z s.at'), []) else s.f, (rrL s.z s.at').map Prod.snd, s.z.length - takenL s.z s.at'⟩
theorem op_both (s : Ps) (h : s.okC) : rrD (rbG g0 s.dl) s.dl = s.op.dl ∧ opD s.dl = s.op.dl ∧ opM s.dl = s.op.m ∧ opG s.dl = ⟨s.at', s.b, rrL s.z s.at', s.z.length - takenL s.z s.at'⟩ := by
  obtain ⟨h1, h2⟩ := rb_both s h
  have e1 : rrD (rbG g0 s.dl) s.dl = s.op.dl := by
    unfold rrD Ps.op
    rw [h2, rd_log]
    by_cases hc : 0 < s.z.length - takenL s.z s.at'
    · rw [if_pos hc, if_pos hc]
      have hf : ∃ p, s.f = some p := by
        cases hf : s.f with
        | none =>
          have : s.z = [] := by unfold Ps.z; rw [hf]
          rw [this] at hc
          simp at hc
        | some p => exact ⟨p, rfl⟩
      obtain ⟨p, hp⟩ := hf
      have hz : s.z = p.1 := by unfold Ps.z; rw [hp]
      unfold cuD
      rw [lk_log, hp, Option.map_some]
      have ht := taken_le s.z s.at'
      rw [hz] at ht ⊢
      dsimp only
      rw [if_neg (by omega)]
      simp only [Int.toNat_natCast]
      obtain ⟨c, f, l, cut⟩ := s
      obtain rfl : f = some p := hp
      cases c <;> simp [Ps.dl, setF, ne1]
    · rw [if_neg hc, if_neg hc]
      rfl
  refine ⟨e1, ?_, ?_, ?_⟩
  · unfold opD
    rw [e1]
    exact outF_none (lk_new _)
  · unfold opM opG rrG
    rw [h2, rd_log]
    rfl
  · unfold opG rrG
    rw [h2, rd_log]
theorem op_again (s : Ps) : s.op.op.dl = s.op.dl ∧ s.op.at' = s.at' ∧ s.op.b = s.b ∧ rrL s.op.z s.at' = rrL s.z s.at' := by
  have hr := rr_again s.z s.at'
  have hz : s.op.z = s.z.take (takenL s.z s.at') := by
    unfold Ps.op Ps.z
    dsimp only
    by_cases hc : 0 < s.z.length - takenL s.z s.at'
    · have hc' : 0 < (match s.f with | some p => p.1 | none => []).length - takenL (match s.f with | some p => p.1 | none => []) s.at' := hc
      rw [if_pos hc']
    · have hc' : ¬ 0 < (match s.f with | some p => p.1 | none => []).length - takenL (match s.f with | some p => p.1 | none => []) s.at' := hc
      rw [if_neg hc', List.take_of_length_le (by omega)]
  refine ⟨?_, rfl, rfl, by rw [hz]; exact hr.1⟩
  have e : s.op.op.f = s.op.f := by
    show (if 0 < s.op.z.length - takenL s.op.z s.op.at' then some (s.op.z.take (takenL s.op.z s.op.at'), []) else s.op.f) = s.op.f
    rw [if_neg]
    rw [show s.op.at' = s.at' from rfl, hz, hr.2]
    omega
  unfold Ps.dl
  rw [e]
  rfl
/-- Records that are put, one after another: what is left, and which were taken. -/
def putP : Ps → List (List Int) → Ps × List (List Int)
  | s, [] => (s, [])
  | s, b :: l => if s.apOk b then ((putP (s.ap b) l).1, b :: (putP (s.ap b) l).2) else putP s l
theorem putP_l : ∀ (l : List (List Int)) (s : Ps), (putP s l).1.l = s.l ++ (putP s l).2 ∧ (putP s l).1.c = s.c
  | [], s => ⟨by simp [putP], rfl⟩
  | b :: l, s => by
    unfold putP
    split
    · obtain ⟨h1, h2⟩ := putP_l l (s.ap b)
      refine ⟨?_, h2⟩
      rw [h1]
      simp [Ps.ap]
    · exact putP_l l s
/-- What a log keeps while it is appended to: its file has its records' frames; those of the first j are safe. -/
structure Sy (s : Ps) (j : Nat) : Prop where
  okc : s.okC
  le : j ≤ s.l.length
  small : ∀ b ∈ s.l, b.length ≤ 65536
  no : s.f = none → s.l = []
  yes : ∀ p, s.f = some p → p.1 = frs (s.at' + 1) s.l ∧ ((frs (s.at' + 1) (s.l.take j)).length : Int) ≤ safeN p.1 p.2
theorem frs_app : ∀ (l l' : List (List Int)) (n : Nat), frs n (l ++ l') = frs n l ++ frs (n + l.length) l'
  | [], l', n => rfl
  | b :: l, l', n => by
    show frI n b ++ frs (n + 1) (l ++ l') = (frI n b ++ frs (n + 1) l) ++ frs (n + (l.length + 1)) l'
    rw [frs_app l, List.append_assoc, show n + 1 + l.length = n + (l.length + 1) by omega]
theorem Sy.ap {s : Ps} {j : Nat} {b : List Int} (h : Sy s j) (hb : s.apOk b) : Sy (s.ap b) j := by
  have hb1 : b.length ≤ 65536 := by have := hb.1; omega
  refine ⟨h.okc, by have := h.le; show _ ≤ (s.l ++ [b]).length; rw [List.length_append]; omega, fun c hc => ?_, fun hf => by simp [Ps.ap] at hf, fun p hp => ?_⟩
  · rcases List.mem_append.1 hc with hc | hc
    · exact h.small c hc
    · obtain rfl := List.mem_singleton.1 hc
      exact hb1
  · have htk : (s.l ++ [b]).take j = s.l.take j := List.take_append_of_le_length h.le
    have hat : (s.ap b).at' = s.at' := rfl
    have hl : (s.ap b).l = s.l ++ [b] := rfl
    rw [hat, hl, htk, frs_app]
    have hfr : frs (s.at' + 1 + s.l.length) [b] = s.fr b := by
      unfold Ps.fr Ps.seq
      rw [show s.at' + 1 + s.l.length = s.at' + s.l.length + 1 by omega]
      simp [frs]
    rw [hfr]
    cases hf : s.f with
    | none =>
      have hs := h.no hf
      have hp2 : p = (s.fr b, [0]) := by
        have : (s.ap b).f = some (s.fr b, [0]) := by unfold Ps.ap; rw [hf]
        rw [this] at hp
        exact (Option.some.inj hp).symm
      subst hp2
      rw [hs]
      refine ⟨rfl, ?_⟩
      simp [frs, safeN]
    | some q =>
      obtain ⟨h1, h2⟩ := h.yes q hf
      have hp2 : p = (q.1 ++ s.fr b, q.2 ++ [(q.1.length : Int)]) := by
        have : (s.ap b).f = some (q.1 ++ s.fr b, q.2 ++ [(q.1.length : Int)]) := by unfold Ps.ap; rw [hf]
        rw [this] at hp
        exact (Option.some.inj hp).symm
      subst hp2
      refine ⟨by rw [h1], ?_⟩
      cases hq : q.2 with
      | nil =>
        rw [hq] at h2
        exact h2
      | cons x r =>
        rw [hq] at h2
        exact h2
theorem Sy.put {j : Nat} : ∀ (l : List (List Int)) (s : Ps), Sy s j → Sy (putP s l).1 j
  | [], s, h => h
  | b :: l, s, h => by
    unfold putP
    split
    · exact Sy.put l _ (h.ap (by assumption))
    · exact Sy.put l _ h
theorem Sy.sync {s : Ps} {j : Nat} (h : Sy s j) : Sy s.sy s.l.length := by
  refine ⟨h.okc, Nat.le_refl _, h.small, fun hf => h.no ?_, fun p hp => ?_⟩
  · cases hf' : s.f with
    | none => rfl
    | some q => simp [Ps.sy, hf'] at hf
  · cases hf' : s.f with
    | none => simp [Ps.sy, hf'] at hp
    | some q =>
      have hp2 : p = (q.1, []) := by
        have : s.sy.f = some (q.1, []) := by unfold Ps.sy; rw [hf']; rfl
        rw [this] at hp
        exact (Option.some.inj hp).symm
      subst hp2
      obtain ⟨h1, -⟩ := h.yes q hf'
      refine ⟨h1, ?_⟩
      have e : s.sy.l.take s.l.length = s.l := List.take_length
      rw [e]
      show ((frs (s.at' + 1) s.l).length : Int) ≤ (q.1.length : Int)
      rw [h1]
      exact Int.le_refl _
theorem Sy.ck {s : Ps} {b : List Int} (h : Sy s 0) (hs : s.seq < 18446744073709551615) : Sy (s.ckT b) 0 := by
  unfold Ps.ckT
  split
  · rename_i hc
    refine ⟨fun q hq => ?_, Nat.zero_le _, (fun c hc => absurd hc (by simp [Ps.ck])), fun _ => rfl, fun p hp => ?_⟩
    · obtain rfl := Option.some.inj hq
      have h1 := hc.1
      have h2 := hc.2
      exact ⟨by show 1 ≤ s.seq; omega, hs, by show b.length ≤ 65536; omega⟩
    · cases hf' : s.f with
      | none => simp [Ps.ck, hf'] at hp
      | some q =>
        have hp2 : p = ([], []) := by
          have : (s.ck b).f = some ([], []) := by unfold Ps.ck; rw [hf']; rfl
          rw [this] at hp
          exact (Option.some.inj hp).symm
        subst hp2
        exact ⟨rfl, by simp [frs, safeN]⟩
  · exact h
/-- What is told behind a crash: at least the records that were safe. -/
theorem told {s : Ps} {j : Nat} {f' : Option (List Int × List Int)} (h : Sy s j) (hs : s.at' + 1 + s.l.length ≤ 18446744073709551616) (hf : ∀ p, s.f = some p → ∃ p' z, f' = some p' ∧ p'.1 = p.1.take (safeN p.1 p.2).toNat ++ z) : j ≤ (rrL (Ps.mk s.c f' s.l s.cut).z s.at').length := by
  by_cases h0 : j = 0
  · omega
  have hl : s.l ≠ [] := fun e => by have := h.le; rw [e] at this; simp at this; omega
  obtain ⟨p, hp⟩ : ∃ p, s.f = some p := by
    cases hf' : s.f with
    | none => exact absurd (h.no hf') hl
    | some p => exact ⟨p, rfl⟩
  obtain ⟨h1, h2⟩ := h.yes p hp
  obtain ⟨p', z, rfl, hz⟩ := hf p hp
  have hzz : (Ps.mk s.c (some p') s.l s.cut).z = frs (s.at' + 1) (s.l.take j) ++ ((p.1.take (safeN p.1 p.2).toNat).drop (frs (s.at' + 1) (s.l.take j)).length ++ z) := by
    show p'.1 = _
    rw [hz, ← List.append_assoc]
    congr 1
    conv => lhs; rw [← List.take_append_drop (frs (s.at' + 1) (s.l.take j)).length (p.1.take (safeN p.1 p.2).toNat)]
    congr 1
    rw [List.take_take, Nat.min_eq_left (by omega), h1]
    have e : frs (s.at' + 1) s.l = frs (s.at' + 1) (s.l.take j) ++ frs (s.at' + 1 + (s.l.take j).length) (s.l.drop j) := by rw [← frs_app, List.take_append_drop]
    rw [e, List.take_left]
  have hj : (s.l.take j).length = j := by rw [List.length_take]; have := h.le; omega
  obtain ⟨l', hr⟩ := rr_pre hzz (fun b hb => h.small b (List.mem_of_mem_take hb)) (by rw [hj]; have := h.le; omega) (fun e => by rw [e] at hj; simp at hj; omega)
  rw [hr, numL_len, List.length_append, hj]
  omega
end Go.Proofs.Ytflhgphjkhplmaa.D

/- Base; a log's checkpoint. -/
namespace Go.Proofs.Ytflhgphjkhplmaa.D
open Go Go.RowKit W R Go.Shelf
set_option linter.unusedVariables false
set_option linter.unusedSimpArgs false
attribute [local go_sem] Oper.semAt_some

variable {w w' : World} {L D k : Nat} {sy : Int} {F F' P P' : Nat → Prop} {dl : List Fd} {g : Lg} {s : List UInt8} {bs : List Int}
/-- What Base tells. -/
theorem base_any (h : LG w L D g P) (hl : g.b.length ≤ 1000000) : Calls Try.prog 27 #[.pointer (some ⟨L, 0, none⟩)] w fun e w' => ∃ a n c, e = .returned (.tuple #[.slice a n c, .bool (decide (g.bn ≠ 0))]) ∧ Hid (Below w.heap.size w w' ∧ (g.bn ≠ 0 → w'.ownsRow w.heap.size 5 1 (.slice a n c) g.b.length (u8l g.b)) ∧ (g.bn = 0 → Value.slice a n c = .slice none 0 0)) := by
  obtain ⟨bv, rv, xs, h1, h2, h3, h4, h5, h6⟩ := h
  obtain ⟨ba, bc, rfl⟩ := own_slice h2
  obtain ⟨B, hB⟩ : ∃ B, g.b.length = B := ⟨_, rfl⟩
  rw [hB] at h1 h2 hl ⊢
  have c2 : ∀ m, (w.drewN m).cell? ⟨L, 2, none⟩ = some (.int .u64 (g.bn : Int)) := fun m => by show w.cell? _ = _; rw [cell_of_row _ _ _ _ _ _ h1]; rfl
  have d2 : w.cell? ⟨L, 2, none⟩ = some (.int .u64 (g.bn : Int)) := c2 0
  have d3 : w.cell? ⟨L, 3, none⟩ = some (.slice ba B bc) := by rw [cell_of_row _ _ _ _ _ _ h1]; rfl
  have HH : Hid (w.ownsRow 0 5 1 (.slice ba B bc) B (u8l g.b) ∧ g.b.length = B) := ⟨h2, hB⟩
  have HC : Hid (∀ m, Calls Try.prog 45 #[.slice ba B bc] (w.drewN m) fun e w' => ∃ a c, e = .returned (.slice a B c) ∧ Hid (w'.ownsRow w.heap.size 5 1 (.slice a B c) B (u8l g.b) ∧ Below w.heap.size w w')) := by
    show ∀ m, _
    intro m
    have ho : (w.drewN m).ownsRow 0 5 1 (.slice ba B bc) g.b.length (u8l g.b) := by rw [hB]; exact own_at h2 fun q hq => rfl
    have := bclone_any _ g.b (w.drewN m) (own_src ho) (by omega)
    rw [hB] at this
    refine this.mono ?_
    rintro e w' ⟨⟨v', rfl, h7⟩, h8⟩
    obtain ⟨a, c, rfl⟩ := own_slice h7
    exact ⟨a, c, rfl, h7, (drewN_below w m).trans h8⟩
  clear h1 h2 h3 h4 h5 h6 hB
  by_cases h0 : g.bn = 0
  · have e0 : decide (g.bn ≠ 0) = false := by simp [h0]
    rw [e0]
    rw [h0] at c2 d2
    go_enter Try.func27, Try.ntmps27
    have HG0 : Hid (g.bn = 0) := h0
    clear h0 e0
    go_wp2_with fail
    go_ret2
    exact ⟨none, 0, 0, rfl, Below.refl _ _, fun h => absurd HG0.out h, fun _ => rfl⟩
  · have e0 : decide (g.bn ≠ 0) = true := by simp [h0]
    rw [e0]
    obtain ⟨N, hN⟩ : ∃ N, g.bn = N := ⟨_, rfl⟩
    rw [hN] at c2 d2 h0 ⊢
    have h0b : ((N : Int) == 0) = false := by rw [beq_eq_false_iff_ne]; omega
    have h0i : ¬ (N : Int) = 0 := by omega
    go_enter Try.func27, Try.ntmps27
    have HN0 : Hid (N ≠ 0) := h0
    clear h0
    go_wp2_with (go_at_call 45; refine (HC.out 0).mono ?_; rintro e w1 ⟨a, c, rfl, H1⟩)
    go_ret2
    refine ⟨a, B, c, rfl, H1.out.2, fun _ => ?_, fun h => absurd h HN0.out⟩
    exact H1.out.1
end Go.Proofs.Ytflhgphjkhplmaa.D

/- All: what it hands back. -/
namespace Go.Proofs.Ytflhgphjkhplmaa.D
open Go Go.RowKit W R Go.Shelf
set_option linter.unusedVariables false
set_option linter.unusedSimpArgs false
attribute [local go_sem] Oper.semAt_some

variable {w w' : World} {L D k : Nat} {P : Nat → Prop} {g : Lg}
/-- The records as they lie, in a box of their own; their blocks are among P's. -/
theorem all_some (h : LG w L D g P) : Calls Try.prog 28 #[.pointer (some ⟨L, 0, none⟩)] w fun e w' => e = .returned (.func (.func 61) #[] #[.pointer (some ⟨w.heap.size, 0, none⟩)]) ∧ Hid (Below w.heap.size w w' ∧ ∃ rv xs, Boxed w' w.heap.size 93 rv ∧ w'.ownsRow 0 81 2 rv xs.length (fl e2 xs) ∧ xs.map Rc.pl = g.rs ∧ (∀ x ∈ xs, w'.ownsRow 0 5 1 x.rv x.r.length (u8l x.r)) ∧ (∀ q, rv.ownBlock = some q → P q) ∧ ∀ x ∈ xs, ∀ q, x.rv.ownBlock = some q → P q) := by
  obtain ⟨bv, rv, xs, h1, h2, h3, h4, h5, h6⟩ := h
  obtain ⟨ra, rc, rfl⟩ := own_slice h3
  have hmf : ∀ (fn : Fn) (first cap : Array Value) (w : World), (Instr.makeFunc fn first cap).run Try.prog w = .ok (.func fn first cap) w := fun _ _ _ _ => rfl
  have hlt : L < w.heap.size := (Array.getElem?_eq_some_iff.1 h1).1
  have HH : Hid (w.heap[L]? = some (.cells (logC D g bv (.slice ra xs.length rc)) 95 (0, 0)) ∧ w.ownsRow 0 81 2 (.slice ra xs.length rc) xs.length (fl e2 xs) ∧ xs.map Rc.pl = g.rs ∧ (∀ x ∈ xs, w.ownsRow 0 5 1 x.rv x.r.length (u8l x.r)) ∧ ∀ q, P q ↔ q = L ∨ bv.ownBlock = some q ∨ (Value.slice ra xs.length rc).ownBlock = some q ∨ ∃ x ∈ xs, x.rv.ownBlock = some q) := ⟨h1, h3, h4, h5, h6⟩
  have nL : ¬ L = w.heap.size := by omega
  have c4 : w.cell? ⟨L, 4, none⟩ = some (.slice ra xs.length rc) := by rw [cell_of_row _ _ _ _ _ _ h1]; rfl
  have HB : Hid (Below w.heap.size w (w.alloc (.cells #[.slice ra xs.length rc] 93))) := bel1 _ _
  generalize hX : xs.length = X at *
  clear h1 h2 h3 h4 h5 h6
  go_enter Try.func28, Try.ntmps28
  go_wp2_with fail
  go_ret
  obtain ⟨l1, l3, l4, l5, l6⟩ := HH.out
  have hb : Below w.heap.size w (w.alloc (.cells #[.slice ra X rc] 93)) := bel1 _ _
  refine ⟨rfl, hb, .slice ra X rc, xs, Boxed.new _ _ _, ?_, l4, fun x hx => own_at (l5 x hx) fun q hq => hb.block q ((l5 x hx).lt q hq).2, fun q hq => (l6 q).2 (.inr (.inr (.inl hq))), fun x hx q hq => (l6 q).2 (.inr (.inr (.inr ⟨x, hx, hq⟩)))⟩
  rw [hX]
  exact own_at l3 fun q hq => hb.block q (l3.lt q hq).2
end Go.Proofs.Ytflhgphjkhplmaa.D

/- All: the records, one after another, each a copy. -/
namespace Go.Proofs.Ytflhgphjkhplmaa.D
open Go Go.RowKit W R Go.Shelf
set_option linter.unusedVariables false
set_option linter.unusedSimpArgs false
attribute [local go_sem] Oper.semAt_some

/-- A record that is told, and its row. -/
structure Ec where
  r : List Int
  rv : Value
def encC (x : Ec) : Array Value := #[x.rv]
/-- What the sequence goes over: in a box, all of it in blocks ahead of base. -/
structure AB (W : World) (bx base : Nat) (v : Value) (xs : List Rc) : Prop where
  box : Boxed W bx 93 v
  row : W.ownsRow 0 81 2 v xs.length (fl e2 xs)
  each : ∀ x ∈ xs, W.ownsRow 0 5 1 x.rv x.r.length (u8l x.r)
  few : xs.length ≤ 1000000 ∧ ∀ x ∈ xs, x.r.length ≤ 1048576 ∧ Byt x.r
  lb : bx < W.heap.size ∧ (∀ q, v.ownBlock = some q → q < base) ∧ ∀ x ∈ xs, ∀ q, x.rv.ownBlock = some q → q < base
def KL (base bx : Nat) (W W' : World) : Prop := Below base W W' ∧ W'.heap[bx]? = W.heap[bx]?
theorem KL.trans {base bx : Nat} {A B C : World} (h1 : KL base bx A B) (h2 : KL base bx B C) : KL base bx A C := ⟨h1.1.trans h2.1, h2.2.trans h1.2⟩
theorem KL.of {base bx : Nat} {W W' : World} (h : Below W.heap.size W W') (hb : base ≤ W.heap.size) (hx : bx < W.heap.size) : KL base bx W W' := ⟨h.mono hb, h.block bx hx⟩
theorem AB.later {W W' : World} {bx base : Nat} {v : Value} {xs : List Rc} (h : AB W bx base v xs) (hb : KL base bx W W') : AB W' bx base v xs :=
  ⟨hb.2.trans h.box, own_at h.row fun q hq => hb.1.block q (h.lb.2.1 q hq), fun x hx => own_at (h.each x hx) fun q hq => hb.1.block q (h.lb.2.2 x hx q hq), h.few, Nat.lt_of_lt_of_le h.lb.1 hb.1.size, h.lb.2⟩
def XC (pre : List Ec) (x : Ec) (V0 V : World) : Prop := pre.length ≤ 1000000 ∧ (x.r.length ≤ 1048576 ∧ Byt x.r) ∧ V.ownsRow V0.heap.size 5 1 x.rv x.r.length (u8l x.r)
set_option maxRecDepth 100000 in
set_option maxHeartbeats 4000000 in
theorem all_in (n l bx base : Nat) (v : Value) (xs : List Rc) (J Jx : List Ec → World → Prop) (W : World) (hn : 3 ≤ n)
    (hA : AbidesFrom W.heap.size J) (hb0 : base ≤ W.heap.size) (hG : AB W bx base v xs)
    (hY : ∀ pre x V0 V, J pre V0 → Below V0.heap.size V0 V → XC pre x V0 V → YieldAt Fence.wide (n - 1) Try.prog l (encC x) V fun e V' =>
      (e = .returned (.bool true) ∧ J (pre ++ [x]) V' ∧ KL base bx V V') ∨ (e = .returned (.bool false) ∧ Jx (pre ++ [x]) V')) (h0 : J [] W) :
    CallsIn Fence.wide n Try.prog 61 #[.func (.yield l) #[] #[], .pointer (some ⟨bx, 0, none⟩)] W fun e W' => (∃ v, e = .returned v) ∧
      ((∃ ys : List Ec, ys.map Ec.r = xs.map Rc.r ∧ J ys W') ∨ ∃ pre, Jx pre W') := by
  obtain ⟨ra, rc, rfl⟩ := own_slice hG.row
  obtain ⟨N, hN⟩ : ∃ N, xs.length = N := ⟨_, rfl⟩
  have HG : Hid (AB W bx base (.slice ra N rc) xs ∧ xs.length = N ∧ base ≤ W.heap.size ∧ AbidesFrom W.heap.size J) := by rw [hN] at hG; exact ⟨hG, hN, hb0, hA⟩
  have ca : W.cell? ⟨bx, 0, none⟩ = some (.slice ra N rc) := HG.out.1.box.cell
  have hNi : (N : Int) ≤ 1000000 := by have := HG.out.1.few.1; rw [HG.out.2.1] at this; omega
  rw [hN] at hG
  clear hG hN hb0 hA
  refine callsIn_of_wp Try.func61 rfl trivial ?_ rfl
  simp only [Try.ntmps61, List.size_toArray, List.length_cons, List.length_nil, Nat.reduceAdd, Nat.reduceSub, Array.replicate_succ, Array.replicate_zero, List.push_toArray, List.append_toArray, List.nil_append, List.cons_append]
  gi_wp2
  gi_loopw [7] (fun x wr => ∃ (pre : List Ec) (i : Nat), Hid (pre.length = i ∧ i ≤ N ∧ pre.map Ec.r = (xs.map Rc.r).take i ∧ KL base bx W wr) ∧ Hid (J pre wr) ∧ x = .int .i64 (i : Int)) (fun x _ => N - (intOf x).toNat)
  case atStart => exact ⟨[], 0, ⟨rfl, Nat.zero_le _, rfl, Below.refl _ _, rfl⟩, h0, rfl⟩
  case round =>
    obtain ⟨pre, i, HI, HJ, rfl⟩ := hrel
    by_cases hlt : i < N
    · have hi : (i : Int) < (N : Int) := by omega
      obtain ⟨x, hx⟩ : ∃ x, xs[i]? = some x := ⟨_, List.getElem?_eq_getElem (by rw [HG.out.2.1]; exact hlt)⟩
      have hGr := HG.out.1.later HI.out.2.2.2
      have hrow : wr.ownsRow 0 81 2 (.slice ra xs.length rc) xs.length (fl e2 xs) := by have h := hGr.row; rw [HG.out.2.1] at h ⊢; exact h
      obtain ⟨q, hra, k1, k2⟩ := e2_cell hrow hx
      have hmem : x ∈ xs := List.mem_of_getElem? hx
      obtain ⟨B, hB⟩ : ∃ B, x.r.length = B := ⟨_, rfl⟩
      obtain ⟨va, vc, hv⟩ := own_slice (hGr.each x hmem)
      rw [hv] at k2
      have HX : Hid (x.r.length = B ∧ x.rv = .slice va x.r.length vc ∧ xs[i]? = some x ∧ B ≤ 1048576 ∧ Byt x.r) := ⟨hB, hv, hx, by have := (HG.out.1.few.2 x hmem).1; omega, (HG.out.1.few.2 x hmem).2⟩
      rw [hB] at k2
      have HCN : Hid (∀ V, Below wr.heap.size wr V → Calls Try.prog 45 #[.slice va B vc] V fun e w5 => ∃ ca cc, e = .returned (.slice ca B cc) ∧ Hid (w5.ownsRow wr.heap.size 5 1 (.slice ca B cc) x.r.length (u8l x.r) ∧ Below wr.heap.size wr w5)) := by
        show ∀ V, _
        intro V hV
        have hsrc : Src V (.slice va x.r.length vc) x.r := by
          have h := hGr.each x hmem
          rw [hv] at h
          exact own_src (own_at h fun q hq => hV.block q (h.lt q hq).2)
        have hc := bclone_any _ x.r V hsrc (by have := HX.out.2.2.2; omega)
        rw [HX.out.1] at hc
        refine hc.mono ?_
        rintro e w5 ⟨⟨v', rfl, ho⟩, h2⟩
        obtain ⟨ca, cc, rfl⟩ := own_slice ho
        refine ⟨ca, cc, rfl, ?_, hV.trans (h2.mono hV.size)⟩
        rw [HX.out.1]
        exact own_low ho hV.size
      have HN : Hid (i < N) := hlt
      subst hra
      clear hGr hrow hx hmem hB hv hlt
      gi_wp2_with (refine ⟨trivial, fun h => by simp [Fence.wide] at h, ?_⟩; gi_at_call 45; refine (callsIn_wide.2 (HCN.out _ (bel1 _ _))).mono ?_; rintro e w2 ⟨oa, oc, rfl, HB⟩)
      obtain ⟨fn, tmps, assign, body, hy, hR⟩ := hY pre ⟨x.r, .slice oa B oc⟩ wr _ HJ.out HB.out.2 ⟨by have := HI.out.1; have := HI.out.2.1; omega, ⟨by rw [HX.out.1]; exact HX.out.2.2.2.1, HX.out.2.2.2.2⟩, by
        have h := HB.out.1
        show World.ownsRow _ _ 5 1 _ x.r.length (u8l x.r)
        rw [HX.out.1] at h ⊢
        exact h⟩
      unfold encC at hy
      gi_wp2
      refine ⟨fun h => by simp [Fence.wide] at h, hR.mono ?_⟩
      rintro e2 W3 (⟨rfl, hJ3, hk3⟩ | ⟨rfl, hJx3⟩)
      · have HN3 : Hid (J (pre ++ [⟨x.r, .slice oa B oc⟩]) W3 ∧ KL base bx w2 W3) := ⟨hJ3, hk3⟩
        clear hJ3 hk3
        gi_wp2
        go_roundw
        case rel =>
          have hbw : KL base bx wr w2 := KL.of HB.out.2 (by have h1 := HG.out.2.2.1; have h2 := HI.out.2.2.2.1.size; omega) (Nat.lt_of_lt_of_le HG.out.1.lb.1 HI.out.2.2.2.1.size)
          refine ⟨pre ++ [⟨x.r, .slice oa B oc⟩], i + 1, ⟨by rw [List.length_append, HI.out.1]; rfl, HN.out, ?_, HI.out.2.2.2.trans (hbw.trans HN3.out.2)⟩, (show J _ W3 from HN3.out.1), ?_⟩
          · have hx := HX.out.2.2.1
            rw [List.map_append, HI.out.2.2.1, List.take_add_one, List.getElem?_map, hx]
            rfl
          · push_cast; rfl
        case measure =>
          have := HN.out
          simp [intOf]
          omega
      · gi_wp2
        refine bodyPost_ret (results_none rfl _ _ _) rfl ?_
        exact ⟨⟨_, rfl⟩, .inr ⟨_, hJx3⟩⟩
    · have hi : ¬ (i : Int) < (N : Int) := by omega
      have HJ2 : Hid (J pre wr ∧ True) := ⟨HJ.out, trivial⟩
      have HN : Hid (i = N) := by have := HI.out.2.1; show i = N; omega
      clear hlt
      gi_wp2
      refine bodyPost_end (results_none rfl _ _ _) rfl ?_
      refine ⟨⟨_, rfl⟩, .inl ⟨pre, ?_, HJ.out⟩⟩
      rw [HI.out.2.2.1, HN.out, List.take_of_length_le]
      rw [List.length_map, HG.out.2.1]
      exact Nat.le_refl _
end Go.Proofs.Ytflhgphjkhplmaa.D
