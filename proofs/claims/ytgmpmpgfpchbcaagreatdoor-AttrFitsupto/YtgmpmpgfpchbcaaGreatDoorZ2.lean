/- The law of what fits. -/
import Derived.Test.YtgmpmpgfpchbcaaGreatDoorZ1
namespace Go.Proofs.YtgmpmpgfpchbcaaGreatDoor
open Go.RowKit Go.Shelf
set_option linter.unusedVariables false
set_option linter.unusedSimpArgs false

set_option maxRecDepth 20000 in
set_option maxHeartbeats 16000000 in
theorem fits_law (sl sm sn : Option Addr) (cl cm cn : Nat) (l : List At) (m n : List Mt) (w : World) (hl : Ats w sl cl l) (hm : Mts w sm cm m) (hn : Mts w sn cn n) (h1 : (l.length : Int) ≤ 140737488351232) (h2 : ((m.length : Int) + n.length) * 40 ≤ 140737488351232) (hv : ∀ x ∈ l, x.2.length < 4294967281) (hcm : ∀ x ∈ m, CanM x) (hcn : ∀ x ∈ n, CanM x) (hT : Tabs w) (hM : MaxL w) :
    Calls Tryz.prog 3 #[.slice sl l.length cl, .slice sm m.length cm, .slice sn n.length cn] w fun e w' => e = .returned (.bool true) ∧ Below w.heap.size w w' := by
  obtain ⟨nl, hnl⟩ : ∃ k, l.length = k := ⟨_, rfl⟩
  obtain ⟨nm, hnm⟩ : ∃ k, m.length = k := ⟨_, rfl⟩
  obtain ⟨nn, hnn⟩ : ∃ k, n.length = k := ⟨_, rfl⟩
  have HBD : Hid (l.length = nl ∧ m.length = nm ∧ n.length = nn ∧ (nl : Int) ≤ 140737488351232 ∧ ((nm : Int) + (nn : Int)) * 40 ≤ 140737488351232) := ⟨hnl, hnm, hnn, by omega, by omega⟩
  have H4 : Hid (∀ W, Below w.heap.size w W → ∀ (s : Option Addr) (c : Nat) (z : List Mt) (k : Nat), z.length = k → Mts W s c z → (k : Int) ≤ 140737488351232 → Calls Tryz.prog 4 #[.slice sl nl cl, .slice s k c] W fun e w' => e = .returned (.bool (fiI l z)) ∧ Below W.heap.size W w') :=
    fun W hb s c z k hz hmz h => fits_later sl cl nl l w hnl hl (by omega) hv hM W hb s c z k hz hmz h
  have H5 : Hid (∀ W, Below w.heap.size w W → ∀ (s : Option Addr) (c : Nat) (z : List Mt) (k : Nat), z.length = k → Mts W s c z → (k : Int) ≤ 140737488351232 → Calls Tryz.prog 5 #[.slice sl nl cl, .slice s k c] W fun e w' => e = .returned (.bool (fiI l z)) ∧ Below W.heap.size W w') :=
    fun W hb s c z k hz hmz h => by
      have g := rfits_any sl s cl c l z W (hl.later hb) hmz h1 (by rw [hz]; exact h)
      rw [hnl, hz] at g
      exact g
  have H6 : Hid (∀ W, Below w.heap.size w W → Calls Tryz.prog 6 #[.slice sm nm cm, .slice sn nn cn] W fun e w' => BothP m n e w' ∧ Below W.heap.size W w') := fun W hb => by
    have g := both_any sm sn cm cn m n W (hm.later hb) (hn.later hb) h2 (hT.later hb) hcm hcn
    rw [hnm, hnn] at g
    exact g
  have H7 : Hid (∀ W, Below w.heap.size w W → Calls Tryz.prog 7 #[] W fun e w' => e = .returned (.bool true) ∧ Below W.heap.size W w') := fun W hb => known_any W (hT.later hb)
  have HM : Hid (Mts w sm cm m ∧ Mts w sn cn n ∧ (∀ x ∈ m, CanM x)) := ⟨hm, hn, hcm⟩
  obtain ⟨A, hA⟩ : ∃ A, fiI l m = A := ⟨_, rfl⟩
  obtain ⟨B, hB⟩ : ∃ B, fiI l n = B := ⟨_, rfl⟩
  have HAB : Hid (fiI l m = A ∧ fiI l n = B) := ⟨hA, hB⟩
  have hcap : (nm : Int) ≤ (cm : Int) := by have := hm.cap; omega
  have nm1 : (nm : Int) ≤ 140737488351232 := by omega
  have nn1 : (nn : Int) ≤ 140737488351232 := by omega
  have hAA : (A != A) = false := by simp
  have hBB : (B != B) = false := by simp
  rw [hnl, hnm, hnn]
  clear hnl hnm hnn hl hm hn h1 h2 hv hcm hcn hT hM hA hB
  have HS : Hid (∀ W V, Below w.heap.size w W → Below W.heap.size W V → Below w.heap.size w V) := fun W V a b => a.trans (b.mono a.size)
  have HB0 : Hid (Below w.heap.size w w) := Below.refl _ _
  go_enter Tryz.func3, Tryz.ntmps3
  go_wp2_with fail
  refine (H4.out w HB0.out sm cm m nm HBD.out.2.1 HM.out.1 nm1).mono ?_
  rw [HAB.out.1]
  rintro e w1 ⟨rfl, hb1⟩
  have HB1 : Hid (Below w.heap.size w w1) := hb1
  clear hb1
  go_wp2_with fail
  refine (H4.out w1 HB1.out sn cn n nn HBD.out.2.2.1 (HM.out.2.1.later HB1.out) nn1).mono ?_
  rw [HAB.out.2]
  rintro e w2 ⟨rfl, hb2⟩
  have HB2 : Hid (Below w.heap.size w w2) := HS.out _ _ HB1.out hb2
  clear hb2
  go_wp2_with fail
  refine (H5.out w2 HB2.out sm cm m nm HBD.out.2.1 (HM.out.1.later HB2.out) nm1).mono ?_
  rw [HAB.out.1]
  rintro e w3 ⟨rfl, hb3⟩
  have HB3 : Hid (Below w.heap.size w w3) := HS.out _ _ HB2.out hb3
  clear hb3
  go_wp2_with fail
  refine (H5.out w3 HB3.out sn cn n nn HBD.out.2.2.1 (HM.out.2.1.later HB3.out) nn1).mono ?_
  rw [HAB.out.2]
  rintro e w4 ⟨rfl, hb4⟩
  have HB4 : Hid (Below w.heap.size w w4) := HS.out _ _ HB3.out hb4
  clear hb4
  go_wp2_with fail
  refine (H6.out w4 HB4.out).mono ?_
  rintro e w5 ⟨⟨sv, nv, cv, E, rfl, hE⟩, hb5⟩
  have HB5 : Hid (Below w.heap.size w w5 ∧ (E = 0 → ∃ d : List Mt, (∀ x, x ∈ d ↔ x ∈ m ∨ x ∈ n) ∧ d.length = nv ∧ nv ≤ 8 ∧ Mts w5 sv cv d)) := ⟨HS.out _ _ HB4.out hb5, hE⟩
  clear hb5 hE
  have HREST : Hid True := trivial
  by_cases hE0 : E = 0
  all_goals first
    | (have hEb : (E == 0) = false := by simpa using hE0
       clear hE0
       obtain ⟨w6, hw6⟩ : ∃ w6, w5 = w6 := ⟨_, rfl⟩
       have HB6 : Hid (Below w.heap.size w w6) := by rw [← hw6]; exact HB5.out.1
       rw [hw6]
       clear HB5 hw6 H6 H5)
    | (subst hE0
       obtain ⟨d, hd1, hd2, hd3, hd4⟩ := HB5.out.2 rfl
       have H4b : Hid (Calls Tryz.prog 4 #[.slice sl nl cl, .slice sv nv cv] w5 fun e w' => e = .returned (.bool (A && B)) ∧ Below w5.heap.size w5 w') := by
         have g := H4.out w5 HB5.out.1 sv cv d nv hd2 hd4 (by omega)
         rw [fi_both l m n d hd1, HAB.out.1, HAB.out.2] at g
         exact g
       clear hd1 hd2 hd3 hd4
       cases A <;> cases B
       all_goals
         go_wp2_with fail
         refine H4b.out.mono ?_
         rintro e w6 ⟨rfl, hb6⟩
         have HB6 : Hid (Below w.heap.size w w6) := HS.out _ _ HB5.out.1 hb6
         have hEb : True := trivial
         clear hb6 HB5 H6 H5 H4b)
  all_goals
    go_upto_region 8 with fail
    obtain ⟨O, hO⟩ : ∃ O, w6.heap.size = O := ⟨_, rfl⟩
    obtain ⟨W7, hW7⟩ : ∃ W7, w6.alloc (.cells #[.int .i64 0, .int .i64 2, .int .i64 1, .int .i64 4, .int .i64 3] 3) = W7 := ⟨_, rfl⟩
    have HB7 : Hid (Below w.heap.size w W7 ∧ W7.heap[O]? = some (.cells #[.int .i64 0, .int .i64 2, .int .i64 1, .int .i64 4, .int .i64 3] 3 (0, 0))) := by
      rw [← hW7, ← hO]
      exact ⟨HB6.out.trans ((bel1 _ _).mono HB6.out.size), Go.heap_alloc_new _ _⟩
    go_upto_region 9 with fail
    clear hO hW7 hEb
    go_wp2_with fail
    go_loopw [12] (fun i wr => ∃ (k : Nat), k ≤ nm ∧ i = .int .i64 k ∧ Below w.heap.size w wr ∧ wr.heap[O]? = some (.cells #[.int .i64 0, .int .i64 2, .int .i64 1, .int .i64 4, .int .i64 3] 3 (0, 0))) (fun i _ => nm - (intOf i).toNat)
    case atStart => exact ⟨0, Nat.zero_le _, rfl, HB7.out.1, HB7.out.2⟩
    case round =>
      obtain ⟨k, hk, rfl, hB, hO⟩ := hrel
      have HD : Hid (Below w.heap.size w wr ∧ wr.heap[O]? = some (.cells #[.int .i64 0, .int .i64 2, .int .i64 1, .int .i64 4, .int .i64 3] 3 (0, 0))) := ⟨hB, hO⟩
      clear hB hO HB7
      have HEND : Hid (Calls Tryz.prog 7 #[] wr fun e w' => e = .returned (.bool true) ∧ Below wr.heap.size wr w') := H7.out wr HD.out.1
      by_cases hlt : k < nm
      · have hlt' : (k : Int) < (nm : Int) := by omega
        by_cases h20 : (k : Int) < 20
        · obtain ⟨x, hx⟩ : ∃ x, m[k]? = some x := ⟨_, List.getElem?_eq_getElem (by have := HBD.out.2.1; omega)⟩
          obtain ⟨b, o, hsa, x0, x1, x2⟩ := (HM.out.1.later HD.out.1).cells k x hx
          subst hsa
          have HX : Hid (m[k]? = some x ∧ CanM x) := ⟨hx, HM.out.2.2 x (List.mem_of_getElem? hx)⟩
          have k0 : (0 : Int) ≤ (k : Int) := by omega
          obtain ⟨P, hP⟩ : ∃ P, x.op = P := ⟨_, rfl⟩
          have HP : Hid (x.op = P) := hP
          rw [hP] at x0
          clear hx hP
          by_cases o1 : P < 1
          · have d1 : decide (P < 1) = true := decide_eq_true o1
            clear o1
            go_wp2_with fail
            go_roundw
            case rel => exact ⟨k + 1, by omega, by go_num, HD.out.1, HD.out.2⟩
            case measure => simp [intOf]; omega
          · by_cases o4 : 4 < P
            · have d1 : decide (P < 1) = false := decide_eq_false o1
              have d4 : decide (4 < P) = true := decide_eq_true o4
              clear o1 o4
              go_wp2_with fail
              go_roundw
              case rel => exact ⟨k + 1, by omega, by go_num, HD.out.1, HD.out.2⟩
              case measure => simp [intOf]; omega
            · have hPP : P = 1 ∨ P = 2 ∨ P = 3 ∨ P = 4 := by omega
              clear o1 o4
              obtain ⟨X, hX⟩ : ∃ X, wr.heap.size = X := ⟨_, rfl⟩
              have HXO : Hid (O < X) := by rw [← hX]; exact (Array.getElem?_eq_some_iff.1 HD.out.2).1
              obtain ⟨q, R, hq, q4, hR⟩ : ∃ (q : Nat) (R : Int), P = (q : Int) ∧ (q : Int) < 5 ∧ (#[Value.int .i64 0, .int .i64 2, .int .i64 1, .int .i64 4, .int .i64 3])[q]? = some (.int .i64 R) ∧ (P = 1 ∧ R = 2 ∨ P = 2 ∧ R = 1 ∨ P = 3 ∧ R = 4 ∨ P = 4 ∧ R = 3) := by
                rcases hPP with rfl | rfl | rfl | rfl
                · exact ⟨1, 2, rfl, by decide, rfl, .inl ⟨rfl, rfl⟩⟩
                · exact ⟨2, 1, rfl, by decide, rfl, .inr (.inl ⟨rfl, rfl⟩)⟩
                · exact ⟨3, 4, rfl, by decide, rfl, .inr (.inr (.inl ⟨rfl, rfl⟩))⟩
                · exact ⟨4, 3, rfl, by decide, rfl, .inr (.inr (.inr ⟨rfl, rfl⟩))⟩
              have HR : Hid (fiI l [⟨R, x.key, x.val⟩] = !fiI l [x]) := ho_other l x R (by rw [HP.out]; exact hR.2)
              have p1 : ¬ (P < 1) := by omega
              have p4 : ¬ (4 < P) := by omega
              have HRR : Hid ((#[Value.int .i64 0, .int .i64 2, .int .i64 1, .int .i64 4, .int .i64 3])[q]? = some (.int .i64 R)) := hR.1
              subst hq
              clear hR hPP
              have q0 : (0 : Int) ≤ (q : Int) := by omega
              have d1 : decide ((q : Int) < 1) = false := decide_eq_false p1
              have d4 : decide (4 < (q : Int)) = false := decide_eq_false p4
              clear p1 p4
              obtain ⟨V, hV⟩ : ∃ V, wr.alloc (.cells #[.int .i64 (q : Int), .string (tx x.key), .string (tx x.val)] 30) = V := ⟨_, rfl⟩
              have HV : Hid (Below w.heap.size w V ∧ V.heap[X]? = some (.cells #[.int .i64 (q : Int), .string (tx x.key), .string (tx x.val)] 30 (0, 0)) ∧ V.heap[O]? = some (.cells #[.int .i64 0, .int .i64 2, .int .i64 1, .int .i64 4, .int .i64 3] 3 (0, 0)) ∧ w.heap.size ≤ X) := by
                have hb : Below wr.heap.size wr V := by rw [← hV]; exact bel1 _ _
                refine ⟨HS.out _ _ HD.out.1 hb, by rw [← hV, ← hX]; exact Go.heap_alloc_new _ _, (hb.block O (by rw [hX]; exact HXO.out)).trans HD.out.2, by rw [← hX]; exact HD.out.1.size⟩
              go_upto_region 14 with fail
              clear x0 x1 x2 hX hV
              have y0 : V.cell? ⟨X, 0, none⟩ = some (.int .i64 (q : Int)) := by rw [cell_of_row _ _ _ _ _ _ HV.out.2.1]; rfl
              have y1 : V.cell? ⟨X, 1, none⟩ = some (.string (tx x.key)) := by rw [cell_of_row _ _ _ _ _ _ HV.out.2.1]; rfl
              have y2 : V.cell? ⟨X, 2, none⟩ = some (.string (tx x.val)) := by rw [cell_of_row _ _ _ _ _ _ HV.out.2.1]; rfl
              have yf : V.frozen? ⟨X, 0, none⟩ = false := frozen_of_row _ _ 0 _ _ HV.out.2.1
              have yo : V.cell? ⟨O, q, none⟩ = some (.int .i64 R) := by rw [cell_of_row _ _ _ _ _ _ HV.out.2.2.1]; exact HRR.out
              go_upto_region 15 with fail
              obtain ⟨V2, hV2⟩ : ∃ V2, V.setCell ⟨X, 0, none⟩ (.int .i64 R) = V2 := ⟨_, rfl⟩
              have HV2 : Hid (Below w.heap.size w V2 ∧ V2.heap[X]? = some (.cells #[.int .i64 R, .string (tx x.key), .string (tx x.val)] 30 (0, 0)) ∧ V2.heap[O]? = some (.cells #[.int .i64 0, .int .i64 2, .int .i64 1, .int .i64 4, .int .i64 3] 3 (0, 0))) := by
                rw [← hV2]
                exact ⟨HV.out.1.setCell HV.out.2.2.2 _, row_setM _ HV.out.2.1, (Below.heap_setCell _ _ _ _ (show O ≠ X by have := HXO.out; omega)).trans HV.out.2.2.1⟩
              rw [hV2]
              clear hV2 y0 y1 y2 yf yo HV d1 d4 q0 q4
              obtain ⟨C, hC⟩ : ∃ C : World → Prop, C = fun U => Below V2.heap.size V2 U := ⟨_, rfl⟩
              obtain ⟨F, hF⟩ : ∃ F, fiI l [x] = F := ⟨_, rfl⟩
              obtain ⟨ck, hck⟩ : ∃ ck, cm - k = ck := ⟨_, rfl⟩
              have HCB : Hid (∀ U, C U → Below V2.heap.size V2 U) := fun U h => by rw [hC] at h; exact h
              have HCD : Hid (C V2.drew) := by rw [hC]; exact (Below.refl _ _).drew
              have HCT : Hid (∀ U U', C U → Below U.heap.size U U' → C U') := fun U U' h g => by rw [hC] at h ⊢; exact h.trans (g.mono h.size)
              have HCA : Hid (∀ U r, C U → C (U.alloc r)) := fun U r h => HCT.out _ _ h (bel1 _ _)
              have HCX : Hid (∀ U, C U → U.cell? ⟨X, 0, none⟩ = some (.int .i64 R) ∧ U.cell? ⟨X, 1, none⟩ = some (.string (tx x.key)) ∧ U.cell? ⟨X, 2, none⟩ = some (.string (tx x.val)) ∧ C U) := fun U h => by
                have g := ((HCB.out U h).block X (Array.getElem?_eq_some_iff.1 HV2.out.2.1).1).trans HV2.out.2.1
                exact ⟨by rw [cell_of_row _ _ _ _ _ _ g]; rfl, by rw [cell_of_row _ _ _ _ _ _ g]; rfl, by rw [cell_of_row _ _ _ _ _ _ g]; rfl, h⟩
              have K91 : Hid (∀ U, C U → Calls Tryz.prog 4 #[.slice sl nl cl, .slice (some ⟨b, o + k * 3, none⟩) 1 ck] U fun e w' => e = .returned (.bool F) ∧ C w' ∧ Below U.heap.size U w') := fun U h => by
                have hb := HS.out _ _ HV2.out.1 (HCB.out U h)
                have g := H4.out U hb (some ⟨b, o + k * 3, none⟩) ck [x] 1 rfl ((HM.out.1.later hb).one k x HX.out.1 (by omega)) (by decide)
                rw [hF] at g
                exact g.mono fun e w' ⟨g1, g2⟩ => ⟨g1, HCT.out _ _ h g2, g2⟩
              have K95 : Hid (∀ U r, C U → U.heap[r]? = some (.cells #[.int .i64 R, .string (tx x.key), .string (tx x.val)] 30 (0, 0)) → Calls Tryz.prog 4 #[.slice sl nl cl, .slice (some ⟨r, 0, none⟩) 1 1] U fun e w' => e = .returned (.bool (!F)) ∧ C w') := fun U r h hr => by
                have hb := HS.out _ _ HV2.out.1 (HCB.out U h)
                have g := H4.out U hb (some ⟨r, 0, none⟩) 1 [⟨R, x.key, x.val⟩] 1 rfl (mts_row (x := ⟨R, x.key, x.val⟩) hr HX.out.2.1) (by decide)
                rw [HR.out, hF] at g
                exact g.mono fun e w' ⟨g1, g2⟩ => ⟨g1, HCT.out _ _ h g2⟩
              have hFF : (F == !F) = false := by cases F <;> rfl
              have hck1 : ¬ cm = k := by omega
              obtain ⟨j, hj⟩ : ∃ j, j = k + 1 := ⟨_, rfl⟩
              have HJ : Hid (j = k + 1) := hj
              have j1 : (k : Int) + 1 = (j : Int) := by omega
              have j2 : (k : Int) ≤ (j : Int) := by omega
              have j3 : (j : Int) ≤ (cm : Int) := by omega
              have j4 : j - k = 1 := by omega
              have j5 : IntKind.i64.wrap (j : Int) = (j : Int) := wrap64_small _ (by omega) (by omega)
              clear hj
              clear hC hF HR
              obtain ⟨dx0, dx1, dx2, dC⟩ := HCX.out _ HCD.out
              go_region_held3 (fun w' => w'.cell? ⟨X, 0, none⟩ = some (.int .i64 R) ∧ w'.cell? ⟨X, 1, none⟩ = some (.string (tx x.key)) ∧ w'.cell? ⟨X, 2, none⟩ = some (.string (tx x.val)) ∧ C w') (first | exact KA | exact KB | exact HCX.out _ (HCA.out _ _ KA.2.2.2) | exact HCX.out _ (HCA.out _ _ dC) | go_keep) (first | (go_at_call 4; refine (K91.out _ (by first | exact dC | exact HCA.out _ _ dC)).mono ?_; rintro e z1 ⟨rfl, hc, hb⟩; (have KA := HCX.out z1 hc); clear K91 hc) | (go_at_call 4; refine (K95.out _ _ (by first | exact KA.2.2.2 | exact HCA.out _ _ KA.2.2.2) (by first | exact Go.heap_alloc_new _ _ | exact (hb.block _ (by simp)).trans (Go.heap_alloc_new _ _))).mono ?_; rintro e z2 ⟨rfl, hc⟩; (have KB := HCX.out z2 hc); clear hc))
              all_goals
                have HZ : Hid (Below w.heap.size w z2 ∧ z2.heap[O]? = some (.cells #[.int .i64 0, .int .i64 2, .int .i64 1, .int .i64 4, .int .i64 3] 3 (0, 0))) := by
                  have hb := HCB.out z2 KB.2.2.2
                  exact ⟨HS.out _ _ HV2.out.1 hb, (hb.block O (Array.getElem?_eq_some_iff.1 HV2.out.2.2).1).trans HV2.out.2.2⟩
                clear KA KB hb HCX HCA HCT HCD HCB dx0 dx1 dx2 dC K95
                go_wp2_with fail
                go_roundw
                case rel => exact ⟨k + 1, by omega, by have := HJ.out; first | go_num | (rw [this]; go_num), HZ.out.1, HZ.out.2⟩
                case measure => simp [intOf]; omega
        · have h20' : decide ((k : Int) < 20) = false := decide_eq_false h20
          clear h20
          go_wp2_with fail
          refine HEND.out.mono ?_
          rintro e wz ⟨rfl, hbz⟩
          have HBZ : Hid (Below w.heap.size w wz) := HS.out _ _ HD.out.1 hbz
          clear hbz
          go_wp2_with fail
          go_ret
          exact ⟨rfl, HBZ.out⟩
      · have hge : ¬ ((k : Int) < (nm : Int)) := by omega
        clear hlt
        go_wp2_with fail
        refine HEND.out.mono ?_
        rintro e wz ⟨rfl, hbz⟩
        have HBZ : Hid (Below w.heap.size w wz) := HS.out _ _ HD.out.1 hbz
        clear hbz
        go_wp2_with fail
        go_ret
        exact ⟨rfl, HBZ.out⟩
end Go.Proofs.YtgmpmpgfpchbcaaGreatDoor
