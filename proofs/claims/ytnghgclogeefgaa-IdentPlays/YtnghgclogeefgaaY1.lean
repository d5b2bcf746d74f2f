/- The law of numbers. -/
import Derived.Test.YtnghgclogeefgaaX2
import Derived.Test.YtnghgclogeefgaaU2
namespace Go.Proofs.Ytnghgclogeefgaa
open Go.RowKit
set_option linter.unusedVariables false
set_option linter.unusedSimpArgs false

/-- Calls as they came in. -/
def OpsIn (W : World) (sa : Option Addr) (n cap : Nat) : Prop := n ≤ cap ∧ ∀ i, i < n → ∃ (b off : Nat) (K I N S : Int) (P : ByteArray), sa = some ⟨b, off, none⟩ ∧ W.cell? ⟨b, off + i * 5, none⟩ = some (.int .i64 K) ∧ W.cell? ⟨b, off + i * 5 + 1, none⟩ = some (.string P) ∧ W.cell? ⟨b, off + i * 5 + 2, none⟩ = some (.int .i64 I) ∧ W.cell? ⟨b, off + i * 5 + 3, none⟩ = some (.int .i64 N) ∧ W.cell? ⟨b, off + i * 5 + 4, none⟩ = some (.int .i64 S)
theorem op_acme (last : Int) (ss : List Se) (h : ss.length ≠ 64) : opI last ss peer1 0 5 = (last + 1, 0, last + 1, ss ++ [⟨last + 1, acme, ann, false, 5⟩]) := by
  unfold opI
  rw [p1]
  simp only
  rw [if_neg (by decide), if_neg h]
  rfl
theorem op_acme64 (last : Int) (ss : List Se) (h : ss.length = 64) : opI last ss peer1 0 5 = (0, 7, last, ss) := by
  unfold opI
  rw [p1]
  simp only
  rw [if_neg (by decide), if_pos h]
set_option maxRecDepth 20000 in
set_option maxHeartbeats 16000000 in
theorem numbers_law (sa : Option Addr) (n cap : Nat) (w : World) (hO : OpsIn w sa n cap) (hn : (n : Int) ≤ 140737488351232) :
    Calls Try.prog 6 #[.slice sa n cap] w fun e w' => e = .returned (.bool true) ∧ Below w.heap.size w w' := by
  have HOI : Hid (OpsIn w sa n cap) := hO
  have hcap : (n : Int) ≤ (cap : Int) := by have := hO.1; omega
  clear hO
  go_enter Try.func6, Try.ntmps6
  go_wp2_with fail
  refine (new_any w).mono ?_
  rintro e w1 ⟨rfl, hw1⟩
  have HI1 : Hid (Tb w1 w.heap.size w.heap.size 0 (.slice none 0 0) [] ∧ Below w.heap.size w w1) := by rw [hw1]; exact ⟨tb_new w, bel1 _ _⟩
  clear hw1
  obtain ⟨T, hT⟩ : ∃ T, w.heap.size = T := ⟨_, rfl⟩
  have HT : Hid (w.heap.size = T) := hT
  rw [hT] at HI1 ⊢
  clear hT
  go_wp2_with fail
  go_loopw [4, 5, 6, 7, 8] (fun l i x y z wr => ∃ (k : Nat) (last : Int) (sv : Value) (ss : List Se), k ≤ 200 ∧ i = .int .i64 (k : Int) ∧ l = .int .i64 last ∧ 0 ≤ last ∧ last ≤ (k : Int) ∧ ss.length ≤ 64 ∧ Tb wr T T last sv ss ∧ Below T w wr) (fun l i x y z wr => 200 - (intOf i).toNat)
  case atStart => exact ⟨0, 0, _, [], by omega, rfl, rfl, by omega, by omega, by simp, HI1.out.1, HI1.out.2⟩
  case round =>
    clear HI1
    obtain ⟨k, last, sv, ss, hk, rfl, rfl, l0, l1, hss, htk, hbk⟩ := hrel
    have HK : Hid (Tb wr T T last sv ss ∧ Below T w wr) := ⟨htk, hbk⟩
    have HSS : Hid (ss.length ≤ 64) := hss
    clear htk hbk hss
    by_cases c1 : (k : Int) < (n : Int)
    · by_cases c2 : (k : Int) < 200
      · obtain ⟨b, off, KK, I, NN, S, P, hsa, o0, o1, o2, o3, o4⟩ := HOI.out.2 k (by omega)
        subst hsa
        have hbl : b < w.heap.size := World.block_lt_of_cell? w _ o0
        have hbT : b < T := by have := HT.out; omega
        have r0 := (HK.out.2.cell (p := ⟨b, off + k * 5, none⟩) hbT).trans o0
        have r1 := (HK.out.2.cell (p := ⟨b, off + k * 5 + 1, none⟩) hbT).trans o1
        have r2 := (HK.out.2.cell (p := ⟨b, off + k * 5 + 2, none⟩) hbT).trans o2
        have r3 := (HK.out.2.cell (p := ⟨b, off + k * 5 + 3, none⟩) hbT).trans o3
        have r4 := (HK.out.2.cell (p := ⟨b, off + k * 5 + 4, none⟩) hbT).trans o4
        clear o0 o1 o2 o3 o4 hbl hbT
        go_upto_region 9 with fail
        obtain ⟨W2, hW2⟩ : ∃ W2, wr.alloc (.cells #[.int .i64 KK, .string P, .int .i64 I, .int .i64 NN, .int .i64 S] 41) = W2 := ⟨_, rfl⟩
        have hr : W2.heap[wr.heap.size]? = some (.cells #[.int .i64 KK, .string P, .int .i64 I, .int .i64 NN, .int .i64 S] 41 (0, 0)) := by rw [← hW2]; exact Go.heap_alloc_new _ _
        have h22 : Below wr.heap.size wr W2 := by rw [← hW2]; exact bel1 _ _
        have HK2 : Hid (Tb W2 T T last sv ss ∧ Below T w W2) := ⟨HK.out.1.later h22 (Nat.le_refl _), HK.out.2.trans (h22.mono (by have := HK.out.2.size; have := HT.out; omega))⟩
        have p0 : W2.cell? ⟨wr.heap.size, 0, none⟩ = some (.int .i64 KK) := by rw [cell_of_row _ _ _ _ _ _ hr]; rfl
        have p2 : W2.cell? ⟨wr.heap.size, 2, none⟩ = some (.int .i64 I) := by rw [cell_of_row _ _ _ _ _ _ hr]; rfl
        try rw [hW2]
        clear hW2 hr h22 r0 r1 r2 r3 r4
        generalize wr.heap.size = q at p0 p2 ⊢
        have HTS : Hid (T ≤ W2.heap.size) := by have := (Array.getElem?_eq_some_iff.1 HK2.out.1.tab).1; show _ ≤ _; omega
        by_cases c3 : KK = 3
        · subst c3
          have HCL : Hid (Calls Try.prog 24 #[.pointer (some ⟨T, 0, none⟩), .int .i64 I] W2 fun e w' => e = .returned (.int .i64 (ceI ss I)) ∧ (∃ sv', Tb w' T T last sv' (clI ss I)) ∧ Below T W2 w') := close_any T T last sv ss I W2 HK2.out.1 HSS.out HTS.out
          have HCN : Hid ((clI ss I).length ≤ 64) := Nat.le_trans (clI_len ss I) HSS.out
          go_wp2_with fail
          refine HCL.out.mono ?_
          rintro e w5 ⟨rfl, ⟨sv5, ht5⟩, hb5⟩
          have HK5 : Hid (Tb w5 T T last sv5 (clI ss I) ∧ Below T w w5) := ⟨ht5, HK2.out.2.trans hb5⟩
          clear ht5 hb5
          go_wp2_with fail
          go_roundw
          case rel => exact ⟨k + 1, last, sv5, clI ss I, by omega, by go_num, rfl, l0, by omega, HCN.out, HK5.out.1, HK5.out.2⟩
          case measure => simp [intOf]; omega
        · have c3' : (KK == 3) = false := by simpa using c3
          clear c3
          have HOP : Hid (Calls Try.prog 18 #[.pointer (some ⟨T, 0, none⟩), .string ⟨#[98, 101, 108, 102, 114, 121, 58, 97, 99, 109, 101, 47, 97, 110, 110]⟩, .int .i64 0, .int .i64 5] W2 fun e w' => opP w' T T e (opI last ss peer1 0 5) ∧ Below T W2 w') := open_any T T last sv ss peer1 0 5 W2 HK2.out.1 HSS.out (by decide) l0 (by omega) HTS.out
          by_cases c4 : ss.length = 64
          · rw [op_acme64 last ss c4] at HOP
            have c4' : ¬ (64 : Int) < (ss.length : Int) := by omega
            have hb1 : ((7 : Int) == 7) = true := rfl
            go_wp2_with fail
            refine HOP.out.mono ?_
            rintro e w5 ⟨⟨rfl, sv5, ht5⟩, hb5⟩
            simp only at ht5 ⊢
            have HK5 : Hid (Tb w5 T T last sv5 ss ∧ Below T w w5) := ⟨ht5, HK2.out.2.trans hb5⟩
            have HLN : Hid (Calls Try.prog 29 #[.pointer (some ⟨T, 0, none⟩)] w5 fun e w' => e = .returned (.int .i64 (ss.length : Int)) ∧ w' = w5) := len_any T T last sv5 ss w5 ht5
            clear ht5 hb5
            go_wp2_with fail
            refine HLN.out.mono ?_
            rintro e w6 ⟨rfl, hw6⟩
            rw [hw6]; clear hw6
            go_wp2_with fail
            go_roundw
            case rel => exact ⟨k + 1, last, sv5, ss, by omega, by go_num, rfl, l0, by omega, HSS.out, HK5.out.1, HK5.out.2⟩
            case measure => simp [intOf]; omega
          · rw [op_acme last ss c4] at HOP
            have hlen : (ss ++ [⟨last + 1, acme, ann, false, 5⟩] : List Se).length = ss.length + 1 := by simp
            have HLN' : Hid ((ss ++ [⟨last + 1, acme, ann, false, 5⟩] : List Se).length ≤ 64) := by have := HSS.out; show _ ≤ _; rw [hlen]; omega
            have c4' : ¬ (64 : Int) < ((ss ++ [⟨last + 1, acme, ann, false, 5⟩] : List Se).length : Int) := by have := HLN'.out; omega
            generalize ss ++ [⟨last + 1, acme, ann, false, 5⟩] = ss2 at HOP HLN' c4'
            have hz : ((last + 1 : Int) == 0) = false := by simpa using (by omega : ¬ last + 1 = 0)
            have hne : ((last + 1 : Int) != last + 1) = false := by simp
            have l2 : last + 1 ≤ 1000 := by omega
            clear hlen c4
            go_wp2_with fail
            refine HOP.out.mono ?_
            rintro e w5 ⟨⟨rfl, sv5, ht5⟩, hb5⟩
            simp only at ht5 ⊢
            have HK5 : Hid (Tb w5 T T (last + 1) sv5 ss2 ∧ Below T w w5) := ⟨ht5, HK2.out.2.trans hb5⟩
            have HLN : Hid (Calls Try.prog 29 #[.pointer (some ⟨T, 0, none⟩)] w5 fun e w' => e = .returned (.int .i64 (ss2.length : Int)) ∧ w' = w5) := len_any T T (last + 1) sv5 ss2 w5 ht5
            clear ht5 hb5
            go_wp2_with fail
            refine HLN.out.mono ?_
            rintro e w6 ⟨rfl, hw6⟩
            rw [hw6]; clear hw6
            go_wp2_with fail
            go_roundw
            case rel => exact ⟨k + 1, last + 1, sv5, ss2, by omega, by go_num, rfl, by omega, by omega, HLN'.out, HK5.out.1, HK5.out.2⟩
            case measure => simp [intOf]; omega
      · go_wp2_with (go_at_call 16; refine (known_any _).mono ?_; rintro e w8 ⟨rfl, hb8⟩)
        go_ret
        exact ⟨rfl, by rw [HT.out]; exact HK.out.2.trans (hb8.mono (by have := HK.out.2.size; have := HT.out; omega))⟩
    · go_wp2_with (go_at_call 16; refine (known_any _).mono ?_; rintro e w8 ⟨rfl, hb8⟩)
      go_ret
      exact ⟨rfl, by rw [HT.out]; exact HK.out.2.trans (hb8.mono (by have := HK.out.2.size; have := HT.out; omega))⟩
end Go.Proofs.Ytnghgclogeefgaa
