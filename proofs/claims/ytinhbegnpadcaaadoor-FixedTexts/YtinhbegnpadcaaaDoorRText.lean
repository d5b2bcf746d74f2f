/- The model's Text, walked: it is the layer's. -/
import Derived.Test.YtinhbegnpadcaaaDoorText
import Derived.Test.YtinhbegnpadcaaaDoorDigits
namespace Go.Proofs.YtinhbegnpadcaaaDoor
open Go.RowKit

/-- The byte at a place of a text. -/
theorem tx_at (l : List UInt8) (i : Nat) (c : UInt8) (h : l[i]? = some c) (k : IntKind) (W : World) : (Instr.index 9 (.string (tx l)) (.int k (i : Int))).run Tryd.prog W = .ok (.int .u8 (c.toNat : Int)) W := by
  have hi : i < l.length := (List.getElem?_eq_some_iff.1 h).1
  rw [run_index_string W 9 (tx l) k (i : Int) Tryd.underlying9, dif_pos (by rw [tx_size]; omega)]
  have e := Lib.getElem_mk l i (by rw [Lib.size_mk]; exact hi)
  rw [h] at e
  have e2 := Option.some.inj e
  simp only [Int.toNat_natCast]
  congr 4
  exact e2.symm


set_option maxHeartbeats 1000000 in
theorem rtext_nf (v : Int) (N W P Q : Nat) (T : List UInt8) (w : World) (HN : Hid (nrm v = -(N : Int))) (hN : (N : Int) ≤ 9223372036854775807) (hn1 : (1 : Int) ≤ (N : Int)) (hW : (N : Int) / 1000000 = (W : Int)) (hP : (N : Int) % 1000000 = (P : Int)) (hp : ((P : Int) == 0) = false) (ht : Pow w)
    (hQ : (P : Int) + 1000000 = (Q : Int)) (HS : Hid (Lib.decDigits Q = 49 :: T)) (hT : T.length = 6) (HTV : Hid (val T = P)) (R : ByteArray) (HR : Hid (R = ((tx [45] ++ tx (Lib.decDigits W)) ++ tx [46]) ++ tx (Lib.trimRightB T 48))) :
    Calls Tryd.prog 7 #[.int .i64 v] w fun e w' => e = .returned (.string R) ∧ Below w.heap.size w w' := by
  have HT : Hid _ := ht
  clear ht
  have HP0 : Hid (P ≠ 0) := by
    show _ ≠ _
    intro hh
    subst hh
    simp at hp
  have HW : Hid (W ≤ 9223372036854775807) := by show _ ≤ _; omega
  have HQ : Hid (Q ≤ 9223372036854775807) := by show _ ≤ _; omega
  go_enter Tryd.func7, Tryd.ntmps7
  go_wp2_with fail
  refine (norm_any v _).mono ?_
  rintro e w1 ⟨rfl, rfl⟩
  rw [HN.out]
  go_wp2_with fail
  refine (fmti_any W HW.out _ HT.out).mono ?_
  rintro e w2 ⟨rfl, hb2⟩
  rw [show (⟨(Lib.decDigits W).toArray⟩ : ByteArray) = tx (Lib.decDigits W) from rfl]
  have hA : (Lib.decDigits W).length ≤ 20 := by rw [Lib.decDigits_length]; exact Lib.nDigits_le20 W (by have := HW.out; omega)
  generalize Lib.decDigits W = A at hA HR ⊢
  have hA' : (tx A).size ≤ 20 := by rw [tx_size]; exact hA
  have HT2 : Hid _ := Pow.later HT.out hb2
  go_wp2_with fail
  refine (fmti_any Q HQ.out _ HT2.out).mono ?_
  rintro e w3 ⟨rfl, hb3⟩
  rw [show (⟨(Lib.decDigits Q).toArray⟩ : ByteArray) = tx (Lib.decDigits Q) from rfl, HS.out]
  have hB' : (tx (49 :: T)).size = 7 := by rw [tx_size, List.length_cons, hT]
  go_wp2_with fail
  rw [show (tx (49 :: T)).extract 1 7 = tx T from by rw [tx_extract, List.drop_one, List.tail_cons, List.take_of_length_le (by omega)]]
  clear hB'
  go_loop [5] (fun s => ∃ k : Nat, 1 ≤ k ∧ k ≤ 6 ∧ s = .string (tx (T.take k)) ∧ ∀ j c, k ≤ j → T[j]? = some c → c = 48) (fun s => Lib.strSize s)
  case atStart => exact ⟨6, by omega, by omega, by rw [List.take_of_length_le (by omega)], fun j c hj hc => by have := (List.getElem?_eq_some_iff.1 hc).1; omega⟩
  case round =>
    obtain ⟨k, k1, k2, rfl, hz⟩ := hrel
    have HZ : Hid _ := hz
    clear hz
    obtain ⟨c, hc⟩ : ∃ c, T[k - 1]? = some c := ⟨_, List.getElem?_eq_getElem (by omega)⟩
    have hsz : (tx (T.take k)).size = k := by rw [tx_size, List.length_take]; omega
    have hix : ∀ W, (Instr.index 9 (.string (tx (T.take k))) (.int .i64 ((k : Int) - 1))).run Tryd.prog W = .ok (.int .u8 (c.toNat : Int)) W := fun W => by
      rw [show ((k : Int) - 1) = ((k - 1 : Nat) : Int) from by omega]
      exact tx_at _ (k - 1) c (by rw [List.getElem?_take, if_pos (by omega)]; exact hc) _ W
    have HC : Hid _ := hc
    clear hc
    have k1' : (1 : Int) ≤ (k : Int) := by omega
    by_cases h48 : c = 48
    · subst h48
      have hk2 : 2 ≤ k := by
        rcases (show k = 1 ∨ 2 ≤ k from by omega) with rfl | h
        · exfalso
          have := val_zeros T (fun x hx => by
            obtain ⟨i, hi, e⟩ := List.mem_iff_getElem.1 hx
            rcases Nat.eq_zero_or_pos i with h0 | h0
            · subst h0
              have h1 := HC.out
              rw [List.getElem?_eq_getElem hi] at h1
              rw [← e]
              exact Option.some.inj h1
            · exact HZ.out i x h0 (by rw [List.getElem?_eq_getElem hi, e]))
          have h2 := HTV.out
          exact HP0.out (by omega)
        · exact h
      have hex : (tx (T.take k)).extract 0 (k - 1) = tx (T.take (k - 1)) := by
        rw [tx_extract, List.drop_zero, List.take_take]
        congr 2
        omega
      have HE : Hid _ := hex
      clear hex
      go_wp2
      go_round
      case rel =>
        refine ⟨k - 1, by omega, by omega, by rw [HE.out], fun j x hj hx => ?_⟩
        rcases (show j = k - 1 ∨ k ≤ j from by omega) with rfl | h
        · rw [HC.out] at hx
          exact (Option.some.inj hx).symm
        · exact HZ.out j x h hx
      case measure =>
        rw [HE.out, Lib.strSize_string, Lib.strSize_string, hsz, tx_size, List.length_take]
        omega
    · have h48' : ((c.toNat : Int) == 48) = false := by
        rw [beq_eq_false_iff_ne]
        intro hh
        exact h48 (UInt8.toNat_inj.1 (by simp; omega))
      have HTR : Hid (Lib.trimRightB T 48 = T.take k) := Lib.trimRightB_take T 48 k (by omega) HZ.out (fun b _ hb => by rw [HC.out] at hb; have := Option.some.inj hb; rw [← this]; exact h48)
      go_wp2
      go_ret
      exact ⟨by rw [HR.out, HTR.out]; rfl, below_two hb2 hb3⟩

set_option maxHeartbeats 1000000 in
theorem rtext_nw (v : Int) (N W P : Nat) (w : World) (HN : Hid (nrm v = -(N : Int))) (hN : (N : Int) ≤ 9223372036854775807) (hn1 : (1 : Int) ≤ (N : Int)) (hW : (N : Int) / 1000000 = (W : Int)) (hP : (N : Int) % 1000000 = (P : Int)) (hp : ((P : Int) == 0) = true) (ht : Pow w)
    (R : ByteArray) (HR : Hid (R = (tx [45] ++ tx (Lib.decDigits W)))) :
    Calls Tryd.prog 7 #[.int .i64 v] w fun e w' => e = .returned (.string R) ∧ Below w.heap.size w w' := by
  have HT : Hid _ := ht
  clear ht
  have HW : Hid (W ≤ 9223372036854775807) := by show _ ≤ _; omega
  go_enter Tryd.func7, Tryd.ntmps7
  go_wp2_with fail
  refine (norm_any v _).mono ?_
  rintro e w1 ⟨rfl, rfl⟩
  rw [HN.out]
  go_wp2_with fail
  refine (fmti_any W HW.out _ HT.out).mono ?_
  rintro e w2 ⟨rfl, hb2⟩
  rw [show (⟨(Lib.decDigits W).toArray⟩ : ByteArray) = tx (Lib.decDigits W) from rfl]
  have hA : (Lib.decDigits W).length ≤ 20 := by rw [Lib.decDigits_length]; exact Lib.nDigits_le20 W (by have := HW.out; omega)
  generalize Lib.decDigits W = A at hA HR ⊢
  have hA' : (tx A).size ≤ 20 := by rw [tx_size]; exact hA
  go_wp2
  go_ret
  exact ⟨by rw [HR.out]; rfl, hb2⟩

set_option maxHeartbeats 1000000 in
theorem rtext_pf (v : Int) (N W P Q : Nat) (T : List UInt8) (w : World) (HN : Hid (nrm v = (N : Int))) (hN : (N : Int) ≤ 9223372036854775807) (hW : (N : Int) / 1000000 = (W : Int)) (hP : (N : Int) % 1000000 = (P : Int)) (hp : ((P : Int) == 0) = false) (ht : Pow w)
    (hQ : (P : Int) + 1000000 = (Q : Int)) (HS : Hid (Lib.decDigits Q = 49 :: T)) (hT : T.length = 6) (HTV : Hid (val T = P)) (R : ByteArray) (HR : Hid (R = ((tx [] ++ tx (Lib.decDigits W)) ++ tx [46]) ++ tx (Lib.trimRightB T 48))) :
    Calls Tryd.prog 7 #[.int .i64 v] w fun e w' => e = .returned (.string R) ∧ Below w.heap.size w w' := by
  have HT : Hid _ := ht
  clear ht
  have HP0 : Hid (P ≠ 0) := by
    show _ ≠ _
    intro hh
    subst hh
    simp at hp
  have HW : Hid (W ≤ 9223372036854775807) := by show _ ≤ _; omega
  have HQ : Hid (Q ≤ 9223372036854775807) := by show _ ≤ _; omega
  go_enter Tryd.func7, Tryd.ntmps7
  go_wp2_with fail
  refine (norm_any v _).mono ?_
  rintro e w1 ⟨rfl, rfl⟩
  rw [HN.out]
  go_wp2_with fail
  refine (fmti_any W HW.out _ HT.out).mono ?_
  rintro e w2 ⟨rfl, hb2⟩
  rw [show (⟨(Lib.decDigits W).toArray⟩ : ByteArray) = tx (Lib.decDigits W) from rfl]
  have hA : (Lib.decDigits W).length ≤ 20 := by rw [Lib.decDigits_length]; exact Lib.nDigits_le20 W (by have := HW.out; omega)
  generalize Lib.decDigits W = A at hA HR ⊢
  have hA' : (tx A).size ≤ 20 := by rw [tx_size]; exact hA
  have HT2 : Hid _ := Pow.later HT.out hb2
  go_wp2_with fail
  refine (fmti_any Q HQ.out _ HT2.out).mono ?_
  rintro e w3 ⟨rfl, hb3⟩
  rw [show (⟨(Lib.decDigits Q).toArray⟩ : ByteArray) = tx (Lib.decDigits Q) from rfl, HS.out]
  have hB' : (tx (49 :: T)).size = 7 := by rw [tx_size, List.length_cons, hT]
  go_wp2_with fail
  rw [show (tx (49 :: T)).extract 1 7 = tx T from by rw [tx_extract, List.drop_one, List.tail_cons, List.take_of_length_le (by omega)]]
  clear hB'
  go_loop [5] (fun s => ∃ k : Nat, 1 ≤ k ∧ k ≤ 6 ∧ s = .string (tx (T.take k)) ∧ ∀ j c, k ≤ j → T[j]? = some c → c = 48) (fun s => Lib.strSize s)
  case atStart => exact ⟨6, by omega, by omega, by rw [List.take_of_length_le (by omega)], fun j c hj hc => by have := (List.getElem?_eq_some_iff.1 hc).1; omega⟩
  case round =>
    obtain ⟨k, k1, k2, rfl, hz⟩ := hrel
    have HZ : Hid _ := hz
    clear hz
    obtain ⟨c, hc⟩ : ∃ c, T[k - 1]? = some c := ⟨_, List.getElem?_eq_getElem (by omega)⟩
    have hsz : (tx (T.take k)).size = k := by rw [tx_size, List.length_take]; omega
    have hix : ∀ W, (Instr.index 9 (.string (tx (T.take k))) (.int .i64 ((k : Int) - 1))).run Tryd.prog W = .ok (.int .u8 (c.toNat : Int)) W := fun W => by
      rw [show ((k : Int) - 1) = ((k - 1 : Nat) : Int) from by omega]
      exact tx_at _ (k - 1) c (by rw [List.getElem?_take, if_pos (by omega)]; exact hc) _ W
    have HC : Hid _ := hc
    clear hc
    have k1' : (1 : Int) ≤ (k : Int) := by omega
    by_cases h48 : c = 48
    · subst h48
      have hk2 : 2 ≤ k := by
        rcases (show k = 1 ∨ 2 ≤ k from by omega) with rfl | h
        · exfalso
          have := val_zeros T (fun x hx => by
            obtain ⟨i, hi, e⟩ := List.mem_iff_getElem.1 hx
            rcases Nat.eq_zero_or_pos i with h0 | h0
            · subst h0
              have h1 := HC.out
              rw [List.getElem?_eq_getElem hi] at h1
              rw [← e]
              exact Option.some.inj h1
            · exact HZ.out i x h0 (by rw [List.getElem?_eq_getElem hi, e]))
          have h2 := HTV.out
          exact HP0.out (by omega)
        · exact h
      have hex : (tx (T.take k)).extract 0 (k - 1) = tx (T.take (k - 1)) := by
        rw [tx_extract, List.drop_zero, List.take_take]
        congr 2
        omega
      have HE : Hid _ := hex
      clear hex
      go_wp2
      go_round
      case rel =>
        refine ⟨k - 1, by omega, by omega, by rw [HE.out], fun j x hj hx => ?_⟩
        rcases (show j = k - 1 ∨ k ≤ j from by omega) with rfl | h
        · rw [HC.out] at hx
          exact (Option.some.inj hx).symm
        · exact HZ.out j x h hx
      case measure =>
        rw [HE.out, Lib.strSize_string, Lib.strSize_string, hsz, tx_size, List.length_take]
        omega
    · have h48' : ((c.toNat : Int) == 48) = false := by
        rw [beq_eq_false_iff_ne]
        intro hh
        exact h48 (UInt8.toNat_inj.1 (by simp; omega))
      have HTR : Hid (Lib.trimRightB T 48 = T.take k) := Lib.trimRightB_take T 48 k (by omega) HZ.out (fun b _ hb => by rw [HC.out] at hb; have := Option.some.inj hb; rw [← this]; exact h48)
      go_wp2
      go_ret
      exact ⟨by rw [HR.out, HTR.out]; rfl, below_two hb2 hb3⟩

set_option maxHeartbeats 1000000 in
theorem rtext_pw (v : Int) (N W P : Nat) (w : World) (HN : Hid (nrm v = (N : Int))) (hN : (N : Int) ≤ 9223372036854775807) (hW : (N : Int) / 1000000 = (W : Int)) (hP : (N : Int) % 1000000 = (P : Int)) (hp : ((P : Int) == 0) = true) (ht : Pow w)
    (R : ByteArray) (HR : Hid (R = (tx [] ++ tx (Lib.decDigits W)))) :
    Calls Tryd.prog 7 #[.int .i64 v] w fun e w' => e = .returned (.string R) ∧ Below w.heap.size w w' := by
  have HT : Hid _ := ht
  clear ht
  have HW : Hid (W ≤ 9223372036854775807) := by show _ ≤ _; omega
  go_enter Tryd.func7, Tryd.ntmps7
  go_wp2_with fail
  refine (norm_any v _).mono ?_
  rintro e w1 ⟨rfl, rfl⟩
  rw [HN.out]
  go_wp2_with fail
  refine (fmti_any W HW.out _ HT.out).mono ?_
  rintro e w2 ⟨rfl, hb2⟩
  rw [show (⟨(Lib.decDigits W).toArray⟩ : ByteArray) = tx (Lib.decDigits W) from rfl]
  have hA : (Lib.decDigits W).length ≤ 20 := by rw [Lib.decDigits_length]; exact Lib.nDigits_le20 W (by have := HW.out; omega)
  generalize Lib.decDigits W = A at hA HR ⊢
  have hA' : (tx A).size ≤ 20 := by rw [tx_size]; exact hA
  go_wp2
  go_ret
  exact ⟨by rw [HR.out]; rfl, hb2⟩

/-- A text as it is put together, as one list. -/
theorem tl_eq (neg : Bool) (W P : Nat) (T : List UInt8) (hS : Lib.decDigits (1000000 + P) = 49 :: T) :
    tx (tl neg W P) = if P = 0 then (if neg then tx [45] ++ tx (Lib.decDigits W) else tx (Lib.decDigits W)) else ((if neg then tx [45] ++ tx (Lib.decDigits W) else tx (Lib.decDigits W)) ++ tx [46]) ++ tx (Lib.trimRightB T 48) := by
  unfold tl
  rw [hS, List.tail_cons]
  cases neg <;> by_cases h : P = 0 <;> simp [h, tx_app]

/-- Text and the model's Text tell the same. -/
theorem text_both (v : Int) (h0 : -9223372036854775808 ≤ v) (h1 : v ≤ 9223372036854775807) :
    (∀ w, Pow w → Calls Tryd.prog 4 #[.int .i64 v] w fun e w' => e = .returned (.string (tx (tl (decide (v < 0)) (szI v / 1000000) (szI v % 1000000)))) ∧ Below w.heap.size w w') ∧
    (∀ w, Pow w → Calls Tryd.prog 7 #[.int .i64 v] w fun e w' => e = .returned (.string (tx (tl (decide (v < 0)) (szI v / 1000000) (szI v % 1000000)))) ∧ Below w.heap.size w w') := by
  obtain ⟨T, t1, t2, t3, _⟩ := six (szI v % 1000000) (by omega)
  have hE := tl_eq (decide (v < 0)) (szI v / 1000000) (szI v % 1000000) T t1
  have hz := sz_hi v h1
  have he := sz_eq v
  have hneg := nrm_neg v
  have hpos := sz_pos v
  have hQ1 : (1000000 : Int) + ((szI v % 1000000 : Nat) : Int) = ((1000000 + szI v % 1000000 : Nat) : Int) := by omega
  have hQ2 : ((szI v % 1000000 : Nat) : Int) + 1000000 = ((1000000 + szI v % 1000000 : Nat) : Int) := by omega
  by_cases c : v < 0
  · rw [decide_eq_true c] at hE ⊢
    have hn : nrm v = -(szI v : Int) := by rw [he, if_pos (hneg.2 c)]; omega
    by_cases p : szI v % 1000000 = 0
    · rw [if_pos p] at hE
      have hp : (((szI v % 1000000 : Nat) : Int) == 0) = true := by rw [p]; rfl
      exact ⟨fun w ht => text_nw v (szI v) (szI v / 1000000) (szI v % 1000000) (1000000 + szI v % 1000000) w h1 rfl (by omega) (by omega) (by omega) c hp ht hQ1 _ hE, fun w ht => rtext_nw v (szI v) (szI v / 1000000) (szI v % 1000000) w hn (by omega) (by have := hpos (by omega); omega) (by omega) (by omega) hp ht _ hE⟩
    · rw [if_neg p] at hE
      have hp : (((szI v % 1000000 : Nat) : Int) == 0) = false := by rw [beq_eq_false_iff_ne]; omega
      exact ⟨fun w ht => text_nf v (szI v) (szI v / 1000000) (szI v % 1000000) (1000000 + szI v % 1000000) w h1 rfl (by omega) (by omega) (by omega) c hp ht hQ1 _ (by rw [t1, List.tail_cons]; exact hE), fun w ht => rtext_nf v (szI v) (szI v / 1000000) (szI v % 1000000) (1000000 + szI v % 1000000) T w hn (by omega) (by have := hpos (by omega); omega) (by omega) (by omega) hp ht hQ2 t1 t2 t3 _ hE⟩
  · rw [decide_eq_false c] at hE ⊢
    have hn : nrm v = (szI v : Int) := by rw [he, if_neg (by omega)]
    have hem : tx [] ++ tx (Lib.decDigits (szI v / 1000000)) = tx (Lib.decDigits (szI v / 1000000)) := tx_app [] _
    by_cases p : szI v % 1000000 = 0
    · rw [if_pos p] at hE
      have hp : (((szI v % 1000000 : Nat) : Int) == 0) = true := by rw [p]; rfl
      exact ⟨fun w ht => text_pw v (szI v) (szI v / 1000000) (szI v % 1000000) (1000000 + szI v % 1000000) w h1 rfl (by omega) (by omega) (by omega) c hp ht hQ1 _ hE, fun w ht => rtext_pw v (szI v) (szI v / 1000000) (szI v % 1000000) w hn (by omega) (by omega) (by omega) hp ht _ (by show _ = _; rw [hem]; exact hE)⟩
    · rw [if_neg p] at hE
      have hp : (((szI v % 1000000 : Nat) : Int) == 0) = false := by rw [beq_eq_false_iff_ne]; omega
      exact ⟨fun w ht => text_pf v (szI v) (szI v / 1000000) (szI v % 1000000) (1000000 + szI v % 1000000) w h1 rfl (by omega) (by omega) (by omega) c hp ht hQ1 _ (by rw [t1, List.tail_cons]; exact hE), fun w ht => rtext_pf v (szI v) (szI v / 1000000) (szI v % 1000000) (1000000 + szI v % 1000000) T w hn (by omega) (by omega) (by omega) hp ht hQ2 t1 t2 t3 _ (by show _ = _; rw [hem]; exact hE)⟩

end Go.Proofs.YtinhbegnpadcaaaDoor
