/- ref.Fits. -/
import Derived.Test.YtgmpmpgfpchbcaaGreatDoorX2
namespace Go.Proofs.YtgmpmpgfpchbcaaGreatDoor
open Go.RowKit Go.Shelf
set_option linter.unusedVariables false
set_option linter.unusedSimpArgs false

theorem va_len (l : List At) (hl : ∀ x ∈ l, Can x) (x : Mt) : ((vaI l x).length : Int) ≤ 140737488351232 := by
  unfold vaI
  cases hg : getI l x.key with
  | none => simp
  | some z =>
    have : ∀ (l : List At) (k v : List UInt8), getI l k = some v → ∃ y ∈ l, y.2 = v := by
      intro l
      induction l with
      | nil => intro k v h; simp [getI] at h
      | cons a r ih =>
        intro k v h
        unfold getI at h
        split at h
        · exact ⟨a, by simp, Option.some.inj h⟩
        · obtain ⟨y, hy, e⟩ := ih k v h; exact ⟨y, by simp [hy], e⟩
    obtain ⟨y, hy, e⟩ := this l x.key z hg
    show ((z.length : Nat) : Int) ≤ _
    rw [← e]
    exact (hl y hy).2
set_option maxRecDepth 20000 in
set_option maxHeartbeats 8000000 in
theorem rfits_any (sa sm : Option Addr) (ca cm : Nat) (l : List At) (m : List Mt) (w : World) (hl : Ats w sa ca l) (hm : Mts w sm cm m) (h1 : (l.length : Int) ≤ 140737488351232) (h2 : (m.length : Int) ≤ 140737488351232) :
    Calls Tryz.prog 5 #[.slice sa l.length ca, .slice sm m.length cm] w fun e w' => e = .returned (.bool (fiI l m)) ∧ Below w.heap.size w w' := by
  have HL : Hid (Ats w sa ca l ∧ Mts w sm cm m ∧ (l.length : Int) ≤ 140737488351232) := ⟨hl, hm, h1⟩
  obtain ⟨n, hn⟩ : ∃ n, m.length = n := ⟨_, rfl⟩
  obtain ⟨nl, hnl⟩ : ∃ n, l.length = n := ⟨_, rfl⟩
  have hcap : (n : Int) ≤ (cm : Int) := by have := hm.cap; omega
  have HN : Hid (m.length = n ∧ l.length = nl) := ⟨hn, hnl⟩
  rw [hn] at h2 ⊢
  rw [hnl]
  clear hl hm h1 hn hnl
  go_enter Tryz.func5, Tryz.ntmps5
  go_wp2
  go_loopw [5] (fun i wr => ∃ (k : Nat), k ≤ n ∧ i = .int .i64 k ∧ Below w.heap.size w wr ∧ (∀ j y, j < k → m[j]? = some y → hoI y (vaI l y) = true)) (fun i _ => n - (intOf i).toNat)
  case atStart => exact ⟨0, Nat.zero_le _, rfl, Below.refl _ _, fun j y hj => by omega⟩
  case round =>
    obtain ⟨k, hk, rfl, hB, hD⟩ := hrel
    have HD : Hid (Below w.heap.size w wr ∧ ∀ j y, j < k → m[j]? = some y → hoI y (vaI l y) = true) := ⟨hB, hD⟩
    clear hD
    by_cases hlt : k < n
    · obtain ⟨x, hx⟩ : ∃ x, m[k]? = some x := ⟨_, List.getElem?_eq_getElem (by have := HN.out.1; omega)⟩
      obtain ⟨b, o, hsa, x0, x1, x2⟩ := (HL.out.2.1.later hB).cells k x hx
      subst hsa
      have HXX : Hid (m[k]? = some x) := hx
      have hlt' : (k : Int) < (n : Int) := by omega
      have k0 : (0 : Int) ≤ (k : Int) := by omega
      have H10 : Hid (∀ W, Below w.heap.size w W → Calls Tryz.prog 10 #[.slice sa nl ca, .string (tx x.key)] W fun e w' => e = .returned (.tuple #[.string (tx (vaI l x)), .bool (getI l x.key).isSome]) ∧ w' = W) := fun W hb => by
        have h := rget_any sa ca l x.key W (HL.out.1.later hb) HL.out.2.2
        rw [getV_form, HN.out.2] at h
        exact h
      have H11 : Hid (Calls Tryz.prog 11 #[.agg #[.int .i64 x.op, .string (tx x.key), .string (tx x.val)], .string (tx (vaI l x))] wr fun e w' => e = .returned (.bool (hoI x (vaI l x))) ∧ Below wr.heap.size wr w') := holds_rel 11 x (vaI l x) wr 22 (.inr ⟨rfl, rfl⟩) (fun W' hb' => (has_any (vaI l x) x.val W' (va_len l HL.out.1.can x) (HL.out.2.1.can x (List.mem_of_getElem? HXX.out)).2).mono fun e w' ⟨g1, g2⟩ => ⟨g1, by rw [g2]; exact Below.refl _ _⟩)
      obtain ⟨gs, hgs⟩ : ∃ gs, (getI l x.key).isSome = gs := ⟨_, rfl⟩
      rw [hgs] at H10
      clear hx hB hgs
      by_cases he : hoI x (vaI l x) = true
      · have HS : Hid (∀ j y, j < k + 1 → m[j]? = some y → hoI y (vaI l y) = true) := by
          intro j y hj hy
          rcases (show j = k ∨ j < k from by omega) with rfl | h
          · rw [HXX.out] at hy; rw [← Option.some.inj hy]; exact he
          · exact HD.out.2 j y h hy
        rw [he] at H11
        clear he
        go_wp2_with (first | (go_at_call 10; refine (H10.out wr HD.out.1).mono ?_; rintro e w1 ⟨rfl, hw1⟩; rw [hw1]; clear hw1) | (go_at_call 11; refine H11.out.mono ?_; rintro e w2 ⟨rfl, hb2⟩; (have HB2 : Hid (Below w.heap.size w w2) := HD.out.1.trans (hb2.mono HD.out.1.size)); clear hb2))
        go_roundw
        case rel => exact ⟨k + 1, by omega, by go_num, HB2.out, HS.out⟩
        case measure => simp [intOf]; omega
      · have HE : Hid (fiI l m = false) := fi_no l m k x HXX.out (by simpa using he)
        rw [show hoI x (vaI l x) = false by simpa using he] at H11
        clear he
        go_wp2_with (first | (go_at_call 10; refine (H10.out wr HD.out.1).mono ?_; rintro e w1 ⟨rfl, hw1⟩; rw [hw1]; clear hw1) | (go_at_call 11; refine H11.out.mono ?_; rintro e w2 ⟨rfl, hb2⟩; (have HB2 : Hid (Below w.heap.size w w2) := HD.out.1.trans (hb2.mono HD.out.1.size)); clear hb2))
        go_ret
        exact ⟨by rw [HE.out]; rfl, HB2.out⟩
    · have hge : ¬ ((k : Int) < (n : Int)) := by omega
      have HE : Hid (fiI l m = true) := fi_yes l m (fun j y hj hy => HD.out.2 j y (by have := HN.out.1; omega) hy)
      clear hlt
      go_wp2
      go_ret
      exact ⟨by rw [HE.out]; rfl, HD.out.1⟩
end Go.Proofs.YtgmpmpgfpchbcaaGreatDoor
