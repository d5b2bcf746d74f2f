/- The model's cache: how many tenants. -/
import Derived.Test.YtbcdaddbcjagjaaTe
import Derived.BigQuiet
namespace Go.Proofs.Ytbcdaddbcjagjaa
open Go.RowKit
set_option linter.unusedVariables false
set_option linter.unusedSimpArgs false

variable {w w' w2 W : World} {R B : Nat} {most : Int} {lv cv lv' cv' : Value} {l l' : List An} {cs cs' : List Cn}
/-- The tenants, each once. -/
def tlT : List An → List (List UInt8) → List (List UInt8)
  | [], t => t
  | a :: r, t => tlT r (if a.tn ∈ t then t else t ++ [a.tn])
theorem tlT_app : ∀ (a b : List An) (t : List (List UInt8)), tlT (a ++ b) t = tlT b (tlT a t)
  | [], b, t => rfl
  | x :: r, b, t => by rw [List.cons_append, tlT, tlT, tlT_app r b]
theorem tlT_mem : ∀ (l : List An) (t : List (List UInt8)) (x : List UInt8), x ∈ tlT l t ↔ x ∈ t ∨ x ∈ l.map An.tn
  | [], t, x => by simp [tlT]
  | a :: r, t, x => by
    rw [tlT, tlT_mem r]
    by_cases h : a.tn ∈ t
    · rw [if_pos h]
      simp only [List.map_cons, List.mem_cons]
      constructor
      · rintro (e | e)
        · exact .inl e
        · exact .inr (.inr e)
      · rintro (e | e | e)
        · exact .inl e
        · rw [e]; exact .inl h
        · exact .inr e
    · rw [if_neg h]
      simp only [List.map_cons, List.mem_cons, List.mem_append, List.mem_singleton, List.not_mem_nil, or_false]
      constructor
      · rintro ((e | e) | e)
        · exact .inl e
        · exact .inr (.inl e)
        · exact .inr (.inr e)
      · rintro (e | e | e)
        · exact .inl (.inl e)
        · exact .inl (.inr e)
        · exact .inr e
theorem tlT_nd : ∀ (l : List An) (t : List (List UInt8)), t.Nodup → (tlT l t).Nodup
  | [], t, h => h
  | a :: r, t, h => by
    rw [tlT]
    refine tlT_nd r _ ?_
    split
    · exact h
    · rename_i hn
      rw [List.nodup_append]
      exact ⟨h, by simp, fun x hx y hy e => hn (by rw [← List.mem_singleton.1 hy, ← e]; exact hx)⟩
theorem tlT_step {l : List An} {j : Nat} {a : An} (h : l[j]? = some a) : (tlT (l.take (j + 1)) []).length = (tlT (l.take j) []).length + (if a.tn ∈ (l.take j).map An.tn then 0 else 1) := by
  rw [List.take_add_one, h, tlT_app]
  simp only [Option.toList_some, tlT]
  have hm : a.tn ∈ tlT (l.take j) [] ↔ a.tn ∈ (l.take j).map An.tn := by rw [tlT_mem]; simp
  by_cases e : a.tn ∈ (l.take j).map An.tn
  · rw [if_pos e, if_pos (hm.2 e), Nat.add_zero]
  · rw [if_neg e, if_neg (fun x => e (hm.1 x)), List.length_append, List.length_singleton]
theorem tlT_le (l : List An) (t : List (List UInt8)) : (tlT l t).length ≤ t.length + l.length := by
  induction l generalizing t with
  | nil => simp [tlT]
  | cons a r ih =>
    rw [tlT]
    have := ih (if a.tn ∈ t then t else t ++ [a.tn])
    refine Nat.le_trans this ?_
    split <;> simp <;> omega
set_option maxRecDepth 20000 in
set_option maxHeartbeats 4000000 in
theorem MS.tens (h : MS w R B most lv cv l cs) (hl : (l.length : Int) ≤ 100000) : Calls Try.prog 43 #[.pointer (some ⟨R, 0, none⟩)] w fun e w' => e = .returned (.int .i64 ((tlT l []).length : Int)) ∧ Below w.heap.size w w' := by
  obtain ⟨⟨sa, cap, rfl, hcap⟩, -⟩ := h.forms
  obtain ⟨-, c1, -, -⟩ := h.cells
  have HH : Hid (MS w R B most (.slice sa l.length cap) cv l cs) := h
  obtain ⟨n, hn⟩ : ∃ n, l.length = n := ⟨_, rfl⟩
  have HN : Hid (l.length = n) := hn
  rw [hn] at hcap hl c1 HH
  clear h hn
  go_enter Try.func43, Try.ntmps43
  go_wp2
  go_loopw [3, 4, 5, 6] (fun a b c d wx => ∃ j : Nat, a = .int .i64 ((tlT (l.take j) []).length : Int) ∧ b = .int .i64 (j : Int) ∧ j ≤ n ∧ Hid (Below w.heap.size w wx)) (fun a b c d wx => n - (intOf b).toNat)
  case atStart => exact ⟨0, rfl, rfl, by omega, Below.refl _ _⟩
  case round =>
    obtain ⟨j, rfl, rfl, hj, HB⟩ := hrel
    clear c1
    have c1 := (HH.out.newer HB.out).cells.2.1
    have hcj : ((tlT (l.take j) []).length : Int) ≤ 100000 := by have := tlT_le (l.take j) []; rw [List.length_take] at this; simp at this; omega
    by_cases cj : j < n
    · have cj' : (j : Int) < (n : Int) := by omega
      obtain ⟨a, ha⟩ : ∃ a, l[j]? = some a := ⟨_, List.getElem?_eq_getElem (by have := HN.out; omega)⟩
      have HA : Hid (l[j]? = some a) := ha
      have HS : Hid ((tlT (l.take (j + 1)) []).length = (tlT (l.take j) []).length + (if a.tn ∈ (l.take j).map An.tn then 0 else 1)) := tlT_step ha
      have HCJ : Hid (j < n) := cj
      obtain ⟨q, hq⟩ : ∃ q, (tlT (l.take j) []).length = q := ⟨_, rfl⟩
      rw [hq] at HS hcj ⊢
      clear hq ha cj hj
      go_wp2_with fail
      go_loopw [5, 6] (fun c d wx => ∃ k : Nat, c = .bool (decide (a.tn ∉ (l.take k).map An.tn)) ∧ d = .int .i64 (k : Int) ∧ k ≤ j ∧ Hid (Below w.heap.size w wx)) (fun c d wx => j - (intOf d).toNat)
      case atStart => exact ⟨0, by simp, rfl, by omega, HB⟩
      case round =>
        obtain ⟨k, rfl, rfl, hk, HB2⟩ := hrel
        clear c1
        have c1 := (HH.out.newer HB2.out).cells.2.1
        by_cases ck : k < j
        · have ck' : (k : Int) < (j : Int) := by omega
          obtain ⟨x, hx⟩ : ∃ x, l[k]? = some x := ⟨_, List.getElem?_eq_getElem (by have := HN.out; have := HCJ.out; omega)⟩
          obtain ⟨g, hsa, y0, -⟩ := (HH.out.newer HB2.out).ans HA.out
          obtain ⟨g2, hsa2, x0, -⟩ := (HH.out.newer HB2.out).ans hx
          rw [hsa] at hsa2
          obtain rfl : g = g2 := by simpa using hsa2
          subst hsa
          have HST : Hid (decide (a.tn ∉ (l.take (k + 1)).map An.tn) = (decide (a.tn ∉ (l.take k).map An.tn) && decide (x.tn ≠ a.tn))) := by
            show _ = _
            rw [List.take_add_one, hx, List.map_append]
            by_cases e2 : x.tn = a.tn
            · simp [e2]
            · have e3 : ¬ a.tn = x.tn := fun e => e2 e.symm
              simp [e2, e3]
          have HCK : Hid (k < j) := ck
          have hkn : (k : Int) < (n : Int) := by omega
          clear hsa2 hx ck hk
          obtain ⟨bb, hbb⟩ : ∃ bb, decide (a.tn ∉ (l.take k).map An.tn) = bb := ⟨_, rfl⟩
          rw [hbb] at HST ⊢
          clear hbb
          cases bb with
          | false =>
            go_wp2_with fail
            go_quiet (fail)
            go_wp2_with fail
            go_roundw
            case rel => exact ⟨k + 1, by rw [HST.out]; rfl, by go_num, HCK.out, HB2.out.trans ⟨rfl, rfl, rfl, Nat.le_refl _, fun q hq => rfl⟩⟩
            case measure => have := HCK.out; simp [intOf]; omega
          | true =>
            by_cases e : x.tn = a.tn
            · have hb : ((tx x.tn).toList == (tx a.tn).toList) = true := by rw [tx_list, tx_list]; simp [e]
              have HE : Hid (x.tn = a.tn) := e
              clear e
              go_wp2_with fail
              go_quiet (fail)
              go_wp2_with fail
              go_roundw
              case rel => exact ⟨k + 1, by rw [HST.out, HE.out]; simp, by go_num, HCK.out, HB2.out.trans ⟨rfl, rfl, rfl, Nat.le_refl _, fun q hq => rfl⟩⟩
              case measure => have := HCK.out; simp [intOf]; omega
            · have hb : ((tx x.tn).toList == (tx a.tn).toList) = false := by rw [tx_list, tx_list]; simpa using e
              have HE : Hid (¬ x.tn = a.tn) := e
              clear e
              go_wp2_with fail
              go_quiet (fail)
              go_wp2_with fail
              go_roundw
              case rel => exact ⟨k + 1, by rw [HST.out, decide_eq_true HE.out]; rfl, by go_num, HCK.out, HB2.out.trans ⟨rfl, rfl, rfl, Nat.le_refl _, fun q hq => rfl⟩⟩
              case measure => have := HCK.out; simp [intOf]; omega
        · obtain rfl : k = j := by omega
          clear ck hk
          obtain ⟨bb, hbb⟩ : ∃ bb, decide (a.tn ∉ (l.take k).map An.tn) = bb := ⟨_, rfl⟩
          have HBB : Hid (decide (a.tn ∉ (l.take k).map An.tn) = bb) := hbb
          rw [hbb]
          clear hbb
          cases bb with
          | false =>
            go_wp2_with fail
            go_roundw
            case rel => exact ⟨k + 1, by have := HBB.out; simp at this; rw [HS.out, if_pos (by simpa using this)]; rfl, by go_num, HCJ.out, HB2⟩
            case measure => have := HCJ.out; simp [intOf]; omega
          | true =>
            go_wp2_with fail
            go_roundw
            case rel => exact ⟨k + 1, by have := of_decide_eq_true HBB.out; rw [HS.out, if_neg this]; go_num, by go_num, HCJ.out, HB2⟩
            case measure => have := HCJ.out; simp [intOf]; omega
    · obtain rfl : j = n := by omega
      rw [show l.take j = l by have := HN.out; rw [← this, List.take_length]]
      clear cj hj
      go_wp2_with fail
      go_ret
      exact ⟨rfl, HB.out⟩
end Go.Proofs.Ytbcdaddbcjagjaa
