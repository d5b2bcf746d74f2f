/- A key's value; a text among texts. -/
import Derived.Test.YtgmpmpgfpchbcaaGreatDoorC5
namespace Go.Proofs.YtgmpmpgfpchbcaaGreatDoor
open Go.RowKit
set_option linter.unusedVariables false
set_option linter.unusedSimpArgs false

theorem tx_beq (a b : List UInt8) : ((tx a).toList == (tx b).toList) = decide (a = b) := by
  rw [tx_list, tx_list, Bool.eq_iff_iff]
  simp
/-- The first value of a key. -/
def getI : List At → List UInt8 → Option (List UInt8)
  | [], _ => none
  | x :: l, key => if x.1 = key then some x.2 else getI l key
theorem get_at : ∀ (k : Nat) (l : List At) (key : List UInt8) (x : At), l[k]? = some x → (∀ j y, j < k → l[j]? = some y → ¬ y.1 = key) → x.1 = key → getI l key = some x.2
  | 0, [], _, _, h, _, _ => by simp at h
  | 0, y :: l, key, x, h, _, e => by
    simp at h
    subst h
    show (if y.1 = key then some y.2 else _) = _
    rw [if_pos e]
  | k + 1, [], _, _, h, _, _ => by simp at h
  | k + 1, y :: l, key, x, h, hn, e => by
    show (if y.1 = key then some y.2 else _) = _
    rw [if_neg (hn 0 y (by omega) rfl)]
    exact get_at k l key x (by simpa using h) (fun j z hj hz => hn (j + 1) z (by omega) (by simpa using hz)) e
theorem get_none : ∀ (l : List At) (key : List UInt8), (∀ (j : Nat) (y : At), l[j]? = some y → ¬ y.1 = key) → getI l key = none
  | [], _, _ => rfl
  | y :: l, key, h => by
    show (if y.1 = key then some y.2 else _) = _
    rw [if_neg (h 0 y rfl)]
    exact get_none l key (fun j z hz => h (j + 1) z (by simpa using hz))
def getV (o : Option (List UInt8)) : Value := match o with | some v => .tuple #[.string (tx v), .bool true] | none => .tuple #[.string ⟨#[]⟩, .bool false]
set_option maxHeartbeats 4000000 in
theorem rget_any (sa : Option Addr) (ca : Nat) (l : List At) (key : List UInt8) (w : World) (hl : Ats w sa ca l) (h1 : (l.length : Int) ≤ 140737488351232) :
    Calls Tryz.prog 10 #[.slice sa l.length ca, .string (tx key)] w fun e w' => e = .returned (getV (getI l key)) ∧ w' = w := by
  have HL : Hid (Ats w sa ca l) := hl
  obtain ⟨n, hn⟩ : ∃ n, l.length = n := ⟨_, rfl⟩
  have ca' : (n : Int) ≤ (ca : Int) := by have := hl.cap; omega
  have HN : Hid (l.length = n) := hn
  rw [hn] at h1 ⊢
  clear hn hl
  go_enter Tryz.func10, Tryz.ntmps10
  go_wp2
  go_loop [6] (fun i => ∃ (k : Nat), k ≤ n ∧ i = .int .i64 k ∧ (∀ j y, j < k → l[j]? = some y → ¬ y.1 = key)) (fun i => n - (intOf i).toNat)
  case atStart => exact ⟨0, Nat.zero_le _, rfl, fun j y hj => by omega⟩
  case round =>
    obtain ⟨k, hk, rfl, hD⟩ := hrel
    have HD : Hid (∀ j y, j < k → l[j]? = some y → ¬ y.1 = key) := hD
    clear hD
    by_cases hlt : k < n
    · obtain ⟨x, hx⟩ : ∃ x, l[k]? = some x := ⟨_, List.getElem?_eq_getElem (by have := HN.out; omega)⟩
      obtain ⟨b, o, hsa, x0, x1⟩ := HL.out.cells k x hx
      subst hsa
      have HXX : Hid (l[k]? = some x) := hx
      have hlt' : (k : Int) < (n : Int) := by omega
      have k0 : (0 : Int) ≤ (k : Int) := by omega
      have hbq := tx_beq x.1 key
      clear hx
      by_cases he : x.1 = key
      · have HE : Hid (getI l key = some x.2) := get_at k l key x HXX.out HD.out he
        rw [decide_eq_true he] at hbq
        clear he
        go_wp2
        go_ret2
        exact ⟨by rw [HE.out]; rfl, rfl⟩
      · have HS : Hid (∀ j y, j < k + 1 → l[j]? = some y → ¬ y.1 = key) := by
          intro j y hj hy
          rcases (show j = k ∨ j < k from by omega) with rfl | h
          · rw [HXX.out] at hy; rw [← Option.some.inj hy]; exact he
          · exact HD.out j y h hy
        rw [decide_eq_false he] at hbq
        clear he
        go_wp2
        go_round
        case rel => exact ⟨k + 1, by omega, by go_num, HS.out⟩
        case measure => simp [intOf]; omega
    · have hge : ¬ ((k : Int) < (n : Int)) := by omega
      have HE : Hid (getI l key = none) := get_none l key (fun j y hy => HD.out j y (by have := (List.getElem?_eq_some_iff.1 hy).1; have := HN.out; omega) hy)
      clear hlt
      go_wp2
      go_ret2
      exact ⟨by rw [HE.out]; rfl, rfl⟩
/-- Texts, as they lie. -/
structure Txs (W : World) (sa : Option Addr) (cap : Nat) (l : List (List UInt8)) : Prop where
  cap : l.length ≤ cap
  cells : ∀ i x, l[i]? = some x → ∃ b off, sa = some ⟨b, off, none⟩ ∧ W.cell? ⟨b, off + i, none⟩ = some (.string (tx x))
end Go.Proofs.YtgmpmpgfpchbcaaGreatDoor
