/- Digits, one by one. -/
import Derived.Test.YtfdmepblhlifcaaDoorB1
namespace Go.Proofs.YtfdmepblhlifcaaDoor
open Go.RowKit
set_option linter.unusedVariables false
set_option linter.unusedSimpArgs false

def valI (x : Int) : Int := if 48 ≤ x ∧ x ≤ 57 then x - 48 else if 97 ≤ x ∧ x ≤ 102 then x - 87 else if 65 ≤ x ∧ x ≤ 70 then x - 55 else -1
theorem val_bd (x : Int) : -1 ≤ valI x ∧ valI x ≤ 15 := by unfold valI; split; omega; split; omega; split <;> omega

def dvI (x : Int) : Int := if valI x < 0 then 0 else valI x
def dkI (x : Int) : Bool := decide (0 ≤ valI x)
theorem ret_dig {x a c : Int} {b d : Bool} (h1 : a = c) (h2 : b = d) : Ending.returned (.tuple #[.int .u8 a, .bool b]) = .returned (.tuple #[.int .u8 c, .bool d]) := by rw [h1, h2]
theorem digit_any (x : Int) (w : World) (x0 : 0 ≤ x) (x1 : x ≤ 255) :
    Calls Tryd.prog 35 #[.int .u8 x] w fun e w' => e = .returned (.tuple #[.int .u8 (dvI x), .bool (dkI x)]) ∧ w' = w := by
  by_cases c1 : 48 ≤ x ∧ x ≤ 57
  · have hv : valI x = x - 48 := by unfold valI; rw [if_pos c1]
    obtain ⟨a1, a2⟩ := c1
    have HV : Hid _ := hv
    clear hv
    go_enter Tryd.func35, Tryd.ntmps35
    go_wp2
    go_ret2
    exact ⟨ret_dig (x := x) (by unfold dvI; rw [HV.out, if_neg (by omega)]; try omega) (by unfold dkI; rw [HV.out, decide_eq_true (by omega)]), rfl⟩
  · by_cases c2 : 97 ≤ x ∧ x ≤ 102
    · have hv : valI x = x - 87 := by unfold valI; rw [if_neg c1, if_pos c2]
      obtain ⟨a1, a2⟩ := c2
      have b1 : ¬ x ≤ 57 := by omega
      have HV : Hid _ := hv
      clear hv c1
      go_enter Tryd.func35, Tryd.ntmps35
      go_wp2
      go_ret2
      exact ⟨ret_dig (x := x) (by unfold dvI; rw [HV.out, if_neg (by omega)]; try omega) (by unfold dkI; rw [HV.out, decide_eq_true (by omega)]), rfl⟩
    · by_cases c3 : 65 ≤ x ∧ x ≤ 70
      · have hv : valI x = x - 55 := by unfold valI; rw [if_neg c1, if_neg c2, if_pos c3]
        obtain ⟨a1, a2⟩ := c3
        have b1 : ¬ x ≤ 57 := by omega
        have b2 : ¬ 97 ≤ x := by omega
        have HV : Hid _ := hv
        clear hv c1 c2
        go_enter Tryd.func35, Tryd.ntmps35
        go_wp2
        go_ret2
        exact ⟨ret_dig (x := x) (by unfold dvI; rw [HV.out, if_neg (by omega)]; try omega) (by unfold dkI; rw [HV.out, decide_eq_true (by omega)]), rfl⟩
      · have hv : valI x = -1 := by unfold valI; rw [if_neg c1, if_neg c2, if_neg c3]
        have HV : Hid _ := hv
        have h : x < 48 ∨ (57 < x ∧ x < 65) ∨ (70 < x ∧ x < 97) ∨ 102 < x := by omega
        clear hv c1 c2 c3
        rcases h with h | ⟨h1, h2⟩ | ⟨h1, h2⟩ | h
        · have b1 : ¬ 48 ≤ x := by omega
          have b2 : ¬ 97 ≤ x := by omega
          have b3 : ¬ 65 ≤ x := by omega
          go_enter Tryd.func35, Tryd.ntmps35
          go_wp2
          go_ret2
          exact ⟨ret_dig (x := x) (by unfold dvI; rw [HV.out]; rfl) (by unfold dkI; rw [HV.out]; rfl), rfl⟩
        · have b0 : 48 ≤ x := by omega
          have b1 : ¬ x ≤ 57 := by omega
          have b2 : ¬ 97 ≤ x := by omega
          have b3 : ¬ 65 ≤ x := by omega
          go_enter Tryd.func35, Tryd.ntmps35
          go_wp2
          go_ret2
          exact ⟨ret_dig (x := x) (by unfold dvI; rw [HV.out]; rfl) (by unfold dkI; rw [HV.out]; rfl), rfl⟩
        · have b0 : 48 ≤ x := by omega
          have b1 : ¬ x ≤ 57 := by omega
          have b2 : ¬ 97 ≤ x := by omega
          have b3 : 65 ≤ x := by omega
          have b4 : ¬ x ≤ 70 := by omega
          go_enter Tryd.func35, Tryd.ntmps35
          go_wp2
          go_ret2
          exact ⟨ret_dig (x := x) (by unfold dvI; rw [HV.out]; rfl) (by unfold dkI; rw [HV.out]; rfl), rfl⟩
        · have b0 : 48 ≤ x := by omega
          have b1 : ¬ x ≤ 57 := by omega
          have b2 : 97 ≤ x := by omega
          have b5 : ¬ x ≤ 102 := by omega
          have b3 : 65 ≤ x := by omega
          have b4 : ¬ x ≤ 70 := by omega
          go_enter Tryd.func35, Tryd.ntmps35
          go_wp2
          go_ret2
          exact ⟨ret_dig (x := x) (by unfold dvI; rw [HV.out]; rfl) (by unfold dkI; rw [HV.out]; rfl), rfl⟩
theorem rdigit_any (x : Int) (w : World) (x0 : 0 ≤ x) (x1 : x ≤ 255) :
    Calls Tryd.prog 36 #[.int .u8 x] w fun e w' => e = .returned (.int .i64 (valI x)) ∧ w' = w := by
  by_cases c1 : 48 ≤ x ∧ x ≤ 57
  · have hv : valI x = x - 48 := by unfold valI; rw [if_pos c1]
    obtain ⟨a1, a2⟩ := c1
    have HV : Hid _ := hv
    clear hv
    go_enter Tryd.func36, Tryd.ntmps36
    go_wp2
    go_ret
    exact ⟨ret_int (by rw [HV.out]), rfl⟩
  · by_cases c2 : 97 ≤ x ∧ x ≤ 102
    · have hv : valI x = x - 87 := by unfold valI; rw [if_neg c1, if_pos c2]
      obtain ⟨a1, a2⟩ := c2
      have b1 : ¬ x ≤ 57 := by omega
      have HV : Hid _ := hv
      clear hv c1
      go_enter Tryd.func36, Tryd.ntmps36
      go_wp2
      go_ret
      exact ⟨ret_int (by rw [HV.out]; omega), rfl⟩
    · by_cases c3 : 65 ≤ x ∧ x ≤ 70
      · have hv : valI x = x - 55 := by unfold valI; rw [if_neg c1, if_neg c2, if_pos c3]
        obtain ⟨a1, a2⟩ := c3
        have b1 : ¬ x ≤ 57 := by omega
        have b2 : ¬ 97 ≤ x := by omega
        have HV : Hid _ := hv
        clear hv c1 c2
        go_enter Tryd.func36, Tryd.ntmps36
        go_wp2
        go_ret
        exact ⟨ret_int (by rw [HV.out]; omega), rfl⟩
      · have hv : valI x = -1 := by unfold valI; rw [if_neg c1, if_neg c2, if_neg c3]
        have HV : Hid _ := hv
        have h : x < 48 ∨ (57 < x ∧ x < 65) ∨ (70 < x ∧ x < 97) ∨ 102 < x := by omega
        clear hv c1 c2 c3
        rcases h with h | ⟨h1, h2⟩ | ⟨h1, h2⟩ | h
        · have b1 : ¬ 48 ≤ x := by omega
          have b2 : ¬ 97 ≤ x := by omega
          have b3 : ¬ 65 ≤ x := by omega
          go_enter Tryd.func36, Tryd.ntmps36
          go_wp2
          go_ret
          exact ⟨by rw [HV.out]; rfl, rfl⟩
        · have b0 : 48 ≤ x := by omega
          have b1 : ¬ x ≤ 57 := by omega
          have b2 : ¬ 97 ≤ x := by omega
          have b3 : ¬ 65 ≤ x := by omega
          go_enter Tryd.func36, Tryd.ntmps36
          go_wp2
          go_ret
          exact ⟨by rw [HV.out]; rfl, rfl⟩
        · have b0 : 48 ≤ x := by omega
          have b1 : ¬ x ≤ 57 := by omega
          have b2 : ¬ 97 ≤ x := by omega
          have b3 : 65 ≤ x := by omega
          have b4 : ¬ x ≤ 70 := by omega
          go_enter Tryd.func36, Tryd.ntmps36
          go_wp2
          go_ret
          exact ⟨by rw [HV.out]; rfl, rfl⟩
        · have b0 : 48 ≤ x := by omega
          have b1 : ¬ x ≤ 57 := by omega
          have b2 : 97 ≤ x := by omega
          have b5 : ¬ x ≤ 102 := by omega
          have b3 : 65 ≤ x := by omega
          have b4 : ¬ x ≤ 70 := by omega
          go_enter Tryd.func36, Tryd.ntmps36
          go_wp2
          go_ret
          exact ⟨by rw [HV.out]; rfl, rfl⟩

/-! ### What a text says -/
def atI (l : List UInt8) (j : Nat) : Int := ((l.getD j 0).toNat : Int)
def hiI (l : List UInt8) (j : Nat) : Int := valI (atI l (2 * j))
def loI (l : List UInt8) (j : Nat) : Int := valI (atI l (2 * j + 1))
def outI (l : List UInt8) (k : Nat) : List Int := (List.range k).map fun j => 16 * hiI l j + loI l j
def RightI (l : List UInt8) (k : Nat) : Prop := ∀ j, j < k → 0 ≤ hiI l j ∧ 0 ≤ loI l j
/-- What is read of a text: a digest and no error; or zeros and the error. -/
def Read (l : List UInt8) (d : List Int) (e : Int) : Prop := (l.length = 64 ∧ RightI l 32 ∧ d = outI l 32 ∧ e = 0) ∨ (¬ (l.length = 64 ∧ RightI l 32) ∧ d = List.replicate 32 0 ∧ e = 3)
theorem Read.one {l : List UInt8} {d d' : List Int} {e e' : Int} (h : Read l d e) (h' : Read l d' e') : d = d' ∧ e = e' := by
  rcases h with ⟨a, b, rfl, rfl⟩ | ⟨a, rfl, rfl⟩ <;> rcases h' with ⟨a', b', rfl, rfl⟩ | ⟨a', rfl, rfl⟩
  · exact ⟨rfl, rfl⟩
  · exact (a' ⟨a, b⟩).elim
  · exact (a ⟨a', b'⟩).elim
  · exact ⟨rfl, rfl⟩
theorem at_bd (l : List UInt8) (j : Nat) : 0 ≤ atI l j ∧ atI l j ≤ 255 := by
  unfold atI
  have := (l.getD j 0).toNat_lt
  omega
theorem out_len (l : List UInt8) (k : Nat) : (outI l k).length = k := by simp [outI]
theorem out_snoc (l : List UInt8) (k : Nat) : outI l (k + 1) = outI l k ++ [16 * hiI l k + loI l k] := by simp [outI, List.range_succ]
theorem run_index_str (l : List UInt8) (k : Nat) (h : k < l.length) (w : World) : (Instr.index 9 (.string ⟨l.toArray⟩) (.int .i64 k)).run Tryd.prog w = .ok (.int .u8 (atI l k)) w := by
  have hn : (k : Int) < (l.length : Int) := by omega
  simp [Instr.index, run_underlying Tryd.underlying9, asIntOf, go_sem, atI, hn]
  have e : (⟨l.toArray⟩ : ByteArray)[k]? = some l[k] := by
    rw [getElem?_pos _ _ (by show k < l.toArray.size; simpa using h)]
    rfl
  rw [e, List.getElem?_eq_getElem h]
  rfl
theorem results_pair {fn : Func} {p q : Tmp} {ty : TypeId} (h : fn.results = #[.cell p ty, .tmp q]) (tmps : Array Value) (w : World) (g : Nat) (cs : Array Value) (v : Value)
    (hp : tmps.getD p undef = .pointer (some ⟨g, 0, none⟩)) (hq : tmps.getD q undef = v) (hl : (loadVar ty ⟨g, 0, none⟩).run Tryd.prog w = .ok (.agg cs) w) :
    (results fn tmps).run Tryd.prog w = .ok (.tuple #[.agg cs, v]) w := by
  have hp' : tmps[p]?.getD undef = .pointer (some ⟨g, 0, none⟩) := by simpa using hp
  have hq' : tmps[q]?.getD undef = v := by simpa using hq
  simp [results, h, hp', hq', asAddr, hl]
end Go.Proofs.YtfdmepblhlifcaaDoor
