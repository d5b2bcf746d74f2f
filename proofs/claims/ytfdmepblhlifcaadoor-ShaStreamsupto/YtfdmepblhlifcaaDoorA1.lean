/- Turning numbers, and one step of the state. -/
import Derived.Test.YtfdmepblhlifcaaDoorProg
import Derived.WalkKit
import Derived.WalkSpells
import Derived.WalkLawsBesides
import Derived.Handy
import Derived.Below
import Derived.BigQuiet
import Derived.Deep.RegionWith
import Derived.BigRegion
import Derived.WalkSmall
namespace Go.Proofs.YtfdmepblhlifcaaDoor
open Go.RowKit
set_option linter.unusedVariables false

theorem ret_int {k : IntKind} {a b : Int} (h : a = b) : Ending.returned (.int k a) = .returned (.int k b) := by rw [h]

theorem and31 (i : Int) (i0 : 1 ≤ i) (i1 : i ≤ 31) : bits BinOp.and IntKind.u64 (IntKind.u64.wrap (-i)) 31 = 32 - i := by
  have all : ∀ k : Fin 31, bits BinOp.and IntKind.u64 (IntKind.u64.wrap (-((k.val : Int) + 1))) 31 = 32 - ((k.val : Int) + 1) := by decide +kernel
  have := all ⟨(i - 1).toNat, by omega⟩
  simp only at this
  rwa [show ((i - 1).toNat : Int) + 1 = i by omega] at this

theorem bits_u32 (op : BinOp) (x y : Int) : 0 ≤ bits op .u32 x y ∧ bits op .u32 x y < 4294967296 := by
  unfold bits IntKind.wrap
  simp only [IntKind.signed, IntKind.bits, Bool.false_and]
  constructor
  · exact Int.emod_nonneg _ (by decide)
  · exact Int.emod_lt_of_pos _ (by decide)

/-- A number turned to the right. -/
def rotI (x i : Int) : Int := bits .or .u32 (x * 2 ^ (32 - i).toNat % 4294967296) (x / 2 ^ i.toNat)
def turnedI (x i j k : Int) : Int := bits .xor .u32 (bits .xor .u32 (rotI x i) (rotI x j)) (rotI x k)
def mixedI (x i j k : Int) : Int := bits .xor .u32 (bits .xor .u32 (rotI x i) (rotI x j)) (x / 2 ^ k.toNat)
theorem rot_bd (x i : Int) : 0 ≤ rotI x i ∧ rotI x i < 4294967296 := bits_u32 _ _ _
theorem turned_bd (x i j k : Int) : 0 ≤ turnedI x i j k ∧ turnedI x i j k < 4294967296 := bits_u32 _ _ _
theorem mixed_bd (x i j k : Int) : 0 ≤ mixedI x i j k ∧ mixedI x i j k < 4294967296 := bits_u32 _ _ _

set_option maxHeartbeats 400000 in
theorem rot_any (x i : Int) (w : World) (h0 : 0 ≤ x) (h1 : x < 4294967296) (i0 : 1 ≤ i) (i1 : i ≤ 31) : Calls Tryd.prog 53 #[.int .u32 x, .int .i64 (-i)] w fun e w' => e = .returned (.int .u32 (rotI x i)) ∧ w' = w := by
  have hk := and31 i i0 i1
  have h3 : (32 : Int) - (32 - i) = i := by omega
  go_enter Tryd.func53, Tryd.ntmps53
  go_wp2
  go_ret
  exact ⟨rfl, rfl⟩

set_option maxHeartbeats 400000 in
theorem turned_any (x i j k : Int) (w : World) (h0 : 0 ≤ x) (h1 : x < 4294967296) (i0 : 1 ≤ i) (i1 : i ≤ 31) (j0 : 1 ≤ j) (j1 : j ≤ 31) (k0 : 1 ≤ k) (k1 : k ≤ 31) : Calls Tryd.prog 52 #[.int .u32 x, .int .i64 i, .int .i64 j, .int .i64 k] w fun e w' => e = .returned (.int .u32 (turnedI x i j k)) ∧ w' = w := by
  have b1 := rot_bd x i
  have b2 := rot_bd x j
  have b3 := rot_bd x k
  go_enter Tryd.func52, Tryd.ntmps52
  go_wp2_with fail
  refine (rot_any x i w h0 h1 i0 i1).mono ?_
  rintro e w' ⟨rfl, hw⟩
  rw [hw]; clear hw w'
  go_wp2_with fail
  refine (rot_any x j w h0 h1 j0 j1).mono ?_
  rintro e w' ⟨rfl, hw⟩
  rw [hw]; clear hw w'
  go_wp2_with fail
  refine (rot_any x k w h0 h1 k0 k1).mono ?_
  rintro e w' ⟨rfl, hw⟩
  rw [hw]; clear hw w'
  go_wp2_with fail
  go_ret
  exact ⟨rfl, rfl⟩

set_option maxHeartbeats 400000 in
theorem mixed_any (x i j k : Int) (w : World) (h0 : 0 ≤ x) (h1 : x < 4294967296) (i0 : 1 ≤ i) (i1 : i ≤ 31) (j0 : 1 ≤ j) (j1 : j ≤ 31) (k0 : 1 ≤ k) (k1 : k ≤ 31) : Calls Tryd.prog 51 #[.int .u32 x, .int .i64 i, .int .i64 j, .int .i64 k] w fun e w' => e = .returned (.int .u32 (mixedI x i j k)) ∧ ∃ m, w' = w.drewN m := by
  have b1 := rot_bd x i
  have b2 := rot_bd x j
  go_enter Tryd.func51, Tryd.ntmps51
  go_wp2_with fail
  go_quiet (first | (go_at_call_of 53 (-i); exact Calls.quiet_of_same (rot_any x i _ h0 h1 i0 i1)) | (go_at_call_of 53 (-j); exact Calls.quiet_of_same (rot_any x j _ h0 h1 j0 j1)))
  go_wp2
  go_ret
  exact ⟨rfl, _, rfl⟩

def chI (e f g : Int) : Int := bits .xor .u32 (bits .and .u32 e f) (bits .and .u32 (bits .xor .u32 IntKind.u32.max e) g)
def mjI (a b c : Int) : Int := bits .xor .u32 (bits .xor .u32 (bits .and .u32 a b) (bits .and .u32 a c)) (bits .and .u32 b c)
/-- One step of the state. -/
def turnI : List Int → Int → List Int
  | [a, b, c, d, e, f, g, h], kw =>
    [(h + turnedI e 6 11 25 + chI e f g + kw + (turnedI a 2 13 22 + mjI a b c)) % 4294967296, a, b, c, (d + (h + turnedI e 6 11 25 + chI e f g + kw)) % 4294967296, e, f, g]
  | l, _ => l

/-- Numbers as they lie in an array. -/
def u32s (l : List Int) : Array Value := (l.map (Value.int .u32)).toArray
def u8s (l : List Int) : Array Value := (l.map (Value.int .u8)).toArray
/-- Numbers of 32 bits. -/
def W32 (l : List Int) : Prop := ∀ x ∈ l, 0 ≤ x ∧ x < 4294967296
def Byt (l : List Int) : Prop := ∀ x ∈ l, 0 ≤ x ∧ x ≤ 255

set_option maxHeartbeats 1000000 in
theorem turn_any (a b c d e f g q kw : Int) (w : World) (hs : W32 [a, b, c, d, e, f, g, q]) (k0 : 0 ≤ kw) (k1 : kw < 4294967296) :
    Calls Tryd.prog 49 #[.agg #[.int .u32 a, .int .u32 b, .int .u32 c, .int .u32 d, .int .u32 e, .int .u32 f, .int .u32 g, .int .u32 q], .int .u32 kw] w fun en w' => en = .returned (.agg (u32s (turnI [a, b, c, d, e, f, g, q] kw))) ∧ Below w.heap.size w w' := by
  have b1 := turned_bd e 6 11 25
  have b2 := turned_bd a 2 13 22
  have ha := hs a (by simp)
  have hb := hs b (by simp)
  have hc := hs c (by simp)
  have hd := hs d (by simp)
  have he := hs e (by simp)
  have hf := hs f (by simp)
  have hg := hs g (by simp)
  have hh := hs q (by simp)
  clear hs
  go_enter Tryd.func49, Tryd.ntmps49
  go_wp2_with fail
  go_quiet (fail)
  go_wp2_with fail
  refine (turned_any e 6 11 25 _ he.1 he.2 (by decide) (by decide) (by decide) (by decide) (by decide) (by decide)).mono ?_
  rintro en w1 ⟨rfl, hw⟩
  rw [hw]; clear hw w1
  go_wp2_with fail
  refine (turned_any a 2 13 22 _ ha.1 ha.2 (by decide) (by decide) (by decide) (by decide) (by decide) (by decide)).mono ?_
  rintro en w1 ⟨rfl, hw⟩
  rw [hw]; clear hw w1
  go_wp2_with fail
  refine bodyPost_ret (v := .agg (u32s (turnI [a, b, c, d, e, f, g, q] kw))) (by simp [results, Tryd.results49, go_sem, turnI, u32s, chI, mjI]) rfl ⟨rfl, ?_⟩
  iterate 8 refine Below.setCell ?_ (by simp) _
  refine below_drewN ?_ _
  iterate 2 refine Below.alloc ?_ (by simp) _
  exact Below.refl _ _
end Go.Proofs.YtfdmepblhlifcaaDoor
