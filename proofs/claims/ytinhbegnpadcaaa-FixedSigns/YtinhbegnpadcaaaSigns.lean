/- Plain facts on the signs of products and quotients; no program in sight. -/
import Derived.Test.YtinhbegnpadcaaaPlain
namespace Go.Proofs.Ytinhbegnpadcaaa

theorem sg_false (n : Nat) : 0 ≤ sgI false n := by unfold sgI; rw [if_neg (by decide)]; omega
theorem sg_true (n : Nat) : sgI true n ≤ 0 := by unfold sgI; rw [if_pos rfl]; omega
theorem nrm_sg (m : Bool) (n : Nat) : nrm (sgI m n) = sgI m n := nrm_of _ (sg_lo m n)
theorem sz_sg (m : Bool) (n : Nat) : szI (sgI m n) = min n 9223372036854775807 := by
  unfold szI
  rw [nrm_sg]
  unfold sgI
  split <;> omega
/-- A greater divisor gives no greater size. -/
theorem di_less (a b c : Int) (hb : 0 < szI b) (h : szI b ≤ szI c) : szI (diI a c) ≤ szI (diI a b) := by
  unfold diI
  rw [sz_sg, sz_sg]
  have := Nat.div_le_div_left (a := szI a * 1000000) h hb
  omega
theorem sz_of (a : Int) (h : 0 ≤ a) : (szI a : Int) = a := by
  have := nrm_of a (by omega)
  unfold szI
  rw [this]
  omega
/-- The sum of two sizes is at least the first one. -/
theorem ad_sizes (b m : Int) (hb : b ≤ 9223372036854775807) (hm : m ≤ 9223372036854775807) : (szI b : Int) ≤ adI (szI b) (szI m) := by
  have h1 := sz_hi b hb
  have h2 := sz_hi m hm
  unfold adI
  rw [nrm_of _ (by omega), nrm_of _ (by omega)]
  unfold sat
  split <;> (try split) <;> omega
theorem di_sum (a b m : Int) (hb : b ≤ 9223372036854775807) (hm : m ≤ 9223372036854775807) (h0 : b ≠ 0) : szI (diI a (adI (szI b) (szI m))) ≤ szI (diI a b) := by
  refine di_less a b _ (sz_pos b h0) ?_
  have h1 := ad_sizes b m hb hm
  have h2 := sz_of (adI (szI b) (szI m)) (by omega)
  omega

end Go.Proofs.Ytinhbegnpadcaaa
