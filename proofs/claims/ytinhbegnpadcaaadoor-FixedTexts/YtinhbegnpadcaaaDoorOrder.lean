/- Plain facts on order and signs of fixed numbers; no program in sight. -/
import Derived.Test.YtinhbegnpadcaaaDoorPlain
namespace Go.Proofs.YtinhbegnpadcaaaDoor

/-- Which of two numbers, as they are taken, is less. -/
def cmI (a b : Int) : Int := if nrm a < nrm b then -1 else if nrm b < nrm a then 1 else 0

theorem cm_bd (a b : Int) : -1 ≤ cmI a b ∧ cmI a b ≤ 1 := by unfold cmI; split <;> (try split) <;> omega
theorem cm_anti (a b : Int) : cmI b a = -cmI a b := by unfold cmI; split <;> (try split) <;> (try split) <;> omega
theorem cm_keeps (a b c : Int) (h : cmI a b < 0) : adI a c ≤ adI b c := by
  have h1 : nrm a < nrm b := by
    unfold cmI at h
    split at h
    · assumption
    · split at h <;> omega
  unfold adI sat
  split <;> (try split) <;> (try split) <;> (try split) <;> omega
theorem mu_comm (a b : Int) : muI b a = muI a b := by
  unfold muI
  rw [Nat.mul_comm]
  congr 1
  cases decide (a < 0) <;> cases decide (b < 0) <;> rfl
theorem sz_neg (a : Int) (h : a ≤ 9223372036854775807) : min (szI a) 9223372036854775807 = szI a := by
  have := sz_hi a h
  omega
theorem mu_one (a : Int) (h : a ≤ 9223372036854775807) : muI a 1000000 = nrm a := by
  unfold muI
  rw [show szI 1000000 = 1000000 from by decide, Nat.mul_div_cancel _ (by omega : 0 < 1000000), show decide ((1000000 : Int) < 0) = false from by decide]
  have h1 := sz_eq a
  have h2 := nrm_neg a
  unfold sgI
  rw [sz_neg a h]
  by_cases c : a < 0
  · simp [c]
    rw [h1, if_pos (h2.2 c)]
    omega
  · simp [c]
    rw [h1, if_neg (by omega)]
theorem nrm_negnrm (a : Int) (h : a ≤ 9223372036854775807) : nrm (-nrm a) = -nrm a := by
  have := nrm_lo a; have := nrm_hi a h
  exact nrm_of _ (by omega)

end Go.Proofs.YtinhbegnpadcaaaDoor
