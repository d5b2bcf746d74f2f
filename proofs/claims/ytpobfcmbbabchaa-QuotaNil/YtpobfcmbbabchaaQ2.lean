/- The program's buckets: a row as it lies; it is filled, taken from, given to, asked. -/
import Derived.Test.YtpobfcmbbabchaaXm
import Derived.Test.YtpobfcmbbabchaaQ1
import Derived.Test.YtpobfcmbbabchaaP2
namespace Go.Proofs.Ytpobfcmbbabchaa
open Go.RowKit
set_option linter.unusedVariables false
set_option linter.unusedSimpArgs false

theorem of_rate {r : Int} (h0 : 0 ≤ r) (h1 : r ≤ 1000000000) : ofI r = r * 1000000 := by
  have e : szI r = r.toNat := by unfold szI; rw [nrm_of _ (by omega)]; omega
  have h : ¬ r < 0 := by omega
  unfold ofI sgI
  rw [e]
  simp only [h, decide_false, Bool.false_eq_true, if_false]
  omega
def capT (x : Int) : Int := if 9223372036854775807 < x then 9223372036854775807 else x
theorem mu_rate {r n : Int} (h0 : 0 ≤ r) (h1 : r ≤ 1000000000) (n0 : 0 ≤ n) (n1 : n ≤ 1125899906842624) : muI (r * 1000000) n = capT (n * r) := by
  obtain ⟨R, rfl⟩ : ∃ R : Nat, r = R := ⟨r.toNat, by omega⟩
  obtain ⟨M, rfl⟩ : ∃ M : Nat, n = M := ⟨n.toNat, by omega⟩
  have e1 : szI ((R : Int) * 1000000) = R * 1000000 := by unfold szI; rw [nrm_of _ (by omega)]; omega
  have e2 : szI (M : Int) = M := by unfold szI; rw [nrm_of _ (by omega)]; omega
  have e3 : R * 1000000 * M / 1000000 = M * R := by
    rw [Nat.mul_right_comm, Nat.mul_comm R M]
    exact Nat.mul_div_cancel _ (by decide)
  have h : ¬ (R : Int) * 1000000 < 0 := by omega
  have k : ¬ (M : Int) < 0 := by omega
  unfold muI sgI capT
  rw [e1, e2, e3]
  simp only [h, k, decide_false, bne_self_eq_false, Bool.false_eq_true, if_false]
  rw [← Int.natCast_mul]
  generalize M * R = x
  split <;> omega
/-- What the program reckons when a bucket is filled. -/
theorem fill_holds {N : Int} {b : Bk} (hb : Bok N b) {now : Int} (hn : b.tim < now) (h1 : now ≤ 1125899906842624) :
    min (adI (tot b) (muI (ofI b.rate) (now - b.tim))) (b.burst * 1000000000) = upTo b (tot b + (now - b.tim) * b.rate) := by
  have := hb.t0
  have hp := Int.mul_nonneg (show 0 ≤ now - b.tim by omega) hb.r0
  have h2 := tot_pos hb
  have h3 := tot_cap hb
  have h4 := hb.b1
  have h5 := hb.b0
  rw [of_rate hb.r0 hb.r1, mu_rate hb.r0 hb.r1 (by omega) (by omega)]
  generalize (now - b.tim) * b.rate = X at hp
  generalize tot b = Y at h2 h3
  unfold capT upTo adI
  split
  · rw [nrm_of _ (by omega), nrm_of _ (by omega)]
    unfold sat
    split
    · split <;> omega
    · split <;> split <;> omega
  · rw [nrm_of _ (by omega), nrm_of _ (by omega)]
    unfold sat
    split
    · split <;> omega
    · split <;> split <;> omega
/-- A tenant's row. -/
def row8 (nm : List UInt8) (r bu ho ti tk rf cs : Int) : Obj := .cells #[.string (tx nm), .int .i64 r, .int .i64 bu, .int .i64 ho, .int .i64 ti, .int .i64 tk, .int .i64 rf, .int .i64 cs] 85 (0, 0)
def pkO (b : Bk) : Obj := row8 b.nm b.rate (b.burst * 1000000000) (tot b) b.tim b.tk b.rf b.cs
theorem row8_cells {w : World} {p : Nat} {nm : List UInt8} {r bu ho ti tk rf cs : Int} (h : w.heap[p]? = some (row8 nm r bu ho ti tk rf cs)) :
    w.cell? ⟨p, 0, none⟩ = some (.string (tx nm)) ∧ w.cell? ⟨p, 1, none⟩ = some (.int .i64 r) ∧ w.cell? ⟨p, 2, none⟩ = some (.int .i64 bu) ∧ w.cell? ⟨p, 3, none⟩ = some (.int .i64 ho) ∧ w.cell? ⟨p, 4, none⟩ = some (.int .i64 ti) ∧ w.cell? ⟨p, 5, none⟩ = some (.int .i64 tk) ∧ w.cell? ⟨p, 6, none⟩ = some (.int .i64 rf) ∧ w.cell? ⟨p, 7, none⟩ = some (.int .i64 cs) :=
  ⟨by rw [cell_of_row _ _ _ _ _ _ h]; rfl, by rw [cell_of_row _ _ _ _ _ _ h]; rfl, by rw [cell_of_row _ _ _ _ _ _ h]; rfl, by rw [cell_of_row _ _ _ _ _ _ h]; rfl, by rw [cell_of_row _ _ _ _ _ _ h]; rfl, by rw [cell_of_row _ _ _ _ _ _ h]; rfl, by rw [cell_of_row _ _ _ _ _ _ h]; rfl, by rw [cell_of_row _ _ _ _ _ _ h]; rfl⟩
theorem row8_frozen {w : World} {p i : Nat} {nm : List UInt8} {r bu ho ti tk rf cs : Int} (h : w.heap[p]? = some (row8 nm r bu ho ti tk rf cs)) : w.frozen? ⟨p, i, none⟩ = false := by
  unfold row8 at h
  simp [World.frozen?, h]
theorem row8_ho {w : World} {p : Nat} {nm : List UInt8} {r bu ho ti tk rf cs : Int} (h : w.heap[p]? = some (row8 nm r bu ho ti tk rf cs)) (x : Int) : (w.setCell ⟨p, 3, none⟩ (.int .i64 x)).heap[p]? = some (row8 nm r bu x ti tk rf cs) := by
  rw [row_set _ h]; rfl
theorem row8_ti {w : World} {p : Nat} {nm : List UInt8} {r bu ho ti tk rf cs : Int} (h : w.heap[p]? = some (row8 nm r bu ho ti tk rf cs)) (x : Int) : (w.setCell ⟨p, 4, none⟩ (.int .i64 x)).heap[p]? = some (row8 nm r bu ho x tk rf cs) := by
  rw [row_set _ h]; rfl
theorem row8_tk {w : World} {p : Nat} {nm : List UInt8} {r bu ho ti tk rf cs : Int} (h : w.heap[p]? = some (row8 nm r bu ho ti tk rf cs)) (x : Int) : (w.setCell ⟨p, 5, none⟩ (.int .i64 x)).heap[p]? = some (row8 nm r bu ho ti x rf cs) := by
  rw [row_set _ h]; rfl
theorem row8_rf {w : World} {p : Nat} {nm : List UInt8} {r bu ho ti tk rf cs : Int} (h : w.heap[p]? = some (row8 nm r bu ho ti tk rf cs)) (x : Int) : (w.setCell ⟨p, 6, none⟩ (.int .i64 x)).heap[p]? = some (row8 nm r bu ho ti tk x cs) := by
  rw [row_set _ h]; rfl
theorem row8_cs {w : World} {p : Nat} {nm : List UInt8} {r bu ho ti tk rf cs : Int} (h : w.heap[p]? = some (row8 nm r bu ho ti tk rf cs)) (x : Int) : (w.setCell ⟨p, 7, none⟩ (.int .i64 x)).heap[p]? = some (row8 nm r bu ho ti tk rf x) := by
  rw [row_set _ h]; rfl
set_option maxRecDepth 20000 in
set_option maxHeartbeats 4000000 in
theorem badd_any (p : Nat) (nm : List UInt8) (r bu ho ti tk rf cs n : Int) (w : World) (h : w.heap[p]? = some (row8 nm r bu ho ti tk rf cs)) (h1 : ho ≤ 9223372036854775807) (h2 : n ≤ 9223372036854775807) :
    Calls Try.prog 39 #[.pointer (some ⟨p, 1, none⟩), .int .i64 n] w fun e w' => e = .returned (.tuple #[]) ∧ w'.heap[p]? = some (row8 nm r bu (min (adI ho n) bu) ti tk rf cs) ∧ Kp p w w' := by
  obtain ⟨c0, c1, c2, c3, c4, c5, c6, c7⟩ := row8_cells h
  have f3 := row8_frozen (i := 3) h
  have HH : Hid (w.heap[p]? = some (row8 nm r bu ho ti tk rf cs)) := h
  obtain ⟨X, hX⟩ : ∃ X, adI ho n = X := ⟨_, rfl⟩
  have HX : Hid (adI ho n = X) := hX
  rw [hX]
  clear h hX
  go_enter Try.func39, Try.ntmps39
  go_region_with (go_at_call 48; refine (add_any _ _ _ h1 h2).mono ?_; rintro e w' ⟨rfl, rfl⟩; rw [HX.out])
  all_goals
    go_end0
    refine ⟨rfl, ?_, ?_⟩
    · rw [show min X bu = if bu < X then bu else X by split <;> omega]
      exact row8_ho (by exact HH.out) _
    · first
      | exact ((Kp.refl p w).drewN _).setCell 3 _
      | exact (((Kp.refl p w).drewN _).setCell 3 _).drewN _
      | exact (Kp.refl p w).setCell 3 _
theorem covers_any (p : Nat) (nm : List UInt8) (r bu ho ti tk rf cs n : Int) (w : World) (h : w.heap[p]? = some (row8 nm r bu ho ti tk rf cs)) (h1 : 0 ≤ n) (h2 : n ≤ 1000000000) :
    Calls Try.prog 35 #[.pointer (some ⟨p, 1, none⟩), .int .i64 n] w fun e w' => e = .returned (.bool (decide (n * 1000000000 ≤ ho))) ∧ w' = w := by
  obtain ⟨c0, c1, c2, c3, c4, c5, c6, c7⟩ := row8_cells h
  clear h
  go_enter Try.func35, Try.ntmps35
  go_wp2
  go_ret
  exact ⟨by simp, rfl⟩
theorem btake_any (p : Nat) (nm : List UInt8) (r bu ho ti tk rf cs n : Int) (w : World) (h : w.heap[p]? = some (row8 nm r bu ho ti tk rf cs)) (h1 : 0 ≤ n) (h2 : n ≤ 1000000000) (h3 : n * 1000000000 ≤ ho) (h4 : ho ≤ 1000000000000000000) :
    Calls Try.prog 36 #[.pointer (some ⟨p, 1, none⟩), .int .i64 n] w fun e w' => e = .returned (.tuple #[]) ∧ w'.heap[p]? = some (row8 nm r bu (ho - n * 1000000000) ti tk rf cs) ∧ Kp p w w' := by
  obtain ⟨c0, c1, c2, c3, c4, c5, c6, c7⟩ := row8_cells h
  have f3 := row8_frozen (i := 3) h
  have HH : Hid (w.heap[p]? = some (row8 nm r bu ho ti tk rf cs)) := h
  clear h
  go_enter Try.func36, Try.ntmps36
  go_wp2
  go_end0
  exact ⟨rfl, row8_ho HH.out _, (Kp.refl p w).setCell 3 _⟩
theorem whole_any (p : Nat) (nm : List UInt8) (r bu ho ti tk rf cs : Int) (w : World) (h : w.heap[p]? = some (row8 nm r bu ho ti tk rf cs)) (h0 : 0 ≤ ho) (h4 : ho ≤ 1000000000000000000) :
    Calls Try.prog 23 #[.pointer (some ⟨p, 1, none⟩)] w fun e w' => e = .returned (.int .i64 (ho / 1000000000)) ∧ w' = w := by
  obtain ⟨c0, c1, c2, c3, c4, c5, c6, c7⟩ := row8_cells h
  clear h
  go_enter Try.func23, Try.ntmps23
  go_wp2
  go_ret
  exact ⟨ret_int (by first | rfl | omega | (rw [Int.tdiv_eq_ediv_of_nonneg h0])), rfl⟩
end Go.Proofs.Ytpobfcmbbabchaa
