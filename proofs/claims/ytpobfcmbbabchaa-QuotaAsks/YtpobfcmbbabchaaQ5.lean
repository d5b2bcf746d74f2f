/- The program's calls at a time: Take, Give, Tokens, Next. -/
import Derived.Test.YtpobfcmbbabchaaQ4
import Derived.Test.YtpobfcmbbabchaaF1
namespace Go.Proofs.Ytpobfcmbbabchaa
open Go.RowKit
set_option linter.unusedVariables false
set_option linter.unusedSimpArgs false

theorem ptime_any (n : Int) (w : World) : Calls Try.prog 32 #[.int .i64 n] w fun e w' => e = .returned (.bool (timI n)) ∧ w' = w := by
  by_cases h1 : 0 ≤ n
  · by_cases h2 : n ≤ 1125899906842624
    · have e : timI n = true := by unfold timI; simp [h1, h2]
      rw [e]
      go_enter Try.func32, Try.ntmps32
      go_wp2
      go_ret
      exact ⟨rfl, rfl⟩
    · have e : timI n = false := by unfold timI; simp [h2]
      have h2' : ¬ n ≤ 1125899906842624 := h2
      rw [e]
      go_enter Try.func32, Try.ntmps32
      go_wp2
      go_ret
      exact ⟨rfl, rfl⟩
  · have e : timI n = false := by unfold timI; simp [h1]
    have h1' : n < 0 := by omega
    rw [e]
    go_enter Try.func32, Try.ntmps32
    go_wp2
    go_ret
    exact ⟨rfl, rfl⟩
set_option maxRecDepth 20000 in
set_option maxHeartbeats 4000000 in
theorem filled_arg (T : Nat) (nm : List UInt8) (cost now : Int) (w : World) (h : okA cost now = false) :
    Calls Try.prog 22 #[.pointer (some ⟨T, 0, none⟩), .string (tx nm), .int .i64 cost, .int .i64 now] w fun e w' => e = .returned (.tuple #[.pointer none, .int .i64 1]) ∧ w' = w := by
  have HT : Hid (∀ W, Calls Try.prog 32 #[.int .i64 now] W fun e w' => e = .returned (.bool (timI now)) ∧ w' = W) := fun W => ptime_any now W
  rcases okA_no h with c1 | ⟨c1, c2⟩ | ⟨c1, c2, c3⟩
  · clear h HT
    go_enter Try.func22, Try.ntmps22
    go_wp2_with fail
    go_ret2
    exact ⟨rfl, rfl⟩
  · clear h HT
    go_enter Try.func22, Try.ntmps22
    go_wp2_with fail
    go_ret2
    exact ⟨rfl, rfl⟩
  · rw [c3] at HT
    have c2' : ¬ 1000000000 < cost := by omega
    clear h c3
    go_enter Try.func22, Try.ntmps22
    go_wp2_with (go_at_call 32; refine (HT.out _).mono ?_; rintro e w' ⟨rfl, hw⟩; rw [hw]; clear hw)
    go_ret2
    exact ⟨rfl, rfl⟩
set_option maxRecDepth 20000 in
set_option maxHeartbeats 4000000 in
theorem filled_none (T : Nat) (sv : Value) (m : List (Nat × Bk)) (nm : List UInt8) (cost now : Int) (w : World) (h : PR w T sv m) (hl : m.length ≤ 16) (ha : okA cost now = true) (hf : fnd m nm = none) :
    Calls Try.prog 22 #[.pointer (some ⟨T, 0, none⟩), .string (tx nm), .int .i64 cost, .int .i64 now] w fun e w' => e = .returned (.tuple #[.pointer none, .int .i64 5]) ∧ w' = w := by
  have HT : Hid (∀ W, Calls Try.prog 32 #[.int .i64 now] W fun e w' => e = .returned (.bool (timI now)) ∧ w' = W) := fun W => ptime_any now W
  rw [okA_yes ha] at HT
  have ha' : 0 ≤ cost ∧ cost ≤ 1000000000 := by unfold okA at ha; simp at ha; omega
  obtain ⟨c1, c2⟩ := ha'
  have HF : Hid (∀ W, W = w → Calls Try.prog 31 #[.pointer (some ⟨T, 0, none⟩), .string (tx nm)] W fun e w' => e = .returned (.tuple #[.pointer none, .int .i64 5]) ∧ w' = W) := fun W e => by
    subst e
    have := find_any T sv m nm W h hl
    rw [hf] at this
    exact this
  clear h hl ha hf
  go_enter Try.func22, Try.ntmps22
  go_wp2_with (first | (go_at_call 32; refine (HT.out _).mono ?_; rintro e w' ⟨rfl, hw⟩; rw [hw]; clear hw) | (go_at_call 31; refine (HF.out _ rfl).mono ?_; rintro e w' ⟨rfl, hw⟩; rw [hw]; clear hw))
  go_ret2
  exact ⟨rfl, rfl⟩
set_option maxRecDepth 20000 in
set_option maxHeartbeats 4000000 in
theorem filled_some (N : Int) (T : Nat) (sv : Value) (m : List (Nat × Bk)) (nm : List UInt8) (cost now : Int) (w : World) (i p : Nat) (b : Bk) (h : PR w T sv m) (hl : m.length ≤ 16) (ha : okA cost now = true) (hf : fnd m nm = some (i, p, b)) (hb : Bok N b) :
    Calls Try.prog 22 #[.pointer (some ⟨T, 0, none⟩), .string (tx nm), .int .i64 cost, .int .i64 now] w fun e w' => e = .returned (.tuple #[.pointer (some ⟨p, 1, none⟩), .int .i64 0]) ∧ w'.heap[p]? = some (pkO (fillI b now)) ∧ Kp p w w' := by
  have HT : Hid (∀ W, Calls Try.prog 32 #[.int .i64 now] W fun e w' => e = .returned (.bool (timI now)) ∧ w' = W) := fun W => ptime_any now W
  rw [okA_yes ha] at HT
  have ha' : 0 ≤ cost ∧ cost ≤ 1000000000 ∧ 0 ≤ now ∧ now ≤ 1125899906842624 := by unfold okA at ha; simpa using ha
  obtain ⟨c1, c2, c3, c4⟩ := ha'
  have HF : Hid (∀ W, W = w → Calls Try.prog 31 #[.pointer (some ⟨T, 0, none⟩), .string (tx nm)] W fun e w' => e = .returned (.tuple #[.pointer (some ⟨p, 1, none⟩), .int .i64 0]) ∧ w' = W) := fun W e => by
    subst e
    have := find_any T sv m nm W h hl
    rw [hf] at this
    exact this
  have HW : Hid (∀ W, W = w → Calls Try.prog 42 #[.pointer (some ⟨p, 1, none⟩), .int .i64 now] W fun e w' => e = .returned (.tuple #[]) ∧ w'.heap[p]? = some (pkO (fillI b now)) ∧ Kp p W w') := fun W e => by
    subst e
    exact fill_any N p b now W (h.each p b (List.mem_of_getElem? (fnd_some hf).2.2.1)) hb c4 c3
  clear h hl ha hf hb
  go_enter Try.func22, Try.ntmps22
  go_wp2_with (first | (go_at_call 32; refine (HT.out _).mono ?_; rintro e w' ⟨rfl, hw⟩; rw [hw]; clear hw) | (go_at_call 31; refine (HF.out _ rfl).mono ?_; rintro e w' ⟨rfl, hw⟩; rw [hw]; clear hw) | (go_at_call 42; refine (HW.out _ rfl).mono ?_; rintro e w1 ⟨rfl, hr, hk⟩; (have HR : Hid (w1.heap[p]? = some (pkO (fillI b now)) ∧ Kp p w w1) := ⟨hr, hk⟩); clear hr hk))
  go_ret2
  exact ⟨rfl, HR.out.1, HR.out.2⟩
end Go.Proofs.Ytpobfcmbbabchaa
