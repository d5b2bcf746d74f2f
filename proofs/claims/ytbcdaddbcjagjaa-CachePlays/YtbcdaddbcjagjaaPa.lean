/- A cache that a call made itself, of one tenant; the fixed run. -/
import Derived.Test.YtbcdaddbcjagjaaOg
namespace Go.Proofs.Ytbcdaddbcjagjaa
open Go.RowKit
set_option linter.unusedVariables false
set_option linter.unusedSimpArgs false

def nA : List UInt8 := [97]
/-- A cache of the tenant a alone. -/
def KS (w wr : World) (C : Nat) (most : Int) (l : List It) (n : Int) : Prop := ∃ F E N, CR wr C F most E N ∧ (∀ q, F q → w.heap.size ≤ q) ∧ Below w.heap.size w wr ∧ E nA = l ∧ (∀ x, x ≠ nA → E x = []) ∧ 0 ≤ (N nA).1 ∧ (N nA).1 ≤ n ∧ 0 ≤ (N nA).2 ∧ (N nA).2 ≤ n
variable {w w1 w2 : World} {C : Nat} {most n : Int} {l : List It}
theorem KS.below (h : KS w w1 C most l n) : Below w.heap.size w w1 := by
  obtain ⟨F, E, N, h1, h2, h3, -⟩ := h
  exact h3
theorem KS.newer (h : KS w w1 C most l n) (hb : Below w1.heap.size w1 w2) : KS w w2 C most l n := by
  obtain ⟨F, E, N, h1, h2, h3, h4⟩ := h
  exact ⟨F, E, N, h1.newer hb, h2, h3.trans (hb.mono h3.size), h4⟩
def putL (most : Int) (l : List It) (k st te : List UInt8) : List It := if bigE k te = true then l else (putE most ⟨k, st, te⟩ l).2.2
theorem KS.put (h : KS w w1 C most l n) (k st te : List UInt8) : Calls Try.prog 22 #[.pointer (some ⟨C, 0, none⟩), .string (tx nA), .string (tx k), .string (tx st), .string (tx te)] w1 fun e w2 => e = .returned (.int .i64 (putR k te)) ∧ Hid (KS w w2 C most (putL most l k st te) n) := by
  obtain ⟨F, E, N, h1, h2, h3, h4, h5, h6⟩ := h
  refine (h1.put nA k st te ⟨[nA], by simp, fun x hx => ?_⟩).mono ?_
  · by_cases e : x = nA
    · simp [e]
    · exact (hx (h5 x e)).elim
  · rintro e w2 ⟨rfl, F', k1, k2⟩
    have hs := h3.size
    refine ⟨rfl, F', _, N, k1, k2.low h2 hs, h3.trans (k2.below h2 hs), ?_, fun x hx => ?_, h6⟩
    · unfold putEE putL
      by_cases e : bigE k te = true
      · rw [if_pos e, if_pos e]; exact h4
      · rw [if_neg e, if_neg e, updE_at, h4]
    · unfold putEE
      by_cases e : bigE k te = true
      · rw [if_pos e]; exact h5 x hx
      · rw [if_neg e, updE_off _ _ hx]; exact h5 x hx
theorem KS.get (h : KS w w1 C most l n) (hn : n ≤ 1000000) (k st : List UInt8) : Calls Try.prog 23 #[.pointer (some ⟨C, 0, none⟩), .string (tx nA), .string (tx k), .string (tx st)] w1 fun e w2 => e = .returned (.tuple #[.string (tx (getT (lkE k l) st)), .bool (hitB (lkE k l) st)]) ∧ Hid (KS w w2 C most (getEE k st l) (n + 1)) := by
  obtain ⟨F, E, N, h1, h2, h3, h4, h5, h6, h7, h8, h9⟩ := h
  refine (h1.get nA k st ⟨h6, by omega, h8, by omega⟩).mono ?_
  rintro e w2 ⟨rfl, F', k1, k2⟩
  have hs := h3.size
  rw [h4] at k1 ⊢
  refine ⟨rfl, F', _, _, k1, k2.low h2 hs, h3.trans (k2.below h2 hs), updE_at _ _ _, fun x hx => by rw [updE_off _ _ hx]; exact h5 x hx, ?_⟩
  have e1 : updN N nA (getN k st l (N nA)) nA = getN k st l (N nA) := by unfold updN; rw [if_pos rfl]
  rw [e1]
  unfold getN
  split <;> (dsimp only; omega)
theorem KS.len (h : KS w w1 C most l n) : Calls Try.prog 18 #[.pointer (some ⟨C, 0, none⟩), .string (tx nA)] w1 fun e w2 => e = .returned (.int .i64 (l.length : Int)) ∧ w2 = w1 := by
  obtain ⟨F, E, N, h1, h2, h3, h4, h5⟩ := h
  rw [← h4]
  exact h1.len nA
theorem ks_new (most : Int) (h1 : 1 ≤ most) (h2 : most ≤ 64) (w : World) : Calls Try.prog 15 #[.int .i64 most] w fun e w' => ∃ C, e = .returned (.pointer (some ⟨C, 0, none⟩)) ∧ Hid (KS w w' C most [] 0) := by
  refine (cnew_some most h1 h2 w).mono ?_
  rintro e w' ⟨C, rfl, F, k1, k2, k3⟩
  exact ⟨C, rfl, F, _, _, k1, k2, k3, rfl, fun _ _ => rfl, by simp⟩
set_option maxRecDepth 20000 in
set_option maxHeartbeats 4000000 in
theorem known_any (w : World) : Calls Try.prog 9 #[] w fun e w' => e = .returned (.bool true) ∧ Below w.heap.size w w' := by
  have HN : Hid (Calls Try.prog 15 #[.int .i64 2] w fun e w' => ∃ C, e = .returned (.pointer (some ⟨C, 0, none⟩)) ∧ Hid (KS w w' C 2 [] 0)) := ks_new 2 (by decide) (by decide) w
  go_enter Try.func9, Try.ntmps9
  go_upto_region 4 with (go_at_call 15; refine HN.out.mono ?_; rintro e w1 ⟨C, rfl, H1⟩)
  have P1 : Hid (Calls Try.prog 22 #[.pointer (some ⟨C, 0, none⟩), .string { data := #[97] }, .string { data := #[120] }, .string { data := #[49] }, .string { data := #[88] }] w1 fun e w2 => e = .returned (.int .i64 0) ∧ Hid (KS w w2 C 2 [⟨[120], [49], [88]⟩] 0)) := H1.out.put [120] [49] [88]
  go_upto_region 5 with (go_at_call 22; refine P1.out.mono ?_; rintro e w2 ⟨rfl, H2⟩)
  have P2 : Hid (Calls Try.prog 22 #[.pointer (some ⟨C, 0, none⟩), .string { data := #[97] }, .string { data := #[121] }, .string { data := #[49] }, .string { data := #[89] }] w2 fun e w3 => e = .returned (.int .i64 0) ∧ Hid (KS w w3 C 2 [⟨[121], [49], [89]⟩, ⟨[120], [49], [88]⟩] 0)) := H2.out.put [121] [49] [89]
  go_upto_region 6 with (go_at_call 22; refine P2.out.mono ?_; rintro e w3 ⟨rfl, H3⟩)
  have P3 : Hid (Calls Try.prog 23 #[.pointer (some ⟨C, 0, none⟩), .string { data := #[97] }, .string { data := #[120] }, .string { data := #[49] }] w3 fun e w4 => e = .returned (.tuple #[.string { data := #[88] }, .bool true]) ∧ Hid (KS w w4 C 2 [⟨[120], [49], [88]⟩, ⟨[121], [49], [89]⟩] 1)) := H3.out.get (by decide) [120] [49]
  go_upto_region 7 with (go_at_call 23; refine P3.out.mono ?_; rintro e w4 ⟨rfl, H4⟩)
  have P4 : Hid (Calls Try.prog 22 #[.pointer (some ⟨C, 0, none⟩), .string { data := #[97] }, .string { data := #[122] }, .string { data := #[49] }, .string { data := #[90] }] w4 fun e w5 => e = .returned (.int .i64 0) ∧ Hid (KS w w5 C 2 [⟨[122], [49], [90]⟩, ⟨[120], [49], [88]⟩] 1)) := H4.out.put [122] [49] [90]
  go_upto_region 8 with (go_at_call 22; refine P4.out.mono ?_; rintro e w5 ⟨rfl, H5⟩)
  have P5 : Hid (Calls Try.prog 23 #[.pointer (some ⟨C, 0, none⟩), .string { data := #[97] }, .string { data := #[121] }, .string { data := #[49] }] w5 fun e w6 => e = .returned (.tuple #[.string { data := #[] }, .bool false]) ∧ Hid (KS w w6 C 2 [⟨[122], [49], [90]⟩, ⟨[120], [49], [88]⟩] 2)) := H5.out.get (by decide) [121] [49]
  go_upto_region 9 with (go_at_call 23; refine P5.out.mono ?_; rintro e w6 ⟨rfl, H6⟩)
  have P6 : Hid (Calls Try.prog 23 #[.pointer (some ⟨C, 0, none⟩), .string { data := #[97] }, .string { data := #[120] }, .string { data := #[50] }] w6 fun e w7 => e = .returned (.tuple #[.string { data := #[] }, .bool false]) ∧ Hid (KS w w7 C 2 [⟨[122], [49], [90]⟩] 3)) := H6.out.get (by decide) [120] [50]
  go_upto_region 10 with (go_at_call 23; refine P6.out.mono ?_; rintro e w7 ⟨rfl, H7⟩)
  have P7 : Hid (Calls Try.prog 18 #[.pointer (some ⟨C, 0, none⟩), .string { data := #[97] }] w7 fun e w8 => e = .returned (.int .i64 1) ∧ w8 = w7) := H7.out.len
  go_wp2_with (go_at_call 18; refine P7.out.mono ?_; rintro e w8 ⟨rfl, hw8⟩; rw [hw8]; clear hw8)
  go_ret
  exact ⟨rfl, H7.out.below⟩
end Go.Proofs.Ytbcdaddbcjagjaa
