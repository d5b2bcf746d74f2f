/- One call of both: Get, Forget, Clear and the others. -/
import Derived.Test.YtbcdaddbcjagjaaVc
namespace Go.Proofs.Ytbcdaddbcjagjaa
open Go.RowKit
set_option linter.unusedVariables false
set_option linter.unusedSimpArgs false

variable {w0 w1 w2 : World} {C R : Nat} {most : Int} {l l' : List An} {cs cs' : List Cn} {ks : List (Nat × Obj)}
theorem kpT_le (s : List UInt8) (l : List An) : (kpT s l).length ≤ l.length := by have := kpT_len s l; omega
set_option maxRecDepth 20000 in
set_option maxHeartbeats 4000000 in
theorem PS.step_forget (h : PS w0 w1 C R most l cs ks) (hl : l.length ≤ 1000) {n : Int} (hn : Cok n cs) (kind : Int) (s k st te : List UInt8) (hk : kind = 4) : Calls Try.prog 17 #[.pointer (some ⟨C, 0, none⟩), .pointer (some ⟨R, 0, none⟩), .agg #[.int .i64 kind, .string (tx s), .string (tx k), .string (tx st), .string (tx te)]] w1 fun e w2 => e = .returned (.bool true) ∧ Hid (PN w0 w2 C R most l cs ks n) := by
  obtain ⟨W, hW⟩ : ∃ W, w1.alloc (.cells #[.int .i64 kind, .string (tx s), .string (tx k), .string (tx st), .string (tx te)] 39) = W := ⟨_, rfl⟩
  have hb : PS w0 W C R most l cs ((w1.heap.size, opO kind s k st te) :: ks) := by rw [← hW]; exact PP.box h _
  obtain ⟨y0, y1, y2, y3, y4⟩ := opO_cells (PP.at' hb List.mem_cons_self)
  obtain ⟨p, hp⟩ : ∃ p, w1.heap.size = p := ⟨_, rfl⟩
  rw [hp] at hb y0 y1 y2 y3 y4
  obtain ⟨r, hr⟩ : ∃ r, (cntT s l : Int) = r := ⟨_, rfl⟩
  have HA : Hid (Calls Try.prog 24 #[.pointer (some ⟨C, 0, none⟩), .string (tx s)] W.drew fun e w2 => e = .returned (.int .i64 r) ∧ Hid (PP w0 w2 C R most (fun x => sel x (kpT s l)) (fun x => lkN x cs) l cs ((p, opO kind s k st te) :: ks))) := by
    have := PS.forget (PP.newer hb (drew_below W)) s
    rw [hr] at this
    exact this
  have HC : Hid (∀ V, PP w0 V C R most (fun x => sel x (kpT s l)) (fun x => lkN x cs) l cs ((p, opO kind s k st te) :: ks) → Calls Try.prog 34 #[.pointer (some ⟨R, 0, none⟩), .string (tx s)] V fun e w2 => e = .returned (.int .i64 r) ∧ Hid (PS w0 w2 C R most (kpT s l) cs ((p, opO kind s k st te) :: ks))) := fun V hV => by
    have := hV.mforget (by omega) s
    rw [hr] at this
    exact this
  have HOP : Hid (∀ (V : World) (E : List UInt8 → List It) (N : List UInt8 → Int × Int) (l2 : List An), PP w0 V C R most E N l2 cs ((p, opO kind s k st te) :: ks) → V.cell? ⟨p, 1, none⟩ = some (.string (tx s)) ∧ V.cell? ⟨p, 2, none⟩ = some (.string (tx k)) ∧ V.cell? ⟨p, 3, none⟩ = some (.string (tx st)) ∧ V.cell? ⟨p, 4, none⟩ = some (.string (tx te))) := fun V E N l2 hV => (opO_cells (PP.at' hV List.mem_cons_self)).2
  have HL : Hid ((kpT s l).length ≤ l.length + 1 ∧ Cok (n + 1) cs) := ⟨by have := kpT_le s l; omega, hn.more (by omega)⟩
  clear h hb hl hn hr
  subst hk
  go_enter Try.func17, Try.ntmps17
  go_upto_region 11 with (fail)
  clear hW
  try rw [hp]
  clear hp y0
  go_region_held3 (fun w' => w'.cell? ⟨p, 1, none⟩ = some (.string (tx s)) ∧ w'.cell? ⟨p, 2, none⟩ = some (.string (tx k)) ∧ w'.cell? ⟨p, 3, none⟩ = some (.string (tx st)) ∧ w'.cell? ⟨p, 4, none⟩ = some (.string (tx te))) (first | exact K9 | exact K8 | go_keep) (first | (go_at_call 24; refine HA.out.mono ?_; rintro e w8 ⟨rfl, HM8⟩; (have K8 := HOP.out w8 _ _ _ HM8.out); clear HA) | (go_at_call 34; refine (HC.out _ HM8.out).mono ?_; rintro e w9 ⟨rfl, HM9⟩; (have K9 := HOP.out w9 _ _ _ HM9.out)))
  all_goals
    go_wp2_with fail
    go_ret
    exact ⟨rfl, _, _, PP.less HM9.out fun q hq => List.mem_cons_of_mem _ hq, HL.out.1, by omega, HL.out.2⟩
set_option maxRecDepth 20000 in
set_option maxHeartbeats 4000000 in
theorem PS.step_get (h : PS w0 w1 C R most l cs ks) (hl : l.length ≤ 1000) (hcl : cs.length ≤ 1000) {n : Int} (hn : Cok n cs) (hn2 : n ≤ 1000) (kind : Int) (s k st te : List UInt8) (hk : kind = 2 ∨ kind = 3) : Calls Try.prog 17 #[.pointer (some ⟨C, 0, none⟩), .pointer (some ⟨R, 0, none⟩), .agg #[.int .i64 kind, .string (tx s), .string (tx k), .string (tx st), .string (tx te)]] w1 fun e w2 => e = .returned (.bool true) ∧ Hid (PN w0 w2 C R most l cs ks n) := by
  obtain ⟨W, hW⟩ : ∃ W, w1.alloc (.cells #[.int .i64 kind, .string (tx s), .string (tx k), .string (tx st), .string (tx te)] 39) = W := ⟨_, rfl⟩
  have hb : PS w0 W C R most l cs ((w1.heap.size, opO kind s k st te) :: ks) := by rw [← hW]; exact PP.box h _
  obtain ⟨y0, y1, y2, y3, y4⟩ := opO_cells (PP.at' hb List.mem_cons_self)
  obtain ⟨p, hp⟩ : ∃ p, w1.heap.size = p := ⟨_, rfl⟩
  rw [hp] at hb y0 y1 y2 y3 y4
  obtain ⟨T1, hT1⟩ : ∃ T1, tx (txtM s k st l) = T1 := ⟨_, rfl⟩
  obtain ⟨B1, hB1⟩ : ∃ B1, hitM s k st l = B1 := ⟨_, rfl⟩
  have HA : Hid (Calls Try.prog 23 #[.pointer (some ⟨C, 0, none⟩), .string (tx s), .string (tx k), .string (tx st)] W fun e w2 => e = .returned (.tuple #[.string T1, .bool B1]) ∧ Hid (PP w0 w2 C R most (fun x => sel x (getM s k st l)) (fun x => lkN x (cntM s k st l cs)) l cs ((p, opO kind s k st te) :: ks))) := by
    have := PS.get hb (hn.more (by omega)) s k st
    rw [hT1, hB1] at this
    exact this
  have HC : Hid (∀ V, PP w0 V C R most (fun x => sel x (getM s k st l)) (fun x => lkN x (cntM s k st l cs)) l cs ((p, opO kind s k st te) :: ks) → Calls Try.prog 33 #[.pointer (some ⟨R, 0, none⟩), .string (tx s), .string (tx k), .string (tx st)] V fun e w2 => e = .returned (.tuple #[.string T1, .bool B1]) ∧ Hid (PS w0 w2 C R most (getM s k st l) (cntM s k st l cs) ((p, opO kind s k st te) :: ks))) := fun V hV => by
    have := hV.mget (by omega) (by omega) (hn.more (by omega)) s k st
    rw [hT1, hB1] at this
    exact this
  have HOP : Hid (∀ (V : World) (E : List UInt8 → List It) (N : List UInt8 → Int × Int) (l2 : List An), PP w0 V C R most E N l2 cs ((p, opO kind s k st te) :: ks) → V.cell? ⟨p, 1, none⟩ = some (.string (tx s)) ∧ V.cell? ⟨p, 2, none⟩ = some (.string (tx k)) ∧ V.cell? ⟨p, 3, none⟩ = some (.string (tx st)) ∧ V.cell? ⟨p, 4, none⟩ = some (.string (tx te))) := fun V E N l2 hV => (opO_cells (PP.at' hV List.mem_cons_self)).2
  have HL : Hid ((getM s k st l).length ≤ l.length + 1 ∧ (cntM s k st l cs).length ≤ cs.length + 1 ∧ Cok (n + 1) (cntM s k st l cs)) := ⟨getM_len _ _ _ _, cntM_len _ _ _ _ _, hn.get _ _ _ _⟩
  clear h hb hl hcl hn hn2 hT1 hB1
  rcases hk with rfl | rfl
  all_goals
    go_enter Try.func17, Try.ntmps17
    go_upto_region 7 with (fail)
    clear hW
    try rw [hp]
    clear hp y0
    go_upto_region 8 with (go_at_call 23; refine HA.out.mono ?_; rintro e w8 ⟨rfl, HM8⟩)
    obtain ⟨z1, z2, z3, z4⟩ := HOP.out w8 _ _ _ HM8.out
    clear y1 y2 y3 y4 HA
    go_upto_region 9 with (go_at_call 33; refine (HC.out _ HM8.out).mono ?_; rintro e w9 ⟨rfl, HM9⟩)
    cases B1
    all_goals
      go_wp2_with fail
      go_ret
      exact ⟨rfl, _, _, PP.less HM9.out fun q hq => List.mem_cons_of_mem _ hq, HL.out.1, HL.out.2.1, HL.out.2.2⟩
set_option maxRecDepth 20000 in
set_option maxHeartbeats 4000000 in
theorem PS.step_clear (h : PS w0 w1 C R most l cs ks) (hl : l.length ≤ 1000) {n : Int} (hn : Cok n cs) (kind : Int) (s k st te : List UInt8) (hk : kind = 5) : Calls Try.prog 17 #[.pointer (some ⟨C, 0, none⟩), .pointer (some ⟨R, 0, none⟩), .agg #[.int .i64 kind, .string (tx s), .string (tx k), .string (tx st), .string (tx te)]] w1 fun e w2 => e = .returned (.bool true) ∧ Hid (PN w0 w2 C R most l cs ks n) := by
  obtain ⟨W, hW⟩ : ∃ W, w1.alloc (.cells #[.int .i64 kind, .string (tx s), .string (tx k), .string (tx st), .string (tx te)] 39) = W := ⟨_, rfl⟩
  have hb : PS w0 W C R most l cs ((w1.heap.size, opO kind s k st te) :: ks) := by rw [← hW]; exact PP.box h _
  obtain ⟨y0, -⟩ := opO_cells (PP.at' hb List.mem_cons_self)
  obtain ⟨a, cap, c1, cf⟩ := PP.rcell hb
  have HCL : Hid (Calls Try.prog 25 #[.pointer (some ⟨C, 0, none⟩)] (W.setCell ⟨R, 1, none⟩ (.slice none 0 0)) fun e w2 => e = .returned (.int .i64 (l.length : Int)) ∧ Hid (PS w0 w2 C R most [] cs ((w1.heap.size, opO kind s k st te) :: ks))) := PP.clear hl (PP.empty hb)
  have HL : Hid (Cok (n + 1) cs) := hn.more (by omega)
  clear h hb hn
  obtain ⟨m, hm⟩ : ∃ m, l.length = m := ⟨_, rfl⟩
  have hm9 : (m : Int) ≤ 1000 := by omega
  rw [hm] at HCL c1
  clear hl hm
  subst hk
  go_enter Try.func17, Try.ntmps17
  go_wp2_with (go_at_call 25; refine HCL.out.mono ?_; rintro e w8 ⟨rfl, HM8⟩)
  go_ret
  exact ⟨rfl, [], cs, PP.less HM8.out fun q hq => List.mem_cons_of_mem _ hq, by simp, by omega, HL.out⟩
set_option maxRecDepth 20000 in
set_option maxHeartbeats 4000000 in
theorem PS.step_else (h : PS w0 w1 C R most l cs ks) {n : Int} (hn : Cok n cs) (kind : Int) (s k st te : List UInt8) (h0 : kind ≠ 0) (h1 : kind ≠ 1) (h2 : kind ≠ 2) (h3 : kind ≠ 3) (h4 : kind ≠ 4) (h5 : kind ≠ 5) : Calls Try.prog 17 #[.pointer (some ⟨C, 0, none⟩), .pointer (some ⟨R, 0, none⟩), .agg #[.int .i64 kind, .string (tx s), .string (tx k), .string (tx st), .string (tx te)]] w1 fun e w2 => e = .returned (.bool true) ∧ Hid (PN w0 w2 C R most l cs ks n) := by
  obtain ⟨W, hW⟩ : ∃ W, w1.alloc (.cells #[.int .i64 kind, .string (tx s), .string (tx k), .string (tx st), .string (tx te)] 39) = W := ⟨_, rfl⟩
  have hb : PS w0 W C R most l cs ((w1.heap.size, opO kind s k st te) :: ks) := by rw [← hW]; exact PP.box h _
  obtain ⟨y0, -⟩ := opO_cells (PP.at' hb List.mem_cons_self)
  have HA : Hid (PN w0 W C R most l cs ks n) := ⟨l, cs, PP.less hb fun q hq => List.mem_cons_of_mem _ hq, by omega, by omega, hn.more (by omega)⟩
  have g0 : (kind == 0) = false := by simpa using h0
  have g1 : (kind == 1) = false := by simpa using h1
  have g2 : (kind == 2) = false := by simpa using h2
  have g3 : (kind == 3) = false := by simpa using h3
  have g4 : (kind == 4) = false := by simpa using h4
  have g5 : (kind == 5) = false := by simpa using h5
  clear h hb hn h0 h1 h2 h3 h4 h5
  go_enter Try.func17, Try.ntmps17
  go_wp2_with fail
  go_ret
  exact ⟨rfl, HA.out⟩
theorem PS.step (h : PS w0 w1 C R most l cs ks) (hl : l.length ≤ 1000) (hcl : cs.length ≤ 1000) {n : Int} (hn : Cok n cs) (hn2 : n ≤ 1000) (kind : Int) (s k st te : List UInt8) : Calls Try.prog 17 #[.pointer (some ⟨C, 0, none⟩), .pointer (some ⟨R, 0, none⟩), .agg #[.int .i64 kind, .string (tx s), .string (tx k), .string (tx st), .string (tx te)]] w1 fun e w2 => e = .returned (.bool true) ∧ Hid (PN w0 w2 C R most l cs ks n) := by
  by_cases c01 : kind = 0 ∨ kind = 1
  · exact h.step_put hl hn kind s k st te c01
  · by_cases c23 : kind = 2 ∨ kind = 3
    · exact h.step_get hl hcl hn hn2 kind s k st te c23
    · by_cases c4 : kind = 4
      · exact h.step_forget hl hn kind s k st te c4
      · by_cases c5 : kind = 5
        · exact h.step_clear hl hn kind s k st te c5
        · exact h.step_else hn kind s k st te (by omega) (by omega) (by omega) (by omega) c4 c5
end Go.Proofs.Ytbcdaddbcjagjaa
