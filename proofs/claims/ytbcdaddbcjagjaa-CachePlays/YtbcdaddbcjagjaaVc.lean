/- One call of both: step. -/
import Derived.Test.YtbcdaddbcjagjaaVb
import Derived.Deep.RegionHeld3
namespace Go.Proofs.Ytbcdaddbcjagjaa
open Go.RowKit
set_option linter.unusedVariables false
set_option linter.unusedSimpArgs false

variable {w0 w1 w2 : World} {C R : Nat} {most : Int} {l l' : List An} {cs cs' : List Cn} {ks : List (Nat × Obj)}
def opO (kind : Int) (s k st te : List UInt8) : Obj := .cells #[.int .i64 kind, .string (tx s), .string (tx k), .string (tx st), .string (tx te)] 39
/-- Behind a call of both. -/
def PN (w0 w2 : World) (C R : Nat) (most : Int) (l : List An) (cs : List Cn) (ks : List (Nat × Obj)) (n : Int) : Prop := ∃ l' cs', PS w0 w2 C R most l' cs' ks ∧ l'.length ≤ l.length + 1 ∧ cs'.length ≤ cs.length + 1 ∧ Cok (n + 1) cs'
theorem opO_cells {V : World} {p : Nat} {kind : Int} {s k st te : List UInt8} (h : V.heap[p]? = some (opO kind s k st te)) : V.cell? ⟨p, 0, none⟩ = some (.int .i64 kind) ∧ V.cell? ⟨p, 1, none⟩ = some (.string (tx s)) ∧ V.cell? ⟨p, 2, none⟩ = some (.string (tx k)) ∧ V.cell? ⟨p, 3, none⟩ = some (.string (tx st)) ∧ V.cell? ⟨p, 4, none⟩ = some (.string (tx te)) := op5 h
set_option maxRecDepth 20000 in
set_option maxHeartbeats 4000000 in
theorem PS.step_put (h : PS w0 w1 C R most l cs ks) (hl : l.length ≤ 1000) {n : Int} (hn : Cok n cs) (kind : Int) (s k st te : List UInt8) (hk : kind = 0 ∨ kind = 1) : Calls Try.prog 17 #[.pointer (some ⟨C, 0, none⟩), .pointer (some ⟨R, 0, none⟩), .agg #[.int .i64 kind, .string (tx s), .string (tx k), .string (tx st), .string (tx te)]] w1 fun e w2 => e = .returned (.bool true) ∧ Hid (PN w0 w2 C R most l cs ks n) := by
  obtain ⟨W, hW⟩ : ∃ W, w1.alloc (.cells #[.int .i64 kind, .string (tx s), .string (tx k), .string (tx st), .string (tx te)] 39) = W := ⟨_, rfl⟩
  have hb : PS w0 W C R most l cs ((w1.heap.size, opO kind s k st te) :: ks) := by rw [← hW]; exact PP.box h _
  obtain ⟨y0, y1, y2, y3, y4⟩ := opO_cells (PP.at' hb List.mem_cons_self)
  obtain ⟨p, hp⟩ : ∃ p, w1.heap.size = p := ⟨_, rfl⟩
  rw [hp] at hb y0 y1 y2 y3 y4
  obtain ⟨r, hr⟩ : ∃ r, (putM most s k st te l).1 = r := ⟨_, rfl⟩
  have HA : Hid (Calls Try.prog 22 #[.pointer (some ⟨C, 0, none⟩), .string (tx s), .string (tx k), .string (tx st), .string (tx te)] W.drew fun e w2 => e = .returned (.int .i64 r) ∧ Hid (PP w0 w2 C R most (fun x => sel x (putM most s k st te l).2) (fun x => lkN x cs) l cs ((p, opO kind s k st te) :: ks))) := by
    have := PS.put (PP.newer hb (drew_below W)) s k st te
    rw [hr] at this
    exact this
  have HC : Hid (∀ V, PP w0 V C R most (fun x => sel x (putM most s k st te l).2) (fun x => lkN x cs) l cs ((p, opO kind s k st te) :: ks) → Calls Try.prog 32 #[.pointer (some ⟨R, 0, none⟩), .string (tx s), .string (tx k), .string (tx st), .string (tx te)] V fun e w2 => e = .returned (.int .i64 r) ∧ Hid (PS w0 w2 C R most (putM most s k st te l).2 cs ((p, opO kind s k st te) :: ks))) := fun V hV => by
    have := hV.mput (by omega) s k st te
    rw [hr] at this
    exact this
  have HOP : Hid (∀ (V : World) (E : List UInt8 → List It) (N : List UInt8 → Int × Int) (l2 : List An), PP w0 V C R most E N l2 cs ((p, opO kind s k st te) :: ks) → V.cell? ⟨p, 1, none⟩ = some (.string (tx s)) ∧ V.cell? ⟨p, 2, none⟩ = some (.string (tx k)) ∧ V.cell? ⟨p, 3, none⟩ = some (.string (tx st)) ∧ V.cell? ⟨p, 4, none⟩ = some (.string (tx te))) := fun V E N l2 hV => (opO_cells (PP.at' hV List.mem_cons_self)).2
  have HL : Hid ((putM most s k st te l).2.length ≤ l.length + 1 ∧ Cok (n + 1) cs) := ⟨putM_len _ _ _ _ _ _, hn.more (by omega)⟩
  clear h hb hl hn hr
  rcases hk with rfl | rfl
  all_goals
    go_enter Try.func17, Try.ntmps17
    go_upto_region 4 with (fail)
    clear hW
    try rw [hp]
    clear hp y0
    go_region_held3 (fun w' => w'.cell? ⟨p, 1, none⟩ = some (.string (tx s)) ∧ w'.cell? ⟨p, 2, none⟩ = some (.string (tx k)) ∧ w'.cell? ⟨p, 3, none⟩ = some (.string (tx st)) ∧ w'.cell? ⟨p, 4, none⟩ = some (.string (tx te))) (first | exact K9 | exact K8 | go_keep) (first | (go_at_call 22; refine HA.out.mono ?_; rintro e w8 ⟨rfl, HM8⟩; (have K8 := HOP.out w8 _ _ _ HM8.out); clear HA) | (go_at_call 32; refine (HC.out _ HM8.out).mono ?_; rintro e w9 ⟨rfl, HM9⟩; (have K9 := HOP.out w9 _ _ _ HM9.out)))
    all_goals
      go_wp2_with fail
      go_ret
      exact ⟨rfl, _, _, PP.less HM9.out fun q hq => List.mem_cons_of_mem _ hq, HL.out.1, by omega, HL.out.2⟩
end Go.Proofs.Ytbcdaddbcjagjaa
