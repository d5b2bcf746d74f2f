/- FixedSums: for every list of numbers of 64 bits the law's call returns true: it is summed from the left, each step held within the bounds, and the list is as it was. No condition but the form's own reach. -/
import Derived.Test.YtinhbegnpadcaaaRows
import Derived.WalkKit
import Derived.ProofKit
import Derived.OpenShut
import Derived.ShutString
import Derived.ChangeOld
import Derived.Below
import Derived.Laws.AppendOwnNone
import Derived.SizedLaws
import Derived.BigQuiet
import Derived.Test.YtinhbegnpadcaaaMul
import Derived.Test.YtinhbegnpadcaaaSum
namespace Go.Proofs.Ytinhbegnpadcaaa.fixedSums
open Go.ChangeShapes Go.WideShapes Go.ChangeAt Go.RowKit
open Go.ChangeMaps (open_string shut_string)
set_option linter.unusedVariables false

theorem own : ownKnob Try.prog.godebug = none := by kernel_rfl
theorem laidOut : laidOutB Try.prog = true := by kernel_rfl

/-- WHAT THE WALK IS TOLD OF A SLICE OF INTEGERS THAT CAME IN: it is nil; or it leads to a row of 'cap' cells, the numbers 'zs' (the first 'len' are its elements, the rest its spare room), each fitting its kind. -/
def IsRow (k : IntKind) (w : World) (a : Option Addr) (len cap : Nat) (zs : List Int) : Prop :=
  (a = none ∧ len = 0 ∧ cap = 0 ∧ zs = []) ∨
  ∃ x, a = some x ∧ len ≤ cap ∧ cap ≤ maxLen ∧ zs.length = cap ∧ (∀ i, i < zs.length → w.cell? (x.add i) = some (.int k (zs.getD i 0))) ∧ ∀ n ∈ zs, (Lit.int k n).wf = true

theorem info2 : (Try.prog.info? 2).map (fun i => (i.zero, i.size, i.bytes)) = some (some (.int .i64 0), 1, 8) := by kernel_rfl

/-- No list. -/
theorem walk_nil (w : World) : Calls Try.prog 4 #[.slice none 0 0] w fun e w' => e = .returned (.bool true) ∧ Below w.heap.size w w' := by
  obtain ⟨i0, hi, hz0, hz1, hz2⟩ := info_parts info2
  go_enter Try.func4, Try.ntmps4
  go_wp2_with (first | (at_builtin; refine wpList_append_own_none rfl (.tmp 6) (.tmp 7) 29 rfl w.heap.size 2 i0 1 Try.underlying29 hi _ 0 [] rfl (World.ownsRow_nil _ _ _ _) rfl ?_) | (go_at_call 21; refine (sum_none _ _ _).mono ?_; rintro e w' ⟨rfl, rfl⟩))
  refine wp_loop_rounds 1 ?_
  rw [rounds_succ]
  go_wp2_with (first | (go_at_call 22; refine (rsum_none _ _ _).mono ?_; rintro e w' ⟨rfl, rfl⟩) | (go_at_call 20; refine (known_any _).mono ?_; rintro e w' ⟨rfl, n, rfl⟩))
  go_ret
  exact ⟨rfl, below_drewN (Below.refl _ _) _⟩

/-- An empty list that is not nil. -/
theorem walk_empty (x : Addr) (cap : Nat) (w : World) : Calls Try.prog 4 #[.slice (some x) 0 cap] w fun e w' => e = .returned (.bool true) ∧ Below w.heap.size w w' := by
  obtain ⟨i0, hi, hz0, hz1, hz2⟩ := info_parts info2
  go_enter Try.func4, Try.ntmps4
  go_wp2_with (at_builtin; refine wpList_append_own _ rfl (.tmp 6) (.tmp 7) 29 rfl w.heap.size 2 i0 (.int .i64 0) 1 8 Try.underlying29 hi hz0 hz1 hz2 rfl (by decide) _ 0 [] rfl (World.ownsRow_nil _ _ _ _) x 0 cap [] rfl rfl (by intro j u h; simp at h) (by intro u h; simp at h) (by unfold maxLen; omega) (by omega) (Nat.le_refl _) ?_)
  intro v' w1 hown hgrow hv
  have hbel : Below w.heap.size w w1 := (Below.refl _ _).grown hgrow (Nat.le_refl _) (by intro k hk; simp [Value.ownBlock] at hk)
  rw [hv]
  clear hown hgrow hv
  go_wp2_with (go_at_call 21; refine (sum_none _ _ _).mono ?_; rintro e w' ⟨rfl, rfl⟩)
  refine wp_loop_rounds 1 ?_
  rw [rounds_succ]
  go_wp2_with (first | (go_at_call 22; refine (rsum_none _ _ _).mono ?_; rintro e w' ⟨rfl, rfl⟩) | (go_at_call 20; refine (known_any _).mono ?_; rintro e w' ⟨rfl, n, rfl⟩))
  go_ret
  exact ⟨rfl, below_drewN hbel _⟩

set_option maxHeartbeats 1000000 in
/-- A list with numbers in it. -/
theorem walk_row (b off len cap : Nat) (zs : List Int) (w : World) (hl : len ≤ zs.length) (h0 : 0 < len) (hm : (len : Int) * 8 ≤ 140737488351232) (hb : b < w.heap.size)
    (hc : ∀ i, i < len → w.cell? ⟨b, off + i, none⟩ = some (.int .i64 (zs.getD i 0))) (hz : ∀ i, i < len → zs.getD i 0 ≤ 9223372036854775807) :
    Calls Try.prog 4 #[.slice (some ⟨b, off, none⟩) len cap] w fun e w' => e = .returned (.bool true) ∧ Below w.heap.size w w' := by
  obtain ⟨i0, hi, hz0, hz1, hz2⟩ := info_parts info2
  have HC : Hid (∀ i, i < len → w.cell? ⟨b, off + i, none⟩ = some (.int .i64 (zs.getD i 0))) := hc
  have HZ : Hid (∀ i, i < len → zs.getD i 0 ≤ 9223372036854775807) := hz
  clear hc hz
  have hnl : ((zs.take len).map (Value.int .i64)).length = len := by simp; omega
  have hat : ∀ j u, ((zs.take len).map (Value.int .i64))[j]? = some u → j < len ∧ u = .int .i64 (zs.getD j 0) := by
    intro j u h
    have hj : j < len := by
      have := (List.getElem?_eq_some_iff.1 h).1
      omega
    refine ⟨hj, ?_⟩
    rw [List.getElem?_map, List.getElem?_take, if_pos hj] at h
    rw [List.getD_eq_getElem?_getD]
    cases hq : zs[j]? with
    | none => rw [hq] at h; simp at h
    | some z => rw [hq] at h; simp at h; simp [h]
  have HN : Hid _ := hnl
  have HA : Hid _ := hat
  clear hnl hat
  go_enter Try.func4, Try.ntmps4
  go_wp2_with (at_builtin; refine wpList_append_own _ rfl (.tmp 6) (.tmp 7) 29 rfl w.heap.size 2 i0 (.int .i64 0) 1 8 Try.underlying29 hi hz0 hz1 hz2 rfl (by decide) _ 0 [] rfl (World.ownsRow_nil _ _ _ _) ⟨b, off, none⟩ len cap ((zs.take len).map (Value.int .i64)) rfl (by rw [HN.out]; omega) ?c1 ?c2 ?c3 (by omega) (Nat.le_refl _) ?_)
  case c1 =>
    intro j u h
    obtain ⟨hj, rfl⟩ := HA.out j u h
    have hq := HC.out j hj
    unfold Addr.add
    split
    · rename_i h0; subst h0; simpa using hq
    · exact hq
  case c2 =>
    intro u h
    obtain ⟨z, _, rfl⟩ := List.mem_map.1 h
    rfl
  case c3 => unfold maxLen; omega
  intro v' w1 hown hgrow _
  have hbel : Below w.heap.size w w1 := (Below.refl _ _).grown hgrow (Nat.le_refl _) (by intro k hk; simp [Value.ownBlock] at hk)
  have hex : ∃ g cp, v' = .slice (some ⟨g, 0, none⟩) len cp ∧ ∀ i, i < len → w1.cell? ⟨g, 0 + i, none⟩ = some (.int .i64 (zs.getD i 0)) := by
    have h2 := hown.2
    rcases h2 with ⟨_, h⟩ | ⟨g, cp, cur, hv, _⟩
    · omega
    · refine ⟨g, cp, hv, ?_⟩
      intro i hi
      rw [hv] at hown
      rw [Nat.zero_add, hown.cellAt i (by omega), ← List.map_take]
      cases hq : ((zs.take len).map (Value.int .i64))[i]? with
      | none => have := List.getElem?_eq_none_iff.1 hq; rw [HN.out] at this; omega
      | some u => rw [(HA.out i u hq).2]
  obtain ⟨g, cp, hv, hcl⟩ := hex
  rw [hv]
  have HCL : Hid _ := hcl
  clear hown hgrow hv hcl HN HA
  go_wp2_with (go_at_call 21; refine (sum_row g 0 len cp zs w1 hl (by omega) HCL.out HZ.out).mono ?_; rintro e w' ⟨rfl, rfl⟩)
  go_loopw [5] (fun i wr => ∃ k n : Nat, k ≤ len ∧ i = .int .i64 k ∧ w'.drewN n = wr) (fun i _ => len - (intOf i).toNat)
  case atStart => exact ⟨0, 0, Nat.zero_le _, rfl, rfl⟩
  case round =>
    obtain ⟨k, n, hk, rfl, rfl⟩ := hrel
    by_cases hlt : k < len
    · have hlt' : (k : Int) < (len : Int) := by omega
      have c1 := HCL.out k hlt
      rw [Nat.zero_add] at c1
      have c2 := (hbel.cell (p := ⟨b, off + k, none⟩) hb).trans (HC.out k hlt)
      generalize zs.getD k 0 = z at c1 c2
      go_wp2
      go_quiet (fail)
      go_wp2
      go_roundw
      case rel => exact ⟨k + 1, _, by omega, by go_num, rfl⟩
      case measure => simp [intOf]; omega
    · have hlt' : (len : Int) ≤ (k : Int) := by omega
      go_wp2_with (first | (go_at_call 22; refine (rsum_row b off len cap zs _ hl (by omega) ?_ HZ.out).mono ?_; exact fun i hi => (hbel.cell (p := ⟨b, off + i, none⟩) hb).trans (HC.out i hi); rintro e w' ⟨rfl, rfl⟩) | (go_at_call 20; refine (known_any _).mono ?_; rintro e w' ⟨rfl, n, rfl⟩))
      go_ret
      exact ⟨rfl, below_drewN hbel _⟩

/-! ### STEP 1: THE WALK: the Go text returns true, AND WRITES NOTHING THAT WAS THERE: 'Below w.heap.size w w'' (Derived/Below.lean: '.refl', '.alloc', '.drew', '.setCell' at a new block, '.trans'). Open each 'IsRow' by 'rcases' AHEAD of 'go_enter'; part every test ahead of the walk. -/
theorem walk (a0 : Option Addr) (len0 cap0 : Nat) (z0 : List Int) (w : World) (w0 : IsRow .i64 w a0 len0 cap0 z0) (hr : cap0 * 8 ≤ 140737488351232) :
    Calls Try.prog 4 #[.slice a0 len0 cap0] w fun e w' => e = .returned (.bool true) ∧ Below w.heap.size w w' := by
  rcases w0 with ⟨rfl, rfl, rfl, rfl⟩ | ⟨x, rfl, hl, hm, hz, hcell, hwz⟩
  · exact walk_nil w
  · by_cases h0 : len0 = 0
    · subst h0
      exact walk_empty x cap0 w
    · obtain ⟨b, off, spot⟩ := x
      have hc0 := hcell 0 (by omega)
      have hspot : spot = none := by simpa [Addr.add] using World.cell?_spot hc0
      subst hspot
      have hb : b < w.heap.size := World.block_lt_of_cell? w _ hc0
      refine walk_row b off len0 cap0 z0 w (by omega) (by omega) (by omega) hb ?_ ?_
      · intro i hi
        have hq := hcell i (by omega)
        unfold Addr.add at hq
        split at hq
        · rename_i h0; subst h0; simpa using hq
        · exact hq
      · intro i hi
        rw [List.getD_eq_getElem?_getD]
        exact (range_i64 hwz i).2

/-! ### THE ROW's STEP: WRITTEN OUT: LEAVE IT -/
set_option maxRecDepth 100000 in
theorem lifted (os : Os) (started : os.Started) (H : Type) (enc : TypeId × Value → H) :
    ReturnsInHanded {} Try.checked os 4 .any (Rows.fixedSumsSpec.pre6 enc Try.prog Try.f4 Rows.fixedSumsRow.domain false) (Rows.fixedSumsSpec.post enc Try.prog Try.f4 false true false false) := by
  refine returnsInHanded_of_change_sized (C := Try.checked) own started (by kernel_rfl) Try.func4
    (ChangeSpec.witness6 (enc := enc) (C := Try.checked) false ⟨#[], #[.slice none 0 0], []⟩ 8 (by kernel_rfl) (by kernel_rfl) (by kernel_rfl) (by kernel_rfl)) ?_
  intro W base args ds gs before hval0 hW hcnd hsz0 _
  have hsz : (DataW.weightsEach Try.prog (Try.f4.params.toList ++ Rows.fixedSumsSpec.plain.varTypes Try.prog) (ds ++ gs)).all (· ≤ reachBytes) = true := hsz0
  have hval : ∀ (j : Nat) t v, Try.f4.params[j]? = some t → args[j]? = some v → Value.okWide Try.prog W .any base t v := hval0
  have hW' := hW
  obtain ⟨p, q, hA0, hV, rfl, hfz, hnd⟩ := hW
  have hA : DataW.TrodAll enc Try.prog W 0 (fun _ => true) true Try.f4.params.toList args.toList ds p := hA0
  rw [Try.params4] at hA hval hsz
  obtain ⟨v0, vs0, d0, ds0, p0, q0, hargs, rfl, rfl, h0, r0⟩ := trodAll_cons hA
  obtain ⟨rfl, rfl, rfl⟩ := trodAll_nil r0
  obtain rfl : args = #[v0] := by cases args; simp_all
  obtain ⟨rfl, rfl⟩ := trodVars_none hV
  obtain ⟨a0, len0, cap0, rfl⟩ := okWide_slice Try.underlying29 (hval 0 29 v0 rfl rfl)
  have k0 := h0
  have lt0 : ∀ x ∈ p0, x.block < W.heap.size := by obtain ⟨m, hm⟩ := k0; exact DataW.trod_lt m _ _ _ hm
  obtain ⟨z0, w0, hr0⟩ : ∃ zs, IsRow .i64 W a0 len0 cap0 zs ∧ cap0 * 8 ≤ 140737488351232 := by
    obtain ⟨fuel, hf⟩ := h0
    rcases open_ints Try.underlying29 Try.underlying2 (by kernel_rfl) hf with ⟨hcs, _⟩ | ⟨x, l, c, zs, hcs, _, hl, hm, hz, hx, hcell, hwz⟩
    · simp [Value.cells] at hcs
      obtain ⟨rfl, rfl, rfl⟩ := hcs
      exact ⟨[], .inl ⟨rfl, rfl, rfl, rfl⟩, by omega⟩
    · simp [Value.cells] at hcs
      obtain ⟨rfl, rfl, rfl⟩ := hcs
      refine ⟨zs, .inr ⟨_, rfl, hl, hm, by simpa using hz, hcell, hwz⟩, ?_⟩
      simp only [Prod.mk.injEq] at hx
      obtain ⟨hx1, _⟩ := hx
      rw [hx1] at hsz
      have hq := sized_slice hsz (j := 0) (t := 29) (e := 2) rfl rfl Try.underlying29
      rw [show Try.prog.bytesOf 2 = 8 from by kernel_rfl] at hq
      simp only [lits, List.length_map, List.length_take, List.length_drop, reachBytes] at hq
      have hz' : zs.length = cap0 := by simpa using hz
      omega
  clear hA0 hval0
  refine (walk a0 len0 cap0 z0 W w0 hr0).mono fun e W' ⟨he, bel⟩ => ?_
  subst he
  exact ⟨_, rfl, _, _, _, [], _, [], hW', trodAll_mk1 (shut_bool Try.underlying4 _), (trodAll_cons_mk (Below.trod laidOut (by kernel_rfl) (of_decide_eq_true (by kernel_rfl)) k0 bel lt0) trodAll_mk0), rfl, bel.frame _, fun h => by cases h⟩

theorem over : Rows.fixedSumsRow.holds Try.pinned (OpenSpec.ofChange Rows.fixedSumsSpec) :=
  OpenClaim.holds_of_wide 4 Try.f4 rfl rfl rfl rfl rfl rfl rfl ⟨rfl, rfl, rfl, rfl, rfl⟩ rfl rfl rfl rfl rfl (by kernel_rfl) Try.func4 (by kernel_rfl)
    (of_decide_eq_true (by kernel_rfl)) (by unfold Func.isWrapper; first | (rw [if_pos (by decide +kernel)]; kernel_rfl) | (rw [if_neg (by decide +kernel)]; exact ⟨rfl, rfl⟩))
    (fun os started H enc _ => lifted os started H enc)

/-- ████ THE STATEMENT ████ -/
theorem proved : Rows.FixedSumsSaid := over
#print axioms proved
end Go.Proofs.Ytinhbegnpadcaaa.fixedSums
