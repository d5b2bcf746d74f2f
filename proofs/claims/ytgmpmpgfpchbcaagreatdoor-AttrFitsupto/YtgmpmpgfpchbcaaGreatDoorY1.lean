/- Matchers appended; slices.Concat. -/
import Derived.Test.YtgmpmpgfpchbcaaGreatDoorX9
import Derived.Laws.OwnMore
namespace Go.Proofs.YtgmpmpgfpchbcaaGreatDoor
open Go.RowKit Go.Shelf
set_option linter.unusedVariables false
set_option linter.unusedSimpArgs false

theorem mtL_app (l m : List Mt) : mtL (l ++ m) = mtL l ++ mtL m := by simp [mtL]
/-- Matchers at an address, as they lie. -/
def LieM (w : World) (sa : Option Addr) (m : List Mt) : Prop := ∀ i x, m[i]? = some x → ∃ b off, sa = some ⟨b, off, none⟩ ∧ w.cell? ⟨b, off + i * 3, none⟩ = some (.int .i64 x.op) ∧ w.cell? ⟨b, off + i * 3 + 1, none⟩ = some (.string (tx x.key)) ∧ w.cell? ⟨b, off + i * 3 + 2, none⟩ = some (.string (tx x.val))
theorem run_append_none23 (w : World) (ty : TypeId) (v : Value) (base n : Nat) (xs : List Value) (hown : w.ownsRow base 30 3 v n xs) (sa : Option Addr) (c : Nat) : (Builtin.append_ #[23, 23] ty #[v, .slice sa 0 c]).run Tryz.prog w = .ok v w := by
  obtain ⟨i0, hi, hz0, hz1, hz2⟩ := info_parts info30
  rcases hown.2 with ⟨rfl, rfl⟩ | ⟨g, cap, cur, rfl, _, _, hnc, _⟩
  · cases sa <;> simp [Builtin.append_, run_underlying Tryz.underlying23, sizeOf, typeInfo, hi, Builtin.lenOf, Builtin.firstCells, loadCells, loadCellsFrom, storeCells]
  · cases sa <;> simp [Builtin.append_, run_underlying Tryz.underlying23, sizeOf, typeInfo, hi, Builtin.lenOf, Builtin.firstCells, hnc, loadCells, loadCellsFrom, storeCells]
theorem mtL_at : ∀ (l : List Mt) (j : Nat) (u : Value), (mtL l)[j]? = some u → ∃ i x, l[i]? = some x ∧ ((j = i * 3 ∧ u = .int .i64 x.op) ∨ (j = i * 3 + 1 ∧ u = .string (tx x.key)) ∨ (j = i * 3 + 2 ∧ u = .string (tx x.val)))
  | [], j, u, h => by simp [mtL] at h
  | x :: l, 0, u, h => ⟨0, x, rfl, .inl ⟨rfl, by simpa [mtL, mt3] using h.symm⟩⟩
  | x :: l, 1, u, h => ⟨0, x, rfl, .inr (.inl ⟨rfl, by simpa [mtL, mt3] using h.symm⟩)⟩
  | x :: l, 2, u, h => ⟨0, x, rfl, .inr (.inr ⟨rfl, by simpa [mtL, mt3] using h.symm⟩)⟩
  | x :: l, j + 3, u, h => by
    have h' : (mtL l)[j]? = some u := by simpa [mtL, mt3] using h
    obtain ⟨i, y, h1, h2⟩ := mtL_at l j u h'
    refine ⟨i + 1, y, by simpa using h1, ?_⟩
    rcases h2 with ⟨a, b⟩ | ⟨a, b⟩ | ⟨a, b⟩
    · exact .inl ⟨by omega, b⟩
    · exact .inr (.inl ⟨by omega, b⟩)
    · exact .inr (.inr ⟨by omega, b⟩)
theorem mtL_one (l : List Mt) : ∀ u ∈ mtL l, u.oneCell' = true := by
  intro u hu
  obtain ⟨j, hj⟩ := List.getElem?_of_mem hu
  obtain ⟨i, y, _, g2⟩ := mtL_at l j u hj
  rcases g2 with ⟨_, rfl⟩ | ⟨_, rfl⟩ | ⟨_, rfl⟩ <;> rfl
/-- Matchers more, or none. -/
theorem wpList_append_mts {w : World} {ops : Array Oper} {rest : List Oper} {o : Oper} {a : Act} {Q : Exit → Act → World → Prop} (hgd : o.guard = none) (s x : Operand)
    (ho : o.op = .call { callee := .builtin .append, args := #[s, x], argTypes := #[23, 23] }) (base : Nat) (v : Value) (n : Nat) (xs : List Value) (hs : a.eval s = v) (hown : w.ownsRow base 30 3 v n xs)
    (sa : Option Addr) (c k : Nat) (m : List Mt) (hk : m.length = k) (hx : a.eval x = .slice sa k c) (hm : LieM w sa m) (hb : (n + k) * 40 ≤ 140737488355328) (hbase : base ≤ w.heap.size)
    (h : ∀ v' w', w'.ownsRow base 30 3 v' (n + k) (xs ++ mtL m) → w.grownBy w' v.ownBlock → wpList Tryz.prog ops Q rest (a.put o.dst v') w') : wpList Tryz.prog ops Q (o :: rest) a w := by
  obtain ⟨i0, hi, hz0, hz1, hz2⟩ := info_parts info30
  subst hk
  cases hmm : m with
  | nil =>
    subst hmm
    refine wpList_plain hgd fun K hK => ?_
    have hrun := run_append_none23 w o.type v base n xs hown sa c
    unfold Oper.wp
    have hx' : a.eval x = .slice sa 0 c := hx
    simp [execOp, ho, resolve, invoke, builtin, hs, hx', hrun, Result.andThen]
    refine hK _ _ (h v w ?_ ⟨rfl, rfl, rfl, Nat.le_refl _, fun k _ _ => rfl⟩)
    simpa [mtL] using hown
  | cons y r =>
    obtain ⟨b, off, hsa, _⟩ := hm 0 y (by rw [hmm]; rfl)
    subst hsa
    have h0 : 0 < m.length := by rw [hmm]; simp
    refine wpList_append_lies _ hgd s x 23 ho base 30 i0 (.agg #[.int .i64 0, .string ⟨#[]⟩, .string ⟨#[]⟩]) 3 40 Tryz.underlying23 hi hz0 hz1 hz2 rfl (by decide) v n xs hs hown ⟨b, off, none⟩ m.length c (mtL m) hx (mtL_len m) (fun j u hu => ?_) (mtL_one m) h0 (by unfold maxLen; omega) hb hbase w.heap.size rfl fun g cap w' h1 h2 h3 _ => h _ w' h1 h2
    obtain ⟨i, z, g1, g2⟩ := mtL_at m j u hu
    obtain ⟨b', o', e1, e2, e3, e4⟩ := hm i z g1
    cases e1
    rw [Addr.add_mid]
    rcases g2 with ⟨rfl, rfl⟩ | ⟨rfl, rfl⟩ | ⟨rfl, rfl⟩
    · exact e2
    · rw [← Nat.add_assoc]; exact e3
    · rw [← Nat.add_assoc]; exact e4
theorem Mts.lie {W : World} {sa : Option Addr} {cap : Nat} {l : List Mt} (h : Mts W sa cap l) : LieM W sa l := h.cells
theorem own_blockM {w : World} {base n : Nat} {v : Value} {xs : List Value} (h : w.ownsRow base 30 3 v n xs) : ∀ k, v.ownBlock = some k → base ≤ k := by
  intro k hk
  rcases h.2 with ⟨h1, _⟩ | ⟨g, cap, cur, h1, h2, _⟩
  · rw [h1] at hk; cases hk
  · rw [h1] at hk; cases hk; exact h2
set_option maxRecDepth 20000 in
set_option maxHeartbeats 4000000 in
theorem concatM_any (pb : Nat) (sa sb : Option Addr) (ca cb : Nat) (a b : List Mt) (w : World) (ha : Mts w sa ca a) (hb : Mts w sb cb b) (h1 : ((a.length : Int) + b.length) * 40 ≤ 140737488355328)
    (p0 : w.cell? ⟨pb, 0, none⟩ = some (.slice sa a.length ca)) (p1 : w.cell? ⟨pb, 1, none⟩ = some (.slice sb b.length cb)) :
    Calls Tryz.prog 12 #[.slice (some ⟨pb, 0, none⟩) 2 2] w fun e w' => (∃ v, e = .returned v ∧ w'.ownsRow w.heap.size 30 3 v (a ++ b).length (mtL (a ++ b))) ∧ Below w.heap.size w w' := by
  have HA : Hid (Mts w sa ca a ∧ Mts w sb cb b) := ⟨ha, hb⟩
  obtain ⟨na, hna⟩ : ∃ n, a.length = n := ⟨_, rfl⟩
  obtain ⟨nb, hnb⟩ : ∃ n, b.length = n := ⟨_, rfl⟩
  have HN : Hid (a.length = na ∧ b.length = nb) := ⟨hna, hnb⟩
  have HP : Hid (pb < w.heap.size) := World.block_lt_of_cell? w _ p0
  rw [hna] at p0 h1
  rw [hnb] at p1 h1
  have HG : Hid (∀ W, Calls Tryz.prog 23 #[.slice none 0 0, .int .i64 ((na : Int) + (nb : Int))] W fun e w' => (∃ v, e = .returned v ∧ w'.ownsRow W.heap.size 30 3 v 0 []) ∧ Below W.heap.size W w') := fun W => by
    have := growM_any (na + nb) W (by omega)
    rw [Int.natCast_add] at this
    exact this
  have HAB : Hid ((0 + na) * 40 ≤ 140737488355328 ∧ (na + nb) * 40 ≤ 140737488355328) := ⟨by omega, by omega⟩
  have i1 : (na : Int) ≤ 140737488355328 := by omega
  have i2 : (na : Int) + (nb : Int) ≤ 140737488355328 := by omega
  have i3 : (0 : Int) ≤ (na : Int) := by omega
  have i4 : (0 : Int) ≤ (na : Int) + (nb : Int) := by omega
  clear ha hb hna hnb
  go_enter Tryz.func12, Tryz.ntmps12
  go_wp2_with fail
  go_loopw [3, 5, 11] (fun z s i wr => wr = w ∧ ((i = .int .i64 0 ∧ z = .int .i64 0) ∨ (i = .int .i64 1 ∧ z = .int .i64 na) ∨ (i = .int .i64 2 ∧ z = .int .i64 ((na : Int) + (nb : Int))))) (fun z s i wr => 2 - (intOf i).toNat)
  case atStart => exact ⟨rfl, .inl ⟨rfl, rfl⟩⟩
  case round =>
    obtain ⟨hw, hcase⟩ := hrel
    rw [hw]
    clear hw
    rcases hcase with ⟨rfl, rfl⟩ | ⟨rfl, rfl⟩ | ⟨rfl, rfl⟩
    · go_wp2_with fail
      go_roundw
      case rel => exact ⟨trivial, .inr (.inl ⟨rfl, by go_num⟩)⟩
      case measure => simp [intOf]
    · go_wp2_with fail
      go_roundw
      case rel => exact ⟨trivial, .inr (.inr ⟨rfl, by go_num⟩)⟩
      case measure => simp [intOf]
    · go_wp2_with (go_at_call 23; refine (HG.out _).mono ?_; rintro e w1 ⟨⟨v1, rfl, hown1⟩, hb1⟩; (obtain ⟨a1, k1, e1⟩ := own_slice hown1); subst e1)
      go_loopw [6, 8, 27] (fun v s i wr => Below w.heap.size w wr ∧ (∃ sv kv n, v = .slice sv n kv) ∧ ((i = .int .i64 0 ∧ wr.ownsRow w.heap.size 30 3 v 0 []) ∨ (i = .int .i64 1 ∧ wr.ownsRow w.heap.size 30 3 v na (mtL a)) ∨ (i = .int .i64 2 ∧ wr.ownsRow w.heap.size 30 3 v (na + nb) (mtL a ++ mtL b)))) (fun v s i wr => 2 - (intOf i).toNat)
      case atStart => exact ⟨hb1, ⟨_, _, _, rfl⟩, .inl ⟨rfl, hown1⟩⟩
      case round =>
        clear hown1 hb1
        obtain ⟨hbel, ⟨sv, kv, nv, rfl⟩, hcase⟩ := hrel
        have HBEL : Hid (Below w.heap.size w wr) := hbel
        have q0 : wr.cell? ⟨pb, 0, none⟩ = some (.slice sa na ca) := (hbel.cell (p := ⟨pb, 0, none⟩) HP.out).trans p0
        have q1 : wr.cell? ⟨pb, 1, none⟩ = some (.slice sb nb cb) := (hbel.cell (p := ⟨pb, 1, none⟩) HP.out).trans p1
        clear hbel p0 p1
        rcases hcase with ⟨rfl, hown⟩ | ⟨rfl, hown⟩ | ⟨rfl, hown⟩
        · have HOWN : Hid (wr.ownsRow w.heap.size 30 3 (.slice sv nv kv) 0 []) := hown
          clear hown
          go_wp2_with (at_builtin; (refine wpList_append_mts rfl (.tmp 31) (.tmp 32) rfl w.heap.size _ 0 [] rfl HOWN.out sa ca na a HN.out.1 rfl (HA.out.1.later HBEL.out).lie HAB.out.1 HBEL.out.size ?_; intro v3 w3 hown3 hgrow3; (have HB3 : Hid (Below w.heap.size w w3) := HBEL.out.grown hgrow3 HBEL.out.size (own_blockM HOWN.out)); (have HOWN3 : Hid (w3.ownsRow w.heap.size 30 3 v3 (0 + na) ([] ++ mtL a)) := hown3); clear hown3 hgrow3; (obtain ⟨a3, k3, e3⟩ := own_slice HOWN3.out); subst e3))
          go_roundw
          case rel => exact ⟨HB3.out, ⟨_, _, _, rfl⟩, .inr (.inl ⟨rfl, by have h := HOWN3.out; rw [Nat.zero_add, List.nil_append] at h; simpa using h⟩)⟩
          case measure => simp [intOf]
        · have HOWN : Hid (wr.ownsRow w.heap.size 30 3 (.slice sv nv kv) na (mtL a)) := hown
          clear hown
          go_wp2_with (at_builtin; (refine wpList_append_mts rfl (.tmp 31) (.tmp 32) rfl w.heap.size _ na (mtL a) rfl HOWN.out sb cb nb b HN.out.2 rfl (HA.out.2.later HBEL.out).lie HAB.out.2 HBEL.out.size ?_; intro v3 w3 hown3 hgrow3; (have HB3 : Hid (Below w.heap.size w w3) := HBEL.out.grown hgrow3 HBEL.out.size (own_blockM HOWN.out)); (have HOWN3 : Hid (w3.ownsRow w.heap.size 30 3 v3 (na + nb) (mtL a ++ mtL b)) := hown3); clear hown3 hgrow3; (obtain ⟨a3, k3, e3⟩ := own_slice HOWN3.out); subst e3))
          go_roundw
          case rel => exact ⟨HB3.out, ⟨_, _, _, rfl⟩, .inr (.inr ⟨rfl, HOWN3.out⟩)⟩
          case measure => simp [intOf]
        · have HOWN : Hid (wr.ownsRow w.heap.size 30 3 (.slice sv nv kv) (na + nb) (mtL a ++ mtL b)) := hown
          clear hown
          go_wp2_with fail
          go_ret
          exact ⟨⟨_, rfl, by rw [List.length_append, HN.out.1, HN.out.2, mtL_app]; exact HOWN.out⟩, HBEL.out⟩
end Go.Proofs.YtgmpmpgfpchbcaaGreatDoor
