/- Who a peer's text says. -/
import Derived.Test.YtnghgclogeefgaaN2
import Derived.ScopeJumps
import Derived.WalkSmall
namespace Go.Proofs.Ytnghgclogeefgaa
open Go.RowKit
set_option linter.unusedVariables false
set_option linter.unusedSimpArgs false

/-- A scope that is left ahead, at most once, to a label behind. -/
theorem scope_fwd {P : Program} {a : Act} {w : World} {Q : Exit → Act → World → Prop} {c rest : Code} (l : Nat) (hf : findLabel c l = some rest)
    (first : c.wp P (Exit.jump l (fun a w => rest.wp P (Exit.jump l (fun _ _ => False) Q) a w) Q) a w) : (Code.scope c).wp P Q a w := by
  refine wp_scope_jumps l (fun a w => rest.wp P (Exit.jump l (fun _ _ => False) Q) a w) (fun _ _ => 0) hf first (fun a w h => wp_mono h ?_)
  intro e a w h
  cases e with
  | goto l' => exact ⟨h.1, h.2.elim⟩
  | _ => exact h
theorem jump_ret {l : Nat} {J : Act → World → Prop} {Q : Exit → Act → World → Prop} {a : Act} {w : World} : Exit.jump l J Q .ret a w = Q .ret a w := rfl

/-- One who asks, as a value. -/
def idV (t u : List UInt8) (a : Bool) : Array Value := #[.string (tx t), .string (tx u), .bool a]
/-- What Parse answers. -/
def resP : (List UInt8 × List UInt8 × Bool) ⊕ Nat → Value
  | .inl (t, u, a) => .tuple #[.agg (idV t u a), .int .i64 0, .int .i64 0]
  | .inr k => .tuple #[.agg (idV [] [] false), .int .i64 100, .int .i64 (k : Int)]
theorem results_three {fn : Func} {p q r : Tmp} {ty : TypeId} (h : fn.results = #[.cell p ty, .tmp q, .tmp r]) (tmps : Array Value) (w : World) (g : Nat) (cs : Array Value) (v u : Value)
    (hp : tmps.getD p undef = .pointer (some ⟨g, 0, none⟩)) (hq : tmps.getD q undef = v) (hr : tmps.getD r undef = u) (hl : (loadVar ty ⟨g, 0, none⟩).run Try.prog w = .ok (.agg cs) w) :
    (results fn tmps).run Try.prog w = .ok (.tuple #[.agg cs, v, u]) w := by
  have hp' : tmps[p]?.getD undef = .pointer (some ⟨g, 0, none⟩) := by simpa using hp
  have hq' : tmps[q]?.getD undef = v := by simpa using hq
  have hr' : tmps[r]?.getD undef = u := by simpa using hr
  simp [results, h, hp', hq', hr', asAddr, hl]
/-- A text on the way: its reader, who was read so far, the answer's place. -/
structure PS (w W : World) (s : List UInt8) (a : Nat) (t u : List UInt8) : Prop where
  rd : Rd W (w.heap.size + 1) s a
  who : W.heap[w.heap.size + 1 + 1]? = some (.cells #[.string (tx t), .string (tx u), .bool false] 23 (0, 0))
  res : W.heap[w.heap.size]? = some (.cells #[.string (tx []), .string (tx []), .bool false] 23 (0, 0))
  bel : Below w.heap.size w W
theorem PS.pass {w W W' : World} {s t u : List UInt8} {a b : Nat} (h : PS w W s a t u) (r : Rd W' (w.heap.size + 1) s b) (k : Kp (w.heap.size + 1) W W') : PS w W' s b t u :=
  ⟨r, (k.block _ (by omega)).trans h.who, (k.block _ (by omega)).trans h.res, h.bel.trans (k.below (by omega))⟩
theorem PS.drew {w W : World} {s t u : List UInt8} {a : Nat} (h : PS w W s a t u) (n : Nat) : PS w (W.drewN n) s a t u :=
  ⟨h.rd.drewN n, h.who, h.res, below_drewN h.bel n⟩
theorem PS.name0 {w W W' : World} {s t u x : List UInt8} {a b : Nat} (h : PS w W s a t u) (r : Rd W' (w.heap.size + 1) s b) (f : W'.heap[w.heap.size + 1 + 1]? = some (.cells (#[.string (tx t), .string (tx u), .bool false].setIfInBounds 0 (.string (tx x))) 23 (0, 0))) (k : K2 (w.heap.size + 1) (w.heap.size + 1 + 1) W W') : PS w W' s b x u :=
  ⟨r, f, (k.block _ (by omega) (by omega)).trans h.res, h.bel.trans (k.below (by omega) (by omega))⟩
theorem PS.name1 {w W W' : World} {s t u x : List UInt8} {a b : Nat} (h : PS w W s a t u) (r : Rd W' (w.heap.size + 1) s b) (f : W'.heap[w.heap.size + 1 + 1]? = some (.cells (#[.string (tx t), .string (tx u), .bool false].setIfInBounds 1 (.string (tx x))) 23 (0, 0))) (k : K2 (w.heap.size + 1) (w.heap.size + 1 + 1) W W') : PS w W' s b t x :=
  ⟨r, f, (k.block _ (by omega) (by omega)).trans h.res, h.bel.trans (k.below (by omega) (by omega))⟩
theorem PS.start (w : World) (s : List UInt8) : PS w (((w.alloc (Obj.cells #[Value.string { data := #[] }, Value.string { data := #[] }, Value.bool false] 23)).alloc (Obj.cells #[Value.string (tx s), Value.int IntKind.i64 0] 58)).alloc (Obj.cells #[Value.string { data := #[] }, Value.string { data := #[] }, Value.bool false] 23)) s 0 [] [] := by
  refine ⟨?_, ?_, ?_, ?_⟩
  · have h := Go.heap_alloc_new (w.alloc (Obj.cells #[Value.string { data := #[] }, Value.string { data := #[] }, Value.bool false] 23)) (Obj.cells #[Value.string (tx s), Value.int IntKind.i64 0] 58)
    simp only [World.size_alloc] at h
    exact (Below.heap_alloc _ _ _ (by simp)).trans h
  · have h := Go.heap_alloc_new ((w.alloc (Obj.cells #[Value.string { data := #[] }, Value.string { data := #[] }, Value.bool false] 23)).alloc (Obj.cells #[Value.string (tx s), Value.int IntKind.i64 0] 58)) (Obj.cells #[Value.string { data := #[] }, Value.string { data := #[] }, Value.bool false] 23)
    simp only [World.size_alloc] at h
    exact h
  · exact (Below.heap_alloc _ _ _ (by simp; omega)).trans ((Below.heap_alloc _ _ _ (by simp)).trans (Go.heap_alloc_new _ _))
  · exact (((Below.refl _ w).alloc (Nat.le_refl _) _).alloc (by simp) _).alloc (by simp; omega) _
theorem load23 {W : World} {g : Nat} {cs : Array Value} (h : W.heap[g]? = some (.cells cs 23 (0, 0))) (hs : cs.size = 3) : (loadVar 23 ⟨g, 0, none⟩).run Try.prog W = .ok (.agg cs) W :=
  run_loadVar_row W g 23 23 cs (0, 0) _ h Try.underlying23 rfl (by rw [hs]; kernel_rfl)
set_option maxRecDepth 20000 in
set_option maxHeartbeats 4000000 in
theorem parse_any (s : List UInt8) (w : World) (hm : (s.length : Int) ≤ 140737488351232) :
    Calls Try.prog 8 #[.string (tx s)] w fun e w' => e = .returned (resP (pI s)) ∧ Below w.heap.size w w' := by
  go_enter Try.func8, Try.ntmps8
  go_wp2_with fail
  refine scope_fwd 0 (rest := ?rr) ?hf ?_
  case hf => rfl
  go_wp2_with fail
  have H0 : Hid _ := PS.start w s
  generalize (((w.alloc (Obj.cells #[Value.string { data := #[] }, Value.string { data := #[] }, Value.bool false] 23)).alloc (Obj.cells #[Value.string (tx s), Value.int IntKind.i64 0] 58)).alloc (Obj.cells #[Value.string { data := #[] }, Value.string { data := #[] }, Value.bool false] 23)) = W0 at H0 ⊢
  refine (pass_any (w.heap.size + 1) 0 s hd W0 H0.out.rd (Nat.zero_le _) hm (by decide)).mono ?_
  rintro e W1 ⟨rfl, r1, k1⟩
  have H1 : Hid (PS w W1 s (0 + lcp (s.drop 0) hd) [] []) := H0.out.pass r1 k1
  clear r1 k1 H0 W0
  by_cases d1 : lcp s hd < 7
  · have hb : decide (lcp (s.drop 0) hd = hd.length) = false := decide_eq_false (by rw [List.drop_zero]; show ¬ _ = 7; omega)
    have HE : pI s = .inr (lcp s hd) := by unfold pI; rw [if_pos d1]
    rw [List.drop_zero, Nat.zero_add] at H1
    rw [hb]
    clear d1
    have c1 := H1.out.rd.place
    have HP : Hid (pI s = .inr (lcp s hd)) := HE
    obtain ⟨p, hp⟩ : ∃ p : Nat, lcp s hd = p := ⟨_, rfl⟩
    rw [hp] at HP c1
    have z0 : W1.cell? ⟨w.heap.size, 0, none⟩ = some (.string (tx [])) := by rw [cell_of_row _ _ _ _ _ _ H1.out.res]; rfl
    have f0 : W1.frozen? ⟨w.heap.size, 0, none⟩ = false := frozen_of_row _ _ 0 _ _ H1.out.res
    have z1 : W1.cell? ⟨w.heap.size, 1, none⟩ = some (.string (tx [])) := by rw [cell_of_row _ _ _ _ _ _ H1.out.res]; rfl
    have f1 : W1.frozen? ⟨w.heap.size, 1, none⟩ = false := frozen_of_row _ _ 1 _ _ H1.out.res
    have z2 : W1.cell? ⟨w.heap.size, 2, none⟩ = some (.bool false) := by rw [cell_of_row _ _ _ _ _ _ H1.out.res]; rfl
    have f2 : W1.frozen? ⟨w.heap.size, 2, none⟩ = false := frozen_of_row _ _ 2 _ _ H1.out.res
    have HRES : Hid (W1.heap[w.heap.size]? = some (.cells #[.string (tx []), .string (tx []), .bool false] 23 (0, 0)) ∧ Below w.heap.size w W1) := ⟨H1.out.res, H1.out.bel⟩
    clear hp H1
    clear HE
    go_wp2_with fail
    go_step3
    refine ⟨rfl, ?_⟩
    go_wp2_with fail
    go_region
    go_wp2_with fail
    show bodyPost Try.prog Try.f8 (fun e w' => e = .returned (resP (pI s)) ∧ Below w.heap.size w w') .ret _ _
    refine bodyPost_ret (v := resP (.inr p)) (results_three Try.results8 _ _ w.heap.size (idV [] [] false) _ _ rfl rfl rfl (load23 ((row_set _ (row_set _ (row_set _ HRES.out.1)))) rfl)) rfl ⟨by rw [HP.out], ?_⟩
    exact ((((HRES.out.2).setCell (Nat.le_refl _) _).setCell (Nat.le_refl _) _).setCell (Nat.le_refl _) _).drew
  · have e7 : lcp s hd = 7 := by have := lcp_le' s hd; have h7 : hd.length = 7 := rfl; omega
    have hlen : 7 ≤ s.length := by have := lcp_le s hd; omega
    rw [List.drop_zero, e7] at H1
    have hb : decide (lcp (s.drop 0) hd = hd.length) = true := decide_eq_true (by rw [List.drop_zero, e7]; rfl)
    rw [hb]
    clear hb
    go_wp2_with fail
    refine (rname_any (w.heap.size + 1) 7 (w.heap.size + 1 + 1) 0 s W1 H1.out.rd hlen hm (by omega) _ _ 23 rfl H1.out.who).mono ?_
    rintro e W2 ⟨rfl, r2, b2, k2⟩
    have H2 : Hid (PS w W2 s (7 + nl (s.drop 7)) ((s.drop 7).take (nl (s.drop 7))) []) := H1.out.name0 r2 b2 k2
    clear r2 b2 k2 H1 W1
    have hn1 := nl_le (s.drop 7)
    rw [List.length_drop] at hn1
    have HF2 : Hid (nl (s.drop 7) = 0 ∨ s[7 + nl (s.drop 7)]? ≠ some 47 → pI s = .inr (7 + nl (s.drop 7))) := fun h => by unfold pI; rw [if_neg d1]; simp only; rw [if_pos h]
    by_cases d2 : nl (s.drop 7) = 0
    · have HE : pI s = .inr (7 + nl (s.drop 7)) := HF2.out (.inl d2)
      have hb : decide (0 < nl (s.drop 7)) = false := decide_eq_false (by omega)
      rw [hb]
      clear hb d2 HF2 hn1 d1 e7
      have c1 := H2.out.rd.place
      have HP : Hid (pI s = .inr (7 + nl (s.drop 7))) := HE
      obtain ⟨p, hp⟩ : ∃ p : Nat, 7 + nl (s.drop 7) = p := ⟨_, rfl⟩
      rw [hp] at HP c1
      have z0 : W2.cell? ⟨w.heap.size, 0, none⟩ = some (.string (tx [])) := by rw [cell_of_row _ _ _ _ _ _ H2.out.res]; rfl
      have f0 : W2.frozen? ⟨w.heap.size, 0, none⟩ = false := frozen_of_row _ _ 0 _ _ H2.out.res
      have z1 : W2.cell? ⟨w.heap.size, 1, none⟩ = some (.string (tx [])) := by rw [cell_of_row _ _ _ _ _ _ H2.out.res]; rfl
      have f1 : W2.frozen? ⟨w.heap.size, 1, none⟩ = false := frozen_of_row _ _ 1 _ _ H2.out.res
      have z2 : W2.cell? ⟨w.heap.size, 2, none⟩ = some (.bool false) := by rw [cell_of_row _ _ _ _ _ _ H2.out.res]; rfl
      have f2 : W2.frozen? ⟨w.heap.size, 2, none⟩ = false := frozen_of_row _ _ 2 _ _ H2.out.res
      have HRES : Hid (W2.heap[w.heap.size]? = some (.cells #[.string (tx []), .string (tx []), .bool false] 23 (0, 0)) ∧ Below w.heap.size w W2) := ⟨H2.out.res, H2.out.bel⟩
      clear hp H2
      clear HE
      go_wp2_with fail
      go_step3
      refine ⟨rfl, ?_⟩
      go_wp2_with fail
      go_region
      go_wp2_with fail
      show bodyPost Try.prog Try.f8 (fun e w' => e = .returned (resP (pI s)) ∧ Below w.heap.size w w') .ret _ _
      refine bodyPost_ret (v := resP (.inr p)) (results_three Try.results8 _ _ w.heap.size (idV [] [] false) _ _ rfl rfl rfl (load23 ((row_set _ (row_set _ (row_set _ HRES.out.1)))) rfl)) rfl ⟨by rw [HP.out], ?_⟩
      exact ((((HRES.out.2).setCell (Nat.le_refl _) _).setCell (Nat.le_refl _) _).setCell (Nat.le_refl _) _).drew
    · have hb : decide (0 < nl (s.drop 7)) = true := decide_eq_true (by omega)
      rw [hb]
      clear hb
      obtain ⟨n, hn⟩ : ∃ n, nl (s.drop 7) = n := ⟨_, rfl⟩
      have HN : Hid (nl (s.drop 7) = n) := hn
      rw [hn] at H2 HF2 hn1 d2
      clear hn
      go_wp2_with fail
      refine (pass_any (w.heap.size + 1) (7 + n) s [47] W2 H2.out.rd (by omega) hm (by decide)).mono ?_
      rintro e W3 ⟨rfl, r3, k3⟩
      have H3 : Hid (PS w W3 s (7 + n + lcp (s.drop (7 + n)) [47]) ((s.drop 7).take n) []) := H2.out.pass r3 k3
      clear r3 k3 H2 W2
      have HS : Hid ((lcp (s.drop (7 + n)) [47] = 1 → s[7 + n]? = some 47) ∧ (lcp (s.drop (7 + n)) [47] = 0 → s[7 + n]? ≠ some 47) ∧ lcp (s.drop (7 + n)) [47] ≤ 1 ∧ 7 + n + lcp (s.drop (7 + n)) [47] ≤ s.length) := by
        refine ⟨fun h => ?_, fun h h' => ?_, ?_, ?_⟩
        · have := lcp_get 0 (s.drop (7 + n)) [47] (by omega)
          rw [List.getElem?_drop] at this
          exact this
        · have := lcp_of 1 (s.drop (7 + n)) [47] (fun j hj => by rw [show j = 0 by omega, List.getElem?_drop]; exact h') (by have := (List.getElem?_eq_some_iff.1 h').1; simp; omega) (by simp) (.inl rfl)
          omega
        · exact lcp_le' _ _
        · have := lcp_le (s.drop (7 + n)) [47]
          rw [List.length_drop] at this
          omega
      generalize lcp (s.drop (7 + n)) [47] = q at H3 HS ⊢
      by_cases d3 : q = 0
      · have HE : pI s = .inr (7 + n) := HF2.out (.inr (HS.out.2.1 d3))
        subst d3
        have hb : decide (0 = [(47 : UInt8)].length) = false := rfl
        rw [hb]
        rw [Nat.add_zero] at H3
        clear hb HF2 HS hn1 d1 e7 d2
        have c1 := H3.out.rd.place
        have HP : Hid (pI s = .inr (7 + n)) := HE
        obtain ⟨p, hp⟩ : ∃ p : Nat, 7 + n = p := ⟨_, rfl⟩
        rw [hp] at HP c1
        have z0 : W3.cell? ⟨w.heap.size, 0, none⟩ = some (.string (tx [])) := by rw [cell_of_row _ _ _ _ _ _ H3.out.res]; rfl
        have f0 : W3.frozen? ⟨w.heap.size, 0, none⟩ = false := frozen_of_row _ _ 0 _ _ H3.out.res
        have z1 : W3.cell? ⟨w.heap.size, 1, none⟩ = some (.string (tx [])) := by rw [cell_of_row _ _ _ _ _ _ H3.out.res]; rfl
        have f1 : W3.frozen? ⟨w.heap.size, 1, none⟩ = false := frozen_of_row _ _ 1 _ _ H3.out.res
        have z2 : W3.cell? ⟨w.heap.size, 2, none⟩ = some (.bool false) := by rw [cell_of_row _ _ _ _ _ _ H3.out.res]; rfl
        have f2 : W3.frozen? ⟨w.heap.size, 2, none⟩ = false := frozen_of_row _ _ 2 _ _ H3.out.res
        have HRES : Hid (W3.heap[w.heap.size]? = some (.cells #[.string (tx []), .string (tx []), .bool false] 23 (0, 0)) ∧ Below w.heap.size w W3) := ⟨H3.out.res, H3.out.bel⟩
        clear hp H3
        clear HE
        go_wp2_with fail
        go_step3
        refine ⟨rfl, ?_⟩
        go_wp2_with fail
        go_region
        go_wp2_with fail
        show bodyPost Try.prog Try.f8 (fun e w' => e = .returned (resP (pI s)) ∧ Below w.heap.size w w') .ret _ _
        refine bodyPost_ret (v := resP (.inr p)) (results_three Try.results8 _ _ w.heap.size (idV [] [] false) _ _ rfl rfl rfl (load23 ((row_set _ (row_set _ (row_set _ HRES.out.1)))) rfl)) rfl ⟨by rw [HP.out], ?_⟩
        exact ((((HRES.out.2).setCell (Nat.le_refl _) _).setCell (Nat.le_refl _) _).setCell (Nat.le_refl _) _).drew
      · have e1 : q = 1 := by have := HS.out.2.2.1; omega
        subst e1
        have H3' : Hid (PS w W3 s (8 + n) ((s.drop 7).take n) []) := by have := H3.out; rwa [show 7 + n + 1 = 8 + n by omega] at this
        have h47 := HS.out.1 rfl
        have hlen8 : 8 + n ≤ s.length := by have := HS.out.2.2.2; omega
        have hb : decide (1 = [(47 : UInt8)].length) = true := rfl
        rw [hb]
        have HF : Hid (pI s = (if nl (s.drop (8 + n)) = 0 then .inr (8 + n)
            else if 8 + n + nl (s.drop (8 + n)) = s.length then .inl ((s.drop 7).take n, (s.drop (8 + n)).take (nl (s.drop (8 + n))), false)
            else if lcp (s.drop (8 + n + nl (s.drop (8 + n)))) ad < 6 ∨ 14 + n + nl (s.drop (8 + n)) ≠ s.length then .inr (8 + n + nl (s.drop (8 + n)) + lcp (s.drop (8 + n + nl (s.drop (8 + n)))) ad)
            else .inl ((s.drop 7).take n, (s.drop (8 + n)).take (nl (s.drop (8 + n))), true))) := by
          show _ = _
          unfold pI
          rw [if_neg d1]
          simp only [HN.out]
          rw [if_neg (by intro h; rcases h with h | h; exact d2 h; exact h h47)]
        clear hb HF2 HS hn1 d1 e7 d2 d3 h47 H3 HN
        generalize (s.drop 7).take n = T at H3' HF
        go_wp2_with fail
        refine (rname_any (w.heap.size + 1) (8 + n) (w.heap.size + 1 + 1) 1 s W3 H3'.out.rd hlen8 hm (by omega) _ _ 23 rfl H3'.out.who).mono ?_
        rintro e W4 ⟨rfl, r4, b4, k4⟩
        have H4 : Hid (PS w W4 s (8 + n + nl (s.drop (8 + n))) T ((s.drop (8 + n)).take (nl (s.drop (8 + n))))) := H3'.out.name1 r4 b4 k4
        clear r4 b4 k4 H3' W3
        have hn4 := nl_le (s.drop (8 + n))
        rw [List.length_drop] at hn4
        by_cases d4 : nl (s.drop (8 + n)) = 0
        · have HE : pI s = .inr (8 + n) := by rw [HF.out, if_pos d4]
          have hb : decide (0 < nl (s.drop (8 + n))) = false := decide_eq_false (by omega)
          rw [hb]
          rw [d4, Nat.add_zero] at H4
          clear hb d4 HF hn4
          have c1 := H4.out.rd.place
          have HP : Hid (pI s = .inr (8 + n)) := HE
          obtain ⟨p, hp⟩ : ∃ p : Nat, 8 + n = p := ⟨_, rfl⟩
          rw [hp] at HP c1
          have z0 : W4.cell? ⟨w.heap.size, 0, none⟩ = some (.string (tx [])) := by rw [cell_of_row _ _ _ _ _ _ H4.out.res]; rfl
          have f0 : W4.frozen? ⟨w.heap.size, 0, none⟩ = false := frozen_of_row _ _ 0 _ _ H4.out.res
          have z1 : W4.cell? ⟨w.heap.size, 1, none⟩ = some (.string (tx [])) := by rw [cell_of_row _ _ _ _ _ _ H4.out.res]; rfl
          have f1 : W4.frozen? ⟨w.heap.size, 1, none⟩ = false := frozen_of_row _ _ 1 _ _ H4.out.res
          have z2 : W4.cell? ⟨w.heap.size, 2, none⟩ = some (.bool false) := by rw [cell_of_row _ _ _ _ _ _ H4.out.res]; rfl
          have f2 : W4.frozen? ⟨w.heap.size, 2, none⟩ = false := frozen_of_row _ _ 2 _ _ H4.out.res
          have HRES : Hid (W4.heap[w.heap.size]? = some (.cells #[.string (tx []), .string (tx []), .bool false] 23 (0, 0)) ∧ Below w.heap.size w W4) := ⟨H4.out.res, H4.out.bel⟩
          clear hp H4
          clear HE
          go_wp2_with fail
          go_step3
          refine ⟨rfl, ?_⟩
          go_wp2_with fail
          go_region
          go_wp2_with fail
          show bodyPost Try.prog Try.f8 (fun e w' => e = .returned (resP (pI s)) ∧ Below w.heap.size w w') .ret _ _
          refine bodyPost_ret (v := resP (.inr p)) (results_three Try.results8 _ _ w.heap.size (idV [] [] false) _ _ rfl rfl rfl (load23 ((row_set _ (row_set _ (row_set _ HRES.out.1)))) rfl)) rfl ⟨by rw [HP.out], ?_⟩
          exact ((((HRES.out.2).setCell (Nat.le_refl _) _).setCell (Nat.le_refl _) _).setCell (Nat.le_refl _) _).drew
        · have hb : decide (0 < nl (s.drop (8 + n))) = true := decide_eq_true (by omega)
          rw [hb]
          clear hb
          have HF4 : Hid (pI s = (if 8 + n + nl (s.drop (8 + n)) = s.length then .inl (T, (s.drop (8 + n)).take (nl (s.drop (8 + n))), false)
            else if lcp (s.drop (8 + n + nl (s.drop (8 + n)))) ad < 6 ∨ 14 + n + nl (s.drop (8 + n)) ≠ s.length then .inr (8 + n + nl (s.drop (8 + n)) + lcp (s.drop (8 + n + nl (s.drop (8 + n)))) ad)
            else .inl (T, (s.drop (8 + n)).take (nl (s.drop (8 + n))), true))) := by show _ = _; rw [HF.out, if_neg d4]
          clear d4 HF
          generalize (s.drop (8 + n)).take (nl (s.drop (8 + n))) = U at H4 HF4
          generalize nl (s.drop (8 + n)) = m at H4 HF4 hn4
          obtain ⟨p, hp⟩ : ∃ p, 8 + n + m = p := ⟨_, rfl⟩
          have HPM : Hid (14 + n + m = p + 6) := by show _ = _; omega
          rw [hp, HPM.out] at HF4
          rw [hp] at H4
          have hp1 : p ≤ s.length := by omega
          clear hp HPM hn4 hlen8 hlen
          go_wp2_with fail
          refine (ended_any (w.heap.size + 1) p s W4 H4.out.rd).mono ?_
          rintro e W5 ⟨rfl, q5, hW5⟩
          have H5 : Hid (PS w W5 s p T U) := by rw [hW5]; exact H4.out.drew q5
          clear hW5 H4 W4
          by_cases d5 : p = s.length
          · have hb : (((p : Nat) : Int) == (s.length : Int)) = true := by simpa using (by omega : (p : Int) = (s.length : Int))
            have HP : Hid (pI s = .inl (T, U, false)) := by show _ = _; rw [HF4.out, if_pos d5]
            rw [hb]
            clear hb d5 HF4
            have y0 : W5.cell? ⟨w.heap.size + 1 + 1, 0, none⟩ = some (.string (tx T)) := by rw [cell_of_row _ _ _ _ _ _ H5.out.who]; rfl
            have y1 : W5.cell? ⟨w.heap.size + 1 + 1, 1, none⟩ = some (.string (tx U)) := by rw [cell_of_row _ _ _ _ _ _ H5.out.who]; rfl
            have y2 : W5.cell? ⟨w.heap.size + 1 + 1, 2, none⟩ = some (.bool false) := by rw [cell_of_row _ _ _ _ _ _ H5.out.who]; rfl
            have g2 : W5.frozen? ⟨w.heap.size + 1 + 1, 2, none⟩ = false := frozen_of_row _ _ 2 _ _ H5.out.who
            have z0 : W5.cell? ⟨w.heap.size, 0, none⟩ = some (.string (tx [])) := by rw [cell_of_row _ _ _ _ _ _ H5.out.res]; rfl
            have f0 : W5.frozen? ⟨w.heap.size, 0, none⟩ = false := frozen_of_row _ _ 0 _ _ H5.out.res
            have z1 : W5.cell? ⟨w.heap.size, 1, none⟩ = some (.string (tx [])) := by rw [cell_of_row _ _ _ _ _ _ H5.out.res]; rfl
            have f1 : W5.frozen? ⟨w.heap.size, 1, none⟩ = false := frozen_of_row _ _ 1 _ _ H5.out.res
            have z2 : W5.cell? ⟨w.heap.size, 2, none⟩ = some (.bool false) := by rw [cell_of_row _ _ _ _ _ _ H5.out.res]; rfl
            have f2 : W5.frozen? ⟨w.heap.size, 2, none⟩ = false := frozen_of_row _ _ 2 _ _ H5.out.res
            go_wp2_with fail
            show bodyPost Try.prog Try.f8 (fun e w' => e = .returned (resP (pI s)) ∧ Below w.heap.size w w') .ret _ _
            refine bodyPost_ret (v := resP (.inl (T, U, false))) (results_three Try.results8 _ _ w.heap.size (idV T U false) _ _ rfl rfl rfl (load23 ((row_set _ (row_set _ (row_set _ H5.out.res)))) rfl)) rfl ⟨by rw [HP.out], ?_⟩
            exact ((((H5.out.bel).setCell (Nat.le_refl _) _).setCell (Nat.le_refl _) _).setCell (Nat.le_refl _) _)
          · have hb : (((p : Nat) : Int) == (s.length : Int)) = false := by simpa using (by omega : ¬ (p : Int) = (s.length : Int))
            rw [hb]
            have HF5 : Hid (pI s = (if lcp (s.drop p) ad < 6 ∨ p + 6 ≠ s.length then .inr (p + lcp (s.drop p) ad) else .inl (T, U, true))) := by show _ = _; rw [HF4.out, if_neg d5]
            clear hb d5 HF4
            go_wp2_with fail
            refine (pass_any (w.heap.size + 1) p s ad W5 H5.out.rd hp1 hm (by decide)).mono ?_
            rintro e W6 ⟨rfl, r6, k6⟩
            have H6 : Hid (PS w W6 s (p + lcp (s.drop p) ad) T U) := H5.out.pass r6 k6
            clear r6 k6 H5 W5
            have hk6 := lcp_le' (s.drop p) ad
            have hk7 := lcp_le (s.drop p) ad
            rw [List.length_drop] at hk7
            rw [show ad.length = 6 from rfl] at hk6 ⊢
            generalize lcp (s.drop p) ad = k at H6 HF5 hk6 hk7 ⊢
            by_cases d6 : k < 6
            · have HE : pI s = .inr (p + k) := by rw [HF5.out, if_pos (.inl d6)]
              have hb : decide (k = 6) = false := decide_eq_false (by omega)
              rw [hb]
              clear hb d6 HF5 hk6 hk7 hp1
              have c1 := H6.out.rd.place
              have HP : Hid (pI s = .inr (p + k)) := HE
              obtain ⟨p', hp⟩ : ∃ p' : Nat, p + k = p' := ⟨_, rfl⟩
              rw [hp] at HP c1
              have z0 : W6.cell? ⟨w.heap.size, 0, none⟩ = some (.string (tx [])) := by rw [cell_of_row _ _ _ _ _ _ H6.out.res]; rfl
              have f0 : W6.frozen? ⟨w.heap.size, 0, none⟩ = false := frozen_of_row _ _ 0 _ _ H6.out.res
              have z1 : W6.cell? ⟨w.heap.size, 1, none⟩ = some (.string (tx [])) := by rw [cell_of_row _ _ _ _ _ _ H6.out.res]; rfl
              have f1 : W6.frozen? ⟨w.heap.size, 1, none⟩ = false := frozen_of_row _ _ 1 _ _ H6.out.res
              have z2 : W6.cell? ⟨w.heap.size, 2, none⟩ = some (.bool false) := by rw [cell_of_row _ _ _ _ _ _ H6.out.res]; rfl
              have f2 : W6.frozen? ⟨w.heap.size, 2, none⟩ = false := frozen_of_row _ _ 2 _ _ H6.out.res
              have HRES : Hid (W6.heap[w.heap.size]? = some (.cells #[.string (tx []), .string (tx []), .bool false] 23 (0, 0)) ∧ Below w.heap.size w W6) := ⟨H6.out.res, H6.out.bel⟩
              clear hp H6
              clear HE
              go_wp2_with fail
              go_step3
              refine ⟨rfl, ?_⟩
              go_wp2_with fail
              go_region
              go_wp2_with fail
              show bodyPost Try.prog Try.f8 (fun e w' => e = .returned (resP (pI s)) ∧ Below w.heap.size w w') .ret _ _
              refine bodyPost_ret (v := resP (.inr p')) (results_three Try.results8 _ _ w.heap.size (idV [] [] false) _ _ rfl rfl rfl (load23 ((row_set _ (row_set _ (row_set _ HRES.out.1)))) rfl)) rfl ⟨by rw [HP.out], ?_⟩
              exact ((((HRES.out.2).setCell (Nat.le_refl _) _).setCell (Nat.le_refl _) _).setCell (Nat.le_refl _) _).drew
            · have e6 : k = 6 := by omega
              subst e6
              have hb : decide ((6 : Nat) = 6) = true := rfl
              rw [hb]
              clear hb d6 hk6
              go_wp2_with fail
              refine (ended_any (w.heap.size + 1) (p + 6) s W6 H6.out.rd).mono ?_
              rintro e W7 ⟨rfl, q7, hW7⟩
              have H7 : Hid (PS w W7 s (p + 6) T U) := by rw [hW7]; exact H6.out.drew q7
              clear hW7 H6 W6
              by_cases d7 : p + 6 = s.length
              · have hb : (((p + 6 : Nat) : Int) == (s.length : Int)) = true := by simpa using (by omega : ((p : Int) + 6) = (s.length : Int))
                have HP : Hid (pI s = .inl (T, U, true)) := by show _ = _; rw [HF5.out, if_neg (by omega)]
                rw [hb]
                clear hb d7 HF5
                have y0 : W7.cell? ⟨w.heap.size + 1 + 1, 0, none⟩ = some (.string (tx T)) := by rw [cell_of_row _ _ _ _ _ _ H7.out.who]; rfl
                have y1 : W7.cell? ⟨w.heap.size + 1 + 1, 1, none⟩ = some (.string (tx U)) := by rw [cell_of_row _ _ _ _ _ _ H7.out.who]; rfl
                have y2 : W7.cell? ⟨w.heap.size + 1 + 1, 2, none⟩ = some (.bool false) := by rw [cell_of_row _ _ _ _ _ _ H7.out.who]; rfl
                have g2 : W7.frozen? ⟨w.heap.size + 1 + 1, 2, none⟩ = false := frozen_of_row _ _ 2 _ _ H7.out.who
                have z0 : W7.cell? ⟨w.heap.size, 0, none⟩ = some (.string (tx [])) := by rw [cell_of_row _ _ _ _ _ _ H7.out.res]; rfl
                have f0 : W7.frozen? ⟨w.heap.size, 0, none⟩ = false := frozen_of_row _ _ 0 _ _ H7.out.res
                have z1 : W7.cell? ⟨w.heap.size, 1, none⟩ = some (.string (tx [])) := by rw [cell_of_row _ _ _ _ _ _ H7.out.res]; rfl
                have f1 : W7.frozen? ⟨w.heap.size, 1, none⟩ = false := frozen_of_row _ _ 1 _ _ H7.out.res
                have z2 : W7.cell? ⟨w.heap.size, 2, none⟩ = some (.bool false) := by rw [cell_of_row _ _ _ _ _ _ H7.out.res]; rfl
                have f2 : W7.frozen? ⟨w.heap.size, 2, none⟩ = false := frozen_of_row _ _ 2 _ _ H7.out.res
                go_wp2_with fail
                show bodyPost Try.prog Try.f8 (fun e w' => e = .returned (resP (pI s)) ∧ Below w.heap.size w w') .ret _ _
                refine bodyPost_ret (v := resP (.inl (T, U, true))) (results_three Try.results8 _ _ w.heap.size (idV T U true) _ _ rfl rfl rfl (load23 ((row_set _ (row_set _ (row_set _ ((Below.heap_setCell _ _ _ _ (by simp; omega)).trans H7.out.res))))) rfl)) rfl ⟨by rw [HP.out], ?_⟩
                exact (((((H7.out.bel).setCell (by show w.heap.size ≤ w.heap.size + 1 + 1; omega) _).setCell (Nat.le_refl _) _).setCell (Nat.le_refl _) _).setCell (Nat.le_refl _) _)
              · have hb : (((p + 6 : Nat) : Int) == (s.length : Int)) = false := by simpa using (by omega : ¬ ((p : Int) + 6) = (s.length : Int))
                have HE : pI s = .inr (p + 6) := by rw [HF5.out, if_pos (.inr d7)]
                rw [hb]
                clear hb d7 HF5 hk7 hp1
                have c1 := H7.out.rd.place
                have HP : Hid (pI s = .inr (p + 6)) := HE
                obtain ⟨p', hp⟩ : ∃ p' : Nat, p + 6 = p' := ⟨_, rfl⟩
                rw [hp] at HP c1
                have z0 : W7.cell? ⟨w.heap.size, 0, none⟩ = some (.string (tx [])) := by rw [cell_of_row _ _ _ _ _ _ H7.out.res]; rfl
                have f0 : W7.frozen? ⟨w.heap.size, 0, none⟩ = false := frozen_of_row _ _ 0 _ _ H7.out.res
                have z1 : W7.cell? ⟨w.heap.size, 1, none⟩ = some (.string (tx [])) := by rw [cell_of_row _ _ _ _ _ _ H7.out.res]; rfl
                have f1 : W7.frozen? ⟨w.heap.size, 1, none⟩ = false := frozen_of_row _ _ 1 _ _ H7.out.res
                have z2 : W7.cell? ⟨w.heap.size, 2, none⟩ = some (.bool false) := by rw [cell_of_row _ _ _ _ _ _ H7.out.res]; rfl
                have f2 : W7.frozen? ⟨w.heap.size, 2, none⟩ = false := frozen_of_row _ _ 2 _ _ H7.out.res
                have HRES : Hid (W7.heap[w.heap.size]? = some (.cells #[.string (tx []), .string (tx []), .bool false] 23 (0, 0)) ∧ Below w.heap.size w W7) := ⟨H7.out.res, H7.out.bel⟩
                clear hp H7
                clear HE
                go_wp2_with fail
                go_step3
                refine ⟨rfl, ?_⟩
                go_wp2_with fail
                go_region
                go_wp2_with fail
                show bodyPost Try.prog Try.f8 (fun e w' => e = .returned (resP (pI s)) ∧ Below w.heap.size w w') .ret _ _
                refine bodyPost_ret (v := resP (.inr p')) (results_three Try.results8 _ _ w.heap.size (idV [] [] false) _ _ rfl rfl rfl (load23 ((row_set _ (row_set _ (row_set _ HRES.out.1)))) rfl)) rfl ⟨by rw [HP.out], ?_⟩
                exact ((((HRES.out.2).setCell (Nat.le_refl _) _).setCell (Nat.le_refl _) _).setCell (Nat.le_refl _) _).drew
end Go.Proofs.Ytnghgclogeefgaa
