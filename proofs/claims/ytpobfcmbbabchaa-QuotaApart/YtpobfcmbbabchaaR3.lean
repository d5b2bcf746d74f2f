/- The model's buckets: a tenant's bucket at a time. -/
import Derived.Test.YtpobfcmbbabchaaR2
namespace Go.Proofs.Ytpobfcmbbabchaa
open Go.RowKit
set_option linter.unusedVariables false
set_option linter.unusedSimpArgs false

theorem RT.ten {w : World} {T base g c k : Nat} {l : List Bk} {b : Bk} (h : RT w T base (.slice (some ⟨g, 0, none⟩) l.length c) l) (hk : l[k]? = some b) : w.cell? ⟨T, 0, none⟩ = some (.slice (some ⟨g, 0, none⟩) l.length c) ∧ w.cell? ⟨g, k * 9, none⟩ = some (.string (tx b.nm)) ∧ w.cell? ⟨g, k * 9 + 1, none⟩ = some (.int .i64 b.rate) ∧ w.cell? ⟨g, k * 9 + 2, none⟩ = some (.int .i64 b.burst) ∧ w.cell? ⟨g, k * 9 + 3, none⟩ = some (.int .i64 b.has) ∧ w.cell? ⟨g, k * 9 + 4, none⟩ = some (.int .i64 b.part) ∧ w.cell? ⟨g, k * 9 + 5, none⟩ = some (.int .i64 b.tim) ∧ w.cell? ⟨g, k * 9 + 6, none⟩ = some (.int .i64 b.tk) ∧ w.cell? ⟨g, k * 9 + 7, none⟩ = some (.int .i64 b.rf) ∧ w.cell? ⟨g, k * 9 + 8, none⟩ = some (.int .i64 b.cs) := by
  obtain ⟨c0, c1, c2, c3, c4, c5, c6, c7, c8⟩ := own_bc h.row hk
  exact ⟨by rw [cell_of_row _ _ _ _ _ _ h.tab]; rfl, c0, c1, c2, c3, c4, c5, c6, c7, c8⟩
theorem RT.ne {w : World} {T base g c n : Nat} {l : List Bk} (h : RT w T base (.slice (some ⟨g, 0, none⟩) n c) l) : T ≠ g := by
  obtain ⟨cur, hc⟩ := own_tag h.row (q := g) rfl
  exact ne_tag h.tab hc (by decide)
theorem RT.put {w : World} {T base g c k : Nat} {l : List Bk} (h : RT w T base (.slice (some ⟨g, 0, none⟩) l.length c) l) (hk : k < l.length) (b : Bk) : RT (w.setCells g (k * 9) (bk9 b)) T base (.slice (some ⟨g, 0, none⟩) (l.set k b).length c) (l.set k b) :=
  ⟨(setCs_other _ w g _ T h.ne).trans (by rw [List.length_set]; exact h.tab), own_put bk9_len h.row hk b, h.low⟩
theorem RT.put_kg {w : World} {T base g c n : Nat} {l : List Bk} (h : RT w T base (.slice (some ⟨g, 0, none⟩) n c) l) (i : Nat) (vs : List Value) : Kx badR w (w.setCells g i vs) := by
  obtain ⟨cur, hc⟩ := own_tag h.row (q := g) rfl
  exact Kx.kp ((Kp.refl g w).setCs i vs) hc rfl
theorem step_call2 {P : Program} {ops : Array Oper} {o : Oper} {a : Act} {w : World} {K : Act → World → Prop} {Q : Exit → Act → World → Prop} {E : Prop} (hgd : o.guard = none) (f : Nat) (x y : Operand) (t u : TypeId) (ho : o.op = .call { callee := .value (.func f), args := #[x, y], argTypes := #[t, u] })
    (v v' : Value) (hx : a.eval x = v) (hy : a.eval y = v') (ent : ∀ args w, (callFunc f args).run P w = .ok (.enter f args) w) (h : Calls P f #[v, v'] w fun e w' => ∃ r, e = .returned r ∧ K (a.put o.dst r) w') :
    if Region.wanted o (yielded ops a.tmps) = true then Oper.wp P o a w K Q else E := by
  have hw : Region.wanted o (yielded ops a.tmps) = true := by simp [Region.wanted, hgd]
  rw [if_pos hw]
  unfold Oper.wp
  have hf : a.eval (.func f) = .func (.func f) #[] #[] := rfl
  simp only [execOp, ho, resolve, invoke, hf, hx, hy, List.map_toArray, List.map_cons, List.map_nil, Sem.run_bind, Sem.run_pure, Result.andThen_ok, Array.append_empty, Array.empty_append, ent, Oper.upon, Deferred.ofValue]
  refine h.mono ?_
  rintro e w' ⟨r, rfl, hk⟩
  exact hk
theorem okA_no {cost now : Int} (h : okA cost now = false) : cost < 0 ∨ (0 ≤ cost ∧ 1000000000 < cost) ∨ (0 ≤ cost ∧ cost ≤ 1000000000 ∧ timI now = false) := by
  unfold okA at h
  unfold timI
  simp only [decide_eq_false_iff_not] at h ⊢
  omega
theorem okA_yes {cost now : Int} (h : okA cost now = true) : timI now = true := by
  have := okA_time h
  unfold timI
  simp
  omega
set_option maxRecDepth 20000 in
set_option maxHeartbeats 4000000 in
theorem rat_any (N : Int) (T base : Nat) (sv : Value) (l : List Bk) (nm : List UInt8) (cost now : Int) (w : World) (h : RT w T base sv l) (hk : Tok N l) (hbs : base ≤ w.heap.size) :
    Calls Try.prog 45 #[.pointer (some ⟨T, 0, none⟩), .string (tx nm), .int .i64 cost, .int .i64 now] w fun e w' => e = .returned (.tuple #[.int .i64 (atI l nm cost now).1, .int .i64 (atI l nm cost now).2.1]) ∧ (∃ sv', RT w' T base sv' (atI l nm cost now).2.2) ∧ Below base w w' ∧ Kx badR w w' := by
  have HT : Hid (RT w T base sv l) := h
  have HK : Hid (Tok N l) := hk
  have HBS : Hid (base ≤ w.heap.size) := hbs
  have HFI : Hid (Calls Try.prog 44 #[.pointer (some ⟨T, 0, none⟩), .string (tx nm)] w fun e w' => e = .returned (.int .i64 (ixBI l nm)) ∧ w' = w) := rfind_any T base sv l nm w h hk.len
  have HTI : Hid (Calls Try.prog 43 #[.int .i64 now] w fun e w' => e = .returned (.bool (timI now)) ∧ w' = w) := rtime_any now w
  clear h hk hbs
  cases ha : okA cost now with
  | false =>
    have HR : Hid (atI l nm cost now = (0, 1, l)) := by show _ = _; unfold atI; rw [if_pos ha]
    rcases okA_no ha with c | ⟨c1, c2⟩ | ⟨c1, c2, c3⟩
    · clear ha
      go_enter Try.func45, Try.ntmps45
      go_wp2_with fail
      go_ret2
      rw [HR.out]
      exact ⟨rfl, ⟨sv, HT.out⟩, Below.refl _ _, Kx.refl _ _⟩
    · clear ha
      go_enter Try.func45, Try.ntmps45
      go_wp2_with fail
      go_ret2
      rw [HR.out]
      exact ⟨rfl, ⟨sv, HT.out⟩, Below.refl _ _, Kx.refl _ _⟩
    · clear ha
      rw [c3] at HTI
      clear c3
      go_enter Try.func45, Try.ntmps45
      go_wp2_with (go_at_call 43; refine HTI.out.mono ?_; rintro e w1 ⟨rfl, hw1⟩; rw [hw1]; clear hw1)
      go_ret2
      rw [HR.out]
      exact ⟨rfl, ⟨sv, HT.out⟩, Below.refl _ _, Kx.refl _ _⟩
  | true =>
    have hA := okA_time ha
    rw [okA_yes ha] at HTI
    obtain ⟨a1, a2, a3, a4⟩ := hA
    cases hx : lookB l nm with
    | none =>
      have HR : Hid (atI l nm cost now = (0, 5, l)) := by show _ = _; unfold atI; rw [if_neg (by rw [ha]; decide), hx]
      have e1 : ixBI l nm = -1 := by unfold ixBI; rw [lookB_none hx]
      rw [e1] at HFI
      clear ha hx e1
      go_enter Try.func45, Try.ntmps45
      go_wp2_with (first | (go_at_call 43; refine HTI.out.mono ?_; rintro e w1 ⟨rfl, hw1⟩; rw [hw1]; clear hw1) | (go_at_call 44; refine HFI.out.mono ?_; rintro e w1 ⟨rfl, hw1⟩; rw [hw1]; clear hw1))
      go_ret2
      rw [HR.out]
      exact ⟨rfl, ⟨sv, HT.out⟩, Below.refl _ _, Kx.refl _ _⟩
    | some kb =>
      obtain ⟨k, b⟩ := kb
      obtain ⟨hx1, hx2, hx3⟩ := lookB_some hx
      have HR : Hid (atI l nm cost now = ((k : Int), 0, l.set k (fillI b now))) := by show _ = _; unfold atI; rw [if_neg (by rw [ha]; decide), hx]
      have e1 : ixBI l nm = (k : Int) := by unfold ixBI; rw [hx1]
      rw [e1] at HFI
      have hlt : k < l.length := (List.getElem?_eq_some_iff.1 hx2).1
      obtain ⟨g, c, e⟩ := own_form HT.out.row (by omega)
      subst e
      have HX : Hid (l[k]? = some b ∧ k < l.length) := ⟨hx2, hlt⟩
      have HFL : Hid (∀ W, Calls Try.prog 52 #[bkV b, .int .i64 now] W fun e w' => e = .returned (bkV (fillI b now)) ∧ Below W.heap.size W w') := fun W => rfill_any N b now W (HK.out.at hx2) a4
      obtain ⟨c0, c1, c2, c3, c4, c5, c6, c7, c8⟩ := own_bc HT.out.row hx2
      have d0 : w.cell? ⟨T, 0, none⟩ = some (.slice (some ⟨g, 0, none⟩) l.length c) := by rw [cell_of_row _ _ _ _ _ _ HT.out.tab]; rfl
      obtain ⟨n, hn⟩ : ∃ n, l.length = n := ⟨_, rfl⟩
      have HN : Hid (l.length = n) := hn
      have hk' : (k : Int) < (n : Int) := by omega
      have hcap : (n : Int) ≤ (c : Int) := by have := own_cap HT.out.row; omega
      have hl' : (n : Int) ≤ 16 := by have := HK.out.len; omega
      rw [hn] at d0
      generalize fillI b now = b' at HFL HR
      clear ha hx hx1 hx2 hx3 e1 hlt hn
      go_enter Try.func45, Try.ntmps45
      go_wp2_with fail
      refine HTI.out.mono ?_
      rintro e w1 ⟨rfl, hw1⟩
      rw [hw1]; clear hw1
      go_wp2_with fail
      refine HFI.out.mono ?_
      rintro e w1 ⟨rfl, hw1⟩
      rw [hw1]; clear hw1 HFI HTI
      go_wp2_with fail
      obtain ⟨X, hX⟩ : ∃ X : Array Value, X = (bk9 b').toArray := ⟨_, rfl⟩
      have HX9 : Hid (X.toList = bk9 b') := by show _ = _; rw [hX]
      have HFL2 : Hid (∀ W, Calls Try.prog 52 #[.agg #[.string (tx b.nm), .int .i64 b.rate, .int .i64 b.burst, .int .i64 b.has, .int .i64 b.part, .int .i64 b.tim, .int .i64 b.tk, .int .i64 b.rf, .int .i64 b.cs], .int .i64 now] W fun e w' => e = .returned (.agg X) ∧ Below W.heap.size W w') := by rw [hX]; exact HFL.out
      have hs9 : X.size = 9 := by rw [hX]; rfl
      clear HFL hX
      have HLT : Hid (T < w.heap.size ∧ g < w.heap.size) := ⟨(Array.getElem?_eq_some_iff.1 HT.out.tab).1, (own_lt HT.out.row).2⟩
      have HST : Hid (∀ W, RT W T base (.slice (some ⟨g, 0, none⟩) l.length c) l → (storeCells ⟨g, k * 9, none⟩ X.toList 0).run Try.prog W = .ok () (W.setCells g (k * 9) X.toList)) := by
        intro W hW
        have ht := own_there bk9_len hW.row HX.out.2
        have h := run_storeCells_cells (P := Try.prog) g (k * 9) X.toList 0 W (fun j hj => by simpa using (ht j (by simpa [hs9] using hj)).1) (fun j hj => by simpa using (ht j (by simpa [hs9] using hj)).2) (by rw [HX9.out]; exact bk9_one b')
        simpa using h
      go_region_law (refine step_call2 rfl 52 (.tmp 38) (.tmp 39) 78 2 rfl (.agg #[.string (tx b.nm), .int .i64 b.rate, .int .i64 b.burst, .int .i64 b.has, .int .i64 b.part, .int .i64 b.tim, .int .i64 b.tk, .int .i64 b.rf, .int .i64 b.cs]) (.int .i64 now) (by simp [Act.eval, Act.put]) (by simp [Act.eval, Act.put]) (enters_of Try.func52 (by kernel_rfl) rfl) ?_; refine (HFL2.out _).mono ?_; rintro e w8 ⟨rfl, hb8⟩; (have HT8 : Hid (RT w8 T base (.slice (some ⟨g, 0, none⟩) l.length c) l) := HT.out.later (((Below.refl _ w).drew).trans hb8) (Nat.le_refl _)); (have K8 : w8.cell? ⟨T, 0, none⟩ = some (.slice (some ⟨g, 0, none⟩) n c) := HN.out ▸ (HT8.out.ten HX.out.1).1); (have hst := HST.out w8 HT8.out); (have HB8 : Hid (Below w.heap.size w w8) := ((Below.refl _ w).drew).trans hb8); clear hb8; refine ⟨_, rfl, ?_⟩)
      all_goals
        have HE9 : Hid (RT (w8.setCells g (k * 9) X.toList) T base (.slice (some ⟨g, 0, none⟩) (l.set k b').length c) (l.set k b') ∧ Below base w (w8.setCells g (k * 9) X.toList) ∧ Kx badR w (w8.setCells g (k * 9) X.toList)) := by
          rw [HX9.out]
          exact ⟨HT8.out.put HX.out.2 b', (HB8.out.mono HBS.out).trans (((Kp.refl g w8).setCs _ _).below (own_lt HT8.out.row).1), (Kx.of HB8.out (Nat.le_refl _)).trans (HT8.out.put_kg _ _)⟩
        clear hst K8
        generalize w8.setCells g (k * 9) X.toList = W9 at HE9 ⊢
        go_wp2_with fail
        go_ret2
        rw [HR.out]
        exact ⟨rfl, ⟨_, HE9.out.1⟩, HE9.out.2⟩
end Go.Proofs.Ytpobfcmbbabchaa
