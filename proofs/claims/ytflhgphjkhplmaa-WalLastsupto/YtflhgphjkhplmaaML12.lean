import Derived.Test.YtflhgphjkhplmaaML11
/- The model's put, walked. -/
namespace Go.Proofs.Ytflhgphjkhplmaa.D
open Go.RowKit
set_option linter.unusedVariables false
set_option linter.unusedSimpArgs false

variable {w w' w2 : World} {R : Nat} {lv lv' : Value} {m m' : List Mt} {sy : Int}
/-- What put's loop keeps. -/
structure PI (W wx : World) (v : Value) (x : Mt) (m : List Mt) (i : Nat) : Prop where
  own : wx.ownsRow W.heap.size 121 4 v i (fl mt4 (m.take i))
  be : Below W.heap.size W wx
  lt : ∀ (j : Nat) (p : Mt), j < i → m[j]? = some p → ltB p.x.nm x.x.nm = true
theorem PI.drewN {W wx : World} {v : Value} {x : Mt} {i : Nat} (h : PI W wx v x m i) (k : Nat) : PI W (wx.drewN k) v x m i := ⟨h.own, ⟨h.be.os, h.be.tape, h.be.output, h.be.size, h.be.block⟩, h.lt⟩
set_option maxRecDepth 20000 in
set_option maxHeartbeats 8000000 in
theorem MS.put (h : MS w R lv m sy) (hl : (m.length : Int) ≤ 1000000) {x : Mt} (hx : ML w x) (hd : ∀ q, GT x q → ¬ GM R lv m q) :
    Calls Try.prog 77 #[.pointer (some ⟨R, 0, none⟩), .agg (mt4 x).toArray] w fun e w' => e = .returned (.tuple #[]) ∧ ∃ lv', MS w' R lv' (insM x m) sy ∧ Fr (fun q => GM R lv m q ∨ GT x q) (GM R lv' (insM x m)) w w' := by
  obtain ⟨W, hW⟩ : ∃ W, w.alloc (.cells (mt4 x).toArray 121) = W := ⟨_, rfl⟩
  have hB : Below w.heap.size w W := by rw [← hW]; exact bel1 _ _
  have hp : W.heap[w.heap.size]? = some (.cells (mt4 x).toArray 121 (0, 0)) := by rw [← hW]; exact Go.heap_alloc_new _ _
  have hz : W.heap.size = w.heap.size + 1 := by rw [← hW]; simp
  obtain ⟨p, hpp⟩ : ∃ p, w.heap.size = p := ⟨_, rfl⟩
  obtain ⟨sa, cap, hsv⟩ := own_slice h.row
  obtain ⟨n, hn⟩ : ∃ n, m.length = n := ⟨_, rfl⟩
  have HN : Hid (m.length = n) := hn
  rw [hn] at hl hsv
  have HSV : Hid (lv = .slice sa n cap) := hsv
  have HS : Hid (MS w R lv m sy ∧ ML w x ∧ ∀ q, GT x q → ¬ GM R lv m q) := ⟨h, hx, hd⟩
  have HSW : Hid (MS W R lv m sy) := h.newer hB
  have HBW : Hid (Below w.heap.size w W ∧ W.heap.size = p + 1 ∧ w.heap.size = p) := ⟨hB, by rw [hz, hpp], hpp⟩
  rw [hpp] at hp
  have HBX : Hid (∀ V, Below W.heap.size W V → V.cell? ⟨p, 0, none⟩ = some (.string (tx x.x.nm)) ∧ V.cell? ⟨p, 1, none⟩ = some (.slice x.da x.x.b.length x.dc) ∧ V.cell? ⟨p, 2, none⟩ = some (.int .i64 (safeN x.x.b x.x.ws)) ∧ V.cell? ⟨p, 3, none⟩ = some (.slice x.ba x.x.ws.length x.bc)) := fun V hV => by
    have r := (hV.block p (Array.getElem?_eq_some_iff.1 hp).1).trans hp
    exact ⟨by rw [cell_of_row _ _ _ _ _ _ r]; rfl, by rw [cell_of_row _ _ _ _ _ _ r]; rfl, by rw [cell_of_row _ _ _ _ _ _ r]; rfl, by rw [cell_of_row _ _ _ _ _ _ r]; rfl⟩
  have c0 := HSW.out.cells.1
  rw [hsv] at c0
  obtain ⟨i0, hi0, hz0, hz1, hz2⟩ := i43_ex
  obtain ⟨y0, y1, y2, y3⟩ := HBX.out W (Below.refl _ _)
  have e4 : (mt4 x).toArray = #[.string (tx x.x.nm), .slice x.da x.x.b.length x.dc, .int .i64 (safeN x.x.b x.x.ws), .slice x.ba x.x.ws.length x.bc] := rfl
  rw [e4] at hW ⊢
  clear h hx hd hB hp hz hsv hn e4
  go_enter Try.func77, Try.ntmps77
  go_upto_region 1 with (fail)
  clear hW hpp
  go_wp2_with fail
  go_loopw [4, 5] (fun u v wr => ∃ i : Nat, i ≤ n ∧ v = .int .i64 i ∧ Hid (PI W wr u x m i)) (fun u v wr => n - (intOf v).toNat)
  case atStart => exact ⟨0, by omega, rfl, World.ownsRow_nil _ _ _ _, Below.refl _ _, fun j p hj => (Nat.not_lt_zero _ hj).elim⟩
  case round =>
    obtain ⟨i, hi, rfl, HI⟩ := hrel
    obtain ⟨a8, c8, hu⟩ := own_slice HI.out.own
    subst hu
    have HII : Hid (i ≤ n) := hi
    have d0 := (HSW.out.newer HI.out.be).cells.1
    rw [HSV.out] at d0
    obtain ⟨z0, -, -, -⟩ := HBX.out wr HI.out.be
    by_cases hgo : i < n ∧ ∀ p, m[i]? = some p → ltB p.x.nm x.x.nm = true
    · obtain ⟨hin, hpp⟩ := hgo
      obtain ⟨r, hr⟩ : ∃ r, m[i]? = some r := ⟨_, List.getElem?_eq_getElem (by have := HN.out; omega)⟩
      have hrow := (HSW.out.newer HI.out.be).row
      rw [HSV.out, HN.out] at hrow
      obtain ⟨g, cp, hv⟩ := own_form hrow (by omega)
      have hsa : sa = some ⟨g, 0, none⟩ := (Value.slice.inj hv).1
      subst hsa
      have hrow' : wr.ownsRow 0 121 4 (.slice (some ⟨g, 0, none⟩) n cap) m.length (fl mt4 m) := by rw [HN.out]; exact hrow
      obtain ⟨e0, e1, e2, e3, -⟩ := own_mt hrow' hr
      have hcap : (n : Int) ≤ (cap : Int) := by have := own_cap hrow; omega
      have hlt' : (i : Int) < (n : Int) := by omega
      have hbl' : Op.bytesLess (tx r.x.nm).toList (tx x.x.nm).toList = true := by rw [tx_list, tx_list]; exact hpp r hr
      have HR : Hid (m[i]? = some r ∧ ltB r.x.nm x.x.nm = true ∧ i < n) := ⟨hr, hpp r hr, hin⟩
      clear hi hin hpp hr hrow hrow' hv
      go_upto_region 3 with (fail)
      go_quiet (fail)
      obtain ⟨W3, hW3⟩ : ∃ W3, wr.drewN nq = W3 := ⟨_, rfl⟩
      have HI3 : Hid (PI W W3 (.slice a8 i c8) x m i) := by rw [← hW3]; exact HI.out.drewN _
      have f0 : W3.cell? ⟨g, i * 4, none⟩ = some (.string (tx r.x.nm)) := by rw [← hW3]; exact e0
      have f1 : W3.cell? ⟨g, i * 4 + 1, none⟩ = some (.slice r.da r.x.b.length r.dc) := by rw [← hW3]; exact e1
      have f2 : W3.cell? ⟨g, i * 4 + 2, none⟩ = some (.int .i64 (safeN r.x.b r.x.ws)) := by rw [← hW3]; exact e2
      have f3 : W3.cell? ⟨g, i * 4 + 3, none⟩ = some (.slice r.ba r.x.ws.length r.bc) := by rw [← hW3]; exact e3
      have f4 : W3.cell? ⟨R, 0, none⟩ = some (.slice (some ⟨g, 0, none⟩) n cap) := by rw [← hW3]; exact d0
      rw [hW3]
      clear hW3 e0 e1 e2 e3 d0 z0
      go_wp2_with (at_builtin; (refine wpList_append_own _ rfl (.tmp 28) (.tmp 36) 41 rfl W.heap.size 121 i0 zF 4 72 under27 hi0 hz0 hz1 hz2 rfl (by decide) (.slice a8 i c8) i (fl mt4 (m.take i)) rfl (HI3.out.own.alloc _) ⟨W3.heap.size, 0, none⟩ 1 1 (mt4 r) rfl rfl (cell_new4 (l := mt4 r)) (mt4_one _) (by have := HII.out; unfold maxLen; omega) (by have := HII.out; omega) (by have := HI3.out.be.size; simp; omega) ?_; intro v3 w3 ho3 hg3 _; (have H3 : Hid (w3.ownsRow W.heap.size 121 4 v3 (i + 1) (fl mt4 (m.take i) ++ mt4 r) ∧ Below W.heap.size W w3) := ⟨ho3, (HI3.out.be.alloc HI3.out.be.size _).grown hg3 (by have := HI3.out.be.size; simp; omega) (fun q hq => (HI3.out.own.lt q hq).1)⟩); clear ho3 hg3))
      go_roundw
      case rel =>
        refine ⟨i + 1, by have := HR.out.2.2; omega, by go_num, ?_, H3.out.2, fun j p hj hp => ?_⟩
        · have := H3.out.1
          rw [(drop_at HR.out.1).2, fl_app]
          simpa [fl] using this
        · rcases (show j = i ∨ j < i from by omega) with rfl | hj
          · rw [HR.out.1] at hp
            rw [← Option.some.inj hp]
            exact HR.out.2.1
          · exact HI3.out.lt j p hj hp
      case measure => have := HR.out.2.2; simp [intOf]; omega
    · have HEX : Hid (∀ p, m[i]? = some p → ltB p.x.nm x.x.nm = false) := fun p hp => by
        cases hq : ltB p.x.nm x.x.nm with
        | false => rfl
        | true =>
          have h1 := (List.getElem?_eq_some_iff.1 hp).1
          exact (hgo ⟨by have := HN.out; omega, fun p' hp' => by rw [hp] at hp'; rw [← Option.some.inj hp']; exact hq⟩).elim
      have HFIN : Hid (∀ (v : Value) (w4 : World), Below W.heap.size W w4 → w4.ownsRow W.heap.size 121 4 v (n + 1) (fl mt4 (m.take i ++ x :: m.drop i)) → ∃ lv', MS (w4.setCell ⟨R, 0, none⟩ v) R lv' (insM x m) sy ∧ Fr (fun q => GM R lv m q ∨ GT x q) (GM R lv' (insM x m)) w (w4.setCell ⟨R, 0, none⟩ v)) := fun v w4 hb4 ho4 => by
        obtain ⟨b1, b2, b3⟩ := HBW.out
        have hb5 : Below w.heap.size w w4 := b1.trans (hb4.mono b1.size)
        obtain ⟨k1, k2⟩ := HS.out.1.ins (i := i) HS.out.2.1 HS.out.2.2 hb5 (by rw [HN.out]; exact own_low ho4 b1.size)
        rw [insM_at x m i (by have := HN.out; have := HII.out; omega) HI.out.lt HEX.out]
        exact ⟨_, k1, k2⟩
      have HTF : Hid (∀ w3 : World, Below W.heap.size W w3 → w3.frozen? ⟨R, 0, none⟩ = false) := fun w3 hb3 => (HSW.out.newer hb3).cells.2.2 0
      have HT0 : Hid (∀ w3 : World, Below W.heap.size W w3 → w3.cell? ⟨R, 0, none⟩ = some (.slice sa n cap)) := fun w3 hb3 => by
        have := (HSW.out.newer hb3).cells.1
        rw [HSV.out] at this
        exact this
      have hrow := HSW.out.row
      rw [HSV.out, HN.out] at hrow
      rcases (show (sa = none ∧ n = 0 ∧ cap = 0) ∨ ∃ g, sa = some ⟨g, 0, none⟩ by
        rcases hrow.2 with ⟨h2, h3⟩ | ⟨g, c, cur, h2, _⟩
        · exact .inl ⟨(Value.slice.inj h2).1, h3, (Value.slice.inj h2).2.2⟩
        · exact .inr ⟨g, (Value.slice.inj h2).1⟩) with ⟨rfl, rfl, rfl⟩ | ⟨g, rfl⟩
      · obtain rfl : i = 0 := by omega
        clear hgo hrow hi
        go_upto_region 3 with (fail)
        go_quiet (fail)
        obtain ⟨W3, hW3⟩ : ∃ W3, wr.drewN nq = W3 := ⟨_, rfl⟩
        have HI3 : Hid (PI W W3 (.slice a8 0 c8) x m 0) := by rw [← hW3]; exact HI.out.drewN _
        obtain ⟨q0, q1, q2, q3⟩ := HBX.out W3 HI3.out.be
        rw [hW3]
        clear hW3 d0 z0
        go_wp2_with (first
          | (at_builtin; (refine wpList_append_own _ rfl (.tmp 38) (.tmp 40) 41 rfl W.heap.size 121 i0 zF 4 72 under27 hi0 hz0 hz1 hz2 rfl (by decide) (.slice a8 0 c8) 0 (fl mt4 (m.take 0)) rfl (HI3.out.own.alloc _) ⟨W3.heap.size, 0, none⟩ 1 1 (mt4 x) rfl rfl (cell_new4 (l := mt4 x)) (mt4_one _) (by have := HII.out; unfold maxLen; omega) (by have := HII.out; omega) (by have := HI3.out.be.size; simp; omega) ?_; intro v3 w3 ho3 hg3 _; (have H3 : Hid (w3.ownsRow W.heap.size 121 4 v3 (0 + 1) (fl mt4 (m.take 0 ++ [x])) ∧ Below W.heap.size W w3) := ⟨by (show World.ownsRow _ _ _ _ _ _ _); (rw [fl_app]); simpa [fl] using ho3, (HI3.out.be.alloc HI3.out.be.size _).grown hg3 (by have := HI3.out.be.size; simp; omega) (fun q hq => (HI3.out.own.lt q hq).1)⟩); (obtain ⟨a3, c3, hv3⟩ := own_slice H3.out.1); subst hv3; (have k0 : w3.cell? ⟨R, 0, none⟩ = some (.slice none 0 0) := HT0.out w3 H3.out.2); clear ho3 hg3))
          | (at_builtin; (refine wpList_append_own_none rfl (.tmp 42) (.tmp 48) 41 rfl W.heap.size 121 i0 4 under27 hi0 _ (0 + 1) _ rfl H3.out.1 rfl ?_; (have k2 : w3.frozen? ⟨R, 0, none⟩ = false := HTF.out w3 H3.out.2))))
        go_end0
        refine ⟨rfl, HFIN.out _ _ H3.out.2 ?_⟩
        have hm : m = [] := List.eq_nil_of_length_eq_zero HN.out
        have := H3.out.1
        rw [hm] at this ⊢
        exact this
      · have HCE : Hid (∀ (w3 : World), Below W.heap.size W w3 → ∀ (j : Nat) (u : Value), (fl mt4 (m.drop i))[j]? = some u → w3.cell? ((⟨g, i * 4, none⟩ : Addr).add j) = some u) := fun w3 hb3 => by
          have h1 := (HSW.out.newer hb3).row
          rw [HSV.out] at h1
          exact row_part h1 i fun j x hx => by rw [List.getElem?_drop] at hx; exact hx
        have hcap : (n : Int) ≤ (cap : Int) := by have := own_cap hrow; omega
        have hin' : (i : Int) ≤ (n : Int) := by omega
        by_cases hin : i < n
        · obtain ⟨r, hr⟩ : ∃ r, m[i]? = some r := ⟨_, List.getElem?_eq_getElem (by have := HN.out; omega)⟩
          have hrow2 := (HSW.out.newer HI.out.be).row
          rw [HSV.out] at hrow2
          obtain ⟨e0, -, -, -, -⟩ := own_mt hrow2 hr
          have hlt' : (i : Int) < (n : Int) := by omega
          have hbl' : Op.bytesLess (tx r.x.nm).toList (tx x.x.nm).toList = false := by rw [tx_list, tx_list]; exact HEX.out r hr
          have HR : Hid (i < n) := hin
          clear hgo hrow hrow2 hi hr hin
          go_upto_region 3 with (fail)
          go_quiet (fail)
          obtain ⟨W3, hW3⟩ : ∃ W3, wr.drewN nq = W3 := ⟨_, rfl⟩
          have HI3 : Hid (PI W W3 (.slice a8 i c8) x m i) := by rw [← hW3]; exact HI.out.drewN _
          obtain ⟨q0, q1, q2, q3⟩ := HBX.out W3 HI3.out.be
          rw [hW3]
          clear hW3 d0 z0 e0
          go_wp2_with (first
            | (at_builtin; (refine wpList_append_own _ rfl (.tmp 38) (.tmp 40) 41 rfl W.heap.size 121 i0 zF 4 72 under27 hi0 hz0 hz1 hz2 rfl (by decide) (.slice a8 i c8) i (fl mt4 (m.take i)) rfl (HI3.out.own.alloc _) ⟨W3.heap.size, 0, none⟩ 1 1 (mt4 x) rfl rfl (cell_new4 (l := mt4 x)) (mt4_one _) (by have := HII.out; unfold maxLen; omega) (by have := HII.out; omega) (by have := HI3.out.be.size; simp; omega) ?_; intro v3 w3 ho3 hg3 _; (have H3 : Hid (w3.ownsRow W.heap.size 121 4 v3 (i + 1) (fl mt4 (m.take i ++ [x])) ∧ Below W.heap.size W w3) := ⟨by (show World.ownsRow _ _ _ _ _ _ _); (rw [fl_app]); simpa [fl] using ho3, (HI3.out.be.alloc HI3.out.be.size _).grown hg3 (by have := HI3.out.be.size; simp; omega) (fun q hq => (HI3.out.own.lt q hq).1)⟩); (obtain ⟨a3, c3, hv3⟩ := own_slice H3.out.1); subst hv3; (have k0 : w3.cell? ⟨R, 0, none⟩ = some (.slice (some ⟨g, 0, none⟩) n cap) := HT0.out w3 H3.out.2); clear ho3 hg3))
            | (at_builtin; (refine wpList_append_own _ rfl (.tmp 42) (.tmp 48) 41 rfl W.heap.size 121 i0 zF 4 72 under27 hi0 hz0 hz1 hz2 rfl (by decide) (.slice a3 (i + 1) c3) (i + 1) _ rfl H3.out.1 ⟨g, i * 4, none⟩ (n - i) (cap - i) (fl mt4 (m.drop i)) rfl (by rw [fl_len mt4_len, List.length_drop, HN.out]) (HCE.out w3 H3.out.2) (fl_one mt4_one _) (by have := HII.out; unfold maxLen; omega) (by have := HII.out; omega) H3.out.2.size ?_; intro v4 w4 ho4 hg4 _; (have H4 : Hid (w4.ownsRow W.heap.size 121 4 v4 (n + 1) (fl mt4 (m.take i ++ x :: m.drop i)) ∧ Below W.heap.size W w4) := ⟨by (have h := ho4); (rw [← fl_app, show i + 1 + (n - i) = n + 1 by (have := HII.out; omega), List.append_assoc] at h); exact h, H3.out.2.grown hg4 H3.out.2.size (fun q hq => (H3.out.1.lt q hq).1)⟩); (obtain ⟨a4, c4, hv4⟩ := own_slice H4.out.1); subst hv4; (have k1 : w4.cell? ⟨R, 0, none⟩ = some (.slice (some ⟨g, 0, none⟩) n cap) := HT0.out w4 H4.out.2); (have k2 : w4.frozen? ⟨R, 0, none⟩ = false := HTF.out w4 H4.out.2); clear ho4 hg4)))
          go_end0
          exact ⟨rfl, HFIN.out _ _ H4.out.2 H4.out.1⟩
        · obtain rfl : i = n := by omega
          clear hgo hrow hin hin' hi
          go_upto_region 3 with (fail)
          go_quiet (fail)
          obtain ⟨W3, hW3⟩ : ∃ W3, wr.drewN nq = W3 := ⟨_, rfl⟩
          have HI3 : Hid (PI W W3 (.slice a8 i c8) x m i) := by rw [← hW3]; exact HI.out.drewN _
          obtain ⟨q0, q1, q2, q3⟩ := HBX.out W3 HI3.out.be
          rw [hW3]
          clear hW3 d0 z0
          obtain ⟨o, ho'⟩ : ∃ o, (if cap = i then some (⟨g, 0, none⟩ : Addr) else some ⟨g, i * 4, none⟩) = some ⟨g, o, none⟩ := by
            split
            · exact ⟨0, rfl⟩
            · exact ⟨i * 4, rfl⟩
          go_wp2_with (first
            | (at_builtin; (refine wpList_append_own _ rfl (.tmp 38) (.tmp 40) 41 rfl W.heap.size 121 i0 zF 4 72 under27 hi0 hz0 hz1 hz2 rfl (by decide) (.slice a8 i c8) i (fl mt4 (m.take i)) rfl (HI3.out.own.alloc _) ⟨W3.heap.size, 0, none⟩ 1 1 (mt4 x) rfl rfl (cell_new4 (l := mt4 x)) (mt4_one _) (by have := HII.out; unfold maxLen; omega) (by have := HII.out; omega) (by have := HI3.out.be.size; simp; omega) ?_; intro v3 w3 ho3 hg3 _; (have H3 : Hid (w3.ownsRow W.heap.size 121 4 v3 (i + 1) (fl mt4 (m.take i ++ [x])) ∧ Below W.heap.size W w3) := ⟨by (show World.ownsRow _ _ _ _ _ _ _); (rw [fl_app]); simpa [fl] using ho3, (HI3.out.be.alloc HI3.out.be.size _).grown hg3 (by have := HI3.out.be.size; simp; omega) (fun q hq => (HI3.out.own.lt q hq).1)⟩); (obtain ⟨a3, c3, hv3⟩ := own_slice H3.out.1); subst hv3; (have k0 : w3.cell? ⟨R, 0, none⟩ = some (.slice (some ⟨g, 0, none⟩) i cap) := HT0.out w3 H3.out.2); clear ho3 hg3))
            | (at_builtin; (refine wpList_append_own _ rfl (.tmp 42) (.tmp 48) 41 rfl W.heap.size 121 i0 zF 4 72 under27 hi0 hz0 hz1 hz2 rfl (by decide) (.slice a3 (i + 1) c3) (i + 1) _ rfl H3.out.1 ⟨g, o, none⟩ 0 (cap - i) (fl mt4 (m.drop i)) rfl (by rw [fl_len mt4_len, List.length_drop, HN.out, Nat.sub_self]) (fun q u hu => by rw [List.drop_of_length_le (by rw [HN.out]; omega)] at hu; simp [fl] at hu) (fl_one mt4_one _) (by have := HII.out; unfold maxLen; omega) (by have := HII.out; omega) H3.out.2.size ?_; intro v4 w4 ho4 hg4 _; (have H4 : Hid (w4.ownsRow W.heap.size 121 4 v4 (i + 1) (fl mt4 (m.take i ++ x :: m.drop i)) ∧ Below W.heap.size W w4) := ⟨by (have h := ho4); (rw [← fl_app, show i + 1 + 0 = i + 1 by (have := HII.out; omega), List.append_assoc] at h); exact h, H3.out.2.grown hg4 H3.out.2.size (fun q hq => (H3.out.1.lt q hq).1)⟩); (obtain ⟨a4, c4, hv4⟩ := own_slice H4.out.1); subst hv4; (have k1 : w4.cell? ⟨R, 0, none⟩ = some (.slice (some ⟨g, 0, none⟩) i cap) := HT0.out w4 H4.out.2); (have k2 : w4.frozen? ⟨R, 0, none⟩ = false := HTF.out w4 H4.out.2); clear ho4 hg4)))
          go_end0
          exact ⟨rfl, HFIN.out _ _ H4.out.2 H4.out.1⟩
end Go.Proofs.Ytflhgphjkhplmaa.D

/- The model's disk, between calls; one file is turned. -/
namespace Go.Proofs.Ytflhgphjkhplmaa.D
open Go.RowKit
set_option linter.unusedVariables false
set_option linter.unusedSimpArgs false

variable {w w' w2 : World} {R : Nat} {lv lv' : Value} {m m' : List Mt} {sy : Int} {G : Nat → Prop} {dl : List Fd} {s : List UInt8}
def xsM (m : List Mt) : List Fd := m.map Mt.x
/-- The model's disk, between calls. -/
def MR (w : World) (R : Nat) (G : Nat → Prop) (sy : Int) (dl : List Fd) : Prop := ∃ lv m, MS w R lv m sy ∧ xsM m = dl ∧ ∀ q, G q ↔ GM R lv m q
theorem MR.lt (h : MR w R G sy dl) : ∀ q, G q → q < w.heap.size := by
  obtain ⟨lv, m, h1, -, h3⟩ := h
  exact fun q hq => h1.lt q ((h3 q).1 hq)
theorem MR.at' (h : MR w R G sy dl) (hk : ∀ q, G q → w'.heap[q]? = w.heap[q]?) : MR w' R G sy dl := by
  obtain ⟨lv, m, h1, h2, h3⟩ := h
  exact ⟨lv, m, h1.at' fun q hq => hk q ((h3 q).2 hq), h2, h3⟩
theorem MR.newer (h : MR w R G sy dl) (hb : Below w.heap.size w w') : MR w' R G sy dl := h.at' fun q hq => hb.block q (h.lt q hq)
theorem MS.mr (h : MS w R lv m sy) : MR w R (GM R lv m) sy (xsM m) := ⟨lv, m, h, rfl, fun q => Iff.rfl⟩
theorem xsM_len (m : List Mt) : (xsM m).length = m.length := by simp [xsM]
theorem xsM_at {m : List Mt} {k : Nat} {t : Mt} (h : m[k]? = some t) : (xsM m)[k]? = some t.x := by unfold xsM; rw [List.getElem?_map, h]; rfl
theorem ixM_some : ∀ {m : List Mt} {i k : Nat}, ixM s m i = some k → i ≤ k ∧ ∃ t, m[k - i]? = some t ∧ t.x.nm = s ∧ lkF s (xsM m) = some t.x ∧ outF s (xsM m) = xsM (m.take (k - i) ++ m.drop (k - i + 1)) ∧ ∀ t' b' ws', t'.x = ⟨s, b', ws'⟩ → setF s b' ws' (xsM m) = xsM (m.set (k - i) t')
  | [], i, k, h => by simp [ixM] at h
  | t :: r, i, k, h => by
    unfold ixM at h
    split at h
    · rename_i e
      obtain rfl := Option.some.inj h
      refine ⟨Nat.le_refl _, t, by simp, e, ?_, ?_, fun t' b' ws' e' => ?_⟩
      · show lkF s (t.x :: xsM r) = _
        rw [lkF, if_pos e.symm]
      · show outF s (t.x :: xsM r) = _
        rw [outF, if_pos e.symm, Nat.sub_self]
        rfl
      · show setF s b' ws' (t.x :: xsM r) = _
        rw [setF, if_pos e.symm, Nat.sub_self, e]
        show _ = t'.x :: xsM r
        rw [e']
    · rename_i e
      obtain ⟨h1, u, h2, h3, h4, h5, h6⟩ := ixM_some h
      have hki : k - i = (k - (i + 1)) + 1 := by omega
      refine ⟨by omega, u, by rw [hki, List.getElem?_cons_succ]; exact h2, h3, ?_, ?_, fun t' b' ws' e' => ?_⟩
      · show lkF s (t.x :: xsM r) = _
        rw [lkF, if_neg fun e2 => e e2.symm]
        exact h4
      · show outF s (t.x :: xsM r) = _
        rw [outF, if_neg fun e2 => e e2.symm, h5, hki]
        rfl
      · show setF s b' ws' (t.x :: xsM r) = _
        rw [setF, if_neg fun e2 => e e2.symm, h6 t' b' ws' e', hki]
        rfl
theorem ixM_none : ∀ {m : List Mt} {i : Nat}, ixM s m i = none → lkF s (xsM m) = none
  | [], i, h => rfl
  | t :: r, i, h => by
    unfold ixM at h
    split at h
    · cases h
    · rename_i e
      show lkF s (t.x :: xsM r) = _
      rw [lkF, if_neg fun e2 => e e2.symm]
      exact ixM_none h
/-- Opened at a file that is there. -/
theorem ixM_lk {x : Fd} (h : lkF s (xsM m) = some x) : ∃ k t, ixM s m 0 = some k ∧ m[k]? = some t ∧ t.x = x ∧ t.x.nm = s ∧ outF s (xsM m) = xsM (m.take k ++ m.drop (k + 1)) ∧ ∀ t' b' ws', t'.x = ⟨s, b', ws'⟩ → setF s b' ws' (xsM m) = xsM (m.set k t') := by
  cases hi : ixM s m 0 with
  | none => rw [ixM_none hi] at h; cases h
  | some k =>
    obtain ⟨-, t, h2, h3, h4, h5, h6⟩ := ixM_some hi
    rw [h] at h4
    exact ⟨k, t, rfl, h2, (Option.some.inj h4).symm, h3, h5, h6⟩
theorem ixM_no (h : lkF s (xsM m) = none) : ixM s m 0 = none := by
  cases hi : ixM s m 0 with
  | none => rfl
  | some k =>
    obtain ⟨-, t, h2, h3, h4, -⟩ := ixM_some hi
    rw [h] at h4
    cases h4
/-- One file is turned: its cells are w2's row. -/
theorem MS.turnW {g n cap k : Nat} {t t' : Mt} (h : MS w R (.slice (some ⟨g, 0, none⟩) n cap) m sy) (hk : m[k]? = some t) (hbox : w2.heap[R]? = some (.cells #[.slice (some ⟨g, 0, none⟩) n cap, .int .i64 sy] 43 (0, 0))) (hrow : w2.ownsRow 0 121 4 (.slice (some ⟨g, 0, none⟩) n cap) (m.set k t').length (fl mt4 (m.set k t'))) (ht : ML w2 t') (hGt : ∀ q, GT t' q → GT t q ∨ w.heap.size ≤ q)
    (hblk : ∀ q, q < w.heap.size → ¬ GT t q → q ≠ g → w2.heap[q]? = w.heap[q]?) (hos : w2.os = w.os ∧ w2.tape = w.tape ∧ w2.output = w.output ∧ w.heap.size ≤ w2.heap.size) :
    MS w2 R (.slice (some ⟨g, 0, none⟩) n cap) (m.set k t') sy ∧ Fr (GM R (.slice (some ⟨g, 0, none⟩) n cap) m) (GM R (.slice (some ⟨g, 0, none⟩) n cap) (m.set k t')) w w2 := by
  have hkl := (List.getElem?_eq_some_iff.1 hk).1
  have hmem : ∀ (j : Nat) (u : Mt), (m.set k t')[j]? = some u → (j = k ∧ u = t') ∨ (j ≠ k ∧ m[j]? = some u) := fun j u hu => by
    by_cases e : j = k
    · subst e
      rw [List.getElem?_set_self hkl] at hu
      exact .inl ⟨rfl, (Option.some.inj hu).symm⟩
    · rw [List.getElem?_set_ne (fun e2 => e e2.symm)] at hu
      exact .inr ⟨e, hu⟩
  have hap := List.pairwise_iff_getElem.1 h.ap
  have hno : ∀ (i j : Nat) (a b : Mt), m[i]? = some a → m[j]? = some b → i ≠ j → ∀ q, GT a q → ¬ GT b q := fun i j a b ha hb hij q hq e => by
    obtain ⟨i1, i2⟩ := List.getElem?_eq_some_iff.1 ha
    obtain ⟨j1, j2⟩ := List.getElem?_eq_some_iff.1 hb
    rcases Nat.lt_or_ge i j with c | c
    · have := hap i j i1 j1 c q
      rw [i2, j2] at this
      exact this hq e
    · have := hap j i j1 i1 (by omega) q
      rw [i2, j2] at this
      exact this e hq
  have hkeep : ∀ (j : Nat) (u : Mt), j ≠ k → m[j]? = some u → ∀ q, GT u q → w2.heap[q]? = w.heap[q]? := fun j u hj hu q hq => by
    have hml := h.ml u (List.mem_of_getElem? hu)
    refine hblk q (hml.lt q hq) (hno j k u t hu hk hj q hq) fun e => ?_
    exact (h.ne.2 u hml q hq).2 (by rw [e]; rfl)
  refine ⟨⟨hbox, hrow, fun u hu => ?_, ?_⟩, ⟨hos.1, hos.2.1, hos.2.2.1, hos.2.2.2, fun q hq hn => hblk q hq (fun e => hn (.inr (.inr ⟨t, List.mem_of_getElem? hk, e⟩))) fun e => hn (.inr (.inl (by rw [e]; rfl))), ?_⟩⟩
  · obtain ⟨j, hj⟩ := List.getElem?_of_mem hu
    rcases hmem j u hj with ⟨-, rfl⟩ | ⟨e, hu'⟩
    · exact ht
    · exact (h.ml u (List.mem_of_getElem? hu')).at' (hkeep j u e hu')
  · refine List.pairwise_iff_getElem.2 fun i j hi hj hij q hq e => ?_
    have hi' := List.getElem?_eq_getElem hi
    have hj' := List.getElem?_eq_getElem hj
    rcases hmem i _ hi' with ⟨i1, i2⟩ | ⟨i1, i2⟩ <;> rcases hmem j _ hj' with ⟨j1, j2⟩ | ⟨j1, j2⟩
    · omega
    · rw [i2] at hq
      rcases hGt q hq with c | c
      · exact hno j k _ t j2 hk j1 q e c
      · have := (h.ml _ (List.mem_of_getElem? j2)).lt q e; omega
    · rw [j2] at e
      rcases hGt q e with c | c
      · exact hno i k _ t i2 hk i1 q hq c
      · have := (h.ml _ (List.mem_of_getElem? i2)).lt q hq; omega
    · exact hno i j _ _ i2 j2 (by omega) q hq e
  · rintro q (hq | hq | ⟨u, hu, hq⟩)
    · exact .inl (.inl hq)
    · exact .inl (.inr (.inl hq))
    · obtain ⟨j, hj⟩ := List.getElem?_of_mem hu
      rcases hmem j u hj with ⟨-, rfl⟩ | ⟨e, hu'⟩
      · rcases hGt q hq with c | c
        · exact .inl (.inr (.inr ⟨t, List.mem_of_getElem? hk, c⟩))
        · exact .inr c
      · exact .inl (.inr (.inr ⟨u, List.mem_of_getElem? hu', hq⟩))
/-- .. by a store of the whole file. -/
theorem MS.turnK {g cap k : Nat} {t t' : Mt} (h : MS w R (.slice (some ⟨g, 0, none⟩) m.length cap) m sy) (hk : m[k]? = some t) (ht : ML w2 t') (hGt : ∀ q, GT t' q → GT t q ∨ w.heap.size ≤ q)
    (hblk : ∀ q, q < w.heap.size → ¬ GT t q → w2.heap[q]? = w.heap[q]?) (hos : w2.os = w.os ∧ w2.tape = w.tape ∧ w2.output = w.output ∧ w.heap.size ≤ w2.heap.size) :
    MS (w2.setCells g (k * 4) (mt4 t')) R (.slice (some ⟨g, 0, none⟩) m.length cap) (m.set k t') sy ∧ Fr (GM R (.slice (some ⟨g, 0, none⟩) m.length cap) m) (GM R (.slice (some ⟨g, 0, none⟩) m.length cap) (m.set k t')) w (w2.setCells g (k * 4) (mt4 t')) := by
  have hkl := (List.getElem?_eq_some_iff.1 hk).1
  have hml := h.ml t (List.mem_of_getElem? hk)
  have hgl := h.lt g (.inr (.inl rfl))
  have hRl := h.lt R (.inl rfl)
  have hgR : R ≠ g := (h.ne.1 g rfl).symm
  have hR2 : w2.heap[R]? = w.heap[R]? := hblk R hRl fun e => (h.ne.2 t hml R e).1 rfl
  have hg2 : w2.heap[g]? = w.heap[g]? := hblk g hgl fun e => (h.ne.2 t hml g e).2 rfl
  have hrow : w2.ownsRow 0 121 4 (.slice (some ⟨g, 0, none⟩) m.length cap) m.length (fl mt4 m) := own_at h.row fun q hq => by
    have : g = q := by simpa [Value.ownBlock] using hq
    rw [← this]; exact hg2
  have hput := own_put mt4_len hrow hkl t'
  rw [List.length_set] at hput
  obtain ⟨cur, hcur⟩ := own_tag hrow (q := g) rfl
  have htg : ∀ q, GT t' q → q ≠ g := fun q hq => by
    obtain ⟨c, e, h1, h2⟩ := ht.tag q hq
    exact ne_tag h1 hcur (by rcases h2 with rfl | rfl <;> decide)
  refine h.turnW hk ((setCs_other _ _ _ _ _ hgR).trans (hR2.trans h.box)) (by rw [List.length_set]; exact hput) (ht.at' fun q hq => setCs_other _ _ _ _ _ (htg q hq)) hGt (fun q hq hn hg => (setCs_other _ _ _ _ _ hg).trans (hblk q hq hn)) ⟨(setCs_rest _ _ _ _).1.trans hos.1, (setCs_rest _ _ _ _).2.1.trans hos.2.1, (setCs_rest _ _ _ _).2.2.trans hos.2.2.1, by rw [setCs_size]; exact hos.2.2.2⟩
end Go.Proofs.Ytflhgphjkhplmaa.D

/- The model's Name, Remove, Read. -/
namespace Go.Proofs.Ytflhgphjkhplmaa.D
open Go.RowKit
set_option linter.unusedVariables false
set_option linter.unusedSimpArgs false

variable {w w' w2 : World} {R : Nat} {lv lv' : Value} {m m' : List Mt} {sy : Int} {G : Nat → Prop} {dl : List Fd} {s s' : List UInt8} {x : Fd}
set_option maxRecDepth 20000 in
set_option maxHeartbeats 4000000 in
theorem rname_any (s : List UInt8) (w : World) (hl : (s.length : Int) ≤ 140737488351232) : Calls Try.prog 71 #[.string (tx s)] w fun e w' => e = .returned (.bool (nameB s)) ∧ w' = w := by
  obtain ⟨n, hn⟩ : ∃ n, s.length = n := ⟨_, rfl⟩
  have HN : Hid (s.length = n) := hn
  have lt : ((tx s).size : Int) = (n : Int) := by rw [tx_size, hn]
  rw [hn] at hl
  clear hn
  by_cases h1 : (n : Int) < 1
  · have HE : Hid (nameB s = false) := by
      show _ = _
      unfold nameB
      rw [decide_eq_false (show ¬ 1 ≤ s.length by have := HN.out; omega)]
      rfl
    go_enter Try.func71, Try.ntmps71
    go_wp2_with fail
    go_ret
    exact ⟨by rw [HE.out]; rfl, rfl⟩
  · by_cases h2 : 32 < (n : Int)
    · have HE : Hid (nameB s = false) := by
        show _ = _
        unfold nameB
        rw [decide_eq_false (show ¬ s.length ≤ 32 by have := HN.out; omega), Bool.and_false]
        rfl
      go_enter Try.func71, Try.ntmps71
      go_wp2_with fail
      go_ret
      exact ⟨by rw [HE.out]; rfl, rfl⟩
    · have HLN : Hid (1 ≤ n ∧ n ≤ 32) := by show _ ∧ _; omega
      go_enter Try.func71, Try.ntmps71
      go_wp2_with fail
      go_loopw [3, 4] (fun a b wx => ∃ j : Nat, a = .int .i64 (j : Int) ∧ j ≤ n ∧ Hid ((chI (s.take j)).all okC = true) ∧ wx = w) (fun a b wx => n - (intOf a).toNat)
      case atStart => exact ⟨0, rfl, by omega, rfl, rfl⟩
      case round =>
        obtain ⟨j, rfl, hj, HA, hw⟩ := hrel
        rw [hw]
        clear hw
        by_cases cj : j < n
        · have cj' : (j : Int) < (n : Int) := by omega
          obtain ⟨c, hc⟩ : ∃ c, s[j]? = some c := ⟨_, List.getElem?_eq_getElem (by have := HN.out; omega)⟩
          have hix : ∀ W, (Instr.index 9 (.string (tx s)) (.int .i64 (j : Int))).run Try.prog W = .ok (.int .u8 (c.toNat : Int)) W := fun W => tx_at s j c hc .i64 W
          have HC : Hid (s[j]? = some c ∧ j < n) := ⟨hc, cj⟩
          have HS : Hid (okC (c.toNat : Int) = true → (chI (s.take (j + 1))).all okC = true) := fun h => by rw [chI_at hc, List.all_append, HA.out]; simp [h]
          obtain ⟨y, hy⟩ : ∃ y, (c.toNat : Int) = y := ⟨_, rfl⟩
          rw [hy] at hix HS
          have HY : Hid ((c.toNat : Int) = y) := hy
          clear hc cj hj hy
          by_cases a1 : 97 ≤ y
          · by_cases a2 : y ≤ 122
            · have HOK : Hid (okC y = true) := by show okC y = true; unfold okC; simp; omega
              go_wp2_with fail
              go_roundw
              case rel => exact ⟨j + 1, by go_num, HC.out.2, HS.out HOK.out, by first | trivial | rfl⟩
              case measure => have := HC.out.2; simp [intOf]; omega
            · have HNO : Hid (nameB s = false) := by
                apply all_not HC.out.1
                rw [HY.out]
                unfold okC
                simp
                omega
              have b2 : ¬ y ≤ 57 := by omega
              have b3 : (y == 46) = false := by simp; omega
              have b4 : 48 ≤ y := by omega
              go_wp2_with fail
              go_ret
              exact ⟨by rw [HNO.out]; rfl, rfl⟩
          · by_cases a3 : 48 ≤ y
            · by_cases a4 : y ≤ 57
              · have HOK : Hid (okC y = true) := by show okC y = true; unfold okC; simp; omega
                go_wp2_with fail
                go_roundw
                case rel => exact ⟨j + 1, by go_num, HC.out.2, HS.out HOK.out, by first | trivial | rfl⟩
                case measure => have := HC.out.2; simp [intOf]; omega
              · have HNO : Hid (nameB s = false) := by
                  apply all_not HC.out.1
                  rw [HY.out]
                  unfold okC
                  simp
                  omega
                have b3 : (y == 46) = false := by simp; omega
                go_wp2_with fail
                go_ret
                exact ⟨by rw [HNO.out]; rfl, rfl⟩
            · by_cases a5 : y = 46
              · have HOK : Hid (okC y = true) := by show okC y = true; unfold okC; simp; omega
                subst a5
                go_wp2_with fail
                go_roundw
                case rel => exact ⟨j + 1, by go_num, HC.out.2, HS.out HOK.out, by first | trivial | rfl⟩
                case measure => have := HC.out.2; simp [intOf]; omega
              · have HNO : Hid (nameB s = false) := by
                  apply all_not HC.out.1
                  rw [HY.out]
                  unfold okC
                  simp
                  omega
                have b3 : (y == 46) = false := by simpa using a5
                go_wp2_with fail
                go_ret
                exact ⟨by rw [HNO.out]; rfl, rfl⟩
        · obtain rfl : j = n := by omega
          have hge : ¬ ((j : Int) < (j : Int)) := by omega
          have HE : Hid (nameB s = true) := by
            have h3 := HA.out
            rw [List.take_of_length_le (by have := HN.out; omega)] at h3
            show _ = _
            unfold nameB
            rw [h3, decide_eq_true (show 1 ≤ s.length by have := HN.out; have := HLN.out; omega), decide_eq_true (show s.length ≤ 32 by have := HN.out; have := HLN.out; omega)]
            rfl
          clear cj hj
          go_wp2_with fail
          go_ret
          exact ⟨by rw [HE.out]; rfl, rfl⟩
theorem rremove_no (h : MR w R G sy dl) (hl : dl.length ≤ 1000000) (hs : lkF s dl = none) : Calls Try.prog 48 #[.pointer (some ⟨R, 0, none⟩), .string (tx s)] w fun e w' => e = .returned (.int .i64 5) ∧ w' = w := by
  obtain ⟨lv, m, h1, rfl, -⟩ := h
  rw [xsM_len] at hl
  have HF : Hid (Calls Try.prog 76 #[.pointer (some ⟨R, 0, none⟩), .string (tx s)] w fun e w' => e = .returned (.int .i64 (-1)) ∧ w' = w) := by
    have := h1.find (by omega) s
    rw [ixM_no hs] at this
    exact this
  clear h1 hl hs
  go_enter Try.func48, Try.ntmps48
  go_wp2_with (go_at_call 76; refine HF.out.mono ?_; rintro e w1 ⟨rfl, hw1⟩; rw [hw1]; clear hw1)
  go_ret
  exact ⟨rfl, rfl⟩
theorem rremove_yes (h : MR w R G sy dl) (hl : dl.length ≤ 1000000) (hs : lkF s dl = some x) : Calls Try.prog 48 #[.pointer (some ⟨R, 0, none⟩), .string (tx s)] w fun e w' => e = .returned (.int .i64 0) ∧ Hid (∃ G', MR w' R G' sy (outF s dl) ∧ Fr G G' w w') := by
  obtain ⟨lv, m, h1, rfl, hG⟩ := h
  rw [xsM_len] at hl
  obtain ⟨k, t, k1, k2, k3, k4, k5, k6⟩ := ixM_lk hs
  have HF : Hid (Calls Try.prog 76 #[.pointer (some ⟨R, 0, none⟩), .string (tx s)] w fun e w' => e = .returned (.int .i64 (k : Int)) ∧ w' = w) := by
    have := h1.find (by omega) s
    rw [k1] at this
    exact this
  have HD : Hid (Calls Try.prog 78 #[.pointer (some ⟨R, 0, none⟩), .int .i64 (k : Int)] w fun e w' => e = .returned (.tuple #[]) ∧ Hid (∃ G', MR w' R G' sy (outF s (xsM m)) ∧ Fr G G' w w')) := by
    refine (h1.drop (by omega) (List.getElem?_eq_some_iff.1 k2).1).mono ?_
    rintro e w' ⟨rfl, lv', j1, j2, -⟩
    rw [k5]
    exact ⟨rfl, _, j1.mr, j2.from hG⟩
  have hk0 : ¬ (k : Int) < 0 := by omega
  clear h1 hl hs k1 k2 k3 k4 k5 k6 hG
  go_enter Try.func48, Try.ntmps48
  go_wp2_with (first | (go_at_call 76; refine HF.out.mono ?_; rintro e w1 ⟨rfl, hw1⟩; rw [hw1]; clear hw1) | (go_at_call 78; refine HD.out.mono ?_; rintro e w2 ⟨rfl, H2⟩))
  go_ret
  exact ⟨rfl, H2.out⟩
theorem rread_no (h : MR w R G sy dl) (hl : dl.length ≤ 1000000) (hs : lkF s dl = none) : Calls Try.prog 72 #[.pointer (some ⟨R, 0, none⟩), .string (tx s)] w fun e w' => e = .returned (.tuple #[.slice none 0 0, .int .i64 5]) ∧ w' = w := by
  obtain ⟨lv, m, h1, rfl, -⟩ := h
  rw [xsM_len] at hl
  have HF : Hid (Calls Try.prog 76 #[.pointer (some ⟨R, 0, none⟩), .string (tx s)] w fun e w' => e = .returned (.int .i64 (-1)) ∧ w' = w) := by
    have := h1.find (by omega) s
    rw [ixM_no hs] at this
    exact this
  clear h1 hl hs
  go_enter Try.func72, Try.ntmps72
  go_wp2_with (go_at_call 76; refine HF.out.mono ?_; rintro e w1 ⟨rfl, hw1⟩; rw [hw1]; clear hw1)
  go_ret2
  exact ⟨rfl, rfl⟩
/-- Where a file stands: the row, its cells. -/
theorem MS.openK (h : MS w R lv m sy) {k : Nat} {t : Mt} (hk : m[k]? = some t) : ∃ g cap, lv = .slice (some ⟨g, 0, none⟩) m.length cap ∧ (m.length : Int) ≤ (cap : Int) ∧ (k : Int) < (m.length : Int) ∧ w.cell? ⟨R, 0, none⟩ = some (.slice (some ⟨g, 0, none⟩) m.length cap) ∧ w.cell? ⟨g, k * 4, none⟩ = some (.string (tx t.x.nm)) ∧ w.cell? ⟨g, k * 4 + 1, none⟩ = some (.slice t.da t.x.b.length t.dc) ∧ w.cell? ⟨g, k * 4 + 2, none⟩ = some (.int .i64 (safeN t.x.b t.x.ws)) ∧ w.cell? ⟨g, k * 4 + 3, none⟩ = some (.slice t.ba t.x.ws.length t.bc) ∧ ∀ i, w.frozen? ⟨g, i, none⟩ = false := by
  have hkl := (List.getElem?_eq_some_iff.1 hk).1
  obtain ⟨g, cap, rfl⟩ := own_form h.row (by omega)
  obtain ⟨e0, e1, e2, e3, e4⟩ := own_mt h.row hk
  have := own_cap h.row
  exact ⟨g, cap, rfl, by omega, by omega, h.cells.1, e0, e1, e2, e3, e4⟩
set_option maxRecDepth 20000 in
set_option maxHeartbeats 4000000 in
theorem rread_yes (h : MR w R G sy dl) (hl : dl.length ≤ 1000000) (hs : lkF s dl = some x) (hx : x.b.length ≤ 2000000) : Calls Try.prog 72 #[.pointer (some ⟨R, 0, none⟩), .string (tx s)] w fun e w' => (∃ v', e = .returned (.tuple #[v', .int .i64 0]) ∧ w'.ownsRow w.heap.size 5 1 v' x.b.length (u8l x.b)) ∧ Below w.heap.size w w' := by
  obtain ⟨lv, m, h1, rfl, hG⟩ := h
  rw [xsM_len] at hl
  obtain ⟨k, t, k1, k2, rfl, k4, -, -⟩ := ixM_lk hs
  have HF : Hid (Calls Try.prog 76 #[.pointer (some ⟨R, 0, none⟩), .string (tx s)] w fun e w' => e = .returned (.int .i64 (k : Int)) ∧ w' = w) := by
    have := h1.find (by omega) s
    rw [k1] at this
    exact this
  obtain ⟨g, cap, rfl, q1, q2, q3, e0, e1, e2, e3, e4⟩ := h1.openK k2
  have HSR : Hid (Src w (.slice t.da t.x.b.length t.dc) t.x.b) := own_src (h1.ml t (List.mem_of_getElem? k2)).rd
  have hk0 : ¬ (k : Int) < 0 := by omega
  have HX : Hid (t.x.b.length ≤ 2000000) := hx
  obtain ⟨L, hL⟩ : ∃ L, t.x.b.length = L := ⟨_, rfl⟩
  have HL : Hid (t.x.b.length = L) := hL
  rw [hL] at e1 HSR ⊢
  generalize m.length = n at *
  clear h1 hl hs k1 k2 k4 hG e0 e2 e3 e4 hx hL
  go_enter Try.func72, Try.ntmps72
  go_wp2_with (first | (go_at_call 76; refine HF.out.mono ?_; rintro e w1 ⟨rfl, hw1⟩; rw [hw1]; clear hw1) | (at_builtin; (refine wpList_append_src rfl (.tmp 13) (.tmp 21) rfl w.heap.size (.slice none 0 0) 0 [] rfl (World.ownsRow_nil _ _ _ _) (.slice t.da L t.dc) t.x.b rfl HSR.out (by have := HX.out; omega) (Nat.le_refl _) ?_; intro v2 w2 ho2 hg2; (have H2 : Hid (w2.ownsRow w.heap.size 5 1 v2 (0 + t.x.b.length) ([] ++ u8l t.x.b) ∧ Below w.heap.size w w2) := ⟨ho2, hg2.os, hg2.tape, hg2.output, hg2.size, fun q hq => hg2.block q hq (by simp [Value.ownBlock])⟩); clear ho2 hg2)))
  go_ret2
  refine ⟨⟨_, rfl, ?_⟩, H2.out.2⟩
  have := H2.out.1
  rw [Nat.zero_add, List.nil_append, HL.out] at this
  exact this
end Go.Proofs.Ytflhgphjkhplmaa.D

/- The model's Sync, Cut. -/
namespace Go.Proofs.Ytflhgphjkhplmaa.D
open Go.RowKit
set_option linter.unusedVariables false
set_option linter.unusedSimpArgs false

variable {w w' w2 : World} {R : Nat} {lv lv' : Value} {m m' : List Mt} {sy : Int} {G : Nat → Prop} {dl : List Fd} {s s' : List UInt8} {x : Fd}
theorem fl_set2 {a b u v u0 v0 : Value} : ∀ {m : List Mt} {k : Nat} {t t' : Mt}, m[k]? = some t → mt4 t = [a, b, u0, v0] → mt4 t' = [a, b, u, v] → ((fl mt4 m).set (k * 4 + 2) u).set (k * 4 + 3) v = fl mt4 (m.set k t')
  | [], k, t, t', h, _, _ => by simp at h
  | p :: r, 0, t, t', h, h1, h2 => by
    have e : p = t := by simpa using h
    subst e
    rw [List.set_cons_zero, fl, fl, h1, h2]
    rfl
  | p :: r, k + 1, t, t', h, h1, h2 => by
    have ih := fl_set2 (m := r) (k := k) (t := t) (t' := t') (by simpa using h) h1 h2
    have hl := mt4_len p
    rw [List.set_cons_succ, fl, fl, ← ih, List.set_append_right _ _ (by omega), List.set_append_right _ _ (by omega), hl, show (k + 1) * 4 + 2 - 4 = k * 4 + 2 by omega, show (k + 1) * 4 + 3 - 4 = k * 4 + 3 by omega]
def synT (t : Mt) : Mt := ⟨⟨t.x.nm, t.x.b, []⟩, t.da, t.dc, none, 0⟩
def synW (w : World) (R g k : Nat) (t : Mt) (sy : Int) : World := ((w.setCell ⟨g, k * 4 + 2, none⟩ (.int .i64 (t.x.b.length : Int))).setCell ⟨g, k * 4 + 3, none⟩ (.slice none 0 0)).setCell ⟨R, 1, none⟩ (.int .i64 sy)
theorem MS.tell (h : MS w R lv m sy) (k : Int) : MS (w.setCell ⟨R, 1, none⟩ (.int .i64 k)) R lv m k ∧ Fr (GM R lv m) (GM R lv m) w (w.setCell ⟨R, 1, none⟩ (.int .i64 k)) := by
  have hf : ∀ q, q ≠ R → (w.setCell ⟨R, 1, none⟩ (.int .i64 k)).heap[q]? = w.heap[q]? := fun q hq => Below.heap_setCell _ _ _ _ hq
  refine ⟨⟨row_set _ h.box, own_at h.row fun q hq => hf q (h.ne.1 q hq), fun t ht => (h.ml t ht).at' fun q hq => hf q (h.ne.2 t (h.ml t ht) q hq).1, h.ap⟩, ⟨rfl, rfl, rfl, by simp, fun q hq hn => hf q fun e => hn (.inl e), fun q hq => .inl hq⟩⟩
theorem MS.sync {g cap k : Nat} {t : Mt} (h : MS w R (.slice (some ⟨g, 0, none⟩) m.length cap) m sy) (hk : m[k]? = some t) (sy' : Int) : MS (synW w R g k t sy') R (.slice (some ⟨g, 0, none⟩) m.length cap) (m.set k (synT t)) sy' ∧ Fr (GM R (.slice (some ⟨g, 0, none⟩) m.length cap) m) (GM R (.slice (some ⟨g, 0, none⟩) m.length cap) (m.set k (synT t))) w (synW w R g k t sy') := by
  have hkl := (List.getElem?_eq_some_iff.1 hk).1
  have hml := h.ml t (List.mem_of_getElem? hk)
  have hgR : R ≠ g := (h.ne.1 g rfl).symm
  have hlen : (fl mt4 m).length = m.length * 4 := fl_len mt4_len m
  have hmul := Nat.mul_le_mul_right 4 (show k + 1 ≤ m.length from hkl)
  have h1 := own_set h.row (i := k * 4 + 2) (by rw [hlen]; omega) (.int .i64 (t.x.b.length : Int))
  have h2 := own_set h1 (i := k * 4 + 3) (by rw [List.length_set, hlen]; omega) (.slice none 0 0)
  rw [fl_set2 (u := .int .i64 (t.x.b.length : Int)) (v := .slice none 0 0) (t' := synT t) hk rfl rfl] at h2
  have hoff : ∀ q, q ≠ g → ((w.setCell ⟨g, k * 4 + 2, none⟩ (.int .i64 (t.x.b.length : Int))).setCell ⟨g, k * 4 + 3, none⟩ (.slice none 0 0)).heap[q]? = w.heap[q]? := fun q hq => by
    rw [Below.heap_setCell _ _ _ _ hq, Below.heap_setCell _ _ _ _ hq]
  have hgt : ∀ q, GT (synT t) q → GT t q := fun q hq => by
    rcases hq with hq | hq
    · exact .inl hq
    · cases hq
  have hml2 : ML ((w.setCell ⟨g, k * 4 + 2, none⟩ (.int .i64 (t.x.b.length : Int))).setCell ⟨g, k * 4 + 3, none⟩ (.slice none 0 0)) (synT t) := by
    refine ⟨own_at hml.rd fun q hq => hoff q ?_, World.ownsRow_nil _ _ _ _⟩
    intro e
    exact (h.ne.2 t hml q (.inl hq)).2 (by rw [e]; rfl)
  obtain ⟨k1, k2⟩ := h.turnW (t' := synT t) hk ((hoff R hgR).trans h.box) (by rw [List.length_set]; exact h2) hml2 (fun q hq => .inl (hgt q hq)) (fun q hq hn hg => hoff q hg) ⟨rfl, rfl, rfl, by simp⟩
  obtain ⟨k3, k4⟩ := k1.tell sy'
  exact ⟨k3, k2.trans' k4⟩
set_option maxRecDepth 20000 in
set_option maxHeartbeats 4000000 in
theorem rsync_yes (h : MR w R G sy dl) (hl : dl.length ≤ 1000000) (hs : lkF s dl = some x) (hx : x.b.length ≤ 2000000) (s0 : 0 ≤ sy) (s1 : sy ≤ 9000000000000000000) : Calls Try.prog 49 #[.pointer (some ⟨R, 0, none⟩), .string (tx s)] w fun e w' => e = .returned (.int .i64 0) ∧ Hid (∃ G', MR w' R G' (sy + 1) (setF s x.b [] dl) ∧ Fr G G' w w') := by
  obtain ⟨lv, m, h1, rfl, hG⟩ := h
  rw [xsM_len] at hl
  obtain ⟨k, t, k1, k2, rfl, k4, -, k6⟩ := ixM_lk hs
  have HF : Hid (Calls Try.prog 76 #[.pointer (some ⟨R, 0, none⟩), .string (tx s)] w fun e w' => e = .returned (.int .i64 (k : Int)) ∧ w' = w) := by
    have := h1.find (by omega) s
    rw [k1] at this
    exact this
  obtain ⟨g, cap, rfl, q1, q2, q3, e0, e1, e2, e3, e4⟩ := h1.openK k2
  have c1 := h1.cells.2.1
  have f1 := h1.cells.2.2 1
  have hk0 : ¬ (k : Int) < 0 := by omega
  obtain ⟨j1, j2⟩ := h1.sync k2 (sy + 1)
  have HX : Hid (∀ d, ∃ G', MR ((synW w R g k t (sy + 1)).drewN d) R G' (sy + 1) (setF s t.x.b [] (xsM m)) ∧ Fr G G' w ((synW w R g k t (sy + 1)).drewN d)) := fun d => by
    rw [k6 (synT t) t.x.b [] (by show (⟨t.x.nm, t.x.b, []⟩ : Fd) = _; rw [k4])]
    refine ⟨_, (MS.mr j1).at' fun _ _ => rfl, (j2.from hG).trans' ⟨rfl, rfl, rfl, Nat.le_refl _, fun _ _ _ => rfl, fun q hq => .inl hq⟩⟩
  unfold synW at HX
  have hgR : R ≠ g := (h1.ne.1 g rfl).symm
  have f2 := e4 (k * 4 + 2)
  have f3 := e4 (k * 4 + 3)
  generalize setF s t.x.b [] (xsM m) = dl' at *
  have hxl : (t.x.b.length : Int) ≤ 2000000 := by omega
  generalize m.length = n at *
  generalize safeN t.x.b t.x.ws = sf at *
  clear h1 hl hs k1 k2 k4 k6 hG e0 e4 j1 j2 hx
  go_enter Try.func49, Try.ntmps49
  go_wp2_with (go_at_call 76; refine HF.out.mono ?_; rintro e w1 ⟨rfl, hw1⟩; rw [hw1]; clear hw1)
  go_region
  all_goals
    go_wp2_with fail
    go_ret
    exact ⟨rfl, HX.out 1⟩
theorem rsync_no (h : MR w R G sy dl) (hl : dl.length ≤ 1000000) (hs : lkF s dl = none) : Calls Try.prog 49 #[.pointer (some ⟨R, 0, none⟩), .string (tx s)] w fun e w' => e = .returned (.int .i64 5) ∧ w' = w := by
  obtain ⟨lv, m, h1, rfl, -⟩ := h
  rw [xsM_len] at hl
  have HF : Hid (Calls Try.prog 76 #[.pointer (some ⟨R, 0, none⟩), .string (tx s)] w fun e w' => e = .returned (.int .i64 (-1)) ∧ w' = w) := by
    have := h1.find (by omega) s
    rw [ixM_no hs] at this
    exact this
  clear h1 hl hs
  go_enter Try.func49, Try.ntmps49
  go_wp2_with (go_at_call 76; refine HF.out.mono ?_; rintro e w1 ⟨rfl, hw1⟩; rw [hw1]; clear hw1)
  go_ret
  exact ⟨rfl, rfl⟩
end Go.Proofs.Ytflhgphjkhplmaa.D

/- The model's Cut. -/
namespace Go.Proofs.Ytflhgphjkhplmaa.D
open Go.RowKit
set_option linter.unusedVariables false
set_option linter.unusedSimpArgs false

variable {w w' w2 : World} {R : Nat} {lv lv' : Value} {m m' : List Mt} {sy : Int} {G : Nat → Prop} {dl : List Fd} {s s' : List UInt8} {x : Fd}
theorem rcut_no (h : MR w R G sy dl) (hl : dl.length ≤ 1000000) (hs : lkF s dl = none) (c : Int) : Calls Try.prog 51 #[.pointer (some ⟨R, 0, none⟩), .string (tx s), .int .i64 c] w fun e w' => e = .returned (.int .i64 5) ∧ w' = w := by
  obtain ⟨lv, m, h1, rfl, -⟩ := h
  rw [xsM_len] at hl
  have HF : Hid (Calls Try.prog 76 #[.pointer (some ⟨R, 0, none⟩), .string (tx s)] w fun e w' => e = .returned (.int .i64 (-1)) ∧ w' = w) := by
    have := h1.find (by omega) s
    rw [ixM_no hs] at this
    exact this
  clear h1 hl hs
  go_enter Try.func51, Try.ntmps51
  go_wp2_with (go_at_call 76; refine HF.out.mono ?_; rintro e w1 ⟨rfl, hw1⟩; rw [hw1]; clear hw1)
  go_ret
  exact ⟨rfl, rfl⟩
/-- A file in a box of its own. -/
structure BX (w W : World) (p : Nat) (t : Mt) : Prop where
  be : Below w.heap.size w W
  bx : W.heap[p]? = some (.cells (mt4 t).toArray 121 (0, 0))
  lo : w.heap.size ≤ p
theorem BX.made (w : World) (t : Mt) : BX w (w.alloc (.cells (mt4 t).toArray 121)) w.heap.size t := ⟨bel1 _ _, Go.heap_alloc_new _ _, Nat.le_refl _⟩
theorem BX.cells {W : World} {p : Nat} {t : Mt} (h : BX w W p t) : W.cell? ⟨p, 0, none⟩ = some (.string (tx t.x.nm)) ∧ W.cell? ⟨p, 1, none⟩ = some (.slice t.da t.x.b.length t.dc) ∧ W.cell? ⟨p, 2, none⟩ = some (.int .i64 (safeN t.x.b t.x.ws)) ∧ W.cell? ⟨p, 3, none⟩ = some (.slice t.ba t.x.ws.length t.bc) ∧ ∀ i, W.frozen? ⟨p, i, none⟩ = false :=
  ⟨by rw [cell_of_row _ _ _ _ _ _ h.bx]; rfl, by rw [cell_of_row _ _ _ _ _ _ h.bx]; rfl, by rw [cell_of_row _ _ _ _ _ _ h.bx]; rfl, by rw [cell_of_row _ _ _ _ _ _ h.bx]; rfl, fun i => by simp [World.frozen?, h.bx]⟩
set_option maxRecDepth 20000 in
set_option maxHeartbeats 4000000 in
theorem rcut_bad (h : MR w R G sy dl) (hl : dl.length ≤ 1000000) (hs : lkF s dl = some x) (hx : x.b.length ≤ 2000000) (c : Int) (hc : c < 0 ∨ (x.b.length : Int) < c) : Calls Try.prog 51 #[.pointer (some ⟨R, 0, none⟩), .string (tx s), .int .i64 c] w fun e w' => e = .returned (.int .i64 1) ∧ Below w.heap.size w w' := by
  obtain ⟨lv, m, h1, rfl, hG⟩ := h
  rw [xsM_len] at hl
  obtain ⟨k, t, k1, k2, rfl, k4, -, -⟩ := ixM_lk hs
  have HF : Hid (Calls Try.prog 76 #[.pointer (some ⟨R, 0, none⟩), .string (tx s)] w fun e w' => e = .returned (.int .i64 (k : Int)) ∧ w' = w) := by
    have := h1.find (by omega) s
    rw [k1] at this
    exact this
  obtain ⟨g, cap, rfl, q1, q2, q3, e0, e1, e2, e3, e4⟩ := h1.openK k2
  have hk0 : ¬ (k : Int) < 0 := by omega
  have HBX : Hid (BX w (w.alloc (.cells #[.string (tx t.x.nm), .slice t.da t.x.b.length t.dc, .int .i64 (safeN t.x.b t.x.ws), .slice t.ba t.x.ws.length t.bc] 121)) w.heap.size t) := BX.made w t
  obtain ⟨W, hW⟩ : ∃ W, w.alloc (.cells #[.string (tx t.x.nm), .slice t.da t.x.b.length t.dc, .int .i64 (safeN t.x.b t.x.ws), .slice t.ba t.x.ws.length t.bc] 121) = W := ⟨_, rfl⟩
  rw [hW] at HBX
  obtain ⟨-, b1, -, -, -⟩ := HBX.out.cells
  have hxl : (t.x.b.length : Int) ≤ 2000000 := by omega
  generalize m.length = n at *
  clear h1 hl hs k1 k2 k4 hG e4 hx
  by_cases c0 : c < 0
  · clear hc
    go_enter Try.func51, Try.ntmps51
    go_wp2_with (go_at_call 76; refine HF.out.mono ?_; rintro e w1 ⟨rfl, hw1⟩; rw [hw1]; clear hw1)
    go_ret
    exact ⟨rfl, HBX.out.be⟩
  · have c1 : (t.x.b.length : Int) < c := by omega
    clear hc
    go_enter Try.func51, Try.ntmps51
    go_wp2_with (go_at_call 76; refine HF.out.mono ?_; rintro e w1 ⟨rfl, hw1⟩; rw [hw1]; clear hw1)
    go_ret
    exact ⟨rfl, HBX.out.be⟩
def cutT (t : Mt) (c : Nat) (va : Option Addr) (vc : Nat) : Mt := ⟨⟨t.x.nm, t.x.b.take c, []⟩, va, vc, none, 0⟩
theorem cutT_mt (t : Mt) {c : Nat} (h : c ≤ t.x.b.length) (va : Option Addr) (vc : Nat) : mt4 (cutT t c va vc) = [.string (tx t.x.nm), .slice va c vc, .int .i64 (c : Int), .slice none 0 0] := by
  have e : (t.x.b.take c).length = c := by rw [List.length_take, Nat.min_eq_left h]
  unfold mt4 cutT Mt.dv Mt.bv safeN
  dsimp only
  rw [e]
  rfl
set_option maxRecDepth 20000 in
set_option maxHeartbeats 4000000 in
theorem rcut_yes (h : MR w R G sy dl) (hl : dl.length ≤ 1000000) (hs : lkF s dl = some x) (hx : x.b.length ≤ 2000000) (c : Nat) (hc : c ≤ x.b.length) : Calls Try.prog 51 #[.pointer (some ⟨R, 0, none⟩), .string (tx s), .int .i64 (c : Int)] w fun e w' => e = .returned (.int .i64 0) ∧ Hid (∃ G', MR w' R G' sy (setF s (x.b.take c) [] dl) ∧ Fr G G' w w') := by
  obtain ⟨lv, m, h1, rfl, hG⟩ := h
  rw [xsM_len] at hl
  obtain ⟨k, t, k1, k2, rfl, rfl, -, k6⟩ := ixM_lk hs
  have HF : Hid (Calls Try.prog 76 #[.pointer (some ⟨R, 0, none⟩), .string (tx t.x.nm)] w fun e w' => e = .returned (.int .i64 (k : Int)) ∧ w' = w) := by
    have := h1.find (by omega) t.x.nm
    rw [k1] at this
    exact this
  obtain ⟨g, cap, rfl, q1, q2, q3, e0, e1, e2, e3, e4⟩ := h1.openK k2
  have hk0 : ¬ (k : Int) < 0 := by omega
  have HBX : Hid (BX w (w.alloc (.cells #[.string (tx t.x.nm), .slice t.da t.x.b.length t.dc, .int .i64 (safeN t.x.b t.x.ws), .slice t.ba t.x.ws.length t.bc] 121)) w.heap.size t) := BX.made w t
  obtain ⟨W, hW⟩ : ∃ W, w.alloc (.cells #[.string (tx t.x.nm), .slice t.da t.x.b.length t.dc, .int .i64 (safeN t.x.b t.x.ws), .slice t.ba t.x.ws.length t.bc] 121) = W := ⟨_, rfl⟩
  rw [hW] at HBX
  obtain ⟨-, b1, -, -, -⟩ := HBX.out.cells
  have hml := h1.ml t (List.mem_of_getElem? k2)
  have hdc := own_capv hml.rd
  have HSR : Hid (Src W (.slice t.da c t.dc) (t.x.b.take c)) := (src_take (v := .slice none 0 0) hml.rd hc).later HBX.out.be
  have HT : Hid ((t.x.b.take c).length = c) := by show _ = _; rw [List.length_take, Nat.min_eq_left hc]
  have HCX : Hid (c ≤ t.x.b.length ∧ t.x.b.length ≤ 2000000) := ⟨hc, hx⟩
  have HKEY : Hid (∀ (va : Option Addr) (vc : Nat) (V : World), V.ownsRow W.heap.size 5 1 (.slice va c vc) c (u8l (t.x.b.take c)) → Below W.heap.size W V →
      V.cell? ⟨R, 0, none⟩ = some (.slice (some ⟨g, 0, none⟩) m.length cap) ∧ (V.cell? ⟨g, k * 4, none⟩ = some (.string (tx t.x.nm)) ∧ V.cell? ⟨g, k * 4 + 1, none⟩ = some (.slice t.da t.x.b.length t.dc) ∧ V.cell? ⟨g, k * 4 + 2, none⟩ = some (.int .i64 (safeN t.x.b t.x.ws)) ∧ V.cell? ⟨g, k * 4 + 3, none⟩ = some (.slice t.ba t.x.ws.length t.bc) ∧ ∀ i, V.frozen? ⟨g, i, none⟩ = false) ∧
      ∃ G', MR (V.setCells g (k * 4) [.string (tx t.x.nm), .slice va c vc, .int .i64 (c : Int), .slice none 0 0]) R G' sy (setF t.x.nm (t.x.b.take c) [] (xsM m)) ∧ Fr G G' w (V.setCells g (k * 4) [.string (tx t.x.nm), .slice va c vc, .int .i64 (c : Int), .slice none 0 0])) := fun va vc V ho hb => by
    have hbw : Below w.heap.size w V := HBX.out.be.trans (hb.mono HBX.out.be.size)
    have hV := h1.newer hbw
    obtain ⟨g', cap', e, -, -, p3, p4⟩ := hV.openK k2
    obtain ⟨e5, -, e6⟩ := Value.slice.inj e
    injection e5 with e5
    injection e5 with e5
    subst e5
    subst e6
    refine ⟨p3, p4, ?_⟩
    rw [k6 (cutT t c va vc) (t.x.b.take c) [] rfl, ← cutT_mt t HCX.out.1]
    have ho' : V.ownsRow W.heap.size 5 1 (cutT t c va vc).dv (t.x.b.take c).length (u8l (t.x.b.take c)) := by
      unfold cutT Mt.dv
      dsimp only
      rw [HT.out]
      exact ho
    obtain ⟨r1, r2⟩ := h1.turnK (t' := cutT t c va vc) (w2 := V) k2 ⟨own_low ho' (Nat.zero_le _), World.ownsRow_nil _ _ _ _⟩ (fun q hq => by
      rcases hq with hq | hq
      · have := (ho'.lt q hq).1
        have h2 := HBX.out.be.size
        exact .inr (by omega)
      · cases hq) (fun q hq _ => hbw.block q hq) ⟨hbw.os, hbw.tape, hbw.output, hbw.size⟩
    exact ⟨_, r1.mr, r2.from hG⟩
  have hcd : (c : Int) ≤ (t.dc : Int) := by omega
  have hcl : (c : Int) ≤ (t.x.b.length : Int) := by omega
  have hxl : (t.x.b.length : Int) ≤ 2000000 := by omega
  generalize setF t.x.nm (t.x.b.take c) [] (xsM m) = dl' at *
  generalize m.length = n at *
  clear h1 hl hs k1 k2 k6 hG hx hc hml hdc e4
  go_enter Try.func51, Try.ntmps51
  go_upto_region 5 with (go_at_call 76; refine HF.out.mono ?_; rintro e w1 ⟨rfl, hw1⟩; rw [hw1]; clear hw1)
  clear hW q3 e0 e1 e2 e3
  have HW : Hid (w.heap.size ≤ W.heap.size) := HBX.out.be.size
  go_wp2_with (at_builtin; (refine wpList_append_src rfl (.tmp 31) (.tmp 35) rfl W.heap.size (.slice none 0 0) 0 [] rfl (World.ownsRow_nil _ _ _ _) (.slice t.da c t.dc) (t.x.b.take c) rfl HSR.out (by have := HCX.out; have := HT.out; omega) (Nat.le_refl _) ?_; intro v2 w2 ho2 hg2; (have H2 : Hid (w2.ownsRow W.heap.size 5 1 v2 c (u8l (t.x.b.take c)) ∧ Below W.heap.size W w2) := ⟨by (have h := ho2); rw [Nat.zero_add, List.nil_append, HT.out] at h; exact h, hg2.os, hg2.tape, hg2.output, hg2.size, fun q hq => hg2.block q hq (by simp [Value.ownBlock])⟩); (obtain ⟨va, vc, hva⟩ := own_slice H2.out.1); subst hva; (obtain ⟨p3, ⟨p4, p5, p6, p7, p8⟩, pX⟩ := HKEY.out va vc w2 H2.out.1 H2.out.2); (have HPX : Hid (∃ G', MR (w2.setCells g (k * 4) [.string (tx t.x.nm), .slice va c vc, .int .i64 (c : Int), .slice none 0 0]) R G' sy dl' ∧ Fr G G' w (w2.setCells g (k * 4) [.string (tx t.x.nm), .slice va c vc, .int .i64 (c : Int), .slice none 0 0])) := pX); (have r0 := p8 (k * 4)); (have r1 := p8 (k * 4 + 1)); (have r2 := p8 (k * 4 + 2)); (have r3 := p8 (k * 4 + 3)); clear ho2 hg2 pX p8))
  go_ret
  exact ⟨rfl, HPX.out⟩
end Go.Proofs.Ytflhgphjkhplmaa.D
