/- slices.Compact of matchers: what it tells has the same elements. -/
import Derived.Test.YtgmpmpgfpchbcaaGreatDoorY2
namespace Go.Proofs.YtgmpmpgfpchbcaaGreatDoor
open Go.RowKit Go.Shelf
set_option linter.unusedVariables false
set_option linter.unusedSimpArgs false

theorem wrap64_small (x : Int) (h0 : -9223372036854775808 ≤ x) (h1 : x ≤ 9223372036854775807) : IntKind.i64.wrap x = x := by
  unfold IntKind.wrap
  simp only [IntKind.bits, IntKind.signed, Bool.true_and]
  split <;> rename_i h <;> simp at h <;> omega
set_option maxRecDepth 20000 in
set_option maxHeartbeats 8000000 in
theorem compact_any (base : Nat) (v : Value) (ss : List Mt) (w : World) (ho : w.ownsRow base 30 3 v ss.length (mtL ss)) (hc : ∀ x ∈ ss, CanM x) (hl : (ss.length : Int) ≤ 140737488351232) :
    Calls Tryz.prog 16 #[v] w fun e w' => (∃ v', e = .returned v' ∧ ∃ d : List Mt, (∀ x, x ∈ d ↔ x ∈ ss) ∧ d.length ≤ ss.length ∧ w'.ownsRow base 30 3 v' d.length (mtL d)) ∧ w.grownBy w' v.ownBlock := by
  have HO : Hid (w.ownsRow base 30 3 v ss.length (mtL ss)) := ho
  have HC : Hid (∀ x ∈ ss, CanM x) := hc
  clear ho hc
  by_cases h2 : ss.length < 2
  · obtain ⟨sa, sc, hsv⟩ := own_slice HO.out
    subst hsv
    have h2' : (ss.length : Int) < 2 := by omega
    clear h2
    go_enter Tryz.func16, Tryz.ntmps16
    go_wp2_with fail
    go_ret
    exact ⟨⟨_, rfl, ss, fun _ => Iff.rfl, Nat.le_refl _, HO.out⟩, ⟨rfl, rfl, rfl, Nat.le_refl _, fun _ _ _ => rfl⟩⟩
  · obtain ⟨g, c, e⟩ := own_formM HO.out (by omega)
    subst e
    obtain ⟨n, hn⟩ : ∃ n, ss.length = n := ⟨_, rfl⟩
    have HN : Hid (ss.length = n ∧ 2 ≤ n) := ⟨hn, by omega⟩
    have hcap : (n : Int) ≤ (c : Int) := by have := own_capM HO.out; omega
    have hn2 : ¬ (n : Int) < 2 := by omega
    rw [hn] at HO hl ⊢
    clear hn h2
    go_enter Tryz.func16, Tryz.ntmps16
    go_wp2_with fail
    go_loopw [3] (fun i wr => ∃ (k : Nat), 1 ≤ k ∧ k ≤ n ∧ i = .int .i64 (k : Int) ∧ wr.ownsRow base 30 3 (.slice (some ⟨g, 0, none⟩) n c) n (mtL ss) ∧ Bg g w wr) (fun i wr => n - (intOf i).toNat)
    case atStart => exact ⟨1, Nat.le_refl _, by have := HN.out.2; omega, rfl, HO.out, Bg.refl _ _⟩
    case round =>
      obtain ⟨k, hk1, hkn, rfl, hrow, hbg⟩ := hrel
      have HR : Hid (wr.ownsRow base 30 3 (.slice (some ⟨g, 0, none⟩) n c) n (mtL ss) ∧ Bg g w wr) := ⟨hrow, hbg⟩
      clear hrow hbg
      by_cases hlt : k < n
      · have hlt' : (k : Int) < (n : Int) := by omega
        obtain ⟨j, hj⟩ : ∃ j, k = j + 1 := ⟨k - 1, by omega⟩
        obtain ⟨x, hx⟩ : ∃ x, ss[k]? = some x := ⟨_, List.getElem?_eq_getElem (by have := HN.out.1; omega)⟩
        obtain ⟨y, hy⟩ : ∃ y, ss[j]? = some y := ⟨_, List.getElem?_eq_getElem (by have := HN.out.1; omega)⟩
        have hrow : wr.ownsRow base 30 3 (.slice (some ⟨g, 0, none⟩) ss.length c) ss.length (mtL ss) := by rw [HN.out.1]; exact HR.out.1
        have mx := own_mc hrow hx
        have my := own_mc hrow hy
        have HX : Hid ((loadVar 30 ⟨g, k * 3, none⟩).run Tryz.prog wr.drew = .ok (.agg #[.int .i64 x.op, .string (tx x.key), .string (tx x.val)]) wr.drew) := load30 (w := wr.drew) mx.c0 mx.c1 mx.c2
        have HY : Hid ((loadVar 30 ⟨g, j * 3, none⟩).run Tryz.prog wr.drew = .ok (.agg #[.int .i64 y.op, .string (tx y.key), .string (tx y.val)]) wr.drew) := load30 (w := wr.drew) my.c0 my.c1 my.c2
        have hq := eqMt x y (HC.out x (List.mem_of_getElem? hx)) (HC.out y (List.mem_of_getElem? hy))
        have HXY : Hid (ss[k]? = some x ∧ ss[j]? = some y ∧ k = j + 1) := ⟨hx, hy, hj⟩
        have k0 : (0 : Int) ≤ (k : Int) := by omega
        have hkj : (k : Int) - 1 = (j : Int) := by omega
        have j0 : (0 : Int) ≤ (j : Int) := by omega
        have j1 : (j : Int) < (n : Int) := by omega
        have hwj : IntKind.i64.wrap (j : Int) = (j : Int) := wrap64_small _ (by omega) (by omega)
        clear hx hy mx my hrow hj
        go_upto_region 6 with fail
        refine wp_region_still_lit (by kernel_rfl) (by kernel_rfl) (still_of_quiet _ _ ?_)
        rw [show ({ wr with drawn := wr.drawn + 1 } : World) = wr.drew from rfl]
        repeat (first | go_big_quiet_skip | (go_big_quiet_want; go_big_quiet_op; go_big_quiet_on))
        (go_big_quiet_want; refine quiet_loadV 30 _ rfl ⟨g, k * 3, none⟩ rfl _ HX.out ?_; go_big_quiet_on)
        simp only [Act.put, List.setIfInBounds_toArray, List.set_cons_succ, List.set_cons_zero]
        repeat (first | go_big_quiet_skip | (go_big_quiet_want; go_big_quiet_op; go_big_quiet_on))
        (go_big_quiet_want; refine quiet_loadV 30 _ rfl ⟨g, j * 3, none⟩ rfl _ HY.out ?_; go_big_quiet_on)
        simp only [Act.put, List.setIfInBounds_toArray, List.set_cons_succ, List.set_cons_zero]
        (go_big_quiet_want; refine quiet_eqMt _ _ false rfl _ _ rfl rfl (eqM x y) (hq _) ?_; go_big_quiet_on)
        simp only [Act.put, List.setIfInBounds_toArray, List.set_cons_succ, List.set_cons_zero]
        refine wpQuiet_nil ?_
        clear hq HX HY
        have HR1 : Hid (wr.drew.ownsRow base 30 3 (.slice (some ⟨g, 0, none⟩) n c) n (mtL ss) ∧ Bg g w wr.drew) := ⟨HR.out.1, HR.out.2.trans ⟨rfl, rfl, rfl, Nat.le_refl _, fun _ _ _ => rfl⟩⟩
        generalize wr.drew = W1 at HR1 ⊢
        cases he : eqM x y with
        | false =>
          clear he
          go_wp2_with fail
          go_roundw
          case rel => exact ⟨k + 1, by omega, by omega, by go_num, HR1.out.1, HR1.out.2⟩
          case measure => simp [intOf]; omega
        | true =>
          have HE : Hid (x = y) := (eqM_iff x y).1 he
          have hck : ¬ c = k := by omega
          clear he hkj hwj j1
          go_wp2_with fail
          obtain ⟨m, hm⟩ : ∃ m, n - k = m := ⟨_, rfl⟩
          obtain ⟨mc, hmc⟩ : ∃ mc, c - k = mc := ⟨_, rfl⟩
          have HM : Hid (n - k = m ∧ c - k = mc ∧ 0 < m ∧ k + m = n) := ⟨hm, hmc, by omega, by omega⟩
          have m1 : (m : Int) ≤ 140737488351232 := by omega
          have m2 : (m : Int) ≤ (mc : Int) := by omega
          rw [hm, hmc]
          clear hm hmc hck
          go_loopw [3, 5] (fun i q wr => ∃ (a b : Nat) (L : List Mt), i = .int .i64 (a : Int) ∧ q = .int .i64 (b : Int) ∧ k ≤ a ∧ a < k + b ∧ 1 ≤ b ∧ b ≤ m ∧ L.length = n ∧ wr.ownsRow base 30 3 (.slice (some ⟨g, 0, none⟩) n c) n (mtL L) ∧ (∀ x, x ∈ L.take a ↔ x ∈ ss.take (k + b)) ∧ L.drop a = ss.drop a ∧ Bg g w wr) (fun i q wr => m - (intOf q).toNat)
          case atStart =>
            refine ⟨k, 1, ss, rfl, rfl, Nat.le_refl _, by omega, Nat.le_refl _, by have := HM.out.2.2.1; omega, HN.out.1, HR1.out.1, fun z => ?_, rfl, HR1.out.2⟩
            have h := HXY.out
            exact (mem_same ss k x (by omega) (by rw [show k - 1 = j by have := h.2.2; omega, h.2.1, HE.out]) h.1 z).symm
          case round =>
            obtain ⟨a, b, L, rfl, rfl, hka, hab, hb1, hbm, hL, hrow, hmem, hdr, hbg⟩ := hrel
            have HL : Hid (L.length = n ∧ wr.ownsRow base 30 3 (.slice (some ⟨g, 0, none⟩) n c) n (mtL L) ∧ (∀ x, x ∈ L.take a ↔ x ∈ ss.take (k + b)) ∧ L.drop a = ss.drop a ∧ Bg g w wr) := ⟨hL, hrow, hmem, hdr, hbg⟩
            have HK : Hid (k ≤ a ∧ a < k + b ∧ 1 ≤ b ∧ b ≤ m) := ⟨hka, hab, hb1, hbm⟩
            clear hL hrow hmem hdr hbg hka hab hbm
            by_cases hlt2 : b < m
            · have hlt2' : (b : Int) < (m : Int) := by omega
              obtain ⟨q, hq⟩ : ∃ q, b = q + 1 := ⟨b - 1, by omega⟩
              have hkb : k + b < n := by have := HM.out.2.2.2; omega
              obtain ⟨x', hx'⟩ : ∃ x', ss[k + b]? = some x' := ⟨_, List.getElem?_eq_getElem (by have := HN.out.1; omega)⟩
              obtain ⟨y', hy'⟩ : ∃ y', ss[k + q]? = some y' := ⟨_, List.getElem?_eq_getElem (by have := HN.out.1; omega)⟩
              have hLd : ∀ t, a ≤ t → L[t]? = ss[t]? := fun t ht => by
                have h : (L.drop a)[t - a]? = (ss.drop a)[t - a]? := by rw [HL.out.2.2.2.1]
                rw [List.getElem?_drop, List.getElem?_drop, show a + (t - a) = t by omega] at h
                exact h
              have hrow : wr.ownsRow base 30 3 (.slice (some ⟨g, 0, none⟩) L.length c) L.length (mtL L) := by rw [HL.out.1]; exact HL.out.2.1
              have mx := own_mc hrow ((hLd (k + b) (by have := HK.out; omega)).trans hx')
              have my := own_mc hrow ((hLd (k + q) (by have := HK.out; omega)).trans hy')
              obtain ⟨z', hz'⟩ : ∃ z', L[a]? = some z' := ⟨_, List.getElem?_eq_getElem (by have := HL.out.1; have := HK.out; omega)⟩
              have mz := own_mc hrow hz'
              have HMX : Hid (MC wr g (k + b) x' ∧ MC wr g a z') := ⟨mx, mz⟩
              have HX : Hid ((loadVar 30 ⟨g, k * 3 + b * 3, none⟩).run Tryz.prog wr.drew = .ok (.agg #[.int .i64 x'.op, .string (tx x'.key), .string (tx x'.val)]) wr.drew) := by
                rw [← Nat.add_mul]
                exact load30 (w := wr.drew) mx.c0 mx.c1 mx.c2
              have HY : Hid ((loadVar 30 ⟨g, k * 3 + q * 3, none⟩).run Tryz.prog wr.drew = .ok (.agg #[.int .i64 y'.op, .string (tx y'.key), .string (tx y'.val)]) wr.drew) := by
                rw [← Nat.add_mul]
                exact load30 (w := wr.drew) my.c0 my.c1 my.c2
              have hqq := eqMt x' y' (HC.out x' (List.mem_of_getElem? hx')) (HC.out y' (List.mem_of_getElem? hy'))
              have HXY2 : Hid (ss[k + b]? = some x' ∧ ss[k + q]? = some y' ∧ b = q + 1) := ⟨hx', hy', hq⟩
              have b0 : (0 : Int) ≤ (b : Int) := by omega
              have hbq : (b : Int) - 1 = (q : Int) := by omega
              have q0 : (0 : Int) ≤ (q : Int) := by omega
              have q1 : (q : Int) < (m : Int) := by omega
              have a0 : (0 : Int) ≤ (a : Int) := by omega
              have a1 : (a : Int) < (n : Int) := by have := HK.out; omega
              have hwq : IntKind.i64.wrap (q : Int) = (q : Int) := wrap64_small _ (by omega) (by omega)
              clear hx' hy' mx my mz hrow hq hz' hLd hkb
              go_upto_region 11 with fail
              refine wp_region_still_lit (by kernel_rfl) (by kernel_rfl) (still_of_quiet _ _ ?_)
              rw [show ({ wr with drawn := wr.drawn + 1 } : World) = wr.drew from rfl]
              repeat (first | go_big_quiet_skip | (go_big_quiet_want; go_big_quiet_op; go_big_quiet_on))
              (go_big_quiet_want; refine quiet_loadV 30 _ rfl ⟨g, k * 3 + b * 3, none⟩ rfl _ HX.out ?_; go_big_quiet_on)
              simp only [Act.put, List.setIfInBounds_toArray, List.set_cons_succ, List.set_cons_zero]
              repeat (first | go_big_quiet_skip | (go_big_quiet_want; go_big_quiet_op; go_big_quiet_on))
              (go_big_quiet_want; refine quiet_loadV 30 _ rfl ⟨g, k * 3 + q * 3, none⟩ rfl _ HY.out ?_; go_big_quiet_on)
              simp only [Act.put, List.setIfInBounds_toArray, List.set_cons_succ, List.set_cons_zero]
              (go_big_quiet_want; refine quiet_eqMt _ _ true rfl _ _ rfl rfl (eqM x' y') (hqq _) ?_; go_big_quiet_on)
              simp only [Act.put, List.setIfInBounds_toArray, List.set_cons_succ, List.set_cons_zero, if_true]
              refine wpQuiet_nil ?_
              clear hqq HX HY hbq hwq q1
              have HL1 : Hid (wr.drew.ownsRow base 30 3 (.slice (some ⟨g, 0, none⟩) n c) n (mtL L) ∧ Bg g w wr.drew ∧ MC wr.drew g (k + b) x' ∧ MC wr.drew g a z') := ⟨HL.out.2.1, HL.out.2.2.2.2.trans ⟨rfl, rfl, rfl, Nat.le_refl _, fun _ _ _ => rfl⟩, ⟨HMX.out.1.c0, HMX.out.1.c1, HMX.out.1.c2⟩, ⟨HMX.out.2.c0, HMX.out.2.c1, HMX.out.2.c2⟩⟩
              generalize wr.drew = W2 at HL1 ⊢
              cases he2 : eqM x' y' with
              | true =>
                have HE2 : Hid (x' = y') := (eqM_iff x' y').1 he2
                clear he2
                go_wp2_with fail
                go_roundw
                case rel =>
                  have hK := HK.out
                  have hX := HXY2.out
                  refine ⟨a, b + 1, L, rfl, by go_num, hK.1, by omega, by omega, by omega, HL.out.1, HL1.out.1, fun z => ?_, HL.out.2.2.2.1, HL1.out.2.1⟩
                  rw [HL.out.2.2.1 z, ← Nat.add_assoc]
                  exact (mem_same ss (k + b) x' (by omega) (by rw [show k + b - 1 = k + q by omega, hX.2.1, HE2.out]) hX.1 z).symm
                case measure => simp [intOf]; omega
              | false =>
                clear he2
                have c0 : W2.cell? ⟨g, k * 3 + b * 3, none⟩ = some (.int .i64 x'.op) := by rw [← Nat.add_mul]; exact HL1.out.2.2.1.c0
                have c1 : W2.cell? ⟨g, k * 3 + b * 3 + 1, none⟩ = some (.string (tx x'.key)) := by rw [← Nat.add_mul]; exact HL1.out.2.2.1.c1
                have c2 : W2.cell? ⟨g, k * 3 + b * 3 + 2, none⟩ = some (.string (tx x'.val)) := by rw [← Nat.add_mul]; exact HL1.out.2.2.1.c2
                have z0 := HL1.out.2.2.2.c0
                have z1 := HL1.out.2.2.2.c1
                have z2 := HL1.out.2.2.2.c2
                have fz : ∀ r, W2.frozen? ⟨g, r, none⟩ = false := fun r => by
                  obtain ⟨cur, hc⟩ := own_tagM HL1.out.1 (q := g) rfl
                  exact frozen_of_row _ _ r _ _ hc
                have wa : IntKind.i64.wrap ((a : Int) + 1) = (a : Int) + 1 := wrap64_small _ (by omega) (by omega)
                go_wp2_with fail
                go_roundw
                case rel =>
                  have hK := HK.out
                  have hX := HXY2.out
                  have hLn := HL.out.1
                  have hM := HM.out.2.2.2
                  refine ⟨a + 1, b + 1, L.set a x', by go_num, by go_num, by omega, by omega, by omega, by omega, by rw [List.length_set]; exact hLn, ?_, fun z => ?_, ?_, ?_⟩
                  · rw [← mtL_put L a x' (by omega)]
                    have hsl : (mtL L).length = n * 3 := by rw [mtL_len, hLn]
                    refine own_setM (own_setM (own_setM HL1.out.1 ?_ _) ?_ _) ?_ _ <;> simp only [List.length_set, hsl] <;> omega
                  · rw [← Nat.add_assoc]
                    exact mem_more ss L a (k + b) x' (by omega) hX.1 HL.out.2.2.1 z
                  · rw [set_dropM _ _ _ _ (by omega), ← List.drop_drop, ← List.drop_drop, HL.out.2.2.2.1]
                  · exact ((HL1.out.2.1.set _ _).set _ _).set _ _
                case measure => simp [intOf]; omega
            · have hbm2 : b = m := by have := HK.out; omega
              have hge : ¬ ((b : Int) < (m : Int)) := by omega
              have han : a < n := by have := HK.out; have := HM.out.2.2.2; omega
              obtain ⟨cur, hg, hcm, hcs, htake⟩ : ∃ cur, wr.heap[g]? = some (.cells cur 30 (0, 0)) ∧ c ≤ maxLen ∧ cur.size = c * 3 ∧ cur.toList.take (n * 3) = mtL L := by
                rcases HL.out.2.1.2 with ⟨h, _⟩ | ⟨g', cp', cur, hv, _, hc, _, h5, h6, h7⟩
                · cases h
                · cases hv; exact ⟨cur, hc, h5, h6, h7⟩
              have hcl := run_clearM wr g (a * 3) (c - a) (n - a) cur (by omega) hg (by rw [hcs]; omega)
              obtain ⟨W5, hW5⟩ : ∃ W5, wr.setRow g (cur.toList.take (a * 3) ++ zM (n - a) ++ cur.toList.drop (a * 3 + (n - a) * 3)).toArray = W5 := ⟨_, rfl⟩
              have HE5 : Hid ((∃ d : List Mt, (∀ x, x ∈ d ↔ x ∈ ss) ∧ d.length ≤ n ∧ W5.ownsRow base 30 3 (.slice (some ⟨g, 0, none⟩) a c) d.length (mtL d)) ∧ w.grownBy W5 (Value.slice (some ⟨g, 0, none⟩) n c).ownBlock) := by
                have hlo := HL.out.2.1.lt g rfl
                have hla : (L.take a).length = a := by rw [List.length_take, HL.out.1]; omega
                have hta : cur.toList.take (a * 3) = mtL (L.take a) := by rw [← mtL_take, ← htake, List.take_take, Nat.min_eq_left (by omega)]
                refine ⟨⟨L.take a, fun z => ?_, by rw [hla]; omega, ?_⟩, ?_⟩
                · rw [HL.out.2.2.1 z, hbm2, HM.out.2.2.2, ← HN.out.1, List.take_length]
                · rw [← hW5, hla]
                  refine ⟨by rw [mtL_len, hla], .inr ⟨g, c, _, rfl, hlo.1, setRow_heap _ g cur _ 30 _ hg, by omega, hcm, ?_, ?_⟩⟩
                  · simp only [List.size_toArray, List.length_append, List.length_take, List.length_drop, Array.length_toList, hcs, zM_len]
                    omega
                  · show ((cur.toList.take (a * 3) ++ zM (n - a)) ++ cur.toList.drop (a * 3 + (n - a) * 3)).take (a * 3) = _
                    rw [List.append_assoc, List.take_left' (by rw [List.length_take, Array.length_toList, hcs]; omega)]
                    exact hta
                · have hbg := HL.out.2.2.2.2
                  rw [← hW5]
                  exact ⟨hbg.os, hbg.tape, hbg.output, by simp; exact hbg.size, fun p hp hpg => (setRow_other _ g p _ (fun e => hpg (by rw [e]; rfl))).trans (hbg.block p hp (fun e => hpg (by rw [e]; rfl)))⟩
              rw [hW5] at hcl
              have hac : (a : Int) < (c : Int) := by omega
              have han' : (a : Int) < (n : Int) := by omega
              have hca : ¬ c = a := by omega
              clear hW5 hg hcm hcs htake hlt2 hbm2
              go_wp2_with fail
              go_ret
              exact ⟨⟨_, rfl, HE5.out.1⟩, HE5.out.2⟩
      · have hge : ¬ ((k : Int) < (n : Int)) := by omega
        clear hlt
        go_wp2_with fail
        go_ret
        have hb := HR.out.2
        exact ⟨⟨_, rfl, ss, fun _ => Iff.rfl, by rw [HN.out.1]; exact Nat.le_refl _, by rw [HN.out.1]; exact HR.out.1⟩, ⟨hb.os, hb.tape, hb.output, hb.size, fun p hp hpg => hb.block p hp (fun e => hpg (by rw [e]; rfl))⟩⟩
end Go.Proofs.YtgmpmpgfpchbcaaGreatDoor
