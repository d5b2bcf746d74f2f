/- Attributes made a set: the model's. -/
import Derived.Test.YtnfocmoieofbpaaDoorM0
import Derived.Test.YtnfocmoieofbpaaDoorK2
namespace Go.Proofs.YtnfocmoieofbpaaDoor
open Go.RowKit
set_option linter.unusedVariables false
set_option linter.unusedSimpArgs false

theorem make_bad (l : List At) (k : Nat) (x : At) (h16 : ¬ 16 < l.length) (hx : l[k]? = some x) (h : ∀ j x, j < k → l[j]? = some x → raI x = 0) (hb : raI x ≠ 0) : makeI l = ([], raI x) := by
  have e := bad_at l k x hx h hb
  unfold makeI
  rw [if_neg h16, e, if_neg hb]
theorem make_good (l : List At) (h16 : ¬ 16 < l.length) (h : ∀ j x, j < l.length → l[j]? = some x → raI x = 0) : makeI l = if twI (srtI l) = true then ([], 6) else (srtI l, 0) := by
  unfold makeI
  rw [if_neg h16, bad_end l h, if_pos rfl]
theorem Lie.later {w w' : World} {sa : Option Addr} {m : List At} (h : Lie w sa m) (hk : ∀ b off, sa = some ⟨b, off, none⟩ → m ≠ [] → w'.heap[b]? = w.heap[b]?) : Lie w' sa m := by
  intro i x hx
  obtain ⟨b, off, h1, h2, h3⟩ := h i x hx
  have := hk b off h1 (fun e => by rw [e] at hx; simp at hx)
  exact ⟨b, off, h1, (World.cell?_of_block (a := ⟨b, off + i * 2, none⟩) this).trans h2, (World.cell?_of_block (a := ⟨b, off + i * 2 + 1, none⟩) this).trans h3⟩
theorem Lie.take {w : World} {sa : Option Addr} {m : List At} (h : Lie w sa m) (q : Nat) : Lie w sa (m.take q) := by
  intro i x hx
  rw [List.getElem?_take] at hx
  by_cases c : i < q
  · rw [if_pos c] at hx; exact h i x hx
  · rw [if_neg c] at hx; cases hx
theorem Lie.drop {w : World} {sa sb : Option Addr} {m : List At} (h : Lie w sa m) (q : Nat) (hs : ∀ b off, sa = some ⟨b, off, none⟩ → q < m.length → sb = some ⟨b, off + q * 2, none⟩) : Lie w sb (m.drop q) := by
  intro i x hx
  rw [List.getElem?_drop] at hx
  obtain ⟨b, off, h1, h2, h3⟩ := h (q + i) x hx
  have hl : q + i < m.length := (List.getElem?_eq_some_iff.1 hx).1
  refine ⟨b, off + q * 2, hs b off h1 (by omega), ?_, ?_⟩
  · rw [show off + q * 2 + i * 2 = off + (q + i) * 2 by omega]; exact h2
  · rw [show off + q * 2 + i * 2 = off + (q + i) * 2 by omega]; exact h3
theorem atL_cons (x : At) (l : List At) : atL (x :: l) = at2 x ++ atL l := by simp [atL]
theorem make_round {w w9 : World} {l out : List At} {x : At} {k q B : Nat} {v9 : Value} (h : w9.ownsRow B 45 2 v9 (q + 1 + (k - q)) ([] ++ atL (out.take q) ++ at2 x ++ atL (out.drop q))) (hq : q ≤ k) (hins : srtI (l.take (k + 1)) = insI out x) (hlen : out.length = k) (hbk : bkI out x k = q) (hb : w.heap.size ≤ B) : w9.ownsRow w.heap.size 45 2 v9 (k + 1) (atL (srtI (l.take (k + 1)))) := by
  have e : atL (srtI (l.take (k + 1))) = [] ++ atL (out.take q) ++ at2 x ++ atL (out.drop q) := by
    rw [hins]
    unfold insI
    rw [hlen, hbk, atL_app, atL_cons, List.nil_append, List.append_assoc]
  rw [e, show k + 1 = q + 1 + (k - q) by omega]
  exact own_low h hb
theorem grown3 {w V w7 w8 w9 : World} {v7 v8 : Value} (h0 : Below w.heap.size w V) (g1 : V.grownBy w7 (Value.slice none 0 0).ownBlock) (g2 : w7.grownBy w8 v7.ownBlock) (g3 : w8.grownBy w9 v8.ownBlock) (o7 : ∀ g, v7.ownBlock = some g → V.heap.size ≤ g) (o8 : ∀ g, v8.ownBlock = some g → V.heap.size ≤ g) : Below w.heap.size w w9 := by
  have hs := h0.size
  have e1 := g1.size
  have e2 := g2.size
  refine h0.trans ⟨g3.os.trans (g2.os.trans g1.os), g3.tape.trans (g2.tape.trans g1.tape), g3.output.trans (g2.output.trans g1.output), Nat.le_trans e1 (Nat.le_trans e2 g3.size), fun q hq => ?_⟩
  rw [g3.block q (by omega) (fun e => by have := o8 q e.symm; omega), g2.block q (by omega) (fun e => by have := o7 q e.symm; omega), g1.block q (by omega) (by simp [Value.ownBlock])]
theorem lie_grown {V w7 w8 : World} {v7 : Value} {so : Option Addr} {out : List At} {n : Nat} {xs : List Value} (h : Lie V so out) (g1 : V.grownBy w7 (Value.slice none 0 0).ownBlock) (g2 : w7.grownBy w8 v7.ownBlock) (o7 : w7.ownsRow V.heap.size 45 2 v7 n xs) : Lie w8 so out := by
  intro i x hx
  obtain ⟨b, off, h1, h2, h3⟩ := h i x hx
  have hb : b < V.heap.size := World.block_lt_of_cell? V _ h2
  have e : w8.heap[b]? = V.heap[b]? := by
    rw [g2.block b (by have := g1.size; omega) (fun e => by have := (o7.lt b e.symm).1; omega), g1.block b hb (by simp [Value.ownBlock])]
  exact ⟨b, off, h1, (World.cell?_of_block (a := ⟨b, off + i * 2, none⟩) e).trans h2, (World.cell?_of_block (a := ⟨b, off + i * 2 + 1, none⟩) e).trans h3⟩
theorem nil_or (l : List At) : l = [] ∨ ∃ z, l[0]? = some z := by
  cases l with
  | nil => exact .inl rfl
  | cons a r => exact .inr ⟨a, rfl⟩
theorem klt_asym {x y : At} (h : klt x y = true) : Op.bytesLess y.1 x.1 = false := by
  rw [klt_eq] at h
  rw [bytesLess_eq]
  exact decide_eq_false (fun g => List.lt_irrefl _ (List.lt_trans (of_decide_eq_true h) g))
theorem klt_neb {x y : At} (h : klt x y = true) : (y.1 == x.1) = false := by
  rw [klt_eq] at h
  rw [beq_eq_false_iff_ne]
  intro e
  have := of_decide_eq_true h
  rw [e] at this
  exact List.lt_irrefl _ this
theorem klt_else {x y : At} (h : klt x y = false) : Op.bytesLess y.1 x.1 = true ∨ (Op.bytesLess y.1 x.1 = false ∧ (y.1 == x.1) = true) := by
  rw [klt_eq] at h
  have h := of_decide_eq_false h
  rw [bytesLess_eq]
  rcases lt_or y.1 x.1 with g | g | g
  · exact .inl (decide_eq_true g)
  · exact .inr ⟨decide_eq_false (by rw [g]; exact List.lt_irrefl _), by rw [g]; simp⟩
  · exact (h g).elim
set_option maxRecDepth 20000 in
set_option maxHeartbeats 8000000 in
theorem rmake_any (sa : Option Addr) (ca : Nat) (l : List At) (w : World) (hl : Ats w sa ca l) (h1 : (l.length : Int) ≤ 140737488351232) :
    Calls Tryd.prog 8 #[.slice sa l.length ca] w fun e w' => (∃ v, e = .returned (.tuple #[v, .int .i64 (makeI l).2]) ∧ w'.ownsRow w.heap.size 45 2 v (makeI l).1.length (atL (makeI l).1)) ∧ Below w.heap.size w w' := by
  have HL : Hid (Ats w sa ca l) := hl
  obtain ⟨n, hn⟩ : ∃ n, l.length = n := ⟨_, rfl⟩
  have HN : Hid (l.length = n) := hn
  have ca' : (n : Int) ≤ (ca : Int) := by have := hl.cap; omega
  rw [hn] at h1 ⊢
  by_cases hb : 16 < n
  · have hbz : (16 : Int) < (n : Int) := by omega
    have HE : makeI l = ([], 7) := by unfold makeI; rw [if_pos (by rw [hn]; exact hb)]
    rw [HE]
    clear HE hl hn hb
    go_enter Tryd.func8, Tryd.ntmps8
    go_wp2_with fail
    go_ret2
    exact ⟨⟨_, rfl, World.ownsRow_nil _ _ _ _⟩, Below.refl _ _⟩
  · have hbz : ¬ (16 : Int) < (n : Int) := by omega
    have H16 : Hid (¬ 16 < l.length) := by show ¬ _; rw [hn]; exact hb
    have hn16 : (n : Int) ≤ 16 := by omega
    clear hl hn hb
    go_enter Tryd.func8, Tryd.ntmps8
    go_wp2_with fail
    go_loopw [4, 5] (fun v i wr => ∃ k : Nat, k ≤ n ∧ i = .int .i64 (k : Int) ∧ (∀ j x, j < k → l[j]? = some x → raI x = 0) ∧ wr.ownsRow w.heap.size 45 2 v k (atL (srtI (l.take k))) ∧ Below w.heap.size w wr) (fun v i wr => n - (intOf i).toNat)
    case atStart => exact ⟨0, by omega, rfl, fun j x h => by omega, World.ownsRow_nil _ _ _ _, Below.refl _ _⟩
    case round =>
      obtain ⟨k, hk, rfl, hgood, hrow, hbel⟩ := hrel
      obtain ⟨W1, rfl⟩ : ∃ W1, W1 = wr := ⟨_, rfl⟩
      have HR : Hid ((∀ j x, j < k → l[j]? = some x → raI x = 0) ∧ W1.ownsRow w.heap.size 45 2 u4 k (atL (srtI (l.take k))) ∧ Below w.heap.size w W1) := ⟨hgood, hrow, hbel⟩
      clear hgood hrow hbel
      have HO : Hid ((srtI (l.take k)).length = k) := by show _ = _; rw [srt_len, List.length_take]; have := HN.out; omega
      by_cases hlt : k < n
      · obtain ⟨x, hx⟩ : ∃ x, l[k]? = some x := ⟨_, List.getElem?_eq_getElem (by have := HN.out; omega)⟩
        obtain ⟨b, o, hsa, x0, x1⟩ := (HL.out.later HR.out.2.2).cells k x hx
        have HBW : Hid (b < W1.heap.size) := World.block_lt_of_cell? W1 _ x0
        have HBW0 : Hid (b < w.heap.size) := by obtain ⟨b', o', e1, e2, e3⟩ := HL.out.cells k x hx; rw [hsa] at e1; cases e1; exact World.block_lt_of_cell? w _ e2
        subst hsa
        have HX : Hid (l[k]? = some x ∧ Can x) := ⟨hx, HL.out.can x (List.mem_of_getElem? hx)⟩
        have hlt' : (k : Int) < (n : Int) := by omega
        have k0 : (0 : Int) ≤ (k : Int) := by omega
        have HK : Hid (∀ W, Calls Tryd.prog 14 #[.string (tx x.1)] W fun e w' => e = .returned (.bool (keyI x.1)) ∧ w' = W) := fun W => rkey_any x.1 W HX.out.2.1
        have HV : Hid (∀ W, Calls Tryd.prog 16 #[.string (tx x.2)] W fun e w' => e = .returned (.bool (valI x.2)) ∧ w' = W) := fun W => rvalue_any x.2 W HX.out.2.2
        have HXC : Hid (W1.cell? ⟨b, o + k * 2, none⟩ = some (.string (tx x.1)) ∧ W1.cell? ⟨b, o + k * 2 + 1, none⟩ = some (.string (tx x.2))) := ⟨x0, x1⟩
        clear hx
        by_cases hK : keyI x.1 = true
        · rw [hK] at HK
          by_cases hV : valI x.2 = true
          · rw [hV] at HV
            have HRA : Hid (raI x = 0) := by show raI x = 0; unfold raI; rw [if_pos hK, if_pos hV]
            clear hK hV
            obtain ⟨out, hout⟩ : ∃ out, srtI (l.take k) = out := ⟨_, rfl⟩
            have HOUT : Hid (srtI (l.take (k + 1)) = insI out x) := by show _ = _; rw [srt_snoc l k x HX.out.1, hout]
            have HOC : Hid (∀ y ∈ out, Can y) := by
              intro y hy
              rw [← hout] at hy
              have := (srt_perm (l.take k)).mem_iff.1 hy
              exact HL.out.can y (List.mem_of_mem_take this)
            rw [hout] at HO HR
            obtain ⟨so, co, e4, hA⟩ := own_ats (l := out) (by rw [HO.out]; exact HR.out.2.1) HOC.out
            rw [HO.out] at e4
            subst e4
            have HA : Hid (Ats W1 so co out) := hA
            have hco : (k : Int) ≤ (co : Int) := by have := hA.cap; have := HO.out; omega
            clear hout hA
            go_wp2_with (first | (go_at_call 14; refine (HK.out _).mono ?_; rintro e w9 ⟨rfl, hw9⟩; rw [hw9]; clear hw9) | (go_at_call 16; refine (HV.out _).mono ?_; rintro e w9 ⟨rfl, hw9⟩; rw [hw9]; clear hw9))
            go_loopw [6] (fun v6 wr => ∃ q : Nat, q ≤ k ∧ v6 = .int .i64 (q : Int) ∧ bkI out x q = bkI out x k ∧ Below W1.heap.size W1 wr) (fun v6 wr => (intOf v6).toNat)
            case atStart => exact ⟨k, Nat.le_refl _, rfl, rfl, Below.refl _ _⟩
            case round =>
              obtain ⟨q, hq, rfl, hbk, hb2⟩ := hrel
              have HB2 : Hid (bkI out x q = bkI out x k ∧ Below W1.heap.size W1 wr) := ⟨hbk, hb2⟩
              clear hbk hb2 x0 x1
              have x0 : wr.cell? ⟨b, o + k * 2, none⟩ = some (.string (tx x.1)) := (HB2.out.2.cell (p := ⟨b, o + k * 2, none⟩) HBW.out).trans HXC.out.1
              have x1 : wr.cell? ⟨b, o + k * 2 + 1, none⟩ = some (.string (tx x.2)) := (HB2.out.2.cell (p := ⟨b, o + k * 2 + 1, none⟩) HBW.out).trans HXC.out.2
              cases q with
              | zero =>
                have HQ : Hid (bkI out x k = 0) := HB2.out.1.symm
                rw [show ((0 : Nat) : Int) = 0 from rfl]
                have q0 : ¬ (0 : Int) < 0 := by omega
                go_upto_region 12 with fail
                refine wp_region_still_lit (by kernel_rfl) (by kernel_rfl) (still_of_quiet _ _ ?_)
                rw [show ({ wr with drawn := wr.drawn + 1 } : World) = wr.drew from rfl]
                repeat (first | go_big_quiet_skip | (go_big_quiet_want; go_big_quiet_op; go_big_quiet_on))
                refine wpQuiet_nil ?_
                rcases nil_or out with hoo | ⟨z0, hz0⟩
                · skip
                
                  obtain ⟨V, hV⟩ : ∃ V, wr.drew = V := ⟨_, rfl⟩
                  have hbV : Below W1.heap.size W1 V := by rw [← hV]; exact HB2.out.2.drew
                  have HVV : Hid (Below w.heap.size w V ∧ V.ownsRow w.heap.size 45 2 (.slice so k co) k (atL out) ∧ Lie V so out) := ⟨HR.out.2.2.trans (hbV.mono HR.out.2.2.size), own_at HR.out.2.1 fun z hz => hbV.block z (HR.out.2.1.lt z hz).2, HA.out.lie.later fun b9 o9 e9 hne => by
                    obtain ⟨z, hz⟩ : ∃ z, out[0]? = some z := (nil_or out).resolve_left hne
                    obtain ⟨b8, o8, e8, c8, _⟩ := HA.out.cells 0 z hz
                    rw [e9] at e8
                    cases e8
                    exact hbV.block _ (World.block_lt_of_cell? W1 _ c8)⟩
                  have HBV : Hid (b < V.heap.size ∧ w.heap.size ≤ V.heap.size) := ⟨Nat.lt_of_lt_of_le HBW.out hbV.size, HVV.out.1.size⟩
                  have HXV : Hid (V.cell? ⟨b, o + k * 2, none⟩ = some (.string (tx x.1)) ∧ V.cell? ⟨b, o + k * 2 + 1, none⟩ = some (.string (tx x.2))) := ⟨(hbV.cell (p := ⟨b, o + k * 2, none⟩) HBW.out).trans HXC.out.1, (hbV.cell (p := ⟨b, o + k * 2 + 1, none⟩) HBW.out).trans HXC.out.2⟩
                  have HTK : Hid ((out.take (0)).length = 0 ∧ (out.drop (0)).length = k - (0) ∧ (k : Int) ≤ 16) := ⟨by rw [List.length_take, HO.out]; omega, by rw [List.length_drop, HO.out], by omega⟩
                  try rw [hV]
                  clear hV hbV x0 x1
                  go_upto_region 16 with (at_builtin; (refine wpList_append_ats rfl (.tmp 52) (.tmp 55) rfl V.heap.size (.slice none 0 0) 0 [] rfl (World.ownsRow_nil _ _ _ _) _ _ (0) (out.take (0)) HTK.out.1 rfl (by intro i z hz; simp at hz) (by omega) (Nat.le_refl _) ?_; intro v7 w7 ho7 hg7; (have HO7 : Hid (w7.ownsRow V.heap.size 45 2 v7 (0) ([] ++ atL (out.take (0))) ∧ V.grownBy w7 (Value.slice none 0 0).ownBlock) := ⟨by rw [Nat.zero_add] at ho7; exact ho7, hg7⟩); clear ho7 hg7))
                  have hb7 : w7.heap[b]? = V.heap[b]? := HO7.out.2.block b HBV.out.1 (by simp [Value.ownBlock])
                  have z0 : w7.cell? ⟨b, o + k * 2, none⟩ = some (.string (tx x.1)) := (World.cell?_of_block (a := ⟨b, o + k * 2, none⟩) hb7).trans HXV.out.1
                  have z1 : w7.cell? ⟨b, o + k * 2 + 1, none⟩ = some (.string (tx x.2)) := (World.cell?_of_block (a := ⟨b, o + k * 2 + 1, none⟩) hb7).trans HXV.out.2
                  clear hb7
                  go_upto_region 17 with (at_builtin; (refine wpList_append_at rfl (.tmp 57) (.tmp 62) rfl V.heap.size v7 (0) ([] ++ atL (out.take (0))) rfl w7 HO7.out.1 x rfl rfl (by omega) HO7.out.2.size ?_; intro g8 c8 w8 ho8 hg8; (have HO8 : Hid (w8.ownsRow V.heap.size 45 2 (.slice (some ⟨g8, 0, none⟩) ((0) + 1) c8) ((0) + 1) ([] ++ atL (out.take (0)) ++ at2 x) ∧ w7.grownBy w8 v7.ownBlock) := ⟨ho8, hg8⟩); clear ho8 hg8))
                  have HL8 : Hid (Lie w8 so out) := lie_grown HVV.out.2.2 HO7.out.2 HO8.out.2 HO7.out.1
                  have HW8 : Hid (V.heap.size ≤ w8.heap.size) := Nat.le_trans HO7.out.2.size HO8.out.2.size
                  have HCO : Hid (((0) < out.length → ¬ co = 0) ∧ (co = 0 → out.drop (0) = [])) := ⟨fun h9 e9 => by have := HO.out; omega, fun e9 => List.drop_eq_nil_of_le (by have := HO.out; omega)⟩
                  clear z0 z1
                  go_wp2_with (at_builtin; (refine wpList_append_ats rfl (.tmp 64) (.tmp 67) rfl V.heap.size (.slice (some ⟨g8, 0, none⟩) ((0) + 1) c8) ((0) + 1) _ rfl HO8.out.1 _ _ (k - (0)) (out.drop (0)) HTK.out.2.1 rfl (by intro i z hz; rw [hoo] at hz; simp at hz) (by omega) HW8.out ?_; intro v9 w9 ho9 hg9; (have HO9 : Hid (w9.ownsRow V.heap.size 45 2 v9 ((0) + 1 + (k - (0))) ([] ++ atL (out.take (0)) ++ at2 x ++ atL (out.drop (0))) ∧ w8.grownBy w9 (Value.slice (some ⟨g8, 0, none⟩) ((0) + 1) c8).ownBlock) := ⟨ho9, hg9⟩); clear ho9 hg9))
                  go_roundw
                  case rel =>
                    refine ⟨k + 1, by omega, by go_num, fun j z hj hz => ?_, make_round HO9.out.1 (by omega) HOUT.out HO.out HQ.out HBV.out.2, grown3 HVV.out.1 HO7.out.2 HO8.out.2 HO9.out.2 (fun z hz => (HO7.out.1.lt z hz).1) (fun z hz => (HO8.out.1.lt z hz).1)⟩
                    rcases (show j = k ∨ j < k from by omega) with rfl | hj'
                    · rw [HX.out.1] at hz; rw [← Option.some.inj hz]; exact HRA.out
                    · exact HR.out.1 j z hj' hz
                  case measure => simp [intOf]; omega
                · obtain ⟨g, o2, hso, y0, y1⟩ := HA.out.cells 0 z0 hz0
                  subst hso
                  clear y0 y1 hz0
                
                  obtain ⟨V, hV⟩ : ∃ V, wr.drew = V := ⟨_, rfl⟩
                  have hbV : Below W1.heap.size W1 V := by rw [← hV]; exact HB2.out.2.drew
                  have HVV : Hid (Below w.heap.size w V ∧ V.ownsRow w.heap.size 45 2 (.slice (some ⟨g, o2, none⟩) k co) k (atL out) ∧ Lie V (some ⟨g, o2, none⟩) out) := ⟨HR.out.2.2.trans (hbV.mono HR.out.2.2.size), own_at HR.out.2.1 fun z hz => hbV.block z (HR.out.2.1.lt z hz).2, HA.out.lie.later fun b9 o9 e9 hne => by
                    obtain ⟨z, hz⟩ : ∃ z, out[0]? = some z := (nil_or out).resolve_left hne
                    obtain ⟨b8, o8, e8, c8, _⟩ := HA.out.cells 0 z hz
                    rw [e9] at e8
                    cases e8
                    exact hbV.block _ (World.block_lt_of_cell? W1 _ c8)⟩
                  have HBV : Hid (b < V.heap.size ∧ w.heap.size ≤ V.heap.size) := ⟨Nat.lt_of_lt_of_le HBW.out hbV.size, HVV.out.1.size⟩
                  have HXV : Hid (V.cell? ⟨b, o + k * 2, none⟩ = some (.string (tx x.1)) ∧ V.cell? ⟨b, o + k * 2 + 1, none⟩ = some (.string (tx x.2))) := ⟨(hbV.cell (p := ⟨b, o + k * 2, none⟩) HBW.out).trans HXC.out.1, (hbV.cell (p := ⟨b, o + k * 2 + 1, none⟩) HBW.out).trans HXC.out.2⟩
                  have HTK : Hid ((out.take (0)).length = 0 ∧ (out.drop (0)).length = k - (0) ∧ (k : Int) ≤ 16) := ⟨by rw [List.length_take, HO.out]; omega, by rw [List.length_drop, HO.out], by omega⟩
                  try rw [hV]
                  clear hV hbV x0 x1
                  go_upto_region 16 with (at_builtin; (refine wpList_append_ats rfl (.tmp 52) (.tmp 55) rfl V.heap.size (.slice none 0 0) 0 [] rfl (World.ownsRow_nil _ _ _ _) _ _ (0) (out.take (0)) HTK.out.1 rfl (by intro i z hz; simp at hz) (by omega) (Nat.le_refl _) ?_; intro v7 w7 ho7 hg7; (have HO7 : Hid (w7.ownsRow V.heap.size 45 2 v7 (0) ([] ++ atL (out.take (0))) ∧ V.grownBy w7 (Value.slice none 0 0).ownBlock) := ⟨by rw [Nat.zero_add] at ho7; exact ho7, hg7⟩); clear ho7 hg7))
                  have hb7 : w7.heap[b]? = V.heap[b]? := HO7.out.2.block b HBV.out.1 (by simp [Value.ownBlock])
                  have z0 : w7.cell? ⟨b, o + k * 2, none⟩ = some (.string (tx x.1)) := (World.cell?_of_block (a := ⟨b, o + k * 2, none⟩) hb7).trans HXV.out.1
                  have z1 : w7.cell? ⟨b, o + k * 2 + 1, none⟩ = some (.string (tx x.2)) := (World.cell?_of_block (a := ⟨b, o + k * 2 + 1, none⟩) hb7).trans HXV.out.2
                  clear hb7
                  go_upto_region 17 with (at_builtin; (refine wpList_append_at rfl (.tmp 57) (.tmp 62) rfl V.heap.size v7 (0) ([] ++ atL (out.take (0))) rfl w7 HO7.out.1 x rfl rfl (by omega) HO7.out.2.size ?_; intro g8 c8 w8 ho8 hg8; (have HO8 : Hid (w8.ownsRow V.heap.size 45 2 (.slice (some ⟨g8, 0, none⟩) ((0) + 1) c8) ((0) + 1) ([] ++ atL (out.take (0)) ++ at2 x) ∧ w7.grownBy w8 v7.ownBlock) := ⟨ho8, hg8⟩); clear ho8 hg8))
                  have HL8 : Hid (Lie w8 (some ⟨g, o2, none⟩) out) := lie_grown HVV.out.2.2 HO7.out.2 HO8.out.2 HO7.out.1
                  have HW8 : Hid (V.heap.size ≤ w8.heap.size) := Nat.le_trans HO7.out.2.size HO8.out.2.size
                  have HCO : Hid (((0) < out.length → ¬ co = 0) ∧ (co = 0 → out.drop (0) = [])) := ⟨fun h9 e9 => by have := HO.out; omega, fun e9 => List.drop_eq_nil_of_le (by have := HO.out; omega)⟩
                  clear z0 z1
                  go_wp2_with (at_builtin; (refine wpList_append_ats rfl (.tmp 64) (.tmp 67) rfl V.heap.size (.slice (some ⟨g8, 0, none⟩) ((0) + 1) c8) ((0) + 1) _ rfl HO8.out.1 _ _ (k - (0)) (out.drop (0)) HTK.out.2.1 rfl (by refine HL8.out.drop _ (fun b9 o9 e9 h9 => ?_); cases e9; first | rfl | (rw [if_neg (HCO.out.1 h9)]; done) | exact (HCO.out.1 h9 rfl).elim | exact (HCO.out.1 h9 (by assumption)).elim) (by omega) HW8.out ?_; intro v9 w9 ho9 hg9; (have HO9 : Hid (w9.ownsRow V.heap.size 45 2 v9 ((0) + 1 + (k - (0))) ([] ++ atL (out.take (0)) ++ at2 x ++ atL (out.drop (0))) ∧ w8.grownBy w9 (Value.slice (some ⟨g8, 0, none⟩) ((0) + 1) c8).ownBlock) := ⟨ho9, hg9⟩); clear ho9 hg9))
                  go_roundw
                  case rel =>
                    refine ⟨k + 1, by omega, by go_num, fun j z hj hz => ?_, make_round HO9.out.1 (by omega) HOUT.out HO.out HQ.out HBV.out.2, grown3 HVV.out.1 HO7.out.2 HO8.out.2 HO9.out.2 (fun z hz => (HO7.out.1.lt z hz).1) (fun z hz => (HO8.out.1.lt z hz).1)⟩
                    rcases (show j = k ∨ j < k from by omega) with rfl | hj'
                    · rw [HX.out.1] at hz; rw [← Option.some.inj hz]; exact HRA.out
                    · exact HR.out.1 j z hj' hz
                  case measure => simp [intOf]; omega
              | succ p =>
                obtain ⟨y, hy⟩ : ∃ y, out[p]? = some y := ⟨_, List.getElem?_eq_getElem (by have := HO.out; omega)⟩
                obtain ⟨g, o2, hso, y0, y1⟩ := HA.out.cells p y hy
                have HGW : Hid (g < W1.heap.size) := World.block_lt_of_cell? W1 _ y0
                have y0' : wr.drew.cell? ⟨g, o2 + p * 2, none⟩ = some (.string (tx y.1)) := (HB2.out.2.cell (p := ⟨g, o2 + p * 2, none⟩) HGW.out).trans y0
                have x0' : wr.drew.cell? ⟨b, o + k * 2, none⟩ = some (.string (tx x.1)) := x0
                subst hso
                have hp : ((p + 1 : Nat) : Int) = (p : Int) + 1 := by omega
                have p1 : (0 : Int) < (p : Int) + 1 := by omega
                have p2 : (p : Int) < (k : Int) := by omega
                have p3 : (0 : Int) ≤ (p : Int) := by omega
                rw [hp]
                clear y0 y1
                by_cases hls : klt x y = true
                · have HN2 : Hid (bkI out x p = bkI out x k) := by show _ = _; rw [← HB2.out.1, bk_yes out x p y hy hls]
                  have f1 : Op.bytesLess (tx y.1).toList (tx x.1).toList = false := by rw [tx_list, tx_list]; exact klt_asym hls
                  have f2 : ((tx y.1).toList == (tx x.1).toList) = false := by rw [tx_list, tx_list]; exact klt_neb hls
                  clear hls hy
                  go_upto_region 12 with fail
                  refine wp_region_still_lit (by kernel_rfl) (by kernel_rfl) (still_of_quiet _ _ ?_)
                  rw [show ({ wr with drawn := wr.drawn + 1 } : World) = wr.drew from rfl]
                  repeat (first | go_big_quiet_skip | (go_big_quiet_want; go_big_quiet_op; go_big_quiet_on))
                  refine wpQuiet_nil ?_
                  go_wp2_with fail
                  go_roundw
                  case rel => exact ⟨p, by omega, by go_num, HN2.out, HB2.out.2.drew⟩
                  case measure => simp [intOf]
                · have HQ : Hid (bkI out x k = p + 1) := by show _ = _; rw [← HB2.out.1, bk_no out x p y hy (by simpa using hls)]
                  rcases klt_else (by simpa using hls : klt x y = false) with ⟨g1⟩ | ⟨g1, g2⟩
                  · have f1 : Op.bytesLess (tx y.1).toList (tx x.1).toList = true := by rw [tx_list, tx_list]; exact g1
                    clear hls hy g1
                    go_upto_region 12 with fail
                    refine wp_region_still_lit (by kernel_rfl) (by kernel_rfl) (still_of_quiet _ _ ?_)
                    rw [show ({ wr with drawn := wr.drawn + 1 } : World) = wr.drew from rfl]
                    repeat (first | go_big_quiet_skip | (go_big_quiet_want; go_big_quiet_op; go_big_quiet_on))
                    refine wpQuiet_nil ?_
                    obtain ⟨V, hV⟩ : ∃ V, wr.drew = V := ⟨_, rfl⟩
                    have hbV : Below W1.heap.size W1 V := by rw [← hV]; exact HB2.out.2.drew
                    have HVV : Hid (Below w.heap.size w V ∧ V.ownsRow w.heap.size 45 2 (.slice (some ⟨g, o2, none⟩) k co) k (atL out) ∧ Lie V (some ⟨g, o2, none⟩) out) := ⟨HR.out.2.2.trans (hbV.mono HR.out.2.2.size), own_at HR.out.2.1 fun z hz => hbV.block z (HR.out.2.1.lt z hz).2, HA.out.lie.later fun b9 o9 e9 hne => by
                      obtain ⟨z, hz⟩ : ∃ z, out[0]? = some z := (nil_or out).resolve_left hne
                      obtain ⟨b8, o8, e8, c8, _⟩ := HA.out.cells 0 z hz
                      rw [e9] at e8
                      cases e8
                      exact hbV.block _ (World.block_lt_of_cell? W1 _ c8)⟩
                    have HBV : Hid (b < V.heap.size ∧ w.heap.size ≤ V.heap.size) := ⟨Nat.lt_of_lt_of_le HBW.out hbV.size, HVV.out.1.size⟩
                    have HXV : Hid (V.cell? ⟨b, o + k * 2, none⟩ = some (.string (tx x.1)) ∧ V.cell? ⟨b, o + k * 2 + 1, none⟩ = some (.string (tx x.2))) := ⟨(hbV.cell (p := ⟨b, o + k * 2, none⟩) HBW.out).trans HXC.out.1, (hbV.cell (p := ⟨b, o + k * 2 + 1, none⟩) HBW.out).trans HXC.out.2⟩
                    have HTK : Hid ((out.take (p + 1)).length = p + 1 ∧ (out.drop (p + 1)).length = k - (p + 1) ∧ (k : Int) ≤ 16) := ⟨by rw [List.length_take, HO.out]; omega, by rw [List.length_drop, HO.out], by omega⟩
                    try rw [hV]
                    clear hV hbV x0 x1
                    go_upto_region 16 with (at_builtin; (refine wpList_append_ats rfl (.tmp 52) (.tmp 55) rfl V.heap.size (.slice none 0 0) 0 [] rfl (World.ownsRow_nil _ _ _ _) _ _ (p + 1) (out.take (p + 1)) HTK.out.1 rfl (by exact HVV.out.2.2.take _) (by omega) (Nat.le_refl _) ?_; intro v7 w7 ho7 hg7; (have HO7 : Hid (w7.ownsRow V.heap.size 45 2 v7 (p + 1) ([] ++ atL (out.take (p + 1))) ∧ V.grownBy w7 (Value.slice none 0 0).ownBlock) := ⟨by rw [Nat.zero_add] at ho7; exact ho7, hg7⟩); clear ho7 hg7))
                    have hb7 : w7.heap[b]? = V.heap[b]? := HO7.out.2.block b HBV.out.1 (by simp [Value.ownBlock])
                    have z0 : w7.cell? ⟨b, o + k * 2, none⟩ = some (.string (tx x.1)) := (World.cell?_of_block (a := ⟨b, o + k * 2, none⟩) hb7).trans HXV.out.1
                    have z1 : w7.cell? ⟨b, o + k * 2 + 1, none⟩ = some (.string (tx x.2)) := (World.cell?_of_block (a := ⟨b, o + k * 2 + 1, none⟩) hb7).trans HXV.out.2
                    clear hb7
                    go_upto_region 17 with (at_builtin; (refine wpList_append_at rfl (.tmp 57) (.tmp 62) rfl V.heap.size v7 (p + 1) ([] ++ atL (out.take (p + 1))) rfl w7 HO7.out.1 x rfl rfl (by omega) HO7.out.2.size ?_; intro g8 c8 w8 ho8 hg8; (have HO8 : Hid (w8.ownsRow V.heap.size 45 2 (.slice (some ⟨g8, 0, none⟩) ((p + 1) + 1) c8) ((p + 1) + 1) ([] ++ atL (out.take (p + 1)) ++ at2 x) ∧ w7.grownBy w8 v7.ownBlock) := ⟨ho8, hg8⟩); clear ho8 hg8))
                    have HL8 : Hid (Lie w8 (some ⟨g, o2, none⟩) out) := lie_grown HVV.out.2.2 HO7.out.2 HO8.out.2 HO7.out.1
                    have HW8 : Hid (V.heap.size ≤ w8.heap.size) := Nat.le_trans HO7.out.2.size HO8.out.2.size
                    have HCO : Hid (((p + 1) < out.length → ¬ co = p + 1) ∧ (co = p + 1 → out.drop (p + 1) = [])) := ⟨fun h9 e9 => by have := HO.out; omega, fun e9 => List.drop_eq_nil_of_le (by have := HO.out; omega)⟩
                    clear z0 z1
                    go_wp2_with (at_builtin; (refine wpList_append_ats rfl (.tmp 64) (.tmp 67) rfl V.heap.size (.slice (some ⟨g8, 0, none⟩) ((p + 1) + 1) c8) ((p + 1) + 1) _ rfl HO8.out.1 _ _ (k - (p + 1)) (out.drop (p + 1)) HTK.out.2.1 rfl (by refine HL8.out.drop _ (fun b9 o9 e9 h9 => ?_); cases e9; first | rfl | (rw [if_neg (HCO.out.1 h9)]; done) | exact (HCO.out.1 h9 rfl).elim | exact (HCO.out.1 h9 (by assumption)).elim) (by omega) HW8.out ?_; intro v9 w9 ho9 hg9; (have HO9 : Hid (w9.ownsRow V.heap.size 45 2 v9 ((p + 1) + 1 + (k - (p + 1))) ([] ++ atL (out.take (p + 1)) ++ at2 x ++ atL (out.drop (p + 1))) ∧ w8.grownBy w9 (Value.slice (some ⟨g8, 0, none⟩) ((p + 1) + 1) c8).ownBlock) := ⟨ho9, hg9⟩); clear ho9 hg9))
                    go_roundw
                    case rel =>
                      refine ⟨k + 1, by omega, by go_num, fun j z hj hz => ?_, make_round HO9.out.1 (by omega) HOUT.out HO.out HQ.out HBV.out.2, grown3 HVV.out.1 HO7.out.2 HO8.out.2 HO9.out.2 (fun z hz => (HO7.out.1.lt z hz).1) (fun z hz => (HO8.out.1.lt z hz).1)⟩
                      rcases (show j = k ∨ j < k from by omega) with rfl | hj'
                      · rw [HX.out.1] at hz; rw [← Option.some.inj hz]; exact HRA.out
                      · exact HR.out.1 j z hj' hz
                    case measure => simp [intOf]; omega
                  · have f1 : Op.bytesLess (tx y.1).toList (tx x.1).toList = false := by rw [tx_list, tx_list]; exact g1
                    have f2 : ((tx y.1).toList == (tx x.1).toList) = true := by rw [tx_list, tx_list]; exact g2
                    clear hls hy g1 g2
                    go_upto_region 12 with fail
                    refine wp_region_still_lit (by kernel_rfl) (by kernel_rfl) (still_of_quiet _ _ ?_)
                    rw [show ({ wr with drawn := wr.drawn + 1 } : World) = wr.drew from rfl]
                    repeat (first | go_big_quiet_skip | (go_big_quiet_want; go_big_quiet_op; go_big_quiet_on))
                    refine wpQuiet_nil ?_
                    obtain ⟨V, hV⟩ : ∃ V, wr.drew = V := ⟨_, rfl⟩
                    have hbV : Below W1.heap.size W1 V := by rw [← hV]; exact HB2.out.2.drew
                    have HVV : Hid (Below w.heap.size w V ∧ V.ownsRow w.heap.size 45 2 (.slice (some ⟨g, o2, none⟩) k co) k (atL out) ∧ Lie V (some ⟨g, o2, none⟩) out) := ⟨HR.out.2.2.trans (hbV.mono HR.out.2.2.size), own_at HR.out.2.1 fun z hz => hbV.block z (HR.out.2.1.lt z hz).2, HA.out.lie.later fun b9 o9 e9 hne => by
                      obtain ⟨z, hz⟩ : ∃ z, out[0]? = some z := (nil_or out).resolve_left hne
                      obtain ⟨b8, o8, e8, c8, _⟩ := HA.out.cells 0 z hz
                      rw [e9] at e8
                      cases e8
                      exact hbV.block _ (World.block_lt_of_cell? W1 _ c8)⟩
                    have HBV : Hid (b < V.heap.size ∧ w.heap.size ≤ V.heap.size) := ⟨Nat.lt_of_lt_of_le HBW.out hbV.size, HVV.out.1.size⟩
                    have HXV : Hid (V.cell? ⟨b, o + k * 2, none⟩ = some (.string (tx x.1)) ∧ V.cell? ⟨b, o + k * 2 + 1, none⟩ = some (.string (tx x.2))) := ⟨(hbV.cell (p := ⟨b, o + k * 2, none⟩) HBW.out).trans HXC.out.1, (hbV.cell (p := ⟨b, o + k * 2 + 1, none⟩) HBW.out).trans HXC.out.2⟩
                    have HTK : Hid ((out.take (p + 1)).length = p + 1 ∧ (out.drop (p + 1)).length = k - (p + 1) ∧ (k : Int) ≤ 16) := ⟨by rw [List.length_take, HO.out]; omega, by rw [List.length_drop, HO.out], by omega⟩
                    try rw [hV]
                    clear hV hbV x0 x1
                    go_upto_region 16 with (at_builtin; (refine wpList_append_ats rfl (.tmp 52) (.tmp 55) rfl V.heap.size (.slice none 0 0) 0 [] rfl (World.ownsRow_nil _ _ _ _) _ _ (p + 1) (out.take (p + 1)) HTK.out.1 rfl (by exact HVV.out.2.2.take _) (by omega) (Nat.le_refl _) ?_; intro v7 w7 ho7 hg7; (have HO7 : Hid (w7.ownsRow V.heap.size 45 2 v7 (p + 1) ([] ++ atL (out.take (p + 1))) ∧ V.grownBy w7 (Value.slice none 0 0).ownBlock) := ⟨by rw [Nat.zero_add] at ho7; exact ho7, hg7⟩); clear ho7 hg7))
                    have hb7 : w7.heap[b]? = V.heap[b]? := HO7.out.2.block b HBV.out.1 (by simp [Value.ownBlock])
                    have z0 : w7.cell? ⟨b, o + k * 2, none⟩ = some (.string (tx x.1)) := (World.cell?_of_block (a := ⟨b, o + k * 2, none⟩) hb7).trans HXV.out.1
                    have z1 : w7.cell? ⟨b, o + k * 2 + 1, none⟩ = some (.string (tx x.2)) := (World.cell?_of_block (a := ⟨b, o + k * 2 + 1, none⟩) hb7).trans HXV.out.2
                    clear hb7
                    go_upto_region 17 with (at_builtin; (refine wpList_append_at rfl (.tmp 57) (.tmp 62) rfl V.heap.size v7 (p + 1) ([] ++ atL (out.take (p + 1))) rfl w7 HO7.out.1 x rfl rfl (by omega) HO7.out.2.size ?_; intro g8 c8 w8 ho8 hg8; (have HO8 : Hid (w8.ownsRow V.heap.size 45 2 (.slice (some ⟨g8, 0, none⟩) ((p + 1) + 1) c8) ((p + 1) + 1) ([] ++ atL (out.take (p + 1)) ++ at2 x) ∧ w7.grownBy w8 v7.ownBlock) := ⟨ho8, hg8⟩); clear ho8 hg8))
                    have HL8 : Hid (Lie w8 (some ⟨g, o2, none⟩) out) := lie_grown HVV.out.2.2 HO7.out.2 HO8.out.2 HO7.out.1
                    have HW8 : Hid (V.heap.size ≤ w8.heap.size) := Nat.le_trans HO7.out.2.size HO8.out.2.size
                    have HCO : Hid (((p + 1) < out.length → ¬ co = p + 1) ∧ (co = p + 1 → out.drop (p + 1) = [])) := ⟨fun h9 e9 => by have := HO.out; omega, fun e9 => List.drop_eq_nil_of_le (by have := HO.out; omega)⟩
                    clear z0 z1
                    go_wp2_with (at_builtin; (refine wpList_append_ats rfl (.tmp 64) (.tmp 67) rfl V.heap.size (.slice (some ⟨g8, 0, none⟩) ((p + 1) + 1) c8) ((p + 1) + 1) _ rfl HO8.out.1 _ _ (k - (p + 1)) (out.drop (p + 1)) HTK.out.2.1 rfl (by refine HL8.out.drop _ (fun b9 o9 e9 h9 => ?_); cases e9; first | rfl | (rw [if_neg (HCO.out.1 h9)]; done) | exact (HCO.out.1 h9 rfl).elim | exact (HCO.out.1 h9 (by assumption)).elim) (by omega) HW8.out ?_; intro v9 w9 ho9 hg9; (have HO9 : Hid (w9.ownsRow V.heap.size 45 2 v9 ((p + 1) + 1 + (k - (p + 1))) ([] ++ atL (out.take (p + 1)) ++ at2 x ++ atL (out.drop (p + 1))) ∧ w8.grownBy w9 (Value.slice (some ⟨g8, 0, none⟩) ((p + 1) + 1) c8).ownBlock) := ⟨ho9, hg9⟩); clear ho9 hg9))
                    go_roundw
                    case rel =>
                      refine ⟨k + 1, by omega, by go_num, fun j z hj hz => ?_, make_round HO9.out.1 (by omega) HOUT.out HO.out HQ.out HBV.out.2, grown3 HVV.out.1 HO7.out.2 HO8.out.2 HO9.out.2 (fun z hz => (HO7.out.1.lt z hz).1) (fun z hz => (HO8.out.1.lt z hz).1)⟩
                      rcases (show j = k ∨ j < k from by omega) with rfl | hj'
                      · rw [HX.out.1] at hz; rw [← Option.some.inj hz]; exact HRA.out
                      · exact HR.out.1 j z hj' hz
                    case measure => simp [intOf]; omega
          · have HE : Hid (makeI l = ([], 41)) := by
              show _ = _
              have e : raI x = 41 := by unfold raI; rw [if_pos hK, if_neg hV]
              rw [make_bad l k x H16.out HX.out.1 HR.out.1 (by rw [e]; decide), e]
            have hV' : valI x.2 = false := by simpa using hV
            rw [hV'] at HV
            clear hV hV' hK
            go_wp2_with (first | (go_at_call 14; refine (HK.out _).mono ?_; rintro e w9 ⟨rfl, hw9⟩; rw [hw9]; clear hw9) | (go_at_call 16; refine (HV.out _).mono ?_; rintro e w9 ⟨rfl, hw9⟩; rw [hw9]; clear hw9))
            go_ret2
            exact ⟨⟨_, by rw [HE.out]; rfl, by rw [HE.out]; exact World.ownsRow_nil _ _ _ _⟩, HR.out.2.2⟩
        · have HE : Hid (makeI l = ([], 40)) := by
            show _ = _
            have e : raI x = 40 := by unfold raI; rw [if_neg hK]
            rw [make_bad l k x H16.out HX.out.1 HR.out.1 (by rw [e]; decide), e]
          have hK' : keyI x.1 = false := by simpa using hK
          rw [hK'] at HK
          clear hK hK'
          go_wp2_with (go_at_call 14; refine (HK.out _).mono ?_; rintro e w9 ⟨rfl, hw9⟩; rw [hw9]; clear hw9)
          go_ret2
          exact ⟨⟨_, by rw [HE.out]; rfl, by rw [HE.out]; exact World.ownsRow_nil _ _ _ _⟩, HR.out.2.2⟩
      · have hge : ¬ ((k : Int) < (n : Int)) := by omega
        have hkn : k = n := by omega
        subst hkn
        have htk : l.take k = l := List.take_of_length_le (by have := HN.out; omega)
        rw [htk] at HO HR
        clear htk hlt
        have HGD : Hid (makeI l = if twI (srtI l) = true then ([], 6) else (srtI l, 0)) := make_good l H16.out (fun j x hj hx => HR.out.1 j x (by have := HN.out; omega) hx)
        obtain ⟨out, hout⟩ : ∃ out, srtI l = out := ⟨_, rfl⟩
        have HOC : Hid (∀ y ∈ out, Can y) := by
          intro y hy
          rw [← hout] at hy
          exact HL.out.can y ((srt_perm l).mem_iff.1 hy)
        rw [hout] at HO HR HGD
        obtain ⟨so, co, e4, hA⟩ := own_ats (l := out) (by rw [HO.out]; exact HR.out.2.1) HOC.out
        rw [HO.out] at e4
        subst e4
        have HA : Hid (Ats W1 so co out) := hA
        have hco : (k : Int) ≤ (co : Int) := by have := hA.cap; have := HO.out; omega
        clear hout hA
        go_wp2_with fail
        go_loopw [8] (fun v8 wr => ∃ p : Nat, (p + 1 ≤ k ∨ p = 0) ∧ v8 = .int .i64 ((p : Int) + 1) ∧ (∀ i x y, i < p → out[i]? = some x → out[i + 1]? = some y → y.1 ≠ x.1) ∧ Below W1.heap.size W1 wr) (fun v8 wr => k + 1 - (intOf v8).toNat)
        case atStart => exact ⟨0, .inr rfl, rfl, fun i x y h => by omega, Below.refl _ _⟩
        case round =>
          obtain ⟨p, hp, rfl, hne, hb2⟩ := hrel
          have HB2 : Hid ((∀ i x y, i < p → out[i]? = some x → out[i + 1]? = some y → y.1 ≠ x.1) ∧ Below W1.heap.size W1 wr) := ⟨hne, hb2⟩
          clear hne hb2
          by_cases hlt : p + 1 < k
          · obtain ⟨x, hx⟩ : ∃ x, out[p]? = some x := ⟨_, List.getElem?_eq_getElem (by have := HO.out; omega)⟩
            obtain ⟨y, hy⟩ : ∃ y, out[p + 1]? = some y := ⟨_, List.getElem?_eq_getElem (by have := HO.out; omega)⟩
            obtain ⟨g, o, hso, x0, _⟩ := HA.out.cells p x hx
            obtain ⟨g', o', hso', y0, _⟩ := HA.out.cells (p + 1) y hy
            subst hso
            cases hso'
            have HGW : Hid (g < W1.heap.size) := World.block_lt_of_cell? W1 _ x0
            have x0' : wr.drew.cell? ⟨g, o + p * 2, none⟩ = some (.string (tx x.1)) := (HB2.out.2.cell (p := ⟨g, o + p * 2, none⟩) HGW.out).trans x0
            have y0' : wr.drew.cell? ⟨g, o + (p + 1) * 2, none⟩ = some (.string (tx y.1)) := (HB2.out.2.cell (p := ⟨g, o + (p + 1) * 2, none⟩) HGW.out).trans y0
            have HXY : Hid (out[p]? = some x ∧ out[p + 1]? = some y) := ⟨hx, hy⟩
            have p1 : (p : Int) + 1 < (k : Int) := by omega
            have p2 : (p : Int) < (k : Int) := by omega
            have p3 : (0 : Int) ≤ (p : Int) := by omega
            have p4 : (0 : Int) ≤ (p : Int) + 1 := by omega
            clear hx hy x0 y0
            by_cases he : y.1 = x.1
            · have f2 : ((tx y.1).toList == (tx x.1).toList) = true := by rw [tx_list, tx_list, he]; simp
              have HE : Hid (makeI l = ([], 6)) := by show _ = _; rw [HGD.out, if_pos (tw_at out p x y HXY.out.1 HXY.out.2 he)]
              clear he
              go_upto_region 22 with fail
              refine wp_region_still_lit (by kernel_rfl) (by kernel_rfl) (still_of_quiet _ _ ?_)
              rw [show ({ wr with drawn := wr.drawn + 1 } : World) = wr.drew from rfl]
              repeat (first | go_big_quiet_skip | (go_big_quiet_want; go_big_quiet_op; go_big_quiet_on))
              refine wpQuiet_nil ?_
              go_wp2_with fail
              go_ret2
              exact ⟨⟨_, by rw [HE.out]; rfl, by rw [HE.out]; exact World.ownsRow_nil _ _ _ _⟩, HR.out.2.2.trans ((HB2.out.2.drew).mono HR.out.2.2.size)⟩
            · have f2 : ((tx y.1).toList == (tx x.1).toList) = false := by rw [tx_list, tx_list]; simpa using he
              have f3 : ¬ (tx y.1).toList = (tx x.1).toList := by rw [tx_list, tx_list]; exact he
              have HE : Hid (¬ y.1 = x.1) := he
              clear he
              go_upto_region 22 with fail
              refine wp_region_still_lit (by kernel_rfl) (by kernel_rfl) (still_of_quiet _ _ ?_)
              rw [show ({ wr with drawn := wr.drawn + 1 } : World) = wr.drew from rfl]
              repeat (first | go_big_quiet_skip | (go_big_quiet_want; go_big_quiet_op; go_big_quiet_on))
              refine wpQuiet_nil ?_
              go_wp2_with fail
              go_roundw
              case rel =>
                refine ⟨p + 1, by omega, by go_num, fun i a c hi ha hc => ?_, HB2.out.2.drew⟩
                rcases (show i = p ∨ i < p from by omega) with rfl | hi'
                · rw [HXY.out.1] at ha; rw [HXY.out.2] at hc; rw [← Option.some.inj ha, ← Option.some.inj hc]; exact HE.out
                · exact HB2.out.1 i a c hi' ha hc
              case measure => simp [intOf]; omega
          · have hge2 : ¬ ((p : Int) + 1 < (k : Int)) := by omega
            have HE : Hid (makeI l = (out, 0)) := by
              show _ = _
              rw [HGD.out, tw_no out (fun i a c ha hc => HB2.out.1 i a c (by have := (List.getElem?_eq_some_iff.1 hc).1; have := HO.out; omega) ha hc), if_neg (by decide)]
            clear hlt
            go_wp2_with fail
            go_ret2
            refine ⟨⟨_, by rw [HE.out]; rfl, ?_⟩, HR.out.2.2.trans ((HB2.out.2).mono HR.out.2.2.size)⟩
            rw [HE.out]
            show World.ownsRow _ _ _ _ _ out.length _
            rw [HO.out]
            exact own_at HR.out.2.1 fun z hz => HB2.out.2.block z (HR.out.2.1.lt z hz).2
end Go.Proofs.YtnfocmoieofbpaaDoor
