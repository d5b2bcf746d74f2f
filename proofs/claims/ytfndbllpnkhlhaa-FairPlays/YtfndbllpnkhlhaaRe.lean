/- The model's Set. -/
import Derived.Test.YtfndbllpnkhlhaaRd
namespace Go.Proofs.Ytfndbllpnkhlhaa
open Go.RowKit
set_option linter.unusedVariables false
set_option linter.unusedSimpArgs false

theorem ltB_less : ∀ a b : List UInt8, ltB a b = Op.bytesLess a b
  | [], [] => rfl
  | _ :: _, [] => rfl
  | [], _ :: _ => rfl
  | a :: x, b :: y => by unfold ltB Op.bytesLess; rw [ltB_less x y]
theorem ins_at (t : Tn) : ∀ (l : List Tn) (i : Nat), i ≤ l.length → (∀ (j : Nat) (p : Tn), j < i → l[j]? = some p → ltB p.nm t.nm = true) → (∀ p, l[i]? = some p → ltB p.nm t.nm = false) → insT t l = l.take i ++ t :: l.drop i
  | [], i, h, _, _ => by simp at h; subst h; rfl
  | p :: r, 0, _, _, h2 => by
    have := h2 p rfl
    unfold insT
    rw [this]
    rfl
  | p :: r, i + 1, h, h1, h2 => by
    have h0 := h1 0 p (by omega) rfl
    have := ins_at t r i (by simpa using h) (fun j q hj hq => h1 (j + 1) q (by omega) (by simpa using hq)) (fun q hq => h2 q (by simpa using hq))
    unfold insT
    rw [h0, this]
    rfl
theorem info102 : (Try.prog.info? 102).map (fun i => (i.zero, i.size, i.bytes)) = some (some (.agg #[.string ⟨#[]⟩, .int .i64 0, .int .i64 0, .slice none 0 0]), 4, 56) := by kernel_rfl
theorem info104 : (Try.prog.info? 104).map (fun i => (i.zero, i.size, i.bytes)) = some (some (.agg #[.int .i64 0, .int .i64 0, .int .i64 0, .int .i64 0]), 4, 32) := by kernel_rfl
variable {T base : Nat} {lv : Value} {m : List Rt} {clk clk' : Int} {srv srv' : List UInt8} {busy busy' : Bool}
theorem ins_ix {m : List Rt} {x : Rt} {i a : Nat} {r : Rt} (hi : i ≤ m.length) (h : (m.take i ++ x :: m.drop i)[a]? = some r) : (a = i ∧ r = x) ∨ ∃ b, m[b]? = some r ∧ ((a < i ∧ b = a) ∨ (i < a ∧ a = b + 1)) := by
  have hl : (m.take i).length = i := by rw [List.length_take]; omega
  by_cases h1 : a < i
  · rw [List.getElem?_append_left (by omega), List.getElem?_take] at h
    rw [if_pos h1] at h
    exact .inr ⟨a, h, .inl ⟨h1, rfl⟩⟩
  · rw [List.getElem?_append_right (by omega), hl] at h
    by_cases h2 : a = i
    · subst h2
      simp at h
      exact .inl ⟨rfl, h.symm⟩
    · obtain ⟨b, hb⟩ : ∃ b, a = b + 1 := ⟨a - 1, by omega⟩
      subst hb
      rw [show b + 1 - i = (b - i) + 1 by omega, List.getElem?_cons_succ, List.getElem?_drop, show i + (b - i) = b by omega] at h
      exact .inr ⟨b, h, .inr ⟨by omega, rfl⟩⟩
/-- A tenant is put in: a new row. -/
theorem RS.ins {w w4 : World} {i : Nat} {t : Tn} {v : Value} (h : RS w T base lv m clk srv busy) (hi : i ≤ m.length) (ht : t.ws = []) (hb : Below w.heap.size w w4) (ho : w4.ownsRow w.heap.size 102 4 v (m.length + 1) (fl rt4 (m.take i ++ ⟨t, none, 0⟩ :: m.drop i))) :
    RS (w4.setCell ⟨T, 0, none⟩ v) T base v (m.take i ++ ⟨t, none, 0⟩ :: m.drop i) clk srv busy ∧ Km base w (w4.setCell ⟨T, 0, none⟩ v) := by
  have hT4 : w4.heap[T]? = some (.cells #[lv, .int .i64 clk, .string (tx srv), .bool busy] 39 (0, 0)) := (hb.block T (h.lt T (.inl rfl)).2).trans h.box
  have hbs := h.bs
  have hlen : (m.take i ++ ⟨t, none, 0⟩ :: m.drop i).length = m.length + 1 := by rw [List.length_append, List.length_cons, List.length_take, List.length_drop]; omega
  refine ⟨⟨row_set _ hT4, ?_, fun r hr => ?_, fun a b q r r' ha hb' h1 h2 => ?_, h.hT⟩, ?_, ?_⟩
  · rw [hlen]
    refine own_at (own_low ho hbs) fun q hq => Below.heap_setCell _ _ _ _ ?_
    obtain ⟨cur, hc⟩ := own_tag ho hq
    exact ne_tag hc hT4 (by decide)
  · have hr' : r = ⟨t, none, 0⟩ ∨ r ∈ m := by
      rcases List.mem_append.1 hr with h1 | h1
      · exact .inr (List.mem_of_mem_take h1)
      · rcases List.mem_cons.1 h1 with h1 | h1
        · exact .inl h1
        · exact .inr (List.mem_of_mem_drop h1)
    rcases hr' with e | hr'
    · subst e
      unfold Rt.v
      simp only [ht]
      exact World.ownsRow_nil _ _ _ _
    · refine own_at (h.que r hr') fun q hq => (Below.heap_setCell _ _ _ _ (h.ne.2 r hr' q hq).1).trans (hb.block q (h.lt q (.inr (.inr ⟨r, hr', hq⟩))).2)
  · rcases ins_ix hi ha with ⟨_, e⟩ | ⟨a', ha', ea⟩
    · subst e; unfold Rt.v at h1; cases h1
    · rcases ins_ix hi hb' with ⟨_, e⟩ | ⟨b', hb'', eb⟩
      · subst e; unfold Rt.v at h2; cases h2
      · have := h.dis a' b' q r r' ha' hb'' h1 h2
        omega
  · exact (hb.mono hbs).setCell (p := ⟨T, 0, none⟩) h.hT v
  · exact (Kx.of hb (Nat.le_refl _)).trans (Kx.setCell hT4 (by decide) v)
theorem cell_new4 {W : World} {t : TypeId} {l : List Value} : ∀ (j : Nat) (u : Value), l[j]? = some u → (W.alloc (.cells l.toArray t)).cell? ((⟨W.heap.size, 0, none⟩ : Addr).add j) = some u := fun j u hu => by
  have h : (W.alloc (.cells l.toArray t)).heap[W.heap.size]? = some (.cells l.toArray t (0, 0)) := heap_alloc_new _ _
  rw [Addr.add_lit, Nat.zero_add, cell_of_row _ _ _ _ _ _ h]
  simpa using hu
set_option maxRecDepth 20000 in
set_option maxHeartbeats 4000000 in
theorem rset_ins (nm : List UInt8) (wt : Int) (w : World) (h : RS w T base lv m clk srv busy) (hl : m.length < 16) (w0 : 1 ≤ wt) (w1 : wt ≤ 16) (hx : ixT (rts m) nm = none) :
    Calls Try.prog 32 #[.pointer (some ⟨T, 0, none⟩), .string (tx nm), .int .i64 wt] w fun e w' => e = .returned (.int .i64 0) ∧ ∃ lv' m', RS w' T base lv' m' clk srv busy ∧ rts m' = insT ⟨nm, wt, clk, []⟩ (rts m) ∧ Km base w w' := by
  have HF : Hid (Calls Try.prog 59 #[.pointer (some ⟨T, 0, none⟩), .string (tx nm)] w fun e w' => e = .returned (.int .i64 (-1)) ∧ w' = w) := by
    have := rfind_any nm w h (by omega)
    unfold ixI at this
    rw [hx] at this
    exact this
  obtain ⟨sa, cap, hsv⟩ := own_slice h.row
  obtain ⟨n, hn⟩ : ∃ n, m.length = n := ⟨_, rfl⟩
  have HN : Hid (m.length = n) := hn
  rw [hn] at hl hsv
  have HSV : Hid (lv = .slice sa n cap) := hsv
  have HS : Hid (RS w T base lv m clk srv busy) := h
  have c0 := h.cells.1
  rw [hsv] at c0
  have hl' : (n : Int) < 16 := by omega
  have x1 : ¬ wt < 1 := by omega
  have x2 : ¬ 16 < wt := by omega
  obtain ⟨i0, hi0, hz0, hz1, hz2⟩ := info_parts info102
  clear h hn hsv hx
  go_enter Try.func32, Try.ntmps32
  go_wp2_with (go_at_call 59; refine HF.out.mono ?_; rintro e w1 ⟨rfl, hw1⟩; rw [hw1]; clear hw1)
  go_loopw [8, 9] (fun u v wr => ∃ i : Nat, i ≤ n ∧ v = .int .i64 i ∧ wr.ownsRow w.heap.size 102 4 u i (fl rt4 (m.take i)) ∧ Below w.heap.size w wr ∧ ∀ (j : Nat) (p : Tn), j < i → (rts m)[j]? = some p → ltB p.nm nm = true) (fun u v wr => n - (intOf v).toNat)
  case atStart => exact ⟨0, by omega, rfl, World.ownsRow_nil _ _ _ _, Below.refl _ _, fun j p hj => (Nat.not_lt_zero _ hj).elim⟩
  case round =>
    obtain ⟨i, hi, rfl, ho, hb, hlt⟩ := hrel
    obtain ⟨a8, c8, hu⟩ := own_slice ho
    subst hu
    have HO : Hid (wr.ownsRow w.heap.size 102 4 (.slice a8 i c8) i (fl rt4 (m.take i)) ∧ Below w.heap.size w wr ∧ ∀ (j : Nat) (p : Tn), j < i → (rts m)[j]? = some p → ltB p.nm nm = true) := ⟨ho, hb, hlt⟩
    have hSr := HS.out.at' (w' := wr) fun q hq => hb.block q (HS.out.lt q hq).2
    have d0 := hSr.cells.1
    rw [HSV.out] at d0
    have d1 := hSr.cells.2.1
    have hTl : T < wr.heap.size := (hSr.lt T (.inl rfl)).2
    have HI : Hid (i ≤ n ∧ n < 16) := ⟨hi, hl⟩
    by_cases hgo : i < n ∧ ∀ p, (rts m)[i]? = some p → ltB p.nm nm = true
    · obtain ⟨hin, hpp⟩ := hgo
      obtain ⟨r, hr⟩ : ∃ r, m[i]? = some r := ⟨_, List.getElem?_eq_getElem (by have := HN.out; omega)⟩
      obtain ⟨g, cp, hv, hcp, e0, e1, e2, e3, _⟩ := rs_row hSr hr
      rw [HSV.out, HN.out] at hv
      have hsa : sa = some ⟨g, 0, none⟩ := (Value.slice.inj hv).1
      have hcc : cap = cp := (Value.slice.inj hv).2.2
      subst hsa
      subst hcc
      have hcap : (n : Int) ≤ (cap : Int) := by have := HN.out; omega
      have hlt' : (i : Int) < (n : Int) := by omega
      have hbl := hpp r.t (rts_at hr)
      rw [ltB_less] at hbl
      have hbl' : Op.bytesLess (tx r.t.nm).toList (tx nm).toList = true := by rw [tx_list, tx_list]; exact hbl
      have HR : Hid (m[i]? = some r ∧ ltB r.t.nm nm = true) := ⟨hr, hpp r.t (rts_at hr)⟩
      clear ho hb hlt hSr hin hpp hr hv hcp hbl
      go_wp2_with (at_builtin; (refine wpList_append_own _ rfl (.tmp 77) (.tmp 85) 37 rfl w.heap.size 102 i0 _ 4 56 Try.underlying37 hi0 hz0 hz1 hz2 rfl (by decide) (.slice a8 i c8) i (fl rt4 (m.take i)) rfl (HO.out.1.alloc _) ⟨wr.heap.size, 0, none⟩ 1 1 (rt4 r) rfl rfl (cell_new4 (l := rt4 r)) (rt4_one r) (by have := HI.out; unfold maxLen; omega) (by have := HI.out; omega) (by have := HO.out.2.1.size; simp; omega) ?_; intro v3 w3 ho3 hg3 _; (have H3 : Hid (w3.ownsRow w.heap.size 102 4 v3 (i + 1) (fl rt4 (m.take i) ++ rt4 r) ∧ Below w.heap.size w w3) := ⟨ho3, (HO.out.2.1.alloc HO.out.2.1.size _).grown hg3 (by have := HO.out.2.1.size; simp; omega) (fun q hq => (HO.out.1.lt q hq).1)⟩); clear ho3 hg3))
      go_roundw
      case rel =>
        refine ⟨i + 1, by have := HI.out; omega, by go_num, ?_, H3.out.2, fun j p hj hp => ?_⟩
        · have := H3.out.1
          have e : m.take (i + 1) = m.take i ++ [r] := by rw [List.take_add_one, HR.out.1]; rfl
          rw [e, fl_app]
          simpa [fl] using this
        · rcases (show j = i ∨ j < i from by omega) with rfl | hj
          · rw [rts_at HR.out.1] at hp
            rw [← Option.some.inj hp]
            exact HR.out.2
          · exact HO.out.2.2 j p hj hp
      case measure => simp [intOf]; omega
    · have HEX : Hid (∀ p, (rts m)[i]? = some p → ltB p.nm nm = false) := fun p hp => by
        cases hq : ltB p.nm nm with
        | false => rfl
        | true =>
          have h1 := (List.getElem?_eq_some_iff.1 hp).1
          exact (hgo ⟨by have := HN.out; simp [rts] at h1; omega, fun p' hp' => by rw [hp] at hp'; rw [← Option.some.inj hp']; exact hq⟩).elim
      have HFIN : Hid (∀ (v : Value) (w4 : World), Below w.heap.size w w4 → w4.ownsRow w.heap.size 102 4 v (n + 1) (fl rt4 (m.take i ++ ⟨⟨nm, wt, clk, []⟩, none, 0⟩ :: m.drop i)) → ∃ lv' m', RS (w4.setCell ⟨T, 0, none⟩ v) T base lv' m' clk srv busy ∧ rts m' = insT ⟨nm, wt, clk, []⟩ (rts m) ∧ Km base w (w4.setCell ⟨T, 0, none⟩ v)) := fun v w4 hb4 ho4 => by
        obtain ⟨k1, k2⟩ := HS.out.ins (i := i) (t := ⟨nm, wt, clk, []⟩) (by have := HN.out; have := HI.out; omega) rfl hb4 (by rw [HN.out]; exact ho4)
        refine ⟨_, _, k1, ?_, k2⟩
        rw [ins_at ⟨nm, wt, clk, []⟩ (rts m) i (by have := HN.out; have := HI.out; simp [rts]; omega) HO.out.2.2 HEX.out]
        unfold rts
        rw [List.map_append, List.map_cons, List.map_take, List.map_drop]
      have HTF : Hid (∀ w3 : World, Below w.heap.size w w3 → w3.frozen? ⟨T, 0, none⟩ = false) := fun w3 hb3 => (HS.out.at' (w' := w3) fun q hq => hb3.block q (HS.out.lt q hq).2).cells.2.2.2.2 0
      have HT0 : Hid (∀ w3 : World, Below w.heap.size w w3 → w3.cell? ⟨T, 0, none⟩ = some (.slice sa n cap)) := fun w3 hb3 => by
        have := (HS.out.at' (w' := w3) fun q hq => hb3.block q (HS.out.lt q hq).2).cells.1
        rw [HSV.out] at this
        exact this
      rcases (show (sa = none ∧ n = 0 ∧ cap = 0) ∨ ∃ g, sa = some ⟨g, 0, none⟩ by
        have h1 := HS.out.row
        rw [HSV.out, HN.out] at h1
        rcases h1.2 with ⟨h2, h3⟩ | ⟨g, c, cur, h2, _⟩
        · exact .inl ⟨(Value.slice.inj h2).1, h3, (Value.slice.inj h2).2.2⟩
        · exact .inr ⟨g, (Value.slice.inj h2).1⟩) with ⟨rfl, rfl, rfl⟩ | ⟨g, rfl⟩
      · obtain rfl : i = 0 := by omega
        clear ho hb hlt hSr hgo
        go_wp2_with (first
          | (at_builtin; (refine wpList_append_own _ rfl (.tmp 87) (.tmp 95) 37 rfl w.heap.size 102 i0 _ 4 56 Try.underlying37 hi0 hz0 hz1 hz2 rfl (by decide) (.slice a8 0 c8) 0 (fl rt4 (m.take 0)) rfl (HO.out.1.alloc _) ⟨wr.heap.size, 0, none⟩ 1 1 (rt4 ⟨⟨nm, wt, clk, []⟩, none, 0⟩) rfl rfl (cell_new4 (l := rt4 ⟨⟨nm, wt, clk, []⟩, none, 0⟩)) (rt4_one _) (by have := HI.out; unfold maxLen; omega) (by have := HI.out; omega) (by have := HO.out.2.1.size; simp; omega) ?_; intro v3 w3 ho3 hg3 _; (have H3 : Hid (w3.ownsRow w.heap.size 102 4 v3 (0 + 1) (fl rt4 (m.take 0 ++ [⟨⟨nm, wt, clk, []⟩, none, 0⟩])) ∧ Below w.heap.size w w3) := ⟨by (show World.ownsRow _ _ _ _ _ _ _); (rw [fl_app]); simpa [fl] using ho3, (HO.out.2.1.alloc HO.out.2.1.size _).grown hg3 (by have := HO.out.2.1.size; simp; omega) (fun q hq => (HO.out.1.lt q hq).1)⟩); (obtain ⟨a3, c3, hv3⟩ := own_slice H3.out.1); subst hv3; (have k0 : w3.cell? ⟨T, 0, none⟩ = some (.slice none 0 0) := HT0.out w3 H3.out.2); clear ho3 hg3))
          | (at_builtin; (refine wpList_append_own_none rfl (.tmp 97) (.tmp 103) 37 rfl w.heap.size 102 i0 4 Try.underlying37 hi0 _ (0 + 1) _ rfl H3.out.1 rfl ?_; (have k2 : w3.frozen? ⟨T, 0, none⟩ = false := HTF.out w3 H3.out.2))))
        go_ret
        refine ⟨rfl, HFIN.out _ _ H3.out.2 ?_⟩
        have hm : m = [] := List.eq_nil_of_length_eq_zero HN.out
        have := H3.out.1
        rw [hm] at this ⊢
        exact this
      · have HCE : Hid (∀ (w3 : World), Below w.heap.size w w3 → ∀ (j : Nat) (u : Value), (fl rt4 (m.drop i))[j]? = some u → w3.cell? ((⟨g, i * 4, none⟩ : Addr).add j) = some u) := fun w3 hb3 j u hu => by
          have h1 := (HS.out.at' (w' := w3) fun q hq => hb3.block q (HS.out.lt q hq).2).row
          rw [HSV.out] at h1
          rw [Addr.add_mid]
          rw [← fl_drop rt4_len, List.getElem?_drop] at hu
          have h2 := h1.cells (g := g) rfl (i * 4 + j) u hu
          rw [Addr.add_mid, Nat.zero_add] at h2
          exact h2
        have hcap : (n : Int) ≤ (cap : Int) := by
          have h1 := HS.out.row
          rw [HSV.out, HN.out] at h1
          have := own_cap h1
          omega
        have hin' : (i : Int) ≤ (n : Int) := by omega
        by_cases hin : i < n
        · obtain ⟨r, hr⟩ : ∃ r, m[i]? = some r := ⟨_, List.getElem?_eq_getElem (by have := HN.out; omega)⟩
          obtain ⟨g', cp, hv, hcp, e0, e1, e2, e3, _⟩ := rs_row hSr hr
          rw [HSV.out, HN.out] at hv
          have hsa : g = g' := by have := (Value.slice.inj hv).1; simpa using this
          subst hsa
          have hlt' : (i : Int) < (n : Int) := by omega
          have hbl := HEX.out r.t (rts_at hr)
          rw [ltB_less] at hbl
          have hbl' : Op.bytesLess (tx r.t.nm).toList (tx nm).toList = false := by rw [tx_list, tx_list]; exact hbl
          clear ho hb hlt hSr hgo hr hv hcp hbl hin hin'
          go_wp2_with (first
            | (at_builtin; (refine wpList_append_own _ rfl (.tmp 87) (.tmp 95) 37 rfl w.heap.size 102 i0 _ 4 56 Try.underlying37 hi0 hz0 hz1 hz2 rfl (by decide) (.slice a8 i c8) i (fl rt4 (m.take i)) rfl (HO.out.1.alloc _) ⟨wr.heap.size, 0, none⟩ 1 1 (rt4 ⟨⟨nm, wt, clk, []⟩, none, 0⟩) rfl rfl (cell_new4 (l := rt4 ⟨⟨nm, wt, clk, []⟩, none, 0⟩)) (rt4_one _) (by have := HI.out; unfold maxLen; omega) (by have := HI.out; omega) (by have := HO.out.2.1.size; simp; omega) ?_; intro v3 w3 ho3 hg3 _; (have H3 : Hid (w3.ownsRow w.heap.size 102 4 v3 (i + 1) (fl rt4 (m.take i ++ [⟨⟨nm, wt, clk, []⟩, none, 0⟩])) ∧ Below w.heap.size w w3) := ⟨by (show World.ownsRow _ _ _ _ _ _ _); (rw [fl_app]); simpa [fl] using ho3, (HO.out.2.1.alloc HO.out.2.1.size _).grown hg3 (by have := HO.out.2.1.size; simp; omega) (fun q hq => (HO.out.1.lt q hq).1)⟩); (obtain ⟨a3, c3, hv3⟩ := own_slice H3.out.1); subst hv3; (have k0 : w3.cell? ⟨T, 0, none⟩ = some (.slice (some ⟨g, 0, none⟩) n cap) := HT0.out w3 H3.out.2); clear ho3 hg3))
            | (at_builtin; (refine wpList_append_own _ rfl (.tmp 97) (.tmp 103) 37 rfl w.heap.size 102 i0 _ 4 56 Try.underlying37 hi0 hz0 hz1 hz2 rfl (by decide) (.slice a3 (i + 1) c3) (i + 1) _ rfl H3.out.1 ⟨g, i * 4, none⟩ (n - i) (cap - i) (fl rt4 (m.drop i)) rfl (by rw [fl_len rt4_len, List.length_drop, HN.out]) (HCE.out w3 H3.out.2) (fl_one rt4_one _) (by have := HI.out; unfold maxLen; omega) (by have := HI.out; omega) H3.out.2.size ?_; intro v4 w4 ho4 hg4 _; (have H4 : Hid (w4.ownsRow w.heap.size 102 4 v4 (n + 1) (fl rt4 (m.take i ++ ⟨⟨nm, wt, clk, []⟩, none, 0⟩ :: m.drop i)) ∧ Below w.heap.size w w4) := ⟨by (have h := ho4); (rw [← fl_app, show i + 1 + (n - i) = n + 1 by (have := HI.out; omega), List.append_assoc] at h); exact h, H3.out.2.grown hg4 H3.out.2.size (fun q hq => (H3.out.1.lt q hq).1)⟩); (obtain ⟨a4, c4, hv4⟩ := own_slice H4.out.1); subst hv4; (have k1 : w4.cell? ⟨T, 0, none⟩ = some (.slice (some ⟨g, 0, none⟩) n cap) := HT0.out w4 H4.out.2); (have k2 : w4.frozen? ⟨T, 0, none⟩ = false := HTF.out w4 H4.out.2); clear ho4 hg4)))
          go_ret
          exact ⟨rfl, HFIN.out _ _ H4.out.2 H4.out.1⟩
        · obtain rfl : i = n := by omega
          obtain ⟨o, ho'⟩ : ∃ o, (if cap = i then some (⟨g, 0, none⟩ : Addr) else some ⟨g, i * 4, none⟩) = some ⟨g, o, none⟩ := by
            split
            · exact ⟨0, rfl⟩
            · exact ⟨i * 4, rfl⟩
          clear ho hb hlt hSr hgo hin hin' hi
          go_wp2_with (first
            | (at_builtin; (refine wpList_append_own _ rfl (.tmp 87) (.tmp 95) 37 rfl w.heap.size 102 i0 _ 4 56 Try.underlying37 hi0 hz0 hz1 hz2 rfl (by decide) (.slice a8 i c8) i (fl rt4 (m.take i)) rfl (HO.out.1.alloc _) ⟨wr.heap.size, 0, none⟩ 1 1 (rt4 ⟨⟨nm, wt, clk, []⟩, none, 0⟩) rfl rfl (cell_new4 (l := rt4 ⟨⟨nm, wt, clk, []⟩, none, 0⟩)) (rt4_one _) (by have := HI.out; unfold maxLen; omega) (by have := HI.out; omega) (by have := HO.out.2.1.size; simp; omega) ?_; intro v3 w3 ho3 hg3 _; (have H3 : Hid (w3.ownsRow w.heap.size 102 4 v3 (i + 1) (fl rt4 (m.take i ++ [⟨⟨nm, wt, clk, []⟩, none, 0⟩])) ∧ Below w.heap.size w w3) := ⟨by (show World.ownsRow _ _ _ _ _ _ _); (rw [fl_app]); simpa [fl] using ho3, (HO.out.2.1.alloc HO.out.2.1.size _).grown hg3 (by have := HO.out.2.1.size; simp; omega) (fun q hq => (HO.out.1.lt q hq).1)⟩); (obtain ⟨a3, c3, hv3⟩ := own_slice H3.out.1); subst hv3; (have k0 : w3.cell? ⟨T, 0, none⟩ = some (.slice (some ⟨g, 0, none⟩) i cap) := HT0.out w3 H3.out.2); clear ho3 hg3))
            | (at_builtin; (refine wpList_append_own _ rfl (.tmp 97) (.tmp 103) 37 rfl w.heap.size 102 i0 _ 4 56 Try.underlying37 hi0 hz0 hz1 hz2 rfl (by decide) (.slice a3 (i + 1) c3) (i + 1) _ rfl H3.out.1 ⟨g, o, none⟩ 0 (cap - i) (fl rt4 (m.drop i)) rfl (by rw [fl_len rt4_len, List.length_drop, HN.out, Nat.sub_self]) (fun q u hu => by rw [List.drop_of_length_le (by rw [HN.out]; omega)] at hu; simp [fl] at hu) (fl_one rt4_one _) (by have := HI.out; unfold maxLen; omega) (by have := HI.out; omega) H3.out.2.size ?_; intro v4 w4 ho4 hg4 _; (have H4 : Hid (w4.ownsRow w.heap.size 102 4 v4 (i + 1) (fl rt4 (m.take i ++ ⟨⟨nm, wt, clk, []⟩, none, 0⟩ :: m.drop i)) ∧ Below w.heap.size w w4) := ⟨by (have h := ho4); (rw [← fl_app, show i + 1 + 0 = i + 1 by (have := HI.out; omega), List.append_assoc] at h); exact h, H3.out.2.grown hg4 H3.out.2.size (fun q hq => (H3.out.1.lt q hq).1)⟩); (obtain ⟨a4, c4, hv4⟩ := own_slice H4.out.1); subst hv4; (have k1 : w4.cell? ⟨T, 0, none⟩ = some (.slice (some ⟨g, 0, none⟩) i cap) := HT0.out w4 H4.out.2); (have k2 : w4.frozen? ⟨T, 0, none⟩ = false := HTF.out w4 H4.out.2); clear ho4 hg4)))
          go_ret
          exact ⟨rfl, HFIN.out _ _ H4.out.2 H4.out.1⟩
end Go.Proofs.Ytfndbllpnkhlhaa
