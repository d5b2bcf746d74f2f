/- Bytes lent, kept and spoilt; bytes appended from whatever source. -/
import Derived.Test.YtfdmepblhlifcaaDoorG2
import Derived.Test.YtfdmepblhlifcaaDoorH2
import Derived.Deep.AppendLies
namespace Go.Proofs.YtfdmepblhlifcaaDoor
open Go.RowKit
set_option linter.unusedVariables false
set_option linter.unusedSimpArgs false

/-- Bytes lent: the row that they lie in. -/
def Loan (W : World) (n₀ g cp : Nat) (zs : List Int) : Prop := W.ownsRow n₀ 5 1 (.slice (some ⟨g, 0, none⟩) (zs.length + 1) cp) (zs.length + 1) (u8l (zs ++ [77])) ∧ Byt zs

set_option maxRecDepth 20000 in
set_option maxHeartbeats 2000000 in
theorem lent_own (zs : List Int) (ad : Addr) (cap : Nat) (w : World) (hz : Byt zs) (hC : ∀ j u, (u8l zs)[j]? = some u → w.cell? (ad.add j) = some u) (hl : (zs.length : Int) ≤ 140737488351232) :
    Calls Tryd.prog 8 #[.slice (some ad) zs.length cap] w fun e w' => (∃ g cp, e = .returned (.slice (some ⟨g, 0, none⟩) zs.length cp) ∧ Loan w' w.heap.size g cp zs) ∧ Below w.heap.size w w' := by
  obtain ⟨i0, hi, hz0, hz1, hz2⟩ := info_parts info5
  have HC : Hid (∀ j u, (u8l zs)[j]? = some u → w.cell? (ad.add j) = some u) := hC
  have HZ : Hid (Byt zs) := hz
  clear hC hz
  go_enter Tryd.func8, Tryd.ntmps8
  go_wp2_with (first | (at_builtin; (refine wpList_append_own _ rfl (.tmp 4) (.tmp 5) 22 rfl w.heap.size 5 i0 (.int .u8 0) 1 1 Tryd.underlying22 hi hz0 hz1 hz2 rfl (by decide) _ 0 [] rfl (World.ownsRow_nil _ _ _ _) ad zs.length cap (u8l zs) rfl (by simp [u8l_len]) HC.out (u8l_one _) (by unfold maxLen; omega) (by omega) (Nat.le_refl _) ?_; intro v2 w2 hown2 hgrow2 hx2; clear hx2; (rw [Nat.zero_add, List.nil_append] at hown2); (have hb2 : Below w.heap.size w w2 := (Below.refl _ _).grown hgrow2 (Nat.le_refl _) (by intro k hk; cases hk)); (have HB2 : Hid (Below w.heap.size w w2) := hb2); (have HOWN2 : Hid (w2.ownsRow w.heap.size 5 1 v2 zs.length (u8l zs)) := hown2); clear hown2 hgrow2 hb2)) | (at_builtin; (refine wpList_append_own _ rfl (.tmp 7) (.tmp 8) 22 rfl w.heap.size 5 i0 (.int .u8 0) 1 1 Tryd.underlying22 hi hz0 hz1 hz2 rfl (by decide) _ zs.length (u8l zs) rfl (HOWN2.out.alloc _) ⟨w2.heap.size, 0, none⟩ 1 1 (u8l [77]) rfl rfl (cell_new1 w2 _ _) (u8l_one _) (by unfold maxLen; omega) (by omega) (by have := HB2.out.size; simp at *; omega) ?_; intro v3 w3 hown3 hgrow3 hx3; clear hx3; (rw [u8l_app] at hown3); (obtain ⟨g3, cp3, hv3⟩ := own_form hown3 (by omega)); (have hb3 : Below w.heap.size w2 w3 := ((Below.refl _ _).alloc (by have := HB2.out.size; simp at *; omega) _).grown hgrow3 (by have := HB2.out.size; simp at *; omega) (ownBlock_ge HOWN2.out)); (have HB3 : Hid (Below w.heap.size w2 w3) := hb3); (rw [hv3] at hown3); (rw [hv3]); (have HOWN3 : Hid (w3.ownsRow w.heap.size 5 1 (.slice (some ⟨g3, 0, none⟩) (zs.length + 1) cp3) (zs.length + 1) (u8l (zs ++ [77]))) := hown3); (have hcap : (zs.length : Int) ≤ (cp3 : Int) := by (have h := own_cap hown3); omega); clear hown3 hgrow3 hb3 hv3)))
  go_ret
  exact ⟨⟨g3, cp3, rfl, HOWN3.out, HZ.out⟩, HB2.out.trans HB3.out⟩

set_option maxRecDepth 20000 in
set_option maxHeartbeats 2000000 in
theorem lent_own_none (w : World) :
    Calls Tryd.prog 8 #[.slice none 0 0] w fun e w' => (∃ g cp, e = .returned (.slice (some ⟨g, 0, none⟩) 0 cp) ∧ Loan w' w.heap.size g cp []) ∧ Below w.heap.size w w' := by
  obtain ⟨i0, hi, hz0, hz1, hz2⟩ := info_parts info5
  go_enter Tryd.func8, Tryd.ntmps8
  go_wp2_with (first | (at_builtin; (refine wpList_append_own_none rfl (.tmp 4) (.tmp 5) 22 rfl w.heap.size 5 i0 1 Tryd.underlying22 hi _ 0 [] rfl (World.ownsRow_nil _ _ _ _) rfl ?_)) | (at_builtin; (refine wpList_append_own _ rfl (.tmp 7) (.tmp 8) 22 rfl w.heap.size 5 i0 (.int .u8 0) 1 1 Tryd.underlying22 hi hz0 hz1 hz2 rfl (by decide) _ 0 [] rfl (World.ownsRow_nil _ _ _ _) ⟨w.heap.size, 0, none⟩ 1 1 (u8l [77]) rfl rfl (cell_new1 w _ _) (u8l_one _) (by unfold maxLen; omega) (by omega) (by simp) ?_; intro v3 w3 hown3 hgrow3 hx3; clear hx3; (obtain ⟨g3, cp3, hv3⟩ := own_form hown3 (by omega)); (have hb3 : Below w.heap.size w w3 := ((Below.refl _ _).alloc (Nat.le_refl _) _).grown hgrow3 (by simp) (by intro k hk; cases hk)); (have HB3 : Hid (Below w.heap.size w w3) := hb3); (rw [hv3] at hown3); (rw [hv3]); (have HOWN3 : Hid (w3.ownsRow w.heap.size 5 1 (.slice (some ⟨g3, 0, none⟩) 1 cp3) 1 (u8l ([] ++ [77]))) := hown3); clear hown3 hgrow3 hb3 hv3)))
  go_ret
  exact ⟨⟨g3, cp3, rfl, HOWN3.out, fun x hx => nomatch hx⟩, HB3.out⟩

theorem Loan.lends {W : World} {n₀ g cp : Nat} {zs : List Int} (h : Loan W n₀ g cp zs) (hl : (zs.length : Int) ≤ 140737488351232) : Lends W n₀ g cp zs := lends_own h.1 h.2 hl
theorem Loan.later {W W' : World} {n₀ g cp : Nat} {zs : List Int} (h : Loan W n₀ g cp zs) (hg : W'.heap[g]? = W.heap[g]?) : Loan W' n₀ g cp zs := by
  refine ⟨⟨h.1.1, ?_⟩, h.2⟩
  rcases h.1.2 with ⟨h', _⟩ | ⟨g', cap, cur, hv, h1, h2, r⟩
  · cases h'
  · cases hv
    exact .inr ⟨g, cp, cur, rfl, h1, hg.trans h2, r⟩
theorem Loan.block {W : World} {n₀ g cp : Nat} {zs : List Int} (h : Loan W n₀ g cp zs) : n₀ ≤ g ∧ g < W.heap.size ∧ ∃ cur, W.heap[g]? = some (.cells cur 5 (0, 0)) := by
  rcases h.1.2 with ⟨h', _⟩ | ⟨g', cap, cur, hv, h1, h2, r⟩
  · cases h'
  · cases hv
    exact ⟨h1, (Array.getElem?_eq_some_iff.1 h2).1, _, h2⟩
/-- The bytes lent, without the one behind them. -/
theorem Loan.own {W : World} {n₀ g cp : Nat} {zs : List Int} (h : Loan W n₀ g cp zs) : W.ownsRow n₀ 5 1 (.slice (some ⟨g, 0, none⟩) zs.length cp) zs.length (u8l zs) := by
  refine ⟨by simp [u8l_len], ?_⟩
  rcases h.1.2 with ⟨h', _⟩ | ⟨g', cap, cur, hv, h1, h2, h3, h4, h5, h6⟩
  · cases h'
  · cases hv
    refine .inr ⟨g, cp, cur, rfl, h1, h2, by omega, h4, h5, ?_⟩
    have e : cur.toList.take (zs.length * 1) = (cur.toList.take ((zs.length + 1) * 1)).take zs.length := by
      rw [List.take_take]; congr 1; omega
    rw [e, h6]
    simp [u8l]
theorem Loan.row {W : World} {n₀ g cp : Nat} {zs : List Int} (h : Loan W n₀ g cp zs) (hl : (zs.length : Int) ≤ 140737488351232) : BRow W g 0 zs := by
  have R := (h.lends hl).2.2
  refine ⟨fun i hi => ?_, h.2, by omega⟩
  rw [R.cell i (by simp; omega)]
  simp [List.getD_eq_getElem?_getD, List.getElem?_append_left hi]

/-- Bytes that came in. -/
def Src (w : World) (sv : Value) (bs : List Int) : Prop := (sv = .slice none 0 0 ∧ bs = []) ∨ ∃ ad cap, sv = .slice (some ad) bs.length cap ∧ ∀ j u, (u8l bs)[j]? = some u → w.cell? (ad.add j) = some u
theorem lent_src {w : World} {sv : Value} {bs : List Int} (h : Src w sv bs) (hb : Byt bs) (hl : (bs.length : Int) ≤ 140737488351232) :
    Calls Tryd.prog 8 #[sv] w fun e w' => (∃ g cp, e = .returned (.slice (some ⟨g, 0, none⟩) bs.length cp) ∧ Loan w' w.heap.size g cp bs) ∧ Below w.heap.size w w' := by
  rcases h with ⟨rfl, rfl⟩ | ⟨ad, cap, rfl, hC⟩
  · exact lent_own_none w
  · exact lent_own bs ad cap w hb hC hl
theorem kept_src {w : World} {sv : Value} {bs : List Int} {n₀ g cp : Nat} (h : Src w sv bs) (hL : Loan w n₀ g cp bs) (hl : (bs.length : Int) ≤ 140737488351232) :
    Calls Tryd.prog 11 #[.slice (some ⟨g, 0, none⟩) bs.length cp, sv] w fun e w' => e = .returned (.bool true) ∧ w' = w := by
  rcases h with ⟨rfl, rfl⟩ | ⟨ad, cap, rfl, hC⟩
  · exact kept_none g cp w ⟨_, hL.lends hl⟩
  · exact kept_some bs g cp ad cap w hL.2 hC hl ⟨_, hL.lends hl⟩
theorem Src.later {w w' : World} {sv : Value} {bs : List Int} {B : Nat} (h : Src w sv bs) (hB : ∀ ad n c, 0 < n → sv = .slice (some ad) n c → ad.block < B) (hb : Below B w w') : Src w' sv bs := by
  rcases h with h | ⟨ad, cap, rfl, hC⟩
  · exact .inl h
  · refine .inr ⟨ad, cap, rfl, fun j u hu => ?_⟩
    have hlt : (ad.add j).block < B := by
      have : (ad.add j).block = ad.block := by unfold Addr.add; split <;> rfl
      have hj : 0 < bs.length := by
        have h1 := (List.getElem?_eq_some_iff.1 hu).1
        rw [u8l_len] at h1
        omega
      rw [this]; exact hB ad _ _ hj rfl
    rw [hb.cell hlt]
    exact hC j u hu
theorem own_src {w : World} {base : Nat} {v : Value} {zs : List Int} (h : w.ownsRow base 5 1 v zs.length (u8l zs)) : Src w v zs := by
  rcases h.2 with ⟨h1, h2⟩ | ⟨g, cap, cur, h1, _⟩
  · exact .inl ⟨h1, List.eq_nil_of_length_eq_zero h2⟩
  · exact .inr ⟨⟨g, 0, none⟩, cap, h1, fun j u hu => h.cells (g := g) (by rw [h1]; rfl) j u hu⟩

theorem wpList_append_src {w : World} {ops : Array Oper} {rest : List Oper} {o : Oper} {a : Act} {Q : Exit → Act → World → Prop} (hgd : o.guard = none) (s x : Operand)
    (ho : o.op = .call { callee := .builtin .append, args := #[s, x], argTypes := #[22, 22] }) (base : Nat) (v : Value) (n : Nat) (xs : List Value) (hs : a.eval s = v) (hown : w.ownsRow base 5 1 v n xs)
    (sv : Value) (bs : List Int) (hx : a.eval x = sv) (hsrc : Src w sv bs) (hb : n + bs.length ≤ 100000000) (hbase : base ≤ w.heap.size)
    (h : ∀ v' w', w'.ownsRow base 5 1 v' (n + bs.length) (xs ++ u8l bs) → w.grownBy w' v.ownBlock → wpList Tryd.prog ops Q rest (a.put o.dst v') w') : wpList Tryd.prog ops Q (o :: rest) a w := by
  obtain ⟨i0, hi, hz0, hz1, hz2⟩ := info_parts info5
  rcases hsrc with ⟨rfl, rfl⟩ | ⟨ad, cap, rfl, hC⟩
  · refine wpList_append_own_none hgd s x 22 ho base 5 i0 1 Tryd.underlying22 hi v n xs hs hown hx ?_
    refine h v w ?_ ⟨rfl, rfl, rfl, Nat.le_refl _, fun _ _ _ => rfl⟩
    simpa [u8l] using hown
  · exact wpList_append_own w hgd s x 22 ho base 5 i0 (.int .u8 0) 1 1 Tryd.underlying22 hi hz0 hz1 hz2 rfl (by decide) v n xs hs hown ad bs.length cap (u8l bs) hx (by simp [u8l_len]) hC (u8l_one _) (by unfold maxLen; omega) (by omega) hbase fun v' w' h1 h2 _ => h v' w' h1 h2

set_option maxRecDepth 20000 in
set_option maxHeartbeats 4000000 in
theorem spoil_any (base g n cp : Nat) (zs : List Int) (w : World) (hn : n = zs.length) (h : w.ownsRow base 5 1 (.slice (some ⟨g, 0, none⟩) n cp) n (u8l zs)) (hz : Byt zs) (hl : (zs.length : Int) ≤ 9000000) :
    Calls Tryd.prog 21 #[.slice (some ⟨g, 0, none⟩) n cp] w fun e w' => (∃ v, e = .returned v) ∧ Bx g w.heap.size w w' := by
  have HO : Hid (w.ownsRow base 5 1 (.slice (some ⟨g, 0, none⟩) n cp) n (u8l zs)) := h
  have HZ : Hid (Byt zs) := hz
  have HN : Hid (n = zs.length) := hn
  have hcap : (n : Int) ≤ (cp : Int) := by have := own_cap h; omega
  have hn5 : (n : Int) ≤ 10000000 := by omega
  clear h hz hn hl
  go_enter Tryd.func21, Tryd.ntmps21
  go_wp2_with fail
  go_loopw [2] (fun x wr => ∃ (k : Nat) (xs : List Value), k ≤ n ∧ x = .int .i64 k ∧ wr.ownsRow base 5 1 (.slice (some ⟨g, 0, none⟩) n cp) n xs ∧ (∀ j, k ≤ j → j < n → xs[j]? = some (.int .u8 (zs.getD j 0))) ∧ Bx g w.heap.size w wr) (fun x wr => n - (intOf x).toNat)
  case atStart =>
    refine ⟨0, u8l zs, by omega, rfl, HO.out, fun j _ hj => ?_, Bx.refl _ _ _⟩
    have hn := HN.out
    simp [u8l, List.getD_eq_getElem?_getD, List.getElem?_eq_getElem (show j < zs.length by omega)]
  case round =>
    obtain ⟨k, xs, hk, rfl, hown, hrest, hbx⟩ := hrel
    have HOW : Hid (wr.ownsRow base 5 1 (.slice (some ⟨g, 0, none⟩) n cp) n xs) := hown
    have HRE : Hid (∀ j, k ≤ j → j < n → xs[j]? = some (.int .u8 (zs.getD j 0))) := hrest
    have HBX : Hid (Bx g w.heap.size w wr) := hbx
    clear hown hrest hbx
    by_cases hlt : k < n
    · have hc : wr.cell? ⟨g, k, none⟩ = some (.int .u8 (zs.getD k 0)) := by
        have h := HOW.out.cells (g := g) rfl k _ (HRE.out k (Nat.le_refl _) hlt)
        rwa [Addr.add_mid, Nat.zero_add] at h
      have hf : wr.frozen? ⟨g, k, none⟩ = false := by
        rcases HOW.out.2 with ⟨h', _⟩ | ⟨g', cap, cur, hv, h1, h2, _⟩
        · cases h'
        · cases hv
          exact frozen_of_row _ _ _ _ _ h2
      have hzb := HZ.out (zs.getD k 0) (by have := HN.out; rw [List.getD_eq_getElem?_getD, List.getElem?_eq_getElem (by omega)]; exact List.getElem_mem _)
      generalize hz : zs.getD k 0 = z at *
      clear hz
      go_wp2_with fail
      go_roundw
      case rel =>
        refine ⟨k + 1, xs.set k _, by omega, by go_num, (HOW.out.stored k _).1, fun j h1 h2 => ?_, HBX.out.trans (Bx.setCell g _ wr k _)⟩
        rw [List.getElem?_set_ne (by omega)]; exact HRE.out j (by omega) h2
      case measure => simp [intOf]; omega
    · obtain ⟨i0, hi, hz0, hz1, hz2⟩ := info_parts info5
      have hbw := HBX.out.size
      have hgb := HOW.out.lt g rfl
      go_wp2_with (at_builtin; (refine wpList_append_lies _ rfl (.tmp 17) (.tmp 18) 22 rfl base 5 i0 (.int .u8 0) 1 1 Tryd.underlying22 hi hz0 hz1 hz2 rfl (by decide) (.slice (some ⟨g, 0, none⟩) n cp) n xs rfl (HOW.out.alloc _) ⟨wr.heap.size, 0, none⟩ 1 1 (u8l [99]) rfl rfl (cell_new1 wr _ _) (u8l_one _) (by decide) (by unfold maxLen; omega) (by omega) (by simp; omega) (wr.heap.size + 1) (by simp) ?_; intro g3 cp3 w3 hown3 hgrow3 hx3 hy3; (have HX3 : Hid (g3 = g ∨ w.heap.size ≤ g3) := (by rcases hx3 with e | e; left; (simp [Value.ownBlock] at e; exact e.symm); right; omega)); clear hx3 hy3; (have c3 : w3.cell? ⟨g3, n, none⟩ = some (.int .u8 99) := (by rw [hown3.cellAt n (by omega)]; (have hx := HOW.out.1); rw [List.getElem?_append_right (by omega)]; rw [show n - xs.length = 0 by omega]; rfl)); (have f3 := hown3.frozenAt n); (have q3 := own_cap hown3); (have q4 : (n : Int) + 1 ≤ (cp3 : Int) := by omega); (have HG3 : Hid (Bx g w.heap.size w w3) := (by refine HBX.out.trans ⟨hgrow3.os, hgrow3.tape, hgrow3.output, ?_, fun k hk hkg => ?_⟩; exact Nat.le_trans (by simp) hgrow3.size; rw [hgrow3.block k (by simp; omega) (by intro e; injection e with e; exact hkg e)]; exact Below.heap_alloc _ _ _ (by omega))); clear hown3 hgrow3 q3))
      go_end0
      refine ⟨⟨_, rfl⟩, ?_⟩
      rcases HX3.out with rfl | h
      · exact HG3.out.trans (Bx.setCell _ _ _ _ _)
      · exact HG3.out.trans ⟨rfl, rfl, rfl, by simp, fun k hk _ => Below.heap_setCell _ _ _ _ (by show k ≠ g3; omega)⟩
end Go.Proofs.YtfdmepblhlifcaaDoor
