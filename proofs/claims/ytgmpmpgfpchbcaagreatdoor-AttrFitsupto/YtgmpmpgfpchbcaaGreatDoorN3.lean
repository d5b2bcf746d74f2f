/- A quoted text that is read. -/
import Derived.Test.YtgmpmpgfpchbcaaGreatDoorN2
namespace Go.Proofs.YtgmpmpgfpchbcaaGreatDoor
open Go.RowKit
set_option linter.unusedVariables false
set_option linter.unusedSimpArgs false

def u8v (l : List UInt8) : List Value := l.map fun b => .int .u8 (b.toNat : Int)
theorem u8v_len (l : List UInt8) : (u8v l).length = l.length := by simp [u8v]
theorem info5 : (Tryz.prog.info? 5).map (fun i => (i.zero, i.size, i.bytes)) = some (some (.int .u8 0), 1, 1) := by kernel_rfl
/-- Bytes of our own, as a text. -/
theorem own_text {w : World} {base : Nat} {v : Value} {l : List UInt8} (h : w.ownsRow base 5 1 v l.length (u8v l)) : (convert 96 9 v).run Tryz.prog w = .ok (.string (tx l)) w := by
  rcases h.2 with ⟨h1, h2⟩ | ⟨g, cap, cur, h1, h2, h3, h4, h5, h6, h7⟩
  · have hl : l = [] := List.eq_nil_of_length_eq_zero h2
    subst hl
    rw [h1]
    exact (show (convert 96 9 (.slice none 0 0)).run Tryz.prog w = .ok (.string (tx [])) w by kernel_rfl)
  · have h1' := h1
    subst h1
    refine run_convert_bytes_back (P := Tryz.prog) w 96 9 5 ⟨g, 0, none⟩ cap l Tryz.underlying96 Tryz.underlying5 Tryz.underlying9 (fun j hj => ?_)
    exact h.cells (g := g) rfl j _ (by unfold u8v; rw [List.getElem?_map, List.getElem?_eq_getElem hj]; rfl)
/-- Bytes more. -/
theorem wpList_append_b {w : World} {ops : Array Oper} {rest : List Oper} {o : Oper} {a : Act} {Q : Exit → Act → World → Prop} (hgd : o.guard = none) (s x : Operand)
    (ho : o.op = .call { callee := .builtin .append, args := #[s, x], argTypes := #[96, 96] }) (base : Nat) (v : Value) (n : Nat) (xs : List Value) (hs : a.eval s = v) (V : World) (hown : V.ownsRow base 5 1 v n xs)
    (p : Int) (hw : w = V.alloc (.cells #[.int .u8 p] 5)) (hx : a.eval x = .slice (some ⟨V.heap.size, 0, none⟩) 1 1) (hb : n + 1 ≤ 140737488355328) (hbase : base ≤ V.heap.size)
    (h : ∀ g cap w', w'.ownsRow base 5 1 (.slice (some ⟨g, 0, none⟩) (n + 1) cap) (n + 1) (xs ++ [.int .u8 p]) → V.grownBy w' v.ownBlock → wpList Tryz.prog ops Q rest (a.put o.dst (.slice (some ⟨g, 0, none⟩) (n + 1) cap)) w') : wpList Tryz.prog ops Q (o :: rest) a w := by
  subst hw
  obtain ⟨i0, hi, hz0, hz1, hz2⟩ := info_parts info5
  refine wpList_append_lies _ hgd s x 96 ho base 5 i0 (.int .u8 0) 1 1 Tryz.underlying96 hi hz0 hz1 hz2 rfl (by decide) v n xs hs (hown.alloc _) ⟨V.heap.size, 0, none⟩ 1 1 [.int .u8 p] hx rfl (World.news_of_block (Go.heap_alloc_new _ _)) (by intro u hu; simp at hu; rw [hu]; rfl) (by decide) (by unfold maxLen; omega) (by omega) (by simp; omega) (V.heap.size + 1) (by simp) fun g cap w' h1 h2 h3 _ => h g cap w' h1 ?_
  exact ⟨h2.os, h2.tape, h2.output, Nat.le_trans (by simp) h2.size, fun k hk hv => by rw [h2.block k (by simp; omega) hv]; exact Below.heap_alloc _ _ _ hk⟩
/-- A quoted text behind its first sign, where no other sign than this one stands behind a backslash: its value, and how many bytes it has. -/
def qI : List UInt8 → Option (List UInt8 × Nat)
  | [] => none
  | [c] => if c = 34 then some ([], 1) else none
  | c :: d :: r => if c = 34 then some ([], 1) else if c = 10 then none else if c = 92 then (if d = 34 then (qI r).map (fun p => (34 :: p.1, p.2 + 2)) else none) else (qI (d :: r)).map (fun p => (c :: p.1, p.2 + 1))
theorem q_cases (l : List UInt8) (V : List UInt8) (n : Nat) (h : qI l = some (V, n)) : ∃ c r, l = c :: r ∧ ((c = 34 ∧ V = [] ∧ n = 1) ∨ (c = 92 ∧ ∃ r' V' n', r = 34 :: r' ∧ qI r' = some (V', n') ∧ V = 34 :: V' ∧ n = n' + 2) ∨ (c ≠ 34 ∧ c ≠ 10 ∧ c ≠ 92 ∧ ∃ V' n', qI r = some (V', n') ∧ V = c :: V' ∧ n = n' + 1)) := by
  match l, h with
  | [], h => simp [qI] at h
  | [c], h =>
    simp only [qI] at h
    by_cases e : c = 34
    · rw [if_pos e] at h; cases h; exact ⟨c, [], rfl, .inl ⟨e, rfl, rfl⟩⟩
    · rw [if_neg e] at h; cases h
  | c :: d :: r, h =>
    rw [qI] at h
    refine ⟨c, d :: r, rfl, ?_⟩
    by_cases e : c = 34
    · rw [if_pos e] at h; cases h; exact .inl ⟨e, rfl, rfl⟩
    · rw [if_neg e] at h
      by_cases e2 : c = 10
      · rw [if_pos e2] at h; cases h
      · rw [if_neg e2] at h
        by_cases e3 : c = 92
        · rw [if_pos e3] at h
          by_cases e4 : d = 34
          · rw [if_pos e4] at h
            cases hr : qI r with
            | none => rw [hr] at h; cases h
            | some p => rw [hr] at h; cases h; exact .inr (.inl ⟨e3, r, p.1, p.2, by rw [e4], hr, rfl, rfl⟩)
          · rw [if_neg e4] at h; cases h
        · rw [if_neg e3] at h
          cases hr : qI (d :: r) with
          | none => rw [hr] at h; cases h
          | some p => rw [hr] at h; cases h; exact .inr (.inr ⟨e, e2, e3, p.1, p.2, by first | exact hr | rfl, rfl, rfl⟩)
theorem drop_at (t : List UInt8) (m : Nat) (c : UInt8) (r : List UInt8) (h : t.drop m = c :: r) : t[m]? = some c ∧ t.drop (m + 1) = r ∧ m < t.length := by
  have h1 : m < t.length := by
    by_cases c : m < t.length
    · exact c
    · rw [List.drop_eq_nil_of_le (by omega)] at h; cases h
  rw [List.drop_eq_getElem_cons h1] at h
  cases h
  exact ⟨List.getElem?_eq_getElem h1, rfl, h1⟩
theorem esc_yes (C : Nat) (t : List UInt8) (i : Nat) (w : World) (h : Sc w C t i) (hc : t[i]? = some 34) : Calls Tryz.prog 96 #[.pointer (some ⟨C, 0, none⟩)] w fun e w' => e = .returned (.tuple #[.int .u8 34, .bool true]) ∧ Sc w' C t (i + 1) ∧ w.grownBy w' (some C) := by
  have H1 : Hid (Calls Tryz.prog 76 #[.pointer (some ⟨C, 0, none⟩), .int .u8 34] w fun e w' => e = .returned (.bool true) ∧ Sc w' C t (i + 1) ∧ w.grownBy w' (some C)) := take_yes C t i 34 w h hc
  clear h hc
  go_enter Tryz.func96, Tryz.ntmps96
  go_wp2_with (go_at_call 76; refine H1.out.mono ?_; rintro e w1 ⟨rfl, hs1, hg1⟩; (have HS1 : Hid (Sc w1 C t (i + 1) ∧ w.grownBy w1 (some C)) := ⟨hs1, hg1⟩); clear hs1 hg1)
  go_ret2
  exact ⟨rfl, HS1.out⟩
theorem quoted_no (C : Nat) (t : List UInt8) (i : Nat) (w : World) (h : Sc w C t i) (hc : t[i]? ≠ some 34) : Calls Tryz.prog 78 #[.pointer (some ⟨C, 0, none⟩)] w fun e w' => e = .returned (.tuple #[.string ⟨#[]⟩, .bool false]) ∧ Sc w' C t i ∧ w.grownBy w' (some C) := by
  have H1 : Hid (Calls Tryz.prog 76 #[.pointer (some ⟨C, 0, none⟩), .int .u8 34] w fun e w' => e = .returned (.bool false) ∧ Sc w' C t i ∧ w.grownBy w' (some C)) := take_no C t i 34 w h hc
  clear h hc
  go_enter Tryz.func78, Tryz.ntmps78
  go_wp2_with (go_at_call 76; refine H1.out.mono ?_; rintro e w1 ⟨rfl, hs1, hg1⟩; (have HS1 : Hid (Sc w1 C t i ∧ w.grownBy w1 (some C)) := ⟨hs1, hg1⟩); clear hs1 hg1)
  go_ret2
  exact ⟨rfl, HS1.out⟩
theorem own_kept5 {w w' : World} {base n C : Nat} {v : Value} {xs : List Value} (h : w.ownsRow base 5 1 v n xs) (hg : w.grownBy w' (some C)) (hC : C < base) : w'.ownsRow base 5 1 v n xs :=
  own_at h fun q hq => hg.block q (h.lt q hq).2 (fun e => by have := (h.lt q hq).1; cases e; omega)
theorem Sc.kept {w w' : World} {C base n : Nat} {t : List UInt8} {i : Nat} {v : Value} {xs : List Value} (h : Sc w C t i) (ho : w.ownsRow base 5 1 v n xs) (hC : C < base) (hg : w.grownBy w' v.ownBlock) : Sc w' C t i :=
  ⟨(hg.block C (Array.getElem?_eq_some_iff.1 h.cells).1 (fun e => by have := (ho.lt C e.symm).1; omega)).trans h.cells, h.le, h.sm⟩
theorem grown_own {w w0 w' : World} {C base n : Nat} {v : Value} {xs : List Value} (h0 : w.grownBy w0 (some C)) (ho : w0.ownsRow w.heap.size 5 1 v n xs) (hg : w0.grownBy w' v.ownBlock) : w.grownBy w' (some C) :=
  ⟨hg.os.trans h0.os, hg.tape.trans h0.tape, hg.output.trans h0.output, Nat.le_trans h0.size hg.size, fun q hq hr => (hg.block q (Nat.lt_of_lt_of_le hq h0.size) (fun e => by have := (ho.lt q e.symm).1; omega)).trans (h0.block q hq hr)⟩
set_option maxRecDepth 20000 in
set_option maxHeartbeats 8000000 in
theorem quoted_yes (C : Nat) (t : List UInt8) (i n : Nat) (V : List UInt8) (w : World) (h : Sc w C t i) (hc : t[i]? = some 34) (hv : qI (t.drop (i + 1)) = some (V, n)) : Calls Tryz.prog 78 #[.pointer (some ⟨C, 0, none⟩)] w fun e w' => e = .returned (.tuple #[.string (tx V), .bool true]) ∧ Sc w' C t (i + 1 + n) ∧ w.grownBy w' (some C) := by
  have H1 : Hid (Calls Tryz.prog 76 #[.pointer (some ⟨C, 0, none⟩), .int .u8 34] w fun e w' => e = .returned (.bool true) ∧ Sc w' C t (i + 1) ∧ w.grownBy w' (some C)) := take_yes C t i 34 w h hc
  have HV : Hid (qI (t.drop (i + 1)) = some (V, n)) := hv
  have HCW : Hid (C < w.heap.size) := (Array.getElem?_eq_some_iff.1 h.cells).1
  have hsm := h.sm
  clear h hc hv
  go_enter Tryz.func78, Tryz.ntmps78
  go_wp2_with (go_at_call 76; refine H1.out.mono ?_; rintro e w1 ⟨rfl, hs1, hg1⟩; (have HS1 : Hid (Sc w1 C t (i + 1) ∧ w.grownBy w1 (some C)) := ⟨hs1, hg1⟩); clear hs1 hg1)
  go_loopg [4, 5, 6] (t.length + 1) (fun gk v4 v5 v6 wx => ∃ m U V1 n1, t.length - m < gk ∧ U.length ≤ m ∧ Sc wx C t m ∧ w.grownBy wx (some C) ∧ wx.ownsRow w.heap.size 5 1 v4 U.length (u8v U) ∧ qI (t.drop m) = some (V1, n1) ∧ U ++ V1 = V ∧ m + n1 = i + 1 + n)
  case atStart => exact ⟨i + 1, [], V, n, by omega, by simp, HS1.out.1, HS1.out.2, World.ownsRow_nil _ _ _ _, HV.out, rfl, rfl⟩
  case round =>
    obtain ⟨m, U, V1, n1, h1, h0, h2, h3, h4, h5, h6, h7⟩ := hrel
    obtain ⟨g', rfl⟩ : ∃ g', gk = g' + 1 := ⟨gk - 1, by omega⟩
    obtain ⟨a4, k4, e4⟩ := own_slice h4
    subst e4
    have HR : Hid (Sc wr C t m ∧ w.grownBy wr (some C) ∧ wr.ownsRow w.heap.size 5 1 (.slice a4 U.length k4) U.length (u8v U) ∧ U ++ V1 = V ∧ m + n1 = i + 1 + n) := ⟨h2, h3, h4, h6, h7⟩
    obtain ⟨c, r, hcr, hcase⟩ := q_cases _ _ _ h5
    obtain ⟨hc, hr, hm⟩ := drop_at t m c r hcr
    have HN : Hid (Calls Tryz.prog 74 #[.pointer (some ⟨C, 0, none⟩)] wr fun e w' => e = .returned (.tuple #[.int .u8 (c.toNat : Int), .bool true]) ∧ ∃ q, w' = wr.drewN q) := next_some C t m c wr HR.out.1 hc
    have hm0 : (m : Int) ≤ 65536 := by omega
    clear h2 h3 h4 h5 h6 h7 hcr hc
    rcases hcase with ⟨rfl, rfl, rfl⟩ | ⟨rfl, r', V', n', rfl, hq', rfl, rfl⟩ | ⟨n34, n10, n92, V', n', hq', rfl, rfl⟩
    · have HE : Hid (U = V) := by show U = V; rw [← HR.out.2.2.2.1, List.append_nil]
      rw [show ((34 : UInt8).toNat : Int) = 34 from rfl] at HN
      go_upto_region 7 with (go_at_call 74; refine HN.out.mono ?_; rintro e w1 ⟨rfl, q, hw1⟩; (have HS2 : Hid (Sc w1 C t m ∧ w.grownBy w1 (some C) ∧ w1.ownsRow w.heap.size 5 1 (.slice a4 U.length k4) U.length (u8v U)) := by rw [hw1]; exact ⟨HR.out.1.drewN q, grown_trans HR.out.2.1 (grown_drewN wr q _), own_at HR.out.2.2.1 fun _ _ => rfl⟩); clear hw1)
      have d1 := HS2.out.1.c1
      have e1 := HS2.out.1.f1
      have hcv := own_text (own_kept5 HS2.out.2.2 (grown_set w1 C 1 (.int .i64 ((m : Int) + 1))) HCW.out)
      go_wp2_with fail
      go_ret2
      have hcv2 := HS2.out.1.set (m + 1) (by omega)
      refine ⟨by rw [HE.out]; rfl, ?_, grown_trans HS2.out.2.1 (grown_set _ _ _ _)⟩
      rw [← HR.out.2.2.2.2]
      exact hcv2
    · obtain ⟨hd, hr2, hm2⟩ := drop_at t (m + 1) 34 r' hr
      rw [show ((92 : UInt8).toNat : Int) = 92 from rfl] at HN
      have HQ : Hid (qI (t.drop (m + 2)) = some (V', n')) := by show qI _ = _; rw [show m + 2 = m + 1 + 1 by omega, hr2]; exact hq'
      have HES : Hid (∀ W, Sc W C t (m + 1) → Calls Tryz.prog 96 #[.pointer (some ⟨C, 0, none⟩)] W fun e w' => e = .returned (.tuple #[.int .u8 34, .bool true]) ∧ Sc w' C t (m + 2) ∧ W.grownBy w' (some C)) := fun W hS => esc_yes C t (m + 1) W hS hd
      clear hd hr2 hr hq'
      go_upto_region 7 with (go_at_call 74; refine HN.out.mono ?_; rintro e w1 ⟨rfl, q, hw1⟩; (have HS2 : Hid (Sc w1 C t m ∧ w.grownBy w1 (some C) ∧ w1.ownsRow w.heap.size 5 1 (.slice a4 U.length k4) U.length (u8v U)) := by rw [hw1]; exact ⟨HR.out.1.drewN q, grown_trans HR.out.2.1 (grown_drewN wr q _), own_at HR.out.2.2.1 fun _ _ => rfl⟩); clear hw1)
      have d1 := HS2.out.1.c1
      have e1 := HS2.out.1.f1
      go_upto_region 12 with fail
      obtain ⟨W2, hW2⟩ : ∃ W2, w1.setCell ⟨C, 1, none⟩ (.int .i64 ((m : Int) + 1)) = W2 := ⟨_, rfl⟩
      have HS3 : Hid (Sc W2 C t (m + 1) ∧ w.grownBy W2 (some C) ∧ W2.ownsRow w.heap.size 5 1 (.slice a4 U.length k4) U.length (u8v U)) := by rw [← hW2]; exact ⟨HS2.out.1.set (m + 1) (by omega), grown_trans HS2.out.2.1 (grown_set _ _ _ _), own_kept5 HS2.out.2.2 (grown_set _ _ _ _) HCW.out⟩
      rw [hW2]
      clear hW2 d1 e1
      go_upto_region 15 with (go_at_call 96; refine (HES.out W2 HS3.out.1).mono ?_; rintro e w3 ⟨rfl, hs3, hg3⟩; (have HS4 : Hid (Sc w3 C t (m + 2) ∧ w.grownBy w3 (some C) ∧ w3.ownsRow w.heap.size 5 1 (.slice a4 U.length k4) U.length (u8v U)) := ⟨hs3, grown_trans HS3.out.2.1 hg3, own_kept5 HS3.out.2.2 hg3 HCW.out⟩); clear hs3 hg3)
      have HWS : Hid (w.heap.size ≤ w3.heap.size) := HS4.out.2.1.size
      go_wp2_with (at_builtin; (refine wpList_append_b rfl (.tmp 42) (.tmp 44) rfl w.heap.size (.slice a4 U.length k4) U.length (u8v U) rfl w3 HS4.out.2.2 34 rfl rfl (by omega) HWS.out ?_; intro g9 c9 w9 ho9 hg9; (have HO9 : Hid (w9.ownsRow w.heap.size 5 1 (.slice (some ⟨g9, 0, none⟩) (U.length + 1) c9) (U.length + 1) (u8v U ++ [.int .u8 34]) ∧ w3.grownBy w9 (Value.slice a4 U.length k4).ownBlock) := ⟨ho9, hg9⟩); clear ho9 hg9))
      go_roundg g'
      case measure => omega
      case rel =>
        refine ⟨m + 2, U ++ [34], V', n', by omega, by simp; omega, HS4.out.1.kept HS4.out.2.2 HCW.out HO9.out.2, grown_own (base := 0) HS4.out.2.1 HS4.out.2.2 HO9.out.2, ?_, HQ.out, ?_, ?_⟩
        · rw [show (U ++ [(34 : UInt8)]).length = U.length + 1 by simp, show u8v (U ++ [34]) = u8v U ++ [.int .u8 34] by simp [u8v]]; exact HO9.out.1
        · rw [← HR.out.2.2.2.1, List.append_assoc]; rfl
        · rw [← HR.out.2.2.2.2]; omega
    · have HQ : Hid (qI (t.drop (m + 1)) = some (V', n')) := by show qI _ = _; rw [hr]; exact hq'
      have z1 : ((c.toNat : Int) == 34) = false := by simp; exact fun e => n34 (UInt8.toNat_inj.1 (by show c.toNat = 34; omega))
      have z2 : ((c.toNat : Int) == 10) = false := by simp; exact fun e => n10 (UInt8.toNat_inj.1 (by show c.toNat = 10; omega))
      have z3 : ((c.toNat : Int) == 92) = false := by simp; exact fun e => n92 (UInt8.toNat_inj.1 (by show c.toNat = 92; omega))
      clear hr hq' n34 n10 n92
      go_upto_region 7 with (go_at_call 74; refine HN.out.mono ?_; rintro e w1 ⟨rfl, q, hw1⟩; (have HS2 : Hid (Sc w1 C t m ∧ w.grownBy w1 (some C) ∧ w1.ownsRow w.heap.size 5 1 (.slice a4 U.length k4) U.length (u8v U)) := by rw [hw1]; exact ⟨HR.out.1.drewN q, grown_trans HR.out.2.1 (grown_drewN wr q _), own_at HR.out.2.2.1 fun _ _ => rfl⟩); clear hw1)
      have d1 := HS2.out.1.c1
      have e1 := HS2.out.1.f1
      go_upto_region 15 with fail
      obtain ⟨w3, hW2⟩ : ∃ W2, w1.setCell ⟨C, 1, none⟩ (.int .i64 ((m : Int) + 1)) = W2 := ⟨_, rfl⟩
      have HS4 : Hid (Sc w3 C t (m + 1) ∧ w.grownBy w3 (some C) ∧ w3.ownsRow w.heap.size 5 1 (.slice a4 U.length k4) U.length (u8v U)) := by rw [← hW2]; exact ⟨HS2.out.1.set (m + 1) (by omega), grown_trans HS2.out.2.1 (grown_set _ _ _ _), own_kept5 HS2.out.2.2 (grown_set _ _ _ _) HCW.out⟩
      rw [hW2]
      clear hW2 d1 e1
      have HWS : Hid (w.heap.size ≤ w3.heap.size) := HS4.out.2.1.size
      go_wp2_with (at_builtin; (refine wpList_append_b rfl (.tmp 42) (.tmp 44) rfl w.heap.size (.slice a4 U.length k4) U.length (u8v U) rfl w3 HS4.out.2.2 (c.toNat : Int) rfl rfl (by omega) HWS.out ?_; intro g9 c9 w9 ho9 hg9; (have HO9 : Hid (w9.ownsRow w.heap.size 5 1 (.slice (some ⟨g9, 0, none⟩) (U.length + 1) c9) (U.length + 1) (u8v U ++ [.int .u8 (c.toNat : Int)]) ∧ w3.grownBy w9 (Value.slice a4 U.length k4).ownBlock) := ⟨ho9, hg9⟩); clear ho9 hg9))
      go_roundg g'
      case measure => omega
      case rel =>
        refine ⟨m + 1, U ++ [c], V', n', by omega, by simp; omega, HS4.out.1.kept HS4.out.2.2 HCW.out HO9.out.2, grown_own (base := 0) HS4.out.2.1 HS4.out.2.2 HO9.out.2, ?_, HQ.out, ?_, ?_⟩
        · rw [show (U ++ [c]).length = U.length + 1 by simp, show u8v (U ++ [c]) = u8v U ++ [.int .u8 (c.toNat : Int)] by simp [u8v]]; exact HO9.out.1
        · rw [← HR.out.2.2.2.1, List.append_assoc]; rfl
        · rw [← HR.out.2.2.2.2]; omega
end Go.Proofs.YtgmpmpgfpchbcaaGreatDoor
