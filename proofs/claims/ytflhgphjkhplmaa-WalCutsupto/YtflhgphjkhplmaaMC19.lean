import Derived.Test.YtflhgphjkhplmaaMC18
/- WalCuts' law. -/
namespace Go.Proofs.Ytflhgphjkhplmaa.D
open Go Go.RowKit W R Go.Shelf
set_option linter.unusedVariables false
set_option linter.unusedSimpArgs false
attribute [local go_sem] Oper.semAt_some

variable {w w' V : World} {ls : List (Value × List Int)} {vl : Value} {S : Nat}
abbrev Tk := List (Value × List Int)
def pls (tk : Tk) : List (List Int) := tk.map Prod.snd
def eV (l : List Nat) : List Value := List.map (fun n : Nat => Value.int .i64 (n : Int)) l
/-- What the first loop keeps. -/
structure CI (w : World) (ls : Tk) (s : Nat) (tk : Tk) (b e i : Value) (W : World) : Prop where
  mem : ∀ x ∈ tk, x ∈ ls ∧ x.2.length ≤ 65536
  below : Below w.heap.size w W
  b : W.ownsRow w.heap.size 5 1 b (frs s (pls tk)).length (u8l (frs s (pls tk)))
  e : W.ownsRow w.heap.size 3 1 e tk.length (eV (enL s 0 (pls tk)))
  i : W.ownsRow w.heap.size 23 1 i tk.length (tk.map Prod.fst)
theorem CI.later {s : Nat} {tk : Tk} {b e i : Value} {W W' : World} (h : CI w ls s tk b e i W) (hb : Below W.heap.size W W') : CI w ls s tk b e i W' :=
  ⟨h.mem, h.below.trans (hb.mono h.below.size), own_at h.b fun q hq => hb.block q (h.b.lt q hq).2, own_at h.e fun q hq => hb.block q (h.e.lt q hq).2, own_at h.i fun q hq => hb.block q (h.i.lt q hq).2⟩
theorem CI.small {s : Nat} {tk : Tk} {b e i : Value} {W : World} (h : CI w ls s tk b e i W) (hs : s + tk.length < 18446744073709551616) : (frs s (pls tk)).length ≤ tk.length * 65560 := by
  have key : ∀ (l : List (List Int)) (s : Nat), (∀ b ∈ l, b.length ≤ 65536) → s + l.length < 18446744073709551616 → (frs s l).length ≤ l.length * 65560 := by
    intro l
    induction l with
    | nil => intro s _ _; simp [frs]
    | cons b l ih =>
      intro s hb hs
      have h1 := (frI_len (seq := s) (b := b) (by simp at hs; omega) (hb b (by simp))).2
      have h2 := ih (s + 1) (fun x hx => hb x (by simp [hx])) (by simp at hs; omega)
      have h3 := hb b (by simp)
      simp [frs]
      omega
  have := key (pls tk) s (fun b hb => by obtain ⟨x, hx, rfl⟩ := List.mem_map.1 hb; exact (h.mem x hx).2) (by simpa [pls] using hs)
  simpa [pls] using this
theorem grow_other {W W' : World} {b1 b2 z1 z2 n m : Nat} {e1 e2 : TypeId} {v u : Value} {xs ys : List Value} (hv : W.ownsRow b1 e1 z1 v n xs) (ho : W.ownsRow b2 e2 z2 u m ys) (hg : W.grownBy W' v.ownBlock) (ht : e1 ≠ e2) : W'.ownsRow b2 e2 z2 u m ys :=
  own_at ho fun q hq => hg.block q (ho.lt q hq).2 fun e => by
    obtain ⟨c1, h1⟩ := own_tag hv e.symm
    obtain ⟨c2, h2⟩ := own_tag ho hq
    exact ne_tag h1 h2 ht rfl
theorem own_take {W : World} {b n c j : Nat} {e : TypeId} {a : Option Addr} {xs : List Value} (h : W.ownsRow b e 1 (.slice a n c) n xs) (hj : j ≤ n) : W.ownsRow b e 1 (.slice a j c) j (xs.take j) ∧ n ≤ c := by
  rcases h.2 with ⟨h1, h2⟩ | ⟨g, cap, cur, h1, h2, h3, h4, h5, h6, h7⟩
  · cases h1
    obtain rfl : j = 0 := by omega
    exact ⟨⟨by simp, .inl ⟨rfl, rfl⟩⟩, Nat.le_refl _⟩
  · cases h1
    refine ⟨⟨by have := h.1; simp; omega, .inr ⟨g, c, cur, rfl, h2, h3, by omega, h5, h6, ?_⟩⟩, h4⟩
    rw [← h7, List.take_take, Nat.mul_one, Nat.mul_one, Nat.min_eq_left hj]
theorem gdL_lnL {s : Nat} (zs : List Int) (l : List (List Int)) (h : goodI zs = gdL s 0 l) : (goodI zs).length = l.length ∧ (l.length = 0 → lnL zs = 0) ∧ (0 < l.length → lnL zs = s + l.length - 1) ∧ endL zs = (frs s l).length ∧ (goodI zs).map (fun q => q.2.1) = l := by
  unfold lnL endL
  rw [h]
  refine ⟨gdL_len _ _ _, fun h0 => ?_, fun h0 => ?_, ?_, gdL_pl _ _ _⟩
  · obtain rfl := List.eq_nil_of_length_eq_zero h0
    rfl
  · obtain ⟨i, b, rfl⟩ : ∃ i b, l = i ++ [b] := ⟨l.dropLast, l.getLast (fun e => by rw [e] at h0; simp at h0), (List.dropLast_concat_getLast _).symm⟩
    rw [gdL_last]
    simp <;> omega
  · rcases Nat.eq_zero_or_pos l.length with h0 | h0
    · obtain rfl := List.eq_nil_of_length_eq_zero h0
      rfl
    · obtain ⟨i, b, rfl⟩ : ∃ i b, l = i ++ [b] := ⟨l.dropLast, l.getLast (fun e => by rw [e] at h0; simp at h0), (List.dropLast_concat_getLast _).symm⟩
      rw [gdL_last]
      simp
theorem gr_other {W W' : World} {b1 b2 z1 z2 n m : Nat} {e1 e2 : TypeId} {v v' u : Value} {xs ys : List Value} (hv : W.ownsRow b1 e1 z1 v n xs) (ho : W.ownsRow b2 e2 z2 u m ys) (hg : Gr v W v' W') (ht : e1 ≠ e2) : W'.ownsRow b2 e2 z2 u m ys :=
  own_at ho fun q hq => hg.block q (ho.lt q hq).2 fun e => by
    obtain ⟨c1, h1⟩ := own_tag hv e
    obtain ⟨c2, h2⟩ := own_tag ho hq
    exact ne_tag h1 h2 ht rfl
theorem info3 : (Try.prog.info? 3).map (fun i => (i.zero, i.size, i.bytes)) = some (some (.int .i64 0), 1, 8) := by kernel_rfl
/-- One record more. -/
theorem CI.snoc {s n7 n9 N2 : Nat} {tk : Tk} {xv : Value} {xb fs : List Int} {b e i b' e' i' : Value} {W W' : World} (h : CI w ls s tk b e i W) (hx : (xv, xb) ∈ ls) (hb : Below w.heap.size w W') (hE : frE (s + tk.length) xb.length = 0) (hfs : frO (s + tk.length) xb = fs) (hN : fs.length = N2) (h7 : n7 = (frs s (pls tk)).length) (h9 : n7 + N2 = n9)
    (hb1 : W'.ownsRow w.heap.size 5 1 b' n9 (u8l (frs s (pls tk)) ++ u8l fs)) (he1 : W'.ownsRow w.heap.size 3 1 e' (tk.length + 1) (eV (enL s 0 (pls tk)) ++ [.int .i64 (n9 : Int)])) (hi1 : W'.ownsRow w.heap.size 23 1 i' (tk.length + 1) (tk.map Prod.fst ++ [xv])) :
    CI w ls s (tk ++ [(xv, xb)]) b' e' i' W' ∧ n9 = (frs s (pls (tk ++ [(xv, xb)]))).length := by
  have e1 : pls (tk ++ [(xv, xb)]) = pls tk ++ [xb] := by simp [pls]
  have e2 : fs = frI (s + tk.length) xb := by rw [← hfs]; exact if_pos hE
  have e3 : frs s (pls (tk ++ [(xv, xb)])) = frs s (pls tk) ++ fs := by rw [e1, frs_snoc, e2]; simp [pls]
  have e4 : n9 = (frs s (pls (tk ++ [(xv, xb)]))).length := by rw [e3, List.length_append]; omega
  refine ⟨⟨fun x hx' => ?_, hb, ?_, ?_, ?_⟩, e4⟩
  · rcases List.mem_append.1 hx' with hx' | hx'
    · exact h.mem x hx'
    · obtain rfl := List.mem_singleton.1 hx'
      exact ⟨hx, (frE_ok hE).2⟩
  · rw [← e4, e3, u8l_append]
    exact hb1
  · have e5 : eV (enL s 0 (pls (tk ++ [(xv, xb)]))) = eV (enL s 0 (pls tk)) ++ [.int .i64 (n9 : Int)] := by
      rw [e1, enL_snoc, ← e1, ← e4]
      simp [eV]
    rw [e5, List.length_append, List.length_singleton]
    exact he1
  · rw [List.length_append, List.length_singleton, List.map_append]
    exact hi1
set_option maxRecDepth 100000 in
set_option maxHeartbeats 8000000 in
theorem cuts_law (hs : S < 18446744073709551616) (cut : Int) (hl : LV w vl ls) : Calls Try.prog 6 #[.int .u64 (S : Int), vl, .int .i64 cut] w fun e w' => e = .returned (.bool true) ∧ Below w.heap.size w w' := by
  obtain ⟨la, lc, hv, hcap, hcell⟩ := hl.ex
  subst hv
  have HL : Hid (LV w (.slice la ls.length lc) ls) := hl
  obtain ⟨NL, hNL⟩ : ∃ n, ls.length = n := ⟨_, rfl⟩
  have HNL : Hid (ls.length = NL ∧ NL ≤ 1048576) := ⟨hNL, by have := hl.len; omega⟩
  have hNLi : (NL : Int) ≤ 1048576 := by have := HNL.out.2; omega
  have hSi : (S : Int) < 18446744073709551616 := by omega
  have HSI : Hid (S < 18446744073709551616) := hs
  rw [hNL]
  clear hl hcap hcell hNL hs
  go_enter Try.func6, Try.ntmps6
  go_upto_region 1 with (fail)
  go_cut [25] from 20 to 25 (fun x wx => wx = w ∧ ∃ d, x = .bool d ∧ Hid (d = decide (S = 0 ∨ 1152921504606846976 < S)))
  case first =>
    by_cases h0 : S = 0
    · subst h0
      go_wp2_with fail
      go_meet
      exact ⟨rfl, _, rfl, by show _ = _; decide⟩
    · have h0' : ((S : Int) == 0) = false := by rw [beq_eq_false_iff_ne]; omega
      have h0i : ¬ (S : Int) = 0 := by omega
      by_cases h1 : 1152921504606846976 < S
      · have h1i : (1152921504606846976 : Int) < (S : Int) := by omega
        have HD : Hid (true = decide (S = 0 ∨ 1152921504606846976 < S)) := by show _ = _; simp; omega
        clear h0 h1
        go_wp2_with fail
        go_meet
        exact ⟨rfl, _, rfl, HD.out⟩
      · have h1i : ¬ (1152921504606846976 : Int) < (S : Int) := by omega
        have HD : Hid (false = decide (S = 0 ∨ 1152921504606846976 < S)) := by show _ = _; symm; simp; omega
        clear h0 h1
        go_wp2_with fail
        go_meet
        exact ⟨rfl, _, rfl, HD.out⟩
  case rest =>
  obtain ⟨rfl, d, rfl, HD⟩ := hcut
  go_upto_if 25 with (fail)
  go_cut [0] from 20 to 20 (fun x wx => wx = wc ∧ ∃ s : Nat, x = .int .u64 (s : Int) ∧ Hid (1 ≤ s ∧ s ≤ 1152921504606846976))
  case first =>
    cases d with
    | true =>
      go_wp2_with fail
      go_meet
      exact ⟨rfl, 1, rfl, by decide, by decide⟩
    | false =>
      go_wp2_with fail
      go_meet
      have h := HD.out
      have h2 : ¬ (S = 0 ∨ 1152921504606846976 < S) := of_decide_eq_false h.symm
      exact ⟨rfl, S, rfl, by omega, by omega⟩
  case rest =>
  obtain ⟨rfl, s, rfl, HS⟩ := hcut
  have hsi : (s : Int) ≤ 1152921504606846976 := by have := HS.out.2; omega
  clear HD hSi HSI
  go_upto_region 6 with (fail)
  go_wp2_with fail
  go_loopw [7, 8, 9, 10] (fun x y z i wr => ∃ (k : Nat) (tk : Tk) (a7 a8 a9 : Option Addr) (c7 c8 c9 n7 n8 : Nat), i = .int .i64 (k : Int) ∧ x = .slice a7 n7 c7 ∧ y = .slice a8 n8 c8 ∧ z = .slice a9 n8 c9 ∧ Hid (CI wc ls s tk (.slice a7 n7 c7) (.slice a8 n8 c8) (.slice a9 n8 c9) wr ∧ n7 = (frs s (pls tk)).length ∧ n8 = tk.length ∧ tk.length ≤ k ∧ k ≤ 20 ∧ k ≤ NL)) (fun x y z i wr => NL - (intOf i).toNat)
  case atStart => exact ⟨0, [], none, none, none, 0, 0, 0, 0, 0, rfl, rfl, rfl, rfl, ⟨fun x hx => (nomatch hx), Below.refl _ _, World.ownsRow_nil _ _ _ _, World.ownsRow_nil _ _ _ _, World.ownsRow_nil _ _ _ _⟩, rfl, rfl, Nat.le_refl _, by omega, by omega⟩
  case round =>
    obtain ⟨k, tk, a7, a8, a9, c7, c8, c9, n7, n8, rfl, rfl, rfl, rfl, H⟩ := hrel
    have hn7 : (n7 : Int) ≤ 1311200 := by have h := H.out; have h2 := h.1.small (by have := HS.out; omega); omega
    have hn8 : (n8 : Int) ≤ 20 := by have h := H.out; omega
    have hk20 : (k : Int) ≤ 20 := by have h := H.out; omega
    by_cases hlt : k < NL ∧ k < 20
    · obtain ⟨hlt1, hlt2⟩ := hlt
      have hki : (k : Int) < (NL : Int) := by omega
      have hk2 : (k : Int) < 20 := by omega
      have hkl : k < ls.length := by rw [HNL.out.1]; exact hlt1
      obtain ⟨⟨xv, xb⟩, hx⟩ : ∃ x, ls[k] = x := ⟨_, rfl⟩
      have HXK : Hid (SV wc xv xb ∧ (xv, xb) ∈ ls) := ⟨HL.out.each (xv, xb) (hx ▸ List.getElem_mem hkl), hx ▸ List.getElem_mem hkl⟩
      obtain ⟨lb, lo, rfl⟩ : ∃ b o, la = some ⟨b, o, none⟩ := by
        obtain ⟨a, c, e1, -, h3⟩ := HL.out.ex
        obtain ⟨b, off, e2, -⟩ := h3 k _ (List.getElem?_eq_getElem hkl)
        injection e1 with e1
        exact ⟨b, off, by rw [e1, e2]⟩
      obtain ⟨xa, xc, hxv⟩ := (HXK.out.1.src wc (Below.refl _ _)).slice
      subst hxv
      have HCK : Hid (∀ W, Below wc.heap.size wc W → W.cell? ⟨lb, lo + k, none⟩ = some (.slice xa xb.length xc)) := fun W hW => by
        obtain ⟨a, c, e1, -, h3⟩ := HL.out.ex
        obtain ⟨b, off, e2, h4⟩ := h3 k _ (List.getElem?_eq_getElem hkl)
        injection e1 with e1
        rw [e2] at e1
        injection e1 with e1
        injection e1 with e1 e3
        subst e1
        subst e3
        rw [hx] at h4
        exact (hW.cell (World.block_lt_of_cell? wc _ h4)).trans h4
      obtain ⟨XL, hXL⟩ : ∃ n, xb.length = n := ⟨_, rfl⟩
      have hc9 := HCK.out wr H.out.1.below
      obtain ⟨E, hE⟩ : ∃ E, frE (s + n8) XL = E := ⟨_, rfl⟩
      obtain ⟨fs, hfs⟩ : ∃ fs, frO (s + n8) xb = fs := ⟨_, rfl⟩
      obtain ⟨N2, hN2⟩ : ∃ N2, fs.length = N2 := ⟨_, rfl⟩
      have HE : Hid (frE (s + n8) XL = E ∧ frO (s + n8) xb = fs ∧ fs.length = N2 ∧ N2 ≤ 70000 ∧ xb.length = XL) := ⟨hE, hfs, hN2, by rw [← hN2, ← hfs]; exact frO_len (by have := HS.out; omega), hXL⟩
      have HF8 : Hid (Calls Try.prog 8 #[.int .u64 ((s : Int) + (n8 : Int)), .slice xa XL xc] wr fun e w' => ∃ za zc, e = .returned (.tuple #[.slice za N2 zc, .int .i64 E]) ∧ Hid (w'.ownsRow wr.heap.size 5 1 (.slice za N2 zc) N2 (u8l fs) ∧ Below wr.heap.size wr w')) := by
        have h := frm8 (S := s + n8) (by have := HS.out; omega) (HXK.out.1.src wr H.out.1.below) HXK.out.1.byt (by have := HXK.out.1.len; omega)
        rw [hXL, hE, hfs, hN2] at h
        exact h
      rw [hXL] at hc9 HCK HXK
      clear hkl hx hXL hE hfs hN2 hlt1 hlt2
      by_cases hE0 : E = 0
      · subst hE0
        go_upto_region 11 with (go_at_call 8; refine HF8.out.mono ?_; rintro e w1 ⟨za, zc, rfl, H1⟩)
        have hN2p : 0 < N2 := by
          have h1 := frE_ok HE.out.1
          have h2 : frO (s + n8) xb = frI (s + n8) xb := if_pos (by rw [HE.out.2.2.2.2]; exact HE.out.1)
          rw [← HE.out.2.2.1, ← HE.out.2.1, h2]
          exact fr_pos (by have := HS.out; omega) (by rw [HE.out.2.2.2.2]; exact h1.2)
        obtain ⟨gz, rfl⟩ : ∃ g, za = some ⟨g, 0, none⟩ := by
          obtain ⟨g, c, e⟩ := own_form H1.out.1 hN2p
          injection e with e1
          exact ⟨g, e1⟩
        have HC1 : Hid (CI wc ls s tk (.slice a7 n7 c7) (.slice a8 n8 c8) (.slice a9 n8 c9) w1 ∧ (u8l fs).length = N2 * 1 ∧ 0 < N2) := ⟨H.out.1.later H1.out.2, by rw [u8l_len]; have := HE.out.2.2.1; omega, hN2p⟩
        have HB1 : Hid (w1.ownsRow wc.heap.size 5 1 (.slice a7 n7 c7) n7 (u8l (frs s (pls tk))) ∧ w1.ownsRow wc.heap.size 3 1 (.slice a8 n8 c8) n8 (eV (enL s 0 (pls tk))) ∧ w1.ownsRow wc.heap.size 23 1 (.slice a9 n8 c9) n8 (tk.map Prod.fst) ∧ n7 ≤ 1311200 ∧ n8 ≤ 20 ∧ N2 ≤ 70000) := by
          have h := HC1.out.1
          refine ⟨?_, ?_, ?_, by omega, by omega, HE.out.2.2.2.1⟩
          · have := h.b; rw [← H.out.2.1] at this; exact this
          · have := h.e; rw [← H.out.2.2.1] at this; exact this
          · have := h.i; rw [← H.out.2.2.1] at this; exact this
        obtain ⟨f0, hf0⟩ : ∃ f0, frs s (pls tk) = f0 := ⟨_, rfl⟩
        obtain ⟨en, hen⟩ : ∃ en, eV (enL s 0 (pls tk)) = en := ⟨_, rfl⟩
        obtain ⟨iv, hiv⟩ : ∃ iv, tk.map Prod.fst = iv := ⟨_, rfl⟩
        have HFI : Hid (frs s (pls tk) = f0 ∧ eV (enL s 0 (pls tk)) = en ∧ tk.map Prod.fst = iv) := ⟨hf0, hen, hiv⟩
        rw [hf0, hen, hiv] at HB1
        obtain ⟨i5, hi, hz0, hz1, hz2⟩ := info_parts info5
        obtain ⟨i3, ki, kz0, kz1, kz2⟩ := info_parts info3
        clear hN2p hf0 hen hiv HF8
        go_upto_region 12 with (at_builtin; (refine wpList_append_lies _ rfl (.tmp 51) (.tmp 52) 23 rfl wc.heap.size 5 i5 (.int .u8 0) 1 1 Try.underlying23 hi hz0 hz1 hz2 rfl (by decide) (.slice a7 n7 c7) n7 (u8l f0) rfl HB1.out.1 ⟨gz, 0, none⟩ N2 zc (u8l fs) rfl HC1.out.2.1 (H1.out.1.cells rfl) (u8l_one fs) HC1.out.2.2 (by have := HB1.out; unfold maxLen; omega) (by have := HB1.out; omega) HC1.out.1.below.size w1.heap.size rfl ?_; intro g2 cp2 w2 ho2 hg2 hx2 hy2; (have H2 : Hid (w2.ownsRow wc.heap.size 5 1 (.slice (some ⟨g2, 0, none⟩) (n7 + N2) cp2) (n7 + N2) (u8l f0 ++ u8l fs) ∧ w1.grownBy w2 (Value.slice a7 n7 c7).ownBlock) := ⟨ho2, hg2⟩); clear ho2 hg2 hx2 hy2))
        obtain ⟨n9, hn9⟩ : ∃ n9, n7 + N2 = n9 := ⟨_, rfl⟩
        have HN9 : Hid (n7 + N2 = n9) := hn9
        rw [hn9] at H2 ⊢
        have H2b : Hid (Below wc.heap.size wc w2 ∧ w2.ownsRow wc.heap.size 3 1 (.slice a8 n8 c8) n8 en ∧ w2.ownsRow wc.heap.size 23 1 (.slice a9 n8 c9) n8 iv) := ⟨HC1.out.1.below.grown H2.out.2 HC1.out.1.below.size fun q hq => (HB1.out.1.lt q hq).1, grow_other HB1.out.1 HB1.out.2.1 H2.out.2 (by decide), grow_other HB1.out.1 HB1.out.2.2.1 H2.out.2 (by decide)⟩
        clear hn9 hi hz0 hz1 hz2
        go_upto_region 13 with (at_builtin; (refine wpList_append_lies _ rfl (.tmp 54) (.tmp 57) 36 rfl wc.heap.size 3 i3 (.int .i64 0) 1 8 Try.underlying36 ki kz0 kz1 kz2 rfl (by decide) (.slice a8 n8 c8) n8 en rfl (H2b.out.2.1.alloc _) ⟨w2.heap.size, 0, none⟩ 1 1 [.int .i64 (n9 : Int)] rfl rfl (World.news_of_block (Go.heap_alloc_new _ _)) (by intro u hu; obtain rfl := List.mem_singleton.1 hu; rfl) (by decide) (by have := HB1.out; unfold maxLen; omega) (by have := HB1.out; omega) (by have := H2b.out.1.size; simp; omega) (w2.heap.size + 1) (by simp) ?_; intro g3 cp3 w3 ho3 hg3 hx3 hy3; (have H3 : Hid (w3.ownsRow wc.heap.size 3 1 (.slice (some ⟨g3, 0, none⟩) (n8 + 1) cp3) (n8 + 1) (en ++ [.int .i64 (n9 : Int)]) ∧ (w2.alloc (.cells #[.int .i64 (n9 : Int)] 3)).grownBy w3 (Value.slice a8 n8 c8).ownBlock) := ⟨ho3, hg3⟩); clear ho3 hg3 hx3 hy3))
        have hbA : Below wc.heap.size wc (w2.alloc (.cells #[.int .i64 (n9 : Int)] 3)) := H2b.out.1.alloc H2b.out.1.size _
        have H3b : Hid (Below wc.heap.size wc w3 ∧ w3.ownsRow wc.heap.size 5 1 (.slice (some ⟨g2, 0, none⟩) n9 cp2) n9 (u8l f0 ++ u8l fs) ∧ w3.ownsRow wc.heap.size 23 1 (.slice a9 n8 c9) n8 iv) := ⟨hbA.grown H3.out.2 hbA.size fun q hq => (H2b.out.2.1.lt q hq).1, grow_other (H2b.out.2.1.alloc _) (H2.out.1.alloc _) H3.out.2 (by decide), grow_other (H2b.out.2.1.alloc _) (H2b.out.2.2.alloc _) H3.out.2 (by decide)⟩
        have hc13 := HCK.out w3 H3b.out.1
        clear hbA ki kz0 kz1 kz2
        go_wp2_with (at_builtin; (refine wpList_append_one23 rfl (.tmp 59) (.tmp 64) rfl wc.heap.size (.slice a9 n8 c9) n8 iv rfl w3 H3b.out.2.2 (.slice xa XL xc) rfl rfl rfl (by have := HB1.out; omega) H3b.out.1.size ?_; intro g4 cp4 w4 ho4 hg4; (have H4 : Hid (w4.ownsRow wc.heap.size 23 1 (.slice (some ⟨g4, 0, none⟩) (n8 + 1) cp4) (n8 + 1) (iv ++ [.slice xa XL xc]) ∧ Gr (.slice a9 n8 c9) w3 (.slice (some ⟨g4, 0, none⟩) (n8 + 1) cp4) w4) := ⟨ho4, hg4⟩); clear ho4 hg4))
        go_roundw
        case rel =>
          have hb4 : Below wc.heap.size wc w4 := H3b.out.1.trans (H4.out.2.below H3b.out.1.size fun q hq => (H3b.out.2.2.lt q hq).1)
          obtain ⟨f1, f2, f3⟩ := HFI.out
          obtain ⟨m1, m2, m3, m4, m5, m6⟩ := H.out
          obtain ⟨c1, c2⟩ := CI.snoc (n7 := n7) (n9 := n9) (N2 := N2) (fs := fs) (b' := .slice (some ⟨g2, 0, none⟩) n9 cp2) (e' := .slice (some ⟨g3, 0, none⟩) (n8 + 1) cp3) (i' := .slice (some ⟨g4, 0, none⟩) (n8 + 1) cp4) m1 HXK.out.2 hb4 (by rw [← m3, HE.out.2.2.2.2]; exact HE.out.1) (by rw [← m3]; exact HE.out.2.1) HE.out.2.2.1 m2 HN9.out (by rw [f1]; exact gr_other H3b.out.2.2 H3b.out.2.1 H4.out.2 (by decide)) (by rw [f2, ← m3]; exact gr_other H3b.out.2.2 H3.out.1 H4.out.2 (by decide)) (by rw [f3, ← m3]; exact H4.out.1)
          exact ⟨k + 1, tk ++ [(.slice xa XL xc, xb)], _, _, _, _, _, _, n9, n8 + 1, by go_num, rfl, rfl, rfl, c1, c2, by rw [List.length_append, List.length_singleton, ← m3], by rw [List.length_append, List.length_singleton]; omega, by omega, by omega⟩
        case measure => simp [intOf]; omega
      · have hE0' : (E != 0) = true := by rw [bne_iff_ne]; exact hE0
        clear hE0
        go_wp2_with (go_at_call 8; refine HF8.out.mono ?_; rintro e w1 ⟨za, zc, rfl, H1⟩)
        go_roundw
        case rel => exact ⟨k + 1, tk, a7, a8, a9, c7, c8, c9, n7, n8, by go_num, rfl, rfl, rfl, H.out.1.later H1.out.2, H.out.2.1, H.out.2.2.1, by have := H.out; omega, by have := H.out; omega, by have := H.out; omega⟩
        case measure => simp [intOf]; omega
    · obtain ⟨m1, m2, m3, m4, m5, m6⟩ := H.out
      have hfr : (frs s (pls tk)).length ≤ 1311200 := by omega
      obtain ⟨z, hz, hcnt⟩ := count_any cut (n7 + 1) (by omega) (by omega)
      have HCN : Hid (∀ V, Calls Try.prog 23 #[.int .i64 cut, .int .i64 ((n7 : Int) + 1)] V fun e w' => e = .returned (.int .i64 (z : Int)) ∧ w' = V) := fun V => hcnt V
      obtain ⟨J, hJ⟩ : ∃ J, whN s z (pls tk) = J := ⟨_, rfl⟩
      have hlen : (pls tk).length = n8 := by rw [m3]; simp [pls]
      have hJ8 : J ≤ n8 := by rw [← hJ, ← hlen]; exact whN_le _ _ _
      have HJ : Hid (whN s z (pls tk) = J ∧ J ≤ n8 ∧ (pls tk).length = n8 ∧ z ≤ n7 ∧ n7 ≤ 1311200 ∧ n8 ≤ 20) := ⟨hJ, hJ8, hlen, by omega, by omega, by omega⟩
      have hb8 : ∀ b ∈ pls tk, b.length ≤ 65536 := fun b hb => by obtain ⟨x, hx, rfl⟩ := List.mem_map.1 hb; exact (m1.mem x hx).2
      have hgood := good_cut (pls tk) s z hb8 HS.out.1 (by have := HS.out.2; rw [hlen]; omega) (by omega)
      rw [hJ] at hgood
      obtain ⟨zs, hzs⟩ : ∃ zs, (frs s (pls tk)).take z = zs := ⟨_, rfl⟩
      rw [hzs] at hgood
      have hJl : ((pls tk).take J).length = J := by simp; omega
      have hgl := gdL_lnL zs _ hgood
      rw [hJl] at hgl
      have HG : Hid ((goodI zs).length = J ∧ (J = 0 → lnL zs = 0) ∧ (0 < J → lnL zs = s + J - 1) ∧ endL zs = (frs s ((pls tk).take J)).length ∧ (goodI zs).map (fun q => q.2.1) = (pls tk).take J) := hgl
      obtain ⟨EN, hEN⟩ : ∃ EN, (frs s ((pls tk).take J)).length = EN := ⟨_, rfl⟩
      obtain ⟨LN, hLN⟩ : ∃ LN, lnL zs = LN := ⟨_, rfl⟩
      have hfb : Byt (frs s (pls tk)) := by
        have key : ∀ (l : List (List Int)) (s : Nat), (∀ b ∈ l, Byt b) → Byt (frs s l) := by
          intro l
          induction l with
          | nil => intro s _ c hc; simp [frs] at hc
          | cons b l ih => intro s h; exact byt_app (frI_byt (h b (by simp))) (ih (s + 1) fun x hx => h x (by simp [hx]))
        exact key _ s fun b hb => by obtain ⟨x, hx, rfl⟩ := List.mem_map.1 hb; exact (HL.out.each x (m1.mem x hx).1).byt
      have hbz : Bz wr (.slice a7 z c7) zs := by
        rw [← hzs]
        exact (own_bz m1.b hfb (by omega)).cut0 z (by omega)
      have HF11 : Hid (Calls Try.prog 11 #[.slice a7 z c7] wr fun e w' => ∃ xs la lc, e = .returned (.tuple #[.slice la J lc, .int .u64 (LN : Int), .int .i64 (EN : Int)]) ∧ Hid (RecsAt w' wr.heap.size (.slice la J lc) xs zs ∧ Below wr.heap.size wr w')) := by
        have h := frm11 hbz (fun q hq => by
          have hq' : (Value.slice a7 n7 c7).ownBlock = some q := by cases a7 <;> exact hq
          obtain ⟨cur, hcur⟩ := own_tag m1.b hq'; exact ⟨cur, _, hcur⟩)
        rw [HG.out.1, hLN, HG.out.2.2.2.1, hEN] at h
        refine h.mono ?_
        rintro e w' ⟨xs, la, lc, rfl, h1⟩
        exact ⟨xs, la, lc, rfl, h1.out.1, h1.out.2.2⟩
      have HLE : Hid (lnL zs = LN ∧ (frs s ((pls tk).take J)).length = EN ∧ Byt zs) := ⟨hLN, hEN, hbz.byt⟩
      have HEC : Hid (∀ j, j < n8 → ∃ g8, a8 = some ⟨g8, 0, none⟩ ∧ wr.cell? ⟨g8, j, none⟩ = some (.int .i64 ((frs s ((pls tk).take (j + 1))).length : Int))) := fun j hj => by
        have h := m1.e
        rw [← m3] at h
        obtain ⟨g, c, e⟩ := own_form h (by omega)
        injection e with e1 e2 e3
        subst e1
        refine ⟨g, rfl, ?_⟩
        rw [h.cellAt j (by omega)]
        unfold eV
        rw [List.getElem?_map, enL_at (pls tk) s 0 j (by omega)]
        simp
      have hc7 : (z : Int) ≤ (c7 : Int) := by
        have h := m1.b
        rw [← m2] at h
        have := (own_take h (Nat.le_refl _)).2
        omega
      have h9 := m1.i
      rw [← m3] at h9
      have hc9 : (J : Int) ≤ (c9 : Int) := by have := (own_take h9 (Nat.le_refl _)).2; omega
      have HC9 : Hid (wr.ownsRow wc.heap.size 23 1 (.slice a9 J c9) J ((tk.map Prod.fst).take J)) := (own_take h9 hJ8).1
      have hz7 : (z : Int) ≤ (n7 : Int) := by omega
      have hJi : (J : Int) ≤ (n8 : Int) := by omega
      have HSS : Hid (∀ V, Below wr.heap.size wr V → ∀ xs la lc, RecsAt V wr.heap.size (.slice la J lc) xs zs → Calls Try.prog 13 #[.slice la J lc, .slice a9 J c9] V fun e w' => e = .returned (.bool true) ∧ Hid (Below wc.heap.size wc w')) := by
        show ∀ V, _
        intro V hV xs la lc hR
        have hbW := H.out.1.below.trans (hV.mono H.out.1.below.size)
        have m : ∀ l : List El, (l.map fun x => (x.rv, x.r)).map Prod.fst = l.map El.rv := fun l => by rw [List.map_map]; rfl
        have hl2 : xs.length = J := by rw [hR.len]; exact HG.out.1
        have ht : (tk.take J).length = J := by have := HJ.out; have h2 : (pls tk).length = tk.length := by simp [pls]
                                               simp; omega
        refine (same_yes V (.slice la J lc) (.slice a9 J c9) (xs.map fun x => (x.rv, x.r)) (tk.take J) (ba := wr.heap.size) (bb := wc.heap.size) ?_ ?_ ?_ ?_ ?_ ?_).mono ?_
        · rw [m, List.length_map]; rw [hl2]; have h := hR.row; rw [hl2] at h; exact h
        · rw [ht, List.map_take]; exact own_at HC9.out fun q hq => hV.block q (HC9.out.lt q hq).2
        · intro x hx
          obtain ⟨y, hy, rfl⟩ := List.mem_map.1 hx
          exact ⟨own_src (hR.each y hy), hR.byt HLE.out.2.2 y hy⟩
        · intro x hx
          have h1 := HL.out.each x (H.out.1.mem x (List.mem_of_mem_take hx)).1
          exact ⟨h1.src V hbW, h1.byt⟩
        · rw [List.map_map, List.map_take]
          have e := HG.out.2.2.2.2
          rw [← hR.pl, List.map_map] at e
          exact e
        · rw [List.length_map, hl2]; have := HJ.out; omega
        · rintro e w' ⟨rfl, n, rfl⟩
          exact ⟨rfl, hbW.trans ((drewN_below _ n).mono hbW.size)⟩
      have HKN : Hid (∀ V, Below wc.heap.size wc V → Calls Try.prog 15 #[] V fun e w' => e = .returned (.bool true) ∧ Hid (Below wc.heap.size wc w')) := by
        show ∀ V, _
        intro V hV
        refine (known_any V).mono ?_
        rintro e w' ⟨rfl, h⟩
        exact ⟨rfl, hV.trans (h.mono hV.size)⟩
      have hex : (k < NL ∧ ¬ k < 20) ∨ ¬ k < NL := by omega
      clear m1 m2 m3 m4 m5 m6 hfr hz hcnt hJ hlen hJ8 hb8 hgood hzs hJl hgl hEN hLN hfb hbz h9 hlt
      rcases hex with ⟨x1, x2⟩ | x1
      · have x1i : (k : Int) < (NL : Int) := by omega
        have x2i : ¬ (k : Int) < 20 := by omega
        clear x1 x2
        go_upto_region 14 with (fail)
        go_wp2_with (go_at_call 23; refine (HCN.out _).mono ?_; rintro e w5 ⟨rfl, hw5⟩; rw [hw5]; clear hw5)
        go_loopw [14, 15] (fun x y wr' => ∃ j en : Nat, x = .int .i64 (j : Int) ∧ y = .int .i64 (en : Int) ∧ wr' = wr ∧ Hid (j ≤ J ∧ en = (frs s ((pls tk).take j)).length)) (fun x y wr' => n8 - (intOf x).toNat)
        case atStart => exact ⟨0, 0, rfl, rfl, rfl, Nat.zero_le _, by simp [frs]⟩
        case round =>
          obtain ⟨j, en, rfl, rfl, rfl, HJJ⟩ := hrel
          have hj8 : (j : Int) ≤ (n8 : Int) := by have := HJJ.out.1; omega
          by_cases hjn : j < n8
          · obtain ⟨g8, rfl, hc8⟩ := HEC.out j hjn
            obtain ⟨q, hq⟩ : ∃ q, (frs s ((pls tk).take (j + 1))).length = q := ⟨_, rfl⟩
            rw [hq] at hc8
            have hjni : (j : Int) < (n8 : Int) := by omega
            have hwh := whN_lt (pls tk) s z j (by rw [HJ.out.2.2.1]; exact hjn)
            rw [hq, HJ.out.1] at hwh
            have HW : Hid ((q ≤ z ↔ j < J) ∧ (frs s ((pls tk).take (j + 1))).length = q ∧ j < n8) := ⟨hwh, hq, hjn⟩
            clear hwh hq hjn
            by_cases hqz : q ≤ z
            · have hqzi : (q : Int) ≤ (z : Int) := by omega
              clear hqz
              go_wp2_with fail
              go_roundw
              case rel => exact ⟨j + 1, q, by go_num, rfl, trivial, by have := HW.out.1.1 (by omega); omega, HW.out.2.1.symm⟩
              case measure => have := HW.out.2.2; simp [intOf]; omega
            · have hqzi : ¬ (q : Int) ≤ (z : Int) := by omega
              have HJE : Hid (j = J) := by
                show _ = _
                have h1 := HJJ.out.1
                have h2 : ¬ j < J := fun h => hqz (HW.out.1.2 h)
                omega
              clear hqz
              go_upto_region 20 with (fail)
              obtain rfl : j = J := HJE.out
              obtain rfl : en = EN := HJJ.out.2.trans HLE.out.2.1
              rcases Nat.eq_zero_or_pos j with hz0 | hz0
              · have hji : ¬ (0 : Int) < (j : Int) := by omega
                have hLN0 : LN = 0 := HLE.out.1.symm.trans (HG.out.2.1 hz0)
                subst hLN0
                clear hz0
                go_wp2_with (first | (go_at_call 11; refine HF11.out.mono ?_; rintro e w12 ⟨xs12, la12, lc12, rfl, H12⟩) | (go_at_call 13; refine (HSS.out _ H12.out.2 xs12 la12 lc12 H12.out.1).mono ?_; rintro e w13 ⟨rfl, H13⟩) | (go_at_call 15; refine (HKN.out _ H13.out).mono ?_; rintro e w14 ⟨rfl, H14⟩))
                go_ret
                exact ⟨rfl, H14.out⟩
              · have hji : (0 : Int) < (j : Int) := by omega
                have hLN0 : (LN : Int) = (s : Int) + (j : Int) - 1 := by have h1 := HLE.out.1.symm.trans (HG.out.2.2.1 hz0); have h2 := HS.out; omega
                have hs1 : (1 : Int) ≤ (s : Int) := by have := HS.out; omega
                have hj20 : (j : Int) ≤ 20 := by have := HJ.out; omega
                rw [hLN0] at HF11
                clear hz0 hLN0
                go_wp2_with (first | (go_at_call 11; refine HF11.out.mono ?_; rintro e w12 ⟨xs12, la12, lc12, rfl, H12⟩) | (go_at_call 13; refine (HSS.out _ H12.out.2 xs12 la12 lc12 H12.out.1).mono ?_; rintro e w13 ⟨rfl, H13⟩) | (go_at_call 15; refine (HKN.out _ H13.out).mono ?_; rintro e w14 ⟨rfl, H14⟩))
                go_ret
                exact ⟨rfl, H14.out⟩
          · have HJE : Hid (j = J) := by show _ = _; have h1 := HJJ.out.1; have h3 := HJ.out.2.1; omega
            have hjni : ¬ (j : Int) < (n8 : Int) := by omega
            go_upto_region 20 with (fail)
            obtain rfl : j = J := HJE.out
            obtain rfl : en = EN := HJJ.out.2.trans HLE.out.2.1
            rcases Nat.eq_zero_or_pos j with hz0 | hz0
            · have hji : ¬ (0 : Int) < (j : Int) := by omega
              have hLN0 : LN = 0 := HLE.out.1.symm.trans (HG.out.2.1 hz0)
              subst hLN0
              clear hz0
              go_wp2_with (first | (go_at_call 11; refine HF11.out.mono ?_; rintro e w12 ⟨xs12, la12, lc12, rfl, H12⟩) | (go_at_call 13; refine (HSS.out _ H12.out.2 xs12 la12 lc12 H12.out.1).mono ?_; rintro e w13 ⟨rfl, H13⟩) | (go_at_call 15; refine (HKN.out _ H13.out).mono ?_; rintro e w14 ⟨rfl, H14⟩))
              go_ret
              exact ⟨rfl, H14.out⟩
            · have hji : (0 : Int) < (j : Int) := by omega
              have hLN0 : (LN : Int) = (s : Int) + (j : Int) - 1 := by have h1 := HLE.out.1.symm.trans (HG.out.2.2.1 hz0); have h2 := HS.out; omega
              have hs1 : (1 : Int) ≤ (s : Int) := by have := HS.out; omega
              have hj20 : (j : Int) ≤ 20 := by have := HJ.out; omega
              rw [hLN0] at HF11
              clear hz0 hLN0
              go_wp2_with (first | (go_at_call 11; refine HF11.out.mono ?_; rintro e w12 ⟨xs12, la12, lc12, rfl, H12⟩) | (go_at_call 13; refine (HSS.out _ H12.out.2 xs12 la12 lc12 H12.out.1).mono ?_; rintro e w13 ⟨rfl, H13⟩) | (go_at_call 15; refine (HKN.out _ H13.out).mono ?_; rintro e w14 ⟨rfl, H14⟩))
              go_ret
              exact ⟨rfl, H14.out⟩
      · have x1i : ¬ (k : Int) < (NL : Int) := by omega
        clear x1
        go_upto_region 14 with (fail)
        go_wp2_with (go_at_call 23; refine (HCN.out _).mono ?_; rintro e w5 ⟨rfl, hw5⟩; rw [hw5]; clear hw5)
        go_loopw [14, 15] (fun x y wr' => ∃ j en : Nat, x = .int .i64 (j : Int) ∧ y = .int .i64 (en : Int) ∧ wr' = wr ∧ Hid (j ≤ J ∧ en = (frs s ((pls tk).take j)).length)) (fun x y wr' => n8 - (intOf x).toNat)
        case atStart => exact ⟨0, 0, rfl, rfl, rfl, Nat.zero_le _, by simp [frs]⟩
        case round =>
          obtain ⟨j, en, rfl, rfl, rfl, HJJ⟩ := hrel
          have hj8 : (j : Int) ≤ (n8 : Int) := by have := HJJ.out.1; omega
          by_cases hjn : j < n8
          · obtain ⟨g8, rfl, hc8⟩ := HEC.out j hjn
            obtain ⟨q, hq⟩ : ∃ q, (frs s ((pls tk).take (j + 1))).length = q := ⟨_, rfl⟩
            rw [hq] at hc8
            have hjni : (j : Int) < (n8 : Int) := by omega
            have hwh := whN_lt (pls tk) s z j (by rw [HJ.out.2.2.1]; exact hjn)
            rw [hq, HJ.out.1] at hwh
            have HW : Hid ((q ≤ z ↔ j < J) ∧ (frs s ((pls tk).take (j + 1))).length = q ∧ j < n8) := ⟨hwh, hq, hjn⟩
            clear hwh hq hjn
            by_cases hqz : q ≤ z
            · have hqzi : (q : Int) ≤ (z : Int) := by omega
              clear hqz
              go_wp2_with fail
              go_roundw
              case rel => exact ⟨j + 1, q, by go_num, rfl, trivial, by have := HW.out.1.1 (by omega); omega, HW.out.2.1.symm⟩
              case measure => have := HW.out.2.2; simp [intOf]; omega
            · have hqzi : ¬ (q : Int) ≤ (z : Int) := by omega
              have HJE : Hid (j = J) := by
                show _ = _
                have h1 := HJJ.out.1
                have h2 : ¬ j < J := fun h => hqz (HW.out.1.2 h)
                omega
              clear hqz
              go_upto_region 20 with (fail)
              obtain rfl : j = J := HJE.out
              obtain rfl : en = EN := HJJ.out.2.trans HLE.out.2.1
              rcases Nat.eq_zero_or_pos j with hz0 | hz0
              · have hji : ¬ (0 : Int) < (j : Int) := by omega
                have hLN0 : LN = 0 := HLE.out.1.symm.trans (HG.out.2.1 hz0)
                subst hLN0
                clear hz0
                go_wp2_with (first | (go_at_call 11; refine HF11.out.mono ?_; rintro e w12 ⟨xs12, la12, lc12, rfl, H12⟩) | (go_at_call 13; refine (HSS.out _ H12.out.2 xs12 la12 lc12 H12.out.1).mono ?_; rintro e w13 ⟨rfl, H13⟩) | (go_at_call 15; refine (HKN.out _ H13.out).mono ?_; rintro e w14 ⟨rfl, H14⟩))
                go_ret
                exact ⟨rfl, H14.out⟩
              · have hji : (0 : Int) < (j : Int) := by omega
                have hLN0 : (LN : Int) = (s : Int) + (j : Int) - 1 := by have h1 := HLE.out.1.symm.trans (HG.out.2.2.1 hz0); have h2 := HS.out; omega
                have hs1 : (1 : Int) ≤ (s : Int) := by have := HS.out; omega
                have hj20 : (j : Int) ≤ 20 := by have := HJ.out; omega
                rw [hLN0] at HF11
                clear hz0 hLN0
                go_wp2_with (first | (go_at_call 11; refine HF11.out.mono ?_; rintro e w12 ⟨xs12, la12, lc12, rfl, H12⟩) | (go_at_call 13; refine (HSS.out _ H12.out.2 xs12 la12 lc12 H12.out.1).mono ?_; rintro e w13 ⟨rfl, H13⟩) | (go_at_call 15; refine (HKN.out _ H13.out).mono ?_; rintro e w14 ⟨rfl, H14⟩))
                go_ret
                exact ⟨rfl, H14.out⟩
          · have HJE : Hid (j = J) := by show _ = _; have h1 := HJJ.out.1; have h3 := HJ.out.2.1; omega
            have hjni : ¬ (j : Int) < (n8 : Int) := by omega
            go_upto_region 20 with (fail)
            obtain rfl : j = J := HJE.out
            obtain rfl : en = EN := HJJ.out.2.trans HLE.out.2.1
            rcases Nat.eq_zero_or_pos j with hz0 | hz0
            · have hji : ¬ (0 : Int) < (j : Int) := by omega
              have hLN0 : LN = 0 := HLE.out.1.symm.trans (HG.out.2.1 hz0)
              subst hLN0
              clear hz0
              go_wp2_with (first | (go_at_call 11; refine HF11.out.mono ?_; rintro e w12 ⟨xs12, la12, lc12, rfl, H12⟩) | (go_at_call 13; refine (HSS.out _ H12.out.2 xs12 la12 lc12 H12.out.1).mono ?_; rintro e w13 ⟨rfl, H13⟩) | (go_at_call 15; refine (HKN.out _ H13.out).mono ?_; rintro e w14 ⟨rfl, H14⟩))
              go_ret
              exact ⟨rfl, H14.out⟩
            · have hji : (0 : Int) < (j : Int) := by omega
              have hLN0 : (LN : Int) = (s : Int) + (j : Int) - 1 := by have h1 := HLE.out.1.symm.trans (HG.out.2.2.1 hz0); have h2 := HS.out; omega
              have hs1 : (1 : Int) ≤ (s : Int) := by have := HS.out; omega
              have hj20 : (j : Int) ≤ 20 := by have := HJ.out; omega
              rw [hLN0] at HF11
              clear hz0 hLN0
              go_wp2_with (first | (go_at_call 11; refine HF11.out.mono ?_; rintro e w12 ⟨xs12, la12, lc12, rfl, H12⟩) | (go_at_call 13; refine (HSS.out _ H12.out.2 xs12 la12 lc12 H12.out.1).mono ?_; rintro e w13 ⟨rfl, H13⟩) | (go_at_call 15; refine (HKN.out _ H13.out).mono ?_; rintro e w14 ⟨rfl, H14⟩))
              go_ret
              exact ⟨rfl, H14.out⟩
end Go.Proofs.Ytflhgphjkhplmaa.D
