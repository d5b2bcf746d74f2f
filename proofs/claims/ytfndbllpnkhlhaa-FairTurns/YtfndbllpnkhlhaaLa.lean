/- The program's Waiting and Ahead. -/
import Derived.Test.YtfndbllpnkhlhaaKy
import Derived.Test.YtfndbllpnkhlhaaL2
import Derived.Laws.OwnMore
import Derived.LaidEqlPtr
namespace Go.Proofs.Ytfndbllpnkhlhaa
open Go.RowKit
set_option linter.unusedVariables false
set_option linter.unusedSimpArgs false

theorem tfl_len (l : List Wk) : (fl tu3 l).length = l.length * 3 := fl_len tu3_len l
set_option maxRecDepth 20000 in
set_option maxHeartbeats 4000000 in
theorem tclone_any (sv : Value) (l : List Wk) (w : World) (h : Tl tu3 3 w 0 80 sv l) (hl : l.length ≤ 16) : Calls Try.prog 65 #[sv] w fun e w' => (∃ v', e = .returned v' ∧ w'.ownsRow w.heap.size 80 3 v' l.length (fl tu3 l)) ∧ Below w.heap.size w w' := by
  rcases h with ⟨rfl, rfl⟩ | ⟨g, o, cap, cur, rfl, _, hg, h1, h2, h3, h4⟩
  · have hq : ∀ w, (binOp .eql 87 (.slice none 0 0) (.slice none 0 0)).run Try.prog w = .ok (.bool true) w := fun w => by kernel_rfl
    go_enter Try.func65, Try.ntmps65
    go_wp2_with fail
    go_ret
    exact ⟨⟨_, rfl, World.ownsRow_nil _ _ _ _⟩, Below.refl _ _⟩
  · have HC : Hid (∀ j u, (fl tu3 l)[j]? = some u → (w.alloc (.cells #[] 80)).cell? ((⟨g, o, none⟩ : Addr).add j) = some u) := fun j u hu => by
      rw [Addr.add_lit]
      have : (w.alloc (.cells #[] 80)).heap[g]? = some (.cells cur 80 (0, 0)) := (Below.heap_alloc _ _ _ (Array.getElem?_eq_some_iff.1 hg).1).trans hg
      rw [cell_of_row _ _ _ _ _ _ this]
      exact h4 j u hu
    obtain ⟨L, hL⟩ : ∃ L, l.length = L := ⟨_, rfl⟩
    have HL : Hid (l.length = L) := hL
    rw [hL] at hl ⊢
    have hq : ∀ w, (binOp .eql 87 (.slice (some ⟨g, o, none⟩) L cap) (.slice none 0 0)).run Try.prog w = .ok (.bool false) w := fun w => by kernel_rfl
    have HI : Hid _ := info_parts info80
    have H1 : Hid (∀ u ∈ fl tu3 l, u.oneCell' = true) := fl_one tu3_one l
    clear h1 h2 h3 h4 hg hL
    obtain ⟨i0, hi, hz0, hz1, hz2⟩ := HI.out
    go_enter Try.func65, Try.ntmps65
    go_wp2_with (at_builtin; (refine wpList_append_own _ rfl (.tmp 5) (.tmp 6) 87 rfl w.heap.size 80 i0 tu0 3 24 Try.underlying87 hi hz0 hz1 hz2 rfl (by decide) (.slice (some ⟨w.heap.size, 0, none⟩) 0 0) 0 [] rfl (World.ownsRow_lit w #[] 0 (Nat.le_refl _) (by decide) rfl) ⟨g, o, none⟩ L cap (fl tu3 l) rfl (by rw [tfl_len, HL.out]) HC.out H1.out (by unfold maxLen; omega) (by omega) (by simp) ?_; intro v' w' ho' hg' _))
    go_ret
    refine ⟨⟨_, rfl, ?_⟩, (bel1' _ _).grown hg' (by simp) ?_⟩
    · have h := ho'
      rw [Nat.zero_add, List.nil_append] at h
      exact h
    · intro q hq'
      simp [Value.ownBlock] at hq'
      omega
set_option maxRecDepth 20000 in
theorem qall_any (Q : Nat) (sv : Value) (ws : List Wk) (w : World) (h : QB w Q sv ws) (hl : ws.length ≤ 16) : Calls Try.prog 49 #[.pointer (some ⟨Q, 0, none⟩)] w fun e w' => (∃ v', e = .returned v' ∧ w'.ownsRow w.heap.size 80 3 v' ws.length (fl tu3 ws)) ∧ Below w.heap.size w w' := by
  have HC : Hid (Calls Try.prog 65 #[sv] w fun e w' => (∃ v', e = .returned v' ∧ w'.ownsRow w.heap.size 80 3 v' ws.length (fl tu3 ws)) ∧ Below w.heap.size w w') := tclone_any sv ws w h.items hl
  obtain ⟨c0, c1, _⟩ := h.cells
  obtain ⟨a, cap, rfl, _, _⟩ := tl_slice h.items
  obtain ⟨n, hn⟩ : ∃ n, ws.length = n := ⟨_, rfl⟩
  rw [hn] at c1 HC ⊢
  clear h hl hn
  go_enter Try.func49, Try.ntmps49
  go_wp2_with (go_at_call 65; refine HC.out.mono ?_; rintro e w2 ⟨⟨v2, rfl, ho2⟩, hb2⟩; (have H2 : Hid (w2.ownsRow w.heap.size 80 3 v2 n (fl tu3 ws) ∧ Below w.heap.size w w2) := ⟨ho2, hb2⟩); clear ho2 hb2)
  refine bodyPost_ret (results_tmp rfl _ _ _) rfl ?_
  exact ⟨⟨_, rfl, H2.out.1⟩, H2.out.2⟩
def sumC : List Wk → Int
  | [] => 0
  | x :: r => x.cost + sumC r
theorem sumC_app (a b : List Wk) : sumC (a ++ b) = sumC a + sumC b := by
  induction a with
  | nil => simp [sumC]
  | cons x r ih => simp [sumC, ih]; omega
theorem sumC_take {l : List Wk} {i : Nat} {x : Wk} (h : l[i]? = some x) : sumC (l.take (i + 1)) = sumC (l.take i) + x.cost := by
  have : l.take (i + 1) = l.take i ++ [x] := by
    rw [List.take_add_one, h]
    rfl
  rw [this, sumC_app]
  simp [sumC]
theorem sumC_bd {l : List Wk} (h : ∀ x ∈ l, 1 ≤ x.cost ∧ x.cost ≤ 1000) : 0 ≤ sumC l ∧ sumC l ≤ 1000 * (l.length : Int) := by
  induction l with
  | nil => simp [sumC]
  | cons x r ih =>
    have h1 := h x (by simp)
    have h2 := ih fun y hy => h y (by simp [hy])
    simp only [sumC, List.length_cons]
    omega
theorem sumL_eq {l : List Wk} (h : ∀ x ∈ l, x.left = x.cost) : sumL l = sumC l := by
  induction l with
  | nil => rfl
  | cons x r ih =>
    simp only [sumL, sumC]
    rw [h x (by simp), ih fun y hy => h y (by simp [hy])]
set_option maxRecDepth 100000 in
set_option maxHeartbeats 4000000 in
theorem ahead_go {T : Nat} {lv srv : Value} {m : List Rw} {clk had : Int} {r : Rw} {nm : List UInt8} {w : World} {sb : Bool} (h : SR w T lv m clk srv had) (hr : r ∈ m) (hl : m.length ≤ 16) (hq : r.t.ws.length ≤ 16) (hc : ∀ x ∈ r.t.ws, 1 ≤ x.cost ∧ x.cost ≤ 1000) (hh0 : 0 ≤ had) (hh1 : had ≤ 1000)
    (hF : Calls Try.prog 48 #[.pointer (some ⟨T, 0, none⟩), .string (tx nm)] w fun e w' => e = .returned (.pointer (some ⟨r.p, 1, none⟩)) ∧ w' = w) (hsn : ∀ V, Below w.heap.size w V → (binOp .eql 71 (.pointer (some ⟨r.p, 1, none⟩)) srv).run Try.prog V = .ok (.bool sb) V) :
    Calls Try.prog 23 #[.pointer (some ⟨T, 0, none⟩), .string (tx nm)] w fun e w' => e = .returned (.int .i64 (sumC r.t.ws - if sb then had else 0)) ∧ Below w.heap.size w w' := by
  have HA : Hid (Calls Try.prog 49 #[.pointer (some ⟨r.Q, 0, none⟩)] w fun e w' => (∃ v', e = .returned v' ∧ w'.ownsRow w.heap.size 80 3 v' r.t.ws.length (fl tu3 r.t.ws)) ∧ Below w.heap.size w w') := qall_any r.Q r.sv r.t.ws w (h.que r hr) hq
  have HF : Hid (Calls Try.prog 48 #[.pointer (some ⟨T, 0, none⟩), .string (tx nm)] w fun e w' => e = .returned (.pointer (some ⟨r.p, 1, none⟩)) ∧ w' = w) := hF
  have HT : Hid (∀ V, Below w.heap.size w V → V.cell? ⟨T, 2, none⟩ = some srv ∧ V.cell? ⟨T, 3, none⟩ = some (.int .i64 had)) := fun V hb => by
    have := (hb.block T h.ltT).trans h.box
    exact ⟨(boxO_cells this).2.2.1, (boxO_cells this).2.2.2.1⟩
  have c4 := (rowO_cells (h.each r hr)).2.2.2.2
  have HSN : Hid (∀ V, Below w.heap.size w V → (binOp .eql 71 (.pointer (some ⟨r.p, 1, none⟩)) srv).run Try.prog V = .ok (.bool sb) V) := hsn
  have HC : Hid (∀ x ∈ r.t.ws, 1 ≤ x.cost ∧ x.cost ≤ 1000) := hc
  obtain ⟨n, hn⟩ : ∃ n, r.t.ws.length = n := ⟨_, rfl⟩
  have HN : Hid (r.t.ws.length = n) := hn
  rw [hn] at hq HA
  have hn' : (n : Int) ≤ 16 := by omega
  clear h hr hl hc hF hn hsn
  go_enter Try.func23, Try.ntmps23
  go_wp2_with (go_at_call 48; refine HF.out.mono ?_; rintro e w1 ⟨rfl, hw1⟩; rw [hw1]; clear hw1)
  refine HA.out.mono ?_
  rintro e w1 ⟨⟨v1, rfl, ho⟩, hb⟩
  have HO : Hid (w1.ownsRow w.heap.size 80 3 v1 n (fl tu3 r.t.ws) ∧ Below w.heap.size w w1) := ⟨ho, hb⟩
  obtain ⟨a1, c1, rfl⟩ := own_slice ho
  clear ho hb
  go_wp2_with fail
  go_loopw [6, 8, 20] (fun a b c wr => ∃ i : Nat, a = .int .i64 (sumC (r.t.ws.take i)) ∧ c = .int .i64 (i : Int) ∧ i ≤ n ∧ wr.ownsRow w.heap.size 80 3 (.slice a1 n c1) n (fl tu3 r.t.ws) ∧ Below w.heap.size w wr) (fun a b c wr => n - (intOf c).toNat)
  case atStart => exact ⟨0, rfl, rfl, by omega, HO.out.1, HO.out.2⟩
  case round =>
    obtain ⟨i, rfl, rfl, hi, ho, hb⟩ := hrel
    have HOB : Hid (wr.ownsRow w.heap.size 80 3 (.slice a1 n c1) n (fl tu3 r.t.ws) ∧ Below w.heap.size w wr) := ⟨ho, hb⟩
    by_cases hin : i < n
    · obtain ⟨x, hx⟩ : ∃ x, r.t.ws[i]? = some x := ⟨_, List.getElem?_eq_getElem (by have := HN.out; omega)⟩
      have hxc := HC.out x (List.mem_of_getElem? hx)
      have hs0 := sumC_bd (l := r.t.ws.take i) fun y hy => HC.out y (List.mem_of_mem_take hy)
      have hlen : ((r.t.ws.take i).length : Int) ≤ 16 := by rw [List.length_take]; omega
      have hSX := sumC_take hx
      obtain ⟨g, rfl⟩ : ∃ g, a1 = some ⟨g, 0, none⟩ := by
        rcases ho.2 with ⟨h1, h2⟩ | ⟨g, cap, cur, h1, _⟩
        · omega
        · exact ⟨g, (Value.slice.inj h1).1⟩
      have hcell : ∀ j u, (tu3 x)[j]? = some u → wr.cell? ⟨g, i * 3 + j, none⟩ = some u := fun j u hu => by
        have := ho.cells (g := g) rfl (i * 3 + j) u (by rw [fl_at tu3_len r.t.ws i x j hx (by have := (List.getElem?_eq_some_iff.1 hu).1; simpa [tu3] using this)]; exact hu)
        rwa [Addr.add_lit, Nat.zero_add] at this
      have e0 := hcell 0 _ rfl
      have e1 := hcell 1 _ rfl
      have e2 := hcell 2 _ rfl
      rw [Nat.add_zero] at e0
      have hin' : (i : Int) < (n : Int) := by omega
      have hcap : (n : Int) ≤ (c1 : Int) := by have := own_cap ho; omega
      obtain ⟨S, hS⟩ : ∃ S, sumC (r.t.ws.take i) = S := ⟨_, rfl⟩
      rw [hS] at hs0 hSX
      rw [hS]
      obtain ⟨s0, s1⟩ := hs0
      have s2 : S ≤ 16000 := by omega
      have HSX : Hid (sumC (r.t.ws.take (i + 1)) = S + x.cost) := hSX
      clear ho hb hcell hS hSX hx hlen s1
      obtain ⟨q0, q1⟩ := hxc
      go_wp2_with fail
      go_roundw
      case rel => exact ⟨i + 1, by rw [HSX.out], by go_num, by omega, own_at HOB.out.1 fun q hq => (bel1' wr _).block q (HOB.out.1.lt q hq).2, HOB.out.2.trans ((bel1' _ _).mono HOB.out.2.size)⟩
      case measure => simp [intOf]; omega
    · obtain rfl : i = n := by omega
      have hTk : r.t.ws.take i = r.t.ws := List.take_of_length_le (by have := HN.out; omega)
      rw [hTk]
      have hs0 := sumC_bd HC.out
      rw [HN.out] at hs0
      obtain ⟨g1, g2⟩ := HT.out wr hb
      obtain ⟨S, hS⟩ : ∃ S, sumC r.t.ws = S := ⟨_, rfl⟩
      rw [hS] at hs0 ⊢
      obtain ⟨s0, s1⟩ := hs0
      have hq := HSN.out wr hb
      have HSS : Hid (sumC r.t.ws = S) := hS
      clear ho hb hTk hS hin hi
      cases sb with
      | true =>
        go_wp2_with fail
        go_ret
        exact ⟨by rw [HSS.out]; rfl, HOB.out.2⟩
      | false =>
        go_wp2_with fail
        go_ret
        exact ⟨by rw [HSS.out]; simp, HOB.out.2⟩
theorem info77 : ∃ j, Try.prog.info? 77 = some j ∧ j.size ≠ 0 := ⟨Try.t77, by kernel_rfl, by decide⟩
set_option maxRecDepth 100000 in
theorem ahead_none (T : Nat) (lv srv : Value) (m : List Rw) (clk had : Int) (nm : List UInt8) (w : World) (hF : Calls Try.prog 48 #[.pointer (some ⟨T, 0, none⟩), .string (tx nm)] w fun e w' => e = .returned (.pointer none) ∧ w' = w) :
    Calls Try.prog 23 #[.pointer (some ⟨T, 0, none⟩), .string (tx nm)] w fun e w' => e = .returned (.int .i64 0) ∧ Below w.heap.size w w' := by
  have HF : Hid (Calls Try.prog 48 #[.pointer (some ⟨T, 0, none⟩), .string (tx nm)] w fun e w' => e = .returned (.pointer none) ∧ w' = w) := hF
  clear hF
  go_enter Try.func23, Try.ntmps23
  go_wp2_with (go_at_call 48; refine HF.out.mono ?_; rintro e w1 ⟨rfl, hw1⟩; rw [hw1]; clear hw1)
  go_ret
  exact ⟨rfl, Below.refl _ _⟩
theorem ahead_any (N : Int) (T : Nat) (F : Nat → Prop) (s : Sc) (nm : List UInt8) (w : World) (h : PF w T F s) (hs : Sok N s) : Calls Try.prog 23 #[.pointer (some ⟨T, 0, none⟩), .string (tx nm)] w fun e w' => e = .returned (.int .i64 (aheadS s nm)) ∧ Below w.heap.size w w' := by
  obtain ⟨lv, m, srv, had, h1, h2, h3, h4⟩ := h
  obtain ⟨k1, k2⟩ := pf_ok (w := w) (T := T) (F := F) (lv := lv) (srv := srv) (had := had) h2 hs
  have hlk := fnd_look (nm := nm) h1.up
  rw [h2] at hlk
  have hf := sfind_any T lv srv m s.clk had nm w h1 k1
  cases hfd : fnd m nm with
  | none =>
    rw [hfd] at hlk hf
    have e : aheadS s nm = 0 := by unfold aheadS; rw [hlk]; rfl
    rw [e]
    exact ahead_none T lv srv m s.clk had nm w hf
  | some y =>
    obtain ⟨i, r⟩ := y
    rw [hfd] at hlk hf
    have hg := fnd_some hfd
    have hrm := List.mem_of_getElem? hg.2.2.1
    have hTn := hs.all r.t (by rw [← h2]; exact List.mem_map.2 ⟨r, hrm, rfl⟩)
    have hcs : ∀ x ∈ r.t.ws, 1 ≤ x.cost ∧ x.cost ≤ 1000 := fun x hx => ⟨(hTn.all x hx).c0, (hTn.all x hx).c1⟩
    have e : aheadS s nm = sumL r.t.ws := by unfold aheadS; rw [hlk]; rfl
    obtain ⟨j0, hj0, hjs⟩ := info77
    rw [e]
    cases hb : s.busy with
    | false =>
      obtain ⟨g1, g2, g3⟩ := h3.idle hb
      subst g1
      have := ahead_go (sb := false) h1 hrm k1 (k2 r hrm) hcs (by omega) (by omega) hf (fun V hV => by kernel_rfl)
      rw [sumL_eq (g3 r hrm)]
      simpa using this
    | true =>
      obtain ⟨k, r0, x, l, g1, g2, g3, g4, g5, g6, g7⟩ := h3.busy hb
      have hr0 := List.mem_of_getElem? g1
      have hx0 := (hs.all r0.t (by rw [← h2]; exact List.mem_map.2 ⟨r0, hr0, rfl⟩)).all x (by rw [g4]; simp)
      have b0 := hx0.l0
      have b1 := hx0.l1
      have b2 := hx0.c1
      by_cases hki : k = i
      · subst hki
        rw [hg.2.2.1] at g1
        have := Option.some.inj g1
        subst this
        have hgo := ahead_go (sb := true) h1 hrm k1 (k2 r hrm) hcs (by omega) (by omega) hf (fun V hV => by rw [g2]; exact run_eql_ptr_same V _ Try.underlying71 hj0)
        have e2 : sumL r.t.ws = sumC r.t.ws - had := by
          rw [g4]
          simp only [sumL, sumC]
          rw [sumL_eq g6]
          omega
        rw [e2]
        simpa using hgo
      · have hne : r.p ≠ r0.p := fun e => hki (nodup_at h1.nd (pts_at g1) (by rw [pts_at hg.2.2.1, e]))
        have hgo := ahead_go (sb := false) h1 hrm k1 (k2 r hrm) hcs (by omega) (by omega) hf (fun V hV => by
          rw [g2]
          exact run_eql_ptr_other V Try.underlying71 hj0 hjs (fun e => hne (by first | exact congrArg Addr.block e | (injection e))) ((hV.block r.p (h1.ltp r hrm)).trans (h1.each r hrm)) ((hV.block r0.p (h1.ltp r0 hr0)).trans (h1.each r0 hr0)))
        rw [sumL_eq (g7 i r (fun e => hki e.symm) hg.2.2.1)]
        simpa using hgo
theorem waitS_any (N : Int) (T : Nat) (F : Nat → Prop) (s : Sc) (nm : List UInt8) (w : World) (h : PF w T F s) (hs : Sok N s) : Calls Try.prog 29 #[.pointer (some ⟨T, 0, none⟩), .string (tx nm)] w fun e w' => e = .returned (.int .i64 (waitS s nm)) ∧ w' = w := by
  obtain ⟨lv, m, srv, had, h1, h2, h3, h4⟩ := h
  obtain ⟨k1, k2⟩ := pf_ok (w := w) (T := T) (F := F) (lv := lv) (srv := srv) (had := had) h2 hs
  have hlk := fnd_look (nm := nm) h1.up
  rw [h2] at hlk
  refine (waiting_any T lv srv m s.clk had nm w h1 k1).mono fun e w' ⟨g1, g2⟩ => ⟨?_, g2⟩
  rw [g1]
  unfold waitS
  rw [hlk]
  cases fnd m nm with
  | none => rfl
  | some y => rfl
end Go.Proofs.Ytfndbllpnkhlhaa
