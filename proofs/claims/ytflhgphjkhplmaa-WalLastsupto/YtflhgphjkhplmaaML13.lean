import Derived.Test.YtflhgphjkhplmaaML12
import Derived.Test.YtflhgphjkhplmaaML11
/- The model's Rename. -/
namespace Go.Proofs.Ytflhgphjkhplmaa.D
open Go.RowKit
set_option linter.unusedVariables false
set_option linter.unusedSimpArgs false

variable {w w' w2 wx : World} {R p : Nat} {lv lv' : Value} {m m' : List Mt} {sy : Int} {G : Nat → Prop} {dl : List Fd} {s s' : List UInt8} {x : Fd} {t : Mt}
def insF (x : Fd) : List Fd → List Fd
  | [] => [x]
  | y :: r => if ltB y.nm x.nm then y :: insF x r else x :: y :: r
theorem insM_xs (t : Mt) : ∀ m, xsM (insM t m) = insF t.x (xsM m)
  | [] => rfl
  | u :: r => by
    show xsM (if ltB u.x.nm t.x.nm then u :: insM t r else t :: u :: r) = if ltB u.x.nm t.x.nm then u.x :: insF t.x (xsM r) else t.x :: u.x :: xsM r
    split
    · show u.x :: xsM (insM t r) = _
      rw [insM_xs t r]
    · rfl
/-- A file that was taken out, in a box of its own. -/
structure LS (w wx : World) (G : Nat → Prop) (R p : Nat) (lv : Value) (m : List Mt) (sy : Int) (t : Mt) : Prop where
  ms : MS wx R lv m sy
  ml : ML wx t
  ap : ∀ q, GT t q → ¬ GM R lv m q
  bx : wx.heap[p]? = some (.cells (mt4 t).toArray 121 (0, 0))
  np : ¬ GM R lv m p ∧ w.heap.size ≤ p
  fr : Fr G (fun q => GM R lv m q ∨ GT t q) w wx
theorem LS.start {W : World} {k : Nat} (h : MS w R lv m sy) (hG : ∀ q, G q ↔ GM R lv m q) (hk : m[k]? = some t) (hb : BX w W p t) (hp : p < W.heap.size) (h1 : MS wx R lv' (m.take k ++ m.drop (k + 1)) sy) (hf : Fr (GM R lv m) (GM R lv' (m.take k ++ m.drop (k + 1))) W wx) (hs : ∀ q, q < W.heap.size → q ≠ R → wx.heap[q]? = W.heap[q]?) : LS w wx G R p lv' (m.take k ++ m.drop (k + 1)) sy t := by
  have hml := h.ml t (List.mem_of_getElem? hk)
  have hlt := h.lt
  have z := hb.be.size
  have hmx : ML wx t := hml.at' fun q hq => by
    have h2 := hml.lt q hq
    rw [hs q (by omega) (h.ne.2 t hml q hq).1]
    exact hb.be.block q h2
  have hpR : p ≠ R := fun e => by have := hlt R (.inl rfl); have := hb.lo; omega
  have hkl := (List.getElem?_eq_some_iff.1 hk)
  have hap : ∀ u ∈ m.take k ++ m.drop (k + 1), ∀ q, GT t q → ¬ GT u q := fun u hu q hq e => by
    have h3 := h.ap
    rw [← List.take_append_drop k m, (drop_at hk).1, List.pairwise_append] at h3
    obtain ⟨p1, p2, p3⟩ := h3
    rcases List.mem_append.1 hu with hu | hu
    · exact p3 u hu t (by simp) q e hq
    · exact (List.pairwise_cons.1 p2).1 u hu q hq e
  refine ⟨h1, hmx, ?_, (hs p hp hpR).trans hb.bx, ⟨fun e => ?_, hb.lo⟩, ⟨hf.os.trans hb.be.os, hf.tape.trans hb.be.tape, hf.output.trans hb.be.output, Nat.le_trans z hf.size, fun q hq hn => ?_, fun q hq => ?_⟩⟩
  · rintro q hq (e | e | ⟨u, hu, e⟩)
    · exact (h1.ne.2 t hmx q hq).1 e
    · exact (h1.ne.2 t hmx q hq).2 e
    · exact hap u hu q hq e
  · rcases hf.grow p e with c | c
    · have := hlt p c; have := hb.lo; omega
    · omega
  · rw [hf.block q (by omega) fun e => hn ((hG q).2 e)]
    exact hb.be.block q hq
  · rcases hq with hq | hq
    · rcases hf.grow q hq with c | c
      · exact .inl ((hG q).2 c)
      · exact .inr (by omega)
    · exact .inl ((hG q).2 (.inr (.inr ⟨t, List.mem_of_getElem? hk, hq⟩)))
theorem LS.turn (h : LS w wx G R p lv m sy t) (hm : MS w2 R lv' m' sy) (hf : Fr (GM R lv m) (GM R lv' m') wx w2) : LS w w2 G R p lv' m' sy t := by
  have hpl := (Array.getElem?_eq_some_iff.1 h.bx).1
  have z := h.fr.size
  refine ⟨hm, h.ml.at' fun q hq => hf.block q (h.ml.lt q hq) (h.ap q hq), fun q hq e => ?_, (hf.block p hpl h.np.1).trans h.bx, ⟨fun e => ?_, h.np.2⟩, ⟨hf.os.trans h.fr.os, hf.tape.trans h.fr.tape, hf.output.trans h.fr.output, Nat.le_trans z hf.size, fun q hq hn => ?_, fun q hq => ?_⟩⟩
  · rcases hf.grow q e with c | c
    · exact h.ap q hq c
    · have := h.ml.lt q hq; omega
  · rcases hf.grow p e with c | c
    · exact h.np.1 c
    · omega
  · rw [hf.block q (by omega) fun e => ?_]
    · exact h.fr.block q hq hn
    · rcases h.fr.grow q (.inl e) with c | c
      · exact hn c
      · omega
  · rcases hq with hq | hq
    · rcases hf.grow q hq with c | c
      · exact h.fr.grow q (.inl c)
      · exact .inr (by omega)
    · exact h.fr.grow q (.inr hq)
def nmT (t : Mt) (s : List UInt8) : Mt := ⟨⟨s, t.x.b, t.x.ws⟩, t.da, t.dc, t.ba, t.bc⟩
theorem LS.name (h : LS w wx G R p lv m sy t) (s : List UInt8) : LS w (wx.setCell ⟨p, 0, none⟩ (.string (tx s))) G R p lv m sy (nmT t s) := by
  have hf : ∀ q, q ≠ p → (wx.setCell ⟨p, 0, none⟩ (.string (tx s))).heap[q]? = wx.heap[q]? := fun q hq => Below.heap_setCell _ _ _ _ hq
  have hgp : ∀ q, GM R lv m q → q ≠ p := fun q hq e => h.np.1 (e ▸ hq)
  have htp : ∀ q, GT t q → q ≠ p := fun q hq => by
    obtain ⟨c, e, h1, h2⟩ := h.ml.tag q hq
    exact ne_tag h1 h.bx (by rcases h2 with rfl | rfl <;> decide)
  have hmw : ML (wx.setCell ⟨p, 0, none⟩ (.string (tx s))) t := h.ml.at' fun q hq => hf q (htp q hq)
  refine ⟨h.ms.at' fun q hq => hf q (hgp q hq), ⟨hmw.rd, hmw.rw⟩, h.ap, ?_, h.np, ⟨h.fr.os, h.fr.tape, h.fr.output, by simp; exact h.fr.size, fun q hq hn => ?_, h.fr.grow⟩⟩
  · have := row_set (i := 0) (.string (tx s)) h.bx
    rw [this]
    rfl
  · rw [hf q (by have := h.np.2; omega)]
    exact h.fr.block q hq hn
theorem LS.cells (h : LS w wx G R p lv m sy t) : wx.cell? ⟨p, 0, none⟩ = some (.string (tx t.x.nm)) ∧ wx.cell? ⟨p, 1, none⟩ = some (.slice t.da t.x.b.length t.dc) ∧ wx.cell? ⟨p, 2, none⟩ = some (.int .i64 (safeN t.x.b t.x.ws)) ∧ wx.cell? ⟨p, 3, none⟩ = some (.slice t.ba t.x.ws.length t.bc) ∧ ∀ i, wx.frozen? ⟨p, i, none⟩ = false :=
  ⟨by rw [cell_of_row _ _ _ _ _ _ h.bx]; rfl, by rw [cell_of_row _ _ _ _ _ _ h.bx]; rfl, by rw [cell_of_row _ _ _ _ _ _ h.bx]; rfl, by rw [cell_of_row _ _ _ _ _ _ h.bx]; rfl, fun i => by simp [World.frozen?, h.bx]⟩
theorem LS.put (h : LS w wx G R p lv m sy t) (hl : (m.length : Int) ≤ 1000000) : Calls Try.prog 77 #[.pointer (some ⟨R, 0, none⟩), .agg #[.string (tx t.x.nm), .slice t.da t.x.b.length t.dc, .int .i64 (safeN t.x.b t.x.ws), .slice t.ba t.x.ws.length t.bc]] wx fun e w' => e = .returned (.tuple #[]) ∧ Hid (∃ G', MR w' R G' sy (insF t.x (xsM m)) ∧ Fr G G' w w') := by
  refine (h.ms.put hl h.ml h.ap).mono ?_
  rintro e w2 ⟨rfl, lv', k1, k2⟩
  refine ⟨rfl, _, (by rw [← insM_xs]; exact k1.mr), h.fr.trans' k2⟩
/-- Where a file goes. -/
theorem LS.drop (h : LS w wx G R p lv m sy t) (hl : (m.length : Int) ≤ 1000000) {k : Nat} (hk : k < m.length) : Calls Try.prog 78 #[.pointer (some ⟨R, 0, none⟩), .int .i64 (k : Int)] wx fun e w' => e = .returned (.tuple #[]) ∧ Hid (∃ lv', LS w w' G R p lv' (m.take k ++ m.drop (k + 1)) sy t) := by
  refine (h.ms.drop hl hk).mono ?_
  rintro e w2 ⟨rfl, lv', k1, k2, -⟩
  exact ⟨rfl, lv', h.turn k1 k2⟩
theorem take_drop_len {α : Type} (l : List α) (k : Nat) (h : k < l.length) : (l.take k ++ l.drop (k + 1)).length + 1 = l.length := by
  rw [List.length_append, List.length_take, List.length_drop, Nat.min_eq_left (by omega)]
  omega
def renF (s s' : List UInt8) (x : Fd) (dl : List Fd) : List Fd := if s = s' then dl else insF ⟨s', x.b, x.ws⟩ (outF s' (outF s dl))
set_option maxRecDepth 20000 in
set_option maxHeartbeats 8000000 in
theorem rrename_yes (h : MR w R G sy dl) (hl : dl.length ≤ 1000000) (hs : lkF s dl = some x) (hsl : (s'.length : Int) ≤ 140737488351232) (hn : nameB s' = true) : Calls Try.prog 50 #[.pointer (some ⟨R, 0, none⟩), .string (tx s), .string (tx s')] w fun e w' => e = .returned (.int .i64 0) ∧ Hid (∃ G', MR w' R G' sy (renF s s' x dl) ∧ Fr G G' w w') := by
  have HMR : Hid (MR w R G sy dl) := h
  obtain ⟨lv, m, h1, rfl, hG⟩ := h
  rw [xsM_len] at hl
  obtain ⟨k, t, k1, k2, rfl, k4, k5, -⟩ := ixM_lk hs
  have HF : Hid (Calls Try.prog 76 #[.pointer (some ⟨R, 0, none⟩), .string (tx s)] w fun e w' => e = .returned (.int .i64 (k : Int)) ∧ w' = w) := by
    have := h1.find (by omega) s
    rw [k1] at this
    exact this
  have HNM : Hid (Calls Try.prog 71 #[.string (tx s')] w fun e w' => e = .returned (.bool true) ∧ w' = w) := by
    have := rname_any s' w hsl
    rw [hn] at this
    exact this
  have hk0 : ¬ (k : Int) < 0 := by omega
  by_cases hss : s = s'
  · have HE : Hid (renF s s' t.x (xsM m) = xsM m) := by show _ = _; unfold renF; rw [if_pos hss]
    have hb : ((tx s).toList == (tx s').toList) = true := by rw [tx_list, tx_list]; simp [hss]
    clear h1 hl hs k1 k2 k4 k5 hG hss
    go_enter Try.func50, Try.ntmps50
    go_wp2_with (first | (go_at_call 76; refine HF.out.mono ?_; rintro e w1 ⟨rfl, hw1⟩; rw [hw1]; clear hw1) | (go_at_call 71; refine HNM.out.mono ?_; rintro e w1 ⟨rfl, hw1⟩; rw [hw1]; clear hw1))
    go_ret
    rw [HE.out]
    exact ⟨rfl, G, HMR.out, Fr.refl _ _⟩
  · have HE : Hid (renF s s' t.x (xsM m) = insF ⟨s', t.x.b, t.x.ws⟩ (outF s' (xsM (m.take k ++ m.drop (k + 1))))) := by show _ = _; unfold renF; rw [if_neg hss, k5]
    have hb : ((tx s).toList == (tx s').toList) = false := by rw [tx_list, tx_list]; simpa using hss
    obtain ⟨g, cap, rfl, q1, q2, q3, e0, e1, e2, e3, e4⟩ := h1.openK k2
    have HBX : Hid (BX w (w.alloc (.cells #[.string (tx t.x.nm), .slice t.da t.x.b.length t.dc, .int .i64 (safeN t.x.b t.x.ws), .slice t.ba t.x.ws.length t.bc] 121)) w.heap.size t) := BX.made w t
    obtain ⟨W, hW⟩ : ∃ W, w.alloc (.cells #[.string (tx t.x.nm), .slice t.da t.x.b.length t.dc, .int .i64 (safeN t.x.b t.x.ws), .slice t.ba t.x.ws.length t.bc] 121) = W := ⟨_, rfl⟩
    have hWs : W.heap.size = w.heap.size + 1 := by rw [← hW]; simp
    rw [hW] at HBX
    obtain ⟨p, hp⟩ : ∃ p, w.heap.size = p := ⟨_, rfl⟩
    rw [hp] at HBX
    have hkl := (List.getElem?_eq_some_iff.1 k2).1
    have hlen := take_drop_len m k hkl
    have HDR : Hid (Calls Try.prog 78 #[.pointer (some ⟨R, 0, none⟩), .int .i64 (k : Int)] W fun e w' => e = .returned (.tuple #[]) ∧ Hid (∃ lv', LS w w' G R p lv' (m.take k ++ m.drop (k + 1)) sy t)) := by
      refine ((h1.newer HBX.out.be).drop (by omega) hkl).mono ?_
      rintro e w2 ⟨rfl, lv', j1, j2, j3⟩
      exact ⟨rfl, lv', LS.start h1 hG k2 HBX.out (by omega) j1 j2 j3⟩
    have HML : Hid (m.length ≤ 1000000 ∧ (m.take k ++ m.drop (k + 1)).length + 1 = m.length) := ⟨hl, hlen⟩
    rw [HE.out]
    generalize m.take k ++ m.drop (k + 1) = m1 at *
    generalize m.length = n at *
    clear h1 hl hs k1 k2 k4 k5 hG hss hkl hlen e4 hn hsl hWs
    go_enter Try.func50, Try.ntmps50
    go_upto_region 9 with (first | (go_at_call 76; refine HF.out.mono ?_; rintro e w1 ⟨rfl, hw1⟩; rw [hw1]; clear hw1) | (go_at_call 71; refine HNM.out.mono ?_; rintro e w1 ⟨rfl, hw1⟩; rw [hw1]; clear hw1))
    clear hW hp q3 e0 e1 e2 e3 HF HNM
    go_upto_region 10 with (go_at_call 78; refine HDR.out.mono ?_; rintro e w1 ⟨rfl, H1⟩)
    obtain ⟨lv1, hL1⟩ := H1.out
    have HL1 : Hid (LS w w1 G R p lv1 m1 sy t) := hL1
    clear H1 hL1 HDR
    have HF1 : Hid (Calls Try.prog 76 #[.pointer (some ⟨R, 0, none⟩), .string (tx s')] w1 fun e w' => e = .returned (.int .i64 (posV (ixM s' m1 0))) ∧ w' = w1) := HL1.out.ms.find (by have := HML.out; omega) s'
    obtain ⟨z, hz⟩ : ∃ z, posV (ixM s' m1 0) = z := ⟨_, rfl⟩
    have HZ : Hid (posV (ixM s' m1 0) = z) := hz
    rw [hz] at HF1
    clear hz
    go_upto_if 34 with (go_at_call 76; refine HF1.out.mono ?_; rintro e w9 ⟨rfl, hw9⟩; rw [hw9]; clear hw9)
    go_cut [35] from 35 to 35 (fun _ wx => Hid (∃ lv2 m2, LS w wx G R p lv2 m2 sy t ∧ xsM m2 = outF s' (xsM m1) ∧ m2.length ≤ m1.length))
    case first =>
      cases hi : ixM s' m1 0 with
      | none =>
        have hz : z = -1 := by rw [← HZ.out, hi]; rfl
        have HO : Hid (xsM m1 = outF s' (xsM m1)) := (outF_none (ixM_none hi)).symm
        subst hz
        clear hi
        go_wp2_with fail
        go_meet
        exact ⟨lv1, m1, HL1.out, HO.out, Nat.le_refl _⟩
      | some k2 =>
        have hz : z = (k2 : Int) := by rw [← HZ.out, hi]; rfl
        obtain ⟨-, t2, j2, -, -, j5, -⟩ := ixM_some hi
        have hk2 := (List.getElem?_eq_some_iff.1 j2).1
        rw [Nat.sub_zero] at hk2 j5
        have HD2 : Hid (Calls Try.prog 78 #[.pointer (some ⟨R, 0, none⟩), .int .i64 (k2 : Int)] w1 fun e w' => e = .returned (.tuple #[]) ∧ Hid (∃ lv2 m2, LS w w' G R p lv2 m2 sy t ∧ xsM m2 = outF s' (xsM m1) ∧ m2.length ≤ m1.length)) := by
          refine (HL1.out.drop (by have := HML.out; omega) hk2).mono ?_
          rintro e w2 ⟨rfl, r⟩
          obtain ⟨lv2, r1⟩ := r.out
          exact ⟨rfl, lv2, _, r1, j5.symm, by have := take_drop_len m1 k2 hk2; omega⟩
        subst hz
        have hk20 : 0 ≤ (k2 : Int) := by omega
        clear hi j2 j5 hk2
        go_wp2_with (go_at_call 78; refine HD2.out.mono ?_; rintro e w2 ⟨rfl, H2⟩)
        go_meet
        exact H2.out
    obtain ⟨w2, hw2⟩ : ∃ w2, wc = w2 := ⟨_, rfl⟩
    rw [hw2] at hcut ⊢
    clear hw2
    obtain ⟨lv2, m2, r1, r2, r3⟩ := hcut.out
    have HL2 : Hid (LS w w2 G R p lv2 m2 sy t ∧ xsM m2 = outF s' (xsM m1) ∧ m2.length ≤ m1.length) := ⟨r1, r2, r3⟩
    clear hcut r1 r2 r3 HL1 HF1
    obtain ⟨y0, y1, y2, y3, y4⟩ := HL2.out.1.cells
    have y5 := y4 0
    obtain ⟨W3, hW3⟩ : ∃ W3, w2.setCell ⟨p, 0, none⟩ (.string (tx s')) = W3 := ⟨_, rfl⟩
    have HL3 : Hid (LS w W3 G R p lv2 m2 sy (nmT t s')) := by rw [← hW3]; exact HL2.out.1.name s'
    obtain ⟨v0, v1, v2, v3, -⟩ := HL3.out.cells
    have HPT : Hid (Calls Try.prog 77 #[.pointer (some ⟨R, 0, none⟩), .agg #[.string (tx s'), .slice t.da t.x.b.length t.dc, .int .i64 (safeN t.x.b t.x.ws), .slice t.ba t.x.ws.length t.bc]] W3 fun e w' => e = .returned (.tuple #[]) ∧ Hid (∃ G', MR w' R G' sy (insF ⟨s', t.x.b, t.x.ws⟩ (outF s' (xsM m1))) ∧ Fr G G' w w')) := by
      have := HL3.out.put (by have := HL2.out.2.2; have := HML.out; omega)
      rw [HL2.out.2.1] at this
      exact this
    clear y4
    go_upto_region 14 with (fail)
    clear hW3 y0 y1 y2 y3 y5
    have v0' : W3.cell? ⟨p, 0, none⟩ = some (.string (tx s')) := v0
    have v1' : W3.cell? ⟨p, 1, none⟩ = some (.slice t.da t.x.b.length t.dc) := v1
    have v2' : W3.cell? ⟨p, 2, none⟩ = some (.int .i64 (safeN t.x.b t.x.ws)) := v2
    have v3' : W3.cell? ⟨p, 3, none⟩ = some (.slice t.ba t.x.ws.length t.bc) := v3
    clear v0 v1 v2 v3
    go_wp2_with (go_at_call 77; refine HPT.out.mono ?_; rintro e w4 ⟨rfl, H4⟩)
    go_ret
    exact ⟨rfl, H4.out⟩
end Go.Proofs.Ytflhgphjkhplmaa.D

/- The model's Append: what it is refused, plain facts. -/
namespace Go.Proofs.Ytflhgphjkhplmaa.D
open Go.RowKit
set_option linter.unusedVariables false
set_option linter.unusedSimpArgs false

variable {w w' w2 wx : World} {R p : Nat} {lv lv' : Value} {m m' : List Mt} {sy : Int} {G : Nat → Prop} {dl : List Fd} {s s' : List UInt8} {x : Fd} {t : Mt}
theorem safe_app (b bs ws : List Int) : safeN (b ++ bs) (ws ++ [(b.length : Int)]) = safeN b ws := by
  cases ws with
  | nil => rfl
  | cons y r => rfl
def appT (t : Mt) (bs : List Int) (da : Option Addr) (dc : Nat) (ba : Option Addr) (bc : Nat) : Mt := ⟨⟨t.x.nm, t.x.b ++ bs, t.x.ws ++ [(t.x.b.length : Int)]⟩, da, dc, ba, bc⟩
theorem appT_mt (t : Mt) (bs : List Int) (da : Option Addr) (dc : Nat) (ba : Option Addr) (bc : Nat) : mt4 (appT t bs da dc ba bc) = [.string (tx t.x.nm), .slice da (t.x.b.length + bs.length) dc, .int .i64 (safeN t.x.b t.x.ws), .slice ba (t.x.ws.length + 1) bc] := by
  unfold mt4 appT Mt.dv Mt.bv
  dsimp only
  rw [safe_app, List.length_append, List.length_append]
  rfl
theorem setF_ins {b ws : List Int} (s : List UInt8) : ∀ {dl : List Fd}, lkF s dl = none → setF s b ws (insF ⟨s, [], []⟩ dl) = insF ⟨s, b, ws⟩ dl ∧ lkF s (insF ⟨s, [], []⟩ dl) = some ⟨s, [], []⟩
  | [], h => by
    refine ⟨?_, ?_⟩
    · show setF s b ws [⟨s, [], []⟩] = [⟨s, b, ws⟩]
      rw [setF, if_pos rfl]
    · show lkF s [⟨s, [], []⟩] = _
      rw [lkF, if_pos rfl]
  | y :: r, h => by
    unfold lkF at h
    split at h
    · cases h
    · rename_i e
      obtain ⟨h1, h2⟩ := setF_ins (b := b) (ws := ws) s (dl := r) h
      by_cases c : ltB y.nm s = true
      · have e1 : ∀ b ws, insF ⟨s, b, ws⟩ (y :: r) = y :: insF ⟨s, b, ws⟩ r := fun b ws => by rw [insF, if_pos c]
        rw [e1, e1, setF, if_neg e, h1, lkF, if_neg e, h2]
        exact ⟨rfl, rfl⟩
      · have e1 : ∀ b ws, insF ⟨s, b, ws⟩ (y :: r) = ⟨s, b, ws⟩ :: y :: r := fun b ws => by rw [insF, if_neg c]
        rw [e1, e1, setF, if_pos rfl, lkF, if_pos rfl]
        exact ⟨rfl, rfl⟩
theorem rappend_key (h : MR w R G sy dl) (hl : (s.length : Int) ≤ 140737488351232) (hn : nameB s = false) (sv : Value) : Calls Try.prog 47 #[.pointer (some ⟨R, 0, none⟩), .string (tx s), sv] w fun e w' => e = .returned (.int .i64 40) ∧ w' = w := by
  have HNM : Hid (Calls Try.prog 71 #[.string (tx s)] w fun e w' => e = .returned (.bool false) ∧ w' = w) := by
    have := rname_any s w hl
    rw [hn] at this
    exact this
  clear h hl hn
  go_enter Try.func47, Try.ntmps47
  go_wp2_with (go_at_call 71; refine HNM.out.mono ?_; rintro e w1 ⟨rfl, hw1⟩; rw [hw1]; clear hw1)
  go_ret
  exact ⟨rfl, rfl⟩
set_option maxRecDepth 20000 in
theorem rappend_size (h : MR w R G sy dl) (hdl : dl.length ≤ 1000000) (hs : lkF s dl = some x) (hl : (s.length : Int) ≤ 140737488351232) (hn : nameB s = true) {sv : Value} {N : Nat} (hsv : ∃ sa sc, sv = .slice sa N sc) (hx : x.b.length ≤ 1048576) (hfit : ¬ (N : Int) ≤ 1048576 - x.b.length) (hN : (N : Int) ≤ 140737488351232) :
    Calls Try.prog 47 #[.pointer (some ⟨R, 0, none⟩), .string (tx s), sv] w fun e w' => e = .returned (.int .i64 4) ∧ w' = w := by
  have HNM : Hid (Calls Try.prog 71 #[.string (tx s)] w fun e w' => e = .returned (.bool true) ∧ w' = w) := by
    have := rname_any s w hl
    rw [hn] at this
    exact this
  obtain ⟨lv, m, h1, rfl, hG⟩ := h
  rw [xsM_len] at hdl
  obtain ⟨k, t, k1, k2, rfl, k4, k5, -⟩ := ixM_lk hs
  have HF : Hid (Calls Try.prog 76 #[.pointer (some ⟨R, 0, none⟩), .string (tx s)] w fun e w' => e = .returned (.int .i64 (k : Int)) ∧ w' = w) := by
    have := h1.find (by omega) s
    rw [k1] at this
    exact this
  obtain ⟨g, cap, rfl, q1, q2, q3, e0, e1, e2, e3, e4⟩ := h1.openK k2
  obtain ⟨sa, sc, rfl⟩ := hsv
  have hk0 : (0 : Int) ≤ (k : Int) := by omega
  have hxl : (t.x.b.length : Int) ≤ 1048576 := by omega
  have hw : IntKind.i64.wrap (1048576 - (t.x.b.length : Int)) = 1048576 - (t.x.b.length : Int) := by rw [IntKind.wrap_i64]; omega
  have hgt : 1048576 - (t.x.b.length : Int) < (N : Int) := by omega
  generalize m.length = n at *
  generalize t.x.b.length = L at *
  clear h1 hdl hs hl hn hx hG k1 k2 k4 k5 e0 e2 e3 e4 hfit
  go_enter Try.func47, Try.ntmps47
  go_wp2_with (first | (go_at_call 71; refine HNM.out.mono ?_; rintro e w1 ⟨rfl, hw1⟩; rw [hw1]; clear hw1) | (go_at_call 76; refine HF.out.mono ?_; rintro e w1 ⟨rfl, hw1⟩; rw [hw1]; clear hw1))
  go_ret
  exact ⟨rfl, rfl⟩
set_option maxRecDepth 20000 in
theorem rappend_none (h : MR w R G sy dl) (hdl : dl.length ≤ 64) (hs : lkF s dl = none) (hl : (s.length : Int) ≤ 140737488351232) (hn : nameB s = true) {sv : Value} {N : Nat} (hsv : ∃ sa sc, sv = .slice sa N sc) (hN : (N : Int) ≤ 140737488351232) (hr : 1048576 < N ∨ dl.length = 64) :
    Calls Try.prog 47 #[.pointer (some ⟨R, 0, none⟩), .string (tx s), sv] w fun e w' => e = .returned (.int .i64 (if 1048576 < N then 4 else 7)) ∧ w' = w := by
  have HNM : Hid (Calls Try.prog 71 #[.string (tx s)] w fun e w' => e = .returned (.bool true) ∧ w' = w) := by
    have := rname_any s w hl
    rw [hn] at this
    exact this
  obtain ⟨lv, m, h1, rfl, hG⟩ := h
  rw [xsM_len] at hdl hr
  have HF : Hid (Calls Try.prog 76 #[.pointer (some ⟨R, 0, none⟩), .string (tx s)] w fun e w' => e = .returned (.int .i64 (-1)) ∧ w' = w) := by
    have := h1.find (by omega) s
    rw [ixM_no hs] at this
    exact this
  obtain ⟨ga, cap, hlv⟩ := own_slice h1.row
  have c0 := h1.cells.1
  rw [hlv] at c0
  obtain ⟨sa, sc, rfl⟩ := hsv
  by_cases c : 1048576 < N
  · rw [if_pos c]
    have c' : (1048576 : Int) < (N : Int) := by omega
    clear h1 hdl hs hl hn hG hlv hr c
    go_enter Try.func47, Try.ntmps47
    go_wp2_with (first | (go_at_call 71; refine HNM.out.mono ?_; rintro e w1 ⟨rfl, hw1⟩; rw [hw1]; clear hw1) | (go_at_call 76; refine HF.out.mono ?_; rintro e w1 ⟨rfl, hw1⟩; rw [hw1]; clear hw1))
    go_ret
    exact ⟨rfl, rfl⟩
  · rw [if_neg c]
    have c' : ¬ (1048576 : Int) < (N : Int) := by omega
    rw [show m.length = 64 by omega] at c0
    clear h1 hdl hs hl hn hG hlv hr c
    go_enter Try.func47, Try.ntmps47
    go_wp2_with (first | (go_at_call 71; refine HNM.out.mono ?_; rintro e w1 ⟨rfl, hw1⟩; rw [hw1]; clear hw1) | (go_at_call 76; refine HF.out.mono ?_; rintro e w1 ⟨rfl, hw1⟩; rw [hw1]; clear hw1))
    go_ret
    exact ⟨rfl, rfl⟩
end Go.Proofs.Ytflhgphjkhplmaa.D

/- The model's Append, walked. -/
namespace Go.Proofs.Ytflhgphjkhplmaa.D
open Go.RowKit
set_option linter.unusedVariables false
set_option linter.unusedSimpArgs false

variable {w w' w2 wx : World} {R p : Nat} {lv lv' : Value} {m m' : List Mt} {sy : Int} {G : Nat → Prop} {dl dl1 : List Fd} {s s' : List UInt8} {x : Fd} {t : Mt}
/-- Ahead of the bytes: the file is there. -/
structure AS (w wx : World) (G : Nat → Prop) (R : Nat) (sy : Int) (s : List UInt8) (x : Fd) (dl1 : List Fd) (sv : Value) (bs : List Int) (k : Nat) : Prop where
  ex : ∃ lv m t, MS wx R lv m sy ∧ m[k]? = some t ∧ t.x = x ∧ t.x.nm = s ∧ xsM m = dl1 ∧ (∀ t' b' ws', t'.x = ⟨s, b', ws'⟩ → setF s b' ws' dl1 = xsM (m.set k t')) ∧ SrcG wx (GM R lv m) sv bs ∧ Fr G (GM R lv m) w wx ∧ m.length ≤ 1000000
/-- A new file, empty. -/
def newT (s : List UInt8) : Mt := ⟨⟨s, [], []⟩, none, 0, none, 0⟩
theorem lkF_nm {x : Fd} (h : lkF s dl = some x) : x.nm = s := (lkF_some h).1
theorem AS.of (h : MR w R G sy dl) (hl : dl.length ≤ 1000000) (hs : lkF s dl = some x) {sv : Value} {bs : List Int} (hsv : SrcG w G sv bs) : ∃ k, (∀ lv m, MS w R lv m sy → xsM m = dl → ixM s m 0 = some k) ∧ AS w w G R sy s x dl sv bs k := by
  obtain ⟨lv, m, h1, rfl, hG⟩ := h
  obtain ⟨k, t, k1, k2, rfl, k4, k5, k6⟩ := ixM_lk hs
  refine ⟨k, fun lv' m' h' e => ?_, ⟨lv, m, t, h1, k2, rfl, k4, rfl, k6, fun W hW => hsv W fun q hq hn => hW q hq fun e => hn ((hG q).2 e), (Fr.refl G w).sub fun q hq => (hG q).2 hq, by rw [xsM_len] at hl; exact hl⟩⟩
  have hsm : ∀ (a b : List Mt) (i : Nat), xsM a = xsM b → ixM s a i = ixM s b i := fun a => by
    induction a with
    | nil =>
      intro b i h
      cases b with
      | nil => rfl
      | cons y r => simp [xsM] at h
    | cons u r ih =>
      intro b i h
      cases b with
      | nil => simp [xsM] at h
      | cons y r' =>
        obtain ⟨e1, e2⟩ := List.cons.inj (show u.x :: xsM r = y.x :: xsM r' from h)
        rw [ixM, ixM, e1, ih r' (i + 1) e2]
  rw [hsm m' m 0 e]
  exact k1
/-- What is left to do: what is behind the stores. -/
theorem AS.done {bs : List Int} {k : Nat} {lv : Value} {m : List Mt} {t : Mt} (hms : MS wx R lv m sy) (hk : m[k]? = some t) (hset : ∀ t' b' ws', t'.x = ⟨s, b', ws'⟩ → setF s b' ws' dl1 = xsM (m.set k t')) (hnm : t.x.nm = s) (hfr : Fr G (GM R lv m) w wx)
    {V : World} {da ba : Option Addr} {dc bc : Nat} (hd : V.ownsRow 0 5 1 (.slice da (t.x.b.length + bs.length) dc) (t.x.b.length + bs.length) (u8l t.x.b ++ u8l bs)) (hb : V.ownsRow 0 3 1 (.slice ba (t.x.ws.length + 1) bc) (t.x.ws.length + 1) (t.x.ws.map iV ++ [iV (t.x.b.length : Int)])) (hda : ∀ q, (Value.slice da (t.x.b.length + bs.length) dc).ownBlock = some q → t.dv.ownBlock = some q ∨ wx.heap.size ≤ q) (hba : ∀ q, (Value.slice ba (t.x.ws.length + 1) bc).ownBlock = some q → t.bv.ownBlock = some q ∨ wx.heap.size ≤ q)
    (hblk : ∀ q, q < wx.heap.size → ¬ GT t q → V.heap[q]? = wx.heap[q]?) (hos : V.os = wx.os ∧ V.tape = wx.tape ∧ V.output = wx.output ∧ wx.heap.size ≤ V.heap.size) :
    ∃ g cap, lv = .slice (some ⟨g, 0, none⟩) m.length cap ∧ V.cell? ⟨R, 0, none⟩ = some (.slice (some ⟨g, 0, none⟩) m.length cap) ∧ (V.cell? ⟨g, k * 4, none⟩ = some (.string (tx t.x.nm)) ∧ V.cell? ⟨g, k * 4 + 1, none⟩ = some (.slice t.da t.x.b.length t.dc) ∧ V.cell? ⟨g, k * 4 + 2, none⟩ = some (.int .i64 (safeN t.x.b t.x.ws)) ∧ V.cell? ⟨g, k * 4 + 3, none⟩ = some (.slice t.ba t.x.ws.length t.bc) ∧ ∀ i, V.frozen? ⟨g, i, none⟩ = false) ∧
      ∀ d, ∃ G', MR ((V.setCells g (k * 4) [.string (tx t.x.nm), .slice da (t.x.b.length + bs.length) dc, .int .i64 (safeN t.x.b t.x.ws), .slice ba (t.x.ws.length + 1) bc]).drewN d) R G' sy (setF s (t.x.b ++ bs) (t.x.ws ++ [(t.x.b.length : Int)]) dl1) ∧ Fr G G' w ((V.setCells g (k * 4) [.string (tx t.x.nm), .slice da (t.x.b.length + bs.length) dc, .int .i64 (safeN t.x.b t.x.ws), .slice ba (t.x.ws.length + 1) bc]).drewN d) := by
  obtain ⟨g, cap, rfl, q1, q2, q3, -⟩ := hms.openK hk
  have hml := hms.ml t (List.mem_of_getElem? hk)
  have hgl := hms.lt g (.inr (.inl rfl))
  have hRl := hms.lt R (.inl rfl)
  have hR2 : V.heap[R]? = wx.heap[R]? := hblk R hRl fun e => (hms.ne.2 t hml R e).1 rfl
  have hg2 : V.heap[g]? = wx.heap[g]? := hblk g hgl fun e => (hms.ne.2 t hml g e).2 rfl
  have hrow : V.ownsRow 0 121 4 (.slice (some ⟨g, 0, none⟩) m.length cap) m.length (fl mt4 m) := own_at hms.row fun q hq => by
    have : g = q := by simpa [Value.ownBlock] using hq
    rw [← this]; exact hg2
  refine ⟨g, cap, rfl, (cell_same hR2).trans q3, own_mt hrow hk, fun d => ?_⟩
  have hmlV : ML V (appT t bs da dc ba bc) := by
    refine ⟨?_, ?_⟩
    · have : V.ownsRow 0 5 1 (.slice da (t.x.b ++ bs).length dc) (t.x.b ++ bs).length (u8l (t.x.b ++ bs)) := by
        rw [List.length_append, ← u8l_app]
        exact hd
      exact this
    · have : V.ownsRow 0 3 1 (.slice ba (t.x.ws ++ [(t.x.b.length : Int)]).length bc) (t.x.ws ++ [(t.x.b.length : Int)]).length ((t.x.ws ++ [(t.x.b.length : Int)]).map iV) := by
        rw [List.length_append, List.map_append]
        exact hb
      exact this
  have hGT : ∀ q, GT (appT t bs da dc ba bc) q → GT t q ∨ wx.heap.size ≤ q := by
    rintro q (hq | hq)
    · have e : (appT t bs da dc ba bc).dv = .slice da (t.x.b.length + bs.length) dc := by unfold appT Mt.dv; dsimp only; rw [List.length_append]
      rw [e] at hq
      exact (hda q hq).imp .inl id
    · have e : (appT t bs da dc ba bc).bv = .slice ba (t.x.ws.length + 1) bc := by unfold appT Mt.bv; dsimp only; rw [List.length_append]; rfl
      rw [e] at hq
      exact (hba q hq).imp .inr id
  obtain ⟨r1, r2⟩ := hms.turnK (t' := appT t bs da dc ba bc) hk hmlV hGT hblk hos
  rw [appT_mt] at r1 r2
  rw [hset (appT t bs da dc ba bc) _ _ (by show (⟨t.x.nm, _, _⟩ : Fd) = _; rw [hnm])]
  exact ⟨_, (MS.mr r1).at' fun _ _ => rfl, (hfr.trans' r2).trans' ⟨rfl, rfl, rfl, Nat.le_refl _, fun _ _ _ => rfl, fun q hq => .inl hq⟩⟩
end Go.Proofs.Ytflhgphjkhplmaa.D

/- The model's Append where there is room. -/
namespace Go.Proofs.Ytflhgphjkhplmaa.D
open Go.RowKit
set_option linter.unusedVariables false
set_option linter.unusedSimpArgs false

variable {w w' w2 wx : World} {R p : Nat} {lv lv' : Value} {m m' : List Mt} {sy : Int} {G : Nat → Prop} {dl dl1 : List Fd} {s s' : List UInt8} {x : Fd} {t : Mt}
/-- A new file is put in. -/
theorem rput_new (h : MR w R G sy dl) (hdl : dl.length ≤ 64) (hs : lkF s dl = none) {sv : Value} {bs : List Int} (hsv : SrcG w G sv bs) :
    Calls Try.prog 77 #[.pointer (some ⟨R, 0, none⟩), .agg #[.string (tx s), .slice none 0 0, .int .i64 0, .slice none 0 0]] w fun e w' => e = .returned (.tuple #[]) ∧ ∃ k, Hid (AS w w' G R sy s ⟨s, [], []⟩ (insF ⟨s, [], []⟩ dl) sv bs k) ∧ Calls Try.prog 76 #[.pointer (some ⟨R, 0, none⟩), .string (tx s)] w' fun e w2 => e = .returned (.int .i64 (k : Int)) ∧ w2 = w' := by
  obtain ⟨lv, m, h1, rfl, hG⟩ := h
  rw [xsM_len] at hdl
  have hno : ∀ q, ¬ GT (newT s) q := by
    rintro q (hq | hq) <;> cases hq
  refine (h1.put (x := newT s) (by omega) ⟨World.ownsRow_nil _ _ _ _, World.ownsRow_nil _ _ _ _⟩ fun q hq => (hno q hq).elim).mono ?_
  rintro e w1 ⟨rfl, lv', k1, k2⟩
  have hfr : Fr G (GM R lv' (insM (newT s) m)) w w1 := k2.from fun q => ⟨fun hq => .inl ((hG q).1 hq), fun hq => (hG q).2 (hq.resolve_right (hno q))⟩
  have hxs : xsM (insM (newT s) m) = insF ⟨s, [], []⟩ (xsM m) := insM_xs (newT s) m
  have hlen : (insM (newT s) m).length = m.length + 1 := by
    have : ∀ m : List Mt, (insM (newT s) m).length = m.length + 1 := fun m => by
      induction m with
      | nil => rfl
      | cons u r ih =>
        unfold insM
        split
        · rw [List.length_cons, ih, List.length_cons]
        · rfl
    exact this m
  obtain ⟨k, j1, j2⟩ := AS.of (x := ⟨s, [], []⟩) k1.mr (by rw [xsM_len]; omega) (by rw [hxs]; exact (setF_ins (b := []) (ws := []) s hs).2) (hsv.fr hfr)
  refine ⟨rfl, k, ?_, ?_⟩
  · obtain ⟨lv2, m2, t, a1, a2, a3, a4, a5, a6, a7, a8, a9⟩ := j2.ex
    rw [hxs] at a5 a6
    exact ⟨lv2, m2, t, a1, a2, a3, a4, a5, a6, a7, hfr.trans' a8, a9⟩
  · have := k1.find (by omega) s
    rw [j1 lv' _ k1 rfl] at this
    exact this
def resA (s : List UInt8) (x : Fd) (bs : List Int) (dl1 : List Fd) : List Fd := setF s (x.b ++ bs) (if bs = [] then x.ws else x.ws ++ [(x.b.length : Int)]) dl1
set_option maxRecDepth 20000 in
set_option maxHeartbeats 8000000 in
theorem rappend_ok (h : MR w R G sy dl) (hdl : dl.length ≤ 64) (hl : (s.length : Int) ≤ 140737488351232) (hn : nameB s = true) {sv : Value} {bs : List Int} (hsv : SrcG w G sv bs) (hc : (lkF s dl = some x ∧ dl1 = dl) ∨ (lkF s dl = none ∧ dl.length < 64 ∧ x = ⟨s, [], []⟩ ∧ dl1 = insF ⟨s, [], []⟩ dl)) (hx : x.b.length ≤ 1048576) (hw : x.ws.length ≤ 1048576) (hfit : (bs.length : Int) ≤ 1048576 - x.b.length) :
    Calls Try.prog 47 #[.pointer (some ⟨R, 0, none⟩), .string (tx s), sv] w fun e w' => e = .returned (.int .i64 0) ∧ Hid (∃ G', MR w' R G' sy (resA s x bs dl1) ∧ Fr G G' w w') := by
  have HNM : Hid (Calls Try.prog 71 #[.string (tx s)] w fun e w' => e = .returned (.bool true) ∧ w' = w) := by
    have := rname_any s w hl
    rw [hn] at this
    exact this
  obtain ⟨sa, sc, hsl⟩ := hsv.now.slice
  have HB : Hid (x.b.length ≤ 1048576 ∧ x.ws.length ≤ 1048576 ∧ (bs.length : Int) ≤ 1048576 - x.b.length) := ⟨hx, hw, hfit⟩
  have HH : Hid (MR w R G sy dl ∧ SrcG w G sv bs ∧ dl.length ≤ 64) := ⟨h, hsv, hdl⟩
  -- the find, ahead
  have HFX : Hid (∃ z : Int, Calls Try.prog 76 #[.pointer (some ⟨R, 0, none⟩), .string (tx s)] w (fun e w' => e = .returned (.int .i64 z) ∧ w' = w) ∧ ((∃ k : Nat, z = (k : Int) ∧ AS w w G R sy s x dl1 sv bs k) ∨ (z = -1 ∧ lkF s dl = none ∧ dl.length < 64 ∧ x = ⟨s, [], []⟩ ∧ dl1 = insF ⟨s, [], []⟩ dl))) := by
    rcases hc with ⟨c1, rfl⟩ | ⟨c1, c2, c3, c4⟩
    · obtain ⟨k, j1, j2⟩ := AS.of h (by omega) c1 hsv
      refine ⟨(k : Int), ?_, .inl ⟨k, rfl, j2⟩⟩
      obtain ⟨lv, m, h1, rfl, hG⟩ := h
      have := h1.find (by rw [xsM_len] at hdl; omega) s
      rw [j1 lv m h1 rfl] at this
      exact this
    · refine ⟨-1, ?_, .inr ⟨rfl, c1, c2, c3, c4⟩⟩
      obtain ⟨lv, m, h1, rfl, hG⟩ := h
      have := h1.find (by rw [xsM_len] at hdl; omega) s
      rw [ixM_no c1] at this
      exact this
  obtain ⟨z, hF, hz⟩ := HFX.out
  have HF : Hid (Calls Try.prog 76 #[.pointer (some ⟨R, 0, none⟩), .string (tx s)] w (fun e w' => e = .returned (.int .i64 z) ∧ w' = w)) := hF
  have HZ : Hid ((∃ k : Nat, z = (k : Int) ∧ AS w w G R sy s x dl1 sv bs k) ∨ (z = -1 ∧ lkF s dl = none ∧ dl.length < 64 ∧ x = ⟨s, [], []⟩ ∧ dl1 = insF ⟨s, [], []⟩ dl)) := hz
  obtain ⟨L, hL⟩ : ∃ L, x.b.length = L := ⟨_, rfl⟩
  obtain ⟨N, hN⟩ : ∃ N, bs.length = N := ⟨_, rfl⟩
  have HLN : Hid (x.b.length = L ∧ bs.length = N) := ⟨hL, hN⟩
  rw [hL] at hx hfit
  rw [hN] at hsl hfit
  have hxl : (L : Int) ≤ 1048576 := by omega
  have hwr : IntKind.i64.wrap (1048576 - (L : Int)) = 1048576 - (L : Int) := by rw [IntKind.wrap_i64]; omega
  have hgt : ¬ 1048576 - (L : Int) < (N : Int) := by omega
  subst hsl
  clear h hdl hl hn hsv hc hx hw hF hz HFX hL hN
  go_enter Try.func47, Try.ntmps47
  go_upto_if 17 with (first | (go_at_call 71; refine HNM.out.mono ?_; rintro e w1 ⟨rfl, hw1⟩; rw [hw1]; clear hw1) | (go_at_call 76; refine HF.out.mono ?_; rintro e w1 ⟨rfl, hw1⟩; rw [hw1]; clear hw1))
  go_cut [8] from 8 to 8 (fun c wx => c = .int .i64 (L : Int) ∧ wx = w)
  case first =>
    rcases HZ.out with ⟨k, rfl, hAS⟩ | ⟨rfl, d1, d2, d3, d4⟩
    · obtain ⟨lv, m, t, a1, a2, a3, a4, -⟩ := hAS.ex
      obtain ⟨g, cap, rfl, q1, q2, q3, e0, e1, e2, e3, e4⟩ := a1.openK a2
      have hk0 : (0 : Int) ≤ (k : Int) := by omega
      have e1' : w.cell? ⟨g, k * 4 + 1, none⟩ = some (.slice t.da L t.dc) := by rw [e1, a3, HLN.out.1]
      clear hAS a1 a2 a3 a4 e0 e1 e2 e3 e4
      generalize m.length = n at *
      go_wp2_with fail
      go_meet
      exact ⟨rfl, rfl⟩
    · have hL0 : L = 0 := by rw [← HLN.out.1, d3]; rfl
      subst hL0
      clear d1 d2 d3 d4
      go_wp2_with fail
      go_meet
      exact ⟨rfl, rfl⟩
  obtain ⟨rfl, hwc⟩ := hcut
  rw [hwc]
  clear hwc
  go_upto_if 33 with (fail)
  go_cut [7] from 7 to 7 (fun c wx => ∃ k : Nat, c = .int .i64 (k : Int) ∧ Hid (AS w wx G R sy s x dl1 (.slice sa N sc) bs k))
  case first =>
    rcases HZ.out with ⟨k, rfl, hAS⟩ | ⟨rfl, d1, d2, d3, d4⟩
    · have hk0 : ¬ (k : Int) < 0 := by omega
      have HA : Hid (AS w w G R sy s x dl1 (.slice sa N sc) bs k) := hAS
      clear hAS
      go_wp2_with fail
      go_meet
      exact ⟨k, rfl, HA.out⟩
    · have HP := rput_new HH.out.1 HH.out.2.2 d1 HH.out.2.1
      rw [← d4, ← d3] at HP
      have HPP : Hid (Calls Try.prog 77 #[.pointer (some ⟨R, 0, none⟩), .agg #[.string (tx s), .slice none 0 0, .int .i64 0, .slice none 0 0]] w fun e w' => e = .returned (.tuple #[]) ∧ ∃ k, Hid (AS w w' G R sy s x dl1 (.slice sa N sc) bs k) ∧ Calls Try.prog 76 #[.pointer (some ⟨R, 0, none⟩), .string (tx s)] w' fun e w2 => e = .returned (.int .i64 (k : Int)) ∧ w2 = w') := HP
      obtain ⟨lv, m, h1, hxm, hG⟩ := HH.out.1
      obtain ⟨ga, cap, hlv⟩ := own_slice h1.row
      have c0 := h1.cells.1
      rw [hlv] at c0
      have hm64 : ¬ (64 : Int) ≤ (m.length : Int) := by have := xsM_len m; rw [hxm] at this; omega
      generalize m.length = n at *
      clear HP h1 hxm hG hlv d1 d2 d3 d4
      go_wp2_with (first | (go_at_call 77; refine HPP.out.mono ?_; rintro e w1 ⟨rfl, k, HA, hfi⟩; (have HFI : Hid (Calls Try.prog 76 #[.pointer (some ⟨R, 0, none⟩), .string (tx s)] w1 fun e w2 => e = .returned (.int .i64 (k : Int)) ∧ w2 = w1) := hfi); clear hfi) | (go_at_call 76; refine HFI.out.mono ?_; rintro e w2 ⟨rfl, hw2⟩; rw [hw2]; clear hw2))
      go_meet
      exact ⟨k, rfl, HA.out⟩
  obtain ⟨k, rfl, HA⟩ := hcut
  obtain ⟨w1, hw1⟩ : ∃ w1, wc = w1 := ⟨_, rfl⟩
  rw [hw1] at HA ⊢
  clear hw1 HZ HF HNM hwr hgt
  by_cases hN0 : N = 0
  · have hbs : bs = [] := List.eq_nil_of_length_eq_zero (by rw [HLN.out.2]; exact hN0)
    have HR : Hid (∃ G', MR w1 R G' sy (resA s x bs dl1) ∧ Fr G G' w w1) := by
      obtain ⟨lv, m, t, a1, a2, rfl, a4, a5, a6, a7, a8, a9⟩ := HA.out.ex
      unfold resA
      rw [hbs, if_pos rfl, List.append_nil, a6 t t.x.b t.x.ws (by rw [← a4])]
      have e : m.set k t = m := by
        apply List.ext_getElem?
        intro j
        by_cases c : j = k
        · subst c
          rw [List.getElem?_set_self (List.getElem?_eq_some_iff.1 a2).1, a2]
        · rw [List.getElem?_set_ne (fun e => c e.symm)]
      rw [e]
      exact ⟨_, a1.mr, a8⟩
    subst hN0
    clear hbs
    go_wp2_with fail
    go_ret
    exact ⟨rfl, HR.out⟩
  · have hNp : (0 : Int) < (N : Int) := by omega
    have HNE : Hid (¬ bs = [] ∧ 0 < N) := ⟨fun e => hN0 (by rw [← HLN.out.2, e]; rfl), by omega⟩
    obtain ⟨lv, m, t, a1, a2, a3, a4, a5, a6, a7, a8, a9⟩ := HA.out.ex
    subst a3
    have HM : Hid (MS w1 R lv m sy ∧ m[k]? = some t ∧ (∀ t' b' ws', t'.x = ⟨s, b', ws'⟩ → setF s b' ws' dl1 = xsM (m.set k t')) ∧ t.x.nm = s ∧ Fr G (GM R lv m) w w1 ∧ SrcG w1 (GM R lv m) (.slice sa N sc) bs) := ⟨a1, a2, a6, a4, a8, a7⟩
    obtain ⟨g, cap, hlv, q1, q2, q3, e0, e1, e2, e3, e4⟩ := a1.openK a2
    have hml := a1.ml t (List.mem_of_getElem? a2)
    have HML : Hid (ML w1 t) := hml
    rw [HLN.out.1] at e1
    obtain ⟨W, hW⟩ : ∃ W, w1.alloc (.cells #[.string (tx t.x.nm), .slice t.da L t.dc, .int .i64 (safeN t.x.b t.x.ws), .slice t.ba t.x.ws.length t.bc] 121) = W := ⟨_, rfl⟩
    have HBX : Hid (BX w1 W w1.heap.size t) := by
      rw [← hW, ← HLN.out.1]
      exact BX.made w1 t
    obtain ⟨b0, b1, b2, b3, -⟩ := HBX.out.cells
    rw [HLN.out.1] at b1
    obtain ⟨M, hM⟩ : ∃ M, t.x.ws.length = M := ⟨_, rfl⟩
    have HMM : Hid (t.x.ws.length = M) := hM
    rw [hM] at e3 b3 hW
    obtain ⟨sf, hsf⟩ : ∃ sf, safeN t.x.b t.x.ws = sf := ⟨_, rfl⟩
    have HSF : Hid (safeN t.x.b t.x.ws = sf) := hsf
    rw [hsf] at e2 b2 hW
    rw [a4] at e0 b0 hW
    generalize m.length = nm at *
    clear a1 a2 a4 a5 a6 a7 a8 a9 hml hM hsf e4 HA hN0
    go_upto_region 16 with (fail)
    have HKP : Hid (∀ (V : World) (q : Nat), W.heap.size ≤ V.heap.size → q < w1.heap.size → q < V.heap.size) := fun V q h1 h2 => by have := HBX.out.be.size; omega
    obtain ⟨i0, hi, hz0, hz1, hz2⟩ := info_parts info3
    have HOWN : Hid (W.ownsRow 0 3 1 (.slice t.ba M t.bc) M (t.x.ws.map iV) ∧ W.ownsRow 0 5 1 (.slice t.da L t.dc) L (u8l t.x.b)) := by
      have h1 := HML.out.at' (w' := W) fun q hq => HBX.out.be.block q (HML.out.lt q hq)
      refine ⟨?_, ?_⟩
      · have := h1.rw
        unfold Mt.bv at this
        rw [HMM.out] at this
        exact this
      · have := h1.rd
        unfold Mt.dv at this
        rw [HLN.out.1] at this
        exact this
    have hpl : w1.heap.size < W.heap.size := (Array.getElem?_eq_some_iff.1 HBX.out.bx).1
    obtain ⟨p, hp⟩ : ∃ p, w1.heap.size = p := ⟨_, rfl⟩
    have HPP : Hid (w1.heap.size = p ∧ p < W.heap.size) := ⟨hp, by rw [← hp]; exact hpl⟩
    have HBX2 : Hid (W.heap[p]? = some (.cells (mt4 t).toArray 121 (0, 0))) := by rw [← hp]; exact HBX.out.bx
    rw [hp] at b0 b1 b2 b3 ⊢
    clear hW q3 e0 e1 e2 e3 hpl hp
    go_upto_region 17 with (at_builtin; (refine wpList_append_lies _ rfl (.tmp 58) (.tmp 62) 36 rfl 0 3 i0 (.int .i64 0) 1 8 Try.underlying36 hi hz0 hz1 hz2 rfl (by decide) (.slice t.ba M t.bc) M (t.x.ws.map iV) rfl (HOWN.out.1.alloc _) ⟨W.heap.size, 0, none⟩ 1 1 [.int .i64 (L : Int)] rfl rfl (World.news_of_block (Go.heap_alloc_new _ _)) (by intro u hu; simp at hu; rw [hu]; rfl) (by decide) (by have := HB.out; have := HMM.out; unfold maxLen; omega) (by have := HB.out; have := HMM.out; omega) (Nat.zero_le _) (W.heap.size + 1) (by simp) ?_; intro g' cp' w3 ho3 hg3 hx3 _; (have HX3 : Hid (w3.heap[p]? = some (.cells (mt4 t).toArray 121 (0, 0))) := (hg3.block p (by have := HPP.out.2; simp; omega) (own_other HOWN.out.1 HBX2.out (by decide))).trans ((Below.heap_alloc _ _ _ HPP.out.2).trans HBX2.out)); (have d3 : w3.cell? ⟨p, 3, none⟩ = some (.slice t.ba M t.bc) := (by rw [cell_of_row _ _ _ _ _ _ HX3.out, ← HMM.out]; rfl)); (have f3 := frozen_of_row _ _ 3 _ _ HX3.out); (have HO3 : Hid (w3.ownsRow 0 3 1 (.slice (some ⟨g', 0, none⟩) (M + 1) cp') (M + 1) (t.x.ws.map iV ++ [.int .i64 (L : Int)]) ∧ ((Value.slice t.ba M t.bc).ownBlock = some g' ∨ g' = W.heap.size + 1)) := ⟨ho3, hx3⟩); (have HK3 : Hid (W.heap.size ≤ w3.heap.size ∧ (∀ q, q < W.heap.size → (Value.slice t.ba M t.bc).ownBlock ≠ some q → w3.heap[q]? = W.heap[q]?) ∧ w3.os = W.os ∧ w3.tape = W.tape ∧ w3.output = W.output) := ⟨(by have h := hg3.size; simp at h; omega), fun q h1 h2 => (hg3.block q (by simp; omega) (fun e => h2 e.symm)).trans (Below.heap_alloc _ _ _ h1), hg3.os, hg3.tape, hg3.output⟩); clear ho3 hg3 hx3))
    obtain ⟨W4, hW4⟩ : ∃ W4, w3.setCell ⟨p, 3, none⟩ (.slice (some ⟨g', 0, none⟩) (M + 1) cp') = W4 := ⟨_, rfl⟩
    have HX4 : Hid (W4.heap[p]? = some (.cells #[.string (tx t.x.nm), .slice t.da L t.dc, .int .i64 sf, .slice (some ⟨g', 0, none⟩) (M + 1) cp'] 121 (0, 0))) := by
      show _ = _
      rw [← hW4, row_set _ HX3.out, ← HLN.out.1, ← HSF.out]
      rfl
    have HK4 : Hid (∀ q, q ≠ p → W4.heap[q]? = w3.heap[q]?) := fun q hq => by rw [← hW4]; exact Below.heap_setCell _ _ _ _ hq
    have HZ4 : Hid (W4.heap.size = w3.heap.size ∧ W4.os = w3.os ∧ W4.tape = w3.tape ∧ W4.output = w3.output) := by rw [← hW4]; exact ⟨by simp, rfl, rfl, rfl⟩
    have HD4 : Hid (W4.ownsRow 0 5 1 (.slice t.da L t.dc) L (u8l t.x.b)) := own_at HOWN.out.2 fun q hq => by
      obtain ⟨cur, hc⟩ := own_tag HOWN.out.2 hq
      rw [HK4.out q (ne_tag hc HBX2.out (by decide))]
      refine HK3.out.2.1 q (Array.getElem?_eq_some_iff.1 hc).1 fun e => ?_
      obtain ⟨cur', hc'⟩ := own_tag HOWN.out.1 e
      exact ne_tag hc hc' (by decide) rfl
    have HS4 : Hid (Src W4 (.slice sa N sc) bs) := by
      refine HM.out.2.2.2.2.2 W4 fun q hq hn => ?_
      have hqp : q ≠ p := by have := HPP.out.1; omega
      rw [HK4.out q hqp, HK3.out.2.1 q (by have := HBX.out.be.size; omega) fun e => hn (.inr (.inr ⟨t, List.mem_of_getElem? HM.out.2.1, .inr (by unfold Mt.bv; rw [HMM.out]; exact e)⟩))]
      exact HBX.out.be.block q hq
    rw [hW4]
    have x1 : W4.cell? ⟨p, 1, none⟩ = some (.slice t.da L t.dc) := by rw [cell_of_row _ _ _ _ _ _ HX4.out]; rfl
    clear hW4 d3 f3 b0 b1 b2 b3
    go_upto_region 18 with (at_builtin; (refine append_src_near rfl (.tmp 66) (.tmp 67) rfl 0 (.slice t.da L t.dc) L (u8l t.x.b) rfl HD4.out (.slice sa N sc) bs rfl HS4.out (by have h2 := HLN.out; have := HNE.out; omega) (by have := HB.out; have h2 := HLN.out; omega) (Nat.zero_le _) ?_; intro v5 w5 ho5 hg5 hn5; (have HND : Hid (∀ q, v5.ownBlock = some q → (Value.slice t.da L t.dc).ownBlock = some q ∨ W4.heap.size ≤ q) := hn5); (obtain ⟨xa, xc, hv5⟩ := own_slice ho5); subst hv5; (have HX5 : Hid (w5.heap[p]? = some (.cells #[.string (tx t.x.nm), .slice t.da L t.dc, .int .i64 sf, .slice (some ⟨g', 0, none⟩) (M + 1) cp'] 121 (0, 0))) := (hg5.block p (by have h2 := HPP.out.2; have h3 := HK3.out.1; have h4 := HZ4.out.1; omega) (own_other HD4.out HX4.out (by decide))).trans HX4.out); (have d5 : w5.cell? ⟨p, 1, none⟩ = some (.slice t.da L t.dc) := (by rw [cell_of_row _ _ _ _ _ _ HX5.out]; rfl)); (have f5 := frozen_of_row _ _ 1 _ _ HX5.out); (have HO5 : Hid (w5.ownsRow 0 5 1 (.slice xa (L + bs.length) xc) (L + bs.length) (u8l t.x.b ++ u8l bs)) := ho5); (have HG5 : Hid (W4.grownBy w5 (Value.slice t.da L t.dc).ownBlock) := hg5); clear ho5 hg5 hn5))
    obtain ⟨W6, hW6⟩ : ∃ W6, w5.setCell ⟨p, 1, none⟩ (.slice xa (L + bs.length) xc) = W6 := ⟨_, rfl⟩
    have HX6 : Hid (W6.heap[p]? = some (.cells #[.string (tx t.x.nm), .slice xa (L + bs.length) xc, .int .i64 sf, .slice (some ⟨g', 0, none⟩) (M + 1) cp'] 121 (0, 0))) := by
      show _ = _
      rw [← hW6, row_set _ HX5.out]
      rfl
    have HK6 : Hid (∀ q, q ≠ p → W6.heap[q]? = w5.heap[q]?) := fun q hq => by rw [← hW6]; exact Below.heap_setCell _ _ _ _ hq
    have HZ6 : Hid (W6.heap.size = w5.heap.size ∧ W6.os = w5.os ∧ W6.tape = w5.tape ∧ W6.output = w5.output) := by rw [← hW6]; exact ⟨by simp, rfl, rfl, rfl⟩
    have hd6 : W6.ownsRow 0 5 1 (.slice xa (L + bs.length) xc) (L + bs.length) (u8l t.x.b ++ u8l bs) := own_at HO5.out fun q hq => by
      obtain ⟨cur, hc⟩ := own_tag HO5.out hq
      exact HK6.out q (ne_tag hc HX5.out (by decide))
    have hb4 : W4.ownsRow 0 3 1 (.slice (some ⟨g', 0, none⟩) (M + 1) cp') (M + 1) (t.x.ws.map iV ++ [.int .i64 (L : Int)]) := own_at HO3.out.1 fun q hq => by
      obtain ⟨cur, hc⟩ := own_tag HO3.out.1 hq
      exact HK4.out q (ne_tag hc HX3.out (by decide))
    have hb6 : W6.ownsRow 0 3 1 (.slice (some ⟨g', 0, none⟩) (M + 1) cp') (M + 1) (t.x.ws.map iV ++ [.int .i64 (L : Int)]) := own_at hb4 fun q hq => by
      obtain ⟨cur, hc⟩ := own_tag hb4 hq
      have h5 := HG5.out.block q (Array.getElem?_eq_some_iff.1 hc).1 (own_other HD4.out hc (by decide))
      rw [HK6.out q (ne_tag (h5.trans hc) HX5.out (by decide)), h5]
    have z1 := HBX.out.be.size
    have z3 := HK3.out.1
    have z4 := HZ4.out.1
    have z5 := HG5.out.size
    have z6 := HZ6.out.1
    have hpp := HPP.out
    have hdn := AS.done (bs := bs) (V := W6) (da := xa) (dc := xc) (ba := some ⟨g', 0, none⟩) (bc := cp') HM.out.1 HM.out.2.1 HM.out.2.2.1 HM.out.2.2.2.1 HM.out.2.2.2.2.1 (by rw [HLN.out.1]; exact hd6) (by rw [HLN.out.1, HMM.out]; exact hb6) (by
      rw [HLN.out.1]
      intro q hq
      rcases HND.out q hq with e | e
      · exact .inl (by unfold Mt.dv; rw [HLN.out.1]; exact e)
      · exact .inr (by omega)) (by
      rw [HMM.out]
      intro q hq
      have e : g' = q := by simpa [Value.ownBlock] using hq
      rcases HO3.out.2 with h | h
      · exact .inl (by unfold Mt.bv; rw [HMM.out]; exact e ▸ h)
      · exact .inr (by omega)) (fun q hq hn => by
      have hqp : q ≠ p := by omega
      have n1 : (Value.slice t.da L t.dc).ownBlock ≠ some q := fun e => hn (.inl (by unfold Mt.dv; rw [HLN.out.1]; exact e))
      have n2 : (Value.slice t.ba M t.bc).ownBlock ≠ some q := fun e => hn (.inr (by unfold Mt.bv; rw [HMM.out]; exact e))
      rw [HK6.out q hqp, HG5.out.block q (by omega) (fun e => n1 e.symm), HK4.out q hqp, HK3.out.2.1 q (by omega) n2]
      exact HBX.out.be.block q hq) ⟨HZ6.out.2.1.trans (HG5.out.os.trans (HZ4.out.2.1.trans (HK3.out.2.2.1.trans HBX.out.be.os))), HZ6.out.2.2.1.trans (HG5.out.tape.trans (HZ4.out.2.2.1.trans (HK3.out.2.2.2.1.trans HBX.out.be.tape))), HZ6.out.2.2.2.trans (HG5.out.output.trans (HZ4.out.2.2.2.trans (HK3.out.2.2.2.2.trans HBX.out.be.output))), by omega⟩
    rw [HLN.out.1, HMM.out, HSF.out, HM.out.2.2.2.1] at hdn
    obtain ⟨g2, cap2, hlv2, r0, ⟨r1, r2, r3, r4, r5⟩, HDX⟩ := hdn
    have HD : Hid (∀ d, ∃ G', MR ((W6.setCells g2 (k * 4) [.string (tx s), .slice xa (L + bs.length) xc, .int .i64 sf, .slice (some ⟨g', 0, none⟩) (M + 1) cp']).drewN d) R G' sy (resA s t.x bs dl1) ∧ Fr G G' w ((W6.setCells g2 (k * 4) [.string (tx s), .slice xa (L + bs.length) xc, .int .i64 sf, .slice (some ⟨g', 0, none⟩) (M + 1) cp']).drewN d)) := fun d => by
      unfold resA
      rw [if_neg HNE.out.1, HLN.out.1]
      exact HDX d
    have hmk : (k : Int) < (m.length : Int) := by have := (List.getElem?_eq_some_iff.1 HM.out.2.1).1; omega
    have hcp2 : (m.length : Int) ≤ (cap2 : Int) := by
      have h1 := HM.out.1.row
      rw [hlv2] at h1
      have := own_cap h1
      omega
    have f0 := r5 (k * 4)
    have f1 := r5 (k * 4 + 1)
    have f2 := r5 (k * 4 + 2)
    have f3 := r5 (k * 4 + 3)
    have y0 : W6.cell? ⟨p, 0, none⟩ = some (.string (tx s)) := by rw [cell_of_row _ _ _ _ _ _ HX6.out, HM.out.2.2.2.1]; rfl
    have y1 : W6.cell? ⟨p, 1, none⟩ = some (.slice xa (L + bs.length) xc) := by rw [cell_of_row _ _ _ _ _ _ HX6.out]; rfl
    have y2 : W6.cell? ⟨p, 2, none⟩ = some (.int .i64 sf) := by rw [cell_of_row _ _ _ _ _ _ HX6.out]; rfl
    have y3 : W6.cell? ⟨p, 3, none⟩ = some (.slice (some ⟨g', 0, none⟩) (M + 1) cp') := by rw [cell_of_row _ _ _ _ _ _ HX6.out]; rfl
    obtain ⟨LB, hLB⟩ : ∃ LB, L + bs.length = LB := ⟨_, rfl⟩
    have hLBi : (L : Int) + (bs.length : Int) = (LB : Int) := by omega
    rw [hLB] at HD y1 hW6
    try rw [hLB]
    rw [hW6]
    generalize m.length = n at *
    clear hW6 hd6 hb4 hb6 z1 z3 z4 z5 z6 hpp hlv2 HDX x1 d5 f5 r5 hlv hLB hLBi
    go_region
    all_goals
      go_wp2_with fail
      go_ret
      exact ⟨rfl, HD.out 1⟩
end Go.Proofs.Ytflhgphjkhplmaa.D
