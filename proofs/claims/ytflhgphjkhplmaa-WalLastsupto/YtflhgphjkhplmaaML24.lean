import Derived.Test.YtflhgphjkhplmaaML23
import Derived.Deep.CutBlock
/- The law of what lasts. -/
namespace Go.Proofs.Ytflhgphjkhplmaa.D
open Go Go.RowKit W R Go.Shelf
set_option linter.unusedVariables false
set_option linter.unusedSimpArgs false
attribute [local go_sem] Oper.semAt_some

variable {w w' w0 : World} {p D R L B k k' : Nat} {Y Y' : Nat → Prop}
/-- The list of all, as it lies: its rows came in, its block is no log's. -/
structure AL (w0 : World) (Y : Nat → Prop) (v : Value) (ts : List (Value × List Int)) (w : World) : Prop where
  row : w.ownsRow w0.heap.size 23 1 v ts.length (ts.map Prod.fst)
  sv : ∀ t ∈ ts, SV w0 t.1 t.2
  off : ∀ q, v.ownBlock = some q → ¬ Y q
theorem AL.fr {v : Value} {ts : List (Value × List Int)} (h : AL w0 Y v ts w) (hf : Fr Y Y' w w') : AL w0 Y' v ts w' :=
  ⟨own_at h.row fun q hq => hf.block q (h.row.lt q hq).2 (h.off q hq), h.sv, fun q hq e => (hf.grow q e).elim (h.off q hq) fun e => by have := (h.row.lt q hq).2; have e' : w.heap.size ≤ q := e; omega⟩
theorem AL.same {v : Value} {ts : List (Value × List Int)} (h : AL w0 Y v ts w) (hk : ∀ q, v.ownBlock = some q → w'.heap[q]? = w.heap[q]?) : AL w0 Y v ts w' := ⟨own_at h.row hk, h.sv, h.off⟩
theorem lput {s : Ps} {lv : Value} {ls : List (Value × List Int)} (h : PZ w0 p D R L B k Y s w) (hl : LV w0 lv ls) (hk : k ≤ 500000) (hs : s.at' ≤ 1000 ∧ s.l.length ≤ 1000) : Calls Try.prog 18 #[.pointer (some ⟨p, 0, none⟩), lv] w fun e w' => ∃ a ts c, e = .returned (.slice a (ts : List (Value × List Int)).length c) ∧ ∃ Y', Hid (PZ w0 p D R L B (k + 40) Y' (putP s ((ls.map Prod.snd).take 20)).1 w' ∧ Fr Y Y' w w' ∧ AL w0 Y' (.slice a ts.length c) ts w' ∧ ts.map Prod.snd = (putP s ((ls.map Prod.snd).take 20)).2 ∧ ts.length ≤ 20) := by
  refine (pput_any h hl hk hs).mono ?_
  rintro e w' ⟨a, ts, c, rfl, H⟩
  obtain ⟨⟨Y', h1, h2, h3⟩, h4, h5, h6, h7⟩ := H.out
  have e : (ls.map Prod.snd).take (nN ls.length) = (ls.map Prod.snd).take 20 := by
    unfold nN
    by_cases hc : ls.length ≤ 20
    · rw [Nat.min_eq_left hc, List.take_of_length_le (by simp), List.take_of_length_le (by simpa using hc)]
    · rw [Nat.min_eq_right (by omega)]
  have hn : nN ls.length ≤ 20 := Nat.min_le_right _ _
  rw [e] at h1 h5
  exact ⟨a, ts, c, rfl, Y', ⟨h1.px.upto (by omega), h1.fr⟩, h2, ⟨own_low h4 h.fr.size, fun t ht => hl.each t (h6 t ht), h3⟩, h5, by omega⟩
/-- One list behind another. -/
theorem AL.app {v v' : Value} {ts us : List (Value × List Int)} {s : Ps} (h : AL w0 Y v ts w) (hz : PZ w0 p D R L B k Y s w) (hu : ∀ t ∈ us, SV w0 t.1 t.2) (ho : w'.ownsRow w0.heap.size 23 1 v' (ts.length + us.length) (ts.map Prod.fst ++ us.map Prod.fst)) (hg : w.grownBy w' v.ownBlock) (hn : ∀ q, v'.ownBlock = some q → v.ownBlock = some q ∨ w.heap.size ≤ q) : PZ w0 p D R L B k Y s w' ∧ AL w0 Y v' (ts ++ us) w' := by
  have hk : ∀ q, Y q → w'.heap[q]? = w.heap[q]? := fun q hq => hg.block q (hz.px.lt q hq) fun e => h.off q e.symm hq
  refine ⟨⟨hz.px.at' hk, ?_⟩, ⟨by rw [List.length_append, List.map_append]; exact ho, fun t ht => ?_, fun q hq e => ?_⟩⟩
  · have hf := hz.fr
    exact ⟨hg.os.trans hf.os, hg.tape.trans hf.tape, hg.output.trans hf.output, Nat.le_trans hf.size hg.size, fun q hq hn => (hg.block q (Nat.lt_of_lt_of_le hq hf.size) fun e => by have := (h.row.lt q e.symm).1; omega).trans (hf.block q hq hn), hf.grow⟩
  · rcases List.mem_append.1 ht with ht | ht
    · exact h.sv t ht
    · exact hu t ht
  · rcases hn q hq with e' | e'
    · exact h.off q e' e
    · have := hz.px.lt q e; omega
theorem nums_own {base K c : Nat} {a : Option Addr} {zs : List Int} (h : w.ownsRow base 3 1 (.slice a zs.length c) zs.length (zs.map iV)) : NumsP (fun q => (Value.slice a zs.length c).ownBlock = some q) w (.slice a zs.length c) zs := by
  refine ⟨a, c, rfl, ?_, fun i x hi => ?_⟩
  · rcases h.2 with ⟨h1, h2⟩ | ⟨g, cap, cur, h1, -, -, h4, -⟩
    · omega
    · injection h1 with e1 e2 e3
      omega
  · have hlt : i < zs.length := (List.getElem?_eq_some_iff.1 hi).1
    obtain ⟨g, cap, hv⟩ := own_form h (by omega)
    have ha : a = some ⟨g, 0, none⟩ := by cases hv; rfl
    subst ha
    refine ⟨g, 0, rfl, rfl, ?_⟩
    rw [Nat.zero_add, h.cellAt i (by omega), List.getElem?_map, hi]
    rfl
theorem rr_in {zs : List Int} {num : Nat} {q : Nat × List Int} (h : q ∈ rrL zs num) : ∃ x ∈ goodI zs, q = (x.1, x.2.1) := by
  unfold rrL bhL at h
  split at h
  · simp at h
  · split at h
    · simp at h
    · obtain ⟨x, hx, e⟩ := List.mem_map.1 (List.mem_of_mem_drop h)
      exact ⟨x, hx, e.symm⟩
theorem rr_byt {zs : List Int} {num : Nat} (hz : Byt zs) : ∀ q ∈ rrL zs num, q.2.length ≤ 1048576 ∧ Byt q.2 := fun q hq => by
  obtain ⟨x, hm, rfl⟩ := rr_in hq
  obtain ⟨p, hp⟩ := gd_all zs _ _ _ _ hm
  obtain ⟨n, r, e⟩ := x
  obtain ⟨f1, f2, f3, f4, f5, f6, f7⟩ := fatI_some hp
  refine ⟨by show r.length ≤ _; omega, fun c hc => ?_⟩
  have h1 : c ∈ frI n r := by unfold frI hdI; simp [hc]
  have h2 : c ∈ (zs.drop p).take (frI n r).length := by rw [f5]; exact h1
  exact hz c (List.mem_of_mem_drop (List.mem_of_mem_take h2))
theorem rr_len {zs : List Int} {num : Nat} : (rrL zs num).length ≤ zs.length := by
  have h := good_len zs
  unfold rrL bhL
  split
  · simp
  · split
    · simp
    · simp
      omega
/-- What the last loop keeps: the program's disk, the pair, the list of all. -/
structure LQ (w : World) (p D k : Nat) (dl : List Fd) (v : Value) (ts : List (Value × List Int)) (W : World) : Prop where
  ex : ∃ F sy, (DR W D F sy dl ∧ Inv k sy dl) ∧ (∀ q, F q → w.heap.size ≤ q) ∧ ¬ F p ∧ AL w (fun q => F q ∨ q = p) v ts W
  row : ∃ R lv rv, W.heap[p]? = some (.cells (pC D R lv rv) 47 (0, 0))
  below : Below w.heap.size w W
theorem LQ.start {dl dl' : List Fd} {g : Lg} {m : Mg} {v : Value} {ts : List (Value × List Int)} (h : PX w' p D R L B k Y dl dl' g m) (hf : Fr (fun _ => False) Y w w') (ha : AL w Y v ts w') : LQ w p D k dl v ts w' := by
  obtain ⟨F, P, G, Q, sy, sy', h1, h2, h3, h4, h5⟩ := h
  refine ⟨⟨F, sy, ⟨h1.dr, h1.inv⟩, fun q hq => (hf.grow q ((h5 q).2 (.inl (.inl hq)))).elim (fun e => e.elim) id, fun e => h4.2.1 (.inl e), ⟨ha.row, ha.sv, fun q hq e => ha.off q hq ((h5 q).2 ?_)⟩⟩, ⟨R, _, _, h4.1⟩, ⟨hf.os, hf.tape, hf.output, hf.size, fun q hq => hf.block q hq fun e => e⟩⟩
  rcases e with e | e
  · exact .inl (.inl e)
  · exact .inr (.inr e)
theorem LQ.newer {dl : List Fd} {v : Value} {ts : List (Value × List Int)} {W W' : World} (h : LQ w p D k dl v ts W) (hb : Below W.heap.size W W') : LQ w p D k dl v ts W' := by
  obtain ⟨⟨F, sy, ⟨h1, h2⟩, h3, h4, h5⟩, ⟨R, lv, rv, h6⟩, h7⟩ := h
  exact ⟨⟨F, sy, ⟨h1.newer hb, h2⟩, h3, h4, h5.same fun q hq => hb.block q (h5.row.lt q hq).2⟩, ⟨R, lv, rv, (hb.block p (Array.getElem?_eq_some_iff.1 h6).1).trans h6⟩, h7.trans (hb.mono h7.size)⟩
/-- Opened again: what is told. -/
theorem again_any {s : Ps} {v : Value} {ts : List (Value × List Int)} (h : LQ w p D k s.dl v ts w') (hc : s.okC) (hs : s.op.dl = s.dl) (hk : k ≤ 1000000) : Calls Try.prog 25 #[.pointer (some ⟨D, 0, none⟩), .string { data := #[97] }] w' fun e w1 => ∃ L, e = .returned (.tuple #[.pointer (some ⟨L, 0, none⟩), .int .i64 0]) ∧ Hid (LQ w p D (k + 2) s.dl v ts w1 ∧ ∃ P, LG w1 L D ⟨s.at', s.b, rrL s.z s.at', s.z.length - takenL s.z s.at'⟩ P) := by
  obtain ⟨⟨F, sy, ⟨h1, h2⟩, h3, h4, h5⟩, ⟨R, lv, rv, h6⟩, h7⟩ := h
  obtain ⟨b1, b2⟩ := rb_both s hc
  obtain ⟨o1, o2, o3, o4⟩ := op_both s hc
  refine (open_any h1 h2 hk).mono ?_
  rintro e w1 ⟨-, h⟩
  obtain ⟨L, F', P', rfl, a1, a2⟩ := h b1
  rw [o2, hs, o4] at a1
  have hp := (Array.getElem?_eq_some_iff.1 h6).1
  have hF : ∀ q, F' q → F q ∨ w'.heap.size ≤ q := fun q hq => a2.grow q (.inl hq)
  have hsz := h7.size
  refine ⟨L, rfl, ⟨⟨F', sy, ⟨a1.dr, a1.inv⟩, fun q hq => (hF q hq).elim (h3 q) fun e => Nat.le_trans hsz e, fun e => (hF p e).elim h4 fun e => by omega, ⟨own_at h5.row fun q hq => a2.block q (h5.row.lt q hq).2 fun e => h5.off q hq (.inl e), h5.sv, fun q hq e => ?_⟩⟩, ⟨R, lv, rv, (a2.block p hp h4).trans h6⟩, ?_⟩, P', a1.lg⟩
  · rcases e with e | e
    · rcases hF q e with e' | e'
      · exact h5.off q hq (.inl e')
      · have := (h5.row.lt q hq).2; omega
    · exact h5.off q hq (.inr e)
  · exact ⟨a2.os.trans h7.os, a2.tape.trans h7.tape, a2.output.trans h7.output, Nat.le_trans hsz a2.size, fun q hq => (a2.block q (by omega) fun e => by have := h3 q e; omega).trans (h7.block q hq)⟩
theorem sy00 : Sy s00 0 := ⟨s00_op.2.2, Nat.zero_le _, (fun b hb => absurd hb (by simp [s00])), fun _ => rfl, fun p hp => by cases hp⟩
set_option maxRecDepth 100000 in
set_option maxHeartbeats 4000000 in
theorem lasts_law {sv bv mv ov nv : Value} {ss ms os : List (Value × List Int)} {bb ns : List Int} (hS : LV w sv ss) (hB : SV w bv bb) (hM : LV w mv ms) (hO : LV w ov os) (hN : NV w nv ns) : Calls Try.prog 4 #[sv, bv, mv, ov, nv] w fun e w' => e = .returned (.bool true) ∧ Below w.heap.size w w' := by
  have HIN : Hid (LV w sv ss ∧ SV w bv bb ∧ LV w mv ms ∧ LV w ov os ∧ NV w nv ns) := ⟨hS, hB, hM, hO, hN⟩
  have HDN : Hid (Calls Try.prog 16 #[] w fun e w' => ∃ D, e = .returned (.pointer (some ⟨D, 0, none⟩)) ∧ Hid (DR w' D (fun q => q = D) 0 [] ∧ w.heap.size ≤ D ∧ Below w.heap.size w w')) := (disk_new w).mono fun e w' ⟨D, h1, h2⟩ => ⟨D, h1, h2⟩
  clear hS hB hM hO hN
  go_enter Try.func4, Try.ntmps4
  go_upto_region 2 with (go_at_call 16; refine HDN.out.mono ?_; rintro e w1 ⟨D, rfl, H1⟩)
  clear HDN
  obtain ⟨R, hR⟩ : ∃ R, w1.heap.size = R := ⟨_, rfl⟩
  obtain ⟨p, hp⟩ : ∃ p, w1.heap.size + 1 = p := ⟨_, rfl⟩
  obtain ⟨W2, hW2⟩ : ∃ W2, (w1.alloc (.cells #[.slice none 0 0, .int .i64 0] 43)).alloc (.cells #[.pointer (some ⟨D, 0, none⟩), .pointer (some ⟨w1.heap.size, 0, none⟩), .pointer none, .pointer none] 47) = W2 := ⟨_, rfl⟩
  have H2 : Hid (PD W2 p D R 0 (fun q => q = D ∨ q = R ∨ q = p) s00.dl (.pointer none) (.pointer none) ∧ Fr (fun _ => False) (fun q => q = D ∨ q = R ∨ q = p) w W2) := by
    have h := pd_new H1.out.1
    rw [hW2, hR, show R + 1 = p by omega] at h
    have hb : Below w1.heap.size w1 W2 := by rw [← hW2]; exact (bel1 _ _).alloc (by simp) _
    have hb0 := H1.out.2.2.trans (hb.mono H1.out.2.2.size)
    refine ⟨h, ⟨hb0.os, hb0.tape, hb0.output, hb0.size, fun q hq _ => hb0.block q hq, fun q hq => .inr ?_⟩⟩
    have hz := H1.out.2.2.size
    rcases hq with e | e | e
    · rw [e]; exact H1.out.2.1
    · show w.heap.size ≤ q; omega
    · show w.heap.size ≤ q; omega
  rw [hW2, hp]
  clear hR hp hW2 H1
  have c0 : W2.cell? ⟨p, 0, none⟩ = some (.pointer (some ⟨D, 0, none⟩)) := H2.out.1.pe.cells.1
  have HOP : Hid (Calls Try.prog 17 #[.pointer (some ⟨p, 0, none⟩), .string { data := #[97] }] W2 fun e w' => e = .returned (.bool true) ∧ ∃ L B Y', Hid (PZ w p D R L B 2 Y' s00 w')) := by
    refine (popen_any H2.out.1 s00_op.2.2 (by decide)).mono ?_
    rintro e w' ⟨rfl, L, B, Y', h⟩
    obtain ⟨h1, h2⟩ := h.out
    rw [s00_op.1, s00_op.2.1] at h1
    exact ⟨rfl, L, B, Y', h1, H2.out.2.trans' h2⟩
  go_upto_region 4 with (go_at_call 17; refine HOP.out.mono ?_; rintro e w3 ⟨rfl, L, B, Y3, H3⟩; (have c2 : w3.cell? ⟨p, 2, none⟩ = some (.pointer (some ⟨L, 0, none⟩)) := H3.out.px.cells.2.2.1))
  clear HOP c0 H2 c2
  obtain ⟨s2, hs2⟩ : ∃ s2, (putP s00 ((ss.map Prod.snd).take 20)).1 = s2 := ⟨_, rfl⟩
  have HS2 : Hid (Sy s2 0 ∧ s2.c = none ∧ s2.l = (putP s00 ((ss.map Prod.snd).take 20)).2 ∧ s2.l.length ≤ 20 ∧ s2.at' = 0) := by
    obtain ⟨p1, p2⟩ := putP_l ((ss.map Prod.snd).take 20) s00
    obtain ⟨l1, l2⟩ := put_lim ((ss.map Prod.snd).take 20) s00
    rw [hs2] at p1 p2 l1 l2
    refine ⟨by rw [← hs2]; exact Sy.put _ _ sy00, p2, by rw [p1]; rfl, ?_, l2⟩
    have h0 : s00.l.length = 0 := rfl
    rw [h0, List.length_take] at l1
    omega
  have HPU : Hid (Calls Try.prog 18 #[.pointer (some ⟨p, 0, none⟩), sv] w3 fun e w' => ∃ a ts c, e = .returned (.slice a (ts : List (Value × List Int)).length c) ∧ ∃ Y', Hid (PZ w p D R L B 42 Y' s2 w' ∧ AL w Y' (.slice a ts.length c) ts w' ∧ ts.map Prod.snd = s2.l ∧ ts.length ≤ 20)) := by
    refine (lput H3.out HIN.out.1 (by decide) ⟨by decide, by decide⟩).mono ?_
    rintro e w' ⟨a, ts, c, rfl, Y', h⟩
    obtain ⟨h1, h2, h3, h4, h5⟩ := h.out
    rw [hs2] at h1
    exact ⟨a, ts, c, rfl, Y', h1, h3, by rw [h4, HS2.out.2.2.1], h5⟩
  clear hs2
  go_upto_region 5 with (go_at_call 18; refine HPU.out.mono ?_; rintro e w4 ⟨a4, ts4, c4, rfl, Y4, H4⟩)
  clear HPU H3
  have c2 : w4.cell? ⟨p, 2, none⟩ = some (.pointer (some ⟨L, 0, none⟩)) := H4.out.1.px.cells.2.2.1
  have hseq : s2.seq < 18446744073709551615 := by have := HS2.out; unfold Ps.seq; omega
  obtain ⟨s3, hs3⟩ : ∃ s3, s2.ckT bb = s3 := ⟨_, rfl⟩
  have HS3 : Hid (Sy s3 0 ∧ s3.l.length ≤ 20 ∧ s3.at' ≤ 20 ∧ s2.ckT bb = s3) := by
    obtain ⟨a1, a2, a3, a4, a5⟩ := HS2.out
    refine ⟨by rw [← hs3]; exact a1.ck hseq, ?_, ?_, hs3⟩
    · rw [← hs3]; unfold Ps.ckT; split
      · simp [Ps.ck]
      · exact a4
    · rw [← hs3]; unfold Ps.ckT; split
      · show s2.seq ≤ 20; unfold Ps.seq; omega
      · omega
  have HK1 : Hid (Calls Try.prog 19 #[.pointer (some ⟨L, 0, none⟩), bv] w4 fun e w' => e = .returned (.int .i64 (s2.ckR bb)) ∧ ∃ Y', Hid (PX w' p D R L B 48 Y' s3.dl s2.dl s3.g s2.m ∧ Fr Y4 Y' w4 w')) := by
    obtain ⟨⟨b1, b2, b3⟩, -⟩ := ck_both s2 bb (by omega)
    have hsr : SrcG w4 Y4 bv bb := srcG_in (HIN.out.2.1.src w (Below.refl _ _)) H4.out.1.fr
    have h := px_ckp_p H4.out.1.px (by decide) (by show (numL _ s2.l).length ≤ _; rw [numL_len]; have := HS2.out; omega) (by rw [seq_g]; omega) hsr HIN.out.2.1.byt (by have := HIN.out.2.1.len; omega)
    rw [b1, b2, b3, hs3] at h
    exact h
  have HK2 : Hid (∀ V Y5, PX V p D R L B 48 Y5 s3.dl s2.dl s3.g s2.m → Fr Y4 Y5 w4 V → Calls Try.prog 20 #[.pointer (some ⟨B, 0, none⟩), bv] V fun e w' => (∃ y, e = .returned (.int .i64 y)) ∧ ∃ Y', Hid (PZ w p D R L B 54 Y' s3 w' ∧ Fr Y4 Y' w4 w')) := by
    show ∀ V, _
    intro V Y5 hV hVf
    obtain ⟨-, b1, b2, b3⟩ := ck_both s2 bb (by omega)
    have hsr : SrcG V Y5 bv bb := srcG_in (HIN.out.2.1.src w (Below.refl _ _)) (H4.out.1.fr.trans' hVf)
    have h := px_ckp_m hV (by decide) (by show s2.l.length ≤ _; have := HS2.out; omega) (by show s2.at' + s2.l.length < _; have := HS2.out; omega) hsr HIN.out.2.1.byt (by have := HIN.out.2.1.len; omega)
    rw [b1, b2, b3, hs3] at h
    refine h.mono ?_
    rintro e w' ⟨rfl, Y6, H6⟩
    exact ⟨⟨_, rfl⟩, Y6, ⟨H6.out.1, (H4.out.1.fr.trans' hVf).trans' H6.out.2⟩, hVf.trans' H6.out.2⟩
  clear hs3 hseq
  go_upto_region 7 with (first
    | (go_at_call 19; refine HK1.out.mono ?_; rintro e w5 ⟨rfl, Y5, H5⟩; (have c3 : w5.cell? ⟨p, 3, none⟩ = some (.pointer (some ⟨B, 0, none⟩)) := H5.out.1.cells.2.2.2))
    | (go_at_call 20; refine (HK2.out w5 Y5 H5.out.1 H5.out.2).mono ?_; rintro e w6 ⟨⟨y6, rfl⟩, Y6, H6⟩))
  clear HK1 HK2 c2 c3
  obtain ⟨cb, hcb⟩ : ∃ cb : Bool, (s2.ckR bb == 0) = cb := ⟨_, rfl⟩
  have HCB : Hid ((cb = true → s3.l = [] ∧ s3.at' ≠ 0 ∧ s3.b = bb) ∧ (cb = false → s3 = s2)) := by
    have h := HS3.out.2.2.2
    rw [← hcb, ← h]
    unfold Ps.ckT Ps.ckR
    by_cases h1 : 65536 < bb.length
    · rw [if_pos h1, if_neg (fun e => e.1 h1)]
      exact ⟨fun e => by simp at e, fun _ => rfl⟩
    · rw [if_neg h1]
      by_cases h2 : s2.seq = 0
      · rw [if_pos h2, if_neg (fun e => e.2 h2)]
        exact ⟨fun e => by simp at e, fun _ => rfl⟩
      · rw [if_neg h2, if_pos ⟨h1, h2⟩]
        exact ⟨fun _ => ⟨rfl, h2, rfl⟩, fun e => by simp at e⟩
  rw [hcb]
  clear hcb
  have HA6 : Hid (AL w Y6 (.slice a4 ts4.length c4) ts4 w6 ∧ ts4.map Prod.snd = s2.l ∧ ts4.length ≤ 20) := ⟨H4.out.2.1.fr H6.out.2, H4.out.2.2⟩
  go_upto_if 63 with (fail)
  go_cut [12] from 64 to 64 (fun x wx => ∃ (ts : List (Value × List Int)) (a : Option Addr) (c : Nat), x = .slice a ts.length c ∧ Hid (PZ w p D R L B 54 Y6 s3 wx ∧ AL w Y6 (.slice a ts.length c) ts wx ∧ ts.map Prod.snd = s3.l ∧ ts.length ≤ 20))
  case first =>
    cases cb with
    | true =>
      go_wp2_with fail
      go_meet
      refine ⟨[], none, 0, rfl, H6.out.1, ⟨World.ownsRow_nil _ _ _ _, fun t ht => absurd ht (by simp), fun q hq => by cases hq⟩, ?_, by simp⟩
      rw [(show s3.l = [] by first | exact (HCB.out.1 rfl).1 | exact (HCB.out.1 trivial).1)]
      rfl
    | false =>
      go_wp2_with fail
      go_meet
      refine ⟨ts4, a4, c4, rfl, H6.out.1, HA6.out.1, ?_, HA6.out.2.2⟩
      rw [(show s3 = s2 by first | exact HCB.out.2 rfl | exact HCB.out.2 trivial)]
      exact HA6.out.2.1
  case rest =>
  obtain ⟨ts7, a7, c7, rfl, H7⟩ := hcut
  clear HA6 H4 H5 H6
  obtain ⟨s4, hs4⟩ : ∃ s4, (putP s3 ((ms.map Prod.snd).take 20)).1 = s4 := ⟨_, rfl⟩
  have HS4 : Hid (Sy s4 0 ∧ s4.c = s3.c ∧ s4.l = s3.l ++ (putP s3 ((ms.map Prod.snd).take 20)).2 ∧ s4.l.length ≤ 40 ∧ s4.at' = s3.at') := by
    obtain ⟨p1, p2⟩ := putP_l ((ms.map Prod.snd).take 20) s3
    obtain ⟨l1, l2⟩ := put_lim ((ms.map Prod.snd).take 20) s3
    rw [hs4] at p1 p2 l1 l2
    refine ⟨by rw [← hs4]; exact Sy.put _ _ HS3.out.1, p2, p1, ?_, l2⟩
    rw [List.length_take] at l1
    have := HS3.out.2.1
    omega
  have HPU : Hid (Calls Try.prog 18 #[.pointer (some ⟨p, 0, none⟩), mv] wc fun e w' => ∃ a ts c, e = .returned (.slice a (ts : List (Value × List Int)).length c) ∧ ∃ Y', Hid (PZ w p D R L B 94 Y' s4 w' ∧ Fr Y6 Y' wc w' ∧ AL w Y' (.slice a ts.length c) ts w' ∧ s3.l ++ ts.map Prod.snd = s4.l ∧ ts.length ≤ 20)) := by
    refine (lput H7.out.1 HIN.out.2.2.1 (by decide) ⟨by have := HS3.out.2.2.1; omega, by have := HS3.out.2.1; omega⟩).mono ?_
    rintro e w' ⟨a, ts, c, rfl, Y', h⟩
    obtain ⟨h1, h2, h3, h4, h5⟩ := h.out
    rw [hs4] at h1
    exact ⟨a, ts, c, rfl, Y', h1, h2, h3, by rw [h4, HS4.out.2.2.1], h5⟩
  clear hs4
  go_upto_region 10 with (first
    | (go_at_call 18; refine HPU.out.mono ?_; rintro e w8 ⟨a8, ts8, c8, rfl, Y8, H8⟩; (have HA8 : Hid (AL w Y8 (.slice a7 ts7.length c7) ts7 w8) := H7.out.2.1.fr H8.out.2.1))
    | (at_builtin; (refine wpList_append_rows rfl (.tmp 64) (.tmp 67) rfl w.heap.size (.slice a7 ts7.length c7) ts7.length (ts7.map Prod.fst) rfl HA8.out.row (.slice a8 ts8.length c8) ts8.length (ts8.map Prod.fst) rfl H8.out.2.2.1.row (fun y hy => by (obtain ⟨t, ht, hty⟩ := List.mem_map.1 hy); (obtain ⟨ya, yc, hyv, -⟩ := (H8.out.2.2.1.sv t ht).bz.ex); rw [← hty, hyv]; rfl) (by have := H7.out.2.2.2; have := H8.out.2.2.2.2; omega) H8.out.1.fr.size ?_; intro a9 c9 w9 ho9 hg9 hn9; (have H9 : Hid (PZ w p D R L B 94 Y8 s4 w9 ∧ AL w Y8 (.slice a9 (ts7.length + ts8.length) c9) (ts7 ++ ts8) w9) := HA8.out.app H8.out.1 H8.out.2.2.1.sv ho9 hg9 hn9); clear ho9 hg9 hn9)))
  have HT9 : Hid ((ts7 ++ ts8).map Prod.snd = s4.l ∧ ts7.length + ts8.length ≤ 40 ∧ (ts7 ++ ts8).length = ts7.length + ts8.length) := by
    refine ⟨?_, by have := H7.out.2.2.2; have := H8.out.2.2.2.2; omega, List.length_append⟩
    rw [List.map_append, H7.out.2.2.1]
    exact H8.out.2.2.2.1
  clear HPU HA8 H7
  obtain ⟨NA, hNA⟩ : ∃ NA, ts7.length + ts8.length = NA := ⟨_, rfl⟩
  obtain ⟨ta, hta⟩ : ∃ ta, ts7 ++ ts8 = ta := ⟨_, rfl⟩
  rw [hNA, hta] at HT9 H9
  rw [hNA]
  clear hNA hta H8
  obtain ⟨s5, hs5⟩ : ∃ s5, s4.sy = s5 := ⟨_, rfl⟩
  have HS5 : Hid (Sy s5 s5.l.length ∧ s5.c = s4.c ∧ s5.l = s4.l ∧ s5.at' = s4.at' ∧ syD nLog s4.dl = s5.dl ∧ s5.g = s4.g ∧ s5.m = s4.m) := by
    obtain ⟨a1, a2, a3⟩ := sy_both s4
    have a4 := HS4.out.1.sync
    rw [hs5] at a1 a2 a3 a4
    have e : s5.l = s4.l := by rw [← hs5]; rfl
    exact ⟨by rw [e]; exact a4, by rw [← hs5]; rfl, e, by rw [← hs5]; rfl, a1, a2, a3⟩
  clear hs5
  have HY1 : Hid (Calls Try.prog 21 #[.pointer (some ⟨L, 0, none⟩)] w9 fun e w' => (∃ y, e = .returned (.int .i64 y)) ∧ ∃ Y', Hid (PX w' p D R L B 95 Y' s5.dl s4.dl s4.g s4.m ∧ Fr Y8 Y' w9 w')) := by
    have h := px_sync_p H9.out.1.px (by decide)
    rw [HS5.out.2.2.2.2.1] at h
    exact h
  have HY2 : Hid (∀ V Y9, PX V p D R L B 95 Y9 s5.dl s4.dl s4.g s4.m → Fr Y8 Y9 w9 V → Calls Try.prog 22 #[.pointer (some ⟨B, 0, none⟩)] V fun e w' => (∃ y, e = .returned (.int .i64 y)) ∧ ∃ Y', Hid (PZ w p D R L B 96 Y' s5 w' ∧ Fr Y8 Y' w9 w')) := by
    show ∀ V, _
    intro V Y9 hV hVf
    have h := px_sync_m hV (by decide)
    rw [HS5.out.2.2.2.2.1] at h
    refine h.mono ?_
    rintro e w' ⟨hy, Y', h6⟩
    refine ⟨hy, Y', ⟨?_, (H9.out.1.fr.trans' hVf).trans' h6.out.2⟩, hVf.trans' h6.out.2⟩
    rw [HS5.out.2.2.2.2.2.1, HS5.out.2.2.2.2.2.2]
    exact h6.out.1
  have c2 : w9.cell? ⟨p, 2, none⟩ = some (.pointer (some ⟨L, 0, none⟩)) := H9.out.1.px.cells.2.2.1
  go_upto_region 12 with (first
    | (go_at_call 21; refine HY1.out.mono ?_; rintro e w10 ⟨⟨y10, rfl⟩, Y10, H10⟩; (have c3 : w10.cell? ⟨p, 3, none⟩ = some (.pointer (some ⟨B, 0, none⟩)) := H10.out.1.cells.2.2.2))
    | (go_at_call 22; refine (HY2.out w10 Y10 H10.out.1 H10.out.2).mono ?_; rintro e w11 ⟨⟨y11, rfl⟩, Y11, H11⟩))
  clear HY1 HY2 c2 c3
  have HA11 : Hid (AL w Y11 (.slice a9 NA c9) ta w11) := H9.out.2.fr H11.out.2
  obtain ⟨s6, hs6⟩ : ∃ s6, (putP s5 ((os.map Prod.snd).take 20)).1 = s6 := ⟨_, rfl⟩
  have HS6 : Hid (Sy s6 s5.l.length ∧ s6.c = s5.c ∧ s6.l = s5.l ++ (putP s5 ((os.map Prod.snd).take 20)).2 ∧ s6.l.length ≤ 60 ∧ s6.at' = s5.at') := by
    obtain ⟨p1, p2⟩ := putP_l ((os.map Prod.snd).take 20) s5
    obtain ⟨l1, l2⟩ := put_lim ((os.map Prod.snd).take 20) s5
    rw [hs6] at p1 p2 l1 l2
    refine ⟨by rw [← hs6]; exact Sy.put _ _ HS5.out.1, p2, p1, ?_, l2⟩
    rw [List.length_take, HS5.out.2.2.1] at l1
    have := HS4.out.2.2.2.1
    omega
  have HPU : Hid (Calls Try.prog 18 #[.pointer (some ⟨p, 0, none⟩), ov] w11 fun e w' => ∃ a ts c, e = .returned (.slice a (ts : List (Value × List Int)).length c) ∧ ∃ Y', Hid (PZ w p D R L B 136 Y' s6 w' ∧ Fr Y11 Y' w11 w' ∧ AL w Y' (.slice a ts.length c) ts w' ∧ s5.l ++ ts.map Prod.snd = s6.l ∧ ts.length ≤ 20)) := by
    refine (lput H11.out.1 HIN.out.2.2.2.1 (by decide) ⟨by have h1 := HS5.out.2.2.2.1; have h2 := HS4.out.2.2.2.2; have h3 := HS3.out.2.2.1; omega, by have h1 := HS5.out.2.2.1; have h2 := HS4.out.2.2.2.1; rw [h1]; omega⟩).mono ?_
    rintro e w' ⟨a, ts, c, rfl, Y', h⟩
    obtain ⟨h1, h2, h3, h4, h5⟩ := h.out
    rw [hs6] at h1
    exact ⟨a, ts, c, rfl, Y', h1, h2, h3, by rw [h4, HS6.out.2.2.1], h5⟩
  clear hs6
  have HAL : Hid (ta.length = NA ∧ NA ≤ 40) := ⟨HT9.out.2.2, HT9.out.2.1⟩
  go_upto_region 15 with (first
    | (go_at_call 18; refine HPU.out.mono ?_; rintro e w12 ⟨a12, ts12, c12, rfl, Y12, H12⟩; (have HA12 : Hid (AL w Y12 (.slice a9 ta.length c9) ta w12) := (by rw [HAL.out.1]; exact HA11.out.fr H12.out.2.1)))
    | (at_builtin; (refine wpList_append_rows rfl (.tmp 84) (.tmp 85) rfl w.heap.size (.slice a9 NA c9) NA (ta.map Prod.fst) rfl (by have h := HA12.out.row; rw [HAL.out.1] at h; exact h) (.slice a12 ts12.length c12) ts12.length (ts12.map Prod.fst) rfl H12.out.2.2.1.row (fun y hy => by (obtain ⟨t, ht, hty⟩ := List.mem_map.1 hy); (obtain ⟨ya, yc, hyv, -⟩ := (H12.out.2.2.1.sv t ht).bz.ex); rw [← hty, hyv]; rfl) (by have := HAL.out; have := H12.out.2.2.2.2; omega) H12.out.1.fr.size ?_; intro a13 c13 w13 ho13 hg13 hn13; (have H13 : Hid (PZ w p D R L B 136 Y12 s6 w13 ∧ AL w Y12 (.slice a13 (NA + ts12.length) c13) (ta ++ ts12) w13) := HA12.out.app H12.out.1 H12.out.2.2.1.sv (by rw [HAL.out.1]; exact ho13) (by have h : (Value.slice a9 ta.length c9).ownBlock = (Value.slice a9 NA c9).ownBlock := (by rw [HAL.out.1]); rw [h]; exact hg13) (by have h : (Value.slice a9 ta.length c9).ownBlock = (Value.slice a9 NA c9).ownBlock := (by rw [HAL.out.1]); rw [h]; exact hn13)); clear ho13 hg13 hn13)))
  clear HPU HA12 HA11 H11
  obtain ⟨NB, hNB⟩ : ∃ NB, ts12.length = NB := ⟨_, rfl⟩
  obtain ⟨tb, htb⟩ : ∃ tb, ta ++ ts12 = tb := ⟨_, rfl⟩
  have HB13 : Hid (PZ w p D R L B 136 Y12 s6 w13 ∧ AL w Y12 (.slice a13 tb.length c13) tb w13 ∧ tb.map Prod.snd = s6.l ∧ tb.length = NA + NB ∧ NB ≤ 20 ∧ NA ≤ 40 ∧ s5.l.length = NA) := by
    have e1 : tb.length = NA + NB := by rw [← htb, List.length_append, HAL.out.1, hNB]
    have e2 : ta.map Prod.snd = s5.l := by rw [HT9.out.1, HS5.out.2.2.1]
    have h13 := H13.out.2
    rw [htb, hNB, ← e1] at h13
    refine ⟨H13.out.1, h13, ?_, e1, by rw [← hNB]; exact H12.out.2.2.2.2, HAL.out.2, by rw [← e2, List.length_map]; exact HAL.out.1⟩
    rw [← htb, List.map_append, e2]
    exact H12.out.2.2.2.1
  rw [hNB]
  obtain ⟨NC, hNC⟩ : ∃ NC, NA + NB = NC := ⟨_, rfl⟩
  rw [hNC] at HB13 ⊢
  have HNC : Hid (NA + NB = NC) := hNC
  clear hNB htb hNC H13 H12
  obtain ⟨na, nc, hnv, hncap, hncell⟩ := HIN.out.2.2.2.2.ex
  subst hnv
  obtain ⟨NN, hNN⟩ : ∃ NN, ns.length = NN := ⟨_, rfl⟩
  have HNN : Hid (ns.length = NN ∧ NN ≤ 1048576 ∧ ∀ i x, ns[i]? = some x → ∃ b off, na = some ⟨b, off, none⟩ ∧ w.cell? ⟨b, off + i, none⟩ = some (.int .i64 x)) := ⟨hNN, by have := HIN.out.2.2.2.2.len; omega, hncell⟩
  rw [hNN] at hncap ⊢
  have hNNi : (NN : Int) ≤ 1048576 := by have := HNN.out; omega
  have hNNc : (NN : Int) ≤ (nc : Int) := by omega
  have hNBi : (NB : Int) ≤ 20 := by have := HB13.out; omega
  clear hncap hncell hNN
  go_upto_block 0 with (fail)
  go_cut [16, 17] from 87 to 106 (fun x y wx => ∃ (zs : List Int) (a : Option Addr) (c : Nat), x = .slice a zs.length c ∧ Hid (Below w13.heap.size w13 wx ∧ wx.ownsRow w13.heap.size 3 1 (.slice a zs.length c) zs.length (zs.map iV) ∧ zs.length ≤ 20))
  case first =>
    go_wp2_with fail
    go_loopw [16, 17] (fun x y wr => ∃ (zs : List Int) (a : Option Addr) (c : Nat), x = .slice a zs.length c ∧ y = .int .i64 (zs.length : Int) ∧ zs.length ≤ NB ∧ zs.length ≤ NN ∧ Hid (Below w13.heap.size w13 wr ∧ wr.ownsRow w13.heap.size 3 1 (.slice a zs.length c) zs.length (zs.map iV))) (fun x y _ => NN - (intOf y).toNat)
    case atStart => exact ⟨[], none, 0, rfl, rfl, Nat.zero_le _, Nat.zero_le _, Below.refl _ _, World.ownsRow_nil _ _ _ _⟩
    case round =>
      obtain ⟨zs, ka, kc, rfl, rfl, hz1, hz2, HZ⟩ := hrel
      obtain ⟨i, hi⟩ : ∃ i, zs.length = i := ⟨_, rfl⟩
      rw [hi] at hz1 hz2 ⊢
      have HI : Hid (zs.length = i ∧ i ≤ NB ∧ i ≤ NN) := ⟨hi, hz1, hz2⟩
      clear hi hz1 hz2
      by_cases hc1 : (i : Int) < (NN : Int)
      · by_cases hc2 : (i : Int) < (NB : Int)
        · obtain ⟨x, hx⟩ : ∃ x, ns[i]? = some x := ⟨_, List.getElem?_eq_getElem (by have := HNN.out.1; omega)⟩
          obtain ⟨nb, no, hna, hcell⟩ := HNN.out.2.2 i x hx
          subst hna
          have k1 : wr.cell? ⟨nb, no + i, none⟩ = some (.int .i64 x) := src_back.cell_same' hcell fun q hq => (HZ.out.1.block q (Nat.lt_of_lt_of_le hq HB13.out.1.fr.size)).trans (HB13.out.1.fr.block q hq fun e => e)
          obtain ⟨z, hz, hcnt⟩ := count_any x 100000 (by decide) (by decide)
          have HCN : Hid (∀ V, Calls Try.prog 23 #[.int .i64 x, .int .i64 100000] V fun e w' => e = .returned (.int .i64 (z : Int)) ∧ w' = V) := hcnt
          obtain ⟨i0, hi0, hz0, hz3, hz4⟩ := info_parts info3
          have HLT : Hid (i < NB ∧ i < NN) := ⟨by omega, by omega⟩
          clear hx hcell hz hcnt
          go_wp2_with (first
            | (go_at_call 23; refine (HCN.out _).mono ?_; rintro e w14 ⟨rfl, hw14⟩; rw [hw14]; clear hw14)
            | (at_builtin; (refine wpList_append_lies _ rfl (.tmp 99) (.tmp 105) 36 rfl w13.heap.size 3 i0 (.int .i64 0) 1 8 Try.underlying36 hi0 hz0 hz3 hz4 rfl (by decide) (.slice ka i kc) i (zs.map iV) rfl (by have h := HZ.out.2; rw [HI.out.1] at h; exact h.alloc _) ⟨wr.heap.size, 0, none⟩ 1 1 [.int .i64 (z : Int)] rfl rfl (World.news_of_block (Go.heap_alloc_new _ _)) (by intro u hu; obtain rfl := List.mem_singleton.1 hu; rfl) (by decide) (by have := HLT.out; have := HB13.out; unfold maxLen; omega) (by have := HLT.out; have := HB13.out; omega) (by have := HZ.out.1.size; simp; omega) (wr.heap.size + 1) (by simp) ?_; intro g15 c15 w15 ho15 hg15 hx15 hy15; (have H15 : Hid (w15.ownsRow w13.heap.size 3 1 (.slice (some ⟨g15, 0, none⟩) (i + 1) c15) (i + 1) (zs.map iV ++ [.int .i64 (z : Int)]) ∧ (wr.alloc (.cells #[.int .i64 (z : Int)] 3)).grownBy w15 (Value.slice ka i kc).ownBlock) := ⟨ho15, hg15⟩); clear ho15 hg15 hx15 hy15)))
          go_roundw
          case rel =>
            have e : (zs ++ [(z : Int)]).length = i + 1 := by rw [List.length_append, HI.out.1]; rfl
            refine ⟨zs ++ [(z : Int)], some ⟨g15, 0, none⟩, c15, by rw [e], by rw [e]; push_cast; rfl, by rw [e]; exact HLT.out.1, by rw [e]; exact HLT.out.2, ?_⟩
            rw [e, List.map_append]
            have hb : Below w13.heap.size w13 (wr.alloc (.cells #[.int .i64 (z : Int)] 3)) := HZ.out.1.alloc HZ.out.1.size _
            refine ⟨hb.grown H15.out.2 hb.size fun q hq => ?_, H15.out.1⟩
            have h := HZ.out.2
            rw [HI.out.1] at h
            exact (h.lt q hq).1
          case measure =>
            have := HLT.out
            simp [intOf]
            omega
        · go_wp2_with fail
          go_meet
          refine ⟨zs, ka, kc, by rw [HI.out.1], HZ.out.1, HZ.out.2, by have := HI.out; have := HB13.out; omega⟩
      · go_wp2_with fail
        go_meet
        refine ⟨zs, ka, kc, by rw [HI.out.1], HZ.out.1, HZ.out.2, by have := HI.out; have := HB13.out; omega⟩
  case rest =>
  obtain ⟨zs, ka, kc, rfl, H16⟩ := hcut
  clear hNNc hNNi hNBi
  have H16b : Hid (PX wc p D R L B 136 Y12 s6.dl s6.dl s6.g s6.m ∧ AL w Y12 (.slice a13 NC c13) tb wc ∧ Fr (fun _ => False) Y12 w wc ∧ tb.length = NC) := by
    have hl : tb.length = NC := HB13.out.2.2.2.1
    have h2 := HB13.out.2.1
    rw [hl] at h2
    exact ⟨HB13.out.1.px.newer H16.out.1, h2.same fun q hq => H16.out.1.block q (h2.row.lt q hq).2, HB13.out.1.fr.trans' (Fr.newer H16.out.1), hl⟩
  have HST : Hid (Calls Try.prog 24 #[.pointer (some ⟨p, 0, none⟩), .string { data := #[97] }, .agg #[.int .i64 3, .slice none 0 0, .slice ka zs.length kc, .string { data := #[] }]] wc fun e w' => e = .returned (.bool true) ∧ ∃ f' L' B' Y', Hid (((s6.f = none → f' = none) ∧ ∀ p, s6.f = some p → ∃ p' z, f' = some p' ∧ p'.1 = p.1.take (safeN p.1 p.2).toNat ++ z) ∧ PX w' p D R L' B' 140 Y' (Ps.mk s6.c f' s6.l s6.cut).op.dl (Ps.mk s6.c f' s6.l s6.cut).op.dl (opG (Ps.mk s6.c f' s6.l s6.cut).dl) (Ps.mk s6.c f' s6.l s6.cut).op.m ∧ Fr Y12 Y' wc w')) :=
    step_any H16b.out.1 HS6.out.1.okc (by decide) (nums_own (K := 0) H16.out.2.1) (fun q hq => by
      have h := H16.out.2.1.lt q hq
      refine ⟨h.2, fun e => ?_⟩
      have := HB13.out.1.px.lt q e
      omega) H16.out.2.2
  go_upto_region 22 with (go_at_call 24; refine HST.out.mono ?_; rintro e w17 ⟨rfl, f', L', B', Y17, H17⟩; (have c2 : w17.cell? ⟨p, 2, none⟩ = some (.pointer (some ⟨L', 0, none⟩)) := H17.out.2.1.cells.2.2.1))
  clear HST c2
  obtain ⟨s8, hs8⟩ : ∃ s8, Ps.mk s6.c f' s6.l s6.cut = s8 := ⟨_, rfl⟩
  obtain ⟨s9, hs9⟩ : ∃ s9, s8.op = s9 := ⟨_, rfl⟩
  obtain ⟨M, hM⟩ : ∃ M, s9.l.length = M := ⟨_, rfl⟩
  have HS8 : Hid (Ps.mk s6.c f' s6.l s6.cut = s8 ∧ s8.op = s9 ∧ s9.l.length = M ∧ s8.okC ∧ s8.at' = s6.at' ∧ s8.b = s6.b ∧ s8.c = s6.c ∧ s9.l = (rrL s8.z s8.at').map Prod.snd ∧ s5.l.length ≤ M ∧ s9.okC) := by
    have e1 : s9.l = (rrL s8.z s8.at').map Prod.snd := by rw [← hs9]; rfl
    have hok : s8.okC := by rw [← hs8]; exact HS6.out.1.okc
    refine ⟨hs8, hs9, hM, hok, by rw [← hs8]; rfl, by rw [← hs8]; rfl, by rw [← hs8], e1, ?_, by rw [← hs9]; exact hok⟩
    have h := told (f' := f') HS6.out.1 (by have := HS6.out.2.2.2; have := HS5.out.2.2.2.1; have := HS4.out.2.2.2.2; have := HS3.out.2.2.1; omega) H17.out.1.2
    rw [← hM, e1, List.length_map]
    rw [hs8] at h
    have e2 : s8.at' = s6.at' := by rw [← hs8]; rfl
    rw [e2]
    exact h
  have H17b : Hid (PX w17 p D R L' B' 140 Y17 s9.dl s9.dl (opG s8.dl) s9.m ∧ AL w Y17 (.slice a13 NC c13) tb w17 ∧ Fr (fun _ => False) Y17 w w17) := by
    have h := H17.out.2.1
    rw [hs8, hs9] at h
    refine ⟨h, ?_, H16b.out.2.2.1.trans' H17.out.2.2⟩
    have h2 := H16b.out.2.1.fr H17.out.2.2
    exact h2
  clear hs8 hs9 hM H17 H16
  have hMB : Hid (∃ bv la lc xs, w17.heap[B']? = some (.cells (mgC R s9.m bv (.slice la M lc)) 57 (0, 0)) ∧ w17.ownsRow 0 23 1 (.slice la M lc) M ((xs : List (Value × List Int)).map Prod.fst) ∧ xs.map Prod.snd = s9.l ∧ xs.length = M ∧ ∀ x ∈ xs, w17.ownsRow 0 5 1 x.1 x.2.length (u8l x.2)) := by
    obtain ⟨F, P, G, Q, sy, sy', a1, a2, a3, a4, a5⟩ := H17b.out.1
    obtain ⟨bv, lv, xs, b1, b2, b3, b4, b5, b6⟩ := a2.mg
    obtain ⟨la, lc, rfl⟩ := own_slice b3
    have e : xs.length = M := by
      have h := congrArg List.length b4
      rw [List.length_map] at h
      exact h.trans HS8.out.2.2.1
    rw [e] at b1 b3
    exact ⟨bv, la, lc, xs, b1, b3, b4, e, b5⟩
  obtain ⟨bv9, la9, lc9, xs9, m1, m2, m3, m4, m5⟩ := hMB.out
  have HM9 : Hid (w17.heap[B']? = some (.cells (mgC R s9.m bv9 (.slice la9 M lc9)) 57 (0, 0)) ∧ w17.ownsRow 0 23 1 (.slice la9 M lc9) M (xs9.map Prod.fst) ∧ xs9.map Prod.snd = s9.l ∧ xs9.length = M ∧ ∀ x ∈ xs9, w17.ownsRow 0 5 1 x.1 x.2.length (u8l x.2)) := ⟨m1, m2, m3, m4, m5⟩
  clear m1 m2 m3 m4 m5 hMB
  have c3 : ∀ n, (w17.drewN n).cell? ⟨p, 3, none⟩ = some (.pointer (some ⟨B', 0, none⟩)) := fun n => H17b.out.1.cells.2.2.2
  have c5 : ∀ n, (w17.drewN n).cell? ⟨B', 5, none⟩ = some (.slice la9 M lc9) := fun n => by show w17.cell? _ = _; rw [cell_of_row _ _ _ _ _ _ HM9.out.1]; rfl
  go_cut [150] from 119 to 149 (fun x wx => x = .bool (!(decide (M ≤ NC ∧ s9.l = s6.l.take M))) ∧ ∃ n, wx = w17.drewN n)
  case first =>
    by_cases hle : M ≤ NC
    · have hgt : ¬ (NC : Int) < (M : Int) := by omega
      have hcap : (M : Int) ≤ (c13 : Int) := by
        have h := H17b.out.2.1.row
        rw [H16b.out.2.2.2] at h
        rcases h.2 with ⟨h1, h2⟩ | ⟨g, cap, cur, h1, -, -, h4, -⟩
        · injection h1 with e1 e2 e3
          omega
        · injection h1 with e1 e2 e3
          omega
      have hBr : w17.ownsRow w.heap.size 23 1 (.slice a13 NC c13) NC (tb.map Prod.fst) := by
        have h := H17b.out.2.1.row
        rw [H16b.out.2.2.2] at h
        exact h
      have htl : (tb.take M).length = M := by rw [List.length_take]; have := H16b.out.2.2.2; omega
      have HSM : Hid (∀ m, Calls Try.prog 13 #[.slice la9 M lc9, .slice a13 M c13] (w17.drewN m) fun e w' => e = .returned (.bool (decide (s9.l = s6.l.take M))) ∧ ∃ n, w' = w17.drewN n) := by
        show ∀ m, _
        intro m
        obtain ⟨q1, q2, q3, q4, q5⟩ := HM9.out
        have hb := own_take hBr hle
        have hbel : Below w.heap.size w w17 := ⟨H17b.out.2.2.os, H17b.out.2.2.tape, H17b.out.2.2.output, H17b.out.2.2.size, fun q hq => H17b.out.2.2.block q hq fun e => e⟩
        have hmlen : M ≤ 1000000 := by have h1 := HB13.out; have h2 := HNC.out; omega
        have h := same_dec (w17.drewN m) (.slice la9 M lc9) (.slice a13 M c13) xs9 (tb.take M) (ba := 0) (bb := w.heap.size) (by rw [q4]; exact own_at q2 fun q hq => rfl) (by rw [htl, List.map_take]; exact own_at hb fun q hq => rfl)
          (fun x hx => ⟨own_src (own_at (q5 x hx) fun q hq => rfl), ?_⟩) (fun x hx => ⟨?_, (H17b.out.2.1.sv x (List.mem_of_mem_take hx)).byt⟩) (by rw [q4, htl]) (by rw [q4]; omega)
        · rw [q3, List.map_take, HB13.out.2.2.1] at h
          refine h.mono ?_
          rintro e w' ⟨rfl, n, rfl⟩
          exact ⟨rfl, m + n, by rw [World.drewN_drewN]⟩
        · obtain ⟨sy9, hi9⟩ := px_inv H17b.out.1
          have hby := (hi9.rdb nLog).1
          rw [rd_log] at hby
          have hxm : x.2 ∈ s9.l := by rw [← q3]; exact List.mem_map_of_mem hx
          have ho := (op_again s8).2.2.2
          rw [HS8.out.2.1] at ho
          rw [HS8.out.2.2.2.2.2.2.2.1, ← ho] at hxm
          obtain ⟨q, hq, e⟩ := List.mem_map.1 hxm
          rw [← e]
          exact (rr_byt hby q hq).2
        · exact (H17b.out.2.1.sv x (List.mem_of_mem_take hx)).src (w17.drewN m) (hbel.trans ((drewN_below w17 m).mono hbel.size))
      have HLE : Hid (M ≤ NC) := hle
      clear hle hBr htl
      have d3 : w17.drew.cell? ⟨p, 3, none⟩ = some (.pointer (some ⟨B', 0, none⟩)) := c3 1
      have d5 : w17.drew.cell? ⟨B', 5, none⟩ = some (.slice la9 M lc9) := c5 1
      go_region_held3 (fun w' => w'.cell? ⟨p, 3, none⟩ = some (.pointer (some ⟨B', 0, none⟩)) ∧ w'.cell? ⟨B', 5, none⟩ = some (.slice la9 M lc9)) (first | exact K1 | go_keep) ((go_at_call 13; refine (HSM.out 1).mono ?_; rintro e w18 ⟨rfl, n18, hw18⟩; rw [hw18]; clear hw18; (have K1 : (w17.drewN n18).cell? ⟨p, 3, none⟩ = some (.pointer (some ⟨B', 0, none⟩)) ∧ (w17.drewN n18).cell? ⟨B', 5, none⟩ = some (.slice la9 M lc9) := ⟨c3 n18, c5 n18⟩)))
      go_wp2_with fail
      go_meet
      refine ⟨?_, _, rfl⟩
      have e : decide (M ≤ NC ∧ s9.l = s6.l.take M) = decide (s9.l = s6.l.take M) := by
        by_cases h : s9.l = s6.l.take M
        · rw [decide_eq_true h, decide_eq_true ⟨HLE.out, h⟩]
        · rw [decide_eq_false h, decide_eq_false fun e => h e.2]
      rw [e]
    · have hgt : (NC : Int) < (M : Int) := by omega
      have HT : Hid (¬ (M ≤ NC ∧ s9.l = s6.l.take M)) := fun h => hle h.1
      clear hle
      go_quiet (fail)
      go_wp2_with fail
      go_meet
      refine ⟨?_, _, rfl⟩
      rw [decide_eq_false HT.out]
      rfl
  case rest =>
  obtain ⟨rfl, n18, rfl⟩ := hcut
  clear c3 c5
  have HLQ0 : Hid (LQ w p D 140 s9.dl (.slice a13 NC c13) tb (w17.drewN n18)) := (LQ.start H17b.out.1 H17b.out.2.2 H17b.out.2.1).newer (drewN_below w17 n18)
  have HKN : Hid (∀ V, Calls Try.prog 15 #[] V fun e w' => e = .returned (.bool true) ∧ Hid (Below V.heap.size V w')) := fun V => known_any V
  by_cases hg : M ≤ NC ∧ s9.l = s6.l.take M
  · have hb : (!(decide (M ≤ NC ∧ s9.l = s6.l.take M))) = false := by rw [decide_eq_true hg]; rfl
    rw [hb]
    have HG : Hid (M ≤ NC ∧ s9.l = s6.l.take M) := hg
    clear hg hb
    obtain ⟨g9, hg9⟩ : ∃ g9 : Lg, (⟨s9.at', s9.b, rrL s9.z s9.at', s9.z.length - takenL s9.z s9.at'⟩ : Lg) = g9 := ⟨_, rfl⟩
    have HG9 : Hid (g9.rs.map Prod.snd = s9.l ∧ (∀ q ∈ g9.rs, q.2.length ≤ 1048576 ∧ Byt q.2) ∧ g9.rs.length ≤ 1000000 ∧ cb = decide (g9.bn ≠ 0) ∧ (cb = true → g9.b = bb) ∧ (⟨s9.at', s9.b, rrL s9.z s9.at', s9.z.length - takenL s9.z s9.at'⟩ : Lg) = g9 ∧ s9.op.dl = s9.dl) := by
      obtain ⟨k1, k2, k3, k4, k5, k6, k7, k8, k9, k10⟩ := HS8.out
      obtain ⟨sy9, hi9⟩ := px_inv H17b.out.1
      have hby := (hi9.rdb nLog).1
      rw [rd_log] at hby
      obtain ⟨p1, p2, p3, p4⟩ := op_again s8
      rw [k2] at p1 p2 p3 p4
      have e1 : (rrL s9.z s9.at').map Prod.snd = s9.l := by rw [p2, p4, k8]
      have hat : s9.at' = s3.at' := by rw [p2, k5, HS6.out.2.2.2.2, HS5.out.2.2.2.1, HS4.out.2.2.2.2]
      have hcc : s8.c = s3.c := by rw [k7, HS6.out.2.1, HS5.out.2.1, HS4.out.2.1]
      have hbb : s9.b = s3.b := by rw [p3]; unfold Ps.b; rw [hcc]
      have hl : (rrL s9.z s9.at').length = M := by
        have := congrArg List.length e1
        rw [List.length_map] at this
        rw [this, k3]
      refine ⟨by rw [← hg9]; exact e1, fun q hq => ?_, by rw [← hg9]; show (rrL s9.z s9.at').length ≤ _; rw [hl]; have h1 := HG.out.1; have h2 := HB13.out; have h3 := HNC.out; omega, ?_, fun hc => ?_, hg9, p1⟩
      · rw [← hg9] at hq
        exact rr_byt hby q hq
      · rw [← hg9]
        show cb = decide (s9.at' ≠ 0)
        rw [hat]
        cases cb with
        | true => exact (decide_eq_true (HCB.out.1 rfl).2.1).symm
        | false =>
          rw [HCB.out.2 rfl]
          exact (decide_eq_false (fun h => h HS2.out.2.2.2.2)).symm
      · rw [← hg9]
        show s9.b = bb
        rw [hbb, (HCB.out.1 hc).2.2]
    clear hg9
    have HAG : Hid (∀ V j, j ≤ 2 → LQ w p D (140 + 2 * j) s9.dl (.slice a13 NC c13) tb V → Calls Try.prog 25 #[.pointer (some ⟨D, 0, none⟩), .string { data := #[97] }] V fun e w1 => ∃ L, e = .returned (.tuple #[.pointer (some ⟨L, 0, none⟩), .int .i64 0]) ∧ Hid (LQ w p D (140 + 2 * (j + 1)) s9.dl (.slice a13 NC c13) tb w1 ∧ ∃ P, LG w1 L D g9 P)) := by
      show ∀ V, _
      intro V j hj hV
      have h := again_any hV HS8.out.2.2.2.2.2.2.2.2.2 HG9.out.2.2.2.2.2.2 (by omega)
      rw [HG9.out.2.2.2.2.2.1] at h
      exact h
    have HRE : Hid (∀ V L2 P, LG V L2 D g9 P → Calls Try.prog 26 #[.pointer (some ⟨L2, 0, none⟩)] V fun e w' => ∃ ra rc, e = .returned (.tuple #[.slice ra M rc, .bool true]) ∧ Hid (Below V.heap.size V w' ∧ ∃ xs : List (Value × List Int), w'.ownsRow V.heap.size 23 1 (.slice ra M rc) M (xs.map Prod.fst) ∧ (∀ x ∈ xs, w'.ownsRow V.heap.size 5 1 x.1 x.2.length (u8l x.2)) ∧ xs.map Prod.snd = s9.l ∧ xs.length = M)) := by
      show ∀ V L2 P, _
      intro V L2 P hV
      refine (records_any hV hV.lt HG9.out.2.2.1 HG9.out.2.1).mono ?_
      rintro e w' ⟨lv, xs, rfl, h1, h2, h3, h4⟩
      rw [HG9.out.1] at h3
      have e : xs.length = M := by
        have h := congrArg List.length h3
        rw [List.length_map] at h
        exact h.trans HS8.out.2.2.1
      rw [e] at h1
      obtain ⟨ra, rc, rfl⟩ := own_slice h1
      exact ⟨ra, rc, rfl, h4, xs, h1, h2, h3, e⟩
    have HBA : Hid (∀ V L2 P, LG V L2 D g9 P → Calls Try.prog 27 #[.pointer (some ⟨L2, 0, none⟩)] V fun e w' => ∃ a n c, e = .returned (.tuple #[.slice a n c, .bool cb]) ∧ Hid (Below V.heap.size V w' ∧ (cb = true → w'.ownsRow V.heap.size 5 1 (.slice a n c) bb.length (u8l bb)))) := by
      show ∀ V L2 P, _
      intro V L2 P hV
      have hbl : g9.b.length ≤ 1000000 := by
        rw [← HG9.out.2.2.2.2.2.1]
        show s9.b.length ≤ _
        have hok := HS8.out.2.2.2.2.2.2.2.2.2
        unfold Ps.b
        cases hc9 : s9.c with
        | none => simp
        | some q => have := (hok q hc9).2.2; dsimp only; omega
      refine (base_any hV hbl).mono ?_
      rintro e w' ⟨a, n, c, rfl, h⟩
      obtain ⟨h1, h2, -⟩ := h.out
      refine ⟨a, n, c, by rw [← HG9.out.2.2.2.1], h1, fun hc => ?_⟩
      have hbn : g9.bn ≠ 0 := by
        have := HG9.out.2.2.2.1
        rw [hc] at this
        exact of_decide_eq_true this.symm
      have h3 := h2 hbn
      rw [HG9.out.2.2.2.2.1 hc] at h3
      exact h3
    have hcap : (M : Int) ≤ (c13 : Int) := by
      have h := H17b.out.2.1.row
      rw [H16b.out.2.2.2] at h
      have hle := HG.out.1
      rcases h.2 with ⟨h1, h2⟩ | ⟨g, cap, cur, h1, -, -, h4, -⟩
      · injection h1 with e1 e2 e3
        omega
      · injection h1 with e1 e2 e3
        omega
    have HSA : Hid (∀ V ra rc k, LQ w p D k s9.dl (.slice a13 NC c13) tb V → (∃ b, ∃ xs : List (Value × List Int), V.ownsRow b 23 1 (.slice ra M rc) M (xs.map Prod.fst) ∧ (∀ x ∈ xs, V.ownsRow b 5 1 x.1 x.2.length (u8l x.2)) ∧ xs.map Prod.snd = s9.l ∧ xs.length = M) → Calls Try.prog 13 #[.slice ra M rc, .slice a13 M c13] V fun e w' => e = .returned (.bool true) ∧ ∃ n, w' = V.drewN n) := by
      show ∀ V ra rc k, _
      rintro V ra rc k hV ⟨b, xs, q2, q5, q3, q4⟩
      obtain ⟨⟨F, sy, -, -, -, hal⟩, -, hbel⟩ := hV
      have hrow := hal.row
      rw [H16b.out.2.2.2] at hrow
      have hle := HG.out.1
      have hb := own_take hrow hle
      have htl : (tb.take M).length = M := by rw [List.length_take]; have := H16b.out.2.2.2; omega
      have hmlen : M ≤ 1000000 := by have h1 := HB13.out; have h2 := HNC.out; omega
      have hbyt : ∀ x ∈ xs, Byt x.2 := fun x hx => by
        have hxm : x.2 ∈ s9.l := by rw [← q3]; exact List.mem_map_of_mem hx
        rw [← HG9.out.1] at hxm
        obtain ⟨q, hq, e⟩ := List.mem_map.1 hxm
        rw [← e]
        exact (HG9.out.2.1 q hq).2
      have h := same_dec V (.slice ra M rc) (.slice a13 M c13) xs (tb.take M) (ba := b) (bb := w.heap.size) (by rw [q4]; exact q2) (by rw [htl, List.map_take]; exact hb)
        (fun x hx => ⟨own_src (q5 x hx), hbyt x hx⟩) (fun x hx => ⟨(hal.sv x (List.mem_of_mem_take hx)).src V hbel, (hal.sv x (List.mem_of_mem_take hx)).byt⟩) (by rw [q4, htl]) (by rw [q4]; omega)
      have e : xs.map Prod.snd = (tb.take M).map Prod.snd := by rw [q3, List.map_take, HB13.out.2.2.1]; exact HG.out.2
      rw [decide_eq_true e] at h
      exact h
    have hMNA : ¬ (M : Int) < (NA : Int) := by have h1 := HS8.out.2.2.2.2.2.2.2.2.1; have h2 := HB13.out.2.2.2.2.2.2; omega
    have hMNC : ¬ (NC : Int) < (M : Int) := by have := HG.out.1; omega
    go_wp2_with fail
    go_loopw [18] (fun x wr => ∃ j : Nat, j ≤ 2 ∧ x = .int .i64 (j : Int) ∧ Hid (LQ w p D (140 + 2 * j) s9.dl (.slice a13 NC c13) tb wr)) (fun x _ => 2 - (intOf x).toNat)
    case atStart => exact ⟨0, by omega, rfl, HLQ0.out⟩
    case round =>
      obtain ⟨j, hj, rfl, HJ⟩ := hrel
      by_cases hlt : j < 2
      · have hlti : (j : Int) < 2 := by omega
        have c0 : wr.cell? ⟨p, 0, none⟩ = some (.pointer (some ⟨D, 0, none⟩)) := by
          obtain ⟨R, lv, rv, h⟩ := HJ.out.row
          rw [cell_of_row _ _ _ _ _ _ h]; rfl
        have HJL : Hid (j < 2) := hlt
        clear hj hlt
        go_upto_region 32 with (first
          | (go_at_call 25; refine (HAG.out _ j (by have := HJL.out; omega) HJ.out).mono ?_; rintro e w19 ⟨L2, rfl, H19⟩; obtain ⟨P2, hP2⟩ := H19.out.2; (have HP2 : Hid (LG w19 L2 D g9 P2) := hP2); clear hP2)
          | (go_at_call 26; refine (HRE.out _ _ _ HP2.out).mono ?_; rintro e w20 ⟨ra, rc, rfl, H20⟩)
          | (go_at_call 27; refine (HBA.out _ _ _ (HP2.out.newer H20.out.1)).mono ?_; rintro e w21 ⟨ba, bn, bc, rfl, H21⟩))
        have HJ21 : Hid (LQ w p D (140 + 2 * (j + 1)) s9.dl (.slice a13 NC c13) tb w21) := (H19.out.1.newer H20.out.1).newer H21.out.1
        have HS13 : Hid (Calls Try.prog 13 #[.slice ra M rc, .slice a13 M c13] w21 fun e w' => e = .returned (.bool true) ∧ ∃ n, w' = w21.drewN n) := by
          obtain ⟨xs, h1, h2, h3, h4⟩ := H20.out.2
          refine HSA.out w21 ra rc _ HJ21.out ⟨_, xs, own_at h1 fun q hq => H21.out.1.block q (h1.lt q hq).2, fun x hx => own_at (h2 x hx) fun q hq => H21.out.1.block q ((h2 x hx).lt q hq).2, h3, h4⟩
        obtain ⟨T, hT⟩ : ∃ T, bT bb = T := ⟨_, rfl⟩
        have q2 : (convert 23 9 bv).run Try.prog w21 = .ok (.string T) w21 := by
          rw [← hT]
          exact Src.conv (HIN.out.2.1.src w21 HJ21.out.below) HIN.out.2.1.byt
        have q1 : cb = true → (convert 23 9 (.slice ba bn bc)).run Try.prog w21 = .ok (.string T) w21 := fun hc => by
          have h := H21.out.2 hc
          have hbnl : bn = bb.length := by
            rcases h.2 with ⟨h1, h2⟩ | ⟨g, cap, cur, h1, -⟩
            · injection h1 with e1 e2 e3
              omega
            · injection h1 with e1 e2 e3
          rw [← hT]
          subst hbnl
          exact Src.conv (own_src h) HIN.out.2.1.byt
        have hTT : (T.toList == T.toList) = true := by simp
        clear hT
        cases cb with
        | true =>
          have q3 := q1 rfl
          clear q1
          go_wp2_with (go_at_call 13; refine HS13.out.mono ?_; rintro e w22 ⟨rfl, n22, rfl⟩)
          go_roundw
          case rel => exact ⟨j + 1, by have := HJL.out; omega, by push_cast; rfl, HJ21.out.newer (drewN_below w21 n22)⟩
          case measure => have := HJL.out; simp [intOf]; omega
        | false =>
          clear q1
          go_wp2_with (go_at_call 13; refine HS13.out.mono ?_; rintro e w22 ⟨rfl, n22, rfl⟩)
          go_roundw
          case rel => exact ⟨j + 1, by have := HJL.out; omega, by push_cast; rfl, HJ21.out.newer (drewN_below w21 n22)⟩
          case measure => have := HJL.out; simp [intOf]; omega
      · have hlti : ¬ (j : Int) < 2 := by omega
        clear hj hlt
        go_wp2_with (go_at_call 15; refine (HKN.out _).mono ?_; rintro e w19 ⟨rfl, H19⟩)
        refine bodyPost_ret (v := .bool true) (results_tmp Try.results4 _ _ _) rfl ⟨rfl, ?_⟩
        exact HJ.out.below.trans (H19.out.mono HJ.out.below.size)
  · have hb : (!(decide (M ≤ NC ∧ s9.l = s6.l.take M))) = true := by rw [decide_eq_false hg]; rfl
    rw [hb]
    clear hg hb
    go_wp2_with (go_at_call 15; refine (HKN.out _).mono ?_; rintro e w19 ⟨rfl, H19⟩)
    refine bodyPost_ret (v := .bool true) (results_tmp Try.results4 _ _ _) rfl ⟨rfl, ?_⟩
    exact HLQ0.out.below.trans (H19.out.mono HLQ0.out.below.size)
end Go.Proofs.Ytflhgphjkhplmaa.D
