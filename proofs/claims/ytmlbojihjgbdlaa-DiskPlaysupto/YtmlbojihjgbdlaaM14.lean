import Derived.Test.YtmlbojihjgbdlaaM13
import Derived.BigQuiet
import Derived.SizedLaws
import Derived.Test.YtmlbojihjgbdlaaM12
import Derived.RangeFuncNested
import Derived.RangeFuncBound
import Derived.RangeFuncCalls
import Derived.RangeFuncLeaves
import Derived.OwnWalkIn
import Derived.TacticsInMore
import Derived.LoopNIn
import Derived.LoopIn
/- DiskApart: a disk played, one name meddled with: all other names read as the model says. -/
namespace Go.Proofs.Ytmlbojihjgbdlaa.D
open Go.RowKit
set_option linter.unusedVariables false
set_option linter.unusedSimpArgs false

variable {w w0 w1 w2 : World} {D R k : Nat} {s1 sy : Int} {d1 dl : List Fd} {ks : List (Nat × Obj)} {s t : List UInt8}
theorem lk_set {b ws : List Int} (h : t ≠ s) : ∀ dl : List Fd, lkF t (setF s b ws dl) = lkF t dl
  | [] => rfl
  | x :: r => by
    unfold setF
    split
    · rename_i e
      rw [lkF, lkF, if_neg (by dsimp only; rw [← e]; exact h), if_neg (by rw [← e]; exact h)]
    · rw [lkF, lkF, lk_set h r]
theorem lk_out (h : t ≠ s) : ∀ dl : List Fd, lkF t (outF s dl) = lkF t dl
  | [] => rfl
  | x :: r => by
    unfold outF
    split
    · rename_i e
      rw [lkF, if_neg (by rw [← e]; exact h)]
    · rw [lkF, lkF, lk_out h r]
theorem lk_ins {x : Fd} (h : t ≠ x.nm) : ∀ dl : List Fd, lkF t (insF x dl) = lkF t dl
  | [] => by
    show lkF t [x] = none
    unfold lkF
    rw [if_neg h]
    rfl
  | y :: r => by
    unfold insF
    split
    · rw [lkF, lkF, lk_ins h r]
    · rw [lkF, if_neg h]
theorem lk_ap (h : t ≠ s) (bs : List Int) (dl : List Fd) : lkF t (apD s bs dl) = lkF t dl := by
  unfold apD resA
  split
  · rfl
  · split
    · split
      · exact lk_set h dl
      · rfl
    · split
      · rfl
      · rw [lk_set h, lk_ins h]
theorem lk_sy (h : t ≠ s) (dl : List Fd) : lkF t (syD s dl) = lkF t dl := by
  unfold syD
  split
  · rfl
  · exact lk_set h dl
theorem lk_cu (h : t ≠ s) (n : Int) (dl : List Fd) : lkF t (cuD s n dl) = lkF t dl := by
  unfold cuD
  split
  · rfl
  · split
    · rfl
    · exact lk_set h dl
/-- Meddled with one name. -/
def mdD (s : List UInt8) (bs : List Int) (n : Int) (dl : List Fd) : List Fd := rmD s (cuD s n (syD s (apD s bs dl)))
theorem lk_md (h : t ≠ s) (bs : List Int) (n : Int) (dl : List Fd) : lkF t (mdD s bs n dl) = lkF t dl := by
  unfold mdD rmD
  rw [lk_out h, lk_cu h, lk_sy h, lk_ap h]
theorem lk_self : ∀ {dl : List Fd} {i : Nat} {x : Fd}, (dl.map Fd.nm).Nodup → dl[i]? = some x → lkF x.nm dl = some x
  | [], i, x, _, h => by simp at h
  | y :: r, 0, x, _, h => by
    have : y = x := by simpa using h
    rw [this, lkF, if_pos rfl]
  | y :: r, i + 1, x, hn, h => by
    have h' : r[i]? = some x := by simpa using h
    rw [List.map_cons, List.nodup_cons] at hn
    rw [lkF, if_neg (fun e => hn.1 (by rw [← e]; exact List.mem_map_of_mem (List.mem_of_getElem? h')))]
    exact lk_self hn.2 h'
/-- Both sides, of different files. -/
structure PQ (w0 wr : World) (D R : Nat) (s1 : Int) (d1 : List Fd) (sy : Int) (dl : List Fd) (d : List UInt8) : Prop where
  pp : PP w0 wr D R s1 d1 sy dl []
  inv : Inv 124 s1 d1
  rd : ∀ x ∈ dl, x.nm ≠ d → lkF x.nm d1 = some x
  byt : ∀ x ∈ dl, Byt x.b ∧ x.b.length ≤ 1048576
  len : dl.length ≤ 64
theorem PQ.newer {d : List UInt8} (h : PQ w0 w1 D R s1 d1 sy dl d) (hb : Below w1.heap.size w1 w2) : PQ w0 w2 D R s1 d1 sy dl d := ⟨h.pp.newer hb, h.inv, h.rd, h.byt, h.len⟩
theorem PQ.md {d : List UInt8} {bs : List Int} {n : Int} (h : PP w0 w1 D R s1 (mdD d bs n dl) sy dl []) (i : Inv 120 sy dl) (hi : Inv 124 s1 (mdD d bs n dl)) (hnd : (dl.map Fd.nm).Nodup) : PQ w0 w1 D R s1 (mdD d bs n dl) sy dl d := by
  refine ⟨h, hi, fun x hx hn => ?_, fun x hx => ⟨(i.each x hx).1, (i.each x hx).2.1⟩, i.len⟩
  rw [lk_md hn]
  obtain ⟨j, hj⟩ := List.getElem?_of_mem hx
  exact lk_self hnd hj
theorem PQ.ms {d : List UInt8} (h : PQ w0 w1 D R s1 d1 sy dl d) : ∃ lv m, MS w1 R lv m sy ∧ xsM m = dl := by
  obtain ⟨⟨F, G, h1, ⟨lv, m, h2, h3, -⟩, -⟩, -⟩ := h.pp
  exact ⟨lv, m, h2, h3⟩
theorem PQ.read {d : List UInt8} (h : PQ w0 w1 D R s1 d1 sy dl d) (s : List UInt8) : Calls Try.prog 20 #[.pointer (some ⟨D, 0, none⟩), .string (tx s)] w1 fun e w' => ∃ a cap, e = .returned (.tuple #[.slice a (rdB s d1).length cap, .int .i64 (rdE s d1)]) ∧ w'.ownsRow w1.heap.size 5 1 (.slice a (rdB s d1).length cap) (rdB s d1).length (u8l (rdB s d1)) ∧ Below w1.heap.size w1 w' := by
  obtain ⟨⟨F, G, h1, -⟩, -⟩ := h.pp
  exact p_read h1 h.inv s
/-- The four calls that meddle. -/
theorem PD.meddle {ov : Value} (h : PD w0 w1 D R) {d : List UInt8} {bs : List Int} {n : Int} {bv : Value} (hd : (d.length : Int) ≤ 140737488351232) (hb : BysP (fun b => b < w0.heap.size) w0 bv bs) (hbt : Byt bs) (hbl : bs.length ≤ 1048576) :
    Calls Try.prog 23 #[.pointer (some ⟨D, 0, none⟩), .string (tx d), bv] w1 fun e w2 => (∃ v, e = .returned v) ∧ Hid (Calls Try.prog 24 #[.pointer (some ⟨D, 0, none⟩), .string (tx d)] w2 fun e w3 => (∃ v, e = .returned v) ∧ Hid (Calls Try.prog 25 #[.pointer (some ⟨D, 0, none⟩), .string (tx d), .int .i64 n] w3 fun e w4 => (∃ v, e = .returned v) ∧ Hid (Calls Try.prog 26 #[.pointer (some ⟨D, 0, none⟩), .string (tx d)] w4 fun e w5 => (∃ v, e = .returned v) ∧ Hid (∃ s1 d1 sy dl, PQ w0 w5 D R s1 d1 sy dl d)))) := by
  obtain ⟨sy, dl, hp, i, -⟩ := h
  have hp : PP w0 w1 D R sy dl sy dl [] := hp
  have hnd : (dl.map Fd.nm).Nodup := by
    obtain ⟨⟨F, G, h1, -⟩, -⟩ := hp
    exact h1.nd
  have i1 := ap_inv (s := d) i hbt hbl
  have i2 := sy_inv (s := d) i1
  have i3 := cu_inv (s := d) (n := n) i2
  have i4 := rm_inv (s := d) i3
  refine (PP.prog hp fun F h1 h2 _ => p_append h1 i (by omega) hd (hp.srcD hb h2) hbl).mono ?_
  rintro e w2 ⟨rfl, q2⟩
  refine ⟨⟨_, rfl⟩, (PP.prog q2.out fun F h1 h2 _ => p_sync (s := d) h1 i1 (by omega)).mono ?_⟩
  rintro e w3 ⟨rfl, q3⟩
  refine ⟨⟨_, rfl⟩, (PP.prog q3.out fun F h1 h2 _ => p_cut (s := d) h1 i2 n).mono ?_⟩
  rintro e w4 ⟨rfl, q4⟩
  refine ⟨⟨_, rfl⟩, (PP.prog q4.out fun F h1 h2 _ => p_remove (s := d) h1).mono ?_⟩
  rintro e w5 ⟨rfl, q5⟩
  exact ⟨⟨_, rfl⟩, _, _, sy, dl, PQ.md q5.out i i4 hnd⟩
theorem drewN_below (w : World) (n : Nat) : Below w.heap.size w (w.drewN n) := ⟨rfl, rfl, rfl, by simp, fun q hq => by simp⟩
theorem srcLater {w w' : World} {sv : Value} {bs : List Int} (h : Src w sv bs) (hb : Below w.heap.size w w') : Src w' sv bs := Go.Proofs.Ytmlbojihjgbdlaa.Src.later h hb
theorem cell_below {w w' : World} {a : Addr} {v : Value} (hb : Below w.heap.size w w') (h : w.cell? a = some v) : w'.cell? a = some v := by
  rw [hb.cell (World.block_lt_of_cell? w _ h)]
  exact h
set_option maxRecDepth 100000 in
set_option maxHeartbeats 16000000 in
theorem apart_law {ov bv : Value} {cs : List Cl} {d : List UInt8} {bs : List Int} {n : Int} (hx : OpsIn w ov cs) (hl : cs.length ≤ 1048576) (hd : (d.length : Int) ≤ 140737488351232) (hb : BysP (fun b => b < w.heap.size) w bv bs) (hbt : Byt bs) (hbl : bs.length ≤ 1048576) :
    Calls Try.prog 6 #[ov, .string (tx d), bv, .int .i64 n] w fun e w' => e = .returned (.bool true) ∧ Below w.heap.size w w' := by
  have HPL : Hid (Calls Try.prog 14 #[ov] w fun e w' => ∃ D R, e = .returned (.tuple #[.pointer (some ⟨D, 0, none⟩), .pointer (some ⟨R, 0, none⟩)]) ∧ Hid (PD w w' D R)) := played_any hx hl
  have HME : Hid (∀ (V : World) (D R : Nat), PD w V D R → _) := fun V D R hV => PD.meddle (ov := ov) (n := n) hV hd hb hbt hbl
  obtain ⟨sa, cap, rfl, -⟩ := hx
  obtain ⟨ba, bc, rfl, -⟩ := hb
  generalize cs.length = len at *
  generalize bs.length = bn at *
  clear hl hd hbt hbl
  go_enter Try.func6, Try.ntmps6
  go_upto_region 5 with (first | (go_at_call 14; refine HPL.out.mono ?_; rintro e w1 ⟨D, R, rfl, H1⟩; (have HM := HME.out w1 D R H1.out)) | (go_at_call 23; refine HM.mono ?_; rintro e w2 ⟨⟨v2, rfl⟩, H2⟩))
  go_upto_region 8 with (first | (go_at_call 24; refine H2.out.mono ?_; rintro e w3 ⟨⟨v3, rfl⟩, H3⟩) | (go_at_call 25; refine H3.out.mono ?_; rintro e w4 ⟨⟨v4, rfl⟩, H4⟩) | (go_at_call 26; refine H4.out.mono ?_; rintro e w5 ⟨⟨v5, rfl⟩, H5⟩))
  clear HPL HME HM H1 H2 H3 H4
  obtain ⟨s1, d1, sy, dl, h5⟩ := H5.out
  have H : Hid (PQ w w5 D R s1 d1 sy dl d) := h5
  obtain ⟨M, hM⟩ : ∃ M, dl.length = M := ⟨_, rfl⟩
  have HN : Hid (dl.length = M ∧ M ≤ 64) := ⟨hM, by have := h5.len; omega⟩
  have hM64 : (M : Int) ≤ 64 := by have := HN.out; omega
  clear H5 h5 hM
  go_upto_region 9 with (fail)
  go_loopw [11] (fun b wx => ∃ (i : Nat), b = .int .i64 (i : Int) ∧ i ≤ M ∧ Hid (PQ w wx D R s1 d1 sy dl d)) (fun b wx => M - (intOf b).toNat)
  case atStart => exact ⟨0, rfl, by omega, H⟩
  case round =>
    clear H
    obtain ⟨i, rfl, hi, H⟩ := hrel
    obtain ⟨lv, m, hms, hxs⟩ := H.out.ms
    have hml : m.length = M := by rw [← HN.out.1, ← hxs, xsM_len]
    by_cases cl : i < M
    · have cl' : (i : Int) < (M : Int) := by omega
      obtain ⟨t, ht⟩ : ∃ t, m[i]? = some t := ⟨_, List.getElem?_eq_getElem (by omega)⟩
      have hdt : dl[i]? = some t.x := by rw [← hxs]; exact xsM_at ht
      have hmem : t.x ∈ dl := List.mem_of_getElem? hdt
      obtain ⟨g, gc, rfl, q1, q2, q3, e0, e1, -, -, -⟩ := hms.openK ht
      rw [hml] at q1 q2 q3
      have HRD : Hid (Calls Try.prog 20 #[.pointer (some ⟨D, 0, none⟩), .string (tx t.x.nm)] wr fun e w' => ∃ a cap, e = .returned (.tuple #[.slice a (rdB t.x.nm d1).length cap, .int .i64 (rdE t.x.nm d1)]) ∧ w'.ownsRow wr.heap.size 5 1 (.slice a (rdB t.x.nm d1).length cap) (rdB t.x.nm d1).length (u8l (rdB t.x.nm d1)) ∧ Below wr.heap.size wr w') := H.out.read t.x.nm
      have HSRC : Hid (Src wr (.slice t.da t.x.b.length t.dc) t.x.b) := own_src (hms.ml t (List.mem_of_getElem? ht)).rd
      have HBT : Hid (Byt t.x.b ∧ t.x.b.length ≤ 1048576) := H.out.byt t.x hmem
      have HNE : Hid (t.x.nm ≠ d → lkF t.x.nm d1 = some t.x) := H.out.rd t.x hmem
      have HIV : Hid (Byt (rdB t.x.nm d1) ∧ (rdB t.x.nm d1).length ≤ 1048576) := H.out.inv.rd _
      have HI : Hid (i < M) := cl
      obtain ⟨tn, htn⟩ : ∃ tn, t.x.nm = tn := ⟨_, rfl⟩
      obtain ⟨tb, htb⟩ : ∃ tb, t.x.b = tb := ⟨_, rfl⟩
      rw [htn] at e0 HRD HNE HIV
      rw [htb] at e1 HSRC HBT
      have HNE2 : Hid (tn ≠ d → rdB tn d1 = tb ∧ rdE tn d1 = 0) := fun h => by
        have := HNE.out h
        unfold rdB rdE
        rw [this]
        exact ⟨htb, rfl⟩
      obtain ⟨B, hB⟩ : ∃ B, rdB tn d1 = B := ⟨_, rfl⟩
      obtain ⟨E, hE⟩ : ∃ E, rdE tn d1 = E := ⟨_, rfl⟩
      rw [hB, hE] at HRD HNE2
      rw [hB] at HIV
      generalize t.da = da at *
      generalize t.dc = dc at *
      clear hms hxs hml ht hdt hmem hB hE HNE htn htb hi cl
      go_upto_region 12 with (go_at_call 20; refine HRD.out.mono ?_; rintro e w6 ⟨a6, c6, rfl, hr6, hb6⟩; (have HR6 : Hid (w6.ownsRow wr.heap.size 5 1 (.slice a6 B.length c6) B.length (u8l B) ∧ Below wr.heap.size wr w6) := ⟨hr6, hb6⟩); clear hr6 hb6)
      have H6 : Hid (PQ w w6 D R s1 d1 sy dl d) := H.out.newer HR6.out.2
      have f3 : w6.cell? ⟨R, 0, none⟩ = some (.slice (some ⟨g, 0, none⟩) M gc) := cell_below HR6.out.2 q3
      have f0 : w6.cell? ⟨g, i * 4, none⟩ = some (.string (tx tn)) := cell_below HR6.out.2 e0
      have f1 : w6.cell? ⟨g, i * 4 + 1, none⟩ = some (.slice da tb.length dc) := cell_below HR6.out.2 e1
      clear q3 e0 e1 HRD
      by_cases hne : tn = d
      · subst hne
        have hbb : ((tx tn).toList == (tx tn).toList) = true := by simp
        go_quiet (fail)
        go_wp2_with fail
        go_roundw
        case rel => exact ⟨i + 1, by go_num, by have := HI.out; omega, H6.out.newer (drewN_below _ _)⟩
        case measure => have := HI.out; simp [intOf]; omega
      · obtain ⟨hb1, hb2⟩ := HNE2.out hne
        subst hb1 hb2
        have hbb : ((tx tn).toList == (tx d).toList) = false := by rw [tx_list, tx_list]; simpa using hne
        have t6 : ∀ n, (convert 31 9 (.slice a6 B.length c6)).run Try.prog (w6.drewN n) = .ok (.string ⟨(strB B).toArray⟩) (w6.drewN n) := fun n => Src.conv (srcLater (own_src HR6.out.1) (drewN_below w6 n)) HBT.out.1
        have t1 : ∀ n, (convert 31 9 (.slice da B.length dc)).run Try.prog (w6.drewN n) = .ok (.string ⟨(strB B).toArray⟩) (w6.drewN n) := fun n => Src.conv (srcLater (srcLater HSRC.out HR6.out.2) (drewN_below w6 n)) HBT.out.1
        obtain ⟨T, hT⟩ : ∃ T : ByteArray, (⟨(strB B).toArray⟩ : ByteArray) = T := ⟨_, rfl⟩
        rw [hT] at t6 t1
        have hTT : (T.toList == T.toList) = true := by simp
        generalize B.length = n6 at *
        clear hT hne
        go_quiet (fail)
        go_wp2_with fail
        go_roundw
        case rel => exact ⟨i + 1, by go_num, by have := HI.out; omega, H6.out.newer (drewN_below _ _)⟩
        case measure => have := HI.out; simp [intOf]; omega
    · have hiM : i = M := by omega
      subst hiM
      obtain ⟨ga, gc, hlv⟩ := own_slice hms.row
      have q3 := hms.cells.1
      rw [hlv, hml] at q3
      have HE : Hid (Below w.heap.size w wr) := H.out.pp.bel
      clear hms hxs hml hlv cl hi
      go_wp2_with (go_at_call 13; refine (known_any _).mono ?_; rintro e w7 ⟨rfl, hb7⟩; (have HB7 : Hid (Below wr.heap.size wr w7) := hb7); clear hb7)
      go_ret
      exact ⟨rfl, HE.out.trans (HB7.out.mono HE.out.size)⟩
end Go.Proofs.Ytmlbojihjgbdlaa.D

/- Calls that came in, out of what the input says. -/
namespace Go.Proofs.Ytmlbojihjgbdlaa.D
open Go.ChangeShapes Go.WideShapes Go.ChangeAt Go.RowKit
set_option linter.unusedVariables false
set_option linter.unusedSimpArgs false

set_option maxRecDepth 20000 in
/-- One call, as it lies. -/
theorem op_of {H : Type} {enc : TypeId × Value → H} {W : World} {fuel b o : Nat} {cs : List Value} {x : DataW H × List MemPlace} (hc : W.cells? 0 ⟨b, o, none⟩ 6 = some cs) (h : DataW.trod enc Try.prog W 0 (fun _ => true) true fuel 34 cs = some x) (hd : Rows.uptoBulk x.1 ≤ 1048576) (hw : ∀ n ∈ x.1.weights Try.prog 34, n ≤ reachBytes) :
    ∃ c : Cl, c.In W ∧ b < W.heap.size ∧ W.cell? ⟨b, o, none⟩ = some (.int .i64 c.kind) ∧ W.cell? ⟨b, o + 1, none⟩ = some (.string (tx c.nm)) ∧ W.cell? ⟨b, o + 2, none⟩ = some (.string (tx c.nm2)) ∧ W.cell? ⟨b, o + 3, none⟩ = some (.int .i64 c.n) ∧ W.cell? ⟨b, o + 4, none⟩ = some c.bv ∧ W.cell? ⟨b, o + 5, none⟩ = some c.kv := by
  have hrb : reachBytes = 140737488351232 := rfl
  obtain ⟨_, hlen, hcell⟩ := World.cells?_some hc
  obtain ⟨xs, k, hk, hxy, _, hxl, hf⟩ := DataW.trod_struct Try.underlying34 h
  match xs, hxl, cs, hlen with
  | [y0, y1, y2, y3, y4, y5], _, [v0, v1, v2, v3, v4, v5], _ =>
    have g0 := hf 0 _ rfl
    have g1 := hf 1 _ rfl
    have g2 := hf 2 _ rfl
    have g3 := hf 3 _ rfl
    have g4 := hf 4 _ rfl
    have g5 := hf 5 _ rfl
    have k3 : Try.prog.cellsOf 3 = 1 := by kernel_rfl
    have k9 : Try.prog.cellsOf 9 = 1 := by kernel_rfl
    have k31 : Try.prog.cellsOf 31 = 1 := by kernel_rfl
    have k32 : Try.prog.cellsOf 32 = 1 := by kernel_rfl
    simp [k3, k9, k31, k32] at g0 g1 g2 g3 g4 g5
    have e0 := hcell 0 (by omega)
    have e1 := hcell 1 (by omega)
    have e2 := hcell 2 (by omega)
    have e3 := hcell 3 (by omega)
    have e4 := hcell 4 (by omega)
    have e5 := hcell 5 (by omega)
    rw [Addr.add_mid] at e0 e1 e2 e3 e4 e5
    simp at e0 e1 e2 e3 e4 e5
    obtain ⟨K, hK, _, _⟩ := DataW.trod_int Try.underlying3 g0
    obtain ⟨A, hA, hxA, _⟩ := DataW.trod_string Try.underlying9 g1
    obtain ⟨B, hB, hxB, _⟩ := DataW.trod_string Try.underlying9 g2
    obtain ⟨N, hN, _, _⟩ := DataW.trod_int Try.underlying3 g3
    simp only [List.cons.injEq, and_true] at hK hA hB hN
    rw [hxy] at hd hw
    have w1 : ∀ n ∈ y1.1.weights Try.prog 9, n ≤ reachBytes := fun n hn => hw n (by
      simp only [DataW.weights, Try.underlying34]
      exact DataW.weights_mem_each (j := 1) (t := 9) (d := y1.1) rfl rfl n hn)
    have w2 : ∀ n ∈ y2.1.weights Try.prog 9, n ≤ reachBytes := fun n hn => hw n (by
      simp only [DataW.weights, Try.underlying34]
      exact DataW.weights_mem_each (j := 2) (t := 9) (d := y2.1) rfl rfl n hn)
    rw [hxA] at w1
    rw [hxB] at w2
    have w1' := w1 A.data.toList.length (by simp [DataW.weights])
    have w2' := w2 B.data.toList.length (by simp [DataW.weights])
    simp only [List.map_cons, List.map_nil, Rows.uptoBulk, Rows.uptoBulkAll] at hd
    obtain ⟨bs, hb1, hb2, hb3⟩ := bytes_of (d := y4.1) (q := y4.2) g4 (by omega)
    obtain ⟨kn, hk1, hk2⟩ := keeps_of (d := y5.1) (q := y5.2) g5 (by omega)
    refine ⟨⟨K, A.data.toList, B.data.toList, N, bs, kn, v4, v5⟩, ⟨⟨hb2, hb3, hk2, by dsimp only; omega, by dsimp only; omega⟩, hb1, hk1⟩, cell_block e0, by rw [e0, hK], ?_, ?_, by rw [e3, hN], e4, e5⟩
    · rw [e1, hA]
      exact congrArg (fun x => some (Value.string x)) (tx_of' A)
    · rw [e2, hB]
      exact congrArg (fun x => some (Value.string x)) (tx_of' B)
theorem weights_all {H : Type} {P : Program} {e : TypeId} : ∀ {l : List (DataW H)} {d : DataW H}, d ∈ l → ∀ n ∈ d.weights P e, n ∈ DataW.weightsAll P e l
  | x :: r, d, h, n, hn => by
    simp only [DataW.weightsAll, List.mem_append]
    rcases List.mem_cons.1 h with rfl | h
    · exact .inl hn
    · exact .inr (weights_all h n hn)
theorem ops_arg {H : Type} {enc : TypeId × Value → H} {W : World} {fuel : Nat} {v : Value} {d : DataW H} {q : List MemPlace} (h : DataW.trod enc Try.prog W 0 (fun _ => true) true fuel 22 [v] = some (d, q)) (hd : Rows.uptoBulk d ≤ 1048576) (hw : ∀ n ∈ d.weights Try.prog 22, n ≤ reachBytes) :
    ∃ cs, OpsIn W v cs ∧ cs.length ≤ 1048576 := by
  rcases Deep.open_slice Try.underlying22 h with ⟨hcs, _⟩ | ⟨a, len, cap, m, n, D, Pl, hcs, _, hl, hm, hmm, hx, hcell⟩
  · simp only [List.cons.injEq, and_true] at hcs
    subst hcs
    exact ⟨[], ⟨none, 0, rfl, Nat.le_refl _, fun i f hi => by simp at hi⟩, by decide⟩
  · simp only [List.cons.injEq, and_true] at hcs
    subst hcs
    simp only [Prod.mk.injEq] at hx
    rw [hx.1] at hd hw
    simp only [Rows.uptoBulk] at hd
    simp only [DataW.weights, Try.underlying22, List.mem_cons, List.mem_append] at hw
    have hmc : m = cap := by simpa using hmm
    have hlen := bulk_len ((List.range len).map D)
    simp only [List.length_map, List.length_range] at hlen
    have k34 : Try.prog.cellsOf 34 = 6 := by kernel_rfl
    rw [k34] at hcell
    by_cases h0 : len = 0
    · subst h0
      exact ⟨[], ⟨some a, cap, rfl, Nat.zero_le _, fun i f hi => by simp at hi⟩, by decide⟩
    · obtain ⟨b, off, rfl⟩ : ∃ b off, a = ⟨b, off, none⟩ := by
        obtain ⟨cs, h1, _⟩ := hcell 0 (by omega)
        obtain ⟨_, hlen', hc'⟩ := World.cells?_some h1
        have h2 := hc' 0 (by omega)
        exact plain_addr (x := a) (v := cs[0]'(by omega)) (by
          have h3 : W.cell? a = cs[0]? := by simpa [Addr.add] using h2
          rw [h3]
          exact List.getElem?_eq_getElem (by omega))
      have each : ∀ i, i < len → ∃ c : Cl, c.In W ∧ b < W.heap.size ∧ W.cell? ⟨b, off + i * 6, none⟩ = some (.int .i64 c.kind) ∧ W.cell? ⟨b, off + i * 6 + 1, none⟩ = some (.string (tx c.nm)) ∧ W.cell? ⟨b, off + i * 6 + 2, none⟩ = some (.string (tx c.nm2)) ∧ W.cell? ⟨b, off + i * 6 + 3, none⟩ = some (.int .i64 c.n) ∧ W.cell? ⟨b, off + i * 6 + 4, none⟩ = some c.bv ∧ W.cell? ⟨b, off + i * 6 + 5, none⟩ = some c.kv := fun i hi => by
        obtain ⟨cs, h1, h2⟩ := hcell i (by omega)
        rw [Addr.add_mid] at h1
        have hmem : D i ∈ (List.range len).map D := List.mem_map.2 ⟨i, List.mem_range.2 hi, rfl⟩
        have hb := bulk_mem hmem
        exact op_of h1 h2 (by show Rows.uptoBulk (D i) ≤ _; omega) fun n hn => hw n (.inr (.inl (weights_all hmem n hn)))
      have inh : Inhabited Cl := ⟨⟨0, [], [], 0, [], [], undef, undef⟩⟩
      obtain ⟨F, hF⟩ := Deep.choose_lt each
      refine ⟨(List.range len).map F, ⟨some ⟨b, off, none⟩, cap, by simp, by simpa using hl, fun i f hi => ?_⟩, by simp; omega⟩
      rw [List.getElem?_map] at hi
      have hil : i < len := by
        cases hq : (List.range len)[i]? with
        | none => rw [hq] at hi; cases hi
        | some y => have := (List.getElem?_eq_some_iff.1 hq).1; simpa using this
      rw [List.getElem?_range hil] at hi
      have hfe : F i = f := by simpa using hi
      obtain ⟨c0, c1, c2⟩ := hF i hil
      rw [hfe] at c0 c2
      exact ⟨c0, b, off, rfl, c1, c2⟩
end Go.Proofs.Ytmlbojihjgbdlaa.D

/- DiskPlays: the law, over what is left to show of alike. -/
namespace Go.Proofs.Ytmlbojihjgbdlaa.D
open Go.RowKit
set_option linter.unusedVariables false
set_option linter.unusedSimpArgs false

variable {w w0 w1 w2 : World} {D R k : Nat} {sy : Int} {dl : List Fd} {ks : List (Nat × Obj)} {c : Cl}
/-- What is left to show: alike, 12. -/
def AlikeOk : Prop := ∀ (w0 V : World) (D R : Nat) (sy : Int) (dl : List Fd), PS w0 V D R sy dl [] → Inv 121 sy dl → Ord dl → Calls Try.prog 12 #[.pointer (some ⟨D, 0, none⟩), .pointer (some ⟨R, 0, none⟩)] V fun e w2 => e = .returned (.bool true) ∧ Below V.heap.size V w2
set_option maxRecDepth 100000 in
set_option maxHeartbeats 16000000 in
theorem plays_law (hal : AlikeOk) {ov : Value} {cs : List Cl} {s : List UInt8} (hx : OpsIn w ov cs) (hl : cs.length ≤ 1048576) (hs : (s.length : Int) ≤ 140737488351232) : Calls Try.prog 3 #[ov, .string (tx s)] w fun e w' => e = .returned (.bool true) ∧ Below w.heap.size w w' := by
  have HAL : Hid AlikeOk := hal
  have HN9 : Hid (∀ V : World, Calls Try.prog 9 #[.string (tx s)] V fun e w' => e = .returned (.bool (nameB s)) ∧ w' = V) := fun V => name_any s V hs
  have HN10 : Hid (∀ V : World, Calls Try.prog 10 #[.string (tx s)] V fun e w' => e = .returned (.bool (nameB s)) ∧ w' = V) := fun V => rname_any s V hs
  obtain ⟨nb, hnb⟩ : ∃ nb, nameB s = nb := ⟨_, rfl⟩
  rw [hnb] at HN9 HN10
  clear hal hs hnb
  have HX : Hid (OpsIn w ov cs) := hx
  obtain ⟨sa, cap, rfl, hcap, -⟩ := hx
  obtain ⟨len, hlen⟩ : ∃ len, cs.length = len := ⟨_, rfl⟩
  have HN : Hid (cs.length = len) := hlen
  rw [hlen] at hl hcap HX ⊢
  obtain ⟨W1, W2, e1, e2, e3, hP⟩ := ps_new w
  have HP : Hid (PS w W2 w.heap.size (w.heap.size + 1) 0 [] []) := hP
  have HNEW : Hid (Calls Try.prog 8 #[] w fun e w' => e = .returned (.pointer (some ⟨w.heap.size, 0, none⟩)) ∧ w' = W1) := by
    rw [← e1]
    exact new70 w
  obtain ⟨R, hR⟩ : ∃ R, w.heap.size + 1 = R := ⟨_, rfl⟩
  obtain ⟨D, hD⟩ : ∃ D, w.heap.size = D := ⟨_, rfl⟩
  rw [hR] at e3 HP
  rw [hD] at HP HNEW
  have hcapi : (len : Int) ≤ (cap : Int) := by omega
  have hli : (len : Int) ≤ 1048576 := by omega
  clear hlen hP e1 hcap hR hD hl
  cases nb
  all_goals
    go_enter Try.func3, Try.ntmps3
    go_upto_region 6 with (first | (go_at_call 8; refine HNEW.out.mono ?_; rintro e w1 ⟨rfl, hw1⟩; rw [hw1]; clear hw1) | (go_at_call 9; refine (HN9.out _).mono ?_; rintro e w1 ⟨rfl, hw1⟩; rw [hw1]; clear hw1) | (go_at_call 10; refine (HN10.out _).mono ?_; rintro e w1 ⟨rfl, hw1⟩; rw [hw1]; clear hw1))
    clear HNEW e2 e3
    go_loopw [7] (fun b wx => ∃ (i : Nat) (sy : Int) (dl : List Fd), b = .int .i64 (i : Int) ∧ i ≤ 120 ∧ i ≤ len ∧ Hid (Inv i sy dl ∧ Ord dl) ∧ Hid (PS w wx D R sy dl [])) (fun b wx => 120 - (intOf b).toNat)
    case atStart => exact ⟨0, 0, [], rfl, by omega, by omega, ⟨inv_nil, ord_nil⟩, HP⟩
    case round =>
      obtain ⟨i, sy, dl, rfl, hi, hil, HI, H⟩ := hrel
      by_cases cl : i < len ∧ i < 120
      · have cl' : (i : Int) < (len : Int) := by omega
        have c2' : (i : Int) < 120 := by omega
        obtain ⟨c, hxx⟩ : ∃ c, cs[i]? = some c := ⟨_, List.getElem?_eq_getElem (by have := HN.out; omega)⟩
        obtain ⟨sa', cap', e0, -, hops⟩ := HX.out
        obtain ⟨hin, b, off, e, hlt, y0, y1, y2, y3, y4, y5⟩ := hops i c hxx
        have HCI : Hid (c.In w) := hin
        have e0' : sa' = sa := by injection e0 with e0; exact e0.symm
        rw [e0'] at e
        subst e
        have hcl : ∀ (j : Nat) (u : Value), w.cell? ⟨b, j, none⟩ = some u → wr.cell? ⟨b, j, none⟩ = some u := fun j u hu => (cell_same (H.out.bel.block b hlt)).trans hu
        replace y0 := hcl _ _ y0
        replace y1 := hcl _ _ y1
        replace y2 := hcl _ _ y2
        replace y3 := hcl _ _ y3
        replace y4 := hcl _ _ y4
        replace y5 := hcl _ _ y5
        have HCA : Hid (Calls Try.prog 11 #[.pointer (some ⟨D, 0, none⟩), .pointer (some ⟨R, 0, none⟩), c.val] wr fun e w2 => e = .returned (.bool true) ∧ Hid (PN w w2 D R i dl [])) := PS.call_any H.out HI.out.1 (by omega) hin
        obtain ⟨ba, bc, hbv, -⟩ := hin.by'
        obtain ⟨ka, kc, hkv, -⟩ := hin.kp
        obtain ⟨kind, s, s', n, bb, kn, bv, kv⟩ := c
        unfold Cl.val at HCA
        dsimp only at y0 y1 y2 y3 y4 y5 hbv hkv HCA
        generalize bb.length = bn at hbv
        generalize kn.length = kkn at hkv
        subst hbv hkv
        have HII : Hid (i < 120 ∧ i < len) := ⟨cl.2, cl.1⟩
        have HOR : Hid (Ord dl) := HI.out.2
        clear hcl hops e0 e0' hin hlt hxx cl hi hil H HI HX
        go_wp2_with (first | (go_at_call 11; refine HCA.out.mono ?_; rintro e w4 ⟨rfl, HM4⟩; (have HAK : Hid (Calls Try.prog 12 #[.pointer (some ⟨D, 0, none⟩), .pointer (some ⟨R, 0, none⟩)] w4 fun e w5 => e = .returned (.bool true) ∧ Hid (PN w w5 D R i dl [])) := (by (obtain ⟨sy', dl', k1, k2, k3⟩ := HM4.out); (refine (HAL.out w w4 D R sy' dl' k1 (k2.to (by have := HII.out; omega)) (k3 HOR.out)).mono ?_); (rintro e w5 ⟨rfl, hb5⟩); exact ⟨rfl, sy', dl', PP.newer k1 hb5, k2, k3⟩))) | (go_at_call 12; refine HAK.out.mono ?_; rintro e w5 ⟨rfl, HM5⟩))
        go_roundw
        case rel =>
          obtain ⟨sy', dl', k1, k2, k3⟩ := HM5.out
          exact ⟨i + 1, sy', dl', by go_num, by have := HII.out; omega, by have := HII.out; omega, ⟨k2, k3 HOR.out⟩, k1⟩
        case measure => have := HII.out; simp [intOf]; omega
      · have HE : Hid (Below w.heap.size w wr) := H.out.bel
        by_cases c1 : i < len
        · have hi' : i = 120 := by omega
          subst hi'
          have c1' : ((120 : Nat) : Int) < (len : Int) := by omega
          rw [show ((120 : Nat) : Int) = 120 from rfl] at c1' ⊢
          clear cl c1 hi hil H HI
          go_wp2_with (go_at_call 13; refine (known_any _).mono ?_; rintro e w9 ⟨rfl, hb9⟩; (have HB9 : Hid (Below wr.heap.size wr w9) := hb9); clear hb9)
          go_ret
          exact ⟨rfl, HE.out.trans (HB9.out.mono HE.out.size)⟩
        · have c1' : ¬ (i : Int) < (len : Int) := by omega
          clear cl c1 hi hil H HI
          go_wp2_with (go_at_call 13; refine (known_any _).mono ?_; rintro e w9 ⟨rfl, hb9⟩; (have HB9 : Hid (Below wr.heap.size wr w9) := hb9); clear hb9)
          go_ret
          exact ⟨rfl, HE.out.trans (HB9.out.mono HE.out.size)⟩
end Go.Proofs.Ytmlbojihjgbdlaa.D

/- The model's Pending; names in order between calls. -/
namespace Go.Proofs.Ytmlbojihjgbdlaa.D
open Go.RowKit
set_option linter.unusedVariables false
set_option linter.unusedSimpArgs false

variable {w w' : World} {R k : Nat} {sy : Int} {G : Nat → Prop} {dl : List Fd} {s s' : List UInt8} {x : Fd}
theorem totW_app (a b : List Fd) : totW (a ++ b) = totW a + totW b := by unfold totW; rw [List.map_append, List.sum_append]
theorem totW_take {dl : List Fd} {i : Nat} {x : Fd} (h : dl[i]? = some x) : totW (dl.take (i + 1)) = totW (dl.take i) + x.ws.length := by
  rw [(drop_at h).2, totW_app]
  simp [totW]
theorem totW_le (i : Nat) (dl : List Fd) : totW (dl.take i) ≤ totW dl := by
  have : totW dl = totW (dl.take i) + totW (dl.drop i) := by rw [← totW_app, List.take_append_drop]
  omega
set_option maxRecDepth 20000 in
theorem rpending_any (h : MR w R G sy dl) (hl : dl.length ≤ 1000000) (hs : totW dl ≤ 1000000000) : Calls Try.prog 41 #[.pointer (some ⟨R, 0, none⟩)] w fun e w' => e = .returned (.int .i64 (totW dl : Int)) ∧ w' = w := by
  obtain ⟨lv, m, hms, hxs, -⟩ := h
  have HMS : Hid (MS w R lv m sy ∧ xsM m = dl) := ⟨hms, hxs⟩
  obtain ⟨M, hM⟩ : ∃ M, m.length = M := ⟨_, rfl⟩
  have hml : dl.length = M := by rw [← hxs, xsM_len, hM]
  have HN : Hid (m.length = M ∧ dl.length = M ∧ M ≤ 1000000 ∧ totW dl ≤ 1000000000) := ⟨hM, hml, by omega, hs⟩
  have hMi : (M : Int) ≤ 1000000 := by omega
  obtain ⟨la, lc, hlv⟩ := own_slice hms.row
  have q3 := hms.cells.1
  rw [hlv, hM] at q3
  clear hms hxs hM hml hl hs hlv
  go_enter Try.func41, Try.ntmps41
  go_upto_region 3 with (fail)
  go_loopw [4, 3] (fun b c wx => ∃ i : Nat, b = .int .i64 (i : Int) ∧ c = .int .i64 ((totW (dl.take i) : Nat) : Int) ∧ i ≤ M ∧ wx = w) (fun b c wx => M - (intOf b).toNat)
  case atStart => exact ⟨0, rfl, rfl, Nat.zero_le _, rfl⟩
  case round =>
    obtain ⟨i, rfl, rfl, hi, hwx⟩ := hrel
    subst hwx
    have hT := totW_le i dl
    have hTi : ((totW (dl.take i) : Nat) : Int) ≤ 1000000000 := by have := HN.out.2.2.2; omega
    by_cases ci : i < M
    · have ci' : (i : Int) < (M : Int) := by omega
      obtain ⟨t, ht⟩ : ∃ t, m[i]? = some t := ⟨_, List.getElem?_eq_getElem (by have := HN.out.1; omega)⟩
      obtain ⟨g, gc, e, q1, q2, q3', e0, e1, e2, e3, -⟩ := HMS.out.1.openK ht
      have hdt : dl[i]? = some t.x := by rw [← HMS.out.2]; exact xsM_at ht
      have hst := totW_take hdt
      have hT2 := totW_le (i + 1) dl
      have hwi : (t.x.ws.length : Int) ≤ 1000000000 := by have := HN.out.2.2.2; omega
      have HST : Hid (((totW (dl.take (i + 1)) : Nat) : Int) = ((totW (dl.take i) : Nat) : Int) + (t.x.ws.length : Int) ∧ i < M) := ⟨by rw [hst]; push_cast; rfl, ci⟩
      have hla : la = some ⟨g, 0, none⟩ := by
        rw [HN.out.1] at q3'
        have := q3.symm.trans q3'
        injection this with this
        injection this
      subst hla
      have hcap : (M : Int) ≤ (lc : Int) := by
        rw [HN.out.1] at q3' q1
        have := q3.symm.trans q3'
        injection this with this
        injection this with _ _ h3
        omega
      have hsum0 : (0 : Int) ≤ ((totW (dl.take i) : Nat) : Int) := by omega
      have hwn0 : (0 : Int) ≤ (t.x.ws.length : Int) := by omega
      generalize ((totW (dl.take i) : Nat) : Int) = A at *
      generalize t.x.ws.length = N at *
      clear hst hT hT2 ht hdt q1 q2 q3' e0 e1 e2 e ci hi
      go_wp2_with fail
      go_roundw
      case rel =>
        refine ⟨i + 1, by go_num, ?_, by have := HST.out.2; omega, trivial⟩
        rw [HST.out.1]
      case measure => have := HST.out.2; simp [intOf]; omega
    · have hiM : i = M := by omega
      have e : dl.take i = dl := List.take_of_length_le (by have := HN.out.2.1; omega)
      rw [e]
      have HE : Hid (i = M) := hiM
      have ci' : ¬ (i : Int) < (M : Int) := by omega
      clear hT hTi hi hiM e ci
      go_wp2_with fail
      go_ret
      exact ⟨rfl, rfl⟩
end Go.Proofs.Ytmlbojihjgbdlaa.D

/- Syncs; what the calls of alike's end answer. -/
namespace Go.Proofs.Ytmlbojihjgbdlaa.D
open Go.RowKit
set_option linter.unusedVariables false
set_option linter.unusedSimpArgs false

variable {w w' w0 : World} {D R k : Nat} {F : Nat → Prop} {sy : Int} {dl : List Fd} {ks : List (Nat × Obj)}
theorem syncs_any (h : DR w D F sy dl) : Calls Try.prog 29 #[.pointer (some ⟨D, 0, none⟩)] w fun e w' => e = .returned (.int .i64 sy) ∧ w' = w := by
  obtain ⟨mv, b1, -⟩ := h.box
  have c1 : w.cell? ⟨D, 1, none⟩ = some (.int .i64 sy) := by rw [cell_of_row _ _ _ _ _ _ b1]; rfl
  clear h b1
  go_enter Try.func29, Try.ntmps29
  go_wp2_with fail
  go_ret
  exact ⟨rfl, rfl⟩
theorem Inv.totOk (i : Inv k sy dl) (hk : k ≤ 1000000) : totW dl ≤ 1000000000 := by
  have h1 := Inv.tot (k := k) fun x hx => (i.each x hx).2.2.1
  have h2 := Nat.mul_le_mul hk i.len
  omega
/-- The three calls at alike's end. -/
theorem PS.ends (h : PS w0 w D R sy dl ks) (i : Inv k sy dl) (hk : k ≤ 1000000) :
    (Calls Try.prog 17 #[.pointer (some ⟨D, 0, none⟩)] w fun e w' => e = .returned (.int .i64 (totW dl : Int)) ∧ Below w.heap.size w w' ∧ PS w0 w' D R sy dl ks) ∧
    (Calls Try.prog 41 #[.pointer (some ⟨R, 0, none⟩)] w fun e w' => e = .returned (.int .i64 (totW dl : Int)) ∧ w' = w) ∧
    (Calls Try.prog 29 #[.pointer (some ⟨D, 0, none⟩)] w fun e w' => e = .returned (.int .i64 sy) ∧ w' = w) := by
  have h' := h
  obtain ⟨⟨F, G, h1, h2, -⟩, -⟩ := h
  refine ⟨(pending_any h1 (i.totOk hk)).mono ?_, rpending_any h2 (by have := i.len; omega) (i.totOk hk), syncs_any h1⟩
  rintro e w' ⟨he, hb⟩
  exact ⟨he, hb, PP.newer h' hb⟩
/-- The range's closure. -/
theorem PS.files (h : PS w0 w D R sy dl ks) (i : Inv k sy dl) (o : Ord dl) : Calls Try.prog 28 #[.pointer (some ⟨D, 0, none⟩)] w fun e w' => ∃ a b, e = .returned (.func (.func 54) #[] #[.pointer (some ⟨a, 0, none⟩), .pointer (some ⟨b, 0, none⟩)]) ∧ ∃ kk nv, FI w w' a b kk nv dl dl.length ∧ PS w0 w' D R sy dl ks := by
  have h' := h
  obtain ⟨⟨F, G, h1, -⟩, -⟩ := h
  refine (files_any h1 o.srt (fun x hx => name_len (o.nm x hx)) (by have := i.len; omega) fun x hx => by have := (i.each x hx).2.1; omega).mono ?_
  rintro e w' ⟨a, b, he, kk, nv, hf⟩
  exact ⟨a, b, he, kk, nv, hf, PP.newer h' hf.be⟩
/-- What the model holds at a place of its list. -/
theorem PS.file (h : PS w0 w D R sy dl ks) {j : Nat} {x : Fd} (hx : dl[j]? = some x) : ∃ g gc da dc, w.cell? ⟨R, 0, none⟩ = some (.slice (some ⟨g, 0, none⟩) dl.length gc) ∧ (dl.length : Int) ≤ (gc : Int) ∧ w.cell? ⟨g, j * 4, none⟩ = some (.string (tx x.nm)) ∧ w.cell? ⟨g, j * 4 + 1, none⟩ = some (.slice da x.b.length dc) ∧ Src w (.slice da x.b.length dc) x.b := by
  obtain ⟨⟨F, G, h1, ⟨lv, m, h2, h3, -⟩, -⟩, -⟩ := h
  obtain ⟨t, ht⟩ : ∃ t, m[j]? = some t := ⟨_, List.getElem?_eq_getElem (by
    have := (List.getElem?_eq_some_iff.1 hx).1
    rw [← h3, xsM_len] at this
    exact this)⟩
  have e := xsM_at ht
  rw [h3, hx] at e
  obtain rfl : x = t.x := Option.some.inj e
  obtain ⟨g, gc, rfl, q1, q2, q3, e0, e1, -⟩ := h2.openK ht
  have hl : m.length = dl.length := by rw [← h3, xsM_len]
  rw [hl] at q1 q3
  exact ⟨g, gc, t.da, t.dc, q3, q1, e0, e1, own_src (h2.ml t (List.mem_of_getElem? ht)).rd⟩
end Go.Proofs.Ytmlbojihjgbdlaa.D

/- Ranging over the files: what the sequence asks and tells. -/
namespace Go.Proofs.Ytmlbojihjgbdlaa.D
open Go.RowKit Go.Shelf
set_option linter.unusedVariables false
set_option linter.unusedSimpArgs false
attribute [local go_sem] Oper.semAt_some

/-- Some blocks lie as before. -/
structure Kf (P : Nat → Prop) (A B : World) : Prop where
  size : A.heap.size ≤ B.heap.size
  keep : ∀ q, P q → B.heap[q]? = A.heap[q]?
theorem Kf.refl (P : Nat → Prop) (A : World) : Kf P A A := ⟨Nat.le_refl _, fun _ _ => rfl⟩
theorem Kf.trans {P : Nat → Prop} {A B C : World} (h : Kf P A B) (k : Kf P B C) : Kf P A C := ⟨Nat.le_trans h.size k.size, fun q hq => (k.keep q hq).trans (h.keep q hq)⟩
theorem Kf.of {P : Nat → Prop} {n₀ : Nat} {A B : World} (h : Below n₀ A B) (hp : ∀ q, P q → q < n₀) : Kf P A B := ⟨h.size, fun q hq => h.block q (hp q hq)⟩
/-- What the sequence of Files reads. -/
structure FJ (W : World) (a b k bs : Nat) (nv : Value) (dl : List Fd) : Prop where
  nb : W.heap[a]? = some (.cells #[nv] 89 (0, 0))
  lb : W.heap[b]? = some (.cells #[.slice (some ⟨k, 0, none⟩) dl.length dl.length] 41 (0, 0))
  row : W.heap[k]? = some (.cells ((lenL dl).map iV).toArray 3 (0, 0))
  nr : W.ownsRow bs 9 1 nv dl.length ((dl.map Fd.nm).map sV)
  lo : bs ≤ a ∧ bs ≤ b ∧ bs ≤ k
def FP (a b k : Nat) (nv : Value) (q : Nat) : Prop := q = a ∨ q = b ∨ q = k ∨ nv.ownBlock = some q
theorem FJ.at' {W V : World} {a b k bs : Nat} {nv : Value} {dl : List Fd} (h : FJ W a b k bs nv dl) (hk : ∀ q, FP a b k nv q → V.heap[q]? = W.heap[q]?) : FJ V a b k bs nv dl :=
  ⟨(hk a (.inl rfl)).trans h.nb, (hk b (.inr (.inl rfl))).trans h.lb, (hk k (.inr (.inr (.inl rfl)))).trans h.row, own_at h.nr fun q hq => hk q (.inr (.inr (.inr hq))), h.lo⟩
theorem FJ.lt {W : World} {a b k bs : Nat} {nv : Value} {dl : List Fd} (h : FJ W a b k bs nv dl) : ∀ q, FP a b k nv q → bs ≤ q ∧ q < W.heap.size := by
  rintro q (rfl | rfl | rfl | hq)
  · exact ⟨h.lo.1, (Array.getElem?_eq_some_iff.1 h.nb).1⟩
  · exact ⟨h.lo.2.1, (Array.getElem?_eq_some_iff.1 h.lb).1⟩
  · exact ⟨h.lo.2.2, (Array.getElem?_eq_some_iff.1 h.row).1⟩
  · exact h.nr.lt q hq
theorem FI.fj {w wx : World} {a b k : Nat} {nv : Value} {dl : List Fd} (h : FI w wx a b k nv dl dl.length) : FJ wx a b k w.heap.size nv dl := by
  refine ⟨h.nb, h.lb, ?_, h.nr, h.lo⟩
  have e := h.row
  rw [show lensAt dl dl.length = lenL dl by unfold lensAt; rw [Nat.sub_self, List.replicate_zero, List.append_nil, List.take_of_length_le (by simp [lenL])]] at e
  exact e
def elF (x : Fd) : Array Value := #[.string (tx x.nm), .int .i64 (x.b.length : Int)]
set_option maxRecDepth 100000 in
set_option maxHeartbeats 4000000 in
theorem files_in (n : Nat) (l a b k bs : Nat) (nv : Value) (dl : List Fd) (hsm : dl.length ≤ 1000000) (J Jx : List Fd → World → Prop) (W : World)
    (hY : ∀ pre x W, x ∈ dl → J pre W → pre.length < dl.length → YieldAt Fence.wide (n - 1) Try.prog l (elF x) W fun e W' =>
      (e = .returned (.bool true) ∧ J (pre ++ [x]) W' ∧ Kf (FP a b k nv) W W') ∨ (e = .returned (.bool false) ∧ Jx (pre ++ [x]) W'))
    (hF : FJ W a b k bs nv dl) (h0 : J [] W) :
    CallsIn Fence.wide n Try.prog 54 #[.func (.yield l) #[] #[], .pointer (some ⟨a, 0, none⟩), .pointer (some ⟨b, 0, none⟩)] W fun e W' => (∃ v, e = .returned v) ∧
      ((∃ ys, ys = dl ∧ J ys W') ∨ (∃ pre : List Fd, (∃ m, pre = dl.take m) ∧ Jx pre W')) := by
  obtain ⟨na, nc, hnv⟩ := own_slice hF.nr
  subst hnv
  have HF : Hid (FJ W a b k bs (.slice na dl.length nc) dl) := hF
  have ca : W.cell? ⟨a, 0, none⟩ = some (.slice na dl.length nc) := by rw [cell_of_row _ _ _ _ _ _ hF.nb]; rfl
  have hcap' : (dl.length : Int) ≤ (nc : Int) := by have := own_capv hF.nr; omega
  have hli : (dl.length : Int) ≤ 1000000 := by omega
  clear hF
  refine callsIn_of_wp Try.func54 rfl trivial ?_ rfl
  simp only [Try.ntmps54, List.size_toArray, List.length_cons, List.length_nil, Nat.reduceAdd, Nat.reduceSub, Array.replicate_succ, Array.replicate_zero, List.push_toArray, List.append_toArray, List.nil_append, List.cons_append]
  gi_wp2
  gi_loopw [4, 5, 8] (fun x y s wr => ∃ i : Nat, i ≤ dl.length ∧ s = .int .i64 i ∧ J (dl.take i) wr ∧ Kf (FP a b k (.slice na dl.length nc)) W wr) (fun x y s _ => dl.length - (intOf s).toNat)
  case atStart => exact ⟨0, by omega, rfl, h0, Kf.refl _ _⟩
  case round =>
    obtain ⟨i, hk, rfl, hJs, hnx⟩ := hrel
    by_cases hlt : i < dl.length
    · obtain ⟨x, hx⟩ : ∃ x, dl[i] = x := ⟨_, rfl⟩
      have HX : Hid (dl[i]? = some x) := by show _ = _; rw [List.getElem?_eq_getElem hlt, hx]
      have hFw : FJ wr a b k bs (.slice na dl.length nc) dl := HF.out.at' hnx.keep
      obtain ⟨g, cp, hv⟩ := own_form hFw.nr (by omega)
      have hna : na = some ⟨g, 0, none⟩ := (Value.slice.inj hv).1
      subst hna
      have c1 : wr.cell? ⟨g, i, none⟩ = some (.string (tx x.nm)) := by
        rw [hFw.nr.cellAt i (by omega), List.getElem?_map, List.getElem?_map, HX.out]
        rfl
      have c2 : wr.cell? ⟨b, 0, none⟩ = some (.slice (some ⟨k, 0, none⟩) dl.length dl.length) := by rw [cell_of_row _ _ _ _ _ _ hFw.lb]; rfl
      have c3 : wr.cell? ⟨k, i, none⟩ = some (.int .i64 (x.b.length : Int)) := by
        rw [cell_of_row _ _ _ _ _ _ hFw.row]
        have e : (lenL dl)[i]? = some (x.b.length : Int) := by unfold lenL; rw [List.getElem?_map, HX.out]; rfl
        rw [List.getElem?_toArray, List.getElem?_map, e]
        rfl
      have HTK : Hid (dl.take i ++ [x] = dl.take (i + 1)) := by show _ = _; rw [← hx, List.take_succ_eq_append_getElem hlt]
      have HTL : Hid ((dl.take i).length < dl.length) := by show _ < _; simp; omega
      have i1 : (i : Int) < (dl.length : Int) := by omega
      have k0 : (0 : Int) ≤ (i : Int) := by omega
      have HNX : Hid (Kf (FP a b k (.slice (some ⟨g, 0, none⟩) dl.length nc)) W wr) := hnx
      have HJ : Hid (J (dl.take i) wr) := hJs
      clear hx hJs hFw hv
      obtain ⟨fn, tmps, assign, body, hy, hR⟩ := hY _ x _ (List.mem_of_getElem? HX.out) HJ.out HTL.out
      unfold elF at hy
      gi_wp2
      refine ⟨fun h => by simp [Fence.wide] at h, hR.mono ?_⟩
      rintro e W3 (⟨rfl, hJ3, hk3⟩ | ⟨rfl, hJx3⟩)
      · gi_wp2
        go_roundw
        case rel =>
          refine ⟨i + 1, by omega, by go_num, ?_, HNX.out.trans hk3⟩
          rw [← HTK.out]
          exact hJ3
        case measure => simp [intOf]; omega
      · gi_wp2
        refine bodyPost_ret (results_none rfl _ _ _) rfl ?_
        exact ⟨⟨_, rfl⟩, .inr ⟨_, ⟨i + 1, HTK.out⟩, hJx3⟩⟩
    · have hkk : i = dl.length := by omega
      have HKK : Hid (i = dl.length) := hkk
      have i1 : ¬ ((i : Int) < (dl.length : Int)) := by omega
      clear hkk hlt
      gi_wp2
      go_end0
      rw [HKK.out, List.take_length] at hJs
      exact ⟨⟨_, rfl⟩, .inl hJs⟩
/-- One of the files. -/
abbrev OfF (dl : List Fd) : Type := {x : Fd // x ∈ dl}
def valsF {dl : List Fd} (l : List (OfF dl)) : List Fd := l.map (·.1)
theorem files_seq (n a b k bs : Nat) (nv : Value) (dl : List Fd) (w : World) (hsm : dl.length ≤ 1000000) (h : FJ w a b k bs nv dl) :
    SeqStopsK Fence.wide n Try.prog 54 #[.pointer (some ⟨a, 0, none⟩), .pointer (some ⟨b, 0, none⟩)] (fun x : OfF dl => elF x.1) (Kf (FP a b k nv)) (fun ys => valsF ys = dl) (fun pre => ∃ m, valsF pre = dl.take m) dl.length w := by
  intro l J Jx W hW hA _ hY h0
  have hSW := h.at' (V := W) fun q hq => hW.block q (h.lt q hq).2
  refine (files_in n l a b k bs nv dl hsm (fun pre W => ∃ p : List (OfF dl), valsF p = pre ∧ J p W) (fun pre W => ∃ p : List (OfF dl), valsF p = pre ∧ Jx p W) W ?_ hSW ⟨[], rfl, h0⟩).mono ?_
  · rintro pre x W1 hx ⟨p, rfl, hJ⟩ hlt
    obtain ⟨fn, tmps, assign, body, hy, hR⟩ := hY p ⟨x, hx⟩ W1 hJ (by simpa [valsF] using hlt)
    refine ⟨fn, tmps, assign, body, hy, hR.mono ?_⟩
    rintro e W3 (⟨rfl, hJ3, hk3⟩ | ⟨rfl, hJx3⟩)
    · exact .inl ⟨rfl, ⟨_, by simp [valsF], hJ3⟩, hk3⟩
    · exact .inr ⟨rfl, ⟨_, by simp [valsF], hJx3⟩⟩
  · rintro e W3 ⟨h1, ⟨ys, rfl, p, hp, hJ3⟩ | ⟨pre, ⟨k, hk⟩, p, hp, hJ3⟩⟩
    · exact ⟨h1, .inl ⟨p, hp, hJ3⟩⟩
    · exact ⟨h1, .inr ⟨p, ⟨k, hp.trans hk⟩, hJ3⟩⟩
end Go.Proofs.Ytmlbojihjgbdlaa.D
