import Derived.Test.YtmlbojihjgbdlaaM13
import Derived.BigQuiet
import Derived.SizedLaws
import Derived.Test.YtmlbojihjgbdlaaM07
import Derived.Test.YtmlbojihjgbdlaaM09
import Derived.Deep.RegionLaw
/- DiskApart: a disk played, one name meddled with: all other names read as the model says. -/
namespace Go.Proofs.Ytmlbojihjgbdlaa.D
open Go.RowKit
set_option linter.unusedVariables false
set_option linter.unusedSimpArgs false

variable {w w0 w1 w2 : World} {D R k : Nat} {s1 sy : Int} {d1 dl : List Fd} {ks : List (Nat × Obj)} {s t : List UInt8}
theorem lk_set {b ws : List Int} (h : t ≠ s) : ∀ dl : List Fd, lkF t (setF s b ws dl) = lkF t dl
  | [] => rfl
  | x :: r => by
    unfold setF
    split
    · rename_i e
      rw [lkF, lkF, if_neg (by dsimp only; rw [← e]; exact h), if_neg (by rw [← e]; exact h)]
    · rw [lkF, lkF, lk_set h r]
theorem lk_out (h : t ≠ s) : ∀ dl : List Fd, lkF t (outF s dl) = lkF t dl
  | [] => rfl
  | x :: r => by
    unfold outF
    split
    · rename_i e
      rw [lkF, if_neg (by rw [← e]; exact h)]
    · rw [lkF, lkF, lk_out h r]
theorem lk_ins {x : Fd} (h : t ≠ x.nm) : ∀ dl : List Fd, lkF t (insF x dl) = lkF t dl
  | [] => by
    show lkF t [x] = none
    unfold lkF
    rw [if_neg h]
    rfl
  | y :: r => by
    unfold insF
    split
    · rw [lkF, lkF, lk_ins h r]
    · rw [lkF, if_neg h]
theorem lk_ap (h : t ≠ s) (bs : List Int) (dl : List Fd) : lkF t (apD s bs dl) = lkF t dl := by
  unfold apD resA
  split
  · rfl
  · split
    · split
      · exact lk_set h dl
      · rfl
    · split
      · rfl
      · rw [lk_set h, lk_ins h]
theorem lk_sy (h : t ≠ s) (dl : List Fd) : lkF t (syD s dl) = lkF t dl := by
  unfold syD
  split
  · rfl
  · exact lk_set h dl
theorem lk_cu (h : t ≠ s) (n : Int) (dl : List Fd) : lkF t (cuD s n dl) = lkF t dl := by
  unfold cuD
  split
  · rfl
  · split
    · rfl
    · exact lk_set h dl
/-- Meddled with one name. -/
def mdD (s : List UInt8) (bs : List Int) (n : Int) (dl : List Fd) : List Fd := rmD s (cuD s n (syD s (apD s bs dl)))
theorem lk_md (h : t ≠ s) (bs : List Int) (n : Int) (dl : List Fd) : lkF t (mdD s bs n dl) = lkF t dl := by
  unfold mdD rmD
  rw [lk_out h, lk_cu h, lk_sy h, lk_ap h]
theorem lk_self : ∀ {dl : List Fd} {i : Nat} {x : Fd}, (dl.map Fd.nm).Nodup → dl[i]? = some x → lkF x.nm dl = some x
  | [], i, x, _, h => by simp at h
  | y :: r, 0, x, _, h => by
    have : y = x := by simpa using h
    rw [this, lkF, if_pos rfl]
  | y :: r, i + 1, x, hn, h => by
    have h' : r[i]? = some x := by simpa using h
    rw [List.map_cons, List.nodup_cons] at hn
    rw [lkF, if_neg (fun e => hn.1 (by rw [← e]; exact List.mem_map_of_mem (List.mem_of_getElem? h')))]
    exact lk_self hn.2 h'
/-- Both sides, of different files. -/
structure PQ (w0 wr : World) (D R : Nat) (s1 : Int) (d1 : List Fd) (sy : Int) (dl : List Fd) (d : List UInt8) : Prop where
  pp : PP w0 wr D R s1 d1 sy dl []
  inv : Inv 124 s1 d1
  rd : ∀ x ∈ dl, x.nm ≠ d → lkF x.nm d1 = some x
  byt : ∀ x ∈ dl, Byt x.b ∧ x.b.length ≤ 1048576
  len : dl.length ≤ 64
theorem PQ.newer {d : List UInt8} (h : PQ w0 w1 D R s1 d1 sy dl d) (hb : Below w1.heap.size w1 w2) : PQ w0 w2 D R s1 d1 sy dl d := ⟨h.pp.newer hb, h.inv, h.rd, h.byt, h.len⟩
theorem PQ.md {d : List UInt8} {bs : List Int} {n : Int} (h : PP w0 w1 D R s1 (mdD d bs n dl) sy dl []) (i : Inv 120 sy dl) (hi : Inv 124 s1 (mdD d bs n dl)) (hnd : (dl.map Fd.nm).Nodup) : PQ w0 w1 D R s1 (mdD d bs n dl) sy dl d := by
  refine ⟨h, hi, fun x hx hn => ?_, fun x hx => ⟨(i.each x hx).1, (i.each x hx).2.1⟩, i.len⟩
  rw [lk_md hn]
  obtain ⟨j, hj⟩ := List.getElem?_of_mem hx
  exact lk_self hnd hj
theorem PQ.ms {d : List UInt8} (h : PQ w0 w1 D R s1 d1 sy dl d) : ∃ lv m, MS w1 R lv m sy ∧ xsM m = dl := by
  obtain ⟨⟨F, G, h1, ⟨lv, m, h2, h3, -⟩, -⟩, -⟩ := h.pp
  exact ⟨lv, m, h2, h3⟩
theorem PQ.read {d : List UInt8} (h : PQ w0 w1 D R s1 d1 sy dl d) (s : List UInt8) : Calls Try.prog 20 #[.pointer (some ⟨D, 0, none⟩), .string (tx s)] w1 fun e w' => ∃ a cap, e = .returned (.tuple #[.slice a (rdB s d1).length cap, .int .i64 (rdE s d1)]) ∧ w'.ownsRow w1.heap.size 5 1 (.slice a (rdB s d1).length cap) (rdB s d1).length (u8l (rdB s d1)) ∧ Below w1.heap.size w1 w' := by
  obtain ⟨⟨F, G, h1, -⟩, -⟩ := h.pp
  exact p_read h1 h.inv s
/-- The four calls that meddle. -/
theorem PD.meddle {ov : Value} (h : PD w0 w1 D R) {d : List UInt8} {bs : List Int} {n : Int} {bv : Value} (hd : (d.length : Int) ≤ 140737488351232) (hb : BysP (fun b => b < w0.heap.size) w0 bv bs) (hbt : Byt bs) (hbl : bs.length ≤ 1048576) :
    Calls Try.prog 23 #[.pointer (some ⟨D, 0, none⟩), .string (tx d), bv] w1 fun e w2 => (∃ v, e = .returned v) ∧ Hid (Calls Try.prog 24 #[.pointer (some ⟨D, 0, none⟩), .string (tx d)] w2 fun e w3 => (∃ v, e = .returned v) ∧ Hid (Calls Try.prog 25 #[.pointer (some ⟨D, 0, none⟩), .string (tx d), .int .i64 n] w3 fun e w4 => (∃ v, e = .returned v) ∧ Hid (Calls Try.prog 26 #[.pointer (some ⟨D, 0, none⟩), .string (tx d)] w4 fun e w5 => (∃ v, e = .returned v) ∧ Hid (∃ s1 d1 sy dl, PQ w0 w5 D R s1 d1 sy dl d)))) := by
  obtain ⟨sy, dl, hp, i, -⟩ := h
  have hp : PP w0 w1 D R sy dl sy dl [] := hp
  have hnd : (dl.map Fd.nm).Nodup := by
    obtain ⟨⟨F, G, h1, -⟩, -⟩ := hp
    exact h1.nd
  have i1 := ap_inv (s := d) i hbt hbl
  have i2 := sy_inv (s := d) i1
  have i3 := cu_inv (s := d) (n := n) i2
  have i4 := rm_inv (s := d) i3
  refine (PP.prog hp fun F h1 h2 _ => p_append h1 i (by omega) hd (hp.srcD hb h2) hbl).mono ?_
  rintro e w2 ⟨rfl, q2⟩
  refine ⟨⟨_, rfl⟩, (PP.prog q2.out fun F h1 h2 _ => p_sync (s := d) h1 i1 (by omega)).mono ?_⟩
  rintro e w3 ⟨rfl, q3⟩
  refine ⟨⟨_, rfl⟩, (PP.prog q3.out fun F h1 h2 _ => p_cut (s := d) h1 i2 n).mono ?_⟩
  rintro e w4 ⟨rfl, q4⟩
  refine ⟨⟨_, rfl⟩, (PP.prog q4.out fun F h1 h2 _ => p_remove (s := d) h1).mono ?_⟩
  rintro e w5 ⟨rfl, q5⟩
  exact ⟨⟨_, rfl⟩, _, _, sy, dl, PQ.md q5.out i i4 hnd⟩
theorem drewN_below (w : World) (n : Nat) : Below w.heap.size w (w.drewN n) := ⟨rfl, rfl, rfl, by simp, fun q hq => by simp⟩
theorem srcLater {w w' : World} {sv : Value} {bs : List Int} (h : Src w sv bs) (hb : Below w.heap.size w w') : Src w' sv bs := Go.Proofs.Ytmlbojihjgbdlaa.Src.later h hb
theorem cell_below {w w' : World} {a : Addr} {v : Value} (hb : Below w.heap.size w w') (h : w.cell? a = some v) : w'.cell? a = some v := by
  rw [hb.cell (World.block_lt_of_cell? w _ h)]
  exact h
set_option maxRecDepth 100000 in
set_option maxHeartbeats 16000000 in
theorem apart_law {ov bv : Value} {cs : List Cl} {d : List UInt8} {bs : List Int} {n : Int} (hx : OpsIn w ov cs) (hl : cs.length ≤ 1048576) (hd : (d.length : Int) ≤ 140737488351232) (hb : BysP (fun b => b < w.heap.size) w bv bs) (hbt : Byt bs) (hbl : bs.length ≤ 1048576) :
    Calls Try.prog 6 #[ov, .string (tx d), bv, .int .i64 n] w fun e w' => e = .returned (.bool true) ∧ Below w.heap.size w w' := by
  have HPL : Hid (Calls Try.prog 14 #[ov] w fun e w' => ∃ D R, e = .returned (.tuple #[.pointer (some ⟨D, 0, none⟩), .pointer (some ⟨R, 0, none⟩)]) ∧ Hid (PD w w' D R)) := played_any hx hl
  have HME : Hid (∀ (V : World) (D R : Nat), PD w V D R → _) := fun V D R hV => PD.meddle (ov := ov) (n := n) hV hd hb hbt hbl
  obtain ⟨sa, cap, rfl, -⟩ := hx
  obtain ⟨ba, bc, rfl, -⟩ := hb
  generalize cs.length = len at *
  generalize bs.length = bn at *
  clear hl hd hbt hbl
  go_enter Try.func6, Try.ntmps6
  go_upto_region 5 with (first | (go_at_call 14; refine HPL.out.mono ?_; rintro e w1 ⟨D, R, rfl, H1⟩; (have HM := HME.out w1 D R H1.out)) | (go_at_call 23; refine HM.mono ?_; rintro e w2 ⟨⟨v2, rfl⟩, H2⟩))
  go_upto_region 8 with (first | (go_at_call 24; refine H2.out.mono ?_; rintro e w3 ⟨⟨v3, rfl⟩, H3⟩) | (go_at_call 25; refine H3.out.mono ?_; rintro e w4 ⟨⟨v4, rfl⟩, H4⟩) | (go_at_call 26; refine H4.out.mono ?_; rintro e w5 ⟨⟨v5, rfl⟩, H5⟩))
  clear HPL HME HM H1 H2 H3 H4
  obtain ⟨s1, d1, sy, dl, h5⟩ := H5.out
  have H : Hid (PQ w w5 D R s1 d1 sy dl d) := h5
  obtain ⟨M, hM⟩ : ∃ M, dl.length = M := ⟨_, rfl⟩
  have HN : Hid (dl.length = M ∧ M ≤ 64) := ⟨hM, by have := h5.len; omega⟩
  have hM64 : (M : Int) ≤ 64 := by have := HN.out; omega
  clear H5 h5 hM
  go_upto_region 9 with (fail)
  go_loopw [11] (fun b wx => ∃ (i : Nat), b = .int .i64 (i : Int) ∧ i ≤ M ∧ Hid (PQ w wx D R s1 d1 sy dl d)) (fun b wx => M - (intOf b).toNat)
  case atStart => exact ⟨0, rfl, by omega, H⟩
  case round =>
    clear H
    obtain ⟨i, rfl, hi, H⟩ := hrel
    obtain ⟨lv, m, hms, hxs⟩ := H.out.ms
    have hml : m.length = M := by rw [← HN.out.1, ← hxs, xsM_len]
    by_cases cl : i < M
    · have cl' : (i : Int) < (M : Int) := by omega
      obtain ⟨t, ht⟩ : ∃ t, m[i]? = some t := ⟨_, List.getElem?_eq_getElem (by omega)⟩
      have hdt : dl[i]? = some t.x := by rw [← hxs]; exact xsM_at ht
      have hmem : t.x ∈ dl := List.mem_of_getElem? hdt
      obtain ⟨g, gc, rfl, q1, q2, q3, e0, e1, -, -, -⟩ := hms.openK ht
      rw [hml] at q1 q2 q3
      have HRD : Hid (Calls Try.prog 20 #[.pointer (some ⟨D, 0, none⟩), .string (tx t.x.nm)] wr fun e w' => ∃ a cap, e = .returned (.tuple #[.slice a (rdB t.x.nm d1).length cap, .int .i64 (rdE t.x.nm d1)]) ∧ w'.ownsRow wr.heap.size 5 1 (.slice a (rdB t.x.nm d1).length cap) (rdB t.x.nm d1).length (u8l (rdB t.x.nm d1)) ∧ Below wr.heap.size wr w') := H.out.read t.x.nm
      have HSRC : Hid (Src wr (.slice t.da t.x.b.length t.dc) t.x.b) := own_src (hms.ml t (List.mem_of_getElem? ht)).rd
      have HBT : Hid (Byt t.x.b ∧ t.x.b.length ≤ 1048576) := H.out.byt t.x hmem
      have HNE : Hid (t.x.nm ≠ d → lkF t.x.nm d1 = some t.x) := H.out.rd t.x hmem
      have HIV : Hid (Byt (rdB t.x.nm d1) ∧ (rdB t.x.nm d1).length ≤ 1048576) := H.out.inv.rd _
      have HI : Hid (i < M) := cl
      obtain ⟨tn, htn⟩ : ∃ tn, t.x.nm = tn := ⟨_, rfl⟩
      obtain ⟨tb, htb⟩ : ∃ tb, t.x.b = tb := ⟨_, rfl⟩
      rw [htn] at e0 HRD HNE HIV
      rw [htb] at e1 HSRC HBT
      have HNE2 : Hid (tn ≠ d → rdB tn d1 = tb ∧ rdE tn d1 = 0) := fun h => by
        have := HNE.out h
        unfold rdB rdE
        rw [this]
        exact ⟨htb, rfl⟩
      obtain ⟨B, hB⟩ : ∃ B, rdB tn d1 = B := ⟨_, rfl⟩
      obtain ⟨E, hE⟩ : ∃ E, rdE tn d1 = E := ⟨_, rfl⟩
      rw [hB, hE] at HRD HNE2
      rw [hB] at HIV
      generalize t.da = da at *
      generalize t.dc = dc at *
      clear hms hxs hml ht hdt hmem hB hE HNE htn htb hi cl
      go_upto_region 12 with (go_at_call 20; refine HRD.out.mono ?_; rintro e w6 ⟨a6, c6, rfl, hr6, hb6⟩; (have HR6 : Hid (w6.ownsRow wr.heap.size 5 1 (.slice a6 B.length c6) B.length (u8l B) ∧ Below wr.heap.size wr w6) := ⟨hr6, hb6⟩); clear hr6 hb6)
      have H6 : Hid (PQ w w6 D R s1 d1 sy dl d) := H.out.newer HR6.out.2
      have f3 : w6.cell? ⟨R, 0, none⟩ = some (.slice (some ⟨g, 0, none⟩) M gc) := cell_below HR6.out.2 q3
      have f0 : w6.cell? ⟨g, i * 4, none⟩ = some (.string (tx tn)) := cell_below HR6.out.2 e0
      have f1 : w6.cell? ⟨g, i * 4 + 1, none⟩ = some (.slice da tb.length dc) := cell_below HR6.out.2 e1
      clear q3 e0 e1 HRD
      by_cases hne : tn = d
      · subst hne
        have hbb : ((tx tn).toList == (tx tn).toList) = true := by simp
        go_quiet (fail)
        go_wp2_with fail
        go_roundw
        case rel => exact ⟨i + 1, by go_num, by have := HI.out; omega, H6.out.newer (drewN_below _ _)⟩
        case measure => have := HI.out; simp [intOf]; omega
      · obtain ⟨hb1, hb2⟩ := HNE2.out hne
        subst hb1 hb2
        have hbb : ((tx tn).toList == (tx d).toList) = false := by rw [tx_list, tx_list]; simpa using hne
        have t6 : ∀ n, (convert 31 9 (.slice a6 B.length c6)).run Try.prog (w6.drewN n) = .ok (.string ⟨(strB B).toArray⟩) (w6.drewN n) := fun n => Src.conv (srcLater (own_src HR6.out.1) (drewN_below w6 n)) HBT.out.1
        have t1 : ∀ n, (convert 31 9 (.slice da B.length dc)).run Try.prog (w6.drewN n) = .ok (.string ⟨(strB B).toArray⟩) (w6.drewN n) := fun n => Src.conv (srcLater (srcLater HSRC.out HR6.out.2) (drewN_below w6 n)) HBT.out.1
        obtain ⟨T, hT⟩ : ∃ T : ByteArray, (⟨(strB B).toArray⟩ : ByteArray) = T := ⟨_, rfl⟩
        rw [hT] at t6 t1
        have hTT : (T.toList == T.toList) = true := by simp
        generalize B.length = n6 at *
        clear hT hne
        go_quiet (fail)
        go_wp2_with fail
        go_roundw
        case rel => exact ⟨i + 1, by go_num, by have := HI.out; omega, H6.out.newer (drewN_below _ _)⟩
        case measure => have := HI.out; simp [intOf]; omega
    · have hiM : i = M := by omega
      subst hiM
      obtain ⟨ga, gc, hlv⟩ := own_slice hms.row
      have q3 := hms.cells.1
      rw [hlv, hml] at q3
      have HE : Hid (Below w.heap.size w wr) := H.out.pp.bel
      clear hms hxs hml hlv cl hi
      go_wp2_with (go_at_call 13; refine (known_any _).mono ?_; rintro e w7 ⟨rfl, hb7⟩; (have HB7 : Hid (Below wr.heap.size wr w7) := hb7); clear hb7)
      go_ret
      exact ⟨rfl, HE.out.trans (HB7.out.mono HE.out.size)⟩
end Go.Proofs.Ytmlbojihjgbdlaa.D

/- Calls that came in, out of what the input says. -/
namespace Go.Proofs.Ytmlbojihjgbdlaa.D
open Go.ChangeShapes Go.WideShapes Go.ChangeAt Go.RowKit
set_option linter.unusedVariables false
set_option linter.unusedSimpArgs false

set_option maxRecDepth 20000 in
/-- One call, as it lies. -/
theorem op_of {H : Type} {enc : TypeId × Value → H} {W : World} {fuel b o : Nat} {cs : List Value} {x : DataW H × List MemPlace} (hc : W.cells? 0 ⟨b, o, none⟩ 6 = some cs) (h : DataW.trod enc Try.prog W 0 (fun _ => true) true fuel 34 cs = some x) (hd : Rows.uptoBulk x.1 ≤ 1048576) (hw : ∀ n ∈ x.1.weights Try.prog 34, n ≤ reachBytes) :
    ∃ c : Cl, c.In W ∧ b < W.heap.size ∧ W.cell? ⟨b, o, none⟩ = some (.int .i64 c.kind) ∧ W.cell? ⟨b, o + 1, none⟩ = some (.string (tx c.nm)) ∧ W.cell? ⟨b, o + 2, none⟩ = some (.string (tx c.nm2)) ∧ W.cell? ⟨b, o + 3, none⟩ = some (.int .i64 c.n) ∧ W.cell? ⟨b, o + 4, none⟩ = some c.bv ∧ W.cell? ⟨b, o + 5, none⟩ = some c.kv := by
  have hrb : reachBytes = 140737488351232 := rfl
  obtain ⟨_, hlen, hcell⟩ := World.cells?_some hc
  obtain ⟨xs, k, hk, hxy, _, hxl, hf⟩ := DataW.trod_struct Try.underlying34 h
  match xs, hxl, cs, hlen with
  | [y0, y1, y2, y3, y4, y5], _, [v0, v1, v2, v3, v4, v5], _ =>
    have g0 := hf 0 _ rfl
    have g1 := hf 1 _ rfl
    have g2 := hf 2 _ rfl
    have g3 := hf 3 _ rfl
    have g4 := hf 4 _ rfl
    have g5 := hf 5 _ rfl
    have k3 : Try.prog.cellsOf 3 = 1 := by kernel_rfl
    have k9 : Try.prog.cellsOf 9 = 1 := by kernel_rfl
    have k31 : Try.prog.cellsOf 31 = 1 := by kernel_rfl
    have k32 : Try.prog.cellsOf 32 = 1 := by kernel_rfl
    simp [k3, k9, k31, k32] at g0 g1 g2 g3 g4 g5
    have e0 := hcell 0 (by omega)
    have e1 := hcell 1 (by omega)
    have e2 := hcell 2 (by omega)
    have e3 := hcell 3 (by omega)
    have e4 := hcell 4 (by omega)
    have e5 := hcell 5 (by omega)
    rw [Addr.add_mid] at e0 e1 e2 e3 e4 e5
    simp at e0 e1 e2 e3 e4 e5
    obtain ⟨K, hK, _, _⟩ := DataW.trod_int Try.underlying3 g0
    obtain ⟨A, hA, hxA, _⟩ := DataW.trod_string Try.underlying9 g1
    obtain ⟨B, hB, hxB, _⟩ := DataW.trod_string Try.underlying9 g2
    obtain ⟨N, hN, _, _⟩ := DataW.trod_int Try.underlying3 g3
    simp only [List.cons.injEq, and_true] at hK hA hB hN
    rw [hxy] at hd hw
    have w1 : ∀ n ∈ y1.1.weights Try.prog 9, n ≤ reachBytes := fun n hn => hw n (by
      simp only [DataW.weights, Try.underlying34]
      exact DataW.weights_mem_each (j := 1) (t := 9) (d := y1.1) rfl rfl n hn)
    have w2 : ∀ n ∈ y2.1.weights Try.prog 9, n ≤ reachBytes := fun n hn => hw n (by
      simp only [DataW.weights, Try.underlying34]
      exact DataW.weights_mem_each (j := 2) (t := 9) (d := y2.1) rfl rfl n hn)
    rw [hxA] at w1
    rw [hxB] at w2
    have w1' := w1 A.data.toList.length (by simp [DataW.weights])
    have w2' := w2 B.data.toList.length (by simp [DataW.weights])
    simp only [List.map_cons, List.map_nil, Rows.uptoBulk, Rows.uptoBulkAll] at hd
    obtain ⟨bs, hb1, hb2, hb3⟩ := bytes_of (d := y4.1) (q := y4.2) g4 (by omega)
    obtain ⟨kn, hk1, hk2⟩ := keeps_of (d := y5.1) (q := y5.2) g5 (by omega)
    refine ⟨⟨K, A.data.toList, B.data.toList, N, bs, kn, v4, v5⟩, ⟨⟨hb2, hb3, hk2, by dsimp only; omega, by dsimp only; omega⟩, hb1, hk1⟩, cell_block e0, by rw [e0, hK], ?_, ?_, by rw [e3, hN], e4, e5⟩
    · rw [e1, hA]
      exact congrArg (fun x => some (Value.string x)) (tx_of' A)
    · rw [e2, hB]
      exact congrArg (fun x => some (Value.string x)) (tx_of' B)
theorem weights_all {H : Type} {P : Program} {e : TypeId} : ∀ {l : List (DataW H)} {d : DataW H}, d ∈ l → ∀ n ∈ d.weights P e, n ∈ DataW.weightsAll P e l
  | x :: r, d, h, n, hn => by
    simp only [DataW.weightsAll, List.mem_append]
    rcases List.mem_cons.1 h with rfl | h
    · exact .inl hn
    · exact .inr (weights_all h n hn)
theorem ops_arg {H : Type} {enc : TypeId × Value → H} {W : World} {fuel : Nat} {v : Value} {d : DataW H} {q : List MemPlace} (h : DataW.trod enc Try.prog W 0 (fun _ => true) true fuel 22 [v] = some (d, q)) (hd : Rows.uptoBulk d ≤ 1048576) (hw : ∀ n ∈ d.weights Try.prog 22, n ≤ reachBytes) :
    ∃ cs, OpsIn W v cs ∧ cs.length ≤ 1048576 := by
  rcases Deep.open_slice Try.underlying22 h with ⟨hcs, _⟩ | ⟨a, len, cap, m, n, D, Pl, hcs, _, hl, hm, hmm, hx, hcell⟩
  · simp only [List.cons.injEq, and_true] at hcs
    subst hcs
    exact ⟨[], ⟨none, 0, rfl, Nat.le_refl _, fun i f hi => by simp at hi⟩, by decide⟩
  · simp only [List.cons.injEq, and_true] at hcs
    subst hcs
    simp only [Prod.mk.injEq] at hx
    rw [hx.1] at hd hw
    simp only [Rows.uptoBulk] at hd
    simp only [DataW.weights, Try.underlying22, List.mem_cons, List.mem_append] at hw
    have hmc : m = cap := by simpa using hmm
    have hlen := bulk_len ((List.range len).map D)
    simp only [List.length_map, List.length_range] at hlen
    have k34 : Try.prog.cellsOf 34 = 6 := by kernel_rfl
    rw [k34] at hcell
    by_cases h0 : len = 0
    · subst h0
      exact ⟨[], ⟨some a, cap, rfl, Nat.zero_le _, fun i f hi => by simp at hi⟩, by decide⟩
    · obtain ⟨b, off, rfl⟩ : ∃ b off, a = ⟨b, off, none⟩ := by
        obtain ⟨cs, h1, _⟩ := hcell 0 (by omega)
        obtain ⟨_, hlen', hc'⟩ := World.cells?_some h1
        have h2 := hc' 0 (by omega)
        exact plain_addr (x := a) (v := cs[0]'(by omega)) (by
          have h3 : W.cell? a = cs[0]? := by simpa [Addr.add] using h2
          rw [h3]
          exact List.getElem?_eq_getElem (by omega))
      have each : ∀ i, i < len → ∃ c : Cl, c.In W ∧ b < W.heap.size ∧ W.cell? ⟨b, off + i * 6, none⟩ = some (.int .i64 c.kind) ∧ W.cell? ⟨b, off + i * 6 + 1, none⟩ = some (.string (tx c.nm)) ∧ W.cell? ⟨b, off + i * 6 + 2, none⟩ = some (.string (tx c.nm2)) ∧ W.cell? ⟨b, off + i * 6 + 3, none⟩ = some (.int .i64 c.n) ∧ W.cell? ⟨b, off + i * 6 + 4, none⟩ = some c.bv ∧ W.cell? ⟨b, off + i * 6 + 5, none⟩ = some c.kv := fun i hi => by
        obtain ⟨cs, h1, h2⟩ := hcell i (by omega)
        rw [Addr.add_mid] at h1
        have hmem : D i ∈ (List.range len).map D := List.mem_map.2 ⟨i, List.mem_range.2 hi, rfl⟩
        have hb := bulk_mem hmem
        exact op_of h1 h2 (by show Rows.uptoBulk (D i) ≤ _; omega) fun n hn => hw n (.inr (.inl (weights_all hmem n hn)))
      have inh : Inhabited Cl := ⟨⟨0, [], [], 0, [], [], undef, undef⟩⟩
      obtain ⟨F, hF⟩ := Deep.choose_lt each
      refine ⟨(List.range len).map F, ⟨some ⟨b, off, none⟩, cap, by simp, by simpa using hl, fun i f hi => ?_⟩, by simp; omega⟩
      rw [List.getElem?_map] at hi
      have hil : i < len := by
        cases hq : (List.range len)[i]? with
        | none => rw [hq] at hi; cases hi
        | some y => have := (List.getElem?_eq_some_iff.1 hq).1; simpa using this
      rw [List.getElem?_range hil] at hi
      have hfe : F i = f := by simpa using hi
      obtain ⟨c0, c1, c2⟩ := hF i hil
      rw [hfe] at c0 c2
      exact ⟨c0, b, off, rfl, c1, c2⟩
end Go.Proofs.Ytmlbojihjgbdlaa.D

/- What a crash that keeps all leaves, and one that keeps nothing. -/
namespace Go.Proofs.Ytmlbojihjgbdlaa.D
open Go.RowKit
set_option linter.unusedVariables false
set_option linter.unusedSimpArgs false

variable {b ws ns : List Int} {dl : List Fd} {s : List UInt8} {x : Fd}
theorem take_splice0 (a c : List Int) : (splice a 0 c).take c.length = c := by simp [splice]
theorem crB_none (h : WsOk b.length ws) : crB b ws [] = b.take (safeN b ws).toNat := by
  have h0 := crS_stop (b := b) (ws := ws) (ns := []) ws.length 0 (Nat.le_refl _)
  rw [Nat.zero_add] at h0
  have hs := safe_ok h
  unfold crB
  rw [h0]
  show ((splice (List.replicate b.length 0) 0 (b.take (safeN b ws).toNat)).take (safeN b ws).toNat) = _
  have hl : (b.take (safeN b ws).toNat).length = (safeN b ws).toNat := by rw [List.length_take]; omega
  have := take_splice0 (List.replicate b.length 0) (b.take (safeN b ws).toNat)
  rw [hl] at this
  exact this
/-- Where the i-th write begins. -/
def wQ (n : Nat) (ws : List Int) (i : Nat) : Int := if i < ws.length then ws.getD i 0 else (n : Int)
theorem endI_wQ (n : Nat) (ws : List Int) (i : Nat) : endI n ws i = wQ n ws (i + 1) := rfl
theorem wQ_at {n : Nat} {i : Nat} (h : i < ws.length) : ws.getD i 0 = wQ n ws i := by unfold wQ; rw [if_pos h]
theorem wQ_zero (b ws : List Int) : safeN b ws = wQ b.length ws 0 := by
  cases ws with
  | nil => rfl
  | cons y r => simp [safeN, wQ]
theorem wQ_ok (h : WsOk b.length ws) : ∀ i, i ≤ ws.length → 0 ≤ wQ b.length ws i ∧ wQ b.length ws i ≤ (b.length : Int) := fun i hi => by
  unfold wQ
  split
  · rename_i h1
    obtain ⟨a1, a2, a3⟩ := h i h1
    exact ⟨a1, by omega⟩
  · exact ⟨by omega, Int.le_refl _⟩
theorem take_splice (a b : List Int) (p k : Nat) (h : a.take p = b.take p) (hp : p + k ≤ b.length) (hl : a.length = b.length) : (splice a p ((b.drop p).take k)).take (p + k) = b.take (p + k) := by
  have hk : ((b.drop p).take k).length = k := by rw [List.length_take, List.length_drop]; omega
  have hp' : (a.take p).length = p := by rw [List.length_take]; omega
  unfold splice
  rw [← List.append_assoc, List.take_append_of_le_length (by rw [List.length_append, hk, hp']; omega), List.take_of_length_le (by rw [List.length_append, hk, hp']; omega), h, List.take_add]
theorem crS_full (h : WsOk b.length ws) (hb : (b.length : Int) ≤ 1073741824) : ∀ i, i ≤ ws.length → (crS b ws (List.replicate ws.length 1073741824) i).2 = (wQ b.length ws i).toNat ∧ (crS b ws (List.replicate ws.length 1073741824) i).1.take (wQ b.length ws i).toNat = b.take (wQ b.length ws i).toNat
  | 0, _ => by
    rw [← wQ_zero]
    refine ⟨rfl, ?_⟩
    have hs := safe_ok h
    have hl : (b.take (safeN b ws).toNat).length = (safeN b ws).toNat := by rw [List.length_take]; omega
    have := take_splice0 (List.replicate b.length 0) (b.take (safeN b ws).toNat)
    rw [hl] at this
    exact this
  | i + 1, hi => by
    obtain ⟨h1, h2⟩ := crS_full h hb i (by omega)
    have hlen := (crS_len (ns := List.replicate ws.length 1073741824) h i (by omega)).1
    obtain ⟨w0, w1, w2⟩ := h i (by omega)
    have q0 := wQ_ok h i (by omega)
    have q1 := wQ_ok h (i + 1) hi
    rw [endI_wQ, wQ_at (n := b.length) (by omega)] at w1
    have hcw : cwN b ws (List.replicate ws.length 1073741824) i = wQ b.length ws (i + 1) - wQ b.length ws i := by
      unfold cwN
      rw [endI_wQ, wQ_at (ws := ws) (n := b.length) (by omega)]
      have : (List.replicate ws.length (1073741824 : Int)).getD i 0 = 1073741824 := by
        rw [List.getD_eq_getElem?_getD, List.getElem?_replicate, if_pos (by omega)]; rfl
      rw [this]
      omega
    have hwa : wAt ws i = (wQ b.length ws i).toNat := by unfold wAt; rw [wQ_at (n := b.length) (by omega)]
    unfold crS crStep
    rw [hcw, hwa]
    split
    · rename_i hk
      dsimp only
      have e : (wQ b.length ws (i + 1)).toNat = (wQ b.length ws i).toNat + (wQ b.length ws (i + 1) - wQ b.length ws i).toNat := by omega
      refine ⟨e.symm, ?_⟩
      rw [e]
      exact take_splice _ b _ _ h2 (by omega) hlen
    · have e : wQ b.length ws (i + 1) = wQ b.length ws i := by omega
      rw [e]
      exact ⟨h1, h2⟩
theorem crB_full (h : WsOk b.length ws) (hb : (b.length : Int) ≤ 1073741824) : crB b ws (List.replicate ws.length 1073741824) = b := by
  obtain ⟨h1, h2⟩ := crS_full h hb ws.length (Nat.le_refl _)
  have e : (wQ b.length ws ws.length).toNat = b.length := by unfold wQ; rw [if_neg (by omega)]; omega
  rw [e] at h1 h2
  unfold crB
  rw [h1, h2, List.take_length]
/-- All is kept. -/
def kA (dl : List Fd) : List Kn := dl.map fun x => (x.nm, List.replicate x.ws.length 1073741824)
theorem kA_nm (dl : List Fd) : (kA dl).map Prod.fst = dl.map Fd.nm := by unfold kA; rw [List.map_map]; rfl
theorem kNs'_kA : ∀ {dl : List Fd} {x : Fd}, (dl.map Fd.nm).Nodup → x ∈ dl → kNs' x.nm (kA dl) = List.replicate x.ws.length 1073741824
  | y :: r, x, hn, h => by
    rw [List.map_cons, List.nodup_cons] at hn
    show (if x.nm = y.nm then List.replicate y.ws.length 1073741824 else kNs' x.nm (kA r)) = _
    rcases List.mem_cons.1 h with rfl | h
    · rw [if_pos rfl]
    · rw [if_neg fun e => hn.1 (by rw [← e]; exact List.mem_map_of_mem h)]
      exact kNs'_kA hn.2 h
theorem wrE_kA (hn : (dl.map Fd.nm).Nodup) : ∀ (a r : List Fd), a ++ r = dl → wrE dl (kA a) (kA r) = 0
  | a, [], _ => rfl
  | a, y :: r, h => by
    have hy : lkF y.nm dl = some y := lk_self (i := a.length) hn (by rw [← h]; simp)
    have hc : ckE dl y.nm (List.replicate y.ws.length 1073741824) = 0 := by
      unfold ckE
      rw [hy]
      dsimp only
      rw [if_neg (by simp), if_neg (by simp)]
    have hno : y.nm ∉ (kA a).map Prod.fst := by
      rw [kA_nm]
      intro hm
      rw [← h, List.map_append, List.nodup_append] at hn
      exact hn.2.2 _ hm _ (by simp) rfl
    show wrE dl (kA a) ((y.nm, List.replicate y.ws.length 1073741824) :: kA r) = 0
    unfold wrE
    rw [if_neg hno, if_pos hc]
    have := wrE_kA hn (a ++ [y]) r (by rw [← h]; simp)
    unfold kA at this ⊢
    rw [List.map_append] at this
    exact this
/-- Behind a crash. -/
def flD (al : Bool) (dl : List Fd) : List Fd := dl.map fun x => ⟨x.nm, if al then x.b else x.b.take (safeN x.b x.ws).toNat, []⟩
theorem crA_kA (hn : (dl.map Fd.nm).Nodup) (hw : ∀ x ∈ dl, WsOk x.b.length x.ws ∧ x.b.length ≤ 1048576) : crA dl (kA dl) = flD true dl := by
  unfold crA crD flD
  rw [if_pos (show wrE dl [] (kA dl) = 0 from wrE_kA hn [] dl rfl)]
  refine List.map_congr_left fun x hx => ?_
  obtain ⟨h1, h2⟩ := hw x hx
  unfold crF
  rw [kNs_eq, kNs'_kA hn hx, crB_full h1 (by omega)]
  rfl
theorem crA_no (hw : ∀ x ∈ dl, WsOk x.b.length x.ws ∧ x.b.length ≤ 1048576) : crA dl [] = flD false dl := by
  unfold crA crD flD
  rw [if_pos (show wrE dl [] [] = 0 from rfl)]
  refine List.map_congr_left fun x hx => ?_
  obtain ⟨h1, h2⟩ := hw x hx
  unfold crF
  rw [kNs_eq]
  show (⟨x.nm, crB x.b x.ws [], []⟩ : Fd) = _
  rw [crB_none h1]
  rfl
theorem flD_mem {al : Bool} {y : Fd} (h : y ∈ flD al dl) : ∃ x ∈ dl, y = ⟨x.nm, if al then x.b else x.b.take (safeN x.b x.ws).toNat, []⟩ := by
  obtain ⟨x, hx, rfl⟩ := List.mem_map.1 h
  exact ⟨x, hx, rfl⟩
theorem totW_fl (al : Bool) : ∀ dl : List Fd, totW (flD al dl) = 0
  | [] => rfl
  | x :: r => by
    have := totW_fl al r
    unfold totW flD at *
    simp only [List.map_cons, List.sum_cons, List.length_nil, Nat.zero_add]
    exact this
theorem crA_again (al : Bool) (dl : List Fd) : crA (flD al dl) [] = flD al dl := by
  unfold crA crD
  rw [if_pos (show wrE (flD al dl) [] [] = 0 from rfl)]
  have : ∀ y ∈ flD al dl, crF [] y = y := fun y hy => by
    obtain ⟨x, -, rfl⟩ := flD_mem hy
    unfold crF
    rw [kNs_eq]
    show (⟨x.nm, crB _ [] [], []⟩ : Fd) = _
    rw [crB_none (ws_nil _)]
    show (⟨x.nm, List.take ((((if al then x.b else x.b.take (safeN x.b x.ws).toNat) : List Int).length : Int)).toNat _, []⟩ : Fd) = _
    rw [Int.toNat_natCast, List.take_length]
  exact (List.map_congr_left this).trans (List.map_id _)
end Go.Proofs.Ytmlbojihjgbdlaa.D

/- DiskSafe: the list of what is kept. -/
namespace Go.Proofs.Ytmlbojihjgbdlaa.D
open Go.RowKit
set_option linter.unusedVariables false
set_option linter.unusedSimpArgs false

variable {w w0 w1 w2 W : World} {B : Nat} {v : Value} {l : List (Fd × Value)}
def kp2 (p : Fd × Value) : List Value := [.string (tx p.1.nm), p.2]
theorem kp2_len (p : Fd × Value) : (kp2 p).length = 2 := rfl
/-- The list so far. -/
structure KB (B : Nat) (wr : World) (v : Value) (l : List (Fd × Value)) : Prop where
  row : wr.ownsRow B 45 2 v l.length (fl kp2 l)
  each : ∀ p ∈ l, wr.ownsRow B 3 1 p.2 p.1.ws.length ((List.replicate p.1.ws.length (1073741824 : Int)).map iV)
theorem KB.newer (h : KB B w1 v l) (hb : Below w1.heap.size w1 w2) : KB B w2 v l :=
  ⟨own_at h.row fun q hq => hb.block q (h.row.lt q hq).2, fun p hp => own_at (h.each p hp) fun q hq => hb.block q ((h.each p hp).lt q hq).2⟩
theorem numsP_own {ns : List Int} {nv : Value} (h : w.ownsRow B 3 1 nv ns.length (ns.map iV)) : NumsP (fun q => B ≤ q ∧ q < w.heap.size) w nv ns := by
  obtain ⟨a, cap, rfl⟩ := own_slice h
  refine ⟨a, cap, rfl, ?_, fun i x hi => ?_⟩
  · rcases h.2 with ⟨h1, h2⟩ | ⟨g, c, cur, h1, _, _, h3, _⟩
    · omega
    · injection h1 with e1 e2 e3; omega
  · rcases h.2 with ⟨h1, h2⟩ | ⟨g, c, cur, h1, h2, h3, h4, _⟩
    · have := (List.getElem?_eq_some_iff.1 hi).1; omega
    · injection h1 with e1 e2 e3
      subst e1
      refine ⟨g, 0, rfl, ⟨h2, (Array.getElem?_eq_some_iff.1 h3).1⟩, ?_⟩
      rw [Nat.zero_add]
      exact h.cells (g := g) rfl i _ (by rw [List.getElem?_map, hi]; rfl) |>.trans rfl |> fun hh => by rw [Addr.add_mid, Nat.zero_add] at hh; exact hh
theorem KB.keeps (h : KB B w v l) (hl : ∀ p ∈ l, (p.1.ws.length : Int) ≤ 140737488351232) : KeepsAt (fun q => B ≤ q ∧ q < w.heap.size) w v (kA (l.map Prod.fst)) := by
  have hlen : (kA (l.map Prod.fst)).length = l.length := by simp [kA]
  obtain ⟨a, cap, rfl⟩ := own_slice h.row
  refine ⟨a, cap, by rw [hlen], ?_, fun i x hi => ?_⟩
  · rw [hlen]
    rcases h.row.2 with ⟨h1, h2⟩ | ⟨g, c, cur, h1, _, _, h3, _⟩
    · omega
    · injection h1 with e1 e2 e3; omega
  · obtain ⟨p, hp, rfl⟩ : ∃ p, l[i]? = some p ∧ (p.1.nm, List.replicate p.1.ws.length (1073741824 : Int)) = x := by
      unfold kA at hi
      rw [List.map_map, List.getElem?_map] at hi
      obtain ⟨p, h1, h2⟩ := Option.map_eq_some_iff.1 hi
      exact ⟨p, h1, h2⟩
    have hmem := List.mem_of_getElem? hp
    rcases h.row.2 with ⟨h1, h2⟩ | ⟨g, c, cur, h1, h2, h3, h4, _⟩
    · have := (List.getElem?_eq_some_iff.1 hp).1; omega
    · injection h1 with e1 e2 e3
      subst e1
      have hc : ∀ j u, (kp2 p)[j]? = some u → w.cell? ⟨g, i * 2 + j, none⟩ = some u := fun j u hu => by
        have := h.row.cells (g := g) rfl (i * 2 + j) u (by rw [fl_at kp2_len l i p j hp (by have := (List.getElem?_eq_some_iff.1 hu).1; simpa [kp2] using this)]; exact hu)
        rwa [Addr.add_lit, Nat.zero_add] at this
      refine ⟨by simpa using hl p hmem, g, 0, p.2, rfl, ⟨h2, (Array.getElem?_eq_some_iff.1 h3).1⟩, ?_, ?_, ?_⟩
      · rw [Nat.zero_add]; exact hc 0 _ rfl
      · rw [Nat.zero_add]; exact hc 1 _ rfl
      · have := h.each p hmem
        exact numsP_own (ns := List.replicate p.1.ws.length 1073741824) (by rw [List.length_replicate]; exact this)
theorem count_any (n : Int) : ∃ z : Int, ∀ V : World, Calls Try.prog 15 #[.int .i64 n, .int .i64 2] V fun e w' => e = .returned (.int .i64 z) ∧ w' = V := by
  by_cases h : n.tmod 2 < 0
  · refine ⟨wrap64 (n.tmod 2 + 2), fun V => ?_⟩
    go_enter Try.func15, Try.ntmps15
    go_wp2
    go_ret
    exact ⟨rfl, rfl⟩
  · refine ⟨n.tmod 2, fun V => ?_⟩
    go_enter Try.func15, Try.ntmps15
    go_wp2
    go_ret
    exact ⟨rfl, rfl⟩
end Go.Proofs.Ytmlbojihjgbdlaa.D

/- DiskSafe: the crashes, the copy, in the words of both sides. -/
namespace Go.Proofs.Ytmlbojihjgbdlaa.D
open Go.RowKit
set_option linter.unusedVariables false
set_option linter.unusedSimpArgs false

variable {w0 w1 w2 w3 : World} {al : Bool} {D R u k : Nat} {s1 s2 sy : Int} {d1 d2 dl : List Fd} {ks : List (Nat × Obj)} {F : Nat → Prop}
/-- All blocks that are new are kept. -/
theorem PP.keepAll (h : PP w0 w1 D R s1 d1 s2 d2 []) (hb : Below w1.heap.size w1 w2) : ∃ ks, PP w0 w2 D R s1 d1 s2 d2 ks ∧ ∀ q, w1.heap.size ≤ q → q < w2.heap.size → ∃ o, w2.heap[q]? = some o ∧ (q, o) ∈ ks := by
  refine ⟨(List.range (w2.heap.size - w1.heap.size)).map fun j => (w1.heap.size + j, w2.heap.getD (w1.heap.size + j) (.cells #[] 0)), ?_, fun q h1 h2 => ⟨w2.heap[q], Array.getElem?_eq_getElem h2, ?_⟩⟩
  · have h' := h.newer hb
    obtain ⟨⟨F, G, h1, h2, h3, h4, h5, h6⟩, h7⟩ := h
    refine ⟨⟨F, G, h1.newer hb, h2.newer hb, h3, h4, h5, fun p hp => ?_⟩, h'.bel⟩
    obtain ⟨j, hj, rfl⟩ := List.mem_map.1 hp
    have hj' := List.mem_range.1 hj
    refine ⟨?_, fun e => by have := h1.lt _ e; dsimp only at this; omega, fun e => by have := h2.lt _ e; dsimp only at this; omega⟩
    dsimp only
    rw [Array.getElem?_eq_getElem (by omega), Array.getD, dif_pos (by omega)]
    rfl
  · refine List.mem_map.2 ⟨q - w1.heap.size, List.mem_range.2 (by omega), ?_⟩
    have e : w1.heap.size + (q - w1.heap.size) = q := by omega
    rw [e]
    refine Prod.ext rfl ?_
    dsimp only
    rw [Array.getD, dif_pos h2]
    rfl
theorem PP.inv_d (i : Inv k s1 d1) : ∀ x ∈ d1, WsOk x.b.length x.ws ∧ x.b.length ≤ 1048576 := fun x hx => ⟨(i.each x hx).2.2.2, (i.each x hx).2.1⟩
theorem PP.nd (h : PP w0 w1 D R s1 d1 s2 d2 ks) : (d1.map Fd.nm).Nodup := by
  obtain ⟨⟨F, G, h1, -⟩, -⟩ := h
  exact h1.nd
/-- A crash by a list that is new. -/
theorem PP.crashNew (h : PP w0 w1 D R s1 d1 s2 d2 []) (i : Inv k s1 d1) (hk : k ≤ 1000) (hb : Below w1.heap.size w1 w2) {kv : Value} {kn : List Kn} (hkv : KeepsAt (fun q => w1.heap.size ≤ q ∧ q < w2.heap.size) w2 kv kn) (hkl : kn.length ≤ 1048576) (hz : wrE d1 [] kn = 0) :
    Calls Try.prog 16 #[.pointer (some ⟨D, 0, none⟩), kv] w2 fun e w3 => e = .returned (.int .i64 0) ∧ Hid (PP w0 w3 D R s1 (crA d1 kn) s2 d2 []) := by
  obtain ⟨ks, h1, h2⟩ := h.keepAll hb
  refine (PP.prog h1 fun F a1 a2 a3 => p_crash a1 i (by omega) hkv (fun q hq => ⟨hq.2, fun e => ?_⟩) hkl).mono ?_
  · obtain ⟨o, -, ho⟩ := h2 q hq.1 hq.2
    exact a3 _ ho e
  · rintro e w3 ⟨rfl, h3⟩
    rw [hz]
    exact ⟨rfl, PP.less h3.out fun q hq => nomatch hq⟩
theorem PP.pending (h : PP w0 w1 D R s1 (flD al dl) s2 d2 []) : Calls Try.prog 17 #[.pointer (some ⟨D, 0, none⟩)] w1 fun e w2 => e = .returned (.int .i64 0) ∧ Hid (PP w0 w2 D R s1 (flD al dl) s2 d2 []) := by
  have h' := h
  obtain ⟨⟨F, G, h1, -⟩, -⟩ := h
  refine (pending_any h1 (by rw [totW_fl]; decide)).mono ?_
  rintro e w2 ⟨rfl, hb⟩
  rw [totW_fl]
  exact ⟨rfl, h'.newer hb⟩
/-- A disk and its copy. -/
def PC (w0 wr : World) (D R u : Nat) (s1 : Int) (d1 : List Fd) (s2 : Int) (d2 : List Fd) : Prop := ∃ ks F2, PP w0 wr D R s1 d1 s2 d2 ks ∧ DR wr u F2 s1 d1 ∧ ∀ q, F2 q → ∃ o, (q, o) ∈ ks
theorem PP.copy (h : PP w0 w1 D R s1 d1 s2 d2 []) (i : Inv k s1 d1) (hk : k ≤ 1000) : Calls Try.prog 18 #[.pointer (some ⟨D, 0, none⟩)] w1 fun e w2 => ∃ u, e = .returned (.pointer (some ⟨u, 0, none⟩)) ∧ Hid (PC w0 w2 D R u s1 d1 s2 d2) := by
  have h' := h
  obtain ⟨⟨F, G, h1, -⟩, -⟩ := h
  refine (copy_any h1 fun x hx => ⟨(i.cr (by omega) x hx).1, (i.cr (by omega) x hx).2.1⟩).mono ?_
  rintro e w2 ⟨rfl, F2, k1, k2, k3⟩
  obtain ⟨ks, h3, h4⟩ := h'.keepAll k3
  exact ⟨_, rfl, ks, F2, h3, k1, fun q hq => by obtain ⟨o, -, ho⟩ := h4 q (k2 q hq) (k1.lt q hq); exact ⟨o, ho⟩⟩
/-- A crash that keeps nothing, behind one. -/
theorem PC.crash (h : PC w0 w1 D R u s1 (flD al dl) s2 d2) (i : Inv k s1 (flD al dl)) (hk : k ≤ 1000) : Calls Try.prog 16 #[.pointer (some ⟨D, 0, none⟩), .slice none 0 0] w1 fun e w2 => e = .returned (.int .i64 0) ∧ Hid (PC w0 w2 D R u s1 (flD al dl) s2 d2) := by
  obtain ⟨ks, F2, h1, h2, h3⟩ := h
  refine (PP.prog h1 fun F a1 a2 a3 => p_crash (P := fun _ => False) (ks := []) a1 i (by omega) ⟨none, 0, rfl, Nat.le_refl _, fun i x hi => by simp at hi⟩ (fun q hq => hq.elim) (Nat.zero_le _)).mono ?_
  rintro e w2 ⟨rfl, k1⟩
  have k1 := k1.out
  rw [crA_again] at k1
  refine ⟨rfl, ks, F2, k1, h2.at' fun q hq => ?_, h3⟩
  obtain ⟨o, ho⟩ := h3 q hq
  exact (PP.at' k1 ho).trans (PP.at' h1 ho).symm
theorem smB_self (hn : (d1.map Fd.nm).Nodup) : smB d1 d1 = true := by
  unfold smB
  rw [Bool.and_eq_true, decide_eq_true_eq]
  refine ⟨rfl, List.all_eq_true.2 fun x hx => ?_⟩
  obtain ⟨j, hj⟩ := List.getElem?_of_mem hx
  unfold inB
  rw [lk_self hn hj]
  simp
theorem PC.same (h : PC w0 w1 D R u s1 d1 s2 d2) (i : Inv k s1 d1) (hk : k ≤ 1000) : Calls Try.prog 19 #[.pointer (some ⟨D, 0, none⟩), .pointer (some ⟨u, 0, none⟩)] w1 fun e w2 => e = .returned (.bool true) ∧ Hid (PP w0 w2 D R s1 d1 s2 d2 []) := by
  obtain ⟨ks, F2, h1, h2, -⟩ := h
  have h' := h1
  obtain ⟨⟨F, G, a1, -⟩, -⟩ := h1
  have hc : ∀ x ∈ d1, x.b.length ≤ 2000000 ∧ x.ws.length ≤ 2000000 := fun x hx => ⟨(i.cr (by omega) x hx).1, (i.cr (by omega) x hx).2.1⟩
  refine (same_any a1 h2 hc hc (by have := i.len; omega) (by have := i.len; omega)).mono ?_
  rintro e w2 ⟨rfl, hb⟩
  rw [smB_self h'.nd]
  exact ⟨rfl, PP.less (h'.newer hb) fun q hq => nomatch hq⟩
/-- What is read behind it. -/
theorem fl_rd (hn : (dl.map Fd.nm).Nodup) {x : Fd} (hx : x ∈ dl) : rdB x.nm (flD al dl) = (if al then x.b else x.b.take (safeN x.b x.ws).toNat) ∧ rdE x.nm (flD al dl) = 0 := by
  have hn2 : ((flD al dl).map Fd.nm).Nodup := by
    have : (flD al dl).map Fd.nm = dl.map Fd.nm := by unfold flD; rw [List.map_map]; rfl
    rw [this]; exact hn
  obtain ⟨j, hj⟩ := List.getElem?_of_mem hx
  have hj2 : (flD al dl)[j]? = some ⟨x.nm, if al then x.b else x.b.take (safeN x.b x.ws).toNat, []⟩ := by unfold flD; rw [List.getElem?_map, hj]; rfl
  have := lk_self hn2 hj2
  unfold rdB rdE
  dsimp only at this
  rw [this]
  exact ⟨rfl, rfl⟩
end Go.Proofs.Ytmlbojihjgbdlaa.D

/- The model's Copy: what comes of appends, plain facts. -/
namespace Go.Proofs.Ytmlbojihjgbdlaa.D
open Go.RowKit
set_option linter.unusedVariables false
set_option linter.unusedSimpArgs false

variable {w w' w2 wx : World} {R u : Nat} {lv lv' : Value} {m m' : List Mt} {sy : Int} {G : Nat → Prop} {dl : List Fd}
theorem step_append_run {P : Program} {ops : Array Oper} {o : Oper} {a : Act} {w : World} {K : Act → World → Prop} {Q : Exit → Act → World → Prop} {E : Prop} (hgd : o.guard = none) (s x : Operand) (t : TypeId)
    (ho : o.op = .call { callee := .builtin .append, args := #[s, x], argTypes := #[t, t] }) (v1 v2 v' : Value) (w' : World) (hs : a.eval s = v1) (hx : a.eval x = v2) (hr : (Builtin.append_ #[t, t] o.type #[v1, v2]).run P w = .ok v' w') (h : K (a.put o.dst v') w') :
    if Region.wanted o (yielded ops a.tmps) = true then Oper.wp P o a w K Q else E := by
  have hw : Region.wanted o (yielded ops a.tmps) = true := by simp [Region.wanted, hgd]
  rw [if_pos hw]
  unfold Oper.wp
  simp [execOp, ho, resolve, invoke, builtin, hs, hx, hr, Result.andThen]
  exact h
/-- A row behind nothing. -/
theorem app_nil {t e : TypeId} {i : TypeInfo} {z : Value} {bytes : Nat} (ht : Try.prog.underlying t = some (.slice e)) (hi : Try.prog.info? e = some i) (hz : i.zero = some z) (hs : i.size = 1) (hb : i.bytes = bytes) (hzs : z.cells.size = 1) (hby : bytes ≤ 8) {V : World} {sv : Value} {n : Nat} {xs : List Value} (ho : V.ownsRow 0 e 1 sv n xs) (hl : xs.length = n) (h1 : ∀ u ∈ xs, u.oneCell' = true) (hn : n ≤ 2000000) (ty : TypeId) :
    ∃ v' V', (Builtin.append_ #[t, t] ty #[.slice none 0 0, sv]).run Try.prog V = .ok v' V' ∧ V'.ownsRow V.heap.size e 1 v' n xs ∧ Below V.heap.size V V' := by
  have hsrc := ho.2
  rcases hsrc with ⟨rfl, h0⟩ | ⟨g, cap, cur, rfl, hg1, hg2, hg3, _⟩
  · have hx : xs = [] := List.eq_nil_of_length_eq_zero (by omega)
    subst hx
    subst h0
    exact ⟨_, V, run_append_owned_none (P := Try.prog) (w := V) V.heap.size t ty e i 1 ht hi (.slice none 0 0) 0 [] (World.ownsRow_nil _ _ _ _), World.ownsRow_nil _ _ _ _, Below.refl _ _⟩
  · obtain ⟨v', V', r1, r2, r3, -, -⟩ := run_append_own_at (P := Try.prog) V V.heap.size t ty e i z 1 bytes ht hi hz hs hb hzs (by decide) (.slice none 0 0) 0 [] (World.ownsRow_nil _ _ _ _) ⟨g, 0, none⟩ n cap xs (by omega) (fun j u hu => ho.cells (g := g) rfl j u hu) h1 (by unfold maxLen; omega) (by
      have : (0 + n) * bytes ≤ 2000000 * 8 := Nat.mul_le_mul (by omega) hby
      omega) (Nat.le_refl _)
    rw [Nat.zero_add, List.nil_append] at r2
    exact ⟨v', V', r1, r2, r3.os, r3.tape, r3.output, r3.size, fun q hq => r3.block q hq (by simp [Value.ownBlock])⟩
theorem app_bytes {V : World} {sv : Value} {bs : List Int} (ho : V.ownsRow 0 5 1 sv bs.length (u8l bs)) (hn : bs.length ≤ 2000000) (ty : TypeId) :
    ∃ v' V', (Builtin.append_ #[31, 31] ty #[.slice none 0 0, sv]).run Try.prog V = .ok v' V' ∧ V'.ownsRow V.heap.size 5 1 v' bs.length (u8l bs) ∧ Below V.heap.size V V' := by
  obtain ⟨i0, hi, hz0, hz1, hz2⟩ := info_parts info5
  exact app_nil Try.underlying31 hi hz0 hz1 hz2 rfl (by decide) ho (u8l_len _) (u8l_one _) hn ty
theorem app_ints {V : World} {sv : Value} {ns : List Int} (ho : V.ownsRow 0 3 1 sv ns.length (ns.map iV)) (hn : ns.length ≤ 2000000) (ty : TypeId) :
    ∃ v' V', (Builtin.append_ #[41, 41] ty #[.slice none 0 0, sv]).run Try.prog V = .ok v' V' ∧ V'.ownsRow V.heap.size 3 1 v' ns.length (ns.map iV) ∧ Below V.heap.size V V' := by
  obtain ⟨i0, hi, hz0, hz1, hz2⟩ := info_parts info3
  exact app_nil Try.underlying41 hi hz0 hz1 hz2 rfl (by decide) ho (by simp) (fun u hu => by obtain ⟨x, -, rfl⟩ := List.mem_map.1 hu; rfl) hn ty
/-- A file behind the others. -/
theorem app_file {V : World} {x : Mt} (h : MS w u lv m sy) (hb : Below w.heap.size w V) (hn : m.length ≤ 1000000) {p : Nat} (hp : V.heap[p]? = some (.cells (mt4 x).toArray 43 (0, 0))) (ty : TypeId) :
    ∃ lv' V', (Builtin.append_ #[27, 27] ty #[lv, .slice (some ⟨p, 0, none⟩) 1 1]).run Try.prog V = .ok lv' V' ∧ V'.ownsRow 0 43 4 lv' (m.length + 1) (fl mt4 (m ++ [x])) ∧ V.grownBy V' lv.ownBlock ∧ (lv'.ownBlock = lv.ownBlock ∨ lv'.ownBlock = some V.heap.size) := by
  obtain ⟨i0, hi0, hz0, hz1, hz2⟩ := i43_ex
  have hV := h.newer hb
  obtain ⟨v', V', r1, r2, r3, -, r4⟩ := run_append_own_at (P := Try.prog) V 0 27 ty 43 i0 zF 4 72 under27 hi0 hz0 hz1 hz2 rfl (by decide) lv m.length (fl mt4 m) hV.row ⟨p, 0, none⟩ 1 1 (mt4 x) rfl (fun j u hu => by
    rw [Addr.add_mid, Nat.zero_add, cell_of_row _ _ _ _ _ _ hp]
    simpa using hu) (mt4_one _) (by unfold maxLen; omega) (by omega) (Nat.zero_le _)
  exact ⟨v', V', r1, by rw [fl_app]; simpa [fl] using r2, r3, r4⟩
/-- What Copy's loop keeps: a disk that it made. -/
structure CpM (w wx : World) (u : Nat) (sy : Int) (dl : List Fd) : Prop where
  ex : ∃ lv m, MS wx u lv m sy ∧ xsM m = dl ∧ ∀ q, GM u lv m q → w.heap.size ≤ q
  be : Below w.heap.size w wx
theorem MS.app {x : Mt} {V V' : World} (h : MS w u lv m sy) (hb : Below w.heap.size w V) (hx : ML V x) (hd : ∀ q, GT x q → w.heap.size ≤ q) (ho : V'.ownsRow 0 43 4 lv' (m.length + 1) (fl mt4 (m ++ [x]))) (hg : V.grownBy V' lv.ownBlock) (hat : lv'.ownBlock = lv.ownBlock ∨ lv'.ownBlock = some V.heap.size) :
    MS (V'.setCell ⟨u, 0, none⟩ lv') u lv' (m ++ [x]) sy ∧ ∀ q, GM u lv' (m ++ [x]) q → GM u lv m q ∨ w.heap.size ≤ q := by
  have hV := h.newer hb
  have hul := h.lt u (.inl rfl)
  have hsz := hb.size
  have keep : ∀ q, q < V.heap.size → lv.ownBlock ≠ some q → V'.heap[q]? = V.heap[q]? := fun q hq hn => hg.block q hq fun e => hn e.symm
  have hub : V'.heap[u]? = some (.cells #[lv, .int .i64 sy] 29 (0, 0)) := (keep u (by omega) fun e => h.ne.1 u e rfl).trans hV.box
  have hxl : ∀ q, GT x q → q < V.heap.size := hx.lt
  have hkx : ∀ q, GT x q → lv.ownBlock ≠ some q := fun q hq e => by
    have h1 := hd q hq
    have h2 := h.lt q (.inr (.inl e))
    omega
  refine ⟨⟨row_set _ hub, ?_, fun t ht => ?_, ?_⟩, ?_⟩
  · have hl : (m ++ [x]).length = m.length + 1 := by simp
    rw [hl]
    refine own_at ho fun q hq => Below.heap_setCell _ _ _ _ ?_
    obtain ⟨cur, hc⟩ := own_tag ho hq
    exact ne_tag hc hub (by decide)
  · have hML : ML V' t := by
      rcases List.mem_append.1 ht with ht | ht
      · exact (hV.ml t ht).at' fun q hq => keep q ((hV.ml t ht).lt q hq) fun e => (hV.ne.2 t (hV.ml t ht) q hq).2 e
      · rw [List.mem_singleton.1 ht]
        exact hx.at' fun q hq => keep q (hxl q hq) (hkx q hq)
    refine hML.at' fun q hq => Below.heap_setCell _ _ _ _ ?_
    obtain ⟨c, e, h1, h2⟩ := hML.tag q hq
    exact ne_tag h1 hub (by rcases h2 with rfl | rfl <;> decide)
  · rw [List.pairwise_append]
    refine ⟨h.ap, List.pairwise_singleton _ _, fun s hs t ht q hq e => ?_⟩
    rw [List.mem_singleton.1 ht] at e
    have h1 := hd q e
    have h2 := (h.ml s hs).lt q hq
    omega
  · rintro q (hq | hq | ⟨t, ht, hq⟩)
    · exact .inl (.inl hq)
    · rcases hat with e | e
      · rw [e] at hq; exact .inl (.inr (.inl hq))
      · rw [e] at hq
        have : V.heap.size = q := by simpa using hq
        exact .inr (by omega)
    · rcases List.mem_append.1 ht with ht | ht
      · exact .inl (.inr (.inr ⟨t, ht, hq⟩))
      · rw [List.mem_singleton.1 ht] at hq
        exact .inr (hd q hq)
end Go.Proofs.Ytmlbojihjgbdlaa.D
