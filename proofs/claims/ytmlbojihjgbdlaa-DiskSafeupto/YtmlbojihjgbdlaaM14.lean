import Derived.Test.YtmlbojihjgbdlaaM13
import Derived.Laws.AppendOwn
/- DiskSafe: the law, walked. -/
namespace Go.Proofs.Ytmlbojihjgbdlaa.D
open Go.RowKit
set_option linter.unusedVariables false
set_option linter.unusedSimpArgs false

variable {w w0 w1 w2 W : World} {B : Nat} {v : Value} {l : List (Fd × Value)}
def zK : Value := .agg #[.string ⟨#[]⟩, .slice none 0 0]
theorem i45_ex : ∃ i, Try.prog.info? 45 = some i ∧ i.zero = some zK ∧ i.size = 2 ∧ i.bytes = 40 := by
  have h : (Try.prog.info? 45).map (fun i => (i.zero, i.size, i.bytes)) = some (some zK, 2, 40) := by kernel_rfl
  obtain ⟨i, h1, h2⟩ := Option.map_eq_some_iff.1 h
  simp only [Prod.mk.injEq] at h2
  exact ⟨i, h1, h2.1, h2.2.1, h2.2.2⟩
/-- One file's numbers so far, in a box. -/
structure IB (wr wx : World) (kb : Nat) (s : List UInt8) (nv : Value) (j : Nat) : Prop where
  be : Below wr.heap.size wr wx
  bx : wx.heap[kb]? = some (.cells #[.string (tx s), nv] 45 (0, 0))
  lo : wr.heap.size ≤ kb
  row : wx.ownsRow wr.heap.size 3 1 nv j ((List.replicate j (1073741824 : Int)).map iV)
theorem IB.cells {wr wx : World} {kb : Nat} {s : List UInt8} {nv : Value} {j : Nat} (h : IB wr wx kb s nv j) : wx.cell? ⟨kb, 0, none⟩ = some (.string (tx s)) ∧ wx.cell? ⟨kb, 1, none⟩ = some nv ∧ ∀ i, wx.frozen? ⟨kb, i, none⟩ = false :=
  ⟨by rw [cell_of_row _ _ _ _ _ _ h.bx]; rfl, by rw [cell_of_row _ _ _ _ _ _ h.bx]; rfl, fun i => by simp [World.frozen?, h.bx]⟩
theorem IB.start (wr : World) (s : List UInt8) : IB wr (wr.alloc (.cells #[.string (tx s), .slice none 0 0] 45)) wr.heap.size s (.slice none 0 0) 0 := ⟨bel1 _ _, Go.heap_alloc_new _ _, Nat.le_refl _, World.ownsRow_nil _ _ _ _⟩
/-- One number more. -/
theorem IB.step {wr wx w3 : World} {kb j : Nat} {s : List UInt8} {nv v3 : Value} (h : IB wr wx kb s nv j) {o : Obj} (ho : w3.ownsRow wr.heap.size 3 1 v3 (j + 1) ((List.replicate j (1073741824 : Int)).map iV ++ [.int .i64 1073741824])) (hg : (wx.alloc o).grownBy w3 nv.ownBlock) : w3.heap[kb]? = some (.cells #[.string (tx s), nv] 45 (0, 0)) ∧ IB wr (w3.setCell ⟨kb, 1, none⟩ v3) kb s v3 (j + 1) := by
  have hkl := (Array.getElem?_eq_some_iff.1 h.bx).1
  have hbe := h.be.size
  have hne : nv.ownBlock ≠ some kb := fun e => by
    obtain ⟨cur, hc⟩ := own_tag h.row e
    exact ne_tag hc h.bx (by decide) rfl
  have hx3 : w3.heap[kb]? = some (.cells #[.string (tx s), nv] 45 (0, 0)) := (hg.block kb (by simp; omega) (fun e => hne e.symm)).trans ((Below.heap_alloc _ _ _ hkl).trans h.bx)
  have hb3 : Below wr.heap.size wr w3 := (h.be.alloc hbe _).grown hg (by simp; omega) (fun q hq => (h.row.lt q hq).1)
  have e1 : (List.replicate (j + 1) (1073741824 : Int)).map iV = (List.replicate j (1073741824 : Int)).map iV ++ [.int .i64 1073741824] := by
    rw [List.replicate_succ', List.map_append]; rfl
  refine ⟨hx3, ⟨hb3.setCell (p := ⟨kb, 1, none⟩) h.lo _, ?_, h.lo, ?_⟩⟩
  · have := row_set (i := 1) v3 hx3
    exact this
  · rw [e1]
    refine own_at ho fun q hq => ?_
    obtain ⟨cur, hc⟩ := own_tag ho hq
    exact Below.heap_setCell _ _ _ _ (ne_tag hc hx3 (by decide))
/-- One Keep more. -/
theorem KB.step {wr wx w3 : World} {B kb : Nat} {v v3 nv : Value} {l : List (Fd × Value)} {x : Fd} (h : KB B wr v l) (hB : B ≤ wr.heap.size) (hi : IB wr wx kb x.nm nv x.ws.length) {o : Obj} (ho : w3.ownsRow B 45 2 v3 (l.length + 1) (fl kp2 l ++ [.string (tx x.nm), nv])) (hg : (wx.alloc o).grownBy w3 v.ownBlock) : KB B w3 v3 (l ++ [(x, nv)]) ∧ Below B wr w3 := by
  have hbe := hi.be.size
  have hkeep : ∀ q, q < wx.heap.size → v.ownBlock ≠ some q → w3.heap[q]? = wx.heap[q]? := fun q hq hne => (hg.block q (by simp; omega) (fun e => hne e.symm)).trans (Below.heap_alloc _ _ _ hq)
  have hvt : ∀ q, v.ownBlock = some q → ∃ cur, wr.heap[q]? = some (.cells cur 45 (0, 0)) := fun q hq => own_tag h.row hq
  refine ⟨⟨?_, fun p hp => ?_⟩, ?_⟩
  · rw [List.length_append, List.length_singleton, fl_app]
    exact ho
  · rcases List.mem_append.1 hp with hp | hp
    · have hr := h.each p hp
      refine own_at hr fun q hq => ?_
      have hlt := (hr.lt q hq).2
      refine (hkeep q (by omega) fun e => ?_).trans (hi.be.block q hlt)
      obtain ⟨c1, hc1⟩ := hvt q e
      obtain ⟨c2, hc2⟩ := own_tag hr hq
      exact ne_tag hc1 hc2 (by decide) rfl
    · rw [List.mem_singleton.1 hp]
      refine own_at (own_low hi.row hB) fun q hq => ?_
      have hlt := hi.row.lt q hq
      refine hkeep q hlt.2 fun e => ?_
      have := h.row.lt q e
      omega
  · exact ((hi.be.mono hB).alloc (by omega) _).grown hg (by simp; omega) (fun q hq => (h.row.lt q hq).1)
set_option maxRecDepth 100000 in
set_option maxHeartbeats 16000000 in
theorem safe_law {ov : Value} {cs : List Cl} {n : Int} (hx : OpsIn w ov cs) (hl : cs.length ≤ 1048576) :
    Calls Try.prog 4 #[ov, .int .i64 n] w fun e w' => e = .returned (.bool true) ∧ Below w.heap.size w w' := by
  have HPL : Hid (Calls Try.prog 14 #[ov] w fun e w' => ∃ D R, e = .returned (.tuple #[.pointer (some ⟨D, 0, none⟩), .pointer (some ⟨R, 0, none⟩)]) ∧ Hid (PD w w' D R)) := played_any hx hl
  obtain ⟨z, hz⟩ := count_any n
  have HCO : Hid (∀ V : World, Calls Try.prog 15 #[.int .i64 n, .int .i64 2] V fun e w' => e = .returned (.int .i64 z) ∧ w' = V) := hz
  obtain ⟨sa, cap, rfl, -⟩ := hx
  generalize cs.length = len at *
  obtain ⟨al, hal⟩ : ∃ al : Bool, (z == 1) = al := ⟨_, rfl⟩
  clear hl hz
  go_enter Try.func4, Try.ntmps4
  go_upto_region 4 with (go_at_call 14; refine HPL.out.mono ?_; rintro e w1 ⟨D, R, rfl, H1⟩)
  go_upto_region 5 with (go_at_call 15; refine (HCO.out w1).mono ?_; rintro e w2 ⟨rfl, hw2⟩; rw [hw2]; clear hw2)
  try rw [hal]
  obtain ⟨sy, dl, h1, hi⟩ := H1.out
  have H : Hid (PS w w1 D R sy dl [] ∧ Inv 120 sy dl) := ⟨h1, hi⟩
  clear H1 h1 hi HPL HCO hal
  go_upto_region 6 with (fail)
  obtain ⟨i0, hi0, hz0, hz1, hz2⟩ := info_parts info3
  obtain ⟨i5, hi5, hy0, hy1, hy2⟩ := i45_ex
  obtain ⟨M, hM⟩ : ∃ M, dl.length = M := ⟨_, rfl⟩
  have HN : Hid (dl.length = M ∧ M ≤ 64 ∧ w.heap.size ≤ w1.heap.size) := ⟨hM, by have := H.out.2.len; omega, H.out.1.bel.size⟩
  have hM64 : (M : Int) ≤ 64 := by have := HN.out.2.1; omega
  clear hM
  go_upto_region 7 with (fail)
  go_loopw [9, 8] (fun b c wx => ∃ (i : Nat) (l : List (Fd × Value)), b = .int .i64 (i : Int) ∧ i ≤ M ∧ (al = false → i = 0) ∧ l.length = i ∧ Hid (KB w1.heap.size wx c l ∧ Below w1.heap.size w1 wx ∧ l.map Prod.fst = dl.take i)) (fun b c wx => M - (intOf b).toNat)
  case atStart => exact ⟨0, [], rfl, by omega, fun _ => rfl, rfl, ⟨World.ownsRow_nil _ _ _ _, fun p hp => nomatch hp⟩, Below.refl _ _, rfl⟩
  case round =>
    obtain ⟨i, l, rfl, hiM, hal, hll, HR⟩ := hrel
    have HPS : Hid (PS w wr D R sy dl []) := PP.newer H.out.1 HR.out.2.1
    obtain ⟨lv, m, hms, hxs⟩ : ∃ lv m, MS wr R lv m sy ∧ xsM m = dl := by
      obtain ⟨⟨F, G, h1, ⟨lv, m, h2, h3, -⟩, -⟩, -⟩ := HPS.out
      exact ⟨lv, m, h2, h3⟩
    have hml : m.length = M := by rw [← HN.out.1, ← hxs, xsM_len]
    obtain ⟨va, vc, hv⟩ := own_slice HR.out.1.row
    subst hv
    rw [hll] at HR ⊢
    obtain ⟨wo, hwo⟩ : ∃ wo, wo = wr := ⟨_, rfl⟩
    subst hwo
    by_cases cl : i < M ∧ al = true
    · obtain ⟨cl, rfl⟩ := cl
      have cl' : (i : Int) < (M : Int) := by omega
      obtain ⟨t, ht⟩ : ∃ t, m[i]? = some t := ⟨_, List.getElem?_eq_getElem (by omega)⟩
      have hdt : dl[i]? = some t.x := by rw [← hxs]; exact xsM_at ht
      have hmem : t.x ∈ dl := List.mem_of_getElem? hdt
      obtain ⟨g, gc, rfl, q1, q2, q3, e0, -, -, e3, -⟩ := hms.openK ht
      rw [hml] at q1 q2 q3
      have HT : Hid (t.x.ws.length ≤ 120 ∧ i < M ∧ l.length = i ∧ dl[i]? = some t.x) := ⟨(H.out.2.each t.x hmem).2.2.1, cl, hll, hdt⟩
      have hwl : (t.x.ws.length : Int) ≤ 120 := by have := HT.out.1; omega
      have HCC : Hid (∀ V, Below wo.heap.size wo V → V.cell? ⟨R, 0, none⟩ = some (.slice (some ⟨g, 0, none⟩) M gc) ∧ V.cell? ⟨g, i * 4 + 3, none⟩ = some (.slice t.ba t.x.ws.length t.bc)) := fun V hV => ⟨cell_below hV q3, cell_below hV e3⟩
      obtain ⟨nw, hnw⟩ : ∃ nw, t.x.ws.length = nw := ⟨_, rfl⟩
      rw [hnw] at HCC hwl HT e3
      have HNW : Hid (t.x.ws.length = nw) := hnw
      obtain ⟨x, hx⟩ : ∃ x, t.x = x := ⟨_, rfl⟩
      rw [hx] at HT HNW e0
      generalize t.ba = tba at *
      generalize t.bc = tbc at *
      clear hms hxs hml ht hdt hmem cl hnw hal hll hiM hx
      go_upto_region 11 with (fail)
      obtain ⟨W1, hW1⟩ : ∃ W1, wo.alloc (.cells #[.string (tx x.nm), .slice none 0 0] 45) = W1 := ⟨_, rfl⟩
      have HI0 : Hid (IB wo W1 wo.heap.size x.nm (.slice none 0 0) 0) := by rw [← hW1]; exact IB.start wo x.nm
      obtain ⟨kb, hkb⟩ : ∃ kb, wo.heap.size = kb := ⟨_, rfl⟩
      rw [hkb] at HI0
      rw [hW1, hkb]
      clear hW1 e0 q3 e3
      go_loopw [11] (fun b wx => ∃ (j : Nat) (nv : Value), b = .int .i64 (j : Int) ∧ j ≤ nw ∧ Hid (IB wo wx kb x.nm nv j)) (fun b wx => nw - (intOf b).toNat)
      case atStart => exact ⟨0, .slice none 0 0, rfl, Nat.zero_le _, HI0⟩
      case round =>
        clear HI0
        obtain ⟨j, nv, rfl, hj, HI⟩ := hrel
        obtain ⟨z3, z4⟩ := HCC.out _ HI.out.be
        obtain ⟨na, nc, hnv⟩ := own_slice HI.out.row
        subst hnv
        obtain ⟨u0, u1, u2⟩ := HI.out.cells
        have HJ : Hid (j ≤ nw ∧ nw ≤ 120) := ⟨hj, HT.out.1⟩
        by_cases cj : j < nw
        · have cj' : (j : Int) < (nw : Int) := by omega
          have HJ2 : Hid (j < nw) := cj
          clear hj cj
          go_wp2_with (at_builtin; (refine wpList_append_own _ rfl (.tmp 62) (.tmp 63) 41 rfl wo.heap.size 3 i0 (.int .i64 0) 1 8 Try.underlying41 hi0 hz0 hz1 hz2 rfl (by decide) (.slice na j nc) j ((List.replicate j (1073741824 : Int)).map iV) rfl (HI.out.row.alloc _) ⟨wr.heap.size, 0, none⟩ 1 1 [.int .i64 1073741824] rfl rfl (cell_new4 (l := [.int .i64 1073741824])) (by intro u hu; simp at hu; rw [hu]; rfl) (by have := HJ.out; unfold maxLen; omega) (by have := HJ.out; omega) (by have := HI.out.be.size; simp; omega) ?_; intro v3 w3 ho3 hg3 _; (obtain ⟨a3, c3, hv3⟩ := own_slice ho3); subst hv3; (obtain ⟨hx3, hs3⟩ := HI.out.step ho3 hg3); (have HS3 : Hid (IB wo (w3.setCell ⟨kb, 1, none⟩ (.slice a3 (j + 1) c3)) kb x.nm (.slice a3 (j + 1) c3) (j + 1)) := hs3); (have u3 : w3.cell? ⟨kb, 1, none⟩ = some (.slice na j nc) := (by rw [cell_of_row _ _ _ _ _ _ hx3]; rfl)); (have u4 := frozen_of_row w3 kb 1 _ _ hx3); clear ho3 hg3 hx3 hs3))
          go_roundw
          case rel => exact ⟨j + 1, _, by go_num, by have := HJ2.out; omega, HS3⟩
          case measure => have := HJ2.out; simp [intOf]; omega
        · have hjn : j = nw := by omega
          subst hjn
          have HBR : Hid (KB w1.heap.size wo (.slice va i vc) l) := HR.out.1
          have hvr : wr.ownsRow w1.heap.size 45 2 (.slice va i vc) i (fl kp2 l) := by
            have := (HBR.out.newer HI.out.be).row
            rwa [HT.out.2.2.1] at this
          have HVR : Hid (wr.ownsRow w1.heap.size 45 2 (.slice va i vc) i (fl kp2 l)) := hvr
          have HSZ : Hid (w1.heap.size ≤ wo.heap.size) := HR.out.2.1.size
          have HIW : Hid (IB wo wr kb x.nm (.slice na j nc) x.ws.length) := by rw [HNW.out]; exact HI.out
          clear hj cj hvr
          go_wp2_with (at_builtin; (refine wpList_append_own _ rfl (.tmp 66) (.tmp 68) 32 rfl w1.heap.size 45 i5 zK 2 40 Try.underlying32 hi5 hy0 hy1 hy2 rfl (by decide) (.slice va i vc) i (fl kp2 l) rfl (HVR.out.alloc _) ⟨wr.heap.size, 0, none⟩ 1 1 [.string (tx x.nm), .slice na j nc] rfl rfl (cell_new4 (l := [.string (tx x.nm), .slice na j nc])) (by intro u hu; simp at hu; rcases hu with hu | hu <;> (rw [hu]; rfl)) (by have := HT.out; have := HN.out.2.1; unfold maxLen; omega) (by have := HT.out; have := HN.out.2.1; omega) (by have := HI.out.be.size; have := HSZ.out; simp; omega) ?_; intro v3 w3 ho3 hg3 _; (have HS3 : Hid (KB w1.heap.size w3 v3 (l ++ [(x, .slice na j nc)]) ∧ Below w1.heap.size wo w3) := (by (refine HBR.out.step HSZ.out HIW.out (o := _) ?_ hg3); (rw [HT.out.2.2.1]; exact ho3))); clear ho3 hg3))
          go_roundw
          case rel =>
            refine ⟨i + 1, l ++ [(x, .slice na j nc)], by go_num, by have := HT.out.2.1; omega, (fun h => nomatch h), by have := HT.out.2.2.1; simp [this], HS3.out.1, HR.out.2.1.trans HS3.out.2, ?_⟩
            rw [List.map_append, HR.out.2.2, (drop_at HT.out.2.2.2).2]
            rfl
          case measure => have := HT.out.2.1; simp [intOf]; omega
    · have HE : Hid (KB w1.heap.size wo (.slice va i vc) l ∧ Below w1.heap.size w1 wo ∧ l.map Prod.fst = dl.take i) := HR.out
      have q3 := hms.cells.1
      obtain ⟨ga, gc, hlv⟩ := own_slice hms.row
      rw [hlv, hml] at q3
      have HKP : Hid (KeepsAt (fun q => w1.heap.size ≤ q ∧ q < wo.heap.size) wo (.slice va i vc) (kA (dl.take i)) ∧ (kA (dl.take i)).length ≤ 1048576) := by
        have h1 := HR.out.1.keeps fun p hp => by
          have : p.1 ∈ dl := by
            have h2 : p.1 ∈ l.map Prod.fst := List.mem_map_of_mem hp
            rw [HR.out.2.2] at h2
            exact List.mem_of_mem_take h2
          have := (H.out.2.each _ this).2.2.1
          omega
        rw [HR.out.2.2] at h1
        refine ⟨h1, ?_⟩
        have := HN.out.2.1
        simp [kA]
        omega
      have hnd : (dl.map Fd.nm).Nodup := PP.nd H.out.1
      have HFL : Hid (wrE dl [] (kA (dl.take i)) = 0 ∧ crA dl (kA (dl.take i)) = flD al dl ∧ Inv 121 sy (flD al dl)) := by
        have hwd := PP.inv_d H.out.2
        have : wrE dl [] (kA (dl.take i)) = 0 ∧ crA dl (kA (dl.take i)) = flD al dl := by
          cases al with
          | false =>
            rw [hal rfl, List.take_zero]
            exact ⟨rfl, crA_no hwd⟩
          | true =>
            have hiM' : i = M := by
              rcases Nat.lt_or_ge i M with h | h
              · exact absurd ⟨h, rfl⟩ cl
              · omega
            rw [hiM', ← HN.out.1, List.take_length]
            exact ⟨wrE_kA hnd [] dl rfl, crA_kA hnd hwd⟩
        exact ⟨this.1, this.2, by rw [← this.2]; exact crA_inv H.out.2⟩
      have HCR : Hid (Calls Try.prog 16 #[.pointer (some ⟨D, 0, none⟩), .slice va i vc] wo fun e w3 => e = .returned (.int .i64 0) ∧ Hid (PP w w3 D R sy (flD al dl) sy dl [])) := by
        have := PP.crashNew H.out.1 H.out.2 (by omega) HR.out.2.1 HKP.out.1 HKP.out.2 HFL.out.1
        rw [HFL.out.2.1] at this
        exact this
      have HIV : Hid (Inv 121 sy (flD al dl) ∧ Inv 120 sy dl ∧ (dl.map Fd.nm).Nodup) := ⟨HFL.out.2.2, H.out.2, hnd⟩
      have HRD : Hid (∀ x ∈ dl, (al = true → rdB x.nm (flD al dl) = x.b) ∧ (al = false → rdB x.nm (flD al dl) = x.b.take (safeN x.b x.ws).toNat) ∧ rdE x.nm (flD al dl) = 0) := fun x hx => by
        obtain ⟨g1, g2⟩ := fl_rd (al := al) hnd hx
        refine ⟨fun h => ?_, fun h => ?_, g2⟩
        · rw [g1, h]; rfl
        · rw [g1, h]; rfl
      have HPE : Hid (∀ V, PP w V D R sy (flD al dl) sy dl [] → Calls Try.prog 17 #[.pointer (some ⟨D, 0, none⟩)] V fun e w2 => e = .returned (.int .i64 0) ∧ Hid (PP w w2 D R sy (flD al dl) sy dl [])) := fun V hV => PP.pending hV
      have HCO : Hid (∀ V, PP w V D R sy (flD al dl) sy dl [] → Calls Try.prog 18 #[.pointer (some ⟨D, 0, none⟩)] V fun e w2 => ∃ u, e = .returned (.pointer (some ⟨u, 0, none⟩)) ∧ Hid (PC w w2 D R u sy (flD al dl) sy dl)) := fun V hV => PP.copy hV HIV.out.1 (by omega)
      have HC2 : Hid (∀ V u, PC w V D R u sy (flD al dl) sy dl → Calls Try.prog 16 #[.pointer (some ⟨D, 0, none⟩), .slice none 0 0] V fun e w2 => e = .returned (.int .i64 0) ∧ Hid (PC w w2 D R u sy (flD al dl) sy dl)) := fun V u hV => PC.crash hV HIV.out.1 (by omega)
      have HSA : Hid (∀ V u, PC w V D R u sy (flD al dl) sy dl → Calls Try.prog 19 #[.pointer (some ⟨D, 0, none⟩), .pointer (some ⟨u, 0, none⟩)] V fun e w2 => e = .returned (.bool true) ∧ Hid (PP w w2 D R sy (flD al dl) sy dl [])) := fun V u hV => PC.same hV HIV.out.1 (by omega)
      obtain ⟨fd, hfd⟩ : ∃ fd, flD al dl = fd := ⟨_, rfl⟩
      rw [hfd] at HCR HIV HRD HPE HCO HC2 HSA
      have hsp : (i < M ∧ al = false) ∨ (¬ i < M ∧ al = false) ∨ (¬ i < M ∧ al = true) := by
        rcases Nat.lt_or_ge i M with h | h
        · cases al with
          | false => exact .inl ⟨h, rfl⟩
          | true => exact absurd ⟨h, rfl⟩ cl
        · cases al with
          | false => exact .inr (.inl ⟨by omega, rfl⟩)
          | true => exact .inr (.inr ⟨by omega, rfl⟩)
      clear hms hxs hml hlv cl hll hiM hnd HKP HFL hfd
      rcases hsp with ⟨c1, rfl⟩ | ⟨c1, rfl⟩ | ⟨c1, rfl⟩
      all_goals
        clear hal
        first
        | (have c1' : (i : Int) < (M : Int) := by omega)
        | (have c1' : ¬ (i : Int) < (M : Int) := by omega)
        clear c1
        go_upto_region 15 with (fail)
        go_upto_region 17 with (first | (go_at_call 16; refine HCR.out.mono ?_; rintro e w3 ⟨rfl, H3⟩) | (go_at_call 17; refine (HPE.out _ H3.out).mono ?_; rintro e w4 ⟨rfl, H4⟩))
        go_upto_region 20 with (first | (go_at_call 18; refine (HCO.out _ H4.out).mono ?_; rintro e w5 ⟨u, rfl, H5⟩) | (go_at_call 16; refine (HC2.out _ _ H5.out).mono ?_; rintro e w6 ⟨rfl, H6⟩) | (go_at_call 19; refine (HSA.out _ _ H6.out).mono ?_; rintro e w7 ⟨rfl, H7⟩))
        clear HCR HPE HCO HC2 HSA H3 H4 H5 H6 HE HPS HR
        go_upto_region 21 with (fail)
        go_loopw [13] (fun b wx => ∃ (k : Nat), b = .int .i64 (k : Int) ∧ k ≤ M ∧ Hid (PP w wx D R sy fd sy dl [])) (fun b wx => M - (intOf b).toNat)
        case atStart => exact ⟨0, rfl, by omega, H7⟩
        case round =>
          clear H7
          obtain ⟨k, rfl, hk, HQ⟩ := hrel
          obtain ⟨lv, m, hms, hxs⟩ : ∃ lv m, MS wr R lv m sy ∧ xsM m = dl := by
            obtain ⟨⟨F, G, h1, ⟨lv, m, h2, h3, -⟩, -⟩, -⟩ := HQ.out
            exact ⟨lv, m, h2, h3⟩
          have hml : m.length = M := by rw [← HN.out.1, ← hxs, xsM_len]
          by_cases ck : k < M
          · have ck' : (k : Int) < (M : Int) := by omega
            obtain ⟨t, ht⟩ : ∃ t, m[k]? = some t := ⟨_, List.getElem?_eq_getElem (by omega)⟩
            have hmem : t.x ∈ dl := by rw [← hxs]; exact List.mem_of_getElem? (xsM_at ht)
            obtain ⟨g, gc, rfl, q1, q2, q3, e0, e1, e2, -, -⟩ := hms.openK ht
            rw [hml] at q1 q2 q3
            have hrow := (hms.ml t (List.mem_of_getElem? ht)).rd
            have hcapb : t.x.b.length ≤ t.dc := own_capv hrow
            obtain ⟨hb1, hb2, -, hb4⟩ := HIV.out.2.1.each t.x hmem
            obtain ⟨hs1, hs2⟩ := safe_ok hb4
            obtain ⟨S, hS⟩ : ∃ S : Nat, safeN t.x.b t.x.ws = (S : Int) := ⟨(safeN t.x.b t.x.ws).toNat, by omega⟩
            obtain ⟨r1, r2, r3⟩ := HRD.out t.x hmem
            rw [hS] at e2 r2 hs1 hs2
            rw [Int.toNat_natCast] at r2
            have hSl : S ≤ t.x.b.length := by omega
            have HSR : Hid (Src wr (.slice t.da t.x.b.length t.dc) t.x.b ∧ Src wr (.slice t.da S t.dc) (t.x.b.take S)) := ⟨own_src hrow, src_take (v := .bool true) hrow hSl⟩
            have HRR : Hid (Calls Try.prog 20 #[.pointer (some ⟨D, 0, none⟩), .string (tx t.x.nm)] wr fun e w' => ∃ a cap, e = .returned (.tuple #[.slice a (rdB t.x.nm fd).length cap, .int .i64 (rdE t.x.nm fd)]) ∧ w'.ownsRow wr.heap.size 5 1 (.slice a (rdB t.x.nm fd).length cap) (rdB t.x.nm fd).length (u8l (rdB t.x.nm fd)) ∧ Below wr.heap.size wr w') := by
              obtain ⟨⟨F, G, h1, -⟩, -⟩ := HQ.out
              exact p_read h1 HIV.out.1 t.x.nm
            rw [r3] at HRR
            obtain ⟨B, hB⟩ : ∃ B, rdB t.x.nm fd = B := ⟨_, rfl⟩
            rw [hB] at HRR r1 r2
            have HBB : Hid (Byt t.x.b) := hb1
            have HTK : Hid ((t.x.b.take S).length = S) := by show _ = _; rw [List.length_take]; omega
            have HK : Hid (k < M) := ck
            have hSd : (S : Int) ≤ (t.dc : Int) := by omega
            obtain ⟨tb, htb⟩ : ∃ tb, t.x.b = tb := ⟨_, rfl⟩
            rw [htb] at e1 HSR HBB HTK r1 r2 hs2 hSl hcapb
            generalize t.x.nm = tn at *
            generalize t.da = da at *
            generalize t.dc = dc at *
            have HBY : Hid (Byt B) := by
              first
              | (have := r1 rfl; rw [this]; exact HBB.out)
              | (have := r1 trivial; rw [this]; exact HBB.out)
              | (have := r2 rfl; rw [this]; exact fun y hy => HBB.out y (List.mem_of_mem_take hy))
              | (have := r2 trivial; rw [this]; exact fun y hy => HBB.out y (List.mem_of_mem_take hy))
            clear hms hxs hml ht hmem hrow hb1 hb2 hb4 hS r3 hB htb hk ck
            go_upto_region 24 with (go_at_call 20; refine HRR.out.mono ?_; rintro e w8 ⟨a8, c8, rfl, hr8, hb8⟩; (have HR8 : Hid (w8.ownsRow wr.heap.size 5 1 (.slice a8 B.length c8) B.length (u8l B) ∧ Below wr.heap.size wr w8) := ⟨hr8, hb8⟩); clear hr8 hb8)
            have f3 := cell_below HR8.out.2 q3
            have f1 := cell_below HR8.out.2 e1
            have f2 := cell_below HR8.out.2 e2
            have H8 : Hid (PP w w8 D R sy fd sy dl []) := PP.newer HQ.out HR8.out.2
            have t8 := Src.conv (own_src HR8.out.1) HBY.out
            clear q3 e0 e1 e2 HRR
            first
            | (have hB := r1 rfl
               subst hB
               have t1 := Src.conv (srcLater HSR.out.1 HR8.out.2) HBY.out)
            | (have hB := r1 trivial
               subst hB
               have t1 := Src.conv (srcLater HSR.out.1 HR8.out.2) HBY.out)
            | (have hB := r2 rfl
               subst hB
               have t1 := Src.conv (srcLater HSR.out.2 HR8.out.2) HBY.out
               rw [HTK.out] at t8
               try rw [HTK.out])
            | (have hB := r2 trivial
               subst hB
               have t1 := Src.conv (srcLater HSR.out.2 HR8.out.2) HBY.out
               rw [HTK.out] at t8
               try rw [HTK.out])
            have hTT : ∀ T : ByteArray, (T.toList == T.toList) = true := fun T => by simp
            clear r1 r2
            go_wp2_with fail
            go_roundw
            case rel => exact ⟨k + 1, by go_num, by have := HK.out; omega, H8⟩
            case measure => have := HK.out; simp [intOf]; omega
          · have q3 := hms.cells.1
            obtain ⟨ga, gc, hlv⟩ := own_slice hms.row
            rw [hlv, hml] at q3
            have HBE : Hid (Below w.heap.size w wr) := HQ.out.bel
            have ck' : ¬ (k : Int) < (M : Int) := by omega
            clear hms hxs hml hlv ck hk
            go_wp2_with (go_at_call 13; refine (known_any _).mono ?_; rintro e w9 ⟨rfl, hb9⟩; (have HB9 : Hid (Below wr.heap.size wr w9) := hb9); clear hb9)
            go_ret
            exact ⟨rfl, HBE.out.trans (HB9.out.mono HBE.out.size)⟩
end Go.Proofs.Ytmlbojihjgbdlaa.D
