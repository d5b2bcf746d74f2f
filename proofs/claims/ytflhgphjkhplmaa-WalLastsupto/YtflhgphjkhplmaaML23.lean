import Derived.Test.YtflhgphjkhplmaaML22
/- The pair's put: records are appended to both. -/
namespace Go.Proofs.Ytflhgphjkhplmaa.D
open Go Go.RowKit W R Go.Shelf
set_option linter.unusedVariables false
set_option linter.unusedSimpArgs false
attribute [local go_sem] Oper.semAt_some

variable {w w' w0 : World} {p D R L B k k' : Nat} {Y Y' : Nat → Prop} {bs : List Int}
theorem putP_snoc : ∀ (l : List (List Int)) (s : Ps) (b : List Int), putP s (l ++ [b]) = if (putP s l).1.apOk b then ((putP s l).1.ap b, (putP s l).2 ++ [b]) else putP s l
  | [], s, b => by
    show putP s [b] = _
    unfold putP
    split <;> simp [putP]
  | c :: l, s, b => by
    show putP s (c :: (l ++ [b])) = _
    unfold putP
    split
    · rw [putP_snoc l (s.ap c) b]
      split <;> simp
    · exact putP_snoc l s b
/-- Both logs in a pair, all made behind w0. -/
structure PZ (w0 : World) (p D R L B k : Nat) (Y : Nat → Prop) (s : Ps) (w : World) : Prop where
  px : PX w p D R L B k Y s.dl s.dl s.g s.m
  fr : Fr (fun _ => False) Y w0 w
theorem PZ.below {s : Ps} (h : PZ w0 p D R L B k Y s w) : Below w0.heap.size w0 w := ⟨h.fr.os, h.fr.tape, h.fr.output, h.fr.size, fun q hq => h.fr.block q hq fun e => e⟩
theorem src_back {v : Value} (h : Src w0 v bs) (hk : ∀ q, q < w0.heap.size → w.heap[q]? = w0.heap[q]?) : Src w v bs := by
  rcases h with h | ⟨ad, cap, rfl, hl, hC⟩
  · exact .inl h
  · exact .inr ⟨ad, cap, rfl, hl, fun j u hu => (cell_same' (hC j u hu) hk)⟩
where
  cell_same' {a : Addr} {u : Value} (h : w0.cell? a = some u) (hk : ∀ q, q < w0.heap.size → w.heap[q]? = w0.heap[q]?) : w.cell? a = some u := by
    have h1 := World.block_lt_of_cell? w0 _ h
    rw [← h]
    unfold World.cell?
    rw [hk _ h1]
theorem srcG_in {v : Value} (h : Src w0 v bs) (hf : Fr (fun _ => False) Y w0 w) : SrcG w Y v bs := fun W hW => src_back h fun q hq => (hW q (Nat.lt_of_lt_of_le hq hf.size) fun e => (hf.grow q e).elim (fun e => e) fun e => absurd (show w0.heap.size ≤ q from e) (by omega)).trans (hf.block q hq fun e => e)
def nN (n : Nat) : Nat := min n 20
/-- What put keeps: how far it is, what was taken. -/
structure PU (w0 : World) (p D R L B k : Nat) (Y : Nat → Prop) (s : Ps) (w : World) (ls : List (Value × List Int)) (i : Nat) (v : Value) (ts : List (Value × List Int)) (wr : World) : Prop where
  ex : ∃ Y', PZ w0 p D R L B (k + 2 * i) Y' (putP s ((ls.map Prod.snd).take i)).1 wr ∧ Fr Y Y' w wr ∧ ∀ q, v.ownBlock = some q → ¬ Y' q
  row : wr.ownsRow w.heap.size 23 1 v ts.length (ts.map Prod.fst)
  took : ts.map Prod.snd = (putP s ((ls.map Prod.snd).take i)).2
  of : ∀ t ∈ ts, t ∈ ls
  few : ts.length ≤ i
def LimP (s : Ps) : Prop := s.at' ≤ 1000 ∧ s.l.length ≤ 1000
theorem put_lim : ∀ (l : List (List Int)) (s : Ps), (putP s l).1.l.length ≤ s.l.length + l.length ∧ (putP s l).1.at' = s.at'
  | [], s => ⟨by simp [putP], rfl⟩
  | b :: l, s => by
    unfold putP
    split
    · obtain ⟨h1, h2⟩ := put_lim l (s.ap b)
      have e : (s.ap b).l.length = s.l.length + 1 := by simp [Ps.ap]
      exact ⟨by rw [e] at h1; simp; omega, h2⟩
    · obtain ⟨h1, h2⟩ := put_lim l s
      exact ⟨by simp; omega, h2⟩
set_option maxRecDepth 100000 in
set_option maxHeartbeats 4000000 in
theorem pput_any {s : Ps} {lv : Value} {ls : List (Value × List Int)} (h : PZ w0 p D R L B k Y s w) (hl : LV w0 lv ls) (hk : k ≤ 500000) (hs : s.at' ≤ 1000 ∧ s.l.length ≤ 1000) : Calls Try.prog 18 #[.pointer (some ⟨p, 0, none⟩), lv] w fun e w' => ∃ a ts c, e = .returned (.slice a ts.length c) ∧ Hid (PU w0 p D R L B k Y s w ls (nN ls.length) (.slice a ts.length c) ts w') := by
  obtain ⟨la, lc, rfl, h1, h2⟩ := hl.ex
  obtain ⟨N, hN⟩ : ∃ N, ls.length = N := ⟨_, rfl⟩
  have hN1 : (N : Int) ≤ 1048576 := by have := hl.len; omega
  have HS : Hid (LV w0 (.slice la ls.length lc) ls ∧ k ≤ 500000 ∧ s.at' ≤ 1000 ∧ s.l.length ≤ 1000 ∧ ls.length = N ∧ Fr (fun _ => False) Y w0 w) := ⟨hl, hk, hs.1, hs.2, hN, h.fr⟩
  have HP0 : Hid (PU w0 p D R L B k Y s w ls 0 (.slice none 0 0) [] w) := ⟨⟨Y, by simpa [putP] using h, Fr.refl _ _, fun q hq => by cases hq⟩, World.ownsRow_nil _ _ _ _, by simp [putP], fun t ht => absurd ht (by simp), by simp⟩
  have HC : Hid (∀ i x, ls[i]? = some x → ∃ b off, la = some ⟨b, off, none⟩ ∧ w0.cell? ⟨b, off + i, none⟩ = some x.1) := h2
  rw [hN]
  clear h hl hk hs h1 h2 hN
  go_enter Try.func18, Try.ntmps18
  go_wp2_with fail
  go_loopw [5, 6] (fun x y wr => ∃ (i : Nat) (ts : List (Value × List Int)) (a : Option Addr) (c : Nat), i ≤ nN N ∧ y = .int .i64 (i : Int) ∧ x = .slice a ts.length c ∧ Hid (PU w0 p D R L B k Y s w ls i (.slice a ts.length c) ts wr)) (fun x y _ => nN N - (intOf y).toNat)
  case atStart => exact ⟨0, [], none, 0, Nat.zero_le _, rfl, rfl, HP0.out⟩
  case round =>
    obtain ⟨i, ts, oa, oc, hle, rfl, rfl, HI⟩ := hrel
    have hi20 : i ≤ 20 := by unfold nN at hle; omega
    by_cases hlt : i < nN N
    · have hci : (i : Int) < (N : Int) := by unfold nN at hlt; omega
      have hci2 : (i : Int) < 20 := by unfold nN at hlt; omega
      obtain ⟨x, hx⟩ : ∃ x, ls[i]? = some x := ⟨_, List.getElem?_eq_getElem (by rw [HS.out.2.2.2.2.1]; unfold nN at hlt; omega)⟩
      obtain ⟨lb, lo, hla, hcell⟩ := HC.out i x hx
      subst hla
      obtain ⟨xv, xb⟩ := x
      have hsv := HS.out.1.each _ (List.mem_of_getElem? hx)
      obtain ⟨xa, xc, hxv0, -⟩ := hsv.bz.ex
      have hxv : xv = .slice xa xb.length xc := hxv0
      clear hxv0
      obtain ⟨XL, hXL⟩ : ∃ XL, xb.length = XL := ⟨_, rfl⟩
      rw [hXL] at hxv
      subst hxv
      obtain ⟨s1, hs1⟩ : ∃ s1, (putP s ((ls.map Prod.snd).take i)).1 = s1 := ⟨_, rfl⟩
      obtain ⟨Y1, hz, hf, ho⟩ := HI.out.ex
      rw [hs1] at hz
      have HX : Hid (ls[i]? = some (.slice xa XL xc, xb) ∧ xb.length = XL ∧ SV w0 (.slice xa XL xc) xb ∧ (putP s ((ls.map Prod.snd).take i)).1 = s1 ∧ s1.at' ≤ 1000 ∧ s1.l.length ≤ 1020 ∧ i < nN N ∧ i ≤ 20) := by
        refine ⟨hx, hXL, hsv, hs1, ?_, ?_, hlt, hi20⟩
        · rw [← hs1, (put_lim _ s).2]; exact HS.out.2.2.1
        · have h1 := (put_lim ((ls.map Prod.snd).take i) s).1
          rw [hs1, List.length_take] at h1
          have := HS.out.2.2.2.1
          omega
      have HZ : Hid (PZ w0 p D R L B (k + 2 * i) Y1 s1 wr ∧ Fr Y Y1 w wr ∧ ∀ q, (Value.slice oa ts.length oc).ownBlock = some q → ¬ Y1 q) := ⟨hz, hf, ho⟩
      have hseq : s1.seq + 1 < 18446744073709551616 := by have := HX.out; unfold Ps.seq; omega
      have HAP : Hid (Calls Try.prog 29 #[.pointer (some ⟨L, 0, none⟩), .slice xa XL xc] wr.drew fun e w' => e = .returned (.int .i64 (s1.apR xb)) ∧ ∃ Y2, Hid (PX w' p D R L B (k + 2 * i + 1) Y2 (s1.apT xb).dl s1.dl (s1.apT xb).g s1.m ∧ Fr Y1 Y2 wr w')) := by
        have hd : Below wr.heap.size wr wr.drew := drewN_below wr 1
        have hpx := HZ.out.1.px.newer hd
        obtain ⟨⟨a1, a2, a3⟩, -⟩ := ap_both s1 xb hseq
        have hsr : SrcG wr.drew Y1 (.slice xa XL xc) xb := srcG_in (HX.out.2.2.1.src w0 (Below.refl _ _)) (HZ.out.1.fr.trans' (Fr.newer hd))
        have hc := px_append_p hpx (by have := HS.out; omega) (by show (numL _ s1.l).length ≤ _; rw [numL_len]; have := HX.out; omega) (by rw [seq_g]; exact hseq) hsr HX.out.2.2.1.byt (by have := HX.out.2.2.1.len; omega)
        rw [a1, a2, a3] at hc
        refine hc.mono ?_
        rintro e w' ⟨rfl, Y2, H2⟩
        exact ⟨rfl, Y2, H2.out.1, (Fr.newer hd).trans' H2.out.2⟩
      obtain ⟨-, -, c2, c3⟩ := HZ.out.1.px.cells
      have k1 : wr.cell? ⟨lb, lo + i, none⟩ = some (.slice xa XL xc) := src_back.cell_same' hcell fun q hq => HZ.out.1.fr.block q hq fun e => e
      have HK : Hid (w0.cell? ⟨lb, lo + i, none⟩ = some (.slice xa XL xc)) := hcell
      have HCP : Hid (∀ V Y2 d1 g1, PX V p D R L B (k + 2 * i + 1) Y2 d1 s1.dl g1 s1.m → Fr Y1 Y2 wr V → (V.cell? ⟨p, 2, none⟩ = some (.pointer (some ⟨L, 0, none⟩)) ∧ V.cell? ⟨p, 3, none⟩ = some (.pointer (some ⟨B, 0, none⟩))) ∧ V.cell? ⟨lb, lo + i, none⟩ = some (.slice xa XL xc)) := fun V Y2 d1 g1 hV hVf => ⟨hV.cells.2.2, src_back.cell_same' HK.out fun q hq => (HZ.out.1.fr.trans' hVf).block q hq fun e => e⟩
      clear hx hsv hXL hs1 hz hf ho hseq hcell hlt hle hi20
      go_upto_region 5 with (fail)
      go_cut [26] from 17 to 25 (fun x wx => x = .bool (decide (s1.apOk xb)) ∧ ∃ Y2, Hid (PX wx p D R L B (k + 2 * i + 1) Y2 (s1.apT xb).dl s1.dl (s1.apT xb).g s1.m ∧ Fr Y1 Y2 wr wx))
      case first =>
        go_region_held3 (fun w' => w'.cell? ⟨p, 2, none⟩ = some (.pointer (some ⟨L, 0, none⟩)) ∧ w'.cell? ⟨lb, lo + i, none⟩ = some (.slice xa XL xc)) (first | exact K1 | go_keep) ((go_at_call 29; refine HAP.out.mono ?_; rintro e w3 ⟨rfl, Y2, H3⟩; (have K1 : w3.cell? ⟨p, 2, none⟩ = some (.pointer (some ⟨L, 0, none⟩)) ∧ w3.cell? ⟨lb, lo + i, none⟩ = some (.slice xa XL xc) := ⟨(HCP.out _ _ _ _ H3.out.1 H3.out.2).1.1, (HCP.out _ _ _ _ H3.out.1 H3.out.2).2⟩)))
        all_goals
          go_wp2_with fail
          go_meet
          refine ⟨?_, Y2, H3⟩
          unfold Ps.apR
          by_cases hok : s1.apOk xb
          · rw [if_pos hok, decide_eq_true hok]; rfl
          · rw [if_neg hok, decide_eq_false hok]; rfl
      case rest =>
      obtain ⟨rfl, Y2, H3⟩ := hcut
      clear c2 c3 k1 HAP
      have HO : Hid (wc.ownsRow w.heap.size 23 1 (.slice oa ts.length oc) ts.length (ts.map Prod.fst) ∧ (∀ q, (Value.slice oa ts.length oc).ownBlock = some q → ¬ Y2 q) ∧ w.heap.size ≤ wc.heap.size ∧ ts.length ≤ 20) := by
        have h1 := HI.out.row
        refine ⟨own_at h1 fun q hq => H3.out.2.block q (h1.lt q hq).2 (HZ.out.2.2 q hq), fun q hq e => ?_, Nat.le_trans HZ.out.2.1.size H3.out.2.size, by have := HI.out.few; have := HX.out; omega⟩
        rcases H3.out.2.grow q e with h | h
        · exact HZ.out.2.2 q hq h
        · have := (h1.lt q hq).2
          have h' : wr.heap.size ≤ q := h
          omega
      have HTK : Hid ((ls.map Prod.snd).take (i + 1) = (ls.map Prod.snd).take i ++ [xb]) := by
        show _ = _
        rw [List.take_add_one, List.getElem?_map, HX.out.1]
        rfl
      have HPN : Hid (putP s ((ls.map Prod.snd).take (i + 1)) = if s1.apOk xb then (s1.ap xb, (putP s ((ls.map Prod.snd).take i)).2 ++ [xb]) else putP s ((ls.map Prod.snd).take i)) := by
        show _ = _
        rw [HTK.out, putP_snoc, HX.out.2.2.2.1]
      have k1 : wc.cell? ⟨lb, lo + i, none⟩ = some (.slice xa XL xc) := (HCP.out _ _ _ _ H3.out.1 H3.out.2).2
      go_upto_if 26 with (fail)
      go_cut [5, 26] from 27 to 33 (fun x y wx => ∃ (ts' : List (Value × List Int)) (a : Option Addr) (c : Nat), x = .slice a ts'.length c ∧ Hid (PX wx p D R L B (k + 2 * i + 1) Y2 (s1.apT xb).dl s1.dl (s1.apT xb).g s1.m ∧ Fr Y Y2 w wx ∧ wx.ownsRow w.heap.size 23 1 (.slice a ts'.length c) ts'.length (ts'.map Prod.fst) ∧ ts'.map Prod.snd = (putP s ((ls.map Prod.snd).take (i + 1))).2 ∧ (∀ t ∈ ts', t ∈ ls) ∧ (∀ q, (Value.slice a ts'.length c).ownBlock = some q → ¬ Y2 q) ∧ ts'.length ≤ i + 1))
      case first =>
        by_cases hok : s1.apOk xb
        · have hb : decide (s1.apOk xb) = true := decide_eq_true hok
          rw [hb]
          have HOK : Hid (s1.apOk xb) := hok
          clear hok hb
          go_wp2_with (at_builtin; (refine wpList_append_one23 rfl (.tmp 27) (.tmp 32) rfl w.heap.size (.slice oa ts.length oc) ts.length (ts.map Prod.fst) rfl wc HO.out.1 (.slice xa XL xc) rfl rfl rfl (by have := HO.out.2.2.2; omega) HO.out.2.2.1 ?_; intro g9 k9 w9 ho9 hg9; (have H9 : Hid (w9.ownsRow w.heap.size 23 1 (.slice (some ⟨g9, 0, none⟩) (ts.length + 1) k9) (ts.length + 1) (ts.map Prod.fst ++ [.slice xa XL xc]) ∧ Gr (.slice oa ts.length oc) wc (.slice (some ⟨g9, 0, none⟩) (ts.length + 1) k9) w9) := ⟨ho9, hg9⟩); clear ho9 hg9))
          go_meet
          obtain ⟨h91, h92⟩ := H9.out
          refine ⟨ts ++ [(.slice xa XL xc, xb)], some ⟨g9, 0, none⟩, k9, by rw [List.length_append, List.length_singleton], ?_⟩
          rw [List.length_append, List.length_singleton]
          refine ⟨H3.out.1.at' fun q hq => h92.block q (H3.out.1.lt q hq) fun e => HO.out.2.1 q e hq, ?_, by rw [List.map_append]; exact h91, ?_, fun t ht => ?_, fun q hq e => ?_, by have := HI.out.few; omega⟩
          · have h2 := H3.out.2
            have h3 := HZ.out.2.1.trans' h2
            exact ⟨h92.os.trans h3.os, h92.tape.trans h3.tape, h92.output.trans h3.output, Nat.le_trans h3.size h92.size, fun q hq hn => (h92.block q (Nat.lt_of_lt_of_le hq h3.size) fun e => by have := (HO.out.1.lt q e).1; omega).trans (h3.block q hq hn), h3.grow⟩
          · rw [HPN.out, if_pos HOK.out, List.map_append, HI.out.took]
            rfl
          · rcases List.mem_append.1 ht with ht | ht
            · exact HI.out.of t ht
            · obtain rfl := List.mem_singleton.1 ht
              exact List.mem_of_getElem? HX.out.1
          · rcases h92.near q hq with h | h
            · exact HO.out.2.1 q h e
            · have := H3.out.1.lt q e; omega
        · have hb : decide (s1.apOk xb) = false := decide_eq_false hok
          rw [hb]
          have HOK : Hid (¬ s1.apOk xb) := hok
          clear hok hb
          go_wp2_with fail
          go_meet
          refine ⟨ts, oa, oc, rfl, H3.out.1, HZ.out.2.1.trans' H3.out.2, HO.out.1, ?_, HI.out.of, HO.out.2.1, by have := HI.out.few; omega⟩
          rw [HPN.out, if_neg HOK.out]
          exact HI.out.took
      case rest =>
      obtain ⟨ts', na, nc, rfl, H4⟩ := hcut
      clear k1
      have hseq : s1.seq + 1 < 18446744073709551616 := by have := HX.out; unfold Ps.seq; omega
      have HD4 : Hid (PX wc.drew p D R L B (k + 2 * i + 1) Y2 (s1.apT xb).dl s1.dl (s1.apT xb).g s1.m ∧ Fr Y Y2 w wc.drew) := ⟨H4.out.1.newer (drewN_below wc 1), H4.out.2.1.trans' (Fr.newer (drewN_below wc 1))⟩
      have HAM : Hid (Calls Try.prog 42 #[.pointer (some ⟨B, 0, none⟩), .slice xa XL xc] wc.drew fun e w' => (∃ y, e = .returned (.int .i64 y)) ∧ ∃ Y3, Hid (PX w' p D R L B (k + 2 * (i + 1)) Y3 (s1.apT xb).dl (s1.apT xb).dl (s1.apT xb).g (s1.apT xb).m ∧ Fr Y Y3 w w' ∧ Fr Y2 Y3 wc w')) := by
        obtain ⟨-, a1, a2, a3⟩ := ap_both s1 xb hseq
        have hsr : SrcG wc.drew Y2 (.slice xa XL xc) xb := srcG_in (HX.out.2.2.1.src w0 (Below.refl _ _)) (HS.out.2.2.2.2.2.trans' HD4.out.2)
        have hc := px_append_m HD4.out.1 (by have := HS.out; have := HX.out; omega) (by show s1.l.length ≤ _; have := HX.out; omega) (by show s1.at' + s1.l.length + 1 < _; have := HX.out; omega) hsr HX.out.2.2.1.byt (by have := HX.out.2.2.1.len; omega)
        rw [a1, a2, a3] at hc
        refine hc.mono ?_
        rintro e w' ⟨rfl, Y3, H5⟩
        exact ⟨⟨_, rfl⟩, Y3, H5.out.1.upto (by omega), HD4.out.2.trans' H5.out.2, (Fr.newer (drewN_below wc 1)).trans' H5.out.2⟩
      have HCQ : Hid (∀ V Y3 d1 d2 g1 m1 k1, PX V p D R L B k1 Y3 d1 d2 g1 m1 → Fr Y Y3 w V → V.cell? ⟨p, 3, none⟩ = some (.pointer (some ⟨B, 0, none⟩)) ∧ V.cell? ⟨lb, lo + i, none⟩ = some (.slice xa XL xc)) := fun V Y3 d1 d2 g1 m1 k1 hV hVf => ⟨hV.cells.2.2.2, src_back.cell_same' HK.out fun q hq => (HS.out.2.2.2.2.2.trans' hVf).block q hq fun e => e⟩
      obtain ⟨c3, k1⟩ := HCQ.out _ _ _ _ _ _ _ HD4.out.1 HD4.out.2
      clear hseq
      go_upto_region 7 with (fail)
      go_region_held3 (fun w' => w'.cell? ⟨p, 3, none⟩ = some (.pointer (some ⟨B, 0, none⟩)) ∧ w'.cell? ⟨lb, lo + i, none⟩ = some (.slice xa XL xc)) (first | exact K1 | go_keep) ((go_at_call 42; refine HAM.out.mono ?_; rintro e w5 ⟨⟨y5, rfl⟩, Y3, H5⟩; (have K1 := HCQ.out _ _ _ _ _ _ _ H5.out.1 H5.out.2.1)))
      all_goals (
        go_wp2_with fail
        go_roundw
        case rel =>
          obtain ⟨h41, h42, h43, h44, h45, h46, h47⟩ := H4.out
          obtain ⟨h51, h52, h53⟩ := H5.out
          refine ⟨i + 1, ts', na, nc, HX.out.2.2.2.2.2.2.1, by push_cast; rfl, rfl, ⟨Y3, ⟨?_, HS.out.2.2.2.2.2.trans' h52⟩, h52, fun q hq e => ?_⟩, own_at h43 fun q hq => h53.block q (h43.lt q hq).2 (h46 q hq), h44, h45, h47⟩
          · have e : (putP s ((ls.map Prod.snd).take (i + 1))).1 = s1.apT xb := by
              rw [HPN.out]
              unfold Ps.apT
              split
              · rfl
              · exact HX.out.2.2.2.1
            rw [e]
            exact h51
          · rcases h53.grow q e with h | h
            · exact h46 q hq h
            · have := (h43.lt q hq).2
              have h' : wc.heap.size ≤ q := h
              omega
        case measure =>
          have := HX.out
          simp [intOf]
          omega)
    · have HN : Hid (i = nN N) := by show i = nN N; omega
      have hc : ¬ (i : Int) < (N : Int) ∨ ¬ (i : Int) < 20 := by
        unfold nN at hlt
        omega
      clear hle hlt
      by_cases hc1 : (i : Int) < (N : Int)
      · have hc2 : ¬ (i : Int) < 20 := by omega
        clear hc
        go_wp2_with fail
        refine bodyPost_ret (results_tmp Try.results18 _ _ _) rfl ⟨oa, ts, oc, rfl, ?_⟩
        rw [← HN.out]
        exact HI.out
      · clear hc
        go_wp2_with fail
        refine bodyPost_ret (results_tmp Try.results18 _ _ _) rfl ⟨oa, ts, oc, rfl, ?_⟩
        rw [← HN.out]
        exact HI.out
end Go.Proofs.Ytflhgphjkhplmaa.D

/- The pair's keeps. -/
namespace Go.Proofs.Ytflhgphjkhplmaa.D
open Go Go.RowKit W R Go.Shelf
set_option linter.unusedVariables false
set_option linter.unusedSimpArgs false
attribute [local go_sem] Oper.semAt_some

variable {w w' w0 : World} {p D R L B k k' : Nat} {G Y Y' Pn : Nat → Prop} {sy : Int} {dl : List Fd} {bs : List Int}
theorem hLogS : (({ data := #[97] } : ByteArray) ++ { data := #[46, 108, 111, 103] }) = tx nLog := by decide
theorem keepsAt_nil : KeepsAt Pn w (.slice none 0 0) [] := ⟨none, 0, rfl, Nat.le_refl _, fun i x hi => by simp at hi⟩
set_option maxRecDepth 100000 in
set_option maxHeartbeats 4000000 in
theorem keeps_any {na : Option Addr} {nc : Nat} {lv rv : Value} {ns : List Int} (hp : w.heap[p]? = some (.cells (pC D R lv rv) 47 (0, 0))) (h : MR w R G sy dl) (hl : dl.length ≤ 64) (hN : NumsP Pn w (.slice na ns.length nc) ns) (hP : ∀ q, Pn q → q < w.heap.size) (hn : ns.length ≤ 20) :
    Calls Try.prog 53 #[.pointer (some ⟨p, 0, none⟩), .string { data := #[97] }, .slice na ns.length nc] w fun e w' => ∃ a ks c, e = .returned (.slice a ks.length c) ∧ Hid (KeepsAt (fun q => Pn q ∨ (w.heap.size ≤ q ∧ q < w'.heap.size)) w' (.slice a ks.length c) ks ∧ (ks = [] ∨ ks = [(nLog, ns)]) ∧ Below w.heap.size w w') := by
  obtain ⟨mv, m, hM, hx, -⟩ := h
  obtain ⟨sa, cap, rfl⟩ := own_slice hM.row
  obtain ⟨n, hmn⟩ : ∃ n, m.length = n := ⟨_, rfl⟩
  obtain ⟨K, hK⟩ : ∃ K, ns.length = K := ⟨_, rfl⟩
  have HM : Hid (MS w R (.slice sa m.length cap) m sy ∧ m.length = n ∧ n ≤ 64 ∧ NumsP Pn w (.slice na ns.length nc) ns ∧ (∀ q, Pn q → q < w.heap.size) ∧ ns.length = K ∧ K ≤ 20 ∧ p < w.heap.size) := ⟨hM, hmn, by rw [← hx, xsM_len] at hl; omega, hN, hP, hK, by omega, (Array.getElem?_eq_some_iff.1 hp).1⟩
  have HP : Hid (w.heap[p]? = some (.cells (pC D R lv rv) 47 (0, 0))) := hp
  have hni : (n : Int) ≤ 64 := by have := HM.out; omega
  have hKi : (K : Int) ≤ 20 := by omega
  have hcat : ∀ W, (binOp .add 9 (.string { data := #[97] }) (.string { data := #[46, 108, 111, 103] })).run Try.prog W = .ok (.string (tx nLog)) W := fun W => by kernel_rfl
  rw [hK]
  clear hp hl hN hP hn hM hx hmn hK
  go_enter Try.func53, Try.ntmps53
  go_wp2_with fail
  go_loopw [7] (fun x wr => ∃ i : Nat, i ≤ n ∧ x = .int .i64 (i : Int) ∧ Hid (Below w.heap.size w wr)) (fun x _ => n - (intOf x).toNat)
  case atStart => exact ⟨0, Nat.zero_le _, rfl, Below.refl _ _⟩
  case round =>
    obtain ⟨i, hle, rfl, HB⟩ := hrel
    have HMr : Hid (MS wr R (.slice sa m.length cap) m sy) := HM.out.1.newer HB.out
    have hpr : wr.heap[p]? = some (.cells (pC D R lv rv) 47 (0, 0)) := (HB.out.block p HM.out.2.2.2.2.2.2.2).trans HP.out
    have c1 : wr.cell? ⟨p, 1, none⟩ = some (.pointer (some ⟨R, 0, none⟩)) := by rw [cell_of_row _ _ _ _ _ _ hpr]; rfl
    have c0 : wr.cell? ⟨R, 0, none⟩ = some (.slice sa n cap) := by have h := HMr.out.cells.1; rw [HM.out.2.1] at h; exact h
    clear hpr
    by_cases hlt : i < n
    · have hlti : (i : Int) < (n : Int) := by omega
      obtain ⟨t, ht⟩ : ∃ t, m[i]? = some t := ⟨_, List.getElem?_eq_getElem (by rw [HM.out.2.1]; exact hlt)⟩
      obtain ⟨g, cp, hv⟩ := own_form HMr.out.row (by rw [HM.out.2.1]; omega)
      have hsa : sa = some ⟨g, 0, none⟩ := (Value.slice.inj hv).1
      subst hsa
      obtain ⟨e0, e1, e2, e3, -⟩ := own_mt HMr.out.row ht
      have hcap : (n : Int) ≤ (cap : Int) := by have := own_cap HMr.out.row; have := HM.out.2.1; omega
      obtain ⟨WL, hWL⟩ : ∃ WL, t.x.ws.length = WL := ⟨_, rfl⟩
      rw [hWL] at e3
      have HN : Hid (i < n) := hlt
      clear ht hv hlt hle hWL
      by_cases hq : t.x.nm = nLog
      · have hq' : ((tx t.x.nm).toList == (({ data := #[97] } : ByteArray) ++ { data := #[46, 108, 111, 103] }).toList) = true := by rw [hLogS, tx_list, tx_list]; simpa using hq
        have hq2 : (tx t.x.nm).toList = (({ data := #[97] } : ByteArray) ++ { data := #[46, 108, 111, 103] }).toList := by simpa using hq'
        have HQ : Hid (t.x.nm = nLog) := hq
        clear hq
        by_cases hw : K ≤ WL
        · have hwi : (K : Int) ≤ (WL : Int) := by omega
          clear hw
          go_wp2_with fail
          refine bodyPost_ret (results_tmp Try.results53 _ _ _) rfl ⟨some ⟨wr.heap.size + 1, 0, none⟩, [(nLog, ns)], 1, rfl, ?_⟩
          have hb1 : Below w.heap.size w ((wr.alloc (.cells #[.string (tx t.x.nm), .slice t.da t.x.b.length t.dc, .int .i64 (safeN t.x.b t.x.ws), .slice t.ba WL t.bc] 121)).alloc (.cells #[.string (tx t.x.nm), .slice na K nc] 86)) := HB.out.trans ((((bel1 wr _).alloc (by simp) _)).mono HB.out.size)
          have hnew : ((wr.alloc (.cells #[.string (tx t.x.nm), .slice t.da t.x.b.length t.dc, .int .i64 (safeN t.x.b t.x.ws), .slice t.ba WL t.bc] 121)).alloc (.cells #[.string (tx t.x.nm), .slice na K nc] 86)).heap[wr.heap.size + 1]? = some (.cells #[.string (tx t.x.nm), .slice na K nc] 86 (0, 0)) := by
            have h := Go.heap_alloc_new (wr.alloc (.cells #[.string (tx t.x.nm), .slice t.da t.x.b.length t.dc, .int .i64 (safeN t.x.b t.x.ws), .slice t.ba WL t.bc] 121)) (.cells #[.string (tx t.x.nm), .slice na K nc] 86)
            rw [World.size_alloc] at h
            exact h
          obtain ⟨y1, y2, y3, y4, y5, y6, y7, y8⟩ := HM.out
          rw [← y6]
          refine ⟨⟨some ⟨wr.heap.size + 1, 0, none⟩, 1, rfl, Nat.le_refl _, fun j x hj => ?_⟩, .inr rfl, by rw [y6]; exact hb1⟩
          match j, hj with
          | 0, hj =>
            obtain rfl : (nLog, ns) = x := by simpa using hj
            rw [← y6] at hnew hb1
            have hz := HB.out.size
            refine ⟨by show (ns.length : Int) ≤ _; omega, wr.heap.size + 1, 0, .slice na ns.length nc, rfl, .inr ⟨by omega, by simp⟩, ?_, ?_, ?_⟩
            · rw [cell_of_row _ _ _ _ _ _ hnew, HQ.out]; rfl
            · rw [cell_of_row _ _ _ _ _ _ hnew]; rfl
            · obtain ⟨a, cap2, u1, u2, u3⟩ := y4
              refine ⟨a, cap2, u1, u2, fun j x hj => ?_⟩
              obtain ⟨b, off, v1, v2, v3⟩ := u3 j x hj
              exact ⟨b, off, v1, .inl v2, (cell_same (hb1.block b (y5 b v2))).trans v3⟩
        · have hwi : ¬ (K : Int) ≤ (WL : Int) := by omega
          clear hw
          go_wp2_with fail
          go_roundw
          case rel => exact ⟨i + 1, HN.out, by push_cast; rfl, HB.out.trans ((bel1 _ _).mono HB.out.size)⟩
          case measure => have := HN.out; simp [intOf]; omega
      · have hq' : ((tx t.x.nm).toList == (({ data := #[97] } : ByteArray) ++ { data := #[46, 108, 111, 103] }).toList) = false := by rw [hLogS, tx_list, tx_list]; simpa using hq
        have hq2 : ¬ (tx t.x.nm).toList = (({ data := #[97] } : ByteArray) ++ { data := #[46, 108, 111, 103] }).toList := by simpa using hq'
        clear hq
        go_wp2_with fail
        go_roundw
        case rel => exact ⟨i + 1, HN.out, by push_cast; rfl, HB.out.trans ((bel1 _ _).mono HB.out.size)⟩
        case measure => have := HN.out; simp [intOf]; omega
    · have hge : ¬ ((i : Int) < (n : Int)) := by omega
      clear hlt
      go_wp2_with fail
      refine bodyPost_ret (results_tmp Try.results53 _ _ _) rfl ⟨none, [], 0, rfl, keepsAt_nil, .inl rfl, HB.out⟩
end Go.Proofs.Ytflhgphjkhplmaa.D

/- The pair's step: a crash of both disks, and both logs are opened again. -/
namespace Go.Proofs.Ytflhgphjkhplmaa.D
open Go Go.RowKit W R Go.Shelf
set_option linter.unusedVariables false
set_option linter.unusedSimpArgs false
attribute [local go_sem] Oper.semAt_some

variable {w w' w0 : World} {p D R L B k k' : Nat} {F G Y Y' Pn : Nat → Prop} {sy : Int} {dl dl' : List Fd} {lv rv : Value} {g : Lg} {m : Mg} {ks : List Kn}
/-- The pair's disks, apart, not alike. -/
structure PE (w : World) (p D R k : Nat) (Y : Nat → Prop) (dl dl' : List Fd) (lv rv : Value) : Prop where
  ex : ∃ F G sy sy', (DR w D F sy dl ∧ Inv k sy dl) ∧ (MR w R G sy' dl' ∧ Inv k sy' dl') ∧ (∀ q, F q → ¬ G q) ∧ (w.heap[p]? = some (.cells (pC D R lv rv) 47 (0, 0)) ∧ ¬ F p ∧ ¬ G p) ∧ ∀ q, Y q ↔ F q ∨ G q ∨ q = p
theorem PD.pe (h : PD w p D R k Y dl lv rv) : PE w p D R k Y dl dl lv rv := ⟨h.ex⟩
theorem PE.pd (h : PE w p D R k Y dl dl lv rv) : PD w p D R k Y dl lv rv := ⟨h.ex⟩
theorem PE.lt (h : PE w p D R k Y dl dl' lv rv) : ∀ q, Y q → q < w.heap.size := by
  obtain ⟨F, G, sy, sy', ⟨h1, -⟩, ⟨h2, -⟩, h3, ⟨h4, -⟩, h5⟩ := h
  intro q hq
  rcases (h5 q).1 hq with h | h | rfl
  · exact h1.lt q h
  · exact h2.lt q h
  · exact (Array.getElem?_eq_some_iff.1 h4).1
theorem PE.newer (h : PE w p D R k Y dl dl' lv rv) (hb : Below w.heap.size w w') : PE w' p D R k Y dl dl' lv rv := by
  have hlt := h.lt
  obtain ⟨F, G, sy, sy', ⟨h1, i1⟩, ⟨h2, i2⟩, h3, ⟨h4, h6⟩, h5⟩ := h
  exact ⟨F, G, sy, sy', ⟨h1.newer hb, i1⟩, ⟨h2.newer hb, i2⟩, h3, ⟨(hb.block p (hlt p ((h5 p).2 (.inr (.inr rfl))))).trans h4, h6⟩, h5⟩
theorem PE.cells (h : PE w p D R k Y dl dl' lv rv) : w.cell? ⟨p, 0, none⟩ = some (.pointer (some ⟨D, 0, none⟩)) ∧ w.cell? ⟨p, 1, none⟩ = some (.pointer (some ⟨R, 0, none⟩)) := by
  obtain ⟨F, G, sy, sy', -, -, -, ⟨h4, -⟩, -⟩ := h
  refine ⟨?_, ?_⟩ <;> (rw [cell_of_row _ _ _ _ _ _ h4]; rfl)
theorem pe_crash_p {kv : Value} (h : PE w p D R k Y dl dl' lv rv) (hk : k ≤ 1000000) (hkv : KeepsAt Pn w kv ks) (hP : ∀ q, Pn q → q < w.heap.size ∧ ¬ Y q) (hkl : ks.length ≤ 1048576) : Calls Try.prog 40 #[.pointer (some ⟨D, 0, none⟩), kv] w fun e w' => e = .returned (.int .i64 (wrE dl [] ks)) ∧ ∃ Y', Hid (PE w' p D R (k + 1) Y' (crA dl ks) dl' lv rv ∧ Fr Y Y' w w') := by
  obtain ⟨F, G, sy, sy', ⟨h1, i1⟩, ⟨h2, i2⟩, h3, ⟨h4, h5, h6⟩, h7⟩ := h
  refine (p_crash h1 i1 hk hkv (fun q hq => ⟨(hP q hq).1, fun e => (hP q hq).2 ((h7 q).2 (.inl e))⟩) hkl).mono ?_
  rintro e w' ⟨rfl, F', a1, a2⟩
  obtain ⟨b1, b2, b3, b4, b5⟩ := fr_left (p := p) a2 h3 h2.lt (Array.getElem?_eq_some_iff.1 h4).1 h5
  exact ⟨rfl, fun q => F' q ∨ G q ∨ q = p, ⟨F', G, sy, sy', ⟨a1, crA_inv i1⟩, ⟨h2.at' b1, i2.more⟩, b3, ⟨b2.trans h4, b4, h6⟩, fun q => Iff.rfl⟩, b5.from fun q => h7 q⟩
theorem pe_crash_m {kv : Value} (h : PE w p D R k Y dl dl' lv rv) (hk : k ≤ 1000000) (hkv : KeepsAt Pn w kv ks) (hP : ∀ q, Pn q → q < w.heap.size ∧ ¬ Y q) (hkl : ks.length ≤ 1048576) : Calls Try.prog 54 #[.pointer (some ⟨R, 0, none⟩), kv] w fun e w' => e = .returned (.int .i64 (wrE dl' [] ks)) ∧ ∃ Y', Hid (PE w' p D R (k + 1) Y' dl (crA dl' ks) lv rv ∧ Fr Y Y' w w') := by
  obtain ⟨F, G, sy, sy', ⟨h1, i1⟩, ⟨h2, i2⟩, h3, ⟨h4, h5, h6⟩, h7⟩ := h
  refine (m_crash h2 i2 hk hkv (fun q hq => ⟨(hP q hq).1, fun e => (hP q hq).2 ((h7 q).2 (.inr (.inl e)))⟩) hkl).mono ?_
  rintro e w' ⟨rfl, G', a1, a2⟩
  obtain ⟨b1, b2, b3, b4, b5⟩ := fr_left (p := p) a2 (fun q hq e => h3 q e hq) h1.lt (Array.getElem?_eq_some_iff.1 h4).1 h6
  refine ⟨rfl, fun q => F q ∨ G' q ∨ q = p, ⟨F, G', sy, sy', ⟨h1.at' b1, i1.more⟩, ⟨a1, crA_inv i2⟩, fun q e hq => b3 q hq e, ⟨b2.trans h4, h5, b4⟩, fun q => Iff.rfl⟩, ?_⟩
  refine ⟨b5.os, b5.tape, b5.output, b5.size, fun q hq hn => b5.block q hq fun e => hn ((h7 q).2 (e.elim (fun e => .inr (.inl e)) fun e => e.elim .inl fun e => .inr (.inr e))), fun q hq => ?_⟩
  rcases hq with e | e | e
  · exact .inl ((h7 q).2 (.inl e))
  · exact (b5.grow q (.inl e)).imp (fun e => (h7 q).2 (e.elim (fun e => .inr (.inl e)) fun e => e.elim .inl fun e => .inr (.inr e))) id
  · exact .inl ((h7 q).2 (.inr (.inr e)))
theorem LentR.keep {W W' : World} {base : Nat} {v : Value} {bs : List Int} (h : LentR W base v bs) (hk : ∀ q, v.ownBlock = some q → W'.heap[q]? = W.heap[q]?) : LentR W' base v bs := by
  obtain ⟨g, cap, cur, h1, h2, h3, h4, -⟩ := h.row
  exact h4 W' (hk g (by rw [h1]; rfl))
theorem inv_ws {s : Ps} {sy : Int} (h : Inv k sy s.dl) : ∀ p, s.f = some p → WsOk p.1.length p.2 := fun p hp => by
  have h1 := lk_log s
  rw [hp] at h1
  exact (h.each _ (lk_mem h1)).2.2.2
theorem px_inv {s : Ps} (h : PX w p D R L B k Y s.dl dl' g m) : ∃ sy, Inv k sy s.dl := by
  obtain ⟨F, P, G, Q, sy, sy', h1, h2, h3, h4, h5⟩ := h
  exact ⟨sy, h1.inv⟩
set_option maxRecDepth 100000 in
set_option maxHeartbeats 4000000 in
theorem step_any {s : Ps} {na : Option Addr} {nc : Nat} {ns : List Int} (h : PX w p D R L B k Y s.dl s.dl s.g s.m) (hc : s.okC) (hk : k ≤ 800000) (hN : NumsP Pn w (.slice na ns.length nc) ns) (hP : ∀ q, Pn q → q < w.heap.size ∧ ¬ Y q) (hn : ns.length ≤ 20) :
    Calls Try.prog 24 #[.pointer (some ⟨p, 0, none⟩), .string { data := #[97] }, .agg #[.int .i64 3, .slice none 0 0, .slice na ns.length nc, .string { data := #[] }]] w fun e w' => e = .returned (.bool true) ∧ ∃ f' L' B' Y', Hid (((s.f = none → f' = none) ∧ ∀ p, s.f = some p → ∃ p' z, f' = some p' ∧ p'.1 = p.1.take (safeN p.1 p.2).toNat ++ z) ∧ PX w' p D R L' B' (k + 4) Y' (Ps.mk s.c f' s.l s.cut).op.dl (Ps.mk s.c f' s.l s.cut).op.dl (opG (Ps.mk s.c f' s.l s.cut).dl) (Ps.mk s.c f' s.l s.cut).op.m ∧ Fr Y Y' w w') := by
  obtain ⟨K, hK⟩ : ∃ K, ns.length = K := ⟨_, rfl⟩
  have HS : Hid (PX w p D R L B k Y s.dl s.dl s.g s.m ∧ s.okC ∧ k ≤ 800000 ∧ NumsP Pn w (.slice na ns.length nc) ns ∧ (∀ q, Pn q → q < w.heap.size ∧ ¬ Y q) ∧ ns.length = K ∧ K ≤ 20) := ⟨h, hc, hk, hN, hP, hK, by omega⟩
  rw [hK]
  clear h hc hk hN hP hn hK
  go_enter Try.func24, Try.ntmps24
  go_upto_region 1 with (fail)
  obtain ⟨Wo, hWo⟩ : ∃ Wo, w.alloc (.cells #[.int .i64 3, .slice none 0 0, .slice na K nc, .string { data := #[] }] 55) = Wo := ⟨_, rfl⟩
  obtain ⟨O, hO⟩ : ∃ O, w.heap.size = O := ⟨_, rfl⟩
  have HW : Hid (Below w.heap.size w Wo ∧ Wo.heap[O]? = some (.cells #[.int .i64 3, .slice none 0 0, .slice na K nc, .string { data := #[] }] 55 (0, 0)) ∧ w.heap.size = O) := by
    show _ ∧ _
    rw [← hWo, ← hO]
    exact ⟨bel1 _ _, Go.heap_alloc_new _ _, rfl⟩
  rw [hWo, hO]
  clear hWo hO
  have o0 : Wo.cell? ⟨O, 0, none⟩ = some (.int .i64 3) := by rw [cell_of_row _ _ _ _ _ _ HW.out.2.1]; rfl
  have o1 : Wo.cell? ⟨O, 1, none⟩ = some (.slice none 0 0) := by rw [cell_of_row _ _ _ _ _ _ HW.out.2.1]; rfl
  have HL : Hid (Calls Try.prog 7 #[.slice none 0 0] Wo fun e w' => ∃ g c, e = .returned (.slice (some ⟨g, 0, none⟩) 0 c) ∧ Hid (LentR w' Wo.heap.size (.slice (some ⟨g, 0, none⟩) 0 c) [] ∧ Below Wo.heap.size Wo w')) :=
    lent7 (bs := []) (.inl ⟨rfl, rfl⟩) (fun x hx => absurd hx (by simp)) (by decide)
  go_upto_region 3 with (go_at_call 7; refine HL.out.mono ?_; rintro e w1 ⟨g1, k1, rfl, H1⟩)
  have H1b : Hid (Below w.heap.size w w1 ∧ w1.heap[O]? = some (.cells #[.int .i64 3, .slice none 0 0, .slice na K nc, .string { data := #[] }] 55 (0, 0))) := ⟨HW.out.1.trans (H1.out.2.mono HW.out.1.size), (H1.out.2.block O (Array.getElem?_eq_some_iff.1 HW.out.2.1).1).trans HW.out.2.1⟩
  clear o0 o1 HL
  have o0 : w1.cell? ⟨O, 0, none⟩ = some (.int .i64 3) := by rw [cell_of_row _ _ _ _ _ _ H1b.out.2]; rfl
  have o2 : w1.cell? ⟨O, 2, none⟩ = some (.slice na K nc) := by rw [cell_of_row _ _ _ _ _ _ H1b.out.2]; rfl
  have HX1 : Hid (PX w1 p D R L B k Y s.dl s.dl s.g s.m ∧ NumsP Pn w1 (.slice na ns.length nc) ns ∧ ∀ q, Pn q → q < w1.heap.size ∧ ¬ Y q) := ⟨HS.out.1.newer H1b.out.1, HS.out.2.2.2.1.at' fun q hq => H1b.out.1.block q (HS.out.2.2.2.2.1 q hq).1, fun q hq => ⟨Nat.lt_of_lt_of_le (HS.out.2.2.2.2.1 q hq).1 H1b.out.1.size, (HS.out.2.2.2.2.1 q hq).2⟩⟩
  have HKP : Hid (Calls Try.prog 53 #[.pointer (some ⟨p, 0, none⟩), .string { data := #[97] }, .slice na K nc] w1 fun e w' => ∃ a ks c, e = .returned (.slice a ks.length c) ∧ Hid (KeepsAt (fun q => Pn q ∨ (w1.heap.size ≤ q ∧ q < w'.heap.size)) w' (.slice a ks.length c) ks ∧ (ks = [] ∨ ks = [(nLog, ns)]) ∧ Below w1.heap.size w1 w')) := by
    obtain ⟨F, P, G, Q, sy, sy', a1, a2, a3, a4, a5⟩ := HX1.out.1
    have h := keeps_any a4.1 a2.mr (by have := dl_len s; omega) HX1.out.2.1 (fun q hq => (HX1.out.2.2 q hq).1) (by rw [HS.out.2.2.2.2.2.1]; exact HS.out.2.2.2.2.2.2)
    rw [HS.out.2.2.2.2.2.1] at h
    exact h
  go_upto_region 13 with (go_at_call 53; refine HKP.out.mono ?_; rintro e w2 ⟨ka, ks, kc, rfl, H2⟩)
  obtain ⟨Y0, hpd, hpf⟩ := HX1.out.1.disks
  obtain ⟨sy, hinv⟩ := px_inv HS.out.1
  obtain ⟨f', hcr, hf1, hf2⟩ := cr_any s ks (inv_ws hinv)
  obtain ⟨s2, hs2⟩ : ∃ s2, Ps.mk s.c f' s.l s.cut = s2 := ⟨_, rfl⟩
  rw [hs2] at hcr
  have HCR : Hid (crA s.dl ks = s2.dl ∧ Ps.mk s.c f' s.l s.cut = s2 ∧ ((s.f = none → f' = none) ∧ ∀ p, s.f = some p → ∃ p' z, f' = some p' ∧ p'.1 = p.1.take (safeN p.1 p.2).toNat ++ z) ∧ s2.okC) := ⟨hcr, hs2, ⟨hf1, hf2⟩, by rw [← hs2]; exact HS.out.2.1⟩
  have hbd : Below w2.heap.size w2 w2.drew := drewN_below w2 1
  have HPE : Hid (PE w2.drew p D R k Y0 s.dl s.dl (.pointer (some ⟨L, 0, none⟩)) (.pointer (some ⟨B, 0, none⟩)) ∧ Fr Y Y0 w1 w2.drew ∧ Below w1.heap.size w1 w2.drew) := by
    have hb2 := H2.out.2.2.trans (hbd.mono H2.out.2.2.size)
    exact ⟨(hpd.pe.newer H2.out.2.2).newer hbd, hpf.trans' (Fr.newer hb2), hb2⟩
  have hP2 : ∀ q, (Pn q ∨ (w1.heap.size ≤ q ∧ q < w2.heap.size)) → q < w2.drew.heap.size ∧ ¬ Y0 q := fun q hq => by
    have hz := H2.out.2.2.size
    rcases hq with h | h
    · refine ⟨Nat.lt_of_lt_of_le (HX1.out.2.2 q h).1 hz, fun e => ?_⟩
      rcases hpf.grow q e with h' | h'
      · exact (HX1.out.2.2 q h).2 h'
      · have := (HX1.out.2.2 q h).1
        have h'' : w1.heap.size ≤ q := h'
        omega
    · exact ⟨h.2, fun e => by have := hpd.pe.lt q e; omega⟩
  have hkl : ks.length ≤ 1048576 := by rcases H2.out.2.1 with h | h <;> rw [h] <;> simp
  obtain ⟨A, hA⟩ : ∃ A, wrE s.dl [] ks = A := ⟨_, rfl⟩
  have HC1 : Hid (Calls Try.prog 40 #[.pointer (some ⟨D, 0, none⟩), .slice ka ks.length kc] w2.drew fun e w' => e = .returned (.int .i64 A) ∧ ∃ Y1, Hid (PE w' p D R (k + 1) Y1 s2.dl s.dl (.pointer (some ⟨L, 0, none⟩)) (.pointer (some ⟨B, 0, none⟩)) ∧ Fr Y0 Y1 w2.drew w')) := by
    have h := pe_crash_p HPE.out.1 (by have := HS.out.2.2.1; omega) (H2.out.1.at' fun q hq => rfl) hP2 hkl
    rw [hA, hcr] at h
    exact h
  have HC2 : Hid (∀ V Y1, PE V p D R (k + 1) Y1 s2.dl s.dl (.pointer (some ⟨L, 0, none⟩)) (.pointer (some ⟨B, 0, none⟩)) → Fr Y0 Y1 w2.drew V → Calls Try.prog 54 #[.pointer (some ⟨R, 0, none⟩), .slice ka ks.length kc] V fun e w' => e = .returned (.int .i64 A) ∧ ∃ Y2, Hid (PE w' p D R (k + 1 + 1) Y2 s2.dl s2.dl (.pointer (some ⟨L, 0, none⟩)) (.pointer (some ⟨B, 0, none⟩)) ∧ Fr Y0 Y2 w2.drew w')) := by
    show ∀ V, _
    intro V Y1 hV hVf
    have h := pe_crash_m hV (by have := HS.out.2.2.1; omega) (H2.out.1.at' fun q hq => hVf.block q (hP2 q hq).1 (hP2 q hq).2) (fun q hq => ⟨Nat.lt_of_lt_of_le (hP2 q hq).1 hVf.size, fun e => by
      rcases hVf.grow q e with h' | h'
      · exact (hP2 q hq).2 h'
      · have := (hP2 q hq).1
        have h'' : w2.drew.heap.size ≤ q := h'
        omega⟩) hkl
    rw [hA, hcr] at h
    refine h.mono ?_
    rintro e w' ⟨rfl, Y2, H⟩
    exact ⟨rfl, Y2, H.out.1, hVf.trans' H.out.2⟩
  have HOP : Hid (∀ V Y2, PE V p D R (k + 1 + 1) Y2 s2.dl s2.dl (.pointer (some ⟨L, 0, none⟩)) (.pointer (some ⟨B, 0, none⟩)) → Fr Y0 Y2 w2.drew V → Calls Try.prog 17 #[.pointer (some ⟨p, 0, none⟩), .string { data := #[97] }] V fun e w' => e = .returned (.bool true) ∧ ∃ L' B' Y', Hid (PX w' p D R L' B' (k + 4) Y' s2.op.dl s2.op.dl (opG s2.dl) s2.op.m ∧ Fr Y0 Y' w2.drew w')) := by
    show ∀ V, _
    intro V Y2 hV hVf
    refine (popen_any hV.pd HCR.out.2.2.2 (by have := HS.out.2.2.1; omega)).mono ?_
    rintro e w' ⟨rfl, L', B', Y', H⟩
    exact ⟨rfl, L', B', Y', H.out.1, hVf.trans' H.out.2⟩
  have HCD : Hid (∀ V Y1 d1 d2 k1, PE V p D R k1 Y1 d1 d2 (.pointer (some ⟨L, 0, none⟩)) (.pointer (some ⟨B, 0, none⟩)) → V.cell? ⟨p, 0, none⟩ = some (.pointer (some ⟨D, 0, none⟩)) ∧ V.cell? ⟨p, 1, none⟩ = some (.pointer (some ⟨R, 0, none⟩))) := fun V Y1 d1 d2 k1 hV => hV.cells
  obtain ⟨d0, d1⟩ := HPE.out.1.cells
  clear hpd hpf hinv hcr hf1 hf2 hs2 hbd hP2 hkl hA o0 o2
  go_region_held3 (fun w' => w'.cell? ⟨p, 0, none⟩ = some (.pointer (some ⟨D, 0, none⟩)) ∧ w'.cell? ⟨p, 1, none⟩ = some (.pointer (some ⟨R, 0, none⟩))) (first | exact K1 | exact K2 | exact K3 | go_keep) (first
      | (go_at_call 40; refine HC1.out.mono ?_; rintro e w3 ⟨rfl, Y1, H3⟩; (have K1 := HCD.out _ _ _ _ _ H3.out.1))
      | (go_at_call 54; refine (HC2.out w3 Y1 H3.out.1 H3.out.2).mono ?_; rintro e w4 ⟨rfl, Y2, H4⟩; (have K2 := HCD.out _ _ _ _ _ H4.out.1))
      | (go_at_call 17; refine (HOP.out w4 Y2 H4.out.1 H4.out.2).mono ?_; rintro e w5 ⟨rfl, L', B', Y3, H5⟩; (have K3 : w5.cell? ⟨p, 0, none⟩ = some (.pointer (some ⟨D, 0, none⟩)) ∧ w5.cell? ⟨p, 1, none⟩ = some (.pointer (some ⟨R, 0, none⟩)) := ⟨H5.out.1.cells.1, H5.out.1.cells.2.1⟩)))
  have nY0 : ∀ q, w.heap.size ≤ q → q < w1.heap.size → ¬ Y0 q := fun q h1 h2 e => by
    rcases HPE.out.2.1.grow q e with h | h
    · have := HS.out.1.lt q h; omega
    · have h' : w1.heap.size ≤ q := h
      omega
  have hO1 : O < w1.heap.size := (Array.getElem?_eq_some_iff.1 H1b.out.2).1
  have hsz : w1.heap.size ≤ w2.drew.heap.size := HPE.out.2.2.size
  have hk : ∀ q, w.heap.size ≤ q → q < w1.heap.size → w5.heap[q]? = w1.heap[q]? := fun q h1 h2 => (H5.out.2.block q (by omega) (nY0 q h1 h2)).trans (HPE.out.2.2.block q h2)
  have hO5 : w5.heap[O]? = some (.cells #[.int .i64 3, .slice none 0 0, .slice na K nc, .string { data := #[] }] 55 (0, 0)) := (hk O (by rw [HW.out.2.2]; exact Nat.le_refl _) hO1).trans H1b.out.2
  have o1 : w5.cell? ⟨O, 1, none⟩ = some (.slice none 0 0) := by rw [cell_of_row _ _ _ _ _ _ hO5]; rfl
  have HL5 : Hid (LentR w5 Wo.heap.size (.slice (some ⟨g1, 0, none⟩) 0 k1) []) := LentR.keep H1.out.1 fun q hq => by
    have h := (LentR.own H1.out.1).lt q hq
    exact hk q (Nat.le_trans HW.out.1.size h.1) h.2
  have HKT : Hid (Calls Try.prog 10 #[.slice (some ⟨g1, 0, none⟩) 0 k1, .slice none 0 0] w5 fun e w' => e = .returned (.bool true) ∧ w' = w5) := kept_any HL5.out (.inl ⟨rfl, rfl⟩) (fun x hx => absurd hx (by simp)) (by decide)
  have HSP : Hid (Calls Try.prog 14 #[.slice (some ⟨g1, 0, none⟩) 0 k1] w5 fun e w' => (∃ u, e = .returned u) ∧ Hid (Gr (.slice (some ⟨g1, 0, none⟩) 0 k1) w5 (.slice none 0 0) w')) := spoil_own (zs := []) (LentR.own HL5.out) (fun x hx => absurd hx (by simp)) (by decide)
  have HNY : Hid (∀ q, (Value.slice (some ⟨g1, 0, none⟩) 0 k1).ownBlock = some q → ¬ Y3 q ∧ w.heap.size ≤ q) := fun q hq => by
    have h := (LentR.own H1.out.1).lt q hq
    have h0 : w.heap.size ≤ q := Nat.le_trans HW.out.1.size h.1
    refine ⟨fun e => ?_, h0⟩
    rcases H5.out.2.grow q e with h' | h'
    · exact nY0 q h0 h.2 h'
    · have h'' : w2.drew.heap.size ≤ q := h'
      have := h.2
      omega
  have HFR : Hid (Fr Y Y3 w w5) := ((Fr.newer H1b.out.1).trans' HPE.out.2.1).trans' H5.out.2
  clear d0 d1 K1 K2 K3 nY0 hO1 hsz hk hO5
  go_wp2_with (first
    | (go_at_call 10; refine HKT.out.mono ?_; rintro e w6 ⟨rfl, hw6⟩; rw [hw6]; clear hw6)
    | (go_at_call 14; refine HSP.out.mono ?_; rintro e w6 ⟨⟨u6, rfl⟩, H6⟩))
  refine bodyPost_ret (v := .bool true) (results_tmp Try.results24 _ _ _) rfl ⟨rfl, f', L', B', Y3, ?_⟩
  rw [HCR.out.2.1]
  have hg := H6.out
  refine ⟨HCR.out.2.2.1, (H5.out.1.at' fun q hq => hg.block q (H5.out.1.lt q hq) fun e => (HNY.out q e).1 hq), ?_⟩
  have hf := HFR.out
  exact ⟨hg.os.trans hf.os, hg.tape.trans hf.tape, hg.output.trans hf.output, Nat.le_trans hf.size hg.size, fun q hq hn => (hg.block q (Nat.lt_of_lt_of_le hq hf.size) fun e => by have := (HNY.out q e).2; omega).trans (hf.block q hq hn), hf.grow⟩
end Go.Proofs.Ytflhgphjkhplmaa.D

/- Two lists of rows of bytes, as many in each: alike or not. -/
namespace Go.Proofs.Ytflhgphjkhplmaa.D
open Go Go.RowKit W R Go.Shelf
set_option linter.unusedVariables false
set_option linter.unusedSimpArgs false
attribute [local go_sem] Oper.semAt_some

theorem take_snoc_map {A : List (Value × List Int)} {k : Nat} {x : Value × List Int} (h : A[k]? = some x) : (A.take (k + 1)).map Prod.snd = (A.take k).map Prod.snd ++ [x.2] := by
  rw [List.take_add_one, h, List.map_append]
  rfl
set_option maxRecDepth 20000 in
set_option maxHeartbeats 4000000 in
theorem same_dec (W : World) (la lb : Value) (A B : List (Value × List Int)) {ba bb : Nat} (ha : W.ownsRow ba 23 1 la A.length (A.map Prod.fst)) (hb : W.ownsRow bb 23 1 lb B.length (B.map Prod.fst)) (hA : ∀ x ∈ A, Src W x.1 x.2 ∧ Byt x.2) (hB : ∀ x ∈ B, Src W x.1 x.2 ∧ Byt x.2) (hAB : A.length = B.length) (hl : A.length ≤ 2000000) :
    Calls Try.prog 13 #[la, lb] W fun e w' => e = .returned (.bool (decide (A.map Prod.snd = B.map Prod.snd))) ∧ ∃ n, w' = W.drewN n := by
  obtain ⟨aa, ac, rfl⟩ := own_slice ha
  obtain ⟨ab, bc, rfl⟩ := own_slice hb
  obtain ⟨N, hN⟩ : ∃ N, A.length = N := ⟨_, rfl⟩
  rw [← hAB] at hb ⊢
  have HH : Hid (W.ownsRow ba 23 1 (.slice aa A.length ac) A.length (A.map Prod.fst) ∧ W.ownsRow bb 23 1 (.slice ab A.length bc) A.length (B.map Prod.fst) ∧ (∀ x ∈ A, Src W x.1 x.2 ∧ Byt x.2) ∧ (∀ x ∈ B, Src W x.1 x.2 ∧ Byt x.2) ∧ A.length = N ∧ A.length = B.length) := ⟨ha, hb, hA, hB, hN, hAB⟩
  rw [hN] at hl ⊢
  have hNi : (N : Int) ≤ 2000000 := by omega
  clear ha hb hA hB hN hAB hl
  go_enter Try.func13, Try.ntmps13
  go_wp2_with fail
  go_loopw [5] (fun x wr => ∃ k : Nat, k ≤ N ∧ x = .int .i64 (k : Int) ∧ Hid ((A.take k).map Prod.snd = (B.take k).map Prod.snd) ∧ ∃ n, wr = W.drewN n) (fun x wr => N - (intOf x).toNat)
  case atStart => exact ⟨0, Nat.zero_le _, rfl, (by simp : ((A.take 0).map Prod.snd = (B.take 0).map Prod.snd)), 0, rfl⟩
  case round =>
    obtain ⟨k, hk, rfl, HE, n, rfl⟩ := hrel
    by_cases hlt : k < N
    · obtain ⟨h1, h2, h3, h4, h6, h7⟩ := HH.out
      obtain ⟨ga, ca, rfl⟩ : ∃ g c, aa = some ⟨g, 0, none⟩ := by
        obtain ⟨g, cap, e⟩ := own_form h1 (by omega)
        injection e with e1
        exact ⟨g, 0, e1⟩
      obtain ⟨gb, cb, rfl⟩ : ∃ g c, ab = some ⟨g, 0, none⟩ := by
        obtain ⟨g, cap, e⟩ := own_form h2 (by omega)
        injection e with e1
        exact ⟨g, 0, e1⟩
      have hkA : k < A.length := by omega
      have hkB : k < B.length := by omega
      obtain ⟨⟨va, za⟩, hva⟩ : ∃ x, A[k] = x := ⟨_, rfl⟩
      obtain ⟨⟨vb, zb⟩, hvb⟩ : ∃ x, B[k] = x := ⟨_, rfl⟩
      have HAB : Hid (A[k]? = some (va, za) ∧ B[k]? = some (vb, zb)) := ⟨by rw [List.getElem?_eq_getElem hkA, hva], by rw [List.getElem?_eq_getElem hkB, hvb]⟩
      obtain ⟨s1, z1⟩ : Src W va za ∧ Byt za := h3 (va, za) (hva ▸ List.getElem_mem hkA)
      obtain ⟨s2, z2⟩ : Src W vb zb ∧ Byt zb := h4 (vb, zb) (hvb ▸ List.getElem_mem hkB)
      have ka : ∀ m, (W.drewN m).cell? ⟨ga, k, none⟩ = some va := fun m => by
        have h := h1.cellAt k (by omega)
        rw [List.getElem?_map, List.getElem?_eq_getElem hkA, hva] at h
        exact h
      have kb : ∀ m, (W.drewN m).cell? ⟨gb, k, none⟩ = some vb := fun m => by
        have h := h2.cellAt k (by omega)
        rw [List.getElem?_map, List.getElem?_eq_getElem hkB, hvb] at h
        exact h
      obtain ⟨aa', ac', hsa⟩ := s1.slice
      obtain ⟨ab', ac2, hsb⟩ := s2.slice
      have heq := bT_eq z1 z2
      have q1 : ∀ m, (convert 23 9 va).run Try.prog (W.drewN m) = .ok (.string (bT za)) (W.drewN m) := fun m => Src.conv (w := W.drewN m) s1 z1
      have q2 : ∀ m, (convert 23 9 vb).run Try.prog (W.drewN m) = .ok (.string (bT zb)) (W.drewN m) := fun m => Src.conv (w := W.drewN m) s2 z2
      obtain ⟨T1, hT1⟩ : ∃ T, bT za = T := ⟨_, rfl⟩
      obtain ⟨T2, hT2⟩ : ∃ T, bT zb = T := ⟨_, rfl⟩
      obtain ⟨M1, hM1⟩ : ∃ M, za.length = M := ⟨_, rfl⟩
      obtain ⟨M2, hM2⟩ : ∃ M, zb.length = M := ⟨_, rfl⟩
      rw [hT1] at q1 heq
      rw [hT2] at q2 heq
      rw [hM1] at hsa
      rw [hM2] at hsb
      have HAB2 : Hid (A[k]? = some (.slice aa' M1 ac', za) ∧ B[k]? = some (.slice ab' M2 ac2, zb)) := by rw [← hsa, ← hsb]; exact HAB.out
      rw [hsa] at ka q1
      rw [hsb] at kb q2
      have hki : (k : Int) < (N : Int) := by omega
      clear HAB
      by_cases hz : za = zb
      · have hTT : (T1.toList == T2.toList) = true := by rw [heq]; exact decide_eq_true hz
        have HZ : Hid (za = zb ∧ k < N) := ⟨hz, hlt⟩
        clear h1 h2 h3 h4 h6 h7 s1 s2 z1 z2 hva hvb hT1 hT2 hM1 hM2 hkA hkB hsa hsb heq hz hlt hk
        go_wp2_with fail
        go_quiet (fail)
        go_wp2_with fail
        go_roundw
        case rel =>
          refine ⟨k + 1, HZ.out.2, by go_num, ?_, _, rfl⟩
          show (A.take (k + 1)).map Prod.snd = (B.take (k + 1)).map Prod.snd
          rw [take_snoc_map HAB2.out.1, take_snoc_map HAB2.out.2, HE.out]
          show _ ++ [za] = _ ++ [zb]
          rw [HZ.out.1]
        case measure => have := HZ.out; simp [intOf]; omega
      · have hTT : (T1.toList == T2.toList) = false := by rw [heq]; exact decide_eq_false hz
        have HZ : Hid (¬ A.map Prod.snd = B.map Prod.snd) := fun e => by
          have h := congrArg (fun l => l[k]?) e
          simp only [List.getElem?_map, HAB2.out.1, HAB2.out.2, Option.map_some, Option.some.injEq] at h
          exact hz h
        clear h1 h2 h3 h4 h6 h7 s1 s2 z1 z2 hva hvb hT1 hT2 hM1 hM2 hkA hkB hsa hsb heq hz hlt hk
        go_wp2_with fail
        go_quiet (fail)
        go_wp2_with fail
        go_ret
        rw [decide_eq_false HZ.out]
        refine ⟨rfl, ?_⟩
        first | exact ⟨_, rfl⟩ | exact ⟨_, World.drewN_drewN _ _ _⟩
    · have hkN : k = N := by omega
      subst hkN
      have HT : Hid (A.map Prod.snd = B.map Prod.snd) := by
        have h := HE.out
        have h5 := HH.out.2.2.2.2
        rw [List.take_of_length_le (by omega), List.take_of_length_le (by omega)] at h
        exact h
      go_wp2_with fail
      go_ret
      rw [decide_eq_true HT.out]
      exact ⟨rfl, n, rfl⟩
end Go.Proofs.Ytflhgphjkhplmaa.D

/- For the law of what lasts: the beginning of a row, a row behind another, numbers that came in, a pair that is new. -/
namespace Go.Proofs.Ytflhgphjkhplmaa.D
open Go Go.RowKit W R Go.Shelf Go.ChangeShapes Go.WideShapes Go.ChangeAt
set_option linter.unusedVariables false
set_option linter.unusedSimpArgs false
attribute [local go_sem] Oper.semAt_some

variable {w w' w0 : World} {p D R L B k k' : Nat} {Y Y' : Nat → Prop}
theorem own_take {base e : Nat} {a : Option Addr} {N c n : Nat} {xs : List Value} (h : w.ownsRow base e 1 (.slice a N c) N xs) (hn : n ≤ N) : w.ownsRow base e 1 (.slice a n c) n (xs.take n) := by
  obtain ⟨h1, h2⟩ := h
  rcases h2 with ⟨h3, h4⟩ | ⟨g, cap, cur, h3, h4, h5, h6, h7, h8, h9⟩
  · subst h4
    have hn0 : n = 0 := by omega
    subst hn0
    injection h3 with e1 e2 e3
    subst e1
    subst e3
    exact World.ownsRow_nil _ _ _ _
  · injection h3 with e1 e2 e3
    subst e1
    subst e3
    refine ⟨by rw [List.length_take]; omega, .inr ⟨g, c, cur, rfl, h4, h5, by omega, h7, h8, ?_⟩⟩
    rw [← h9, List.take_take]
    congr 1
    omega
theorem wpList_append_rows {ops : Array Oper} {rest : List Oper} {o : Oper} {a : Act} {Q : Exit → Act → World → Prop} (hgd : o.guard = none) (s x : Operand)
    (ho : o.op = .call { callee := .builtin .append, args := #[s, x], argTypes := #[29, 29] }) (base : Nat) (v : Value) (n : Nat) (xs : List Value) (hs : a.eval s = v) (hown : w.ownsRow base 23 1 v n xs)
    {b2 : Nat} (u : Value) (m : Nat) (ys : List Value) (hx : a.eval x = u) (hu : w.ownsRow b2 23 1 u m ys) (hy : ∀ y ∈ ys, y.oneCell' = true) (hb : n + m ≤ 2000000) (hbase : base ≤ w.heap.size)
    (h : ∀ a' c' w', w'.ownsRow base 23 1 (.slice a' (n + m) c') (n + m) (xs ++ ys) → w.grownBy w' v.ownBlock → (∀ q, (Value.slice a' (n + m) c').ownBlock = some q → v.ownBlock = some q ∨ w.heap.size ≤ q) → wpList Try.prog ops Q rest (a.put o.dst (.slice a' (n + m) c')) w') : wpList Try.prog ops Q (o :: rest) a w := by
  obtain ⟨i0, hi, hz0, hz1, hz2⟩ := info_parts info23
  have hyl : ys.length = m := by have := hu.1; omega
  have hu2 := hu
  obtain ⟨va, vc, rfl⟩ := own_slice hown
  rcases hu.2 with ⟨h1, h2⟩ | ⟨g, cap, cur, h1, h3, h4, h5, h6, h7, h8⟩
  · subst h1
    subst h2
    have e : ys = [] := List.eq_nil_of_length_eq_zero hyl
    subst e
    refine wpList_append_own_none hgd s x 29 ho base 23 i0 1 Try.underlying29 (by rw [hi]) (.slice va n vc) n xs hs hown hx ?_
    exact h va vc w (by simpa using hown) ⟨rfl, rfl, rfl, Nat.le_refl _, fun _ _ _ => rfl⟩ (fun q hq => .inl (by cases va <;> exact hq))
  · subst h1
    have hnews : ∀ j y, ys[j]? = some y → w.cell? ((⟨g, 0, none⟩ : Addr).add j) = some y := fun j y hj => hu2.cells (g := g) rfl j y hj
    by_cases hm : 0 < m
    · refine wpList_append_lies _ hgd s x 29 ho base 23 i0 (.slice none 0 0) 1 24 Try.underlying29 hi hz0 hz1 hz2 rfl (by decide) (.slice va n vc) n xs hs hown ⟨g, 0, none⟩ m cap ys hx (by omega) hnews hy hm (by unfold maxLen; omega) (by omega) hbase w.heap.size rfl fun g' c' w' a1 a2 a3 a4 => h (some ⟨g', 0, none⟩) c' w' a1 a2 fun q hq => ?_
      have e : g' = q := by cases hq; rfl
      subst e
      exact a3.imp id fun e => by omega
    · obtain rfl : m = 0 := by omega
      rcases hown.2 with ⟨k1, k2⟩ | ⟨g', cap', cur', k1, k3, k4, k5, k6, -⟩
      · refine wpList_append_own w hgd s x 29 ho base 23 i0 (.slice none 0 0) 1 24 Try.underlying29 hi hz0 hz1 hz2 rfl (by decide) (.slice va n vc) n xs hs hown ⟨g, 0, none⟩ 0 cap ys hx (by omega) hnews hy (by unfold maxLen; omega) (by omega) hbase fun v' w' a1 a2 a3 => ?_
        have e := a3.2 ⟨k1, rfl⟩
        subst e
        subst k2
        exact h none 0 w' a1 a2 (fun q hq => by cases hq)
      · injection k1 with e1 e2 e3
        subst e1
        subst e3
        refine wpList_append_fits w hgd s x 29 ho base 23 i0 1 Try.underlying29 hi hz1 g' n vc xs hs hown ⟨g, 0, none⟩ 0 cap ys hx (by omega) hnews hy (by omega) fun w' a1 a2 => ?_
        exact h (some ⟨g', 0, none⟩) vc w' a1 a2 (fun q hq => .inl (by cases hq; rfl))
/-- Numbers that came in. -/
structure NV (w : World) (v : Value) (zs : List Int) : Prop where
  ex : ∃ a cap, v = .slice a zs.length cap ∧ zs.length ≤ cap ∧ ∀ i x, zs[i]? = some x → ∃ b off, a = some ⟨b, off, none⟩ ∧ w.cell? ⟨b, off + i, none⟩ = some (.int .i64 x)
  len : zs.length ≤ 1048576
theorem nums_of {H : Type} {enc : TypeId × Value → H} {W : World} {fuel : Nat} {v : Value} {d : DataW H} {q : List MemPlace} (h : DataW.trod enc Try.prog W 0 (fun _ => true) true fuel 36 [v] = some (d, q)) (hd : Rows.uptoBulk d ≤ 1048576) : ∃ zs, NV W v zs := by
  rcases open_ints Try.underlying36 Try.underlying3 (by kernel_rfl) h with ⟨hcs, _⟩ | ⟨x, l, c, zs, hcs, _, hl, hm, hz, hx, hcell, hwz⟩
  · simp only [List.cons.injEq, and_true] at hcs
    exact ⟨[], ⟨none, 0, hcs, Nat.le_refl _, fun i x hi => by simp at hi⟩, by decide⟩
  · simp only [List.cons.injEq, and_true] at hcs
    have hz' : zs.length = c := by simpa using hz
    simp only [Prod.mk.injEq] at hx
    rw [hx.1] at hd
    have hb := bulk_ints hd
    have hlen : (zs.take l).length = l := by simp; omega
    refine ⟨zs.take l, ⟨some x, c, by rw [hlen]; exact hcs, by omega, fun j u hu => ?_⟩, by omega⟩
    have hj : j < l := by have := (List.getElem?_eq_some_iff.1 hu).1; omega
    rw [List.getElem?_take_of_lt hj, List.getElem?_eq_getElem (by omega)] at hu
    have hc := hcell j (by omega)
    rw [List.getD_eq_getElem?_getD, List.getElem?_eq_getElem (by omega)] at hc
    obtain ⟨bb, off, rfl⟩ := plain_addr (x := x) (by have := hcell 0 (by omega); simpa [Addr.add] using this)
    rw [Addr.add_mid] at hc
    refine ⟨bb, off, rfl, ?_⟩
    rw [hc, ← Option.some.inj hu]
    rfl
/-- The model's disk, new. -/
theorem mr_new (w : World) : MR (w.alloc (.cells #[.slice none 0 0, .int .i64 0] 43)) w.heap.size (fun q => q = w.heap.size) 0 [] := by
  refine ⟨.slice none 0 0, [], ⟨Go.heap_alloc_new _ _, World.ownsRow_nil _ _ _ _, (fun t ht => absurd ht (by simp)), List.Pairwise.nil⟩, rfl, fun q => ?_⟩
  constructor
  · intro e; exact .inl e
  · rintro (e | e | ⟨t, ht, -⟩)
    · exact e
    · cases e
    · cases ht
theorem inv_new : Inv 0 0 [] := ⟨by decide, (fun x hx => absurd hx (by simp)), by decide, by decide⟩
def s00 : Ps := ⟨none, none, [], 0⟩
theorem s00_op : s00.op = s00 ∧ opG s00.dl = s00.g ∧ s00.okC := by
  have hz : s00.z = [] := rfl
  have hr : rrL [] s00.at' = [] := by unfold rrL; rw [good_nil]; rfl
  have hok : s00.okC := fun q hq => by cases hq
  refine ⟨?_, ?_, hok⟩
  · unfold Ps.op
    rw [hz, hr]
    rfl
  · rw [(op_both s00 hok).2.2.2, hz, hr]
    rfl
/-- The pair, new. -/
theorem pd_new (h : DR w D (fun q => q = D) 0 []) : PD ((w.alloc (.cells #[.slice none 0 0, .int .i64 0] 43)).alloc (.cells #[.pointer (some ⟨D, 0, none⟩), .pointer (some ⟨w.heap.size, 0, none⟩), .pointer none, .pointer none] 47)) (w.heap.size + 1) D w.heap.size 0 (fun q => q = D ∨ q = w.heap.size ∨ q = w.heap.size + 1) s00.dl (.pointer none) (.pointer none) := by
  have hD : D < w.heap.size := h.lt D rfl
  have hb1 : Below w.heap.size w (w.alloc (.cells #[.slice none 0 0, .int .i64 0] 43)) := bel1 _ _
  have hb2 := bel1 (w.alloc (.cells #[.slice none 0 0, .int .i64 0] 43)) (.cells #[.pointer (some ⟨D, 0, none⟩), .pointer (some ⟨w.heap.size, 0, none⟩), .pointer none, .pointer none] 47)
  refine ⟨fun q => q = D, fun q => q = w.heap.size, 0, 0, ⟨(h.newer hb1).newer hb2, inv_new⟩, ⟨(mr_new w).at' fun q hq => hb2.block q ?_, inv_new⟩, fun q hq e => ?_, ⟨?_, fun e => ?_, fun e => ?_⟩, fun q => Iff.rfl⟩
  · have hq' : q = w.heap.size := hq
    rw [World.size_alloc]; omega
  · have h1 : q = D := hq
    have h2 : q = w.heap.size := e
    omega
  · have h := Go.heap_alloc_new (w.alloc (.cells #[.slice none 0 0, .int .i64 0] 43)) (.cells #[.pointer (some ⟨D, 0, none⟩), .pointer (some ⟨w.heap.size, 0, none⟩), .pointer none, .pointer none] 47)
    rw [World.size_alloc] at h
    exact h
  · have h1 : w.heap.size + 1 = D := e
    omega
  · have h1 : w.heap.size + 1 = w.heap.size := e
    omega
end Go.Proofs.Ytflhgphjkhplmaa.D
