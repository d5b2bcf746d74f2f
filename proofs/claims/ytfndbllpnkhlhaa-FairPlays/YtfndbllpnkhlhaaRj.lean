/- The model's Step. -/
import Derived.Test.YtfndbllpnkhlhaaRi
import Derived.Test.YtfndbllpnkhlhaaI1
namespace Go.Proofs.Ytfndbllpnkhlhaa
open Go.RowKit
set_option linter.unusedVariables false
set_option linter.unusedSimpArgs false

variable {T base : Nat} {lv : Value} {m : List Rt} {clk clk' : Int} {srv srv' : List UInt8} {busy busy' : Bool}
set_option maxRecDepth 20000 in
set_option maxHeartbeats 4000000 in
theorem rrest_blk (w : World) (h : RS w T base lv m clk srv busy) (hl : m.length ≤ 16) :
    Calls Try.prog 61 #[.pointer (some ⟨T, 0, none⟩)] w fun e w' => (∃ v, e = .returned v) ∧ RS w' T base lv (m.map zrt) 0 srv busy ∧ Km base w w' ∧ w.heap.size ≤ w'.heap.size ∧ ∀ q, q ≠ T → lv.ownBlock ≠ some q → w'.heap[q]? = w.heap[q]? := by
  obtain ⟨sa, cap, hsv⟩ := own_slice h.row
  obtain ⟨W, hW⟩ : ∃ W, w.setCell ⟨T, 1, none⟩ (.int .i64 0) = W := ⟨_, rfl⟩
  have HW : Hid (RS W T base lv m 0 srv busy ∧ Km base w W ∧ w.heap.size ≤ W.heap.size ∧ ∀ q, q ≠ T → lv.ownBlock ≠ some q → W.heap[q]? = w.heap[q]?) := by rw [← hW]; exact ⟨(h.clk0 0).1, (h.clk0 0).2, by simp, fun q hq _ => Below.heap_setCell _ _ _ _ hq⟩
  have c1 := h.cells.2.1
  have f1 := h.cells.2.2.2.2 1
  subst hsv
  obtain ⟨n, hn⟩ : ∃ n, m.length = n := ⟨_, rfl⟩
  have HN : Hid (m.length = n) := hn
  rw [hn] at hl HW ⊢
  have hl' : (n : Int) ≤ 16 := by omega
  clear h hn hl
  go_enter Try.func61, Try.ntmps61
  go_wp2_with fail
  try rw [hW]
  clear hW
  go_loopw [2] (fun v wr => ∃ k : Nat, k ≤ n ∧ v = .int .i64 k ∧ RS wr T base (.slice sa n cap) (upTo zrt k m) 0 srv busy ∧ Km base w wr ∧ w.heap.size ≤ wr.heap.size ∧ ∀ q, q ≠ T → (Value.slice sa n cap).ownBlock ≠ some q → wr.heap[q]? = w.heap[q]?) (fun v wr => n - (intOf v).toNat)
  case atStart => exact ⟨0, by omega, rfl, by rw [upTo_zero]; exact HW.out.1, HW.out.2⟩
  case round =>
    obtain ⟨k, hk, rfl, hS, hK, hsz, hblk⟩ := hrel
    have HR : Hid (RS wr T base (.slice sa n cap) (upTo zrt k m) 0 srv busy ∧ Km base w wr ∧ w.heap.size ≤ wr.heap.size ∧ ∀ q, q ≠ T → (Value.slice sa n cap).ownBlock ≠ some q → wr.heap[q]? = w.heap[q]?) := ⟨hS, hK, hsz, hblk⟩
    have c0 := hS.cells.1
    by_cases hlt : k < n
    · have hlt' : (k : Int) < (n : Int) := by omega
      obtain ⟨s, hs⟩ : ∃ s, m[k]? = some s := ⟨_, List.getElem?_eq_getElem (by have := HN.out; omega)⟩
      have hul : (upTo zrt k m).length = n := (upTo_len _ _ _).trans HN.out
      obtain ⟨g, cp, hv⟩ := own_form hS.row (by omega)
      have hsa : sa = some ⟨g, 0, none⟩ := (Value.slice.inj hv).1
      subst hsa
      have hrt := own_rt hS.row (upTo_at zrt hs)
      have e2 := hrt.2.2.1
      have f2 := hrt.2.2.2.2 (k * 4 + 2)
      have hcap : (n : Int) ≤ (cap : Int) := by have h1 := hS.row; rw [hul] at h1; have := own_cap h1; omega
      have HX : Hid (RS (wr.setCell ⟨g, k * 4 + 2, none⟩ (.int .i64 0)) T base (.slice (some ⟨g, 0, none⟩) n cap) (upTo zrt (k + 1) m) 0 srv busy ∧ Km base w (wr.setCell ⟨g, k * 4 + 2, none⟩ (.int .i64 0)) ∧ w.heap.size ≤ (wr.setCell ⟨g, k * 4 + 2, none⟩ (.int .i64 0)).heap.size ∧ ∀ q, q ≠ T → (Value.slice (some ⟨g, 0, none⟩) n cap).ownBlock ≠ some q → (wr.setCell ⟨g, k * 4 + 2, none⟩ (.int .i64 0)).heap[q]? = w.heap[q]?) := by
        obtain ⟨k1, k2⟩ := HR.out.1.put1 (x := zrt s) (j := 2) (v := .int .i64 0) hul.symm (upTo_at zrt hs) (by omega) rfl (.inl ⟨rfl, rfl⟩)
        rw [upTo_next zrt hs]
        exact ⟨k1, HR.out.2.1.trans k2, by have := HR.out.2.2.1; simpa using this, fun q h1 h2 => (Below.heap_setCell _ _ _ _ fun e => h2 (by have e' : q = g := e; rw [e']; rfl)).trans (HR.out.2.2.2 q h1 h2)⟩
      clear hS hK hs hv hrt hul hsz hblk
      go_wp2_with fail
      go_roundw
      case rel => exact ⟨k + 1, by omega, by go_num, HX.out⟩
      case measure => simp [intOf]; omega
    · have hge : ¬ ((k : Int) < (n : Int)) := by omega
      have HE : Hid (upTo zrt k m = m.map zrt) := upTo_all zrt (by have := HN.out; omega)
      clear hlt hS hK hsz hblk
      go_wp2_with fail
      go_end0
      rw [← HE.out]
      exact ⟨⟨_, rfl⟩, HR.out⟩
/-- One is served, or none is left. -/
def Bok (s : Sc) : Prop := s.busy = true → ∃ k t x l, lookT s.ts s.srv = some (k, t) ∧ t.ws = x :: l
/-- At the place where it is known whose job is served. -/
theorem rserve_pre {w V : World} (h : RS V T base lv m clk srv busy) {k : Nat} {r : Rt} {x : Wk} {l : List Wk} (hr : m[k]? = some r) (hws : r.t.ws = x :: l) :
    ∃ g cap gq nw, lv = .slice (some ⟨g, 0, none⟩) m.length cap ∧ r.a = some ⟨gq, 0, none⟩ ∧ m.length ≤ cap ∧ r.t.ws.length = nw ∧ nw = l.length + 1 ∧ nw ≤ r.c ∧ k < m.length ∧
      V.cell? ⟨T, 0, none⟩ = some (.slice (some ⟨g, 0, none⟩) m.length cap) ∧ V.cell? ⟨g, k * 4 + 3, none⟩ = some (.slice (some ⟨gq, 0, none⟩) nw r.c) ∧ V.cell? ⟨g, k * 4, none⟩ = some (.string (tx r.t.nm)) ∧
      (V.cell? ⟨gq, 0, none⟩ = some (.int .i64 x.id) ∧ V.cell? ⟨gq, 1, none⟩ = some (.int .i64 x.cost) ∧ V.cell? ⟨gq, 2, none⟩ = some (.int .i64 x.start) ∧ V.cell? ⟨gq, 3, none⟩ = some (.int .i64 x.left) ∧ ∀ i, V.frozen? ⟨gq, i, none⟩ = false) ∧
      T < V.heap.size ∧ g < V.heap.size ∧ gq < V.heap.size ∧ g ≠ T ∧ gq ≠ T ∧ gq ≠ g := by
  obtain ⟨g, cap, hv, hcap, e0, e1, e2, e3, hf⟩ := rs_row h hr
  obtain ⟨gq, ha, hc, x0, x1, x2, x3, xf⟩ := rs_first h hr hws
  have hrm := List.mem_of_getElem? hr
  have hq : r.v.ownBlock = some gq := by unfold Rt.v; rw [ha]; rfl
  have hne := h.ne
  subst hv
  have c0 := h.cells.1
  rw [ha] at e3
  exact ⟨g, cap, gq, _, rfl, ha, hcap, rfl, by rw [hws]; rfl, by rw [hws]; simpa using hc, (List.getElem?_eq_some_iff.1 hr).1, c0, e3, e0, ⟨x0, x1, x2, x3, xf⟩, (h.lt T (.inl rfl)).2, (h.lt g (.inr (.inl rfl))).2, (h.lt gq (.inr (.inr ⟨r, hrm, hq⟩))).2, hne.1 g rfl, (hne.2 r hrm gq hq).1, fun e => (hne.2 r hrm gq hq).2 (by rw [e]; rfl)⟩
theorem rleft_sum : ∀ m : List Rt, (m.map fun r => (r.t.ws.length : Int)).sum = ((leftS (rts m) : Nat) : Int)
  | [] => rfl
  | r :: m => by
    have ih := rleft_sum m
    rw [List.map_cons, List.sum_cons, ih]
    show _ = ((r.t.ws.length + leftS (rts m) : Nat) : Int)
    omega
theorem Km.back {a b : World} (h : Km base a b.drew) : Km base a b := ⟨⟨h.bel.os, h.bel.tape, h.bel.output, h.bel.size, h.bel.block⟩, h.kx⟩
/-- The answer's job is written: a block that is no part of the scheduler. -/
theorem RS.jobset {w V : World} {jb : Nat} {u v : Value} {c : Array Value} {s : Sc} (h : RS V T base lv m s.clk s.srv s.busy) (hk : Km base w V) (hb : base ≤ jb) (hj : V.heap[jb]? = some (.cells c 42 (0, 0))) (hr : rts m = s.ts) (hjw : w.heap.size ≤ jb) : RP (((V.setCell ⟨jb, 0, none⟩ u).setCell ⟨jb, 1, none⟩ v).drew) T base s ∧ Km base w (((V.setCell ⟨jb, 0, none⟩ u).setCell ⟨jb, 1, none⟩ v).drew) := by
  have hblk : ∀ q, q ≠ jb → (((V.setCell ⟨jb, 0, none⟩ u).setCell ⟨jb, 1, none⟩ v).drew).heap[q]? = V.heap[q]? := fun q hq => (Below.heap_setCell _ _ _ _ hq).trans (Below.heap_setCell _ _ _ _ hq)
  refine ⟨⟨lv, m, h.at' fun q hq => hblk q fun e => ?_, hr⟩, ?_⟩
  · obtain ⟨c', t, h1, h2⟩ := h.tag q hq
    rw [e, hj] at h1
    cases h1
    cases h2
  · have hbel : Below base w (((V.setCell ⟨jb, 0, none⟩ u).setCell ⟨jb, 1, none⟩ v).drew) := ((hk.bel.setCell (p := ⟨jb, 0, none⟩) hb u).setCell (p := ⟨jb, 1, none⟩) hb v).drew
    refine ⟨hbel, fun p o hp hn => ?_⟩
    have hpl := (Array.getElem?_eq_some_iff.1 hp).1
    rw [hblk p (by omega)]
    exact hk.kx p o hp hn
set_option maxRecDepth 20000 in
set_option maxHeartbeats 4000000 in
theorem rstep_any (N : Int) (s : Sc) (w : World) (h : RP w T base s) (hs : Sok N s) (hB : Bok s) :
    Calls Try.prog 35 #[.pointer (some ⟨T, 0, none⟩)] w fun e w' => e = .returned (ansV (stepS s).1) ∧ RP w' T base (stepS s).2 ∧ Km base w w' := by
  have hRP := h
  obtain ⟨lv, m, h1, h2⟩ := h
  have hlen : m.length = s.ts.length := by rw [← h2]; simp [rts]
  have hl := hs.n
  have hqs : ∀ r ∈ m, r.t.ws.length ≤ 16 := fun r hr => (hs.all r.t (by rw [← h2]; exact List.mem_map.2 ⟨r, hr, rfl⟩)).n
  obtain ⟨W, hW⟩ : ∃ W, w.alloc (.cells #[.int .i64 0, .int .i64 0] 42) = W := ⟨_, rfl⟩
  have hBW : Below w.heap.size w W := by rw [← hW]; exact bel1' _ _
  have hjb : W.heap[w.heap.size]? = some (.cells #[.int .i64 0, .int .i64 0] 42 (0, 0)) := by rw [← hW]; exact heap_alloc_new _ _
  have hS : RS W T base lv m s.clk s.srv s.busy := h1.at' fun q hq => hBW.block q (h1.lt q hq).2
  have HK : Hid (Km base w W ∧ base ≤ w.heap.size) := ⟨Km.of hBW h1.bs, h1.bs⟩
  have HJ : Hid (W.heap[w.heap.size]? = some (.cells #[.int .i64 0, .int .i64 0] 42 (0, 0))) := hjb
  obtain ⟨t0, t1, t2, t3, tf⟩ := hS.cells
  cases hbz : s.busy with
  | true =>
    obtain ⟨k, t, x, l, hlk, hws⟩ := hB hbz
    obtain ⟨hix, hk, hnm⟩ := lookT_some hlk
    have hA : stepS s = serveS s k t x l := by unfold stepS; rw [hbz, hlk]; simp [hws]
    rw [← h2] at hk
    obtain ⟨r, hr, rfl⟩ := rts_of hk
    have HF : Hid (Calls Try.prog 59 #[.pointer (some ⟨T, 0, none⟩), .string (tx s.srv)] W fun e w' => e = .returned (.int .i64 (k : Int)) ∧ w' = W) := by
      have := rfind_any s.srv W hS (by omega)
      unfold ixI at this
      rw [h2, hix] at this
      exact this
    rw [hbz] at t3 hS
    obtain ⟨s1, hs1⟩ : ∃ s1, s = s1 := ⟨_, rfl⟩
    have HANS : Hid (stepS s = serveS s1 k r.t x l ∧ s1.ts = rts m) := ⟨by rw [hA, hs1], by rw [← hs1, h2]⟩
    have HX1 : Hid (Wok N x) := (hs.all r.t (by rw [← h2]; exact List.mem_map.2 ⟨r, List.mem_of_getElem? hr, rfl⟩)).all x (by rw [hws]; simp)
    have HV : Hid (RS W T base lv m s1.clk s1.srv true ∧ Km base W W) := ⟨by rw [← hs1]; exact hS, Km.refl _ _⟩
    have HR : Hid (m[k]? = some r) := hr
    have HWS : Hid (r.t.ws = x :: l) := hws
    have hTl : T < W.heap.size := (hS.lt T (.inl rfl)).2
    have HQ : Hid (∀ r ∈ m, r.t.ws.length ≤ 16) := hqs
    clear hRP h1 hS hBW hjb hlk hix hA hr hk hws hbz hB hnm hqs hs1
    obtain ⟨g, cap, gq, nw, hlv, hra, hcap, hnw, hnl, hnc, hkl, u0, e3, e0, ⟨x0, x1, x2, x3, xf⟩, hTV, hgV, hqV, hgT, hqT, hqg⟩ := rserve_pre (w := W) HV.out.1 HR.out HWS.out
    subst hlv
    obtain ⟨n, hn⟩ : ∃ n, m.length = n := ⟨_, rfl⟩
    rw [hn] at u0 hcap hkl
    have hcap' : (n : Int) ≤ (cap : Int) := by omega
    have hk' : (k : Int) < (n : Int) := by omega
    have hn16 : (n : Int) ≤ 16 := by omega
    have hp : 0 < nw := by omega
    have hpc : (nw : Int) ≤ (r.c : Int) := by omega
    go_enter Try.func35, Try.ntmps35
    go_upto_region 10 with (go_at_call 59; refine HF.out.mono ?_; rintro e w1 ⟨rfl, hw1⟩; rw [hw1]; clear hw1)
    have HL1 : Hid (1 ≤ x.left ∧ x.left ≤ 1000) := ⟨HX1.out.l0, by have := HX1.out.l1; have := HX1.out.c1; omega⟩
    obtain ⟨l0, l1⟩ := HL1.out
    clear HF t0 t1 t2 t3 tf hTl
    go_upto_region 12 with (fail)
    obtain ⟨V1, hV1⟩ : ∃ V1, W.alloc (.cells #[.int .i64 x.id, .int .i64 x.cost, .int .i64 x.start, .int .i64 (x.left - 1)] 104) = V1 := ⟨_, rfl⟩
    rw [hV1]
    have HB1 : Hid (Below W.heap.size W V1 ∧ V1.heap[W.heap.size]? = some (.cells #[.int .i64 x.id, .int .i64 x.cost, .int .i64 x.start, .int .i64 (x.left - 1)] 104 (0, 0))) := by rw [← hV1]; exact ⟨bel1' _ _, heap_alloc_new _ _⟩
    have hc1 : ∀ q i, q < W.heap.size → V1.cell? ⟨q, i, none⟩ = W.cell? ⟨q, i, none⟩ := fun q i hq => World.cell?_of_block (HB1.out.1.block q hq)
    have hf1 : ∀ i, V1.frozen? ⟨gq, i, none⟩ = false := fun i => by
      have := xf i
      unfold World.frozen? at this ⊢
      rw [HB1.out.1.block gq hqV]
      exact this
    rw [← hc1 T 0 hTV] at u0
    rw [← hc1 g _ hgV] at e3 e0
    rw [← hc1 gq _ hqV] at x0 x1 x2 x3
    have b0 : V1.cell? ⟨W.heap.size, 0, none⟩ = some (.int .i64 x.id) := by rw [cell_of_row _ _ _ _ _ _ HB1.out.2]; rfl
    have b1 : V1.cell? ⟨W.heap.size, 1, none⟩ = some (.int .i64 x.cost) := by rw [cell_of_row _ _ _ _ _ _ HB1.out.2]; rfl
    have b2 : V1.cell? ⟨W.heap.size, 2, none⟩ = some (.int .i64 x.start) := by rw [cell_of_row _ _ _ _ _ _ HB1.out.2]; rfl
    have b3 : V1.cell? ⟨W.heap.size, 3, none⟩ = some (.int .i64 (x.left - 1)) := by rw [cell_of_row _ _ _ _ _ _ HB1.out.2]; rfl
    have f0 := hf1 0
    have f1 := hf1 1
    have f2 := hf1 2
    have f3 := hf1 3
    have hbq : ¬ W.heap.size = gq := by omega
    clear hc1 hf1 xf hV1
    go_region
    generalize hV2 : ((((V1.setCell ⟨gq, 0, none⟩ (.int .i64 x.id)).setCell ⟨gq, 1, none⟩ (.int .i64 x.cost)).setCell ⟨gq, 2, none⟩ (.int .i64 x.start)).setCell ⟨gq, 3, none⟩ (.int .i64 (x.left - 1))).drew = V2
    have H2 : Hid (RS V2 T base (.slice (some ⟨g, 0, none⟩) m.length cap) (m.set k { r with t := { r.t with ws := ⟨x.id, x.cost, x.start, x.left - 1⟩ :: l } }) s1.clk s1.srv true ∧ Km base W V2 ∧ V2.heap[W.heap.size]? = some (.cells #[.int .i64 x.id, .int .i64 x.cost, .int .i64 x.start, .int .i64 (x.left - 1)] 104 (0, 0))) := by
      rw [← hV2]
      have hS1 := HV.out.1.at' (w' := V1) fun q hq => HB1.out.1.block q (HV.out.1.lt q hq).2
      have hp := hS1.first HR.out HWS.out hra ⟨x.id, x.cost, x.start, x.left - 1⟩
      exact ⟨hp.1.at' fun _ _ => rfl, ((HV.out.2.trans (Km.of HB1.out.1 HV.out.1.bs)).trans hp.2).drewN 1, (setCs_other [.int .i64 x.id, .int .i64 x.cost, .int .i64 x.start, .int .i64 (x.left - 1)] V1 gq 0 _ hbq).trans HB1.out.2⟩
    clear hV2 u0 e3 e0 x0 x1 x2 x3 b0 b1 b2 b3 f0 f1 f2 f3 HB1
    have hml : (m.set k { r with t := { r.t with ws := ⟨x.id, x.cost, x.start, x.left - 1⟩ :: l } }).length = n := by rw [List.length_set]; exact hn
    have HM2 : Hid ((m.set k { r with t := { r.t with ws := ⟨x.id, x.cost, x.start, x.left - 1⟩ :: l } })[k]? = some { r with t := { r.t with ws := ⟨x.id, x.cost, x.start, x.left - 1⟩ :: l } }) := List.getElem?_set_self (by omega)
    obtain ⟨g', cap2, gq', nw', hlv', hra', -, hnw2, hnl', -, -, u0, e3, e0, ⟨x0, x1, x2, x3, xf⟩, hT2, hg2, hq2, -, -, -⟩ := rserve_pre (w := W) H2.out.1 HM2.out rfl
    obtain ⟨rfl, rfl, rfl⟩ : g = g' ∧ cap = cap2 ∧ gq = gq' := ⟨by have := (Value.slice.inj hlv').1; simpa using this, (Value.slice.inj hlv').2.2, by have h1 : r.a = some ⟨gq', 0, none⟩ := hra'; rw [hra] at h1; simpa using h1⟩
    obtain rfl : nw = nw' := by omega
    rw [hml] at u0
    have hjb := H2.out.2.1.kx.row HJ.out (by decide)
    have j0 : V2.cell? ⟨w.heap.size, 0, none⟩ = some (.int .i64 0) := by rw [cell_of_row _ _ _ _ _ _ hjb]; rfl
    have j1 : V2.cell? ⟨w.heap.size, 1, none⟩ = some (.int .i64 0) := by rw [cell_of_row _ _ _ _ _ _ hjb]; rfl
    have jf0 : V2.frozen? ⟨w.heap.size, 0, none⟩ = false := by simp [World.frozen?, hjb]
    have jf1 : V2.frozen? ⟨w.heap.size, 1, none⟩ = false := by simp [World.frozen?, hjb]
    have b0 : V2.cell? ⟨W.heap.size, 0, none⟩ = some (.int .i64 x.id) := by rw [cell_of_row _ _ _ _ _ _ H2.out.2.2]; rfl
    have b1 : V2.cell? ⟨W.heap.size, 1, none⟩ = some (.int .i64 x.cost) := by rw [cell_of_row _ _ _ _ _ _ H2.out.2.2]; rfl
    have b3 : V2.cell? ⟨W.heap.size, 3, none⟩ = some (.int .i64 (x.left - 1)) := by rw [cell_of_row _ _ _ _ _ _ H2.out.2.2]; rfl
    have HJ2 : Hid (V2.heap[w.heap.size]? = some (.cells #[.int .i64 0, .int .i64 0] 42 (0, 0))) := hjb
    clear hjb hlv' hra' hnl' xf
    by_cases hmore : 1 < x.left
    · have hA : serveS s1 k r.t x l = (⟨r.t.nm, x.id, x.cost, false, true⟩, { s1 with ts := s1.ts.set k { r.t with ws := { x with left := x.left - 1 } :: l }, busy := true }) := by unfold serveS; rw [if_pos hmore]
      have HA : Hid (stepS s = (⟨r.t.nm, x.id, x.cost, false, true⟩, { s1 with ts := s1.ts.set k { r.t with ws := { x with left := x.left - 1 } :: l }, busy := true })) := HANS.out.1.trans hA
      have HE : Hid (RP (((V2.setCell ⟨w.heap.size, 0, none⟩ (.int .i64 x.id)).setCell ⟨w.heap.size, 1, none⟩ (.int .i64 x.cost)).drew) T base { s1 with ts := s1.ts.set k { r.t with ws := { x with left := x.left - 1 } :: l }, busy := true } ∧ Km base w (((V2.setCell ⟨w.heap.size, 0, none⟩ (.int .i64 x.id)).setCell ⟨w.heap.size, 1, none⟩ (.int .i64 x.cost)).drew)) := by
        exact RS.jobset H2.out.1 (HK.out.1.trans H2.out.2.1) HK.out.2 HJ2.out (by show rts _ = _; rw [rts_set, HANS.out.2]) (Nat.le_refl _)
      have HG : Hid ((((V2.setCell ⟨w.heap.size, 0, none⟩ (.int .i64 x.id)).setCell ⟨w.heap.size, 1, none⟩ (.int .i64 x.cost)).drew).heap[w.heap.size]? = some (.cells #[.int .i64 x.id, .int .i64 x.cost] 42 (0, 0))) := by
        show ((V2.setCell ⟨w.heap.size, 0, none⟩ (.int .i64 x.id)).setCell ⟨w.heap.size, 1, none⟩ (.int .i64 x.cost)).heap[w.heap.size]? = _
        rw [row_set _ (row_set _ HJ2.out)]
        rfl
      have hm2 : 0 < x.left - 1 := by omega
      go_wp2_with fail
      go_region
      all_goals
        go_wp2_with fail
        refine bodyPost_ret (results_four Try.results35 _ _ w.heap.size #[.int .i64 x.id, .int .i64 x.cost] _ _ _ rfl rfl rfl rfl (load42 HG.out rfl)) rfl ?_
        rw [HA.out]
        exact ⟨rfl, HE.out⟩
    · have hm2 : ¬ 0 < x.left - 1 := by omega
      obtain ⟨s6, hs6⟩ : ∃ s6 : Sc, ({ s1 with ts := s1.ts.set k { r.t with ws := l }, busy := false } : Sc) = s6 := ⟨_, rfl⟩
      have HS6 : Hid (s6.ts = (rts m).set k { r.t with ws := l } ∧ s6.clk = s1.clk ∧ s6.srv = s1.srv ∧ s6.busy = false) := by rw [← hs6]; exact ⟨by show s1.ts.set k _ = _; rw [HANS.out.2], rfl, rfl, rfl⟩
      have HA : Hid (stepS s = (⟨r.t.nm, x.id, x.cost, true, true⟩, if leftS s6.ts = 0 then restS s6 else s6)) := by
        refine HANS.out.1.trans ?_
        rw [← hs6]
        unfold serveS
        rw [if_neg hmore]
      obtain ⟨i0, hi0, hz0, hz1, hz2⟩ := info_parts info104
      obtain ⟨o, ho'⟩ : ∃ o, (if r.c = 1 then some (⟨gq, 0, none⟩ : Addr) else some ⟨gq, 4, none⟩) = some ⟨gq, o, none⟩ := by
        split
        · exact ⟨0, rfl⟩
        · exact ⟨4, rfl⟩
      have HNE : Hid (∀ (j : Nat) (u : Value), (fl wk4 l)[j]? = some u → V2.cell? ((⟨gq, o, none⟩ : Addr).add j) = some u) := fun j u hu => by
        have hjl := (List.getElem?_eq_some_iff.1 hu).1
        rw [fl_len wk4_len] at hjl
        rw [if_neg (by omega)] at ho'
        have hoo : 4 = o := by simpa using ho'
        have hq := H2.out.1.que _ (List.mem_of_getElem? HM2.out)
        have hq' : V2.ownsRow base 104 4 (.slice (some ⟨gq, 0, none⟩) (l.length + 1) r.c) (l.length + 1) (fl wk4 (⟨x.id, x.cost, x.start, x.left - 1⟩ :: l)) := by
          have := hq
          unfold Rt.v at this
          simp only [hra] at this
          exact this
        have := hq'.cells (g := gq) rfl (4 + j) u (by rw [fl, List.getElem?_append_right (by simp [wk4])]; simpa [wk4] using hu)
        rw [Addr.add_lit, Nat.zero_add] at this
        rw [Addr.add_mid, ← hoo]
        exact this
      have HP : Hid (∀ (w3 : World) (a3 : Option Addr) (c3 : Nat), w3.ownsRow base 104 4 (.slice a3 (nw - 1) c3) (nw - 1) (fl wk4 l) → Below V2.heap.size V2 w3 → (∀ q, (Value.slice a3 (nw - 1) c3).ownBlock = some q → V2.heap.size ≤ q) →
          ∃ V5, (w3.setCell ⟨g, k * 4 + 3, none⟩ (.slice a3 (nw - 1) c3)).setCell ⟨T, 3, none⟩ (.bool false) = V5 ∧ w3.cell? ⟨T, 0, none⟩ = some (.slice (some ⟨g, 0, none⟩) n cap) ∧ (∃ vo, w3.cell? ⟨g, k * 4 + 3, none⟩ = some vo) ∧ w3.frozen? ⟨g, k * 4 + 3, none⟩ = false ∧ w3.cell? ⟨T, 3, none⟩ = some (.bool true) ∧ w3.frozen? ⟨T, 3, none⟩ = false ∧
            RS V5 T base (.slice (some ⟨g, 0, none⟩) m.length cap) (m.set k ⟨{ r.t with ws := l }, a3, c3⟩) s1.clk s1.srv false ∧ Km base W V5 ∧ V5.heap[W.heap.size]? = some (.cells #[.int .i64 x.id, .int .i64 x.cost, .int .i64 x.start, .int .i64 (x.left - 1)] 104 (0, 0))) := fun w3 a3 c3 ho3 hb3 hO3 => by
        have e1 : nw - 1 = l.length := by omega
        rw [e1] at ho3 hO3 ⊢
        have h3 := H2.out.1.at' (w' := w3) fun q hq => hb3.block q (H2.out.1.lt q hq).2
        have hn2 : m.length = (m.set k { r with t := { r.t with ws := ⟨x.id, x.cost, x.start, x.left - 1⟩ :: l } }).length := by simp
        obtain ⟨k1, k2⟩ := H2.out.1.newL hn2 HM2.out hb3 ho3 hO3
        rw [List.set_set] at k1
        obtain ⟨k3, k4⟩ := k1.bsy0 false
        obtain ⟨c0, _, _, c3', cf⟩ := h3.cells
        obtain ⟨g2, cap3, hv2, _, _, _, _, r3, rf⟩ := rs_row h3 HM2.out
        have hgg : g = g2 := by have := (Value.slice.inj hv2).1; simpa using this
        subst hgg
        have htb := H2.out.2.2
        have htl := (Array.getElem?_eq_some_iff.1 htb).1
        refine ⟨_, rfl, by rw [c0, hn], ⟨_, r3⟩, rf _, c3', cf 3, k3, (H2.out.2.1.trans k2).trans k4, ?_⟩
        rw [Below.heap_setCell _ _ _ _ (show W.heap.size ≠ T by omega), Below.heap_setCell _ _ _ _ (show W.heap.size ≠ g by omega), hb3.block _ htl]
        exact htb
      have HB0 : Hid (base ≤ V2.heap.size) := H2.out.1.bs
      have HNL : Hid (nw = l.length + 1 ∧ nw ≤ 16) := ⟨hnl, by rw [← hnw]; exact HQ.out r (List.mem_of_getElem? HR.out)⟩
      have HLEN : Hid (m.length = n ∧ n ≤ 16) := ⟨hn, by omega⟩
      have HCK : Hid (k < n) := hkl
      clear hs6 hnl hnw hnw2 hn hml hlen hl hra h2 hs hmore
      go_upto_region 19 with (at_builtin; (refine wpList_append_own_at _ rfl (.tmp 89) (.tmp 98) 100 rfl base 104 i0 _ 4 32 Try.underlying100 hi0 hz0 hz1 hz2 rfl (by decide) (.slice none 0 0) 0 [] rfl (World.ownsRow_nil _ _ _ _) ⟨gq, o, none⟩ (nw - 1) (r.c - 1) (fl wk4 l) rfl (by rw [fl_len wk4_len]; have := HNL.out; omega) HNE.out (fl_one wk4_one _) (by have := HNL.out; unfold maxLen; omega) (by have := HNL.out; omega) HB0.out ?_; intro v3 w3 ho3 hg3 _ hO3; (rw [Nat.zero_add, List.nil_append] at ho3); (obtain ⟨a3, c3, hv3⟩ := own_slice ho3); subst hv3; (obtain ⟨V5, hV5, y0, ⟨vo, y1⟩, y2, y3, y4, hS5, hK5, hb5⟩ := HP.out w3 a3 c3 ho3 ⟨hg3.os, hg3.tape, hg3.output, hg3.size, fun q hq => hg3.block q hq (by simp [Value.ownBlock])⟩ (fun q hq => by rcases hO3 with e | e <;> (rw [e] at hq; first | (cases hq; done) | (cases hq; exact Nat.le_refl _)))); (have H5 : Hid (RS V5 T base (.slice (some ⟨g, 0, none⟩) m.length cap) (m.set k ⟨{ r.t with ws := l }, a3, c3⟩) s1.clk s1.srv false ∧ Km base W V5 ∧ V5.heap[W.heap.size]? = some (.cells #[.int .i64 x.id, .int .i64 x.cost, .int .i64 x.start, .int .i64 (x.left - 1)] 104 (0, 0))) := ⟨hS5, hK5, hb5⟩); clear ho3 hg3 hO3 hS5 hK5 hb5))
      have hL5 := rleft_any V5 H5.out.1 (by rw [List.length_set]; have := HLEN.out; omega) (fun y hy => by
        rcases mem_set hy with ⟨e, _⟩ | ⟨j, hj, hy⟩
        · rw [e]; show l.length ≤ 16; have := HNL.out; omega
        · exact HQ.out y (List.mem_of_getElem? hy))
      rw [rleft_sum, rts_set, ← HS6.out.1] at hL5
      by_cases hz : leftS s6.ts = 0
      · rw [hz] at hL5
        rw [if_pos hz] at HA
        have HL : Hid (Calls Try.prog 60 #[.pointer (some ⟨T, 0, none⟩)] V5 fun e w' => e = .returned (.int .i64 0) ∧ w' = V5) := hL5
        have HRe : Hid (Calls Try.prog 61 #[.pointer (some ⟨T, 0, none⟩)] V5 fun e w' => (∃ v, e = .returned v) ∧ RS w' T base (.slice (some ⟨g, 0, none⟩) m.length cap) ((m.set k ⟨{ r.t with ws := l }, a3, c3⟩).map zrt) 0 s1.srv false ∧ Km base W w' ∧ w'.heap[W.heap.size]? = some (.cells #[.int .i64 x.id, .int .i64 x.cost, .int .i64 x.start, .int .i64 (x.left - 1)] 104 (0, 0))) := (rrest_blk V5 H5.out.1 (by rw [List.length_set]; have := HLEN.out; omega)).mono fun e w' ⟨q1, q2, q3, q4, q5⟩ => ⟨q1, q2, H5.out.2.1.trans q3, (q5 _ (by omega) (fun e => by have e' : g = W.heap.size := (by simpa [Value.ownBlock] using e); omega)).trans H5.out.2.2⟩
        clear hL5 hz u0 e3 e0 x0 x1 x2 x3 j0 j1 jf0 jf1 b0 b1 b3 y0 y1 y2 y3 y4 hV5 HP HNE
        go_upto_region 21 with (first | (go_at_call 60; refine HL.out.mono ?_; rintro e w1 ⟨rfl, hw1⟩; rw [hw1]; clear hw1) | (go_at_call 61; refine HRe.out.mono ?_; rintro e V6 ⟨⟨v, rfl⟩, hE6⟩))
        have HS6b : Hid (RS V6 T base (.slice (some ⟨g, 0, none⟩) m.length cap) ((m.set k ⟨{ r.t with ws := l }, a3, c3⟩).map zrt) 0 s1.srv false ∧ Km base W V6 ∧ V6.heap[W.heap.size]? = some (.cells #[.int .i64 x.id, .int .i64 x.cost, .int .i64 x.start, .int .i64 (x.left - 1)] 104 (0, 0))) := hE6
        clear hE6
        have hj6 : V6.heap[w.heap.size]? = some (.cells #[.int .i64 0, .int .i64 0] 42 (0, 0)) := HS6b.out.2.1.kx.row HJ.out (by decide)
        have htT := HS6b.out.1.cells.1
        rw [HLEN.out.1] at htT
        obtain ⟨r9, hr9, hn9⟩ : ∃ r9 : Rt, ((m.set k ⟨{ r.t with ws := l }, a3, c3⟩).map zrt)[k]? = some r9 ∧ r9.t.nm = r.t.nm := ⟨zrt ⟨{ r.t with ws := l }, a3, c3⟩, by rw [List.getElem?_map, List.getElem?_set_self (by have := HCK.out; have := HLEN.out; omega)]; rfl, rfl⟩
        obtain ⟨g9, cap9, hv9, _, e9, _, _, _, _⟩ := rs_row HS6b.out.1 hr9
        have hgg : g = g9 := by have := (Value.slice.inj hv9).1; simpa using this
        subst hgg
        rw [hn9] at e9
        have j0 : V6.cell? ⟨w.heap.size, 0, none⟩ = some (.int .i64 0) := by rw [cell_of_row _ _ _ _ _ _ hj6]; rfl
        have j1 : V6.cell? ⟨w.heap.size, 1, none⟩ = some (.int .i64 0) := by rw [cell_of_row _ _ _ _ _ _ hj6]; rfl
        have jf0 : V6.frozen? ⟨w.heap.size, 0, none⟩ = false := by simp [World.frozen?, hj6]
        have jf1 : V6.frozen? ⟨w.heap.size, 1, none⟩ = false := by simp [World.frozen?, hj6]
        have b0 : V6.cell? ⟨W.heap.size, 0, none⟩ = some (.int .i64 x.id) := by rw [cell_of_row _ _ _ _ _ _ HS6b.out.2.2]; rfl
        have b1 : V6.cell? ⟨W.heap.size, 1, none⟩ = some (.int .i64 x.cost) := by rw [cell_of_row _ _ _ _ _ _ HS6b.out.2.2]; rfl
        have HE : Hid (RP (((V6.setCell ⟨w.heap.size, 0, none⟩ (.int .i64 x.id)).setCell ⟨w.heap.size, 1, none⟩ (.int .i64 x.cost)).drew) T base (restS s6) ∧ Km base w (((V6.setCell ⟨w.heap.size, 0, none⟩ (.int .i64 x.id)).setCell ⟨w.heap.size, 1, none⟩ (.int .i64 x.cost)).drew)) := by
          refine RS.jobset (by have h9 := HS6b.out.1; unfold restS; rw [HS6.out.2.2.1, HS6.out.2.2.2]; exact h9) (HK.out.1.trans HS6b.out.2.1) HK.out.2 hj6 (by
            have e : (rts m).set k { r.t with ws := l } = rts (m.set k ⟨{ r.t with ws := l }, a3, c3⟩) := (rts_set (m := m) (k := k) (x := ⟨{ r.t with ws := l }, a3, c3⟩)).symm
            show rts _ = s6.ts.map _
            rw [HS6.out.1, e]
            unfold rts
            rw [List.map_map, List.map_map]
            rfl) (Nat.le_refl _)
        have HG : Hid ((((V6.setCell ⟨w.heap.size, 0, none⟩ (.int .i64 x.id)).setCell ⟨w.heap.size, 1, none⟩ (.int .i64 x.cost)).drew).heap[w.heap.size]? = some (.cells #[.int .i64 x.id, .int .i64 x.cost] 42 (0, 0))) := by
          show ((V6.setCell ⟨w.heap.size, 0, none⟩ (.int .i64 x.id)).setCell ⟨w.heap.size, 1, none⟩ (.int .i64 x.cost)).heap[w.heap.size]? = _
          rw [row_set _ (row_set _ hj6)]
          rfl
        clear hv9 hr9 hn9 hj6
        go_region
        all_goals
          go_wp2_with fail
          refine bodyPost_ret (results_four Try.results35 _ _ w.heap.size #[.int .i64 x.id, .int .i64 x.cost] _ _ _ rfl rfl rfl rfl (load42 HG.out rfl)) rfl ?_
          rw [HA.out]
          exact ⟨rfl, HE.out⟩
      · have HL : Hid (Calls Try.prog 60 #[.pointer (some ⟨T, 0, none⟩)] V5 fun e w' => e = .returned (.int .i64 ((leftS s6.ts : Nat) : Int)) ∧ w' = V5) := hL5
        rw [if_neg hz] at HA
        have hz' : ¬ ((leftS s6.ts : Nat) : Int) = 0 := by omega
        generalize ((leftS s6.ts : Nat) : Int) = LL at *
        clear hL5 hz u0 e3 e0 x0 x1 x2 x3 j0 j1 jf0 jf1 b0 b1 b3 y0 y1 y2 y3 y4 hV5 HP HNE
        go_upto_region 21 with (go_at_call 60; refine HL.out.mono ?_; rintro e w1 ⟨rfl, hw1⟩; rw [hw1]; clear hw1)
        have hj6 : V5.heap[w.heap.size]? = some (.cells #[.int .i64 0, .int .i64 0] 42 (0, 0)) := H5.out.2.1.kx.row HJ.out (by decide)
        have htT := H5.out.1.cells.1
        rw [HLEN.out.1] at htT
        obtain ⟨r9, hr9, hn9⟩ : ∃ r9 : Rt, (m.set k ⟨{ r.t with ws := l }, a3, c3⟩)[k]? = some r9 ∧ r9.t.nm = r.t.nm := ⟨_, List.getElem?_set_self (by have := HCK.out; have := HLEN.out; omega), rfl⟩
        obtain ⟨g9, cap9, hv9, _, e9, _, _, _, _⟩ := rs_row H5.out.1 hr9
        have hgg : g = g9 := by have := (Value.slice.inj hv9).1; simpa using this
        subst hgg
        rw [hn9] at e9
        have j0 : V5.cell? ⟨w.heap.size, 0, none⟩ = some (.int .i64 0) := by rw [cell_of_row _ _ _ _ _ _ hj6]; rfl
        have j1 : V5.cell? ⟨w.heap.size, 1, none⟩ = some (.int .i64 0) := by rw [cell_of_row _ _ _ _ _ _ hj6]; rfl
        have jf0 : V5.frozen? ⟨w.heap.size, 0, none⟩ = false := by simp [World.frozen?, hj6]
        have jf1 : V5.frozen? ⟨w.heap.size, 1, none⟩ = false := by simp [World.frozen?, hj6]
        have b0 : V5.cell? ⟨W.heap.size, 0, none⟩ = some (.int .i64 x.id) := by rw [cell_of_row _ _ _ _ _ _ H5.out.2.2]; rfl
        have b1 : V5.cell? ⟨W.heap.size, 1, none⟩ = some (.int .i64 x.cost) := by rw [cell_of_row _ _ _ _ _ _ H5.out.2.2]; rfl
        have HE : Hid (RP (((V5.setCell ⟨w.heap.size, 0, none⟩ (.int .i64 x.id)).setCell ⟨w.heap.size, 1, none⟩ (.int .i64 x.cost)).drew) T base s6 ∧ Km base w (((V5.setCell ⟨w.heap.size, 0, none⟩ (.int .i64 x.id)).setCell ⟨w.heap.size, 1, none⟩ (.int .i64 x.cost)).drew)) := by
          refine RS.jobset (by have h9 := H5.out.1; rw [HS6.out.2.1, HS6.out.2.2.1, HS6.out.2.2.2]; exact h9) (HK.out.1.trans H5.out.2.1) HK.out.2 hj6 (by rw [HS6.out.1, rts_set]) (Nat.le_refl _)
        have HG : Hid ((((V5.setCell ⟨w.heap.size, 0, none⟩ (.int .i64 x.id)).setCell ⟨w.heap.size, 1, none⟩ (.int .i64 x.cost)).drew).heap[w.heap.size]? = some (.cells #[.int .i64 x.id, .int .i64 x.cost] 42 (0, 0))) := by
          show ((V5.setCell ⟨w.heap.size, 0, none⟩ (.int .i64 x.id)).setCell ⟨w.heap.size, 1, none⟩ (.int .i64 x.cost)).heap[w.heap.size]? = _
          rw [row_set _ (row_set _ hj6)]
          rfl
        clear hv9 hr9 hn9 hj6
        go_region
        all_goals
          go_wp2_with fail
          refine bodyPost_ret (results_four Try.results35 _ _ w.heap.size #[.int .i64 x.id, .int .i64 x.cost] _ _ _ rfl rfl rfl rfl (load42 HG.out rfl)) rfl ?_
          rw [HA.out]
          exact ⟨rfl, HE.out⟩
  | false =>
    have HNXT : Hid (Calls Try.prog 62 #[.pointer (some ⟨T, 0, none⟩)] W fun e w' => e = .returned (.int .i64 (nxI (nxt s.ts 0 none))) ∧ ∃ j, w' = W.drewN j) := by
      have := rnext_any W hS (by omega) hqs
      rw [h2] at this
      exact this
    cases hnx : nxt s.ts 0 none with
    | none =>
      rw [hnx] at HNXT
      have HA : Hid (stepS s = (noAns, s)) := by show _ = _; unfold stepS; rw [hbz, hnx]; rfl
      have HNX2 : Hid (Calls Try.prog 62 #[.pointer (some ⟨T, 0, none⟩)] W fun e w' => e = .returned (.int .i64 (-1)) ∧ ∃ j, w' = W.drewN j) := HNXT.out
      have HE : Hid (∀ w1 : World, w1 = W.drewN w1.drawn ∨ True → ∀ u v j, w1 = W.drewN j → RP ((w1.setCell ⟨w.heap.size, 0, none⟩ u).setCell ⟨w.heap.size, 1, none⟩ v) T base s ∧ Km base w ((w1.setCell ⟨w.heap.size, 0, none⟩ u).setCell ⟨w.heap.size, 1, none⟩ v)) := fun w1 _ u v j e => by
        subst e
        obtain ⟨⟨lv', m', q1, q2⟩, q3⟩ := RS.jobset (V := W.drewN j) (u := u) (v := v) (s := s) (hS.at' fun _ _ => rfl) (HK.out.1.drewN j) HK.out.2 hjb h2 (Nat.le_refl _)
        exact ⟨⟨lv', m', q1.at' fun _ _ => rfl, q2⟩, q3.back⟩
      have HC : Hid (∀ (w1 : World) j, w1 = W.drewN j → w1.cell? ⟨w.heap.size, 0, none⟩ = some (.int .i64 0) ∧ w1.cell? ⟨w.heap.size, 1, none⟩ = some (.int .i64 0) ∧ w1.frozen? ⟨w.heap.size, 0, none⟩ = false ∧ w1.frozen? ⟨w.heap.size, 1, none⟩ = false ∧ ∀ u v, ((w1.setCell ⟨w.heap.size, 0, none⟩ u).setCell ⟨w.heap.size, 1, none⟩ v).heap[w.heap.size]? = some (.cells #[u, v] 42 (0, 0))) := fun w1 j e => by
        have hj1 : w1.heap[w.heap.size]? = some (.cells #[.int .i64 0, .int .i64 0] 42 (0, 0)) := by rw [e]; exact hjb
        refine ⟨by rw [cell_of_row _ _ _ _ _ _ hj1]; rfl, by rw [cell_of_row _ _ _ _ _ _ hj1]; rfl, by simp [World.frozen?, hj1], by simp [World.frozen?, hj1], fun u v => ?_⟩
        rw [row_set _ (row_set _ hj1)]
        rfl
      rw [hbz] at t3
      clear hRP h1 hS hBW hjb hnx hB hqs h2 hlen hl hs HNXT hbz
      go_enter Try.func35, Try.ntmps35
      go_wp2_with (go_at_call 62; refine HNX2.out.mono ?_; rintro e w1 ⟨rfl, j, hw1⟩; (obtain ⟨q0, q1, q2, q3, hq⟩ := HC.out w1 j hw1); (have HQQ : Hid (∀ u v, ((w1.setCell ⟨w.heap.size, 0, none⟩ u).setCell ⟨w.heap.size, 1, none⟩ v).heap[w.heap.size]? = some (.cells #[u, v] 42 (0, 0))) := hq); (have HW1 : Hid (w1 = W.drewN j) := hw1); clear hw1 hq)
      refine bodyPost_ret (results_four Try.results35 _ _ w.heap.size #[.int .i64 0, .int .i64 0] _ _ _ rfl rfl rfl rfl (load42 (HQQ.out _ _) rfl)) rfl ?_
      rw [HA.out]
      exact ⟨rfl, HE.out w1 (.inr trivial) _ _ j HW1.out⟩
    | some y =>
      obtain ⟨k, st⟩ := y
      rw [hnx] at HNXT
      rcases nxt_some _ _ _ _ _ hnx with e | ⟨j, t, x, l, hkj, ht, hws, hst⟩
      · cases e
      rw [Nat.zero_add] at hkj
      subst hkj
      subst hst
      have hA : stepS s = serveS { s with clk := x.start, srv := t.nm } k t x l := by unfold stepS; rw [hbz, hnx]; simp [ht, hws]
      rw [← h2] at ht
      obtain ⟨r, hr, rfl⟩ := rts_of ht
      obtain ⟨s1, hs1⟩ : ∃ s1 : Sc, ({ s with clk := x.start, srv := r.t.nm } : Sc) = s1 := ⟨_, rfl⟩
      have HANS : Hid (stepS s = serveS s1 k r.t x l ∧ s1.ts = rts m) := ⟨by rw [hA, hs1], by rw [← hs1, h2]⟩
      have HC1 : Hid (s1.clk = x.start ∧ s1.srv = r.t.nm) := by rw [← hs1]; exact ⟨rfl, rfl⟩
      have HX1 : Hid (Wok N x) := (hs.all r.t (by rw [← h2]; exact List.mem_map.2 ⟨r, List.mem_of_getElem? hr, rfl⟩)).all x (by rw [hws]; simp)
      have HR : Hid (m[k]? = some r) := hr
      have HWS : Hid (r.t.ws = x :: l) := hws
      have HQ : Hid (∀ r ∈ m, r.t.ws.length ≤ 16) := hqs
      have HNX2 : Hid (Calls Try.prog 62 #[.pointer (some ⟨T, 0, none⟩)] W fun e w' => e = .returned (.int .i64 (k : Int)) ∧ ∃ j, w' = W.drewN j) := HNXT.out
      rw [hbz] at t3
      have HSW : Hid (∀ (w1 : World) j, w1 = W.drewN j → RS w1 T base lv m s.clk s.srv false ∧ Km base W w1) := fun w1 j e => by
        subst e
        rw [hbz] at hS
        exact ⟨hS.at' fun _ _ => rfl, (Km.refl base W).drewN j⟩
      obtain ⟨g, cap, gq, nw, hlv, hra, hcap, hnw, hnl, hnc, hkl, -, -, -, -, -, -, -, hgT, hqT, hqg⟩ := rserve_pre (w := W) hS HR.out HWS.out
      have HPR : Hid (∀ (w1 : World) j, w1 = W.drewN j → w1.cell? ⟨T, 0, none⟩ = some (.slice (some ⟨g, 0, none⟩) m.length cap) ∧ w1.cell? ⟨g, k * 4 + 3, none⟩ = some (.slice (some ⟨gq, 0, none⟩) nw r.c) ∧ w1.cell? ⟨g, k * 4, none⟩ = some (.string (tx r.t.nm)) ∧ w1.cell? ⟨gq, 2, none⟩ = some (.int .i64 x.start) ∧ (w1.cell? ⟨T, 1, none⟩ = some (.int .i64 s.clk) ∧ w1.cell? ⟨T, 2, none⟩ = some (.string (tx s.srv)) ∧ w1.cell? ⟨T, 3, none⟩ = some (.bool false) ∧ ∀ i, w1.frozen? ⟨T, i, none⟩ = false)) := fun w1 j e => by
        have h9 := (HSW.out w1 j e).1
        obtain ⟨g', cap2, gq', nw', hlv', hra', -, hnw2, -, -, -, u0, e3, e0, ⟨-, -, x2, -, -⟩, -⟩ := rserve_pre (w := W) h9 HR.out HWS.out
        obtain ⟨_, c1, c2, c3, cf⟩ := h9.cells
        have e1 := hlv.symm.trans hlv'
        have e2 := hra.symm.trans hra'
        obtain ⟨rfl, rfl, rfl⟩ : g = g' ∧ cap = cap2 ∧ gq = gq' := ⟨by have := (Value.slice.inj e1).1; simpa using this, (Value.slice.inj e1).2.2, by simpa using e2⟩
        obtain rfl : nw = nw' := by omega
        exact ⟨u0, e3, e0, x2, c1, c2, c3, cf⟩
      subst hlv
      obtain ⟨n, hn⟩ : ∃ n, m.length = n := ⟨_, rfl⟩
      rw [hn] at hcap hkl HPR
      have hcap' : (n : Int) ≤ (cap : Int) := by omega
      have hk' : (k : Int) < (n : Int) := by omega
      have hn16 : (n : Int) ≤ 16 := by omega
      have hp : 0 < nw := by omega
      have hpc : (nw : Int) ≤ (r.c : Int) := by omega
      have HVV : Hid (∀ (w1 : World) j, w1 = W.drewN j → ∃ V, ((w1.setCell ⟨T, 3, none⟩ (.bool true)).setCell ⟨T, 2, none⟩ (.string (tx r.t.nm))).setCell ⟨T, 1, none⟩ (.int .i64 x.start) = V ∧ RS V T base (.slice (some ⟨g, 0, none⟩) m.length cap) m s1.clk s1.srv true ∧ Km base W V) := fun w1 j e => by
        obtain ⟨q1, q2⟩ := HSW.out w1 j e
        obtain ⟨q3, q4⟩ := q1.bsy0 true
        obtain ⟨q5, q6⟩ := q3.srv0 r.t.nm
        obtain ⟨q7, q8⟩ := q5.clk0 x.start
        rw [HC1.out.1, HC1.out.2]
        exact ⟨_, rfl, q7, ((q2.trans q4).trans q6).trans q8⟩
      clear hRP h1 hS hBW hjb hnx hB hqs HNXT hbz hA hs1 hr ht hws HC1 HSW
      go_enter Try.func35, Try.ntmps35
      go_upto_region 10 with (go_at_call 62; refine HNX2.out.mono ?_; rintro e w1 ⟨rfl, j, hw1⟩; (obtain ⟨q0, q1, q2, q3, ⟨q4, q5, q6, q7⟩⟩ := HPR.out w1 j hw1); (have q8 := q7 1); (have q9 := q7 2); (have q10 := q7 3); (obtain ⟨V, hV, hv1, hv2⟩ := HVV.out w1 j hw1); (have HV : Hid (RS V T base (.slice (some ⟨g, 0, none⟩) m.length cap) m s1.clk s1.srv true ∧ Km base W V) := ⟨hv1, hv2⟩); clear hw1 hv1 hv2 q7)
      clear HVV HPR HNX2 hV q0 q1 q2 q3 q4 q5 q6 q8 q9 q10 t0 t1 t2 t3 tf
      obtain ⟨g', cap2, gq', nw', hlv', hra', -, hnw3, -, -, -, u0, e3, e0, ⟨x0, x1, x2, x3, xf⟩, hTV, hgV, hqV, -, -, -⟩ := rserve_pre (w := W) HV.out.1 HR.out HWS.out
      obtain ⟨rfl, rfl, rfl⟩ : g = g' ∧ cap = cap2 ∧ gq = gq' := ⟨by have := (Value.slice.inj hlv').1; simpa using this, (Value.slice.inj hlv').2.2, by have h1 := hra.symm.trans hra'; simpa using h1⟩
      obtain rfl : nw = nw' := by omega
      rw [hn] at u0
      clear hlv' hra' hnw3
      have HL1 : Hid (1 ≤ x.left ∧ x.left ≤ 1000) := ⟨HX1.out.l0, by have := HX1.out.l1; have := HX1.out.c1; omega⟩
      obtain ⟨l0, l1⟩ := HL1.out
      go_upto_region 12 with (fail)
      obtain ⟨V1, hV1⟩ : ∃ V1, V.alloc (.cells #[.int .i64 x.id, .int .i64 x.cost, .int .i64 x.start, .int .i64 (x.left - 1)] 104) = V1 := ⟨_, rfl⟩
      rw [hV1]
      have HB1 : Hid (Below V.heap.size V V1 ∧ V1.heap[V.heap.size]? = some (.cells #[.int .i64 x.id, .int .i64 x.cost, .int .i64 x.start, .int .i64 (x.left - 1)] 104 (0, 0))) := by rw [← hV1]; exact ⟨bel1' _ _, heap_alloc_new _ _⟩
      have hc1 : ∀ q i, q < V.heap.size → V1.cell? ⟨q, i, none⟩ = V.cell? ⟨q, i, none⟩ := fun q i hq => World.cell?_of_block (HB1.out.1.block q hq)
      have hf1 : ∀ i, V1.frozen? ⟨gq, i, none⟩ = false := fun i => by
        have := xf i
        unfold World.frozen? at this ⊢
        rw [HB1.out.1.block gq hqV]
        exact this
      rw [← hc1 T 0 hTV] at u0
      rw [← hc1 g _ hgV] at e3 e0
      rw [← hc1 gq _ hqV] at x0 x1 x2 x3
      have b0 : V1.cell? ⟨V.heap.size, 0, none⟩ = some (.int .i64 x.id) := by rw [cell_of_row _ _ _ _ _ _ HB1.out.2]; rfl
      have b1 : V1.cell? ⟨V.heap.size, 1, none⟩ = some (.int .i64 x.cost) := by rw [cell_of_row _ _ _ _ _ _ HB1.out.2]; rfl
      have b2 : V1.cell? ⟨V.heap.size, 2, none⟩ = some (.int .i64 x.start) := by rw [cell_of_row _ _ _ _ _ _ HB1.out.2]; rfl
      have b3 : V1.cell? ⟨V.heap.size, 3, none⟩ = some (.int .i64 (x.left - 1)) := by rw [cell_of_row _ _ _ _ _ _ HB1.out.2]; rfl
      have f0 := hf1 0
      have f1 := hf1 1
      have f2 := hf1 2
      have f3 := hf1 3
      have hbq : ¬ V.heap.size = gq := by omega
      clear hc1 hf1 xf hV1
      go_region
      generalize hV2 : ((((V1.setCell ⟨gq, 0, none⟩ (.int .i64 x.id)).setCell ⟨gq, 1, none⟩ (.int .i64 x.cost)).setCell ⟨gq, 2, none⟩ (.int .i64 x.start)).setCell ⟨gq, 3, none⟩ (.int .i64 (x.left - 1))).drew = V2
      have H2 : Hid (RS V2 T base (.slice (some ⟨g, 0, none⟩) m.length cap) (m.set k { r with t := { r.t with ws := ⟨x.id, x.cost, x.start, x.left - 1⟩ :: l } }) s1.clk s1.srv true ∧ Km base W V2 ∧ V2.heap[V.heap.size]? = some (.cells #[.int .i64 x.id, .int .i64 x.cost, .int .i64 x.start, .int .i64 (x.left - 1)] 104 (0, 0))) := by
        rw [← hV2]
        have hS1 := HV.out.1.at' (w' := V1) fun q hq => HB1.out.1.block q (HV.out.1.lt q hq).2
        have hp := hS1.first HR.out HWS.out hra ⟨x.id, x.cost, x.start, x.left - 1⟩
        exact ⟨hp.1.at' fun _ _ => rfl, ((HV.out.2.trans (Km.of HB1.out.1 HV.out.1.bs)).trans hp.2).drewN 1, (setCs_other [.int .i64 x.id, .int .i64 x.cost, .int .i64 x.start, .int .i64 (x.left - 1)] V1 gq 0 _ hbq).trans HB1.out.2⟩
      clear hV2 u0 e3 e0 x0 x1 x2 x3 b0 b1 b2 b3 f0 f1 f2 f3 HB1
      have hml : (m.set k { r with t := { r.t with ws := ⟨x.id, x.cost, x.start, x.left - 1⟩ :: l } }).length = n := by rw [List.length_set]; exact hn
      have HM2 : Hid ((m.set k { r with t := { r.t with ws := ⟨x.id, x.cost, x.start, x.left - 1⟩ :: l } })[k]? = some { r with t := { r.t with ws := ⟨x.id, x.cost, x.start, x.left - 1⟩ :: l } }) := List.getElem?_set_self (by omega)
      obtain ⟨g', cap2, gq', nw', hlv', hra', -, hnw2, hnl', -, -, u0, e3, e0, ⟨x0, x1, x2, x3, xf⟩, hT2, hg2, hq2, -, -, -⟩ := rserve_pre (w := W) H2.out.1 HM2.out rfl
      obtain ⟨rfl, rfl, rfl⟩ : g = g' ∧ cap = cap2 ∧ gq = gq' := ⟨by have := (Value.slice.inj hlv').1; simpa using this, (Value.slice.inj hlv').2.2, by have h1 : r.a = some ⟨gq', 0, none⟩ := hra'; rw [hra] at h1; simpa using h1⟩
      obtain rfl : nw = nw' := by omega
      rw [hml] at u0
      have hjb := H2.out.2.1.kx.row HJ.out (by decide)
      have j0 : V2.cell? ⟨w.heap.size, 0, none⟩ = some (.int .i64 0) := by rw [cell_of_row _ _ _ _ _ _ hjb]; rfl
      have j1 : V2.cell? ⟨w.heap.size, 1, none⟩ = some (.int .i64 0) := by rw [cell_of_row _ _ _ _ _ _ hjb]; rfl
      have jf0 : V2.frozen? ⟨w.heap.size, 0, none⟩ = false := by simp [World.frozen?, hjb]
      have jf1 : V2.frozen? ⟨w.heap.size, 1, none⟩ = false := by simp [World.frozen?, hjb]
      have b0 : V2.cell? ⟨V.heap.size, 0, none⟩ = some (.int .i64 x.id) := by rw [cell_of_row _ _ _ _ _ _ H2.out.2.2]; rfl
      have b1 : V2.cell? ⟨V.heap.size, 1, none⟩ = some (.int .i64 x.cost) := by rw [cell_of_row _ _ _ _ _ _ H2.out.2.2]; rfl
      have b3 : V2.cell? ⟨V.heap.size, 3, none⟩ = some (.int .i64 (x.left - 1)) := by rw [cell_of_row _ _ _ _ _ _ H2.out.2.2]; rfl
      have HJ2 : Hid (V2.heap[w.heap.size]? = some (.cells #[.int .i64 0, .int .i64 0] 42 (0, 0))) := hjb
      clear hjb hlv' hra' hnl' xf
      by_cases hmore : 1 < x.left
      · have hA : serveS s1 k r.t x l = (⟨r.t.nm, x.id, x.cost, false, true⟩, { s1 with ts := s1.ts.set k { r.t with ws := { x with left := x.left - 1 } :: l }, busy := true }) := by unfold serveS; rw [if_pos hmore]
        have HA : Hid (stepS s = (⟨r.t.nm, x.id, x.cost, false, true⟩, { s1 with ts := s1.ts.set k { r.t with ws := { x with left := x.left - 1 } :: l }, busy := true })) := HANS.out.1.trans hA
        have HE : Hid (RP (((V2.setCell ⟨w.heap.size, 0, none⟩ (.int .i64 x.id)).setCell ⟨w.heap.size, 1, none⟩ (.int .i64 x.cost)).drew) T base { s1 with ts := s1.ts.set k { r.t with ws := { x with left := x.left - 1 } :: l }, busy := true } ∧ Km base w (((V2.setCell ⟨w.heap.size, 0, none⟩ (.int .i64 x.id)).setCell ⟨w.heap.size, 1, none⟩ (.int .i64 x.cost)).drew)) := by
          exact RS.jobset H2.out.1 (HK.out.1.trans H2.out.2.1) HK.out.2 HJ2.out (by show rts _ = _; rw [rts_set, HANS.out.2]) (Nat.le_refl _)
        have HG : Hid ((((V2.setCell ⟨w.heap.size, 0, none⟩ (.int .i64 x.id)).setCell ⟨w.heap.size, 1, none⟩ (.int .i64 x.cost)).drew).heap[w.heap.size]? = some (.cells #[.int .i64 x.id, .int .i64 x.cost] 42 (0, 0))) := by
          show ((V2.setCell ⟨w.heap.size, 0, none⟩ (.int .i64 x.id)).setCell ⟨w.heap.size, 1, none⟩ (.int .i64 x.cost)).heap[w.heap.size]? = _
          rw [row_set _ (row_set _ HJ2.out)]
          rfl
        have hm2 : 0 < x.left - 1 := by omega
        go_wp2_with fail
        go_region
        all_goals
          go_wp2_with fail
          refine bodyPost_ret (results_four Try.results35 _ _ w.heap.size #[.int .i64 x.id, .int .i64 x.cost] _ _ _ rfl rfl rfl rfl (load42 HG.out rfl)) rfl ?_
          rw [HA.out]
          exact ⟨rfl, HE.out⟩
      · have hm2 : ¬ 0 < x.left - 1 := by omega
        obtain ⟨s6, hs6⟩ : ∃ s6 : Sc, ({ s1 with ts := s1.ts.set k { r.t with ws := l }, busy := false } : Sc) = s6 := ⟨_, rfl⟩
        have HS6 : Hid (s6.ts = (rts m).set k { r.t with ws := l } ∧ s6.clk = s1.clk ∧ s6.srv = s1.srv ∧ s6.busy = false) := by rw [← hs6]; exact ⟨by show s1.ts.set k _ = _; rw [HANS.out.2], rfl, rfl, rfl⟩
        have HA : Hid (stepS s = (⟨r.t.nm, x.id, x.cost, true, true⟩, if leftS s6.ts = 0 then restS s6 else s6)) := by
          refine HANS.out.1.trans ?_
          rw [← hs6]
          unfold serveS
          rw [if_neg hmore]
        obtain ⟨i0, hi0, hz0, hz1, hz2⟩ := info_parts info104
        obtain ⟨o, ho'⟩ : ∃ o, (if r.c = 1 then some (⟨gq, 0, none⟩ : Addr) else some ⟨gq, 4, none⟩) = some ⟨gq, o, none⟩ := by
          split
          · exact ⟨0, rfl⟩
          · exact ⟨4, rfl⟩
        have HNE : Hid (∀ (j : Nat) (u : Value), (fl wk4 l)[j]? = some u → V2.cell? ((⟨gq, o, none⟩ : Addr).add j) = some u) := fun j u hu => by
          have hjl := (List.getElem?_eq_some_iff.1 hu).1
          rw [fl_len wk4_len] at hjl
          rw [if_neg (by omega)] at ho'
          have hoo : 4 = o := by simpa using ho'
          have hq := H2.out.1.que _ (List.mem_of_getElem? HM2.out)
          have hq' : V2.ownsRow base 104 4 (.slice (some ⟨gq, 0, none⟩) (l.length + 1) r.c) (l.length + 1) (fl wk4 (⟨x.id, x.cost, x.start, x.left - 1⟩ :: l)) := by
            have := hq
            unfold Rt.v at this
            simp only [hra] at this
            exact this
          have := hq'.cells (g := gq) rfl (4 + j) u (by rw [fl, List.getElem?_append_right (by simp [wk4])]; simpa [wk4] using hu)
          rw [Addr.add_lit, Nat.zero_add] at this
          rw [Addr.add_mid, ← hoo]
          exact this
        have HP : Hid (∀ (w3 : World) (a3 : Option Addr) (c3 : Nat), w3.ownsRow base 104 4 (.slice a3 (nw - 1) c3) (nw - 1) (fl wk4 l) → Below V2.heap.size V2 w3 → (∀ q, (Value.slice a3 (nw - 1) c3).ownBlock = some q → V2.heap.size ≤ q) →
            ∃ V5, (w3.setCell ⟨g, k * 4 + 3, none⟩ (.slice a3 (nw - 1) c3)).setCell ⟨T, 3, none⟩ (.bool false) = V5 ∧ w3.cell? ⟨T, 0, none⟩ = some (.slice (some ⟨g, 0, none⟩) n cap) ∧ (∃ vo, w3.cell? ⟨g, k * 4 + 3, none⟩ = some vo) ∧ w3.frozen? ⟨g, k * 4 + 3, none⟩ = false ∧ w3.cell? ⟨T, 3, none⟩ = some (.bool true) ∧ w3.frozen? ⟨T, 3, none⟩ = false ∧
              RS V5 T base (.slice (some ⟨g, 0, none⟩) m.length cap) (m.set k ⟨{ r.t with ws := l }, a3, c3⟩) s1.clk s1.srv false ∧ Km base W V5 ∧ V5.heap[V.heap.size]? = some (.cells #[.int .i64 x.id, .int .i64 x.cost, .int .i64 x.start, .int .i64 (x.left - 1)] 104 (0, 0))) := fun w3 a3 c3 ho3 hb3 hO3 => by
          have e1 : nw - 1 = l.length := by omega
          rw [e1] at ho3 hO3 ⊢
          have h3 := H2.out.1.at' (w' := w3) fun q hq => hb3.block q (H2.out.1.lt q hq).2
          have hn2 : m.length = (m.set k { r with t := { r.t with ws := ⟨x.id, x.cost, x.start, x.left - 1⟩ :: l } }).length := by simp
          obtain ⟨k1, k2⟩ := H2.out.1.newL hn2 HM2.out hb3 ho3 hO3
          rw [List.set_set] at k1
          obtain ⟨k3, k4⟩ := k1.bsy0 false
          obtain ⟨c0, _, _, c3', cf⟩ := h3.cells
          obtain ⟨g2, cap3, hv2, _, _, _, _, r3, rf⟩ := rs_row h3 HM2.out
          have hgg : g = g2 := by have := (Value.slice.inj hv2).1; simpa using this
          subst hgg
          have htb := H2.out.2.2
          have htl := (Array.getElem?_eq_some_iff.1 htb).1
          refine ⟨_, rfl, by rw [c0, hn], ⟨_, r3⟩, rf _, c3', cf 3, k3, (H2.out.2.1.trans k2).trans k4, ?_⟩
          rw [Below.heap_setCell _ _ _ _ (show V.heap.size ≠ T by omega), Below.heap_setCell _ _ _ _ (show V.heap.size ≠ g by omega), hb3.block _ htl]
          exact htb
        have HB0 : Hid (base ≤ V2.heap.size) := H2.out.1.bs
        have HNL : Hid (nw = l.length + 1 ∧ nw ≤ 16) := ⟨hnl, by rw [← hnw]; exact HQ.out r (List.mem_of_getElem? HR.out)⟩
        have HLEN : Hid (m.length = n ∧ n ≤ 16) := ⟨hn, by omega⟩
        have HCK : Hid (k < n) := hkl
        clear hs6 hnl hnw hnw2 hn hml hlen hl hra h2 hs hmore
        go_upto_region 19 with (at_builtin; (refine wpList_append_own_at _ rfl (.tmp 89) (.tmp 98) 100 rfl base 104 i0 _ 4 32 Try.underlying100 hi0 hz0 hz1 hz2 rfl (by decide) (.slice none 0 0) 0 [] rfl (World.ownsRow_nil _ _ _ _) ⟨gq, o, none⟩ (nw - 1) (r.c - 1) (fl wk4 l) rfl (by rw [fl_len wk4_len]; have := HNL.out; omega) HNE.out (fl_one wk4_one _) (by have := HNL.out; unfold maxLen; omega) (by have := HNL.out; omega) HB0.out ?_; intro v3 w3 ho3 hg3 _ hO3; (rw [Nat.zero_add, List.nil_append] at ho3); (obtain ⟨a3, c3, hv3⟩ := own_slice ho3); subst hv3; (obtain ⟨V5, hV5, y0, ⟨vo, y1⟩, y2, y3, y4, hS5, hK5, hb5⟩ := HP.out w3 a3 c3 ho3 ⟨hg3.os, hg3.tape, hg3.output, hg3.size, fun q hq => hg3.block q hq (by simp [Value.ownBlock])⟩ (fun q hq => by rcases hO3 with e | e <;> (rw [e] at hq; first | (cases hq; done) | (cases hq; exact Nat.le_refl _)))); (have H5 : Hid (RS V5 T base (.slice (some ⟨g, 0, none⟩) m.length cap) (m.set k ⟨{ r.t with ws := l }, a3, c3⟩) s1.clk s1.srv false ∧ Km base W V5 ∧ V5.heap[V.heap.size]? = some (.cells #[.int .i64 x.id, .int .i64 x.cost, .int .i64 x.start, .int .i64 (x.left - 1)] 104 (0, 0))) := ⟨hS5, hK5, hb5⟩); clear ho3 hg3 hO3 hS5 hK5 hb5))
        have hL5 := rleft_any V5 H5.out.1 (by rw [List.length_set]; have := HLEN.out; omega) (fun y hy => by
          rcases mem_set hy with ⟨e, _⟩ | ⟨j, hj, hy⟩
          · rw [e]; show l.length ≤ 16; have := HNL.out; omega
          · exact HQ.out y (List.mem_of_getElem? hy))
        rw [rleft_sum, rts_set, ← HS6.out.1] at hL5
        by_cases hz : leftS s6.ts = 0
        · rw [hz] at hL5
          rw [if_pos hz] at HA
          have HL : Hid (Calls Try.prog 60 #[.pointer (some ⟨T, 0, none⟩)] V5 fun e w' => e = .returned (.int .i64 0) ∧ w' = V5) := hL5
          have HRe : Hid (Calls Try.prog 61 #[.pointer (some ⟨T, 0, none⟩)] V5 fun e w' => (∃ v, e = .returned v) ∧ RS w' T base (.slice (some ⟨g, 0, none⟩) m.length cap) ((m.set k ⟨{ r.t with ws := l }, a3, c3⟩).map zrt) 0 s1.srv false ∧ Km base W w' ∧ w'.heap[V.heap.size]? = some (.cells #[.int .i64 x.id, .int .i64 x.cost, .int .i64 x.start, .int .i64 (x.left - 1)] 104 (0, 0))) := (rrest_blk V5 H5.out.1 (by rw [List.length_set]; have := HLEN.out; omega)).mono fun e w' ⟨q1, q2, q3, q4, q5⟩ => ⟨q1, q2, H5.out.2.1.trans q3, (q5 _ (by omega) (fun e => by have e' : g = V.heap.size := (by simpa [Value.ownBlock] using e); omega)).trans H5.out.2.2⟩
          clear hL5 hz u0 e3 e0 x0 x1 x2 x3 j0 j1 jf0 jf1 b0 b1 b3 y0 y1 y2 y3 y4 hV5 HP HNE
          go_upto_region 21 with (first | (go_at_call 60; refine HL.out.mono ?_; rintro e w1 ⟨rfl, hw1⟩; rw [hw1]; clear hw1) | (go_at_call 61; refine HRe.out.mono ?_; rintro e V6 ⟨⟨v, rfl⟩, hE6⟩))
          have HS6b : Hid (RS V6 T base (.slice (some ⟨g, 0, none⟩) m.length cap) ((m.set k ⟨{ r.t with ws := l }, a3, c3⟩).map zrt) 0 s1.srv false ∧ Km base W V6 ∧ V6.heap[V.heap.size]? = some (.cells #[.int .i64 x.id, .int .i64 x.cost, .int .i64 x.start, .int .i64 (x.left - 1)] 104 (0, 0))) := hE6
          clear hE6
          have hj6 : V6.heap[w.heap.size]? = some (.cells #[.int .i64 0, .int .i64 0] 42 (0, 0)) := HS6b.out.2.1.kx.row HJ.out (by decide)
          have htT := HS6b.out.1.cells.1
          rw [HLEN.out.1] at htT
          obtain ⟨r9, hr9, hn9⟩ : ∃ r9 : Rt, ((m.set k ⟨{ r.t with ws := l }, a3, c3⟩).map zrt)[k]? = some r9 ∧ r9.t.nm = r.t.nm := ⟨zrt ⟨{ r.t with ws := l }, a3, c3⟩, by rw [List.getElem?_map, List.getElem?_set_self (by have := HCK.out; have := HLEN.out; omega)]; rfl, rfl⟩
          obtain ⟨g9, cap9, hv9, _, e9, _, _, _, _⟩ := rs_row HS6b.out.1 hr9
          have hgg : g = g9 := by have := (Value.slice.inj hv9).1; simpa using this
          subst hgg
          rw [hn9] at e9
          have j0 : V6.cell? ⟨w.heap.size, 0, none⟩ = some (.int .i64 0) := by rw [cell_of_row _ _ _ _ _ _ hj6]; rfl
          have j1 : V6.cell? ⟨w.heap.size, 1, none⟩ = some (.int .i64 0) := by rw [cell_of_row _ _ _ _ _ _ hj6]; rfl
          have jf0 : V6.frozen? ⟨w.heap.size, 0, none⟩ = false := by simp [World.frozen?, hj6]
          have jf1 : V6.frozen? ⟨w.heap.size, 1, none⟩ = false := by simp [World.frozen?, hj6]
          have b0 : V6.cell? ⟨V.heap.size, 0, none⟩ = some (.int .i64 x.id) := by rw [cell_of_row _ _ _ _ _ _ HS6b.out.2.2]; rfl
          have b1 : V6.cell? ⟨V.heap.size, 1, none⟩ = some (.int .i64 x.cost) := by rw [cell_of_row _ _ _ _ _ _ HS6b.out.2.2]; rfl
          have HE : Hid (RP (((V6.setCell ⟨w.heap.size, 0, none⟩ (.int .i64 x.id)).setCell ⟨w.heap.size, 1, none⟩ (.int .i64 x.cost)).drew) T base (restS s6) ∧ Km base w (((V6.setCell ⟨w.heap.size, 0, none⟩ (.int .i64 x.id)).setCell ⟨w.heap.size, 1, none⟩ (.int .i64 x.cost)).drew)) := by
            refine RS.jobset (by have h9 := HS6b.out.1; unfold restS; rw [HS6.out.2.2.1, HS6.out.2.2.2]; exact h9) (HK.out.1.trans HS6b.out.2.1) HK.out.2 hj6 (by
              have e : (rts m).set k { r.t with ws := l } = rts (m.set k ⟨{ r.t with ws := l }, a3, c3⟩) := (rts_set (m := m) (k := k) (x := ⟨{ r.t with ws := l }, a3, c3⟩)).symm
              show rts _ = s6.ts.map _
              rw [HS6.out.1, e]
              unfold rts
              rw [List.map_map, List.map_map]
              rfl) (Nat.le_refl _)
          have HG : Hid ((((V6.setCell ⟨w.heap.size, 0, none⟩ (.int .i64 x.id)).setCell ⟨w.heap.size, 1, none⟩ (.int .i64 x.cost)).drew).heap[w.heap.size]? = some (.cells #[.int .i64 x.id, .int .i64 x.cost] 42 (0, 0))) := by
            show ((V6.setCell ⟨w.heap.size, 0, none⟩ (.int .i64 x.id)).setCell ⟨w.heap.size, 1, none⟩ (.int .i64 x.cost)).heap[w.heap.size]? = _
            rw [row_set _ (row_set _ hj6)]
            rfl
          clear hv9 hr9 hn9 hj6
          go_region
          all_goals
            go_wp2_with fail
            refine bodyPost_ret (results_four Try.results35 _ _ w.heap.size #[.int .i64 x.id, .int .i64 x.cost] _ _ _ rfl rfl rfl rfl (load42 HG.out rfl)) rfl ?_
            rw [HA.out]
            exact ⟨rfl, HE.out⟩
        · have HL : Hid (Calls Try.prog 60 #[.pointer (some ⟨T, 0, none⟩)] V5 fun e w' => e = .returned (.int .i64 ((leftS s6.ts : Nat) : Int)) ∧ w' = V5) := hL5
          rw [if_neg hz] at HA
          have hz' : ¬ ((leftS s6.ts : Nat) : Int) = 0 := by omega
          generalize ((leftS s6.ts : Nat) : Int) = LL at *
          clear hL5 hz u0 e3 e0 x0 x1 x2 x3 j0 j1 jf0 jf1 b0 b1 b3 y0 y1 y2 y3 y4 hV5 HP HNE
          go_upto_region 21 with (go_at_call 60; refine HL.out.mono ?_; rintro e w1 ⟨rfl, hw1⟩; rw [hw1]; clear hw1)
          have hj6 : V5.heap[w.heap.size]? = some (.cells #[.int .i64 0, .int .i64 0] 42 (0, 0)) := H5.out.2.1.kx.row HJ.out (by decide)
          have htT := H5.out.1.cells.1
          rw [HLEN.out.1] at htT
          obtain ⟨r9, hr9, hn9⟩ : ∃ r9 : Rt, (m.set k ⟨{ r.t with ws := l }, a3, c3⟩)[k]? = some r9 ∧ r9.t.nm = r.t.nm := ⟨_, List.getElem?_set_self (by have := HCK.out; have := HLEN.out; omega), rfl⟩
          obtain ⟨g9, cap9, hv9, _, e9, _, _, _, _⟩ := rs_row H5.out.1 hr9
          have hgg : g = g9 := by have := (Value.slice.inj hv9).1; simpa using this
          subst hgg
          rw [hn9] at e9
          have j0 : V5.cell? ⟨w.heap.size, 0, none⟩ = some (.int .i64 0) := by rw [cell_of_row _ _ _ _ _ _ hj6]; rfl
          have j1 : V5.cell? ⟨w.heap.size, 1, none⟩ = some (.int .i64 0) := by rw [cell_of_row _ _ _ _ _ _ hj6]; rfl
          have jf0 : V5.frozen? ⟨w.heap.size, 0, none⟩ = false := by simp [World.frozen?, hj6]
          have jf1 : V5.frozen? ⟨w.heap.size, 1, none⟩ = false := by simp [World.frozen?, hj6]
          have b0 : V5.cell? ⟨V.heap.size, 0, none⟩ = some (.int .i64 x.id) := by rw [cell_of_row _ _ _ _ _ _ H5.out.2.2]; rfl
          have b1 : V5.cell? ⟨V.heap.size, 1, none⟩ = some (.int .i64 x.cost) := by rw [cell_of_row _ _ _ _ _ _ H5.out.2.2]; rfl
          have HE : Hid (RP (((V5.setCell ⟨w.heap.size, 0, none⟩ (.int .i64 x.id)).setCell ⟨w.heap.size, 1, none⟩ (.int .i64 x.cost)).drew) T base s6 ∧ Km base w (((V5.setCell ⟨w.heap.size, 0, none⟩ (.int .i64 x.id)).setCell ⟨w.heap.size, 1, none⟩ (.int .i64 x.cost)).drew)) := by
            refine RS.jobset (by have h9 := H5.out.1; rw [HS6.out.2.1, HS6.out.2.2.1, HS6.out.2.2.2]; exact h9) (HK.out.1.trans H5.out.2.1) HK.out.2 hj6 (by rw [HS6.out.1, rts_set]) (Nat.le_refl _)
          have HG : Hid ((((V5.setCell ⟨w.heap.size, 0, none⟩ (.int .i64 x.id)).setCell ⟨w.heap.size, 1, none⟩ (.int .i64 x.cost)).drew).heap[w.heap.size]? = some (.cells #[.int .i64 x.id, .int .i64 x.cost] 42 (0, 0))) := by
            show ((V5.setCell ⟨w.heap.size, 0, none⟩ (.int .i64 x.id)).setCell ⟨w.heap.size, 1, none⟩ (.int .i64 x.cost)).heap[w.heap.size]? = _
            rw [row_set _ (row_set _ hj6)]
            rfl
          clear hv9 hr9 hn9 hj6
          go_region
          all_goals
            go_wp2_with fail
            refine bodyPost_ret (results_four Try.results35 _ _ w.heap.size #[.int .i64 x.id, .int .i64 x.cost] _ _ _ rfl rfl rfl rfl (load42 HG.out rfl)) rfl ?_
            rw [HA.out]
            exact ⟨rfl, HE.out⟩
end Go.Proofs.Ytfndbllpnkhlhaa
