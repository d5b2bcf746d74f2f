import Derived.Test.YtflhgphjkhplmaaML15
import Derived.Test.YtflhgphjkhplmaaML04
import Derived.Deep.RegionWith
import Derived.Deep.RegionHeld3
/- The records are read. -/
namespace Go.Proofs.Ytflhgphjkhplmaa.D
open Go Go.RowKit W R Go.Shelf
set_option linter.unusedVariables false
set_option linter.unusedSimpArgs false
attribute [local go_sem] Oper.semAt_some

variable {w w' : World} {L D k : Nat} {sy : Int} {F F' P P' : Nat → Prop} {dl : List Fd} {g : Lg} {s : List UInt8}
def bhL (rs : List (Nat × List Int)) (num : Nat) : List (Nat × List Int) := match rs[(rs.takeWhile fun x => decide (x.1 ≤ num)).length]? with
  | none => []
  | some x => if 1 < x.1 - num then [] else rs.drop (rs.takeWhile fun x => decide (x.1 ≤ num)).length
theorem tw_map : ∀ (xs : List Rc) (num : Nat), ((xs.map Rc.pl).takeWhile fun x => decide (x.1 ≤ num)).length = ixN xs num
  | [], num => rfl
  | x :: r, num => by
    unfold ixN
    rw [List.map_cons, List.takeWhile_cons, List.takeWhile_cons]
    by_cases c : x.n ≤ num
    · have e1 : decide (x.pl.1 ≤ num) = true := decide_eq_true c
      have e2 : decide (x.n ≤ num) = true := decide_eq_true c
      rw [if_pos e1, if_pos e2, List.length_cons, List.length_cons]
      exact congrArg (· + 1) (tw_map r num)
    · have e1 : ¬ decide (x.pl.1 ≤ num) = true := fun e => c (of_decide_eq_true e)
      have e2 : ¬ decide (x.n ≤ num) = true := fun e => c (of_decide_eq_true e)
      rw [if_neg e1, if_neg e2]
      rfl
theorem bh_map (xs : List Rc) (num : Nat) : (bhR xs num).map Rc.pl = bhL (xs.map Rc.pl) num := by
  unfold bhR bhL
  rw [tw_map, List.getElem?_map]
  cases xs[ixN xs num]? with
  | none => rfl
  | some x =>
    show List.map Rc.pl (if 1 < x.n - num then [] else _) = if 1 < x.n - num then [] else _
    split
    · rfl
    · rw [List.map_drop]
/-- The records of a file's bytes, and where the last one's frame ends. -/
def rrL (zs : List Int) (num : Nat) : List (Nat × List Int) := bhL ((goodI zs).map fun q => (q.1, q.2.1)) num
def endL (zs : List Int) : Nat := ((goodI zs).getLast?.map fun q => q.2.2).getD 0
def takenL (zs : List Int) (num : Nat) : Nat := if rrL zs num = [] then 0 else endL zs
def rrG (g : Lg) (zs : List Int) : Lg := ⟨g.bn, g.b, rrL zs g.bn, zs.length - takenL zs g.bn⟩
def rrD (g : Lg) (dl : List Fd) : List Fd := if 0 < (rdBs nLog dl).length - takenL (rdBs nLog dl) g.bn then cuD nLog (takenL (rdBs nLog dl) g.bn : Int) dl else dl
/-- What is left when the log's own block was written, beside new memory. -/
theorem rr_fin {V : World} {bv v' : Value} {ys : List Rc} {g' : Lg} (h : WS w D L k F P sy dl g) (hP : ∀ q, bv.ownBlock = some q → P q) (hPL : P L) (hbv : w.ownsRow 0 5 1 bv g.b.length (u8l g.b)) (hgb : g'.b = g.b) (hrs : g'.rs = ys.map Rc.pl)
    (hL : V.heap[L]? = some (.cells (logC D g' bv v') 95 (0, 0))) (hk : ∀ q, q < w.heap.size → q ≠ L → V.heap[q]? = w.heap[q]?) (hos : V.os = w.os) (htape : V.tape = w.tape) (hout : V.output = w.output) (hsz : w.heap.size ≤ V.heap.size)
    (hv : V.ownsRow w.heap.size 81 2 v' ys.length (fl e2 ys)) (hy : ∀ y ∈ ys, V.ownsRow w.heap.size 5 1 y.rv y.r.length (u8l y.r)) :
    ∃ P', WS V D L k F P' sy dl g' ∧ Fr (fun q => F q ∨ P q) (fun q => F q ∨ P' q) w V := by
  have hbL : ∀ q, bv.ownBlock = some q → q ≠ L := fun q hq e => by
    obtain ⟨cur, hc⟩ := own_tag hbv hq
    obtain ⟨bv', rv', xs', g1, -⟩ := h.lg
    exact ne_tag g1 hc (by decide) e.symm
  have hFL : ∀ q, F q → q ≠ L := fun q hq e => h.ap L hPL (e ▸ hq)
  have hn1 : ∀ q, v'.ownBlock = some q → w.heap.size ≤ q := fun q hq => (hv.lt q hq).1
  have hn2 : ∀ y ∈ ys, ∀ q, y.rv.ownBlock = some q → w.heap.size ≤ q := fun y hy' q hq => ((hy y hy').lt q hq).1
  refine ⟨fun q => q = L ∨ bv.ownBlock = some q ∨ v'.ownBlock = some q ∨ ∃ y ∈ ys, y.rv.ownBlock = some q, ⟨h.dr.at' fun q hq => hk q (h.dr.lt q hq) (hFL q hq), h.inv, ⟨bv, v', ys, hL, ?_, own_low hv (Nat.zero_le _), hrs.symm, fun y hy' => own_low (hy y hy') (Nat.zero_le _), fun q => Iff.rfl⟩, fun q hq hF => ?_⟩, ⟨hos, htape, hout, hsz, fun q hq hn => hk q hq fun e => hn (.inr (e ▸ hPL)), fun q hq => ?_⟩⟩
  · rw [hgb]
    exact own_at hbv fun q hq => hk q (hbv.lt q hq).2 (hbL q hq)
  · have hlt := h.dr.lt q hF
    rcases hq with rfl | e | e | ⟨y, hy', e⟩
    · exact h.ap q hPL hF
    · exact h.ap q (hP q e) hF
    · have := hn1 q e; omega
    · have := hn2 y hy' q e; omega
  · rcases hq with hq | rfl | e | e | ⟨y, hy', e⟩
    · exact .inl (.inl hq)
    · exact .inl (.inr hPL)
    · exact .inl (.inr (hP q e))
    · exact .inr (hn1 q e)
    · exact .inr (hn2 y hy' q e)
theorem WS.more (h : WS w D L k F P sy dl g) : WS w D L (k + 1) F P sy dl g := ⟨h.dr, h.inv.more, h.lg, h.ap⟩
theorem WS.put {Dm : Nat} {o : Obj} (h : WS w D L k F P sy dl g) (h1 : ¬ F Dm) (h2 : ¬ P Dm) : WS (w.putObj Dm o) D L k F P sy dl g :=
  ⟨h.dr.at' fun q hq => World.putObj_heap_other fun e => h1 (e ▸ hq), h.inv, h.lg.at' fun q hq => World.putObj_heap_other fun e => h2 (e ▸ hq), h.ap⟩
theorem Fr.put {G G' : Nat → Prop} {Dm : Nat} {o : Obj} (h : Fr G G' w w') (hD : w.heap.size ≤ Dm) : Fr G G' w (w'.putObj Dm o) :=
  ⟨h.os, h.tape, h.output, by simpa using h.size, fun q hq hn => (World.putObj_heap_other (by omega)).trans (h.block q hq hn), h.grow⟩
/-- The disk's own step. -/
theorem WS.disk {dl' : List Fd} {sy' : Int} {k' : Nat} (h : WS w D L k F P sy dl g) (hd : DR w' D F' sy' dl') (hf : Fr F F' w w') (hi : Inv k' sy' dl') : WS w' D L k' F' P sy' dl' g ∧ Fr (fun q => F q ∨ P q) (fun q => F' q ∨ P q) w w' := by
  refine ⟨⟨hd, hi, h.lg.at' fun q hq => hf.block q (h.lg.lt q hq) (h.ap q hq), fun q hq e => ?_⟩, ⟨hf.os, hf.tape, hf.output, hf.size, fun q hq hn => hf.block q hq fun e => hn (.inl e), fun q hq => ?_⟩⟩
  · rcases hf.grow q e with e | e
    · exact h.ap q hq e
    · have := h.lg.lt q hq; omega
  · rcases hq with hq | hq
    · exact (hf.grow q hq).imp .inl id
    · exact .inl (.inr hq)
theorem bhR_mem {xs : List Rc} {num : Nat} {y : Rc} (h : y ∈ bhR xs num) : y ∈ xs := by
  unfold bhR at h
  split at h
  · simp at h
  · split at h
    · simp at h
    · exact List.mem_of_mem_drop h
theorem rc_good {xs : List El} {zs : List Int} (h : xs.map El.pl = goodI zs) : (xs.map rcE).map Rc.pl = (goodI zs).map fun q => (q.1, q.2.1) := by
  rw [← h, List.map_map, List.map_map]
  rfl
theorem lastE_good {xs : List El} {zs : List Int} (h : xs.map El.pl = goodI zs) : lastE xs = endL zs ∧ lastE xs ≤ zs.length := by
  have e : lastE xs = endL zs := by
    unfold lastE endL
    rw [← h, List.getLast?_map, Option.map_map]
    rfl
  refine ⟨e, ?_⟩
  rw [e]
  unfold endL
  cases hl : (goodI zs).getLast? with
  | none => exact Nat.zero_le _
  | some q => exact (good_all (List.mem_of_getLast? hl)).2.2.2.1
set_option maxRecDepth 100000 in
set_option maxHeartbeats 4000000 in
theorem readRecords_any (h : WS w D L k F P sy dl g) (hk : k ≤ 1000000) (hg0 : g.rs = []) (hc0 : g.cut = 0) : Calls Try.prog 59 #[.pointer (some ⟨L, 0, none⟩)] w fun e w' => (∃ v, e = .returned v) ∧ ∃ F' P', WS w' D L (k + 1) F' P' sy (rrD g dl) (rrG g (rdBs nLog dl)) ∧ Fr (fun q => F q ∨ P q) (fun q => F' q ∨ P' q) w w' := by
  obtain ⟨bv, rv, xs, g1, g2, g3, g4, g5, g6⟩ := h.lg
  have hx0 : xs = [] := by
    rw [hg0] at g4
    exact List.map_eq_nil_iff.1 g4
  subst hx0
  have c0 : ∀ n, (w.drewN n).cell? ⟨L, 0, none⟩ = some (.pointer (some ⟨D, 0, none⟩)) := fun n => by show w.cell? _ = _; rw [cell_of_row _ _ _ _ _ _ g1]; rfl
  have d0 : w.drew.cell? ⟨L, 0, none⟩ = some (.pointer (some ⟨D, 0, none⟩)) := by show w.cell? _ = _; rw [cell_of_row _ _ _ _ _ _ g1]; rfl
  have d1 : w.drew.cell? ⟨L, 1, none⟩ = some (.string { data := #[97] }) := by show w.cell? _ = _; rw [cell_of_row _ _ _ _ _ _ g1]; rfl
  have hcat : ∀ W, (binOp .add 9 (.string { data := #[97] }) (.string { data := #[46, 108, 111, 103] })).run Try.prog W = .ok (.string (tx nLog)) W := fun W => by kernel_rfl
  have HRD : Hid (∀ V, Below w.heap.size w V → Calls Try.prog 83 #[.pointer (some ⟨D, 0, none⟩), .string (tx nLog)] V fun e w' => ∃ a c, e = .returned (.tuple #[.slice a (rdBs nLog dl).length c, .int .i64 (rdEs nLog dl)]) ∧ Hid (w'.ownsRow w.heap.size 5 1 (.slice a (rdBs nLog dl).length c) (rdBs nLog dl).length (u8l (rdBs nLog dl)) ∧ Below w.heap.size w w')) := fun V hV => by
    refine (rd_any (h.newer hV).dr h.inv nLog).mono ?_
    rintro e w' ⟨a, c, rfl, h1, h2⟩
    exact ⟨a, c, rfl, own_low h1 hV.size, hV.trans (h2.mono hV.size)⟩
  have HCL : Hid (∀ V, Below w.heap.size w V → V.cell? ⟨L, 0, none⟩ = some (.pointer (some ⟨D, 0, none⟩)) ∧ V.cell? ⟨L, 1, none⟩ = some (.string { data := #[97] })) := fun V hV => ⟨(hV.cell (World.block_lt_of_cell? w _ d0)).trans d0, (hV.cell (World.block_lt_of_cell? w _ d1)).trans d1⟩
  obtain ⟨hzb, hzl⟩ := h.inv.rdb nLog
  obtain ⟨zs, hzs⟩ : ∃ zs, rdBs nLog dl = zs := ⟨_, rfl⟩
  obtain ⟨N, hN⟩ : ∃ N, zs.length = N := ⟨_, rfl⟩
  obtain ⟨re, hre⟩ : ∃ re, rdEs nLog dl = re := ⟨_, rfl⟩
  rw [hzs, hN, hre] at HRD
  rw [hzs] at hzb hzl ⊢
  have H0 : Hid (WS w D L k F P sy dl g ∧ rdBs nLog dl = zs ∧ zs.length = N ∧ Byt zs ∧ N ≤ 1048576 ∧ g.cut = 0) := ⟨h, hzs, hN, hzb, by omega, hc0⟩
  have HLG : Hid (w.heap[L]? = some (.cells (logC D g bv rv) 95 (0, 0)) ∧ w.ownsRow 0 5 1 bv g.b.length (u8l g.b) ∧ ∀ q, P q ↔ q = L ∨ bv.ownBlock = some q ∨ rv.ownBlock = some q) := ⟨g1, g2, fun q => (g6 q).trans (by simp)⟩
  have HKK : Hid (k ≤ 1000000) := hk
  clear hk
  clear h hg0 hc0 g1 g2 g3 g4 g5 g6 hzb hzl hzs hN hre c0
  refine (callsIn_wide (n := 8)).1 ?_
  refine callsIn_of_wp_marks Try.func59 rfl trivial ?_ rfl
  refine wpIn_wide.2 ?_
  simp only [Try.ntmps59, List.size_toArray, List.length_cons, List.length_nil, Nat.reduceAdd, Nat.reduceSub, Array.replicate_succ, Array.replicate_zero, List.push_toArray, List.append_toArray, List.nil_append, List.cons_append]
  go_upto_region 0 with (fail)
  go_cut [2, 3] from 8 to 20 (fun x y wx => ∃ a c, x = .slice a N c ∧ y = .int .i64 re ∧ Hid (wx.ownsRow w.heap.size 5 1 (.slice a N c) N (u8l zs) ∧ Below w.heap.size w wx))
  case first =>
    go_region_held3 (fun w' => w'.cell? ⟨L, 0, none⟩ = some (.pointer (some ⟨D, 0, none⟩)) ∧ w'.cell? ⟨L, 1, none⟩ = some (.string { data := #[97] })) (first | exact K1 | go_keep) ((go_at_call 83; refine (HRD.out w.drew (drewN_below w 1)).mono ?_; rintro e w1 ⟨a, c, rfl, H1⟩; (have K1 := HCL.out w1 H1.out.2)))
    all_goals
      go_wp2_with fail
      go_meet
      exact ⟨a, c, rfl, rfl, H1⟩
  case rest =>
  obtain ⟨a, c, rfl, rfl, H1⟩ := hcut
  clear d0 d1 hcat HRD
  obtain ⟨W1, hW1⟩ : ∃ W1, (wc.alloc (.cells #[.slice none 0 0] 93)).alloc (.cells #[.int .i64 0] 3) = W1 := ⟨_, rfl⟩
  have HW : Hid (Below wc.heap.size wc W1 ∧ Boxed W1 wc.heap.size 93 (.slice none 0 0) ∧ Boxed W1 (wc.heap.size + 1) 3 (.int .i64 0) ∧ W1.heap.size = wc.heap.size + 2) := by
    show _ ∧ _
    rw [← hW1]
    refine ⟨(bel1 _ _).alloc (by simp) _, (Boxed.new _ _ _).alloc _, ?_, by simp⟩
    have h := Boxed.new (wc.alloc (.cells #[.slice none 0 0] 93)) 3 (.int .i64 0)
    rw [World.size_alloc] at h
    exact h
  have hG1 : GB (W1.alloc (.cells #[.slice a N c] 23)) W1.heap.size (.slice a N c) zs := by
    have ho : W1.ownsRow w.heap.size 5 1 (.slice a N c) N (u8l zs) := own_at H1.out.1 fun q hq => HW.out.1.block q (H1.out.1.lt q hq).2
    have hN := H0.out.2.2.1
    refine ⟨Go.heap_alloc_new _ _, Bz.newer (own_bz (v := .slice a N c) (zs := zs) (by rw [hN]; exact ho) H0.out.2.2.2.1 (by have := H0.out; omega)) (bel1 _ _), fun q hq => ?_⟩
    obtain ⟨cur, hc⟩ := own_tag ho hq
    exact ⟨cur, (0, 0), ((bel1 W1 _).block q (Array.getElem?_eq_some_iff.1 hc).1).trans hc⟩
  have HG : Hid (GB (W1.alloc (.cells #[.slice a N c] 23)) W1.heap.size (.slice a N c) zs) := hG1
  have HW1 : Hid ((wc.alloc (.cells #[.slice none 0 0] 93)).alloc (.cells #[.int .i64 0] 3) = W1) := hW1
  clear hG1 hW1
  go_upto_region 3 with (fail)
  rw [HW1.out]
  clear HW1
  go_wp2_with (go_at_call 38; refine (good_any a N c W1).mono ?_; rintro e W2 ⟨rfl, hW2⟩; rw [hW2]; clear hW2)
  obtain ⟨W2, hW2⟩ : ∃ W2, W1.alloc (.cells #[.slice a N c] 23) = W2 := ⟨_, rfl⟩
  have HB12 : Hid (Below W1.heap.size W1 W2) := by rw [← hW2]; exact bel1 _ _
  rw [hW2] at HG ⊢
  clear hW2
  obtain ⟨B4, B5, BX, e4, e5, eX⟩ : ∃ B4 B5 BX, wc.heap.size = B4 ∧ wc.heap.size + 1 = B5 ∧ W1.heap.size = BX := ⟨_, _, _, rfl, rfl, rfl⟩
  have HBN : Hid (w.heap.size ≤ B4 ∧ B4 < B5 ∧ B5 < BX ∧ BX < W2.heap.size) := ⟨by have := H1.out.2.size; omega, by omega, by have := HW.out.2.2.2; omega, by rw [← eX]; exact HG.out.lt⟩
  have HI0 : Hid (RrI w W2.heap.size B4 B5 [] W2) := by
    obtain ⟨h1, h2, h3, h4⟩ := HW.out
    rw [e4] at h2
    rw [e5] at h3
    have k : ∀ q, q < W1.heap.size → W2.heap[q]? = W1.heap[q]? := fun q hq => HB12.out.block q hq
    have hs := H1.out.2.size
    exact ⟨⟨.slice none 0 0, (k B4 (by omega)).trans h2, World.ownsRow_nil _ _ _ _⟩, (k B5 (by omega)).trans h3, ⟨(H1.out.2.trans (h1.mono hs)).trans (HB12.out.mono (Nat.le_trans hs h1.size)), Nat.le_refl _⟩, fun x hx => by simp at hx⟩
  rw [e5, e4, eX]
  rw [eX] at HG
  clear e4 e5 eX HW HB12
  refine (wpIn_wide (n := 8)).1 ?_
  refine range_x rfl (by omega) (gf := 66) (lb := #[.pointer (some ⟨BX, 0, none⟩)]) rfl trivial (enters_of Try.func66 (by kernel_rfl) rfl)
    (good_seq 7 BX w.heap.size (.slice a N c) zs W2 (by omega) (by have := HBN.out; omega) HG.out)
    (RrI w W2.heap.size B4 B5)
    (fun pre x a' W => ∃ g8 ra rc rv, x.rv = .slice ra x.r.length rc ∧ a' = { tmps := List.toArray (Value.pointer (some ⟨L, 0, none⟩) :: undef :: .slice a N c :: .int .i64 re :: .pointer (some ⟨B4, 0, none⟩) :: .pointer (some ⟨B5, 0, none⟩) :: .pointer (some ⟨g8, 0, none⟩) :: .int .i64 (x.e : Int) :: u8 :: u9 :: u10 :: u11 :: u12 :: u13 :: u14 :: u15 :: u16 :: u17 :: u18 :: u19 :: u20 :: .slice a N c :: .func (.func 66) #[] #[.pointer (some ⟨BX, 0, none⟩)] :: .agg #[.int .u64 (x.n : Int), .slice ra x.r.length rc] :: .int .i64 (x.e : Int) :: undef :: undef :: undef :: undef :: undef :: undef :: undef :: undef :: undef :: undef :: undef :: undef :: undef :: undef :: undef :: undef :: undef :: undef :: undef :: undef :: undef :: undef :: undef :: undef :: undef :: undef :: undef :: undef :: undef :: undef :: undef :: undef :: undef :: undef :: undef :: undef :: undef :: undef :: undef :: undef :: undef :: undef :: undef :: undef :: []), defers := [] } ∧ Boxed W B4 93 rv ∧ W.ownsRow W2.heap.size 81 2 rv pre.length (fl e2 (pre.map rcE)) ∧ Boxed W B5 3 (.int .i64 (lastE pre : Int)) ∧ (Below w.heap.size w W ∧ W2.heap.size ≤ W.heap.size) ∧ W.heap[g8]? = some (.cells #[.int .u64 (x.n : Int), .slice ra x.r.length rc] 81 (0, 0)) ∧ pre.length ≤ 2000000 ∧ rv.ownBlock ≠ some g8 ∧ rv.ownBlock ≠ some x.g ∧ ∃ (cc : Array Value) (f : Nat × Nat), W.heap[x.g]? = some (.cells cc 81 f))
    KE.trans ?put (Below.refl _ _) (fun _ => rfl) (fun pre W W' row hs hg hr => hs.from hg (fun r e => ⟨by have := (hr r e).1; have := HBN.out; omega, (hr r e).2⟩)) ?ownS HI0.out ?ownA ?assign ?body ?done
  case put =>
    intro pre x a' W l o o' hor h1 h2 h3 h4
    have off : ∀ (q : Nat) (c : Array Value) (t : TypeId) (f : Nat × Nat), W.heap[q]? = some (.cells c t f) → (W.putObj l o').heap[q]? = W.heap[q]? := fun q c t f hq => World.putObj_heap_other fun e => by
      subst e
      rw [h2] at hq
      cases hq
      cases h3
    have hbx : BX < W2.heap.size := HBN.out.2.2.2
    refine ⟨⟨by simp, fun q c f hq => off q c 5 f hq, World.putObj_heap_other (by omega)⟩, ?_⟩
    rcases hor with ⟨_, _, _, _, _, _, _, _, _, _, _, _, _, _, cc, f, hg⟩ | hI
    · exact off _ _ _ _ hg
    · obtain ⟨c, t, f, hg⟩ := hI.2.2.2 x (by simp)
      exact off _ _ _ _ hg
  case ownS => exact fun xs W W' row hs hg hr => ⟨hs.1, fun x hx => grown_own hg (fun r e => (hr r e).2) (hs.2 x hx)⟩
  case ownA =>
    rintro pre x a' _ W W' row ⟨g8, ra, rc, rv, h1, h2, h3, h4, h5, h6, h7, h8, h9, h10, cc, f, h11⟩ hg hr
    have hr2 := fun r e => (hr r e).2
    exact ⟨g8, ra, rc, rv, h1, h2, (grown_cells hg hr2 h3).trans h3, grown_own hg hr2 h4, (grown_cells hg hr2 h5).trans h5, ⟨h6.1.grown hg h6.1.size (fun q hq => by have := (hr q hq).1; have := HBN.out; omega), Nat.le_trans h6.2 hg.size⟩, (grown_cells hg hr2 h7).trans h7, h8, h9, h10, cc, f, (grown_cells hg hr2 h11).trans h11⟩
  case assign =>
    rintro l pre x W W0 K hI hb hX hK
    obtain ⟨x0, x1, x2, x3, x4⟩ := hX
    have hrow : W.ownsRow W0.heap.size 5 1 x.rv x.r.length (u8l x.r) := x3
    obtain ⟨ra, rc, hrv⟩ := own_slice hrow
    have HK := hK
    obtain ⟨⟨rv, i1, i2⟩, i3, i4, i5⟩ := hI
    have HX : Hid ((Boxed W B4 93 rv ∧ W.ownsRow W2.heap.size 81 2 rv pre.length (fl e2 (pre.map rcE)) ∧ Boxed W B5 3 (.int .i64 (lastE pre : Int)) ∧ (Below w.heap.size w W ∧ W2.heap.size ≤ W.heap.size)) ∧ W.heap[x.g]? = some (.cells #[.int .u64 (x.n : Int), x.rv] 81 (0, 0)) ∧ x.rv = .slice ra x.r.length rc ∧ x.g < W.heap.size ∧ pre.length ≤ 2000000 ∧ BX < W.heap.size ∧ (∀ q, rv.ownBlock = some q → q < x.g ∧ q < W.heap.size)) := by
      have hk : ∀ q, q < W0.heap.size → W.heap[q]? = W0.heap[q]? := fun q hq => hb.block q hq
      refine ⟨⟨(hk B4 (Array.getElem?_eq_some_iff.1 i1).1).trans i1, own_at i2 fun q hq => hk q (i2.lt q hq).2, (hk B5 (Array.getElem?_eq_some_iff.1 i3).1).trans i3, i4.1.trans (hb.mono i4.1.size), Nat.le_trans i4.2 hb.size⟩, x2, hrv, (Array.getElem?_eq_some_iff.1 x2).1, x0, by have h1 := i4.2; have h2 := hb.size; have h3 := HBN.out; omega, fun q hq => ?_⟩
      have h1 := (i2.lt q hq).2
      have h2 := hb.size
      exact ⟨by omega, by omega⟩
    unfold elG
    rw [hrv]
    clear hK i1 i2 i3 i4 i5 hb x1 x2 x3 x4 hrow hrv x0
    gi_wp2_with fail
    obtain ⟨⟨i1, i2, i3, i4⟩, k2, k3, k4, k5, k6, k7⟩ := HX.out
    have hb := bel1 W (.cells #[.int .u64 (x.n : Int), .slice ra x.r.length rc] 81)
    exact HK _ _ ((keeps_below hb).from _) ⟨KB.of hb k6, hb.block _ k4⟩ ⟨W.heap.size, ra, rc, rv, k3, rfl, (hb.block _ (Array.getElem?_eq_some_iff.1 i1).1).trans i1, own_at i2 fun q hq => hb.block q (i2.lt q hq).2, (hb.block _ (Array.getElem?_eq_some_iff.1 i3).1).trans i3, ⟨i4.1.trans (hb.mono i4.1.size), Nat.le_trans i4.2 hb.size⟩, Go.heap_alloc_new _ _, k5, fun e => by have := (k7 _ e).2; omega, fun e => by have := (k7 _ e).1; omega, _, _, (hb.block _ k4).trans k2⟩
  case body =>
    rintro l pre x a' W hl ⟨g8, ra, rc, rv', hrv, rfl, h1, h2, h3, h5, h7, h8, h9, h10, cc, f, h11⟩
    obtain ⟨i0, hi, hz0, hz1, hz2⟩ := info_parts info81
    obtain ⟨la, lc, hlv⟩ := own_slice h2
    subst hlv
    have c4 : W.cell? ⟨B4, 0, none⟩ = some (.slice la pre.length lc) := h1.cell
    have c7 : W.cell? ⟨g8, 0, none⟩ = some (.int .u64 (x.n : Int)) := by rw [cell_of_row _ _ _ _ _ _ h7]; rfl
    have c8 : W.cell? ⟨g8, 1, none⟩ = some (.slice ra x.r.length rc) := by rw [cell_of_row _ _ _ _ _ _ h7]; rfl
    have n4 : ¬ B5 = B4 := by have := HBN.out; omega
    have HX : Hid ((W.ownsRow W2.heap.size 81 2 (.slice la pre.length lc) pre.length (fl e2 (pre.map rcE)) ∧ W2.heap.size ≤ W.heap.size ∧ pre.length ≤ 2000000) ∧ Boxed W B4 93 (.slice la pre.length lc) ∧ Boxed W B5 3 (.int .i64 (lastE pre : Int)) ∧ W.heap[x.g]? = some (.cells cc 81 f) ∧ x.rv = .slice ra x.r.length rc ∧ Below w.heap.size w W ∧ (Value.slice la pre.length lc).ownBlock ≠ some x.g) := ⟨⟨h2, h5.2, h8⟩, h1, h3, h11, hrv, h5.1, h10⟩
    have HI81 : Hid (Try.prog.info? 81 = some i0 ∧ i0.zero = some (.agg #[.int .u64 0, .slice none 0 0]) ∧ i0.size = 2 ∧ i0.bytes = 32) := ⟨hi, hz0, hz1, hz2⟩
    clear h1 h2 h3 h5 h7 h8 h9 h10 h11 hrv hi hz0 hz1 hz2
    gi_wp2_with (gi_at_builtin; (refine wpListIn_append_own _ rfl (.tmp 25) (.tmp 27) 93 rfl W2.heap.size 81 i0 (.agg #[.int .u64 0, .slice none 0 0]) 2 32 Try.underlying93 HI81.out.1 HI81.out.2.1 HI81.out.2.2.1 HI81.out.2.2.2 rfl (by decide) (.slice la pre.length lc) pre.length (fl e2 (pre.map rcE)) rfl (HX.out.1.1.alloc _) ⟨W.heap.size, 0, none⟩ 1 1 [.int .u64 (x.n : Int), .slice ra x.r.length rc] rfl rfl (World.news_of_block (Go.heap_alloc_new _ _)) (by intro u hu; simp at hu; rcases hu with rfl | rfl <;> rfl) (by have := HX.out.1.2.2; unfold maxLen; omega) (by have := HX.out.1.2.2; omega) (by have := HX.out.1.2.1; simp; omega) ?_; intro v9 w9 ho9 hg9 h9x; clear h9x; obtain ⟨a9, k9, e9⟩ := own_slice ho9; subst e9; (have H9 : Hid (w9.ownsRow W2.heap.size 81 2 (.slice a9 (pre.length + 1) k9) (pre.length + 1) (fl e2 (pre.map rcE) ++ [.int .u64 (x.n : Int), .slice ra x.r.length rc]) ∧ (W.alloc (.cells [Value.int .u64 (x.n : Int), .slice ra x.r.length rc].toArray 81)).grownBy w9 (Value.slice la pre.length lc).ownBlock) := ⟨ho9, hg9⟩); clear ho9 hg9; (have KW := rrW HX.out.1.1 HX.out.1.2.1 H9.out.2); (have r4 : Boxed w9 B4 93 (.slice la pre.length lc) := (KW.1 B4 (Array.getElem?_eq_some_iff.1 HX.out.2.1).1 (by intro e; obtain ⟨cur, hc⟩ := own_tag HX.out.1.1 e; exact ne_tag HX.out.2.1 hc (by decide) rfl)).trans HX.out.2.1); (have r5 : Boxed w9 B5 3 (.int .i64 (lastE pre : Int)) := (KW.1 B5 (Array.getElem?_eq_some_iff.1 HX.out.2.2.1).1 (by intro e; obtain ⟨cur, hc⟩ := own_tag HX.out.1.1 e; exact ne_tag HX.out.2.2.1 hc (by decide) rfl)).trans HX.out.2.2.1); (have q4 := r4.cell); (have q5 := r5.cell); (have p4 := r4.frozen); (have p5 := r5.frozen); (have HR : Hid (Boxed w9 B4 93 (.slice la pre.length lc) ∧ Boxed w9 B5 3 (.int .i64 (lastE pre : Int))) := ⟨r4, r5⟩); (have HKW : Hid _ := KW); clear KW r4 r5))
    obtain ⟨k1, k2, k3⟩ := HKW.out
    obtain ⟨r4, r5⟩ := HR.out
    obtain ⟨o1, o2, o3, o6, o7, o8, o9⟩ := HX.out
    obtain ⟨z1, z2, z3, z4⟩ := HBN.out
    have s1 : ∀ q, q ≠ B4 → q ≠ B5 → ((w9.setCell ⟨B4, 0, none⟩ (.slice a9 (pre.length + 1) k9)).setCell ⟨B5, 0, none⟩ (.int .i64 (x.e : Int))).heap[q]? = w9.heap[q]? := fun q h5 h6 => by
      rw [Below.heap_setCell _ _ _ _ h6, Below.heap_setCell _ _ _ _ h5]
    have s0 : ((w9.setCell ⟨B4, 0, none⟩ (.slice a9 (pre.length + 1) k9)).setCell ⟨B5, 0, none⟩ (.int .i64 (x.e : Int))).heap.size = w9.heap.size := by simp
    have hnb : BX < W.heap.size := by have := o1.2.1; omega
    have kxg : ((w9.setCell ⟨B4, 0, none⟩ (.slice a9 (pre.length + 1) k9)).setCell ⟨B5, 0, none⟩ (.int .i64 (x.e : Int))).heap[x.g]? = W.heap[x.g]? := by
      rw [s1 _ (ne_tag o6 o2 (by decide)) (ne_tag o6 o3 (by decide))]
      exact k1 _ (Array.getElem?_eq_some_iff.1 o6).1 o9
    refine ⟨((k3.trans (KeepsOthers.setCell _ _ _)).trans (KeepsOthers.setCell _ _ _)).from _, ⟨⟨by rw [s0]; exact k2.size, fun q c f hq => ?_, ?_⟩, kxg⟩, ⟨.slice a9 (pre.length + 1) k9, ?_, ?_⟩, ?_, ⟨?_, ?_⟩, fun y hy => ?_⟩
    · rw [s1 q (ne_tag hq o2 (by decide)) (ne_tag hq o3 (by decide))]
      exact k1 q (Array.getElem?_eq_some_iff.1 hq).1 fun e => by
        obtain ⟨cur, hc⟩ := own_tag o1.1 e
        exact ne_tag hq hc (by decide) rfl
    · rw [s1 BX (by omega) (by omega)]
      exact k2.block BX z4
    · exact (r4.set _).other (by omega) _
    · rw [List.length_append, List.length_singleton, List.map_append, fl_app]
      have e1 : fl e2 (List.map rcE [x]) = [.int .u64 (x.n : Int), .slice ra x.r.length rc] := by
        simp [fl, e2, rcE, o7]
      rw [e1]
      refine own_at H9.out.1 fun q hq => ?_
      have := (H9.out.1.lt q hq).1
      exact s1 q (by omega) (by omega)
    · rw [lastE_snoc]
      exact (r5.other (by omega) _).set _
    · exact ((o8.trans (k2.mono (by omega))).setCell (p := ⟨B4, 0, none⟩) z1 _).setCell (p := ⟨B5, 0, none⟩) (by show _ ≤ B5; omega) _
    · rw [s0]
      exact Nat.le_trans o1.2.1 k2.size
    · obtain rfl : x = y := by simpa using hy
      exact ⟨cc, 81, f, kxg.trans o6⟩
  case done =>
    rintro Dm xs W hD ⟨hx1, hx2⟩ ⟨⟨lv, h1, h2⟩, h4, h5, h6⟩ hK
    obtain ⟨la, lc, hlv⟩ := own_slice h2
    subst hlv
    obtain ⟨hLw, hbv, hPq⟩ := HLG.out
    have hlenx : (xs.map rcE).length = xs.length := List.length_map ..
    have hxN : xs.length ≤ N := by
      have e1 := congrArg List.length hx1
      rw [List.length_map] at e1
      have e2 := good_len zs
      have := H0.out.2.2.1
      omega
    have hgl := lastE_good hx1
    obtain ⟨tk, htk⟩ : ∃ tk, lastE xs = tk := ⟨_, rfl⟩
    rw [htk] at h4 hgl
    have hrow : ∀ y ∈ xs.map rcE, W.ownsRow w.heap.size 5 1 y.rv y.r.length (u8l y.r) := fun y hy => by
      obtain ⟨x, hx, rfl⟩ := List.mem_map.1 hy
      exact hx2 x hx
    obtain ⟨M, hM⟩ : ∃ M, (bhR (xs.map rcE) g.bn).length = M := ⟨_, rfl⟩
    have HBH : Hid (∀ V, Below W.heap.size W V → Calls Try.prog 84 #[.slice la xs.length lc, .int .u64 (g.bn : Int)] V fun e w' => ∃ a' c', e = .returned (.slice a' M c') ∧ Hid (w'.ownsRow W.heap.size 81 2 (.slice a' M c') M (fl e2 (bhR (xs.map rcE) g.bn)) ∧ Below W.heap.size W w')) := fun V hV => by
      have ho : V.ownsRow W2.heap.size 81 2 (.slice la xs.length lc) (xs.map rcE).length (fl e2 (xs.map rcE)) := by
        rw [hlenx]
        exact own_at h2 fun q hq => hV.block q (h2.lt q hq).2
      refine (behind_any W2.heap.size _ g.bn V ho (fun y hy => by obtain ⟨a, c, e⟩ := own_slice (hrow y hy); exact ⟨a, _, c, e⟩) (by rw [hlenx]; have := H0.out; omega) (fun y hy => ?_)).mono ?_
      · obtain ⟨x, hx, rfl⟩ := List.mem_map.1 hy
        have : x.pl ∈ goodI zs := by rw [← hx1]; exact List.mem_map.2 ⟨x, hx, rfl⟩
        exact (good_all this).2.1
      · rintro e w' ⟨⟨v, rfl, ho2⟩, hb⟩
        obtain ⟨a', c', rfl⟩ := own_slice ho2
        rw [hM] at ho2 ⊢
        exact ⟨a', c', rfl, own_low ho2 hV.size, hV.trans (hb.mono hV.size)⟩
    have hLW : W.heap[L]? = some (.cells (logC D g bv (.slice la xs.length lc)) 95 (0, 0)) ∨ True := .inr trivial
    have hLW2 : W.heap[L]? = some (.cells (logC D g bv rv) 95 (0, 0)) := (h5.1.block L (Array.getElem?_eq_some_iff.1 hLw).1).trans hLw
    have HKS : Hid (∀ V, Below W.heap.size W V → V.heap[L]? = some (.cells (logC D g bv rv) 95 (0, 0)) ∧ Boxed V B4 93 (.slice la xs.length lc) ∧ Boxed V B5 3 (.int .i64 (tk : Int)) ∧ V.heap[Dm]? = some (.deferred (some []))) := fun V hV =>
      ⟨(hV.block L (Array.getElem?_eq_some_iff.1 hLW2).1).trans hLW2, (hV.block B4 (Array.getElem?_eq_some_iff.1 h1).1).trans h1, (hV.block B5 (Array.getElem?_eq_some_iff.1 h4).1).trans h4, (hV.block Dm (Array.getElem?_eq_some_iff.1 hK).1).trans hK⟩
    have HCS : Hid (∀ V, Below W.heap.size W V → V.cell? ⟨L, 0, none⟩ = some (.pointer (some ⟨D, 0, none⟩)) ∧ V.cell? ⟨L, 1, none⟩ = some (.string { data := #[97] }) ∧ V.cell? ⟨L, 2, none⟩ = some (.int .u64 (g.bn : Int)) ∧ V.cell? ⟨B4, 0, none⟩ = some (.slice la xs.length lc) ∧ V.frozen? ⟨L, 4, none⟩ = false ∧ V.cell? ⟨L, 4, none⟩ = some rv) := fun V hV => by
      obtain ⟨k1, k2, k3, -⟩ := HKS.out V hV
      exact ⟨by rw [cell_of_row _ _ _ _ _ _ k1]; rfl, by rw [cell_of_row _ _ _ _ _ _ k1]; rfl, by rw [cell_of_row _ _ _ _ _ _ k1]; rfl, k2.cell, frozen_of_row _ _ 4 _ _ k1, by rw [cell_of_row _ _ _ _ _ _ k1]; rfl⟩
    have nB4 : B4 ≠ L := ne_tag h1 hLW2 (by decide)
    have HJ2 : Hid (∀ V, Below W.heap.size W V → ∀ v, (V.setCell ⟨L, 4, none⟩ v).cell? ⟨L, 2, none⟩ = some (.int .u64 (g.bn : Int)) ∧ (V.setCell ⟨L, 4, none⟩ v).cell? ⟨B4, 0, none⟩ = some (.slice la xs.length lc)) := fun V hV v => by
      obtain ⟨k1, k2, k3, -⟩ := HKS.out V hV
      refine ⟨by rw [cell_of_row _ _ _ _ _ _ (row_set v k1)]; rfl, (World.cell?_of_block (Below.heap_setCell _ _ _ _ nB4)).trans k2.cell⟩
    have HE : Hid (xs.map El.pl = goodI zs ∧ (∀ y ∈ xs.map rcE, W.ownsRow w.heap.size 5 1 y.rv y.r.length (u8l y.r)) ∧ Below w.heap.size w W ∧ W2.heap.size ≤ Dm ∧ tk = endL zs ∧ tk ≤ N ∧ (bhR (xs.map rcE) g.bn).length = M ∧ (bhR (xs.map rcE) g.bn).map Rc.pl = rrL zs g.bn) := ⟨hx1, hrow, h5.1, hD, hgl.1, by rw [← H0.out.2.2.1]; exact hgl.2, hM, by rw [bh_map, rc_good hx1]; rfl⟩
    have hMx : (M : Int) ≤ 1048576 := by
      have : M ≤ xs.length := by
        rw [← hM, ← hlenx]
        unfold bhR
        split
        · exact Nat.zero_le _
        · split
          · exact Nat.zero_le _
          · rw [List.length_drop]; omega
      have := H0.out; omega
    have nL5 : ¬ B5 = L := ne_tag h4 hLW2 (by decide)
    have nL4 : ¬ B4 = L := ne_tag h1 hLW2 (by decide)
    have n54 : ¬ B5 = B4 := by have := HBN.out; omega
    obtain ⟨K0, K1, K2, K3, K4, K5⟩ := HCS.out W.drew (drewN_below W 1)
    clear hK h1 h2 h4 h5 h6 hx1 hx2 hD hLw hbv hPq hlenx hxN hgl htk hrow hM hLW hLW2
    generalize xs.length = X at *
    go_upto_region 8 with (fail)
    go_region_held3 (fun w' => w'.cell? ⟨L, 2, none⟩ = some (.int .u64 (g.bn : Int)) ∧ w'.cell? ⟨B4, 0, none⟩ = some (.slice la X lc)) (first | exact J1 | exact J2 | go_keep) ((go_at_call 84; refine (HBH.out W.drew (drewN_below W 1)).mono ?_; rintro e w1 ⟨a', c', rfl, HW1⟩; (have J1 := And.intro (HCS.out w1 HW1.out.2).2.2.1 (HCS.out w1 HW1.out.2).2.2.2.1); (have J2 := HJ2.out w1 HW1.out.2 (.slice a' M c')); (have J4 := (HCS.out w1 HW1.out.2).2.2.2.2.1); (have J5 := (HCS.out w1 HW1.out.2).2.2.2.2.2)))
    obtain ⟨kL, k4, k5, kD⟩ := HKS.out w1 HW1.out.2
    have r4 : (w1.setCell ⟨L, 4, none⟩ (.slice a' M c')).heap[L]? = some (.cells #[.pointer (some ⟨D, 0, none⟩), .string (tx [97]), .int .u64 (g.bn : Int), bv, .slice a' M c', .int .i64 (g.cut : Int)] 95 (0, 0)) := row_set _ kL
    obtain ⟨U1, hU1⟩ : ∃ U1, w1.setCell ⟨L, 4, none⟩ (.slice a' M c') = U1 := ⟨_, rfl⟩
    have s5 : Boxed U1 B5 3 (.int .i64 (tk : Int)) := by rw [← hU1]; exact (Below.heap_setCell _ _ _ _ (show B5 ≠ L from nL5)).trans k5
    rw [hU1] at r4 ⊢
    have u4 : U1.cell? ⟨L, 4, none⟩ = some (.slice a' M c') := by rw [cell_of_row _ _ _ _ _ _ r4]; rfl
    have u5 : U1.cell? ⟨L, 5, none⟩ = some (.int .i64 (g.cut : Int)) := by rw [cell_of_row _ _ _ _ _ _ r4]; rfl
    have f5 : U1.frozen? ⟨L, 5, none⟩ = false := frozen_of_row _ _ 5 _ _ r4
    have q5 := s5.cell
    have p5 := s5.frozen
    have htk : (tk : Int) ≤ (N : Int) := by have := HE.out.2.2.2.2.2.1; omega
    have hN1 : (N : Int) ≤ 1048576 := by have := H0.out.2.2.2.2.1; omega
    -- <CUT>
    have HUU : Hid ((∀ q, q < w.heap.size → q ≠ L → U1.heap[q]? = w.heap[q]?) ∧ U1.os = w.os ∧ U1.tape = w.tape ∧ U1.output = w.output ∧ w.heap.size ≤ U1.heap.size ∧ U1.ownsRow w.heap.size 81 2 (.slice a' M c') M (fl e2 (bhR (xs.map rcE) g.bn)) ∧ (∀ y ∈ bhR (xs.map rcE) g.bn, U1.ownsRow w.heap.size 5 1 y.rv y.r.length (u8l y.r)) ∧ U1.heap[Dm]? = some (.deferred (some [])) ∧ U1.heap[L]? = some (.cells #[.pointer (some ⟨D, 0, none⟩), .string (tx [97]), .int .u64 (g.bn : Int), bv, .slice a' M c', .int .i64 (g.cut : Int)] 95 (0, 0)) ∧ Boxed U1 B5 3 (.int .i64 (tk : Int))) := by
      have hb : Below w.heap.size w w1 := HE.out.2.2.1.trans (HW1.out.2.mono HE.out.2.2.1.size)
      have hs : ∀ q, q ≠ L → U1.heap[q]? = w1.heap[q]? := fun q hq => by rw [← hU1]; exact Below.heap_setCell _ _ _ _ hq
      have hz : U1.heap.size = w1.heap.size := by rw [← hU1]; simp
      have hLl : L < w.heap.size := (Array.getElem?_eq_some_iff.1 HLG.out.1).1
      refine ⟨fun q hq hn => (hs q hn).trans (hb.block q hq), by rw [← hU1]; exact hb.os, by rw [← hU1]; exact hb.tape, by rw [← hU1]; exact hb.output, by rw [hz]; exact hb.size, ?_, fun y hy => ?_, ?_, r4, s5⟩
      · refine own_low (own_at HW1.out.1 fun q hq => hs q fun e => ?_) HE.out.2.2.1.size
        have h1 := (HW1.out.1.lt q hq).1
        have h2 := HE.out.2.2.1.size
        omega
      · have ho := HE.out.2.1 y (bhR_mem hy)
        refine own_at ho fun q hq => (hs q fun e => ?_).trans (HW1.out.2.block q (ho.lt q hq).2)
        have h1 := (ho.lt q hq).1
        omega
      · refine (hs Dm fun e => ?_).trans kD
        subst e
        rw [kL] at kD
        cases kD
    clear hU1 kL k4 k5 kD J1 J2 J4 J5 K0 K1 K2 K3 K4 K5 r4 s5 HBH HKS HCS HJ2 HCL
    have HUF : Hid (∀ (U : World), U.heap[L]? = some (.cells (logC D (rrG g zs) bv (.slice a' M c')) 95 (0, 0)) → (∀ q, q ≠ L → q ≠ B5 → U.heap[q]? = U1.heap[q]?) → U.os = U1.os → U.tape = U1.tape → U.output = U1.output → U.heap.size = U1.heap.size →
        ∃ P', WS U D L k F P' sy dl (rrG g zs) ∧ Fr (fun q => F q ∨ P q) (fun q => F q ∨ P' q) w U ∧ ¬ P' Dm ∧ ¬ F Dm ∧ U.heap[Dm]? = some (.deferred (some [])) ∧ w.heap.size ≤ Dm ∧ Dm < U.heap.size) := fun U hL hk z1 z2 z3 z4 => by
      obtain ⟨y1, y2, y3, y4, y5, y6, y7, y8, y9, y10⟩ := HUU.out
      obtain ⟨l1, l2, l3⟩ := HLG.out
      have hLl : L < w.heap.size := (Array.getElem?_eq_some_iff.1 l1).1
      have hB5 := HBN.out
      have o1 : U.ownsRow w.heap.size 81 2 (.slice a' M c') (bhR (xs.map rcE) g.bn).length (fl e2 (bhR (xs.map rcE) g.bn)) := by
        rw [HE.out.2.2.2.2.2.2.1]
        refine own_at y6 fun q hq => hk q (fun e => ?_) (fun e => ?_)
        · have := (y6.lt q hq).1; omega
        · obtain ⟨cur, hc⟩ := own_tag y6 hq
          subst e
          exact ne_tag y10 hc (by decide) rfl
      have o2 : ∀ y ∈ bhR (xs.map rcE) g.bn, U.ownsRow w.heap.size 5 1 y.rv y.r.length (u8l y.r) := fun y hy => own_at (y7 y hy) fun q hq => hk q (fun e => by have := ((y7 y hy).lt q hq).1; omega) (fun e => by
        obtain ⟨cur, hc⟩ := own_tag (y7 y hy) hq
        subst e
        exact ne_tag y10 hc (by decide) rfl)
      have hD5 : Dm ≠ B5 := fun e => by
        subst e
        have h10 : U1.heap[Dm]? = _ := y10
        rw [h10] at y8
        cases y8
      have hDL : Dm ≠ L := by have := HE.out.2.2.2.1; omega
      have hUD : U.heap[Dm]? = some (.deferred (some [])) := (hk Dm hDL hD5).trans y8
      have hPL : P L := (l3 L).2 (.inl rfl)
      obtain ⟨P', h1, h2⟩ := rr_fin (bv := bv) (v' := .slice a' M c') (ys := bhR (xs.map rcE) g.bn) (g' := rrG g zs) (V := U) H0.out.1 (fun q hq => (l3 q).2 (.inr (.inl hq))) hPL l2 rfl (HE.out.2.2.2.2.2.2.2).symm hL (fun q hq hn => (hk q hn (by omega)).trans (y1 q hq hn)) (z1.trans y2) (z2.trans y3) (z3.trans y4) (by rw [z4]; exact y5) o1 o2
      refine ⟨P', h1, h2, fun hp => ?_, fun hf => ?_, hUD, by have := HE.out.2.2.2.1; omega, (Array.getElem?_eq_some_iff.1 hUD).1⟩
      · obtain ⟨bv', rv', xs', g1, g2, g3, -, g5, g6⟩ := h1.lg
        rcases (g6 Dm).1 hp with e | e | e | ⟨x, hx, e⟩
        · exact hDL e
        · obtain ⟨cur, hc⟩ := own_tag g2 e; rw [hUD] at hc; cases hc
        · obtain ⟨cur, hc⟩ := own_tag g3 e; rw [hUD] at hc; cases hc
        · obtain ⟨cur, hc⟩ := own_tag (g5 x hx) e; rw [hUD] at hc; cases hc
      · have := H0.out.1.dr.lt Dm hf
        have := HE.out.2.2.2.1
        omega
    have HCT : Hid (∀ (U : World) (T : Nat) (P' : Nat → Prop), WS U D L k F P' sy dl (rrG g zs) → Calls Try.prog 44 #[.pointer (some ⟨D, 0, none⟩), .string (tx nLog), .int .i64 (T : Int)] U fun e w' => (∃ y, e = .returned (.int .i64 y)) ∧ ∃ F', Hid (WS w' D L (k + 1) F' P' sy (cuD nLog (T : Int) dl) (rrG g zs) ∧ Fr (fun q => F q ∨ P' q) (fun q => F' q ∨ P' q) U w' ∧ Fr F F' U w')) := fun U T P' hU => by
      refine (p_cut hU.dr hU.inv (T : Int)).mono ?_
      rintro e w' ⟨rfl, F', h1, h2⟩
      obtain ⟨h3, h4⟩ := hU.disk h1 h2 (cu_inv hU.inv)
      exact ⟨⟨_, rfl⟩, F', h3, h4, h2⟩
    have HTK : Hid (takenL zs g.bn = if M = 0 then 0 else tk) := by
      show _ = _
      unfold takenL
      have e1 := HE.out.2.2.2.2.2.2.2
      have e2 := HE.out.2.2.2.2.2.2.1
      by_cases hM : M = 0
      · rw [if_pos hM, if_pos]
        rw [← e1, List.eq_nil_of_length_eq_zero (by omega : (bhR (xs.map rcE) g.bn).length = 0)]
        rfl
      · rw [if_neg hM, if_neg, HE.out.2.2.2.2.1]
        intro e
        rw [← e1] at e
        have := List.map_eq_nil_iff.1 e
        rw [this] at e2
        simp at e2
        omega
    rcases Nat.eq_zero_or_pos M with hM0 | hM0
    · have i1 : ((M : Int) == 0) = true := by rw [beq_iff_eq]; omega
      have i1' : (M : Int) = 0 := by omega
      have hT : Hid (takenL zs g.bn = 0) := by show _ = _; rw [HTK.out, if_pos hM0]
      by_cases hcut : 0 < N
      · have i2 : (0 : Int) < (N : Int) - 0 := by omega
        go_upto_region 13 with (fail)
        obtain ⟨U, hU⟩ : ∃ U, (U1.setCell ⟨B5, 0, none⟩ (.int .i64 0)).setCell ⟨L, 5, none⟩ (.int .i64 (N : Int)) = U := ⟨_, rfl⟩
        rw [hU]
        have rU : U.heap[L]? = some (.cells (logC D (rrG g zs) bv (.slice a' 0 c')) 95 (0, 0)) := by
          rw [← hU]
          have h0 : (U1.setCell ⟨B5, 0, none⟩ (.int .i64 0)).heap[L]? = _ := (Below.heap_setCell _ _ _ _ (show L ≠ B5 from fun e => nL5 e.symm)).trans HUU.out.2.2.2.2.2.2.2.2.1
          have := row_set (i := 5) (.int .i64 (N : Int)) h0
          refine this.trans ?_
          unfold logC rrG
          simp only [hT.out, H0.out.2.2.1, hM0]
          rfl
        have hU5 : Boxed U B5 3 (.int .i64 0) := by
          rw [← hU]
          exact (Below.heap_setCell _ _ _ _ (show B5 ≠ L from nL5)).trans (row_set (i := 0) (.int .i64 0) HUU.out.2.2.2.2.2.2.2.2.2)
        have hUU := HUF.out U (hM0 ▸ rU) (fun q h1 h2 => by rw [← hU]; rw [Below.heap_setCell _ _ _ _ h1, Below.heap_setCell _ _ _ _ h2]) (by rw [← hU]; rfl) (by rw [← hU]; rfl) (by rw [← hU]; rfl) (by rw [← hU]; simp)
        obtain ⟨P', w1', w2', w3', w4', w5', w6', w7'⟩ := hUU
        have HWS : Hid (WS U D L k F P' sy dl (rrG g zs) ∧ Fr (fun q => F q ∨ P q) (fun q => F q ∨ P' q) w U ∧ ¬ P' Dm ∧ ¬ F Dm ∧ U.heap[Dm]? = some (.deferred (some [])) ∧ w.heap.size ≤ Dm ∧ Dm < U.heap.size) := ⟨w1', w2', w3', w4', w5', w6', w7'⟩
        have d0 : U.drew.cell? ⟨L, 0, none⟩ = some (.pointer (some ⟨D, 0, none⟩)) := by show U.cell? _ = _; rw [cell_of_row _ _ _ _ _ _ rU]; rfl
        have d1 : U.drew.cell? ⟨L, 1, none⟩ = some (.string { data := #[97] }) := by show U.cell? _ = _; rw [cell_of_row _ _ _ _ _ _ rU]; rfl
        have d5 : U.drew.cell? ⟨B5, 0, none⟩ = some (.int .i64 0) := hU5.cell
        have HJ : Hid (∀ (w' : World) (F' : Nat → Prop), Fr F F' U.drew w' → w'.cell? ⟨L, 0, none⟩ = some (.pointer (some ⟨D, 0, none⟩)) ∧ w'.cell? ⟨L, 1, none⟩ = some (.string { data := #[97] }) ∧ w'.cell? ⟨B5, 0, none⟩ = some (.int .i64 0)) := fun w' F' hf => by
          have hPL : P L := (HLG.out.2.2 L).2 (.inl rfl)
          have hFL : ¬ F L := H0.out.1.ap L hPL
          have hF5 : ¬ F B5 := fun e => by have := H0.out.1.dr.lt B5 e; have := HBN.out; omega
          exact ⟨(World.cell?_of_block (hf.block L (World.block_lt_of_cell? _ _ d0) hFL)).trans d0, (World.cell?_of_block (hf.block L (World.block_lt_of_cell? _ _ d0) hFL)).trans d1, (World.cell?_of_block (hf.block B5 (World.block_lt_of_cell? _ _ d5) hF5)).trans d5⟩
        clear hU rU hU5 w1' w2' w3' w4' w5' w6' w7' u4 u5 f5 q5 p5
        go_region_held3 (fun w' => w'.cell? ⟨L, 0, none⟩ = some (.pointer (some ⟨D, 0, none⟩)) ∧ w'.cell? ⟨L, 1, none⟩ = some (.string { data := #[97] }) ∧ w'.cell? ⟨B5, 0, none⟩ = some (.int .i64 0)) (first | exact J1 | go_keep) ((go_at_call 44; refine (HCT.out U.drew 0 P' (HWS.out.1.newer (drewN_below U 1))).mono ?_; rintro e w9 ⟨⟨y, rfl⟩, F9, H9⟩; (have J1 := HJ.out w9 F9 H9.out.2.2)))
        clear J1
        go_wp2_with fail
        obtain ⟨v1, v2, v3, v4, v5, v6, v7⟩ := HWS.out
        obtain ⟨x1, x2, x3⟩ := H9.out
        have hDw : w9.heap[Dm]? = some (.deferred (some [])) := (x2.block Dm v7 fun e => e.elim v4 v3).trans v5
        have hF9 : ¬ F9 Dm := fun e => (x3.grow Dm e).elim v4 fun e => absurd (show U.heap.size ≤ Dm from e) (by omega)
        refine ⟨by simp, .inl ⟨_, _, rfl, run_takeDeferred hDw, ?_⟩⟩
        refine ⟨_, results_none rfl _ _ _, ⟨_, rfl⟩, F9, P', ?_, ?_⟩
        · have e : rrD g dl = cuD nLog (0 : Nat) dl := by
            unfold rrD
            rw [H0.out.2.1, hT.out, H0.out.2.2.1, if_pos (by omega)]
          rw [e]
          exact WS.put x1 hF9 v3
        · exact Fr.put (v2.trans' (Fr.newer (drewN_below U 1) |>.trans' x2)) v6
      · have i2 : ¬ (0 : Int) < (N : Int) - 0 := by omega
        go_wp2_with fail
        all_goals (try go_wp2_with fail)
        obtain ⟨U, hU⟩ : ∃ U, (U1.setCell ⟨B5, 0, none⟩ (.int .i64 0)).setCell ⟨L, 5, none⟩ (.int .i64 (N : Int)) = U := ⟨_, rfl⟩
        rw [hU]
        have rU : U.heap[L]? = some (.cells (logC D (rrG g zs) bv (.slice a' 0 c')) 95 (0, 0)) := by
          rw [← hU]
          have h0 : (U1.setCell ⟨B5, 0, none⟩ (.int .i64 0)).heap[L]? = _ := (Below.heap_setCell _ _ _ _ (show L ≠ B5 from fun e => nL5 e.symm)).trans HUU.out.2.2.2.2.2.2.2.2.1
          have := row_set (i := 5) (.int .i64 (N : Int)) h0
          refine this.trans ?_
          unfold logC rrG
          simp only [hT.out, H0.out.2.2.1, hM0]
          rfl
        have hUU := HUF.out U (hM0 ▸ rU) (fun q h1 h2 => by rw [← hU]; rw [Below.heap_setCell _ _ _ _ h1, Below.heap_setCell _ _ _ _ h2]) (by rw [← hU]; rfl) (by rw [← hU]; rfl) (by rw [← hU]; rfl) (by rw [← hU]; simp)
        obtain ⟨P', w1', w2', w3', w4', w5', w6', w7'⟩ := hUU
        refine ⟨by simp, .inl ⟨_, _, rfl, run_takeDeferred w5', ?_⟩⟩
        refine ⟨_, results_none rfl _ _ _, ⟨_, rfl⟩, F, P', ?_, ?_⟩
        · have e : rrD g dl = dl := by
            unfold rrD
            rw [H0.out.2.1, hT.out, H0.out.2.2.1, if_neg (by omega)]
          rw [e]
          exact WS.put w1'.more w4' w3'
        · exact Fr.put w2' w6'
    · have i1 : ((M : Int) == 0) = false := by rw [beq_eq_false_iff_ne]; omega
      have i1' : ¬ (M : Int) = 0 := by omega
      have hT : Hid (takenL zs g.bn = tk) := by show _ = _; rw [HTK.out, if_neg (by omega)]
      by_cases hcut : tk < N
      · have i2 : (0 : Int) < (N : Int) - (tk : Int) := by omega
        go_upto_region 13 with (fail)
        obtain ⟨U, hU⟩ : ∃ U, U1.setCell ⟨L, 5, none⟩ (.int .i64 ((N : Int) - (tk : Int))) = U := ⟨_, rfl⟩
        rw [hU]
        have rU : U.heap[L]? = some (.cells (logC D (rrG g zs) bv (.slice a' M c')) 95 (0, 0)) := by
          rw [← hU]
          have := row_set (i := 5) (.int .i64 ((N : Int) - (tk : Int))) HUU.out.2.2.2.2.2.2.2.2.1
          refine this.trans ?_
          unfold logC rrG
          simp only [hT.out, H0.out.2.2.1]
          rw [show ((N - tk : Nat) : Int) = (N : Int) - (tk : Int) by omega]
          rfl
        have hU5 : Boxed U B5 3 (.int .i64 (tk : Int)) := by
          rw [← hU]
          exact (Below.heap_setCell _ _ _ _ (show B5 ≠ L from nL5)).trans HUU.out.2.2.2.2.2.2.2.2.2
        have hUU := HUF.out U rU (fun q h1 h2 => by rw [← hU]; exact Below.heap_setCell _ _ _ _ h1) (by rw [← hU]; rfl) (by rw [← hU]; rfl) (by rw [← hU]; rfl) (by rw [← hU]; simp)
        obtain ⟨P', w1', w2', w3', w4', w5', w6', w7'⟩ := hUU
        have HWS : Hid (WS U D L k F P' sy dl (rrG g zs) ∧ Fr (fun q => F q ∨ P q) (fun q => F q ∨ P' q) w U ∧ ¬ P' Dm ∧ ¬ F Dm ∧ U.heap[Dm]? = some (.deferred (some [])) ∧ w.heap.size ≤ Dm ∧ Dm < U.heap.size) := ⟨w1', w2', w3', w4', w5', w6', w7'⟩
        have d0 : U.drew.cell? ⟨L, 0, none⟩ = some (.pointer (some ⟨D, 0, none⟩)) := by show U.cell? _ = _; rw [cell_of_row _ _ _ _ _ _ rU]; rfl
        have d1 : U.drew.cell? ⟨L, 1, none⟩ = some (.string { data := #[97] }) := by show U.cell? _ = _; rw [cell_of_row _ _ _ _ _ _ rU]; rfl
        have d5 : U.drew.cell? ⟨B5, 0, none⟩ = some (.int .i64 (tk : Int)) := hU5.cell
        have HJ : Hid (∀ (w' : World) (F' : Nat → Prop), Fr F F' U.drew w' → w'.cell? ⟨L, 0, none⟩ = some (.pointer (some ⟨D, 0, none⟩)) ∧ w'.cell? ⟨L, 1, none⟩ = some (.string { data := #[97] }) ∧ w'.cell? ⟨B5, 0, none⟩ = some (.int .i64 (tk : Int))) := fun w' F' hf => by
          have hPL : P L := (HLG.out.2.2 L).2 (.inl rfl)
          have hFL : ¬ F L := H0.out.1.ap L hPL
          have hF5 : ¬ F B5 := fun e => by have := H0.out.1.dr.lt B5 e; have := HBN.out; omega
          exact ⟨(World.cell?_of_block (hf.block L (World.block_lt_of_cell? _ _ d0) hFL)).trans d0, (World.cell?_of_block (hf.block L (World.block_lt_of_cell? _ _ d0) hFL)).trans d1, (World.cell?_of_block (hf.block B5 (World.block_lt_of_cell? _ _ d5) hF5)).trans d5⟩
        clear hU rU hU5 w1' w2' w3' w4' w5' w6' w7' u4 u5 f5 q5 p5
        go_region_held3 (fun w' => w'.cell? ⟨L, 0, none⟩ = some (.pointer (some ⟨D, 0, none⟩)) ∧ w'.cell? ⟨L, 1, none⟩ = some (.string { data := #[97] }) ∧ w'.cell? ⟨B5, 0, none⟩ = some (.int .i64 (tk : Int))) (first | exact J1 | go_keep) ((go_at_call 44; refine (HCT.out U.drew tk P' (HWS.out.1.newer (drewN_below U 1))).mono ?_; rintro e w9 ⟨⟨y, rfl⟩, F9, H9⟩; (have J1 := HJ.out w9 F9 H9.out.2.2)))
        clear J1
        go_wp2_with fail
        obtain ⟨v1, v2, v3, v4, v5, v6, v7⟩ := HWS.out
        obtain ⟨x1, x2, x3⟩ := H9.out
        have hDw : w9.heap[Dm]? = some (.deferred (some [])) := (x2.block Dm v7 fun e => e.elim v4 v3).trans v5
        have hF9 : ¬ F9 Dm := fun e => (x3.grow Dm e).elim v4 fun e => absurd (show U.heap.size ≤ Dm from e) (by omega)
        refine ⟨by simp, .inl ⟨_, _, rfl, run_takeDeferred hDw, ?_⟩⟩
        refine ⟨_, results_none rfl _ _ _, ⟨_, rfl⟩, F9, P', ?_, ?_⟩
        · have e : rrD g dl = cuD nLog (tk : Int) dl := by
            unfold rrD
            rw [H0.out.2.1, hT.out, H0.out.2.2.1, if_pos (by omega)]
          rw [e]
          exact WS.put x1 hF9 v3
        · exact Fr.put (v2.trans' (Fr.newer (drewN_below U 1) |>.trans' x2)) v6
      · have i2 : ¬ (0 : Int) < (N : Int) - (tk : Int) := by omega
        go_wp2_with fail
        all_goals (try go_wp2_with fail)
        obtain ⟨U, hU⟩ : ∃ U, U1.setCell ⟨L, 5, none⟩ (.int .i64 ((N : Int) - (tk : Int))) = U := ⟨_, rfl⟩
        rw [hU]
        have rU : U.heap[L]? = some (.cells (logC D (rrG g zs) bv (.slice a' M c')) 95 (0, 0)) := by
          rw [← hU]
          have := row_set (i := 5) (.int .i64 ((N : Int) - (tk : Int))) HUU.out.2.2.2.2.2.2.2.2.1
          refine this.trans ?_
          unfold logC rrG
          simp only [hT.out, H0.out.2.2.1]
          rw [show ((N - tk : Nat) : Int) = (N : Int) - (tk : Int) by omega]
          rfl
        have hUU := HUF.out U rU (fun q h1 h2 => by rw [← hU]; exact Below.heap_setCell _ _ _ _ h1) (by rw [← hU]; rfl) (by rw [← hU]; rfl) (by rw [← hU]; rfl) (by rw [← hU]; simp)
        obtain ⟨P', w1', w2', w3', w4', w5', w6', w7'⟩ := hUU
        refine ⟨by simp, .inl ⟨_, _, rfl, run_takeDeferred w5', ?_⟩⟩
        refine ⟨_, results_none rfl _ _ _, ⟨_, rfl⟩, F, P', ?_, ?_⟩
        · have e : rrD g dl = dl := by
            unfold rrD
            rw [H0.out.2.1, hT.out, H0.out.2.2.1, if_neg (by omega)]
          rw [e]
          exact WS.put w1'.more w4' w3'
        · exact Fr.put w2' w6'
end Go.Proofs.Ytflhgphjkhplmaa.D

/- The good frames of any bytes, plainly: they are frames one behind the other from the beginning on; what is read of a log's bytes, and of them once they are cut. -/
namespace Go.Proofs.Ytflhgphjkhplmaa.D
open W
set_option linter.unusedVariables false
set_option linter.unusedSimpArgs false

theorem gd_form (zs : List Int) : ∀ (k at' last : Nat), ∃ s l rest, gdI zs k at' last = gdL s at' l ∧ zs.drop at' = frs s l ++ rest ∧ (∀ b ∈ l, b.length ≤ 65536) ∧ (l ≠ [] → 1 ≤ s ∧ s + l.length ≤ 18446744073709551616 ∧ (0 < at' → s = (last + 1) % 18446744073709551616))
  | 0, at', last => ⟨1, [], zs.drop at', rfl, rfl, (fun b h => absurd h (by simp)), fun h => absurd rfl h⟩
  | k + 1, at', last => by
    have hnil : ∃ s l rest, ([] : List (Nat × List Int × Nat)) = gdL s at' l ∧ zs.drop at' = frs s l ++ rest ∧ (∀ b ∈ l, b.length ≤ 65536) ∧ (l ≠ [] → 1 ≤ s ∧ s + l.length ≤ 18446744073709551616 ∧ (0 < at' → s = (last + 1) % 18446744073709551616)) :=
      ⟨1, [], zs.drop at', rfl, rfl, (fun b h => absurd h (by simp)), fun h => absurd rfl h⟩
    unfold gdI
    cases hf : fatI zs at' with
    | none => exact hnil
    | some x =>
      obtain ⟨n, r, e⟩ := x
      obtain ⟨f1, f2, f3, f4, f5, f6, f7⟩ := fatI_some hf
      dsimp only
      split
      · exact hnil
      · rename_i hgo
        obtain ⟨s, l, rest, h1, h2, h3, h4⟩ := gd_form zs k e n
        have hd : zs.drop at' = frI n r ++ zs.drop e := by
          conv => lhs; rw [← List.take_append_drop (frI n r).length (zs.drop at')]
          rw [f5, List.drop_drop, f4]
        have hs : l ≠ [] → s = n + 1 := fun h => by
          obtain ⟨a1, a2, a3⟩ := h4 h
          have := a3 (by omega)
          omega
        refine ⟨n, r :: l, rest, ?_, ?_, ?_, ?_⟩
        · rw [h1]
          unfold gdL
          rw [← f4]
          congr 1
          cases l with
          | nil => rfl
          | cons c l => rw [hs (by simp)]; rfl
        · rw [hd, h2]
          show _ = (frI n r ++ frs (n + 1) l) ++ rest
          cases l with
          | nil => simp [frs]
          | cons c l => rw [hs (by simp), List.append_assoc]
        · intro b hb
          rcases List.mem_cons.1 hb with rfl | hb
          · exact f3
          · exact h3 b hb
        · intro _
          refine ⟨f1, ?_, fun h0 => ?_⟩
          · cases l with
            | nil => simp; omega
            | cons c l =>
              have := hs (by simp)
              have := (h4 (by simp)).2.1
              simp at this ⊢
              omega
          · by_cases hc : n = (last + 1) % 18446744073709551616
            · exact hc
            · exact absurd ⟨h0, hc⟩ hgo
theorem good_form (zs : List Int) : ∃ s l rest, goodI zs = gdL s 0 l ∧ zs = frs s l ++ rest ∧ (∀ b ∈ l, b.length ≤ 65536) ∧ 1 ≤ s ∧ s + l.length ≤ 18446744073709551616 := by
  obtain ⟨s, l, rest, h1, h2, h3, h4⟩ := gd_form zs (zs.length + 1) 0 0
  by_cases hl : l = []
  · subst hl
    exact ⟨1, [], zs, h1, rfl, (fun b h => absurd h (by simp)), by omega, by simp⟩
  · exact ⟨s, l, rest, h1, by rw [List.drop_zero] at h2; exact h2, h3, (h4 hl).1, (h4 hl).2.1⟩
def numL (n : Nat) : List (List Int) → List (Nat × List Int)
  | [] => []
  | b :: l => (n, b) :: numL (n + 1) l
theorem numL_len : ∀ (l : List (List Int)) (n : Nat), (numL n l).length = l.length
  | [], n => rfl
  | b :: l, n => by simp [numL, numL_len l]
theorem numL_snd : ∀ (l : List (List Int)) (n : Nat), (numL n l).map Prod.snd = l
  | [], n => rfl
  | b :: l, n => by simp [numL, numL_snd l]
theorem numL_drop : ∀ (l : List (List Int)) (n i : Nat), (numL n l).drop i = numL (n + i) (l.drop i)
  | [], n, i => by simp [numL]
  | b :: l, n, 0 => rfl
  | b :: l, n, i + 1 => by
    show (numL (n + 1) l).drop i = numL (n + (i + 1)) (l.drop i)
    rw [numL_drop l, show n + 1 + i = n + (i + 1) by omega]
theorem numL_app : ∀ (l l' : List (List Int)) (n : Nat), numL n (l ++ l') = numL n l ++ numL (n + l.length) l'
  | [], l', n => rfl
  | b :: l, l', n => by
    show (n, b) :: numL (n + 1) (l ++ l') = (n, b) :: (numL (n + 1) l ++ numL (n + (l.length + 1)) l')
    rw [numL_app l, show n + 1 + l.length = n + (l.length + 1) by omega]
theorem gd_num : ∀ (l : List (List Int)) (s p : Nat), (gdL s p l).map (fun q => (q.1, q.2.1)) = numL s l
  | [], s, p => rfl
  | b :: l, s, p => by simp [gdL, numL, gd_num l]
theorem gd_end : ∀ (l : List (List Int)) (s p : Nat), l ≠ [] → (gdL s p l).getLast?.map (fun q => q.2.2) = some (p + (frs s l).length)
  | [], s, p, h => absurd rfl h
  | [b], s, p, h => by simp [gdL, frs]
  | b :: c :: l, s, p, h => by
    have ih := gd_end (c :: l) (s + 1) (p + (frI s b).length) (by simp)
    have e : gdL s p (b :: c :: l) = (s, b, p + (frI s b).length) :: gdL (s + 1) (p + (frI s b).length) (c :: l) := rfl
    rw [e, List.getLast?_cons]
    have e2 : (gdL (s + 1) (p + (frI s b).length) (c :: l)).getLast? ≠ none := by simp [gdL]
    cases hx : (gdL (s + 1) (p + (frI s b).length) (c :: l)).getLast? with
    | none => exact absurd hx e2
    | some x =>
      rw [hx] at ih
      simp at ih
      simp [frs] at ih ⊢
      omega
theorem end_gd {zs : List Int} {s : Nat} {l : List (List Int)} (h : goodI zs = gdL s 0 l) : endL zs = (frs s l).length := by
  unfold endL
  rw [h]
  cases l with
  | nil => rfl
  | cons b l => rw [gd_end _ _ _ (by simp)]; simp
theorem tw_num : ∀ (l : List (List Int)) (s num : Nat), ((numL s l).takeWhile fun x => decide (x.1 ≤ num)).length = min (num + 1 - s) l.length
  | [], s, num => by simp [numL]
  | b :: l, s, num => by
    unfold numL
    rw [List.takeWhile_cons]
    by_cases c : s ≤ num
    · rw [if_pos (decide_eq_true c), List.length_cons, tw_num l, List.length_cons]
      omega
    · rw [if_neg (fun e => c (of_decide_eq_true e)), List.length_nil]
      omega
theorem numL_at : ∀ (l : List (List Int)) (s i : Nat), (numL s l)[i]? = l[i]?.map fun b => (s + i, b)
  | [], s, i => by simp [numL]
  | b :: l, s, 0 => by simp [numL]
  | b :: l, s, i + 1 => by
    have := numL_at l (s + 1) i
    simp only [numL, List.getElem?_cons_succ, this]
    cases l[i]? <;> simp; omega
theorem bh_num (l : List (List Int)) (s num : Nat) : bhL (numL s l) num = if num + 1 - s < l.length ∧ s ≤ num + 1 then numL (s + (num + 1 - s)) (l.drop (num + 1 - s)) else [] := by
  unfold bhL
  rw [tw_num, numL_at]
  by_cases h : num + 1 - s < l.length
  · rw [Nat.min_eq_left (by omega), List.getElem?_eq_getElem h]
    dsimp only [Option.map]
    by_cases h2 : s ≤ num + 1
    · rw [if_neg (by omega), if_pos ⟨h, h2⟩, numL_drop]
    · rw [if_pos (by omega), if_neg (fun e => h2 e.2)]
  · rw [Nat.min_eq_right (by omega), List.getElem?_eq_none (Nat.le_refl _), if_neg (fun e => h e.1)]
    rfl
theorem rr_gd {zs : List Int} {s : Nat} {l : List (List Int)} (h : goodI zs = gdL s 0 l) (num : Nat) : rrL zs num = if num + 1 - s < l.length ∧ s ≤ num + 1 then numL (s + (num + 1 - s)) (l.drop (num + 1 - s)) else [] := by
  unfold rrL
  rw [h, gd_num, bh_num]
theorem good_nil : goodI [] = [] := by rw [show ([] : List Int) = frs 1 [] from rfl, good_frs [] 1 ((fun b h => absurd h (by simp))) (by omega) (by simp)]; rfl
/-- What was read, and is cut behind it, is read again as it was. -/
theorem rr_again (zs : List Int) (num : Nat) : rrL (zs.take (takenL zs num)) num = rrL zs num ∧ takenL (zs.take (takenL zs num)) num = (zs.take (takenL zs num)).length := by
  obtain ⟨s, l, rest, h1, h2, h3, h4, h5⟩ := good_form zs
  by_cases hr : rrL zs num = []
  · have e : takenL zs num = 0 := if_pos hr
    have e2 : rrL [] num = [] := by unfold rrL; rw [good_nil]; rfl
    rw [e, List.take_zero, hr, e2]
    exact ⟨rfl, if_pos e2⟩
  · have e : takenL zs num = (frs s l).length := by unfold takenL; rw [if_neg hr, end_gd h1]
    have e3 : zs.take (takenL zs num) = frs s l := by rw [e, h2, List.take_left]
    have e4 := good_frs l s h3 h4 h5
    have e5 : rrL (frs s l) num = rrL zs num := by rw [rr_gd e4, rr_gd h1]
    rw [e3]
    refine ⟨e5, ?_⟩
    unfold takenL
    rw [e5, if_neg hr, end_gd e4]
theorem taken_le (zs : List Int) (num : Nat) : takenL zs num ≤ zs.length := by
  obtain ⟨s, l, rest, h1, h2, h3, h4, h5⟩ := good_form zs
  unfold takenL
  split
  · omega
  · rw [end_gd h1, h2]; simp
theorem frs_head {s s' : Nat} {b b' : List Int} {z z' : List Int} (h1 : 1 ≤ s) (h2 : s < 18446744073709551616) (h3 : b.length ≤ 65536) (h1' : 1 ≤ s') (h2' : s' < 18446744073709551616) (h3' : b'.length ≤ 65536) (h : frI s b ++ z = frI s' b' ++ z') : s = s' ∧ b = b' ∧ z = z' := by
  have e1 := fatI_frame [] z b s h1 h2 h3
  have e2 := fatI_frame [] z' b' s' h1' h2' h3'
  rw [List.nil_append] at e1 e2
  rw [h, e2] at e1
  simp at e1
  obtain ⟨rfl, rfl, -⟩ := e1
  exact ⟨rfl, rfl, List.append_cancel_left h⟩
/-- Frames that stand at the beginning are among the good ones. -/
theorem good_pre : ∀ (l0 : List (List Int)) (n at' : Nat) (zs pre z : List Int) (k last : Nat), (∀ b ∈ l0, b.length ≤ 65536) → 1 ≤ n → n + l0.length ≤ 18446744073709551616 → zs = pre ++ (frs n l0 ++ z) → pre.length = at' → (0 < at' → n = (last + 1) % 18446744073709551616) → l0.length ≤ k → ∃ t, gdI zs k at' last = gdL n at' l0 ++ t
  | [], n, at', zs, pre, z, k, last, hb, h1, h2, hz, hp, hl, hk => ⟨gdI zs k at' last, rfl⟩
  | b :: l0, n, at', zs, pre, z, k, last, hb, h1, h2, hz, hp, hl, hk => by
    obtain ⟨k, rfl⟩ : ∃ j, k = j + 1 := ⟨k - 1, by simp at hk; omega⟩
    have hz2 : zs = pre ++ (frI n b ++ (frs (n + 1) l0 ++ z)) := by rw [hz]; simp [frs, List.append_assoc]
    have hf : fatI zs at' = some (n, b, at' + (frI n b).length) := by
      rw [hz2, ← hp]
      exact fatI_frame pre _ b n h1 (by simp at h2; omega) (hb b (by simp))
    unfold gdI
    rw [hf]
    dsimp only
    rw [if_neg (fun h => h.2 (hl h.1))]
    by_cases hl0 : l0 = []
    · subst hl0
      exact ⟨_, rfl⟩
    have hpos : 0 < l0.length := List.length_pos_iff.2 hl0
    obtain ⟨t, ht⟩ := good_pre l0 (n + 1) (at' + (frI n b).length) zs (pre ++ frI n b) z k n (fun c hc => hb c (by simp [hc])) (by omega) (by simp at h2; omega) (by rw [hz2]; simp [List.append_assoc]) (by rw [List.length_append, hp]) (fun _ => by simp at h2; omega) (by simp at hk; omega)
    exact ⟨t, by rw [ht]; rfl⟩
theorem rr_pre {zs z : List Int} {num : Nat} {l0 : List (List Int)} (hz : zs = frs (num + 1) l0 ++ z) (hb : ∀ b ∈ l0, b.length ≤ 65536) (hn : num + 1 + l0.length ≤ 18446744073709551616) (h0 : l0 ≠ []) : ∃ l', rrL zs num = numL (num + 1) (l0 ++ l') := by
  have hlen := frs_len l0 (num + 1) hb hn
  obtain ⟨t, ht⟩ := good_pre l0 (num + 1) 0 zs [] z (zs.length + 1) 0 hb (by omega) hn (by simpa using hz) rfl (fun h => absurd h (by omega)) (by rw [hz, List.length_append]; omega)
  obtain ⟨s, l, rest, h1, h2, h3, h4, h5⟩ := good_form zs
  have e : numL s l = numL (num + 1) l0 ++ t.map (fun q => (q.1, q.2.1)) := by
    rw [← gd_num l s 0, ← h1, ← gd_num l0 (num + 1) 0, ← List.map_append]
    exact congrArg (List.map _) ht
  obtain ⟨c, l1, rfl⟩ := List.exists_cons_of_ne_nil h0
  cases l with
  | nil => simp [numL] at e
  | cons c' l2 =>
    have es : s = num + 1 := by
      have := congrArg List.head? e
      simp [numL] at this
      exact this.1
    subst es
    have el : c' :: l2 = (c :: l1) ++ (t.map (fun q => (q.1, q.2.1))).map Prod.snd := by
      have := congrArg (List.map Prod.snd) e
      rw [List.map_append, numL_snd, numL_snd] at this
      exact this
    refine ⟨(t.map (fun q => (q.1, q.2.1))).map Prod.snd, ?_⟩
    rw [rr_gd h1, ← el, if_pos ⟨by simp, by omega⟩, show num + 1 - (num + 1) = 0 by omega]
    rfl
end Go.Proofs.Ytflhgphjkhplmaa.D
