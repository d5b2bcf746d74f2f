import Derived.Test.YtflhgphjkhplmaaML16
import Derived.Defers
import Derived.Deep.RegionLaw
import Derived.Deep.AppendLies
/- The checkpoint is read. -/
namespace Go.Proofs.Ytflhgphjkhplmaa.D
open Go Go.RowKit W R Go.Shelf
set_option linter.unusedVariables false
set_option linter.unusedSimpArgs false
attribute [local go_sem] Oper.semAt_some

variable {w w' : World} {L D k : Nat} {sy : Int} {F F' P P' : Nat → Prop} {dl : List Fd} {g : Lg} {s : List UInt8}
def rbO (dl : List Fd) : Option (Nat × List Int) := match fatI (rdBs nCkp dl) 0 with
  | some (n, r, e) => if e = (rdBs nCkp dl).length then some (n, r) else none
  | none => none
def rbG (g : Lg) (dl : List Fd) : Lg := if rdEs nCkp dl = 0 then (match rbO dl with | some q => ⟨q.1, q.2, g.rs, g.cut⟩ | none => g) else g
def rbE (dl : List Fd) : Int := if rdEs nCkp dl = 0 then (match rbO dl with | some q => 0 | none => 70) else 0
/-- What is left when the log's base was written. -/
theorem rb_fin {V : World} {bv bv' v : Value} {xs : List Rc} {g' : Lg} (h : WS w D L k F P sy dl g) (hP : ∀ q, v.ownBlock = some q → P q) (hPx : ∀ x ∈ xs, ∀ q, x.rv.ownBlock = some q → P q) (hPL : P L) (hv : w.ownsRow 0 81 2 v xs.length (fl e2 xs)) (hx : ∀ x ∈ xs, w.ownsRow 0 5 1 x.rv x.r.length (u8l x.r)) (hrs : xs.map Rc.pl = g'.rs)
    (hL : V.heap[L]? = some (.cells (logC D g' bv' v) 95 (0, 0))) (hk : ∀ q, q < w.heap.size → q ≠ L → V.heap[q]? = w.heap[q]?) (hos : V.os = w.os) (htape : V.tape = w.tape) (hout : V.output = w.output) (hsz : w.heap.size ≤ V.heap.size)
    (hb : V.ownsRow w.heap.size 5 1 bv' g'.b.length (u8l g'.b)) : ∃ P', WS V D L k F P' sy dl g' ∧ Fr (fun q => F q ∨ P q) (fun q => F q ∨ P' q) w V := by
  obtain ⟨bw, rw', xw, g1, -⟩ := h.lg
  have hvL : ∀ q, v.ownBlock = some q → q ≠ L := fun q hq e => by
    obtain ⟨cur, hc⟩ := own_tag hv hq
    exact ne_tag g1 hc (by decide) e.symm
  have hxL : ∀ x ∈ xs, ∀ q, x.rv.ownBlock = some q → q ≠ L := fun x hx' q hq e => by
    obtain ⟨cur, hc⟩ := own_tag (hx x hx') hq
    exact ne_tag g1 hc (by decide) e.symm
  have hFL : ∀ q, F q → q ≠ L := fun q hq e => h.ap L hPL (e ▸ hq)
  have hn1 : ∀ q, bv'.ownBlock = some q → w.heap.size ≤ q := fun q hq => (hb.lt q hq).1
  refine ⟨fun q => q = L ∨ bv'.ownBlock = some q ∨ v.ownBlock = some q ∨ ∃ y ∈ xs, y.rv.ownBlock = some q, ⟨h.dr.at' fun q hq => hk q (h.dr.lt q hq) (hFL q hq), h.inv, ⟨bv', v, xs, hL, own_low hb (Nat.zero_le _), own_at hv fun q hq => hk q (hv.lt q hq).2 (hvL q hq), hrs, fun y hy' => own_at (hx y hy') fun q hq => hk q ((hx y hy').lt q hq).2 (hxL y hy' q hq), fun q => Iff.rfl⟩, fun q hq hF => ?_⟩, ⟨hos, htape, hout, hsz, fun q hq hn => hk q hq fun e => hn (.inr (e ▸ hPL)), fun q hq => ?_⟩⟩
  · have hlt := h.dr.lt q hF
    rcases hq with rfl | e | e | ⟨y, hy', e⟩
    · exact h.ap q hPL hF
    · have := hn1 q e; omega
    · exact h.ap q (hP q e) hF
    · exact h.ap q (hPx y hy' q e) hF
  · rcases hq with hq | rfl | e | e | ⟨y, hy', e⟩
    · exact .inl (.inl hq)
    · exact .inl (.inr hPL)
    · exact .inr (hn1 q e)
    · exact .inl (.inr (hP q e))
    · exact .inl (.inr (hPx y hy' q e))
set_option maxRecDepth 100000 in
set_option maxHeartbeats 4000000 in
theorem readBase_any (h : WS w D L k F P sy dl g) : Calls Try.prog 58 #[.pointer (some ⟨L, 0, none⟩)] w fun e w' => e = .returned (.int .i64 (rbE dl)) ∧ ∃ P', WS w' D L k F P' sy dl (rbG g dl) ∧ Fr (fun q => F q ∨ P q) (fun q => F q ∨ P' q) w w' := by
  obtain ⟨bv, rv, xs, g1, g2, g3, g4, g5, g6⟩ := h.lg
  have c0 : ∀ n, (w.drewN n).cell? ⟨L, 0, none⟩ = some (.pointer (some ⟨D, 0, none⟩)) := fun n => by show w.cell? _ = _; rw [cell_of_row _ _ _ _ _ _ g1]; rfl
  have d0 : w.drew.cell? ⟨L, 0, none⟩ = some (.pointer (some ⟨D, 0, none⟩)) := by show w.cell? _ = _; rw [cell_of_row _ _ _ _ _ _ g1]; rfl
  have d1 : w.drew.cell? ⟨L, 1, none⟩ = some (.string { data := #[97] }) := by show w.cell? _ = _; rw [cell_of_row _ _ _ _ _ _ g1]; rfl
  have hcat : ∀ W, (binOp .add 9 (.string { data := #[97] }) (.string { data := #[46, 99, 107, 112] })).run Try.prog W = .ok (.string (tx nCkp)) W := fun W => by kernel_rfl
  have HRD : Hid (∀ V, Below w.heap.size w V → Calls Try.prog 83 #[.pointer (some ⟨D, 0, none⟩), .string (tx nCkp)] V fun e w' => ∃ a c, e = .returned (.tuple #[.slice a (rdBs nCkp dl).length c, .int .i64 (rdEs nCkp dl)]) ∧ Hid (w'.ownsRow w.heap.size 5 1 (.slice a (rdBs nCkp dl).length c) (rdBs nCkp dl).length (u8l (rdBs nCkp dl)) ∧ Below w.heap.size w w')) := fun V hV => by
    refine (rd_any (h.newer hV).dr h.inv nCkp).mono ?_
    rintro e w' ⟨a, c, rfl, h1, h2⟩
    exact ⟨a, c, rfl, own_low h1 hV.size, hV.trans (h2.mono hV.size)⟩
  have HCL : Hid (∀ V, Below w.heap.size w V → V.cell? ⟨L, 0, none⟩ = some (.pointer (some ⟨D, 0, none⟩)) ∧ V.cell? ⟨L, 1, none⟩ = some (.string { data := #[97] })) := fun V hV => ⟨(hV.cell (World.block_lt_of_cell? w _ d0)).trans d0, (hV.cell (World.block_lt_of_cell? w _ d1)).trans d1⟩
  obtain ⟨hzb, hzl⟩ := h.inv.rdb nCkp
  have HE : Hid (rdEs nCkp dl = 0 ∨ rdEs nCkp dl = 5) := by
    show _ ∨ _
    unfold rdEs
    split
    · exact .inr rfl
    · exact .inl rfl
  obtain ⟨zs, hzs⟩ : ∃ zs, rdBs nCkp dl = zs := ⟨_, rfl⟩
  obtain ⟨N, hN⟩ : ∃ N, zs.length = N := ⟨_, rfl⟩
  obtain ⟨re, hre⟩ : ∃ re, rdEs nCkp dl = re := ⟨_, rfl⟩
  rw [hzs, hN, hre] at HRD
  rw [hzs] at hzb hzl
  rw [hre] at HE
  have H0 : Hid (WS w D L k F P sy dl g ∧ rdBs nCkp dl = zs ∧ zs.length = N ∧ Byt zs ∧ N ≤ 1048576 ∧ rdEs nCkp dl = re) := ⟨h, hzs, hN, hzb, by omega, hre⟩
  have HLG : Hid (w.heap[L]? = some (.cells (logC D g bv rv) 95 (0, 0)) ∧ w.ownsRow 0 5 1 bv g.b.length (u8l g.b) ∧ w.ownsRow 0 81 2 rv xs.length (fl e2 xs) ∧ xs.map Rc.pl = g.rs ∧ (∀ x ∈ xs, w.ownsRow 0 5 1 x.rv x.r.length (u8l x.r)) ∧ ∀ q, P q ↔ q = L ∨ bv.ownBlock = some q ∨ rv.ownBlock = some q ∨ ∃ x ∈ xs, x.rv.ownBlock = some q) := ⟨g1, g2, g3, g4, g5, g6⟩
  clear h g1 g2 g3 g4 g5 g6 hzb hzl hzs hN hre c0
  go_enter Try.func58, Try.ntmps58
  go_upto_region 1 with (fail)
  go_cut [3, 4] from 8 to 20 (fun x y wx => ∃ a c, x = .slice a N c ∧ y = .int .i64 re ∧ Hid (wx.ownsRow w.heap.size 5 1 (.slice a N c) N (u8l zs) ∧ Below w.heap.size w wx))
  case first =>
    go_region_held3 (fun w' => w'.cell? ⟨L, 0, none⟩ = some (.pointer (some ⟨D, 0, none⟩)) ∧ w'.cell? ⟨L, 1, none⟩ = some (.string { data := #[97] })) (first | exact K1 | go_keep) ((go_at_call 83; refine (HRD.out w.drew (drewN_below w 1)).mono ?_; rintro e w1 ⟨a, c, rfl, H1⟩; (have K1 := HCL.out w1 H1.out.2)))
    all_goals
      go_wp2_with fail
      go_meet
      exact ⟨a, c, rfl, rfl, H1⟩
  case rest =>
  obtain ⟨a, c, rfl, rfl, H1⟩ := hcut
  clear d0 d1 hcat HRD HCL
  rcases HE.out with rfl | rfl
  · obtain ⟨o, ho⟩ : ∃ o, fatI zs 0 = o := ⟨_, rfl⟩
    have HF : Hid (∀ V, Below wc.heap.size wc V → Calls Try.prog 67 #[.slice a N c, .int .i64 0] V fun e w' => ∃ rv, e = .returned (fatV o rv) ∧ Hid ((∀ n r e, o = some (n, r, e) → w'.ownsRow w.heap.size 5 1 rv r.length (u8l r)) ∧ Below w.heap.size w w')) := by
      show ∀ V, _
      intro V hV
      have hs := H1.out.2.size
      have hz : Bz V (.slice a N c) zs := (own_bz (by rw [H0.out.2.2.1]; exact H1.out.1) H0.out.2.2.2.1 (by have := H0.out; omega) : Bz wc (.slice a N c) zs).newer hV
      have hc := frameAt_any hz 0 (Nat.zero_le _)
      rw [ho] at hc
      have e0 : ((0 : Nat) : Int) = 0 := rfl
      rw [e0] at hc
      refine hc.mono ?_
      rintro e w' ⟨rv, rfl, h1, h2⟩
      exact ⟨rv, rfl, fun n r e he => own_low (h1 n r e he) (Nat.le_trans hs hV.size), H1.out.2.trans ((hV.mono hs).trans (h2.mono (Nat.le_trans hs hV.size)))⟩
    have HO : Hid (fatI zs 0 = o) := ho
    clear ho
    have HL : Hid (∀ V, Below w.heap.size w V → V.heap[L]? = some (.cells (logC D g bv rv) 95 (0, 0))) := fun V hV => (hV.block L (Array.getElem?_eq_some_iff.1 HLG.out.1).1).trans HLG.out.1
    have HQ : Hid (rdEs nCkp dl = 0) := H0.out.2.2.2.2.2
    have HNO : Hid (rbO dl = none → ∀ V, Below w.heap.size w V → (70 : Int) = rbE dl ∧ ∃ P', WS V D L k F P' sy dl (rbG g dl) ∧ Fr (fun q => F q ∨ P q) (fun q => F q ∨ P' q) w V) := fun h V hV => by
      have e : rbG g dl = g := by unfold rbG; rw [h, HQ.out, if_pos rfl]
      have e1 : rbE dl = 70 := by unfold rbE; rw [h, HQ.out, if_pos rfl]
      rw [e, e1]
      exact ⟨rfl, P, H0.out.1.newer hV, Fr.newer hV⟩
    rcases o with _ | ⟨n, r, e⟩
    · go_wp2_with (go_at_call 67; refine (HF.out _ (by first | exact Below.refl _ _ | exact drewN_below wc 1)).mono ?_; rintro e w1 ⟨x1, rfl, H2⟩; dsimp only [fatV])
      go_ret
      obtain ⟨h1, h2⟩ := HNO.out (by unfold rbO; rw [H0.out.2.1, HO.out]) _ (H2.out.2.alloc H2.out.2.size _)
      exact ⟨by rw [← h1]; rfl, h2⟩
    · by_cases he : e = N
      · subst he
        go_upto_region 7 with (go_at_call 67; refine (HF.out _ (by first | exact Below.refl _ _ | exact drewN_below wc 1)).mono ?_; rintro e w1 ⟨x1, rfl, H2⟩; (obtain ⟨ra, rc, rfl⟩ := own_slice (H2.out.1 n r _ rfl)); dsimp only [fatV])
        obtain ⟨W7, hW7⟩ : ∃ W7, w1.alloc (.cells #[.int .u64 (n : Int), .slice ra r.length rc] 81) = W7 := ⟨_, rfl⟩
        have HB7 : Hid (Below w1.heap.size w1 W7 ∧ Below w.heap.size w W7) := by
          rw [← hW7]
          exact ⟨bel1 _ _, H2.out.2.alloc H2.out.2.size _⟩
        have hr := HL.out W7 HB7.out.2
        have h7 : W7.heap[w1.heap.size]? = some (.cells #[.int .u64 (n : Int), .slice ra r.length rc] 81 (0, 0)) := by rw [← hW7]; exact Go.heap_alloc_new _ _
        rw [hW7]
        clear hW7
        have c2 : W7.cell? ⟨L, 2, none⟩ = some (.int .u64 (g.bn : Int)) := by rw [cell_of_row _ _ _ _ _ _ hr]; rfl
        have c3 : W7.cell? ⟨L, 3, none⟩ = some bv := by rw [cell_of_row _ _ _ _ _ _ hr]; rfl
        have d2 : W7.cell? ⟨w1.heap.size, 0, none⟩ = some (.int .u64 (n : Int)) := by rw [cell_of_row _ _ _ _ _ _ h7]; rfl
        have d3 : W7.cell? ⟨w1.heap.size, 1, none⟩ = some (.slice ra r.length rc) := by rw [cell_of_row _ _ _ _ _ _ h7]; rfl
        have f2 := frozen_of_row _ _ 2 _ _ hr
        have f3 := frozen_of_row _ _ 3 _ _ hr
        clear hr h7
        go_wp2_with fail
        go_ret
        have hro : rbO dl = some (n, r) := by unfold rbO; rw [H0.out.2.1, HO.out, H0.out.2.2.1]; exact if_pos rfl
        have e1 : rbE dl = 0 := by unfold rbE; rw [hro, HQ.out, if_pos rfl]
        have e2' : rbG g dl = ⟨n, r, g.rs, g.cut⟩ := by unfold rbG; rw [hro, HQ.out, if_pos rfl]
        refine ⟨by rw [e1]; rfl, ?_⟩
        rw [e2']
        obtain ⟨l1, l2, l3, l4, l5, l6⟩ := HLG.out
        obtain ⟨b1, b2⟩ := HB7.out
        have hLl : L < w.heap.size := (Array.getElem?_eq_some_iff.1 l1).1
        have ho := H2.out.1 n r _ rfl
        have hs : ∀ q, q ≠ L → ((W7.setCell ⟨L, 2, none⟩ (.int .u64 (n : Int))).setCell ⟨L, 3, none⟩ (.slice ra r.length rc)).heap[q]? = W7.heap[q]? := fun q hq => by rw [Below.heap_setCell _ _ _ _ hq, Below.heap_setCell _ _ _ _ hq]
        refine rb_fin (bv := bv) (bv' := .slice ra r.length rc) (g' := ⟨n, r, g.rs, g.cut⟩) H0.out.1 (fun q hq => (l6 q).2 (.inr (.inr (.inl hq)))) (fun x hx q hq => (l6 q).2 (.inr (.inr (.inr ⟨x, hx, hq⟩)))) ((l6 L).2 (.inl rfl)) l3 l5 l4 ?_ (fun q hq hn => (hs q hn).trans (b2.block q hq)) b2.os b2.tape b2.output (by simpa using b2.size) ?_
        · exact row_set (i := 3) (.slice ra r.length rc) (row_set (i := 2) (.int .u64 (n : Int)) (HL.out W7 b2))
        · exact own_at ho fun q hq => (hs q fun e => by have := (ho.lt q hq).1; omega).trans (b1.block q (ho.lt q hq).2)
      · have he' : ¬ (e : Int) = (N : Int) := by omega
        go_wp2_with (go_at_call 67; refine (HF.out _ (by first | exact Below.refl _ _ | exact drewN_below wc 1)).mono ?_; rintro e w1 ⟨x1, rfl, H2⟩; (obtain ⟨ra, rc, rfl⟩ := own_slice (H2.out.1 n r _ rfl)); dsimp only [fatV])
        go_ret
        obtain ⟨h1, h2⟩ := HNO.out (by unfold rbO; rw [H0.out.2.1, HO.out, H0.out.2.2.1]; exact if_neg he) _ (H2.out.2.alloc H2.out.2.size _)
        exact ⟨by rw [← h1]; rfl, h2⟩
  · go_wp2_with fail
    go_ret
    have e : rbG g dl = g := by unfold rbG; rw [H0.out.2.2.2.2.2]; rfl
    have e1 : rbE dl = 0 := by unfold rbE; rw [H0.out.2.2.2.2.2]; rfl
    rw [e, e1]
    exact ⟨rfl, P, H0.out.1.newer H1.out.2, Fr.newer H1.out.2⟩
end Go.Proofs.Ytflhgphjkhplmaa.D

/- Open. -/
namespace Go.Proofs.Ytflhgphjkhplmaa.D
open Go Go.RowKit W R Go.Shelf
set_option linter.unusedVariables false
set_option linter.unusedSimpArgs false
attribute [local go_sem] Oper.semAt_some

variable {w w' : World} {L D k : Nat} {sy : Int} {F F' P P' : Nat → Prop} {dl : List Fd} {g : Lg} {s : List UInt8}
theorem results_cells2 {P : Program} {fn : Func} {p q : Tmp} {ty tz : TypeId} (h : fn.results = #[.cell p ty, .cell q tz]) (tmps : Array Value) (w : World) (g m : Nat) (v u : Value)
    (hp : tmps.getD p undef = .pointer (some ⟨g, 0, none⟩)) (hq : tmps.getD q undef = .pointer (some ⟨m, 0, none⟩)) (hl : (loadVar ty ⟨g, 0, none⟩).run P w = .ok v w) (hm : (loadVar tz ⟨m, 0, none⟩).run P w = .ok u w) :
    (results fn tmps).run P w = .ok (.tuple #[v, u]) w := by
  have hp' : tmps[p]?.getD undef = .pointer (some ⟨g, 0, none⟩) := by simpa using hp
  have hq' : tmps[q]?.getD undef = .pointer (some ⟨m, 0, none⟩) := by simpa using hq
  simp [results, h, hp', hq', asAddr, hl, hm]
theorem load44 {w : World} {a : Addr} {v : Value} (h : w.cell? a = some v) : (loadVar 44 a).run Try.prog w = .ok v w := by
  simp [loadVar, go_sem, Try.underlying44, h]
theorem load25 {w : World} {a : Addr} {v : Value} (h : w.cell? a = some v) : (loadVar 25 a).run Try.prog w = .ok v w := by
  simp [loadVar, go_sem, Try.underlying25, h]
set_option maxRecDepth 100000 in
set_option maxHeartbeats 4000000 in
theorem open_nil (w : World) (s : ByteArray) : Calls Try.prog 25 #[.pointer none, .string s] w fun e w' => e = .returned (.tuple #[.pointer none, .int .i64 2]) ∧ Below w.heap.size w w' := by
  have HB : Hid (Below w.heap.size w ((w.alloc (.cells #[.pointer none] 44)).alloc (.cells #[.int .i64 2] 25))) := (bel1 _ _).alloc (by simp) _
  go_enter Try.func25, Try.ntmps25
  go_wp2_with fail
  refine bodyPost_ret (v := .tuple #[.pointer none, .int .i64 2]) (results_cells2 Try.results25 _ _ w.heap.size (w.heap.size + 1) _ _ rfl rfl ?_ ?_) rfl ⟨rfl, HB.out⟩
  · exact load44 (Boxed.cell ((Boxed.new _ _ _).alloc _))
  · have h := Boxed.new (w.alloc (.cells #[.pointer none] 44)) 25 (.int .i64 2)
    rw [World.size_alloc] at h
    exact load25 h.cell
def g0 : Lg := ⟨0, [], [], 0⟩
def opG (dl : List Fd) : Lg := rrG (rbG g0 dl) (rdBs nLog dl)
def opD (dl : List Fd) : List Fd := rmD nNew (rrD (rbG g0 dl) dl)
theorem Fr.off {G G' : Nat → Prop} {b : Nat} (h : Fr G G' w w') (hb : b < w.heap.size) (hn : ¬ G b) : w'.heap[b]? = w.heap[b]? ∧ ¬ G' b :=
  ⟨h.block b hb hn, fun e => (h.grow b e).elim hn fun e => absurd (show w.heap.size ≤ b from e) (by omega)⟩
/-- Open under way: the log beside its disk, and the two results' blocks. -/
structure SO (w : World) (D L B4 B5 k : Nat) (F0 F P : Nat → Prop) (sy : Int) (dl : List Fd) (g : Lg) (v : Value) (e : Int) (W : World) : Prop where
  ws : WS W D L k F P sy dl g
  fr : Fr F0 (fun q => F q ∨ P q) w W
  b4 : Boxed W B4 44 v
  b5 : Boxed W B5 25 (.int .i64 e)
  f4 : ¬ (F B4 ∨ P B4)
  f5 : ¬ (F B5 ∨ P B5)
  h4 : w.heap.size ≤ B4
  h5 : w.heap.size ≤ B5
  ne : B4 ≠ B5
variable {W W' : World} {B4 B5 k' : Nat} {F0 : Nat → Prop} {e e' : Int} {g' : Lg} {dl' : List Fd} {sy' : Int} {v : Value}
theorem SO.step (h : SO w D L B4 B5 k F0 F P sy dl g v e W) (hw : WS W' D L k' F' P' sy' dl' g') (hf : Fr (fun q => F q ∨ P q) (fun q => F' q ∨ P' q) W W') : SO w D L B4 B5 k' F0 F' P' sy' dl' g' v e W' := by
  have h4 := hf.off (Array.getElem?_eq_some_iff.1 h.b4).1 h.f4
  have h5 := hf.off (Array.getElem?_eq_some_iff.1 h.b5).1 h.f5
  exact ⟨hw, h.fr.trans' hf, h4.1.trans h.b4, h5.1.trans h.b5, h4.2, h5.2, h.h4, h.h5, h.ne⟩
theorem SO.more (h : SO w D L B4 B5 k F0 F P sy dl g v e W) (n : Nat) : SO w D L B4 B5 k F0 F P sy dl g v e (W.drewN n) := h.step (h.ws.newer (drewN_below W n)) (Fr.newer (drewN_below W n))
theorem WS.setC {b i : Nat} {v : Value} (h : WS w D L k F P sy dl g) (h1 : ¬ (F b ∨ P b)) : WS (w.setCell ⟨b, i, none⟩ v) D L k F P sy dl g :=
  ⟨h.dr.at' fun q hq => Below.heap_setCell _ _ _ _ fun (e : q = b) => h1 (.inl (e ▸ hq)), h.inv, h.lg.at' fun q hq => Below.heap_setCell _ _ _ _ fun (e : q = b) => h1 (.inr (e ▸ hq)), h.ap⟩
theorem Fr.setC {G G' : Nat → Prop} {b i : Nat} {v : Value} (h : Fr G G' w w') (hD : w.heap.size ≤ b) : Fr G G' w (w'.setCell ⟨b, i, none⟩ v) :=
  ⟨h.os, h.tape, h.output, by simpa using h.size, fun q hq hn => (Below.heap_setCell _ _ _ _ fun (e : q = b) => by omega).trans (h.block q hq hn), h.grow⟩
theorem SO.set5 (h : SO w D L B4 B5 k F0 F P sy dl g v e W) (e' : Int) : SO w D L B4 B5 k F0 F P sy dl g v e' (W.setCell ⟨B5, 0, none⟩ (.int .i64 e')) :=
  ⟨h.ws.setC h.f5, h.fr.setC h.h5, (Below.heap_setCell _ _ _ _ fun (e : B4 = B5) => h.ne e).trans h.b4, row_set (i := 0) (.int .i64 e') h.b5, h.f4, h.f5, h.h4, h.h5, h.ne⟩
theorem SO.set4 (h : SO w D L B4 B5 k F0 F P sy dl g v e W) (v' : Value) : SO w D L B4 B5 k F0 F P sy dl g v' e (W.setCell ⟨B4, 0, none⟩ v') :=
  ⟨h.ws.setC h.f4, h.fr.setC h.h4, row_set (i := 0) v' h.b4, (Below.heap_setCell _ _ _ _ fun (e : B5 = B4) => h.ne e.symm).trans h.b5, h.f4, h.f5, h.h4, h.h5, h.ne⟩
/-- The deferred closure. -/
theorem del_err (u : FrameMode) (W : World) (hu : u = .returning) (h4 : Boxed W B4 44 v) (h5 : Boxed W B5 25 (.int .i64 e)) (he : ¬ e = 0) : CallsD Try.prog 57 #[.pointer (some ⟨B5, 0, none⟩), .pointer (some ⟨B4, 0, none⟩)] u W fun x u' w' => u' = u ∧ (x = .returned (.tuple #[]) ∧ w' = W.setCell ⟨B4, 0, none⟩ (.pointer none)) := by
  have c4 := h4.cell
  have c5 := h5.cell
  have f4 := h4.frozen
  clear h4 h5 hu
  go_enter_d Try.func57, Try.ntmps57
  go_wp2_with fail
  go_end0
  exact ⟨rfl, rfl⟩
theorem del_ok (u : FrameMode) (W : World) (h5 : Boxed W B5 25 (.int .i64 0)) : CallsD Try.prog 57 #[.pointer (some ⟨B5, 0, none⟩), .pointer (some ⟨B4, 0, none⟩)] u W fun x u' w' => u' = u ∧ (x = .returned (.tuple #[]) ∧ w' = W) := by
  have c5 := h5.cell
  clear h5
  go_enter_d Try.func57, Try.ntmps57
  go_wp2_with fail
  go_end0
  exact ⟨rfl, rfl⟩
set_option maxRecDepth 100000 in
set_option maxHeartbeats 4000000 in
theorem open_any (h : DR w D F sy dl) (i : Inv k sy dl) (hk : k ≤ 1000000) : Calls Try.prog 25 #[.pointer (some ⟨D, 0, none⟩), .string { data := #[97] }] w fun e w' => (rbE dl ≠ 0 → e = .returned (.tuple #[.pointer none, .int .i64 (rbE dl)]) ∧ DR w' D F sy dl ∧ Fr F F w w') ∧ (rbE dl = 0 → ∃ L F' P', e = .returned (.tuple #[.pointer (some ⟨L, 0, none⟩), .int .i64 0]) ∧ WS w' D L (k + 2) F' P' sy (opD dl) (opG dl) ∧ Fr F (fun q => F' q ∨ P' q) w w' ) := by
  have HN : Hid (∀ V, Calls Try.prog 56 #[.string (tx [97, 46, 108, 111, 103, 46, 110, 101, 119])] V fun e w' => e = .returned (.bool true) ∧ w' = V) := fun V => (name_any [97, 46, 108, 111, 103, 46, 110, 101, 119] V (by decide))
  have hmf : ∀ (fn : Fn) (first cap : Array Value) (w : World), (Instr.makeFunc fn first cap).run Try.prog w = .ok (.func fn first cap) w := fun _ _ _ _ => rfl
  have HI : Hid (DR w D F sy dl ∧ Inv k sy dl ∧ k ≤ 1000000) := ⟨h, i, hk⟩
  clear h i hk
  go_enter_defers Try.func25, Try.ntmps25
  go_upto_region 7 with (go_at_call 56; refine (HN.out _).mono ?_; rintro e w1 ⟨rfl, hw1⟩; rw [hw1]; clear hw1)
  obtain ⟨W0, hW0⟩ : ∃ W0, (((w.alloc (.cells #[.pointer (some ⟨w.heap.size + 1 + 1, 0, none⟩)] 44)).alloc (.cells #[.int .i64 0] 25)).alloc (.cells (logC D g0 (.slice none 0 0) (.slice none 0 0)) 95)) = W0 := ⟨_, rfl⟩
  have e1 : (((w.alloc (.cells #[.pointer (some ⟨w.heap.size + 1 + 1, 0, none⟩)] 44)).alloc (.cells #[.int .i64 0] 25)).alloc (.cells #[.pointer (some ⟨D, 0, none⟩), .string { data := #[97] }, .int .u64 0, .slice none 0 0, .slice none 0 0, .int .i64 0] 95)) = W0 := hW0
  have HS0 : Hid (SO w D (w.heap.size + 1 + 1) w.heap.size (w.heap.size + 1) k F F (fun q => q = w.heap.size + 1 + 1) sy dl g0 (.pointer (some ⟨w.heap.size + 1 + 1, 0, none⟩)) 0 W0) := by
    have hb : Below w.heap.size w W0 := by rw [← hW0]; exact (((bel1 _ _).alloc (by simp) _).alloc (by simp; omega) _)
    have b3 : W0.heap[w.heap.size + 1 + 1]? = some (.cells (logC D g0 (.slice none 0 0) (.slice none 0 0)) 95 (0, 0)) := by
      rw [← hW0]
      have h := Go.heap_alloc_new ((w.alloc (.cells #[.pointer (some ⟨w.heap.size + 1 + 1, 0, none⟩)] 44)).alloc (.cells #[.int .i64 0] 25)) (.cells (logC D g0 (.slice none 0 0) (.slice none 0 0)) 95)
      simpa using h
    have b1 : Boxed W0 w.heap.size 44 (.pointer (some ⟨w.heap.size + 1 + 1, 0, none⟩)) := by
      rw [← hW0]
      exact ((Boxed.new _ _ _).alloc _).alloc _
    have b2 : Boxed W0 (w.heap.size + 1) 25 (.int .i64 0) := by
      rw [← hW0]
      have h := Boxed.new (w.alloc (.cells #[.pointer (some ⟨w.heap.size + 1 + 1, 0, none⟩)] 44)) 25 (.int .i64 0)
      rw [World.size_alloc] at h
      exact h.alloc _
    have hlt : ∀ q, F q → q < w.heap.size := HI.out.1.lt
    refine ⟨⟨HI.out.1.newer hb, HI.out.2.1, ⟨.slice none 0 0, .slice none 0 0, [], b3, World.ownsRow_nil _ _ _ _, World.ownsRow_nil _ _ _ _, rfl, fun x hx => (nomatch hx), fun q => ?_⟩, fun q hq hf => ?_⟩, ⟨hb.os, hb.tape, hb.output, hb.size, fun q hq _ => hb.block q hq, fun q hq => hq.imp id fun e => ?_⟩, b1, b2, fun e => ?_, fun e => ?_, Nat.le_refl _, by omega, by omega⟩
    · constructor
      · intro e; exact .inl e
      · rintro (e | e | e | ⟨x, hx, -⟩)
        · exact e
        · cases e
        · cases e
        · cases hx
    · have := hlt q hf
      have hq' : q = w.heap.size + 1 + 1 := hq
      omega
    · have e' : q = w.heap.size + 1 + 1 := e
      omega
    · rcases e with e | e
      · have := hlt _ e; omega
      · have e' : w.heap.size = w.heap.size + 1 + 1 := e
        omega
    · rcases e with e | e
      · have := hlt _ e; omega
      · have e' : w.heap.size + 1 = w.heap.size + 1 + 1 := e
        omega
  rw [e1]
  clear e1 hW0
  obtain ⟨P, hP⟩ : ∃ P : Nat → Prop, (fun q => q = w.heap.size + 1 + 1) = P := ⟨_, rfl⟩
  rw [hP] at HS0
  obtain ⟨L, hL⟩ : ∃ L, w.heap.size + 1 + 1 = L := ⟨_, rfl⟩
  rw [hL] at HS0 ⊢
  obtain ⟨B5, hB5⟩ : ∃ L, w.heap.size + 1 = L := ⟨_, rfl⟩
  rw [hB5] at HS0 ⊢
  obtain ⟨B4, hB4⟩ : ∃ L, w.heap.size = L := ⟨_, rfl⟩
  rw [hB4] at ⊢
  have HS1 : Hid (SO w D L B4 B5 k F F P sy dl g0 (.pointer (some ⟨L, 0, none⟩)) 0 W0) := by rw [hB4] at HS0; exact HS0
  clear HS0 hP hL hB5 hB4
  have q4 := HS1.out.b4.cell
  have HRB : Hid (Calls Try.prog 58 #[.pointer (some ⟨L, 0, none⟩)] W0 fun e w1 => e = .returned (.int .i64 (rbE dl)) ∧ ∃ P1, Hid (SO w D L B4 B5 k F F P1 sy dl (rbG g0 dl) (.pointer (some ⟨L, 0, none⟩)) 0 w1)) := by
    refine (readBase_any HS1.out.ws).mono ?_
    rintro e w' ⟨rfl, P1, h1, h2⟩
    exact ⟨rfl, P1, HS1.out.step h1 h2⟩
  obtain ⟨E, hE⟩ : ∃ E, rbE dl = E := ⟨_, rfl⟩
  have HE : Hid (rbE dl = E) := hE
  rw [hE] at HRB
  by_cases hz : E = 0
  · subst hz
    go_upto_region 10 with (go_at_call 58; refine HRB.out.mono ?_; rintro e w1 ⟨rfl, P1, H1⟩; (have r4 := H1.out.b4.cell); (have r5 := H1.out.b5.cell); (have z5 := H1.out.b5.frozen))
    obtain ⟨W2, hW2⟩ : ∃ W2, w1.setCell ⟨B5, 0, none⟩ (.int .i64 0) = W2 := ⟨_, rfl⟩
    have HS2 : Hid (SO w D L B4 B5 k F F P1 sy dl (rbG g0 dl) (.pointer (some ⟨L, 0, none⟩)) 0 W2) := by rw [← hW2]; exact H1.out.set5 0
    rw [hW2]
    clear hW2 r4 r5 z5 q4 HRB HN
    have hg : (rbG g0 dl).rs = [] ∧ (rbG g0 dl).cut = 0 := by
      unfold rbG
      split
      · split <;> exact ⟨rfl, rfl⟩
      · exact ⟨rfl, rfl⟩
    have q4 := HS2.out.b4.cell
    have HRR : Hid (Calls Try.prog 59 #[.pointer (some ⟨L, 0, none⟩)] W2 fun e w3 => (∃ v, e = .returned v) ∧ ∃ F3 P3, Hid (SO w D L B4 B5 (k + 1) F F3 P3 sy (rrD (rbG g0 dl) dl) (opG dl) (.pointer (some ⟨L, 0, none⟩)) 0 w3)) := by
      refine (readRecords_any HS2.out.ws HI.out.2.2 hg.1 hg.2).mono ?_
      rintro e w' ⟨⟨v, rfl⟩, F3, P3, h1, h2⟩
      exact ⟨⟨v, rfl⟩, F3, P3, HS2.out.step h1 h2⟩
    have HRM : Hid (∀ V F3 P3, SO w D L B4 B5 (k + 1) F F3 P3 sy (rrD (rbG g0 dl) dl) (opG dl) (.pointer (some ⟨L, 0, none⟩)) 0 V → Calls Try.prog 60 #[.pointer (some ⟨D, 0, none⟩), .string ({ data := #[97] } ++ { data := #[46, 99, 107, 112] } ++ { data := #[46, 110, 101, 119] })] V fun e w' => (∃ y, e = .returned (.int .i64 y)) ∧ ∃ F4, Hid (SO w D L B4 B5 (k + 2) F F4 P3 sy (opD dl) (opG dl) (.pointer (some ⟨L, 0, none⟩)) 0 w')) := fun V F3 P3 hV => by
      have hs : (({ data := #[97] } : ByteArray) ++ { data := #[46, 99, 107, 112] } ++ { data := #[46, 110, 101, 119] }) = tx nNew := by decide
      rw [hs]
      refine (p_remove hV.ws.dr).mono ?_
      rintro e w' ⟨rfl, F4, h1, h2⟩
      obtain ⟨h3, h4⟩ := hV.ws.disk h1 h2 (rm_inv hV.ws.inv)
      exact ⟨⟨_, rfl⟩, F4, hV.step h3 h4⟩
    go_upto_region 12 with (first | (go_at_call 59; refine HRR.out.mono ?_; rintro e w3 ⟨⟨v3, rfl⟩, F3, P3, H3⟩; (have r4 := H3.out.b4.cell)) | (go_at_call 60; refine (HRM.out _ F3 P3 H3.out).mono ?_; rintro e w4 ⟨⟨y4, rfl⟩, F4, H4⟩; (have p4 := H4.out.b4.cell); (have z4 := H4.out.b4.frozen); (have z5 := H4.out.b5.frozen); (have p5 := H4.out.b5.cell)))
    clear p5 z5 r4
    have v4 := (H4.out.set4 (.pointer (some ⟨L, 0, none⟩))).b5.cell
    have y4 := (H4.out.set4 (.pointer (some ⟨L, 0, none⟩))).b5.frozen
    go_wp2_with fail
    have HF := (H4.out.set4 (.pointer (some ⟨L, 0, none⟩))).set5 0
    refine leaves_cons (f := 57) (args := #[.pointer (some ⟨B5, 0, none⟩), .pointer (some ⟨B4, 0, none⟩)]) (by simp) (by simp [go_sem]) ?_
    refine (del_ok (B4 := B4) .returning _ HF.b5).mono ?_
    rintro e u' w'' ⟨rfl, rfl, rfl⟩
    refine ⟨_, results_cells2 Try.results25 _ _ B4 B5 _ _ rfl rfl (load44 HF.b4.cell) (load25 HF.b5.cell), fun h => absurd HE.out h, fun _ => ⟨L, F4, P3, rfl, HF.ws, HF.fr⟩⟩
  · go_upto_region 9 with (go_at_call 58; refine HRB.out.mono ?_; rintro e w1 ⟨rfl, P1, H1⟩; (have r4 := H1.out.b4.cell); (have r5 := H1.out.b5.cell); (have z5 := H1.out.b5.frozen); (have z4 := H1.out.b4.frozen))
    obtain ⟨W2, hW2⟩ : ∃ W2, w1.setCell ⟨B5, 0, none⟩ (.int .i64 E) = W2 := ⟨_, rfl⟩
    have HS2 : Hid (SO w D L B4 B5 k F F P1 sy dl (rbG g0 dl) (.pointer (some ⟨L, 0, none⟩)) E W2) := by rw [← hW2]; exact H1.out.set5 E
    rw [hW2]
    clear hW2 r4 r5 z5 z4 q4
    have q4 := HS2.out.b4.cell
    have q5 := HS2.out.b5.cell
    have z4 := HS2.out.b4.frozen
    have z5 := HS2.out.b5.frozen
    have v4 := (HS2.out.set4 (.pointer (some ⟨L, 0, none⟩))).b5.cell
    have y4 := (HS2.out.set4 (.pointer (some ⟨L, 0, none⟩))).b5.frozen
    have v5 := (HS2.out.set5 E).b4.cell
    have y5 := (HS2.out.set5 E).b4.frozen
    go_region
    go_wp2_with fail
    have HF := ((HS2.out.set4 (.pointer (some ⟨L, 0, none⟩))).set5 E).more 1
    trace_state
    refine leaves_cons (f := 57) (args := #[.pointer (some ⟨B5, 0, none⟩), .pointer (some ⟨B4, 0, none⟩)]) (by simp) (by simp [go_sem]) ?_
    refine (del_err .returning _ rfl HF.b4 HF.b5 hz).mono ?_
    rintro e u' w'' ⟨rfl, rfl, rfl⟩
    have HG := HF.set4 (.pointer none)
    refine ⟨_, results_cells2 Try.results25 _ _ B4 B5 _ _ rfl rfl (load44 HG.b4.cell) (load25 HG.b5.cell), fun h => ⟨by rw [HE.out], HG.ws.dr, ?_⟩, fun h => absurd (HE.out ▸ h) hz⟩
    exact ⟨HG.fr.os, HG.fr.tape, HG.fr.output, HG.fr.size, HG.fr.block, fun q hq => .inl hq⟩
end Go.Proofs.Ytflhgphjkhplmaa.D

/- Append. -/
namespace Go.Proofs.Ytflhgphjkhplmaa.D
open Go Go.RowKit W R Go.Shelf
set_option linter.unusedVariables false
set_option linter.unusedSimpArgs false
attribute [local go_sem] Oper.semAt_some

variable {w w' : World} {L D k : Nat} {sy : Int} {F F' P P' : Nat → Prop} {dl : List Fd} {g : Lg} {s : List UInt8} {bs : List Int}
def apLE (g : Lg) (bs : List Int) (dl : List Fd) : Int := if frE (seqN g + 1) bs.length = 0 then apE nLog (frI (seqN g + 1) bs) dl else frE (seqN g + 1) bs.length
def apLD (g : Lg) (bs : List Int) (dl : List Fd) : List Fd := if frE (seqN g + 1) bs.length = 0 then apD nLog (frI (seqN g + 1) bs) dl else dl
def apLG (g : Lg) (bs : List Int) (dl : List Fd) : Lg := if apLE g bs dl = 0 then ⟨g.bn, g.b, g.rs ++ [(seqN g + 1, bs)], g.cut⟩ else g
theorem step_call {P : Program} {ops : Array Oper} {o : Oper} {a : Act} {w : World} {K : Act → World → Prop} {Q : Exit → Act → World → Prop} {E : Prop} (hgd : o.guard = none) (f : Nat) (x : Operand) (t : TypeId) (ho : o.op = .call { callee := .value (.func f), args := #[x], argTypes := #[t] })
    (v : Value) (hx : a.eval x = v) (ent : ∀ args w, (callFunc f args).run P w = .ok (.enter f args) w) (h : Calls P f #[v] w fun e w' => ∃ r, e = .returned r ∧ K (a.put o.dst r) w') :
    if Region.wanted o (yielded ops a.tmps) = true then Oper.wp P o a w K Q else E := by
  have hw : Region.wanted o (yielded ops a.tmps) = true := by simp [Region.wanted, hgd]
  rw [if_pos hw]
  unfold Oper.wp
  have hf : a.eval (.func f) = .func (.func f) #[] #[] := rfl
  simp only [execOp, ho, resolve, invoke, hf, hx, List.map_toArray, List.map_cons, List.map_nil, Sem.run_bind, Sem.run_pure, Result.andThen_ok, Array.append_empty, Array.empty_append, ent, Oper.upon, Deferred.ofValue]
  refine h.mono ?_
  rintro e w' ⟨r, rfl, hk⟩
  exact hk
theorem ap_fin {V : World} {bv rv rv' cv : Value} {xs : List Rc} {g' : Lg} {n : Nat} (h : WS w D L k F P sy dl g) (l1 : w.heap[L]? = some (.cells (logC D g bv rv) 95 (0, 0))) (l2 : w.ownsRow 0 5 1 bv g.b.length (u8l g.b)) (l3 : w.ownsRow 0 81 2 rv xs.length (fl e2 xs)) (l4 : xs.map Rc.pl = g.rs) (l5 : ∀ x ∈ xs, w.ownsRow 0 5 1 x.rv x.r.length (u8l x.r))
    (l6 : ∀ q, P q ↔ q = L ∨ bv.ownBlock = some q ∨ rv.ownBlock = some q ∨ ∃ x ∈ xs, x.rv.ownBlock = some q) (hgb : g'.b = g.b) (hgr : g'.rs = g.rs ++ [(n, bs)])
    (hL : V.heap[L]? = some (.cells (logC D g' bv rv') 95 (0, 0))) (hk : ∀ q, q < w.heap.size → q ≠ L → rv.ownBlock ≠ some q → V.heap[q]? = w.heap[q]?) (hos : V.os = w.os) (htape : V.tape = w.tape) (hout : V.output = w.output) (hsz : w.heap.size ≤ V.heap.size)
    (hv : V.ownsRow 0 81 2 rv' (xs.length + 1) (fl e2 xs ++ e2 ⟨n, bs, cv⟩)) (hn : ∀ q, rv'.ownBlock = some q → rv.ownBlock = some q ∨ w.heap.size ≤ q) (hc : V.ownsRow w.heap.size 5 1 cv bs.length (u8l bs)) :
    ∃ P', WS V D L k F P' sy dl g' ∧ Fr (fun q => F q ∨ P q) (fun q => F q ∨ P' q) w V := by
  have hPL : P L := (l6 L).2 (.inl rfl)
  have hPr : ∀ q, rv.ownBlock = some q → P q := fun q hq => (l6 q).2 (.inr (.inr (.inl hq)))
  have hFk : ∀ q, F q → V.heap[q]? = w.heap[q]? := fun q hq => hk q (h.dr.lt q hq) (fun e => h.ap L hPL (e ▸ hq)) fun e => h.ap q (hPr q e) hq
  have h5k : ∀ {v : Value} {m : Nat} {zs : List Value}, w.ownsRow 0 5 1 v m zs → ∀ q, v.ownBlock = some q → V.heap[q]? = w.heap[q]? := fun {v m zs} ho q hq => by
    obtain ⟨cur, hcur⟩ := own_tag ho hq
    refine hk q (ho.lt q hq).2 (fun e => ?_) fun e => ?_
    · subst e; exact ne_tag l1 hcur (by decide) rfl
    · obtain ⟨cur', hcur'⟩ := own_tag l3 e
      exact ne_tag hcur' hcur (by decide) rfl
  have hmem : ∀ y, y ∈ xs ++ [(⟨n, bs, cv⟩ : Rc)] → y ∈ xs ∨ y = ⟨n, bs, cv⟩ := fun y hy => by simpa using hy
  refine ⟨fun q => q = L ∨ bv.ownBlock = some q ∨ rv'.ownBlock = some q ∨ ∃ y ∈ xs ++ [(⟨n, bs, cv⟩ : Rc)], y.rv.ownBlock = some q, ⟨h.dr.at' hFk, h.inv, ⟨bv, rv', xs ++ [⟨n, bs, cv⟩], hL, ?_, ?_, ?_, fun y hy => ?_, fun q => Iff.rfl⟩, fun q hq hF => ?_⟩, ⟨hos, htape, hout, hsz, fun q hq hn' => hk q hq (fun e => hn' (.inr (e ▸ hPL))) fun e => hn' (.inr (hPr q e)), fun q hq => ?_⟩⟩
  · rw [hgb]
    exact own_at l2 (h5k l2)
  · have e : fl e2 (xs ++ [(⟨n, bs, cv⟩ : Rc)]) = fl e2 xs ++ e2 ⟨n, bs, cv⟩ := by rw [fl_app]; simp [fl]
    rw [e, List.length_append, List.length_singleton]
    exact hv
  · rw [List.map_append, l4, hgr]
    rfl
  · rcases hmem y hy with hy | rfl
    · exact own_at (l5 y hy) (h5k (l5 y hy))
    · exact own_low hc (Nat.zero_le _)
  · have hlt := h.dr.lt q hF
    rcases hq with rfl | e | e | ⟨y, hy, e⟩
    · exact h.ap q hPL hF
    · exact h.ap q ((l6 q).2 (.inr (.inl e))) hF
    · rcases hn q e with e | e
      · exact h.ap q (hPr q e) hF
      · omega
    · rcases hmem y hy with hy | rfl
      · exact h.ap q ((l6 q).2 (.inr (.inr (.inr ⟨y, hy, e⟩)))) hF
      · have := (hc.lt q e).1; omega
  · rcases hq with hq | rfl | e | e | ⟨y, hy, e⟩
    · exact .inl (.inl hq)
    · exact .inl (.inr hPL)
    · exact .inl (.inr ((l6 q).2 (.inr (.inl e))))
    · exact (hn q e).imp (fun e => .inr (hPr q e)) id
    · rcases hmem y hy with hy | rfl
      · exact .inl (.inr ((l6 q).2 (.inr (.inr (.inr ⟨y, hy, e⟩)))))
      · exact .inr (hc.lt q e).1
set_option maxRecDepth 100000 in
set_option maxHeartbeats 4000000 in
theorem append_any (h : WS w D L k F P sy dl g) (hk : k ≤ 1000000) (hl : g.rs.length ≤ 1000000) (hsq : seqN g + 1 < 18446744073709551616) {v : Value} (hsv : SrcG w (fun q => F q ∨ P q) v bs) (hb : Byt bs) (hbl : bs.length ≤ 2000000) : Calls Try.prog 29 #[.pointer (some ⟨L, 0, none⟩), v] w fun e w' => e = .returned (.int .i64 (apLE g bs dl)) ∧ ∃ F' P', WS w' D L (k + 1) F' P' sy (apLD g bs dl) (apLG g bs dl) ∧ Fr (fun q => F q ∨ P q) (fun q => F' q ∨ P' q) w w' := by
  obtain ⟨va, vc, rfl⟩ := hsv.now.slice
  have HS : Hid (WS w D L k F P sy dl g ∧ SrcG w (fun q => F q ∨ P q) (.slice va bs.length vc) bs ∧ Byt bs ∧ bs.length ≤ 2000000 ∧ k ≤ 1000000 ∧ seqN g + 1 < 18446744073709551616 ∧ g.rs.length ≤ 1000000) := ⟨h, hsv, hb, hbl, hk, hsq, hl⟩
  obtain ⟨S, hS⟩ : ∃ S, seqN g = S := ⟨_, rfl⟩
  have HSQ : Hid (seqN g = S) := hS
  have hS1 : (S : Int) + 1 < 18446744073709551616 := by omega
  have HQ : Hid (Calls Try.prog 31 #[.pointer (some ⟨L, 0, none⟩)] w fun e w' => e = .returned (.int .u64 (S : Int)) ∧ ∃ n, w' = w.drewN n) := by
    have := seq_some h.lg (by omega)
    rw [hS] at this
    exact this
  obtain ⟨B, hB⟩ : ∃ B, bs.length = B := ⟨_, rfl⟩
  obtain ⟨E, hE⟩ : ∃ E, frE (S + 1) B = E := ⟨_, rfl⟩
  have HFE : Hid (bs.length = B ∧ frE (S + 1) B = E) := ⟨hB, hE⟩
  have HFR : Hid (∀ n, Calls Try.prog 8 #[.int .u64 ((S : Int) + 1), .slice va B vc] (w.drewN n) fun e w' => ∃ v', e = .returned (.tuple #[v', .int .i64 E]) ∧ Hid ((E = 0 → w'.ownsRow w.heap.size 5 1 v' (frI (S + 1) bs).length (u8l (frI (S + 1) bs))) ∧ (E ≠ 0 → v' = .slice none 0 0) ∧ Below w.heap.size w w')) := by
    show ∀ n, _
    intro n
    have := frame_any (w := w.drewN n) (S + 1) (by omega) (hsv (w.drewN n) fun q _ _ => rfl) hb (by omega)
    rw [hB, hE] at this
    refine this.mono ?_
    rintro e w' ⟨⟨v', rfl, h1, h2⟩, h3⟩
    exact ⟨v', rfl, h1, h2, (drewN_below w n).trans h3⟩
  rw [hB]
  clear h hsv hb hbl hk hsq hl hS hB hE
  by_cases hE0 : E = 0
  · obtain ⟨M, hM⟩ : ∃ M, (frI (S + 1) bs).length = M := ⟨_, rfl⟩
    have HFR0 : Hid (∀ n, Calls Try.prog 8 #[.int .u64 ((S : Int) + 1), .slice va B vc] (w.drewN n) fun e w' => ∃ fa fc, e = .returned (.tuple #[.slice fa M fc, .int .i64 0]) ∧ Hid (w'.ownsRow w.heap.size 5 1 (.slice fa M fc) (frI (S + 1) bs).length (u8l (frI (S + 1) bs)) ∧ Below w.heap.size w w')) := by
      show ∀ n, _
      intro n
      refine (HFR.out n).mono ?_
      rintro e w' ⟨v', rfl, h⟩
      obtain ⟨h1, h2, h3⟩ := h.out
      obtain ⟨fa, fc, rfl⟩ := own_slice (h1 hE0)
      refine ⟨fa, fc, by rw [hM, hE0], ?_, h3⟩
      have h9 := h1 hE0
      rw [hM] at h9 ⊢
      exact h9
    have HM : Hid ((frI (S + 1) bs).length = M ∧ M ≤ 1048576 ∧ E = 0) := by
      have hB' : bs.length ≤ 65536 := by
        have h1 := HFE.out
        rw [← h1.1] at h1
        have h2 := h1.2
        unfold frE at h2
        rw [if_neg (by omega)] at h2
        split at h2
        · omega
        · omega
      have := (frI_len (seq := S + 1) (by omega) hB').2
      exact ⟨hM, by omega, hE0⟩
    obtain ⟨fr, hfr⟩ : ∃ fr, frI (S + 1) bs = fr := ⟨_, rfl⟩
    obtain ⟨A, hA⟩ : ∃ A, apE nLog fr dl = A := ⟨_, rfl⟩
    have e1 : apLE g bs dl = A := by unfold apLE; rw [HSQ.out, HFE.out.1, HFE.out.2, if_pos hE0, hfr, hA]
    have e2' : apLD g bs dl = apD nLog fr dl := by unfold apLD; rw [HSQ.out, HFE.out.1, HFE.out.2, if_pos hE0, hfr]
    obtain ⟨g2, hg2⟩ : ∃ g2, apLG g bs dl = g2 := ⟨_, rfl⟩
    have HG2 : Hid (g2 = if A = 0 then ⟨g.bn, g.b, g.rs ++ [(S + 1, bs)], g.cut⟩ else g) := by show _ = _; rw [← hg2]; unfold apLG; rw [e1, HSQ.out]
    obtain ⟨dl2, hd2⟩ : ∃ dl2, apD nLog fr dl = dl2 := ⟨_, rfl⟩
    rw [e1, e2', hg2, hd2]
    have hfb : Byt fr := by rw [← hfr]; exact frI_byt HS.out.2.2.1
    rw [hfr] at HM HFR0
    have HAP : Hid (∀ V fa fc, Below w.heap.size w V → V.ownsRow w.heap.size 5 1 (.slice fa M fc) fr.length (u8l fr) → Calls Try.prog 55 #[.pointer (some ⟨D, 0, none⟩), .string (tx nLog), .slice fa M fc] V fun e w' => e = .returned (.int .i64 A) ∧ ∃ F3, Hid (WS w' D L (k + 1) F3 P sy dl2 g ∧ Fr (fun q => F q ∨ P q) (fun q => F3 q ∨ P q) w w' ∧ Fr (fun q => F q ∨ P q) (fun q => F3 q ∨ P q) V w')) := by
      show ∀ V fa fc, _
      intro V fa fc hV ho
      have hw := HS.out.1.newer hV
      have hs : SrcG V F (.slice fa M fc) fr := SrcG.own (by rw [HM.out.1] at ho ⊢; exact ho) fun q hq hF => by
        have h1 := (ho.lt q hq).1
        have h2 := HS.out.1.dr.lt q hF
        omega
      have := p_append hw.dr hw.inv HS.out.2.2.2.2.1 (s := nLog) (by decide) hs (by rw [HM.out.1]; exact HM.out.2.1)
      rw [hA, hd2] at this
      refine this.mono ?_
      rintro e w' ⟨rfl, F3, h1, h2⟩
      obtain ⟨h3, h4⟩ := hw.disk h1 h2 (by rw [← hd2]; exact ap_inv hw.inv hfb (by rw [HM.out.1]; exact HM.out.2.1))
      exact ⟨rfl, F3, h3, (Fr.newer hV).trans' h4, h4⟩
    have hcat : ∀ W, (binOp .add 9 (.string { data := #[97] }) (.string { data := #[46, 108, 111, 103] })).run Try.prog W = .ok (.string (tx nLog)) W := fun W => by kernel_rfl
    have HCL : Hid (∀ V, Below w.heap.size w V → V.cell? ⟨L, 0, none⟩ = some (.pointer (some ⟨D, 0, none⟩)) ∧ V.cell? ⟨L, 1, none⟩ = some (.string { data := #[97] })) := fun V hV => by
      obtain ⟨bv, rv, xs, g1, -⟩ := (HS.out.1.newer hV).lg
      exact ⟨by rw [cell_of_row _ _ _ _ _ _ g1]; rfl, by rw [cell_of_row _ _ _ _ _ _ g1]; rfl⟩
    have HCW : Hid (∀ V W F3, Below w.heap.size w V → Fr (fun q => F q ∨ P q) (fun q => F3 q ∨ P q) V W → WS W D L (k + 1) F3 P sy dl2 g → W.cell? ⟨L, 0, none⟩ = some (.pointer (some ⟨D, 0, none⟩)) ∧ W.cell? ⟨L, 1, none⟩ = some (.string { data := #[97] })) := fun V W F3 _ _ hW => by
      obtain ⟨bv, rv, xs, g1, -⟩ := hW.lg
      exact ⟨by rw [cell_of_row _ _ _ _ _ _ g1]; rfl, by rw [cell_of_row _ _ _ _ _ _ g1]; rfl⟩
    clear hM hE0 e1 e2' hg2 hd2 hfr hA hfb
    go_enter Try.func29, Try.ntmps29
    go_upto_region 7 with (first | (go_at_call 31; refine HQ.out.mono ?_; rintro e w1 ⟨rfl, n1, rfl⟩) | (go_at_call 8; refine (HFR0.out _).mono ?_; rintro e w2 ⟨fa, fc, rfl, H2⟩))
    obtain ⟨d0, d1⟩ := HCL.out w2.drew (H2.out.2.trans (drewN_below w2 1 |>.mono H2.out.2.size))
    go_cut [8] from 23 to 33 (fun x wx => x = .int .i64 A ∧ ∃ F3, Hid (WS wx D L (k + 1) F3 P sy dl2 g ∧ Fr (fun q => F q ∨ P q) (fun q => F3 q ∨ P q) w wx))
    case first =>
      go_region_held3 (fun w' => w'.cell? ⟨L, 0, none⟩ = some (.pointer (some ⟨D, 0, none⟩)) ∧ w'.cell? ⟨L, 1, none⟩ = some (.string { data := #[97] })) (first | exact K1 | go_keep) ((go_at_call 55; refine (HAP.out w2.drew fa fc (H2.out.2.trans (drewN_below w2 1 |>.mono H2.out.2.size)) (own_at H2.out.1 fun q hq => rfl)).mono ?_; rintro e w3 ⟨rfl, F3, H3⟩; (have K1 := HCW.out w2.drew w3 F3 (H2.out.2.trans (drewN_below w2 1 |>.mono H2.out.2.size)) H3.out.2.2 H3.out.1)))
      all_goals
        go_wp2_with fail
        go_meet
        exact ⟨rfl, F3, H3.out.1, H3.out.2.1⟩
    case rest =>
    obtain ⟨rfl, F3, H3⟩ := hcut
    clear d0 d1 hcat HCL HCW HAP HFR0 HFR HQ
    by_cases hA : A = 0
    · subst hA
      obtain ⟨bv, rv, xs, g1, g2', g3, g4, g5, g6⟩ := H3.out.1.lg
      obtain ⟨ra, rc, rfl⟩ := own_slice g3
      obtain ⟨i0, hi, hz0, hz1, hz2⟩ := info_parts info81
      have HLG : Hid (wc.heap[L]? = some (.cells (logC D g bv (.slice ra xs.length rc)) 95 (0, 0)) ∧ wc.ownsRow 0 5 1 bv g.b.length (u8l g.b) ∧ wc.ownsRow 0 81 2 (.slice ra xs.length rc) xs.length (fl e2 xs) ∧ xs.map Rc.pl = g.rs ∧ (∀ x ∈ xs, wc.ownsRow 0 5 1 x.rv x.r.length (u8l x.r)) ∧ (∀ q, P q ↔ q = L ∨ bv.ownBlock = some q ∨ (Value.slice ra xs.length rc).ownBlock = some q ∨ ∃ x ∈ xs, x.rv.ownBlock = some q) ∧ xs.length ≤ 1000000) := ⟨g1, g2', g3, g4, g5, g6, by have := HS.out.2.2.2.2.2.2; rw [← g4, List.length_map] at this; exact this⟩
      have HCN : Hid (∀ V, Below wc.heap.size wc V → Calls Try.prog 45 #[.slice va B vc] V fun e w5 => ∃ ca cc, e = .returned (.slice ca B cc) ∧ Hid (w5.ownsRow wc.heap.size 5 1 (.slice ca B cc) bs.length (u8l bs) ∧ Below wc.heap.size wc w5)) := by
        show ∀ V, _
        intro V hV
        have hsrc : Src V (.slice va bs.length vc) bs := HS.out.2.1 V fun q hq hn => (hV.block q (Nat.lt_of_lt_of_le hq H3.out.2.size)).trans (H3.out.2.block q hq hn)
        have hc := bclone_any _ bs V hsrc (by have := HS.out.2.2.2.1; omega)
        rw [HFE.out.1] at hc
        refine hc.mono ?_
        rintro e w5 ⟨⟨v', rfl, ho⟩, h2⟩
        obtain ⟨ca, cc, rfl⟩ := own_slice ho
        refine ⟨ca, cc, rfl, ?_, hV.trans (h2.mono hV.size)⟩
        rw [HFE.out.1]
        exact own_low ho hV.size
      obtain ⟨X, hX⟩ : ∃ X, xs.length = X := ⟨_, rfl⟩
      obtain ⟨fx, hfx⟩ : ∃ fx, fl e2 xs = fx := ⟨_, rfl⟩
      have HX : Hid (xs.length = X ∧ fl e2 xs = fx) := ⟨hX, hfx⟩
      rw [hX] at g1 g3
      rw [hfx] at g3
      have HR : Hid (wc.heap[L]? = some (.cells (logC D g bv (.slice ra X rc)) 95 (0, 0)) ∧ wc.ownsRow 0 81 2 (.slice ra X rc) X fx ∧ X ≤ 1000000) := ⟨g1, g3, by rw [← hX]; exact HLG.out.2.2.2.2.2.2⟩
      have c4 : wc.cell? ⟨L, 4, none⟩ = some (.slice ra X rc) := by rw [cell_of_row _ _ _ _ _ _ g1]; rfl
      clear g1 g2' g3 g4 g5 g6 hX hfx
      go_upto_region 10 with (fail)
      go_region_law (first | (refine step_append_lies _ rfl (.tmp 41) (.tmp 46) 93 rfl 0 81 i0 (.agg #[.int .u64 0, .slice none 0 0]) 2 32 Try.underlying93 hi hz0 hz1 hz2 rfl (by decide) (.slice ra X rc) X fx (by simp [Act.eval, Act.put]) (HO5.out.1.alloc _) ⟨w5.heap.size, 0, none⟩ 1 1 [.int .u64 ((S : Int) + 1), .slice ca B cc] (by simp [Act.eval, Act.put]) rfl (World.news_of_block (Go.heap_alloc_new _ _)) (by intro u hu; simp at hu; rcases hu with rfl | rfl <;> rfl) (by decide) (by have := HR.out.2.2; unfold maxLen; omega) (by have := HR.out.2.2; omega) (Nat.zero_le _) (w5.heap.size + 1) (by simp) ?_; intro g6 cp6 w6 hown6 hgrow6 hx6 hy6; (have HA6 : Hid (w6.ownsRow 0 81 2 (.slice (some ⟨g6, 0, none⟩) (X + 1) cp6) (X + 1) (fx ++ [.int .u64 ((S : Int) + 1), .slice ca B cc]) ∧ (w5.alloc (.cells #[.int .u64 ((S : Int) + 1), .slice ca B cc] 81)).grownBy w6 (Value.slice ra X rc).ownBlock ∧ ((Value.slice ra X rc).ownBlock = some g6 ∨ g6 = w5.heap.size + 1)) := ⟨hown6, hgrow6, hx6⟩); (have hL6 : w6.heap[L]? = some (.cells (logC D g bv (.slice ra X rc)) 95 (0, 0)) := (hgrow6.block L (by have := (Array.getElem?_eq_some_iff.1 HO5.out.2).1; simp; omega) (own_other HR.out.2.1 HR.out.1 (by decide))).trans ((Below.heap_alloc _ _ _ (Array.getElem?_eq_some_iff.1 HO5.out.2).1).trans HO5.out.2)); (have HL6 : Hid (w6.heap[L]? = some (.cells (logC D g bv (.slice ra X rc)) 95 (0, 0))) := hL6); (have c4 : w6.cell? ⟨L, 4, none⟩ = some (.slice ra X rc) := by rw [cell_of_row _ _ _ _ _ _ hL6]; rfl); (have f4 := frozen_of_row _ _ 4 _ _ hL6); clear hown6 hgrow6 hx6 hy6 hL6) | (refine step_call rfl 45 (.tmp 43) _ rfl (.slice va B vc) (by simp [Act.eval, Act.put]) (enters_of Try.func45 (by kernel_rfl) rfl) ?_; refine (HCN.out _ (drewN_below wc 1)).mono ?_; rintro e w5 ⟨ca, cc, rfl, H5⟩; (have HO5 : Hid (w5.ownsRow 0 81 2 (.slice ra X rc) X fx ∧ w5.heap[L]? = some (.cells (logC D g bv (.slice ra X rc)) 95 (0, 0))) := ⟨own_at HR.out.2.1 fun q hq => H5.out.2.block q (HR.out.2.1.lt q hq).2, (H5.out.2.block L (Array.getElem?_eq_some_iff.1 HR.out.1).1).trans HR.out.1⟩); (have c4b : w5.cell? ⟨L, 4, none⟩ = some (.slice ra X rc) := by rw [cell_of_row _ _ _ _ _ _ HO5.out.2]; rfl); (have c4c : (w5.alloc (.cells #[.int .u64 ((S : Int) + 1), .slice ca B cc] 81)).cell? ⟨L, 4, none⟩ = some (.slice ra X rc) := by rw [cell_of_row _ _ _ _ _ _ ((Below.heap_alloc _ _ _ (Array.getElem?_eq_some_iff.1 HO5.out.2).1).trans HO5.out.2)]; rfl); refine ⟨_, rfl, ?_⟩))
      all_goals (
        go_wp2_with fail
        refine bodyPost_ret (v := .int .i64 0) (results_tmp Try.results29 _ _ _) rfl ⟨rfl, ?_⟩
        obtain ⟨l1, l2, l3, l4, l5, l6, l7⟩ := HLG.out
        obtain ⟨a1, a2, a3⟩ := HA6.out
        have hLc : L < wc.heap.size := (Array.getElem?_eq_some_iff.1 l1).1
        have hs5 := H5.out.2.size
        have hV : ∀ q, q ≠ L → (w6.setCell ⟨L, 4, none⟩ (.slice (some ⟨g6, 0, none⟩) (X + 1) cp6)).heap[q]? = w6.heap[q]? := fun q hq => Below.heap_setCell _ _ _ _ hq
        have h65 : ∀ q, q < w5.heap.size → (Value.slice ra X rc).ownBlock ≠ some q → w6.heap[q]? = w5.heap[q]? := fun q hq hn => (a2.block q (by simp; omega) fun e => hn e.symm).trans (Below.heap_alloc _ _ _ hq)
        have hz6 : w5.heap.size ≤ w6.heap.size := by have := a2.size; simp at this; omega
        have hrX : xs.length = X := HX.out.1
        obtain ⟨P', h1, h2⟩ := ap_fin (V := w6.setCell ⟨L, 4, none⟩ (.slice (some ⟨g6, 0, none⟩) (X + 1) cp6)) (bv := bv) (rv := .slice ra xs.length rc) (rv' := .slice (some ⟨g6, 0, none⟩) (X + 1) cp6) (cv := .slice ca B cc) (xs := xs) (g' := g2) (n := S + 1) (bs := bs) H3.out.1 l1 l2 l3 l4 l5 l6 (by rw [HG2.out]; rfl) (by rw [HG2.out]; rfl) (by
            have e : g2 = ⟨g.bn, g.b, g.rs ++ [(S + 1, bs)], g.cut⟩ := HG2.out
            rw [e]
            exact row_set (i := 4) (.slice (some ⟨g6, 0, none⟩) (X + 1) cp6) HL6.out)
          (fun q hq hn hr => (hV q hn).trans ((h65 q (by omega) (by rw [hrX] at hr; exact hr)).trans (H5.out.2.block q hq)))
          (a2.os.trans H5.out.2.os) (a2.tape.trans H5.out.2.tape) (a2.output.trans H5.out.2.output) (by simp; omega)
          (by
            rw [hrX, HX.out.2]
            refine own_at a1 fun q hq => hV q fun e => ?_
            subst e
            obtain ⟨cur, hc⟩ := own_tag a1 hq
            exact ne_tag HL6.out hc (by decide) rfl)
          (fun q hq => by
            have e : g6 = q := by cases hq; rfl
            rw [hrX, ← e]
            exact a3.imp id fun e => by omega)
          (own_at H5.out.1 fun q hq => by
            obtain ⟨b1, b2⟩ := H5.out.1.lt q hq
            exact (hV q (by omega)).trans (h65 q b2 fun e => by have := (HR.out.2.1.lt q e).2; omega))
        exact ⟨F3, P', h1, H3.out.2.trans' h2⟩)
    · have e : g2 = g := by rw [HG2.out, if_neg hA]
      have hA1 : (A != 0) = true := by rw [bne_iff_ne]; exact hA
      clear hA
      go_wp2_with fail
      refine bodyPost_ret (v := .int .i64 A) (results_tmp Try.results29 _ _ _) rfl ?_
      rw [e]
      exact ⟨rfl, F3, P, H3.out.1, H3.out.2⟩
  · have HFR0 : Hid (∀ n, Calls Try.prog 8 #[.int .u64 ((S : Int) + 1), .slice va B vc] (w.drewN n) fun e w' => e = .returned (.tuple #[.slice none 0 0, .int .i64 E]) ∧ Hid (Below w.heap.size w w')) := by
      show ∀ n, _
      intro n
      refine (HFR.out n).mono ?_
      rintro e w' ⟨v', rfl, h⟩
      obtain ⟨h1, h2, h3⟩ := h.out
      obtain rfl := h2 hE0
      exact ⟨rfl, h3⟩
    have e1 : apLE g bs dl = E := by unfold apLE; rw [HSQ.out, HFE.out.1, HFE.out.2, if_neg hE0]
    have e2 : apLD g bs dl = dl := by unfold apLD; rw [HSQ.out, HFE.out.1, HFE.out.2, if_neg hE0]
    have e3 : apLG g bs dl = g := by unfold apLG; rw [e1, if_neg hE0]
    rw [e1, e2, e3]
    clear e1 e2 e3
    go_enter Try.func29, Try.ntmps29
    have hE1 : (E != 0) = true := by rw [bne_iff_ne]; exact hE0
    clear hE0 HFR HFE HSQ
    go_wp2_with (first | (go_at_call 31; refine HQ.out.mono ?_; rintro e w1 ⟨rfl, n1, rfl⟩) | (go_at_call 8; refine (HFR0.out _).mono ?_; rintro e w2 ⟨rfl, H2⟩))
    refine bodyPost_ret (v := .int .i64 E) (results_tmp Try.results29 _ _ _) rfl ?_
    exact ⟨rfl, F, P, (HS.out.1.newer H2.out).more, Fr.newer H2.out⟩
end Go.Proofs.Ytflhgphjkhplmaa.D

/- Sync; a new disk. -/
namespace Go.Proofs.Ytflhgphjkhplmaa.D
open Go Go.RowKit W R Go.Shelf
set_option linter.unusedVariables false
set_option linter.unusedSimpArgs false
attribute [local go_sem] Oper.semAt_some

variable {w w' : World} {L D k : Nat} {sy : Int} {F F' P P' : Nat → Prop} {dl : List Fd} {g : Lg} {s : List UInt8} {bs : List Int}
theorem disk_new (w : World) : Calls Try.prog 16 #[] w fun e w' => ∃ D, e = .returned (.pointer (some ⟨D, 0, none⟩)) ∧ DR w' D (fun q => q = D) 0 [] ∧ w.heap.size ≤ D ∧ Below w.heap.size w w' := by
  go_enter Try.func16, Try.ntmps16
  go_wp2_with fail
  go_ret
  have hb : Below w.heap.size w (w.alloc (.cells #[.map none, .int .i64 0] 90)) := bel1 _ _
  exact ⟨w.heap.size, rfl, ⟨.inl ⟨rfl, Go.heap_alloc_new _ _, fun q => Iff.rfl⟩⟩, Nat.le_refl _, hb⟩
set_option maxRecDepth 100000 in
set_option maxHeartbeats 4000000 in
theorem lsync_any (h : WS w D L k F P sy dl g) (hk : k ≤ 1000000) : Calls Try.prog 21 #[.pointer (some ⟨L, 0, none⟩)] w fun e w' => (∃ y, e = .returned (.int .i64 y)) ∧ ∃ F', WS w' D L (k + 1) F' P (syN nLog dl sy) (syD nLog dl) g ∧ Fr (fun q => F q ∨ P q) (fun q => F' q ∨ P q) w w' := by
  obtain ⟨A, hA⟩ : ∃ A, syE nLog dl = A := ⟨_, rfl⟩
  have HS : Hid (WS w D L k F P sy dl g ∧ k ≤ 1000000) := ⟨h, hk⟩
  have HAP : Hid (∀ V, Below w.heap.size w V → Calls Try.prog 52 #[.pointer (some ⟨D, 0, none⟩), .string (tx nLog)] V fun e w' => e = .returned (.int .i64 A) ∧ ∃ F3, Hid (WS w' D L (k + 1) F3 P (syN nLog dl sy) (syD nLog dl) g ∧ Fr (fun q => F q ∨ P q) (fun q => F3 q ∨ P q) w w')) := by
    show ∀ V, _
    intro V hV
    have hw := HS.out.1.newer hV
    have := p_sync hw.dr hw.inv HS.out.2 (s := nLog)
    rw [hA] at this
    refine this.mono ?_
    rintro e w' ⟨rfl, F3, h1, h2⟩
    obtain ⟨h3, h4⟩ := hw.disk h1 h2 (sy_inv hw.inv)
    exact ⟨rfl, F3, h3, (Fr.newer hV).trans' h4⟩
  have hcat : ∀ W, (binOp .add 9 (.string { data := #[97] }) (.string { data := #[46, 108, 111, 103] })).run Try.prog W = .ok (.string (tx nLog)) W := fun W => by kernel_rfl
  have HCL : Hid (∀ V, Below w.heap.size w V → V.cell? ⟨L, 0, none⟩ = some (.pointer (some ⟨D, 0, none⟩)) ∧ V.cell? ⟨L, 1, none⟩ = some (.string { data := #[97] })) := fun V hV => by
    obtain ⟨bv, rv, xs, g1, -⟩ := (HS.out.1.newer hV).lg
    exact ⟨by rw [cell_of_row _ _ _ _ _ _ g1]; rfl, by rw [cell_of_row _ _ _ _ _ _ g1]; rfl⟩
  have HCW : Hid (∀ W F3, WS W D L (k + 1) F3 P (syN nLog dl sy) (syD nLog dl) g → W.cell? ⟨L, 0, none⟩ = some (.pointer (some ⟨D, 0, none⟩)) ∧ W.cell? ⟨L, 1, none⟩ = some (.string { data := #[97] })) := fun W F3 hW => by
    obtain ⟨bv, rv, xs, g1, -⟩ := hW.lg
    exact ⟨by rw [cell_of_row _ _ _ _ _ _ g1]; rfl, by rw [cell_of_row _ _ _ _ _ _ g1]; rfl⟩
  obtain ⟨d0, d1⟩ := HCL.out w.drew (drewN_below w 1)
  have hA' : A = 0 ∨ A = 5 := by
    rw [← hA]
    unfold syE
    split
    · exact .inr rfl
    · exact .inl rfl
  clear h hk hA
  go_enter Try.func21, Try.ntmps21
  go_upto_region 3 with (fail)
  go_cut [3] from 6 to 15 (fun x wx => x = .int .i64 A ∧ ∃ F3, Hid (WS wx D L (k + 1) F3 P (syN nLog dl sy) (syD nLog dl) g ∧ Fr (fun q => F q ∨ P q) (fun q => F3 q ∨ P q) w wx))
  case first =>
    go_region_held3 (fun w' => w'.cell? ⟨L, 0, none⟩ = some (.pointer (some ⟨D, 0, none⟩)) ∧ w'.cell? ⟨L, 1, none⟩ = some (.string { data := #[97] })) (first | exact K1 | go_keep) ((go_at_call 52; refine (HAP.out w.drew (drewN_below w 1)).mono ?_; rintro e w3 ⟨rfl, F3, H3⟩; (have K1 := HCW.out w3 F3 H3.out.1)))
    all_goals
      go_wp2_with fail
      go_meet
      exact ⟨rfl, F3, H3⟩
  case rest =>
  obtain ⟨rfl, F3, H3⟩ := hcut
  clear d0 d1 hcat HCL HCW HAP
  rcases hA' with rfl | rfl
  · go_wp2_with fail
    go_ret
    exact ⟨⟨_, rfl⟩, F3, H3.out⟩
  · go_wp2_with fail
    go_ret
    exact ⟨⟨_, rfl⟩, F3, H3.out⟩
end Go.Proofs.Ytflhgphjkhplmaa.D

/- The fixed calls, plainly. -/
namespace Go.Proofs.Ytflhgphjkhplmaa.D
open Go Go.RowKit W R Go.Shelf
set_option linter.unusedVariables false
set_option linter.unusedSimpArgs false

theorem fr_x : frI 1 [120] = [1, 1, 120, 177, 165, 198, 45] := by
  unfold frI hdI
  rw [vN_lo (show 1 < 128 by decide), vN_lo (show ([120] : List Int).length < 128 by decide)]
  kernel_rfl
theorem fr_y : frI 2 [121] = [2, 1, 121, 193, 230, 131, 53] := by
  unfold frI hdI
  rw [vN_lo (show 2 < 128 by decide), vN_lo (show ([121] : List Int).length < 128 by decide)]
  kernel_rfl
def kd0 : List Fd := []
def kd1 : List Fd := [⟨nLog, [1, 1, 120, 177, 165, 198, 45], [0]⟩]
def kd2 : List Fd := [⟨nLog, [1, 1, 120, 177, 165, 198, 45], []⟩]
def kd3 : List Fd := [⟨nLog, [1, 1, 120, 177, 165, 198, 45, 2, 1, 121, 193, 230, 131, 53], [7]⟩]
def kd4 : List Fd := [⟨nLog, [1, 1, 120, 177, 165, 198, 45, 2, 1], []⟩]
def kg1 : Lg := ⟨0, [], [(1, [120])], 0⟩
def kg2 : Lg := ⟨0, [], [(1, [120]), (2, [121])], 0⟩
theorem k0 : rbE [] = 0 ∧ opG [] = g0 ∧ opD [] = [] := ⟨by kernel_rfl, by kernel_rfl, by kernel_rfl⟩
theorem k1 : apLE g0 [120] [] = 0 ∧ apLD g0 [120] [] = kd1 ∧ apLG g0 [120] [] = kg1 := by
  have e : seqN g0 + 1 = 1 := rfl
  have h1 : apLE g0 [120] [] = 0 := by unfold apLE; rw [e, fr_x]; kernel_rfl
  refine ⟨h1, ?_, ?_⟩
  · unfold apLD; rw [e, fr_x]; kernel_rfl
  · unfold apLG; rw [h1]; kernel_rfl
theorem k2 : syD nLog kd1 = kd2 := by kernel_rfl
theorem k3 : apLE kg1 [121] kd2 = 0 ∧ apLD kg1 [121] kd2 = kd3 ∧ apLG kg1 [121] kd2 = kg2 := by
  have e : seqN kg1 + 1 = 2 := rfl
  have h1 : apLE kg1 [121] kd2 = 0 := by unfold apLE; rw [e, fr_y]; kernel_rfl
  refine ⟨h1, ?_, ?_⟩
  · unfold apLD; rw [e, fr_y]; kernel_rfl
  · unfold apLG; rw [h1]; kernel_rfl
theorem k4 : crA kd3 [(nLog, [2])] = kd4 := by kernel_rfl
theorem k5 : rbE kd4 = 0 ∧ (opG kd4).rs = [(1, [120])] ∧ (opG kd4).bn = 0 ∧ (opG kd4).cut = 2 := by
  refine ⟨by kernel_rfl, ?_, ?_, ?_⟩
  · kernel_rfl
  · kernel_rfl
  · kernel_rfl
end Go.Proofs.Ytflhgphjkhplmaa.D
