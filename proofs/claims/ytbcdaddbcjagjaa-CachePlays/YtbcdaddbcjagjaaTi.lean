/- The model's cache: Get, Counts. -/
import Derived.Test.YtbcdaddbcjagjaaTh
namespace Go.Proofs.Ytbcdaddbcjagjaa
open Go.RowKit
set_option linter.unusedVariables false
set_option linter.unusedSimpArgs false

variable {w w' w2 W : World} {R B : Nat} {most : Int} {lv cv lv' cv' : Value} {l l' : List An} {cs cs' : List Cn}
/-- Is the answer there, and hangs on the same? -/
def hitM (s k st : List UInt8) (l : List An) : Bool := match (fndA s k l 0).bind (l[·]?) with | some a => decide (a.st = st) | none => false
def txtM (s k st : List UInt8) (l : List An) : List UInt8 := match (fndA s k l 0).bind (l[·]?) with | some a => if a.st = st then a.te else [] | none => []
def getM (s k st : List UInt8) (l : List An) : List An := match (fndA s k l 0).bind (l[·]?) with | some a => if a.st = st then a :: cutA (fndA s k l 0) l else cutA (fndA s k l 0) l | none => l
def cntM (s k st : List UInt8) (l : List An) (cs : List Cn) : List Cn := if hitM s k st l = true then bumpH s cs else bumpM s cs
theorem bump_set (s : List UInt8) (cs : List Cn) : ∃ c, (addN s cs)[idxN s cs]? = some c ∧ (c.h, c.m) = lkN s cs ∧ bumpH s cs = (addN s cs).set (idxN s cs) ⟨c.tn, c.h + 1, c.m⟩ ∧ bumpM s cs = (addN s cs).set (idxN s cs) ⟨c.tn, c.h, c.m + 1⟩ := by
  obtain ⟨c, h1, h2, -⟩ := addN_lk s cs
  refine ⟨c, h1, h2, ?_, ?_⟩
  · unfold bumpH; rw [h1]
  · unfold bumpM; rw [h1]
/-- A count, one more. -/
theorem MS.more {g n cap : Nat} {i : Nat} {c : Cn} (h : MS w R B most lv (.slice (some ⟨g, 0, none⟩) n cap) l cs) (hi : cs[i]? = some c) (v : Int) :
    (MS (w.setCell ⟨g, i * 3 + 1, none⟩ (.int .i64 v)) R B most lv (.slice (some ⟨g, 0, none⟩) n cap) l (cs.set i ⟨c.tn, v, c.m⟩) ∧ Fr (GM R lv (.slice (some ⟨g, 0, none⟩) n cap)) (GM R lv (.slice (some ⟨g, 0, none⟩) n cap)) w (w.setCell ⟨g, i * 3 + 1, none⟩ (.int .i64 v))) ∧
    (MS (w.setCell ⟨g, i * 3 + 2, none⟩ (.int .i64 v)) R B most lv (.slice (some ⟨g, 0, none⟩) n cap) l (cs.set i ⟨c.tn, c.h, v⟩) ∧ Fr (GM R lv (.slice (some ⟨g, 0, none⟩) n cap)) (GM R lv (.slice (some ⟨g, 0, none⟩) n cap)) w (w.setCell ⟨g, i * 3 + 2, none⟩ (.int .i64 v))) := by
  have hlt := (List.getElem?_eq_some_iff.1 hi).1
  have h3 := fl_len fC_len cs
  exact ⟨h.pokeC (by simp) (by omega) (fl_one_h v hi), h.pokeC (by simp) (by omega) (fl_one_m v hi)⟩
set_option maxRecDepth 20000 in
set_option maxHeartbeats 8000000 in
theorem MS.get (h : MS w R B most lv cv l cs) (hl : (l.length : Int) ≤ 90000) (hlc : (cs.length : Int) ≤ 90000) (s k st : List UInt8) (hN : 0 ≤ (lkN s cs).1 ∧ (lkN s cs).1 ≤ 1000000 ∧ 0 ≤ (lkN s cs).2 ∧ (lkN s cs).2 ≤ 1000000) : Calls Try.prog 33 #[.pointer (some ⟨R, 0, none⟩), .string (tx s), .string (tx k), .string (tx st)] w fun e w' => e = .returned (.tuple #[.string (tx (txtM s k st l)), .bool (hitM s k st l)]) ∧ ∃ lv' cv', MS w' R B most lv' cv' (getM s k st l) (cntM s k st l cs) ∧ Fr (GM R lv cv) (GM R lv' cv') w w' := by
  have HFI : Hid (Calls Try.prog 44 #[.pointer (some ⟨R, 0, none⟩), .string (tx s), .string (tx k)] w fun e w' => e = .returned (.int .i64 (posV (fndA s k l 0))) ∧ w' = w) := h.find (by omega) s k
  have HCO : Hid (Calls Try.prog 36 #[.pointer (some ⟨R, 0, none⟩), .string (tx s)] w fun e w' => e = .returned (.int .i64 (idxN s cs : Int)) ∧ Hid (∃ cv', MS w' R B most lv cv' l (addN s cs) ∧ Fr (GM R lv cv) (GM R lv cv') w w')) := h.count (by omega) s
  have HLL : Hid ((l.length : Int) ≤ 90000 ∧ (cs.length : Int) ≤ 90000) := ⟨hl, hlc⟩
  obtain ⟨c, hc1, hc2, hc3, hc4⟩ := bump_set s cs
  have HBU : Hid ((addN s cs)[idxN s cs]? = some c ∧ bumpH s cs = (addN s cs).set (idxN s cs) ⟨c.tn, c.h + 1, c.m⟩ ∧ bumpM s cs = (addN s cs).set (idxN s cs) ⟨c.tn, c.h, c.m + 1⟩) := ⟨hc1, hc3, hc4⟩
  rw [← hc2] at hN
  obtain ⟨n1, n2, n3, n4⟩ := hN
  dsimp only at n1 n2 n3 n4
  clear h hl hlc hc1 hc2 hc3 hc4
  obtain ⟨p, hp⟩ : ∃ p, posV (fndA s k l 0) = p := ⟨_, rfl⟩
  have HP : Hid (posV (fndA s k l 0) = p) := hp
  rw [hp] at HFI
  obtain ⟨ix, hix⟩ : ∃ ix, idxN s cs = ix := ⟨_, rfl⟩
  rw [hix] at HCO HBU
  clear hp hix
  go_enter Try.func33, Try.ntmps33
  go_upto_region 3 with (first | (go_at_call 44; refine HFI.out.mono ?_; rintro e w1 ⟨rfl, hw1⟩; rw [hw1]; clear hw1) | (go_at_call 36; refine HCO.out.mono ?_; rintro e w2 ⟨rfl, H2⟩))
  obtain ⟨cv2, k1, k2⟩ := H2.out
  clear HFI HCO H2
  obtain ⟨-, sa, cap, rfl, hcap⟩ := k1.forms
  obtain ⟨g, hsa, z0, z1, z2, zf, -⟩ := k1.cnt HBU.out.1
  subst hsa
  have zf1 := zf (ix * 3 + 1)
  have zf2 := zf (ix * 3 + 2)
  have c2 := k1.cells.2.2.1
  have hgR : ¬ g = R := k1.tags.2 g rfl
  have hgR' : ¬ R = g := fun e => hgR e.symm
  obtain ⟨m, hm⟩ : ∃ m, (addN s cs).length = m := ⟨_, rfl⟩
  have him : (ix : Int) < (m : Int) := by have := (List.getElem?_eq_some_iff.1 HBU.out.1).1; omega
  have hm9 : (m : Int) ≤ 90001 := by have := addN_len s cs; have := HLL.out.2; omega
  rw [hm] at hcap k1 k2 c2
  have HM : Hid (MS w2 R B most lv (.slice (some ⟨g, 0, none⟩) m cap) l (addN s cs) ∧ Fr (GM R lv cv) (GM R lv (.slice (some ⟨g, 0, none⟩) m cap)) w w2) := ⟨k1, k2⟩
  obtain ⟨⟨sl, capl, rfl, hcapl⟩, -⟩ := k1.forms
  have c1 := k1.cells.2.1
  have cR : w2.frozen? ⟨R, 1, none⟩ = false := k1.cells.2.2.2 1
  obtain ⟨n, hn⟩ : ∃ n, l.length = n := ⟨_, rfl⟩
  have HN : Hid (l.length = n) := hn
  rw [hn] at hcapl c1 HM
  clear k1 k2 zf hm hn z0
  have HKM : Hid (MS (w2.setCell ⟨g, ix * 3 + 2, none⟩ (.int .i64 (c.m + 1))).drew R B most (.slice sl n capl) (.slice (some ⟨g, 0, none⟩) m cap) l (bumpM s cs) ∧ Fr (GM R (.slice sl n capl) cv) (GM R (.slice sl n capl) (.slice (some ⟨g, 0, none⟩) m cap)) w (w2.setCell ⟨g, ix * 3 + 2, none⟩ (.int .i64 (c.m + 1))).drew) := by
    have hk := (HM.out.1.more HBU.out.1 (c.m + 1)).2
    rw [← HBU.out.2.2] at hk
    exact ⟨hk.1.newer (drew_below _), (HM.out.2.trans' hk.2).trans' (Fr.newer (drew_below _))⟩
  have HKH : Hid (MS (w2.setCell ⟨g, ix * 3 + 1, none⟩ (.int .i64 (c.h + 1))).drew R B most (.slice sl n capl) (.slice (some ⟨g, 0, none⟩) m cap) l (bumpH s cs) ∧ Fr (GM R (.slice sl n capl) cv) (GM R (.slice sl n capl) (.slice (some ⟨g, 0, none⟩) m cap)) w (w2.setCell ⟨g, ix * 3 + 1, none⟩ (.int .i64 (c.h + 1))).drew) := by
    have hk := (HM.out.1.more HBU.out.1 (c.h + 1)).1
    rw [← HBU.out.2.1] at hk
    exact ⟨hk.1.newer (drew_below _), (HM.out.2.trans' hk.2).trans' (Fr.newer (drew_below _))⟩
  cases hf : fndA s k l 0 with
  | none =>
    obtain rfl : p = -1 := by rw [← HP.out, hf]; rfl
    have HR : Hid (txtM s k st l = [] ∧ hitM s k st l = false ∧ getM s k st l = l ∧ cntM s k st l cs = bumpM s cs) := by
      show _ ∧ _
      unfold txtM hitM getM cntM hitM
      rw [hf]
      exact ⟨rfl, rfl, rfl, rfl⟩
    clear hf HP
    go_upto_region 4 with (fail)
    go_cut [47] from 47 to 47 (fun _ wx => Hid (MS wx R B most (.slice sl n capl) (.slice (some ⟨g, 0, none⟩) m cap) l (bumpM s cs) ∧ Fr (GM R (.slice sl n capl) cv) (GM R (.slice sl n capl) (.slice (some ⟨g, 0, none⟩) m cap)) w wx))
    case first =>
      go_region
      all_goals
        go_wp2_with fail
        go_meet
        exact HKM.out
    go_wp2_with fail
    go_ret2
    rw [HR.out.1, HR.out.2.1, HR.out.2.2.1, HR.out.2.2.2, HN.out]
    exact ⟨rfl, _, _, hcut.out⟩
  | some i =>
    have hil := fndA_lt hf
    obtain ⟨a, ha⟩ : ∃ a, l[i]? = some a := ⟨_, List.getElem?_eq_getElem (by omega)⟩
    obtain rfl : p = (i : Int) := by rw [← HP.out, hf]; rfl
    obtain ⟨g2, hsl, y0, y1, y2, y3, -⟩ := HM.out.1.ans ha
    subst hsl
    have hin : (i : Int) < (n : Int) := by have := HN.out; omega
    have hi0 : ¬ (i : Int) < 0 := by omega
    have hi1 : (0 : Int) ≤ (i : Int) := by omega
    have HIL : Hid (i < l.length) := by show _ < _; omega
    by_cases hst : a.st = st
    · have hb : ((tx a.st).toList == (tx st).toList) = true := by rw [tx_list, tx_list]; simp [hst]
      have HR : Hid (txtM s k st l = a.te ∧ hitM s k st l = true ∧ getM s k st l = a :: (l.take i ++ l.drop (i + 1)) ∧ cntM s k st l cs = bumpH s cs) := by
        show _ ∧ _
        have e1 : (fndA s k l 0).bind (l[·]?) = some a := by rw [hf]; exact ha
        have e2 : hitM s k st l = true := by unfold hitM; rw [e1]; exact decide_eq_true hst
        unfold txtM getM cntM
        rw [e1, e2]
        dsimp only
        rw [if_pos hst, if_pos hst, if_pos rfl, hf]
        exact ⟨rfl, rfl, rfl, rfl⟩
      have HAI : Hid (l[i]? = some a) := ha
      clear hf HP hil ha hst
      go_upto_region 8 with (fail)
      go_cut [68] from 68 to 68 (fun _ wx => Hid (MS wx R B most (.slice (some ⟨g2, 0, none⟩) n capl) (.slice (some ⟨g, 0, none⟩) m cap) l (bumpH s cs) ∧ Fr (GM R (.slice (some ⟨g2, 0, none⟩) n capl) cv) (GM R (.slice (some ⟨g2, 0, none⟩) n capl) (.slice (some ⟨g, 0, none⟩) m cap)) w wx))
      case first =>
        go_region
        all_goals
          go_wp2_with fail
          go_meet
          exact HKH.out
      obtain ⟨y0, y1, y2, y3⟩ : wc.cell? ⟨g2, i * 4, none⟩ = some (.string (tx a.tn)) ∧ wc.cell? ⟨g2, i * 4 + 1, none⟩ = some (.string (tx a.key)) ∧ wc.cell? ⟨g2, i * 4 + 2, none⟩ = some (.string (tx a.st)) ∧ wc.cell? ⟨g2, i * 4 + 3, none⟩ = some (.string (tx a.te)) := by
        obtain ⟨g9, e9, v0, v1, v2, v3, -⟩ := hcut.out.1.ans HAI.out
        obtain rfl : g2 = g9 := by simpa using e9
        exact ⟨v0, v1, v2, v3⟩
      clear c1
      have c1 := hcut.out.1.cells.2.1
      obtain ⟨W3, hW3⟩ : ∃ W3, wc.alloc (.cells #[.string (tx a.tn), .string (tx a.key), .string (tx a.st), .string (tx a.te)] 78) = W3 := ⟨_, rfl⟩
      have hg3 : W3.heap[wc.heap.size]? = some (.cells #[.string (tx a.tn), .string (tx a.key), .string (tx a.st), .string (tx a.te)] 78 (0, 0)) := by rw [← hW3]; exact heap_alloc_new _ _
      have hb3 : Below wc.heap.size wc W3 := by rw [← hW3]; exact bel1' _ _
      have HD : Hid (Calls Try.prog 45 #[.pointer (some ⟨R, 0, none⟩), .int .i64 (i : Int)] W3 fun e w' => e = .returned (.tuple #[]) ∧ Hid (∃ lv', MS w' R B most lv' (.slice (some ⟨g, 0, none⟩) m cap) (l.take i ++ l.drop (i + 1)) (bumpH s cs) ∧ Fr (GM R (.slice (some ⟨g2, 0, none⟩) n capl) cv) (GM R lv' (.slice (some ⟨g, 0, none⟩) m cap)) w w' ∧ w'.heap[wc.heap.size]? = some (.cells #[.string (tx a.tn), .string (tx a.key), .string (tx a.st), .string (tx a.te)] 78 (0, 0)) ∧ ¬ GM R lv' (.slice (some ⟨g, 0, none⟩) m cap) wc.heap.size)) := by
        have hM3 := hcut.out.1.newer hb3
        have hfr : Fr (GM R (.slice (some ⟨g2, 0, none⟩) n capl) cv) (GM R (.slice (some ⟨g2, 0, none⟩) n capl) (.slice (some ⟨g, 0, none⟩) m cap)) w W3 := hcut.out.2.trans' (Fr.newer hb3)
        have hnot : ¬ GM R (.slice (some ⟨g2, 0, none⟩) n capl) (.slice (some ⟨g, 0, none⟩) m cap) wc.heap.size := fun e => by have := hcut.out.1.lt _ e; omega
        have hlt3 := (Array.getElem?_eq_some_iff.1 hg3).1
        refine (hM3.drop (by have := HLL.out; omega) HIL.out).mono ?_
        rintro e w' ⟨rfl, lv', k1, k2⟩
        refine ⟨rfl, lv', k1, hfr.trans' k2, (k2.block _ hlt3 hnot).trans hg3, fun e => ?_⟩
        rcases k2.grow _ e with e2 | e2
        · exact hnot e2
        · omega
      obtain ⟨g3, hg3e⟩ : ∃ g3, wc.heap.size = g3 := ⟨_, rfl⟩
      rw [hg3e] at HD hg3
      have x30 : W3.cell? ⟨g3, 3, none⟩ = some (.string (tx a.te)) := by rw [cell_of_row _ _ _ _ _ _ hg3]; rfl
      have HRD : Hid (∀ V : World, V.heap[g3]? = some (.cells #[.string (tx a.tn), .string (tx a.key), .string (tx a.st), .string (tx a.te)] 78 (0, 0)) → V.cell? ⟨g3, 0, none⟩ = some (.string (tx a.tn)) ∧ V.cell? ⟨g3, 1, none⟩ = some (.string (tx a.key)) ∧ V.cell? ⟨g3, 2, none⟩ = some (.string (tx a.st)) ∧ V.cell? ⟨g3, 3, none⟩ = some (.string (tx a.te))) := fun V hV => ⟨by rw [cell_of_row _ _ _ _ _ _ hV]; rfl, by rw [cell_of_row _ _ _ _ _ _ hV]; rfl, by rw [cell_of_row _ _ _ _ _ _ hV]; rfl, by rw [cell_of_row _ _ _ _ _ _ hV]; rfl⟩
      go_upto_region 11 with (go_at_call 45; refine HD.out.mono ?_; rintro e w5 ⟨rfl, H5⟩)
      obtain ⟨lv5, r1, r2, r3, r4⟩ := H5.out
      obtain ⟨v0, v1, v2, v3⟩ := HRD.out w5 r3
      have HFS : Hid (Calls Try.prog 46 #[.pointer (some ⟨R, 0, none⟩), .agg #[.string (tx a.tn), .string (tx a.key), .string (tx a.st), .string (tx a.te)]] w5 fun e w' => e = .returned (.tuple #[]) ∧ Hid ((∃ lv', MS w' R B most lv' (.slice (some ⟨g, 0, none⟩) m cap) (a :: (l.take i ++ l.drop (i + 1))) (bumpH s cs) ∧ Fr (GM R (.slice (some ⟨g2, 0, none⟩) n capl) cv) (GM R lv' (.slice (some ⟨g, 0, none⟩) m cap)) w w') ∧ w'.heap[g3]? = some (.cells #[.string (tx a.tn), .string (tx a.key), .string (tx a.st), .string (tx a.te)] 78 (0, 0)))) := by
        refine (r1.first (by have := HLL.out; simp; omega) a).mono ?_
        rintro e w' ⟨rfl, lv', k1, k2⟩
        exact ⟨rfl, ⟨lv', k1, r2.trans' k2⟩, (k2.block _ (Array.getElem?_eq_some_iff.1 r3).1 r4).trans r3⟩
      clear y0 y1 y2 y3 r1 r2 r3 r4 H5 HD c1 x30 z1 z2 zf1 zf2 c2 cR hb hg3 hb3
      go_upto_region 12 with (go_at_call 46; refine HFS.out.mono ?_; rintro e w6 ⟨rfl, H6⟩)
      clear v0 v1 v2 v3
      obtain ⟨v0, v1, v2, v3⟩ := HRD.out w6 H6.out.2
      go_wp2_with fail
      go_ret2
      rw [HR.out.1, HR.out.2.1, HR.out.2.2.1, HR.out.2.2.2, HN.out]
      obtain ⟨lv6, r1, r2⟩ := H6.out.1
      exact ⟨rfl, lv6, _, r1, r2⟩
    · have hb : ((tx a.st).toList == (tx st).toList) = false := by rw [tx_list, tx_list]; simpa using hst
      have HR : Hid (txtM s k st l = [] ∧ hitM s k st l = false ∧ getM s k st l = l.take i ++ l.drop (i + 1) ∧ cntM s k st l cs = bumpM s cs) := by
        show _ ∧ _
        have e1 : (fndA s k l 0).bind (l[·]?) = some a := by rw [hf]; exact ha
        have e2 : hitM s k st l = false := by unfold hitM; rw [e1]; exact decide_eq_false hst
        unfold txtM getM cntM
        rw [e1, e2]
        dsimp only
        rw [if_neg hst, if_neg hst, if_neg (by decide), hf]
        exact ⟨rfl, rfl, rfl, rfl⟩
      clear hf HP hil ha hst
      go_upto_region 4 with (fail)
      go_cut [47] from 47 to 47 (fun _ wx => Hid (MS wx R B most (.slice (some ⟨g2, 0, none⟩) n capl) (.slice (some ⟨g, 0, none⟩) m cap) l (bumpM s cs) ∧ Fr (GM R (.slice (some ⟨g2, 0, none⟩) n capl) cv) (GM R (.slice (some ⟨g2, 0, none⟩) n capl) (.slice (some ⟨g, 0, none⟩) m cap)) w wx))
      case first =>
        go_region
        all_goals
          go_wp2_with fail
          go_meet
          exact HKM.out
      have HD : Hid (Calls Try.prog 45 #[.pointer (some ⟨R, 0, none⟩), .int .i64 (i : Int)] wc fun e w' => e = .returned (.tuple #[]) ∧ Hid (∃ lv', MS w' R B most lv' (.slice (some ⟨g, 0, none⟩) m cap) (l.take i ++ l.drop (i + 1)) (bumpM s cs) ∧ Fr (GM R (.slice (some ⟨g2, 0, none⟩) n capl) cv) (GM R lv' (.slice (some ⟨g, 0, none⟩) m cap)) w w')) := by
        refine (hcut.out.1.drop (by have := HLL.out; omega) HIL.out).mono ?_
        rintro e w' ⟨rfl, lv', k1, k2⟩
        exact ⟨rfl, lv', k1, hcut.out.2.trans' k2⟩
      go_wp2_with (go_at_call 45; refine HD.out.mono ?_; rintro e w5 ⟨rfl, H5⟩)
      go_ret2
      rw [HR.out.1, HR.out.2.1, HR.out.2.2.1, HR.out.2.2.2, HN.out]
      obtain ⟨lv5, r1, r2⟩ := H5.out
      exact ⟨rfl, lv5, _, r1, r2⟩
def cM (p : Int × Int) (s : List UInt8) : Value := .agg #[.string (tx s), .int .i64 p.1, .int .i64 p.2]
set_option maxRecDepth 20000 in
set_option maxHeartbeats 8000000 in
theorem MS.counts (h : MS w R B most lv cv l cs) (hlc : (cs.length : Int) ≤ 90000) (s : List UInt8) : Calls Try.prog 21 #[.pointer (some ⟨R, 0, none⟩), .string (tx s)] w fun e w' => e = .returned (cM (lkN s cs) s) ∧ ∃ cv', MS w' R B most lv cv' l (addN s cs) ∧ Fr (GM R lv cv) (GM R lv cv') w w' := by
  obtain ⟨c, hc1, hc2, -⟩ := bump_set s cs
  obtain ⟨c', hc3, hc4⟩ := addN_at s cs
  obtain rfl : c = c' := by rw [hc1] at hc3; exact Option.some.inj hc3
  obtain ⟨W0, hW0⟩ : ∃ W, w.alloc (.cells #[.string { data := #[] }, .int .i64 0, .int .i64 0] 46) = W := ⟨_, rfl⟩
  have hb0 : Below w.heap.size w W0 := by rw [← hW0]; exact bel1' _ _
  have hg0 : W0.heap[w.heap.size]? = some (.cells #[.string { data := #[] }, .int .i64 0, .int .i64 0] 46 (0, 0)) := by rw [← hW0]; exact heap_alloc_new _ _
  have hM := h.newer hb0
  have HB : Hid (Below w.heap.size w W0 ∧ ∀ q, GM R lv cv q → q < w.heap.size) := ⟨hb0, h.lt⟩
  have HCO : Hid (Calls Try.prog 36 #[.pointer (some ⟨R, 0, none⟩), .string (tx s)] W0 fun e w' => e = .returned (.int .i64 (idxN s cs : Int)) ∧ Hid ((∃ cv', MS w' R B most lv cv' l (addN s cs) ∧ Fr (GM R lv cv) (GM R lv cv') w w' ∧ ¬ GM R lv cv' w.heap.size) ∧ w'.heap[w.heap.size]? = some (.cells #[.string { data := #[] }, .int .i64 0, .int .i64 0] 46 (0, 0)))) := by
    refine (hM.count (by omega) s).mono ?_
    rintro e w' ⟨rfl, cv', k1, k2⟩
    have hnot : ¬ GM R lv cv w.heap.size := fun e => by have := h.lt _ e; omega
    have hlt0 := (Array.getElem?_eq_some_iff.1 hg0).1
    refine ⟨rfl, ⟨cv', k1, (Fr.newer hb0 : Fr (GM R lv cv) (GM R lv cv) w W0).trans' k2, fun e => ?_⟩, (k2.block _ hlt0 hnot).trans hg0⟩
    rcases k2.grow _ e with e2 | e2
    · exact hnot e2
    · omega
  have HBU : Hid ((addN s cs)[idxN s cs]? = some c ∧ (c.h, c.m) = lkN s cs ∧ c.tn = s) := ⟨hc1, hc2, hc4⟩
  have HLC : Hid ((cs.length : Int) ≤ 90000) := hlc
  obtain ⟨ix, hix⟩ : ∃ ix, idxN s cs = ix := ⟨_, rfl⟩
  rw [hix] at HCO HBU
  clear h hM hb0 hg0 hc1 hc2 hc3 hc4 hix hlc
  go_enter Try.func21, Try.ntmps21
  go_upto_region 2 with (go_at_call 36; refine HCO.out.mono ?_; rintro e w2 ⟨rfl, H2⟩)
  obtain ⟨⟨cv2, k1, k2, k3⟩, k4⟩ := H2.out
  obtain ⟨-, sa, cap, rfl, hcap⟩ := k1.forms
  obtain ⟨g, hsa, z0, z1, z2, -⟩ := k1.cnt HBU.out.1
  subst hsa
  have c2 := k1.cells.2.2.1
  obtain ⟨m, hm⟩ : ∃ m, (addN s cs).length = m := ⟨_, rfl⟩
  have him : (ix : Int) < (m : Int) := by have := (List.getElem?_eq_some_iff.1 HBU.out.1).1; omega
  rw [hm] at hcap k1 k2 k3 c2
  have HM : Hid (MS w2 R B most lv (.slice (some ⟨g, 0, none⟩) m cap) l (addN s cs) ∧ Fr (GM R lv cv) (GM R lv (.slice (some ⟨g, 0, none⟩) m cap)) w w2 ∧ ¬ GM R lv (.slice (some ⟨g, 0, none⟩) m cap) w.heap.size ∧ w2.heap[w.heap.size]? = some (.cells #[.string { data := #[] }, .int .i64 0, .int .i64 0] 46 (0, 0))) := ⟨k1, k2, k3, k4⟩
  obtain ⟨g1, hg1⟩ : ∃ g1, w.heap.size = g1 := ⟨_, rfl⟩
  have HG1 : Hid (w.heap.size = g1) := hg1
  rw [hg1] at k4
  have f0 : w2.frozen? ⟨g1, 0, none⟩ = false := by simp [World.frozen?, k4]
  have f1 : w2.frozen? ⟨g1, 1, none⟩ = false := by simp [World.frozen?, k4]
  have f2 : w2.frozen? ⟨g1, 2, none⟩ = false := by simp [World.frozen?, k4]
  have u0 : w2.cell? ⟨g1, 0, none⟩ = some (.string { data := #[] }) := by rw [cell_of_row _ _ _ _ _ _ k4]; rfl
  have u1 : w2.cell? ⟨g1, 1, none⟩ = some (.int .i64 0) := by rw [cell_of_row _ _ _ _ _ _ k4]; rfl
  have u2 : w2.cell? ⟨g1, 2, none⟩ = some (.int .i64 0) := by rw [cell_of_row _ _ _ _ _ _ k4]; rfl
  rw [hg1]
  clear k1 k2 k3 k4 hm hg1 H2 HCO
  go_wp2_with fail
  obtain ⟨V, hV⟩ : ∃ V, ((w2.setCell ⟨g1, 0, none⟩ (.string (tx c.tn))).setCell ⟨g1, 1, none⟩ (.int .i64 c.h)).setCell ⟨g1, 2, none⟩ (.int .i64 c.m) = V := ⟨_, rfl⟩
  obtain ⟨q1, q2, q3, q4⟩ := HM.out
  rw [HG1.out] at q3 q4
  have hr : V.heap[g1]? = some (.cells #[.string (tx c.tn), .int .i64 c.h, .int .i64 c.m] 46 (0, 0)) := by rw [← hV]; exact row_set _ (row_set _ (row_set _ q4))
  have hoff : ∀ q, q ≠ g1 → V.heap[q]? = w2.heap[q]? := fun q hq => by
    rw [← hV, Below.heap_setCell _ _ _ _ hq, Below.heap_setCell _ _ _ _ hq, Below.heap_setCell _ _ _ _ hq]
  have hsz : V.heap.size = w2.heap.size := by rw [← hV]; simp
  have hot : V.os = w2.os ∧ V.tape = w2.tape ∧ V.output = w2.output := by rw [← hV]; exact ⟨rfl, rfl, rfl⟩
  rw [hV]
  have hcm : cM (lkN s cs) s = .agg #[.string (tx c.tn), .int .i64 c.h, .int .i64 c.m] := by rw [← HBU.out.2.1, HBU.out.2.2]; rfl
  rw [hcm]
  refine bodyPost_ret (v := .agg #[.string (tx c.tn), .int .i64 c.h, .int .i64 c.m]) (results_cell_row Try.results21 _ _ g1 46 #[.string (tx c.tn), .int .i64 c.h, .int .i64 c.m] (0, 0) _ rfl hr Try.underlying46 rfl (by kernel_rfl)) rfl ⟨rfl, _, q1.at' fun q hq => hoff q (fun e => q3 (by rw [← e]; exact hq)), ⟨hot.1.trans q2.os, hot.2.1.trans q2.tape, hot.2.2.trans q2.output, by rw [hsz]; exact q2.size, fun q hq hn => (hoff q (by have := HG1.out; omega)).trans (q2.block q hq hn), fun q hq => q2.grow q hq⟩⟩
end Go.Proofs.Ytbcdaddbcjagjaa
