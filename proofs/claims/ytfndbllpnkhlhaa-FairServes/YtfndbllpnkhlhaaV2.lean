/- FairServes' law, over any program's scheduler. -/
import Derived.Test.YtfndbllpnkhlhaaV1
import Derived.DeepKeys
import Derived.Deep.CutRange
namespace Go.Proofs.Ytfndbllpnkhlhaa
open Go.RowKit
set_option linter.unusedVariables false
set_option linter.unusedSimpArgs false
variable {PF : World → Nat → (Nat → Prop) → Sc → Prop}
theorem wf_in {A : Int} (h0 : 0 ≤ A) (h1 : A ≤ 4611686018427387904) : (Lit.int .i64 A).wf = true := by
  have hm : IntKind.i64.min = -9223372036854775808 := by rfl
  have hM : IntKind.i64.max = 9223372036854775807 := by rfl
  simp only [Lit.wf, hm, hM, Bool.and_eq_true, decide_eq_true_eq]
  omega
/-- A job, compared with itself. -/
theorem eqJob (A B : Int) (hA : 0 ≤ A ∧ A ≤ 4611686018427387904) (hB : 0 ≤ B ∧ B ≤ 4611686018427387904) (w : World) : (Op.equalIn 10000 42 (.agg #[.int .i64 A, .int .i64 B]) (.agg #[.int .i64 A, .int .i64 B])).run Try.prog w = .ok true w := by
  have c2 : Try.prog.cellsOf 2 = 1 := by kernel_rfl
  have c42 : Try.prog.cellsOf 42 = 2 := by kernel_rfl
  have wA : (Lit.int .i64 A).wf = true := wf_in hA.1 hA.2
  have wB : (Lit.int .i64 B).wf = true := wf_in hB.1 hB.2
  have hk : Try.prog.keyLits 2 42 [.int .i64 A, .int .i64 B] = some [.int .i64 A, .int .i64 B] := by
    simp [Program.keyLits, Try.underlying42, Try.underlying2, c2, c42, wA, wB]
  have hf : Value.formed Try.prog 42 (.agg #[.int .i64 A, .int .i64 B]) = true := by
    unfold Value.formed
    simp only [Try.underlying42, c42]
    rfl
  obtain ⟨r, hr, hiff⟩ := run_equalIn_deep (P := Try.prog) 9998 2 42 (by kernel_rfl) w 2 2 (.agg #[.int .i64 A, .int .i64 B]) (.agg #[.int .i64 A, .int .i64 B]) _ _ hf hf hk hk
  rw [show r = true from hiff.2 rfl] at hr
  exact hr
/-- The first of a tenant's, looked for from behind. -/
def AtL (l : List OpF) (t : List UInt8) (j at' : Int) : Prop := (at' = -1 ∧ ∀ (i : Nat) (o : OpF), j < (i : Int) → l[i]? = some o → o.nm ≠ t) ∨ ∃ a : Nat, at' = (a : Int) ∧ j < (a : Int) ∧ (∃ o, l[a]? = some o ∧ o.nm = t) ∧ ∀ (i : Nat) (x : OpF), j < (i : Int) → i < a → l[i]? = some x → x.nm ≠ t
theorem AtL.start (l : List OpF) (t : List UInt8) {n : Nat} (hn : l.length = n) : AtL l t ((n : Int) - 1) (-1) := .inl ⟨rfl, fun i o hi ho => by have := (List.getElem?_eq_some_iff.1 ho).1; omega⟩
theorem AtL.here {l : List OpF} {t : List UInt8} {j : Nat} {at' : Int} {o : OpF} (ho : l[j]? = some o) (e : o.nm = t) : AtL l t ((j : Int) - 1) (j : Int) := .inr ⟨j, rfl, by omega, ⟨o, ho, e⟩, fun i x h1 h2 => by omega⟩
theorem AtL.pass {l : List OpF} {t : List UInt8} {j : Nat} {at' : Int} {o : OpF} (h : AtL l t (j : Int) at') (ho : l[j]? = some o) (e : o.nm ≠ t) : AtL l t ((j : Int) - 1) at' := by
  have hs : ∀ (i : Nat) (x : OpF), (j : Int) - 1 < (i : Int) → ¬ (j : Int) < (i : Int) → l[i]? = some x → x.nm ≠ t := fun i x h1 h2 hx => by
    obtain rfl : i = j := by omega
    rw [ho] at hx
    cases hx
    exact e
  rcases h with ⟨h1, h2⟩ | ⟨a, h1, h2, h3, h4⟩
  · exact .inl ⟨h1, fun i x hi hx => by
      by_cases c : (j : Int) < (i : Int)
      · exact h2 i x c hx
      · exact hs i x hi c hx⟩
  · exact .inr ⟨a, h1, by omega, h3, fun i x hi ha hx => by
      by_cases c : (j : Int) < (i : Int)
      · exact h4 i x c ha hx
      · exact hs i x hi c hx⟩
theorem AtL.found {l : List OpF} {t : List UInt8} {at' : Int} {i c : Int} {q : List (Int × Int)} (h : AtL l t (-1) at') (hj : jb l t = (i, c) :: q) : ∃ a : Nat, at' = (a : Int) ∧ a < l.length ∧ (∃ o, l[a]? = some o ∧ o.id = i ∧ o.cost = c) ∧ jb (l.take a ++ l.drop (a + 1)) t = q ∧ ∀ m, t ≠ m → jb (l.take a ++ l.drop (a + 1)) m = jb l m := by
  rcases h with ⟨h1, h2⟩ | ⟨a, h1, h2, ⟨o, ho, e⟩, h4⟩
  · rw [jb_none l fun i o ho => h2 i o (by omega) ho] at hj; cases hj
  · obtain ⟨k1, k2⟩ := jb_least l a o (fun i x hi hx => h4 i x (by omega) hi hx) ho e
    rw [k1] at hj
    have e1 := (List.cons.inj hj).1
    exact ⟨a, h1, (List.getElem?_eq_some_iff.1 ho).1, ⟨o, ho, (Prod.mk.inj e1).1, (Prod.mk.inj e1).2⟩, (List.cons.inj hj).2, k2⟩
structure SvR (PF : World → Nat → (Nat → Prop) → Sc → Prop) (base : Nat) (w0 w : World) (T : Nat) (k : Nat) (s : Sc) (v : Value) (l : List OpF) (left id served last : Int) : Prop where
  sw : SW PF (fun _ => False) base w0 w T s v l
  rel : Rel s l left id served last
  ok : Sok (k : Int) s
  n : l.length ≤ k
  l1 : left ≤ 1000 * (k : Int)
  i1 : id ≤ (k : Int)
theorem new_cells (w : World) (o : OpF) (j : Nat) (u : Value) (hu : (fl op5 [o])[j]? = some u) : (w.alloc (.cells #[.int .i64 o.kind, .string (tx o.nm), .int .i64 o.wt, .int .i64 o.id, .int .i64 o.cost] 44)).cell? ⟨w.heap.size, j, none⟩ = some u := by
  rw [cell_of_row _ _ _ _ _ _ (heap_alloc_new _ _)]
  rw [show fl op5 [o] = [.int .i64 o.kind, .string (tx o.nm), .int .i64 o.wt, .int .i64 o.id, .int .i64 o.cost] from rfl] at hu
  simpa using hu
set_option maxRecDepth 20000 in
set_option maxHeartbeats 16000000 in
theorem serves_law (G : PrgS PF) (sa : Option Addr) (len cap : Nat) (os : List OpF) (w : World) (h : OpsAt w sa len cap os) (hl : (len : Int) ≤ 140737488351232) :
    Calls Try.prog 6 #[.slice sa len cap] w fun e w' => e = .returned (.bool true) ∧ Below w.heap.size w w' := by
  have HG : Hid (PrgS PF) := G
  have HX : Hid (OpsAt w sa len cap os) := h
  have hcap : (len : Int) ≤ (cap : Int) := by have := h.c; omega
  clear G h
  go_enter Try.func6, Try.ntmps6
  go_wp2_with fail
  refine (HG.out.new w).mono ?_
  rintro e w1 ⟨T, F, rfl, hp1, hf1, hb1⟩
  have HM1 : Hid (SvR PF w.heap.size w w1 T 0 newS (.slice none 0 0) [] 0 0 0 0) := ⟨⟨⟨F, hp1, hf1, fun q hq => (nomatch hq), fun q hq => hq.elim⟩, Tl.nil _ _ _, fun q hq => hq.elim, hb1.size, hb1⟩, new_rel, new_ok (Int.le_refl _), Nat.le_refl _, Int.le_refl _, Int.le_refl _⟩
  clear hp1 hf1 hb1
  go_wp2_with fail
  go_loopw [4, 5, 6, 7, 8, 9] (fun a b c d e f wr => ∃ (k : Nat) (s : Sc) (l : List OpF) (left id served last : Int), b = .int .i64 left ∧ c = .int .i64 id ∧ d = .int .i64 served ∧ e = .int .i64 last ∧ f = .int .i64 (k : Int) ∧ k ≤ 20000 ∧ SvR PF w.heap.size w wr T k s a l left id served last) (fun a b c d e f wr => 20000 - (intOf f).toNat)
  case atStart => exact ⟨0, newS, [], 0, 0, 0, 0, rfl, rfl, rfl, rfl, rfl, by omega, HM1.out⟩
  case round =>
    obtain ⟨k, s, l, left, id, served, last, rfl, rfl, rfl, rfl, rfl, k1, hM⟩ := hrel
    obtain ⟨la, lc, hlv, hlc⟩ := hM.sw.row.slice
    have HM : Hid (SvR PF w.heap.size w wr T k s u4 l left id served last) := hM
    clear hM HM1
    by_cases c1 : k < len + 3000
    case neg =>
      have c1' : decide ((k : Int) < (len : Int) + 3000) = false := by rw [decide_eq_false_iff_not]; omega
      clear c1
      go_wp2_with (go_at_call 10; refine (known_any HG.out _).mono ?_; rintro e w2 ⟨rfl, hb2⟩)
      go_ret
      exact ⟨rfl, HM.out.sw.bel.trans (hb2.mono HM.out.sw.bs)⟩
    have c1' : (k : Int) < (len : Int) + 3000 := by omega
    by_cases c2 : k < 20000
    case neg =>
      obtain rfl : k = 20000 := by omega
      clear c1 c2
      rw [show ((20000 : Nat) : Int) = 20000 from rfl] at c1' ⊢
      go_wp2_with (go_at_call 10; refine (known_any HG.out _).mono ?_; rintro e w2 ⟨rfl, hb2⟩)
      go_ret
      exact ⟨rfl, HM.out.sw.bel.trans (hb2.mono HM.out.sw.bs)⟩
    have c2' : (k : Int) < 20000 := by omega
    subst hlv
    obtain ⟨n, hn⟩ : ∃ n, l.length = n := ⟨_, rfl⟩
    have HN : Hid (l.length = n ∧ n ≤ k ∧ k < 20000) := ⟨hn, by have := HM.out.n; omega, by omega⟩
    rw [hn] at HM hlc
    rw [hn]
    have hn2 : (n : Int) ≤ 20000 := by have := HN.out; omega
    have hlc' : (n : Int) ≤ (lc : Int) := by omega
    have hid0 := HM.out.rel.id0
    have hid1 := HM.out.i1
    have hle1 := HM.out.l1
    have hle0 : 0 ≤ left := by rw [HM.out.rel.left]; exact tot_nonneg _ HM.out.ok.all
    have HI : Hid (id ≤ (k : Int) ∧ left ≤ 1000 * (k : Int)) := ⟨hid1, hle1⟩
    have hid2 : id ≤ 20000 := by omega
    have hle2 : left ≤ 20000000 := by omega
    clear hid1 hle1
    have HR : Hid (Rel s l left id served last ∧ Sok (k : Int) s) := ⟨HM.out.rel, HM.out.ok⟩
    clear hn hlc k1
    obtain ⟨bb, hbb⟩ : ∃ bb : Bool, decide (k < len ∧ k < 200) = bb := ⟨_, rfl⟩
    have HBB : Hid (decide (k < len ∧ k < 200) = bb) := hbb
    clear hbb c1 c2
    go_upto_region 13 with (fail)
    go_cut [40] from 21 to 155 (fun c wx => c = .bool bb ∧ wx = wr.alloc (.cells #[.int .i64 9, .string ⟨#[]⟩, .int .i64 0, .int .i64 0, .int .i64 0] 44))
    case first =>
      by_cases d1 : k < len
      · have d1' : (k : Int) < (len : Int) := by omega
        by_cases d2 : k < 200
        · have d2' : (k : Int) < 200 := by omega
          have e : bb = true := by rw [← HBB.out]; simp [d1, d2]
          clear d1 d2
          go_wp2_with fail
          go_meet
          exact ⟨by rw [e], rfl⟩
        · have d2' : ¬ (k : Int) < 200 := by omega
          have e : bb = false := by rw [← HBB.out]; simp [d2]
          clear d1 d2
          go_wp2_with fail
          go_meet
          exact ⟨by rw [e], rfl⟩
      · have d1' : ¬ (k : Int) < (len : Int) := by omega
        have e : bb = false := by rw [← HBB.out]; simp [d1]
        clear d1
        go_wp2_with fail
        go_meet
        exact ⟨by rw [e], rfl⟩
    obtain ⟨rfl, rfl⟩ := hcut
    go_upto_if 40 with (fail)
    go_cut [10] from 21 to 155 (fun pp wx => pp = .pointer (some ⟨wr.heap.size, 0, none⟩) ∧ ∃ o : OpF, wx = wr.alloc (.cells #[.int .i64 o.kind, .string (tx o.nm), .int .i64 o.wt, .int .i64 o.id, .int .i64 o.cost] 44))
    case first =>
      cases bb with
      | true =>
        have hb := HBB.out
        simp only [decide_eq_true_eq] at hb
        obtain ⟨d1, d2⟩ := hb
        have d1' : (k : Int) < (len : Int) := by omega
        obtain ⟨o, ho⟩ : ∃ o, os[k]? = some o := ⟨_, List.getElem?_eq_getElem (by have := HX.out.n; omega)⟩
        obtain ⟨sb, off, hsa, hlt, h0, h1, h2, h3, h4⟩ := (HX.out.later HM.out.sw.bel (Nat.le_refl _)).l k o ho
        subst hsa
        clear ho d1 d2
        go_wp2_with fail
        go_meet
        exact ⟨rfl, o, rfl⟩
      | false =>
        go_wp2_with fail
        go_meet
        exact ⟨rfl, ⟨9, [], 0, 0, 0⟩, rfl⟩
    obtain ⟨rfl, o, rfl⟩ := hcut
    clear HBB
    obtain ⟨kind, nm, wt, oid, cost⟩ := o
    dsimp only at *
    obtain ⟨W, hW⟩ : ∃ W, wr.alloc (.cells #[.int .i64 kind, .string (tx nm), .int .i64 wt, .int .i64 oid, .int .i64 cost] 44) = W := ⟨_, rfl⟩
    have HW : Hid (SW PF (fun q => q = wr.heap.size) w.heap.size w W T s (.slice la n lc) l ∧ W.heap[wr.heap.size]? = some (.cells #[.int .i64 kind, .string (tx nm), .int .i64 wt, .int .i64 oid, .int .i64 cost] 44 (0, 0))) := by rw [← hW]; exact ⟨HM.out.sw.alloc HG.out _, heap_alloc_new _ _⟩
    rw [hW]
    clear hW HM
    generalize wr.heap.size = p at HW ⊢
    have y0 : W.cell? ⟨p, 0, none⟩ = some (.int .i64 kind) := by rw [cell_of_row _ _ _ _ _ _ HW.out.2]; rfl
    have y1 : W.cell? ⟨p, 1, none⟩ = some (.string (tx nm)) := by rw [cell_of_row _ _ _ _ _ _ HW.out.2]; rfl
    have y2 : W.cell? ⟨p, 2, none⟩ = some (.int .i64 wt) := by rw [cell_of_row _ _ _ _ _ _ HW.out.2]; rfl
    by_cases hk : kind = 0
    · subst hk
      go_wp2_with fail
      refine (SW.set HG.out HW.out.1 HR.out.2 (by omega)).mono ?_
      rintro e w5 ⟨rfl, hM5⟩
      have HM5 : Hid (SW PF (fun q => q = p) w.heap.size w w5 T (setS s nm wt).2 (.slice la n lc) l) := hM5
      clear hM5 HW y0 y1 y2
      go_wp2_with fail
      go_roundw
      case rel => exact ⟨k + 1, _, l, left, id, served, last, rfl, rfl, rfl, rfl, by go_num, by omega, ⟨HM5.out.bare, HR.out.1.set _ _, (set_ok HR.out.2 _ _).more (by omega), by have := HN.out; omega, by have := HI.out; omega, by have := HI.out; omega⟩⟩
      case measure => simp [intOf]; omega
    have hk0' : (kind == 0) = false := by simp; omega
    by_cases hk3 : 1 ≤ kind ∧ kind ≤ 3
    · obtain ⟨hk3, hk4⟩ := hk3
      have y3 : W.cell? ⟨p, 3, none⟩ = some (.int .i64 oid) := by rw [cell_of_row _ _ _ _ _ _ HW.out.2]; rfl
      have y4 : W.cell? ⟨p, 4, none⟩ = some (.int .i64 cost) := by rw [cell_of_row _ _ _ _ _ _ HW.out.2]; rfl
      have f3 : W.frozen? ⟨p, 3, none⟩ = false := frozen_of_row _ _ 3 _ _ HW.out.2
      go_wp2_with fail
      refine (SW.push HG.out (HW.out.1.put HG.out rfl 3 _) HR.out.2 (by omega)).mono ?_
      rintro e w5 ⟨rfl, hM5, hh5⟩
      have HP5 : Hid (w5.heap[p]? = some (.cells #[.int .i64 kind, .string (tx nm), .int .i64 wt, .int .i64 (id + 1), .int .i64 cost] 44 (0, 0))) := by show _ = _; rw [hh5 p rfl, row_set _ HW.out.2]; rfl
      have HM5 : Hid (SW PF (fun q => q = p) w.heap.size w w5 T (pushS s nm (id + 1) cost).2 (.slice la n lc) l) := hM5
      have HQ : Hid (Sok ((k + 1 : Nat) : Int) (pushS s nm (id + 1) cost).2) := by have h := push_ok (by omega) HR.out.2 nm (id + 1) cost; rwa [show ((k + 1 : Nat) : Int) = (k : Int) + 1 by omega]
      clear hM5 hh5 HW y0 y1 y2 y3 y4 f3 hk0' hk hk3 hk4
      rcases HR.out.1.push ⟨kind, nm, wt, id + 1, cost⟩ rfl with ⟨q1, q2⟩ | ⟨q1, q2⟩
      · dsimp only at q1 q2
        rw [q1]
        have hco := push_cost q1
        have HQ2 : Hid (Rel (pushS s nm (id + 1) cost).2 (l ++ [⟨kind, nm, wt, id + 1, cost⟩]) (left + cost) (id + 1) served last) := q2
        obtain ⟨hco0, hco1⟩ := hco
        clear q1 q2
        have x0 : w5.cell? ⟨p, 0, none⟩ = some (.int .i64 kind) := by rw [cell_of_row _ _ _ _ _ _ HP5.out]; rfl
        have x1 : w5.cell? ⟨p, 1, none⟩ = some (.string (tx nm)) := by rw [cell_of_row _ _ _ _ _ _ HP5.out]; rfl
        have x2 : w5.cell? ⟨p, 2, none⟩ = some (.int .i64 wt) := by rw [cell_of_row _ _ _ _ _ _ HP5.out]; rfl
        have x3 : w5.cell? ⟨p, 3, none⟩ = some (.int .i64 (id + 1)) := by rw [cell_of_row _ _ _ _ _ _ HP5.out]; rfl
        have x4 : w5.cell? ⟨p, 4, none⟩ = some (.int .i64 cost) := by rw [cell_of_row _ _ _ _ _ _ HP5.out]; rfl
        obtain ⟨i0, hi0, hz0, hz1, hz2⟩ := info_parts info44
        have HM5a : Hid (∀ ob, SW PF (fun q => q = p) w.heap.size w (w5.alloc ob) T (pushS s nm (id + 1) cost).2 (.slice la n lc) l) := fun ob => HM5.out.later HG.out (bel1 w5 ob) (Nat.le_refl _)
        have HLM : Hid (l.length + [(⟨kind, nm, wt, id + 1, cost⟩ : OpF)].length ≤ maxLen ∧ (l.length + [(⟨kind, nm, wt, id + 1, cost⟩ : OpF)].length) * 48 ≤ 140737488355328) := by
          have := HN.out
          show _ + 1 ≤ _ ∧ (_ + 1) * 48 ≤ _
          unfold maxLen
          omega
        have HGR : Hid (∀ (ob : Obj) (V : World), (w5.alloc ob).grownBy V (Value.slice la n lc).ownBlock → V.heap[p]? = some (.cells #[.int .i64 kind, .string (tx nm), .int .i64 wt, .int .i64 (id + 1), .int .i64 cost] 44 (0, 0))) := fun ob V hg => by
          have hlt := (Array.getElem?_eq_some_iff.1 HP5.out).1
          have h1 : (w5.alloc ob).heap[p]? = w5.heap[p]? := (bel1 w5 ob).block p hlt
          have h2 : p < (w5.alloc ob).heap.size := by simp; omega
          exact ((hg.block p h2 fun e => HM5.out.ap p rfl e.symm).trans h1).trans HP5.out
        go_wp2_with (at_builtin; (refine wpList_append_tl _ rfl (.tmp 74) (.tmp 76) 33 rfl op5_len op5_one w.heap.size 44 i0 (.agg #[.int .i64 0, .string ⟨#[]⟩, .int .i64 0, .int .i64 0, .int .i64 0]) 48 Try.underlying33 hi0 hz0 hz1 hz2 rfl (.slice la n lc) l [⟨kind, nm, wt, id + 1, cost⟩] rfl (HM5a.out _).row ⟨w5.heap.size, 0, none⟩ 1 1 rfl rfl (fun j u hu => (by rw [Addr.add_mid, Nat.zero_add]; exact new_cells _ _ j u hu)) HLM.out.1 HLM.out.2 (HM5a.out _).bs ?_; intro v6 w6 hT6 hg6 ho6; (have HM6 : Hid (SW PF (fun _ => False) w.heap.size w w6 T (pushS s nm (id + 1) cost).2 v6 (l ++ [⟨kind, nm, wt, id + 1, cost⟩])) := (HM5a.out _).grow HG.out hT6 hg6 (.inl rfl) ho6); (have hr6 : w6.heap[p]? = some (.cells #[.int .i64 kind, .string (tx nm), .int .i64 wt, .int .i64 (id + 1), .int .i64 cost] 44 (0, 0)) := HGR.out _ w6 hg6); (have z4 : w6.cell? ⟨p, 4, none⟩ = some (.int .i64 cost) := (by rw [cell_of_row _ _ _ _ _ _ hr6]; rfl)); clear hr6; clear hT6 hg6 ho6; (obtain ⟨la2, lc2, hv6, hc6⟩ := HM6.out.row.slice); subst hv6))
        rw [show (l ++ [(⟨kind, nm, wt, id + 1, cost⟩ : OpF)]).length = l.length + 1 by simp] at HM6
        go_roundw
        case rel => exact ⟨k + 1, _, _, left + cost, id + 1, served, last, by go_num, by go_num, rfl, rfl, by go_num, by omega, ⟨HM6.out, HQ2.out, HQ.out, by have := HN.out; simp; omega, by have := HI.out; omega, by have := HI.out; omega⟩⟩
        case measure => simp [intOf]; omega
      · dsimp only at q1 q2
        have HQ2 : Hid (Rel (pushS s nm (id + 1) cost).2 l left (id + 1) served last) := q2
        generalize (pushS s nm (id + 1) cost).1 = er at q1 ⊢
        have q1' : (er == 0) = false := by simp; exact q1
        clear q1 q2
        go_wp2_with fail
        go_roundw
        case rel => exact ⟨k + 1, _, l, left, id + 1, served, last, rfl, by go_num, rfl, rfl, by go_num, by omega, ⟨HM5.out.bare, HQ2.out, HQ.out, by have := HN.out; omega, by have := HI.out; omega, by have := HI.out; omega⟩⟩
        case measure => simp [intOf]; omega
    have HK : Hid (¬ (1 ≤ kind ∧ kind ≤ 3)) := hk3
    clear hk hk3
    go_upto_region 17 with (fail)
    go_cut [61] from 21 to 155 (fun c wx => c = .bool false ∧ wx = W)
    case first =>
      by_cases f1 : 1 ≤ kind
      · have f3 : decide (kind ≤ 3) = false := by rw [decide_eq_false_iff_not]; have := HK.out; omega
        go_wp2_with fail
        go_meet
        exact ⟨rfl, rfl⟩
      · have f3 : decide (1 ≤ kind) = false := by rw [decide_eq_false_iff_not]; omega
        clear f1
        go_wp2_with fail
        go_meet
        exact ⟨rfl, rfl⟩
    obtain ⟨rfl, hwc⟩ := hcut
    rw [hwc]
    clear y0 y1 y2 hk0' HK hwc
    go_upto_region 23 with (fail)
    have HST := HR.out.1.step HR.out.2
    have HSO : Hid (Sok ((k + 1 : Nat) : Int) (stepS s).2) := (step_ok (by omega) HR.out.2).more (by omega)
    have HSC : Hid (Calls Try.prog 22 #[.pointer (some ⟨T, 0, none⟩)] W fun e w' => e = .returned (.tuple #[.string (tx (stepS s).1.nm), .agg #[.int .i64 (stepS s).1.id, .int .i64 (stepS s).1.cost], .bool (stepS s).1.don, .bool (stepS s).1.some]) ∧ SW PF (fun _ => False) w.heap.size w w' T (stepS s).2 (.slice la n lc) l) := SW.step HG.out HW.out.1.bare HR.out.2 (by omega)
    have HRO : Hid (Rel s l left id served last) := HR.out.1
    have HWR : Hid (Tl op5 5 W w.heap.size 44 (.slice la n lc) l) := HW.out.1.row
    obtain ⟨a, ha⟩ : ∃ a, (stepS s).1 = a := ⟨_, rfl⟩
    obtain ⟨s', hs'⟩ : ∃ s', (stepS s).2 = s' := ⟨_, rfl⟩
    rw [ha, hs'] at HST HSC
    rw [hs'] at HSO
    clear ha hs' HR HW
    obtain ⟨anm, aid, acost, adon, asome⟩ := a
    dsimp only at HST HSC
    rcases HST with ⟨e1, e2, e3⟩ | ⟨e1, e2, e3, ⟨e4, e4'⟩, ⟨⟨e5, e6⟩, e7, e8⟩, hh⟩
    · simp only [noAns, Ans.mk.injEq] at e1
      obtain ⟨rfl, rfl, rfl, rfl, rfl⟩ := e1
      subst e3
      subst e2
      go_wp2_with fail
      refine HSC.out.mono ?_
      rintro e w5 ⟨rfl, hM5⟩
      have HM5 : Hid (SW PF (fun _ => False) w.heap.size w w5 T s' (.slice la n lc) l) := hM5
      clear hM5 HSC
      go_wp2_with fail
      go_roundw
      case rel => exact ⟨k + 1, s', l, 0, id, served, last, rfl, rfl, rfl, rfl, by go_num, by omega, ⟨(HM5.out.alloc HG.out _).bare, HRO.out, HSO.out, by have := HN.out; omega, by have := HI.out; omega, by have := HI.out; omega⟩⟩
      case measure => simp [intOf]; omega
    · subst e1
      rcases hh with ⟨d1, d2, hrel⟩ | ⟨d1, d2, q, hj, hrel⟩
      · subst d1
        have HRL : Hid (Rel s' l (left - 1) id (served + 1) aid) := hrel
        have d3 : (served + 1 == acost) = false := by simp; exact d2
        clear hrel d2
        have e5' : ¬ aid = 0 := by omega
        go_wp2_with fail
        refine HSC.out.mono ?_
        rintro e w5 ⟨rfl, hM5⟩
        have HM5 : Hid (SW PF (fun _ => False) w.heap.size w w5 T s' (.slice la n lc) l) := hM5
        clear hM5 HSC
        have E3 : Hid (last = 0 ∨ last = aid) := e3
        clear e3
        go_upto_region 28 with (fail)
        go_cut [105] from 21 to 155 (fun c wx => c = .bool false ∧ wx = w5.alloc (.cells #[.int .i64 aid, .int .i64 acost] 42))
        case first =>
          by_cases hl0 : last = 0
          · subst hl0
            go_wp2_with fail
            go_meet
            exact ⟨rfl, rfl⟩
          · obtain rfl : last = aid := E3.out.resolve_left hl0
            go_wp2_with fail
            go_meet
            exact ⟨rfl, rfl⟩
        obtain ⟨rfl, rfl⟩ := hcut
        go_wp2_with fail
        go_roundw
        case rel => exact ⟨k + 1, s', l, left - 1, id, served + 1, _, by go_num, rfl, by go_num, rfl, by go_num, by omega, ⟨(HM5.out.alloc HG.out _).bare, HRL.out, HSO.out, by have := HN.out; omega, by have := HI.out; omega, by have := HI.out; omega⟩⟩
        case measure => simp [intOf]; omega
      · subst d1
        subst d2
        have hne : l ≠ [] := by rintro rfl; simp [jb] at hj
        obtain ⟨g, og, lcap, hform⟩ := HWR.out.form hne
        obtain ⟨rfl, -, -⟩ := Value.slice.inj hform
        have HJ : Hid (jb l anm = (aid, served + 1) :: q) := hj
        have HRL : Hid (∀ l', jb l' anm = q → (∀ m, anm ≠ m → jb l' m = jb l m) → Rel s' l' (left - 1) id 0 0) := hrel
        clear hrel hj hform hne
        have e5' : ¬ aid = 0 := by omega
        have HEJ : Hid (∀ V : World, (Op.equalIn 10000 42 (.agg #[.int .i64 aid, .int .i64 (served + 1)]) (.agg #[.int .i64 aid, .int .i64 (served + 1)])).run Try.prog V = .ok true V) := fun V => eqJob aid (served + 1) (by omega) (by omega) V
        have E3 : Hid (last = 0 ∨ last = aid) := e3
        clear e3
        go_wp2_with fail
        refine HSC.out.mono ?_
        rintro e w5 ⟨rfl, hM5⟩
        have HM5 : Hid (SW PF (fun _ => False) w.heap.size w w5 T s' (.slice (some ⟨g, og, none⟩) n lc) l) := hM5
        clear hM5 HSC
        go_upto_region 28 with (fail)
        go_cut [105] from 21 to 155 (fun c wx => c = .bool false ∧ wx = w5.alloc (.cells #[.int .i64 aid, .int .i64 (served + 1)] 42))
        case first =>
          by_cases hl0 : last = 0
          · subst hl0
            go_wp2_with fail
            go_meet
            exact ⟨rfl, rfl⟩
          · obtain rfl : last = aid := E3.out.resolve_left hl0
            go_wp2_with fail
            go_meet
            exact ⟨rfl, rfl⟩
        obtain ⟨rfl, rfl⟩ := hcut
        go_wp2_with fail
        obtain ⟨W6, hW6⟩ : ∃ W6, w5.alloc (.cells #[.int .i64 aid, .int .i64 (served + 1)] 42) = W6 := ⟨_, rfl⟩
        have HW6 : Hid (SW PF (fun _ => False) w.heap.size w W6 T s' (.slice (some ⟨g, og, none⟩) n lc) l ∧ W6.heap[w5.heap.size]? = some (.cells #[.int .i64 aid, .int .i64 (served + 1)] 42 (0, 0))) := by rw [← hW6]; exact ⟨(HM5.out.alloc HG.out _).bare, heap_alloc_new _ _⟩
        rw [hW6]
        clear hW6 HM5
        generalize w5.heap.size = r at HW6 ⊢
        go_loopw [15, 16] (fun a b V => V = W6 ∧ ∃ (at' j : Int), a = .int .i64 at' ∧ b = .int .i64 j ∧ -1 ≤ j ∧ j < (n : Int) ∧ -1 ≤ at' ∧ AtL l anm j at') (fun a b V => (intOf b + 1).toNat)
        case atStart => exact ⟨rfl, -1, (n : Int) - 1, rfl, by go_num, by omega, by omega, by omega, AtL.start l anm HN.out.1⟩
        case round =>
          obtain ⟨hWr, at', j, rfl, rfl, j0, j1, a0, hA⟩ := hrel
          subst hWr
          have HA : Hid (AtL l anm j at') := hA
          clear hA
          by_cases hj0 : 0 ≤ j
          · obtain ⟨jn, rfl⟩ : ∃ jn : Nat, j = (jn : Int) := ⟨j.toNat, by omega⟩
            obtain ⟨o, ho⟩ : ∃ o, l[jn]? = some o := ⟨_, List.getElem?_eq_getElem (by have := HN.out.1; omega)⟩
            have hc : wr.cell? ⟨g, og + jn * 5 + 1, none⟩ = some (.string (tx o.nm)) := by
              have h := (HW6.out.1.row.cells).2.2 (jn * 5 + 1) (.string (tx o.nm)) (by rw [fl_at op5_len l jn o 1 ho (by decide)]; rfl)
              rwa [← Nat.add_assoc] at h
            have HO : Hid (l[jn]? = some o) := ho
            clear ho hj0
            by_cases e : o.nm = anm
            · have hx : ((tx o.nm).toList == (tx anm).toList) = true := by rw [tx_list, tx_list]; simp [e]
              have HE : Hid (o.nm = anm) := e
              clear e
              go_wp2_with fail
              go_roundw
              case rel => exact ⟨trivial, (jn : Int), (jn : Int) - 1, rfl, by go_num, by omega, by omega, by omega, AtL.here (at' := at') HO.out HE.out⟩
              case measure => simp [intOf]
            · have hx : ((tx o.nm).toList == (tx anm).toList) = false := by rw [tx_list, tx_list]; simp [e]
              have HE : Hid (o.nm ≠ anm) := e
              clear e
              go_wp2_with fail
              go_roundw
              case rel => exact ⟨trivial, at', (jn : Int) - 1, rfl, by go_num, by omega, by omega, a0, HA.out.pass HO.out HE.out⟩
              case measure => simp [intOf]
          · obtain rfl : j = -1 := by omega
            obtain ⟨a, rfl, ha, ⟨o, ho, eo1, eo2⟩, q1, q2⟩ := HA.out.found HJ.out
            have HL : Hid (Rel s' (l.take a ++ l.drop (a + 1)) (left - 1) id 0 0) := HRL.out _ q1 q2
            have HAA : Hid (a < n ∧ l.length = n ∧ n ≤ k ∧ k < 20000) := ⟨by have := HN.out.1; omega, HN.out⟩
            have ha' : (a : Int) < (n : Int) := by have := HAA.out; omega
            have hc3 : wr.cell? ⟨g, og + a * 5 + 3, none⟩ = some (.int .i64 aid) := by
              have h := (HW6.out.1.row.cells).2.2 (a * 5 + 3) (.int .i64 aid) (by rw [fl_at op5_len l a o 3 ho (by decide), ← eo1]; rfl)
              rwa [← Nat.add_assoc] at h
            have hc4 : wr.cell? ⟨g, og + a * 5 + 4, none⟩ = some (.int .i64 (served + 1)) := by
              have h := (HW6.out.1.row.cells).2.2 (a * 5 + 4) (.int .i64 (served + 1)) (by rw [fl_at op5_len l a o 4 ho (by decide), ← eo2]; rfl)
              rwa [← Nat.add_assoc] at h
            have r0 : wr.cell? ⟨r, 0, none⟩ = some (.int .i64 aid) := by rw [cell_of_row _ _ _ _ _ _ HW6.out.2]; rfl
            have r1 : wr.cell? ⟨r, 1, none⟩ = some (.int .i64 (served + 1)) := by rw [cell_of_row _ _ _ _ _ _ HW6.out.2]; rfl
            have han : ¬ (a : Int) < 0 := by omega
            have hq := HEJ.out wr
            clear q1 q2 ho eo1 eo2 ha HA HRL hj0 j0 j1 a0 HEJ
            go_upto_region 43 with (fail)
            go_region
            go_upto_region 46 with (fail)
            have HX6 : Hid (SW PF (fun _ => False) w.heap.size w wr.drew T s' (.slice (some ⟨g, og, none⟩) n lc) l) := HW6.out.1.later HG.out ((Below.refl wr.heap.size wr).drew) (Nat.le_refl _)
            clear hc3 hc4 r0 r1 hq HW6 han
            generalize wr.drew = X at HX6 ⊢
            obtain ⟨i0, hi0, hz0, hz1, hz2⟩ := info_parts info44
            obtain ⟨b, hb⟩ : ∃ b, a + 1 = b := ⟨_, rfl⟩
            have hb' : (a : Int) + 1 = (b : Int) := by omega
            have hbn : (b : Int) ≤ (n : Int) := by omega
            have hac : (a : Int) ≤ (lc : Int) := by omega
            have hbc : (b : Int) ≤ (lc : Int) := by omega
            rw [hb] at HL
            have HCE : Hid (∀ q u, (fl op5 l)[q]? = some u → X.cell? ⟨g, og + q, none⟩ = some u) := (HX6.out.row.cells).2.2
            have HLT : Hid (a = (l.take a).length ∧ n - b = (l.drop b).length) := ⟨by rw [List.length_take]; have := HAA.out; omega, by rw [List.length_drop]; have := HAA.out; omega⟩
            have HLM8 : Hid ((l.take a ++ l.drop b).length = a + (n - b)) := by show _ = _; rw [List.length_append, ← HLT.out.1, ← HLT.out.2]
            have HLM : Hid (([] : List OpF).length + (l.take a).length ≤ maxLen ∧ (([] : List OpF).length + (l.take a).length) * 48 ≤ 140737488355328 ∧ (l.take a).length + (l.drop b).length ≤ maxLen ∧ ((l.take a).length + (l.drop b).length) * 48 ≤ 140737488355328) := by
              rw [← HLT.out.1, ← HLT.out.2]
              have := HAA.out
              show 0 + _ ≤ _ ∧ (0 + _) * 48 ≤ _ ∧ _
              unfold maxLen
              omega
            have HC1 : Hid (∀ j u, (fl op5 (l.take a))[j]? = some u → X.cell? ⟨g, og + j, none⟩ = some u) := fun j u hu => HCE.out j u (by rw [← fl_take op5_len, List.getElem?_take] at hu; split at hu; exact hu; cases hu)
            have HAB : Hid (a + 1 = b) := hb
            clear hb
            go_upto_region 47 with (at_builtin; (refine wpList_append_tl _ rfl (.tmp 144) (.tmp 147) 33 rfl op5_len op5_one w.heap.size 44 i0 (.agg #[.int .i64 0, .string ⟨#[]⟩, .int .i64 0, .int .i64 0, .int .i64 0]) 48 Try.underlying33 hi0 hz0 hz1 hz2 rfl (.slice none 0 0) [] (l.take a) rfl (Tl.nil _ _ _) ⟨g, og, none⟩ a lc HLT.out.1 rfl (fun j u hu => (by rw [Addr.add_mid]; exact HC1.out j u hu)) HLM.out.1 HLM.out.2.1 HX6.out.bs ?_; intro v7 w7 hT7 hg7 ho7; (have HG7 : Hid (X.grownBy w7 none) := hg7); (have HM7 : Hid (SW PF (fun _ => False) w.heap.size w w7 T s' v7 (l.take a)) := HX6.out.grow HG.out hT7 hg7 (.inr rfl) ho7); clear hT7 hg7 ho7; (obtain ⟨va, vc, hv7, -⟩ := HM7.out.row.slice); (rw [← HLT.out.1] at hv7); subst hv7))
            have HCE7 : Hid (∀ q u, (fl op5 l)[q]? = some u → w7.cell? ⟨g, og + q, none⟩ = some u) := fun q u hu => HG7.out.cell (HCE.out q u hu) (by simp)
            clear HCE HC1 HX6 HG7
            by_cases hbl : b < lc
            · have hbl' : (b : Int) < (lc : Int) := by omega
              have hne : ¬ lc = b := by omega
              have HC2 : Hid (∀ j u, (fl op5 (l.drop b))[j]? = some u → w7.cell? ⟨g, og + b * 5 + j, none⟩ = some u) := fun j u hu => by rw [Nat.add_assoc]; exact HCE7.out (b * 5 + j) u (by rw [← fl_drop op5_len, List.getElem?_drop] at hu; exact hu)
              go_wp2_with (at_builtin; (refine wpList_append_tl _ rfl (.tmp 149) (.tmp 153) 33 rfl op5_len op5_one w.heap.size 44 i0 (.agg #[.int .i64 0, .string ⟨#[]⟩, .int .i64 0, .int .i64 0, .int .i64 0]) 48 Try.underlying33 hi0 hz0 hz1 hz2 rfl (.slice va a vc) (l.take a) (l.drop b) rfl HM7.out.row ⟨g, og + b * 5, none⟩ (n - b) (lc - b) HLT.out.2 rfl (fun j u hu => (by rw [Addr.add_mid]; exact HC2.out j u hu)) HLM.out.2.2.1 HLM.out.2.2.2 HM7.out.bs ?_; intro v8 w8 hT8 hg8 ho8; (have HM8 : Hid (SW PF (fun _ => False) w.heap.size w w8 T s' v8 (l.take a ++ l.drop b)) := HM7.out.grow HG.out hT8 hg8 (.inl rfl) ho8); clear hT8 hg8 ho8; (obtain ⟨xa, xc, hv8, -⟩ := HM8.out.row.slice); (rw [HLM8.out] at hv8); subst hv8))
              go_roundw
              case rel => exact ⟨k + 1, s', l.take a ++ l.drop b, left - 1, id, 0, 0, rfl, rfl, rfl, rfl, by go_num, by omega, ⟨HM8.out, HL.out, HSO.out, by rw [HLM8.out]; have := HAA.out; omega, by have := HI.out; omega, by have := HI.out; omega⟩⟩
              case measure => simp [intOf]; omega
            · obtain rfl : b = lc := by have := HAA.out; have := HAB.out; omega
              have hnl : n = b := by omega
              have hnb : n - b = 0 := by omega
              have HC2 : Hid (∀ j u, (fl op5 (l.drop b))[j]? = some u → w7.cell? ⟨g, og + j, none⟩ = some u) := fun j u hu => by rw [List.drop_of_length_le (by have := HAA.out; omega)] at hu; simp [fl] at hu
              have HL0 : Hid (0 = (l.drop b).length) := by have := HLT.out.2; show _ = _; omega
              go_wp2_with (at_builtin; (refine wpList_append_tl _ rfl (.tmp 149) (.tmp 153) 33 rfl op5_len op5_one w.heap.size 44 i0 (.agg #[.int .i64 0, .string ⟨#[]⟩, .int .i64 0, .int .i64 0, .int .i64 0]) 48 Try.underlying33 hi0 hz0 hz1 hz2 rfl (.slice va a vc) (l.take a) (l.drop b) rfl HM7.out.row ⟨g, og, none⟩ 0 0 HL0.out rfl (fun j u hu => (by rw [Addr.add_mid]; exact HC2.out j u hu)) HLM.out.2.2.1 HLM.out.2.2.2 HM7.out.bs ?_; intro v8 w8 hT8 hg8 ho8; (have HM8 : Hid (SW PF (fun _ => False) w.heap.size w w8 T s' v8 (l.take a ++ l.drop b)) := HM7.out.grow HG.out hT8 hg8 (.inl rfl) ho8); clear hT8 hg8 ho8; (obtain ⟨xa, xc, hv8, -⟩ := HM8.out.row.slice); (rw [HLM8.out] at hv8); subst hv8))
              go_roundw
              case rel => exact ⟨k + 1, s', l.take a ++ l.drop b, left - 1, id, 0, 0, rfl, rfl, rfl, rfl, by go_num, by omega, ⟨by have h := HM8.out; rw [hnb, Nat.add_zero] at h; exact h, HL.out, HSO.out, by rw [HLM8.out]; have := HAA.out; omega, by have := HI.out; omega, by have := HI.out; omega⟩⟩
              case measure => simp [intOf]; omega
end Go.Proofs.Ytfndbllpnkhlhaa
