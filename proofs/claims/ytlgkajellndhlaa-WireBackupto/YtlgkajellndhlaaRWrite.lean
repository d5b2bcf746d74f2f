/- The reference's Write: a field that can not be. -/
import Derived.Test.YtlgkajellndhlaaPut
namespace Go.Proofs.Ytlgkajellndhlaa
open Go.RowKit
set_option linter.unusedVariables false
set_option linter.unusedSimpArgs false

theorem typ_cases (typ : Int) : typ = 0 ∨ typ = 1 ∨ typ = 2 ∨ typ = 5 ∨ ((typ == 0) = false ∧ (typ == 1) = false ∧ (typ == 2) = false ∧ (typ == 5) = false) := by
  simp only [beq_eq_false_iff_ne, ne_eq]
  omega
theorem bad_cases {num typ : Int} {n l : Nat} (h : okN num typ n l = false) : num < 1 ∨ 536870912 ≤ num ∨ (1 ≤ num ∧ num < 536870912 ∧ (((typ == 0) = false ∧ (typ == 1) = false ∧ (typ == 2) = false ∧ (typ == 5) = false) ∨ (typ = 0 ∧ ((l : Int) == 0) = false) ∨ (typ = 1 ∧ ((l : Int) == 0) = false) ∨ (typ = 2 ∧ ((n : Int) == 0) = false) ∨ (typ = 5 ∧ ((l : Int) == 0) = false) ∨ (typ = 5 ∧ (l : Int) = 0 ∧ ¬ (n : Int) < 4294967296))) := by
  by_cases h1 : num < 1
  · exact .inl h1
  · by_cases h2 : 536870912 ≤ num
    · exact .inr (.inl h2)
    · refine .inr (.inr ⟨by omega, by omega, ?_⟩)
      have h12 : 1 ≤ num ∧ num ≤ 536870911 := by omega
      unfold okN at h
      rw [decide_eq_true h12, Bool.true_and] at h
      rcases typ_cases typ with rfl | rfl | rfl | rfl | h3
      · rw [cast0]; simp at h; simp; omega
      · rw [cast0]; simp at h; simp; omega
      · rw [cast0, cast0]; simp at h; simp; omega
      · rw [cast0]
        rw [if_neg (by omega), if_pos rfl] at h
        by_cases h4 : (n : Int) < 4294967296
        · rw [decide_eq_true h4, Bool.true_and] at h
          simp [h]
        · by_cases h5 : l = 0
          · right; right; right; right; right; exact ⟨rfl, by omega, h4⟩
          · right; right; right; right; left; exact ⟨rfl, by simpa using h5⟩
      · exact .inl h3

theorem ne_tag {w : World} {k k' : Nat} {c c' : Array Value} {t t' : TypeId} {f f' : Nat × Nat} (h : w.heap[k]? = some (.cells c t f)) (h' : w.heap[k']? = some (.cells c' t' f')) (ht : t ≠ t') : k ≠ k' := by
  rintro rfl
  rw [h] at h'
  simp at h'
  exact ht h'.2.1
theorem own_tag {w : World} {base size n : Nat} {e : TypeId} {v : Value} {xs : List Value} (h : w.ownsRow base e size v n xs) {q : Nat} (hq : v.ownBlock = some q) : ∃ cur, w.heap[q]? = some (.cells cur e (0, 0)) := by
  rcases h.2 with ⟨rfl, _⟩ | ⟨g, cap, cur, rfl, _, hc, _⟩
  · cases hq
  · have : g = q := by simpa [Value.ownBlock] using hq
    exact ⟨cur, this ▸ hc⟩
theorem leN_at : ∀ (K m j : Nat), j < K → (leN m K)[j]? = some ((m / 2 ^ (8 * j) % 256 : Nat) : Int)
  | 0, m, j, h => by omega
  | K + 1, m, 0, h => by simp [leN]
  | K + 1, m, j + 1, h => by
    simp only [leN, List.getElem?_cons_succ]
    rw [leN_at K (m / 256) j (by omega), Nat.div_div_eq_div_mul, show 256 * 2 ^ (8 * j) = 2 ^ (8 * (j + 1)) by rw [show 8 * (j + 1) = 8 + 8 * j by omega, Nat.pow_add]]
theorem leN_snoc (K j : Nat) (x : Int) (h : j < K) (x0 : 0 ≤ x) : (leN x.toNat K).take (j + 1) = (leN x.toNat K).take j ++ [x / 2 ^ (8 * j) % 256] := by
  rw [take_snoc' _ _ _ (leN_at K x.toNat j h)]
  congr 2
  obtain ⟨m, rfl⟩ := Int.eq_ofNat_of_zero_le x0
  simp
/-- How all stands once a field's head is made. -/
structure Part (w wp : World) (x : Nat) (bv pv sv : Value) (zs ps bs : List Int) (a b c : Value) : Prop where
  bel : Below w.heap.size w wp
  own : wp.ownsRow w.heap.size 5 1 bv zs.length (u8l zs)
  part : wp.ownsRow w.heap.size 5 1 pv ps.length (u8l ps)
  box : wp.heap[x]? = some (.cells #[a, b, c, sv] 38 (0, 0))
  src : Src w sv bs
theorem Part.cells {w wp : World} {x : Nat} {bv pv sv : Value} {zs ps bs : List Int} {a b c : Value} (h : Part w wp x bv pv sv zs ps bs a b c) :
    wp.cell? ⟨x, 0, none⟩ = some a ∧ wp.cell? ⟨x, 1, none⟩ = some b ∧ wp.cell? ⟨x, 2, none⟩ = some c ∧ wp.cell? ⟨x, 3, none⟩ = some sv := box4b (base := 0) h.box rfl
theorem Part.call {w wp wq : World} {x : Nat} {bv pv pv' sv : Value} {zs ps ps' bs : List Int} {a b c : Value} (h : Part w wp x bv pv sv zs ps bs a b c) (hb : Below wp.heap.size wp wq) (ho : wq.ownsRow wp.heap.size 5 1 pv' ps'.length (u8l ps')) : Part w wq x bv pv' sv zs ps' bs a b c :=
  ⟨h.bel.trans (hb.mono h.bel.size), own_kept h.own fun g _ hg => hb.block g hg, own_low ho h.bel.size, (hb.block _ (Array.getElem?_eq_some_iff.1 h.box).1).trans h.box, h.src⟩
/-- Its own row grows. -/
theorem Part.grew {w wp wq : World} {x : Nat} {bv pv pv' sv : Value} {zs ps ps' bs : List Int} {a b c : Value} (h : Part w wp x bv pv sv zs ps bs a b c) (hg : Gr pv wp pv' wq) (hne : ∀ q, bv.ownBlock = some q → pv.ownBlock ≠ some q) (ho : wq.ownsRow w.heap.size 5 1 pv' ps'.length (u8l ps')) : Part w wq x bv pv' sv zs ps' bs a b c := by
  have hB : Below w.heap.size wp wq := hg.below h.bel.size (ownBlock_ge h.part)
  refine ⟨h.bel.trans hB, own_at h.own fun q hq => hg.block q (h.own.lt q hq).2 (hne q hq), ho, (hg.block _ (Array.getElem?_eq_some_iff.1 h.box).1 ?_).trans h.box, h.src⟩
  intro e
  obtain ⟨cur, hc⟩ := own_tag h.part e
  exact ne_tag h.box hc (by decide) rfl

set_option maxRecDepth 100000 in
set_option maxHeartbeats 8000000 in
theorem rwrite_any (v : Value) (fs : List Fd) (w : World) (hF : Fds w v fs) (hf : ∀ f ∈ fs, f.Fit) : Calls Try.prog 7 #[v] w fun e w' => Wrote w.heap.size w' e (wrI fs) ∧ Below w.heap.size w w' := by
  obtain ⟨sa, cap, rfl, hcap, hC⟩ := hF
  by_cases hfull : 4096 < fs.length
  · have hfi : 4096 < (fs.length : Int) := by omega
    rw [wr_full hfull]
    clear hC
    generalize fs.length = n at *
    go_enter Try.func7, Try.ntmps7
    go_wp2_with fail
    go_ret2
    exact ⟨⟨_, rfl, World.ownsRow_nil _ _ _ _⟩, Below.refl _ _⟩
  · have HC : Hid (∀ i f, fs[i]? = some f → ∃ b off qa l c, sa = some ⟨b, off, none⟩ ∧ FCell w b (off + i * 4) f qa l c) := hC
    have HF : Hid (∀ f ∈ fs, f.Fit) := hf
    have HFU : Hid (¬ 4096 < fs.length) := hfull
    obtain ⟨n, hn⟩ : ∃ n, fs.length = n := ⟨_, rfl⟩
    have HN : Hid (fs.length = n) := hn
    rw [hn] at hcap hfull ⊢
    have n0 : (n : Int) ≤ 4096 := by omega
    have n1 : (n : Int) ≤ (cap : Int) := by omega
    have d0 : decide (4096 < (n : Int)) = false := by simpa using n0
    obtain ⟨r, hr⟩ : ∃ r, wrI fs = r := ⟨_, rfl⟩
    have HR : Hid (wrI fs = r) := hr
    rw [hr]
    clear hC hf hn hcap hfull hr
    go_enter Try.func7, Try.ntmps7
    go_wp2_with fail
    go_loopw [4, 5, 6] (fun x g i wr => ∃ (k : Nat) (lg : Bool) (zs : List Int), k ≤ n ∧ i = .int .i64 (k : Int) ∧ g = .bool lg ∧ wr.ownsRow w.heap.size 5 1 x zs.length (u8l zs) ∧ (zs.length : Int) ≤ 1048576 ∧ (lg = false → zs = encL (fs.take k)) ∧ (lg = true → 1048576 < ((encL (fs.take k)).length : Int)) ∧ (fs.take k).all okF = true ∧ Below w.heap.size w wr) (fun x g i wr => n - (intOf i).toNat)
    case atStart => exact ⟨0, false, [], by omega, rfl, rfl, World.ownsRow_nil _ _ _ _, by decide, fun _ => rfl, (fun h => by cases h), rfl, Below.refl _ _⟩
    case round =>
      obtain ⟨k, lg, zs, hk, rfl, rfl, hown, hzl, hl0, hl1, hok, hbel⟩ := hrel
      obtain ⟨ba, bc, hbv⟩ := own_slice hown
      subst hbv
      have HOW : Hid (wr.ownsRow w.heap.size 5 1 (.slice ba zs.length bc) zs.length (u8l zs)) := hown
      obtain ⟨L, hL⟩ : ∃ L, zs.length = L := ⟨_, rfl⟩
      have HL : Hid (zs.length = L) := hL
      rw [hL] at HOW hzl ⊢
      have HLG : Hid ((lg = false → zs = encL (fs.take k)) ∧ (lg = true → 1048576 < ((encL (fs.take k)).length : Int)) ∧ (fs.take k).all okF = true) := ⟨hl0, hl1, hok⟩
      have HBE : Hid (Below w.heap.size w wr) := hbel
      clear hown hl0 hl1 hok hbel hL
      by_cases hlt : k < n
      · obtain ⟨f, hfk⟩ : ∃ f, fs[k]? = some f := ⟨_, List.getElem?_eq_getElem (by have := HN.out; omega)⟩
        obtain ⟨b, off, qa, l, c, hsa, hcell⟩ := HC.out k f hfk
        subst hsa
        have hcw := hcell.later HBE.out
        obtain ⟨c0, c1, c2, c3, csrc⟩ := hcw
        have hlen := hcell.len
        have hfit := HF.out f (List.mem_of_getElem? hfk)
        have HFK : Hid (fs[k]? = some f ∧ f.b.length = l ∧ FCell w b (off + k * 4) f qa l c ∧ f.Fit) := ⟨hfk, hlen, hcell, hfit⟩
        cases hkf : okF f with
        | false =>
          have hbad : fs.all okF = false := by
            rw [List.all_eq_false]
            exact ⟨f, List.mem_of_getElem? hfk, by simp [hkf]⟩
          have HBAD : Hid (r = ([], 30)) := by show _ = _; rw [← HR.out, wr_bad HFU.out hbad]
          have hok' : okN f.num f.typ f.n l = false := by rw [← hlen]; exact hkf
          have hbc := bad_cases hok'
          have tc := typ_cases f.typ
          clear hfk hcell csrc hlen hfit hbad hok' hkf
          generalize (f.n : Int) = x at *
          generalize f.num = num at *
          generalize f.typ = typ at *
          rcases hbc with h | h | ⟨h1, h2, ⟨t0, t1, t2, t5⟩ | ⟨rfl, h⟩ | ⟨rfl, h⟩ | ⟨rfl, h⟩ | ⟨rfl, h⟩ | ⟨rfl, h, h'⟩⟩
          · rcases tc with rfl | rfl | rfl | rfl | ⟨t0, t1, t2, t5⟩
            all_goals
              go_wp2_with fail
              go_ret2
              rw [HBAD.out]
              exact ⟨⟨_, rfl, World.ownsRow_nil _ _ _ _⟩, HBE.out.trans ((bel1 _ _).mono HBE.out.size)⟩
          · rcases tc with rfl | rfl | rfl | rfl | ⟨t0, t1, t2, t5⟩
            all_goals
              go_wp2_with fail
              go_ret2
              rw [HBAD.out]
              exact ⟨⟨_, rfl, World.ownsRow_nil _ _ _ _⟩, HBE.out.trans ((bel1 _ _).mono HBE.out.size)⟩
          all_goals
            clear tc
            go_wp2_with fail
            go_ret2
            rw [HBAD.out]
            exact ⟨⟨_, rfl, World.ownsRow_nil _ _ _ _⟩, HBE.out.trans ((bel1 _ _).mono HBE.out.size)⟩
        | true =>
          have hok' : okN f.num f.typ f.n l = true := by rw [← hlen]; exact hkf
          obtain ⟨h1, h2, h3⟩ := ok_cases hok'
          have HKF : Hid (okF f = true) := hkf
          have hxn := hfit.n
          have hsh := hfit.short
          rw [hlen] at hsh
          obtain ⟨x, hx⟩ : ∃ x : Int, (f.n : Int) = x := ⟨_, rfl⟩
          have HX : Hid ((f.n : Int) = x ∧ 0 ≤ x ∧ x < 18446744073709551616) := ⟨hx, by omega, by omega⟩
          obtain ⟨num, hnum⟩ : ∃ num, f.num = num := ⟨_, rfl⟩
          obtain ⟨typ, htyp⟩ : ∃ typ, f.typ = typ := ⟨_, rfl⟩
          have HNT : Hid (f.num = num ∧ f.typ = typ) := ⟨hnum, htyp⟩
          rw [hx] at c2
          rw [hnum] at c0 h1 h2
          rw [htyp] at c1 h3
          have h2' : num < 536870912 := by omega
          have h3x : typ = 0 ∧ (l : Int) = 0 ∨ typ = 1 ∧ (l : Int) = 0 ∨ typ = 2 ∧ x = 0 ∨ typ = 5 ∧ x < 4294967296 ∧ (l : Int) = 0 := by omega
          clear hfk hcell csrc hlen hfit hkf hok' hx hnum htyp h3 hxn
          cases lg with
          | true =>
            rcases h3x with ⟨rfl, hl⟩ | ⟨rfl, hl⟩ | ⟨rfl, hl⟩ | ⟨rfl, hx5, hl⟩
            all_goals
              go_wp2_with fail
              go_roundw
              case rel =>
                have e := take_snoc' fs k f HFK.out.1
                refine ⟨k + 1, true, zs, by omega, by go_num, rfl, ?_, by rw [HL.out]; exact hzl, (fun h => by cases h), fun _ => ?_, ?_, HBE.out.trans ((bel1 _ _).mono HBE.out.size)⟩
                · rw [HL.out]; exact HOW.out.alloc _
                · have h := HLG.out.2.1 (by trivial)
                  rw [e, encL_app, List.length_append]
                  omega
                · rw [e, List.all_append, HLG.out.2.2]
                  simp [HKF.out]
              case measure => simp [intOf]; omega
          | false =>
            rcases h3x with ⟨rfl, hl⟩ | ⟨rfl, hl⟩ | ⟨rfl, rfl⟩ | ⟨rfl, hx5, hl⟩
            · go_wp2_with fail
              have hput := put_any (.slice none 0 0) [] (8 * num) (wr.alloc (.cells #[.int .i64 num, .int .i64 0, .int .u64 x, .slice qa l c] 38)) (by omega) (by omega) (.inl ⟨rfl, rfl⟩) (by decide)
              refine hput.mono ?_
              rintro e w1 ⟨⟨v1, rfl, ho1⟩, hb1⟩
              have hq1 : Part w w1 wr.heap.size (.slice ba L bc) v1 (.slice qa l c) zs (vN ((8 * num)).toNat) f.b (.int .i64 num) (.int .i64 0) (.int .u64 x) := by
                refine ⟨HBE.out.trans (((bel1 _ _).trans (hb1.mono (by simp))).mono HBE.out.size), ?_, own_low ho1 (by have := HBE.out.size; simp; omega), (hb1.block _ (by simp)).trans (Go.heap_alloc_new _ _), HFK.out.2.2.1.src⟩
                have h := HOW.out
                rw [← HL.out] at h ⊢
                exact own_kept (h.alloc _) fun g _ hg => hb1.block g hg
              have HQ1 : Hid (Part w w1 wr.heap.size (.slice ba L bc) v1 (.slice qa l c) zs (vN ((8 * num)).toNat) f.b (.int .i64 num) (.int .i64 0) (.int .u64 x)) := hq1
              have HB1 : Hid (∀ q, (Value.slice ba L bc).ownBlock = some q → v1.ownBlock ≠ some q) := fun q hq e => by have h1 := (HOW.out.lt q hq).2; have h2 := (ho1.lt q e).1; simp at h2; omega
              obtain ⟨a0, a1, a2, a3⟩ := hq1.cells
              clear ho1 hb1 hq1 hput
              go_wp2_with fail
              refine (put_any v1 (vN (8 * num).toNat) x w1 HX.out.2.1 HX.out.2.2 (own_src HQ1.out.part) (by have h := (vN_le10 (8 * num).toNat (by omega)).1; omega)).mono ?_
              rintro e wp ⟨⟨pv, rfl, ho2⟩, hb2⟩
              have hq := HQ1.out.call hb2 ho2
              have hpe : (vN (8 * num).toNat ++ vN x.toNat) ++ f.b = encF f := by
                have h1 := HNT.out
                have h2 := HX.out
                have h3 : f.b = [] := List.eq_nil_of_length_eq_zero (by rw [HFK.out.2.1]; omega)
                rw [h3, List.append_nil]
                unfold encF hdF bodyF
                rw [h1.1, h1.2, if_neg (by decide), if_neg (by decide), if_neg (by decide)]
                congr 2
                · omega
                · omega
              have hps : (vN (8 * num).toNat ++ vN x.toNat).length ≤ 1000 := by
                have h1 := (vN_le10 (8 * num).toNat (by omega)).1
                have h2 := (vN_le10 x.toNat (by have := HX.out; omega)).1
                rw [List.length_append]; omega
              generalize vN (8 * num).toNat ++ vN x.toNat = ps at *
              clear ho2 hb2 a0 a1 a2 a3
              have HQ : Hid (Part w wp wr.heap.size (.slice ba L bc) pv (.slice qa l c) zs ps f.b (.int .i64 num) (.int .i64 0) (.int .u64 x)) := hq
              obtain ⟨pa, pc, hpv⟩ := own_slice hq.part
              subst hpv
              obtain ⟨P, hP⟩ : ∃ P, ps.length = P := ⟨_, rfl⟩
              have HPL : Hid (ps.length = P ∧ ps ++ f.b = encF f) := ⟨hP, hpe⟩
              have p0 : (P : Int) ≤ 1000 := by rw [← hP]; exact_mod_cast hps
              obtain ⟨e0, e1, e2, e3⟩ := hq.cells
              rw [hP] at HQ ⊢
              clear hq hP hpe hps
              by_cases hlg : 1048576 - (L : Int) < (P : Int) + (l : Int)
              · have HNL : Hid (1048576 < ((encL (fs.take (k + 1))).length : Int)) := by
                  show _ < _
                  have e := take_snoc' fs k f HFK.out.1
                  have hz := HLG.out.1 (by trivial)
                  have h1 := congrArg List.length HPL.out.2
                  rw [List.length_append, HPL.out.1, HFK.out.2.1] at h1
                  have h2 := HL.out
                  rw [hz] at h2
                  rw [e, encL_app, List.length_append, h2]
                  simp only [encL, List.append_nil]
                  omega
                have HAL : Hid ((fs.take (k + 1)).all okF = true) := by
                  show _ = _
                  rw [take_snoc' fs k f HFK.out.1, List.all_append, HLG.out.2.2]
                  simp [HKF.out]
                have hlb : ¬ 1048576 - (L : Int) < (l : Int) := by omega
                all_goals
                  go_wp2_with fail
                  go_roundw
                  case rel =>
                    refine ⟨k + 1, true, zs, by omega, by go_num, rfl, HQ.out.own, by rw [HL.out]; exact hzl, (fun h => by cases h), fun _ => HNL.out, HAL.out, HQ.out.bel⟩
                  case measure => simp [intOf]; omega
              · have hl' : ¬ 1048576 - (L : Int) < (l : Int) := by omega
                go_wp2_with (first | (at_builtin; (refine wpList_append_src rfl (.tmp 135) (.tmp 136) rfl w.heap.size (.slice ba L bc) L (u8l zs) rfl (by have h := HQ.out.own; rw [HL.out] at h; exact h) (.slice pa P pc) ps rfl (by have h := own_src HQ.out.part; exact h) (by have h := HPL.out.1; omega) HQ.out.bel.size ?_; intro v5 w5 ho5 hg5; (have HO5 : Hid (w5.ownsRow w.heap.size 5 1 v5 (L + P) (u8l zs ++ u8l ps)) := (by have h := ho5; rw [HPL.out.1] at h; exact h)); (have HB5 : Hid (Below w.heap.size w w5) := HQ.out.bel.grown hg5 HQ.out.bel.size (ownBlock_ge HQ.out.own)); (have hk5 := hg5.block _ (Array.getElem?_eq_some_iff.1 HQ.out.box).1 (by intro e; obtain ⟨cur, hc⟩ := own_tag HQ.out.own e.symm; exact ne_tag HQ.out.box hc (by decide) rfl)); (obtain ⟨g0, g1, g2, g3⟩ := box4b (base := 0) HQ.out.box hk5); clear ho5 hg5 hk5)) | (at_builtin; (refine wpList_append_src rfl (.tmp 138) (.tmp 140) rfl w.heap.size v5 (L + P) (u8l zs ++ u8l ps) rfl HO5.out (.slice qa l c) f.b rfl (HQ.out.src.later HB5.out) (by have h := HFK.out.2.1; omega) HB5.out.size ?_; intro v6 w6 ho6 hg6; (have HO6 : Hid (w6.ownsRow w.heap.size 5 1 v6 (L + P + f.b.length) (u8l zs ++ u8l ps ++ u8l f.b)) := ho6); (have HB6 : Hid (Below w.heap.size w w6) := HB5.out.grown hg6 HB5.out.size (ownBlock_ge HO5.out)); clear ho6 hg6)))
                go_roundw
                case rel =>
                  have e := take_snoc' fs k f HFK.out.1
                  have hz := HLG.out.1 (by trivial)
                  refine ⟨k + 1, false, zs ++ encF f, by omega, by go_num, rfl, ?_, ?_, fun _ => ?_, (fun h => by cases h), ?_, HB6.out⟩
                  · rw [← HPL.out.2, ← List.append_assoc, ← u8l_app, ← u8l_app]
                    exact own_lens HO6.out (by rw [List.length_append, List.length_append, HL.out, HPL.out.1])
                  · have h1 := congrArg List.length HPL.out.2
                    rw [List.length_append, HPL.out.1, HFK.out.2.1] at h1
                    rw [List.length_append, HL.out]
                    omega
                  · rw [e, encL_app, hz]
                    simp [encL]
                  · rw [e, List.all_append, HLG.out.2.2]
                    simp [HKF.out]
                case measure => simp [intOf]; omega
            · go_wp2_with fail
              have hput := put_any (.slice none 0 0) [] (8 * num + 1) (wr.alloc (.cells #[.int .i64 num, .int .i64 1, .int .u64 x, .slice qa l c] 38)) (by omega) (by omega) (.inl ⟨rfl, rfl⟩) (by decide)
              refine hput.mono ?_
              rintro e w1 ⟨⟨v1, rfl, ho1⟩, hb1⟩
              have hq1 : Part w w1 wr.heap.size (.slice ba L bc) v1 (.slice qa l c) zs (vN ((8 * num + 1)).toNat) f.b (.int .i64 num) (.int .i64 1) (.int .u64 x) := by
                refine ⟨HBE.out.trans (((bel1 _ _).trans (hb1.mono (by simp))).mono HBE.out.size), ?_, own_low ho1 (by have := HBE.out.size; simp; omega), (hb1.block _ (by simp)).trans (Go.heap_alloc_new _ _), HFK.out.2.2.1.src⟩
                have h := HOW.out
                rw [← HL.out] at h ⊢
                exact own_kept (h.alloc _) fun g _ hg => hb1.block g hg
              have HQ1 : Hid (Part w w1 wr.heap.size (.slice ba L bc) v1 (.slice qa l c) zs (vN ((8 * num + 1)).toNat) f.b (.int .i64 num) (.int .i64 1) (.int .u64 x)) := hq1
              have HB1 : Hid (∀ q, (Value.slice ba L bc).ownBlock = some q → v1.ownBlock ≠ some q) := fun q hq e => by have h1 := (HOW.out.lt q hq).2; have h2 := (ho1.lt q e).1; simp at h2; omega
              obtain ⟨a0, a1, a2, a3⟩ := hq1.cells
              clear ho1 hb1 hq1 hput
              go_wp2_with fail
              obtain ⟨X, hXX⟩ : ∃ X, wr.heap.size = X := ⟨_, rfl⟩
              rw [hXX] at HQ1 a0 a1 a2 a3 ⊢
              have HXX : Hid (wr.heap.size = X) := hXX
              clear hXX
              go_loopw [9, 11] (fun pv i wz => ∃ j : Nat, j ≤ 8 ∧ i = .int .i64 (j : Int) ∧ Part w wz X (.slice ba L bc) pv (.slice qa l c) zs (vN (8 * num + 1).toNat ++ (leN x.toNat 8).take j) f.b (.int .i64 num) (.int .i64 1) (.int .u64 x) ∧ (∀ q, (Value.slice ba L bc).ownBlock = some q → pv.ownBlock ≠ some q)) (fun pv i wz => 8 - (intOf i).toNat)
              case atStart => exact ⟨0, by omega, rfl, by simpa using HQ1.out, HB1.out⟩
              case round =>
                obtain ⟨j, hj, rfl, hq, hne⟩ := hrel
                have HQ : Hid (Part w wr X (.slice ba L bc) u9 (.slice qa l c) zs (vN (8 * num + 1).toNat ++ (leN x.toNat 8).take j) f.b (.int .i64 num) (.int .i64 1) (.int .u64 x)) := hq
                have HNE : Hid (∀ q, (Value.slice ba L bc).ownBlock = some q → u9.ownBlock ≠ some q) := hne
                obtain ⟨b0, b1, b2, b3⟩ := hq.cells
                have x0 := HX.out.2.1
                have hpl : ((vN (8 * num + 1).toNat ++ (leN x.toNat 8).take j).length : Int) ≤ 100 := by
                  have h1 := (vN_le10 (8 * num + 1).toNat (by omega)).1
                  rw [List.length_append, List.length_take, leN_len]
                  omega
                clear hne a0 a1 a2 a3
                by_cases hj8 : (j : Int) < 8
                · clear hq
                  obtain ⟨ps0, hps0⟩ : ∃ ps0, vN (8 * num + 1).toNat ++ (leN x.toNat 8).take j = ps0 := ⟨_, rfl⟩
                  have HP0 : Hid (vN (8 * num + 1).toNat ++ (leN x.toNat 8).take j = ps0) := hps0
                  rw [hps0] at HQ hpl
                  have HPL0 : Hid ((ps0.length : Int) ≤ 100) := hpl
                  clear hps0 hpl
                  go_wp2_with (at_builtin; (refine wpList_append_one rfl (.tmp 98) (.tmp 106) rfl w.heap.size u9 _ _ rfl wr HQ.out.part _ rfl rfl (by have := HPL0.out; omega) HQ.out.bel.size ?_; intro g' c' w' ho' hb'; (have HO2 : Hid (w'.ownsRow w.heap.size 5 1 (.slice (some ⟨g', 0, none⟩) (ps0.length + 1) c') (ps0.length + 1) (u8l ps0 ++ u8l [x / 2 ^ (8 * j) % 256])) := ho'); (have HB2 : Hid (Gr u9 wr (.slice (some ⟨g', 0, none⟩) (ps0.length + 1) c') w') := hb'); clear ho' hb'))
                  go_roundw
                  case rel =>
                    refine ⟨j + 1, by omega, by go_num, HQ.out.grew HB2.out HNE.out ?_, fun q hq e => ?_⟩
                    · rw [leN_snoc 8 j x (by omega) x0, ← List.append_assoc, HP0.out, ← u8l_app]
                      exact own_lens HO2.out (by simp)
                    · rcases HB2.out.near q e with h | h
                      · exact HNE.out q hq h
                      · have := (HQ.out.own.lt q hq).2; omega
                  case measure => simp [intOf]; omega
                · have hjK : j = 8 := by omega
                  subst hjK
                  have hl8 : (leN x.toNat 8).take 8 = leN x.toNat 8 := List.take_of_length_le (by rw [leN_len]; omega)
                  rw [hl8] at hq
                  have hpe : (vN (8 * num + 1).toNat ++ leN x.toNat 8) ++ f.b = encF f := by
                    have h1 := HNT.out
                    have h2 := HX.out
                    have h3 : f.b = [] := List.eq_nil_of_length_eq_zero (by rw [HFK.out.2.1]; omega)
                    rw [h3, List.append_nil]
                    unfold encF hdF bodyF
                    rw [h1.1, h1.2, if_neg (by decide), if_neg (by decide), if_pos rfl]
                    congr 2
                    · omega
                    · omega
                  have hps : (vN (8 * num + 1).toNat ++ leN x.toNat 8).length ≤ 1000 := by
                    have h1 := (vN_le10 (8 * num + 1).toNat (by omega)).1
                    rw [List.length_append, leN_len]; omega
                  clear HQ hpl hl8
                  generalize vN (8 * num + 1).toNat ++ leN x.toNat 8 = ps at *
                  generalize hpv9 : u9 = pv at *
                  clear hpv9 b0 b1 b2 b3
                  have hzl2 := hzl
                  have HQ : Hid (Part w wr X (.slice ba L bc) pv (.slice qa l c) zs ps f.b (.int .i64 num) (.int .i64 1) (.int .u64 x)) := hq
                  obtain ⟨pa, pc, hpv⟩ := own_slice hq.part
                  subst hpv
                  obtain ⟨P, hP⟩ : ∃ P, ps.length = P := ⟨_, rfl⟩
                  have HPL : Hid (ps.length = P ∧ ps ++ f.b = encF f) := ⟨hP, hpe⟩
                  have p0 : (P : Int) ≤ 1000 := by rw [← hP]; exact_mod_cast hps
                  obtain ⟨e0, e1, e2, e3⟩ := hq.cells
                  rw [hP] at HQ ⊢
                  clear hq hP hpe hps
                  by_cases hlg : 1048576 - (L : Int) < (P : Int) + (l : Int)
                  · have HNL : Hid (1048576 < ((encL (fs.take (k + 1))).length : Int)) := by
                      show _ < _
                      have e := take_snoc' fs k f HFK.out.1
                      have hz := HLG.out.1 (by trivial)
                      have h1 := congrArg List.length HPL.out.2
                      rw [List.length_append, HPL.out.1, HFK.out.2.1] at h1
                      have h2 := HL.out
                      rw [hz] at h2
                      rw [e, encL_app, List.length_append, h2]
                      simp only [encL, List.append_nil]
                      omega
                    have HAL : Hid ((fs.take (k + 1)).all okF = true) := by
                      show _ = _
                      rw [take_snoc' fs k f HFK.out.1, List.all_append, HLG.out.2.2]
                      simp [HKF.out]
                    have hlb : ¬ 1048576 - (L : Int) < (l : Int) := by omega
                    all_goals
                      go_wp2_with fail
                      go_roundw
                      case rel =>
                        refine ⟨k + 1, true, zs, by omega, by go_num, rfl, HQ.out.own, by rw [HL.out]; exact hzl, (fun h => by cases h), fun _ => HNL.out, HAL.out, HQ.out.bel⟩
                      case measure => simp [intOf]; omega
                  · have hl' : ¬ 1048576 - (L : Int) < (l : Int) := by omega
                    go_wp2_with (first | (at_builtin; (refine wpList_append_src rfl (.tmp 135) (.tmp 136) rfl w.heap.size (.slice ba L bc) L (u8l zs) rfl (by have h := HQ.out.own; rw [HL.out] at h; exact h) (.slice pa P pc) ps rfl (by have h := own_src HQ.out.part; exact h) (by have h := HPL.out.1; omega) HQ.out.bel.size ?_; intro v5 w5 ho5 hg5; (have HO5 : Hid (w5.ownsRow w.heap.size 5 1 v5 (L + P) (u8l zs ++ u8l ps)) := (by have h := ho5; rw [HPL.out.1] at h; exact h)); (have HB5 : Hid (Below w.heap.size w w5) := HQ.out.bel.grown hg5 HQ.out.bel.size (ownBlock_ge HQ.out.own)); (have hk5 := hg5.block _ (Array.getElem?_eq_some_iff.1 HQ.out.box).1 (by intro e; obtain ⟨cur, hc⟩ := own_tag HQ.out.own e.symm; exact ne_tag HQ.out.box hc (by decide) rfl)); (obtain ⟨g0, g1, g2, g3⟩ := box4b (base := 0) HQ.out.box hk5); clear ho5 hg5 hk5)) | (at_builtin; (refine wpList_append_src rfl (.tmp 138) (.tmp 140) rfl w.heap.size v5 (L + P) (u8l zs ++ u8l ps) rfl HO5.out (.slice qa l c) f.b rfl (HQ.out.src.later HB5.out) (by have h := HFK.out.2.1; omega) HB5.out.size ?_; intro v6 w6 ho6 hg6; (have HO6 : Hid (w6.ownsRow w.heap.size 5 1 v6 (L + P + f.b.length) (u8l zs ++ u8l ps ++ u8l f.b)) := ho6); (have HB6 : Hid (Below w.heap.size w w6) := HB5.out.grown hg6 HB5.out.size (ownBlock_ge HO5.out)); clear ho6 hg6)))
                    go_roundw
                    case rel =>
                      have e := take_snoc' fs k f HFK.out.1
                      have hz := HLG.out.1 (by trivial)
                      refine ⟨k + 1, false, zs ++ encF f, by omega, by go_num, rfl, ?_, ?_, fun _ => ?_, (fun h => by cases h), ?_, HB6.out⟩
                      · rw [← HPL.out.2, ← List.append_assoc, ← u8l_app, ← u8l_app]
                        exact own_lens HO6.out (by rw [List.length_append, List.length_append, HL.out, HPL.out.1])
                      · have h1 := congrArg List.length HPL.out.2
                        rw [List.length_append, HPL.out.1, HFK.out.2.1] at h1
                        rw [List.length_append, HL.out]
                        omega
                      · rw [e, encL_app, hz]
                        simp [encL]
                      · rw [e, List.all_append, HLG.out.2.2]
                        simp [HKF.out]
                    case measure => simp [intOf]; omega
            · go_wp2_with fail
              have hput := put_any (.slice none 0 0) [] (8 * num + 2) (wr.alloc (.cells #[.int .i64 num, .int .i64 2, .int .u64 0, .slice qa l c] 38)) (by omega) (by omega) (.inl ⟨rfl, rfl⟩) (by decide)
              refine hput.mono ?_
              rintro e w1 ⟨⟨v1, rfl, ho1⟩, hb1⟩
              have hq1 : Part w w1 wr.heap.size (.slice ba L bc) v1 (.slice qa l c) zs (vN ((8 * num + 2)).toNat) f.b (.int .i64 num) (.int .i64 2) (.int .u64 0) := by
                refine ⟨HBE.out.trans (((bel1 _ _).trans (hb1.mono (by simp))).mono HBE.out.size), ?_, own_low ho1 (by have := HBE.out.size; simp; omega), (hb1.block _ (by simp)).trans (Go.heap_alloc_new _ _), HFK.out.2.2.1.src⟩
                have h := HOW.out
                rw [← HL.out] at h ⊢
                exact own_kept (h.alloc _) fun g _ hg => hb1.block g hg
              have HQ1 : Hid (Part w w1 wr.heap.size (.slice ba L bc) v1 (.slice qa l c) zs (vN ((8 * num + 2)).toNat) f.b (.int .i64 num) (.int .i64 2) (.int .u64 0)) := hq1
              have HB1 : Hid (∀ q, (Value.slice ba L bc).ownBlock = some q → v1.ownBlock ≠ some q) := fun q hq e => by have h1 := (HOW.out.lt q hq).2; have h2 := (ho1.lt q e).1; simp at h2; omega
              obtain ⟨a0, a1, a2, a3⟩ := hq1.cells
              clear ho1 hb1 hq1 hput
              go_wp2_with fail
              refine (put_any v1 (vN (8 * num + 2).toNat) (l : Int) w1 (by omega) (by omega) (own_src HQ1.out.part) (by have h := (vN_le10 (8 * num + 2).toNat (by omega)).1; omega)).mono ?_
              rintro e wp ⟨⟨pv, rfl, ho2⟩, hb2⟩
              have hq := HQ1.out.call hb2 ho2
              rw [Int.toNat_natCast] at hq
              have hpe : (vN (8 * num + 2).toNat ++ vN l) ++ f.b = encF f := by
                have h1 := HNT.out
                unfold encF hdF bodyF
                rw [h1.1, h1.2, if_pos rfl, HFK.out.2.1, List.append_assoc]
                congr 2
                omega
              have hps : (vN (8 * num + 2).toNat ++ vN l).length ≤ 1000 := by
                have h1 := (vN_le10 (8 * num + 2).toNat (by omega)).1
                have h2 := (vN_le10 l (by omega)).1
                rw [List.length_append]; omega
              generalize vN (8 * num + 2).toNat ++ vN l = ps at *
              clear ho2 hb2 a0 a1 a2 a3
              have HQ : Hid (Part w wp wr.heap.size (.slice ba L bc) pv (.slice qa l c) zs ps f.b (.int .i64 num) (.int .i64 2) (.int .u64 0)) := hq
              obtain ⟨pa, pc, hpv⟩ := own_slice hq.part
              subst hpv
              obtain ⟨P, hP⟩ : ∃ P, ps.length = P := ⟨_, rfl⟩
              have HPL : Hid (ps.length = P ∧ ps ++ f.b = encF f) := ⟨hP, hpe⟩
              have p0 : (P : Int) ≤ 1000 := by rw [← hP]; exact_mod_cast hps
              obtain ⟨e0, e1, e2, e3⟩ := hq.cells
              rw [hP] at HQ ⊢
              clear hq hP hpe hps
              by_cases hlg : 1048576 - (L : Int) < (P : Int) + (l : Int)
              · have HNL : Hid (1048576 < ((encL (fs.take (k + 1))).length : Int)) := by
                  show _ < _
                  have e := take_snoc' fs k f HFK.out.1
                  have hz := HLG.out.1 (by trivial)
                  have h1 := congrArg List.length HPL.out.2
                  rw [List.length_append, HPL.out.1, HFK.out.2.1] at h1
                  have h2 := HL.out
                  rw [hz] at h2
                  rw [e, encL_app, List.length_append, h2]
                  simp only [encL, List.append_nil]
                  omega
                have HAL : Hid ((fs.take (k + 1)).all okF = true) := by
                  show _ = _
                  rw [take_snoc' fs k f HFK.out.1, List.all_append, HLG.out.2.2]
                  simp [HKF.out]
                by_cases hlb : 1048576 - (L : Int) < (l : Int)
                all_goals
                  go_wp2_with fail
                  go_roundw
                  case rel =>
                    refine ⟨k + 1, true, zs, by omega, by go_num, rfl, HQ.out.own, by rw [HL.out]; exact hzl, (fun h => by cases h), fun _ => HNL.out, HAL.out, HQ.out.bel⟩
                  case measure => simp [intOf]; omega
              · have hl' : ¬ 1048576 - (L : Int) < (l : Int) := by omega
                go_wp2_with (first | (at_builtin; (refine wpList_append_src rfl (.tmp 135) (.tmp 136) rfl w.heap.size (.slice ba L bc) L (u8l zs) rfl (by have h := HQ.out.own; rw [HL.out] at h; exact h) (.slice pa P pc) ps rfl (by have h := own_src HQ.out.part; exact h) (by have h := HPL.out.1; omega) HQ.out.bel.size ?_; intro v5 w5 ho5 hg5; (have HO5 : Hid (w5.ownsRow w.heap.size 5 1 v5 (L + P) (u8l zs ++ u8l ps)) := (by have h := ho5; rw [HPL.out.1] at h; exact h)); (have HB5 : Hid (Below w.heap.size w w5) := HQ.out.bel.grown hg5 HQ.out.bel.size (ownBlock_ge HQ.out.own)); (have hk5 := hg5.block _ (Array.getElem?_eq_some_iff.1 HQ.out.box).1 (by intro e; obtain ⟨cur, hc⟩ := own_tag HQ.out.own e.symm; exact ne_tag HQ.out.box hc (by decide) rfl)); (obtain ⟨g0, g1, g2, g3⟩ := box4b (base := 0) HQ.out.box hk5); clear ho5 hg5 hk5)) | (at_builtin; (refine wpList_append_src rfl (.tmp 138) (.tmp 140) rfl w.heap.size v5 (L + P) (u8l zs ++ u8l ps) rfl HO5.out (.slice qa l c) f.b rfl (HQ.out.src.later HB5.out) (by have h := HFK.out.2.1; omega) HB5.out.size ?_; intro v6 w6 ho6 hg6; (have HO6 : Hid (w6.ownsRow w.heap.size 5 1 v6 (L + P + f.b.length) (u8l zs ++ u8l ps ++ u8l f.b)) := ho6); (have HB6 : Hid (Below w.heap.size w w6) := HB5.out.grown hg6 HB5.out.size (ownBlock_ge HO5.out)); clear ho6 hg6)))
                go_roundw
                case rel =>
                  have e := take_snoc' fs k f HFK.out.1
                  have hz := HLG.out.1 (by trivial)
                  refine ⟨k + 1, false, zs ++ encF f, by omega, by go_num, rfl, ?_, ?_, fun _ => ?_, (fun h => by cases h), ?_, HB6.out⟩
                  · rw [← HPL.out.2, ← List.append_assoc, ← u8l_app, ← u8l_app]
                    exact own_lens HO6.out (by rw [List.length_append, List.length_append, HL.out, HPL.out.1])
                  · have h1 := congrArg List.length HPL.out.2
                    rw [List.length_append, HPL.out.1, HFK.out.2.1] at h1
                    rw [List.length_append, HL.out]
                    omega
                  · rw [e, encL_app, hz]
                    simp [encL]
                  · rw [e, List.all_append, HLG.out.2.2]
                    simp [HKF.out]
                case measure => simp [intOf]; omega
            · go_wp2_with fail
              have hput := put_any (.slice none 0 0) [] (8 * num + 5) (wr.alloc (.cells #[.int .i64 num, .int .i64 5, .int .u64 x, .slice qa l c] 38)) (by omega) (by omega) (.inl ⟨rfl, rfl⟩) (by decide)
              refine hput.mono ?_
              rintro e w1 ⟨⟨v1, rfl, ho1⟩, hb1⟩
              have hq1 : Part w w1 wr.heap.size (.slice ba L bc) v1 (.slice qa l c) zs (vN ((8 * num + 5)).toNat) f.b (.int .i64 num) (.int .i64 5) (.int .u64 x) := by
                refine ⟨HBE.out.trans (((bel1 _ _).trans (hb1.mono (by simp))).mono HBE.out.size), ?_, own_low ho1 (by have := HBE.out.size; simp; omega), (hb1.block _ (by simp)).trans (Go.heap_alloc_new _ _), HFK.out.2.2.1.src⟩
                have h := HOW.out
                rw [← HL.out] at h ⊢
                exact own_kept (h.alloc _) fun g _ hg => hb1.block g hg
              have HQ1 : Hid (Part w w1 wr.heap.size (.slice ba L bc) v1 (.slice qa l c) zs (vN ((8 * num + 5)).toNat) f.b (.int .i64 num) (.int .i64 5) (.int .u64 x)) := hq1
              have HB1 : Hid (∀ q, (Value.slice ba L bc).ownBlock = some q → v1.ownBlock ≠ some q) := fun q hq e => by have h1 := (HOW.out.lt q hq).2; have h2 := (ho1.lt q e).1; simp at h2; omega
              obtain ⟨a0, a1, a2, a3⟩ := hq1.cells
              clear ho1 hb1 hq1 hput
              go_wp2_with fail
              obtain ⟨X, hXX⟩ : ∃ X, wr.heap.size = X := ⟨_, rfl⟩
              rw [hXX] at HQ1 a0 a1 a2 a3 ⊢
              have HXX : Hid (wr.heap.size = X) := hXX
              clear hXX
              go_loopw [9, 11] (fun pv i wz => ∃ j : Nat, j ≤ 4 ∧ i = .int .i64 (j : Int) ∧ Part w wz X (.slice ba L bc) pv (.slice qa l c) zs (vN (8 * num + 5).toNat ++ (leN x.toNat 4).take j) f.b (.int .i64 num) (.int .i64 5) (.int .u64 x) ∧ (∀ q, (Value.slice ba L bc).ownBlock = some q → pv.ownBlock ≠ some q)) (fun pv i wz => 4 - (intOf i).toNat)
              case atStart => exact ⟨0, by omega, rfl, by simpa using HQ1.out, HB1.out⟩
              case round =>
                obtain ⟨j, hj, rfl, hq, hne⟩ := hrel
                have HQ : Hid (Part w wr X (.slice ba L bc) u9 (.slice qa l c) zs (vN (8 * num + 5).toNat ++ (leN x.toNat 4).take j) f.b (.int .i64 num) (.int .i64 5) (.int .u64 x)) := hq
                have HNE : Hid (∀ q, (Value.slice ba L bc).ownBlock = some q → u9.ownBlock ≠ some q) := hne
                obtain ⟨b0, b1, b2, b3⟩ := hq.cells
                have x0 := HX.out.2.1
                have hpl : ((vN (8 * num + 5).toNat ++ (leN x.toNat 4).take j).length : Int) ≤ 100 := by
                  have h1 := (vN_le10 (8 * num + 5).toNat (by omega)).1
                  rw [List.length_append, List.length_take, leN_len]
                  omega
                clear hne a0 a1 a2 a3
                by_cases hj8 : (j : Int) < 4
                · clear hq
                  obtain ⟨ps0, hps0⟩ : ∃ ps0, vN (8 * num + 5).toNat ++ (leN x.toNat 4).take j = ps0 := ⟨_, rfl⟩
                  have HP0 : Hid (vN (8 * num + 5).toNat ++ (leN x.toNat 4).take j = ps0) := hps0
                  rw [hps0] at HQ hpl
                  have HPL0 : Hid ((ps0.length : Int) ≤ 100) := hpl
                  clear hps0 hpl
                  go_wp2_with (at_builtin; (refine wpList_append_one rfl (.tmp 98) (.tmp 106) rfl w.heap.size u9 _ _ rfl wr HQ.out.part _ rfl rfl (by have := HPL0.out; omega) HQ.out.bel.size ?_; intro g' c' w' ho' hb'; (have HO2 : Hid (w'.ownsRow w.heap.size 5 1 (.slice (some ⟨g', 0, none⟩) (ps0.length + 1) c') (ps0.length + 1) (u8l ps0 ++ u8l [x / 2 ^ (8 * j) % 256])) := ho'); (have HB2 : Hid (Gr u9 wr (.slice (some ⟨g', 0, none⟩) (ps0.length + 1) c') w') := hb'); clear ho' hb'))
                  go_roundw
                  case rel =>
                    refine ⟨j + 1, by omega, by go_num, HQ.out.grew HB2.out HNE.out ?_, fun q hq e => ?_⟩
                    · rw [leN_snoc 4 j x (by omega) x0, ← List.append_assoc, HP0.out, ← u8l_app]
                      exact own_lens HO2.out (by simp)
                    · rcases HB2.out.near q e with h | h
                      · exact HNE.out q hq h
                      · have := (HQ.out.own.lt q hq).2; omega
                  case measure => simp [intOf]; omega
                · have hjK : j = 4 := by omega
                  subst hjK
                  have hl8 : (leN x.toNat 4).take 4 = leN x.toNat 4 := List.take_of_length_le (by rw [leN_len]; omega)
                  rw [hl8] at hq
                  have hpe : (vN (8 * num + 5).toNat ++ leN x.toNat 4) ++ f.b = encF f := by
                    have h1 := HNT.out
                    have h2 := HX.out
                    have h3 : f.b = [] := List.eq_nil_of_length_eq_zero (by rw [HFK.out.2.1]; omega)
                    rw [h3, List.append_nil]
                    unfold encF hdF bodyF
                    rw [h1.1, h1.2, if_neg (by decide), if_pos rfl]
                    congr 2
                    · omega
                    · omega
                  have hps : (vN (8 * num + 5).toNat ++ leN x.toNat 4).length ≤ 1000 := by
                    have h1 := (vN_le10 (8 * num + 5).toNat (by omega)).1
                    rw [List.length_append, leN_len]; omega
                  clear HQ hpl hl8
                  generalize vN (8 * num + 5).toNat ++ leN x.toNat 4 = ps at *
                  generalize hpv9 : u9 = pv at *
                  clear hpv9 b0 b1 b2 b3
                  have hzl2 := hzl
                  have HQ : Hid (Part w wr X (.slice ba L bc) pv (.slice qa l c) zs ps f.b (.int .i64 num) (.int .i64 5) (.int .u64 x)) := hq
                  obtain ⟨pa, pc, hpv⟩ := own_slice hq.part
                  subst hpv
                  obtain ⟨P, hP⟩ : ∃ P, ps.length = P := ⟨_, rfl⟩
                  have HPL : Hid (ps.length = P ∧ ps ++ f.b = encF f) := ⟨hP, hpe⟩
                  have p0 : (P : Int) ≤ 1000 := by rw [← hP]; exact_mod_cast hps
                  obtain ⟨e0, e1, e2, e3⟩ := hq.cells
                  rw [hP] at HQ ⊢
                  clear hq hP hpe hps
                  by_cases hlg : 1048576 - (L : Int) < (P : Int) + (l : Int)
                  · have HNL : Hid (1048576 < ((encL (fs.take (k + 1))).length : Int)) := by
                      show _ < _
                      have e := take_snoc' fs k f HFK.out.1
                      have hz := HLG.out.1 (by trivial)
                      have h1 := congrArg List.length HPL.out.2
                      rw [List.length_append, HPL.out.1, HFK.out.2.1] at h1
                      have h2 := HL.out
                      rw [hz] at h2
                      rw [e, encL_app, List.length_append, h2]
                      simp only [encL, List.append_nil]
                      omega
                    have HAL : Hid ((fs.take (k + 1)).all okF = true) := by
                      show _ = _
                      rw [take_snoc' fs k f HFK.out.1, List.all_append, HLG.out.2.2]
                      simp [HKF.out]
                    have hlb : ¬ 1048576 - (L : Int) < (l : Int) := by omega
                    all_goals
                      go_wp2_with fail
                      go_roundw
                      case rel =>
                        refine ⟨k + 1, true, zs, by omega, by go_num, rfl, HQ.out.own, by rw [HL.out]; exact hzl, (fun h => by cases h), fun _ => HNL.out, HAL.out, HQ.out.bel⟩
                      case measure => simp [intOf]; omega
                  · have hl' : ¬ 1048576 - (L : Int) < (l : Int) := by omega
                    go_wp2_with (first | (at_builtin; (refine wpList_append_src rfl (.tmp 135) (.tmp 136) rfl w.heap.size (.slice ba L bc) L (u8l zs) rfl (by have h := HQ.out.own; rw [HL.out] at h; exact h) (.slice pa P pc) ps rfl (by have h := own_src HQ.out.part; exact h) (by have h := HPL.out.1; omega) HQ.out.bel.size ?_; intro v5 w5 ho5 hg5; (have HO5 : Hid (w5.ownsRow w.heap.size 5 1 v5 (L + P) (u8l zs ++ u8l ps)) := (by have h := ho5; rw [HPL.out.1] at h; exact h)); (have HB5 : Hid (Below w.heap.size w w5) := HQ.out.bel.grown hg5 HQ.out.bel.size (ownBlock_ge HQ.out.own)); (have hk5 := hg5.block _ (Array.getElem?_eq_some_iff.1 HQ.out.box).1 (by intro e; obtain ⟨cur, hc⟩ := own_tag HQ.out.own e.symm; exact ne_tag HQ.out.box hc (by decide) rfl)); (obtain ⟨g0, g1, g2, g3⟩ := box4b (base := 0) HQ.out.box hk5); clear ho5 hg5 hk5)) | (at_builtin; (refine wpList_append_src rfl (.tmp 138) (.tmp 140) rfl w.heap.size v5 (L + P) (u8l zs ++ u8l ps) rfl HO5.out (.slice qa l c) f.b rfl (HQ.out.src.later HB5.out) (by have h := HFK.out.2.1; omega) HB5.out.size ?_; intro v6 w6 ho6 hg6; (have HO6 : Hid (w6.ownsRow w.heap.size 5 1 v6 (L + P + f.b.length) (u8l zs ++ u8l ps ++ u8l f.b)) := ho6); (have HB6 : Hid (Below w.heap.size w w6) := HB5.out.grown hg6 HB5.out.size (ownBlock_ge HO5.out)); clear ho6 hg6)))
                    go_roundw
                    case rel =>
                      have e := take_snoc' fs k f HFK.out.1
                      have hz := HLG.out.1 (by trivial)
                      refine ⟨k + 1, false, zs ++ encF f, by omega, by go_num, rfl, ?_, ?_, fun _ => ?_, (fun h => by cases h), ?_, HB6.out⟩
                      · rw [← HPL.out.2, ← List.append_assoc, ← u8l_app, ← u8l_app]
                        exact own_lens HO6.out (by rw [List.length_append, List.length_append, HL.out, HPL.out.1])
                      · have h1 := congrArg List.length HPL.out.2
                        rw [List.length_append, HPL.out.1, HFK.out.2.1] at h1
                        rw [List.length_append, HL.out]
                        omega
                      · rw [e, encL_app, hz]
                        simp [encL]
                      · rw [e, List.all_append, HLG.out.2.2]
                        simp [HKF.out]
                    case measure => simp [intOf]; omega
      · have hkn : k = n := by omega
        have HA : Hid (fs.take k = fs) := by show _ = _; rw [hkn, ← HN.out]; exact List.take_length
        rw [HA.out] at HLG
        cases lg with
        | true =>
          go_wp2_with fail
          go_ret2
          rw [← HR.out, wr_long HFU.out HLG.out.2.2 (by have := HLG.out.2.1 (by trivial); omega)]
          exact ⟨⟨_, rfl, World.ownsRow_nil _ _ _ _⟩, HBE.out⟩
        | false =>
          go_wp2_with fail
          go_ret2
          have e := HLG.out.1 (by trivial)
          rw [← HR.out, wr_ok HFU.out HLG.out.2.2 (by have h := HL.out; rw [e] at h; omega)]
          refine ⟨⟨_, rfl, ?_⟩, HBE.out⟩
          rw [← e, HL.out]
          exact HOW.out
end Go.Proofs.Ytlgkajellndhlaa
