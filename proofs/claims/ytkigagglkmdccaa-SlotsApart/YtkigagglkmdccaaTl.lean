/- A table of fixed turns: Set of a new tenant. -/
import Derived.Test.YtkigagglkmdccaaTk
namespace Go.Proofs.Ytkigagglkmdccaa
open Go.RowKit
set_option linter.unusedVariables false
set_option linter.unusedSimpArgs false

set_option maxRecDepth 20000 in
set_option maxHeartbeats 4000000 in
theorem tset_new {w : World} {T : Nat} {a : Pa} {x : Fx} (h : TR w T a x) (hx : Fok x) (nm : List UInt8) (wt : Int) (hw : 1 ≤ wt ∧ wt ≤ 16) (hp : plB x.ns nm = false) (hbd : bndB x nm = false) (hl : x.ns.length ≤ 15) (hS : (setS x.s nm wt).1 = 0) :
    Calls Try.prog 12 #[.pointer (some ⟨T, 0, none⟩), .string (tx nm), .int .i64 wt] w fun e w' => e = .returned (.int .i64 0) ∧ ∃ a', TR w' T a' { x with s := (setS x.s nm wt).2, ns := putN x.ns (plI x.ns nm) nm, wts := (putN x.wts (plI x.ns nm) wt).set (plI x.ns nm) wt } ∧ Fr (TF a) (TF a') w w' := by
  have hi : plI x.ns nm ≤ x.ns.length := plI_le _ _
  have hi2 : plI x.ns nm ≤ x.wts.length := by rw [hx.wl]; exact hi
  have hl2 : x.wts.length ≤ 15 := by rw [hx.wl]; exact hl
  have hi3 : plI x.ns nm < (putN x.wts (plI x.ns nm) wt).length := by simp [putN]; omega
  have HB : Hid (Calls Try.prog 31 #[.pointer (some ⟨T, 0, none⟩), .string (tx nm)] w fun e w' => e = .returned (.bool false) ∧ w' = w) := by
    have := bound_any h hx.up hx.le nm
    rw [hbd] at this
    exact this
  have HS : Hid (Calls Try.prog 32 #[.pointer (some ⟨T, 4, none⟩), .string (tx nm), .int .i64 wt] w fun e w' => e = .returned (.int .i64 0) ∧ ∃ a' sa n cap, w'.cell? ⟨T, 2, none⟩ = some (.slice sa n cap) ∧ Hid (Calls Try.prog 33 #[.slice sa n cap, .string (tx nm)] w' fun e w2 => e = .returned (.tuple #[.int .i64 (plI x.ns nm : Nat), .bool false]) ∧ w2 = w') ∧ Hid (a'.nv = .slice sa n cap ∧ TR w' T a' { x with s := (setS x.s nm wt).2 } ∧ Fr (TF a) (TF a') w w')) := by
    refine (sset_call h hx nm wt).mono ?_
    rintro e w' ⟨rfl, a', k1, k2⟩
    rw [hS]
    obtain ⟨sa, cap, hsl⟩ := own_slice k1.names
    refine ⟨rfl, a', sa, _, cap, hsl ▸ k1.cells.2.2.1, ?_, hsl, k1, k2⟩
    have := bsearch_any 0 sa _ cap x.ns nm w' (hsl ▸ k1.names) hx.up hx.le rfl
    rw [hp] at this
    exact this
  obtain ⟨q0, q1⟩ := hw
  have HI : Hid (plI x.ns nm ≤ x.ns.length ∧ x.ns.length ≤ 15 ∧ plI x.ns nm ≤ x.wts.length ∧ x.wts.length ≤ 15 ∧ plI x.ns nm < (putN x.wts (plI x.ns nm) wt).length) := ⟨hi, hl, hi2, hl2, hi3⟩
  clear h hx hbd hS hp hi hl hi2 hl2 hi3
  generalize (setS x.s nm wt).2 = s' at HS ⊢
  generalize plI x.ns nm = i at *
  go_enter Try.func12, Try.ntmps12
  go_upto_region 12 with (first | (go_at_call 31; refine HB.out.mono ?_; rintro e w1 ⟨rfl, hw1⟩; rw [hw1]; clear hw1) | (go_at_call 32; refine HS.out.mono ?_; rintro e w1 ⟨rfl, a1, sa, n, cap, d1, HF, HT⟩) | (go_at_call 33; refine HF.out.mono ?_; rintro e w2 ⟨rfl, hw2⟩; rw [hw2]; clear hw2))
  clear HB HS HF
  have HN : Hid (∀ (V : World) (vb : Nat), Below w1.heap.size w1 V → V.heap[vb]? = some (.cells #[strV nm] 9 (0, 0)) → w1.heap.size ≤ vb → Calls Try.prog 34 #[.slice sa n cap, .int .i64 i, .slice (some ⟨vb, 0, none⟩) 1 1] V fun e w2 => ∃ sa' n' cap', e = .returned (.slice sa' n' cap') ∧ w2.cell? ⟨T, 2, none⟩ = some (.slice sa n cap) ∧ w2.frozen? ⟨T, 2, none⟩ = false ∧ Hid (∃ a2, TR (w2.setCell ⟨T, 2, none⟩ (.slice sa' n' cap')) T a2 { x with s := s', ns := putN x.ns i nm } ∧ Fr (TF a1) (TF a2) w1 (w2.setCell ⟨T, 2, none⟩ (.slice sa' n' cap')))) := fun V vb hb hv hn => by
    have := insN_call HT.out.2.1 i nm HI.out.1 HI.out.2.1 V vb hb hv hn
    rw [HT.out.1] at this
    exact this
  go_upto_region 13 with (go_at_call 34; refine (HN.out _ w1.heap.size (bel1' w1 _) (heap_alloc_new w1 _) (Nat.le_refl _)).mono ?_; rintro e w2 ⟨sa', n', cap', rfl, tT, gT2, HZ⟩)
  have HT2 : Hid (∃ a2, TR (w2.setCell ⟨T, 2, none⟩ (.slice sa' n' cap')) T a2 { x with s := s', ns := putN x.ns i nm } ∧ Fr (TF a) (TF a2) w (w2.setCell ⟨T, 2, none⟩ (.slice sa' n' cap'))) := by
    obtain ⟨a2, z1, z2⟩ := HZ.out
    exact ⟨a2, z1, HT.out.2.2.trans' z2⟩
  clear HZ HT HN tT gT2 d1
  generalize w2.setCell ⟨T, 2, none⟩ (.slice sa' n' cap') = w3 at *
  obtain ⟨a2, z1, z2⟩ := HT2.out
  obtain ⟨sb, capb, hsb⟩ := own_slice z1.weights
  have d3 := z1.cells.2.2.2.1
  rw [hsb] at d3
  have HW : Hid (∀ (V : World) (vb : Nat), Below w3.heap.size w3 V → V.heap[vb]? = some (.cells #[intV wt] 3 (0, 0)) → w3.heap.size ≤ vb → Calls Try.prog 35 #[.slice sb x.wts.length capb, .int .i64 i, .slice (some ⟨vb, 0, none⟩) 1 1] V fun e w2 => ∃ sa' n' cap', e = .returned (.slice sa' n' cap') ∧ w2.cell? ⟨T, 3, none⟩ = some (.slice sb x.wts.length capb) ∧ w2.frozen? ⟨T, 3, none⟩ = false ∧ Hid (∃ a2, TR (w2.setCell ⟨T, 3, none⟩ (.slice sa' n' cap')) T a2 { x with s := s', ns := putN x.ns i nm, wts := putN x.wts i wt } ∧ Fr (TF a) (TF a2) w (w2.setCell ⟨T, 3, none⟩ (.slice sa' n' cap')))) := fun V vb hb hv hn => by
    have := insW_call z1 i wt HI.out.2.2.1 HI.out.2.2.2.1 V vb hb hv hn
    rw [hsb] at this
    refine this.mono ?_
    rintro e w4 ⟨sa', n', cap', rfl, k1, k2, k3⟩
    obtain ⟨a3, y1, y2⟩ := k3.out
    exact ⟨_, _, _, rfl, k1, k2, a3, y1, z2.trans' y2⟩
  have d3' : w3.cell? ⟨T, 3, none⟩ = some (.slice sb x.wts.length capb) := d3
  clear z1 z2 hsb HT2 d3
  generalize x.wts.length = L at HW d3'
  go_upto_region 14 with (go_at_call 35; refine (HW.out _ w3.heap.size (bel1' w3 _) (heap_alloc_new w3 _) (Nat.le_refl _)).mono ?_; rintro e w4 ⟨sc, nc, capc, rfl, tT, gT2, HZ⟩)
  clear tT gT2 d3' HW
  generalize w4.setCell ⟨T, 3, none⟩ (.slice sc nc capc) = w5 at *
  obtain ⟨a3, z1, z2⟩ := HZ.out
  obtain ⟨g, wcap, e1, e2, ⟨u, e3⟩, e4, e5, e6⟩ := z1.turnW1 (i := i) HI.out.2.2.2.2 wt
  have d5 := z1.cells.2.2.2.1
  rw [e1] at d5
  have d5' : w5.cell? ⟨T, 3, none⟩ = some (.slice (some ⟨g, 0, none⟩) (putN x.wts i wt).length wcap) := d5
  have e2' : ((putN x.wts i wt).length : Int) ≤ wcap := by exact_mod_cast e2
  have hi' : (i : Int) < ((putN x.wts i wt).length : Int) := by have := HI.out.2.2.2.2; omega
  have HZ2 : Hid (∃ a', TR (w5.setCell ⟨g, i, none⟩ (.int .i64 wt)) T a' { x with s := s', ns := putN x.ns i nm, wts := (putN x.wts i wt).set i wt } ∧ Fr (TF a) (TF a') w (w5.setCell ⟨g, i, none⟩ (.int .i64 wt))) := ⟨a3, e5, z2.trans' e6⟩
  clear z1 z2 HZ e5 e6 d5 e1 e2
  generalize (putN x.wts i wt).length = L2 at d5' e2' hi'
  clear HI
  go_wp2_with fail
  go_ret
  exact ⟨rfl, HZ2.out⟩
theorem ixT_none : ∀ (l : List Tn) (nm : List UInt8), ixT l nm = none → ∀ t ∈ l, t.nm ≠ nm
  | [], nm, _, t, ht => by simp at ht
  | p :: r, nm, h, t, ht => by
    simp only [ixT] at h
    split at h
    · cases h
    · rename_i e
      have hr : ixT r nm = none := by simpa using h
      rcases List.mem_cons.1 ht with rfl | ht
      · exact e
      · exact ixT_none r nm hr t ht
theorem lookT_mem {l : List Tn} {nm : List UInt8} (h : nm ∈ l.map fun t => t.nm) : ∃ k t, lookT l nm = some (k, t) := by
  obtain ⟨t, ht, rfl⟩ := List.mem_map.1 h
  cases hx : ixT l t.nm with
  | none => exact absurd rfl (ixT_none l _ hx t ht)
  | some k =>
    obtain ⟨s, h1, h2⟩ := ixT_some l _ k hx
    exact ⟨k, s, by unfold lookT; rw [hx]; simp [h1]⟩
theorem lookT_not {l : List Tn} {nm : List UInt8} (h : ∀ t ∈ l, t.nm ≠ nm) : lookT l nm = none := by
  cases hx : lookT l nm with
  | none => rfl
  | some p =>
    obtain ⟨k, t⟩ := p
    obtain ⟨-, h2, h3⟩ := lookT_some hx
    exact absurd h3 (h t (List.mem_of_getElem? h2))
theorem putN_set {β : Type} {l : List β} {i : Nat} {x : β} (h : i ≤ l.length) : (putN l i x).set i x = putN l i x := by
  unfold putN
  rw [List.set_append, if_neg (by simp; omega)]
  simp [Nat.min_eq_left h]
theorem map_setS {β γ : Type} {f : β → γ} {l : List β} {k : Nat} {t t' : β} (h : l[k]? = some t) (e : f t' = f t) : (l.set k t').map f = l.map f := by
  apply List.ext_getElem?
  intro j
  rw [List.getElem?_map, List.getElem?_map, List.getElem?_set]
  split
  · rename_i hj
    subst hj
    rw [h, if_pos (List.getElem?_eq_some_iff.1 h).1]
    simp [e]
  · rfl
/-- How Set ends. -/
noncomputable def setX (x : Fx) (nm : List UInt8) (wt : Int) : Int × Fx :=
  if ¬ (1 ≤ wt ∧ wt ≤ 16) then (1, x) else if bndB x nm = true then (200, x) else
  if plB x.ns nm = true then (0, { x with s := (setS x.s nm wt).2, wts := x.wts.set (plI x.ns nm) wt }) else
  if 16 ≤ x.ns.length then (7, x) else (0, { x with s := (setS x.s nm wt).2, ns := putN x.ns (plI x.ns nm) nm, wts := putN x.wts (plI x.ns nm) wt })
theorem set_there {x : Fx} (hx : Fok x) {nm : List UInt8} {wt : Int} (hw : 1 ≤ wt ∧ wt ≤ 16) (hp : plB x.ns nm = true) : ∃ k t, x.s.ts[k]? = some t ∧ t.nm = nm ∧ setS x.s nm wt = (0, { x.s with ts := x.s.ts.set k { t with wt := wt, fin := x.s.clk } }) := by
  have hm : nm ∈ x.s.ts.map fun t => t.nm := by rw [hx.ns]; exact List.mem_of_getElem? (plB_true hp)
  obtain ⟨k, t, hk⟩ := lookT_mem hm
  obtain ⟨-, h2, h3⟩ := lookT_some hk
  refine ⟨k, t, h2, h3, ?_⟩
  unfold setS
  rw [if_neg (fun k => k hw), hk]
  simp [hx.no t (List.mem_of_getElem? h2)]
theorem set_off {x : Fx} (hx : Fok x) {nm : List UInt8} {wt : Int} (hw : 1 ≤ wt ∧ wt ≤ 16) (hp : plB x.ns nm = false) : setS x.s nm wt = if 16 ≤ x.ns.length then (7, x.s) else (0, { x.s with ts := insT ⟨nm, wt, x.s.clk, []⟩ x.s.ts }) := by
  have hno : ∀ t ∈ x.s.ts, t.nm ≠ nm := fun t ht => plB_false hx.up hp t.nm (by rw [← hx.ns]; exact List.mem_map.2 ⟨t, ht, rfl⟩)
  have hlen : x.s.ts.length = x.ns.length := by rw [← hx.ns]; simp
  unfold setS
  rw [if_neg (fun k => k hw), lookT_not hno]
  simp only [hlen]
/-- Set. -/
theorem tset_any {w : World} {T : Nat} {a : Pa} {x : Fx} (h : TR w T a x) (hx : Fok x) (nm : List UInt8) (wt : Int) :
    Calls Try.prog 12 #[.pointer (some ⟨T, 0, none⟩), .string (tx nm), .int .i64 wt] w fun e w' => e = .returned (.int .i64 (setX x nm wt).1) ∧ ∃ a', TR w' T a' (setX x nm wt).2 ∧ Fr (TF a) (TF a') w w' := by
  by_cases hw : 1 ≤ wt ∧ wt ≤ 16
  · cases hb : bndB x nm with
    | true =>
      have hX : setX x nm wt = (200, x) := by unfold setX; rw [if_neg (fun k => k hw), if_pos hb]
      rw [hX]
      refine (tset_bound h hx nm wt hw hb).mono ?_
      rintro e w' ⟨rfl, rfl⟩
      exact ⟨rfl, a, h, Fr.refl _ _⟩
    | false =>
      have hb' : ¬ bndB x nm = true := by rw [hb]; decide
      cases hp : plB x.ns nm with
      | true =>
        have hX : setX x nm wt = (0, { x with s := (setS x.s nm wt).2, wts := x.wts.set (plI x.ns nm) wt }) := by unfold setX; rw [if_neg (fun k => k hw), if_neg hb', if_pos hp]
        rw [hX]
        obtain ⟨k, t, _, _, hS⟩ := set_there hx hw hp
        exact tset_there h hx nm wt hw hp hb (by rw [hS])
      | false =>
        have hp' : ¬ plB x.ns nm = true := by rw [hp]; decide
        have hS := set_off hx hw hp
        by_cases hl : 16 ≤ x.ns.length
        · have hX : setX x nm wt = (7, x) := by unfold setX; rw [if_neg (fun k => k hw), if_neg hb', if_neg hp', if_pos hl]
          rw [hX]
          rw [if_pos hl] at hS
          exact tset_full h hx nm wt hw hb hS
        · have hX : setX x nm wt = (0, { x with s := (setS x.s nm wt).2, ns := putN x.ns (plI x.ns nm) nm, wts := putN x.wts (plI x.ns nm) wt }) := by unfold setX; rw [if_neg (fun k => k hw), if_neg hb', if_neg hp', if_neg hl]
          rw [hX]
          rw [if_neg hl] at hS
          have := tset_new h hx nm wt hw hp hb (by omega) (by rw [hS])
          rw [putN_set (by rw [hx.wl]; exact plI_le _ _)] at this
          exact this
  · have hX : setX x nm wt = (1, x) := by unfold setX; rw [if_pos hw]
    rw [hX]
    refine (tset_arg h nm wt hw).mono ?_
    rintro e w' ⟨rfl, rfl⟩
    exact ⟨rfl, a, h, Fr.refl _ _⟩
theorem Fok.set {x : Fx} (hx : Fok x) (nm : List UInt8) (wt : Int) : Fok (setX x nm wt).2 := by
  unfold setX
  split
  · exact hx
  · rename_i hw
    have hw' : 1 ≤ wt ∧ wt ≤ 16 := by omega
    split
    · exact hx
    · split
      · rename_i hp
        obtain ⟨k, t, h1, h2, hS⟩ := set_there (wt := wt) hx hw' hp
        refine ⟨hx.up, ?_, by simpa using hx.wl, hx.le, set_ok hx.ok nm wt, ?_, hx.jo⟩
        · rw [hS]
          show (List.map _ (x.s.ts.set k _)) = x.ns
          rw [map_setS h1 (by rfl)]
          exact hx.ns
        · rw [hS]
          intro u hu
          rcases List.mem_or_eq_of_mem_set hu with hu | rfl
          · exact hx.no u hu
          · exact hx.no t (List.mem_of_getElem? h1)
      · rename_i hp
        have hp' : plB x.ns nm = false := by simpa using hp
        split
        · exact hx
        · rename_i hl
          have hS := set_off (wt := wt) hx hw' hp'
          rw [if_neg hl] at hS
          have hi := plI_le x.ns nm
          refine ⟨hx.up.put hp', ?_, ?_, ?_, set_ok hx.ok nm wt, ?_, hx.jo⟩
          · rw [hS]
            show List.map _ (insT _ x.s.ts) = _
            rw [ins_put _ (by rw [hx.ns]; exact hx.up), putN_map, hx.ns]
          · have := hx.wl
            simp [putN]; omega
          · show (putN x.ns _ nm).length ≤ 16
            simp [putN]; omega
          · rw [hS]
            intro u hu
            rcases mem_ins _ _ _ hu with rfl | hu
            · rfl
            · exact hx.no u hu
end Go.Proofs.Ytkigagglkmdccaa
