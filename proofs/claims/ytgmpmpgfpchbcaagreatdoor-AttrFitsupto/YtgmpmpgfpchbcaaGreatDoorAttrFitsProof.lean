/- AttrFits: for every set of attributes and any two lists of matchers, of bulk at most 1048576 together, the law's call returns true: attr.Fits answers as the document says, of both lists; where attr.Both tells no error, what it tells fits just if both fit; the opposite of a matcher holds just if it does not; and the inputs read as they did. Conditions: the bulk; the two package variables of Go's library that the row lists hold what the program's text lays in them (the card ties them to that). -/
import Derived.Test.YtgmpmpgfpchbcaaGreatDoorZ2
import Derived.Test.YtgmpmpgfpchbcaaGreatDoorL1
namespace Go.Proofs.YtgmpmpgfpchbcaaGreatDoor.attrFits
open Go.ChangeShapes Go.WideShapes Go.ChangeAt Go.RowKit
set_option linter.unusedVariables false

theorem bulk_one {H : Type} (d : DataW H) : 1 ≤ Rows.uptoBulk d := by
  cases d with
  | lit l => cases l <;> simp [Rows.uptoBulk]
  | _ => simp [Rows.uptoBulk]
theorem bulk_len {H : Type} : ∀ l : List (DataW H), l.length ≤ Rows.uptoBulkAll l
  | [] => by simp [Rows.uptoBulkAll]
  | d :: r => by have h1 := bulk_len r; have h2 := bulk_one d; simp only [Rows.uptoBulkAll, List.length_cons]; omega
theorem bulk_mem {H : Type} {d : DataW H} : ∀ {l : List (DataW H)}, d ∈ l → Rows.uptoBulk d ≤ Rows.uptoBulkAll l
  | x :: r, h => by
    simp only [Rows.uptoBulkAll]
    rcases List.mem_cons.1 h with rfl | h
    · omega
    · have := bulk_mem h; omega
set_option maxRecDepth 100000 in
theorem at_up {H : Type} {enc : TypeId × Value → H} {W : World} {fuel b o : Nat} {cs : List Value} {x : DataW H × List MemPlace} (hc : W.cells? 0 ⟨b, o, none⟩ 2 = some cs) (h : DataW.trod enc Tryz.prog W 0 (fun _ => true) true fuel 44 cs = some x) :
    ∃ (P Q : ByteArray), W.cell? ⟨b, o, none⟩ = some (.string P) ∧ W.cell? ⟨b, o + 1, none⟩ = some (.string Q) ∧ P.data.toList.length ≤ Rows.uptoBulk x.1 ∧ Q.data.toList.length ≤ Rows.uptoBulk x.1 := by
  obtain ⟨_, hlen, hcell⟩ := World.cells?_some hc
  obtain ⟨xs, k, hk, hxy, _, hxl, hf⟩ := DataW.trod_struct Tryz.underlying44 h
  match xs, hxl, cs, hlen with
  | [y0, y1], _, [v0, v1], _ =>
    have g0 := hf 0 _ rfl
    have g1 := hf 1 _ rfl
    have k9 : Tryz.prog.cellsOf 9 = 1 := by kernel_rfl
    simp [k9] at g0 g1
    have e0 := hcell 0 (by omega)
    have e1 := hcell 1 (by omega)
    rw [Addr.add_mid] at e0 e1
    simp at e0 e1
    obtain ⟨P, hP, hy0, _⟩ := DataW.trod_string Tryz.underlying9 g0
    obtain ⟨Q, hQ, hy1, _⟩ := DataW.trod_string Tryz.underlying9 g1
    simp only [List.cons.injEq, and_true] at hP hQ
    refine ⟨P, Q, by rw [← hP]; exact e0, by rw [← hQ]; exact e1, ?_, ?_⟩ <;>
    · rw [hxy, hy0, hy1]
      simp only [List.map_cons, List.map_nil, Rows.uptoBulk, Rows.uptoBulkAll]
      omega
set_option maxRecDepth 100000 in
theorem mt_up {H : Type} {enc : TypeId × Value → H} {W : World} {fuel b o : Nat} {cs : List Value} {x : DataW H × List MemPlace} (hc : W.cells? 0 ⟨b, o, none⟩ 3 = some cs) (h : DataW.trod enc Tryz.prog W 0 (fun _ => true) true fuel 30 cs = some x) :
    ∃ (O : Int) (P Q : ByteArray), W.cell? ⟨b, o, none⟩ = some (.int .i64 O) ∧ W.cell? ⟨b, o + 1, none⟩ = some (.string P) ∧ W.cell? ⟨b, o + 2, none⟩ = some (.string Q) ∧ P.data.toList.length ≤ Rows.uptoBulk x.1 ∧ Q.data.toList.length ≤ Rows.uptoBulk x.1 ∧ (Lit.int .i64 O).wf = true := by
  obtain ⟨_, hlen, hcell⟩ := World.cells?_some hc
  obtain ⟨xs, k, hk, hxy, _, hxl, hf⟩ := DataW.trod_struct Tryz.underlying30 h
  match xs, hxl, cs, hlen with
  | [y0, y1, y2], _, [v0, v1, v2], _ =>
    have g0 := hf 0 _ rfl
    have g1 := hf 1 _ rfl
    have g2 := hf 2 _ rfl
    have k3 : Tryz.prog.cellsOf 3 = 1 := by kernel_rfl
    have k9 : Tryz.prog.cellsOf 9 = 1 := by kernel_rfl
    simp [k3, k9] at g0 g1 g2
    have e0 := hcell 0 (by omega)
    have e1 := hcell 1 (by omega)
    have e2 := hcell 2 (by omega)
    rw [Addr.add_mid] at e0 e1 e2
    simp at e0 e1 e2
    obtain ⟨O, hO, _, hwf⟩ := DataW.trod_int Tryz.underlying3 g0
    obtain ⟨P, hP, hy1, _⟩ := DataW.trod_string Tryz.underlying9 g1
    obtain ⟨Q, hQ, hy2, _⟩ := DataW.trod_string Tryz.underlying9 g2
    simp only [List.cons.injEq, and_true] at hO hP hQ
    refine ⟨O, P, Q, by rw [← hO]; exact e0, by rw [← hP]; exact e1, by rw [← hQ]; exact e2, ?_, ?_, hwf⟩ <;>
    · rw [hxy, hy1, hy2]
      simp only [List.map_cons, List.map_nil, Rows.uptoBulk, Rows.uptoBulkAll]
      omega
/-- Attributes that came in. -/
theorem ats_up {H : Type} {enc : TypeId × Value → H} {W : World} {fuel : Nat} {sa : Option Addr} {len cap : Nat} {d : DataW H} {q : List MemPlace} (h : DataW.trod enc Tryz.prog W 0 (fun _ => true) true fuel 22 [.slice sa len cap] = some (d, q)) (hw : Rows.uptoBulk d ≤ 1048576) :
    ∃ l : List At, l.length = len ∧ Ats W sa cap l ∧ l.length ≤ 1048576 ∧ ∀ x ∈ l, x.2.length ≤ 1048576 := by
  rcases Deep.open_slice Tryz.underlying22 h with ⟨hcs, hx⟩ | ⟨a, len', cap', m, n, D, Pl, hcs, _, hl, hm, hmm, hx, hcell⟩
  · simp only [List.cons.injEq, and_true, Value.slice.injEq] at hcs
    obtain ⟨rfl, rfl, rfl⟩ := hcs
    exact ⟨[], rfl, ⟨Nat.le_refl _, fun i x hx => by simp at hx, fun x hx => by simp at hx⟩, by decide, fun x hx => by simp at hx⟩
  · simp only [List.cons.injEq, and_true, Value.slice.injEq] at hcs
    obtain ⟨rfl, rfl, rfl⟩ := hcs
    simp only [Prod.mk.injEq] at hx
    have hmc : m = cap := by simpa using hmm
    have k44 : Tryz.prog.cellsOf 44 = 2 := by kernel_rfl
    rw [k44] at hcell
    have hd := hx.1
    rw [hd] at hw
    simp only [Rows.uptoBulk] at hw
    have hbl := bulk_len ((List.range len).map D)
    simp only [List.length_map, List.length_range] at hbl
    have hE : ∀ i, i < len → ∃ x : At, (∃ b off, some a = some ⟨b, off, none⟩ ∧ W.cell? ⟨b, off + i * 2, none⟩ = some (.string (tx x.1)) ∧ W.cell? ⟨b, off + i * 2 + 1, none⟩ = some (.string (tx x.2))) ∧ x.1.length ≤ 1048576 ∧ x.2.length ≤ 1048576 := by
      intro i hi
      obtain ⟨b, off, rfl⟩ : ∃ b off, a = ⟨b, off, none⟩ := by
        obtain ⟨cs, h1, _⟩ := hcell 0 (by omega)
        obtain ⟨_, hlen', hc'⟩ := World.cells?_some h1
        have h2 := hc' 0 (by omega)
        exact plain_addr (x := a) (v := cs[0]'(by omega)) (by
          have h3 : W.cell? a = cs[0]? := by simpa [Addr.add] using h2
          rw [h3]
          exact List.getElem?_eq_getElem (by omega))
      obtain ⟨cs, h1, h2⟩ := hcell i (by omega)
      rw [Addr.add_mid] at h1
      obtain ⟨P, Q, c0, c1, hP, hQ⟩ := at_up h1 h2
      have hb := bulk_mem (List.mem_map.2 ⟨i, List.mem_range.2 hi, rfl⟩ : D i ∈ (List.range len).map D)
      exact ⟨(P.data.toList, Q.data.toList), ⟨b, off, rfl, by rw [← es_tx]; exact c0, by rw [← es_tx]; exact c1⟩, by simp only at hP; show P.data.toList.length ≤ _; omega, by simp only at hQ; show Q.data.toList.length ≤ _; omega⟩
    let f : Nat → At := fun i => if hi : i < len then (hE i hi).choose else ([], [])
    have hf : ∀ i (hi : i < len), f i = (hE i hi).choose := fun i hi => by show (if hi : i < len then (hE i hi).choose else ([], [])) = _; rw [dif_pos hi]
    have hmem : ∀ x ∈ (List.range len).map f, x.1.length ≤ 1048576 ∧ x.2.length ≤ 1048576 := fun x hx => by
      obtain ⟨i, hi, rfl⟩ := List.mem_map.1 hx
      have hi' := List.mem_range.1 hi
      rw [hf i hi']
      exact (hE i hi').choose_spec.2
    refine ⟨(List.range len).map f, by simp, ⟨by simpa using hl, fun i x hx => ?_, fun x hx => ⟨by have := (hmem x hx).1; omega, by have := (hmem x hx).2; omega⟩⟩, by simp only [List.length_map, List.length_range]; omega, fun x hx => (hmem x hx).2⟩
    have hi : i < len := by have := (List.getElem?_eq_some_iff.1 hx).1; simpa using this
    have e : x = f i := by simpa [hi] using hx.symm
    rw [e, hf i hi]
    exact (hE i hi).choose_spec.1
/-- Matchers that came in. -/
theorem mts_up {H : Type} {enc : TypeId × Value → H} {W : World} {fuel : Nat} {sa : Option Addr} {len cap : Nat} {d : DataW H} {q : List MemPlace} (h : DataW.trod enc Tryz.prog W 0 (fun _ => true) true fuel 23 [.slice sa len cap] = some (d, q)) (hw : Rows.uptoBulk d ≤ 1048576) :
    ∃ l : List Mt, l.length = len ∧ Mts W sa cap l ∧ l.length ≤ 1048576 ∧ ∀ x ∈ l, CanM x := by
  rcases Deep.open_slice Tryz.underlying23 h with ⟨hcs, hx⟩ | ⟨a, len', cap', m, n, D, Pl, hcs, _, hl, hm, hmm, hx, hcell⟩
  · simp only [List.cons.injEq, and_true, Value.slice.injEq] at hcs
    obtain ⟨rfl, rfl, rfl⟩ := hcs
    exact ⟨[], rfl, ⟨Nat.le_refl _, fun i x hx => by simp at hx, fun x hx => by simp at hx⟩, by decide, fun x hx => by simp at hx⟩
  · simp only [List.cons.injEq, and_true, Value.slice.injEq] at hcs
    obtain ⟨rfl, rfl, rfl⟩ := hcs
    simp only [Prod.mk.injEq] at hx
    have hmc : m = cap := by simpa using hmm
    have k30 : Tryz.prog.cellsOf 30 = 3 := by kernel_rfl
    rw [k30] at hcell
    have hd := hx.1
    rw [hd] at hw
    simp only [Rows.uptoBulk] at hw
    have hbl := bulk_len ((List.range len).map D)
    simp only [List.length_map, List.length_range] at hbl
    have hE : ∀ i, i < len → ∃ x : Mt, (∃ b off, some a = some ⟨b, off, none⟩ ∧ W.cell? ⟨b, off + i * 3, none⟩ = some (.int .i64 x.op) ∧ W.cell? ⟨b, off + i * 3 + 1, none⟩ = some (.string (tx x.key)) ∧ W.cell? ⟨b, off + i * 3 + 2, none⟩ = some (.string (tx x.val))) ∧ CanM x := by
      intro i hi
      obtain ⟨b, off, rfl⟩ : ∃ b off, a = ⟨b, off, none⟩ := by
        obtain ⟨cs, h1, _⟩ := hcell 0 (by omega)
        obtain ⟨_, hlen', hc'⟩ := World.cells?_some h1
        have h2 := hc' 0 (by omega)
        exact plain_addr (x := a) (v := cs[0]'(by omega)) (by
          have h3 : W.cell? a = cs[0]? := by simpa [Addr.add] using h2
          rw [h3]
          exact List.getElem?_eq_getElem (by omega))
      obtain ⟨cs, h1, h2⟩ := hcell i (by omega)
      rw [Addr.add_mid] at h1
      obtain ⟨O, P, Q, c0, c1, c2, hP, hQ, hO⟩ := mt_up h1 h2
      have hb := bulk_mem (List.mem_map.2 ⟨i, List.mem_range.2 hi, rfl⟩ : D i ∈ (List.range len).map D)
      exact ⟨⟨O, P.data.toList, Q.data.toList⟩, ⟨b, off, rfl, c0, by rw [← es_tx]; exact c1, by rw [← es_tx]; exact c2⟩, ⟨by simp only at hP; show (P.data.toList.length : Int) ≤ _; omega, by simp only at hQ; show (Q.data.toList.length : Int) ≤ _; omega⟩, hO⟩
    let f : Nat → Mt := fun i => if hi : i < len then (hE i hi).choose else ⟨0, [], []⟩
    have hf : ∀ i (hi : i < len), f i = (hE i hi).choose := fun i hi => by show (if hi : i < len then (hE i hi).choose else ⟨0, [], []⟩) = _; rw [dif_pos hi]
    have hmem : ∀ x ∈ (List.range len).map f, CanM x := fun x hx => by
      obtain ⟨i, hi, rfl⟩ := List.mem_map.1 hx
      have hi' := List.mem_range.1 hi
      rw [hf i hi']
      exact (hE i hi').choose_spec.2
    refine ⟨(List.range len).map f, by simp, ⟨by simpa using hl, fun i x hx => ?_, fun x hx => (hmem x hx).1⟩, by simp only [List.length_map, List.length_range]; omega, hmem⟩
    have hi : i < len := by have := (List.getElem?_eq_some_iff.1 hx).1; simpa using this
    have e : x = f i := by simpa [hi] using hx.symm
    rw [e, hf i hi]
    exact (hE i hi).choose_spec.1

set_option maxRecDepth 100000 in
theorem contract (H : Type) (enc : TypeId × Value → H) (W : World) (base : Nat) (args : Array Value) (ds gs : List (DataW H)) (before : List MemPlace)
    (hval : ∀ (j : Nat) t v, Tryz.f3.params[j]? = some t → args[j]? = some v → Value.okWide Tryz.prog W .any base t v)
    (hW : DataW.Whole enc Tryz.prog Tryz.f3.params.toList Rows.attrFitsSpec.vars false W args.toList ds gs before)
    (hk : Rows.uptoSmall H (ds ++ gs) = true)
    (hL : laidMet Tryz.prog Rows.attrFitsUptoRow.laid W) (hSh : W.ShapedOpen Tryz.prog) :
    Calls Tryz.prog 3 args W fun e W' => ∃ v, e = .returned v ∧ Rows.attrFitsSpec.post enc Tryz.prog Tryz.f3 false true false false W args v W' := by
  have hW' := hW
  obtain ⟨p, q, hA0, hV, rfl, hfz, hnd⟩ := hW
  have hA : DataW.TrodAll enc Tryz.prog W 0 (fun _ => true) true Tryz.f3.params.toList args.toList ds p := hA0
  rw [Tryz.params3] at hA hval
  obtain ⟨v0, vs0, d0, ds0, p0, q0, hargs, rfl, rfl, h0, r0⟩ := trodAll_cons hA
  obtain ⟨v1, vs1, d1, ds1, p1, q1, rfl, rfl, rfl, h1, r1⟩ := trodAll_cons r0
  obtain ⟨v2, vs2, d2, ds2, p2, q2, rfl, rfl, rfl, h2, r2⟩ := trodAll_cons r1
  obtain ⟨rfl, rfl, rfl⟩ := trodAll_nil r2
  obtain rfl : args = #[v0, v1, v2] := Array.toList_inj.1 hargs
  obtain ⟨rfl, rfl⟩ := trodVars_none hV
  have hk' : Rows.uptoBulkAll ([d0, d1, d2] ++ []) ≤ 1048576 := of_decide_eq_true hk
  simp only [List.append_nil, Rows.uptoBulkAll] at hk'
  obtain ⟨a0, len0, cap0, rfl⟩ := okWide_slice Tryz.underlying22 (hval 0 22 v0 rfl rfl)
  have k0 := h0
  have lt0 : ∀ x ∈ p0, x.block < W.heap.size := by obtain ⟨m, hm⟩ := k0; exact DataW.trod_lt m _ _ _ hm
  obtain ⟨fuel0, hf0⟩ := h0
  obtain ⟨l0, hlen0, hAt0, hb0, hs0⟩ := ats_up (by simpa [Value.cells] using hf0) (by omega)
  obtain ⟨a1, len1, cap1, rfl⟩ := okWide_slice Tryz.underlying23 (hval 1 23 v1 rfl rfl)
  have k1 := h1
  have lt1 : ∀ x ∈ p1, x.block < W.heap.size := by obtain ⟨m, hm⟩ := k1; exact DataW.trod_lt m _ _ _ hm
  obtain ⟨fuel1, hf1⟩ := h1
  obtain ⟨l1, hlen1, hAt1, hb1, hc1⟩ := mts_up (by simpa [Value.cells] using hf1) (by omega)
  obtain ⟨a2, len2, cap2, rfl⟩ := okWide_slice Tryz.underlying23 (hval 2 23 v2 rfl rfl)
  have k2 := h2
  have lt2 : ∀ x ∈ p2, x.block < W.heap.size := by obtain ⟨m, hm⟩ := k2; exact DataW.trod_lt m _ _ _ hm
  obtain ⟨fuel2, hf2⟩ := h2
  obtain ⟨l2, hlen2, hAt2, hb2, hc2⟩ := mts_up (by simpa [Value.cells] using hf2) (by omega)
  clear hA0
  subst hlen0
  subst hlen1
  subst hlen2
  have walk := fits_law a0 a1 a2 cap0 cap1 cap2 l0 l1 l2 W hAt0 hAt1 hAt2 (by omega) (by omega) (fun x hx => by have := hs0 x hx; omega) hc1 hc2 (tabs hL) (maxL_of hSh)
  refine walk.mono fun e W' ⟨he, bel⟩ => ?_
  subst he
  exact ⟨_, rfl, _, _, _, [], _, [], hW', trodAll_mk1 (shut_bool Tryz.underlying4 _), (trodAll_cons_mk (Below.trod laidOut (by kernel_rfl) (of_decide_eq_true (by kernel_rfl)) k0 bel lt0) (trodAll_cons_mk (Below.trod laidOut (by kernel_rfl) (of_decide_eq_true (by kernel_rfl)) k1 bel lt1) (trodAll_cons_mk (Below.trod laidOut (by kernel_rfl) (of_decide_eq_true (by kernel_rfl)) k2 bel lt2) trodAll_mk0))), rfl, bel.frame _, fun h => by cases h⟩

set_option maxRecDepth 1000000 in
theorem laid_met (os : Os) : laidMet Tryz.prog Rows.attrFitsUptoRow.laid ((lay (World.holding Tryz.prog os ⟨#[], #[], []⟩)).forCall (fun _ _ => 0) ⟨#[], #[.slice none 0 0, .slice none 0 0, .slice none 0 0], []⟩).memory :=
  laidMet_of_run' 8 (by kernel_rfl) (by kernel_rfl)
theorem reads (os : Os) {H : Type} (enc : TypeId × Value → H) : ∃ places, DataW.whole enc Tryz.prog ((lay (World.holding Tryz.prog os ⟨#[], #[], []⟩)).forCall (fun _ _ => 0) ⟨#[], #[.slice none 0 0, .slice none 0 0, .slice none 0 0], []⟩).memory Tryz.f3.params.toList Rows.attrFitsSpec.vars false #[Value.slice none 0 0, Value.slice none 0 0, Value.slice none 0 0].toList 8 = some ([.nil, .nil, .nil], [], places) :=
  ⟨[], by kernel_rfl⟩

set_option maxRecDepth 100000 in
theorem lifted (os : Os) (started : os.Started) (H : Type) (enc : TypeId × Value → H) (F : Stop.Interp) :
    ReturnsInHanded {} Tryz.checked os 3 .any ((Rows.OpenSpec.upto Rows.attrFitsSpec).preRow enc Tryz.prog Tryz.f3 Rows.attrFitsUptoRow.domain false Rows.attrFitsUptoRow.laid) (((Rows.OpenSpec.upto Rows.attrFitsSpec).at F).post enc Tryz.prog Tryz.f3 false true false false) := by
  obtain ⟨places, hx⟩ := reads os enc
  refine returnsInHanded_of_row (C := Tryz.checked) (s := Rows.OpenSpec.upto Rows.attrFitsSpec) own started (by kernel_rfl) Tryz.func3
    (witness_row_atRef (enc := enc) (C := Tryz.checked) false (lay (World.holding Tryz.prog os ⟨#[], #[], []⟩)) #[.slice none 0 0, .slice none 0 0, .slice none 0 0] rfl (by kernel_rfl) (by kernel_rfl) (by kernel_rfl)
      (OpenSpec.preRow_of_cond 8 hx (by kernel_rfl) (fun k hk => by cases hk; kernel_rfl) (by kernel_rfl) (laid_met os))) ?_
  intro W base args ds gs before hval hW _ hcond _ hL hSh _
  exact contract H enc W base args ds gs before hval hW (hcond _ rfl) hL hSh

theorem said : Rows.AttrFitsUptoSaid :=
  OpenClaim.holds_of_cond 3 Tryz.f3 rfl rfl rfl rfl rfl rfl rfl ⟨rfl, rfl, rfl, rfl, rfl⟩ rfl rfl rfl rfl rfl (by kernel_rfl) Tryz.func3 (by kernel_rfl)
    (of_decide_eq_true (by kernel_rfl)) (by unfold Func.isWrapper; first | (rw [if_pos (by decide +kernel)]; kernel_rfl) | (rw [if_neg (by decide +kernel)]; exact ⟨rfl, rfl⟩))
    (fun os started H enc _ F => by rw [OpenClaim.pre_eq_preRow]; exact lifted os started H enc F)

theorem plain (f : FuncId) (fn : Func) (hf : Tryz.pinned.checked.prog.funcNamed "belfry/belfrylaw04.AttrFits" = some f) (hfn : Tryz.pinned.checked.prog.funcs[f]? = some fn) :
    false = Tryz.pinned.checked.prog.looks [] ∧ ∀ (j : Nat) t, fn.params[j]? = some t → Tryz.pinned.checked.prog.wantsStandIn t = false := by
  obtain rfl : f = 3 := Option.some.inj ((show Tryz.prog.funcNamed "belfry/belfrylaw04.AttrFits" = some 3 by kernel_rfl).symm.trans hf) |>.symm
  obtain rfl : fn = Tryz.f3 := (Option.some.inj (Tryz.func3.symm.trans hfn)).symm
  refine ⟨by kernel_rfl, fun j t ht => ?_⟩
  rw [Tryz.params3] at ht
  have hm := Array.mem_of_getElem? ht
  simp only [List.mem_toArray, List.mem_cons, List.mem_nil_iff, or_false] at hm
  rcases hm with rfl | rfl | rfl
  · exact (show Tryz.prog.wantsStandIn 22 = false by kernel_rfl)
  · exact (show Tryz.prog.wantsStandIn 23 = false by kernel_rfl)
  · exact (show Tryz.prog.wantsStandIn 23 = false by kernel_rfl)

/-- The card. -/
theorem proved : Rows.AttrFitsUptoCardSaid :=
  Claim7.holds_tied_plain_at .later [] _ _ _ _ said (fun _ h => by cases h) (by kernel_rfl) (fun _ h => by cases h) attrFitsUpto_row_tie rfl ⟨rfl, rfl⟩ (by kernel_rfl) rfl plain (by kernel_rfl)
#print axioms proved

end Go.Proofs.YtgmpmpgfpchbcaaGreatDoor.attrFits
