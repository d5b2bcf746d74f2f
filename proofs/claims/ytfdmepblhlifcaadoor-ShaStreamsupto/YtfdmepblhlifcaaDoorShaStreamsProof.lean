/- ShaStreams: for every list of calls of bulk at most 1048576 the law's call returns true: whatever is written to a stream, in whatever pieces, with calls of Reset and with copies in between, the stream has the length, the digest and the states of all its bytes at once, and a copy goes its own way; and the list is left as it was. Condition: the package variable that the row lists (the numbers K of the program) holds what the program's text lays in it (the card ties it to that). -/
import Derived.Test.YtfdmepblhlifcaaDoorN6
import Derived.Test.YtfdmepblhlifcaaDoorD2
import Derived.Deep.SlicePairs
namespace Go.Proofs.YtfdmepblhlifcaaDoor.shaStreams
open Go.ChangeShapes Go.WideShapes Go.ChangeAt Go.RowKit

theorem bulk_one {H : Type} (d : DataW H) : 1 ≤ Rows.uptoBulk d := by
  cases d with
  | lit l => cases l <;> simp [Rows.uptoBulk]
  | _ => simp [Rows.uptoBulk]
theorem bulk_len {H : Type} : ∀ l : List (DataW H), l.length ≤ Rows.uptoBulkAll l
  | [] => by simp [Rows.uptoBulkAll]
  | d :: r => by have h1 := bulk_len r; have h2 := bulk_one d; simp only [Rows.uptoBulkAll, List.length_cons]; omega
theorem bulk_mem {H : Type} {d : DataW H} : ∀ {l : List (DataW H)}, d ∈ l → Rows.uptoBulk d ≤ Rows.uptoBulkAll l
  | x :: r, h => by
    simp only [Rows.uptoBulkAll]
    rcases List.mem_cons.1 h with rfl | h
    · omega
    · have := bulk_mem h; omega
theorem bulk_part {H : Type} {n : Nat} (D0 D1 : Nat → DataW H) {spare : List (DataW H)} {B : Nat} (h : Rows.uptoBulkAll [DataW.slice ((List.range n).map fun i => DataW.agg [D0 i, D1 i]) spare] ≤ B) :
    n ≤ B ∧ ∀ i, i < n → Rows.uptoBulk (D1 i) ≤ B := by
  simp only [Rows.uptoBulkAll, Rows.uptoBulk] at h
  constructor
  · have h1 := bulk_len ((List.range n).map fun i => DataW.agg [D0 i, D1 i])
    simp only [List.length_map, List.length_range] at h1
    omega
  · intro i hi
    have h1 : DataW.agg [D0 i, D1 i] ∈ (List.range n).map fun i => DataW.agg [D0 i, D1 i] := List.mem_map.2 ⟨i, List.mem_range.2 hi, rfl⟩
    have h2 := bulk_mem h1
    simp only [Rows.uptoBulk, Rows.uptoBulkAll] at h2
    omega
theorem bulk_ints {H : Type} {k : IntKind} {a b : List Int} {B : Nat} (h : Rows.uptoBulk (DataW.slice (H := H) (lits k a) (lits k b)) ≤ B) : a.length ≤ B := by
  simp only [Rows.uptoBulk] at h
  have h1 := bulk_len (lits (H := H) k a)
  have h2 : (lits (H := H) k a).length = a.length := by simp [lits]
  omega

theorem plain_addr {W : World} {x : Addr} {v : Value} (h : W.cell? x = some v) : ∃ b off, x = ⟨b, off, none⟩ ∧ b < W.heap.size := by
  have hlt := World.block_lt_of_cell? W _ h
  obtain ⟨bb, off, sp⟩ := x
  cases sp with
  | none => exact ⟨bb, off, rfl, hlt⟩
  | some q =>
    simp [World.cell?] at h
    split at h <;> simp at h

/-- A field of bytes, as it lies. -/
theorem bytes_of {H : Type} {enc : TypeId × Value → H} {W : World} {fuel : Nat} {v : Value} {d : DataW H} {q : List MemPlace} (h : DataW.trod enc Tryd.prog W 0 (fun _ => true) true fuel 22 [v] = some (d, q)) (hd : Rows.uptoBulk d ≤ 1048576) :
    ∃ sa l c bs, v = .slice sa l c ∧ Src W (.slice sa l c) bs ∧ Byt bs ∧ (bs.length : Int) ≤ 1048576 ∧ ∀ ad n c', 0 < n → Value.slice sa l c = .slice (some ad) n c' → ad.block < W.heap.size := by
  rcases open_ints Tryd.underlying22 Tryd.underlying5 (by kernel_rfl) h with ⟨hcs, _⟩ | ⟨x, l, c, zs, hcs, _, hl, hm, hz, hx, hcell, hwz⟩
  · simp only [List.cons.injEq, and_true] at hcs
    exact ⟨none, 0, 0, [], hcs, .inl ⟨rfl, rfl⟩, fun x hx => (nomatch hx), by decide, fun ad n c' _ e => by cases e⟩
  · simp only [List.cons.injEq, and_true] at hcs
    have hz' : zs.length = c := by simpa using hz
    simp only [Prod.mk.injEq] at hx
    rw [hx.1] at hd
    have hb := bulk_ints hd
    have hlen : (zs.take l).length = l := by simp; omega
    by_cases h0 : l = 0
    · subst h0
      refine ⟨some x, 0, c, [], hcs, .inr ⟨x, c, rfl, fun j u hu => by simp [u8l] at hu⟩, fun x hx => (nomatch hx), by decide, fun ad n c' hn e => ?_⟩
      obtain ⟨-, e', -⟩ := Value.slice.inj e
      omega
    · refine ⟨some x, l, c, zs.take l, hcs, .inr ⟨x, c, by rw [hlen], fun j u hu => ?_⟩, fun y hy => bounds_u8 (hwz y (List.mem_of_mem_take hy)), by rw [hlen]; omega, fun ad n c' _ e => ?_⟩
      · unfold u8l at hu
        rw [List.getElem?_map] at hu
        have hj : j < (zs.take l).length := by
          cases hq : (zs.take l)[j]? with
          | none => rw [hq] at hu; cases hu
          | some y => exact (List.getElem?_eq_some_iff.1 hq).1
        rw [List.getElem?_take_of_lt (by omega), List.getElem?_eq_getElem (by omega)] at hu
        rw [hcell j (by omega), ← hu, List.getD_eq_getElem?_getD, List.getElem?_eq_getElem (by omega)]
        rfl
      · have e' : x = ad := Option.some.inj (Value.slice.inj e).1
        have := World.block_lt_of_cell? W _ (hcell 0 (by omega))
        have hb2 : (x.add 0).block = x.block := rfl
        rw [← e']
        exact this

/-- The script, as it lies. -/
theorem script_of {H : Type} {enc : TypeId × Value → H} {W : World} {fuel : Nat} {v : Value} {d : DataW H} {q : List MemPlace} (h : DataW.trod enc Tryd.prog W 0 (fun _ => true) true fuel 35 [v] = some (d, q)) (hd : Rows.uptoBulkAll [d] ≤ 1048576) :
    ∃ sa n cap b off, v = .slice sa n cap ∧ (n : Int) ≤ 1048576 ∧ (n : Int) ≤ (cap : Int) ∧ (0 < n → sa = some ⟨b, off, none⟩) ∧ (0 < n → b < W.heap.size) ∧ ∀ i, i < n → ∃ K sa l c bs, Piece W b (off + i * 2) K sa l c bs := by
  rcases Deep.open_slice_pairs Tryd.underlying35 Tryd.underlying39 (by kernel_rfl) rfl rfl (by kernel_rfl) (by kernel_rfl) h with ⟨hcs, _⟩ | ⟨a, len, cap, m, n, V0, V1, D0, D1, P0, P1, hcs, _, hl, hm, hmm, hx, hcell⟩
  · simp only [List.cons.injEq, and_true] at hcs
    exact ⟨none, 0, 0, 0, 0, hcs, by decide, by decide, fun h => absurd h (by decide), fun h => absurd h (by decide), fun i hi => absurd hi (by omega)⟩
  · simp only [List.cons.injEq, and_true] at hcs
    simp only [Prod.mk.injEq] at hx
    rw [hx.1] at hd
    obtain ⟨b1, b2⟩ := bulk_part D0 D1 hd
    have hmc : m = cap := by simpa using hmm
    by_cases h0 : len = 0
    · subst h0
      exact ⟨some a, 0, cap, 0, 0, hcs, by omega, by omega, fun h => absurd h (by decide), fun h => absurd h (by decide), fun i hi => absurd hi (by omega)⟩
    · obtain ⟨b, off, rfl, hb⟩ : ∃ b off, a = ⟨b, off, none⟩ ∧ b < W.heap.size := by
        have h1 := (hcell 0 (by omega)).1
        exact plain_addr (x := a) h1
      refine ⟨some ⟨b, off, none⟩, len, cap, b, off, hcs, by omega, by omega, fun _ => rfl, fun _ => hb, fun i hi => ?_⟩
      obtain ⟨c0, c1, t0, t1⟩ := hcell i (by omega)
      obtain ⟨K, hK, _, _⟩ := DataW.trod_int Tryd.underlying3 t0
      simp only [List.cons.injEq, and_true] at hK
      obtain ⟨sa, l, c, bs, hv, h1, h2, h3, h4⟩ := bytes_of t1 (b2 i hi)
      rw [Addr.add_mid] at c0 c1
      rw [hK] at c0
      rw [hv] at c1
      exact ⟨K, sa, l, c, bs, c0, by rw [Nat.add_assoc]; exact c1, h1, h2, h3, h4⟩

set_option maxRecDepth 100000 in
theorem contract (H : Type) (enc : TypeId × Value → H) (W : World) (base : Nat) (args : Array Value) (ds gs : List (DataW H)) (before : List MemPlace)
    (hval : ∀ (j : Nat) t v, Tryd.f5.params[j]? = some t → args[j]? = some v → Value.okWide Tryd.prog W .any base t v)
    (hW : DataW.Whole enc Tryd.prog Tryd.f5.params.toList Rows.shaStreamsSpec.vars false W args.toList ds gs before)
    (hk : Rows.uptoSmall H (ds ++ gs) = true)
    (hL : laidMet Tryd.prog Rows.shaStreamsUptoRow.laid W) :
    Calls Tryd.prog 5 args W fun e W' => ∃ v, e = .returned v ∧ Rows.shaStreamsSpec.post enc Tryd.prog Tryd.f5 false true false false W args v W' := by
  have hW' := hW
  obtain ⟨p, q, hA0, hV, rfl, hfz, hnd⟩ := hW
  have hA : DataW.TrodAll enc Tryd.prog W 0 (fun _ => true) true Tryd.f5.params.toList args.toList ds p := hA0
  rw [Tryd.params5] at hA hval
  obtain ⟨v0, vs0, d0, ds0, p0, q0, hargs, rfl, rfl, h0, r0⟩ := trodAll_cons hA
  obtain ⟨rfl, rfl, rfl⟩ := trodAll_nil r0
  obtain rfl : args = #[v0] := Array.toList_inj.1 hargs
  obtain ⟨rfl, rfl⟩ := trodVars_none hV
  obtain ⟨a0, len0, cap0, rfl⟩ := okWide_slice Tryd.underlying35 (hval 0 35 v0 rfl rfl)
  have k0 := h0
  have lt0 : ∀ x ∈ p0, x.block < W.heap.size := by obtain ⟨m, hm⟩ := k0; exact DataW.trod_lt m _ _ _ hm
  have hk' : Rows.uptoBulkAll [d0] ≤ 1048576 := of_decide_eq_true hk
  obtain ⟨fuel, hf⟩ := h0
  obtain ⟨sa, n, cap, b, off, hv, hn, hnc, hsa, hb, hP⟩ := script_of hf hk'
  obtain ⟨rfl, rfl, rfl⟩ := Value.slice.inj hv
  clear hA0
  have R : Roots W := table hL
  have hs0 := table_size R
  have hK : ∀ V : World, Below W.heap.size W V → Calls Tryd.prog 14 #[] V fun e w' => e = .returned (.bool true) ∧ Below V.heap.size V w' := fun V hV => known_any V (roots_later R hs0 hV) (by have := hV.size; omega)
  have wk := streams_any b off cap0 len0 a0 W R hs0 hn hnc hsa hb hP hK
  refine wk.mono fun e W' ⟨he, bel⟩ => ?_
  subst he
  exact ⟨_, rfl, _, _, _, [], _, [], hW', trodAll_mk1 (shut_bool Tryd.underlying4 _), (trodAll_cons_mk (Below.trod laidOut (by kernel_rfl) (of_decide_eq_true (by kernel_rfl)) k0 bel lt0) trodAll_mk0), rfl, bel.frame _, fun h => by cases h⟩

set_option maxRecDepth 1000000 in
theorem laid_met (os : Os) : laidMet Tryd.prog Rows.shaStreamsUptoRow.laid ((lay (World.holding Tryd.prog os ⟨#[], #[], []⟩)).forCall (fun _ _ => 0) ⟨#[], #[.slice none 0 0], []⟩).memory :=
  laidMet_of_run' 8 (by kernel_rfl) (by kernel_rfl)
theorem reads (os : Os) {H : Type} (enc : TypeId × Value → H) : ∃ places, DataW.whole enc Tryd.prog ((lay (World.holding Tryd.prog os ⟨#[], #[], []⟩)).forCall (fun _ _ => 0) ⟨#[], #[.slice none 0 0], []⟩).memory Tryd.f5.params.toList Rows.shaStreamsSpec.vars false #[Value.slice none 0 0].toList 8 = some ([.nil], [], places) :=
  ⟨[], by kernel_rfl⟩

set_option maxRecDepth 100000 in
theorem lifted (os : Os) (started : os.Started) (H : Type) (enc : TypeId × Value → H) (F : Stop.Interp) :
    ReturnsInHanded {} Tryd.checked os 5 .any ((Rows.OpenSpec.upto Rows.shaStreamsSpec).preRow enc Tryd.prog Tryd.f5 Rows.shaStreamsUptoRow.domain false Rows.shaStreamsUptoRow.laid) (((Rows.OpenSpec.upto Rows.shaStreamsSpec).at F).post enc Tryd.prog Tryd.f5 false true false false) := by
  obtain ⟨places, hx⟩ := reads os enc
  refine returnsInHanded_of_row (C := Tryd.checked) (s := Rows.OpenSpec.upto Rows.shaStreamsSpec) own started (by kernel_rfl) Tryd.func5
    (witness_row_atRef (enc := enc) (C := Tryd.checked) false (lay (World.holding Tryd.prog os ⟨#[], #[], []⟩)) #[.slice none 0 0] rfl (by kernel_rfl) (by kernel_rfl) (by kernel_rfl)
      (OpenSpec.preRow_of_cond 8 hx (by kernel_rfl) (fun k hk => by cases hk; kernel_rfl) (by kernel_rfl) (laid_met os))) ?_
  intro W base args ds gs before hval hW _ hcond _ hL _ _
  exact contract H enc W base args ds gs before hval hW (hcond _ rfl) hL

theorem said : Rows.ShaStreamsUptoSaid :=
  OpenClaim.holds_of_cond 5 Tryd.f5 rfl rfl rfl rfl rfl rfl rfl ⟨rfl, rfl, rfl, rfl, rfl⟩ rfl rfl rfl rfl rfl (by kernel_rfl) Tryd.func5 (by kernel_rfl)
    (of_decide_eq_true (by kernel_rfl)) (by unfold Func.isWrapper; first | (rw [if_pos (by decide +kernel)]; kernel_rfl) | (rw [if_neg (by decide +kernel)]; exact ⟨rfl, rfl⟩))
    (fun os started H enc _ F => by rw [OpenClaim.pre_eq_preRow]; exact lifted os started H enc F)

theorem plain (f : FuncId) (fn : Func) (hf : Tryd.pinned.checked.prog.funcNamed "belfry/belfrylaw03.ShaStreams" = some f) (hfn : Tryd.pinned.checked.prog.funcs[f]? = some fn) :
    false = Tryd.pinned.checked.prog.looks [] ∧ ∀ (j : Nat) t, fn.params[j]? = some t → Tryd.pinned.checked.prog.wantsStandIn t = false := by
  obtain rfl : f = 5 := Option.some.inj ((show Tryd.prog.funcNamed "belfry/belfrylaw03.ShaStreams" = some 5 by kernel_rfl).symm.trans hf) |>.symm
  obtain rfl : fn = Tryd.f5 := (Option.some.inj (Tryd.func5.symm.trans hfn)).symm
  refine ⟨by kernel_rfl, fun j t ht => ?_⟩
  rw [Tryd.params5] at ht
  obtain rfl : t = 35 := by simpa using Array.mem_of_getElem? ht
  exact (show Tryd.prog.wantsStandIn 35 = false by kernel_rfl)

/-- The card. -/
theorem proved : Rows.ShaStreamsUptoCardSaid :=
  Claim7.holds_tied_plain_at .later [] _ _ _ _ said (fun _ h => by cases h) (by kernel_rfl) (fun _ h => by cases h) shaStreamsUpto_row_tie rfl ⟨rfl, rfl⟩ (by kernel_rfl) rfl plain (by kernel_rfl)
#print axioms proved

end Go.Proofs.YtfdmepblhlifcaaDoor.shaStreams
