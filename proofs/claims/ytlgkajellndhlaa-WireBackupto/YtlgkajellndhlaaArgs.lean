/- Lists of fields that came in. -/
import Derived.Test.YtlgkajellndhlaaLaw
import Derived.Test.YtlgkajellndhlaaRows
import Derived.Deep.Slices
import Derived.OpenShut
import Derived.ProofKit
namespace Go.Proofs.Ytlgkajellndhlaa
open Go.ChangeShapes Go.WideShapes Go.ChangeAt Go.RowKit
set_option linter.unusedVariables false

theorem own : ownKnob Try.prog.godebug = none := by kernel_rfl
theorem laidOut : laidOutB Try.prog = true := by kernel_rfl
theorem bulk_one {H : Type} (d : DataW H) : 1 ≤ Rows.uptoBulk d := by
  cases d with
  | lit l => cases l <;> simp [Rows.uptoBulk]
  | _ => simp [Rows.uptoBulk]
theorem bulk_len {H : Type} : ∀ l : List (DataW H), l.length ≤ Rows.uptoBulkAll l
  | [] => by simp [Rows.uptoBulkAll]
  | d :: r => by have h1 := bulk_len r; have h2 := bulk_one d; simp only [Rows.uptoBulkAll, List.length_cons]; omega
theorem bulk_mem {H : Type} {d : DataW H} : ∀ {l : List (DataW H)}, d ∈ l → Rows.uptoBulk d ≤ Rows.uptoBulkAll l
  | x :: r, h => by
    simp only [Rows.uptoBulkAll]
    rcases List.mem_cons.1 h with rfl | h
    · omega
    · have := bulk_mem h; omega
theorem bulk_ints {H : Type} {k : IntKind} {a b : List Int} {B : Nat} (h : Rows.uptoBulk (DataW.slice (H := H) (lits k a) (lits k b)) ≤ B) : a.length ≤ B := by
  simp only [Rows.uptoBulk] at h
  have h1 := bulk_len (lits (H := H) k a)
  have h2 : (lits (H := H) k a).length = a.length := by simp [lits]
  omega
theorem plain_addr {W : World} {x : Addr} {v : Value} (h : W.cell? x = some v) : ∃ b off, x = ⟨b, off, none⟩ := by
  obtain ⟨bb, off, sp⟩ := x
  cases sp with
  | none => exact ⟨bb, off, rfl⟩
  | some q =>
    simp [World.cell?] at h
    split at h <;> simp at h

/-- A field of bytes, as it lies. -/
theorem bytes_of {H : Type} {enc : TypeId × Value → H} {W : World} {fuel : Nat} {v : Value} {d : DataW H} {q : List MemPlace} (h : DataW.trod enc Try.prog W 0 (fun _ => true) true fuel 25 [v] = some (d, q)) (hd : Rows.uptoBulk d ≤ 1048576) :
    ∃ sa l c bs, v = .slice sa l c ∧ Src W (.slice sa l c) bs ∧ Byt bs ∧ (bs.length : Int) ≤ 1048576 := by
  rcases open_ints Try.underlying25 Try.underlying5 (by kernel_rfl) h with ⟨hcs, _⟩ | ⟨x, l, c, zs, hcs, _, hl, hm, hz, hx, hcell, hwz⟩
  · simp only [List.cons.injEq, and_true] at hcs
    exact ⟨none, 0, 0, [], hcs, .inl ⟨rfl, rfl⟩, fun x hx => (nomatch hx), by decide⟩
  · simp only [List.cons.injEq, and_true] at hcs
    have hz' : zs.length = c := by simpa using hz
    simp only [Prod.mk.injEq] at hx
    rw [hx.1] at hd
    have hb := bulk_ints hd
    have hlen : (zs.take l).length = l := by simp; omega
    refine ⟨some x, l, c, zs.take l, hcs, .inr ⟨x, c, by rw [hlen], by omega, fun j u hu => ?_⟩, fun y hy => bounds_u8 (hwz y (List.mem_of_mem_take hy)), by rw [hlen]; omega⟩
    unfold u8l at hu
    rw [List.getElem?_map] at hu
    have hj : j < (zs.take l).length := by
      cases hq : (zs.take l)[j]? with
      | none => rw [hq] at hu; cases hu
      | some y => exact (List.getElem?_eq_some_iff.1 hq).1
    rw [List.getElem?_take_of_lt (by omega), List.getElem?_eq_getElem (by omega)] at hu
    rw [hcell j (by omega), ← hu, List.getD_eq_getElem?_getD, List.getElem?_eq_getElem (by omega)]
    rfl

/-- One field, as it lies. -/
theorem field_of {H : Type} {enc : TypeId × Value → H} {W : World} {fuel b o : Nat} {cs : List Value} {x : DataW H × List MemPlace} (hc : W.cells? 0 ⟨b, o, none⟩ 4 = some cs) (h : DataW.trod enc Try.prog W 0 (fun _ => true) true fuel 38 cs = some x) (hd : Rows.uptoBulk x.1 ≤ 1048576) :
    ∃ f qa l c, FCell W b o f qa l c ∧ f.Fit := by
  obtain ⟨_, hlen, hcell⟩ := World.cells?_some hc
  obtain ⟨xs, k, hk, hxy, _, hxl, hf⟩ := DataW.trod_struct Try.underlying38 h
  match xs, hxl, cs, hlen with
  | [y0, y1, y2, y3], _, [v0, v1, v2, v3], _ =>
    have g0 := hf 0 _ rfl
    have g1 := hf 1 _ rfl
    have g2 := hf 2 _ rfl
    have g3 := hf 3 _ rfl
    have k3 : Try.prog.cellsOf 3 = 1 := by kernel_rfl
    have k33 : Try.prog.cellsOf 33 = 1 := by kernel_rfl
    have k25 : Try.prog.cellsOf 25 = 1 := by kernel_rfl
    simp [k3, k33, k25] at g0 g1 g2 g3
    have e0 := hcell 0 (by omega)
    have e1 := hcell 1 (by omega)
    have e2 := hcell 2 (by omega)
    have e3 := hcell 3 (by omega)
    rw [Addr.add_mid] at e0 e1 e2 e3
    simp at e0 e1 e2 e3
    obtain ⟨A, hA, hxA, _⟩ := DataW.trod_int Try.underlying3 g0
    obtain ⟨T, hT, hxT, _⟩ := DataW.trod_int Try.underlying3 g1
    obtain ⟨N, hN, hxN, hwN⟩ := DataW.trod_int Try.underlying33 g2
    simp only [List.cons.injEq, and_true] at hA hT hN
    rw [hxy] at hd
    simp only [List.map_cons, List.map_nil, Rows.uptoBulk, Rows.uptoBulkAll] at hd
    obtain ⟨sa, l, c, bs, hv, hs, hb, hl⟩ := bytes_of (d := y3.1) (q := y3.2) g3 (by omega)
    have hNb : 0 ≤ N ∧ N < 18446744073709551616 := by
      simp [Lit.wf, IntKind.min, IntKind.max, IntKind.signed, IntKind.bits] at hwN
      omega
    refine ⟨⟨A, T, N.toNat, bs⟩, sa, l, c, ⟨by rw [← hA]; exact e0, by rw [← hT]; exact e1, ?_, by rw [← hv]; exact e3, hs⟩, ⟨?_, hb, hl⟩⟩
    · show W.cell? ⟨b, o + 2, none⟩ = some (.int .u64 (N.toNat : Int))
      rw [show ((N.toNat : Nat) : Int) = N by omega, ← hN]
      exact e2
    · show ((N.toNat : Nat) : Int) < _
      omega

/-- A list of fields that came in. -/
theorem fds_arg {H : Type} {enc : TypeId × Value → H} {W : World} {fuel : Nat} {v : Value} {d : DataW H} {q : List MemPlace} (h : DataW.trod enc Try.prog W 0 (fun _ => true) true fuel 22 [v] = some (d, q)) (hd : Rows.uptoBulk d ≤ 1048576) :
    ∃ fs, Fds W v fs ∧ (∀ f ∈ fs, f.Fit) ∧ (fs.length : Int) ≤ 1048576 := by
  rcases Deep.open_slice Try.underlying22 h with ⟨hcs, _⟩ | ⟨a, len, cap, m, n, D, Pl, hcs, _, hl, hm, hmm, hx, hcell⟩
  · simp only [List.cons.injEq, and_true] at hcs
    subst hcs
    exact ⟨[], ⟨none, 0, rfl, Nat.le_refl _, fun i f hi => by simp at hi⟩, (fun f hf => nomatch hf), by decide⟩
  · simp only [List.cons.injEq, and_true] at hcs
    subst hcs
    simp only [Prod.mk.injEq] at hx
    rw [hx.1] at hd
    simp only [Rows.uptoBulk] at hd
    have hmc : m = cap := by simpa using hmm
    have hlen := bulk_len ((List.range len).map D)
    simp only [List.length_map, List.length_range] at hlen
    have k38 : Try.prog.cellsOf 38 = 4 := by kernel_rfl
    rw [k38] at hcell
    by_cases h0 : len = 0
    · subst h0
      exact ⟨[], ⟨some a, cap, rfl, Nat.zero_le _, fun i f hi => by simp at hi⟩, (fun f hf => nomatch hf), by decide⟩
    · obtain ⟨b, off, rfl⟩ : ∃ b off, a = ⟨b, off, none⟩ := by
        obtain ⟨cs, h1, _⟩ := hcell 0 (by omega)
        obtain ⟨_, hlen', hc'⟩ := World.cells?_some h1
        have h2 := hc' 0 (by omega)
        exact plain_addr (x := a) (v := cs[0]'(by omega)) (by
          have h3 : W.cell? a = cs[0]? := by simpa [Addr.add] using h2
          rw [h3]
          exact List.getElem?_eq_getElem (by omega))
      have each : ∀ i, i < len → ∃ f, (∃ qa l c, FCell W b (off + i * 4) f qa l c) ∧ f.Fit := fun i hi => by
        obtain ⟨cs, h1, h2⟩ := hcell i (by omega)
        rw [Addr.add_mid] at h1
        have hmem : D i ∈ (List.range len).map D := List.mem_map.2 ⟨i, List.mem_range.2 hi, rfl⟩
        have hb := bulk_mem hmem
        obtain ⟨f, qa, l, c, hF, hfit⟩ := field_of h1 h2 (by show Rows.uptoBulk (D i) ≤ _; omega)
        exact ⟨f, ⟨qa, l, c, hF⟩, hfit⟩
      have inh : Inhabited Fd := ⟨⟨0, 0, 0, []⟩⟩
      obtain ⟨F, hF⟩ := Deep.choose_lt each
      refine ⟨(List.range len).map F, ⟨some ⟨b, off, none⟩, cap, by simp, by simpa using hl, fun i f hi => ?_⟩, fun f hf => ?_, by simp; omega⟩
      · rw [List.getElem?_map] at hi
        have hil : i < len := by
          cases hq : (List.range len)[i]? with
          | none => rw [hq] at hi; cases hi
          | some y => have := (List.getElem?_eq_some_iff.1 hq).1; simpa using this
        rw [List.getElem?_range hil] at hi
        have hfe : F i = f := by simpa using hi
        obtain ⟨⟨qa, l, c, hc⟩, _⟩ := hF i hil
        rw [hfe] at hc
        exact ⟨b, off, qa, l, c, rfl, hc⟩
      · obtain ⟨i, hi, rfl⟩ := List.mem_map.1 hf
        exact (hF i (List.mem_range.1 hi)).2
end Go.Proofs.Ytlgkajellndhlaa
