/- Attributes and texts that came in; the two tables, laid. -/
import Derived.Test.YtgmpmpgfpchbcaaGreatDoorCards
import Derived.Test.YtgmpmpgfpchbcaaGreatDoorTie
import Derived.WalkKit
import Derived.ProofKit
import Derived.OpenShut
import Derived.ShutString
import Derived.SizedLaws
import Derived.Below
import Derived.Deep.Slices
import Derived.Deep.DeepHandedRow
import Derived.Deep.DeepWitnessRowRef
import Derived.Lib.LaidTab
import Derived.Lib.LaidU8
import Derived.Lib.LaidU8T
import Derived.Lib.LaidIn
import Derived.Stop.LaidErr
import Derived.Test.YtgmpmpgfpchbcaaGreatDoorX8
namespace Go.Proofs.YtgmpmpgfpchbcaaGreatDoor
open Go.ChangeShapes Go.WideShapes Go.ChangeAt Go.RowKit
set_option linter.unusedVariables false

theorem own : ownKnob Tryz.prog.godebug = none := by kernel_rfl
theorem laidOut : laidOutB Tryz.prog = true := by kernel_rfl
theorem dFirst : (Rows.laid_unicode_utf8_first : DataW Unit) = Lib.firstData := by kernel_rfl
theorem dAccept : (Rows.laid_unicode_utf8_acceptRanges : DataW Unit) = Lib.acceptData := by kernel_rfl
/-- What the rows' list gives. -/
theorem tabs {W : World} (h : laidMet Tryz.prog [("unicode/utf8.acceptRanges", Rows.laid_unicode_utf8_acceptRanges), ("unicode/utf8.first", Rows.laid_unicode_utf8_first)] W) : Tabs W := by
  rw [dFirst, dAccept] at h
  exact utf8Tabs_of_readsT (U8Types.of196 Tryz.lays196) ⟨by kernel_rfl, by kernel_rfl, by kernel_rfl, by kernel_rfl, by kernel_rfl, by kernel_rfl, by kernel_rfl⟩ (Lib.laidMet.reads h (.tail _ (.head _))) (Lib.laidMet.reads h (.head _))
/-- A world in which the listed variables are laid. -/
def lay (w0 : World) : World :=
  let put (h : Array Obj) (g : Nat) (cs : Array Value) : Array Obj := h.modify g fun
    | .cells _ t frozen => .cells cs t frozen
    | o => o
  let h1 := put w0.heap 0 (Lib.firstTab.map fun z => Value.int .u8 z).toArray
  let h2 := put h1 1 ((List.range 16).flatMap fun i => [Value.int .u8 (Lib.accLo i), Value.int .u8 (Lib.accHi i)]).toArray
  { w0 with heap := h2 }
theorem plain_addr {W : World} {x : Addr} {v : Value} (h : W.cell? x = some v) : ∃ b off, x = ⟨b, off, none⟩ := by
  obtain ⟨bb, off, sp⟩ := x
  cases sp with
  | none => exact ⟨bb, off, rfl⟩
  | some q =>
    simp [World.cell?] at h
    split at h <;> simp at h
theorem weights_all {H : Type} {P : Program} {e : TypeId} {d : DataW H} {n : Nat} : ∀ {l : List (DataW H)}, d ∈ l → n ∈ d.weights P e → n ∈ DataW.weightsAll P e l
  | x :: l, hd, hn => by
    simp only [DataW.weightsAll, List.mem_append]
    rcases List.mem_cons.1 hd with rfl | hd
    · exact .inl hn
    · exact .inr (weights_all hd hn)
set_option maxRecDepth 100000 in
theorem at_of {H : Type} {enc : TypeId × Value → H} {W : World} {fuel b o : Nat} {cs : List Value} {x : DataW H × List MemPlace} (hc : W.cells? 0 ⟨b, o, none⟩ 2 = some cs) (h : DataW.trod enc Tryz.prog W 0 (fun _ => true) true fuel 44 cs = some x) :
    ∃ (P Q : ByteArray), W.cell? ⟨b, o, none⟩ = some (.string P) ∧ W.cell? ⟨b, o + 1, none⟩ = some (.string Q) ∧ P.data.toList.length ∈ x.1.weights Tryz.prog 44 ∧ Q.data.toList.length ∈ x.1.weights Tryz.prog 44 := by
  obtain ⟨_, hlen, hcell⟩ := World.cells?_some hc
  obtain ⟨xs, k, hk, hxy, _, hxl, hf⟩ := DataW.trod_struct Tryz.underlying44 h
  match xs, hxl, cs, hlen with
  | [y0, y1], _, [v0, v1], _ =>
    have g0 := hf 0 _ rfl
    have g1 := hf 1 _ rfl
    have k9 : Tryz.prog.cellsOf 9 = 1 := by kernel_rfl
    simp [k9] at g0 g1
    have e0 := hcell 0 (by omega)
    have e1 := hcell 1 (by omega)
    rw [Addr.add_mid] at e0 e1
    simp at e0 e1
    obtain ⟨P, hP, hy0, _⟩ := DataW.trod_string Tryz.underlying9 g0
    obtain ⟨Q, hQ, hy1, _⟩ := DataW.trod_string Tryz.underlying9 g1
    simp only [List.cons.injEq, and_true] at hP hQ
    refine ⟨P, Q, by rw [← hP]; exact e0, by rw [← hQ]; exact e1, ?_, ?_⟩
    · rw [hxy]
      simp only [DataW.weights, Tryz.underlying44]
      refine DataW.weights_mem_each (j := 0) (t := 9) (d := y0.1) rfl rfl _ ?_
      rw [hy0]
      simp [DataW.weights]
    · rw [hxy]
      simp only [DataW.weights, Tryz.underlying44]
      refine DataW.weights_mem_each (j := 1) (t := 9) (d := y1.1) rfl rfl _ ?_
      rw [hy1]
      simp [DataW.weights]
theorem es_tx (s : ByteArray) : s = tx s.data.toList := by cases s; simp [tx]
/-- Attributes that came in. -/
theorem ats_arg {H : Type} {enc : TypeId × Value → H} {W : World} {fuel : Nat} {sa : Option Addr} {len cap : Nat} {d : DataW H} {q : List MemPlace} (h : DataW.trod enc Tryz.prog W 0 (fun _ => true) true fuel 22 [.slice sa len cap] = some (d, q)) (hw : ∀ n ∈ d.weights Tryz.prog 22, n ≤ reachBytes) :
    ∃ l : List At, l.length = len ∧ Ats W sa cap l ∧ (l.length + 1 : Int) * 32 ≤ 140737488355328 := by
  have hrb : reachBytes = 140737488351232 := rfl
  rcases Deep.open_slice Tryz.underlying22 h with ⟨hcs, hx⟩ | ⟨a, len', cap', m, n, D, Pl, hcs, _, hl, hm, hmm, hx, hcell⟩
  · simp only [List.cons.injEq, and_true, Value.slice.injEq] at hcs
    obtain ⟨rfl, rfl, rfl⟩ := hcs
    exact ⟨[], rfl, ⟨Nat.le_refl _, fun i x hx => by simp at hx, fun x hx => by simp at hx⟩, by decide⟩
  · simp only [List.cons.injEq, and_true, Value.slice.injEq] at hcs
    obtain ⟨rfl, rfl, rfl⟩ := hcs
    simp only [Prod.mk.injEq] at hx
    have hmc : m = cap := by simpa using hmm
    have k44 : Tryz.prog.cellsOf 44 = 2 := by kernel_rfl
    rw [k44] at hcell
    have hd := hx.1
    rw [hd] at hw
    simp only [DataW.weights, Tryz.underlying22, List.mem_cons, List.mem_append] at hw
    have hE : ∀ i, i < len → ∃ x : At, (∃ b off, some a = some ⟨b, off, none⟩ ∧ W.cell? ⟨b, off + i * 2, none⟩ = some (.string (tx x.1)) ∧ W.cell? ⟨b, off + i * 2 + 1, none⟩ = some (.string (tx x.2))) ∧ Can x := by
      intro i hi
      obtain ⟨b, off, rfl⟩ : ∃ b off, a = ⟨b, off, none⟩ := by
        obtain ⟨cs, h1, _⟩ := hcell 0 (by omega)
        obtain ⟨_, hlen', hc'⟩ := World.cells?_some h1
        have h2 := hc' 0 (by omega)
        exact plain_addr (x := a) (v := cs[0]'(by omega)) (by
          have h3 : W.cell? a = cs[0]? := by simpa [Addr.add] using h2
          rw [h3]
          exact List.getElem?_eq_getElem (by omega))
      obtain ⟨cs, h1, h2⟩ := hcell i (by omega)
      rw [Addr.add_mid] at h1
      obtain ⟨P, Q, c0, c1, hP, hQ⟩ := at_of h1 h2
      have hb0 := hw _ (.inr (.inl (weights_all (d := D i) (List.mem_map.2 ⟨i, List.mem_range.2 hi, rfl⟩) hP)))
      have hb1 := hw _ (.inr (.inl (weights_all (d := D i) (List.mem_map.2 ⟨i, List.mem_range.2 hi, rfl⟩) hQ)))
      exact ⟨(P.data.toList, Q.data.toList), ⟨b, off, rfl, by rw [← es_tx]; exact c0, by rw [← es_tx]; exact c1⟩, ⟨by show (P.data.toList.length : Int) ≤ _; omega, by show (Q.data.toList.length : Int) ≤ _; omega⟩⟩
    let f : Nat → At := fun i => if hi : i < len then (hE i hi).choose else ([], [])
    have hf : ∀ i (hi : i < len), f i = (hE i hi).choose := fun i hi => by show (if hi : i < len then (hE i hi).choose else ([], [])) = _; rw [dif_pos hi]
    refine ⟨(List.range len).map f, by simp, ⟨by simpa using hl, fun i x hx => ?_, fun x hx => ?_⟩, ?_⟩
    · have hi : i < len := by have := (List.getElem?_eq_some_iff.1 hx).1; simpa using this
      have e : x = f i := by simpa [hi] using hx.symm
      rw [e, hf i hi]
      exact (hE i hi).choose_spec.1
    · obtain ⟨i, hi, rfl⟩ := List.mem_map.1 hx
      have hi' := List.mem_range.1 hi
      rw [hf i hi']
      exact (hE i hi').choose_spec.2
    · have h1 := hw _ (.inl rfl)
      rw [show Tryz.prog.bytesOf 44 = 32 from by kernel_rfl] at h1
      simp only [List.length_map, List.length_range] at h1 ⊢
      omega
set_option maxRecDepth 100000 in
theorem mt_of {H : Type} {enc : TypeId × Value → H} {W : World} {fuel b o : Nat} {cs : List Value} {x : DataW H × List MemPlace} (hc : W.cells? 0 ⟨b, o, none⟩ 3 = some cs) (h : DataW.trod enc Tryz.prog W 0 (fun _ => true) true fuel 30 cs = some x) :
    ∃ (O : Int) (P Q : ByteArray), W.cell? ⟨b, o, none⟩ = some (.int .i64 O) ∧ W.cell? ⟨b, o + 1, none⟩ = some (.string P) ∧ W.cell? ⟨b, o + 2, none⟩ = some (.string Q) ∧ P.data.toList.length ∈ x.1.weights Tryz.prog 30 ∧ Q.data.toList.length ∈ x.1.weights Tryz.prog 30 := by
  obtain ⟨_, hlen, hcell⟩ := World.cells?_some hc
  obtain ⟨xs, k, hk, hxy, _, hxl, hf⟩ := DataW.trod_struct Tryz.underlying30 h
  match xs, hxl, cs, hlen with
  | [y0, y1, y2], _, [v0, v1, v2], _ =>
    have g0 := hf 0 _ rfl
    have g1 := hf 1 _ rfl
    have g2 := hf 2 _ rfl
    have k3 : Tryz.prog.cellsOf 3 = 1 := by kernel_rfl
    have k9 : Tryz.prog.cellsOf 9 = 1 := by kernel_rfl
    simp [k3, k9] at g0 g1 g2
    have e0 := hcell 0 (by omega)
    have e1 := hcell 1 (by omega)
    have e2 := hcell 2 (by omega)
    rw [Addr.add_mid] at e0 e1 e2
    simp at e0 e1 e2
    obtain ⟨O, hO, _, _⟩ := DataW.trod_int Tryz.underlying3 g0
    obtain ⟨P, hP, hy1, _⟩ := DataW.trod_string Tryz.underlying9 g1
    obtain ⟨Q, hQ, hy2, _⟩ := DataW.trod_string Tryz.underlying9 g2
    simp only [List.cons.injEq, and_true] at hO hP hQ
    refine ⟨O, P, Q, by rw [← hO]; exact e0, by rw [← hP]; exact e1, by rw [← hQ]; exact e2, ?_, ?_⟩
    · rw [hxy]
      simp only [DataW.weights, Tryz.underlying30]
      refine DataW.weights_mem_each (j := 1) (t := 9) (d := y1.1) rfl rfl _ ?_
      rw [hy1]
      simp [DataW.weights]
    · rw [hxy]
      simp only [DataW.weights, Tryz.underlying30]
      refine DataW.weights_mem_each (j := 2) (t := 9) (d := y2.1) rfl rfl _ ?_
      rw [hy2]
      simp [DataW.weights]
/-- Matchers that came in. -/
theorem mts_arg {H : Type} {enc : TypeId × Value → H} {W : World} {fuel : Nat} {sa : Option Addr} {len cap : Nat} {d : DataW H} {q : List MemPlace} (h : DataW.trod enc Tryz.prog W 0 (fun _ => true) true fuel 23 [.slice sa len cap] = some (d, q)) (hw : ∀ n ∈ d.weights Tryz.prog 23, n ≤ reachBytes) :
    ∃ l : List Mt, l.length = len ∧ Mts W sa cap l ∧ (l.length + 1 : Int) * 40 ≤ 140737488355328 := by
  have hrb : reachBytes = 140737488351232 := rfl
  rcases Deep.open_slice Tryz.underlying23 h with ⟨hcs, hx⟩ | ⟨a, len', cap', m, n, D, Pl, hcs, _, hl, hm, hmm, hx, hcell⟩
  · simp only [List.cons.injEq, and_true, Value.slice.injEq] at hcs
    obtain ⟨rfl, rfl, rfl⟩ := hcs
    exact ⟨[], rfl, ⟨Nat.le_refl _, fun i x hx => by simp at hx, fun x hx => by simp at hx⟩, by decide⟩
  · simp only [List.cons.injEq, and_true, Value.slice.injEq] at hcs
    obtain ⟨rfl, rfl, rfl⟩ := hcs
    simp only [Prod.mk.injEq] at hx
    have hmc : m = cap := by simpa using hmm
    have k30 : Tryz.prog.cellsOf 30 = 3 := by kernel_rfl
    rw [k30] at hcell
    have hd := hx.1
    rw [hd] at hw
    simp only [DataW.weights, Tryz.underlying23, List.mem_cons, List.mem_append] at hw
    have hE : ∀ i, i < len → ∃ x : Mt, (∃ b off, some a = some ⟨b, off, none⟩ ∧ W.cell? ⟨b, off + i * 3, none⟩ = some (.int .i64 x.op) ∧ W.cell? ⟨b, off + i * 3 + 1, none⟩ = some (.string (tx x.key)) ∧ W.cell? ⟨b, off + i * 3 + 2, none⟩ = some (.string (tx x.val))) ∧ (x.key.length : Int) ≤ 140737488351232 ∧ (x.val.length : Int) ≤ 140737488351232 := by
      intro i hi
      obtain ⟨b, off, rfl⟩ : ∃ b off, a = ⟨b, off, none⟩ := by
        obtain ⟨cs, h1, _⟩ := hcell 0 (by omega)
        obtain ⟨_, hlen', hc'⟩ := World.cells?_some h1
        have h2 := hc' 0 (by omega)
        exact plain_addr (x := a) (v := cs[0]'(by omega)) (by
          have h3 : W.cell? a = cs[0]? := by simpa [Addr.add] using h2
          rw [h3]
          exact List.getElem?_eq_getElem (by omega))
      obtain ⟨cs, h1, h2⟩ := hcell i (by omega)
      rw [Addr.add_mid] at h1
      obtain ⟨O, P, Q, c0, c1, c2, hP, hQ⟩ := mt_of h1 h2
      have hb0 := hw _ (.inr (.inl (weights_all (d := D i) (List.mem_map.2 ⟨i, List.mem_range.2 hi, rfl⟩) hP)))
      have hb1 := hw _ (.inr (.inl (weights_all (d := D i) (List.mem_map.2 ⟨i, List.mem_range.2 hi, rfl⟩) hQ)))
      exact ⟨⟨O, P.data.toList, Q.data.toList⟩, ⟨b, off, rfl, c0, by rw [← es_tx]; exact c1, by rw [← es_tx]; exact c2⟩, by show (P.data.toList.length : Int) ≤ _; omega, by show (Q.data.toList.length : Int) ≤ _; omega⟩
    let f : Nat → Mt := fun i => if hi : i < len then (hE i hi).choose else ⟨0, [], []⟩
    have hf : ∀ i (hi : i < len), f i = (hE i hi).choose := fun i hi => by show (if hi : i < len then (hE i hi).choose else ⟨0, [], []⟩) = _; rw [dif_pos hi]
    refine ⟨(List.range len).map f, by simp, ⟨by simpa using hl, fun i x hx => ?_, fun x hx => ?_⟩, ?_⟩
    · have hi : i < len := by have := (List.getElem?_eq_some_iff.1 hx).1; simpa using this
      have e : x = f i := by simpa [hi] using hx.symm
      rw [e, hf i hi]
      exact (hE i hi).choose_spec.1
    · obtain ⟨i, hi, rfl⟩ := List.mem_map.1 hx
      have hi' := List.mem_range.1 hi
      rw [hf i hi']
      exact (hE i hi').choose_spec.2
    · have h1 := hw _ (.inl rfl)
      rw [show Tryz.prog.bytesOf 30 = 40 from by kernel_rfl] at h1
      simp only [List.length_map, List.length_range] at h1 ⊢
      omega
end Go.Proofs.YtgmpmpgfpchbcaaGreatDoor
