/- The model's buckets: Counts, Drop. -/
import Derived.Test.YtpobfcmbbabchaaR5
namespace Go.Proofs.Ytpobfcmbbabchaa
open Go.RowKit
set_option linter.unusedVariables false
set_option linter.unusedSimpArgs false

theorem results_two {P : Program} {fn : Func} {p q : Tmp} {ty : TypeId} (h : fn.results = #[.cell p ty, .tmp q]) (tmps : Array Value) (w : World) (g : Nat) (cs : Array Value) (v : Value)
    (hp : tmps.getD p undef = .pointer (some ⟨g, 0, none⟩)) (hq : tmps.getD q undef = v) (hl : (loadVar ty ⟨g, 0, none⟩).run P w = .ok (.agg cs) w) :
    (results fn tmps).run P w = .ok (.tuple #[.agg cs, v]) w := by
  have hp' : tmps[p]?.getD undef = .pointer (some ⟨g, 0, none⟩) := by simpa using hp
  have hq' : tmps[q]?.getD undef = v := by simpa using hq
  simp [results, h, hp', hq', asAddr, hl]
theorem load56 {W : World} {g : Nat} {cs : Array Value} (h : W.heap[g]? = some (.cells cs 63 (0, 0))) (hs : cs.size = 3) : (loadVar 63 ⟨g, 0, none⟩).run Try.prog W = .ok (.agg cs) W :=
  run_loadVar_row W g 63 63 cs (0, 0) _ h Try.underlying63 rfl (by rw [hs]; kernel_rfl)
def cntV (r : (Int × Int × Int) × Int) : Value := .tuple #[.agg #[.int .i64 r.1.1, .int .i64 r.1.2.1, .int .i64 r.1.2.2], .int .i64 r.2]
set_option maxRecDepth 20000 in
set_option maxHeartbeats 4000000 in
theorem rcnt_any (T base : Nat) (sv : Value) (l : List Bk) (nm : List UInt8) (w : World) (h : RT w T base sv l) (hl : l.length ≤ 16) :
    Calls Try.prog 30 #[.pointer (some ⟨T, 0, none⟩), .string (tx nm)] w fun e w' => e = .returned (cntV (cntI l nm)) ∧ Below w.heap.size w w' := by
  have HT : Hid (RT w T base sv l) := h
  have HFI : Hid (∀ W, RT W T base sv l → Calls Try.prog 44 #[.pointer (some ⟨T, 0, none⟩), .string (tx nm)] W fun e w' => e = .returned (.int .i64 (ixBI l nm)) ∧ w' = W) := fun W hW => rfind_any T base sv l nm W hW hl
  clear h
  cases hx : lookB l nm with
  | none =>
    have HR : Hid (cntI l nm = ((0, 0, 0), 5)) := by show _ = _; unfold cntI; rw [hx]
    have e1 : ixBI l nm = -1 := by unfold ixBI; rw [lookB_none hx]
    rw [e1] at HFI
    clear hx e1
    go_enter Try.func30, Try.ntmps30
    go_wp2_with (go_at_call 44; refine (HFI.out _ (HT.out.later (bel1 w _) (Nat.le_refl _))).mono ?_; rintro e w1 ⟨rfl, hw1⟩; rw [hw1]; clear hw1)
    refine bodyPost_ret (v := cntV ((0, 0, 0), 5)) (results_two Try.results30 _ _ w.heap.size _ _ rfl rfl (load56 (heap_alloc_new _ _) rfl)) rfl ⟨by rw [HR.out], bel1 w _⟩
  | some kb =>
    obtain ⟨k, b⟩ := kb
    obtain ⟨hx1, hx2, hx3⟩ := lookB_some hx
    have HR : Hid (cntI l nm = ((b.tk, b.rf, b.cs), 0)) := by show _ = _; unfold cntI; rw [hx]
    have e1 : ixBI l nm = (k : Int) := by unfold ixBI; rw [hx1]
    rw [e1] at HFI
    have hlt : k < l.length := (List.getElem?_eq_some_iff.1 hx2).1
    obtain ⟨g, c, e⟩ := own_form HT.out.row (by omega)
    subst e
    have HX : Hid (l[k]? = some b) := hx2
    obtain ⟨n, hn⟩ : ∃ n, l.length = n := ⟨_, rfl⟩
    have HN : Hid (l.length = n) := hn
    have hk' : (k : Int) < (n : Int) := by omega
    have hcap : (n : Int) ≤ (c : Int) := by have := own_cap HT.out.row; omega
    have hl' : (n : Int) ≤ 16 := by omega
    obtain ⟨d0, c0, c1, c2, c3, c4, c5, c6, c7, c8⟩ := HT.out.ten HX.out
    have hgl := (own_lt HT.out.row).2
    have hTl := (Array.getElem?_eq_some_iff.1 HT.out.tab).1
    rw [hn] at d0
    clear hx hx1 hx2 hx3 e1 hlt hn hl c0 c1 c2 c3 c4 c5
    go_enter Try.func30, Try.ntmps30
    go_wp2_with (go_at_call 44; refine (HFI.out _ (HT.out.later (bel1 w _) (Nat.le_refl _))).mono ?_; rintro e w1 ⟨rfl, hw1⟩; rw [hw1]; clear hw1)
    refine bodyPost_ret (v := cntV ((b.tk, b.rf, b.cs), 0)) (results_two Try.results30 _ _ w.heap.size _ _ rfl rfl (load56 (heap_alloc_new _ _) rfl)) rfl ⟨by rw [HR.out], bel1 w _⟩
theorem info63 : (Try.prog.info? 78).map (fun i => (i.zero, i.size, i.bytes)) = some (some (.agg #[.string ⟨#[]⟩, .int .i64 0, .int .i64 0, .int .i64 0, .int .i64 0, .int .i64 0, .int .i64 0, .int .i64 0, .int .i64 0]), 9, 80) := by kernel_rfl
end Go.Proofs.Ytpobfcmbbabchaa
