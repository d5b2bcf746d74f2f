/- Fields handed in new memory. -/
import Derived.Test.YtlgkajellndhlaaRows4
import Derived.Deep.RegionLaw
import Derived.BigRegion
namespace Go.Proofs.Ytlgkajellndhlaa
open Go.RowKit
set_option linter.unusedVariables false
set_option linter.unusedSimpArgs false

theorem step_append_src {w : World} {ops : Array Oper} {o : Oper} {a : Act} {K : Act → World → Prop} {Q : Exit → Act → World → Prop} {E : Prop} (hgd : o.guard = none) (s x : Operand)
    (ho : o.op = .call { callee := .builtin .append, args := #[s, x], argTypes := #[25, 25] }) (base : Nat) (v : Value) (n : Nat) (xs : List Value) (hs : a.eval s = v) (hown : w.ownsRow base 5 1 v n xs)
    (sv : Value) (bs : List Int) (hx : a.eval x = sv) (hsrc : Src w sv bs) (hb : n + bs.length ≤ 100000000) (hbase : base ≤ w.heap.size)
    (h : ∀ v' w', w'.ownsRow base 5 1 v' (n + bs.length) (xs ++ u8l bs) → w.grownBy w' v.ownBlock → K (a.put o.dst v') w') :
    if Region.wanted o (yielded ops a.tmps) = true then Oper.wp Try.prog o a w K Q else E := by
  have hw : Region.wanted o (yielded ops a.tmps) = true := by simp [Region.wanted, hgd]
  rw [if_pos hw]
  obtain ⟨i0, hi, hz0, hz1, hz2⟩ := info_parts info5
  rcases hsrc with ⟨rfl, rfl⟩ | ⟨ad, cap, rfl, _, hC⟩
  · have hrun := run_append_owned_none (P := Try.prog) (w := w) base 25 o.type 5 i0 1 Try.underlying25 hi v n xs hown
    unfold Oper.wp
    simp [execOp, ho, resolve, invoke, builtin, hs, hx, hrun, Result.andThen]
    exact h v w (by simpa [u8l] using hown) ⟨rfl, rfl, rfl, Nat.le_refl _, fun _ _ _ => rfl⟩
  · exact wp_append_own w s x 25 ho base 5 i0 (.int .u8 0) 1 1 Try.underlying25 hi hz0 hz1 hz2 rfl (by decide) v n xs hs hown ad bs.length cap (u8l bs) hx (by simp [u8l_len]) hC (u8l_one _) (by unfold maxLen; omega) (by omega) hbase fun v' w' h1 h2 _ => h v' w' h1 h2

/-- The rows of a list of fields, each with bytes of its own. -/
def OwnB (base : Nat) (W : World) (ps : List (Fd × Value)) : Prop := ∀ p ∈ ps, W.ownsRow base 5 1 p.2 p.1.b.length (u8l p.1.b)
theorem OwnB.later {base : Nat} {W W' : World} {ps : List (Fd × Value)} (h : OwnB base W ps) (hk : ∀ (k : Nat) (cur : Array Value) (fr : Nat × Nat), W.heap[k]? = some (Obj.cells cur 5 fr) → W'.heap[k]? = W.heap[k]?) : OwnB base W' ps := fun p hp => own_at (h p hp) fun q hq => by
  obtain ⟨cur, hc⟩ := own_tag (h p hp) hq
  exact hk q cur _ hc

set_option maxRecDepth 20000 in
set_option maxHeartbeats 4000000 in
theorem given_any (v : Value) (fs : List Fd) (w : World) (hF : Fds w v fs) (hf : ∀ f ∈ fs, f.Fit) (hl : (fs.length : Int) ≤ 10000000) : Calls Try.prog 5 #[v] w fun e w' => (∃ v', e = .returned v' ∧ Fds w' v' fs) ∧ Below w.heap.size w w' := by
  obtain ⟨sa, cap, rfl, hcap, hC⟩ := hF
  have HC : Hid (∀ i f, fs[i]? = some f → ∃ b off qa l c, sa = some ⟨b, off, none⟩ ∧ FCell w b (off + i * 4) f qa l c) := hC
  have HF : Hid (∀ f ∈ fs, f.Fit) := hf
  obtain ⟨n, hn⟩ : ∃ n, fs.length = n := ⟨_, rfl⟩
  have HN : Hid (fs.length = n) := hn
  rw [hn] at hcap hl ⊢
  have n1 : (n : Int) ≤ (cap : Int) := by omega
  clear hC hn hcap hf
  go_enter Try.func5, Try.ntmps5
  go_wp2_with fail
  go_loopw [3, 4] (fun x i wr => ∃ (k : Nat) (ps : List (Fd × Value)), k ≤ n ∧ i = .int .i64 (k : Int) ∧ ps.map (·.1) = fs.take k ∧ wr.ownsRow w.heap.size 35 4 x ps.length (flL ps) ∧ OwnB w.heap.size wr ps ∧ Below w.heap.size w wr) (fun x i wr => n - (intOf i).toNat)
  case atStart => exact ⟨0, [], by omega, rfl, rfl, World.ownsRow_nil _ _ _ _, (fun p hp => nomatch hp), Below.refl _ _⟩
  case round =>
    obtain ⟨k, ps, hk, rfl, hps, hown, hsrc, hbel⟩ := hrel
    have HOW : Hid (wr.ownsRow w.heap.size 35 4 u3 ps.length (flL ps)) := hown
    have HPS : Hid (ps.map (·.1) = fs.take k ∧ OwnB w.heap.size wr ps) := ⟨hps, hsrc⟩
    have HBE : Hid (Below w.heap.size w wr) := hbel
    have HPL : Hid (ps.length ≤ 100000000) := by
      have h := congrArg List.length hps
      rw [List.length_map, List.length_take] at h
      show ps.length ≤ _
      omega
    clear hps hown hsrc hbel
    by_cases hlt : k < n
    · obtain ⟨f, hfk⟩ : ∃ f, fs[k]? = some f := ⟨_, List.getElem?_eq_getElem (by have := HN.out; omega)⟩
      obtain ⟨b, off, qa, l, c, hsa, hcf⟩ := HC.out k f hfk
      subst hsa
      have HFC : Hid (FCell w b (off + k * 4) f qa l c ∧ fs[k]? = some f) := ⟨hcf, hfk⟩
      have hcw := hcf.later HBE.out
      obtain ⟨c0, c1, c2, c3, csrc⟩ := hcw
      obtain ⟨X, hX⟩ : ∃ X : Int, (f.n : Int) = X := ⟨_, rfl⟩
      have HX : Hid ((f.n : Int) = X) := hX
      rw [hX] at c2
      obtain ⟨A, hA⟩ : ∃ A : Int, f.num = A := ⟨_, rfl⟩
      have HA : Hid (f.num = A) := hA
      rw [hA] at c0
      obtain ⟨T, hT⟩ : ∃ T : Int, f.typ = T := ⟨_, rfl⟩
      have HT : Hid (f.typ = T) := hT
      rw [hT] at c1
      have hblt : b < wr.heap.size := World.block_lt_of_cell? wr _ c0
      clear hfk hcf csrc hX hA hT
      go_wp2_with fail
      go_region
      obtain ⟨W0, hW0⟩ : ∃ W0, (wr.alloc (.cells #[.int .i64 A, .int .i64 T, .int .u64 X, .slice none 0 0] 35)).drew = W0 := ⟨_, rfl⟩
      have HBX : Hid (W0.heap[wr.heap.size]? = some (.cells #[.int .i64 A, .int .i64 T, .int .u64 X, .slice none 0 0] 35 (0, 0))) := by show _ = _; rw [← hW0]; exact Go.heap_alloc_new _ _
      have HB0 : Hid (Below wr.heap.size wr W0) := by show Below _ _ _; rw [← hW0]; exact (bel1 _ _).drew
      have HS0 : Hid (W0.heap.size = wr.heap.size + 1) := by show _ = _; rw [← hW0]; exact World.size_alloc _ _
      obtain ⟨e0, e1, e2, e3⟩ := box4b (base := 0) HBX.out rfl
      have q3 : W0.cell? ⟨b, off + k * 4 + 3, none⟩ = some (.slice qa l c) := (HB0.out.cell (p := ⟨b, off + k * 4 + 3, none⟩) hblt).trans c3
      have f3 : W0.frozen? ⟨wr.heap.size, 3, none⟩ = false := frozen_of_row _ _ _ _ _ HBX.out
      have HOV : Hid (W0.drew.ownsRow (wr.heap.size + 1) 5 1 (.slice none 0 0) 0 []) := World.ownsRow_nil _ _ _ _
      have HSR : Hid (Src W0.drew (.slice qa l c) f.b) := HFC.out.1.src.later (HBE.out.trans ((HB0.out.mono HBE.out.size).drew))
      have HFL : Hid (f.b.length ≤ 2000000) := by have := (HF.out f (List.mem_of_getElem? HFC.out.2)).short; show _ ≤ _; omega
      rw [hW0]
      clear hW0 c0 c1 c2 c3
      go_wp2_with fail
      go_region_law (refine step_append_src rfl (.tmp 29) (.tmp 34) rfl (wr.heap.size + 1) (.slice none 0 0) 0 [] (by simp [Act.eval, Act.put]) HOV.out (.slice qa l c) f.b (by simp [Act.eval, Act.put]) HSR.out (by have := HFL.out; omega) (by have := HS0.out; show _ ≤ W0.heap.size; omega) ?_; intro v' w' ho' hg'; (have HO1 : Hid (w'.ownsRow (wr.heap.size + 1) 5 1 v' f.b.length (u8l f.b)) := (by have h := ho'; rw [Nat.zero_add, List.nil_append] at h; exact h)); (obtain ⟨va, vc, hv'⟩ := own_slice HO1.out); subst hv'; (have HB1 : Hid (Below W0.heap.size W0 w') := ((Below.refl _ W0).drew).grown hg' (Nat.le_refl _) (by intro q hq; cases hq)); (have HX1 : Hid (w'.heap[wr.heap.size]? = some (.cells #[.int .i64 A, .int .i64 T, .int .u64 X, .slice none 0 0] 35 (0, 0))) := (HB1.out.block _ (by have := HS0.out; omega)).trans HBX.out); (obtain ⟨g0, g1, g2, g3⟩ := box4b (base := 0) HX1.out rfl); (have gf := frozen_of_row _ _ 3 _ _ HX1.out); clear ho' hg')
      all_goals
        obtain ⟨W2, hW2⟩ : ∃ W2, w'.setCell ⟨wr.heap.size, 3, none⟩ (.slice va f.b.length vc) = W2 := ⟨_, rfl⟩
        have HBX2 : Hid (W2.heap[wr.heap.size]? = some (.cells #[.int .i64 A, .int .i64 T, .int .u64 X, .slice va f.b.length vc] 35 (0, 0))) := by
          show _ = _
          rw [← hW2]
          exact heap_setCell_same _ _ 3 _ _ _ HX1.out
        have HK2 : Hid (∀ q, q ≠ wr.heap.size → W2.heap[q]? = w'.heap[q]?) := fun q hq => by rw [← hW2]; exact Below.heap_setCell _ _ _ _ hq
        have HSZ2 : Hid (wr.heap.size + 1 ≤ W2.heap.size ∧ w'.heap.size = W2.heap.size) := by
          have h1 := HB1.out.size
          have h2 := HS0.out
          have h3 : W2.heap.size = w'.heap.size := by rw [← hW2]; simp
          exact ⟨by omega, h3.symm⟩
        have HB2 : Hid (Below wr.heap.size wr W2) := by
          have h1 := HB0.out.trans (HB1.out.mono (by have := HS0.out; omega))
          refine ⟨?_, ?_, ?_, by have := HSZ2.out.1; omega, fun q hq => (HK2.out q (by omega)).trans (h1.block q hq)⟩
          · rw [← hW2]; exact h1.os
          · rw [← hW2]; exact h1.tape
          · rw [← hW2]; exact h1.output
        have HOW2 : Hid (W2.ownsRow w.heap.size 35 4 u3 ps.length (flL ps)) := own_kept HOW.out fun g _ hg => HB2.out.block g hg
        have HOB2 : Hid (OwnB w.heap.size W2 (ps ++ [(f, .slice va f.b.length vc)])) := by
          intro p hp
          rcases List.mem_append.1 hp with h | h
          · exact own_kept (HPS.out.2 p h) fun g _ hg => HB2.out.block g hg
          · have : p = (f, .slice va f.b.length vc) := by simpa using h
            rw [this]
            refine own_low (own_at HO1.out fun q hq => HK2.out q ?_) (by have := HBE.out.size; omega)
            have := (HO1.out.lt q hq).1
            omega
        obtain ⟨h0, h1, h2, h3⟩ := box4b (base := 0) HBX2.out rfl
        have HFP : Hid (wr.heap.size < W2.heap.size ∧ Slc (Value.slice va f.b.length vc)) := ⟨by have := HSZ2.out.1; omega, _, _, _, rfl⟩
        have HWW : Hid (w.heap.size ≤ W2.heap.size) := by have := HSZ2.out.1; have := HBE.out.size; show _ ≤ _; omega
        rw [hW2]
        clear hW2 HX1 g0 g1 g2 g3 gf e0 e1 e2 e3 q3 f3
        go_wp2_with (at_builtin; (refine wpList_append_fd rfl (.tmp 37) (.tmp 39) 23 35 Try.underlying23 info35' rfl w.heap.size u3 ps.length (flL ps) rfl W2 HOW2.out (f, .slice va f.b.length vc) HFP.out.2 (by rw [HA.out, HT.out, HX.out]) rfl HPL.out HWW.out ?_; intro g9 c9 w9 ho9 hg9; (have HO9 : Hid (w9.ownsRow w.heap.size 35 4 (.slice (some ⟨g9, 0, none⟩) (ps.length + 1) c9) (ps.length + 1) (flL ps ++ fl4 (f, .slice va f.b.length vc))) := ho9); (have HG9 : Hid (Gr u3 W2 (.slice (some ⟨g9, 0, none⟩) (ps.length + 1) c9) w9) := hg9); clear ho9 hg9))
        go_roundw
        case rel =>
          refine ⟨k + 1, ps ++ [(f, .slice va f.b.length vc)], by omega, by go_num, ?_, ?_, ?_, HBE.out.trans ((HB2.out.mono HBE.out.size).trans (HG9.out.below HWW.out (ownBlock_ge HOW2.out)))⟩
          · rw [List.map_append, HPS.out.1, take_snoc' fs k f HFC.out.2]; rfl
          · rw [List.length_append, flL_app]
            have h := HO9.out
            simpa [flL] using h
          · refine HOB2.out.later fun q cur fr hq => HG9.out.block q (Array.getElem?_eq_some_iff.1 hq).1 ?_
            intro e
            obtain ⟨cur', hc'⟩ := own_tag HOW2.out e
            exact ne_tag hq hc' (by decide) rfl
        case measure => simp [intOf]; omega
    · have hkn : k = n := by omega
      go_wp2_with fail
      go_ret
      refine ⟨⟨_, rfl, ?_⟩, HBE.out⟩
      have h := fds_of HOW.out (fun p hp => own_src (HPS.out.2 p hp))
      rw [HPS.out.1, hkn, ← HN.out, List.take_length] at h
      exact h
end Go.Proofs.Ytlgkajellndhlaa
