/- Fields handed from one kind to the other. -/
import Derived.Test.YtlgkajellndhlaaRows4
import Derived.Deep.RegionLaw
import Derived.BigRegion
namespace Go.Proofs.Ytlgkajellndhlaa
open Go.RowKit
set_option linter.unusedVariables false
set_option linter.unusedSimpArgs false

theorem still_of_quiet {P : Program} {ops : Array Oper} {W : World} {Q : Act → Prop} : ∀ (l : List Oper) (a : Act), wpQuiet P ops (fun w' => w' = W) Q l a → wpStill P ops W Q l a
  | [], a, h => h
  | o :: l, a, h => by
    unfold wpQuiet at h
    unfold wpStill
    split
    · rename_i hw
      rw [if_pos hw] at h
      obtain ⟨v, h1, h2⟩ := h
      have h3 := h1 W rfl
      have h4 := still_of_quiet l _ h2
      unfold Oper.quietAt at h3
      unfold Oper.still
      generalize (execOp a.eval o).run P W = r at h3
      cases r with
      | ok n w' =>
        cases n with
        | value u => obtain ⟨e1, e2⟩ := h3; subst e1; subst e2; exact ⟨rfl, h4⟩
        | skip => obtain ⟨e1, e2⟩ := h3; subst e1; subst e2; exact ⟨rfl, h4⟩
        | enter f args => obtain ⟨e1, e2⟩ := h3; subst e1; exact ⟨rfl, v, e2, h4⟩
        | _ => exact h3.elim
      | halt x w' => exact h3.elim
    · rename_i hw
      rw [if_neg hw] at h
      exact still_of_quiet l _ h

set_option maxRecDepth 20000 in
set_option maxHeartbeats 4000000 in
theorem taken_any (v : Value) (fs : List Fd) (w : World) (hF : Fds w v fs) (hl : (fs.length : Int) ≤ 10000000) : Calls Try.prog 9 #[v] w fun e w' => (∃ v', e = .returned v' ∧ Fds w' v' fs) ∧ Below w.heap.size w w' := by
  obtain ⟨sa, cap, rfl, hcap, hC⟩ := hF
  have HC : Hid (∀ i f, fs[i]? = some f → ∃ b off qa l c, sa = some ⟨b, off, none⟩ ∧ FCell w b (off + i * 4) f qa l c) := hC
  obtain ⟨n, hn⟩ : ∃ n, fs.length = n := ⟨_, rfl⟩
  have HN : Hid (fs.length = n) := hn
  rw [hn] at hcap hl ⊢
  have n1 : (n : Int) ≤ (cap : Int) := by omega
  clear hC hn hcap
  go_enter Try.func9, Try.ntmps9
  go_wp2_with fail
  go_loopw [3, 4] (fun x i wr => ∃ (k : Nat) (ps : List (Fd × Value)), k ≤ n ∧ i = .int .i64 (k : Int) ∧ ps.map (·.1) = fs.take k ∧ wr.ownsRow w.heap.size 38 4 x ps.length (flL ps) ∧ (∀ p ∈ ps, Src w p.2 p.1.b) ∧ Below w.heap.size w wr) (fun x i wr => n - (intOf i).toNat)
  case atStart => exact ⟨0, [], by omega, rfl, rfl, World.ownsRow_nil _ _ _ _, (fun p hp => nomatch hp), Below.refl _ _⟩
  case round =>
    obtain ⟨k, ps, hk, rfl, hps, hown, hsrc, hbel⟩ := hrel
    have HOW : Hid (wr.ownsRow w.heap.size 38 4 u3 ps.length (flL ps)) := hown
    have HPS : Hid (ps.map (·.1) = fs.take k ∧ ∀ p ∈ ps, Src w p.2 p.1.b) := ⟨hps, hsrc⟩
    have HBE : Hid (Below w.heap.size w wr) := hbel
    have HPL : Hid (ps.length ≤ 100000000) := by
      have h := congrArg List.length hps
      rw [List.length_map, List.length_take] at h
      show ps.length ≤ _
      omega
    clear hps hown hsrc hbel
    by_cases hlt : k < n
    · obtain ⟨f, hfk⟩ : ∃ f, fs[k]? = some f := ⟨_, List.getElem?_eq_getElem (by have := HN.out; omega)⟩
      obtain ⟨b, off, qa, l, c, hsa, hcf⟩ := HC.out k f hfk
      subst hsa
      have HFC : Hid (FCell w b (off + k * 4) f qa l c ∧ fs[k]? = some f) := ⟨hcf, hfk⟩
      have hcw := hcf.later HBE.out
      obtain ⟨c0, c1, c2, c3, csrc⟩ := hcw
      obtain ⟨X, hX⟩ : ∃ X : Int, (f.n : Int) = X := ⟨_, rfl⟩
      have HX : Hid ((f.n : Int) = X) := hX
      rw [hX] at c2
      obtain ⟨A, hA⟩ : ∃ A : Int, f.num = A := ⟨_, rfl⟩
      have HA : Hid (f.num = A) := hA
      rw [hA] at c0
      obtain ⟨T, hT⟩ : ∃ T : Int, f.typ = T := ⟨_, rfl⟩
      have HT : Hid (f.typ = T) := hT
      rw [hT] at c1
      have HOV : Hid (wr.drew.ownsRow w.heap.size 38 4 u3 ps.length (flL ps)) := HOW.out
      have HBV : Hid (Below w.heap.size w wr.drew) := HBE.out.drew
      clear hfk hcf csrc hX hA hT
      go_wp2_with fail
      obtain ⟨i0, hi, hz0, hz1, hz2⟩ := info_parts info38'
      have hblt : b < wr.heap.size := World.block_lt_of_cell? wr _ c0
      have HFL : Hid (fl4 (f, .slice qa l c) = [.int .i64 A, .int .i64 T, .int .u64 X, .slice qa l c]) := by show _ = _; rw [← HA.out, ← HT.out, ← HX.out]; rfl
      go_region_law (refine step_append_lies _ rfl (.tmp 11) (.tmp 33) 22 rfl w.heap.size 38 i0 (.agg #[.int .i64 0, .int .i64 0, .int .u64 0, .slice none 0 0]) 4 48 Try.underlying22 hi hz0 hz1 hz2 rfl (by decide) u3 ps.length (flL ps) (by simp [Act.eval, Act.put]) (HOV.out.alloc _) ⟨wr.heap.size, 0, none⟩ 1 1 [.int .i64 A, .int .i64 T, .int .u64 X, .slice qa l c] (by simp [Act.eval, Act.put]) rfl (World.news_of_block (Go.heap_alloc_new _ _)) (by rw [← HFL.out]; exact fl4_one _ ⟨_, _, _, rfl⟩) (by decide) (by have := HPL.out; unfold maxLen; omega) (by have := HPL.out; omega) (by have := HBV.out.size; simp at *; omega) (wr.heap.size + 1) (by simp) ?_; intro g' cp' w' ho' hg' hx' hy')
      all_goals
        have HO2 : Hid (w'.ownsRow w.heap.size 38 4 (.slice (some ⟨g', 0, none⟩) (ps.length + 1) cp') (ps.length + 1) (flL ps ++ fl4 (f, .slice qa l c))) := by show World.ownsRow _ _ _ _ _ _ _; rw [HFL.out]; exact ho'
        have HB2 : Hid (Below w.heap.size w w') := (HBV.out.trans ((bel1 _ _).mono HBV.out.size)).grown hg' (by have := HBV.out.size; simp at *; omega) (ownBlock_ge HOV.out)
        clear ho' hg' hx' hy'
        go_wp2_with fail
        go_roundw
        case rel =>
          refine ⟨k + 1, ps ++ [(f, .slice qa l c)], by omega, by go_num, ?_, ?_, ?_, HB2.out⟩
          · rw [List.map_append, HPS.out.1, take_snoc' fs k f HFC.out.2]; rfl
          · rw [List.length_append, flL_app]
            have h := HO2.out
            simpa [flL] using h
          · intro p hp
            rcases List.mem_append.1 hp with h | h
            · exact HPS.out.2 p h
            · have : p = (f, .slice qa l c) := by simpa using h
              rw [this]
              exact HFC.out.1.src
        case measure => simp [intOf]; omega
    · have hkn : k = n := by omega
      go_wp2_with fail
      go_ret
      refine ⟨⟨_, rfl, ?_⟩, HBE.out⟩
      have h := fds_of HOW.out (fun p hp => (HPS.out.2 p hp).later HBE.out)
      rw [HPS.out.1, hkn, ← HN.out, List.take_length] at h
      exact h
end Go.Proofs.Ytlgkajellndhlaa
