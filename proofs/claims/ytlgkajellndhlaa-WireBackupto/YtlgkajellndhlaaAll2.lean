/- Fields of a number: all of them. -/
import Derived.Test.YtlgkajellndhlaaAll
namespace Go.Proofs.Ytlgkajellndhlaa
open Go.RowKit
set_option linter.unusedVariables false
set_option linter.unusedSimpArgs false

def allI (fs : List Fd) (num : Int) : List Fd := fs.filter fun f => f.num == num
theorem allI_take (fs : List Fd) (num : Int) (k : Nat) (f : Fd) (h : fs[k]? = some f) : allI (fs.take (k + 1)) num = allI (fs.take k) num ++ if f.num == num then [f] else [] := by
  rw [take_snoc' fs k f h]
  unfold allI
  rw [List.filter_append]
  congr 1
  cases hb : (f.num == num) <;> simp [List.filter_cons, hb]
theorem allI_len (fs : List Fd) (num : Int) (k : Nat) : (allI (fs.take k) num).length ≤ k := Nat.le_trans (List.length_filter_le _ _) (List.length_take_le _ _)

set_option maxRecDepth 20000 in
set_option maxHeartbeats 4000000 in
theorem rall_any (v : Value) (fs : List Fd) (num : Int) (w : World) (hF : Fds w v fs) (hl : (fs.length : Int) ≤ 10000000) : Calls Try.prog 14 #[v, .int .i64 num] w fun e w' => (∃ v', e = .returned v' ∧ Fds w' v' (allI fs num)) ∧ Below w.heap.size w w' := by
  obtain ⟨sa, cap, rfl, hcap, hC⟩ := hF
  have HC : Hid (∀ i f, fs[i]? = some f → ∃ b off qa l c, sa = some ⟨b, off, none⟩ ∧ FCell w b (off + i * 4) f qa l c) := hC
  obtain ⟨n, hn⟩ : ∃ n, fs.length = n := ⟨_, rfl⟩
  have HN : Hid (fs.length = n) := hn
  rw [hn] at hcap hl ⊢
  have n1 : (n : Int) ≤ (cap : Int) := by omega
  clear hC hn hcap
  go_enter Try.func14, Try.ntmps14
  go_wp2_with fail
  go_loopw [5, 6] (fun x i wr => ∃ (k : Nat) (ps : List (Fd × Value)), k ≤ n ∧ i = .int .i64 (k : Int) ∧ ps.map (·.1) = allI (fs.take k) num ∧ wr.ownsRow w.heap.size 38 4 x ps.length (flL ps) ∧ (∀ p ∈ ps, Src w p.2 p.1.b) ∧ Below w.heap.size w wr) (fun x i wr => n - (intOf i).toNat)
  case atStart => exact ⟨0, [], by omega, rfl, rfl, World.ownsRow_nil _ _ _ _, (fun p hp => nomatch hp), Below.refl _ _⟩
  case round =>
    obtain ⟨k, ps, hk, rfl, hps, hown, hsrc, hbel⟩ := hrel
    have HOW : Hid (wr.ownsRow w.heap.size 38 4 u5 ps.length (flL ps)) := hown
    have HPS : Hid (ps.map (·.1) = allI (fs.take k) num ∧ ∀ p ∈ ps, Src w p.2 p.1.b) := ⟨hps, hsrc⟩
    have HBE : Hid (Below w.heap.size w wr) := hbel
    have HPL : Hid (ps.length ≤ 100000000) := by
      have h := congrArg List.length hps
      rw [List.length_map] at h
      have := allI_len fs num k
      show ps.length ≤ _
      omega
    clear hps hown hsrc hbel
    by_cases hlt : k < n
    · obtain ⟨f, hfk⟩ : ∃ f, fs[k]? = some f := ⟨_, List.getElem?_eq_getElem (by have := HN.out; omega)⟩
      obtain ⟨b, off, qa, l, c, hsa, hcf⟩ := HC.out k f hfk
      subst hsa
      have HFC : Hid (FCell w b (off + k * 4) f qa l c ∧ fs[k]? = some f) := ⟨hcf, hfk⟩
      have hcw := hcf.later HBE.out
      obtain ⟨c0, c1, c2, c3, csrc⟩ := hcw
      obtain ⟨X, hX⟩ : ∃ X : Int, (f.n : Int) = X := ⟨_, rfl⟩
      have HX : Hid ((f.n : Int) = X) := hX
      rw [hX] at c2
      obtain ⟨A, hA⟩ : ∃ A : Int, f.num = A := ⟨_, rfl⟩
      have HA : Hid (f.num = A) := hA
      rw [hA] at c0
      obtain ⟨T, hT⟩ : ∃ T : Int, f.typ = T := ⟨_, rfl⟩
      have HT : Hid (f.typ = T) := hT
      rw [hT] at c1
      have HWW : Hid (w.heap.size ≤ wr.heap.size) := HBE.out.size
      clear hfk hcf csrc hX hA hT
      cases hq : (A == num) with
      | false =>
        go_wp2_with fail
        go_roundw
        case rel =>
          refine ⟨k + 1, ps, by omega, by go_num, ?_, HOW.out, HPS.out.2, HBE.out⟩
          rw [allI_take fs num k f HFC.out.2, HA.out, hq, HPS.out.1]
          simp
        case measure => simp [intOf]; omega
      | true =>
        go_wp2_with (at_builtin; (refine wpList_append_fd rfl (.tmp 20) (.tmp 25) 22 38 Try.underlying22 info38' rfl w.heap.size u5 ps.length (flL ps) rfl wr HOW.out (f, .slice qa l c) ⟨_, _, _, rfl⟩ (by rw [HA.out, HT.out, HX.out]) rfl HPL.out HWW.out ?_; intro g9 c9 w9 ho9 hg9; (have HO9 : Hid (w9.ownsRow w.heap.size 38 4 (.slice (some ⟨g9, 0, none⟩) (ps.length + 1) c9) (ps.length + 1) (flL ps ++ fl4 (f, .slice qa l c))) := ho9); (have HG9 : Hid (Gr u5 wr (.slice (some ⟨g9, 0, none⟩) (ps.length + 1) c9) w9) := hg9); clear ho9 hg9))
        go_roundw
        case rel =>
          refine ⟨k + 1, ps ++ [(f, .slice qa l c)], by omega, by go_num, ?_, ?_, ?_, HBE.out.trans (HG9.out.below HWW.out (ownBlock_ge HOW.out))⟩
          · rw [allI_take fs num k f HFC.out.2, HA.out, hq, List.map_append, HPS.out.1]
            simp
          · rw [List.length_append, flL_app]
            have h := HO9.out
            simpa [flL] using h
          · intro p hp
            rcases List.mem_append.1 hp with h | h
            · exact HPS.out.2 p h
            · have : p = (f, .slice qa l c) := by simpa using h
              rw [this]
              exact HFC.out.1.src
        case measure => simp [intOf]; omega
    · have hkn : k = n := by omega
      go_wp2_with fail
      go_ret
      refine ⟨⟨_, rfl, ?_⟩, HBE.out⟩
      have h := fds_of HOW.out (fun p hp => (HPS.out.2 p hp).later HBE.out)
      rw [HPS.out.1, hkn, ← HN.out, List.take_length] at h
      exact h

/-- No two of them lie in one row. -/
def Dis (ps : List (Fd × Value)) : Prop := ps.Pairwise fun p q => ∀ g, p.2.ownBlock = some g → q.2.ownBlock ≠ some g

set_option maxRecDepth 20000 in
set_option maxHeartbeats 4000000 in
theorem wall_any (v : Value) (fs : List Fd) (num : Int) (w : World) (hF : Fds w v fs) (hf : ∀ f ∈ fs, f.Fit) (hl : (fs.length : Int) ≤ 10000000) :
    Calls Try.prog 13 #[v, .int .i64 num] w fun e w' => (∃ v' ps, e = .returned v' ∧ ps.map (·.1) = allI fs num ∧ w'.ownsRow w.heap.size 35 4 v' ps.length (flL ps) ∧ OwnB w.heap.size w' ps ∧ Dis ps) ∧ Below w.heap.size w w' := by
  obtain ⟨sa, cap, rfl, hcap, hC⟩ := hF
  have HC : Hid (∀ i f, fs[i]? = some f → ∃ b off qa l c, sa = some ⟨b, off, none⟩ ∧ FCell w b (off + i * 4) f qa l c) := hC
  have HF : Hid (∀ f ∈ fs, f.Fit) := hf
  obtain ⟨n, hn⟩ : ∃ n, fs.length = n := ⟨_, rfl⟩
  have HN : Hid (fs.length = n) := hn
  rw [hn] at hcap hl ⊢
  have n1 : (n : Int) ≤ (cap : Int) := by omega
  clear hC hn hcap hf
  go_enter Try.func13, Try.ntmps13
  go_wp2_with fail
  go_loopw [5, 10] (fun x i wr => ∃ (k : Nat) (ps : List (Fd × Value)), k ≤ n ∧ i = .int .i64 (k : Int) ∧ ps.map (·.1) = allI (fs.take k) num ∧ wr.ownsRow w.heap.size 35 4 x ps.length (flL ps) ∧ OwnB w.heap.size wr ps ∧ Dis ps ∧ Below w.heap.size w wr) (fun x i wr => n - (intOf i).toNat)
  case atStart => exact ⟨0, [], by omega, rfl, rfl, World.ownsRow_nil _ _ _ _, (fun p hp => nomatch hp), List.Pairwise.nil, Below.refl _ _⟩
  case round =>
    obtain ⟨k, ps, hk, rfl, hps, hown, hsrc, hdis, hbel⟩ := hrel
    have HOW : Hid (wr.ownsRow w.heap.size 35 4 u5 ps.length (flL ps)) := hown
    have HPS : Hid (ps.map (·.1) = allI (fs.take k) num ∧ OwnB w.heap.size wr ps ∧ Dis ps) := ⟨hps, hsrc, hdis⟩
    have HBE : Hid (Below w.heap.size w wr) := hbel
    have HPL : Hid (ps.length ≤ 100000000) := by
      have h := congrArg List.length hps
      rw [List.length_map] at h
      have := allI_len fs num k
      show ps.length ≤ _
      omega
    clear hps hown hsrc hbel hdis
    by_cases hlt : k < n
    · obtain ⟨f, hfk⟩ : ∃ f, fs[k]? = some f := ⟨_, List.getElem?_eq_getElem (by have := HN.out; omega)⟩
      obtain ⟨b, off, qa, l, c, hsa, hcf⟩ := HC.out k f hfk
      subst hsa
      have HFC : Hid (FCell w b (off + k * 4) f qa l c ∧ fs[k]? = some f) := ⟨hcf, hfk⟩
      have hcw := hcf.later HBE.out
      obtain ⟨c0, c1, c2, c3, csrc⟩ := hcw
      obtain ⟨X, hX⟩ : ∃ X : Int, (f.n : Int) = X := ⟨_, rfl⟩
      have HX : Hid ((f.n : Int) = X) := hX
      rw [hX] at c2
      obtain ⟨A, hA⟩ : ∃ A : Int, f.num = A := ⟨_, rfl⟩
      have HA : Hid (f.num = A) := hA
      rw [hA] at c0
      obtain ⟨T, hT⟩ : ∃ T : Int, f.typ = T := ⟨_, rfl⟩
      have HT : Hid (f.typ = T) := hT
      rw [hT] at c1
      have HWW : Hid (w.heap.size ≤ wr.heap.size) := HBE.out.size
      clear hfk hcf csrc hX hA hT
      cases hq : (A == num) with
      | false =>
        go_wp2_with fail
        go_roundw
        case rel =>
          refine ⟨k + 1, ps, by omega, by go_num, ?_, HOW.out.alloc _, fun p hp => (HPS.out.2.1 p hp).alloc _, HPS.out.2.2, HBE.out.trans ((bel1 _ _).mono HBE.out.size)⟩
          rw [allI_take fs num k f HFC.out.2, HA.out, hq, HPS.out.1]
          simp
        case measure => simp [intOf]; omega
      | true =>
        have HBW : Hid (Below w.heap.size w (wr.alloc (.cells #[.int .i64 A, .int .i64 T, .int .u64 X, .slice qa l c] 35))) := HBE.out.trans ((bel1 _ _).mono HBE.out.size)
        go_wp2_with fail
        refine (ownField_any A T X qa l c f.b (wr.alloc (.cells #[.int .i64 A, .int .i64 T, .int .u64 X, .slice qa l c] 35)) (HFC.out.1.src.later HBW.out) (by have := (HF.out f (List.mem_of_getElem? HFC.out.2)).short; omega)).mono ?_
        rintro e w2 ⟨⟨v2, rfl, ho2⟩, hb2⟩
        obtain ⟨va, vc, hv2⟩ := own_slice ho2
        subst hv2
        have HO2 : Hid (w2.ownsRow (wr.heap.size + 1) 5 1 (.slice va f.b.length vc) f.b.length (u8l f.b)) := by
          show World.ownsRow _ _ _ _ _ _ _
          rw [World.size_alloc] at ho2
          exact ho2
        have HB2 : Hid (Below wr.heap.size wr w2) := (bel1 _ _).trans (hb2.mono (by simp))
        have HOW2 : Hid (w2.ownsRow w.heap.size 35 4 u5 ps.length (flL ps)) := own_kept HOW.out fun g _ hg => HB2.out.block g hg
        have HW2 : Hid (w.heap.size ≤ w2.heap.size) := Nat.le_trans HBE.out.size HB2.out.size
        have HOB2 : Hid (OwnB w.heap.size w2 (ps ++ [(f, .slice va f.b.length vc)])) := by
          intro p hp
          rcases List.mem_append.1 hp with h | h
          · exact own_kept (HPS.out.2.1 p h) fun g _ hg => HB2.out.block g hg
          · have : p = (f, .slice va f.b.length vc) := by simpa using h
            rw [this]
            exact own_low HO2.out (by have := HBE.out.size; omega)
        have HDI : Hid (Dis (ps ++ [(f, .slice va f.b.length vc)])) := by
          refine List.pairwise_append.2 ⟨HPS.out.2.2, List.pairwise_singleton _ _, fun p hp q hq g hg e => ?_⟩
          have hq' : q = (f, .slice va f.b.length vc) := by simpa using hq
          rw [hq'] at e
          have h1 := ((HPS.out.2.1 p hp).lt g hg).2
          have h2 := (HO2.out.lt g e).1
          omega
        clear ho2 hb2
        go_wp2_with (at_builtin; (refine wpList_append_fd rfl (.tmp 18) (.tmp 21) 23 35 Try.underlying23 info35' rfl w.heap.size u5 ps.length (flL ps) rfl w2 HOW2.out (f, .slice va f.b.length vc) ⟨_, _, _, rfl⟩ (by rw [HA.out, HT.out, HX.out]) rfl HPL.out HW2.out ?_; intro g9 c9 w9 ho9 hg9; (have HO9 : Hid (w9.ownsRow w.heap.size 35 4 (.slice (some ⟨g9, 0, none⟩) (ps.length + 1) c9) (ps.length + 1) (flL ps ++ fl4 (f, .slice va f.b.length vc))) := ho9); (have HG9 : Hid (Gr u5 w2 (.slice (some ⟨g9, 0, none⟩) (ps.length + 1) c9) w9) := hg9); clear ho9 hg9))
        go_roundw
        case rel =>
          refine ⟨k + 1, ps ++ [(f, .slice va f.b.length vc)], by omega, by go_num, ?_, ?_, ?_, HDI.out, HBE.out.trans ((HB2.out.mono HBE.out.size).trans (HG9.out.below HW2.out (ownBlock_ge HOW2.out)))⟩
          · rw [allI_take fs num k f HFC.out.2, HA.out, hq, List.map_append, HPS.out.1]
            simp
          · rw [List.length_append, flL_app]
            have h := HO9.out
            simpa [flL] using h
          · refine HOB2.out.later fun q cur fr hq => HG9.out.block q (Array.getElem?_eq_some_iff.1 hq).1 ?_
            intro e
            obtain ⟨cur', hc'⟩ := own_tag HOW2.out e
            exact ne_tag hq hc' (by decide) rfl
        case measure => simp [intOf]; omega
    · have hkn : k = n := by omega
      go_wp2_with fail
      go_ret
      refine ⟨⟨_, ps, rfl, ?_, HOW.out, HPS.out.2⟩, HBE.out⟩
      have h := HPS.out.1
      rw [hkn, ← HN.out, List.take_length] at h
      exact h
end Go.Proofs.Ytlgkajellndhlaa
