/- Reading: a message. -/
import Derived.Test.YtlgkajellndhlaaRd3
namespace Go.Proofs.Ytlgkajellndhlaa
open Go.RowKit
set_option linter.unusedVariables false
set_option linter.unusedSimpArgs false

theorem rb_ok (zs : List Int) (p : Nat) : (∃ er, rbI zs p = ([], 0, er) ∧ er ≠ 0) ∨ ∃ (B : List Int) (q : Nat), rbI zs p = (B, (q : Int), 0) ∧ p < q ∧ q ≤ zs.length ∧ ∀ x ∈ B, x ∈ zs := by
  unfold rbI
  rcases get_ok zs p with ⟨er, hg, he⟩ | ⟨n, q, hg, n0, n1, q0, q1⟩
  · rw [hg]; simp only; rw [if_pos (by omega)]; exact .inl ⟨er, rfl, by omega⟩
  · rw [hg]; simp only; rw [if_neg (by omega)]
    split
    · exact .inl ⟨8, rfl, by decide⟩
    · obtain ⟨m, rfl⟩ := Int.eq_ofNat_of_zero_le n0
      refine .inr ⟨_, q + m, rfl, by omega, by omega, fun x hx => List.mem_of_mem_drop (List.mem_of_mem_take hx)⟩
theorem rt_ok (zs : List Int) (p : Nat) (num typ : Int) (hz : Byt zs) (hl : p ≤ zs.length) : (∃ er, rtI zs p num typ = (noF, 0, er) ∧ er ≠ 0) ∨ ∃ (f : Fd) (q : Nat), rtI zs p num typ = (f, (q : Int), 0) ∧ p ≤ q ∧ q ≤ zs.length ∧ Byt f.b ∧ f.b.length ≤ zs.length := by
  unfold rtI
  split
  · rcases get_ok zs p with ⟨er, hg, he⟩ | ⟨n, q, hg, n0, n1, q0, q1⟩
    · rw [hg]; simp only; rw [if_pos (by omega)]; exact .inl ⟨er, rfl, by omega⟩
    · rw [hg]; simp only; rw [if_neg (by omega)]; exact .inr ⟨_, q, rfl, by omega, by omega, (fun c hc => nomatch hc), by simp⟩
  · split
    · rcases rn_ok zs p 8 hz with ⟨er, hg, he⟩ | ⟨n, q, hg, n0, q0, q1⟩
      · rw [hg]; simp only; rw [if_pos (by omega)]; exact .inl ⟨er, rfl, by omega⟩
      · rw [hg]; simp only; rw [if_neg (by omega)]; exact .inr ⟨_, q, rfl, by omega, by omega, (fun c hc => nomatch hc), by simp⟩
    · split
      · rcases rn_ok zs p 4 hz with ⟨er, hg, he⟩ | ⟨n, q, hg, n0, q0, q1⟩
        · rw [hg]; simp only; rw [if_pos (by omega)]; exact .inl ⟨er, rfl, by omega⟩
        · rw [hg]; simp only; rw [if_neg (by omega)]; exact .inr ⟨_, q, rfl, by omega, by omega, (fun c hc => nomatch hc), by simp⟩
      · rcases rb_ok zs p with ⟨er, hg, he⟩ | ⟨B, q, hg, q0, q1, hB⟩
        · rw [hg]; simp only; rw [if_pos he]; exact .inl ⟨er, rfl, he⟩
        · have hBl : B.length ≤ zs.length := by
            unfold rbI at hg
            split at hg
            rename_i n' p' e' heq
            split at hg
            · simp at hg
              simp [hg.1]
            · split at hg
              · simp at hg
              · simp at hg
                rw [← hg.1, List.length_take, List.length_drop]
                omega
          rw [hg]; simp only; rw [if_neg (by omega)]; exact .inr ⟨_, q, rfl, by omega, by omega, fun c hc => hz c (hB c hc), hBl⟩
theorem rf_ok (zs : List Int) (at' : Nat) (hz : Byt zs) : (∃ er, rfI zs at' = (noF, 0, er) ∧ er ≠ 0) ∨ ∃ (f : Fd) (q : Nat), rfI zs at' = (f, (q : Int), 0) ∧ at' < q ∧ q ≤ zs.length ∧ Byt f.b ∧ f.b.length ≤ zs.length := by
  unfold rfI
  rcases get_ok zs at' with ⟨er, hg, he⟩ | ⟨n, p, hg, n0, n1, q0, q1⟩
  · rw [hg]; simp only; rw [if_pos (by omega)]; exact .inl ⟨er, rfl, by omega⟩
  · rw [hg]; simp only; rw [if_neg (by omega)]
    split
    · exact .inl ⟨30, rfl, by decide⟩
    · rcases rt_ok zs ((p : Int).toNat) (n / 8) (n % 8) hz (by omega) with h | ⟨f, q, h, h1, h2, h3, h4⟩
      · exact .inl h
      · exact .inr ⟨f, q, h, by omega, h2, h3, h4⟩
/-- The fields from a place on: they, the error, its place. -/
def rdL (zs : List Int) : Nat → Nat → Nat → List Fd × Int × Int
  | 0, _, _ => ([], 0, 0)
  | m + 1, at', k =>
    if zs.length ≤ at' then ([], 0, 0) else if k = 4096 then ([], 7, (at' : Int)) else
      if (rfI zs at').2.2 ≠ 0 then ([], (rfI zs at').2.2, (at' : Int)) else
        if (rdL zs m (rfI zs at').2.1.toNat (k + 1)).2.1 ≠ 0 then ([], (rdL zs m (rfI zs at').2.1.toNat (k + 1)).2.1, (rdL zs m (rfI zs at').2.1.toNat (k + 1)).2.2) else ((rfI zs at').1 :: (rdL zs m (rfI zs at').2.1.toNat (k + 1)).1, 0, 0)
def rdI (zs : List Int) : List Fd × Int × Int := if 1048576 < zs.length then ([], 4, 0) else rdL zs (zs.length + 1) 0 0
/-- Fields ahead of what is still to be read. -/
def joinR (a : List Fd) (r : List Fd × Int × Int) : List Fd × Int × Int := if r.2.1 ≠ 0 then ([], r.2.1, r.2.2) else (a ++ r.1, 0, 0)
theorem rdL_zero (zs : List Int) : ∀ m at' k, (rdL zs m at' k).2.1 = 0 → (rdL zs m at' k).2.2 = 0
  | 0, _, _, _ => rfl
  | m + 1, at', k, h => by
    simp only [rdL] at h ⊢
    split
    · rfl
    · rename_i h1
      rw [if_neg h1] at h
      split
      · rename_i h2; rw [if_pos h2] at h; simp at h
      · rename_i h2
        rw [if_neg h2] at h
        split
        · rename_i h3; rw [if_pos h3] at h; exact absurd h h3
        · rename_i h3
          rw [if_neg h3] at h
          split
          · rename_i h4; rw [if_pos h4] at h; exact absurd h h4
          · rfl
theorem joinR_step (a : List Fd) (f : Fd) (r : List Fd × Int × Int) : joinR a (if r.2.1 ≠ 0 then ([], r.2.1, r.2.2) else (f :: r.1, 0, 0)) = joinR (a ++ [f]) r := by
  unfold joinR
  by_cases h : r.2.1 = 0
  · simp [h]
  · simp [h]
/-- A message that was read, as it lies. -/
def Reads (n₀ : Nat) (w' : World) (e : Ending) (r : List Fd × Int × Int) : Prop := ∃ v ps, e = .returned (.tuple #[v, .int .i64 r.2.1, .int .i64 r.2.2]) ∧ ps.map (·.1) = r.1 ∧ w'.ownsRow n₀ 35 4 v ps.length (flL ps) ∧ OwnB n₀ w' ps
theorem reads_no {n₀ : Nat} {w' : World} {er p : Int} : Reads n₀ w' (.returned (.tuple #[.slice none 0 0, .int .i64 er, .int .i64 p])) ([], er, p) := ⟨_, [], rfl, rfl, World.ownsRow_nil _ _ _ _, fun p hp => nomatch hp⟩

set_option maxRecDepth 20000 in
set_option maxHeartbeats 4000000 in
theorem read_any (b off cap : Nat) (zs : List Int) (w : World) (R : BRow w b off zs) (hbw : b < w.heap.size) (hcap : zs.length ≤ cap) :
    Calls Try.prog 19 #[.slice (some ⟨b, off, none⟩) zs.length cap] w fun e w' => Reads w.heap.size w' e (rdI zs) ∧ Below w.heap.size w w' := by
  have hsm := R.small
  by_cases hlong : 1048576 < zs.length
  · have hr : rdI zs = ([], 4, 0) := by unfold rdI; rw [if_pos hlong]
    rw [hr]
    have hl : 1048576 < (zs.length : Int) := by omega
    clear R hr hlong hcap
    generalize zs.length = N at *
    go_enter Try.func19, Try.ntmps19
    go_wp2_with fail
    go_ret3
    exact ⟨reads_no, Below.refl _ _⟩
  · have hr : rdI zs = rdL zs (zs.length + 1) 0 0 := by unfold rdI; rw [if_neg hlong]
    rw [hr]
    obtain ⟨r, hrr⟩ : ∃ r, rdL zs (zs.length + 1) 0 0 = r := ⟨_, rfl⟩
    have HR : Hid (rdL zs (zs.length + 1) 0 0 = r) := hrr
    rw [hrr]
    have HRW : Hid (∀ V, Below w.heap.size w V → BRow V b off zs) := fun V hV => brow_later R hbw hV
    have HCA : Hid (zs.length ≤ cap ∧ zs.length ≤ 2000000 ∧ Byt zs) := ⟨hcap, by omega, R.byt⟩
    obtain ⟨N, hN⟩ : ∃ N, zs.length = N := ⟨_, rfl⟩
    have HN : Hid (zs.length = N) := hN
    rw [hN]
    have hl : ¬ 1048576 < (N : Int) := by omega
    have hd : decide (1048576 < (N : Int)) = false := by simpa using hl
    clear R hr hlong hcap hrr hN hsm
    go_enter Try.func19, Try.ntmps19
    go_wp2_with fail
    go_loopw [5, 6] (fun x i wr => ∃ (at' m : Nat) (ps : List (Fd × Value)), at' ≤ N ∧ i = .int .i64 (at' : Int) ∧ N < at' + m ∧ joinR (ps.map (·.1)) (rdL zs m at' ps.length) = r ∧ wr.ownsRow w.heap.size 35 4 x ps.length (flL ps) ∧ OwnB w.heap.size wr ps ∧ ps.length ≤ 4096 ∧ Below w.heap.size w wr) (fun x i wr => N - (intOf i).toNat)
    case atStart =>
      refine ⟨0, N + 1, [], by omega, rfl, by omega, ?_, World.ownsRow_nil _ _ _ _, (fun p hp => nomatch hp), by simp, Below.refl _ _⟩
      have h := HR.out
      rw [HN.out] at h
      rw [← h]
      unfold joinR
      split
      · rename_i h1
        have e1 : rdL zs (N + 1) 0 0 = ([], (rdL zs (N + 1) 0 0).2.1, (rdL zs (N + 1) 0 0).2.2) := by
          refine Prod.ext ?_ rfl
          show (rdL zs (N + 1) 0 0).1 = []
          revert h1
          simp only [rdL, List.length_nil, List.map_nil]
          repeat' split
          all_goals simp
        exact e1.symm
      · rename_i h1
        have h1' : (rdL zs (N + 1) 0 0).2.1 = 0 := by simpa using h1
        have h2 := rdL_zero zs (N + 1) 0 0 h1'
        refine Prod.ext ?_ (Prod.ext h1'.symm h2.symm)
        simp
    case round =>
      obtain ⟨at', m, ps, hat, rfl, hm, hj, hown, hob, hpl, hbel⟩ := hrel
      obtain ⟨xa, xc, hx⟩ := own_slice hown
      subst hx
      have HOW : Hid (wr.ownsRow w.heap.size 35 4 (.slice xa ps.length xc) ps.length (flL ps) ∧ OwnB w.heap.size wr ps) := ⟨hown, hob⟩
      have HBE : Hid (Below w.heap.size w wr) := hbel
      have HJ : Hid (joinR (ps.map (·.1)) (rdL zs m at' ps.length) = r) := hj
      obtain ⟨m', rfl⟩ : ∃ m', m = m' + 1 := ⟨m - 1, by omega⟩
      obtain ⟨k, hk⟩ : ∃ k, ps.length = k := ⟨_, rfl⟩
      have HK : Hid (ps.length = k) := hk
      rw [hk] at HOW HJ hpl ⊢
      have hk4 : (k : Int) ≤ 4096 := by omega
      have HM : Hid (N < at' + (m' + 1)) := hm
      clear hown hob hbel hj hk hm
      by_cases hlt : at' < N
      · have hlt' : ¬ zs.length ≤ at' := by have := HN.out; omega
        by_cases hfull : k = 4096
        · have HRR : Hid (r = ([], 7, (at' : Int))) := by
            show _ = _
            rw [← HJ.out]
            simp only [rdL]
            rw [if_neg hlt', if_pos hfull]
            rfl
          subst hfull
          go_wp2_with fail
          go_ret3
          rw [HRR.out]
          exact ⟨reads_no, HBE.out⟩
        · have hne : ((k : Int) == 4096) = false := by rw [beq_eq_false_iff_ne]; omega
          have hrf := readField_any b off cap at' zs wr (HRW.out wr HBE.out) (by have := HBE.out.size; omega) HCA.out.1 (by have := HN.out; omega) HCA.out.2.1
          rw [HN.out] at hrf
          have HRF : Hid (Calls Try.prog 31 #[.slice (some ⟨b, off, none⟩) N cap, .int .i64 (at' : Int)] wr fun e w' => Fread wr.heap.size w' e (rfI zs at') ∧ Below wr.heap.size wr w') := hrf
          have HJ2 : Hid (joinR (ps.map (·.1)) (if (rfI zs at').2.2 ≠ 0 then ([], (rfI zs at').2.2, (at' : Int)) else if (rdL zs m' (rfI zs at').2.1.toNat (k + 1)).2.1 ≠ 0 then ([], (rdL zs m' (rfI zs at').2.1.toNat (k + 1)).2.1, (rdL zs m' (rfI zs at').2.1.toNat (k + 1)).2.2) else ((rfI zs at').1 :: (rdL zs m' (rfI zs at').2.1.toNat (k + 1)).1, 0, 0)) = r) := by
            show _ = _
            rw [← HJ.out]
            simp only [rdL]
            rw [if_neg hlt', if_neg hfull]
          clear hrf hfull
          rcases rf_ok zs at' HCA.out.2.2 with ⟨er, hg, he⟩ | ⟨f, q, hg, q0, q1, hfb, hfl⟩
          · rw [hg] at HRF HJ2
            have HRR : Hid (r = ([], er, (at' : Int))) := by
              show _ = _
              rw [← HJ2.out]
              simp only
              rw [if_pos he]
              unfold joinR
              simp only
              rw [if_pos he]
            have hnez : (er != 0) = true := by rw [bne_iff_ne]; exact he
            clear hg he
            go_wp2_with fail
            refine HRF.out.mono ?_
            rintro e w2 ⟨⟨v2, rfl, ho2⟩, hb2⟩
            obtain ⟨va, vc, hv2⟩ := own_slice ho2
            subst hv2
            simp only
            have HB2 : Hid (Below w.heap.size w w2) := HBE.out.trans (hb2.mono HBE.out.size)
            clear ho2 hb2
            go_wp2_with fail
            go_ret3
            rw [HRR.out]
            exact ⟨reads_no, HB2.out.trans ((bel1 _ _).mono HB2.out.size)⟩
          · rw [hg] at HRF HJ2
            have HJ3 : Hid (joinR (ps.map (·.1) ++ [f]) (rdL zs m' q (k + 1)) = r) := by
              show _ = _
              rw [← HJ2.out]
              simp only
              rw [if_neg (by omega), Int.toNat_natCast, joinR_step]
            have HQ : Hid (at' < q ∧ q ≤ N ∧ f.b.length ≤ 2000000) := ⟨q0, by have := HN.out; omega, by have := HCA.out.2.1; omega⟩
            obtain ⟨X, hX⟩ : ∃ X : Int, (f.n : Int) = X := ⟨_, rfl⟩
            obtain ⟨A, hA⟩ : ∃ A : Int, f.num = A := ⟨_, rfl⟩
            obtain ⟨T, hT⟩ : ∃ T : Int, f.typ = T := ⟨_, rfl⟩
            have HATX : Hid (f.num = A ∧ f.typ = T ∧ (f.n : Int) = X) := ⟨hA, hT, hX⟩
            have HPL : Hid (k ≤ 100000000) := by show k ≤ _; omega
            clear hg
            go_wp2_with fail
            refine HRF.out.mono ?_
            rintro e w2 ⟨⟨v2, rfl, ho2⟩, hb2⟩
            simp only at ho2
            obtain ⟨va, vc, hv2⟩ := own_slice ho2
            subst hv2
            simp only [hA, hT, hX]
            have HO2 : Hid (w2.ownsRow wr.heap.size 5 1 (.slice va f.b.length vc) f.b.length (u8l f.b)) := ho2
            have HB2 : Hid (Below wr.heap.size wr w2) := hb2
            have HOW2 : Hid (w2.ownsRow w.heap.size 35 4 (.slice xa k xc) k (flL ps)) := own_kept HOW.out.1 fun g _ hg => hb2.block g hg
            have HW2 : Hid (w.heap.size ≤ w2.heap.size) := Nat.le_trans HBE.out.size hb2.size
            have HOB2 : Hid (OwnB w.heap.size w2 (ps ++ [(f, .slice va f.b.length vc)])) := by
              intro p hp
              rcases List.mem_append.1 hp with h | h
              · exact own_kept (HOW.out.2 p h) fun g _ hg => hb2.block g hg
              · have : p = (f, .slice va f.b.length vc) := by simpa using h
                rw [this]
                exact own_low HO2.out HBE.out.size
            clear ho2 hb2 hA hT hX
            go_wp2_with (at_builtin; (refine wpList_append_fd rfl (.tmp 32) (.tmp 34) 23 35 Try.underlying23 info35' rfl w.heap.size (.slice xa k xc) k (flL ps) rfl (w2.alloc (.cells #[.int .i64 A, .int .i64 T, .int .u64 X, .slice va f.b.length vc] 35)) (HOW2.out.alloc _) (f, .slice va f.b.length vc) ⟨_, _, _, rfl⟩ (by rw [HATX.out.1, HATX.out.2.1, HATX.out.2.2]) (by show Value.slice (some ⟨w2.heap.size + 1, 0, none⟩) 1 1 = _; rw [World.size_alloc]) HPL.out (by have := HW2.out; simp; omega) ?_; intro g9 c9 w9 ho9 hg9; (have HO9 : Hid (w9.ownsRow w.heap.size 35 4 (.slice (some ⟨g9, 0, none⟩) (k + 1) c9) (k + 1) (flL ps ++ fl4 (f, .slice va f.b.length vc))) := ho9); (have HG9 : Hid (Gr (.slice xa k xc) (w2.alloc (.cells #[.int .i64 A, .int .i64 T, .int .u64 X, .slice va f.b.length vc] 35)) (.slice (some ⟨g9, 0, none⟩) (k + 1) c9) w9) := hg9); clear ho9 hg9))
            go_roundw
            case rel =>
              refine ⟨q, m', ps ++ [(f, .slice va f.b.length vc)], HQ.out.2.1, rfl, by have h1 := HM.out; have h2 := HQ.out.1; omega, ?_, ?_, ?_, ?_, HBE.out.trans ((HB2.out.mono HBE.out.size).trans (((bel1 _ _).mono HW2.out).trans (HG9.out.below (by have := HW2.out; simp; omega) (ownBlock_ge HOW2.out))))⟩
              · rw [List.map_append, List.length_append, HK.out]
                exact HJ3.out
              · rw [List.length_append, flL_app, HK.out]
                have h := HO9.out
                simpa [flL] using h
              · refine OwnB.later (W := w2.alloc (.cells #[.int .i64 A, .int .i64 T, .int .u64 X, .slice va f.b.length vc] 35)) (fun p hp => (HOB2.out p hp).alloc _) fun g cur fr hg => HG9.out.block g (Array.getElem?_eq_some_iff.1 hg).1 ?_
                intro e
                obtain ⟨cur', hc'⟩ := own_tag (HOW2.out.alloc _) e
                exact ne_tag hg hc' (by decide) rfl
              · rw [List.length_append, HK.out]
                have : k ≠ 4096 := by intro h; rw [h] at hne; simp at hne
                simp; omega
            case measure => have := HQ.out; simp [intOf]; omega
      · have HRR : Hid (r = (ps.map (·.1), 0, 0)) := by
          show _ = _
          rw [← HJ.out]
          simp only [rdL]
          rw [if_pos (by have := HN.out; omega)]
          unfold joinR
          simp
        go_wp2_with fail
        go_ret3
        rw [HRR.out]
        refine ⟨⟨_, ps, rfl, rfl, ?_, HOW.out.2⟩, HBE.out⟩
        rw [HK.out]
        exact HOW.out.1
end Go.Proofs.Ytlgkajellndhlaa
