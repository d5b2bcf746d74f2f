/- The law of reading back. -/
import Derived.Test.YtlgkajellndhlaaBack3
import Derived.Deep.CutRange
namespace Go.Proofs.Ytlgkajellndhlaa
open Go.RowKit
set_option linter.unusedVariables false
set_option linter.unusedSimpArgs false

theorem wr_cases (fs : List Fd) : ((wrI fs).2 ≠ 0 ∧ (wrI fs).1 = []) ∨ (wrI fs = (encL fs, 0) ∧ fs.length ≤ 4096 ∧ fs.all okF = true ∧ (encL fs).length ≤ 1048576) := by
  unfold wrI
  by_cases a : 4096 < fs.length
  · rw [if_pos a]; exact .inl ⟨by decide, rfl⟩
  · rw [if_neg a]
    by_cases b : fs.all okF = false
    · rw [if_pos b]; exact .inl ⟨by decide, rfl⟩
    · rw [if_neg b]
      by_cases c : 1048576 < (encL fs).length
      · rw [if_pos c]; exact .inl ⟨by decide, rfl⟩
      · rw [if_neg c]; exact .inr ⟨rfl, by omega, by simpa using b, by omega⟩

set_option maxRecDepth 100000 in
set_option maxHeartbeats 8000000 in
theorem back_law (v1 v2 : Value) (fs gs : List Fd) (n cut : Int) (w : World) (h1 : Fds w v1 fs) (h2 : Fds w v2 gs) (n1 : Nly v1) (n2 : Nly v2) (hf : ∀ f ∈ fs, f.Fit) (hg : ∀ f ∈ gs, f.Fit) (l1 : (fs.length : Int) ≤ 1048576) (l2 : (gs.length : Int) ≤ 1048576) (b0 : -9223372036854775808 ≤ n) (b1 : n ≤ 9223372036854775807) (c0 : -9223372036854775808 ≤ cut) (c1 : cut ≤ 9223372036854775807) :
    Calls Try.prog 4 #[v1, v2, .int .i64 n, .int .i64 cut] w fun e w' => e = .returned (.bool true) ∧ Below w.heap.size w w' := by
  have H1 : Hid (Fds w v1 fs) := h1
  have H2 : Hid (Fds w v2 gs) := h2
  have HN1 : Hid (Nly v1 ∧ Nly v2) := ⟨n1, n2⟩
  have HF : Hid (∀ f ∈ fs, f.Fit) := hf
  have HG : Hid (∀ f ∈ gs, f.Fit) := hg
  have HL : Hid ((fs.length : Int) ≤ 1048576 ∧ (gs.length : Int) ≤ 1048576) := ⟨l1, l2⟩
  have HBN : Hid (-9223372036854775808 ≤ n ∧ n ≤ 9223372036854775807) := ⟨b0, b1⟩
  have HBC : Hid (-9223372036854775808 ≤ cut ∧ cut ≤ 9223372036854775807) := ⟨c0, c1⟩
  obtain ⟨va1, vc1, rfl, hcap1⟩ : ∃ a c, v1 = .slice a fs.length c ∧ fs.length ≤ c := by obtain ⟨a, c, e, q, _⟩ := h1; exact ⟨a, c, e, q⟩
  obtain ⟨va2, vc2, rfl, hcap2⟩ : ∃ a c, v2 = .slice a gs.length c ∧ gs.length ≤ c := by obtain ⟨a, c, e, q, _⟩ := h2; exact ⟨a, c, e, q⟩
  obtain ⟨A, hA⟩ : ∃ A, fs.length = A := ⟨_, rfl⟩
  obtain ⟨B, hB⟩ : ∃ B, gs.length = B := ⟨_, rfl⟩
  have HA : Hid (fs.length = A ∧ gs.length = B) := ⟨hA, hB⟩
  rw [hA] at H1 HN1 l1 ⊢
  rw [hB] at H2 HN1 l2 ⊢
  obtain ⟨hby, hbl⟩ := wrI_byt fs hf
  obtain ⟨hcy, hcl⟩ := wrI_byt gs hg
  have hwf := wr_cases fs
  have hwg := wr_cases gs
  obtain ⟨R, hR⟩ : ∃ R, (wrI fs).1 = R := ⟨_, rfl⟩
  obtain ⟨E, hE⟩ : ∃ E, (wrI fs).2 = E := ⟨_, rfl⟩
  obtain ⟨S, hS⟩ : ∃ S, (wrI gs).1 = S := ⟨_, rfl⟩
  obtain ⟨F, hF⟩ : ∃ F, (wrI gs).2 = F := ⟨_, rfl⟩
  rw [hR] at hby hbl hwf
  rw [hS] at hcy hcl hwg
  rw [hE] at hwf
  rw [hF] at hwg
  obtain ⟨P, hP⟩ : ∃ P, R.length = P := ⟨_, rfl⟩
  obtain ⟨Q, hQ⟩ : ∃ Q, S.length = Q := ⟨_, rfl⟩
  have hPl : (P : Int) ≤ 1048576 := by omega
  have hQl : (Q : Int) ≤ 1048576 := by omega
  have HRB : Hid (Byt R ∧ R.length = P ∧ (wrI fs).1 = R ∧ (wrI fs).2 = E) := ⟨hby, hP, hR, hE⟩
  have HSB : Hid (Byt S ∧ S.length = Q ∧ (wrI gs).1 = S ∧ (wrI gs).2 = F) := ⟨hcy, hQ, hS, hF⟩
  have HWF : Hid ((E ≠ 0 ∧ R = []) ∨ (wrI fs = (encL fs, 0) ∧ fs.length ≤ 4096 ∧ fs.all okF = true ∧ (encL fs).length ≤ 1048576)) := hwf
  have HWG : Hid ((F ≠ 0 ∧ S = []) ∨ (wrI gs = (encL gs, 0) ∧ gs.length ≤ 4096 ∧ gs.all okF = true ∧ (encL gs).length ≤ 1048576)) := hwg
  have hnn : (n != n) = false := by simp
  clear h1 h2 n1 n2 hf hg b0 b1 c0 c1 hA hB hby hbl hcy hcl hwf hwg hR hE hS hF hP hQ
  go_enter Try.func4, Try.ntmps4
  go_wp2_with fail
  refine (given_any _ fs w H1.out HF.out (by have := HL.out; omega)).mono ?_
  rintro e w1 ⟨⟨v7, rfl, hF7⟩, hb1⟩
  have H7 : Hid (Fds w1 v7 fs) := hF7
  have HB1 : Hid (Below w.heap.size w w1) := hb1
  clear hF7 hb1
  go_wp2_with fail
  refine (write_any v7 fs w1 H7.out HF.out).mono ?_
  rintro e w2 ⟨⟨rb, rfl, hob⟩, hb2⟩
  rw [HRB.out.2.2.1, HRB.out.2.1] at hob
  rw [HRB.out.2.2.2]
  have HW2 : Hid (Below w.heap.size w w2) := HB1.out.trans (hb2.mono HB1.out.size)
  have hob' := own_low hob HB1.out.size
  obtain ⟨ra, rc, rfl⟩ := own_slice hob'
  have HOB : Hid (w2.ownsRow w.heap.size 5 1 (.slice ra P rc) P (u8l R)) := hob'
  clear hob hob' hb2
  go_wp2_with fail
  refine (given_any _ gs w2 (H2.out.later HW2.out) HG.out (by have := HL.out; omega)).mono ?_
  rintro e w3 ⟨⟨v8, rfl, hF8⟩, hb3⟩
  have H8 : Hid (Fds w3 v8 gs) := hF8
  have HB3 : Hid (Below w2.heap.size w2 w3) := hb3
  clear hF8 hb3
  go_wp2_with fail
  refine (write_any v8 gs w3 H8.out HG.out).mono ?_
  rintro e w4 ⟨⟨rc', rfl, hoc⟩, hb4⟩
  rw [HSB.out.2.2.1, HSB.out.2.1] at hoc
  rw [HSB.out.2.2.2]
  have HB4 : Hid (Below w2.heap.size w2 w4) := HB3.out.trans (hb4.mono HB3.out.size)
  have HW4 : Hid (Below w.heap.size w w4) := HW2.out.trans (HB4.out.mono HW2.out.size)
  have hoc' := own_low hoc (Nat.le_trans HW2.out.size HB3.out.size)
  obtain ⟨sa, sc, rfl⟩ := own_slice hoc'
  have HOC4 : Hid (w4.ownsRow w.heap.size 5 1 (.slice sa Q sc) Q (u8l S)) := hoc'
  have HOB4 : Hid (w4.ownsRow w.heap.size 5 1 (.slice ra P rc) P (u8l R)) := own_kept HOB.out fun q _ hq => HB4.out.block q hq
  clear hoc hoc' hb4 HOB HB3 HB4 H7 H8 HB1 HW2
  go_wp2_with fail
  refine (zig_any n w4 HBN.out.1 HBN.out.2).mono ?_
  rintro e w5 ⟨rfl, hw5⟩
  rw [hw5]
  clear hw5
  go_wp2_with fail
  refine (zag_any n w4 HBN.out.1 HBN.out.2).mono ?_
  rintro e w5 ⟨rfl, hw5⟩
  rw [hw5]
  clear hw5
  rcases HWF.out with ⟨hE, hR0⟩ | ⟨hE, hA4, hAk, hEl⟩
  · have hEb : (E != 0) = true := by rw [bne_iff_ne]; exact hE
    have hEc : (E == 0) = false := by rw [beq_eq_false_iff_ne]; exact hE
    go_wp2_with fail
    refine (known_any w4).mono ?_
    rintro e w5 ⟨rfl, hb5⟩
    go_wp2_with fail
    go_ret
    exact ⟨rfl, HW4.out.trans (hb5.mono HW4.out.size)⟩
  · have hE0 : E = 0 := by rw [← HRB.out.2.2.2, hE]
    have hRe : R = encL fs := by rw [← HRB.out.2.2.1, hE]
    subst hE0
    have HR0 : Hid (rdI R = (fs, 0, 0)) := by show _ = _; rw [hRe]; exact rd_back fs HF.out hAk hA4 hEl
    have HRC : Hid (∀ j, j ≤ P → ((rdI (R.take j)).2.1 = 0 ∧ (rdI (R.take j)).1.length ≤ A) ∨ ((rdI (R.take j)).2.1 = 8 ∧ (rdI (R.take j)).2.2 ≤ (j : Int))) := fun j hj => by
      have h1 := HRB.out.2.1
      have h2 := HA.out.1
      rw [hRe] at h1 ⊢
      rw [← h2]
      exact rd_cut fs HF.out hAk hA4 hEl j (by omega)
    have HE1 : Hid (wrI fs = (R, 0) ∧ R = encL fs ∧ fs.length ≤ 4096 ∧ fs.all okF = true ∧ (encL fs).length ≤ 1048576) := ⟨by rw [hRe]; exact hE, hRe, hA4, hAk, hEl⟩
    clear hE hRe hA4 hAk hEl
    go_wp2_with fail
    refine (read_own (zs := R) (by rw [HRB.out.2.1]; exact HOB4.out) HRB.out.1 (by have := HRB.out.2.1; omega)).mono ?_
    rw [HR0.out]
    rintro e w5 ⟨⟨x5, ps5, rfl, hps5, ho5, hob5⟩, hb5⟩
    have hF5 := reads_fds ho5 hob5
    have hps5' : ps5.map (·.1) = fs := hps5
    rw [hps5'] at hF5
    have H5 : Hid (Fds w5 x5 fs) := hF5
    have HB5 : Hid (Below w4.heap.size w4 w5) := hb5
    clear ho5 hob5 hF5 hps5 hps5' hb5
    go_wp2_with fail
    refine (taken_any x5 fs w5 H5.out (by have := HL.out; omega)).mono ?_
    rintro e w6 ⟨⟨x6, rfl, hF6⟩, hb6⟩
    have H6 : Hid (Fds w6 x6 fs) := hF6
    have HB6 : Hid (Below w4.heap.size w4 w6) := HB5.out.trans (hb6.mono HB5.out.size)
    have HW6 : Hid (Below w.heap.size w w6) := HW4.out.trans (HB6.out.mono HW4.out.size)
    clear hF6 hb6
    go_wp2_with fail
    refine (rsame_true x6 _ fs w6 H6.out (H1.out.later HW6.out) HF.out (by have := HL.out; omega)).mono ?_
    rintro e w7 ⟨rfl, hb7⟩
    have HB7 : Hid (Below w4.heap.size w4 w7) := HB6.out.trans (hb7.mono HB6.out.size)
    have HOB7 : Hid (w7.ownsRow w.heap.size 5 1 (.slice ra P rc) P (u8l R)) := own_kept HOB4.out fun q _ hq => HB7.out.block q hq
    clear hb7 H5 H6 HB5 HB6 HW6
    go_wp2_with fail
    refine (canon_own (zs := R) (fs := fs) (by rw [HRB.out.2.1]; exact HOB7.out) HRB.out.1 (by have := HRB.out.2.1; omega) HR0.out HF.out).mono ?_
    rw [HE1.out.1]
    rintro e w8 ⟨⟨y8, rfl, ho8⟩, hb8⟩
    have HB8 : Hid (Below w4.heap.size w4 w8) := HB7.out.trans (hb8.mono HB7.out.size)
    have HOB8 : Hid (w8.ownsRow w.heap.size 5 1 (.slice ra P rc) P (u8l R)) := own_kept HOB4.out fun q _ hq => HB8.out.block q hq
    have cb := (own_src (zs := R) (by rw [HRB.out.2.1]; exact HOB8.out)).conv HRB.out.1
    have cc := (own_src ho8).conv HRB.out.1
    generalize (⟨(strB R).toArray⟩ : ByteArray) = ST at cb cc
    clear hb8 ho8
    go_wp2_with fail
    refine (count_any cut ((P : Int) + 1) w8 HBC.out.1 HBC.out.2 (by omega) (by omega)).mono ?_
    rintro e w9 ⟨rfl, hw9⟩
    rw [hw9]
    clear hw9
    have k0 := Int.emod_nonneg cut (show (P : Int) + 1 ≠ 0 by omega)
    have k1 := Int.emod_lt_of_pos cut (show 0 < (P : Int) + 1 by omega)
    obtain ⟨j, hj⟩ : ∃ j : Nat, cut % ((P : Int) + 1) = (j : Int) := ⟨(cut % ((P : Int) + 1)).toNat, by omega⟩
    rw [hj] at k0 k1 ⊢
    have hjP : (j : Int) ≤ (P : Int) := by omega
    clear hj k0 k1 cb cc
    go_upto_region 13 with fail
    go_cut [14, 19, 20] from 80 to 87 (fun g z at' wx => ∃ (za : Option Addr) (zl zc : Nat) (er pl : Int), z = .slice za zl zc ∧ g = .int .i64 er ∧ at' = .int .i64 pl ∧ ((er = 0 ∧ zl ≤ A) ∨ (er = 8 ∧ pl ≤ (j : Int))) ∧ Below w4.heap.size w4 wx)
    case first =>
      rcases HOB8.out.2 with ⟨hv, hn⟩ | ⟨g, cap, cur, hv, hr⟩
      · obtain ⟨rfl, rfl, rfl⟩ := Value.slice.inj hv
        obtain rfl : j = 0 := by omega
        go_wp2_with fail
        refine (read_nil w8).mono ?_
        rintro e w9 ⟨⟨v9, ps9, rfl, hps9, ho9, hob9⟩, hb9⟩
        obtain ⟨z1, z2, rfl⟩ := own_slice ho9
        have hl9 : ps9.length = 0 := by have h := congrArg List.length hps9; simpa using h
        rw [hl9]
        go_wp2_with fail
        go_meet
        case rel => exact ⟨_, _, _, _, _, rfl, rfl, rfl, .inl ⟨rfl, Nat.zero_le _⟩, HB8.out.trans (hb9.mono HB8.out.size)⟩
      · obtain ⟨rfl, -, rfl⟩ := Value.slice.inj hv
        clear hr hv
        have hpc : (P : Int) ≤ (rc : Int) := by have := own_cap HOB8.out; omega
        have hjc : (j : Int) ≤ (rc : Int) := by omega
        have HRD : Hid (Calls Try.prog 19 #[.slice (some ⟨g, 0, none⟩) j rc] w8 fun e w' => Reads w8.heap.size w' e (rdI (R.take j)) ∧ Below w8.heap.size w8 w') := read_part (zs := R) (by rw [HRB.out.2.1]; exact HOB8.out) HRB.out.1 (by have := HRB.out.2.1; omega) j (by have := HRB.out.2.1; omega)
        go_wp2_with fail
        refine HRD.out.mono ?_
        rintro e w9 ⟨⟨v9, ps9, rfl, hps9, ho9, hob9⟩, hb9⟩
        obtain ⟨z1, z2, rfl⟩ := own_slice ho9
        have hl9 : ps9.length = (rdI (R.take j)).1.length := by have h := congrArg List.length hps9; simpa using h
        have hcs := HRC.out j (by omega)
        rw [← hl9] at hcs
        have HCS : Hid (((rdI (R.take j)).2.1 = 0 ∧ ps9.length ≤ A) ∨ ((rdI (R.take j)).2.1 = 8 ∧ (rdI (R.take j)).2.2 ≤ (j : Int))) := hcs
        have HB9 : Hid (Below w4.heap.size w4 w9) := HB8.out.trans (hb9.mono HB8.out.size)
        clear ho9 hob9 hb9 hl9 hcs hps9
        generalize (rdI (R.take j)).2.1 = ER at HCS ⊢
        generalize (rdI (R.take j)).2.2 = PL at HCS ⊢
        generalize ps9.length = ZL at HCS ⊢
        go_wp2_with fail
        go_meet
        case rel => exact ⟨_, _, _, _, _, rfl, rfl, rfl, HCS.out, HB9.out⟩
    case rest =>
      obtain ⟨za, zl, zc, er, pl, rfl, rfl, rfl, hcs, hbc⟩ := hcut
      have HBX : Hid (Below w4.heap.size w4 wc) := hbc
      clear hbc HOB7 HOB8 HB7 HB8 HR0 HRC hjP
      go_upto_region 14 with fail
      go_cut [109] from 88 to 109 (fun x wx => x = .bool false ∧ wx = wc)
      case first =>
        rcases hcs with ⟨rfl, hz⟩ | ⟨rfl, hp⟩
        · have hz' : ¬ ((A : Int) < (zl : Int)) := by omega
          go_wp2_with fail
          go_meet
          case rel => exact ⟨rfl, rfl⟩
        · have hp' : ¬ ((j : Int) < pl) := by omega
          go_wp2_with fail
          go_meet
          case rel => exact ⟨rfl, rfl⟩
      case rest =>
        obtain ⟨rfl, rfl⟩ := hcut
        clear hcs
        have HWX : Hid (Below w.heap.size w wc) := HW4.out.trans (HBX.out.mono HW4.out.size)
        have HOB9 : Hid (wc.ownsRow w.heap.size 5 1 (.slice ra P rc) P (u8l R)) := own_kept HOB4.out fun q _ hq => HBX.out.block q hq
        have HOC9 : Hid (wc.ownsRow w.heap.size 5 1 (.slice sa Q sc) Q (u8l S)) := own_kept HOC4.out fun q _ hq => HBX.out.block q hq
        clear HOB4 HOC4 HBX
        rcases HWG.out with ⟨hF, hS0⟩ | ⟨hF, hB4, hBk, hFl⟩
        · have hEb : (F != 0) = true := by rw [bne_iff_ne]; exact hF
          go_wp2_with fail
          refine (known_any _).mono ?_
          rintro e w10 ⟨rfl, hb10⟩
          go_wp2_with fail
          go_ret
          exact ⟨rfl, HWX.out.trans (hb10.mono HWX.out.size)⟩
        · have hF0 : F = 0 := by rw [← HSB.out.2.2.2, hF]
          have hSe : S = encL gs := by rw [← HSB.out.2.2.1, hF]
          subst hF0
          by_cases hPQ : 1048576 < (P : Int) + (Q : Int)
          · go_wp2_with fail
            refine (known_any _).mono ?_
            rintro e w10 ⟨rfl, hb10⟩
            go_wp2_with fail
            go_ret
            exact ⟨rfl, HWX.out.trans (hb10.mono HWX.out.size)⟩
          · by_cases hAB : 4096 < (A : Int) + (B : Int)
            · go_wp2_with fail
              refine (known_any _).mono ?_
              rintro e w10 ⟨rfl, hb10⟩
              go_wp2_with fail
              go_ret
              exact ⟨rfl, HWX.out.trans (hb10.mono HWX.out.size)⟩
            · have HRS : Hid (rdI (R ++ S) = (fs ++ gs, 0, 0)) := by
                show _ = _
                have q1 := HRB.out.2.1
                have q2 := HSB.out.2.1
                have q3 := HA.out
                have q4 := HE1.out
                rw [q4.2.1] at q1 ⊢
                rw [hSe] at q2 ⊢
                rw [← encL_app]
                refine rd_back (fs ++ gs) (fun f hf => ?_) ?_ (by rw [List.length_append]; omega) (by rw [encL_app, List.length_append]; omega)
                · rcases List.mem_append.1 hf with h | h
                  · exact HF.out f h
                  · exact HG.out f h
                · rw [List.all_append, q4.2.2.2.1, hBk]; rfl
              have HFG : Hid (∀ f ∈ fs ++ gs, f.Fit) := fun f hf => by
                rcases List.mem_append.1 hf with h | h
                · exact HF.out f h
                · exact HG.out f h
              have HLN : Hid (P + S.length = (R ++ S).length) := by show _ = _; rw [List.length_append, HRB.out.2.1]
              clear hF hSe hB4 hBk hFl
              go_wp2_with (first | (at_builtin; (refine wpList_append_src rfl (.tmp 133) (.tmp 134) rfl wc.heap.size (.slice none 0 0) 0 [] rfl (World.ownsRow_nil _ _ _ _) (.slice ra P rc) R rfl (own_src (by rw [HRB.out.2.1]; exact HOB9.out)) (by have := HRB.out.2.1; omega) (Nat.le_refl _) ?_; intro v11 w11 ho11 hg11; (have HO11 : Hid (w11.ownsRow wc.heap.size 5 1 v11 P (u8l R)) := (by have h := ho11; rw [Nat.zero_add, List.nil_append, HRB.out.2.1] at h; exact h)); (have HB11 : Hid (Below wc.heap.size wc w11) := (Below.refl _ wc).grown hg11 (Nat.le_refl _) (by intro q hq; cases hq)); clear ho11 hg11)) | (at_builtin; (refine wpList_append_src rfl (.tmp 136) (.tmp 137) rfl wc.heap.size v11 P (u8l R) rfl HO11.out (.slice sa Q sc) S rfl (own_src (by rw [HSB.out.2.1]; exact own_kept HOC9.out fun q _ hq => HB11.out.block q hq)) (by have := HSB.out.2.1; omega) HB11.out.size ?_; intro v12 w12 ho12 hg12; (have HO12 : Hid (w12.ownsRow wc.heap.size 5 1 v12 (R ++ S).length (u8l (R ++ S))) := (by have h := ho12; rw [u8l_app] at h; rw [HLN.out] at h; exact h)); (have HB12 : Hid (Below wc.heap.size wc w12) := HB11.out.grown hg12 HB11.out.size (ownBlock_ge HO11.out)); clear ho12 hg12)))
              refine (read_own HO12.out (byt_app HRB.out.1 HSB.out.1) (by have q1 := HRB.out.2.1; have q2 := HSB.out.2.1; rw [List.length_append]; omega)).mono ?_
              rw [HRS.out]
              rintro e w13 ⟨⟨x13, ps13, rfl, hps13, ho13, hob13⟩, hb13⟩
              have hF13 := reads_fds ho13 hob13
              have hps13' : ps13.map (·.1) = fs ++ gs := hps13
              rw [hps13'] at hF13
              have H13 : Hid (Fds w13 x13 (fs ++ gs)) := hF13
              have HW13 : Hid (Below w.heap.size w w13) := HWX.out.trans ((HB12.out.trans (hb13.mono HB12.out.size)).mono HWX.out.size)
              clear ho13 hob13 hF13 hps13 hps13' hb13
              go_wp2_with (first | (at_builtin; (refine wpList_append_fds rfl (.tmp 145) (.tmp 146) rfl w13.heap.size (.slice none 0 0) 0 [] rfl (World.ownsRow_nil _ _ _ _) (.slice va1 A vc1) fs rfl HN1.out.1 w13 (H1.out.later HW13.out) (Below.refl _ _) (by have := HL.out.1; omega) (Nat.le_refl _) ?_; intro v14 w14 ps14 hp14 hs14 ho14 hg14; (have HP14 : Hid (ps14.map (·.1) = fs ∧ ∀ p ∈ ps14, Src w13 p.2 p.1.b) := ⟨hp14, hs14⟩); (have HO14 : Hid (w14.ownsRow w13.heap.size 38 4 v14 A (flL ps14)) := (by have h := ho14; rw [Nat.zero_add, List.nil_append, HA.out.1] at h; exact h)); (have HB14 : Hid (Below w13.heap.size w13 w14) := (Below.refl _ w13).grown hg14 (Nat.le_refl _) (by intro q hq; cases hq)); clear ho14 hg14 hp14 hs14)) | (at_builtin; (refine wpList_append_fds rfl (.tmp 148) (.tmp 149) rfl w13.heap.size v14 A (flL ps14) rfl HO14.out (.slice va2 B vc2) gs rfl HN1.out.2 w13 (H2.out.later HW13.out) HB14.out (by have := HL.out.2; omega) HB14.out.size ?_; intro v15 w15 ps15 hp15 hs15 ho15 hg15; (have HB15 : Hid (Below w13.heap.size w13 w15) := HB14.out.grown hg15 HB14.out.size (ownBlock_ge HO14.out)); (have HP15 : Hid (ps15.map (·.1) = gs ∧ ∀ p ∈ ps15, Src w13 p.2 p.1.b) := ⟨hp15, hs15⟩); (have HO15 : Hid (w15.ownsRow w13.heap.size 38 4 v15 (A + gs.length) (flL (ps14 ++ ps15))) := (by have h := ho15; rw [← flL_app] at h; exact h)); clear ho15 hp15 hs15 hg15)))
              have HFA : Hid (Fds w15 v15 (fs ++ gs)) := by
                have hn : A + gs.length = (ps14 ++ ps15).length := by
                  have q1 := congrArg List.length HP14.out.1
                  have q2 := congrArg List.length HP15.out.1
                  have q3 := HA.out.1
                  rw [List.length_map] at q1 q2
                  rw [List.length_append]
                  omega
                have h := HO15.out
                rw [hn] at h
                have hfo := fds_of h (fun p hp => by
                  rcases List.mem_append.1 hp with hp | hp
                  · exact (HP14.out.2 p hp).later HB15.out
                  · exact (HP15.out.2 p hp).later HB15.out)
                rw [List.map_append, HP14.out.1, HP15.out.1] at hfo
                exact hfo
              clear HO15 HP15 HP14 HO14
              refine (taken_any x13 (fs ++ gs) w15 (H13.out.later HB15.out) (by have := HL.out; rw [List.length_append]; omega)).mono ?_
              rintro e w16 ⟨⟨x16, rfl, hF16⟩, hb16⟩
              have H16 : Hid (Fds w16 x16 (fs ++ gs)) := hF16
              have HFA16 : Hid (Fds w16 v15 (fs ++ gs)) := HFA.out.later hb16
              have HW16 : Hid (Below w.heap.size w w16) := HW13.out.trans ((HB15.out.trans (hb16.mono HB15.out.size)).mono HW13.out.size)
              clear hF16 hb16
              go_wp2_with fail
              refine (rsame_true x16 v15 (fs ++ gs) w16 H16.out HFA16.out HFG.out (by have := HL.out; rw [List.length_append]; omega)).mono ?_
              rintro e w17 ⟨rfl, hb17⟩
              have HW17 : Hid (Below w.heap.size w w17) := HW16.out.trans (hb17.mono HW16.out.size)
              clear hb17
              go_wp2_with fail
              refine (known_any w17).mono ?_
              rintro e w18 ⟨rfl, hb18⟩
              go_wp2_with fail
              go_ret
              exact ⟨rfl, HW17.out.trans (hb18.mono HW17.out.size)⟩
end Go.Proofs.Ytlgkajellndhlaa
