import Derived.Test.YtmlbojihjgbdlaaM16
import Derived.Deep.CutRange
import Derived.Deep.CutBlock
/- DiskCopies: the law. -/
namespace Go.Proofs.Ytmlbojihjgbdlaa.D
open Go.RowKit
set_option linter.unusedVariables false
set_option linter.unusedSimpArgs false

variable {w w0 w1 w2 : World} {D R C S k : Nat} {s1 s2 sy : Int} {d1 d2 dl : List Fd}
theorem OpsIn.at {v : Value} {cs : List Cl} (h : OpsIn w v cs) {sa : Option Addr} {len cap : Nat} (hv : v = .slice sa len cap) (hl : cs.length = len) {V : World} (hb : Below w.heap.size w V) {i : Nat} (hi : i < len) : ∃ c, cs[i]? = some c ∧ c.In w ∧ (len : Int) ≤ (cap : Int) ∧ ∃ b off, sa = some ⟨b, off, none⟩ ∧ V.cell? ⟨b, off + i * 6, none⟩ = some (.int .i64 c.kind) ∧ V.cell? ⟨b, off + i * 6 + 1, none⟩ = some (.string (tx c.nm)) ∧ V.cell? ⟨b, off + i * 6 + 2, none⟩ = some (.string (tx c.nm2)) ∧ V.cell? ⟨b, off + i * 6 + 3, none⟩ = some (.int .i64 c.n) ∧ V.cell? ⟨b, off + i * 6 + 4, none⟩ = some c.bv ∧ V.cell? ⟨b, off + i * 6 + 5, none⟩ = some c.kv := by
  obtain ⟨a, cap', e, hcap, hops⟩ := h
  rw [hv] at e
  injection e with e1 e2 e3
  subst e1
  subst e3
  obtain ⟨c, hc⟩ : ∃ c, cs[i]? = some c := ⟨_, List.getElem?_eq_getElem (by omega)⟩
  obtain ⟨hin, b, off, e, hlt, y0, y1, y2, y3, y4, y5⟩ := hops i c hc
  have hcl : ∀ (j : Nat) (u : Value), w.cell? ⟨b, j, none⟩ = some u → V.cell? ⟨b, j, none⟩ = some u := fun j u hu => (cell_same (hb.block b hlt)).trans hu
  exact ⟨c, hc, hin, by omega, b, off, e, hcl _ _ y0, hcl _ _ y1, hcl _ _ y2, hcl _ _ y3, hcl _ _ y4, hcl _ _ y5⟩
set_option maxRecDepth 100000 in
set_option maxHeartbeats 16000000 in
theorem copies_law {ov o1 o2 : Value} {cs c1 c2 : List Cl} (hx : OpsIn w ov cs) (hl : cs.length ≤ 1048576) (hx1 : OpsIn w o1 c1) (hl1 : c1.length ≤ 1048576) (hx2 : OpsIn w o2 c2) (hl2 : c2.length ≤ 1048576) :
    Calls Try.prog 5 #[ov, o1, o2] w fun e w' => e = .returned (.bool true) ∧ Below w.heap.size w w' := by
  have HPL : Hid (Calls Try.prog 14 #[ov] w fun e w' => ∃ D R, e = .returned (.tuple #[.pointer (some ⟨D, 0, none⟩), .pointer (some ⟨R, 0, none⟩)]) ∧ Hid (PD w w' D R)) := played_any hx hl
  obtain ⟨a0, p0, hv0, -, -⟩ := hx
  have HX1 : Hid (OpsIn w o1 c1) := hx1
  have HX2 : Hid (OpsIn w o2 c2) := hx2
  obtain ⟨a1, p1, hv1, -, -⟩ := hx1
  obtain ⟨a2, p2, hv2, -, -⟩ := hx2
  obtain ⟨n0, hn0⟩ : ∃ n, cs.length = n := ⟨_, rfl⟩
  obtain ⟨n1, hn1⟩ : ∃ n, c1.length = n := ⟨_, rfl⟩
  obtain ⟨n2, hn2⟩ : ∃ n, c2.length = n := ⟨_, rfl⟩
  rw [hn0] at hv0
  rw [hn1] at hv1 hl1
  rw [hn2] at hv2 hl2
  subst hv0 hv1 hv2
  have HN : Hid (c1.length = n1 ∧ c2.length = n2) := ⟨hn1, hn2⟩
  have hi1 : (n1 : Int) ≤ 1048576 := by omega
  have hi2 : (n2 : Int) ≤ 1048576 := by omega
  clear hl hn0 hn1 hn2 hl1 hl2
  go_enter Try.func5, Try.ntmps5
  go_upto_region 4 with (go_at_call 14; refine HPL.out.mono ?_; rintro e w1 ⟨D, R, rfl, HD1⟩)
  obtain ⟨sy, dl, hps, hinv, hord⟩ := HD1.out
  have HIO : Hid (Inv 120 sy dl ∧ Ord dl) := ⟨hinv, hord⟩
  have HCP : Hid (Calls Try.prog 18 #[.pointer (some ⟨D, 0, none⟩)] w1 fun e w2 => ∃ C, e = .returned (.pointer (some ⟨C, 0, none⟩)) ∧ Calls Try.prog 21 #[.pointer (some ⟨R, 0, none⟩)] w2 fun e w3 => ∃ S, e = .returned (.pointer (some ⟨S, 0, none⟩)) ∧ Hid (S2 w w3 D R C S sy dl sy dl)) := PS.copies hps hinv (by decide)
  clear HPL HD1 hps hinv hord
  go_upto_region 6 with (first
    | (go_at_call 18; refine HCP.out.mono ?_; rintro e w2 ⟨C, rfl, h21⟩; (have H21 : Hid (Calls Try.prog 21 #[.pointer (some ⟨R, 0, none⟩)] w2 fun e w3 => ∃ S, e = .returned (.pointer (some ⟨S, 0, none⟩)) ∧ Hid (S2 w w3 D R C S sy dl sy dl)) := h21); clear h21)
    | (go_at_call 21; refine H21.out.mono ?_; rintro e w3 ⟨S, rfl, HS3⟩))
  clear HCP H21
  have HSA : Hid (Calls Try.prog 19 #[.pointer (some ⟨D, 0, none⟩), .pointer (some ⟨C, 0, none⟩)] w3 fun e w2 => e = .returned (.bool true) ∧ Hid (S2 w w2 D R C S sy dl sy dl)) := by
    have h := S2.same HS3.out HIO.out.1 HIO.out.1 (by decide) (by decide)
    rw [smB_self HS3.out.nd.1] at h
    exact h
  have HSB : Hid (∀ V, S2 w V D R C S sy dl sy dl → Calls Try.prog 19 #[.pointer (some ⟨C, 0, none⟩), .pointer (some ⟨D, 0, none⟩)] V fun e w2 => e = .returned (.bool true) ∧ Hid (S2 w w2 D R C S sy dl sy dl)) := fun V hV => by
    have h := S2.same hV.swap HIO.out.1 HIO.out.1 (by decide) (by decide)
    rw [smB_self hV.nd.2] at h
    exact h.mono fun e w2 h => ⟨h.1, h.2.out.swap⟩
  clear HS3
  go_upto_block 0 with (first
    | (go_at_call 19; go_loud (refine HSA.out.mono ?_; rintro e w4 ⟨rfl, HS4⟩; clear HSA))
    | (go_at_call 19; go_loud (refine (HSB.out _ HS4.out).mono ?_; rintro e w5 ⟨rfl, HS5⟩; clear HSB)))
  clear HS4
  go_cut [11] from 38 to 55 (fun c wx => Hid (∃ s d, S2 w wx D R C S s d sy dl ∧ Inv 150 s d ∧ Ord d))
  case first =>
    go_wp2_with fail
    go_loopw [11] (fun b wx => ∃ i : Nat, b = .int .i64 (i : Int) ∧ i ≤ 30 ∧ i ≤ n1 ∧ Hid (∃ s d, S2 w wx D R C S s d sy dl ∧ Inv (120 + i) s d ∧ Ord d)) (fun b wx => 30 - (intOf b).toNat)
    case atStart => exact ⟨0, rfl, by omega, by omega, sy, dl, HS5.out, HIO.out.1, HIO.out.2⟩
    case round =>
      obtain ⟨i, rfl, hi, hil, H⟩ := hrel
      obtain ⟨s, d, h1, h2, h3⟩ := H.out
      by_cases cl : i < n1 ∧ i < 30
      · have cl' : (i : Int) < (n1 : Int) := by omega
        have c2' : (i : Int) < 30 := by omega
        obtain ⟨c, hxx, hin, hcap, b, off, e, y0, y1, y2, y3, y4, y5⟩ := HX1.out.at rfl HN.out.1 h1.bel cl.1
        subst e
        have HCA : Hid (Calls Try.prog 11 #[.pointer (some ⟨D, 0, none⟩), .pointer (some ⟨R, 0, none⟩), c.val] wr fun e w2 => e = .returned (.bool true) ∧ Hid (∃ s1' d1', S2 w w2 D R C S s1' d1' sy dl ∧ Inv (120 + i + 1) s1' d1' ∧ Ord d1')) := S2.call h1 h2 (by omega) h3 hin
        obtain ⟨ba, bc, hbv, -⟩ := hin.by'
        obtain ⟨ka, kc, hkv, -⟩ := hin.kp
        obtain ⟨kind, s, s', n, bb, kn, bv, kv⟩ := c
        unfold Cl.val at HCA
        dsimp only at y0 y1 y2 y3 y4 y5 hbv hkv HCA
        generalize bb.length = bn at hbv
        generalize kn.length = kkn at hkv
        subst hbv hkv
        have HII : Hid (i < 30 ∧ i < n1) := ⟨cl.2, cl.1⟩
        clear hin hxx cl hi hil H h1 h2 h3 HX1
        go_wp2_with (go_at_call 11; refine HCA.out.mono ?_; rintro e w6 ⟨rfl, HM6⟩)
        go_roundw
        case rel =>
          obtain ⟨s6, d6, k1, k2, k3⟩ := HM6.out
          exact ⟨i + 1, by go_num, by have := HII.out; omega, by have := HII.out; omega, s6, d6, k1, k2, k3⟩
        case measure => have := HII.out; simp [intOf]; omega
      · have HE : Hid (∃ s d, S2 w wr D R C S s d sy dl ∧ Inv 150 s d ∧ Ord d) := ⟨s, d, h1, h2.to (by omega), h3⟩
        by_cases c1 : i < n1
        · have hi' : i = 30 := by omega
          subst hi'
          have c1' : ((30 : Nat) : Int) < (n1 : Int) := by omega
          rw [show ((30 : Nat) : Int) = 30 from rfl] at c1' ⊢
          clear cl c1 hi hil H h1 h2 h3
          go_wp2_with fail
          go_meet
          exact HE
        · have c1' : ¬ (i : Int) < (n1 : Int) := by omega
          clear cl c1 hi hil H h1 h2 h3
          go_wp2_with fail
          go_meet
          exact HE
  obtain ⟨s1, d1, hs1, hi1', ho1⟩ := hcut.out
  have HD1 : Hid (Inv 150 s1 d1 ∧ Ord d1) := ⟨hi1', ho1⟩
  have HS6 : Hid (S2 w wc D R C S s1 d1 sy dl) := hs1
  clear hcut hs1 hi1' ho1 HS5
  go_upto_block 2 with (fail)
  go_cut [12] from 56 to 73 (fun c wx => Hid (∃ s d, S2 w wx D R C S s1 d1 s d ∧ Inv 150 s d ∧ Ord d))
  case first =>
    go_wp2_with fail
    go_loopw [12] (fun b wx => ∃ i : Nat, b = .int .i64 (i : Int) ∧ i ≤ 30 ∧ i ≤ n2 ∧ Hid (∃ s d, S2 w wx D R C S s1 d1 s d ∧ Inv (120 + i) s d ∧ Ord d)) (fun b wx => 30 - (intOf b).toNat)
    case atStart => exact ⟨0, rfl, by omega, by omega, sy, dl, HS6.out, HIO.out.1, HIO.out.2⟩
    case round =>
      obtain ⟨i, rfl, hi, hil, H⟩ := hrel
      obtain ⟨s, d, h1, h2, h3⟩ := H.out
      by_cases cl : i < n2 ∧ i < 30
      · have cl' : (i : Int) < (n2 : Int) := by omega
        have c2' : (i : Int) < 30 := by omega
        obtain ⟨c, hxx, hin, hcap, b, off, e, y0, y1, y2, y3, y4, y5⟩ := HX2.out.at rfl HN.out.2 h1.bel cl.1
        subst e
        have HCA : Hid (Calls Try.prog 11 #[.pointer (some ⟨C, 0, none⟩), .pointer (some ⟨S, 0, none⟩), c.val] wr fun e w2 => e = .returned (.bool true) ∧ Hid (∃ s1' d1', S2 w w2 C S D R s1' d1' s1 d1 ∧ Inv (120 + i + 1) s1' d1' ∧ Ord d1')) := S2.call h1.swap h2 (by omega) h3 hin
        obtain ⟨ba, bc, hbv, -⟩ := hin.by'
        obtain ⟨ka, kc, hkv, -⟩ := hin.kp
        obtain ⟨kind, s, s', n, bb, kn, bv, kv⟩ := c
        unfold Cl.val at HCA
        dsimp only at y0 y1 y2 y3 y4 y5 hbv hkv HCA
        generalize bb.length = bn at hbv
        generalize kn.length = kkn at hkv
        subst hbv hkv
        have HII : Hid (i < 30 ∧ i < n2) := ⟨cl.2, cl.1⟩
        clear hin hxx cl hi hil H h1 h2 h3 HX2
        go_wp2_with (go_at_call 11; refine HCA.out.mono ?_; rintro e w6 ⟨rfl, HM6⟩)
        go_roundw
        case rel =>
          obtain ⟨s6, d6, k1, k2, k3⟩ := HM6.out
          exact ⟨i + 1, by go_num, by have := HII.out; omega, by have := HII.out; omega, s6, d6, k1.swap, k2, k3⟩
        case measure => have := HII.out; simp [intOf]; omega
      · have HE : Hid (∃ s d, S2 w wr D R C S s1 d1 s d ∧ Inv 150 s d ∧ Ord d) := ⟨s, d, h1, h2.to (by omega), h3⟩
        by_cases c1 : i < n2
        · have hi' : i = 30 := by omega
          subst hi'
          have c1' : ((30 : Nat) : Int) < (n2 : Int) := by omega
          rw [show ((30 : Nat) : Int) = 30 from rfl] at c1' ⊢
          clear cl c1 hi hil H h1 h2 h3
          go_wp2_with fail
          go_meet
          exact HE
        · have c1' : ¬ (i : Int) < (n2 : Int) := by omega
          clear cl c1 hi hil H h1 h2 h3
          go_wp2_with fail
          go_meet
          exact HE
  obtain ⟨s2, d2, hs2, hi2', ho2⟩ := hcut.out
  have HA1 : Hid (Calls Try.prog 12 #[.pointer (some ⟨D, 0, none⟩), .pointer (some ⟨R, 0, none⟩)] wc fun e w2 => e = .returned (.bool true) ∧ Hid (S2 w w2 D R C S s1 d1 s2 d2)) := S2.alike hs2 HD1.out.1 (by decide) HD1.out.2
  have HA2 : Hid (∀ V, S2 w V D R C S s1 d1 s2 d2 → Calls Try.prog 12 #[.pointer (some ⟨C, 0, none⟩), .pointer (some ⟨S, 0, none⟩)] V fun e w2 => e = .returned (.bool true) ∧ Hid (S2 w w2 D R C S s1 d1 s2 d2)) := fun V hV => (S2.alike hV.swap hi2' (by decide) ho2).mono fun e w2 h => ⟨h.1, h.2.out.swap⟩
  obtain ⟨z, hz⟩ : ∃ z, sameL d1 d2 = z := ⟨_, rfl⟩
  have HB1 : Hid (∀ V, S2 w V D R C S s1 d1 s2 d2 → Calls Try.prog 19 #[.pointer (some ⟨D, 0, none⟩), .pointer (some ⟨C, 0, none⟩)] V fun e w2 => e = .returned (.bool z) ∧ Hid (S2 w w2 D R C S s1 d1 s2 d2)) := fun V hV => by
    have h := S2.same hV HD1.out.1 hi2' (by decide) (by decide)
    rw [sm_same HD1.out.2 ho2 hV.nd.1 hV.nd.2, hz] at h
    exact h
  have HB2 : Hid (∀ V, S2 w V D R C S s1 d1 s2 d2 → Calls Try.prog 22 #[.pointer (some ⟨R, 0, none⟩), .pointer (some ⟨S, 0, none⟩)] V fun e w2 => e = .returned (.bool z) ∧ Hid (S2 w w2 D R C S s1 d1 s2 d2)) := fun V hV => by
    have h := S2.rsame hV HD1.out.1 hi2' (by decide) (by decide)
    rw [hz] at h
    exact h
  have hzz : (z == z) = true := by simp
  clear hcut hs2 hi2' ho2 hz HS6
  go_wp2_with (first
    | (go_at_call 12; go_loud (refine HA1.out.mono ?_; rintro e w7 ⟨rfl, HS7⟩; clear HA1))
    | (go_at_call 12; go_loud (refine (HA2.out _ HS7.out).mono ?_; rintro e w8 ⟨rfl, HS8⟩; clear HA2))
    | (go_at_call 19; refine (HB1.out _ HS8.out).mono ?_; rintro e w9 ⟨rfl, HS9⟩)
    | (go_at_call 22; refine (HB2.out _ HS9.out).mono ?_; rintro e w10 ⟨rfl, HS10⟩)
    | (go_at_call 13; refine (known_any _).mono ?_; rintro e w11 ⟨rfl, hb11⟩; (have HB11 : Hid (Below w10.heap.size w10 w11) := hb11); clear hb11))
  go_ret
  exact ⟨rfl, HS10.out.bel.trans (HB11.out.mono HS10.out.bel.size)⟩
end Go.Proofs.Ytmlbojihjgbdlaa.D
