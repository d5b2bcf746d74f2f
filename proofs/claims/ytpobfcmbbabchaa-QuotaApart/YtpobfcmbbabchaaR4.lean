/- The model's buckets: Take. -/
import Derived.Test.YtpobfcmbbabchaaR3
namespace Go.Proofs.Ytpobfcmbbabchaa
open Go.RowKit
set_option linter.unusedVariables false
set_option linter.unusedSimpArgs false

/-- A call at a time: what at tells, by the argument and the tenant. -/
theorem atI_arg {l : List Bk} {nm : List UInt8} {cost now : Int} (h : okA cost now = false) : atI l nm cost now = (0, 1, l) := by unfold atI; rw [if_pos h]
theorem atI_none {l : List Bk} {nm : List UInt8} {cost now : Int} (h : okA cost now = true) (hx : lookB l nm = none) : atI l nm cost now = (0, 5, l) := by unfold atI; rw [if_neg (by rw [h]; decide), hx]
theorem atI_some {l : List Bk} {nm : List UInt8} {cost now : Int} {k : Nat} {b : Bk} (h : okA cost now = true) (hx : lookB l nm = some (k, b)) : atI l nm cost now = ((k : Int), 0, l.set k (fillI b now)) := by unfold atI; rw [if_neg (by rw [h]; decide), hx]
/-- A local bucket is put back: what lies then. -/
theorem RT.putBack {w w1 : World} {T base g c k : Nat} {l : List Bk} (h : RT w1 T base (.slice (some ⟨g, 0, none⟩) l.length c) l) (hk : k < l.length) (hb : base ≤ w1.heap.size) (hE : Below base w w1 ∧ Kx badR w w1) (b : Bk) (o : Obj) :
    RT ((w1.setCells g (k * 9) (bk9 b)).alloc o).drew T base (.slice (some ⟨g, 0, none⟩) (l.set k b).length c) (l.set k b) ∧ Below base w ((w1.setCells g (k * 9) (bk9 b)).alloc o).drew ∧ Kx badR w ((w1.setCells g (k * 9) (bk9 b)).alloc o).drew := by
  have h2 := h.put hk b
  have hb2 : Below (w1.setCells g (k * 9) (bk9 b)).heap.size (w1.setCells g (k * 9) (bk9 b)) ((w1.setCells g (k * 9) (bk9 b)).alloc o).drew := (bel1 _ o).drew
  refine ⟨h2.later hb2 (Nat.le_refl _), ?_, ?_⟩
  · exact (hE.1.trans (((Kp.refl g w1).setCs _ _).below (own_lt h.row).1)).trans (hb2.mono (by rw [setCs_size]; exact hb))
  · exact (hE.2.trans (h.put_kg _ _)).trans (Kx.of hb2 (Nat.le_refl _))
set_option maxRecDepth 20000 in
set_option maxHeartbeats 4000000 in
theorem rtake_any (N : Int) (T base : Nat) (sv : Value) (l : List Bk) (nm : List UInt8) (cost now : Int) (w : World) (h : RT w T base sv l) (hk : Tok N l) (hN : N ≤ 1000000) (hbs : base ≤ w.heap.size) :
    Calls Try.prog 25 #[.pointer (some ⟨T, 0, none⟩), .string (tx nm), .int .i64 cost, .int .i64 now] w fun e w' => e = .returned (.int .i64 (takeI l nm cost now).1) ∧ (∃ sv', RT w' T base sv' (takeI l nm cost now).2) ∧ Below base w w' ∧ Kx badR w w' := by
  have HAT : Hid (Calls Try.prog 45 #[.pointer (some ⟨T, 0, none⟩), .string (tx nm), .int .i64 cost, .int .i64 now] w fun e w' => e = .returned (.tuple #[.int .i64 (atI l nm cost now).1, .int .i64 (atI l nm cost now).2.1]) ∧ (∃ sv', RT w' T base sv' (atI l nm cost now).2.2) ∧ Below base w w' ∧ Kx badR w w') := rat_any N T base sv l nm cost now w h hk hbs
  have HK : Hid (Tok N l) := hk
  have HBS : Hid (base ≤ w.heap.size) := hbs
  clear h hk hbs
  cases ha : okA cost now with
  | false =>
    have HR : Hid (takeI l nm cost now = (1, l)) := by show _ = _; unfold takeI; rw [if_pos ha]
    rw [atI_arg ha] at HAT
    clear ha
    go_enter Try.func25, Try.ntmps25
    go_wp2_with (go_at_call 45; refine HAT.out.mono ?_; rintro e w1 ⟨rfl, hE⟩; (have HE : Hid ((∃ sv', RT w1 T base sv' l) ∧ Below base w w1 ∧ Kx badR w w1) := hE); clear hE)
    go_ret
    rw [HR.out]
    exact ⟨rfl, HE.out⟩
  | true =>
    have hA := okA_time ha
    cases hx : lookB l nm with
    | none =>
      have HR : Hid (takeI l nm cost now = (5, l)) := by show _ = _; unfold takeI; rw [if_neg (by rw [ha]; decide), hx]
      rw [atI_none ha hx] at HAT
      clear ha hx hA
      go_enter Try.func25, Try.ntmps25
      go_wp2_with (go_at_call 45; refine HAT.out.mono ?_; rintro e w1 ⟨rfl, hE⟩; (have HE : Hid ((∃ sv', RT w1 T base sv' l) ∧ Below base w w1 ∧ Kx badR w w1) := hE); clear hE)
      go_ret
      rw [HR.out]
      exact ⟨rfl, HE.out⟩
    | some kb =>
      obtain ⟨k, b⟩ := kb
      obtain ⟨hx1, hx2, hx3⟩ := lookB_some hx
      have hR : takeI l nm cost now = if (fillI b now).has < cost then (190, l.set k { fillI b now with rf := (fillI b now).rf + 1 }) else (0, l.set k (paid (fillI b now) cost)) := by unfold takeI; rw [if_neg (by rw [ha]; decide), hx]
      rw [atI_some ha hx] at HAT
      have hB := fill_ok (HK.out.at hx2) hA.2.2.2
      generalize fillI b now = c at hR HAT hB
      have hlt : k < l.length := (List.getElem?_eq_some_iff.1 hx2).1
      have HX : Hid ((l.set k c)[k]? = some c ∧ k < (l.set k c).length ∧ (l.set k c).length ≤ 16 ∧ ∀ x, (l.set k c).set k x = l.set k x) := ⟨by simp [hlt], by simpa using hlt, by have := HK.out.len; simpa using this, fun x => by simp⟩
      have HR : Hid (takeI l nm cost now = if c.has < cost then (190, (l.set k c).set k { c with rf := c.rf + 1 }) else (0, (l.set k c).set k (paid c cost))) := by show _ = _; rw [HX.out.2.2.2, HX.out.2.2.2]; exact hR
      clear hR hlt
      generalize l.set k c = L at HX HR HAT
      obtain ⟨a1, a2, a3, a4⟩ := hA
      have k0 := hB.k0
      have k1 := hB.k1
      have f0 := hB.f0
      have f1 := hB.f1
      have s0 := hB.c0
      have s1 := hB.c1
      have g0 := hB.h0
      have g1 := hB.h1
      have g2 := hB.b1
      have k2 : c.tk ≤ 1000000 := by omega
      have f2 : c.rf ≤ 1000000 := by omega
      have g3 : c.has ≤ 1000000000 := by omega
      have hc0 : 0 ≤ c.cs + cost := by omega
      have hc1 : c.cs + cost ≤ 4611686019427387904 := by omega
      clear hB k1 f1 g1 g2 ha hx hx1 hx2 hx3 hN
      obtain ⟨n, hn⟩ : ∃ n, L.length = n := ⟨_, rfl⟩
      have HN : Hid (L.length = n) := hn
      have hkn : (k : Int) < (n : Int) := by have := HX.out.2.1; omega
      have hn16 : (n : Int) ≤ 16 := by have := HX.out.2.2.1; omega
      clear hn
      go_enter Try.func25, Try.ntmps25
      go_wp2_with fail
      refine HAT.out.mono ?_
      rintro e w1 ⟨rfl, ⟨sv1, hT1⟩, hE⟩
      obtain ⟨g, cp, hsv⟩ := own_form hT1.row (by have := HX.out.2.1; omega)
      subst hsv
      have HT1 : Hid (RT w1 T base (.slice (some ⟨g, 0, none⟩) L.length cp) L) := hT1
      have HE : Hid (Below base w w1 ∧ Kx badR w w1) := hE
      have HW1 : Hid (base ≤ w1.heap.size) := by have := HBS.out; have := hE.1.size; show _ ≤ _; omega
      obtain ⟨d0, c0, c1, c2, c3, c4, c5, c6, c7, c8⟩ := hT1.ten HX.out.1
      rw [HN.out] at d0
      have hcap : (n : Int) ≤ (cp : Int) := by have := own_cap hT1.row; have := HN.out; omega
      have hgl := (own_lt hT1.row).2
      have hTl := (Array.getElem?_eq_some_iff.1 hT1.tab).1
      have fz : ∀ i, w1.frozen? ⟨g, i, none⟩ = false := fun i => hT1.row.frozenAt i
      have z0 := fz (k * 9)
      have z1 := fz (k * 9 + 1)
      have z2 := fz (k * 9 + 2)
      have z3 := fz (k * 9 + 3)
      have z4 := fz (k * 9 + 4)
      have z5 := fz (k * 9 + 5)
      have z6 := fz (k * 9 + 6)
      have z7 := fz (k * 9 + 7)
      have z8 := fz (k * 9 + 8)
      clear hT1 hE HAT fz
      by_cases hc : c.has < cost
      · have HR2 : Hid (takeI l nm cost now = (190, L.set k { c with rf := c.rf + 1 })) := by show _ = _; rw [HR.out, if_pos hc]
        clear HR
        have HE9 := HT1.out.putBack HX.out.2.1 HW1.out HE.out { c with rf := c.rf + 1 }
        have HH9 : Hid (∀ o, RT ((w1.setCells g (k * 9) (bk9 { c with rf := c.rf + 1 })).alloc o).drew T base (.slice (some ⟨g, 0, none⟩) (L.set k { c with rf := c.rf + 1 }).length cp) (L.set k { c with rf := c.rf + 1 }) ∧ Below base w ((w1.setCells g (k * 9) (bk9 { c with rf := c.rf + 1 })).alloc o).drew ∧ Kx badR w ((w1.setCells g (k * 9) (bk9 { c with rf := c.rf + 1 })).alloc o).drew) := HE9
        clear HE9
        go_wp2_with fail
        go_region
        go_wp2_with fail
        go_ret
        rw [HR2.out]
        exact ⟨rfl, ⟨_, (HH9.out _).1⟩, (HH9.out _).2⟩
      · have HR2 : Hid (takeI l nm cost now = (0, L.set k (paid c cost))) := by show _ = _; rw [HR.out, if_neg hc]
        clear HR
        have hc' : cost ≤ c.has := by omega
        by_cases hcc : 4611686018427387904 < c.cs + cost
        · have HP : Hid (paid c cost = ⟨c.nm, c.rate, c.burst, c.has - cost, c.part, c.tim, c.tk + 1, c.rf, 4611686018427387904⟩) := by show _ = _; unfold paid; rw [if_pos hcc]
          have HH9 : Hid (∀ o, RT ((w1.setCells g (k * 9) (bk9 ⟨c.nm, c.rate, c.burst, c.has - cost, c.part, c.tim, c.tk + 1, c.rf, 4611686018427387904⟩)).alloc o).drew T base (.slice (some ⟨g, 0, none⟩) (L.set k (paid c cost)).length cp) (L.set k (paid c cost)) ∧ Below base w ((w1.setCells g (k * 9) (bk9 ⟨c.nm, c.rate, c.burst, c.has - cost, c.part, c.tim, c.tk + 1, c.rf, 4611686018427387904⟩)).alloc o).drew ∧ Kx badR w ((w1.setCells g (k * 9) (bk9 ⟨c.nm, c.rate, c.burst, c.has - cost, c.part, c.tim, c.tk + 1, c.rf, 4611686018427387904⟩)).alloc o).drew) := by rw [← HP.out]; exact HT1.out.putBack HX.out.2.1 HW1.out HE.out (paid c cost)
          clear hc
          go_wp2_with fail
          go_region
          go_wp2_with fail
          go_ret
          rw [HR2.out]
          exact ⟨rfl, ⟨_, (HH9.out _).1⟩, (HH9.out _).2⟩
        · have HP : Hid (paid c cost = ⟨c.nm, c.rate, c.burst, c.has - cost, c.part, c.tim, c.tk + 1, c.rf, c.cs + cost⟩) := by show _ = _; unfold paid; rw [if_neg hcc]
          have HH9 : Hid (∀ o, RT ((w1.setCells g (k * 9) (bk9 ⟨c.nm, c.rate, c.burst, c.has - cost, c.part, c.tim, c.tk + 1, c.rf, c.cs + cost⟩)).alloc o).drew T base (.slice (some ⟨g, 0, none⟩) (L.set k (paid c cost)).length cp) (L.set k (paid c cost)) ∧ Below base w ((w1.setCells g (k * 9) (bk9 ⟨c.nm, c.rate, c.burst, c.has - cost, c.part, c.tim, c.tk + 1, c.rf, c.cs + cost⟩)).alloc o).drew ∧ Kx badR w ((w1.setCells g (k * 9) (bk9 ⟨c.nm, c.rate, c.burst, c.has - cost, c.part, c.tim, c.tk + 1, c.rf, c.cs + cost⟩)).alloc o).drew) := by rw [← HP.out]; exact HT1.out.putBack HX.out.2.1 HW1.out HE.out (paid c cost)
          have hcc' : c.cs + cost ≤ 4611686018427387904 := by omega
          clear hc hcc
          go_wp2_with fail
          go_region
          go_wp2_with fail
          go_ret
          rw [HR2.out]
          exact ⟨rfl, ⟨_, (HH9.out _).1⟩, (HH9.out _).2⟩
end Go.Proofs.Ytpobfcmbbabchaa
