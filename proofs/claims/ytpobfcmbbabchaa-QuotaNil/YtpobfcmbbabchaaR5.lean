/- The model's buckets: Give, Tokens, Next. -/
import Derived.Test.YtpobfcmbbabchaaR4
namespace Go.Proofs.Ytpobfcmbbabchaa
open Go.RowKit
set_option linter.unusedVariables false
set_option linter.unusedSimpArgs false

set_option maxRecDepth 20000 in
set_option maxHeartbeats 4000000 in
theorem rgive_any (N : Int) (T base : Nat) (sv : Value) (l : List Bk) (nm : List UInt8) (cost now : Int) (w : World) (h : RT w T base sv l) (hk : Tok N l) (hbs : base ≤ w.heap.size) :
    Calls Try.prog 26 #[.pointer (some ⟨T, 0, none⟩), .string (tx nm), .int .i64 cost, .int .i64 now] w fun e w' => e = .returned (.int .i64 (giveI l nm cost now).1) ∧ (∃ sv', RT w' T base sv' (giveI l nm cost now).2) ∧ Below base w w' ∧ Kx badR w w' := by
  have HAT : Hid (Calls Try.prog 45 #[.pointer (some ⟨T, 0, none⟩), .string (tx nm), .int .i64 cost, .int .i64 now] w fun e w' => e = .returned (.tuple #[.int .i64 (atI l nm cost now).1, .int .i64 (atI l nm cost now).2.1]) ∧ (∃ sv', RT w' T base sv' (atI l nm cost now).2.2) ∧ Below base w w' ∧ Kx badR w w') := rat_any N T base sv l nm cost now w h hk hbs
  have HK : Hid (Tok N l) := hk
  have HBS : Hid (base ≤ w.heap.size) := hbs
  clear h hk hbs
  cases ha : okA cost now with
  | false =>
    have HR : Hid (giveI l nm cost now = (1, l)) := by show _ = _; unfold giveI; rw [if_pos ha]
    rw [atI_arg ha] at HAT
    clear ha
    go_enter Try.func26, Try.ntmps26
    go_wp2_with (go_at_call 45; refine HAT.out.mono ?_; rintro e w1 ⟨rfl, hE⟩; (have HE : Hid ((∃ sv', RT w1 T base sv' l) ∧ Below base w w1 ∧ Kx badR w w1) := hE); clear hE)
    go_ret
    rw [HR.out]
    exact ⟨rfl, HE.out⟩
  | true =>
    have hA := okA_time ha
    cases hx : lookB l nm with
    | none =>
      have HR : Hid (giveI l nm cost now = (5, l)) := by show _ = _; unfold giveI; rw [if_neg (by rw [ha]; decide), hx]
      rw [atI_none ha hx] at HAT
      clear ha hx hA
      go_enter Try.func26, Try.ntmps26
      go_wp2_with (go_at_call 45; refine HAT.out.mono ?_; rintro e w1 ⟨rfl, hE⟩; (have HE : Hid ((∃ sv', RT w1 T base sv' l) ∧ Below base w w1 ∧ Kx badR w w1) := hE); clear hE)
      go_ret
      rw [HR.out]
      exact ⟨rfl, HE.out⟩
    | some kb =>
      obtain ⟨k, b⟩ := kb
      obtain ⟨hx1, hx2, hx3⟩ := lookB_some hx
      have hR : giveI l nm cost now = (0, l.set k (given (fillI b now) cost)) := by unfold giveI; rw [if_neg (by rw [ha]; decide), hx]
      rw [atI_some ha hx] at HAT
      have hB := fill_ok (HK.out.at hx2) hA.2.2.2
      generalize fillI b now = c at hR HAT hB
      have hlt : k < l.length := (List.getElem?_eq_some_iff.1 hx2).1
      have HX : Hid ((l.set k c)[k]? = some c ∧ k < (l.set k c).length ∧ (l.set k c).length ≤ 16 ∧ ∀ x, (l.set k c).set k x = l.set k x) := ⟨by simp [hlt], by simpa using hlt, by have := HK.out.len; simpa using this, fun x => by simp⟩
      have HR : Hid (giveI l nm cost now = (0, (l.set k c).set k (given c cost))) := by show _ = _; rw [HX.out.2.2.2]; exact hR
      clear hR hlt
      generalize l.set k c = L at HX HR HAT
      obtain ⟨a1, a2, a3, a4⟩ := hA
      have g0 := hB.h0
      have g1 := hB.h1
      have g2 := hB.b1
      have g3 : c.has ≤ 1000000000 := by omega
      have g4 : 0 ≤ c.has + cost := by omega
      have g5 : c.has + cost ≤ 2000000000 := by omega
      clear hB g1 g2 ha hx hx1 hx2 hx3
      obtain ⟨n, hn⟩ : ∃ n, L.length = n := ⟨_, rfl⟩
      have HN : Hid (L.length = n) := hn
      have hkn : (k : Int) < (n : Int) := by have := HX.out.2.1; omega
      have hn16 : (n : Int) ≤ 16 := by have := HX.out.2.2.1; omega
      clear hn
      go_enter Try.func26, Try.ntmps26
      go_wp2_with fail
      refine HAT.out.mono ?_
      rintro e w1 ⟨rfl, ⟨sv1, hT1⟩, hE⟩
      obtain ⟨g, cp, hsv⟩ := own_form hT1.row (by have := HX.out.2.1; omega)
      subst hsv
      have HT1 : Hid (RT w1 T base (.slice (some ⟨g, 0, none⟩) L.length cp) L) := hT1
      have HE : Hid (Below base w w1 ∧ Kx badR w w1) := hE
      have HW1 : Hid (base ≤ w1.heap.size) := by have := HBS.out; have := hE.1.size; show _ ≤ _; omega
      obtain ⟨d0, c0, c1, c2, c3, c4, c5, c6, c7, c8⟩ := hT1.ten HX.out.1
      rw [HN.out] at d0
      have hcap : (n : Int) ≤ (cp : Int) := by have := own_cap hT1.row; have := HN.out; omega
      have hgl := (own_lt hT1.row).2
      have hTl := (Array.getElem?_eq_some_iff.1 hT1.tab).1
      have fz : ∀ i, w1.frozen? ⟨g, i, none⟩ = false := fun i => hT1.row.frozenAt i
      have z0 := fz (k * 9)
      have z1 := fz (k * 9 + 1)
      have z2 := fz (k * 9 + 2)
      have z3 := fz (k * 9 + 3)
      have z4 := fz (k * 9 + 4)
      have z5 := fz (k * 9 + 5)
      have z6 := fz (k * 9 + 6)
      have z7 := fz (k * 9 + 7)
      have z8 := fz (k * 9 + 8)
      clear hT1 hE HAT fz
      by_cases hc : c.burst ≤ c.has + cost
      · have HP : Hid (given c cost = ⟨c.nm, c.rate, c.burst, c.burst, 0, c.tim, c.tk, c.rf, c.cs⟩) := by show _ = _; unfold given; rw [if_pos hc]
        have HH9 : Hid (∀ o, RT ((w1.setCells g (k * 9) (bk9 ⟨c.nm, c.rate, c.burst, c.burst, 0, c.tim, c.tk, c.rf, c.cs⟩)).alloc o).drew T base (.slice (some ⟨g, 0, none⟩) (L.set k (given c cost)).length cp) (L.set k (given c cost)) ∧ Below base w ((w1.setCells g (k * 9) (bk9 ⟨c.nm, c.rate, c.burst, c.burst, 0, c.tim, c.tk, c.rf, c.cs⟩)).alloc o).drew ∧ Kx badR w ((w1.setCells g (k * 9) (bk9 ⟨c.nm, c.rate, c.burst, c.burst, 0, c.tim, c.tk, c.rf, c.cs⟩)).alloc o).drew) := by rw [← HP.out]; exact HT1.out.putBack HX.out.2.1 HW1.out HE.out (given c cost)
        go_wp2_with fail
        go_region
        go_wp2_with fail
        go_ret
        rw [HR.out]
        exact ⟨rfl, ⟨_, (HH9.out _).1⟩, (HH9.out _).2⟩
      · have HP : Hid (given c cost = ⟨c.nm, c.rate, c.burst, c.has + cost, c.part, c.tim, c.tk, c.rf, c.cs⟩) := by show _ = _; unfold given; rw [if_neg hc]
        have HH9 : Hid (∀ o, RT ((w1.setCells g (k * 9) (bk9 ⟨c.nm, c.rate, c.burst, c.has + cost, c.part, c.tim, c.tk, c.rf, c.cs⟩)).alloc o).drew T base (.slice (some ⟨g, 0, none⟩) (L.set k (given c cost)).length cp) (L.set k (given c cost)) ∧ Below base w ((w1.setCells g (k * 9) (bk9 ⟨c.nm, c.rate, c.burst, c.has + cost, c.part, c.tim, c.tk, c.rf, c.cs⟩)).alloc o).drew ∧ Kx badR w ((w1.setCells g (k * 9) (bk9 ⟨c.nm, c.rate, c.burst, c.has + cost, c.part, c.tim, c.tk, c.rf, c.cs⟩)).alloc o).drew) := by rw [← HP.out]; exact HT1.out.putBack HX.out.2.1 HW1.out HE.out (given c cost)
        have hc' : c.has + cost < c.burst := by omega
        clear hc
        go_wp2_with fail
        go_region
        go_wp2_with fail
        go_ret
        rw [HR.out]
        exact ⟨rfl, ⟨_, (HH9.out _).1⟩, (HH9.out _).2⟩
set_option maxRecDepth 20000 in
set_option maxHeartbeats 4000000 in
theorem rtok_any (N : Int) (T base : Nat) (sv : Value) (l : List Bk) (nm : List UInt8) (now : Int) (w : World) (h : RT w T base sv l) (hk : Tok N l) (hbs : base ≤ w.heap.size) :
    Calls Try.prog 27 #[.pointer (some ⟨T, 0, none⟩), .string (tx nm), .int .i64 now] w fun e w' => e = .returned (.tuple #[.int .i64 (tokI l nm now).1, .int .i64 (tokI l nm now).2.1]) ∧ (∃ sv', RT w' T base sv' (tokI l nm now).2.2) ∧ Below base w w' ∧ Kx badR w w' := by
  have HAT : Hid (Calls Try.prog 45 #[.pointer (some ⟨T, 0, none⟩), .string (tx nm), .int .i64 0, .int .i64 now] w fun e w' => e = .returned (.tuple #[.int .i64 (atI l nm 0 now).1, .int .i64 (atI l nm 0 now).2.1]) ∧ (∃ sv', RT w' T base sv' (atI l nm 0 now).2.2) ∧ Below base w w' ∧ Kx badR w w') := rat_any N T base sv l nm 0 now w h hk hbs
  have HK : Hid (Tok N l) := hk
  have HBS : Hid (base ≤ w.heap.size) := hbs
  clear h hk hbs
  cases ha : okA 0 now with
  | false =>
    have HR : Hid (tokI l nm now = (0, 1, l)) := by show _ = _; unfold tokI; rw [if_pos ha]
    rw [atI_arg ha] at HAT
    clear ha
    go_enter Try.func27, Try.ntmps27
    go_wp2_with (go_at_call 45; refine HAT.out.mono ?_; rintro e w1 ⟨rfl, hE⟩; (have HE : Hid ((∃ sv', RT w1 T base sv' l) ∧ Below base w w1 ∧ Kx badR w w1) := hE); clear hE)
    go_ret2
    rw [HR.out]
    exact ⟨rfl, HE.out⟩
  | true =>
    have hA := okA_time ha
    cases hx : lookB l nm with
    | none =>
      have HR : Hid (tokI l nm now = (0, 5, l)) := by show _ = _; unfold tokI; rw [if_neg (by rw [ha]; decide), hx]
      rw [atI_none ha hx] at HAT
      clear ha hx hA
      go_enter Try.func27, Try.ntmps27
      go_wp2_with (go_at_call 45; refine HAT.out.mono ?_; rintro e w1 ⟨rfl, hE⟩; (have HE : Hid ((∃ sv', RT w1 T base sv' l) ∧ Below base w w1 ∧ Kx badR w w1) := hE); clear hE)
      go_ret2
      rw [HR.out]
      exact ⟨rfl, HE.out⟩
    | some kb =>
      obtain ⟨k, b⟩ := kb
      obtain ⟨hx1, hx2, hx3⟩ := lookB_some hx
      have hR : tokI l nm now = ((fillI b now).has, 0, l.set k (fillI b now)) := by unfold tokI; rw [if_neg (by rw [ha]; decide), hx]
      rw [atI_some ha hx] at HAT
      have hB := fill_ok (HK.out.at hx2) hA.2.2.2
      generalize fillI b now = c at hR HAT hB
      have hlt : k < l.length := (List.getElem?_eq_some_iff.1 hx2).1
      have HX : Hid ((l.set k c)[k]? = some c ∧ k < (l.set k c).length ∧ (l.set k c).length ≤ 16 ∧ ∀ x, (l.set k c).set k x = l.set k x) := ⟨by simp [hlt], by simpa using hlt, by have := HK.out.len; simpa using this, fun x => by simp⟩
      have HR : Hid (tokI l nm now = (c.has, 0, l.set k c)) := hR
      clear hR hlt
      generalize l.set k c = L at HX HR HAT
      obtain ⟨a1, a2, a3, a4⟩ := hA
      clear hB ha hx hx1 hx2 hx3
      obtain ⟨n, hn⟩ : ∃ n, L.length = n := ⟨_, rfl⟩
      have HN : Hid (L.length = n) := hn
      have hkn : (k : Int) < (n : Int) := by have := HX.out.2.1; omega
      have hn16 : (n : Int) ≤ 16 := by have := HX.out.2.2.1; omega
      clear hn
      go_enter Try.func27, Try.ntmps27
      go_wp2_with fail
      refine HAT.out.mono ?_
      rintro e w1 ⟨rfl, ⟨sv1, hT1⟩, hE⟩
      obtain ⟨g, cp, hsv⟩ := own_form hT1.row (by have := HX.out.2.1; omega)
      subst hsv
      have HT1 : Hid (RT w1 T base (.slice (some ⟨g, 0, none⟩) L.length cp) L) := hT1
      have HE : Hid (Below base w w1 ∧ Kx badR w w1) := hE
      have HW1 : Hid (base ≤ w1.heap.size) := by have := HBS.out; have := hE.1.size; show _ ≤ _; omega
      obtain ⟨d0, c0, c1, c2, c3, c4, c5, c6, c7, c8⟩ := hT1.ten HX.out.1
      rw [HN.out] at d0
      have hcap : (n : Int) ≤ (cp : Int) := by have := own_cap hT1.row; have := HN.out; omega
      clear hT1 hE HAT
      go_wp2_with fail
      go_ret2
      rw [HR.out]
      exact ⟨rfl, ⟨_, HT1.out⟩, HE.out⟩
set_option maxRecDepth 20000 in
set_option maxHeartbeats 4000000 in
theorem rnext_any (N : Int) (T base : Nat) (sv : Value) (l : List Bk) (nm : List UInt8) (cost now : Int) (w : World) (h : RT w T base sv l) (hk : Tok N l) (hbs : base ≤ w.heap.size) :
    Calls Try.prog 28 #[.pointer (some ⟨T, 0, none⟩), .string (tx nm), .int .i64 cost, .int .i64 now] w fun e w' => e = .returned (.tuple #[.int .i64 (nextI l nm cost now).1.1, .int .i64 (nextI l nm cost now).1.2]) ∧ (∃ sv', RT w' T base sv' (nextI l nm cost now).2) ∧ Below base w w' ∧ Kx badR w w' := by
  have HAT : Hid (Calls Try.prog 45 #[.pointer (some ⟨T, 0, none⟩), .string (tx nm), .int .i64 cost, .int .i64 now] w fun e w' => e = .returned (.tuple #[.int .i64 (atI l nm cost now).1, .int .i64 (atI l nm cost now).2.1]) ∧ (∃ sv', RT w' T base sv' (atI l nm cost now).2.2) ∧ Below base w w' ∧ Kx badR w w') := rat_any N T base sv l nm cost now w h hk hbs
  have HK : Hid (Tok N l) := hk
  have HBS : Hid (base ≤ w.heap.size) := hbs
  clear h hk hbs
  cases ha : okA cost now with
  | false =>
    have HR : Hid (nextI l nm cost now = ((0, 1), l)) := by show _ = _; unfold nextI; rw [if_pos ha]
    rw [atI_arg ha] at HAT
    clear ha
    go_enter Try.func28, Try.ntmps28
    go_wp2_with (go_at_call 45; refine HAT.out.mono ?_; rintro e w1 ⟨rfl, hE⟩; (have HE : Hid ((∃ sv', RT w1 T base sv' l) ∧ Below base w w1 ∧ Kx badR w w1) := hE); clear hE)
    go_ret2
    rw [HR.out]
    exact ⟨rfl, HE.out⟩
  | true =>
    have hA := okA_time ha
    cases hx : lookB l nm with
    | none =>
      have HR : Hid (nextI l nm cost now = ((0, 5), l)) := by show _ = _; unfold nextI; rw [if_neg (by rw [ha]; decide), hx]
      rw [atI_none ha hx] at HAT
      clear ha hx hA
      go_enter Try.func28, Try.ntmps28
      go_wp2_with (go_at_call 45; refine HAT.out.mono ?_; rintro e w1 ⟨rfl, hE⟩; (have HE : Hid ((∃ sv', RT w1 T base sv' l) ∧ Below base w w1 ∧ Kx badR w w1) := hE); clear hE)
      go_ret2
      rw [HR.out]
      exact ⟨rfl, HE.out⟩
    | some kb =>
      obtain ⟨k, b⟩ := kb
      obtain ⟨hx1, hx2, hx3⟩ := lookB_some hx
      have hR : nextI l nm cost now = (whenI (fillI b now) cost, l.set k (fillI b now)) := by unfold nextI; rw [if_neg (by rw [ha]; decide), hx]
      rw [atI_some ha hx] at HAT
      have hB := fill_ok (HK.out.at hx2) hA.2.2.2
      generalize fillI b now = c at hR HAT hB
      have hlt : k < l.length := (List.getElem?_eq_some_iff.1 hx2).1
      have HX : Hid ((l.set k c)[k]? = some c ∧ k < (l.set k c).length ∧ (l.set k c).length ≤ 16 ∧ ∀ x, (l.set k c).set k x = l.set k x) := ⟨by simp [hlt], by simpa using hlt, by have := HK.out.len; simpa using this, fun x => by simp⟩
      have HR : Hid (nextI l nm cost now = (whenI c cost, l.set k c)) := hR
      clear hR hlt
      generalize l.set k c = L at HX HR HAT
      obtain ⟨a1, a2, a3, a4⟩ := hA
      have HBO : Hid (Bok N c) := hB
      clear hB ha hx hx1 hx2 hx3
      obtain ⟨n, hn⟩ : ∃ n, L.length = n := ⟨_, rfl⟩
      have HN : Hid (L.length = n) := hn
      have hkn : (k : Int) < (n : Int) := by have := HX.out.2.1; omega
      have hn16 : (n : Int) ≤ 16 := by have := HX.out.2.2.1; omega
      clear hn
      go_enter Try.func28, Try.ntmps28
      go_wp2_with fail
      refine HAT.out.mono ?_
      rintro e w1 ⟨rfl, ⟨sv1, hT1⟩, hE⟩
      obtain ⟨g, cp, hsv⟩ := own_form hT1.row (by have := HX.out.2.1; omega)
      subst hsv
      have HT1 : Hid (RT w1 T base (.slice (some ⟨g, 0, none⟩) L.length cp) L) := hT1
      have HE : Hid (Below base w w1 ∧ Kx badR w w1) := hE
      have HW1 : Hid (base ≤ w1.heap.size) := by have := HBS.out; have := hE.1.size; show _ ≤ _; omega
      obtain ⟨d0, c0, c1, c2, c3, c4, c5, c6, c7, c8⟩ := hT1.ten HX.out.1
      rw [HN.out] at d0
      have hcap : (n : Int) ≤ (cp : Int) := by have := own_cap hT1.row; have := HN.out; omega
      have HE9 : Hid (∀ o, RT (w1.alloc o) T base (.slice (some ⟨g, 0, none⟩) L.length cp) L ∧ Below base w (w1.alloc o) ∧ Kx badR w (w1.alloc o)) := fun o => ⟨HT1.out.later (bel1 w1 o) (Nat.le_refl _), HE.out.1.trans ((bel1 w1 o).mono HW1.out), HE.out.2.trans (Kx.of (bel1 w1 o) (Nat.le_refl _))⟩
      clear hT1 hE HAT
      by_cases h1 : c.burst < cost
      · have HP : Hid (whenI c cost = (0, 190)) := by show _ = _; unfold whenI; rw [if_pos (.inl h1)]
        go_wp2_with fail
        go_ret2
        rw [HR.out, HP.out]
        exact ⟨rfl, ⟨_, (HE9.out _).1⟩, (HE9.out _).2⟩
      · have h1' : cost ≤ c.burst := by omega
        by_cases h2 : cost ≤ c.has
        · have HP : Hid (whenI c cost = (c.tim, 0)) := by show _ = _; unfold whenI; rw [if_neg (by omega), if_pos h2]
          have h2' : ¬ c.has < cost := by omega
          clear h1
          go_wp2_with fail
          go_ret2
          rw [HR.out, HP.out]
          exact ⟨rfl, ⟨_, (HE9.out _).1⟩, (HE9.out _).2⟩
        · have h2' : c.has < cost := by omega
          by_cases h3 : c.rate = 0
          · have HP : Hid (whenI c cost = (0, 190)) := by show _ = _; unfold whenI; rw [if_pos (.inr ⟨h2', h3⟩)]
            rw [h3] at c1
            clear h1 h2 h3
            go_wp2_with fail
            go_ret2
            rw [HR.out, HP.out]
            exact ⟨rfl, ⟨_, (HE9.out _).1⟩, (HE9.out _).2⟩
          · have hP : whenI c cost = if 1125899906842624 - c.tim < ((cost - c.has) * 1000000000 - c.part + c.rate - 1) / c.rate then (0, 1) else (c.tim + ((cost - c.has) * 1000000000 - c.part + c.rate - 1) / c.rate, 0) := by unfold whenI; rw [if_neg (by omega), if_neg h2]
            have r0 := HBO.out.r0
            have r1 := HBO.out.r1
            have p0 := HBO.out.p0
            have p1 := HBO.out.p1
            have t0 := HBO.out.t0
            have t1 := HBO.out.t1
            have g0 := HBO.out.h0
            obtain ⟨D, hD⟩ : ∃ D, cost - c.has = D := ⟨_, rfl⟩
            obtain ⟨E, hE⟩ : ∃ E, D * 1000000000 = E := ⟨_, rfl⟩
            obtain ⟨F, hF⟩ : ∃ F, E - c.part = F := ⟨_, rfl⟩
            obtain ⟨G, hG⟩ : ∃ G, F + c.rate = G := ⟨_, rfl⟩
            obtain ⟨I, hI⟩ : ∃ I, G - 1 = I := ⟨_, rfl⟩
            rw [hD, hE, hF, hG, hI] at hP
            have q0 : 0 < D := by omega
            have q1 : D ≤ 1000000000 := by omega
            have q2 : 0 ≤ E := by omega
            have q3 : E ≤ 1000000000000000000 := by omega
            have q4 : 0 ≤ F := by omega
            have q5 : F ≤ 1000000000000000000 := by omega
            have q6 : 0 ≤ I := by omega
            have q7 : I ≤ 1000000001000000000 := by omega
            have q8 : 0 ≤ G := by omega
            have q9 : G ≤ 1000000001000000000 := by omega
            have u0 : 0 ≤ I / c.rate := Int.ediv_nonneg q6 (by omega)
            have u1 : I / c.rate ≤ I := Int.ediv_le_self _ q6
            have hq : I.tdiv c.rate = I / c.rate := Int.tdiv_eq_ediv_of_nonneg q6
            generalize I / c.rate = J at hP u0 u1 hq
            have u2 : J ≤ 1000000001000000000 := by omega
            have v0 : 0 ≤ 1125899906842624 - c.tim := by omega
            have v1 : 1125899906842624 - c.tim ≤ 1125899906842624 := by omega
            have r2 : 0 < c.rate := by omega
            have d1 : decide (c.burst < cost) = false := decide_eq_false (by omega)
            have d3 : (c.rate == 0) = false := by simpa using h3
            have d4 : decide (c.rate = 0) = false := decide_eq_false h3
            by_cases h4 : 1125899906842624 - c.tim < J
            · have HP : Hid (whenI c cost = (0, 1)) := by show _ = _; rw [hP, if_pos h4]
              clear h1 h2 hP
              go_wp2_with fail
              go_ret2
              rw [HR.out, HP.out]
              exact ⟨rfl, ⟨_, (HE9.out _).1⟩, (HE9.out _).2⟩
            · have HP : Hid (whenI c cost = (c.tim + J, 0)) := by show _ = _; rw [hP, if_neg h4]
              have h4' : J ≤ 1125899906842624 - c.tim := by omega
              have v2 : 0 ≤ c.tim + J := by omega
              have v3 : c.tim + J ≤ 1125899906842624 := by omega
              clear h1 h2 h4 hP
              go_wp2_with fail
              go_ret2
              rw [HR.out, HP.out]
              exact ⟨rfl, ⟨_, (HE9.out _).1⟩, (HE9.out _).2⟩
end Go.Proofs.Ytpobfcmbbabchaa
