/- QuotaNext's law, over any program's table. -/
import Derived.Test.YtpobfcmbbabchaaF1
namespace Go.Proofs.Ytpobfcmbbabchaa
open Go.RowKit
set_option linter.unusedVariables false
set_option linter.unusedSimpArgs false

variable {PF : World → Nat → (Nat → Prop) → List Bk → Prop} {bad : TypeId → Bool}
theorem PrgF.copied2 (G : PrgF PF bad) (N : Int) (T U base : Nat) (l m : List Bk) (w : World) (h : P2 PF U m w T base l) (ht : Tok N l) (hN : N ≤ 1000000) (hb : base ≤ w.heap.size) :
    Calls Try.prog 18 #[.pointer (some ⟨T, 0, none⟩)] w fun e w' => ∃ D, e = .returned (.pointer (some ⟨D, 0, none⟩)) ∧ P2 PF U m w' D base l ∧ Below w.heap.size w w' := by
  obtain ⟨F, FU, h1, h2, h3, h4, h5⟩ := h
  refine (G.copy N T F l w h1 ht hN).mono fun e w' ⟨D, FD, h0, h6, h7, h8⟩ => ⟨D, h0, ⟨FD, FU, h6, G.later h2 h8 (Nat.le_refl _), fun q hq => Nat.le_trans hb (h7 q hq), h4, fun q hq hu => ?_⟩, h8⟩
  have := G.lt h2 q hu
  have := h7 q hq
  omega
theorem fill_tim (b : Bk) (now : Int) : now ≤ (fillI b now).tim ∧ b.tim ≤ (fillI b now).tim := by
  unfold fillI
  split
  · rename_i c; exact ⟨c, Int.le_refl _⟩
  · rename_i c
    have hh : now ≤ now ∧ b.tim ≤ now := ⟨Int.le_refl _, by omega⟩
    split
    · exact hh
    · split
      · exact hh
      · split <;> exact hh
theorem look_self {l : List Bk} {nm : List UInt8} {k : Nat} {b c : Bk} (h : lookB l nm = some (k, b)) (hc : c.nm = b.nm) : lookB (l.set k c) nm = some (k, c) := by
  obtain ⟨h1, h2, h3⟩ := lookB_some h
  unfold lookB
  rw [ixB_set nm h2 hc.symm, h1]
  simp [(List.getElem?_eq_some_iff.1 h2).1]
/-- What Next tells of a table: an error and 0, or a time that is right. -/
theorem next_says {N : Int} {L : List Bk} (hL : Tok N L) (nm : List UInt8) (cost now : Int) :
    ((nextI L nm cost now).1.2 ≠ 0 ∧ (nextI L nm cost now).1.1 = 0) ∨
    ((nextI L nm cost now).1.2 = 0 ∧ ∃ h n : Int, (nextI L nm cost now).1.1 = n ∧ tokI (nextI L nm cost now).2 nm now = (h, 0, (nextI L nm cost now).2) ∧ 0 ≤ n ∧ n ≤ 1125899906842624 ∧ (takeI (nextI L nm cost now).2 nm cost n).1 = 0 ∧
      (h < cost → now < n ∧ 1 ≤ n ∧ (takeI (nextI L nm cost now).2 nm cost (n - 1)).1 = 190)) := by
  unfold nextI
  by_cases ha : okA cost now = false
  · rw [if_pos ha]; exact .inl ⟨by simp, rfl⟩
  · rw [if_neg ha]
    have ha' : okA cost now = true := by simpa using ha
    obtain ⟨a1, a2, a3, a4⟩ := okA_time ha'
    cases hx : lookB L nm with
    | none => exact .inl ⟨by simp, rfl⟩
    | some kb =>
      obtain ⟨k, b⟩ := kb
      have hB := fill_ok (hL.at (lookB_some hx).2.1) a4
      have ht := fill_tim b now
      have hlk := look_self (c := fillI b now) hx (fill_nm b now)
      simp only
      generalize fillI b now = c at hB ht hlk
      generalize L.set k c = M at hlk
      have hget := (lookB_some hlk).2.1
      have htk : tokI M nm now = (c.has, 0, M) := by
        unfold tokI
        rw [if_neg (by rw [show okA 0 now = true from decide_eq_true ⟨by omega, by omega, a3, a4⟩]; decide), hlk]
        simp only
        rw [fill_old c ht.1, set_self hget]
      have htake : ∀ n, 0 ≤ n → n ≤ 1125899906842624 → (takeI M nm cost n).1 = if (fillI c n).has < cost then 190 else 0 := fun n n0 n1 => by
        unfold takeI
        rw [if_neg (by rw [show okA cost n = true from decide_eq_true ⟨a1, a2, n0, n1⟩]; decide), hlk]
        simp only
        split <;> rfl
      have t0 := hB.t0
      have t1 := hB.t1
      unfold whenI
      by_cases c1 : c.burst < cost ∨ (c.has < cost ∧ c.rate = 0)
      · rw [if_pos c1]; exact .inl ⟨by simp, rfl⟩
      · rw [if_neg c1]
        by_cases c2 : cost ≤ c.has
        · rw [if_pos c2]
          refine .inr ⟨rfl, c.has, c.tim, rfl, htk, t0, t1, ?_, fun hh => absurd hh (by omega)⟩
          rw [htake c.tim t0 t1, fill_old c (Int.le_refl _), if_neg (by omega)]
        · rw [if_neg c2]
          by_cases c3 : 1125899906842624 - c.tim < ((cost - c.has) * 1000000000 - c.part + c.rate - 1) / c.rate
          · rw [if_pos c3]; exact .inl ⟨by simp, rfl⟩
          · rw [if_neg c3]
            obtain ⟨e1, e2, e3⟩ := when_enough hB (cost := cost) (by omega) (by omega) (fun h => c1 (.inr ⟨by omega, h⟩)) rfl
            generalize ((cost - c.has) * 1000000000 - c.part + c.rate - 1) / c.rate = J at c3 e1 e2 e3
            refine .inr ⟨rfl, c.has, c.tim + J, rfl, htk, by omega, by omega, ?_, fun hh => ⟨by have := ht.1; omega, by omega, ?_⟩⟩
            · rw [htake _ (by omega) (by omega), if_neg (by omega)]
            · rw [htake _ (by omega) (by omega), if_pos e3]
set_option maxRecDepth 20000 in
set_option maxHeartbeats 4000000 in
theorem next_law (G : PrgF PF bad) (sa : Option Addr) (len cap : Nat) (os : List OpI) (nm : List UInt8) (cost now : Int) (w : World) (h : OpsAt w sa len cap os) (hl : (len : Int) ≤ 140737488351232) :
    Calls Try.prog 6 #[.slice sa len cap, .string (tx nm), .int .i64 cost, .int .i64 now] w fun e w' => e = .returned (.bool true) ∧ Below w.heap.size w w' := by
  have HG : Hid (PrgF PF bad) := G
  have HPL : Hid (Calls Try.prog 9 #[.slice sa len cap] w fun e w' => ∃ T R, e = .returned (.tuple #[.pointer (some ⟨T, 0, none⟩), .pointer (some ⟨R, 0, none⟩), .bool true]) ∧ Mid (P1 PF) bad T R w.heap.size (runT os (min len 200)) (runT os (min len 200)) w w') := played_any G.oneN sa len cap os w h hl
  have HTL : Hid (Tok 200 (runT os (min len 200))) := (runT_ok os (min len 200)).more (by omega)
  generalize runT os (min len 200) = L at HPL HTL
  clear G h hl
  have hS := next_says HTL.out nm cost now
  have HTN : Hid (Tok 200 (nextI L nm cost now).2) := next_ok HTL.out nm cost now
  go_enter Try.func6, Try.ntmps6
  go_wp2_with fail
  refine HPL.out.mono ?_
  rintro e w1 ⟨T, R, rfl, hM⟩
  have HM1 : Hid (P1 PF w1 T w.heap.size L ∧ Below w.heap.size w w1) := ⟨hM.pt, hM.bel⟩
  clear hM HPL
  go_wp2_with fail
  refine (HG.out.one.next 200 T w.heap.size L nm cost now w1 HM1.out.1 HTL.out (by decide) HM1.out.2.size).mono ?_
  rintro e w2 ⟨rfl, hp2, hb2, hk2⟩
  generalize (nextI L nm cost now).2 = M at hp2 HTN hS
  generalize (nextI L nm cost now).1.2 = E at hS ⊢
  have HM2 : Hid (P1 PF w2 T w.heap.size M ∧ Below w.heap.size w w2) := ⟨hp2, HM1.out.2.trans hb2⟩
  clear hp2 hb2 hk2 HM1
  rcases hS with ⟨hE, hn⟩ | ⟨hE, hh, n, hn, htk, n0, n1, hT1, hT2⟩
  · rw [hn]
    have hE' : (E == 0) = false := by simpa using hE
    clear hE hn
    go_wp2_with (go_at_call 10; refine (known_any HG.out.oneN _).mono ?_; rintro e w3 ⟨rfl, hb3⟩)
    go_ret
    exact ⟨rfl, HM2.out.2.trans (hb3.mono HM2.out.2.size)⟩
  · rw [hn]
    subst hE
    have HTK : Hid (tokI M nm now = (hh, 0, M)) := htk
    have HT1 : Hid ((takeI M nm cost n).1 = 0) := hT1
    have HT2 : Hid (hh < cost → now < n ∧ 1 ≤ n ∧ (takeI M nm cost (n - 1)).1 = 190) := hT2
    clear hn htk hT1 hT2
    go_wp2_with fail
    refine (HG.out.copied 200 T w.heap.size M w2 HM2.out.1 HTN.out (by decide) HM2.out.2.size).mono ?_
    rintro e w3 ⟨U, rfl, hp3, hb3⟩
    have HM3 : Hid (P2 PF U M w3 T w.heap.size M ∧ Below w.heap.size w w3) := ⟨hp3, HM2.out.2.trans (hb3.mono HM2.out.2.size)⟩
    clear hp3 hb3 HM2
    go_wp2_with fail
    refine ((HG.out.two U M).tok 200 T w.heap.size M nm now w3 HM3.out.1 HTN.out (by decide) HM3.out.2.size).mono ?_
    rintro e w4 ⟨rfl, hp4, hb4, hk4⟩
    rw [HTK.out] at hp4
    rw [HTK.out]
    have HM4 : Hid (P2 PF U M w4 T w.heap.size M ∧ Below w.heap.size w w4) := ⟨hp4, HM3.out.2.trans hb4⟩
    clear hp4 hb4 hk4 HM3
    by_cases hc : hh < cost
    · obtain ⟨e1, e2, e3⟩ := HT2.out hc
      have HE3 : Hid ((takeI M nm cost (n - 1)).1 = 190) := e3
      have hnn : ¬ n ≤ now := by omega
      clear e3 HT2
      go_wp2_with fail
      refine (HG.out.copied2 200 T U w.heap.size M M w4 HM4.out.1 HTN.out (by decide) HM4.out.2.size).mono ?_
      rintro e w5 ⟨D, rfl, hp5, hb5⟩
      have HM5 : Hid (P2 PF U M w5 D w.heap.size M ∧ Below w.heap.size w w5) := ⟨hp5, HM4.out.2.trans (hb5.mono HM4.out.2.size)⟩
      clear hp5 hb5 HM4
      go_wp2_with fail
      refine ((HG.out.two U M).take 200 D w.heap.size M nm cost (n - 1) w5 HM5.out.1 HTN.out (by decide) HM5.out.2.size).mono ?_
      rintro e w6 ⟨rfl, hp6, hb6, hk6⟩
      rw [HE3.out]
      have HM6 : Hid (P1 PF w6 U w.heap.size M ∧ Below w.heap.size w w6) := ⟨hp6.swap.left, HM5.out.2.trans hb6⟩
      clear hp6 hb6 hk6 HM5
      go_wp2_with fail
      refine (HG.out.one.take 200 U w.heap.size M nm cost n w6 HM6.out.1 HTN.out (by decide) HM6.out.2.size).mono ?_
      rintro e w7 ⟨rfl, hp7, hb7, hk7⟩
      rw [HT1.out]
      have HM7 : Hid (Below w.heap.size w w7) := HM6.out.2.trans hb7
      clear hp7 hb7 hk7 HM6
      go_wp2_with (go_at_call 10; refine (known_any HG.out.oneN _).mono ?_; rintro e w8 ⟨rfl, hb8⟩)
      go_ret
      exact ⟨rfl, HM7.out.trans (hb8.mono HM7.out.size)⟩
    · have hc' : cost ≤ hh := by omega
      clear hc HT2
      go_wp2_with fail
      refine (HG.out.one.take 200 U w.heap.size M nm cost n w4 HM4.out.1.swap.left HTN.out (by decide) HM4.out.2.size).mono ?_
      rintro e w7 ⟨rfl, hp7, hb7, hk7⟩
      rw [HT1.out]
      have HM7 : Hid (Below w.heap.size w w7) := HM4.out.2.trans hb7
      clear hp7 hb7 hk7 HM4
      go_wp2_with (go_at_call 10; refine (known_any HG.out.oneN _).mono ?_; rintro e w8 ⟨rfl, hb8⟩)
      go_ret
      exact ⟨rfl, HM7.out.trans (hb8.mono HM7.out.size)⟩
end Go.Proofs.Ytpobfcmbbabchaa
