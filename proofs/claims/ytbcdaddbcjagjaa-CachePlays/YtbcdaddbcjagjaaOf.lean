/- Put of a cache. -/
import Derived.Test.YtbcdaddbcjagjaaOe
namespace Go.Proofs.Ytbcdaddbcjagjaa
open Go.RowKit
set_option linter.unusedVariables false
set_option linter.unusedSimpArgs false

variable {w w' : World} {C : Nat} {F : Nat → Prop} {most : Int} {E : List UInt8 → List It} {N : List UInt8 → Int × Int}
theorem putE_ne {most : Int} (hm : 1 ≤ most) (x : It) (es : List It) : (putE most x es).2.2 ≠ [] := by
  unfold putE
  split
  · simp
  · rename_i h
    intro e
    have h2 : ((x :: outE x.key es).dropLast).length = (outE x.key es).length := by simp
    have h3 : (x :: outE x.key es).dropLast = [] := e
    rw [h3] at h2
    rw [List.length_cons] at h
    simp only [List.length_nil] at h2
    rw [← h2] at h
    exact h (by simpa using hm)
/-- Can a text be kept? -/
def bigE (k te : List UInt8) : Bool := decide (65536 < (te.length : Int)) || decide (524288 < (k.length : Int))
def putR (k te : List UInt8) : Int := if bigE k te = true then 4 else 0
def putEE (most : Int) (E : List UInt8 → List It) (s k st te : List UInt8) : List UInt8 → List It := if bigE k te = true then E else updE E s (putE most ⟨k, st, te⟩ (E s)).2.2
theorem put_big {most : Int} {E : List UInt8 → List It} {s k st te : List UInt8} (h : bigE k te = true) : putR k te = 4 ∧ putEE most E s k st te = E := by unfold putR putEE; rw [if_pos h, if_pos h]; exact ⟨rfl, rfl⟩
theorem put_fit {most : Int} {E : List UInt8 → List It} {s k st te : List UInt8} (h : bigE k te = false) : putR k te = 0 ∧ putEE most E s k st te = updE E s (putE most ⟨k, st, te⟩ (E s)).2.2 := by unfold putR putEE; rw [if_neg (by rw [h]; decide), if_neg (by rw [h]; decide)]; exact ⟨rfl, rfl⟩
theorem cput_nil (s k st te : List UInt8) (w : World) : Calls Try.prog 22 #[.pointer none, .string (tx s), .string (tx k), .string (tx st), .string (tx te)] w fun e w' => e = .returned (.int .i64 2) ∧ w' = w := by
  have HN : Hid (Calls Try.prog 37 #[.pointer none] w fun e w' => e = .returned (.bool true) ∧ w' = w) := cnone_nil w
  go_enter Try.func22, Try.ntmps22
  go_wp2_with (go_at_call 37; refine HN.out.mono ?_; rintro e w1 ⟨rfl, hw1⟩; rw [hw1]; clear hw1)
  go_ret
  exact ⟨rfl, rfl⟩
set_option maxRecDepth 20000 in
set_option maxHeartbeats 4000000 in
theorem CR.put' (h : CR w C F most E N) (s k st te : List UInt8) (hS : E s = [] → ∃ S : List (List UInt8), S.length ≤ 15 ∧ ∀ x, E x ≠ [] → x ∈ S) : Calls Try.prog 22 #[.pointer (some ⟨C, 0, none⟩), .string (tx s), .string (tx k), .string (tx st), .string (tx te)] w fun e w' => e = .returned (.int .i64 (putR k te)) ∧ ∃ F', CR w' C F' most (putEE most E s k st te) N ∧ Fr F F' w w' := by
  have HK : Hid (CR w C F most E N) := h
  have hm1 := h.m1
  have hm2 := h.m2
  obtain ⟨⟨K0, D0, tl0, h1, -⟩, -, -⟩ := h
  have HN : Hid (Calls Try.prog 37 #[.pointer (some ⟨C, 0, none⟩)] w fun e w' => e = .returned (.bool false) ∧ w' = w) := cnone_some h1.cells.1 hm1
  have lt : ((tx te).size : Int) = (te.length : Int) := by rw [tx_size]
  have lk : ((tx k).size : Int) = (k.length : Int) := by rw [tx_size]
  clear h1
  by_cases hs : E s = []
  · obtain ⟨K, T, c0, c1, hl, hlen, hT, hcome⟩ := HK.out.shut hs
    obtain ⟨S, hS1, hS2⟩ := hS hs
    have hT' : ¬ (16 : Int) ≤ (T : Int) := by have := hT S hS2; omega
    have hln := hlen 3
    have HL : Hid (∀ V, Below w.heap.size w V → Calls Try.prog 38 #[.int .i64 most] V fun e w' => ∃ L, e = .returned (.pointer (some ⟨L, 0, none⟩)) ∧ Hid (∃ M F, LR w' L M F most [] ∧ (∀ q, F q → V.heap.size ≤ q) ∧ Below V.heap.size V w')) := fun V _ => lru_new most hm1 (by omega) V
    have HCM : Hid (∀ w1 L M FL, Below w.heap.size w w1 → LR w1 L M FL most [] → (∀ q, FL q → w.heap.size ≤ q) → w1.cell? ⟨C, 1, none⟩ = some (.map (some K)) ∧ ∃ o, (Instr.mapUpdate 70 (.map (some K)) (.string (tx s)) (.pointer (some ⟨L, 0, none⟩))).run Try.prog w1 = .ok () (setM w1 K o) ∧ LR (setM w1 K o) L M FL most [] ∧ ∀ w2 F' es', es' ≠ [] → LR w2 L M F' most es' → Fr FL F' (setM w1 K o) w2 → ∃ F'', CR w2 C F'' most (updE E s es') N ∧ Fr F F'' w w2) := hcome
    have HES : Hid (E s = [] ∧ 1 ≤ most) := ⟨hs, hm1⟩
    clear hT hS2 hlen hcome hs hm1 hm2
    generalize (T : Int) = Ti at *
    have hcase : bigE k te = true ∨ bigE k te = false := by cases bigE k te <;> simp
    by_cases b1 : 65536 < (te.length : Int)
    · have HB : Hid (bigE k te = true) := by show bigE k te = true; unfold bigE; simp [b1]
      clear hcase
      go_enter Try.func22, Try.ntmps22
      go_wp2_with (go_at_call 37; refine HN.out.mono ?_; rintro e w1 ⟨rfl, hw1⟩; rw [hw1]; clear hw1)
      go_ret
      rw [(put_big (most := most) (E := E) (s := s) (st := st) HB.out).1, (put_big HB.out).2]
      exact ⟨rfl, F, HK.out, Fr.refl _ _⟩
    · by_cases b2 : 524288 < (k.length : Int)
      · have HB : Hid (bigE k te = true) := by show bigE k te = true; unfold bigE; simp [b2]
        clear hcase
        go_enter Try.func22, Try.ntmps22
        go_wp2_with (go_at_call 37; refine HN.out.mono ?_; rintro e w1 ⟨rfl, hw1⟩; rw [hw1]; clear hw1)
        go_ret
        rw [(put_big (most := most) (E := E) (s := s) (st := st) HB.out).1, (put_big HB.out).2]
        exact ⟨rfl, F, HK.out, Fr.refl _ _⟩
      · have HB : Hid (bigE k te = false) := by show bigE k te = false; unfold bigE; simp only [decide_eq_false b1, decide_eq_false b2]; rfl
        clear hcase
        go_enter Try.func22, Try.ntmps22
        go_upto_region 10 with (first | (go_at_call 37; refine HN.out.mono ?_; rintro e w1 ⟨rfl, hw1⟩; rw [hw1]; clear hw1) | (go_at_call 38; refine (HL.out w (Below.refl _ _)).mono ?_; rintro e w1 ⟨L, rfl, H1⟩))
        obtain ⟨M, FL, hlr, hnew, hbel⟩ := H1.out
        obtain ⟨c1', o, hup, hlr2, hfin⟩ := HCM.out w1 L M FL hbel hlr hnew
        have HP : Hid (Calls Try.prog 39 #[.pointer (some ⟨L, 0, none⟩), .string (tx k), .agg #[.string (tx st), .string (tx te)]] (setM w1 K o) fun e w' => e = .returned (.tuple #[.string (tx (putE most ⟨k, st, te⟩ []).1), .bool (putE most ⟨k, st, te⟩ []).2.1]) ∧ Hid (∃ F', LR w' L M F' most (putE most ⟨k, st, te⟩ []).2.2 ∧ Fr FL F' (setM w1 K o) w')) := hlr2.put k st te
        have HFI : Hid (∀ w2 F' es', es' ≠ [] → LR w2 L M F' most es' → Fr FL F' (setM w1 K o) w2 → ∃ F'', CR w2 C F'' most (updE E s es') N ∧ Fr F F'' w w2) := hfin
        clear hlr hnew hbel hlr2 hfin c0 c1 hl hln H1 HCM HL HN
        generalize setM w1 K o = V at *
        go_wp2_with (go_at_call 39; refine HP.out.mono ?_; rintro e w2 ⟨rfl, H2⟩)
        go_ret
        rw [(put_fit (most := most) (E := E) (s := s) (st := st) HB.out).1, (put_fit HB.out).2, HES.out.1]
        obtain ⟨F', k1, k2⟩ := H2.out
        exact ⟨rfl, HFI.out w2 F' _ (putE_ne HES.out.2 _ _) k1 k2⟩
  · obtain ⟨K, L, M, FL, c1, hl, hlr, hFL, hturn, -⟩ := HK.out.open hs
    have HP : Hid (Calls Try.prog 39 #[.pointer (some ⟨L, 0, none⟩), .string (tx k), .agg #[.string (tx st), .string (tx te)]] w fun e w' => e = .returned (.tuple #[.string (tx (putE most ⟨k, st, te⟩ (E s)).1), .bool (putE most ⟨k, st, te⟩ (E s)).2.1]) ∧ Hid (∃ F', LR w' L M F' most (putE most ⟨k, st, te⟩ (E s)).2.2 ∧ Fr FL F' w w')) := hlr.put k st te
    have HFI : Hid (∀ w' F' es', es' ≠ [] → LR w' L M F' most es' → Fr FL F' w w' → ∃ F'', CR w' C F'' most (updE E s es') N ∧ Fr F F'' w w') := hturn
    have HES : Hid (1 ≤ most) := hm1
    clear hS hlr hFL hturn hs hm1 hm2
    by_cases b1 : 65536 < (te.length : Int)
    · have HB : Hid (bigE k te = true) := by show bigE k te = true; unfold bigE; simp [b1]
      go_enter Try.func22, Try.ntmps22
      go_wp2_with (go_at_call 37; refine HN.out.mono ?_; rintro e w1 ⟨rfl, hw1⟩; rw [hw1]; clear hw1)
      go_ret
      rw [(put_big (most := most) (E := E) (s := s) (st := st) HB.out).1, (put_big HB.out).2]
      exact ⟨rfl, F, HK.out, Fr.refl _ _⟩
    · by_cases b2 : 524288 < (k.length : Int)
      · have HB : Hid (bigE k te = true) := by show bigE k te = true; unfold bigE; simp [b2]
        go_enter Try.func22, Try.ntmps22
        go_wp2_with (go_at_call 37; refine HN.out.mono ?_; rintro e w1 ⟨rfl, hw1⟩; rw [hw1]; clear hw1)
        go_ret
        rw [(put_big (most := most) (E := E) (s := s) (st := st) HB.out).1, (put_big HB.out).2]
        exact ⟨rfl, F, HK.out, Fr.refl _ _⟩
      · have HB : Hid (bigE k te = false) := by show bigE k te = false; unfold bigE; simp only [decide_eq_false b1, decide_eq_false b2]; rfl
        go_enter Try.func22, Try.ntmps22
        go_wp2_with (first | (go_at_call 37; refine HN.out.mono ?_; rintro e w1 ⟨rfl, hw1⟩; rw [hw1]; clear hw1) | (go_at_call 39; refine HP.out.mono ?_; rintro e w2 ⟨rfl, H2⟩))
        go_ret
        rw [(put_fit (most := most) (E := E) (s := s) (st := st) HB.out).1, (put_fit HB.out).2]
        obtain ⟨F', k1, k2⟩ := H2.out
        exact ⟨rfl, HFI.out w2 F' _ (putE_ne HES.out _ _) k1 k2⟩
theorem CR.put (h : CR w C F most E N) (s k st te : List UInt8) (hS : ∃ S : List (List UInt8), S.length ≤ 15 ∧ ∀ x, E x ≠ [] → x ∈ S) : Calls Try.prog 22 #[.pointer (some ⟨C, 0, none⟩), .string (tx s), .string (tx k), .string (tx st), .string (tx te)] w fun e w' => e = .returned (.int .i64 (putR k te)) ∧ ∃ F', CR w' C F' most (putEE most E s k st te) N ∧ Fr F F' w w' := h.put' s k st te fun _ => hS
end Go.Proofs.Ytbcdaddbcjagjaa
