/- CacheKeeps: the law. -/
import Derived.Test.YtbcdaddbcjagjaaQa
import Derived.Deep.CutBlock
import Derived.BigQuiet
namespace Go.Proofs.Ytbcdaddbcjagjaa
open Go.RowKit
set_option linter.unusedVariables false
set_option linter.unusedSimpArgs false

def oldT : List UInt8 := [111, 108, 100]
theorem twice {most : Int} (hm : 1 ≤ most) {key stamp text : List UInt8} (hb : bigE key text = false) : putL most (putL most [] key oldT oldT) key stamp text = [⟨key, stamp, text⟩] := by
  have hk : bigE key oldT = false := by
    unfold bigE at hb ⊢
    simp only [Bool.or_eq_false_iff] at hb ⊢
    exact ⟨by decide, hb.2⟩
  have h1 : putL most [] key oldT oldT = [⟨key, oldT, oldT⟩] := by
    unfold putL putE
    rw [if_neg (by rw [hk]; decide), if_pos (by simp [outE]; exact hm)]
    rfl
  rw [h1]
  unfold putL putE
  rw [if_neg (by rw [hb]; decide), if_pos (by simp [outE]; exact hm)]
  simp [outE]
theorem KS.more {w w1 : World} {C : Nat} {most n n' : Int} {l : List It} (h : KS w w1 C most l n) (hn : n ≤ n') : KS w w1 C most l n' := by
  obtain ⟨F, E, N, h1, h2, h3, h4, h5, h6, h7, h8, h9⟩ := h
  exact ⟨F, E, N, h1, h2, h3, h4, h5, h6, by omega, h8, by omega⟩
/-- The run ahead of an other. -/
def KL (w wr : World) (C : Nat) (most : Int) (it : It) (xs : List (List UInt8)) (i : Nat) (S : List (List UInt8)) : Prop := ∃ l, KS w wr C most l (i : Int) ∧ Qk it most l S ∧ Met xs it.key i S
theorem KL.below {w wr : World} {C : Nat} {most : Int} {it : It} {xs : List (List UInt8)} {i : Nat} {S : List (List UInt8)} (h : KL w wr C most it xs i S) : Below w.heap.size w wr := by
  obtain ⟨l, h1, -⟩ := h
  exact h1.below
theorem KL.newer {w wr w2 : World} {C : Nat} {most : Int} {it : It} {xs : List (List UInt8)} {i : Nat} {S : List (List UInt8)} (h : KL w wr C most it xs i S) (hb : Below wr.heap.size wr w2) : KL w w2 C most it xs i S := by
  obtain ⟨l, h1, h2⟩ := h
  exact ⟨l, h1.newer hb, h2⟩
theorem belN {n : Nat} {w V : World} (h : Below n w V) (k : Nat) : Below n w (V.drewN k) := ⟨h.os, h.tape, h.output, h.size, h.block⟩
theorem KL.put {w wr : World} {C : Nat} {most : Int} {it : It} {xs : List (List UInt8)} {i : Nat} {S S' : List (List UInt8)} (h : KL w wr C most it xs i S) {x : List UInt8} (hM : Met xs it.key (i + 1) S') (hk : x ≠ it.key) (hS : ∀ y ∈ S, y ∈ S') (hxS : x ∈ S') (hl : S.length ≤ S'.length) : Calls Try.prog 22 #[.pointer (some ⟨C, 0, none⟩), .string { data := #[97] }, .string (tx x), .string { data := #[] }, .string { data := #[120] }] wr fun e w2 => ∃ r, e = .returned (.int .i64 r) ∧ Hid (KL w w2 C most it xs (i + 1) S') := by
  obtain ⟨l, h1, h2, h3⟩ := h
  refine (h1.put x [] [120]).mono ?_
  rintro e w2 ⟨rfl, hz⟩
  exact ⟨_, rfl, _, hz.out.more (by omega), h2.put h1.ok.1 hk _ _ hS hxS hl, hM⟩
theorem KL.get {w wr : World} {C : Nat} {most : Int} {it : It} {xs : List (List UInt8)} {i : Nat} {S S' : List (List UInt8)} (h : KL w wr C most it xs i S) {x : List UInt8} (hi : i ≤ 100) (hM : Met xs it.key (i + 1) S') (hk : x ≠ it.key) (hS : ∀ y ∈ S, y ∈ S') (hxS : x ∈ S') (hl : S.length ≤ S'.length) : Calls Try.prog 23 #[.pointer (some ⟨C, 0, none⟩), .string { data := #[97] }, .string (tx x), .string { data := #[] }] wr fun e w2 => ∃ t o, e = .returned (.tuple #[.string t, .bool o]) ∧ Hid (KL w w2 C most it xs (i + 1) S') := by
  obtain ⟨l, h1, h2, h3⟩ := h
  refine (h1.get (by omega) x []).mono ?_
  rintro e w2 ⟨rfl, hz⟩
  exact ⟨_, _, rfl, _, hz.out.more (by omega), h2.get hk _ hS hxS hl, hM⟩
theorem KL.len {w wr : World} {C : Nat} {most : Int} {it : It} {xs : List (List UInt8)} {i : Nat} {S : List (List UInt8)} (h : KL w wr C most it xs i S) : ∃ n : Int, n ≤ most ∧ Calls Try.prog 18 #[.pointer (some ⟨C, 0, none⟩), .string { data := #[97] }] wr fun e w2 => e = .returned (.int .i64 n) ∧ w2 = wr := by
  obtain ⟨l, h1, h2, h3⟩ := h
  exact ⟨_, h1.ok.2, h1.len⟩
theorem KL.skip {w wr : World} {C : Nat} {most : Int} {it : It} {xs : List (List UInt8)} {i : Nat} {S : List (List UInt8)} (h : KL w wr C most it xs i S) (hx : xs[i]? = some it.key) : KL w wr C most it xs (i + 1) S := by
  obtain ⟨l, h1, h2, h3⟩ := h
  exact ⟨l, h1.more (by omega), h2, h3.skip hx⟩
theorem KL.fin {w wr : World} {C : Nat} {most : Int} {it : It} {xs : List (List UInt8)} {i : Nat} {S : List (List UInt8)} (h : KL w wr C most it xs i S) (hi : i ≤ 100) : ∃ (s : List UInt8) (ok : Bool), ((s = it.te ∧ ok = true) ∨ (s = [] ∧ ok = false ∧ most ≤ (S.length : Int))) ∧ Calls Try.prog 23 #[.pointer (some ⟨C, 0, none⟩), .string { data := #[97] }, .string (tx it.key), .string (tx it.st)] wr fun e w2 => e = .returned (.tuple #[.string (tx s), .bool ok]) ∧ Hid (Calls Try.prog 23 #[.pointer (some ⟨C, 0, none⟩), .string { data := #[97] }, .string (tx it.key), .string (tx (it.st ++ [120]))] w2 fun e w3 => e = .returned (.tuple #[.string { data := #[] }, .bool false]) ∧ Hid (Calls Try.prog 23 #[.pointer (some ⟨C, 0, none⟩), .string { data := #[97] }, .string (tx it.key), .string (tx it.st)] w3 fun e w4 => e = .returned (.tuple #[.string { data := #[] }, .bool false]) ∧ Hid (Below w.heap.size w w4))) := by
  obtain ⟨l, h1, h2, h3⟩ := h
  have hlk := h2.look h1.ok.1
  refine ⟨getT (lkE it.key l) it.st, hitB (lkE it.key l) it.st, ?_, (h1.get (by omega) it.key it.st).mono ?_⟩
  · rcases hlk with e | ⟨e, e2⟩
    · rw [e]
      exact .inl ⟨if_pos rfl, decide_eq_true rfl⟩
    · rw [e]
      exact .inr ⟨rfl, rfl, e2⟩
  · rintro e w2 ⟨rfl, hz⟩
    have hne : it.st ≠ it.st ++ [120] := fun e => by
      have := congrArg List.length e
      simp at this
    have hl2 : getT (lkE it.key (getEE it.key it.st l)) (it.st ++ [120]) = [] ∧ hitB (lkE it.key (getEE it.key it.st l)) (it.st ++ [120]) = false := by
      rcases hlk with e | ⟨e, e2⟩
      · have e1 : getEE it.key it.st l = it :: outE it.key l := by
          unfold getEE getE
          rw [e, if_pos (show hitB (some it) it.st = true from decide_eq_true rfl)]
        rw [e1]
        have e2 : lkE it.key (it :: outE it.key l) = some it := by rw [lkE, if_pos rfl]
        rw [e2]
        exact ⟨if_neg hne, decide_eq_false hne⟩
      · have e1 : lkE it.key (getEE it.key it.st l) = none := by
          unfold getEE
          rw [e, if_neg (show ¬ hitB none it.st = true from fun h => by cases h), outE_none (lkE_none.1 e)]
          exact e
        rw [e1]
        exact ⟨rfl, rfl⟩
    refine ⟨rfl, (hz.out.get (by omega) it.key (it.st ++ [120])).mono ?_⟩
    rintro e w3 ⟨rfl, hy⟩
    refine ⟨by rw [hl2.1, hl2.2]; rfl, ?_⟩
    have hl3 : lkE it.key (getEE it.key (it.st ++ [120]) (getEE it.key it.st l)) = none := by
      have e1 : getEE it.key (it.st ++ [120]) (getEE it.key it.st l) = outE it.key (getEE it.key it.st l) := by
        rw [getEE, if_neg (by rw [hl2.2]; decide)]
      rw [e1]
      exact lkE_none.2 (outE_keys hz.out.ok.1).1
    refine (hy.out.get (by omega) it.key it.st).mono ?_
    rintro e w4 ⟨rfl, hx⟩
    exact ⟨by rw [hl3]; rfl, hx.out.below⟩
/-- Was a text met ahead of a place? -/
structure MB (bb : Bool) (xs : List (List UInt8)) (x : List UInt8) (k : Nat) : Prop where
  yes : bb = true → ∃ j : Nat, j < k ∧ xs[j]? = some x
  no : (∃ j : Nat, j < k ∧ xs[j]? = some x) → bb = true
theorem MB.zero (xs : List (List UInt8)) (x : List UInt8) : MB false xs x 0 := ⟨fun h => (nomatch h), fun ⟨j, h, _⟩ => absurd h (Nat.not_lt_zero j)⟩
theorem MB.on {xs : List (List UInt8)} {x : List UInt8} {k : Nat} (h : MB true xs x k) : MB true xs x (k + 1) := ⟨fun _ => (let ⟨j, h1, h2⟩ := h.yes rfl; ⟨j, by omega, h2⟩), fun _ => rfl⟩
theorem MB.hit {xs : List (List UInt8)} {x : List UInt8} {k : Nat} (h : xs[k]? = some x) : MB true xs x (k + 1) := ⟨fun _ => ⟨k, by omega, h⟩, fun _ => rfl⟩
theorem MB.pass {xs : List (List UInt8)} {x z : List UInt8} {k : Nat} (h : MB false xs x k) (hz : xs[k]? = some z) (hne : ¬ z = x) : MB false xs x (k + 1) := by
  refine ⟨fun h => (nomatch h), fun ⟨j, h1, h2⟩ => ?_⟩
  rcases Nat.lt_or_ge j k with c | c
  · exact h.no ⟨j, c, h2⟩
  · obtain rfl : j = k := by omega
    rw [hz] at h2
    exact (hne (Option.some.inj h2)).elim
theorem tx_cat (a : List UInt8) : (tx a).append { data := #[120] } = tx (a ++ [120]) := by
  simp [tx, ByteArray.append, ByteArray.copySlice, ByteArray.size, Array.extract_eq_self_of_le]
theorem tmod2 (i : Nat) : Int.tmod (i : Int) 2 = 0 ∨ Int.tmod (i : Int) 2 = 1 := by
  rw [Int.tmod_eq_emod_of_nonneg (by omega)]
  omega
set_option maxRecDepth 100000 in
set_option maxHeartbeats 8000000 in
theorem keeps_law (most : Int) (key stamp text : List UInt8) (sa : Option Addr) (len cap : Nat) (xs : List (List UInt8)) (w : World) (hx : NmsAt w sa len cap xs) (hl : (len : Int) ≤ 140737488351232) (hst : (stamp.length : Int) ≤ 140737488351232) :
    Calls Try.prog 5 #[.int .i64 most, .string (tx key), .string (tx stamp), .string (tx text), .slice sa len cap] w fun e w' => e = .returned (.bool true) ∧ Below w.heap.size w w' := by
  have HSZ : Hid ((tx stamp).size ≤ 140737488351232) := by show _ ≤ _; rw [tx_size]; omega
  by_cases hm : 1 ≤ most ∧ most ≤ 64
  · have HX : Hid (NmsAt w sa len cap xs) := hx
    have HM : Hid (1 ≤ most ∧ most ≤ 64) := hm
    have HNEW : Hid (Calls Try.prog 15 #[.int .i64 most] w fun e w' => ∃ C, e = .returned (.pointer (some ⟨C, 0, none⟩)) ∧ Hid (KS w w' C most [] 0)) := ks_new most hm.1 hm.2 w
    clear hx hm
    go_enter Try.func5, Try.ntmps5
    go_upto_region 4 with (go_at_call 15; refine HNEW.out.mono ?_; rintro e w1 ⟨C, rfl, H1⟩)
    have P1 : Hid (Calls Try.prog 22 #[.pointer (some ⟨C, 0, none⟩), .string { data := #[97] }, .string (tx key), .string { data := #[111, 108, 100] }, .string { data := #[111, 108, 100] }] w1 fun e w2 => e = .returned (.int .i64 (putR key oldT)) ∧ Hid (KS w w2 C most (putL most [] key oldT oldT) 0)) := H1.out.put key oldT oldT
    go_upto_region 5 with (go_at_call 22; refine P1.out.mono ?_; rintro e w2 ⟨rfl, H2⟩)
    have P2 : Hid (Calls Try.prog 22 #[.pointer (some ⟨C, 0, none⟩), .string { data := #[97] }, .string (tx key), .string (tx stamp), .string (tx text)] w2 fun e w3 => e = .returned (.int .i64 (putR key text)) ∧ Hid (KS w w3 C most (putL most (putL most [] key oldT oldT) key stamp text) 0)) := H2.out.put key stamp text
    clear HNEW P1 H1 H2
    generalize putR key oldT = r1
    by_cases hb : bigE key text = true
    · rw [(put_big (most := most) (E := fun _ => []) (s := []) (st := []) hb).1] at P2
      clear hb
      go_wp2_with (first | (go_at_call 22; refine P2.out.mono ?_; rintro e w3 ⟨rfl, H3⟩; clear P2) | (go_at_call 9; refine (known_any _).mono ?_; rintro e w4 ⟨rfl, hb4⟩; (have HB4 : Hid (Below w3.heap.size w3 w4) := hb4); clear hb4))
      go_ret
      exact ⟨rfl, H3.out.below.trans (HB4.out.mono H3.out.below.size)⟩
    · have hbf : bigE key text = false := by simpa using hb
      rw [(put_fit (most := most) (E := fun _ => []) (s := []) (st := []) hbf).1, twice HM.out.1 hbf] at P2
      clear hb hbf
      obtain ⟨it, hit⟩ : ∃ it : It, it = ⟨key, stamp, text⟩ := ⟨_, rfl⟩
      have HIT : Hid (it = ⟨key, stamp, text⟩) := hit
      go_upto_region 7 with (go_at_call 22; refine P2.out.mono ?_; rintro e w3 ⟨rfl, H3⟩; clear P2)
      have HL : Hid (KL w w3 C most it xs 0 []) := ⟨[it], by rw [hit]; exact H3.out, .inl ⟨[], [], rfl, fun y hy => (nomatch hy)⟩, Met.zero _ _⟩
      clear H3 hit
      go_wp2_with fail
      go_loopw [12, 13, 14, 15] (fun a b c d wx => ∃ (i : Nat) (S : List (List UInt8)), a = .int .i64 (S.length : Int) ∧ b = .int .i64 (i : Int) ∧ i ≤ 100 ∧ i ≤ len ∧ S.length ≤ i ∧ Hid (KL w wx C most it xs i S)) (fun a b c d wx => 100 - (intOf b).toNat)
      case atStart => exact ⟨0, [], rfl, rfl, by omega, by omega, by simp, HL⟩
      case round =>
        obtain ⟨i, S, rfl, rfl, hi, hil, hSi, H⟩ := hrel
        by_cases cl : i < len ∧ i < 100
        · have cl' : (i : Int) < (len : Int) := by omega
          have c2' : (i : Int) < 100 := by omega
          obtain ⟨x, hxx⟩ : ∃ x, xs[i]? = some x := ⟨_, List.getElem?_eq_getElem (by have := HX.out.n; omega)⟩
          obtain ⟨b, off, e, hlt, y0⟩ := (HX.out.later H.out.below (Nat.le_refl _)).l i x hxx
          subst e
          have hcap : (len : Int) ≤ (cap : Int) := by have := HX.out.c; omega
          have HXX : Hid (xs[i]? = some x ∧ i + 1 ≤ len ∧ i + 1 ≤ 100 ∧ S.length ≤ i) := ⟨hxx, by omega, by omega, hSi⟩
          have hSl : (S.length : Int) ≤ 100 := by omega
          clear hxx hlt cl hi hil hSi
          by_cases hk : x = key
          · have hq : ((tx x).toList == (tx key).toList) = true := by rw [tx_list, tx_list]; simp [hk]
            have HK : Hid (x = key) := hk
            clear hk
            go_wp2_with fail
            go_loopw [14, 15] (fun c d wx => ∃ k : Nat, c = .bool true ∧ d = .int .i64 (k : Int) ∧ k ≤ i ∧ Hid (KL w wx C most it xs i S)) (fun c d wx => i - (intOf d).toNat)
            case atStart => exact ⟨0, rfl, rfl, by omega, H⟩
            case round =>
              obtain ⟨k, rfl, rfl, hki, H3⟩ := hrel
              by_cases ck : k < i
              · have ck' : (k : Int) < (i : Int) := by omega
                clear y0
                go_wp2_with fail
                go_quiet (fail)
                go_wp2_with fail
                go_roundw
                case rel => exact ⟨k + 1, rfl, by go_num, by omega, H3.out.newer (belN (Below.refl _ wr) _)⟩
                case measure => simp [intOf]; omega
              · obtain rfl : k = i := by omega
                obtain ⟨b3, off3, e3, hlt3, y3⟩ := (HX.out.later H3.out.below (Nat.le_refl _)).l k x HXX.out.1
                obtain ⟨rfl, rfl⟩ : b3 = b ∧ off3 = off := by cases e3; exact ⟨rfl, rfl⟩
                clear ck hki y0 e3 hlt3
                go_wp2_with fail
                go_roundw
                case rel => exact ⟨k + 1, S, rfl, by go_num, HXX.out.2.2.1, HXX.out.2.1, by have := HXX.out.2.2.2; omega, H3.out.skip (by rw [HXX.out.1, HK.out, HIT.out])⟩
                case measure => have := HXX.out.2.2.1; simp [intOf]; omega
          · have hq : ((tx x).toList == (tx key).toList) = false := by rw [tx_list, tx_list]; simpa using hk
            have HK : Hid (x ≠ key) := hk
            clear hk
            go_wp2_with fail
            go_loopw [14, 15] (fun c d wx => ∃ (k : Nat) (bb : Bool), c = .bool bb ∧ d = .int .i64 (k : Int) ∧ k ≤ i ∧ Hid (MB bb xs x k) ∧ Hid (KL w wx C most it xs i S)) (fun c d wx => i - (intOf d).toNat)
            case atStart => exact ⟨0, false, rfl, rfl, by omega, MB.zero _ _, H⟩
            case round =>
              obtain ⟨k, bb, rfl, rfl, hki, HBB, H3⟩ := hrel
              by_cases ck : k < i
              · have ck' : (k : Int) < (i : Int) := by omega
                have ckl : (k : Int) < (len : Int) := by omega
                clear y0
                cases bb with
                | true =>
                  go_wp2_with fail
                  go_quiet (fail)
                  go_wp2_with fail
                  go_roundw
                  case rel => exact ⟨k + 1, true, rfl, by go_num, by omega, HBB.out.on, H3.out.newer (belN (Below.refl _ wr) _)⟩
                  case measure => simp [intOf]; omega
                | false =>
                  obtain ⟨z, hz⟩ : ∃ z, xs[k]? = some z := ⟨_, List.getElem?_eq_getElem (by have := HX.out.n; omega)⟩
                  have HZ : Hid (xs[k]? = some z) := hz
                  obtain ⟨b3, off3, e3, hlt3, y3⟩ := (HX.out.later H3.out.below (Nat.le_refl _)).l i x HXX.out.1
                  obtain ⟨b4, off4, e4, hlt4, y4⟩ := (HX.out.later H3.out.below (Nat.le_refl _)).l k z hz
                  obtain ⟨rfl, rfl⟩ : b3 = b ∧ off3 = off := by cases e3; exact ⟨rfl, rfl⟩
                  obtain ⟨rfl, rfl⟩ : b4 = b3 ∧ off4 = off3 := by cases e4; exact ⟨rfl, rfl⟩
                  clear hz e3 e4 hlt3 hlt4
                  by_cases hzx : z = x
                  · have hq2 : ((tx z).toList == (tx x).toList) = true := by rw [tx_list, tx_list]; simp [hzx]
                    have HZX : Hid (z = x) := hzx
                    clear hzx
                    go_wp2_with fail
                    go_quiet (fail)
                    go_wp2_with fail
                    go_roundw
                    case rel => exact ⟨k + 1, true, rfl, by go_num, by omega, MB.hit (by rw [HZ.out, HZX.out]), H3.out.newer (belN (Below.refl _ wr) _)⟩
                    case measure => simp [intOf]; omega
                  · have hq2 : ((tx z).toList == (tx x).toList) = false := by rw [tx_list, tx_list]; simpa using hzx
                    have HZX : Hid (¬ z = x) := hzx
                    clear hzx
                    go_wp2_with fail
                    go_quiet (fail)
                    go_wp2_with fail
                    go_roundw
                    case rel => exact ⟨k + 1, false, rfl, by go_num, by omega, HBB.out.pass HZ.out HZX.out, H3.out.newer (belN (Below.refl _ wr) _)⟩
                    case measure => simp [intOf]; omega
              · obtain rfl : k = i := by omega
                obtain ⟨b3, off3, e3, hlt3, y3⟩ := (HX.out.later H3.out.below (Nat.le_refl _)).l k x HXX.out.1
                obtain ⟨rfl, rfl⟩ : b3 = b ∧ off3 = off := by cases e3; exact ⟨rfl, rfl⟩
                clear ck hki y0 e3 hlt3
                cases bb with
                | true =>
                  have HM2 : Hid (Met xs it.key (k + 1) (S) ∧ (∀ y ∈ S, y ∈ (S)) ∧ x ∈ (S) ∧ S.length ≤ (S).length ∧ x ≠ it.key ∧ k ≤ 100) := by
                    obtain ⟨l9, h91, h92, h93⟩ := H3.out
                    have hkk : x ≠ it.key := by rw [HIT.out]; exact HK.out
                    exact ⟨(h93.again HXX.out.1 hkk (HBB.out.yes rfl)).1, fun y hy => hy, (h93.again HXX.out.1 hkk (HBB.out.yes rfl)).2, Nat.le_refl _, hkk, by have := HXX.out.2.2.1; omega⟩
                  have HPU : Hid (Calls Try.prog 22 #[.pointer (some ⟨C, 0, none⟩), .string { data := #[97] }, .string (tx x), .string { data := #[] }, .string { data := #[120] }] wr fun e w2 => ∃ r, e = .returned (.int .i64 r) ∧ Hid (KL w w2 C most it xs (k + 1) (S))) := H3.out.put HM2.out.1 HM2.out.2.2.2.2.1 HM2.out.2.1 HM2.out.2.2.1 HM2.out.2.2.2.1
                  have HGE : Hid (Calls Try.prog 23 #[.pointer (some ⟨C, 0, none⟩), .string { data := #[97] }, .string (tx x), .string { data := #[] }] wr fun e w2 => ∃ t o, e = .returned (.tuple #[.string t, .bool o]) ∧ Hid (KL w w2 C most it xs (k + 1) (S))) := H3.out.get HM2.out.2.2.2.2.2 HM2.out.1 HM2.out.2.2.2.2.1 HM2.out.2.1 HM2.out.2.2.1 HM2.out.2.2.2.1
                  rcases tmod2 k with ht | ht
                  · go_upto_region 20 with (go_at_call 22; refine HPU.out.mono ?_; rintro e w4 ⟨r, rfl, H4⟩)
                    obtain ⟨ln, hln, hlc⟩ := H4.out.len
                    have HLC : Hid (Calls Try.prog 18 #[.pointer (some ⟨C, 0, none⟩), .string { data := #[97] }] w4 fun e w2 => e = .returned (.int .i64 ln) ∧ w2 = w4) := hlc
                    have hln' : ¬ most < ln := by omega
                    clear hlc hln HPU HGE y3
                    go_wp2_with (go_at_call 18; refine HLC.out.mono ?_; rintro e w5 ⟨rfl, hw5⟩; rw [hw5]; clear hw5)
                    go_roundw
                    case rel => exact ⟨k + 1, S, rfl, by go_num, HXX.out.2.2.1, HXX.out.2.1, by have := HXX.out.2.2.2; first | omega | (simp; omega), H4⟩
                    case measure => have := HXX.out.2.2.1; simp [intOf]; omega
                  · go_upto_region 20 with (go_at_call 23; refine HGE.out.mono ?_; rintro e w4 ⟨t, o, rfl, H4⟩)
                    obtain ⟨ln, hln, hlc⟩ := H4.out.len
                    have HLC : Hid (Calls Try.prog 18 #[.pointer (some ⟨C, 0, none⟩), .string { data := #[97] }] w4 fun e w2 => e = .returned (.int .i64 ln) ∧ w2 = w4) := hlc
                    have hln' : ¬ most < ln := by omega
                    clear hlc hln HPU HGE y3
                    go_wp2_with (go_at_call 18; refine HLC.out.mono ?_; rintro e w5 ⟨rfl, hw5⟩; rw [hw5]; clear hw5)
                    go_roundw
                    case rel => exact ⟨k + 1, S, rfl, by go_num, HXX.out.2.2.1, HXX.out.2.1, by have := HXX.out.2.2.2; first | omega | (simp; omega), H4⟩
                    case measure => have := HXX.out.2.2.1; simp [intOf]; omega
                | false =>
                  have HM2 : Hid (Met xs it.key (k + 1) (x :: S) ∧ (∀ y ∈ S, y ∈ (x :: S)) ∧ x ∈ (x :: S) ∧ S.length ≤ (x :: S).length ∧ x ≠ it.key ∧ k ≤ 100) := by
                    obtain ⟨l9, h91, h92, h93⟩ := H3.out
                    have hkk : x ≠ it.key := by rw [HIT.out]; exact HK.out
                    exact ⟨h93.more HXX.out.1 fun e => (nomatch HBB.out.no e), fun y hy => List.mem_cons_of_mem _ hy, List.mem_cons_self, by simp, hkk, by have := HXX.out.2.2.1; omega⟩
                  have HPU : Hid (Calls Try.prog 22 #[.pointer (some ⟨C, 0, none⟩), .string { data := #[97] }, .string (tx x), .string { data := #[] }, .string { data := #[120] }] wr fun e w2 => ∃ r, e = .returned (.int .i64 r) ∧ Hid (KL w w2 C most it xs (k + 1) (x :: S))) := H3.out.put HM2.out.1 HM2.out.2.2.2.2.1 HM2.out.2.1 HM2.out.2.2.1 HM2.out.2.2.2.1
                  have HGE : Hid (Calls Try.prog 23 #[.pointer (some ⟨C, 0, none⟩), .string { data := #[97] }, .string (tx x), .string { data := #[] }] wr fun e w2 => ∃ t o, e = .returned (.tuple #[.string t, .bool o]) ∧ Hid (KL w w2 C most it xs (k + 1) (x :: S))) := H3.out.get HM2.out.2.2.2.2.2 HM2.out.1 HM2.out.2.2.2.2.1 HM2.out.2.1 HM2.out.2.2.1 HM2.out.2.2.2.1
                  rcases tmod2 k with ht | ht
                  · go_upto_region 20 with (go_at_call 22; refine HPU.out.mono ?_; rintro e w4 ⟨r, rfl, H4⟩)
                    obtain ⟨ln, hln, hlc⟩ := H4.out.len
                    have HLC : Hid (Calls Try.prog 18 #[.pointer (some ⟨C, 0, none⟩), .string { data := #[97] }] w4 fun e w2 => e = .returned (.int .i64 ln) ∧ w2 = w4) := hlc
                    have hln' : ¬ most < ln := by omega
                    clear hlc hln HPU HGE y3
                    go_wp2_with (go_at_call 18; refine HLC.out.mono ?_; rintro e w5 ⟨rfl, hw5⟩; rw [hw5]; clear hw5)
                    go_roundw
                    case rel => exact ⟨k + 1, x :: S, by simp, by go_num, HXX.out.2.2.1, HXX.out.2.1, by have := HXX.out.2.2.2; first | omega | (simp; omega), H4⟩
                    case measure => have := HXX.out.2.2.1; simp [intOf]; omega
                  · go_upto_region 20 with (go_at_call 23; refine HGE.out.mono ?_; rintro e w4 ⟨t, o, rfl, H4⟩)
                    obtain ⟨ln, hln, hlc⟩ := H4.out.len
                    have HLC : Hid (Calls Try.prog 18 #[.pointer (some ⟨C, 0, none⟩), .string { data := #[97] }] w4 fun e w2 => e = .returned (.int .i64 ln) ∧ w2 = w4) := hlc
                    have hln' : ¬ most < ln := by omega
                    clear hlc hln HPU HGE y3
                    go_wp2_with (go_at_call 18; refine HLC.out.mono ?_; rintro e w5 ⟨rfl, hw5⟩; rw [hw5]; clear hw5)
                    go_roundw
                    case rel => exact ⟨k + 1, x :: S, by simp, by go_num, HXX.out.2.2.1, HXX.out.2.1, by have := HXX.out.2.2.2; first | omega | (simp; omega), H4⟩
                    case measure => have := HXX.out.2.2.1; simp [intOf]; omega
        · by_cases c1 : i < len
          · obtain rfl : i = 100 := by omega
            have c1' : ((100 : Nat) : Int) < (len : Int) := by omega
            rw [show ((100 : Nat) : Int) = 100 from rfl] at c1' ⊢
            clear cl c1
            obtain ⟨s0, ok, hso, hfin⟩ := H.out.fin hi
            obtain rfl := HIT.out
            have F1 : Hid (Calls Try.prog 23 #[.pointer (some ⟨C, 0, none⟩), .string { data := #[97] }, .string (tx key), .string (tx stamp)] wr fun e w2 => e = .returned (.tuple #[.string (tx s0), .bool ok]) ∧ Hid (Calls Try.prog 23 #[.pointer (some ⟨C, 0, none⟩), .string { data := #[97] }, .string (tx key), .string (tx (stamp ++ [120]))] w2 fun e w3 => e = .returned (.tuple #[.string { data := #[] }, .bool false]) ∧ Hid (Calls Try.prog 23 #[.pointer (some ⟨C, 0, none⟩), .string { data := #[97] }, .string (tx key), .string (tx stamp)] w3 fun e w4 => e = .returned (.tuple #[.string { data := #[] }, .bool false]) ∧ Hid (Below w.heap.size w w4)))) := hfin
            have HSO : Hid ((s0 = text ∧ ok = true) ∨ (s0 = [] ∧ ok = false ∧ most ≤ (S.length : Int))) := hso
            clear hfin hso hi hil hSi
            have hcat : (tx stamp).append { data := #[120] } = tx (stamp ++ [120]) := tx_cat stamp
            go_upto_region 25 with (go_at_call 23; refine F1.out.mono ?_; rintro e w4 ⟨rfl, H4⟩)
            rcases HSO.out with ⟨rfl, rfl⟩ | ⟨rfl, rfl, hms⟩
            · go_upto_region 28 with (go_at_call 23; refine H4.out.mono ?_; rintro e w5 ⟨rfl, H5⟩)
              all_goals first
                | (exfalso; have := HSZ.out; omega)
                | (go_wp2_with (first | (go_at_call 23; refine H5.out.mono ?_; rintro e w6 ⟨rfl, H6⟩) | (go_at_call 9; refine (known_any _).mono ?_; rintro e w7 ⟨rfl, hb7⟩; (have HB7 : Hid (Below w6.heap.size w6 w7) := hb7); clear hb7))
                   go_ret
                   exact ⟨rfl, H6.out.trans (HB7.out.mono H6.out.size)⟩)
            · have hms' : ¬ (S.length : Int) < most := by omega
              clear hms
              go_upto_region 28 with (go_at_call 23; refine H4.out.mono ?_; rintro e w5 ⟨rfl, H5⟩)
              all_goals first
                | (exfalso; have := HSZ.out; omega)
                | (go_wp2_with (first | (go_at_call 23; refine H5.out.mono ?_; rintro e w6 ⟨rfl, H6⟩) | (go_at_call 9; refine (known_any _).mono ?_; rintro e w7 ⟨rfl, hb7⟩; (have HB7 : Hid (Below w6.heap.size w6 w7) := hb7); clear hb7))
                   go_ret
                   exact ⟨rfl, H6.out.trans (HB7.out.mono H6.out.size)⟩)
          · obtain rfl : i = len := by omega
            clear cl c1
            obtain ⟨s0, ok, hso, hfin⟩ := H.out.fin hi
            obtain rfl := HIT.out
            have F1 : Hid (Calls Try.prog 23 #[.pointer (some ⟨C, 0, none⟩), .string { data := #[97] }, .string (tx key), .string (tx stamp)] wr fun e w2 => e = .returned (.tuple #[.string (tx s0), .bool ok]) ∧ Hid (Calls Try.prog 23 #[.pointer (some ⟨C, 0, none⟩), .string { data := #[97] }, .string (tx key), .string (tx (stamp ++ [120]))] w2 fun e w3 => e = .returned (.tuple #[.string { data := #[] }, .bool false]) ∧ Hid (Calls Try.prog 23 #[.pointer (some ⟨C, 0, none⟩), .string { data := #[97] }, .string (tx key), .string (tx stamp)] w3 fun e w4 => e = .returned (.tuple #[.string { data := #[] }, .bool false]) ∧ Hid (Below w.heap.size w w4)))) := hfin
            have HSO : Hid ((s0 = text ∧ ok = true) ∨ (s0 = [] ∧ ok = false ∧ most ≤ (S.length : Int))) := hso
            clear hfin hso hi hil hSi
            have hcat : (tx stamp).append { data := #[120] } = tx (stamp ++ [120]) := tx_cat stamp
            go_upto_region 25 with (go_at_call 23; refine F1.out.mono ?_; rintro e w4 ⟨rfl, H4⟩)
            rcases HSO.out with ⟨rfl, rfl⟩ | ⟨rfl, rfl, hms⟩
            · go_upto_region 28 with (go_at_call 23; refine H4.out.mono ?_; rintro e w5 ⟨rfl, H5⟩)
              all_goals first
                | (exfalso; have := HSZ.out; omega)
                | (go_wp2_with (first | (go_at_call 23; refine H5.out.mono ?_; rintro e w6 ⟨rfl, H6⟩) | (go_at_call 9; refine (known_any _).mono ?_; rintro e w7 ⟨rfl, hb7⟩; (have HB7 : Hid (Below w6.heap.size w6 w7) := hb7); clear hb7))
                   go_ret
                   exact ⟨rfl, H6.out.trans (HB7.out.mono H6.out.size)⟩)
            · have hms' : ¬ (S.length : Int) < most := by omega
              clear hms
              go_upto_region 28 with (go_at_call 23; refine H4.out.mono ?_; rintro e w5 ⟨rfl, H5⟩)
              all_goals first
                | (exfalso; have := HSZ.out; omega)
                | (go_wp2_with (first | (go_at_call 23; refine H5.out.mono ?_; rintro e w6 ⟨rfl, H6⟩) | (go_at_call 9; refine (known_any _).mono ?_; rintro e w7 ⟨rfl, hb7⟩; (have HB7 : Hid (Below w6.heap.size w6 w7) := hb7); clear hb7))
                   go_ret
                   exact ⟨rfl, H6.out.trans (HB7.out.mono H6.out.size)⟩)
  · have hno : most < 1 ∨ 64 < most := by omega
    have HNEW : Hid (Calls Try.prog 15 #[.int .i64 most] w fun e w' => e = .returned (.pointer none) ∧ w' = w) := cnew_none most hno w
    clear hx hm hno
    go_enter Try.func5, Try.ntmps5
    go_wp2_with (first | (go_at_call 15; refine HNEW.out.mono ?_; rintro e w1 ⟨rfl, hw1⟩; rw [hw1]; clear hw1) | (go_at_call 9; refine (known_any _).mono ?_; rintro e w4 ⟨rfl, hb4⟩; (have HB4 : Hid (Below w.heap.size w w4) := hb4); clear hb4))
    go_ret
    exact ⟨rfl, HB4.out⟩
end Go.Proofs.Ytbcdaddbcjagjaa
