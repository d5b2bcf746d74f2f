/- A field behind bytes. -/
import Derived.Test.YtlgkajellndhlaaLeaf4
namespace Go.Proofs.Ytlgkajellndhlaa
open Go.RowKit
set_option linter.unusedVariables false
set_option linter.unusedSimpArgs false

theorem own_lens {w : World} {base n m : Nat} {v : Value} {xs : List Value} (h : w.ownsRow base 5 1 v n xs) (e : n = m) : w.ownsRow base 5 1 v m xs := e ▸ h

set_option maxRecDepth 20000 in
set_option maxHeartbeats 1000000 in
theorem app_1 (base : Nat) (v : Value) (n : Nat) (xs : List Value) (num x : Int) (sa : Option Addr) (l c : Nat) (bs : List Int) (w : World) (ho : w.ownsRow base 5 1 v n xs) (hb : base ≤ w.heap.size) (hn : n ≤ 40000000) (h1 : 1 ≤ num) (h2 : num ≤ 536870911) (x0 : 0 ≤ x) (x1 : x < 18446744073709551616) (hS : ∀ W, Below base w W → Src W (.slice sa l c) bs) (hl : bs.length = l) (hl2 : (l : Int) ≤ 20000000) :
    Calls Try.prog 24 #[v, .agg #[.int .i64 num, .int .i64 1, .int .u64 x, .slice sa l c]] w fun e w' => (∃ v', e = .returned v' ∧ w'.ownsRow base 5 1 v' (n + (vN (num * 8 + 1).toNat ++ leN x.toNat 8).length) (xs ++ u8l (vN (num * 8 + 1).toNat ++ leN x.toNat 8))) ∧ Below base w w' := by
  have HO : Hid (w.ownsRow base 5 1 v n xs) := ho
  have HB : Hid (base ≤ w.heap.size ∧ n ≤ 40000000) := ⟨hb, hn⟩
  have HS : Hid ((∀ W, Below base w W → Src W (.slice sa l c) bs) ∧ bs.length = l ∧ (l : Int) ≤ 20000000) := ⟨hS, hl, hl2⟩
  have HX : Hid (0 ≤ x ∧ x < 18446744073709551616) := ⟨x0, x1⟩
  have HN : Hid (0 ≤ num * 8 + 1 ∧ num * 8 + 1 < 18446744073709551616) := by show _ ∧ _; omega
  have HH : Hid (∀ W, Calls Try.prog 34 #[.agg #[.int .i64 num, .int .i64 1, .int .u64 x, .slice sa l c]] W fun e w' => e = .returned (.int .u64 (num * 8 + 1)) ∧ Below W.heap.size W w') := fun W => head_any num 1 x sa l c W h1 h2 (by omega) (by omega)
  have HV := vN_le10 (num * 8 + 1).toNat (by omega)
  obtain ⟨hd, hhd⟩ : ∃ hd, (num * 8 + 1) = hd := ⟨_, rfl⟩
  rw [hhd] at HN HH HV ⊢
  have HVL : Hid ((vN hd.toNat).length ≤ 10) := HV.1
  clear ho hb hn h1 h2 hhd HV hS hl x0 x1
  go_enter Try.func24, Try.ntmps24
  go_wp2_with fail
  refine (HH.out _).mono ?_
  rintro e w1 ⟨rfl, hb1⟩
  have HBX : Hid (w1.heap[w.heap.size]? = some (.cells #[.int .i64 num, .int .i64 1, .int .u64 x, .slice sa l c] 35 (0, 0))) := (hb1.block _ (by simp)).trans (Go.heap_alloc_new _ _)
  have HB1 : Hid (Below w.heap.size w w1) := (bel1 _ _).trans (hb1.mono (by simp))
  have HO1 : Hid (w1.ownsRow base 5 1 v n xs) := own_kept HO.out fun g _ hg => HB1.out.block g hg
  obtain ⟨e0, e1, e2, e3⟩ := box4 hb1
  clear hb1
  go_wp2_with fail
  refine (appendVarint_any base v n xs hd w1 HN.out.1 HN.out.2 HO1.out (Nat.le_trans HB.out.1 HB1.out.size) (by have := HB.out.2; omega)).mono ?_
  rintro e w2 ⟨v2, rfl, hown2, hgr2⟩
  have HO2 : Hid (w2.ownsRow base 5 1 v2 (n + (vN hd.toNat).length) (xs ++ u8l (vN hd.toNat))) := hown2
  have HK2 : Hid (w2.heap[w.heap.size]? = w1.heap[w.heap.size]?) := hgr2.block _ (Array.getElem?_eq_some_iff.1 HBX.out).1 (by intro e; have h := (HO.out.lt _ e).2; omega)
  have HB2 : Hid (Below base w w2) := (HB1.out.mono HB.out.1).trans (hgr2.below (Nat.le_trans HB.out.1 HB1.out.size) (ownBlock_ge HO1.out))
  have HG2 : Hid (Below w.heap.size w w1 ∧ Gr v w1 v2 w2) := ⟨HB1.out, hgr2⟩
  obtain ⟨f0, f1, f2, f3⟩ := box4b (base := 0) HBX.out HK2.out
  have HSZ : Hid (base ≤ w2.heap.size) := Nat.le_trans HB.out.1 HB2.out.size
  clear hown2 hgr2 e0 e1 e2 e3
  go_wp2_with fail
  refine (appendNumber_any base v2 _ _ x 8 w2 HX.out.1 HX.out.2 HO2.out HSZ.out (by have := HB.out.2; have := HVL.out; omega) (by decide)).mono ?_
  rintro e w3 ⟨v3, rfl, ho3, hg3⟩
  go_wp2_with fail
  go_ret
  refine ⟨⟨_, rfl, ?_⟩, HB2.out.trans (hg3.below HSZ.out (ownBlock_ge HO2.out))⟩
  rw [← u8l_app, ← List.append_assoc]
  exact own_lens ho3 (by rw [List.length_append, leN_len]; omega)

set_option maxRecDepth 20000 in
set_option maxHeartbeats 1000000 in
theorem app_5 (base : Nat) (v : Value) (n : Nat) (xs : List Value) (num x : Int) (sa : Option Addr) (l c : Nat) (bs : List Int) (w : World) (ho : w.ownsRow base 5 1 v n xs) (hb : base ≤ w.heap.size) (hn : n ≤ 40000000) (h1 : 1 ≤ num) (h2 : num ≤ 536870911) (x0 : 0 ≤ x) (x1 : x < 18446744073709551616) (hS : ∀ W, Below base w W → Src W (.slice sa l c) bs) (hl : bs.length = l) (hl2 : (l : Int) ≤ 20000000) :
    Calls Try.prog 24 #[v, .agg #[.int .i64 num, .int .i64 5, .int .u64 x, .slice sa l c]] w fun e w' => (∃ v', e = .returned v' ∧ w'.ownsRow base 5 1 v' (n + (vN (num * 8 + 5).toNat ++ leN x.toNat 4).length) (xs ++ u8l (vN (num * 8 + 5).toNat ++ leN x.toNat 4))) ∧ Below base w w' := by
  have HO : Hid (w.ownsRow base 5 1 v n xs) := ho
  have HB : Hid (base ≤ w.heap.size ∧ n ≤ 40000000) := ⟨hb, hn⟩
  have HS : Hid ((∀ W, Below base w W → Src W (.slice sa l c) bs) ∧ bs.length = l ∧ (l : Int) ≤ 20000000) := ⟨hS, hl, hl2⟩
  have HX : Hid (0 ≤ x ∧ x < 18446744073709551616) := ⟨x0, x1⟩
  have HN : Hid (0 ≤ num * 8 + 5 ∧ num * 8 + 5 < 18446744073709551616) := by show _ ∧ _; omega
  have HH : Hid (∀ W, Calls Try.prog 34 #[.agg #[.int .i64 num, .int .i64 5, .int .u64 x, .slice sa l c]] W fun e w' => e = .returned (.int .u64 (num * 8 + 5)) ∧ Below W.heap.size W w') := fun W => head_any num 5 x sa l c W h1 h2 (by omega) (by omega)
  have HV := vN_le10 (num * 8 + 5).toNat (by omega)
  obtain ⟨hd, hhd⟩ : ∃ hd, (num * 8 + 5) = hd := ⟨_, rfl⟩
  rw [hhd] at HN HH HV ⊢
  have HVL : Hid ((vN hd.toNat).length ≤ 10) := HV.1
  clear ho hb hn h1 h2 hhd HV hS hl x0 x1
  go_enter Try.func24, Try.ntmps24
  go_wp2_with fail
  refine (HH.out _).mono ?_
  rintro e w1 ⟨rfl, hb1⟩
  have HBX : Hid (w1.heap[w.heap.size]? = some (.cells #[.int .i64 num, .int .i64 5, .int .u64 x, .slice sa l c] 35 (0, 0))) := (hb1.block _ (by simp)).trans (Go.heap_alloc_new _ _)
  have HB1 : Hid (Below w.heap.size w w1) := (bel1 _ _).trans (hb1.mono (by simp))
  have HO1 : Hid (w1.ownsRow base 5 1 v n xs) := own_kept HO.out fun g _ hg => HB1.out.block g hg
  obtain ⟨e0, e1, e2, e3⟩ := box4 hb1
  clear hb1
  go_wp2_with fail
  refine (appendVarint_any base v n xs hd w1 HN.out.1 HN.out.2 HO1.out (Nat.le_trans HB.out.1 HB1.out.size) (by have := HB.out.2; omega)).mono ?_
  rintro e w2 ⟨v2, rfl, hown2, hgr2⟩
  have HO2 : Hid (w2.ownsRow base 5 1 v2 (n + (vN hd.toNat).length) (xs ++ u8l (vN hd.toNat))) := hown2
  have HK2 : Hid (w2.heap[w.heap.size]? = w1.heap[w.heap.size]?) := hgr2.block _ (Array.getElem?_eq_some_iff.1 HBX.out).1 (by intro e; have h := (HO.out.lt _ e).2; omega)
  have HB2 : Hid (Below base w w2) := (HB1.out.mono HB.out.1).trans (hgr2.below (Nat.le_trans HB.out.1 HB1.out.size) (ownBlock_ge HO1.out))
  have HG2 : Hid (Below w.heap.size w w1 ∧ Gr v w1 v2 w2) := ⟨HB1.out, hgr2⟩
  obtain ⟨f0, f1, f2, f3⟩ := box4b (base := 0) HBX.out HK2.out
  have HSZ : Hid (base ≤ w2.heap.size) := Nat.le_trans HB.out.1 HB2.out.size
  clear hown2 hgr2 e0 e1 e2 e3
  go_wp2_with fail
  refine (appendNumber_any base v2 _ _ x 4 w2 HX.out.1 HX.out.2 HO2.out HSZ.out (by have := HB.out.2; have := HVL.out; omega) (by decide)).mono ?_
  rintro e w3 ⟨v3, rfl, ho3, hg3⟩
  go_wp2_with fail
  go_ret
  refine ⟨⟨_, rfl, ?_⟩, HB2.out.trans (hg3.below HSZ.out (ownBlock_ge HO2.out))⟩
  rw [← u8l_app, ← List.append_assoc]
  exact own_lens ho3 (by rw [List.length_append, leN_len]; omega)

set_option maxRecDepth 20000 in
set_option maxHeartbeats 1000000 in
theorem app_0 (base : Nat) (v : Value) (n : Nat) (xs : List Value) (num x : Int) (sa : Option Addr) (l c : Nat) (bs : List Int) (w : World) (ho : w.ownsRow base 5 1 v n xs) (hb : base ≤ w.heap.size) (hn : n ≤ 40000000) (h1 : 1 ≤ num) (h2 : num ≤ 536870911) (x0 : 0 ≤ x) (x1 : x < 18446744073709551616) (hS : ∀ W, Below base w W → Src W (.slice sa l c) bs) (hl : bs.length = l) (hl2 : (l : Int) ≤ 20000000) :
    Calls Try.prog 24 #[v, .agg #[.int .i64 num, .int .i64 0, .int .u64 x, .slice sa l c]] w fun e w' => (∃ v', e = .returned v' ∧ w'.ownsRow base 5 1 v' (n + (vN (num * 8).toNat ++ vN x.toNat).length) (xs ++ u8l (vN (num * 8).toNat ++ vN x.toNat))) ∧ Below base w w' := by
  have HO : Hid (w.ownsRow base 5 1 v n xs) := ho
  have HB : Hid (base ≤ w.heap.size ∧ n ≤ 40000000) := ⟨hb, hn⟩
  have HS : Hid ((∀ W, Below base w W → Src W (.slice sa l c) bs) ∧ bs.length = l ∧ (l : Int) ≤ 20000000) := ⟨hS, hl, hl2⟩
  have HX : Hid (0 ≤ x ∧ x < 18446744073709551616) := ⟨x0, x1⟩
  have HN : Hid (0 ≤ num * 8 ∧ num * 8 < 18446744073709551616) := by show _ ∧ _; omega
  have HH : Hid (∀ W, Calls Try.prog 34 #[.agg #[.int .i64 num, .int .i64 0, .int .u64 x, .slice sa l c]] W fun e w' => e = .returned (.int .u64 (num * 8)) ∧ Below W.heap.size W w') := fun W => by have h := head_any num 0 x sa l c W h1 h2 (by omega) (by omega); rw [Int.add_zero] at h; exact h
  have HV := vN_le10 (num * 8).toNat (by omega)
  obtain ⟨hd, hhd⟩ : ∃ hd, (num * 8) = hd := ⟨_, rfl⟩
  rw [hhd] at HN HH HV ⊢
  have HVL : Hid ((vN hd.toNat).length ≤ 10) := HV.1
  clear ho hb hn h1 h2 hhd HV hS hl x0 x1
  go_enter Try.func24, Try.ntmps24
  go_wp2_with fail
  refine (HH.out _).mono ?_
  rintro e w1 ⟨rfl, hb1⟩
  have HBX : Hid (w1.heap[w.heap.size]? = some (.cells #[.int .i64 num, .int .i64 0, .int .u64 x, .slice sa l c] 35 (0, 0))) := (hb1.block _ (by simp)).trans (Go.heap_alloc_new _ _)
  have HB1 : Hid (Below w.heap.size w w1) := (bel1 _ _).trans (hb1.mono (by simp))
  have HO1 : Hid (w1.ownsRow base 5 1 v n xs) := own_kept HO.out fun g _ hg => HB1.out.block g hg
  obtain ⟨e0, e1, e2, e3⟩ := box4 hb1
  clear hb1
  go_wp2_with fail
  refine (appendVarint_any base v n xs hd w1 HN.out.1 HN.out.2 HO1.out (Nat.le_trans HB.out.1 HB1.out.size) (by have := HB.out.2; omega)).mono ?_
  rintro e w2 ⟨v2, rfl, hown2, hgr2⟩
  have HO2 : Hid (w2.ownsRow base 5 1 v2 (n + (vN hd.toNat).length) (xs ++ u8l (vN hd.toNat))) := hown2
  have HK2 : Hid (w2.heap[w.heap.size]? = w1.heap[w.heap.size]?) := hgr2.block _ (Array.getElem?_eq_some_iff.1 HBX.out).1 (by intro e; have h := (HO.out.lt _ e).2; omega)
  have HB2 : Hid (Below base w w2) := (HB1.out.mono HB.out.1).trans (hgr2.below (Nat.le_trans HB.out.1 HB1.out.size) (ownBlock_ge HO1.out))
  have HG2 : Hid (Below w.heap.size w w1 ∧ Gr v w1 v2 w2) := ⟨HB1.out, hgr2⟩
  obtain ⟨f0, f1, f2, f3⟩ := box4b (base := 0) HBX.out HK2.out
  have HSZ : Hid (base ≤ w2.heap.size) := Nat.le_trans HB.out.1 HB2.out.size
  clear hown2 hgr2 e0 e1 e2 e3
  go_wp2_with fail
  refine (appendVarint_any base v2 _ _ x w2 HX.out.1 HX.out.2 HO2.out HSZ.out (by have := HB.out.2; have := HVL.out; omega)).mono ?_
  rintro e w3 ⟨v3, rfl, ho3, hg3⟩
  go_wp2_with fail
  go_ret
  refine ⟨⟨_, rfl, ?_⟩, HB2.out.trans (hg3.below HSZ.out (ownBlock_ge HO2.out))⟩
  rw [← u8l_app, ← List.append_assoc]
  exact own_lens ho3 (by rw [List.length_append]; omega)

set_option maxRecDepth 20000 in
set_option maxHeartbeats 1000000 in
theorem app_2 (base : Nat) (v : Value) (n : Nat) (xs : List Value) (num x : Int) (sa : Option Addr) (l c : Nat) (bs : List Int) (w : World) (ho : w.ownsRow base 5 1 v n xs) (hb : base ≤ w.heap.size) (hn : n ≤ 40000000) (h1 : 1 ≤ num) (h2 : num ≤ 536870911) (x0 : 0 ≤ x) (x1 : x < 18446744073709551616) (hS : ∀ W, Below base w W → Src W (.slice sa l c) bs) (hl : bs.length = l) (hl2 : (l : Int) ≤ 20000000) :
    Calls Try.prog 24 #[v, .agg #[.int .i64 num, .int .i64 2, .int .u64 x, .slice sa l c]] w fun e w' => (∃ v', e = .returned v' ∧ w'.ownsRow base 5 1 v' (n + (vN (num * 8 + 2).toNat ++ (vN l ++ bs)).length) (xs ++ u8l (vN (num * 8 + 2).toNat ++ (vN l ++ bs)))) ∧ Below base w w' := by
  have HO : Hid (w.ownsRow base 5 1 v n xs) := ho
  have HB : Hid (base ≤ w.heap.size ∧ n ≤ 40000000) := ⟨hb, hn⟩
  have HS : Hid ((∀ W, Below base w W → Src W (.slice sa l c) bs) ∧ bs.length = l ∧ (l : Int) ≤ 20000000) := ⟨hS, hl, hl2⟩
  have HX : Hid (0 ≤ x ∧ x < 18446744073709551616) := ⟨x0, x1⟩
  have HN : Hid (0 ≤ num * 8 + 2 ∧ num * 8 + 2 < 18446744073709551616) := by show _ ∧ _; omega
  have HH : Hid (∀ W, Calls Try.prog 34 #[.agg #[.int .i64 num, .int .i64 2, .int .u64 x, .slice sa l c]] W fun e w' => e = .returned (.int .u64 (num * 8 + 2)) ∧ Below W.heap.size W w') := fun W => head_any num 2 x sa l c W h1 h2 (by omega) (by omega)
  have HV := vN_le10 (num * 8 + 2).toNat (by omega)
  obtain ⟨hd, hhd⟩ : ∃ hd, (num * 8 + 2) = hd := ⟨_, rfl⟩
  rw [hhd] at HN HH HV ⊢
  have HVL : Hid ((vN hd.toNat).length ≤ 10) := HV.1
  clear ho hb hn h1 h2 hhd HV hS hl x0 x1
  go_enter Try.func24, Try.ntmps24
  go_wp2_with fail
  refine (HH.out _).mono ?_
  rintro e w1 ⟨rfl, hb1⟩
  have HBX : Hid (w1.heap[w.heap.size]? = some (.cells #[.int .i64 num, .int .i64 2, .int .u64 x, .slice sa l c] 35 (0, 0))) := (hb1.block _ (by simp)).trans (Go.heap_alloc_new _ _)
  have HB1 : Hid (Below w.heap.size w w1) := (bel1 _ _).trans (hb1.mono (by simp))
  have HO1 : Hid (w1.ownsRow base 5 1 v n xs) := own_kept HO.out fun g _ hg => HB1.out.block g hg
  obtain ⟨e0, e1, e2, e3⟩ := box4 hb1
  clear hb1
  go_wp2_with fail
  refine (appendVarint_any base v n xs hd w1 HN.out.1 HN.out.2 HO1.out (Nat.le_trans HB.out.1 HB1.out.size) (by have := HB.out.2; omega)).mono ?_
  rintro e w2 ⟨v2, rfl, hown2, hgr2⟩
  have HO2 : Hid (w2.ownsRow base 5 1 v2 (n + (vN hd.toNat).length) (xs ++ u8l (vN hd.toNat))) := hown2
  have HK2 : Hid (w2.heap[w.heap.size]? = w1.heap[w.heap.size]?) := hgr2.block _ (Array.getElem?_eq_some_iff.1 HBX.out).1 (by intro e; have h := (HO.out.lt _ e).2; omega)
  have HB2 : Hid (Below base w w2) := (HB1.out.mono HB.out.1).trans (hgr2.below (Nat.le_trans HB.out.1 HB1.out.size) (ownBlock_ge HO1.out))
  have HG2 : Hid (Below w.heap.size w w1 ∧ Gr v w1 v2 w2) := ⟨HB1.out, hgr2⟩
  obtain ⟨f0, f1, f2, f3⟩ := box4b (base := 0) HBX.out HK2.out
  have HSZ : Hid (base ≤ w2.heap.size) := Nat.le_trans HB.out.1 HB2.out.size
  clear hown2 hgr2 e0 e1 e2 e3
  go_wp2_with fail
  refine (appendVarint_any base v2 _ _ (l : Int) w2 (by omega) (by have := HS.out; omega) HO2.out HSZ.out (by have := HB.out.2; have := HVL.out; omega)).mono ?_
  rintro e w3 ⟨v3, rfl, ho3, hg3⟩
  rw [Int.toNat_natCast] at ho3
  have HO3 : Hid (w3.ownsRow base 5 1 v3 (n + (vN hd.toNat).length + (vN l).length) (xs ++ u8l (vN hd.toNat) ++ u8l (vN l))) := ho3
  have HK3 : Hid (w3.heap[w.heap.size]? = w2.heap[w.heap.size]?) := hg3.block _ (Array.getElem?_eq_some_iff.1 (HK2.out.trans HBX.out)).1 (by intro e; rcases HG2.out.2.near _ e with h | h; (have h := (HO.out.lt _ h).2; omega); (have h2 := (Array.getElem?_eq_some_iff.1 HBX.out).1; omega))
  have HB3 : Hid (Below base w w3) := HB2.out.trans (hg3.below HSZ.out (ownBlock_ge HO2.out))
  have HGG : Hid (Gr v w1 v3 w3) := HG2.out.2.trans hg3
  obtain ⟨g0, g1, g2, g3⟩ := box4b (base := 0) (HK2.out.trans HBX.out) HK3.out
  have HS3 : Hid (Src w3 (.slice sa l c) bs) := HS.out.1 w3 HB3.out
  have HVl := vN_le10 l (by have := HS.out; omega)
  have HVL2 : Hid ((vN l).length ≤ 10) := HVl.1
  clear ho3 hg3 f0 f1 f2 f3 HVl
  go_wp2_with (at_builtin; (refine wpList_append_src rfl (.tmp 31) (.tmp 33) rfl base v3 _ _ rfl HO3.out (.slice sa l c) bs rfl HS3.out (by have h1 := HB.out.2; have h2 := HVL.out; have h3 := HVL2.out; have h4 := HS.out; omega) (Nat.le_trans HB.out.1 HB3.out.size) ?_; intro v4 w4 ho4 hg4))
  go_ret
  refine ⟨⟨_, rfl, ?_⟩, HB3.out.grown hg4 (Nat.le_trans HB.out.1 HB3.out.size) (ownBlock_ge HO3.out)⟩
  have e : xs ++ u8l (vN hd.toNat ++ (vN l ++ bs)) = xs ++ u8l (vN hd.toNat) ++ u8l (vN l) ++ u8l bs := by simp [u8l]
  rw [e]
  exact own_lens ho4 (by rw [List.length_append, List.length_append]; omega)

end Go.Proofs.Ytlgkajellndhlaa
