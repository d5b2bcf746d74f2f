/- Reading: a field. -/
import Derived.Test.YtlgkajellndhlaaRd2
import Derived.Test.YtlgkajellndhlaaLast
namespace Go.Proofs.Ytlgkajellndhlaa
open Go.RowKit
set_option linter.unusedVariables false
set_option linter.unusedSimpArgs false

/-- What follows a field's head. -/
def rtI (zs : List Int) (p : Nat) (num typ : Int) : Fd × Int × Int :=
  if typ = 0 then (if (getI zs p).2.2 ≠ 0 then (noF, 0, (getI zs p).2.2) else (⟨num, 0, (getI zs p).1.toNat, []⟩, (getI zs p).2.1, 0))
  else if typ = 1 then (if (rnI zs p 8).2.2 ≠ 0 then (noF, 0, (rnI zs p 8).2.2) else (⟨num, 1, (rnI zs p 8).1.toNat, []⟩, (rnI zs p 8).2.1, 0))
  else if typ = 5 then (if (rnI zs p 4).2.2 ≠ 0 then (noF, 0, (rnI zs p 4).2.2) else (⟨num, 5, (rnI zs p 4).1.toNat, []⟩, (rnI zs p 4).2.1, 0))
  else (if (rbI zs p).2.2 ≠ 0 then (noF, 0, (rbI zs p).2.2) else (⟨num, 2, 0, (rbI zs p).1⟩, (rbI zs p).2.1, 0))
/-- What readField answers. -/
def rfI (zs : List Int) (at' : Nat) : Fd × Int × Int :=
  if (getI zs at').2.2 ≠ 0 then (noF, 0, (getI zs at').2.2)
  else if rhB ((getI zs at').1 / 8) ((getI zs at').1 % 8) = false then (noF, 0, 30)
  else rtI zs (getI zs at').2.1.toNat ((getI zs at').1 / 8) ((getI zs at').1 % 8)
theorem and7 (h : Int) (h0 : 0 ≤ h) (h1 : h < 18446744073709551616) : bits .and .u64 h 7 = h % 8 := by
  obtain ⟨m, rfl⟩ := Int.eq_ofNat_of_zero_le h0
  have e := bits_and_u64_nat m 7 (by omega) (by decide)
  rw [show ((7 : Nat) : Int) = 7 from rfl] at e
  have h2 : m &&& 7 = m % 8 := Nat.and_two_pow_sub_one_eq_mod m 3
  rw [e, h2]
  omega
theorem le_nonneg : ∀ (l : List Int), Byt l → 0 ≤ leV l
  | [], _ => by simp [leV]
  | c :: r, h => by
    have h1 := h c (List.mem_cons_self ..)
    have h2 := le_nonneg r fun x hx => h x (List.mem_cons_of_mem _ hx)
    simp only [leV]
    omega
theorem rn_ok (zs : List Int) (p K : Nat) (hz : Byt zs) : (∃ e, rnI zs p K = (0, 0, e) ∧ e = 8) ∨ ∃ (n : Int) (q : Nat), rnI zs p K = (n, (q : Int), 0) ∧ 0 ≤ n ∧ q = p + K ∧ q ≤ zs.length := by
  unfold rnI
  split
  · exact .inl ⟨8, rfl, rfl⟩
  · exact .inr ⟨_, p + K, rfl, le_nonneg _ (fun x hx => hz x (List.mem_of_mem_drop (List.mem_of_mem_take hx))), rfl, by omega⟩
/-- A field that was read, as it lies. -/
def Fread (n₀ : Nat) (w' : World) (e : Ending) (r : Fd × Int × Int) : Prop := ∃ v, e = .returned (.tuple #[.agg #[.int .i64 r.1.num, .int .i64 r.1.typ, .int .u64 (r.1.n : Int), v], .int .i64 r.2.1, .int .i64 r.2.2]) ∧ w'.ownsRow n₀ 5 1 v r.1.b.length (u8l r.1.b)
theorem fread_no {n₀ : Nat} {w' : World} {er : Int} : Fread n₀ w' (.returned (.tuple #[.agg #[.int .i64 0, .int .i64 0, .int .u64 0, .slice none 0 0], .int .i64 0, .int .i64 er])) (noF, 0, er) := ⟨_, rfl, World.ownsRow_nil _ _ _ _⟩
theorem brow_later {w w' : World} {b off : Nat} {zs : List Int} (R : BRow w b off zs) (hb : b < w.heap.size) (h : Below w.heap.size w w') : BRow w' b off zs :=
  ⟨fun i hi => (h.cell (p := ⟨b, off + i, none⟩) hb).trans (R.cell i hi), R.byt, R.small⟩

set_option maxRecDepth 20000 in
set_option maxHeartbeats 4000000 in
theorem readField_any (b off cap at' : Nat) (zs : List Int) (w : World) (R : BRow w b off zs) (hbw : b < w.heap.size) (hcap : zs.length ≤ cap) (ha : at' ≤ zs.length) (hz : zs.length ≤ 2000000) :
    Calls Try.prog 31 #[.slice (some ⟨b, off, none⟩) zs.length cap, .int .i64 at'] w fun e w' => Fread w.heap.size w' e (rfI zs at') ∧ Below w.heap.size w w' := by
  obtain ⟨W, hW⟩ : ∃ W, w.alloc (.cells #[.int .i64 0, .int .i64 0, .int .u64 0, .slice none 0 0] 35) = W := ⟨_, rfl⟩
  have HBW : Hid (Below w.heap.size w W) := by show Below _ _ _; rw [← hW]; exact bel1 _ _
  have HXW : Hid (W.heap[w.heap.size]? = some (.cells #[.int .i64 0, .int .i64 0, .int .u64 0, .slice none 0 0] 35 (0, 0))) := by show _ = _; rw [← hW]; exact Go.heap_alloc_new _ _
  have HWS : Hid (W.heap.size = w.heap.size + 1) := by show _ = _; rw [← hW]; simp
  have HRW : Hid (∀ V, Below w.heap.size w V → BRow V b off zs) := fun V hV => brow_later R hbw hV
  have HCA : Hid (zs.length ≤ cap ∧ at' ≤ zs.length ∧ zs.length ≤ 2000000 ∧ Byt zs) := ⟨hcap, ha, hz, R.byt⟩
  obtain ⟨r, hr⟩ : ∃ r, rfI zs at' = r := ⟨_, rfl⟩
  have HR : Hid (rfI zs at' = r) := hr
  rw [hr]
  obtain ⟨N, hN⟩ : ∃ N, zs.length = N := ⟨_, rfl⟩
  have HN : Hid (zs.length = N) := hN
  have HHW : Hid (w.alloc (.cells #[.int .i64 0, .int .i64 0, .int .u64 0, .slice none 0 0] 35) = W) := hW
  have hget := get_any b off cap at' zs W (HRW.out W HBW.out) hcap ha
  rw [hN] at hget ⊢
  clear hW hr hcap ha hz R hN
  rcases get_ok zs at' with ⟨er, hg, he⟩ | ⟨h, p, hg, h0, h1, p0, p1⟩
  · rw [hg] at hget
    have HG : Hid (Calls Try.prog 29 #[.slice (some ⟨b, off, none⟩) N cap, .int .i64 at'] W fun e w' => e = .returned (gv (0, 0, er)) ∧ w' = W) := hget
    have HRR : Hid (r = (noF, 0, er)) := by show _ = _; rw [← HR.out]; unfold rfI; rw [hg]; simp only; rw [if_pos (by omega)]
    have hne : (er != 0) = true := by rw [bne_iff_ne]; omega
    obtain ⟨x0, x1, x2, x3⟩ := box4b (base := 0) HXW.out rfl
    have fz := fun j => frozen_of_row _ _ j _ _ HXW.out
    clear hget hg he
    go_enter Try.func31, Try.ntmps31
    go_wp2_with fail
    rw [HHW.out]
    refine HG.out.mono ?_
    rintro e w' ⟨rfl, rfl⟩
    unfold gv
    go_wp2_with fail
    refine bodyPost_ret (v := .tuple #[.agg #[.int .i64 0, .int .i64 0, .int .u64 0, .slice none 0 0], .int .i64 0, .int .i64 er]) (by simp [results, Try.results31, go_sem, x0, x1, x2, x3]) rfl ⟨?_, ?_⟩
    · rw [HRR.out]; exact fread_no
    · exact (((HBW.out.setCell (Nat.le_refl _) _).setCell (Nat.le_refl _) _).setCell (Nat.le_refl _) _).setCell (Nat.le_refl _) _
  · rw [hg] at hget
    have HG : Hid (Calls Try.prog 29 #[.slice (some ⟨b, off, none⟩) N cap, .int .i64 at'] W fun e w' => e = .returned (gv (h, (p : Int), 0)) ∧ w' = W) := hget
    have ha7 := and7 h h0 h1
    obtain ⟨num, hnum⟩ : ∃ num, h / 8 = num := ⟨_, rfl⟩
    obtain ⟨typ, htyp⟩ : ∃ typ, h % 8 = typ := ⟨_, rfl⟩
    have HRR : Hid (r = if rhB num typ = false then (noF, 0, 30) else rtI zs p num typ) := by show _ = _; rw [← HR.out]; unfold rfI; rw [hg]; simp only; rw [if_neg (by omega), hnum, htyp, Int.toNat_natCast]
    have hb1 : num < 2305843009213693952 := by omega
    have hb0 : 0 ≤ num := by omega
    have ht0 : 0 ≤ typ ∧ typ < 8 := by omega
    rw [htyp] at ha7
    obtain ⟨W1, hW1⟩ : ∃ W1, W.alloc (.cells #[.int .i64 num, .int .i64 typ, .int .u64 0, .slice none 0 0] 35) = W1 := ⟨_, rfl⟩
    have HW1 : Hid (W.alloc (.cells #[.int .i64 num, .int .i64 typ, .int .u64 0, .slice none 0 0] 35) = W1) := hW1
    have HB1 : Hid (Below w.heap.size w W1) := by show Below _ _ _; rw [← hW1]; exact HBW.out.trans ((bel1 _ _).mono HBW.out.size)
    have HXA : Hid (W1.heap[w.heap.size]? = some (.cells #[.int .i64 0, .int .i64 0, .int .u64 0, .slice none 0 0] 35 (0, 0))) := by show _ = _; rw [← hW1, Below.heap_alloc _ _ _ (by have := HWS.out; omega)]; exact HXW.out
    have HXB : Hid (W1.heap[W.heap.size]? = some (.cells #[.int .i64 num, .int .i64 typ, .int .u64 0, .slice none 0 0] 35 (0, 0))) := by show _ = _; rw [← hW1]; exact Go.heap_alloc_new _ _
    have HS1 : Hid (W1.heap.size = w.heap.size + 2) := by show _ = _; rw [← hW1, World.size_alloc, HWS.out]
    obtain ⟨x0, x1, x2, x3⟩ := box4b (base := 0) HXA.out rfl
    have fz := fun j => frozen_of_row _ _ j _ _ HXA.out
    obtain ⟨y0, y1, y2, y3⟩ := box4b (base := 0) HXB.out rfl
    have gz := fun j => frozen_of_row _ _ j _ _ HXB.out
    have hlt : w.heap.size < W.heap.size := by have := HWS.out; omega
    have hne1 : ¬ w.heap.size = W.heap.size := by omega
    have hne2 : ¬ W.heap.size = w.heap.size := by omega
    clear hget hg hW1
    have H32 := rightHead_any num typ W1
    cases hrh : rhB num typ with
    | false =>
      rw [hrh] at H32 HRR
      have H32' : Hid (Calls Try.prog 32 #[.int .i64 num, .int .i64 typ] W1 fun e w' => e = .returned (.bool false) ∧ w' = W1) := H32
      clear H32 hrh
      go_enter Try.func31, Try.ntmps31
      go_wp2_with fail
      rw [HHW.out]
      refine HG.out.mono ?_
      rintro e w' ⟨rfl, hw'⟩
      rw [hw']
      clear hw'
      unfold gv
      go_wp2_with fail
      rw [HW1.out]
      refine H32'.out.mono ?_
      rintro e w' ⟨rfl, hw'⟩
      rw [hw']
      clear hw'
      go_wp2_with fail
      refine bodyPost_ret (v := .tuple #[.agg #[.int .i64 0, .int .i64 0, .int .u64 0, .slice none 0 0], .int .i64 0, .int .i64 30]) (by simp [results, Try.results31, go_sem, x0, x1, x2, x3]) rfl ⟨?_, ?_⟩
      · rw [HRR.out, if_pos (by trivial)]; exact fread_no
      · exact (((HB1.out.setCell (Nat.le_refl _) _).setCell (Nat.le_refl _) _).setCell (Nat.le_refl _) _).setCell (Nat.le_refl _) _
    | true =>
      rw [hrh] at H32 HRR
      have H32' : Hid (Calls Try.prog 32 #[.int .i64 num, .int .i64 typ] W1 fun e w' => e = .returned (.bool true) ∧ w' = W1) := H32
      have ht : typ = 0 ∨ typ = 1 ∨ typ = 2 ∨ typ = 5 := by unfold rhB at hrh; simp at hrh; have := hrh.2; omega
      have HRT : Hid (r = rtI zs p num typ) := by show _ = _; rw [HRR.out, if_neg (by simp)]
      clear H32 hrh HRR htyp
      have HP : Hid (p ≤ N) := by have := HN.out; show p ≤ N; omega
      rcases ht with rfl | rfl | rfl | rfl
      · rcases get_ok zs p with ⟨er, hg2, he⟩ | ⟨n, q, hg2, hrest⟩
        · have hc := get_any b off cap p zs W1 (HRW.out W1 HB1.out) HCA.out.1 (by omega)
          rw [hg2, HN.out] at hc
          have HC2 : Hid (Calls Try.prog 29 #[.slice (some ⟨b, off, none⟩) N cap, .int .i64 (p : Int)] W1 fun e w' => e = .returned (gv (0, 0, er)) ∧ w' = W1) := hc
          have HRR : Hid (r = (noF, 0, er)) := by show _ = _; rw [HRT.out]; unfold rtI; rw [if_pos rfl]; rw [hg2]; simp only; rw [if_pos (by omega)]
          have hnez : (er != 0) = true := by rw [bne_iff_ne]; omega
          clear hc hg2 he
          go_enter Try.func31, Try.ntmps31
          go_wp2_with fail
          rw [HHW.out]
          refine HG.out.mono ?_
          rintro e w' ⟨rfl, hw'⟩
          rw [hw']
          clear hw'
          unfold gv
          go_wp2_with fail
          rw [HW1.out]
          refine H32'.out.mono ?_
          rintro e w' ⟨rfl, hw'⟩
          rw [hw']
          clear hw'
          go_wp2_with fail
          refine HC2.out.mono ?_
          rintro e w' ⟨rfl, hw'⟩
          rw [hw']
          clear hw'
          unfold gv
          go_wp2_with fail
          refine bodyPost_ret (v := .tuple #[.agg #[.int .i64 0, .int .i64 0, .int .u64 0, .slice none 0 0], .int .i64 0, .int .i64 er]) (by simp [results, Try.results31, go_sem, x0, x1, x2, x3]) rfl ⟨?_, ?_⟩
          · rw [HRR.out]; exact fread_no
          · exact ((((HB1.out.setCell (by show w.heap.size ≤ W.heap.size; omega) _).setCell (Nat.le_refl _) _).setCell (Nat.le_refl _) _).setCell (Nat.le_refl _) _).setCell (Nat.le_refl _) _
        · have hc := get_any b off cap p zs W1 (HRW.out W1 HB1.out) HCA.out.1 (by omega)
          rw [hg2, HN.out] at hc
          have HC2 : Hid (Calls Try.prog 29 #[.slice (some ⟨b, off, none⟩) N cap, .int .i64 (p : Int)] W1 fun e w' => e = .returned (gv (n, (q : Int), 0)) ∧ w' = W1) := hc
          have hn0 : 0 ≤ n := by omega
          have HRR : Hid (r = (⟨num, 0, n.toNat, []⟩, (q : Int), 0)) := by show _ = _; rw [HRT.out]; unfold rtI; rw [if_pos rfl]; rw [hg2]; simp only; rw [if_neg (by omega)]
          clear hc hg2 hrest
          go_enter Try.func31, Try.ntmps31
          go_wp2_with fail
          rw [HHW.out]
          refine HG.out.mono ?_
          rintro e w' ⟨rfl, hw'⟩
          rw [hw']
          clear hw'
          unfold gv
          go_wp2_with fail
          rw [HW1.out]
          refine H32'.out.mono ?_
          rintro e w' ⟨rfl, hw'⟩
          rw [hw']
          clear hw'
          go_wp2_with fail
          refine HC2.out.mono ?_
          rintro e w' ⟨rfl, hw'⟩
          rw [hw']
          clear hw'
          unfold gv
          go_wp2_with fail
          refine bodyPost_ret (v := .tuple #[.agg #[.int .i64 num, .int .i64 0, .int .u64 n, .slice none 0 0], .int .i64 (q : Int), .int .i64 0]) (by simp [results, Try.results31, go_sem, x0, x1, x2, x3]) rfl ⟨?_, ?_⟩
          · rw [HRR.out]
            refine ⟨.slice none 0 0, ?_, World.ownsRow_nil _ _ _ _⟩
            simp only
            rw [show ((n.toNat : Nat) : Int) = n by omega]
          · exact ((((HB1.out.setCell (by show w.heap.size ≤ W.heap.size; omega) _).setCell (Nat.le_refl _) _).setCell (Nat.le_refl _) _).setCell (Nat.le_refl _) _).setCell (Nat.le_refl _) _
      · rcases rn_ok zs p 8 HCA.out.2.2.2 with ⟨er, hg2, he⟩ | ⟨n, q, hg2, hrest⟩
        · have hc := readNumber_any b off cap p 8 zs W1 (HRW.out W1 HB1.out) HCA.out.1 (by omega) (.inr rfl)
          rw [hg2, HN.out] at hc
          have HC2 : Hid (Calls Try.prog 42 #[.slice (some ⟨b, off, none⟩) N cap, .int .i64 (p : Int), .int .i64 8] W1 fun e w' => e = .returned (gv (0, 0, er)) ∧ w' = W1) := hc
          have HRR : Hid (r = (noF, 0, er)) := by show _ = _; rw [HRT.out]; unfold rtI; rw [if_neg (by decide), if_pos rfl]; rw [hg2]; simp only; rw [if_pos (by omega)]
          have hnez : (er != 0) = true := by rw [bne_iff_ne]; omega
          clear hc hg2 he
          go_enter Try.func31, Try.ntmps31
          go_wp2_with fail
          rw [HHW.out]
          refine HG.out.mono ?_
          rintro e w' ⟨rfl, hw'⟩
          rw [hw']
          clear hw'
          unfold gv
          go_wp2_with fail
          rw [HW1.out]
          refine H32'.out.mono ?_
          rintro e w' ⟨rfl, hw'⟩
          rw [hw']
          clear hw'
          go_wp2_with fail
          refine HC2.out.mono ?_
          rintro e w' ⟨rfl, hw'⟩
          rw [hw']
          clear hw'
          unfold gv
          go_wp2_with fail
          refine bodyPost_ret (v := .tuple #[.agg #[.int .i64 0, .int .i64 0, .int .u64 0, .slice none 0 0], .int .i64 0, .int .i64 er]) (by simp [results, Try.results31, go_sem, x0, x1, x2, x3]) rfl ⟨?_, ?_⟩
          · rw [HRR.out]; exact fread_no
          · exact ((((HB1.out.setCell (by show w.heap.size ≤ W.heap.size; omega) _).setCell (Nat.le_refl _) _).setCell (Nat.le_refl _) _).setCell (Nat.le_refl _) _).setCell (Nat.le_refl _) _
        · have hc := readNumber_any b off cap p 8 zs W1 (HRW.out W1 HB1.out) HCA.out.1 (by omega) (.inr rfl)
          rw [hg2, HN.out] at hc
          have HC2 : Hid (Calls Try.prog 42 #[.slice (some ⟨b, off, none⟩) N cap, .int .i64 (p : Int), .int .i64 8] W1 fun e w' => e = .returned (gv (n, (q : Int), 0)) ∧ w' = W1) := hc
          have hn0 : 0 ≤ n := by omega
          have HRR : Hid (r = (⟨num, 1, n.toNat, []⟩, (q : Int), 0)) := by show _ = _; rw [HRT.out]; unfold rtI; rw [if_neg (by decide), if_pos rfl]; rw [hg2]; simp only; rw [if_neg (by omega)]
          clear hc hg2 hrest
          go_enter Try.func31, Try.ntmps31
          go_wp2_with fail
          rw [HHW.out]
          refine HG.out.mono ?_
          rintro e w' ⟨rfl, hw'⟩
          rw [hw']
          clear hw'
          unfold gv
          go_wp2_with fail
          rw [HW1.out]
          refine H32'.out.mono ?_
          rintro e w' ⟨rfl, hw'⟩
          rw [hw']
          clear hw'
          go_wp2_with fail
          refine HC2.out.mono ?_
          rintro e w' ⟨rfl, hw'⟩
          rw [hw']
          clear hw'
          unfold gv
          go_wp2_with fail
          refine bodyPost_ret (v := .tuple #[.agg #[.int .i64 num, .int .i64 1, .int .u64 n, .slice none 0 0], .int .i64 (q : Int), .int .i64 0]) (by simp [results, Try.results31, go_sem, x0, x1, x2, x3]) rfl ⟨?_, ?_⟩
          · rw [HRR.out]
            refine ⟨.slice none 0 0, ?_, World.ownsRow_nil _ _ _ _⟩
            simp only
            rw [show ((n.toNat : Nat) : Int) = n by omega]
          · exact ((((HB1.out.setCell (by show w.heap.size ≤ W.heap.size; omega) _).setCell (Nat.le_refl _) _).setCell (Nat.le_refl _) _).setCell (Nat.le_refl _) _).setCell (Nat.le_refl _) _
      · have hc := readBytes_any b off cap p zs W1 (HRW.out W1 HB1.out) HCA.out.1 (by omega) HCA.out.2.2.1
        have HRB : Hid (r = if (rbI zs p).2.2 ≠ 0 then (noF, 0, (rbI zs p).2.2) else (⟨num, 2, 0, (rbI zs p).1⟩, (rbI zs p).2.1, 0)) := by show _ = _; rw [HRT.out]; unfold rtI; rw [if_neg (by decide), if_neg (by decide), if_neg (by decide)]
        generalize rbI zs p = R2 at hc HRB
        obtain ⟨B, q, er⟩ := R2
        simp only at hc HRB
        rw [HN.out] at hc
        go_enter Try.func31, Try.ntmps31
        go_wp2_with fail
        rw [HHW.out]
        refine HG.out.mono ?_
        rintro e w' ⟨rfl, hw'⟩
        rw [hw']
        clear hw'
        unfold gv
        go_wp2_with fail
        rw [HW1.out]
        refine H32'.out.mono ?_
        rintro e w' ⟨rfl, hw'⟩
        rw [hw']
        clear hw'
        go_wp2_with fail
        refine hc.mono ?_
        rintro e w2 ⟨⟨v2, rfl, ho2⟩, hb2⟩
        obtain ⟨va, vc, hv2⟩ := own_slice ho2
        subst hv2
        have HO2 : Hid (w2.ownsRow W1.heap.size 5 1 (.slice va B.length vc) B.length (u8l B)) := ho2
        have HB2 : Hid (Below w.heap.size w w2) := HB1.out.trans (hb2.mono HB1.out.size)
        have HXA2 : Hid (w2.heap[w.heap.size]? = some (.cells #[.int .i64 0, .int .i64 0, .int .u64 0, .slice none 0 0] 35 (0, 0))) := (hb2.block _ (by have := HS1.out; omega)).trans HXA.out
        have HXB2 : Hid (w2.heap[W.heap.size]? = some (.cells #[.int .i64 num, .int .i64 2, .int .u64 0, .slice none 0 0] 35 (0, 0))) := (hb2.block _ (by have := HS1.out; have := HWS.out; omega)).trans HXB.out
        obtain ⟨u0, u1, u2, u3⟩ := box4b (base := 0) HXA2.out rfl
        have uz := fun j => frozen_of_row _ _ j _ _ HXA2.out
        obtain ⟨t0, t1, t2, t3⟩ := box4b (base := 0) HXB2.out rfl
        have tz := fun j => frozen_of_row _ _ j _ _ HXB2.out
        obtain ⟨M, hM⟩ : ∃ M, B.length = M := ⟨_, rfl⟩
        have HM : Hid (B.length = M) := hM
        rw [hM] at HO2 ⊢
        clear ho2 hb2 hc hM x0 x1 x2 x3 y0 y1 y2 y3 fz gz
        by_cases he : er = 0
        · subst he
          go_wp2_with fail
          refine bodyPost_ret (v := .tuple #[.agg #[.int .i64 num, .int .i64 2, .int .u64 0, .slice va M vc], .int .i64 q, .int .i64 0]) (by simp [results, Try.results31, go_sem, u0, u1, u2, u3]) rfl ⟨?_, ?_⟩
          · rw [HRB.out, if_neg (by simp)]
            refine ⟨.slice va M vc, rfl, ?_⟩
            simp only
            rw [HM.out]
            refine own_low (own_at HO2.out fun g hg => ?_) (by have := HS1.out; omega)
            have h1 := (HO2.out.lt g hg).1
            have h2 := HS1.out
            have h3 := HWS.out
            rw [Below.heap_setCell _ _ _ _ (by show g ≠ w.heap.size; omega), Below.heap_setCell _ _ _ _ (by show g ≠ w.heap.size; omega), Below.heap_setCell _ _ _ _ (by show g ≠ w.heap.size; omega), Below.heap_setCell _ _ _ _ (by show g ≠ w.heap.size; omega), Below.heap_setCell _ _ _ _ (by show g ≠ W.heap.size; omega)]
          · exact ((((HB2.out.setCell (by show w.heap.size ≤ W.heap.size; omega) _).setCell (Nat.le_refl _) _).setCell (Nat.le_refl _) _).setCell (Nat.le_refl _) _).setCell (Nat.le_refl _) _
        · have hnez : (er != 0) = true := by rw [bne_iff_ne]; exact he
          go_wp2_with fail
          refine bodyPost_ret (v := .tuple #[.agg #[.int .i64 0, .int .i64 0, .int .u64 0, .slice none 0 0], .int .i64 0, .int .i64 er]) (by simp [results, Try.results31, go_sem, u0, u1, u2, u3]) rfl ⟨?_, ?_⟩
          · rw [HRB.out, if_pos he]; exact fread_no
          · exact ((((HB2.out.setCell (by show w.heap.size ≤ W.heap.size; omega) _).setCell (Nat.le_refl _) _).setCell (Nat.le_refl _) _).setCell (Nat.le_refl _) _).setCell (Nat.le_refl _) _
      · rcases rn_ok zs p 4 HCA.out.2.2.2 with ⟨er, hg2, he⟩ | ⟨n, q, hg2, hrest⟩
        · have hc := readNumber_any b off cap p 4 zs W1 (HRW.out W1 HB1.out) HCA.out.1 (by omega) (.inl rfl)
          rw [hg2, HN.out] at hc
          have HC2 : Hid (Calls Try.prog 42 #[.slice (some ⟨b, off, none⟩) N cap, .int .i64 (p : Int), .int .i64 4] W1 fun e w' => e = .returned (gv (0, 0, er)) ∧ w' = W1) := hc
          have HRR : Hid (r = (noF, 0, er)) := by show _ = _; rw [HRT.out]; unfold rtI; rw [if_neg (by decide), if_neg (by decide), if_pos rfl]; rw [hg2]; simp only; rw [if_pos (by omega)]
          have hnez : (er != 0) = true := by rw [bne_iff_ne]; omega
          clear hc hg2 he
          go_enter Try.func31, Try.ntmps31
          go_wp2_with fail
          rw [HHW.out]
          refine HG.out.mono ?_
          rintro e w' ⟨rfl, hw'⟩
          rw [hw']
          clear hw'
          unfold gv
          go_wp2_with fail
          rw [HW1.out]
          refine H32'.out.mono ?_
          rintro e w' ⟨rfl, hw'⟩
          rw [hw']
          clear hw'
          go_wp2_with fail
          refine HC2.out.mono ?_
          rintro e w' ⟨rfl, hw'⟩
          rw [hw']
          clear hw'
          unfold gv
          go_wp2_with fail
          refine bodyPost_ret (v := .tuple #[.agg #[.int .i64 0, .int .i64 0, .int .u64 0, .slice none 0 0], .int .i64 0, .int .i64 er]) (by simp [results, Try.results31, go_sem, x0, x1, x2, x3]) rfl ⟨?_, ?_⟩
          · rw [HRR.out]; exact fread_no
          · exact ((((HB1.out.setCell (by show w.heap.size ≤ W.heap.size; omega) _).setCell (Nat.le_refl _) _).setCell (Nat.le_refl _) _).setCell (Nat.le_refl _) _).setCell (Nat.le_refl _) _
        · have hc := readNumber_any b off cap p 4 zs W1 (HRW.out W1 HB1.out) HCA.out.1 (by omega) (.inl rfl)
          rw [hg2, HN.out] at hc
          have HC2 : Hid (Calls Try.prog 42 #[.slice (some ⟨b, off, none⟩) N cap, .int .i64 (p : Int), .int .i64 4] W1 fun e w' => e = .returned (gv (n, (q : Int), 0)) ∧ w' = W1) := hc
          have hn0 : 0 ≤ n := by omega
          have HRR : Hid (r = (⟨num, 5, n.toNat, []⟩, (q : Int), 0)) := by show _ = _; rw [HRT.out]; unfold rtI; rw [if_neg (by decide), if_neg (by decide), if_pos rfl]; rw [hg2]; simp only; rw [if_neg (by omega)]
          clear hc hg2 hrest
          go_enter Try.func31, Try.ntmps31
          go_wp2_with fail
          rw [HHW.out]
          refine HG.out.mono ?_
          rintro e w' ⟨rfl, hw'⟩
          rw [hw']
          clear hw'
          unfold gv
          go_wp2_with fail
          rw [HW1.out]
          refine H32'.out.mono ?_
          rintro e w' ⟨rfl, hw'⟩
          rw [hw']
          clear hw'
          go_wp2_with fail
          refine HC2.out.mono ?_
          rintro e w' ⟨rfl, hw'⟩
          rw [hw']
          clear hw'
          unfold gv
          go_wp2_with fail
          refine bodyPost_ret (v := .tuple #[.agg #[.int .i64 num, .int .i64 5, .int .u64 n, .slice none 0 0], .int .i64 (q : Int), .int .i64 0]) (by simp [results, Try.results31, go_sem, x0, x1, x2, x3]) rfl ⟨?_, ?_⟩
          · rw [HRR.out]
            refine ⟨.slice none 0 0, ?_, World.ownsRow_nil _ _ _ _⟩
            simp only
            rw [show ((n.toNat : Nat) : Int) = n by omega]
          · exact ((((HB1.out.setCell (by show w.heap.size ≤ W.heap.size; omega) _).setCell (Nat.le_refl _) _).setCell (Nat.le_refl _) _).setCell (Nat.le_refl _) _).setCell (Nat.le_refl _) _
end Go.Proofs.Ytlgkajellndhlaa
