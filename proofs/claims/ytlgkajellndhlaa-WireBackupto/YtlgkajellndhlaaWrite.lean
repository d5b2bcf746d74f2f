/- Write, of any fields. -/
import Derived.Test.YtlgkajellndhlaaFds
import Derived.Laws.MakeOwn
namespace Go.Proofs.Ytlgkajellndhlaa
open Go.RowKit
set_option linter.unusedVariables false
set_option linter.unusedSimpArgs false

theorem take_snoc' {α : Type} (l : List α) (k : Nat) (f : α) (h : l[k]? = some f) : l.take (k + 1) = l.take k ++ [f] := by
  obtain ⟨h1, h2⟩ := List.getElem?_eq_some_iff.1 h
  rw [List.take_succ_eq_append_getElem h1, h2]
theorem encL_len_take (fs : List Fd) (hf : ∀ f ∈ fs, f.Fit) : ∀ k, (fs.take k).all okF = true → (encL (fs.take k)).length ≤ k * 1048600 := by
  intro k
  induction k with
  | zero => intro _; simp [encL]
  | succ k ih =>
    intro hk
    by_cases h : k < fs.length
    · have e := take_snoc' fs k fs[k] (List.getElem?_eq_getElem h)
      rw [e] at hk ⊢
      simp only [List.all_append, Bool.and_eq_true, List.all_cons, List.all_nil, Bool.and_true] at hk
      have := encF_short (hf _ (List.getElem_mem h)) hk.2
      have := ih hk.1
      rw [encL_app]
      simp [encL]
      omega
    · rw [List.take_of_length_le (by omega)] at hk ⊢
      have := ih (by rw [List.take_of_length_le (by omega)]; exact hk)
      rw [List.take_of_length_le (by omega)] at this
      exact Nat.le_trans this (Nat.mul_le_mul_right _ (Nat.le_succ k))
theorem wr_full {fs : List Fd} (h : 4096 < fs.length) : wrI fs = ([], 7) := by unfold wrI; rw [if_pos h]
theorem wr_bad {fs : List Fd} (h : ¬ 4096 < fs.length) (h2 : fs.all okF = false) : wrI fs = ([], 30) := by unfold wrI; rw [if_neg h, if_pos h2]
theorem wr_long {fs : List Fd} (h : ¬ 4096 < fs.length) (h2 : fs.all okF = true) (h3 : 1048576 < (encL fs).length) : wrI fs = ([], 4) := by unfold wrI; rw [if_neg h, if_neg (by simp [h2]), if_pos h3]
theorem wr_ok {fs : List Fd} (h : ¬ 4096 < fs.length) (h2 : fs.all okF = true) (h3 : ¬ 1048576 < (encL fs).length) : wrI fs = (encL fs, 0) := by unfold wrI; rw [if_neg h, if_neg (by simp [h2]), if_neg h3]
/-- What a list of fields answers, as it lies. -/
def Wrote (n₀ : Nat) (w' : World) (e : Ending) (r : List Int × Int) : Prop := ∃ rv, e = .returned (.tuple #[rv, .int .i64 r.2]) ∧ w'.ownsRow n₀ 5 1 rv r.1.length (u8l r.1)

set_option maxRecDepth 20000 in
set_option maxHeartbeats 2000000 in
theorem write_full (sa : Option Addr) (n cap : Nat) (w : World) (h : 4096 < (n : Int)) : Calls Try.prog 6 #[.slice sa n cap] w fun e w' => e = .returned (.tuple #[.slice none 0 0, .int .i64 7]) ∧ w' = w := by
  go_enter Try.func6, Try.ntmps6
  go_wp2_with fail
  go_ret2
  exact ⟨rfl, rfl⟩

set_option maxRecDepth 20000 in
set_option maxHeartbeats 4000000 in
theorem write_any (v : Value) (fs : List Fd) (w : World) (hF : Fds w v fs) (hf : ∀ f ∈ fs, f.Fit) : Calls Try.prog 6 #[v] w fun e w' => Wrote w.heap.size w' e (wrI fs) ∧ Below w.heap.size w w' := by
  obtain ⟨sa, cap, rfl, hcap, hC⟩ := hF
  by_cases hfull : 4096 < fs.length
  · refine (write_full sa fs.length cap w (by omega)).mono ?_
    rintro e w' ⟨rfl, rfl⟩
    rw [wr_full hfull]
    exact ⟨⟨_, rfl, World.ownsRow_nil _ _ _ _⟩, Below.refl _ _⟩
  · have HC : Hid (∀ i f, fs[i]? = some f → ∃ b off qa l c, sa = some ⟨b, off, none⟩ ∧ FCell w b (off + i * 4) f qa l c) := hC
    have HF : Hid (∀ f ∈ fs, f.Fit) := hf
    have HFU : Hid (¬ 4096 < fs.length) := hfull
    obtain ⟨n, hn⟩ : ∃ n, fs.length = n := ⟨_, rfl⟩
    have HN : Hid (fs.length = n) := hn
    rw [hn] at hcap hfull ⊢
    have n0 : (n : Int) ≤ 4096 := by omega
    have n1 : (n : Int) ≤ (cap : Int) := by omega
    have d0 : decide (4096 < (n : Int)) = false := by simpa using n0
    obtain ⟨r, hr⟩ : ∃ r, wrI fs = r := ⟨_, rfl⟩
    have HR : Hid (wrI fs = r) := hr
    rw [hr]
    clear hC hf hn hcap hfull hr
    go_enter Try.func6, Try.ntmps6
    go_wp2_with fail
    go_loopw [4, 15] (fun x i wr => ∃ k : Nat, k ≤ n ∧ i = .int .i64 (k : Int) ∧ x = .int .i64 ((encL (fs.take k)).length : Int) ∧ (fs.take k).all okF = true ∧ Below w.heap.size w wr) (fun x i wr => n - (intOf i).toNat)
    case atStart => exact ⟨0, by omega, rfl, rfl, rfl, Below.refl _ _⟩
    case round =>
      obtain ⟨k, hk, rfl, rfl, hok, hbel⟩ := hrel
      have HOK : Hid ((fs.take k).all okF = true) := hok
      have HBE : Hid (Below w.heap.size w wr) := hbel
      have hsz := encL_len_take fs HF.out k hok
      obtain ⟨S, hS⟩ : ∃ S, (encL (fs.take k)).length = S := ⟨_, rfl⟩
      have HS : Hid ((encL (fs.take k)).length = S) := hS
      rw [hS] at hsz ⊢
      have s0 : (S : Int) ≤ 5000000000 := by omega
      clear hok hbel hS hsz
      by_cases hlt : k < n
      · obtain ⟨f, hfk⟩ : ∃ f, fs[k]? = some f := ⟨_, List.getElem?_eq_getElem (by have := HN.out; omega)⟩
        obtain ⟨b, off, qa, l, c, hsa, hcell⟩ := HC.out k f hfk
        subst hsa
        have hcw := hcell.later HBE.out
        obtain ⟨c0, c1, c2, c3, csrc⟩ := hcw
        have hlen := hcell.len
        have HFK : Hid (fs[k]? = some f ∧ f.b.length = l) := ⟨hfk, hlen⟩
        clear hfk hcell csrc hlen
        obtain ⟨x, hx⟩ : ∃ x : Int, (f.n : Int) = x := ⟨_, rfl⟩
        rw [hx] at c2
        have HXN : Hid ((f.n : Int) = x) := hx
        have HFF : Hid f.Fit := HF.out f (List.mem_of_getElem? HFK.out.1)
        clear hx
        go_wp2_with fail
        have h22 := rightField_any f.num f.typ f.n qa l c (wr.alloc (.cells #[.int .i64 f.num, .int .i64 f.typ, .int .u64 x, .slice qa l c] 35))
        rw [HXN.out] at h22
        cases hkf : okF f with
        | false =>
          rw [show okN f.num f.typ f.n l = false by rw [← HFK.out.2]; exact hkf] at h22
          refine h22.mono ?_
          rintro e w1 ⟨rfl, hb1⟩
          have HB1 : Hid (Below w.heap.size w w1) := HBE.out.trans (((bel1 _ _).trans (hb1.mono (by simp))).mono HBE.out.size)
          clear hb1
          go_wp2_with fail
          go_ret2
          have hbad : fs.all okF = false := by
            rw [List.all_eq_false]
            exact ⟨f, List.mem_of_getElem? HFK.out.1, by simp [hkf]⟩
          rw [← HR.out, wr_bad HFU.out hbad]
          exact ⟨⟨_, rfl, World.ownsRow_nil _ _ _ _⟩, HB1.out⟩
        | true =>
          rw [show okN f.num f.typ f.n l = true by rw [← HFK.out.2]; exact hkf] at h22
          refine h22.mono ?_
          rintro e w1 ⟨rfl, hb1⟩
          have HB1 : Hid (Below w.heap.size w w1) := HBE.out.trans (((bel1 _ _).trans (hb1.mono (by simp))).mono HBE.out.size)
          obtain ⟨e0, e1, e2, e3⟩ := box4 hb1
          have hes := encF_short HFF.out hkf
          have HKF : Hid (okF f = true) := hkf
          have h23 := fieldSize_any f qa c w1 HFF.out hkf
          rw [HFK.out.2, HXN.out] at h23
          obtain ⟨E, hE⟩ : ∃ E, (encF f).length = E := ⟨_, rfl⟩
          have HE : Hid ((encF f).length = E) := hE
          rw [hE] at h23 hes
          have H23 : Hid (Calls Try.prog 23 #[.agg #[.int .i64 f.num, .int .i64 f.typ, .int .u64 x, .slice qa l c]] w1 fun e w' => e = .returned (.int .i64 (E : Int)) ∧ Below w1.heap.size w1 w') := h23
          have E0 : (E : Int) ≤ 1048600 := by omega
          clear hb1 hkf h22 h23 hE hes
          go_wp2_with (go_at_call 23; refine H23.out.mono ?_; rintro e w2 ⟨rfl, hb2⟩)
          go_roundw
          case rel =>
            have e := take_snoc' fs k f HFK.out.1
            refine ⟨k + 1, by omega, by go_num, ?_, ?_, HB1.out.trans (hb2.mono HB1.out.size)⟩
            · rw [e, encL_app, List.length_append, HS.out]
              simp only [encL, List.append_nil, HE.out]
              go_num
            · rw [e, List.all_append, HOK.out]
              simp [HKF.out]
          case measure => simp [intOf]; omega
      · have hkn : k = n := by omega
        have HA : Hid (fs.take k = fs) := by show _ = _; rw [hkn, ← HN.out]; exact List.take_length
        rw [HA.out] at HS HOK
        by_cases hlong : 1048576 < (S : Int)
        · go_wp2_with fail
          go_ret2
          rw [← HR.out, wr_long HFU.out HOK.out (by have := HS.out; omega)]
          exact ⟨⟨_, rfl, World.ownsRow_nil _ _ _ _⟩, HBE.out⟩
        · obtain ⟨i0, hi, hz0, hz1, hz2⟩ := info_parts info5
          have HRR : Hid (r = (encL fs, 0)) := by show _ = _; rw [← HR.out, wr_ok HFU.out HOK.out (by have := HS.out; omega)]
          have HWS : Hid (w.heap.size ≤ wr.heap.size) := HBE.out.size
          go_wp2_with (refine wpList_make_own _ rfl _ _ 25 rfl w.heap.size 5 i0 (.int .u8 0) 1 Try.underlying25 hi hz0 hz1 .i64 .i64 S S rfl rfl rfl (by rw [hz2]; omega) (by unfold maxLen; omega) HWS.out ?_; intro w1 hown1 hgrow1)
          have HB1 : Hid (Below w.heap.size w w1) := HBE.out.grown hgrow1 HWS.out (by intro q hq; cases hq)
          have HO1 : Hid (w1.ownsRow w.heap.size 5 1 (.slice (some ⟨wr.heap.size, 0, none⟩) 0 S) 0 []) := hown1
          have HST : Hid (∀ i f, fs[i]? = some f → f.Fit ∧ okF f = true) := fun i f hi => ⟨HF.out f (List.mem_of_getElem? hi), List.all_eq_true.1 HOK.out f (List.mem_of_getElem? hi)⟩
          have HSL : Hid ((S : Int) ≤ 1048576) := by show _ ≤ _; omega
          have HSS : Hid (∀ k, (encL (fs.take k)).length ≤ S) := by
            intro k
            have e : encL fs = encL (fs.take k) ++ encL (fs.drop k) := by rw [← encL_app, List.take_append_drop]
            have h := HS.out
            rw [e, List.length_append] at h
            omega
          clear hown1 hgrow1 hi hz0 hz1 hz2 hlong hlt hkn hk
          go_loopw [7, 33] (fun x i wz => ∃ q : Nat, q ≤ n ∧ i = .int .i64 (q : Int) ∧ wz.ownsRow w.heap.size 5 1 x (encL (fs.take q)).length (u8l (encL (fs.take q))) ∧ Below w.heap.size w wz) (fun x i wz => n - (intOf i).toNat)
          case atStart => exact ⟨0, by omega, rfl, HO1.out, HB1.out⟩
          case round =>
            obtain ⟨q, hq, rfl, hown, hbel⟩ := hrel
            have HOW : Hid (wr.ownsRow w.heap.size 5 1 u7 (encL (fs.take q)).length (u8l (encL (fs.take q)))) := hown
            have HBZ : Hid (Below w.heap.size w wr) := hbel
            clear hown hbel
            by_cases hlt : q < n
            · obtain ⟨f, hfk⟩ : ∃ f, fs[q]? = some f := ⟨_, List.getElem?_eq_getElem (by have := HN.out; omega)⟩
              obtain ⟨b, off, qa, l, c, hsa, hcell⟩ := HC.out q f hfk
              subst hsa
              have hcw := hcell.later HBZ.out
              obtain ⟨c0, c1, c2, c3, csrc⟩ := hcw
              have hlen := hcell.len
              obtain ⟨x, hx⟩ : ∃ x : Int, (f.n : Int) = x := ⟨_, rfl⟩
              rw [hx] at c2
              have HFK : Hid (fs[q]? = some f ∧ f.b.length = l ∧ (f.n : Int) = x) := ⟨hfk, hlen, hx⟩
              have HCL : Hid (FCell w b (off + q * 4) f qa l c) := hcell
              clear hfk hcell csrc hlen hx
              go_wp2_with fail
              have h24 := appendField_any w.heap.size u7 (encL (fs.take q)).length (u8l (encL (fs.take q))) f qa c (wr.alloc (.cells #[.int .i64 f.num, .int .i64 f.typ, .int .u64 x, .slice qa l c] 35)) (HST.out q f HFK.out.1).1 (HST.out q f HFK.out.1).2 (HOW.out.alloc _) (by have := HBZ.out.size; simp; omega) (by have h1 := HSS.out q; have h2 := HSL.out; omega) (fun W hW => by
                have h := HCL.out.src.later (HBZ.out.trans (((bel1 wr _).mono HBZ.out.size).trans hW))
                rw [HFK.out.2.1]
                exact h)
              rw [HFK.out.2.1, HFK.out.2.2] at h24
              refine h24.mono ?_
              rintro e w2 ⟨⟨v2, rfl, ho2⟩, hb2⟩
              have HO2 : Hid (w2.ownsRow w.heap.size 5 1 v2 (encL (fs.take (q + 1))).length (u8l (encL (fs.take (q + 1))))) := by
                show World.ownsRow _ _ _ _ _ _ _
                have e := take_snoc' fs q f HFK.out.1
                rw [e, encL_app]
                simp only [encL, List.append_nil]
                rw [← u8l_app, List.length_append]
                exact ho2
              have HB2 : Hid (Below w.heap.size w w2) := HBZ.out.trans (((bel1 wr _).mono HBZ.out.size).trans hb2)
              clear ho2 hb2 h24
              go_wp2_with fail
              go_roundw
              case rel => exact ⟨q + 1, by omega, by go_num, HO2.out, HB2.out⟩
              case measure => simp [intOf]; omega
            · have hqn : q = n := by omega
              go_wp2_with fail
              go_ret2
              have e : fs.take q = fs := by rw [hqn, ← HN.out]; exact List.take_length
              have ho := HOW.out
              rw [e] at ho
              rw [HRR.out]
              exact ⟨⟨_, rfl, ho⟩, HBZ.out⟩
end Go.Proofs.Ytlgkajellndhlaa
