/- Reading of one's own bytes; the form of what is read; counts; fields that are appended. -/
import Derived.Test.YtlgkajellndhlaaBack2
import Derived.Test.YtlgkajellndhlaaArgs
namespace Go.Proofs.Ytlgkajellndhlaa
open Go.RowKit
set_option linter.unusedVariables false
set_option linter.unusedSimpArgs false

set_option maxRecDepth 20000 in
set_option maxHeartbeats 2000000 in
theorem read_nil (w : World) : Calls Try.prog 19 #[.slice none 0 0] w fun e w' => Reads w.heap.size w' e ([], 0, 0) ∧ Below w.heap.size w w' := by
  go_enter Try.func19, Try.ntmps19
  go_wp2_with fail
  go_loopw [5, 6] (fun x i wr => x = .slice none 0 0 ∧ i = .int .i64 0 ∧ wr = w) (fun x i wr => 0)
  case atStart => exact ⟨rfl, rfl, rfl⟩
  case round =>
    obtain ⟨rfl, rfl, rfl⟩ := hrel
    go_wp2_with fail
    go_ret3
    exact ⟨reads_no, Below.refl _ _⟩
theorem own_brow {w : World} {base g cap : Nat} {zs : List Int} (h : w.ownsRow base 5 1 (.slice (some ⟨g, 0, none⟩) zs.length cap) zs.length (u8l zs)) (hb : Byt zs) (hl : (zs.length : Int) ≤ 140737488351232) : BRow w g 0 zs ∧ g < w.heap.size ∧ zs.length ≤ cap := by
  refine ⟨⟨fun i hi => ?_, hb, hl⟩, (h.lt g rfl).2, own_cap h⟩
  rw [Nat.zero_add, h.cellAt i (by omega)]
  unfold u8l
  rw [List.getElem?_map, List.getElem?_eq_getElem hi, List.getD_eq_getElem?_getD, List.getElem?_eq_getElem hi]
  rfl
theorem rdI_nil : rdI [] = ([], 0, 0) := by simp [rdI, rdL]
/-- Reading of one's own bytes. -/
theorem read_own {w : World} {base : Nat} {v : Value} {zs : List Int} (h : w.ownsRow base 5 1 v zs.length (u8l zs)) (hb : Byt zs) (hl : (zs.length : Int) ≤ 140737488351232) : Calls Try.prog 19 #[v] w fun e w' => Reads w.heap.size w' e (rdI zs) ∧ Below w.heap.size w w' := by
  rcases h.2 with ⟨rfl, h0⟩ | ⟨g, cap, cur, rfl, _⟩
  · have : zs = [] := List.eq_nil_of_length_eq_zero h0
    subst this
    rw [rdI_nil]
    exact read_nil w
  · obtain ⟨B, hg, hc⟩ := own_brow h hb hl
    exact read_any g 0 cap zs w B hg hc
/-- Reading of a part of one's own bytes. -/
theorem read_part {w : World} {base g cap : Nat} {zs : List Int} (h : w.ownsRow base 5 1 (.slice (some ⟨g, 0, none⟩) zs.length cap) zs.length (u8l zs)) (hb : Byt zs) (hl : (zs.length : Int) ≤ 140737488351232) (j : Nat) (hj : j ≤ zs.length) : Calls Try.prog 19 #[.slice (some ⟨g, 0, none⟩) j cap] w fun e w' => Reads w.heap.size w' e (rdI (zs.take j)) ∧ Below w.heap.size w w' := by
  obtain ⟨B, hg, hc⟩ := own_brow h hb hl
  have B2 := B.cut 0 j (by omega)
  rw [List.drop_zero, Nat.add_zero] at B2
  have hlen : (zs.take j).length = j := by simp; omega
  have hr := read_any g 0 cap (zs.take j) w B2 hg (by omega)
  rw [hlen] at hr
  exact hr
/-- What was read, as fields. -/
theorem reads_fds {n₀ : Nat} {w' : World} {v : Value} {ps : List (Fd × Value)} (h1 : w'.ownsRow n₀ 35 4 v ps.length (flL ps)) (h2 : OwnB n₀ w' ps) : Fds w' v (ps.map (·.1)) := fds_of h1 fun p hp => own_src (h2 p hp)

set_option maxRecDepth 20000 in
set_option maxHeartbeats 2000000 in
/-- The form of a message that is read. -/
theorem canon_own {w : World} {base : Nat} {v : Value} {zs : List Int} {fs : List Fd} (h : w.ownsRow base 5 1 v zs.length (u8l zs)) (hb : Byt zs) (hl : (zs.length : Int) ≤ 140737488351232) (hr : rdI zs = (fs, 0, 0)) (hf : ∀ f ∈ fs, f.Fit) :
    Calls Try.prog 20 #[v] w fun e w' => (∃ rv, e = .returned (.tuple #[rv, .int .i64 (wrI fs).2, .int .i64 0]) ∧ w'.ownsRow w.heap.size 5 1 rv (wrI fs).1.length (u8l (wrI fs).1)) ∧ Below w.heap.size w w' := by
  have HR := read_own h hb hl
  rw [hr] at HR
  have HRD : Hid (Calls Try.prog 19 #[v] w fun e w' => Reads w.heap.size w' e (fs, 0, 0) ∧ Below w.heap.size w w') := HR
  have HF : Hid (∀ f ∈ fs, f.Fit) := hf
  obtain ⟨va, vc, rfl⟩ := own_slice h
  obtain ⟨N, hN⟩ : ∃ N, zs.length = N := ⟨_, rfl⟩
  obtain ⟨E, hE⟩ : ∃ E, (wrI fs).2 = E := ⟨_, rfl⟩
  have HE : Hid ((wrI fs).2 = E) := hE
  rw [hN] at HRD ⊢
  rw [hE]
  clear HR h hb hl hr hf hE
  go_enter Try.func20, Try.ntmps20
  go_wp2_with fail
  refine HRD.out.mono ?_
  rintro e w1 ⟨⟨v1, ps, rfl, hps, ho1, hb1⟩, hB1⟩
  have hF1 := reads_fds ho1 hb1
  have hps' : ps.map (·.1) = fs := hps
  rw [hps'] at hF1
  have HF1 : Hid (Fds w1 v1 fs) := hF1
  have HB1 : Hid (Below w.heap.size w w1) := hB1
  clear ho1 hb1 hF1 hB1 hps hps'
  go_wp2_with fail
  refine (write_any v1 fs w1 HF1.out HF.out).mono ?_
  rintro e w2 ⟨⟨rv, rfl, hown⟩, hb2⟩
  have HO : Hid (w2.ownsRow w.heap.size 5 1 rv (wrI fs).1.length (u8l (wrI fs).1)) := own_low hown HB1.out.size
  have HB2 : Hid (Below w.heap.size w w2) := HB1.out.trans (hb2.mono HB1.out.size)
  clear hown hb2
  rw [HE.out]
  go_wp2_with fail
  go_ret3
  exact ⟨⟨rv, rfl, HO.out⟩, HB2.out⟩
theorem count_any (n m : Int) (w : World) (l0 : -9223372036854775808 ≤ n) (l1 : n ≤ 9223372036854775807) (h0 : 1 ≤ m) (h1 : m ≤ 4611686018427387904) :
    Calls Try.prog 21 #[.int .i64 n, .int .i64 m] w fun e w' => e = .returned (.int .i64 (n % m)) ∧ w' = w := by
  have ht : n.tmod m = if 0 ≤ n ∨ n % m = 0 then n % m else n % m - m := by
    rw [Int.tmod_eq_emod]
    by_cases c : 0 ≤ n
    · simp [c]
    · by_cases c2 : n % m = 0
      · simp [c2, Int.dvd_of_emod_eq_zero c2]
      · rw [if_neg (by intro hh; rcases hh with hh | hh; exact c hh; exact c2 (Int.emod_eq_zero_of_dvd hh)), if_neg (by omega)]
        omega
  have hb0 := Int.emod_nonneg n (show m ≠ 0 by omega)
  have hb1 := Int.emod_lt_of_pos n (show 0 < m by omega)
  by_cases c : 0 ≤ n
  · clear ht
    go_enter Try.func21, Try.ntmps21
    go_wp2
    go_ret
    exact ⟨rfl, rfl⟩
  · by_cases c2 : n % m = 0
    · rw [if_pos (Or.inr c2), c2] at ht
      have HZ : Hid (n % m = 0) := c2
      clear c2 hb0 hb1
      go_enter Try.func21, Try.ntmps21
      go_wp2
      go_ret
      exact ⟨ret_int HZ.out.symm, rfl⟩
    · rw [if_neg (by omega)] at ht
      have hp : n % m - m < 0 := by omega
      generalize hr : n % m = r at *
      clear hr c2
      go_enter Try.func21, Try.ntmps21
      go_wp2
      go_ret
      exact ⟨ret_int (by omega), rfl⟩

/-- A slice that is nil, or has a place. -/
def Nly (v : Value) : Prop := v = .slice none 0 0 ∨ ∃ a l c, v = .slice (some a) l c
theorem nly_arg {H : Type} {enc : TypeId × Value → H} {W : World} {fuel : Nat} {v : Value} {d : DataW H} {q : List MemPlace} (h : DataW.trod enc Try.prog W 0 (fun _ => true) true fuel 22 [v] = some (d, q)) : Nly v := by
  rcases Deep.open_slice Try.underlying22 h with ⟨hcs, _⟩ | ⟨a, len, cap, m, n, D, Pl, hcs, _⟩
  · simp only [List.cons.injEq, and_true] at hcs
    exact .inl hcs
  · simp only [List.cons.injEq, and_true] at hcs
    exact .inr ⟨a, len, cap, hcs⟩
/-- The cells of a list of fields. -/
theorem fds_ps {W : World} {fs : List Fd} {ad : Addr} {l c : Nat} (h : Fds W (.slice (some ad) l c) fs) : ∃ ps : List (Fd × Value), ps.map (·.1) = fs ∧ (∀ p ∈ ps, Src W p.2 p.1.b) ∧ ∀ j u, (flL ps)[j]? = some u → W.cell? (ad.add j) = some u := by
  obtain ⟨sa, cap, hv, hcap, hC⟩ := h
  obtain ⟨rfl, -, -⟩ := Value.slice.inj hv
  have each : ∀ i, i < fs.length → ∃ p : Fd × Value, fs[i]? = some p.1 ∧ Src W p.2 p.1.b ∧ ∀ r, r < 4 → W.cell? (ad.add (i * 4 + r)) = (fl4 p)[r]? := fun i hi => by
    obtain ⟨b, off, qa, l', c', hsa, hF⟩ := hC i fs[i] (List.getElem?_eq_getElem hi)
    have had : ad = ⟨b, off, none⟩ := by simpa using hsa
    subst had
    refine ⟨(fs[i], .slice qa l' c'), List.getElem?_eq_getElem hi, hF.src, fun r hr => ?_⟩
    rw [Addr.add_mid]
    have h0 := hF.c0
    have h1 := hF.c1
    have h2 := hF.c2
    have h3 := hF.c3
    match r, hr with
    | 0, _ => rw [Nat.add_zero, h0]; rfl
    | 1, _ => rw [show off + (i * 4 + 1) = off + i * 4 + 1 by omega, h1]; rfl
    | 2, _ => rw [show off + (i * 4 + 2) = off + i * 4 + 2 by omega, h2]; rfl
    | 3, _ => rw [show off + (i * 4 + 3) = off + i * 4 + 3 by omega, h3]; rfl
  have inh : Inhabited (Fd × Value) := ⟨(⟨0, 0, 0, []⟩, .bool false)⟩
  obtain ⟨G, hG⟩ := Deep.choose_lt each
  have hat : ∀ i p, ((List.range fs.length).map G)[i]? = some p → i < fs.length ∧ p = G i := fun i p hp => by
    rw [List.getElem?_map] at hp
    have hi : i < fs.length := by
      cases hq : (List.range fs.length)[i]? with
      | none => rw [hq] at hp; cases hp
      | some y => have := (List.getElem?_eq_some_iff.1 hq).1; simpa using this
    rw [List.getElem?_range hi] at hp
    exact ⟨hi, by simpa using hp.symm⟩
  refine ⟨(List.range fs.length).map G, ?_, ?_, ?_⟩
  · apply List.ext_getElem?
    intro i
    rw [List.getElem?_map]
    by_cases hi : i < fs.length
    · rw [List.getElem?_map, List.getElem?_range hi, (hG i hi).1]
      rfl
    · rw [List.getElem?_eq_none (by simp; omega), List.getElem?_eq_none (by omega)]
      rfl
  · intro p hp
    obtain ⟨i, hi, rfl⟩ := List.mem_map.1 hp
    exact (hG i (List.mem_range.1 hi)).2.1
  · intro j u hu
    have hj : j < fs.length * 4 := by
      have := (List.getElem?_eq_some_iff.1 hu).1
      rw [flL_len] at this
      simpa using this
    have hi : j / 4 < fs.length := by omega
    have hp : ((List.range fs.length).map G)[j / 4]? = some (G (j / 4)) := by
      rw [List.getElem?_map, List.getElem?_range hi]
      rfl
    have h1 := flL_at _ (j / 4) _ (j % 4) hp (by omega)
    rw [show j / 4 * 4 + j % 4 = j by omega] at h1
    have h2 := (hG (j / 4) hi).2.2 (j % 4) (by omega)
    rw [show j / 4 * 4 + j % 4 = j by omega] at h2
    rw [h2, ← h1, hu]
theorem flL_one : ∀ (ps : List (Fd × Value)), (∀ p ∈ ps, Slc p.2) → ∀ u ∈ flL ps, u.oneCell' = true
  | [], _, u, hu => nomatch hu
  | p :: r, h, u, hu => by
    rcases List.mem_append.1 hu with hu | hu
    · exact fl4_one p (h p List.mem_cons_self) u hu
    · exact flL_one r (fun q hq => h q (List.mem_cons_of_mem _ hq)) u hu
/-- A whole list of fields, appended. -/
theorem wpList_append_fds {w : World} {ops : Array Oper} {rest : List Oper} {o : Oper} {a : Act} {Q : Exit → Act → World → Prop} (hgd : o.guard = none) (s x : Operand)
    (ho : o.op = .call { callee := .builtin .append, args := #[s, x], argTypes := #[22, 22] }) (base : Nat) (v : Value) (n : Nat) (xs : List Value) (hs : a.eval s = v) (hown : w.ownsRow base 38 4 v n xs)
    (y : Value) (fs : List Fd) (hx : a.eval x = y) (hy : Nly y) (W : World) (hF : Fds W y fs) (hW : Below W.heap.size W w) (hb : n + fs.length ≤ 100000000) (hbase : base ≤ w.heap.size)
    (h : ∀ v' w' ps, ps.map (·.1) = fs → (∀ p ∈ ps, Src W p.2 p.1.b) → w'.ownsRow base 38 4 v' (n + fs.length) (xs ++ flL ps) → w.grownBy w' v.ownBlock → wpList Try.prog ops Q rest (a.put o.dst v') w') : wpList Try.prog ops Q (o :: rest) a w := by
  obtain ⟨i0, hi, hz0, hz1, hz2⟩ := info_parts info38'
  rcases hy with rfl | ⟨ad, l, c, rfl⟩
  · obtain ⟨sa, cap, hv, hcap, hC⟩ := hF
    obtain ⟨-, h0, -⟩ := Value.slice.inj hv
    have : fs = [] := List.eq_nil_of_length_eq_zero h0.symm
    subst this
    refine wpList_append_own_none hgd s x 22 ho base 38 i0 4 Try.underlying22 hi v n xs hs hown hx ?_
    refine h v w [] rfl (fun p hp => nomatch hp) ?_ ?_
    · simp only [List.length_nil, Nat.add_zero, flL, List.append_nil]
      exact hown
    · exact ⟨rfl, rfl, rfl, Nat.le_refl _, fun _ _ _ => rfl⟩
  · obtain ⟨ps, e1, e2, e3⟩ := fds_ps hF
    obtain ⟨sa, cap, hv, hcap, hC⟩ := hF
    obtain ⟨-, rfl, -⟩ := Value.slice.inj hv
    have hl : ps.length = fs.length := by rw [← e1, List.length_map]
    exact wpList_append_own w hgd s x 22 ho base 38 i0 _ 4 48 Try.underlying22 hi hz0 hz1 hz2 rfl (by decide) v n xs hs hown ad fs.length c (flL ps) hx (by rw [flL_len, hl]) (fun j u hu => (hW.cell (World.block_lt_of_cell? W _ (e3 j u hu))).trans (e3 j u hu)) (flL_one ps fun p hp => by obtain ⟨q1, q2, q3⟩ := (e2 p hp).slice; exact ⟨_, _, _, q3⟩) (by unfold maxLen; omega) (by omega) hbase fun v' w' h1 h2 _ => h v' w' ps e1 e2 h1 h2
end Go.Proofs.Ytlgkajellndhlaa
