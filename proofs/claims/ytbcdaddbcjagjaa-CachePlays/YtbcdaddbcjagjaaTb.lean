/- The model's cache: its rows are turned; count, Counts, drop, first. -/
import Derived.Test.YtbcdaddbcjagjaaTa
import Derived.Test.YtbcdaddbcjagjaaRb
import Derived.Maps.AppendAt
namespace Go.Proofs.Ytbcdaddbcjagjaa
open Go.RowKit
set_option linter.unusedVariables false
set_option linter.unusedSimpArgs false

variable {w w' w2 W : World} {R B : Nat} {most : Int} {lv cv lv' cv' : Value} {l l' : List An} {cs cs' : List Cn}
theorem i46_ex : ∃ i, Try.prog.info? 46 = some i ∧ i.zero = some (.agg #[.string ⟨#[]⟩, .int .i64 0, .int .i64 0]) ∧ i.size = 3 ∧ i.bytes = 32 := by
  obtain ⟨i0, hi⟩ : ∃ i, Try.prog.info? 46 = some i := Option.isSome_iff_exists.1 (by kernel_rfl)
  refine ⟨i0, hi, ?_, ?_, ?_⟩
  · have h2 : (Try.prog.info? 46).map (·.zero) = some (some (.agg #[.string ⟨#[]⟩, .int .i64 0, .int .i64 0])) := by kernel_rfl
    rw [hi] at h2
    simpa using h2
  · have h2 : (Try.prog.info? 46).map (·.size) = some 3 := by kernel_rfl
    rw [hi] at h2
    simpa using h2
  · have h2 : (Try.prog.info? 46).map (·.bytes) = some 32 := by kernel_rfl
    rw [hi] at h2
    simpa using h2
theorem i78_ex : ∃ i, Try.prog.info? 78 = some i ∧ i.zero = some (.agg #[.string ⟨#[]⟩, .string ⟨#[]⟩, .string ⟨#[]⟩, .string ⟨#[]⟩]) ∧ i.size = 4 ∧ i.bytes = 64 := by
  obtain ⟨i0, hi⟩ : ∃ i, Try.prog.info? 78 = some i := Option.isSome_iff_exists.1 (by kernel_rfl)
  refine ⟨i0, hi, ?_, ?_, ?_⟩
  · have h2 : (Try.prog.info? 78).map (·.zero) = some (some (.agg #[.string ⟨#[]⟩, .string ⟨#[]⟩, .string ⟨#[]⟩, .string ⟨#[]⟩])) := by kernel_rfl
    rw [hi] at h2
    simpa using h2
  · have h2 : (Try.prog.info? 78).map (·.size) = some 4 := by kernel_rfl
    rw [hi] at h2
    simpa using h2
  · have h2 : (Try.prog.info? 78).map (·.bytes) = some 64 := by kernel_rfl
    rw [hi] at h2
    simpa using h2
theorem MS.tags (h : MS w R B most lv cv l cs) : (∀ q, lv.ownBlock = some q → q ≠ R ∧ cv.ownBlock ≠ some q) ∧ ∀ q, cv.ownBlock = some q → q ≠ R := by
  refine ⟨fun q hq => ?_, fun q hq => ?_⟩
  · obtain ⟨c, hc⟩ := own_tag h.rl hq
    refine ⟨ne_tag hc h.box (by decide), fun e => ?_⟩
    obtain ⟨c2, hc2⟩ := own_tag h.rc e
    exact ne_tag hc hc2 (by decide) rfl
  · obtain ⟨c, hc⟩ := own_tag h.rc hq
    exact ne_tag hc h.box (by decide)
theorem MS.turnC (h : MS w R B most lv cv l cs) (hB : Below w.heap.size w W) (ho : w2.ownsRow B 46 3 cv' cs'.length (fl fC cs')) (hg : W.grownBy w2 cv.ownBlock) (hat : cv'.ownBlock = cv.ownBlock ∨ cv'.ownBlock = some W.heap.size) :
    MS (w2.setCell ⟨R, 2, none⟩ cv') R B most lv cv' l cs' ∧ Fr (GM R lv cv) (GM R lv cv') w (w2.setCell ⟨R, 2, none⟩ cv') := by
  obtain ⟨t1, t2⟩ := h.tags
  have hs := hB.size
  have hRlt : R < w.heap.size := h.lt R (.inl rfl)
  have hR2 : w2.heap[R]? = some (.cells #[.int .i64 most, lv, cv] 58 (0, 0)) := (hg.block R (by omega) (fun e => t2 R e.symm rfl)).trans ((hB.block R hRlt).trans h.box)
  have hcR : ∀ q, cv'.ownBlock = some q → q ≠ R := fun q hq => by
    obtain ⟨c, hc⟩ := own_tag ho hq
    exact ne_tag hc hR2 (by decide)
  refine ⟨⟨row_set _ hR2, own_at h.rl fun q hq => ?_, own_at ho fun q hq => Below.heap_setCell _ _ _ _ (hcR q hq), h.rb⟩, ⟨?_, ?_, ?_, ?_, fun q hq hn => ?_, ?_⟩⟩
  · have hql := (h.rl.lt q hq).2
    exact (Below.heap_setCell _ _ _ _ (t1 q hq).1).trans ((hg.block q (by omega) (fun e => (t1 q hq).2 e.symm)).trans (hB.block q hql))
  · exact hg.os.trans hB.os
  · exact hg.tape.trans hB.tape
  · exact hg.output.trans hB.output
  · have := hg.size
    simp
    omega
  · exact (Below.heap_setCell _ _ _ _ (show q ≠ R from fun e => hn (.inl e))).trans ((hg.block q (by omega) (fun e => hn (.inr (.inr e.symm)))).trans (hB.block q hq))
  · rintro q (e | e | e)
    · exact .inl (.inl e)
    · exact .inl (.inr (.inl e))
    · rcases hat with e2 | e2
      · rw [e2] at e
        exact .inl (.inr (.inr e))
      · rw [e2] at e
        have : W.heap.size = q := by simpa using e
        exact .inr (by omega)
theorem MS.turnL (h : MS w R B most lv cv l cs) (hB : Below w.heap.size w w2) (ho : w2.ownsRow w.heap.size 78 4 lv' l'.length (fl fA l')) :
    MS (w2.setCell ⟨R, 1, none⟩ lv') R B most lv' cv l' cs ∧ Fr (GM R lv cv) (GM R lv' cv) w (w2.setCell ⟨R, 1, none⟩ lv') := by
  obtain ⟨t1, t2⟩ := h.tags
  have hs := hB.size
  have hRlt : R < w.heap.size := h.lt R (.inl rfl)
  have hBw : B ≤ w.heap.size := by have := h.rb; omega
  have hR2 : w2.heap[R]? = some (.cells #[.int .i64 most, lv, cv] 58 (0, 0)) := (hB.block R hRlt).trans h.box
  refine ⟨⟨row_set _ hR2, own_at (own_low ho hBw) fun q hq => Below.heap_setCell _ _ _ _ (show q ≠ R by have := (ho.lt q hq).1; omega), own_at h.rc fun q hq => ?_, h.rb⟩, ⟨?_, ?_, ?_, ?_, fun q hq hn => ?_, ?_⟩⟩
  · have hql := (h.rc.lt q hq).2
    exact (Below.heap_setCell _ _ _ _ (t2 q hq)).trans (hB.block q hql)
  · exact hB.os
  · exact hB.tape
  · exact hB.output
  · simp
    omega
  · exact (Below.heap_setCell _ _ _ _ (show q ≠ R from fun e => hn (.inl e))).trans (hB.block q hq)
  · rintro q (e | e | e)
    · exact .inl (.inl e)
    · exact .inr (ho.lt q e).1
    · exact .inl (.inr (.inr e))
/-- Where a tenant's counts stand. -/
def fndN (s : List UInt8) : List Cn → Nat → Option Nat
  | [], _ => none
  | a :: r, i => if a.tn = s then some i else fndN s r (i + 1)
theorem fndN_hit {s : List UInt8} : ∀ {l : List Cn} {j i : Nat} {a : Cn}, l[j]? = some a → a.tn = s → (∀ (b : Nat) (x : Cn), b < j → l[b]? = some x → x.tn ≠ s) → fndN s l i = some (i + j)
  | [], j, i, a, h, _, _ => by simp at h
  | x :: r, 0, i, a, h, hk, _ => by
    have e : x = a := by simpa using h
    subst e
    rw [fndN, if_pos hk]
    rfl
  | x :: r, j + 1, i, a, h, hk, hb => by
    rw [fndN, if_neg (hb 0 x (by omega) rfl), fndN_hit (by simpa using h) hk (fun b y hb' hy => hb (b + 1) y (by omega) (by simpa using hy))]
    congr 1
    omega
theorem fndN_miss {s : List UInt8} : ∀ {l : List Cn} {i : Nat}, (∀ (b : Nat) (x : Cn), l[b]? = some x → x.tn ≠ s) → fndN s l i = none
  | [], i, _ => rfl
  | x :: r, i, h => by
    rw [fndN, if_neg (h 0 x rfl)]
    exact fndN_miss fun b y hy => h (b + 1) y (by simpa using hy)
theorem fndN_at {s : List UInt8} : ∀ {l : List Cn} {i k : Nat}, fndN s l i = some k → i ≤ k ∧ ∃ a, l[k - i]? = some a ∧ a.tn = s
  | [], i, k, h => by simp [fndN] at h
  | x :: r, i, k, h => by
    unfold fndN at h
    split at h
    · rename_i e
      obtain rfl := Option.some.inj h
      exact ⟨Nat.le_refl _, x, by simp, e⟩
    · obtain ⟨h1, a, h2, h3⟩ := fndN_at h
      refine ⟨by omega, a, ?_, h3⟩
      rw [show k - i = (k - (i + 1)) + 1 by omega, List.getElem?_cons_succ]
      exact h2
def addN (s : List UInt8) (cs : List Cn) : List Cn := match fndN s cs 0 with | some _ => cs | none => cs ++ [⟨s, 0, 0⟩]
def idxN (s : List UInt8) (cs : List Cn) : Nat := (fndN s cs 0).getD cs.length
theorem addN_at (s : List UInt8) (cs : List Cn) : ∃ c, (addN s cs)[idxN s cs]? = some c ∧ c.tn = s := by
  unfold addN idxN
  cases h : fndN s cs 0 with
  | none => exact ⟨⟨s, 0, 0⟩, by simp, rfl⟩
  | some k =>
    obtain ⟨-, a, h2, h3⟩ := fndN_at h
    exact ⟨a, by simpa using h2, h3⟩
theorem addN_len (s : List UInt8) (cs : List Cn) : (addN s cs).length ≤ cs.length + 1 := by
  unfold addN
  split <;> simp
set_option maxRecDepth 20000 in
set_option maxHeartbeats 4000000 in
theorem MS.count (h : MS w R B most lv cv l cs) (hl : (cs.length : Int) ≤ 100000) (s : List UInt8) : Calls Try.prog 36 #[.pointer (some ⟨R, 0, none⟩), .string (tx s)] w fun e w' => e = .returned (.int .i64 (idxN s cs : Int)) ∧ ∃ cv', MS w' R B most lv cv' l (addN s cs) ∧ Fr (GM R lv cv) (GM R lv cv') w w' := by
  obtain ⟨-, sa, cap, rfl, hcap⟩ := h.forms
  obtain ⟨-, -, c2, -⟩ := h.cells
  have HH : Hid (MS w R B most lv (.slice sa cs.length cap) l cs) := h
  obtain ⟨n, hn⟩ : ∃ n, cs.length = n := ⟨_, rfl⟩
  have HN : Hid (cs.length = n) := hn
  rw [hn] at hcap hl c2 HH ⊢
  clear h hn
  go_enter Try.func36, Try.ntmps36
  go_wp2
  go_loopw [5] (fun b wx => ∃ j : Nat, b = .int .i64 (j : Int) ∧ j ≤ n ∧ Hid (∀ (b : Nat) (x : Cn), b < j → cs[b]? = some x → x.tn ≠ s) ∧ wx = w) (fun b wx => n - (intOf b).toNat)
  case atStart => exact ⟨0, rfl, by omega, (fun b x hb => by omega : ∀ (b : Nat) (x : Cn), b < 0 → cs[b]? = some x → x.tn ≠ s), rfl⟩
  case round =>
    obtain ⟨j, rfl, hj, HB, hw⟩ := hrel
    rw [hw]
    clear hw
    by_cases cj : j < n
    · have cj' : (j : Int) < (n : Int) := by omega
      obtain ⟨a, ha⟩ : ∃ a, cs[j]? = some a := ⟨_, List.getElem?_eq_getElem (by have := HN.out; omega)⟩
      obtain ⟨g, hsa, y0, -⟩ := HH.out.cnt ha
      subst hsa
      have HA : Hid (cs[j]? = some a) := ha
      have HCJ : Hid (j < n) := cj
      have HX : Hid (¬ (a.tn = s) → ∀ (b : Nat) (x : Cn), b < j + 1 → cs[b]? = some x → x.tn ≠ s) := fun hne b x hb hx => by
        rcases Nat.lt_or_ge b j with c | c
        · exact HB.out b x c hx
        · obtain rfl : b = j := by omega
          rw [ha] at hx
          rw [← Option.some.inj hx]
          exact hne
      clear ha cj hj
      by_cases e : a.tn = s
      · have hb : ((tx a.tn).toList == (tx s).toList) = true := by rw [tx_list, tx_list]; simp [e]
        have HE : Hid (a.tn = s) := e
        clear e
        go_wp2_with fail
        go_ret
        have hf : fndN s cs 0 = some j := by rw [fndN_hit HA.out HE.out HB.out]; simp
        refine ⟨?_, .slice (some ⟨g, 0, none⟩) n cap, ?_, Fr.refl _ _⟩
        · unfold idxN
          rw [hf]
          rfl
        · unfold addN
          rw [hf]
          exact HH.out
      · have hb : ((tx a.tn).toList == (tx s).toList) = false := by rw [tx_list, tx_list]; simpa using e
        have HE : Hid (¬ a.tn = s) := e
        clear e
        go_wp2_with fail
        go_roundw
        case rel => exact ⟨j + 1, by go_num, HCJ.out, HX.out HE.out, trivial⟩
        case measure => have := HCJ.out; simp [intOf]; omega
    · obtain rfl : j = n := by omega
      have HF : Hid (fndN s cs 0 = none) := fndN_miss fun b x hx => HB.out b x (by have := (List.getElem?_eq_some_iff.1 hx).1; have := HN.out; omega) hx
      obtain ⟨i, hi, hz, hsz, hby⟩ := i46_ex
      obtain ⟨W, hW⟩ : ∃ W, w.alloc (.cells #[.string (tx s), .int .i64 0, .int .i64 0] 46) = W := ⟨_, rfl⟩
      have HBW : Hid (Below w.heap.size w W) := by show Below _ _ _; rw [← hW]; exact bel1' _ _
      have HNW : Hid (∀ (k : Nat) (u : Value), [.string (tx s), .int .i64 0, .int .i64 0][k]? = some u → W.cell? ((⟨w.heap.size, 0, none⟩ : Addr).add k) = some u) := World.news_of_block (by rw [← hW]; exact heap_alloc_new _ _)
      have HO : Hid (W.ownsRow B 46 3 (.slice sa j cap) j (fl fC cs)) := by
        have h9 := (HH.out.newer HBW.out).rc
        rw [HN.out] at h9
        exact h9
      have HBB : Hid (B ≤ W.heap.size) := by have := HBW.out.size; have := HH.out.rb; have := HH.out.lt R (.inl rfl); show _ ≤ _; omega
      clear cj hj c2
      have c2 := HH.out.cells.2.2.1
      have cR := (HH.out.cells.2.2.2 2)
      go_wp2_with (at_builtin; (refine wpList_append_own_at _ rfl (.tmp 30) (.tmp 33) 56 rfl B 46 i (.agg #[.string ⟨#[]⟩, .int .i64 0, .int .i64 0]) 3 32 under56 hi hz hsz hby rfl (by decide) (.slice sa j cap) j (fl fC cs) rfl HO.out ⟨w.heap.size, 0, none⟩ 1 1 [.string (tx s), .int .i64 0, .int .i64 0] rfl rfl HNW.out (by simp [Value.oneCell']) (by unfold maxLen; omega) (by omega) HBB.out ?_; intro v' w2 ho' hg' _ hat'; (have H2 : Hid (w2.ownsRow B 46 3 v' (j + 1) (fl fC cs ++ [.string (tx s), .int .i64 0, .int .i64 0]) ∧ W.grownBy w2 (Value.slice sa j cap).ownBlock ∧ (v'.ownBlock = (Value.slice sa j cap).ownBlock ∨ v'.ownBlock = some W.heap.size)) := ⟨ho', hg', hat'⟩); obtain ⟨g2, cap2, hvv⟩ := own_form ho' (by omega); subst hvv; clear ho' hg' hat'; (have hR2 : w2.heap[R]? = some (.cells #[.int .i64 most, lv, .slice sa j cap] 58 (0, 0)) := (H2.out.2.1.block R (by have := HBW.out.size; have := HH.out.lt R (.inl rfl); omega) (fun e => HH.out.tags.2 R e.symm rfl)).trans ((HBW.out.block R (HH.out.lt R (.inl rfl))).trans HH.out.box)); (have d2 : w2.cell? ⟨R, 2, none⟩ = some (.slice sa j cap) := by rw [cell_of_row _ _ _ _ _ _ hR2]; rfl); (have df : w2.frozen? ⟨R, 2, none⟩ = false := by simp [World.frozen?, hR2]); clear hR2))
      go_ret
      have ha : addN s cs = cs ++ [⟨s, 0, 0⟩] := by unfold addN; rw [HF.out]
      have hix : idxN s cs = j := by unfold idxN; rw [HF.out]; exact HN.out
      obtain ⟨o1, o2, o3⟩ := H2.out
      obtain ⟨k1, k2⟩ := HH.out.turnC (cs' := addN s cs) HBW.out (by rw [ha, List.length_append, fl_app, HN.out]; exact o1) o2 o3
      exact ⟨by rw [hix]; rfl, _, k1, k2⟩
end Go.Proofs.Ytbcdaddbcjagjaa
