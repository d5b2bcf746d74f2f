/- What closes a text. -/
import Derived.Test.YtfdmepblhlifcaaDoorA5
import Derived.Test.YtfdmepblhlifcaaDoorA6
import Derived.Laws.AppendOwnNone
import Derived.Laws.MakeOwn
import Derived.OwnWalk
import Derived.SizedLaws
namespace Go.Proofs.YtfdmepblhlifcaaDoor
open Go.RowKit
set_option linter.unusedVariables false
set_option linter.unusedSimpArgs false

theorem info5 : (Tryd.prog.info? 5).map (fun i => (i.zero, i.size, i.bytes)) = some (some (.int .u8 0), 1, 1) := by kernel_rfl

theorem own_form {w : World} {base size n : Nat} {e : TypeId} {v : Value} {xs : List Value} (h : w.ownsRow base e size v n xs) (hn : 0 < n) : ∃ g cap, v = .slice (some ⟨g, 0, none⟩) n cap := by
  have h2 := h.2
  rcases h2 with ⟨_, h'⟩ | ⟨g, cp, cur, hv, _⟩
  · omega
  · exact ⟨g, cp, hv⟩

theorem ownBlock_ge {w : World} {base size n : Nat} {e : TypeId} {v : Value} {xs : List Value} (h : w.ownsRow base e size v n xs) : ∀ k, v.ownBlock = some k → base ≤ k := by
  intro k hk
  have h2 := h.2
  rcases h2 with ⟨h', _⟩ | ⟨g, cp, cur, hv, hg, _⟩
  · rw [h'] at hk; simp [Value.ownBlock] at hk
  · rw [hv] at hk; simp [Value.ownBlock] at hk; omega

theorem own_cap {w : World} {base size n n' g cap : Nat} {e : TypeId} {xs : List Value} (h : w.ownsRow base e size (.slice (some ⟨g, 0, none⟩) n' cap) n xs) : n ≤ cap := by
  have h2 := h.2
  rcases h2 with ⟨h', _⟩ | ⟨g, cp, cur, hv, hg, h3⟩
  · cases h'
  · cases hv
    exact h3.2.1

def u8l (zs : List Int) : List Value := zs.map (Value.int .u8)
theorem u8l_len (zs : List Int) : (u8l zs).length = zs.length := by simp [u8l]
theorem u8l_one (zs : List Int) : ∀ u ∈ u8l zs, u.oneCell' = true := by
  intro u h
  obtain ⟨z, _, rfl⟩ := List.mem_map.1 h
  rfl
theorem u8l_app (a b : List Int) : u8l a ++ u8l b = u8l (a ++ b) := by simp [u8l]
theorem cells_u8l {w : World} {b off : Nat} {zs : List Int} (R : BRow w b off zs) : ∀ j u, (u8l zs)[j]? = some u → w.cell? ((⟨b, off, none⟩ : Addr).add j) = some u := by
  intro j u h
  unfold u8l at h
  rw [List.getElem?_map] at h
  cases hq : zs[j]? with
  | none => rw [hq] at h; simp at h
  | some z =>
    rw [hq] at h
    simp at h
    subst h
    have hj : j < zs.length := (List.getElem?_eq_some_iff.1 hq).1
    have hcl := R.cell j hj
    rw [List.getD_eq_getElem?_getD, hq] at hcl
    rw [Addr.add_mid]
    exact hcl
theorem cell_new1 (w : World) (v : Value) (t : TypeId) : ∀ j u, [v][j]? = some u → (w.alloc (.cells #[v] t)).cell? ((⟨w.heap.size, 0, none⟩ : Addr).add j) = some u := by
  intro j u h
  match j, h with
  | 0, h =>
    simp at h
    subst h
    rw [Addr.add_mid]
    exact (cell_of_row _ _ _ _ _ _ (Go.heap_alloc_new _ _)).trans rfl

/-- The bytes that close a text of so many, behind its first zeros. -/
def be8 (x : Int) : Nat → List Int
  | 0 => []
  | j + 1 => be8 x j ++ [x / 2 ^ (56 - 8 * j) % 256]

/-- How many zeros. -/
def zeros (l : Nat) : Nat := if l < 56 then 55 - l else 119 - l
/-- The last bytes, of a text with m whole blocks ahead of them. -/
def lastI (zs : List Int) (n : Int) : List Int := zs ++ [128] ++ List.replicate (zeros zs.length) 0 ++ be8 (8 * (n * 64 + (zs.length : Int))) 8
theorem be8_len (x : Int) : ∀ j, (be8 x j).length = j
  | 0 => rfl
  | j + 1 => by simp [be8, be8_len x j]
theorem be8_byt (x : Int) : ∀ j, Byt (be8 x j)
  | 0 => by intro y hy; cases hy
  | j + 1 => by
    intro y hy
    rcases List.mem_append.1 hy with hy | hy
    · exact be8_byt x j y hy
    · rw [List.mem_singleton] at hy
      subst hy
      have h1 := Int.emod_nonneg (x / 2 ^ (56 - 8 * j)) (show (256 : Int) ≠ 0 by decide)
      have h2 := Int.emod_lt_of_pos (x / 2 ^ (56 - 8 * j)) (show (0 : Int) < 256 by decide)
      omega
theorem byt_app {a b : List Int} (ha : Byt a) (hb : Byt b) : Byt (a ++ b) := fun x hx => by
  rcases List.mem_append.1 hx with hx | hx
  · exact ha x hx
  · exact hb x hx
theorem byt_rep (n : Nat) (v : Int) (h0 : 0 ≤ v) (h1 : v ≤ 255) : Byt (List.replicate n v) := fun x hx => by
  rw [List.eq_of_mem_replicate hx]; exact ⟨h0, h1⟩
theorem last_byt (zs : List Int) (n : Int) (hz : Byt zs) : Byt (lastI zs n) :=
  byt_app (byt_app (byt_app hz (byt_rep 1 128 (by decide) (by decide))) (byt_rep _ 0 (by decide) (by decide))) (be8_byt _ _)
theorem last_len (zs : List Int) (n : Int) : (lastI zs n).length = zs.length + 1 + zeros zs.length + 8 := by
  simp [lastI, be8_len]
  omega

def sliceLen : Value → Nat
  | .slice _ n _ => n
  | _ => 0

set_option maxRecDepth 20000 in
set_option maxHeartbeats 4000000 in
theorem end_any (s zs : List Int) (n : Int) (bb off cap : Nat) (w : World) (R : Roots w) (h0 : 0 < w.heap.size) (hs : s.length = 8) (hw : W32 s) (hz : Byt zs) (hb : bb < w.heap.size) (hB : BRow w bb off zs) (hl : zs.length < 64) (n0 : 0 ≤ n) (n1 : n < 140737488355328) :
    Calls Tryd.prog 30 #[.agg (chainV s n), .slice (some ⟨bb, off, none⟩) zs.length cap] w fun e w' => e = .returned (.agg (chainV (overI s (blks (lastI zs n) (last_byt zs n hz) ((lastI zs n).length / 64) (Nat.mul_div_le _ _))) (n + ((lastI zs n).length / 64 : Nat)))) ∧ Below w.heap.size w w' := by
  obtain ⟨i0, hi, hz0, hz1, hz2⟩ := info_parts info5
  have HR : Hid (Roots w) := R
  have HW : Hid (W32 s) := hw
  have HS : Hid _ := hs
  have HB : Hid _ := hB
  have HZ : Hid _ := hz
  have HL : Hid _ := hl
  have HLB : Hid _ := last_byt zs n hz
  obtain ⟨a, b, c, d, e, f, g, q, es⟩ := len8 hs
  have ecv : chainV s n = #[.int .u32 a, .int .u32 b, .int .u32 c, .int .u32 d, .int .u32 e, .int .u32 f, .int .u32 g, .int .u32 q, .int .i64 n] := by rw [es]; rfl
  have HECV : Hid _ := ecv
  have l0 : (zs.length : Int) < 64 := by omega
  obtain ⟨X, hX⟩ : ∃ X : Ending, X = .returned (.agg (chainV (overI s (blks (lastI zs n) (last_byt zs n hz) ((lastI zs n).length / 64) (Nat.mul_div_le _ _))) (n + ((lastI zs n).length / 64 : Nat)))) := ⟨_, rfl⟩
  rw [ecv, ← hX]
  have HX : Hid _ := hX
  clear hs hw R es ecv hB hX hl
  have u0 : IntKind.u64.wrap n = n := by unfold IntKind.wrap; simp [IntKind.bits, IntKind.signed]; omega
  go_enter Tryd.func30, Tryd.ntmps30
  go_wp2_with (first | (refine wpList_make_own _ rfl _ _ 22 rfl (w.heap.size + 2) 5 i0 (.int .u8 0) 1 Tryd.underlying22 hi hz0 hz1 .i64 .i64 128 128 rfl rfl rfl (by rw [hz2]; omega) (by unfold maxLen; omega) (by simp <;> omega) ?_; intro w1 hown1 hgrow1; (have hb1 : Below (w.heap.size + 2) ((w.alloc (.cells #[.int .u32 a, .int .u32 b, .int .u32 c, .int .u32 d, .int .u32 e, .int .u32 f, .int .u32 g, .int .u32 q, .int .i64 n] 54)).alloc (.cells (chainV (List.replicate 8 0) 0) 54)) w1 := (Below.refl _ _).grown hgrow1 (by simp <;> omega) (by intro k hk; cases hk)); (have HB1 : Hid _ := hb1); (have HOWN1 : Hid (w1.ownsRow (w.heap.size + 2) 5 1 (.slice (some ⟨w.heap.size + 1 + 1, 0, none⟩) 0 128) 0 []) := by (have h := hown1); simp only [World.size_alloc] at h; exact h); (have hR1 : BRow w1 bb off zs := (HB.out.later (Below.alloc (Below.alloc (Below.refl _ w) (Nat.le_refl _) _) (by simp) _) hb).later hb1 (by omega)); (have HR1 : Hid _ := hR1); clear hown1 hgrow1 hb1 hR1) | (at_builtin; (refine wpList_append_own _ rfl (.tmp 18) (.tmp 19) 22 rfl (w.heap.size + 2) 5 i0 (.int .u8 0) 1 1 Tryd.underlying22 hi hz0 hz1 hz2 rfl (by decide) _ 0 [] rfl HOWN1.out ⟨bb, off, none⟩ zs.length cap (u8l zs) rfl (by simp [u8l_len]) (cells_u8l HR1.out) (u8l_one _) (by unfold maxLen; omega) (by omega) (by have := HB1.out.size; simp at this; omega) ?_; intro v2 w2 hown2 hgrow2 _; (rw [Nat.zero_add, List.nil_append] at hown2); (have hb2 : Below (w.heap.size + 2) w1 w2 := (Below.refl _ _).grown hgrow2 (by have := HB1.out.size; simp at this; omega) (ownBlock_ge HOWN1.out)); (have HB2 : Hid _ := hb2); (have HOWN2 : Hid (w2.ownsRow (w.heap.size + 2) 5 1 v2 zs.length (u8l zs)) := hown2); clear hown2 hgrow2 hb2)) | (at_builtin; (refine wpList_append_own _ rfl (.tmp 21) (.tmp 22) 22 rfl (w.heap.size + 2) 5 i0 (.int .u8 0) 1 1 Tryd.underlying22 hi hz0 hz1 hz2 rfl (by decide) _ zs.length (u8l zs) rfl (HOWN2.out.alloc _) ⟨w2.heap.size, 0, none⟩ 1 1 (u8l [128]) rfl rfl (cell_new1 w2 _ _) (u8l_one _) (by unfold maxLen; omega) (by omega) (by have := HB1.out.size; have := HB2.out.size; simp at *; omega) ?_; intro v3 w3 hown3 hgrow3 _; (rw [u8l_app] at hown3); (obtain ⟨g3, cp3, hv3⟩ := own_form hown3 (by omega)); (have hb3 : Below (w.heap.size + 2) w2 w3 := ((Below.refl _ _).alloc (by have := HB1.out.size; have := HB2.out.size; simp at *; omega) _).grown hgrow3 (by have := HB1.out.size; have := HB2.out.size; simp at *; omega) (ownBlock_ge HOWN2.out)); (have HB3 : Hid _ := hb3); (rw [hv3] at hown3); (rw [hv3]); (have HOWN3 : Hid (w3.ownsRow (w.heap.size + 2) 5 1 (.slice (some ⟨g3, 0, none⟩) (zs.length + 1) cp3) (zs.length + 1) (u8l (zs ++ [128]))) := hown3); clear hown3 hgrow3 hb3 hv3)))
  obtain ⟨WA, hWA⟩ : ∃ WA, (w.alloc (.cells #[.int .u32 a, .int .u32 b, .int .u32 c, .int .u32 d, .int .u32 e, .int .u32 f, .int .u32 g, .int .u32 q, .int .i64 n] 54)).alloc (.cells (chainV (List.replicate 8 0) 0) 54) = WA := ⟨_, rfl⟩
  have HBA : Hid (Below (w.heap.size + 2) WA w3) := by
    show Below _ _ _
    rw [← hWA]
    exact (HB1.out.trans HB2.out).trans HB3.out
  have HWA0 : Hid (WA.heap[w.heap.size]? = some (.cells (chainV s n) 54 (0, 0))) := by
    show _ = _
    rw [← hWA, HECV.out]
    exact (Below.heap_alloc _ _ _ (by simp)).trans (Go.heap_alloc_new _ _)
  have HWA1 : Hid (WA.heap[w.heap.size + 1]? = some (.cells (chainV (List.replicate 8 0) 0) 54 (0, 0))) := by
    show _ = _
    rw [← hWA]
    have h := Go.heap_alloc_new (w.alloc (.cells #[.int .u32 a, .int .u32 b, .int .u32 c, .int .u32 d, .int .u32 e, .int .u32 f, .int .u32 g, .int .u32 q, .int .i64 n] 54)) (.cells (chainV (List.replicate 8 0) 0) 54)
    simp only [World.size_alloc] at h
    exact h
  have HWAB : Hid (Below w.heap.size w WA ∧ WA.heap.size = w.heap.size + 2) := by
    refine ⟨?_, by rw [← hWA]; simp⟩
    rw [← hWA]
    exact Below.alloc (Below.alloc (Below.refl _ w) (Nat.le_refl _) _) (by simp) _
  clear hWA HB1 HB2 HB3 HOWN1 HOWN2
  go_loopw [6] (fun v wr => ∃ (j m g cp : Nat), j ≤ zeros zs.length ∧ m = zs.length + 1 + j ∧ v = .slice (some ⟨g, 0, none⟩) m cp ∧ wr.ownsRow (w.heap.size + 2) 5 1 (.slice (some ⟨g, 0, none⟩) m cp) m (u8l (zs ++ [128] ++ List.replicate j 0)) ∧ Below (w.heap.size + 2) WA wr) (fun v wr => 128 - sliceLen v)
  case atStart => exact ⟨0, _, g3, cp3, by omega, rfl, rfl, by simpa using HOWN3.out, HBA.out⟩
  case round =>
    clear HOWN3 HBA
    obtain ⟨j, m, g, cp, hj, hm, rfl, hown, hbel⟩ := hrel
    have HOWN : Hid (wr.ownsRow (w.heap.size + 2) 5 1 (.slice (some ⟨g, 0, none⟩) m cp) m (u8l (zs ++ [128] ++ List.replicate j 0))) := hown
    have HBEL : Hid (Below (w.heap.size + 2) WA wr) := hbel
    have HM : Hid (m = zs.length + 1 + j) := hm
    have HJ : Hid (j ≤ zeros zs.length) := hj
    have hz120 : zeros zs.length ≤ 64 := by have := HL.out; unfold zeros; split <;> omega
    have hm0 : (m : Int) < 200 := by omega
    clear hown hbel
    by_cases hlt : j < zeros zs.length
    · have ht : ((m : Int) % 64 != 56) = true := by
        have := HL.out
        unfold zeros at hlt
        simp
        split at hlt <;> omega
      have HLT : Hid _ := hlt
      have hsz : w.heap.size + 2 ≤ wr.heap.size := by have := HBEL.out.size; have := HWAB.out.2; omega
      have HSZ : Hid _ := hsz
      clear hlt hj hm hz120 hsz
      go_wp2_with (at_builtin; (refine wpList_append_own _ rfl (.tmp 28) (.tmp 29) 22 rfl (w.heap.size + 2) 5 i0 (.int .u8 0) 1 1 Tryd.underlying22 hi hz0 hz1 hz2 rfl (by decide) _ m (u8l (zs ++ [128] ++ List.replicate j 0)) rfl (HOWN.out.alloc _) ⟨wr.heap.size, 0, none⟩ 1 1 (u8l [0]) rfl rfl (cell_new1 wr _ _) (u8l_one _) (by unfold maxLen; omega) (by omega) (by have := HSZ.out; simp; omega) ?_; intro v3 w3 hown3 hgrow3 _; (rw [u8l_app] at hown3); (obtain ⟨g3, cp3, hv3⟩ := own_form hown3 (by omega)); (have hb3 : Below (w.heap.size + 2) wr w3 := ((Below.refl _ _).alloc HSZ.out _).grown hgrow3 (by have := HSZ.out; simp; omega) (ownBlock_ge HOWN.out)); (have HB3 : Hid (Below (w.heap.size + 2) wr w3) := hb3); (rw [hv3] at hown3); (rw [hv3]); (have HOWN3 : Hid (w3.ownsRow (w.heap.size + 2) 5 1 (.slice (some ⟨g3, 0, none⟩) (m + 1) cp3) (m + 1) (u8l (zs ++ [128] ++ List.replicate j 0 ++ [0]))) := hown3); clear hown3 hgrow3 hb3 hv3))
      go_roundw
      case rel =>
        refine ⟨j + 1, m + 1, g3, cp3, by have := HLT.out; omega, by have := HM.out; omega, rfl, ?_, HBEL.out.trans HB3.out⟩
        have h := HOWN3.out
        rwa [List.append_assoc, ← List.replicate_succ'] at h
      case measure =>
        have h1 := HM.out
        have h2 := HLT.out
        have h3 := HL.out
        unfold zeros at h2
        simp [sliceLen]
        split at h2 <;> omega
    · have hje : j = zeros zs.length := by omega
      have ht : ((m : Int) % 64 != 56) = false := by
        have := HL.out
        rw [hje] at hm
        unfold zeros at hm
        simp
        split at hm <;> omega
      have HJE : Hid (j = zeros zs.length) := hje
      clear hlt hj hm hje hz120
      go_wp2_with fail
      go_loopw [6, 7] (fun v sh wr => ∃ (i m2 g cp : Nat), i ≤ 8 ∧ m2 = m + i ∧ sh = .int .i64 (56 - 8 * (i : Int)) ∧ v = .slice (some ⟨g, 0, none⟩) m2 cp ∧ wr.ownsRow (w.heap.size + 2) 5 1 (.slice (some ⟨g, 0, none⟩) m2 cp) m2 (u8l (zs ++ [128] ++ List.replicate j 0 ++ be8 (8 * (n * 64 + (zs.length : Int))) i)) ∧ Below (w.heap.size + 2) WA wr) (fun v sh wr => (intOf sh + 8).toNat)
      case atStart => exact ⟨0, _, g, cp, by omega, rfl, rfl, rfl, by simpa [be8] using HOWN.out, HBEL.out⟩
      case round =>
        clear HOWN HBEL
        obtain ⟨i, m2, g, cp, hi8, hm2, rfl, rfl, hown, hbel⟩ := hrel
        have HOWN : Hid (wr.ownsRow (w.heap.size + 2) 5 1 (.slice (some ⟨g, 0, none⟩) m2 cp) m2 (u8l (zs ++ [128] ++ List.replicate j 0 ++ be8 (8 * (n * 64 + (zs.length : Int))) i))) := hown
        have HBEL : Hid (Below (w.heap.size + 2) WA wr) := hbel
        have HM2 : Hid (m2 = m + i) := hm2
        have hm20 : (m2 : Int) < 300 := by omega
        have hsz : w.heap.size + 2 ≤ wr.heap.size := by have := HBEL.out.size; have := HWAB.out.2; omega
        have HSZ : Hid _ := hsz
        clear hown hbel hm2 hsz
        by_cases hlt : i < 8
        · have hs0 : 0 ≤ 56 - 8 * (i : Int) := by omega
          have hs1 : 56 - 8 * (i : Int) < 64 := by omega
          have HT : Hid (be8 (8 * (n * 64 + (zs.length : Int))) (i + 1) = be8 (8 * (n * 64 + (zs.length : Int))) i ++ [8 * (n * 64 + (zs.length : Int)) / 2 ^ (56 - 8 * i) % 256]) := rfl
          have x0 : 0 ≤ 8 * (n * 64 + (zs.length : Int)) := by omega
          have x1 : 8 * (n * 64 + (zs.length : Int)) < 18446744073709551616 := by omega
          have hnat : (56 - 8 * (i : Int)).toNat = 56 - 8 * i := by omega
          have HI8 : Hid (i < 8) := hlt
          clear hlt
          generalize 8 * (n * 64 + (zs.length : Int)) = Y at x0 x1 HT HOWN ⊢
          go_wp2_with (at_builtin; (refine wpList_append_own _ rfl (.tmp 35) (.tmp 40) 22 rfl (w.heap.size + 2) 5 i0 (.int .u8 0) 1 1 Tryd.underlying22 hi hz0 hz1 hz2 rfl (by decide) _ m2 (u8l (zs ++ [128] ++ List.replicate j 0 ++ be8 Y i)) rfl (HOWN.out.alloc _) ⟨wr.heap.size, 0, none⟩ 1 1 (u8l [Y / 2 ^ (56 - 8 * i) % 256]) rfl rfl (cell_new1 wr _ _) (u8l_one _) (by unfold maxLen; omega) (by omega) (by have := HSZ.out; simp; omega) ?_; intro v3 w3 hown3 hgrow3 _; (rw [u8l_app] at hown3); (obtain ⟨g3, cp3, hv3⟩ := own_form hown3 (by omega)); (have hb3 : Below (w.heap.size + 2) wr w3 := ((Below.refl _ _).alloc HSZ.out _).grown hgrow3 (by have := HSZ.out; simp; omega) (ownBlock_ge HOWN.out)); (have HB3 : Hid (Below (w.heap.size + 2) wr w3) := hb3); (rw [hv3] at hown3); (rw [hv3]); (have HOWN3 : Hid (w3.ownsRow (w.heap.size + 2) 5 1 (.slice (some ⟨g3, 0, none⟩) (m2 + 1) cp3) (m2 + 1) (u8l (zs ++ [128] ++ List.replicate j 0 ++ be8 Y i ++ [Y / 2 ^ (56 - 8 * i) % 256]))) := hown3); clear hown3 hgrow3 hb3 hv3))
          go_roundw
          case rel =>
            refine ⟨i + 1, m2 + 1, g3, cp3, by have := HI8.out; omega, by have := HM2.out; omega, ?_, rfl, ?_, HBEL.out.trans HB3.out⟩
            · have : (56 - 8 * ((i + 1 : Nat) : Int)) = 56 - 8 * (i : Int) - 8 := by omega
              rw [this]
            · have h := HOWN3.out
              rwa [HT.out, ← List.append_assoc]
          case measure => simp [intOf]; omega
        · have hi8e : i = 8 := by omega
          subst hi8e
          have hm2' : m2 = (lastI zs n).length := by
            have h1 := HM2.out
            have h2 := HM.out
            have h3 := HJE.out
            rw [last_len]; omega
          have HLI : Hid (lastI zs n = zs ++ [128] ++ List.replicate j 0 ++ be8 (8 * (n * 64 + (zs.length : Int))) 8) := by
            show _ = _
            rw [HJE.out]; rfl
          rw [show 56 - 8 * ((8 : Nat) : Int) = -8 from rfl]
          have hown := HOWN.out
          rw [← HLI.out] at hown
          have hrow : BRow wr g 0 (lastI zs n) := by
            refine ⟨fun t ht => ?_, last_byt zs n hz, by rw [← hm2']; omega⟩
            rw [Nat.zero_add, hown.cellAt t (by omega)]
            simp [u8l, List.getElem?_eq_getElem ht]
          have hgb : g < wr.heap.size := World.block_lt_of_cell? wr _ (hrow.cell 0 (by rw [← hm2']; have := HM2.out; omega))
          have hcp : m2 ≤ cp := own_cap hown
          have HSl : Hid (Sl wr wr.heap.size (.slice (some ⟨g, 0, none⟩) m2 cp) (lastI zs n)) := .inr ⟨g, 0, cp, by rw [hm2'], hgb, by omega, hrow⟩
          have HQ0 : Hid (wr.heap[w.heap.size]? = some (.cells (chainV s n) 54 (0, 0))) := (HBEL.out.block _ (by omega)).trans HWA0.out
          have HQ1 : Hid (wr.heap[w.heap.size + 1]? = some (.cells (chainV (List.replicate 8 0) 0) 54 (0, 0))) := (HBEL.out.block _ (by omega)).trans HWA1.out
          have HWW : Hid (Below w.heap.size w wr) := HWAB.out.1.trans (HBEL.out.mono (by omega))
          have hov := over_any s (lastI zs n) n (.slice (some ⟨g, 0, none⟩) m2 cp) wr (roots_later HR.out h0 HWW.out) (by have := HWW.out.size; omega) HS.out HW.out (last_byt zs n hz) HSl.out n0 (by rw [← hm2']; omega) ⟨_, _, _, rfl⟩
          obtain ⟨o8, _⟩ := over_ok s HS.out HW.out (blks (lastI zs n) (last_byt zs n hz) ((lastI zs n).length / 64) (Nat.mul_div_le _ _))
          have hsz9 := size_chain (overI s (blks (lastI zs n) (last_byt zs n hz) ((lastI zs n).length / 64) (Nat.mul_div_le _ _))) (n + (((lastI zs n).length / 64 : Nat) : Int))
          rw [o8] at hsz9
          have hone := one_chain (overI s (blks (lastI zs n) (last_byt zs n hz) ((lastI zs n).length / 64) (Nat.mul_div_le _ _))) (n + (((lastI zs n).length / 64 : Nat) : Int))
          have hX := HX.out
          generalize chainV (overI s (blks (lastI zs n) (last_byt zs n hz) ((lastI zs n).length / 64) (Nat.mul_div_le _ _))) (n + (((lastI zs n).length / 64 : Nat) : Int)) = V at hov hX hsz9 hone
          have HOV : Hid (Calls Tryd.prog 29 #[.agg (chainV s n), .slice (some ⟨g, 0, none⟩) m2 cp] wr (fun e w' => e = .returned (.agg V) ∧ Below wr.heap.size wr w')) := hov
          have HX2 : Hid (X = .returned (.agg V)) := hX
          have HS9 : Hid (V.size = 8 + 1) := hsz9
          have HON : Hid (V.all (·.oneCell') = true) := hone
          clear hov hown hrow hgb hcp hlt hm2' hX hsz9 hone
          go_wp2_with (first | (refine wpList_load_row rfl 54 _ rfl w.heap.size rfl 54 (chainV s n) (0, 0) _ HQ0.out Tryd.underlying54 rfl ?h1 ?_) | (go_at_call 29; (refine Calls.mono HOV.out ?_; rintro en w4 ⟨rfl, hb4⟩; (have HB4 : Hid (Below wr.heap.size wr w4) := hb4); clear hb4)) | (refine wpList_store_row rfl 54 _ _ rfl (w.heap.size + 1) V rfl rfl 54 (chainV (List.replicate 8 0) 0) ((HB4.out.block _ (by have := HSZ.out; omega)).trans HQ1.out) ?h2 ?h3 HON.out ?_))
          case h1 => rw [size_chain, HS.out]; kernel_rfl
          case h2 => rw [HS9.out]; kernel_rfl
          case h3 => rw [size_chain, HS9.out]; rfl
          refine bodyPost_ret (v := .agg V) (results_cell_row Tryd.results30 _ _ (w.heap.size + 1) 54 V (0, 0) _ rfl (setRow_heap _ _ _ _ _ _ ((HB4.out.block _ (by have := HSZ.out; omega)).trans HQ1.out)) Tryd.underlying54 rfl (by rw [HS9.out]; kernel_rfl)) rfl ⟨HX2.out.symm, below_setRow (HWW.out.trans (HB4.out.mono (by have := HSZ.out; omega))) (by omega) _⟩
end Go.Proofs.YtfdmepblhlifcaaDoor
