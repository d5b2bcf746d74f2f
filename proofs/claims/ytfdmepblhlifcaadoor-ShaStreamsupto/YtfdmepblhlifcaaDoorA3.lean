/- The state behind a block. -/
import Derived.Test.YtfdmepblhlifcaaDoorA2
namespace Go.Proofs.YtfdmepblhlifcaaDoor
open Go.RowKit
set_option linter.unusedVariables false
set_option linter.unusedSimpArgs false

def rootsI : List Int := [1116352408, 1899447441, 3049323471, 3921009573, 961987163, 1508970993, 2453635748, 2870763221, 3624381080, 310598401, 607225278, 1426881987, 1925078388, 2162078206, 2614888103, 3248222580, 3835390401, 4022224774, 264347078, 604807628, 770255983, 1249150122, 1555081692, 1996064986, 2554220882, 2821834349, 2952996808, 3210313671, 3336571891, 3584528711, 113926993, 338241895, 666307205, 773529912, 1294757372, 1396182291, 1695183700, 1986661051, 2177026350, 2456956037, 2730485921, 2820302411, 3259730800, 3345764771, 3516065817, 3600352804, 4094571909, 275423344, 430227734, 506948616, 659060556, 883997877, 958139571, 1322822218, 1537002063, 1747873779, 1955562222, 2024104815, 2227730452, 2361852424, 2428436474, 2756734187, 3204031479, 3329325298]
theorem roots_w32 : W32 rootsI := by unfold W32 rootsI; decide
/-- The roots lie where the program keeps them. -/
def Roots (w : World) : Prop := ∀ j, j < 64 → w.cell? ⟨0, j, none⟩ = some (.int .u32 (rootsI.getD j 0))

/-- The state behind k steps. -/
def stN (s ws : List Int) : Nat → List Int
  | 0 => s
  | k + 1 => turnI (stN s ws k) ((rootsI.getD k 0 + ws.getD k 0) % 4294967296)

theorem len8 {l : List Int} (h : l.length = 8) : ∃ a b c d e f g q, l = [a, b, c, d, e, f, g, q] := by
  match l, h with
  | [a, b, c, d, e, f, g, q], _ => exact ⟨a, b, c, d, e, f, g, q, rfl⟩
theorem turn_ok (s : List Int) (kw : Int) (h : s.length = 8) (hw : W32 s) : (turnI s kw).length = 8 ∧ W32 (turnI s kw) := by
  obtain ⟨a, b, c, d, e, f, g, q, rfl⟩ := len8 h
  refine ⟨rfl, ?_⟩
  intro x hx
  simp only [turnI, List.mem_cons, List.not_mem_nil, or_false] at hx
  rcases hx with rfl | rfl | rfl | rfl | rfl | rfl | rfl | rfl
  · exact ⟨Int.emod_nonneg _ (by decide), Int.emod_lt_of_pos _ (by decide)⟩
  · exact hw _ (by simp)
  · exact hw _ (by simp)
  · exact hw _ (by simp)
  · exact ⟨Int.emod_nonneg _ (by decide), Int.emod_lt_of_pos _ (by decide)⟩
  · exact hw _ (by simp)
  · exact hw _ (by simp)
  · exact hw _ (by simp)
theorem stN_ok (s ws : List Int) (h : s.length = 8) (hw : W32 s) : ∀ k, (stN s ws k).length = 8 ∧ W32 (stN s ws k)
  | 0 => ⟨h, hw⟩
  | k + 1 => turn_ok _ _ (stN_ok s ws h hw k).1 (stN_ok s ws h hw k).2
def addK (s t : List Int) (k : Nat) : List Int := (List.range 8).map (fun j => if j < k then (s.getD j 0 + t.getD j 0) % 4294967296 else s.getD j 0)
def afterI (s bl : List Int) : List Int := addK s (stN s (schedI bl) 64) 8
/-- A chain as it lies. -/
def chainV (s : List Int) (n : Int) : Array Value := (u32s s).push (.int .i64 n)

theorem sched_len (bl : List Int) : (schedI bl).length = 64 := grow_len 48 _ (by simp [firstW])
theorem sched_w32 (bl : List Int) : W32 (schedI bl) := grow_w32 _ _ (first_w32 _ _)

theorem run_index_u32s (t : TypeId) (m : Nat) (l : List Int) (k : Nat) (ht : Tryd.prog.underlying t = some (.array m 51)) (h : k < l.length) (hm : k < m) (w : World) : (Instr.index t (.agg (u32s l)) (.int .i64 k)).run Tryd.prog w = .ok (.int .u32 (l.getD k 0)) w := by
  have hn : (0 ≤ (k : Int) ∧ (k : Int) < (m : Int)) := by omega
  have e := get_u32s l k h
  simp [Instr.index, run_underlying ht, asIntOf, hn, go_sem, e]
  intro hh
  omega

theorem size_chain (s : List Int) (n : Int) : (chainV s n).size = s.length + 1 := by simp [chainV, size_u32s]
theorem one_chain (s : List Int) (n : Int) : (chainV s n).all (·.oneCell') = true := by
  simp [chainV, u32s, Value.oneCell']
theorem get_chain (s : List Int) (n : Int) (k : Nat) (h : k < s.length) : (chainV s n)[k]? = some (.int .u32 (s.getD k 0)) := by
  unfold chainV
  rw [Array.getElem?_push, if_neg (by rw [size_u32s]; omega), get_u32s s k h]
theorem set_chain (s : List Int) (n : Int) (k : Nat) (v : Int) (h : k < s.length) : (chainV s n).setIfInBounds k (.int .u32 v) = chainV (s.set k v) n := by
  unfold chainV
  rw [← set_u32s]
  apply Array.ext_getElem?
  intro i
  have := size_u32s s
  simp only [Array.getElem?_setIfInBounds, Array.getElem?_push, Array.size_push, Array.size_setIfInBounds]
  by_cases c : k = i
  · subst c
    simp [show k < (u32s s).size by omega, show ¬ k = (u32s s).size by omega, show k < (u32s s).size + 1 by omega]
  · simp [c]
theorem set_blocks (s : List Int) (n m : Int) (h : s.length = 8) : (chainV s n).setIfInBounds 8 (.int .i64 m) = chainV s m := by
  unfold chainV
  apply Array.ext_getElem?
  intro i
  have := size_u32s s
  simp only [Array.getElem?_setIfInBounds, Array.getElem?_push, Array.size_push]
  by_cases c : 8 = i
  · subst c
    simp [show (u32s s).size = 8 by omega]
  · simp [c, show ¬ i = (u32s s).size by omega]
theorem addK_len (s t : List Int) (k : Nat) : (addK s t k).length = 8 := by simp [addK]
theorem addK_zero (s t : List Int) (h : s.length = 8) : addK s t 0 = s := by
  obtain ⟨a, b, c, d, e, f, g, q, rfl⟩ := len8 h
  rfl
theorem addK_at (s t : List Int) (k : Nat) (h : k < 8) : (addK s t k).getD k 0 = s.getD k 0 := by
  simp [addK, List.getElem?_range h]
theorem addK_succ (s t : List Int) (k : Nat) (h : k < 8) : addK s t (k + 1) = (addK s t k).set k ((s.getD k 0 + t.getD k 0) % 4294967296) := by
  unfold addK
  apply List.ext_getElem?
  intro i
  rw [List.getElem?_set]
  simp only [List.getElem?_map, List.length_map, List.length_range]
  by_cases hi : i < 8
  · simp only [List.getElem?_range hi, Option.map_some]
    by_cases c : k = i
    · subst c; simp [h]
    · rw [if_neg c]
      by_cases c2 : i < k
      · simp [c2, show i < k + 1 by omega]
      · simp [c2, show ¬ i < k + 1 by omega]
  · have : (List.range 8)[i]? = none := by simp; omega
    simp [this, show ¬ k = i by omega]
theorem set8_row {w : World} {gg : Nat} {ty : TypeId} {a b c d e f g q A B C D E F G Q : Int} (h : w.heap[gg]? = some (.cells (u32s [a, b, c, d, e, f, g, q]) ty (0, 0))) :
    ((((((((w.setCell ⟨gg, 0, none⟩ (.int .u32 A)).setCell ⟨gg, 1, none⟩ (.int .u32 B)).setCell ⟨gg, 2, none⟩ (.int .u32 C)).setCell ⟨gg, 3, none⟩ (.int .u32 D)).setCell ⟨gg, 4, none⟩ (.int .u32 E)).setCell ⟨gg, 5, none⟩ (.int .u32 F)).setCell ⟨gg, 6, none⟩ (.int .u32 G)).setCell ⟨gg, 7, none⟩ (.int .u32 Q)).heap[gg]? = some (.cells (u32s [A, B, C, D, E, F, G, Q]) ty (0, 0)) := by
  have h0 := heap_setCell_same _ _ 0 _ _ (.int .u32 A) h
  rw [set_u32s] at h0
  simp only [List.set_cons_zero, List.set_cons_succ] at h0
  have h1 := heap_setCell_same _ _ 1 _ _ (.int .u32 B) h0
  rw [set_u32s] at h1
  simp only [List.set_cons_zero, List.set_cons_succ] at h1
  have h2 := heap_setCell_same _ _ 2 _ _ (.int .u32 C) h1
  rw [set_u32s] at h2
  simp only [List.set_cons_zero, List.set_cons_succ] at h2
  have h3 := heap_setCell_same _ _ 3 _ _ (.int .u32 D) h2
  rw [set_u32s] at h3
  simp only [List.set_cons_zero, List.set_cons_succ] at h3
  have h4 := heap_setCell_same _ _ 4 _ _ (.int .u32 E) h3
  rw [set_u32s] at h4
  simp only [List.set_cons_zero, List.set_cons_succ] at h4
  have h5 := heap_setCell_same _ _ 5 _ _ (.int .u32 F) h4
  rw [set_u32s] at h5
  simp only [List.set_cons_zero, List.set_cons_succ] at h5
  have h6 := heap_setCell_same _ _ 6 _ _ (.int .u32 G) h5
  rw [set_u32s] at h6
  simp only [List.set_cons_zero, List.set_cons_succ] at h6
  have h7 := heap_setCell_same _ _ 7 _ _ (.int .u32 Q) h6
  rw [set_u32s] at h7
  simp only [List.set_cons_zero, List.set_cons_succ] at h7
  exact h7
theorem set8_other (w : World) (gg : Nat) (A B C D E F G Q : Int) (k : Nat) (hk : k ≠ gg) :
    ((((((((w.setCell ⟨gg, 0, none⟩ (.int .u32 A)).setCell ⟨gg, 1, none⟩ (.int .u32 B)).setCell ⟨gg, 2, none⟩ (.int .u32 C)).setCell ⟨gg, 3, none⟩ (.int .u32 D)).setCell ⟨gg, 4, none⟩ (.int .u32 E)).setCell ⟨gg, 5, none⟩ (.int .u32 F)).setCell ⟨gg, 6, none⟩ (.int .u32 G)).setCell ⟨gg, 7, none⟩ (.int .u32 Q)).heap[k]? = w.heap[k]? := by
  iterate 8 rw [Below.heap_setCell _ _ _ _ (by exact hk)]

theorem u32s_lit (a b c d e f g q : Int) : u32s [a, b, c, d, e, f, g, q] = #[.int .u32 a, .int .u32 b, .int .u32 c, .int .u32 d, .int .u32 e, .int .u32 f, .int .u32 g, .int .u32 q] := rfl

set_option maxRecDepth 20000 in
set_option maxHeartbeats 4000000 in
theorem after_any (s bl : List Int) (n : Int) (w : World) (R : Roots w) (h0 : 0 < w.heap.size) (hs : s.length = 8) (hw : W32 s) (hl : bl.length = 64) (hb : Byt bl) (n0 : 0 ≤ n) (n1 : n < 9223372036854775807) :
    Calls Tryd.prog 42 #[.agg (chainV s n), .agg (u8s bl)] w fun e w' => e = .returned (.agg (chainV (afterI s bl) (n + 1))) ∧ Below w.heap.size w w' := by
  have HR : Hid (Roots w) := R
  have HL : Hid _ := hl
  have HB : Hid _ := hb
  have HW : Hid (W32 s) := hw
  have HS : Hid _ := hs
  obtain ⟨a, b, c, d, e, f, g, q, es⟩ := len8 hs
  have ecv : chainV s n = #[.int .u32 a, .int .u32 b, .int .u32 c, .int .u32 d, .int .u32 e, .int .u32 f, .int .u32 g, .int .u32 q, .int .i64 n] := by rw [es]; rfl
  rw [ecv]
  have HES : Hid _ := es
  have HECV : Hid _ := ecv
  clear hl hb hw hs R es ecv
  go_enter Tryd.func42, Tryd.ntmps42
  go_wp2_with (first | (refine wpList_load_row rfl 64 _ rfl (w.heap.size + 1) rfl 64 (u8s bl) (0, 0) _ ?g1 Tryd.underlying64 rfl ?g2 ?_) | (go_at_call 48; refine (sched_any bl _ HL.out HB.out).mono ?_; rintro en w1 ⟨rfl, hb1⟩))
  case g1 => exact (Below.heap_alloc _ _ _ (by simp <;> omega)).trans ((Below.heap_alloc _ _ _ (by simp)).trans (by have h := Go.heap_alloc_new (w.alloc (.cells #[.int .u32 a, .int .u32 b, .int .u32 c, .int .u32 d, .int .u32 e, .int .u32 f, .int .u32 g, .int .u32 q, .int .i64 n] 54)) (.cells (u8s bl) 64); simp only [World.size_alloc] at h; exact h))
  case g2 => rw [size_u8s, HL.out]; kernel_rfl
  have q0 : w1.heap[w.heap.size]? = some (.cells (chainV s n) 54 (0, 0)) := by
    rw [hb1.block _ (by simp <;> omega), HECV.out]
    refine (Below.heap_alloc _ _ _ (by simp <;> omega)).trans ((Below.heap_alloc _ _ _ (by simp <;> omega)).trans ((Below.heap_alloc _ _ _ (by simp)).trans ?_))
    exact Go.heap_alloc_new _ _
  have q2 : w1.heap[w.heap.size + 2]? = some (.cells (chainV (List.replicate 8 0) 0) 54 (0, 0)) := by
    rw [hb1.block _ (by simp <;> omega)]
    refine (Below.heap_alloc _ _ _ (by simp <;> omega)).trans ?_
    have h := Go.heap_alloc_new ((w.alloc (.cells #[.int .u32 a, .int .u32 b, .int .u32 c, .int .u32 d, .int .u32 e, .int .u32 f, .int .u32 g, .int .u32 q, .int .i64 n] 54)).alloc (.cells (u8s bl) 64)) (.cells (chainV (List.replicate 8 0) 0) 54)
    simp only [World.size_alloc] at h
    exact h
  have q3 : w1.heap[w.heap.size + 3]? = some (.cells (u32s s) 52 (0, 0)) := by
    rw [hb1.block _ (by simp <;> omega), HES.out]
    have h := Go.heap_alloc_new (((w.alloc (.cells #[.int .u32 a, .int .u32 b, .int .u32 c, .int .u32 d, .int .u32 e, .int .u32 f, .int .u32 g, .int .u32 q, .int .i64 n] 54)).alloc (.cells (u8s bl) 64)).alloc (.cells (chainV (List.replicate 8 0) 0) 54)) (.cells #[.int .u32 a, .int .u32 b, .int .u32 c, .int .u32 d, .int .u32 e, .int .u32 f, .int .u32 g, .int .u32 q] 52)
    simp only [World.size_alloc] at h
    exact h
  have hsz : w.heap.size + 4 ≤ w1.heap.size := by have := hb1.size; simp at this; omega
  have hbel : Below w.heap.size w w1 := by
    refine Below.trans ?_ (hb1.mono (by simp <;> omega))
    exact ((((Below.refl _ w).alloc (Nat.le_refl _) _).alloc (by simp) _).alloc (by simp <;> omega) _).alloc (by simp <;> omega) _
  have HQ0 : Hid _ := q0
  have HQ2 : Hid _ := q2
  have HQ3 : Hid _ := q3
  have HSZ : Hid _ := hsz
  clear q0 q2 q3 hsz hb1
  go_loopw [6, 7, 13] (fun x y v wr => ∃ k : Nat, k ≤ 64 ∧ v = .int .i64 k ∧ wr.heap[w.heap.size]? = some (.cells (chainV s n) 54 (0, 0)) ∧ wr.heap[w.heap.size + 2]? = some (.cells (chainV (List.replicate 8 0) 0) 54 (0, 0)) ∧ wr.heap[w.heap.size + 3]? = some (.cells (u32s (stN s (schedI bl) k)) 52 (0, 0)) ∧ w.heap.size + 4 ≤ wr.heap.size ∧ Below w.heap.size w wr) (fun x y v wr => 64 - (intOf v).toNat)
  case atStart => exact ⟨0, by omega, rfl, HQ0.out, HQ2.out, HQ3.out, HSZ.out, hbel⟩
  case round =>
    clear HQ0 HQ2 HQ3 HSZ hbel
    obtain ⟨k, hk, rfl, q0, q2, q3, hsz, hbel⟩ := hrel
    have HQ0 : Hid _ := q0
    have HQ2 : Hid _ := q2
    have HQ3 : Hid _ := q3
    have HSZ : Hid _ := hsz
    clear q0 q2 q3 hsz
    by_cases hlt : k < 64
    · have hlt' : (k : Int) < 64 := by omega
      have hx := run_index_u32s 76 64 (schedI bl) k Tryd.underlying76 (by rw [sched_len]; omega) hlt wr
      obtain ⟨x0, x1⟩ := w32_at (sched_w32 bl) k (by rw [sched_len]; omega)
      obtain ⟨r0, r1⟩ := w32_at roots_w32 k (by simp [rootsI]; omega)
      have hr : wr.cell? ⟨0, k, none⟩ = some (.int .u32 (rootsI.getD k 0)) := (hbel.cell h0).trans (HR.out k hlt)
      have HT : Hid (stN s (schedI bl) (k + 1) = turnI (stN s (schedI bl) k) ((rootsI.getD k 0 + (schedI bl).getD k 0) % 4294967296)) := rfl
      generalize (schedI bl).getD k 0 = x at hx x0 x1 HT
      generalize rootsI.getD k 0 = r at hr r0 r1 HT
      obtain ⟨t8, tw⟩ := stN_ok s (schedI bl) HS.out HW.out k
      obtain ⟨a', b', c', d', e', f', g', q', et⟩ := len8 t8
      rw [et] at HT tw
      have HQ3' : Hid (wr.heap[w.heap.size + 3]? = some (.cells (u32s [a', b', c', d', e', f', g', q']) 52 (0, 0))) := by rw [← et]; exact HQ3.out
      have z0 : wr.cell? ⟨w.heap.size + 3, 0, none⟩ = some (.int .u32 a') := cell_of_row _ _ _ _ _ _ HQ3'.out
      have z1 : wr.cell? ⟨w.heap.size + 3, 1, none⟩ = some (.int .u32 b') := cell_of_row _ _ _ _ _ _ HQ3'.out
      have z2 : wr.cell? ⟨w.heap.size + 3, 2, none⟩ = some (.int .u32 c') := cell_of_row _ _ _ _ _ _ HQ3'.out
      have z3 : wr.cell? ⟨w.heap.size + 3, 3, none⟩ = some (.int .u32 d') := cell_of_row _ _ _ _ _ _ HQ3'.out
      have z4 : wr.cell? ⟨w.heap.size + 3, 4, none⟩ = some (.int .u32 e') := cell_of_row _ _ _ _ _ _ HQ3'.out
      have z5 : wr.cell? ⟨w.heap.size + 3, 5, none⟩ = some (.int .u32 f') := cell_of_row _ _ _ _ _ _ HQ3'.out
      have z6 : wr.cell? ⟨w.heap.size + 3, 6, none⟩ = some (.int .u32 g') := cell_of_row _ _ _ _ _ _ HQ3'.out
      have z7 : wr.cell? ⟨w.heap.size + 3, 7, none⟩ = some (.int .u32 q') := cell_of_row _ _ _ _ _ _ HQ3'.out
      have HTW : Hid _ := tw
      clear et t8 tw HQ3
      obtain ⟨y, hy2⟩ : ∃ y, (r + x) % 4294967296 = y := ⟨_, rfl⟩
      have hy : IntKind.u32.wrap (r + x) = y := by rw [← hy2]; rfl
      rw [hy2] at HT
      have y0 : 0 ≤ y := by omega
      have y1 : y < 4294967296 := by omega
      have f0 : ∀ j, wr.frozen? ⟨w.heap.size + 3, j, none⟩ = false := fun j => frozen_of_row _ _ _ _ _ HQ3'.out
      have HF : Hid _ := f0
      have HU8 : Hid _ := (turn_ok _ y rfl HTW.out).1
      have hrs : w.heap.size + 3 < wr.heap.size := by have := HSZ.out; omega
      have HRS : Hid _ := hrs
      clear f0 hrs
      go_wp2_with fail
      go_region_with (go_at_call 49; refine (turn_any a' b' c' d' e' f' g' q' y _ HTW.out y0 y1).mono ?_; rintro en w2 ⟨rfl, hb2⟩; (obtain ⟨A, B, C, D, E, F, G, Q, hT⟩ := len8 HU8.out); rw [hT]; (have HHT : Hid _ := hT); clear hT; (simp only [u32s_lit]); (have hb3 : Below wr.heap.size wr w2 := ((Below.refl _ wr).drew).trans hb2); (have HB3 : Hid _ := hb3); clear hb2 hb3; (have hr3 := HQ3'.out); (rw [← HB3.out.block _ HRS.out] at hr3); (have y0' : w2.cell? ⟨w.heap.size + 3, 0, none⟩ = some (.int .u32 a') := cell_of_row _ _ _ _ _ _ hr3); (have y1' : w2.cell? ⟨w.heap.size + 3, 1, none⟩ = some (.int .u32 b') := cell_of_row _ _ _ _ _ _ hr3); (have y2' : w2.cell? ⟨w.heap.size + 3, 2, none⟩ = some (.int .u32 c') := cell_of_row _ _ _ _ _ _ hr3); (have y3' : w2.cell? ⟨w.heap.size + 3, 3, none⟩ = some (.int .u32 d') := cell_of_row _ _ _ _ _ _ hr3); (have y4' : w2.cell? ⟨w.heap.size + 3, 4, none⟩ = some (.int .u32 e') := cell_of_row _ _ _ _ _ _ hr3); (have y5' : w2.cell? ⟨w.heap.size + 3, 5, none⟩ = some (.int .u32 f') := cell_of_row _ _ _ _ _ _ hr3); (have y6' : w2.cell? ⟨w.heap.size + 3, 6, none⟩ = some (.int .u32 g') := cell_of_row _ _ _ _ _ _ hr3); (have y7' : w2.cell? ⟨w.heap.size + 3, 7, none⟩ = some (.int .u32 q') := cell_of_row _ _ _ _ _ _ hr3); (have fz : ∀ j, w2.frozen? ⟨w.heap.size + 3, j, none⟩ = false := fun j => frozen_of_row _ _ _ _ _ hr3); (have HR3 : Hid _ := hr3); clear hr3)
      all_goals (
        have hrow := set8_row (A := A) (B := B) (C := C) (D := D) (E := E) (F := F) (G := G) (Q := Q) HR3.out
        have hoth : ∀ j, j ≠ w.heap.size + 3 → _ := set8_other w2 (w.heap.size + 3) A B C D E F G Q
        have HROW : Hid _ := hrow
        have HOTH : Hid _ := hoth
        clear hrow hoth
        go_wp2_with fail
        go_roundw
        case rel =>
          refine ⟨k + 1, by omega, by go_num, ?_, ?_, ?_, ?_, ?_⟩
          · exact (HOTH.out _ (by omega)).trans ((HB3.out.block _ (by have := HRS.out; omega)).trans HQ0.out)
          · exact (HOTH.out _ (by omega)).trans ((HB3.out.block _ (by have := HRS.out; omega)).trans HQ2.out)
          · rw [HT.out, HHT.out]; exact HROW.out
          · have h1 := HB3.out.size
            have h2 := HSZ.out
            simp
            omega
          · iterate 8 refine Below.setCell ?_ (by dsimp only; omega) _
            exact hbel.trans (HB3.out.mono (by have := HRS.out; omega))
        case measure => simp [intOf]; omega)
    · have hk64 : k = 64 := by omega
      subst hk64
      rw [show ((64 : Nat) : Int) = 64 from rfl]
      clear hlt hk
      obtain ⟨t8, tw⟩ := stN_ok s (schedI bl) HS.out HW.out 64
      have HA : Hid (afterI s bl = addK s (stN s (schedI bl) 64) 8) := rfl
      have HT8 : Hid _ := t8
      have HTW : Hid _ := tw
      clear t8 tw
      generalize stN s (schedI bl) 64 = t at HQ3 HA HT8 HTW
      go_wp2_with fail
      go_loopw [8, 25] (fun x v wr => ∃ k : Nat, k ≤ 8 ∧ v = .int .i64 k ∧ wr.heap[w.heap.size]? = some (.cells (chainV (addK s t k) n) 54 (0, 0)) ∧ wr.heap[w.heap.size + 2]? = some (.cells (chainV (List.replicate 8 0) 0) 54 (0, 0)) ∧ wr.heap[w.heap.size + 3]? = some (.cells (u32s t) 52 (0, 0)) ∧ w.heap.size + 4 ≤ wr.heap.size ∧ Below w.heap.size w wr) (fun x v wr => 8 - (intOf v).toNat)
      case atStart => exact ⟨0, by omega, rfl, by rw [addK_zero s t HS.out]; exact HQ0.out, HQ2.out, HQ3.out, HSZ.out, hbel⟩
      case round =>
        clear HQ0 HQ2 HQ3 HSZ hbel
        obtain ⟨k, hk, rfl, q0, q2, q3, hsz, hbel⟩ := hrel
        have HQ0 : Hid _ := q0
        have HQ2 : Hid _ := q2
        have HQ3 : Hid _ := q3
        have HSZ : Hid _ := hsz
        clear q0 q2 q3 hsz
        by_cases hlt : k < 8
        · have hlt' : (k : Int) < 8 := by omega
          have c0 : wr.cell? ⟨w.heap.size, k, none⟩ = some (.int .u32 (s.getD k 0)) := by
            rw [cell_of_row _ _ _ _ _ _ HQ0.out, get_chain _ _ _ (by rw [addK_len]; exact hlt), addK_at s t k hlt]
          have f0 : wr.frozen? ⟨w.heap.size, k, none⟩ = false := frozen_of_row _ _ _ _ _ HQ0.out
          have c3 : wr.cell? ⟨w.heap.size + 3, k, none⟩ = some (.int .u32 (t.getD k 0)) := by
            rw [cell_of_row _ _ _ _ _ _ HQ3.out, get_u32s _ _ (by rw [HT8.out]; exact hlt)]
          obtain ⟨p0, p1⟩ := w32_at HW.out k (by rw [HS.out]; exact hlt)
          obtain ⟨r0, r1⟩ := w32_at HTW.out k (by rw [HT8.out]; exact hlt)
          have HST : Hid (addK s t (k + 1) = (addK s t k).set k ((s.getD k 0 + t.getD k 0) % 4294967296)) := addK_succ s t k hlt
          generalize s.getD k 0 = x at c0 p0 p1 HST
          generalize t.getD k 0 = y at c3 r0 r1 HST
          go_wp2_with fail
          go_region
          go_wp2_with fail
          go_roundw
          case rel =>
            refine ⟨k + 1, by omega, by go_num, ?_, ?_, ?_, ?_, ?_⟩
            · refine (heap_setCell_same _ _ _ _ _ _ HQ0.out).trans ?_
              rw [set_chain _ _ _ _ (by rw [addK_len]; exact hlt), HST.out]
            · exact (Below.heap_setCell _ _ _ _ (by dsimp only; omega)).trans HQ2.out
            · exact (Below.heap_setCell _ _ _ _ (by dsimp only; omega)).trans HQ3.out
            · have h2 := HSZ.out
              simp
              omega
            · exact (hbel.setCell (by dsimp only; omega) _).drew
          case measure => simp [intOf]; omega
        · have hk8 : k = 8 := by omega
          subst hk8
          rw [show ((8 : Nat) : Int) = 8 from rfl]
          rw [← HA.out] at HQ0
          have hl8 : (afterI s bl).length = 8 := by rw [HA.out, addK_len]
          have HL8 : Hid _ := hl8
          have c8 : wr.cell? ⟨w.heap.size, 8, none⟩ = some (.int .i64 n) := by
            rw [cell_of_row _ _ _ _ _ _ HQ0.out]
            unfold chainV
            rw [Array.getElem?_push, if_pos (by rw [size_u32s, hl8])]
          have f8 : wr.frozen? ⟨w.heap.size, 8, none⟩ = false := frozen_of_row _ _ _ _ _ HQ0.out
          have HQ0' : Hid ((wr.setCell ⟨w.heap.size, 8, none⟩ (.int .i64 (n + 1))).heap[w.heap.size]? = some (.cells (chainV (afterI s bl) (n + 1)) 54 (0, 0))) := by
            refine (heap_setCell_same _ _ _ _ _ _ HQ0.out).trans ?_
            rw [set_blocks _ _ _ hl8]
          have HQ2' : Hid ((wr.setCell ⟨w.heap.size, 8, none⟩ (.int .i64 (n + 1))).heap[w.heap.size + 2]? = some (.cells (chainV (List.replicate 8 0) 0) 54 (0, 0))) := (Below.heap_setCell _ _ _ _ (by dsimp only; omega)).trans HQ2.out
          clear hlt hk hl8
          go_wp2_with (first | (refine wpList_load_row rfl 54 _ rfl w.heap.size rfl 54 (chainV (afterI s bl) (n + 1)) (0, 0) _ HQ0'.out Tryd.underlying54 rfl ?h1 ?_) | (refine wpList_store_row rfl 54 _ _ rfl (w.heap.size + 2) (chainV (afterI s bl) (n + 1)) rfl rfl 54 (chainV (List.replicate 8 0) 0) HQ2'.out ?h2 ?h3 (one_chain _ _) ?_))
          case h1 => rw [size_chain, HL8.out]; kernel_rfl
          case h2 => rw [size_chain, HL8.out]; kernel_rfl
          case h3 => rw [size_chain, size_chain, HL8.out]; rfl
          refine bodyPost_ret (v := .agg (chainV (afterI s bl) (n + 1))) (results_cell_row Tryd.results42 _ _ (w.heap.size + 2) 54 (chainV (afterI s bl) (n + 1)) (0, 0) _ rfl (setRow_heap _ _ _ _ _ _ HQ2'.out) Tryd.underlying54 rfl (by rw [size_chain, HL8.out]; kernel_rfl)) rfl ⟨rfl, below_setRow (hbel.setCell (by dsimp only; omega) _) (by omega) _⟩
end Go.Proofs.YtfdmepblhlifcaaDoor
