/- rest: the clock begins again. -/
import Derived.Test.YtfndbllpnkhlhaaKq
namespace Go.Proofs.Ytfndbllpnkhlhaa
open Go.RowKit Go.Shelf
set_option linter.unusedVariables false
set_option linter.unusedSimpArgs false
attribute [local go_sem] Oper.semAt_some

theorem SR.ltT {w : World} {T : Nat} {lv srv : Value} {m : List Rw} {clk had : Int} (h : SR w T lv m clk srv had) : T < w.heap.size := h.lt T (.inl rfl)
theorem SR.ltp {w : World} {T : Nat} {lv srv : Value} {m : List Rw} {clk had : Int} (h : SR w T lv m clk srv had) : ∀ r ∈ m, r.p < w.heap.size := fun r hr => h.lt _ (.inr (.inr ⟨r, hr, .inl rfl⟩))
theorem SR.neT {w : World} {T : Nat} {lv srv : Value} {m : List Rw} {clk had : Int} (h : SR w T lv m clk srv had) : ∀ r ∈ m, r.p ≠ T := fun r hr => (h.tagT hr).1
theorem Tur.kq {w W W' : World} {T n₀ cap : Nat} {sa : Option Addr} {lv srv : Value} {m : List Rw} {clk had : Int} {bx bx' : Obj} {g g' : Rw → Tn} (h : SR w T lv m clk srv had) (hlv : lv = .slice sa m.length cap) (t : Tur w W T m bx g) (t' : Tur w W' T m bx' g') (hg : ∀ r ∈ m, (g r).nm = r.t.nm) (hg' : ∀ r ∈ m, (g' r).nm = r.t.nm) (hs : W.heap.size ≤ W'.heap.size) : Kq n₀ (Value.slice sa m.length cap).ownBlock (pts m) W W' := by
  refine ⟨hs, fun q hq => ?_, fun p hp => ?_⟩
  · rw [← hlv] at hq
    obtain ⟨cur, hc⟩ := own_tag h.row hq
    have h1 : q ≠ T := ne_tag hc h.box (by decide)
    have h2 : ∀ r ∈ m, q ≠ r.p := fun r hr => by
      have h1 : w.heap[r.p]? = some (.cells _ 108 (0, 0)) := h.each r hr
      exact ne_tag hc h1 (by decide)
    have h3 := h.lt q (.inr (.inl hq))
    rw [t.oth q h3 h1 h2, t'.oth q h3 h1 h2]
  · obtain ⟨r, hr, rfl⟩ := List.mem_map.1 hp
    show W'.cell? ⟨r.p, 0, none⟩ = W.cell? ⟨r.p, 0, none⟩
    rw [(rowO_cells (t.rows r hr)).1, (rowO_cells (t'.rows r hr)).1, hg r hr, hg' r hr]
theorem zf_nm (ps : List Nat) (r : Rw) : (zf ps r).nm = r.t.nm := by unfold zf; split <;> rfl
def zr (r : Rw) : Rw := { r with t := z0 r.t }
set_option maxRecDepth 100000 in
set_option maxHeartbeats 4000000 in
theorem rest_any (T : Nat) (lv srv : Value) (m : List Rw) (clk had : Int) (w : World) (h : SR w T lv m clk srv had) (hl : m.length ≤ 16) :
    Calls Try.prog 47 #[.pointer (some ⟨T, 0, none⟩)] w fun e w' => (∃ v, e = .returned v) ∧ Tur w w' T m (boxO lv 0 (.pointer none) 0) (fun r => z0 r.t) := by
  obtain ⟨c0, c1, c2, c3, f0⟩ := boxO_cells h.box
  have f11 := f0 1
  have f12 := f0 2
  have f13 := f0 3
  refine (callsIn_wide (n := 5)).1 ?_
  refine callsIn_of_wp_marks Try.func47 rfl trivial ?_ rfl
  simp only [Try.ntmps47, List.size_toArray, List.length_cons, List.length_nil, Nat.reduceAdd, Nat.reduceSub, Array.replicate_succ, Array.replicate_zero, List.push_toArray, List.append_toArray, List.nil_append, List.cons_append]
  gi_wp2_with (refine ⟨trivial, ?_⟩; gi_at_call 50; refine (callsIn_wide.2 (all_any _ _)).mono ?_; rintro e w' ⟨rfl, hw'⟩)
  subst hw'
  have hT0 : Tur w (((w.setCell ⟨T, 1, none⟩ (.int .i64 0)).setCell ⟨T, 2, none⟩ (.pointer none)).setCell ⟨T, 3, none⟩ (.int .i64 0)) T m (boxO lv 0 (.pointer none) 0) (zf []) := (((Tur.of h).clk h.neT 0).srv h.neT _).had h.neT 0
  have hs0 : (((w.setCell ⟨T, 1, none⟩ (.int .i64 0)).setCell ⟨T, 2, none⟩ (.pointer none)).setCell ⟨T, 3, none⟩ (.int .i64 0)).heap.size = w.heap.size := by simp
  generalize (((w.setCell ⟨T, 1, none⟩ (.int .i64 0)).setCell ⟨T, 2, none⟩ (.pointer none)).setCell ⟨T, 3, none⟩ (.int .i64 0)) = V at hT0 hs0 ⊢
  obtain ⟨W0, hW0⟩ : ∃ W0, V.alloc (.cells #[.pointer (some ⟨T, 0, none⟩)] 105) = W0 := ⟨_, rfl⟩
  have q1 : W0.cell? ⟨w.heap.size, 0, none⟩ = some (.pointer (some ⟨T, 0, none⟩)) := by
    rw [← hW0, ← hs0]
    exact (Boxed.new V 105 (.pointer (some ⟨T, 0, none⟩))).cell
  have hT1 : Tur w W0 T m (boxO lv 0 (.pointer none) 0) (zf []) := by
    rw [← hW0]
    exact hT0.bel h.ltT h.ltp ((Below.refl _ V).alloc (by omega) _)
  have hsz : W0.heap.size = w.heap.size + 1 := by rw [← hW0]; simp [hs0]
  show Code.wpIn _ _ _ _ _ _ (V.alloc (.cells #[.pointer (some ⟨T, 0, none⟩)] 105))
  rw [hW0]
  clear hW0 hT0 hs0 V
  have hS0 : SR W0 T lv m 0 (.pointer none) 0 := by
    have := hT1.sr h id (fun r => ⟨rfl, rfl, rfl, rfl, rfl⟩) (fun r _ => by simp [zf])
    rwa [List.map_id] at this
  have hlen : (pts m).length = m.length := by simp [pts]
  obtain ⟨sa, cap, hlv⟩ := own_slice h.row
  rw [hlen] at hlv
  have hOwn : ∀ (g : Rw → Tn) (X Y : World) (row : Option Nat), Tur w X T m (boxO lv 0 (.pointer none) 0) g → X.grownBy Y row → (∀ r, row = some r → W0.heap.size ≤ r ∧ ∃ o : Obj, X.heap[r]? = some o ∧ o.isCells = false) → Tur w Y T m (boxO lv 0 (.pointer none) 0) g := fun g X Y row ht hg hr => ht.grown h.ltT h.ltp hg fun r e => by have := (hr r e).1; omega
  refine wpIn_rangeFunc_ownH rfl (by omega) (gf := 66) (lb := #[.pointer (some ⟨w.heap.size, 0, none⟩)]) rfl trivial (enters_of Try.func66 (by kernel_rfl) rfl)
    (all_seq _ w.heap.size T cap lv (.pointer none) sa m 0 0 W0 hl hS0 hlv q1) Kq.trans
    (fun W l o o' h1 h2 h3 h4 => Kq.of (belowK_b (w := W0) (Nat.le_refl _) W l o o' h1 h2 h3 h4) (fun q hq => hS0.lt q (.inr (.inl (by rw [hlv]; exact hq)))) (fun p hp => by obtain ⟨r, hr, rfl⟩ := List.mem_map.1 hp; exact hS0.lt _ (.inr (.inr ⟨r, hr, .inl rfl⟩)))) (Below.refl _ _) (fun _ => rfl)
    (fun pre W => Tur w W T m (boxO lv 0 (.pointer none) 0) (zf (pts (vals pre))))
    (fun _ _ _ => False)
    (fun pre X Y row ht hg hr => hOwn _ X Y row ht hg hr)
    (fun _ _ _ _ _ hs _ _ => hs)
    hT1
    (fun x a' W => a' = { tmps := #[.pointer (some ⟨T, 0, none⟩), undef, undef, .pointer (some ⟨x.1.p, 1, none⟩), .pointer (some ⟨T, 0, none⟩), .pointer (some ⟨T, 0, none⟩), .pointer (some ⟨T, 0, none⟩), .pointer (some ⟨T, 0, none⟩), .pointer (some ⟨T, 1, none⟩), .pointer (some ⟨T, 0, none⟩), .pointer (some ⟨T, 2, none⟩), .pointer (some ⟨T, 0, none⟩), .pointer (some ⟨T, 3, none⟩), .pointer (some ⟨T, 0, none⟩), .pointer (some ⟨T, 0, none⟩), .pointer (some ⟨T, 0, none⟩), .func (.func 66) #[] #[.pointer (some ⟨w.heap.size, 0, none⟩)], .string (tx x.1.t.nm), .pointer (some ⟨x.1.p, 1, none⟩), undef, undef, undef], defers := [] })
    (fun x a' _ X Y row hs hg hr => hs)
    ?assign ?body ?done ?stop
  case assign =>
    rintro l pre x W K hI hK
    have HK := hK
    clear hK q1 hS0 h
    unfold elV
    gi_wp2_with fail
    exact HK _ _ (KeepsFrom.refl _ _) (Kq.refl _ _ _ _) hI rfl
  case body =>
    rintro l pre x a' W hl' ⟨r, hr⟩ hI rfl hlt
    have HI : Hid (Tur w W T m (boxO lv 0 (.pointer none) 0) (zf (pts (vals pre)))) := hI
    obtain ⟨-, -, -, c4, -⟩ := rowO_cells (hI.rows x.1 x.2)
    have f4 : W.frozen? ⟨x.1.p, 3, none⟩ = false := rowO_frozen (hI.rows x.1 x.2)
    clear hI hr hl' hlt
    gi_wp2_with fail
    have ht := HI.out.zero h.neT h.nd x.2
    refine ⟨(KeepsOthers.setCell _ _ _).from _, HI.out.kq h hlv ht (fun r _ => zf_nm _ r) (fun r _ => zf_nm _ r) (by simp), ?_⟩
    have e : pts (vals (pre ++ [x])) = pts (vals pre) ++ [x.1.p] := by simp [pts, vals]
    show Tur _ _ _ _ _ (zf (pts (vals (pre ++ [x]))))
    rw [e]
    exact ht
  case done =>
    rintro D xs W hD hxs hI hK
    have HI : Hid (Tur w W T m (boxO lv 0 (.pointer none) 0) (zf (pts (vals xs)))) := hI
    clear hI
    gi_wp2_with fail
    refine ⟨by simp, .inl ⟨_, _, rfl, run_takeDeferred hK, ?_⟩⟩
    refine ⟨_, results_none rfl _ _ _, ⟨_, rfl⟩, ?_⟩
    have ht := HI.out.grown h.ltT h.ltp (grownBy_putObj' W D (.deferred none)) (fun r e => by cases e; omega)
    refine ⟨ht.os, ht.tape, ht.output, ht.size, ht.box, fun r hr => ?_, ht.oth⟩
    have e : zf (pts (vals xs)) r = z0 r.t := by
      rw [hxs]
      unfold zf
      have hm : r.p ∈ pts m := List.mem_map.2 ⟨r, hr, rfl⟩
      simp [hm]
    rw [← e]
    exact ht.rows r hr
  case stop =>
    rintro D c pre W _ _ h _
    exact h.elim
end Go.Proofs.Ytfndbllpnkhlhaa
