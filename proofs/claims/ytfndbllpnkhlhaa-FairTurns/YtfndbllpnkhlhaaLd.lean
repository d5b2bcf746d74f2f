/- The program's Drop, whole; all that is asked beside. -/
import Derived.Test.YtfndbllpnkhlhaaLc
namespace Go.Proofs.Ytfndbllpnkhlhaa
open Go.RowKit Go.Shelf
set_option linter.unusedVariables false
set_option linter.unusedSimpArgs false
attribute [local go_sem] Oper.semAt_some

theorem foot_dr {T : Nat} {lv : Value} {m : List Rw} {q : Nat} (h : foot T lv ((m.map dr).map zr) q) : foot T lv m q := by
  rcases h with h | h | ⟨r, hr, hq⟩
  · exact .inl h
  · exact .inr (.inl h)
  · obtain ⟨y, hy, rfl⟩ := List.mem_map.1 hr
    obtain ⟨x, hx, rfl⟩ := List.mem_map.1 hy
    have d := dr_p x
    refine .inr (.inr ⟨x, hx, ?_⟩)
    rcases hq with e | e | e
    · exact .inl (e.trans d.1)
    · exact .inr (.inl (e.trans d.2.1))
    · exact .inr (.inr (d.2.2.2.2.2.2 q e))
theorem Tq.kq {w W W' : World} {T n₀ cap : Nat} {sa : Option Addr} {lv srv : Value} {m : List Rw} {clk had : Int} {ps ps' : List Nat} (h : SR w T lv m clk srv had) (hlv : lv = .slice sa m.length cap) (t : Tq w W m ps) (t' : Tq w W' m ps') (hs : W.heap.size ≤ W'.heap.size) : Kq n₀ (Value.slice sa m.length cap).ownBlock (pts m) W W' := by
  refine ⟨hs, fun q hq => ?_, fun p hp => ?_⟩
  · rw [← hlv] at hq
    have h3 := h.lt q (.inr (.inl hq))
    have h2 : ∀ r ∈ m, q ≠ r.Q := fun r hr => ((h.tag2 hr hr).2.2.2.2.2 q hq).2.2.1
    rw [t.oth q h3 h2, t'.oth q h3 h2]
  · obtain ⟨r, hr, rfl⟩ := List.mem_map.1 hp
    have h2 : ∀ x ∈ m, r.p ≠ x.Q := fun x hx => (h.tag2 hx hr).1
    show W'.cell? ⟨r.p, 0, none⟩ = W.cell? ⟨r.p, 0, none⟩
    exact World.cell?_of_block ((t'.oth r.p (h.ltp r hr) h2).trans (t.oth r.p (h.ltp r hr) h2).symm)
set_option maxRecDepth 100000 in
set_option maxHeartbeats 4000000 in
theorem drop_any (T : Nat) (lv srv : Value) (m : List Rw) (clk had : Int) (w : World) (h : SR w T lv m clk srv had) (hl : m.length ≤ 16) (hq : ∀ r ∈ m, r.t.ws.length ≤ 16) :
    Calls Try.prog 30 #[.pointer (some ⟨T, 0, none⟩)] w fun e w' => e = .returned (.int .i64 (m.map fun r => (r.t.ws.length : Int)).sum) ∧ SR w' T lv ((m.map dr).map zr) 0 (.pointer none) 0 ∧ (w'.os = w.os ∧ w'.tape = w.tape ∧ w'.output = w.output ∧ w.heap.size ≤ w'.heap.size) ∧ ∀ q, q < w.heap.size → ¬ foot T lv m q → w'.heap[q]? = w.heap[q]? := by
  obtain ⟨S, hS⟩ : ∃ S, (m.map fun r => (r.t.ws.length : Int)).sum = S := ⟨_, rfl⟩
  have HLe : Hid (Calls Try.prog 46 #[.pointer (some ⟨T, 0, none⟩)] w fun e w' => e = .returned (.int .i64 S) ∧ Below w.heap.size w w') := by
    have := left_any T lv srv m clk had w h hl hq
    rw [hS] at this
    exact this
  rw [hS]
  refine (callsIn_wide (n := 5)).1 ?_
  refine callsIn_of_wp_marks Try.func30 rfl trivial ?_ rfl
  simp only [Try.ntmps30, List.size_toArray, List.length_cons, List.length_nil, Nat.reduceAdd, Nat.reduceSub, Array.replicate_succ, Array.replicate_zero, List.push_toArray, List.append_toArray, List.nil_append, List.cons_append]
  gi_wp2_with (refine ⟨trivial, ?_⟩; gi_at_call 46; refine (callsIn_wide.2 HLe.out).mono ?_; rintro e w1 ⟨rfl, hb1⟩)
  have h1 : SR w1 T lv m clk srv had := h.at' fun q hq => hb1.block q (h.lt q hq)
  gi_wp2_with (refine ⟨trivial, ?_⟩; gi_at_call 50; refine (callsIn_wide.2 (all_any _ _)).mono ?_; rintro e w' ⟨rfl, hw'⟩)
  subst hw'
  obtain ⟨W0, hW0⟩ : ∃ W0, w1.alloc (.cells #[.pointer (some ⟨T, 0, none⟩)] 105) = W0 := ⟨_, rfl⟩
  have q1 : W0.cell? ⟨w1.heap.size, 0, none⟩ = some (.pointer (some ⟨T, 0, none⟩)) := by
    rw [← hW0]
    exact (Boxed.new w1 105 (.pointer (some ⟨T, 0, none⟩))).cell
  have hB0 : Below w1.heap.size w1 W0 := by rw [← hW0]; exact bel1' _ _
  have hT1 : Tq w1 W0 m [] := (Tq.of h1).block h1.ltQ h1.ltO hB0.size hB0.os hB0.tape hB0.output fun q hq => hB0.block q hq
  have hsz : W0.heap.size = w1.heap.size + 1 := by rw [← hW0]; simp
  have hs1 := hb1.size
  show Code.wpIn _ _ _ _ _ _ (w1.alloc (.cells #[.pointer (some ⟨T, 0, none⟩)] 105))
  rw [hW0]
  clear hW0
  have hS0 : SR W0 T lv m clk srv had := h1.at' fun q hq => hB0.block q (h1.lt q hq)
  have hlen : (pts m).length = m.length := by simp [pts]
  obtain ⟨sa, cap, hlv⟩ := own_slice h.row
  rw [hlen] at hlv
  have hOwn : ∀ (ps : List Nat) (X Y : World) (row : Option Nat), Tq w1 X m ps → X.grownBy Y row → (∀ r, row = some r → W0.heap.size ≤ r ∧ ∃ o : Obj, X.heap[r]? = some o ∧ o.isCells = false) → Tq w1 Y m ps := fun ps X Y row ht hg hr => ht.grown h1.ltQ h1.ltO hg fun r e => by have := (hr r e).1; omega
  refine wpIn_rangeFunc_ownH rfl (by omega) (gf := 66) (lb := #[.pointer (some ⟨w1.heap.size, 0, none⟩)]) rfl trivial (enters_of Try.func66 (by kernel_rfl) rfl)
    (all_seq _ w1.heap.size T cap lv srv sa m clk had W0 hl hS0 hlv q1) Kq.trans
    (fun W l o o' h1 h2 h3 h4 => Kq.of (belowK_b (w := W0) (Nat.le_refl _) W l o o' h1 h2 h3 h4) (fun q hq => hS0.lt q (.inr (.inl (by rw [hlv]; exact hq)))) (fun p hp => by obtain ⟨r, hr, rfl⟩ := List.mem_map.1 hp; exact hS0.lt _ (.inr (.inr ⟨r, hr, .inl rfl⟩)))) (Below.refl _ _) (fun _ => rfl)
    (fun pre W => Tq w1 W m (pts (vals pre)))
    (fun _ _ _ => False)
    (fun pre X Y row ht hg hr => hOwn _ X Y row ht hg hr)
    (fun _ _ _ _ _ hs _ _ => hs)
    hT1
    (fun x a' W => a' = { tmps := #[.pointer (some ⟨T, 0, none⟩), undef, .int .i64 0, .int .i64 S, undef, .pointer (some ⟨x.1.p, 1, none⟩), .pointer (some ⟨T, 0, none⟩), .bool false, .pointer (some ⟨T, 0, none⟩), .int .i64 S, .pointer (some ⟨T, 0, none⟩), .pointer (some ⟨T, 0, none⟩), .pointer (some ⟨T, 0, none⟩), .func (.func 66) #[] #[.pointer (some ⟨w1.heap.size, 0, none⟩)], .string (tx x.1.t.nm), .pointer (some ⟨x.1.p, 1, none⟩), undef, undef, undef, undef, undef, undef, undef, undef], defers := [] })
    (fun x a' _ X Y row hs hg hr => hs)
    ?assign ?body ?done ?stop
  case assign =>
    rintro l pre x W K hI hK
    have HK := hK
    clear hK q1 hS0 h
    unfold elV
    gi_wp2_with fail
    exact HK _ _ (KeepsFrom.refl _ _) (Kq.refl _ _ _ _) hI rfl
  case body =>
    rintro l pre x a' W hl' ⟨r, hr⟩ hI rfl hlt
    have HI : Hid (Tq w1 W m (pts (vals pre))) := hI
    have c4 : W.cell? ⟨x.1.p, 4, none⟩ = some (.pointer (some ⟨x.1.Q, 0, none⟩)) := by
      have := (hI.oth x.1.p (h1.ltp x.1 x.2) fun r hr => (h1.tag2 hr x.2).1).trans (h1.each x.1 x.2)
      exact (rowO_cells this).2.2.2.2
    have hwl : (zd (pts (vals pre)) x.1).t.ws.length ≤ 16 := by
      unfold zd
      split
      · rw [(dr_p x.1).2.2.1]; simp
      · exact hq x.1 x.2
    have HD : Hid (CallsIn (Fence.wide.inRound l) (5 - 1 - 1 - 1) Try.prog 58 #[.pointer (some ⟨x.1.Q, 0, none⟩)] W fun e w' => (∃ v, e = .returned v) ∧ w' = dropW W x.1.Q (zd (pts (vals pre)) x.1).t.ws) := CallsIn.inRound l (callsIn_wide.2 (tdrop_any x.1.Q _ _ W (hI.que x.1 x.2) hwl))
    have ht := Tq.drop h1 hI x.2
    have HF : Hid (KeepsFrom W0.heap.size W (dropW W x.1.Q (zd (pts (vals pre)) x.1).t.ws) ∧ Kq W0.heap.size (Value.slice sa m.length cap).ownBlock (pts m) W (dropW W x.1.Q (zd (pts (vals pre)) x.1).t.ws) ∧ Tq w1 (dropW W x.1.Q (zd (pts (vals pre)) x.1).t.ws) m (pts (vals (pre ++ [x])))) := by
      have e : pts (vals (pre ++ [x])) = pts (vals pre) ++ [x.1.p] := by simp [pts, vals]
      rw [e]
      have hk : KeepsOthers W (dropW W x.1.Q (zd (pts (vals pre)) x.1).t.ws) := by
        cases (zd (pts (vals pre)) x.1).t.ws with
        | nil => exact KeepsOthers.refl _
        | cons _ _ => exact KeepsOthers.setCell _ _ _
      exact ⟨hk.from _, Tq.kq h1 hlv hI ht hk.size, ht⟩
    clear hI hr hl' hlt ht q1 hS0 hwl
    gi_wp2_with (refine ⟨trivial, ?_⟩; gi_at_call 58; refine HD.out.mono ?_; rintro e w2 ⟨⟨v, rfl⟩, hw2⟩)
    exact HF.out
  case done =>
    rintro D xs W hD hxs hI hK
    rw [hxs] at hI
    have hSW : SR W T lv (m.map dr) clk srv had := hI.sr h1 fun r hr => List.mem_map.2 ⟨r, hr, rfl⟩
    have HW : Hid (Tq w1 W m (pts m) ∧ SR W T lv (m.map dr) clk srv had) := ⟨hI, hSW⟩
    have HRe : Hid (Calls Try.prog 47 #[.pointer (some ⟨T, 0, none⟩)] W fun e w' => (∃ v, e = .returned v) ∧ Tur W w' T (m.map dr) (boxO lv 0 (.pointer none) 0) (fun r => z0 r.t)) := rest_any T lv srv (m.map dr) clk had W hSW (by simpa using hl)
    clear hI hSW
    gi_wp2_with (refine ⟨trivial, ?_⟩; gi_at_call 47; refine (callsIn_wide.2 HRe.out).mono ?_; rintro e w2 ⟨⟨v, rfl⟩, ht2⟩)
    have hpW : ∀ q, foot T lv m q → q < w.heap.size := fun q hq => h.lt q hq
    have hDT : D ≠ T := by have := h.ltT; omega
    have hDp : ∀ r ∈ m.map dr, D ≠ r.p := fun r hr e => by
      obtain ⟨y, hy, rfl⟩ := List.mem_map.1 hr
      have := h.ltp y hy
      rw [(dr_p y).1] at e
      omega
    have hK2 : w2.heap[D]? = some (Obj.deferred (some [])) := (ht2.oth D (Array.getElem?_eq_some_iff.1 hK).1 hDT hDp).trans hK
    refine ⟨by simp, .inl ⟨_, _, rfl, run_takeDeferred hK2, ?_⟩⟩
    refine ⟨_, results_tmp rfl _ _ _, rfl, ?_⟩
    have hg := grownBy_putObj' w2 D (.deferred none)
    have hS2 := ht2.sr HW.out.2 zr (fun r => ⟨rfl, rfl, rfl, rfl, rfl⟩) (fun r _ => rfl)
    have hD0 : w.heap.size ≤ D := by omega
    have hnD : ∀ q, q < w.heap.size → some q ≠ some D := fun q hq e => by have := Option.some.inj e; omega
    have hs2 := ht2.size
    have hsW := HW.out.1.size
    refine ⟨hS2.at' fun q hq => hg.block q (by have := hpW q (foot_dr hq); omega) (hnD q (hpW q (foot_dr hq))), ⟨hg.os.trans (ht2.os.trans (HW.out.1.os.trans hb1.os)), hg.tape.trans (ht2.tape.trans (HW.out.1.tape.trans hb1.tape)), hg.output.trans (ht2.output.trans (HW.out.1.output.trans hb1.output)), by have := hg.size; omega⟩, fun q hq hn => ?_⟩
    rw [hg.block q (by omega) (hnD q hq), ht2.oth q (by omega) (fun e => hn (.inl e)) (fun r hr e => by
      obtain ⟨y, hy, rfl⟩ := List.mem_map.1 hr
      rw [(dr_p y).1] at e
      exact hn (.inr (.inr ⟨y, hy, .inl e⟩))), HW.out.1.oth q (by omega) (fun r hr e => hn (.inr (.inr ⟨r, hr, .inr (.inl e)⟩))), hb1.block q hq]
  case stop =>
    rintro D c pre W _ _ h _
    exact h.elim
theorem dropS_any (N : Int) (T : Nat) (F : Nat → Prop) (s : Sc) (w : World) (h : PF w T F s) (hs : Sok N s) : Calls Try.prog 30 #[.pointer (some ⟨T, 0, none⟩)] w fun e w' => e = .returned (.int .i64 (dropS s).1) ∧ ∃ F', PF w' T F' (dropS s).2 ∧ Fr F F' w w' := by
  obtain ⟨lv, m, srv, had, h1, h2, h3, h4⟩ := h
  obtain ⟨k1, k2⟩ := pf_ok (w := w) (T := T) (F := F) (lv := lv) (srv := srv) (had := had) h2 hs
  refine (drop_any T lv srv m s.clk had w h1 k1 k2).mono fun e w' ⟨g1, g2, ⟨g3, g4, g5, g6⟩, g7⟩ => ⟨?_, foot T lv ((m.map dr).map zr), ⟨lv, (m.map dr).map zr, .pointer none, 0, g2, ?_, ⟨fun _ => ⟨rfl, rfl, fun r hr z hz => ?_⟩, fun e => (nomatch e)⟩, fun q => Iff.rfl⟩, ⟨g3, g4, g5, g6, fun q hq hn => g7 q hq (fun hf => hn ((h4 q).2 hf)), fun q hq => .inl ((h4 q).2 (foot_dr hq))⟩⟩
  · rw [g1, left_sum, h2]
    rfl
  · show tns ((m.map dr).map zr) = s.ts.map fun t => { t with fin := 0, ws := [] }
    rw [← h2]
    unfold tns
    rw [List.map_map, List.map_map, List.map_map]
    refine List.map_congr_left fun r _ => ?_
    have d := dr_p r
    show z0 (dr r).t = { r.t with fin := 0, ws := [] }
    unfold z0
    cases hd : (dr r).t
    rw [hd] at d
    simp only at d
    simp [d.2.2.1, d.2.2.2.1, d.2.2.2.2.1]
  · obtain ⟨y, hy, rfl⟩ := List.mem_map.1 hr
    obtain ⟨x, hx, rfl⟩ := List.mem_map.1 hy
    have : z ∈ (dr x).t.ws := hz
    rw [(dr_p x).2.2.1] at this
    cases this
theorem prgSX : PrgSX PF where
  waiting := fun N T F s nm w h hs hN => (waitS_any N T F s nm w h hs).mono fun e w' ⟨h1, h2⟩ => ⟨h1, by rw [h2]; exact h.same⟩
  ahead := fun N T F s nm w h hs hN => (ahead_any N T F s nm w h hs).mono fun e w' ⟨h1, h2⟩ => ⟨h1, h.newer h2⟩
  weights := fun N T F s w h hs hN => (wtsS_any N T F s w h hs).mono fun e w' ⟨h1, h2⟩ => ⟨h1, h.newer h2⟩
  drop := fun N T F s w h hs hN => dropS_any N T F s w h hs
end Go.Proofs.Ytfndbllpnkhlhaa
