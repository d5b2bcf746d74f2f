/- The program's table against the plain list: Set. -/
import Derived.Test.YtpobfcmbbabchaaQc
namespace Go.Proofs.Ytpobfcmbbabchaa
open Go.RowKit Go.Lib
set_option linter.unusedVariables false
set_option linter.unusedSimpArgs false

theorem putN_mem {β : Type} {l : List β} {i : Nat} {x y : β} (h : y ∈ putN l i x) : y = x ∨ y ∈ l := by
  unfold putN at h
  rcases List.mem_append.1 h with h | h
  · exact .inr (List.mem_of_mem_take h)
  · rcases List.mem_cons.1 h with h | h
    · exact .inl h
    · exact .inr (List.mem_of_mem_drop h)
theorem putN_map {β γ : Type} (f : β → γ) (l : List β) (i : Nat) (x : β) : (putN l i x).map f = putN (l.map f) i (f x) := by
  unfold putN
  simp [List.map_take, List.map_drop]
theorem putN_perm {β : Type} (l : List β) (i : Nat) (x : β) : (putN l i x).Perm (l ++ [x]) := by
  unfold putN
  refine (List.perm_middle).trans ?_
  rw [List.take_append_drop]
  exact (List.perm_append_comm (l₁ := [x]) (l₂ := l))
/-- A row is put in. -/
theorem PR.new {w w' : World} {T p : Nat} {sv sv' : Value} {m : List (Nat × Bk)} {c : Bk} (h : PR w T sv m) (hf : plB (nms m) c.nm = false) (hn : Newly w w' T sv sv' (pts m) (plI (nms m) c.nm) p (pkO c)) : PR w' T sv' (putN m (plI (nms m) c.nm) (p, c)) := by
  have e1 : pts (putN m (plI (nms m) c.nm) (p, c)) = putN (pts m) (plI (nms m) c.nm) p := by unfold pts; rw [putN_map]
  have e2 : nms (putN m (plI (nms m) c.nm) (p, c)) = putN (nms m) (plI (nms m) c.nm) c.nm := by unfold nms; rw [putN_map]
  refine ⟨hn.tab, by rw [e1]; exact hn.ptrs, fun q b hq => ?_, by rw [e2]; exact h.up.put hf, ?_⟩
  · rcases putN_mem hq with e | hq
    · obtain ⟨rfl, rfl⟩ := Prod.mk.inj e
      exact hn.row
    · have hr := h.each q b hq
      have hr' : w.heap[q]? = some (.cells _ 85 (0, 0)) := hr
      rw [hn.block q (Array.getElem?_eq_some_iff.1 hr).1 (ne_tag hr' h.tab (by decide)) (own_other h.row hr' (by decide))]
      exact hr
  · rw [e1]
    have hp : p ∉ pts m := fun hp => by
      have := h.lt p (.inr (.inr hp))
      have := hn.new
      omega
    unfold putN
    refine (List.perm_middle).nodup_iff.2 ?_
    rw [List.take_append_drop]
    exact List.nodup_cons.2 ⟨hp, h.nd⟩
theorem PF.put_new {w w' : World} {T p : Nat} {F : Nat → Prop} {sv sv' : Value} {m : List (Nat × Bk)} {l : List Bk} {c : Bk} (h : PR w T sv m) (h2 : (bks m).Perm l) (h3 : ∀ q, F q ↔ foot T sv m q) (hf : plB (nms m) c.nm = false) (hn : Newly w w' T sv sv' (pts m) (plI (nms m) c.nm) p (pkO c)) :
    ∃ F', PF w' T F' (l ++ [c]) ∧ Fr F F' w w' ∧ Kx badQ w w' := by
  have hpr := h.new hf hn
  refine ⟨foot T sv' (putN m (plI (nms m) c.nm) (p, c)), ⟨sv', _, hpr, ?_, fun q => Iff.rfl⟩, ⟨hn.os, hn.tape, hn.output, hn.size, fun q hq hnF => ?_, fun q hq => ?_⟩, fun q o hq ho => ?_⟩
  · have e : bks (putN m (plI (nms m) c.nm) (p, c)) = putN (bks m) (plI (nms m) c.nm) c := by unfold bks; rw [putN_map]
    rw [e]
    exact (putN_perm _ _ _).trans (h2.append_right [c])
  · rw [h3 q] at hnF
    exact hn.block q hq (fun e => hnF (.inl e)) (fun e => hnF (.inr (.inl e.symm)))
  · rcases hq with rfl | hq | hq
    · exact .inl ((h3 _).2 (.inl rfl))
    · rcases hn.own with e | ⟨q', e, hle⟩
      · exact .inl ((h3 q).2 (.inr (.inl (e ▸ hq))))
      · rw [e] at hq
        have := Option.some.inj hq
        exact .inr (by omega)
    · unfold pts at hq
      obtain ⟨x, hx, rfl⟩ := List.mem_map.1 hq
      rcases putN_mem hx with e | hx
      · rw [e]
        exact .inr hn.new
      · exact .inl ((h3 _).2 (.inr (.inr (List.mem_map.2 ⟨x, hx, rfl⟩))))
  · have hlt := (Array.getElem?_eq_some_iff.1 hq).1
    refine (hn.block q hlt (fun e => ?_) (fun e => ?_)).trans hq
    · subst e
      rw [h.tab] at hq
      have := ho _ _ _ (Option.some.inj hq).symm
      exact absurd this (by decide)
    · obtain ⟨cur, hc⟩ := own_tag h.row e.symm
      rw [hc] at hq
      have := ho _ _ _ (Option.some.inj hq).symm
      exact absurd this (by decide)
theorem PF.put_there {w w' : World} {T p i k : Nat} {F : Nat → Prop} {sv : Value} {m : List (Nat × Bk)} {l : List Bk} {b c : Bk} {nm : List UInt8} (h1 : PR w T sv m) (h2 : (bks m).Perm l) (h3 : ∀ q, F q ↔ foot T sv m q) (hf : fnd m nm = some (i, p, b)) (hk : lookB l nm = some (k, b)) (hc : c.nm = b.nm) (hr : w'.heap[p]? = some (pkO c)) (hg : w.grownBy w' (some p)) :
    ∃ F', PF w' T F' (l.set k c) ∧ Fr F F' w w' ∧ Kx badQ w w' := by
  have g := fnd_some hf
  have hin : (p, b) ∈ m := List.mem_of_getElem? g.2.2.1
  have hFp : F p := (h3 p).2 (.inr (.inr (List.mem_map.2 ⟨(p, b), hin, rfl⟩)))
  have hb : ∀ q, q < w.heap.size → q ≠ p → w'.heap[q]? = w.heap[q]? := fun q hq hn => hg.block q hq fun e => hn (Option.some.inj e)
  refine ⟨F, ⟨sv, m.set i (p, c), h1.put g.2.2.1 hc hr hb, ?_, fun q => ?_⟩, ⟨hg.os, hg.tape, hg.output, hg.size, fun q hq hn => hb q hq fun e => hn (by rw [e]; exact hFp), fun q hq => .inl hq⟩, Kx.but hb (show w.heap[p]? = some (.cells _ 85 (0, 0)) from h1.each p b hin) rfl⟩
  · have e : bks (m.set i (p, c)) = (bks m).set i c := by unfold bks; rw [List.map_set]
    rw [e]
    exact perm_set h2 (lookB_some hk).2.1 (bks_at g.2.2.1)
  · rw [h3 q]
    unfold foot
    have e : pts (m.set i (p, c)) = pts m := by
      unfold pts
      rw [List.map_set]
      exact List.ext_getElem? fun j => by
        by_cases e : i = j
        · subst e; rw [List.getElem?_set_self (by simpa using (List.getElem?_eq_some_iff.1 g.2.2.1).1), List.getElem?_map, g.2.2.1]; rfl
        · rw [List.getElem?_set_ne e]
    rw [e]
theorem newB_pk (nm : List UInt8) (rate burst now : Int) : pkO (newB nm rate burst now) = row8 nm rate (burst * 1000000000) (burst * 1000000000) now 0 0 0 := by
  unfold pkO newB tot
  simp
/-- Frames one behind the other. -/
theorem Fr.after {F F' : Nat → Prop} {w W w' : World} (hb : Below w.heap.size w W) (h : Fr F F' W w') : Fr F F' w w' :=
  ⟨h.os.trans hb.os, h.tape.trans hb.tape, h.output.trans hb.output, Nat.le_trans hb.size h.size, fun q hq hn => (h.block q (by have := hb.size; omega) hn).trans (hb.block q hq), fun q hq => (h.grow q hq).imp id fun h => Nat.le_trans hb.size h⟩
theorem Kx.after {bad : TypeId → Bool} {w W w' : World} (hb : Below w.heap.size w W) (h : Kx bad W w') : Kx bad w w' := (Kx.of hb (Nat.le_refl _)).trans h
set_option maxRecDepth 20000 in
set_option maxHeartbeats 4000000 in
/-- Put, against the plain list. -/
theorem put_any (T : Nat) (F : Nat → Prop) (l : List Bk) (nm : List UInt8) (rate burst now : Int) (w : World) (h : PF w T F l) (ht : l.length ≤ 16) (hs : okS rate burst now = true) :
    Calls Try.prog 33 #[.pointer (some ⟨T, 0, none⟩), .string (tx nm), bk7 rate (burst * 1000000000) (burst * 1000000000) now 0 0 0] w fun e w' => e = .returned (.int .i64 (setI l nm rate burst now).1) ∧ ∃ F', PF w' T F' (setI l nm rate burst now).2 ∧ Fr F F' w w' ∧ Kx badQ w w' := by
  have hPF := h
  obtain ⟨sv, m, h1, h2, h3⟩ := h
  have hlen : m.length = l.length := by have := h2.length_eq; unfold bks at this; rwa [List.length_map] at this
  have hns : ¬ okS rate burst now = false := by rw [hs]; decide
  rcases fnd_look (nm := nm) h1.up h2 with ⟨i, p, b, k, hf, hk, hx⟩ | ⟨hf, hk, hx⟩
  · have hR : setI l nm rate burst now = (0, l.set k (newB nm rate burst now)) := by unfold setI; rw [if_neg hns, hx]
    rw [hR]
    refine (Ytpobfcmbbabchaa.put_there T sv m nm _ _ _ _ _ _ _ w i p b h1 (by omega) hf).mono ?_
    rintro e w' ⟨rfl, hr, hg⟩
    exact ⟨rfl, PF.put_there h1 h2 h3 hf hk (c := newB nm rate burst now) (lookB_some hk).2.2.symm (by rw [newB_pk]; exact hr) hg⟩
  · by_cases hl : 16 ≤ l.length
    · have hR : setI l nm rate burst now = (7, l) := by unfold setI; rw [if_neg hns, hx]; simp [hl]
      rw [hR]
      refine (put_full T sv m nm _ _ _ _ _ _ _ w h1 (by omega) hf).mono ?_
      rintro e w' ⟨rfl, hb⟩
      exact ⟨rfl, hPF.new hb⟩
    · have hR : setI l nm rate burst now = (0, l ++ [newB nm rate burst now]) := by unfold setI; rw [if_neg hns, hx]; simp [hl]
      rw [hR]
      refine (Ytpobfcmbbabchaa.put_new T sv m nm _ _ _ _ _ _ _ w h1 (by omega) hf).mono ?_
      rintro e w' ⟨rfl, sv', p, hn⟩
      rw [← newB_pk] at hn
      exact ⟨rfl, PF.put_new (c := newB nm rate burst now) h1 h2 h3 (fnd_none hf) hn⟩
set_option maxRecDepth 20000 in
set_option maxHeartbeats 4000000 in
theorem set_any (N : Int) (T : Nat) (F : Nat → Prop) (l : List Bk) (nm : List UInt8) (rate burst now : Int) (w : World) (h : PF w T F l) (ht : Tok N l) (hN : N ≤ 1000000) :
    Calls Try.prog 15 #[.pointer (some ⟨T, 0, none⟩), .string (tx nm), .int .i64 rate, .int .i64 burst, .int .i64 now] w fun e w' => e = .returned (.int .i64 (setI l nm rate burst now).1) ∧ ∃ F', PF w' T F' (setI l nm rate burst now).2 ∧ Fr F F' w w' ∧ Kx badQ w w' := by
  have HT : Hid (∀ W, Calls Try.prog 32 #[.int .i64 now] W fun e w' => e = .returned (.bool (timI now)) ∧ w' = W) := fun W => ptime_any now W
  cases hs : okS rate burst now with
  | false =>
    have HS : Hid (∃ F', PF w T F' l ∧ Fr F F' w w ∧ Kx badQ w w) := h.same
    have HR : Hid (setI l nm rate burst now = (1, l)) := by show _ = _; unfold setI; rw [if_pos hs]
    rcases okS_no hs with c1 | ⟨c0, c1⟩ | ⟨c0, c1, c2⟩ | ⟨c0, c1, c2, c3⟩ | ⟨c0, c1, c2, c3, c4⟩
    · clear h ht hs HT
      go_enter Try.func15, Try.ntmps15
      go_wp2_with fail
      go_ret
      rw [HR.out]
      exact ⟨rfl, HS.out⟩
    · clear h ht hs HT
      go_enter Try.func15, Try.ntmps15
      go_wp2_with fail
      go_ret
      rw [HR.out]
      exact ⟨rfl, HS.out⟩
    · have c1' : ¬ 1000000000 < rate := by omega
      clear h ht hs HT
      go_enter Try.func15, Try.ntmps15
      go_wp2_with fail
      go_ret
      rw [HR.out]
      exact ⟨rfl, HS.out⟩
    · have c1' : ¬ 1000000000 < rate := by omega
      have c2' : ¬ burst < 1 := by omega
      clear h ht hs HT
      go_enter Try.func15, Try.ntmps15
      go_wp2_with fail
      go_ret
      rw [HR.out]
      exact ⟨rfl, HS.out⟩
    · rw [c4] at HT
      have c1' : ¬ 1000000000 < rate := by omega
      have c2' : ¬ burst < 1 := by omega
      have c3' : ¬ 1000000000 < burst := by omega
      clear h ht hs c4
      go_enter Try.func15, Try.ntmps15
      go_wp2_with (go_at_call 32; refine (HT.out _).mono ?_; rintro e w' ⟨rfl, hw⟩; rw [hw]; clear hw)
      go_ret
      rw [HR.out]
      exact ⟨rfl, HS.out⟩
  | true =>
    obtain ⟨⟨c0, c1, c2, c3, c4, c5⟩, c6⟩ := okS_yes hs
    rw [c6] at HT
    have c1' : ¬ 1000000000 < rate := by omega
    have c2' : ¬ burst < 1 := by omega
    have c3' : ¬ 1000000000 < burst := by omega
    have HF : Hid (∀ W : World, Below w.heap.size w W → Calls Try.prog 34 #[.int .i64 rate, .int .i64 burst, .int .i64 now] W fun e w' => e = .returned (bk7 rate (burst * 1000000000) (burst * 1000000000) now 0 0 0) ∧ Below w.heap.size w w') := fun W hb => (full_any rate burst now W (by omega) c3).mono fun e w' ⟨g1, g2⟩ => ⟨g1, hb.trans (g2.mono hb.size)⟩
    have HP : Hid (∀ W : World, Below w.heap.size w W → Calls Try.prog 33 #[.pointer (some ⟨T, 0, none⟩), .string (tx nm), bk7 rate (burst * 1000000000) (burst * 1000000000) now 0 0 0] W fun e w' => e = .returned (.int .i64 (setI l nm rate burst now).1) ∧ ∃ F', PF w' T F' (setI l nm rate burst now).2 ∧ Fr F F' w w' ∧ Kx badQ w w') := fun W hb => by
      have hW : PF W T F l := h.at' fun q hq => hb.block q (h.lt q hq)
      exact (put_any T F l nm rate burst now W hW ht.len hs).mono fun e w' ⟨g1, F', g2, g3, g4⟩ => ⟨g1, F', g2, g3.after hb, g4.after hb⟩
    have HB : Hid (Below w.heap.size w w.drew) := (Below.refl _ w).drew
    generalize setI l nm rate burst now = R at HP ⊢
    obtain ⟨x, R2⟩ := R
    simp only at HP ⊢
    generalize bk7 rate (burst * 1000000000) (burst * 1000000000) now 0 0 0 = A at HF HP
    clear h ht hs c6
    go_enter Try.func15, Try.ntmps15
    go_wp2_with (go_at_call 32; refine (HT.out _).mono ?_; rintro e w' ⟨rfl, hw⟩; rw [hw]; clear hw)
    go_region_with (first | (go_at_call 34; refine (HF.out _ HB.out).mono ?_; rintro e w1 ⟨rfl, hb⟩; (have HB1 : Hid (Below w.heap.size w w1) := hb); clear hb) | (go_at_call 33; refine (HP.out w1 HB1.out).mono ?_; rintro e w2 ⟨rfl, hE⟩; (have HE : Hid (∃ F', PF w2 T F' R2 ∧ Fr F F' w w2 ∧ Kx badQ w w2) := hE); clear hE))
    go_wp2_with fail
    go_ret
    exact ⟨rfl, HE.out⟩
end Go.Proofs.Ytpobfcmbbabchaa
