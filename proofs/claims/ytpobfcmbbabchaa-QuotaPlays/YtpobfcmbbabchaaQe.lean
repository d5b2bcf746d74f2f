/- Rows of pointers: one is taken out (slices.Delete). -/
import Derived.Test.YtpobfcmbbabchaaQd
namespace Go.Proofs.Ytpobfcmbbabchaa
open Go.RowKit Go.Lib
set_option linter.unusedVariables false
set_option linter.unusedSimpArgs false

theorem zero86 (w : World) : (zeroValue 86).run Try.prog w = .ok (.pointer none) w := by kernel_rfl
theorem step_append_run {P : Program} {ops : Array Oper} {o : Oper} {a : Act} {w : World} {K : Act → World → Prop} {Q : Exit → Act → World → Prop} {E : Prop} (hgd : o.guard = none) (s x : Operand) (t : TypeId)
    (ho : o.op = .call { callee := .builtin .append, args := #[s, x], argTypes := #[t, t] }) (v1 v2 v' : Value) (w' : World) (hs : a.eval s = v1) (hx : a.eval x = v2) (hr : (Builtin.append_ #[t, t] o.type #[v1, v2]).run P w = .ok v' w') (h : K (a.put o.dst v') w') :
    if Region.wanted o (yielded ops a.tmps) = true then Oper.wp P o a w K Q else E := by
  have hw : Region.wanted o (yielded ops a.tmps) = true := by simp [Region.wanted, hgd]
  rw [if_pos hw]
  unfold Oper.wp
  simp [execOp, ho, resolve, invoke, builtin, hs, hx, hr, Result.andThen]
  exact h
/-- What the append of a row's rest leaves of its block. -/
structure Cutd (w W : World) (g cap m : Nat) (ps : List Nat) : Prop where
  ex : ∃ R, W.heap[g]? = some (.cells R 86 (0, 0)) ∧ R.size = cap ∧ ∀ (j p : Nat), ps[j]? = some p → R[j]? = some (ptrV p)
  kp : Kp g w W
theorem cutd_of {w : World} {g cap i j n : Nat} {ps : List Nat} {cur : Array Value} (hg : w.heap[g]? = some (.cells cur 86 (0, 0))) (hn : ps.length = n) (hs : cur.size = cap) (hat : ∀ (j p : Nat), ps[j]? = some p → cur[j]? = some (ptrV p)) (hij : i + 1 = j) (hj : j ≤ n) (hc : n ≤ cap) :
    Cutd w (w.drew.setRow g (cur.toList.take i ++ (ps.drop j).map ptrV ++ cur.toList.drop (i + ((ps.drop j).map ptrV).length)).toArray) g cap (n - 1) (ps.eraseIdx i) := by
  have hdl : ((ps.drop j).map ptrV).length = n - j := by simp [hn]
  have htl : (cur.toList.take i).length = i := by rw [List.length_take, Array.length_toList]; omega
  refine ⟨⟨_, setRow_heap w.drew g cur _ 86 _ hg, ?_, fun k p hk => ?_⟩, ⟨rfl, rfl, rfl, by simp, fun q hq => setRow_other _ g q _ hq⟩⟩
  · simp only [List.size_toArray, List.length_append, List.length_drop, htl, hdl, Array.length_toList, hs]
    omega
  · have hkl : k < n - 1 := by
      have := (List.getElem?_eq_some_iff.1 hk).1
      rw [List.length_eraseIdx_of_lt (by omega)] at this
      omega
    rw [List.getElem?_eraseIdx] at hk
    rw [← Array.getElem?_toList]
    simp only
    by_cases hki : k < i
    · rw [if_pos hki] at hk
      rw [List.append_assoc, List.getElem?_append_left (by omega), List.getElem?_take, if_pos hki, Array.getElem?_toList]
      exact hat k p hk
    · rw [if_neg hki] at hk
      rw [List.getElem?_append_left (by rw [List.length_append, htl, hdl]; omega), List.getElem?_append_right (by omega), htl, List.getElem?_map, List.getElem?_drop, show j + (k - i) = k + 1 by omega, hk]
      rfl
set_option maxRecDepth 20000 in
set_option maxHeartbeats 4000000 in
theorem delete_any (g cap i : Nat) (ps : List Nat) (w : World) (ho : Ptrs w (.slice (some ⟨g, 0, none⟩) ps.length cap) ps) (hi : i < ps.length) (hl : ps.length ≤ 16) :
    Calls Try.prog 49 #[.slice (some ⟨g, 0, none⟩) ps.length cap, .int .i64 (i : Int), .int .i64 ((i + 1 : Nat) : Int)] w fun e w' => e = .returned (.slice (some ⟨g, 0, none⟩) (ps.length - 1) cap) ∧ Ptrs w' (.slice (some ⟨g, 0, none⟩) (ps.length - 1) cap) (ps.eraseIdx i) ∧ Kp g w w' := by
  obtain ⟨n, hn⟩ : ∃ n, ps.length = n := ⟨_, rfl⟩
  have hcap := own_cap ho
  obtain ⟨cur, hg, _, _, hcm, hcs, hat⟩ := ho.open
  rw [hn] at hi hl hcap ⊢
  obtain ⟨j, hj⟩ : ∃ j, i + 1 = j := ⟨_, rfl⟩
  have HC : Hid (Cutd w (w.drew.setRow g (cur.toList.take i ++ (ps.drop j).map ptrV ++ cur.toList.drop (i + ((ps.drop j).map ptrV).length)).toArray) g cap (n - 1) (ps.eraseIdx i)) := cutd_of hg hn hcs hat hj (by omega) hcap
  have HEL : Hid ((ps.eraseIdx i).length = n - 1 ∧ n - 1 ≤ cap ∧ cap ≤ maxLen ∧ n - 1 < cap) := ⟨by rw [List.length_eraseIdx_of_lt (by omega), hn], by omega, hcm, by omega⟩
  have hap : ∀ (x : Addr), (∀ q u, ((ps.drop j).map ptrV)[q]? = some u → w.cell? (x.add q) = some u) → (Builtin.append_ #[54, 54] 54 #[.slice (some ⟨g, 0, none⟩) i cap, .slice (some x) (n - j) (cap - j)]).run Try.prog w.drew = .ok (.slice (some ⟨g, 0, none⟩) (i + (n - j)) cap) (w.drew.setRow g (cur.toList.take i ++ (ps.drop j).map ptrV ++ cur.toList.drop (i + ((ps.drop j).map ptrV).length)).toArray) := fun x hx => by
    obtain ⟨i0, hi0, hz0, hz1, hz2⟩ := info_parts info86
    have h := run_append_room (P := Try.prog) w.drew 54 54 86 i0 Try.underlying54 hi0 g i cap cur hg x (n - j) (cap - j) ((ps.drop j).map ptrV) (by rw [hz1]; simp [hn]) (fun q u hu => hx q u hu) one_of (by omega) (by rw [hz1]; simp [hn, hcs]; omega)
    rw [hz1, Nat.mul_one] at h
    exact h
  generalize w.drew.setRow g (cur.toList.take i ++ (ps.drop j).map ptrV ++ cur.toList.drop (i + ((ps.drop j).map ptrV).length)).toArray = W1 at HC hap
  have HX : Hid (∀ q u, ((ps.drop j).map ptrV)[q]? = some u → w.cell? ((⟨g, j, none⟩ : Addr).add q) = some u) := fun q u hu => by
    rw [List.getElem?_map, List.getElem?_drop] at hu
    cases hq : ps[j + q]? with
    | none => rw [hq] at hu; cases hu
    | some p =>
      rw [hq] at hu
      have : ptrV p = u := by simpa using hu
      subst this
      rw [Addr.add_lit]
      simp [World.cell?, hg, hat _ p hq]
  have HAP : Hid (∀ (x : Addr), (∀ q u, ((ps.drop j).map ptrV)[q]? = some u → w.cell? (x.add q) = some u) → (Builtin.append_ #[54, 54] 54 #[.slice (some ⟨g, 0, none⟩) i cap, .slice (some x) (n - j) (cap - j)]).run Try.prog w.drew = .ok (.slice (some ⟨g, 0, none⟩) (i + (n - j)) cap) W1) := hap
  have HND : Hid (j = n → (ps.drop j).map ptrV = []) := fun e => by rw [List.drop_of_length_le (by omega)]; rfl
  rw [hj]
  have hne : ((i : Int) == (j : Int)) = false := by simpa using (by omega : ¬ (i : Int) = (j : Int))
  have h1 : (i : Int) ≤ (j : Int) := by omega
  have h2 : (j : Int) ≤ (n : Int) := by omega
  have h3 : (n : Int) ≤ (cap : Int) := by omega
  have h4 : (n : Int) ≤ 1000 := by omega
  obtain ⟨m, hm1⟩ : ∃ m, n - 1 = m := ⟨_, rfl⟩
  rw [hm1] at HC HEL ⊢
  obtain ⟨R, hR, hRs, hRa⟩ := HC.out.ex
  have hcl : ∀ ty c, (Builtin.clear_ #[54] ty #[.slice (some ⟨g, m, none⟩) 1 c]).run Try.prog W1 = .ok (.tuple #[]) (W1.setCells g m (List.replicate 1 (.pointer none))) := fun ty c =>
    run_clear_slice W1 54 86 ty (.pointer none) Try.underlying54 zero86 rfl rfl g m 1 c (by decide) (fun j hj => by simp [World.cell?, hR]; have := HEL.out; omega) (fun j hj => by simp [World.frozen?, hR])
  have HE : Hid (Ptrs (W1.setCells g m (List.replicate 1 (.pointer none))) (.slice (some ⟨g, 0, none⟩) m cap) (ps.eraseIdx i) ∧ Kp g w (W1.setCells g m (List.replicate 1 (.pointer none)))) := by
    obtain ⟨c1, hg1, hs1, hin1, hout1⟩ := setCs_cells (List.replicate 1 (.pointer none)) W1 g m R 86 (0, 0) hR (by have := HEL.out; simp; omega)
    refine ⟨ptrs_of hg1 HEL.out.1 HEL.out.2.1 HEL.out.2.2.1 (by omega) fun k p hk => ?_, HC.out.kp.setCs m _⟩
    rw [hout1 k (.inl (by have := (List.getElem?_eq_some_iff.1 hk).1; have := HEL.out.1; omega))]
    exact hRa k p hk
  generalize W1.setCells g m (List.replicate 1 (.pointer none)) = W2 at hcl HE
  have hmi : i + (n - j) = m := by omega
  rw [hmi] at HAP
  have hnm : n - m = 1 := by omega
  have hmn : (m : Int) < (n : Int) := by omega
  have hmc : (m : Int) < (cap : Int) := by omega
  have hcm' : ¬ cap = m := by omega
  have hji : j = i + 1 := hj.symm
  have hni : ¬ n = i := by omega
  have HJ : Hid (j ≤ n ∧ n ≤ cap) := by show _ ∧ _; omega
  clear ho hn hcap hg hcs hat hcm hj hm1 hi hl hap hmi hR hRs hRa hji
  go_enter Try.func49, Try.ntmps49
  go_upto_region 5 with fail
  have hic : (i : Int) ≤ (cap : Int) := by omega
  by_cases hjc : j < cap
  · have hx := HAP.out ⟨g, j, none⟩ HX.out
    have hjc' : (j : Int) < (cap : Int) := by omega
    have hcj : ¬ cap = j := by omega
    go_region_law (refine step_append_run rfl (.tmp 22) (.tmp 25) 54 rfl (.slice (some ⟨g, 0, none⟩) i cap) (.slice (some ⟨g, j, none⟩) (n - j) (cap - j)) _ _ (by simp [Act.eval, Act.put]) (by simp [Act.eval, Act.put]) hx ?_)
    simp only [Act.put]
    go_wp2_with fail
    all_goals
      go_ret
      exact ⟨rfl, HE.out.1, HE.out.2⟩
  · obtain rfl : j = n := by have := HJ.out; omega
    obtain rfl : j = cap := by have := HJ.out; omega
    have hx := HAP.out ⟨g, 0, none⟩ (fun q u hu => by rw [HND.out rfl] at hu; simp at hu)
    rw [Nat.sub_self] at hx
    clear hjc
    go_region_law (refine step_append_run rfl (.tmp 22) (.tmp 25) 54 rfl (.slice (some ⟨g, 0, none⟩) i j) (.slice (some ⟨g, 0, none⟩) 0 0) _ _ (by simp [Act.eval, Act.put]) (by simp [Act.eval, Act.put]) hx ?_)
    simp only [Act.put]
    go_wp2_with fail
    all_goals
      go_ret
      exact ⟨rfl, HE.out.1, HE.out.2⟩
theorem erase_map {β γ : Type} (f : β → γ) : ∀ (l : List β) (i : Nat), (l.eraseIdx i).map f = (l.map f).eraseIdx i
  | [], i => by simp
  | x :: r, 0 => by simp
  | x :: r, i + 1 => by simp [erase_map f r i]
theorem PR.cut {w w' : World} {T g cap i p : Nat} {m : List (Nat × Bk)} {b : Bk} (h : PR w T (.slice (some ⟨g, 0, none⟩) m.length cap) m) (hi : m[i]? = some (p, b)) (hp : Ptrs w' (.slice (some ⟨g, 0, none⟩) (m.length - 1) cap) ((pts m).eraseIdx i)) (ht : w'.heap[T]? = some (.cells #[.slice (some ⟨g, 0, none⟩) (m.length - 1) cap] 58 (0, 0))) (hk : ∀ q, q ≠ T → q ≠ g → w'.heap[q]? = w.heap[q]?) : PR w' T (.slice (some ⟨g, 0, none⟩) (m.length - 1) cap) (m.eraseIdx i) := by
  have e1 : pts (m.eraseIdx i) = (pts m).eraseIdx i := by unfold pts; rw [erase_map]
  have e2 : nms (m.eraseIdx i) = (nms m).eraseIdx i := by unfold nms; rw [erase_map]
  refine ⟨ht, by rw [e1]; exact hp, fun q x hq => ?_, by rw [e2]; exact h.up.take_out i, by rw [e1]; exact h.nd.sublist (List.eraseIdx_sublist _ _)⟩
  have hr := h.each q x (List.mem_of_mem_eraseIdx hq)
  have hr' : w.heap[q]? = some (.cells _ 85 (0, 0)) := hr
  rw [hk q (ne_tag hr' h.tab (by decide)) (fun e => own_other h.row hr' (by decide) (by rw [e]; rfl))]
  exact hr
set_option maxRecDepth 20000 in
set_option maxHeartbeats 4000000 in
theorem rdrop_none (T : Nat) (sv : Value) (m : List (Nat × Bk)) (nm : List UInt8) (w : World) (h : PR w T sv m) (hl : m.length ≤ 16) (hf : fnd m nm = none) :
    Calls Try.prog 40 #[.pointer (some ⟨T, 0, none⟩), .string (tx nm)] w fun e w' => e = .returned (.int .i64 5) ∧ w' = w := by
  have HL : Hid (∀ W, W = w → Calls Try.prog 46 #[.pointer (some ⟨T, 0, none⟩), .string (tx nm)] W fun e w' => e = .returned (.tuple #[.int .i64 (plI (nms m) nm : Nat), .bool (plB (nms m) nm)]) ∧ w' = W) := fun W e => by
    subst e
    exact place_any T sv (pts m) (nms m) nm W h.cell h.row h.nam h.up (by simpa [pts] using hl)
  rw [fnd_none hf] at HL
  clear h hl hf
  go_enter Try.func40, Try.ntmps40
  go_wp2_with (go_at_call 46; refine (HL.out _ rfl).mono ?_; rintro e w' ⟨rfl, hw⟩; rw [hw]; clear hw)
  go_ret
  exact ⟨rfl, rfl⟩
set_option maxRecDepth 20000 in
set_option maxHeartbeats 4000000 in
theorem rdrop_some (T : Nat) (g cap : Nat) (m : List (Nat × Bk)) (nm : List UInt8) (w : World) (i p : Nat) (b : Bk) (h : PR w T (.slice (some ⟨g, 0, none⟩) m.length cap) m) (hl : m.length ≤ 16) (hf : fnd m nm = some (i, p, b)) :
    Calls Try.prog 40 #[.pointer (some ⟨T, 0, none⟩), .string (tx nm)] w fun e w' => e = .returned (.int .i64 0) ∧ PR w' T (.slice (some ⟨g, 0, none⟩) (m.length - 1) cap) (m.eraseIdx i) ∧ (∀ q, q ≠ T → q ≠ g → w'.heap[q]? = w.heap[q]?) ∧ w'.os = w.os ∧ w'.tape = w.tape ∧ w'.output = w.output ∧ w'.heap.size = w.heap.size := by
  have hg := fnd_some hf
  have HL : Hid (∀ W, W = w → Calls Try.prog 46 #[.pointer (some ⟨T, 0, none⟩), .string (tx nm)] W fun e w' => e = .returned (.tuple #[.int .i64 (i : Nat), .bool true]) ∧ w' = W) := fun W e => by
    subst e
    have := place_any T _ (pts m) (nms m) nm W h.cell h.row h.nam h.up (by simpa [pts] using hl)
    rw [hg.1, hg.2.1] at this
    exact this
  have hlen : (pts m).length = m.length := by simp [pts]
  have hlt := (List.getElem?_eq_some_iff.1 hg.2.2.1).1
  have c0 := h.cell
  have hTg : T ≠ g := by
    obtain ⟨cur, hc⟩ := own_tag h.row (q := g) rfl
    exact ne_tag h.tab hc (by decide)
  have HD : Hid (∀ W, W = w → Calls Try.prog 49 #[.slice (some ⟨g, 0, none⟩) m.length cap, .int .i64 (i : Int), .int .i64 ((i : Int) + 1)] W fun e w' => e = .returned (.slice (some ⟨g, 0, none⟩) (m.length - 1) cap) ∧ w'.cell? ⟨T, 0, none⟩ = some (.slice (some ⟨g, 0, none⟩) m.length cap) ∧ w'.frozen? ⟨T, 0, none⟩ = false ∧ (PR (w'.setCell ⟨T, 0, none⟩ (.slice (some ⟨g, 0, none⟩) (m.length - 1) cap)) T (.slice (some ⟨g, 0, none⟩) (m.length - 1) cap) (m.eraseIdx i) ∧ (∀ q, q ≠ T → q ≠ g → (w'.setCell ⟨T, 0, none⟩ (.slice (some ⟨g, 0, none⟩) (m.length - 1) cap)).heap[q]? = W.heap[q]?) ∧ Kp g W w')) := fun W e => by
    subst e
    have hd := delete_any g cap i (pts m) W (by rw [hlen]; exact h.row) (by omega) (by omega)
    rw [hlen] at hd
    refine hd.mono ?_
    rintro e w' ⟨rfl, hp, hk⟩
    have hT' : w'.heap[T]? = some (.cells #[.slice (some ⟨g, 0, none⟩) m.length cap] 58 (0, 0)) := (hk.block T hTg).trans h.tab
    have hq : ∀ q, q ≠ T → q ≠ g → (w'.setCell ⟨T, 0, none⟩ (.slice (some ⟨g, 0, none⟩) (m.length - 1) cap)).heap[q]? = W.heap[q]? := fun q h1 h2 => (Below.heap_setCell _ _ _ _ h1).trans (hk.block q h2)
    refine ⟨rfl, by rw [cell_of_row _ _ _ _ _ _ hT']; rfl, by simp [World.frozen?, hT'], h.cut hg.2.2.1 ?_ (row_set _ hT') hq, hq, hk⟩
    exact own_at hp fun q hq => Below.heap_setCell _ _ _ _ (fun e => hTg (by rw [e] at hq; have := Option.some.inj hq; simpa using this.symm))
  have hi' : (i : Int) < (m.length : Int) := by omega
  have hl' : (m.length : Int) ≤ 16 := by omega
  generalize m.length - 1 = n1 at *
  generalize m.length = n at *
  clear h hl hf hg hlen hlt hTg
  go_enter Try.func40, Try.ntmps40
  go_wp2_with (first | (go_at_call 46; refine (HL.out _ rfl).mono ?_; rintro e w' ⟨rfl, hw⟩; rw [hw]; clear hw) | (go_at_call 49; refine (HD.out _ rfl).mono ?_; rintro e w2 ⟨rfl, d0, d1, hE⟩; (have HE : Hid (PR (w2.setCell ⟨T, 0, none⟩ (.slice (some ⟨g, 0, none⟩) n1 cap)) T (.slice (some ⟨g, 0, none⟩) n1 cap) (m.eraseIdx i) ∧ (∀ q, q ≠ T → q ≠ g → (w2.setCell ⟨T, 0, none⟩ (.slice (some ⟨g, 0, none⟩) n1 cap)).heap[q]? = w.heap[q]?) ∧ Kp g w w2) := hE); clear hE))
  go_ret
  exact ⟨rfl, HE.out.1, HE.out.2.1, HE.out.2.2.os, HE.out.2.2.tape, HE.out.2.2.output, by have := HE.out.2.2.size; simpa using this⟩
set_option maxRecDepth 20000 in
set_option maxHeartbeats 4000000 in
theorem drop_any (N : Int) (T : Nat) (F : Nat → Prop) (l : List Bk) (nm : List UInt8) (w : World) (h : PF w T F l) (ht : Tok N l) (hN : N ≤ 1000000) :
    Calls Try.prog 20 #[.pointer (some ⟨T, 0, none⟩), .string (tx nm)] w fun e w' => e = .returned (.int .i64 (dropI l nm).1) ∧ ∃ F', PF w' T F' (dropI l nm).2 ∧ Fr F F' w w' ∧ Kx badQ w w' := by
  have HS : Hid (∃ F', PF w T F' l ∧ Fr F F' w w ∧ Kx badQ w w) := h.same
  obtain ⟨sv, m, h1, h2, h3⟩ := h
  have hlen : m.length = l.length := by have := h2.length_eq; unfold bks at this; rwa [List.length_map] at this
  have hl := ht.len
  rcases fnd_look (nm := nm) h1.up h2 with ⟨i, p, b, k, hf, hk, hx⟩ | ⟨hf, hk, hx⟩
  · have HR : Hid (dropI l nm = (0, l.eraseIdx k)) := by show _ = _; unfold dropI; rw [hx, List.eraseIdx_eq_take_drop_succ]
    have hg := fnd_some hf
    have hlt := (List.getElem?_eq_some_iff.1 hg.2.2.1).1
    obtain ⟨g, cap, hsv⟩ := own_form h1.row (by simpa [pts] using Nat.lt_of_le_of_lt (Nat.zero_le _) hlt)
    have hpl : (pts m).length = m.length := by simp [pts]
    rw [hpl] at hsv
    subst hsv
    have HD : Hid (∀ W, W = w → Calls Try.prog 40 #[.pointer (some ⟨T, 0, none⟩), .string (tx nm)] W fun e w' => e = .returned (.int .i64 0) ∧ ∃ F', PF w' T F' (l.eraseIdx k) ∧ Fr F F' w w' ∧ Kx badQ w w') := fun W e => by
      subst e
      refine (rdrop_some T g cap m nm W i p b h1 (by omega) hf).mono ?_
      rintro e w' ⟨rfl, hp, hq, ho1, ho2, ho3, hsz⟩
      have hTF : F T := (h3 T).2 (.inl rfl)
      have hgF : F g := (h3 g).2 (.inr (.inl rfl))
      refine ⟨rfl, foot T (.slice (some ⟨g, 0, none⟩) (m.length - 1) cap) (m.eraseIdx i), ⟨_, _, hp, ?_, fun q => Iff.rfl⟩, ⟨ho1, ho2, ho3, by rw [hsz]; exact Nat.le_refl _, fun q hlt hnF => hq q (fun e => hnF (by rw [e]; exact hTF)) (fun e => hnF (by rw [e]; exact hgF)), fun q hq => ?_⟩, fun q o ho hb => ?_⟩
      · have e : bks (m.eraseIdx i) = (bks m).eraseIdx i := by unfold bks; rw [erase_map]
        rw [e]
        exact perm_erase h2 (lookB_some hk).2.1 (bks_at hg.2.2.1)
      · rcases hq with rfl | hq | hq
        · exact .inl hTF
        · have : g = q := by simpa [Value.ownBlock] using hq
          rw [← this]
          exact .inl hgF
        · unfold pts at hq
          obtain ⟨x, hx, rfl⟩ := List.mem_map.1 hq
          exact .inl ((h3 _).2 (.inr (.inr (List.mem_map.2 ⟨x, List.mem_of_mem_eraseIdx hx, rfl⟩))))
      · refine (hq q (fun e => ?_) (fun e => ?_)).trans ho
        · subst e
          rw [h1.tab] at ho
          exact absurd (hb _ _ _ (Option.some.inj ho).symm) (by decide)
        · subst e
          obtain ⟨cur, hc⟩ := own_tag h1.row (q := q) rfl
          rw [hc] at ho
          exact absurd (hb _ _ _ (Option.some.inj ho).symm) (by decide)
    clear h1 h2 h3 hlen hl hf hk hx hg hlt hpl ht
    go_enter Try.func20, Try.ntmps20
    go_wp2_with (go_at_call 40; refine (HD.out _ rfl).mono ?_; rintro e w2 ⟨rfl, hE⟩; (have HE : Hid (∃ F', PF w2 T F' (l.eraseIdx k) ∧ Fr F F' w w2 ∧ Kx badQ w w2) := hE); clear hE)
    go_ret
    rw [HR.out]
    exact ⟨rfl, HE.out⟩
  · have HR : Hid (dropI l nm = (5, l)) := by show _ = _; unfold dropI; rw [hx]
    have HD : Hid (∀ W, W = w → Calls Try.prog 40 #[.pointer (some ⟨T, 0, none⟩), .string (tx nm)] W fun e w' => e = .returned (.int .i64 5) ∧ w' = W) := fun W e => by
      subst e
      exact rdrop_none T sv m nm W h1 (by omega) hf
    clear h1 h2 h3 hlen hl hf hk hx ht
    go_enter Try.func20, Try.ntmps20
    go_wp2_with (go_at_call 40; refine (HD.out _ rfl).mono ?_; rintro e w2 ⟨rfl, hw⟩; rw [hw]; clear hw)
    go_ret
    rw [HR.out]
    exact ⟨rfl, HS.out⟩
end Go.Proofs.Ytpobfcmbbabchaa
