/- FairQueues' law, over any program's queues. -/
import Derived.Test.YtfndbllpnkhlhaaQ1
namespace Go.Proofs.Ytfndbllpnkhlhaa
open Go.RowKit
set_option linter.unusedVariables false
set_option linter.unusedSimpArgs false

theorem wpList_append_tl {P : Program} {α : Type} {f : α → List Value} {m : Nat} (w : World) {ops : Array Oper} {rest : List Oper} {o : Oper} {a : Act} {Q : Exit → Act → World → Prop} (hgd : o.guard = none) (s x : Operand) (t : TypeId)
    (ho : o.op = .call { callee := .builtin .append, args := #[s, x], argTypes := #[t, t] }) (hf : ∀ x, (f x).length = m) (h1 : ∀ x, ∀ u ∈ f x, u.oneCell' = true)
    (base : Nat) (e : TypeId) (i : TypeInfo) (z : Value) (bytes : Nat) (ht : P.underlying t = some (.slice e)) (hi : P.info? e = some i) (hz : i.zero = some z) (hsize : i.size = m) (hby : i.bytes = bytes) (hzs : z.cells.size = m)
    (v : Value) (l l2 : List α) (hs : a.eval s = v) (hT : Tl f m w base e v l) (ad : Addr) (n c : Nat) (hn : n = l2.length) (hx : a.eval x = .slice (some ad) n c) (hnews : ∀ j u, (fl f l2)[j]? = some u → w.cell? (ad.add j) = some u)
    (h63 : l.length + l2.length ≤ maxLen) (hbytes : (l.length + l2.length) * bytes ≤ 140737488355328) (hbase : base ≤ w.heap.size)
    (h : ∀ v' w', Tl f m w' base e v' (l ++ l2) → w.grownBy w' v.ownBlock → (v'.ownBlock = v.ownBlock ∨ v'.ownBlock = some w.heap.size) → wpList P ops Q rest (a.put o.dst v') w') :
    wpList P ops Q (o :: rest) a w := by
  subst hn
  refine wpList_plain hgd fun K hK => ?_
  obtain ⟨v', w', hr, h2, h3, h4⟩ := Tl.append P (ty := o.type) hf h1 i z bytes ht hi hz hsize hby hzs hT ad c hnews h63 hbytes hbase
  unfold Oper.wp execOp
  simp only [ho, resolve, invoke, builtin, Sem.run_bind, Sem.run_pure, Result.andThen_ok, List.map_toArray, List.map_cons, List.map_nil, hs, hx, hr]
  exact hK _ _ (h v' w' h2 h3 h4)
theorem info3 : (Try.prog.info? 3).map (fun i => (i.zero, i.size, i.bytes)) = some (some (.int .i64 0), 1, 8) := by kernel_rfl
/-- Numbers as they came in. -/
structure IntsAt (W : World) (sa : Option Addr) (len cap : Nat) (xs : List Int) : Prop where
  n : xs.length = len
  c : len ≤ cap
  l : ∀ (i : Nat) (x : Int), xs[i]? = some x → ∃ b off, sa = some ⟨b, off, none⟩ ∧ b < W.heap.size ∧ W.cell? ⟨b, off + i, none⟩ = some (.int .i64 x)
theorem IntsAt.later {W W' : World} {sa : Option Addr} {len cap B : Nat} {xs : List Int} (h : IntsAt W sa len cap xs) (hb : Below B W W') (hB : W.heap.size ≤ B) : IntsAt W' sa len cap xs := by
  refine ⟨h.n, h.c, fun i x hx => ?_⟩
  obtain ⟨b, off, e, hlt, h0⟩ := h.l i x hx
  exact ⟨b, off, e, by have := hb.size; omega, (hb.cell (p := ⟨b, off + i, none⟩) (by show b < B; omega)).trans h0⟩
variable {PQ : World → Nat → (Nat → Prop) → Int → List Int → Prop} {PF : World → Nat → (Nat → Prop) → Sc → Prop}
set_option maxRecDepth 20000 in
set_option maxHeartbeats 8000000 in
theorem queues_law (G : PrgQ PQ) (GS : PrgS PF) (most : Int) (sa : Option Addr) (len cap : Nat) (xs : List Int) (w : World) (h : IntsAt w sa len cap xs) (hl : (len : Int) ≤ 140737488351232) :
    Calls Try.prog 3 #[.int .i64 most, .slice sa len cap] w fun e w' => e = .returned (.bool true) ∧ Below w.heap.size w w' := by
  have HG : Hid (PrgQ PQ) := G
  have HS : Hid (PrgS PF) := GS
  have HX : Hid (IntsAt w sa len cap xs) := h
  have hcap : (len : Int) ≤ (cap : Int) := by have := h.c; omega
  clear G GS h
  by_cases hm : most < 1
  · go_enter Try.func3, Try.ntmps3
    go_wp2_with fail
    refine (HG.out.nothing most w hm).mono ?_
    rintro e w1 ⟨rfl, hb1⟩
    have HB1 : Hid (Below w.heap.size w w1) := hb1
    clear hb1
    go_wp2_with (go_at_call 10; refine (known_any HS.out _).mono ?_; rintro e w2 ⟨rfl, hb2⟩)
    go_ret
    exact ⟨rfl, HB1.out.trans (hb2.mono HB1.out.size)⟩
  · have hm' : 1 ≤ most := by omega
    clear hm
    go_enter Try.func3, Try.ntmps3
    go_wp2_with fail
    refine (HG.out.new most w hm').mono ?_
    rintro e w1 ⟨Q, F, rfl, hp1, hf1, hb1⟩
    have HM1 : Hid (QM PQ (fun _ => False) w.heap.size w w1 Q most [] (.slice none 0 0) []) := ⟨F, hp1, hf1, Tl.nil _ _ _, fun q hq => (nomatch hq), fun q hq => hq.elim, hb1.size, hb1⟩
    clear hp1 hf1 hb1
    go_wp2_with fail
    go_loopw [6, 7] (fun a c wr => ∃ (k : Nat) (l : List Int), c = .int .i64 (k : Int) ∧ k ≤ len ∧ k ≤ 200 ∧ l.length ≤ k ∧ QM PQ (fun _ => False) w.heap.size w wr Q most l a l) (fun a c wr => len - (intOf c).toNat)
    case atStart => exact ⟨0, [], rfl, by omega, by omega, by simp, HM1.out⟩
    case round =>
      obtain ⟨k, l, rfl, k1, k2, k3, hM⟩ := hrel
      obtain ⟨la, lc, hlv, hlc⟩ := hM.tl.slice
      have HM : Hid (QM PQ (fun _ => False) w.heap.size w wr Q most l u6 l) := hM
      have HLL : Hid (l.length ≤ k ∧ k ≤ 200) := ⟨k3, k2⟩
      clear hM
      by_cases c1 : k < len
      · have c1' : (k : Int) < (len : Int) := by omega
        by_cases c2 : k < 200
        · have c2' : (k : Int) < 200 := by omega
          obtain ⟨x, hx⟩ : ∃ x, xs[k]? = some x := ⟨_, List.getElem?_eq_getElem (by have := HX.out.n; omega)⟩
          obtain ⟨bb, off, hsa, hlt, h0⟩ := (HX.out.later HM.out.bel (Nat.le_refl _)).l k x hx
          subst hsa
          clear hx k1 k2 k3
          subst hlv
          obtain ⟨n, hn⟩ : ∃ n, l.length = n := ⟨_, rfl⟩
          have HN : Hid (l.length = n) := hn
          rw [hn] at HM hlc
          rw [hn]
          have hn2 : (n : Int) ≤ 200 := by have := HLL.out; omega
          have hlc' : (n : Int) ≤ (lc : Int) := by omega
          clear hn hlc
          have HLN0 : Hid (l.length = n ∧ n ≤ 1000) := ⟨HN.out, by omega⟩
          by_cases hx0 : 0 < x
          · by_cases hf : most ≤ (n : Int)
            · have HPU : Hid (Calls Try.prog 11 #[.pointer (some ⟨Q, 0, none⟩), .int .i64 x] wr fun e w' => e = .returned (.int .i64 200) ∧ QM PQ (fun _ => False) w.heap.size w w' Q most l (.slice la n lc) l) := by
                have h := HM.out.push HG.out x hm' (by have := HLL.out; omega)
                rw [HN.out, if_pos hf, if_pos hf] at h
                exact h
              go_wp2_with fail
              refine HPU.out.mono ?_
              rintro e w2 ⟨rfl, hM2⟩
              have HM2 : Hid (QM PQ (fun _ => False) w.heap.size w w2 Q most l (.slice la n lc) l) := hM2
              clear hM2 HPU HM h0
              go_wp2_with fail
              refine (QM.all HG.out HM2.out hm' (by have := HLN0.out; omega)).mono ?_
              rintro e w3 ⟨aa, ac, rfl, hac, A, hM3, hR3⟩
              rw [HLN0.out.1] at hac hR3 ⊢
              have hac' : (n : Int) ≤ (ac : Int) := by omega
              have HM3 : Hid (QM PQ A w.heap.size w w3 Q most (l) (.slice la n lc) (l) ∧ ((l) = [] ∨ (w3.ownsRow w.heap.size 3 1 (.slice aa n ac) n (fl iv (l)) ∧ ∀ q, (Value.slice aa n ac).ownBlock = some q → A q))) := ⟨hM3, hR3⟩
              have HLN : Hid (Calls Try.prog 16 #[.pointer (some ⟨Q, 0, none⟩)] w3 fun e w' => e = .returned (.int .i64 (n : Int)) ∧ (∃ A', QM PQ A' w.heap.size w w' Q most (l) (.slice la n lc) (l) ∧ ((l) = [] ∨ (w'.ownsRow w.heap.size 3 1 (.slice aa n ac) n (fl iv (l)) ∧ ∀ q, (Value.slice aa n ac).ownBlock = some q → A' q)))) := by
                have h := QM.len (a := aa) (c := ac) HG.out HM3.out.1 hm' (by have := HLN0.out; omega) (by rw [HLN0.out.1]; exact HM3.out.2)
                rw [HLN0.out.1] at h
                exact h
              clear hM3 hR3 HM2 hac
              go_wp2_with fail
              refine HLN.out.mono ?_
              rintro e w4 ⟨rfl, A', hM4, hR4⟩
              have HM4 : Hid (QM PQ A' w.heap.size w w4 Q most (l) (.slice la n lc) (l) ∧ ((l) = [] ∨ (w4.ownsRow w.heap.size 3 1 (.slice aa n ac) n (fl iv (l)) ∧ ∀ q, (Value.slice aa n ac).ownBlock = some q → A' q))) := ⟨hM4, hR4⟩
              clear hM4 hR4 HLN HM3
              go_wp2_with fail
              go_loopw [15] (fun a V => ∃ (j : Nat) (ys : List Value), a = .int .i64 (j : Int) ∧ j ≤ n ∧ QM PQ A' w.heap.size w V Q most (l) (.slice la n lc) (l) ∧ ((l) = [] ∨ (V.ownsRow w.heap.size 3 1 (.slice aa n ac) n ys ∧ (∀ q, (Value.slice aa n ac).ownBlock = some q → A' q) ∧ ∀ i, j ≤ i → ys[i]? = (fl iv (l))[i]?))) (fun a V => n - (intOf a).toNat)
              case atStart => exact ⟨0, fl iv (l), rfl, by omega, HM4.out.1, HM4.out.2.imp id fun h => ⟨h.1, h.2, fun i _ => rfl⟩⟩
              case round =>
                obtain ⟨j, ys, rfl, j1, hMj, hRj⟩ := hrel
                have HMj : Hid (QM PQ A' w.heap.size w wr Q most (l) (.slice la n lc) (l)) := hMj
                have HRj : Hid ((l) = [] ∨ (wr.ownsRow w.heap.size 3 1 (.slice aa n ac) n ys ∧ (∀ q, (Value.slice aa n ac).ownBlock = some q → A' q) ∧ ∀ i, j ≤ i → ys[i]? = (fl iv (l))[i]?)) := hRj
                clear hMj hRj HM4
                by_cases e1 : j < n
                · have e1' : (j : Int) < (n : Int) := by omega
                  have hne : (l) ≠ [] := fun e => by have := HLN0.out.1; rw [e] at this; simp at this; omega
                  obtain ⟨hrow, hA, hys⟩ := HRj.out.resolve_left hne
                  obtain ⟨g, gc, hg⟩ := own_form hrow (by omega)
                  have haa : aa = some ⟨g, 0, none⟩ := (Value.slice.inj hg).1
                  subst haa
                  obtain ⟨g2, o2, c3, hl3⟩ := HMj.out.tl.form hne
                  obtain rfl : la = some ⟨g2, o2, none⟩ := (Value.slice.inj hl3).1
                  obtain ⟨y, hy⟩ : ∃ y, (l)[j]? = some y := ⟨_, List.getElem?_eq_getElem (by have := HLN0.out.1; omega)⟩
                  have hyv : (fl iv (l))[j]? = some (.int .i64 y) := by rw [iv_at, hy]; rfl
                  have hT := HMj.out.tl
                  have hT2 := hT
                  have q1 : wr.cell? ⟨g, j, none⟩ = some (.int .i64 y) := by rw [hrow.cellAt j (by omega), hys j (Nat.le_refl _), hyv]
                  have q2 : wr.cell? ⟨g2, o2 + j, none⟩ = some (.int .i64 y) := hT2.cells.2.2 j _ hyv
                  have q3 : wr.frozen? ⟨g, j, none⟩ = false := hrow.frozenAt j
                  have HE : Hid (∀ v, QM PQ A' w.heap.size w (wr.setCell ⟨g, j, none⟩ v).drew Q most (l) (.slice (some ⟨g2, o2, none⟩) n lc) (l) ∧ (wr.setCell ⟨g, j, none⟩ v).drew.ownsRow w.heap.size 3 1 (.slice (some ⟨g, 0, none⟩) n ac) n (ys.set j v) ∧ (∀ q, (Value.slice (some ⟨g, 0, none⟩) n ac).ownBlock = some q → A' q) ∧ ∀ i, j + 1 ≤ i → (ys.set j v)[i]? = (fl iv (l))[i]?) := fun v => ⟨(HMj.out.setCell HG.out (hA g rfl) (own_lt hrow).1 v).later HG.out ((Below.refl (wr.setCell ⟨g, j, none⟩ v).heap.size _).drew) (Nat.le_refl _), (own_set hrow (by have := hrow.1; omega) v).drew, hA, fun i hi => by rw [List.getElem?_set_ne (by omega)]; exact hys i (by omega)⟩
                  clear hrow hA hys hg hl3 hy hyv hT hT2 HRj
                  go_wp2_with fail
                  go_region
                  go_wp2_with fail
                  go_roundw
                  case rel => exact ⟨j + 1, _, by go_num, by omega, (HE.out _).1, .inr (HE.out _).2⟩
                  case measure => simp [intOf]; omega
                · have e1' : ¬ ((j : Int) < (n : Int)) := by omega
                  clear e1 j1
                  go_wp2_with fail
                  go_roundw
                  case rel => exact ⟨k + 1, l, by go_num, by omega, by omega, by have := HLL.out; have := HLN0.out.1; omega, HMj.out.free⟩
                  case measure => simp [intOf]; omega
            · have HPU : Hid (Calls Try.prog 11 #[.pointer (some ⟨Q, 0, none⟩), .int .i64 x] wr fun e w' => e = .returned (.int .i64 0) ∧ QM PQ (fun _ => False) w.heap.size w w' Q most (l ++ [x]) (.slice la n lc) l) := by
                have h := HM.out.push HG.out x hm' (by have := HLL.out; omega)
                rw [HN.out, if_neg hf, if_neg hf] at h
                exact h
              have hf' : (n : Int) < most := by omega
              clear hf
              obtain ⟨i0, hi0, hz0, hz1, hz2⟩ := info_parts info3
              go_wp2_with fail
              refine HPU.out.mono ?_
              rintro e w2 ⟨rfl, hM2⟩
              have HM2 : Hid (QM PQ (fun _ => False) w.heap.size w w2 Q most (l ++ [x]) (.slice la n lc) l) := hM2
              clear hM2 HPU HM h0
              have HM2a : Hid (∀ o, QM PQ (fun _ => False) w.heap.size w (w2.alloc o) Q most (l ++ [x]) (.slice la n lc) l) := fun o => HM2.out.later HG.out (bel1 w2 o) (Nat.le_refl _)
              have HSZ : Hid (∀ o, w.heap.size ≤ (w2.alloc o).heap.size) := fun o => by have := HM2.out.bel.size; show _ ≤ _; simp; omega
              go_wp2_with (at_builtin; (refine wpList_append_tl _ rfl (.tmp 116) (.tmp 118) 22 rfl iv_len iv_one w.heap.size 3 i0 (.int .i64 0) 8 Try.underlying22 hi0 hz0 hz1 hz2 rfl (.slice la n lc) l [x] rfl (HM2a.out _).tl ⟨w2.heap.size, 0, none⟩ 1 1 rfl rfl (fun j u hu => by rw [Addr.add_mid, Nat.zero_add]; cases j with | zero => (simp [fl, iv] at hu; subst hu; rw [cell_of_row _ _ _ _ _ _ (heap_alloc_new _ _)]; rfl) | succ j => simp [fl, iv] at hu) (by have := HLN0.out; simp; unfold maxLen; omega) (by have := HLN0.out; simp; omega) (HSZ.out _) ?_; intro v5 w5 hT5 hg5 ho5; (have HM5 : Hid (QM PQ (fun _ => False) w.heap.size w w5 Q most (l ++ [x]) v5 (l ++ [x])) := (HM2a.out _).append HG.out hT5 hg5 ho5); clear hT5 hg5 ho5; (obtain ⟨la2, lc2, hv5, hc5⟩ := HM5.out.tl.slice); subst hv5))
              obtain ⟨n2, hn4⟩ : ∃ n2, l.length + 1 = n2 := ⟨_, rfl⟩
              have hn3 : (l ++ [x]).length = n2 := by simp; exact hn4
              have HLN2 : Hid ((l ++ [x]).length = n2 ∧ n2 ≤ 1000) := ⟨hn3, by have := HLN0.out; simp at hn3; omega⟩
              have HLX : Hid (n2 ≤ k + 1) := by have := HLL.out; have := HLN0.out; simp at hn3; show _ ≤ _; omega
              rw [hn3] at HM5 hc5
              rw [hn4]
              have hc5' : (n2 : Int) ≤ (lc2 : Int) := by omega
              have hn22 : (n2 : Int) ≤ 1000 := by have := HLN2.out; omega
              clear hn3 hn4 hc5
              refine (QM.all HG.out HM5.out hm' (by have := HLN2.out; omega)).mono ?_
              rintro e w3 ⟨aa, ac, rfl, hac, A, hM3, hR3⟩
              rw [HLN2.out.1] at hac hR3 ⊢
              have hac' : (n2 : Int) ≤ (ac : Int) := by omega
              have HM3 : Hid (QM PQ A w.heap.size w w3 Q most (l ++ [x]) (.slice la2 n2 lc2) (l ++ [x]) ∧ ((l ++ [x]) = [] ∨ (w3.ownsRow w.heap.size 3 1 (.slice aa n2 ac) n2 (fl iv (l ++ [x])) ∧ ∀ q, (Value.slice aa n2 ac).ownBlock = some q → A q))) := ⟨hM3, hR3⟩
              have HLN : Hid (Calls Try.prog 16 #[.pointer (some ⟨Q, 0, none⟩)] w3 fun e w' => e = .returned (.int .i64 (n2 : Int)) ∧ (∃ A', QM PQ A' w.heap.size w w' Q most (l ++ [x]) (.slice la2 n2 lc2) (l ++ [x]) ∧ ((l ++ [x]) = [] ∨ (w'.ownsRow w.heap.size 3 1 (.slice aa n2 ac) n2 (fl iv (l ++ [x])) ∧ ∀ q, (Value.slice aa n2 ac).ownBlock = some q → A' q)))) := by
                have h := QM.len (a := aa) (c := ac) HG.out HM3.out.1 hm' (by have := HLN2.out; omega) (by rw [HLN2.out.1]; exact HM3.out.2)
                rw [HLN2.out.1] at h
                exact h
              clear hM3 hR3 HM5 hac
              go_wp2_with fail
              refine HLN.out.mono ?_
              rintro e w4 ⟨rfl, A', hM4, hR4⟩
              have HM4 : Hid (QM PQ A' w.heap.size w w4 Q most (l ++ [x]) (.slice la2 n2 lc2) (l ++ [x]) ∧ ((l ++ [x]) = [] ∨ (w4.ownsRow w.heap.size 3 1 (.slice aa n2 ac) n2 (fl iv (l ++ [x])) ∧ ∀ q, (Value.slice aa n2 ac).ownBlock = some q → A' q))) := ⟨hM4, hR4⟩
              clear hM4 hR4 HLN HM3
              go_wp2_with fail
              go_loopw [15] (fun a V => ∃ (j : Nat) (ys : List Value), a = .int .i64 (j : Int) ∧ j ≤ n2 ∧ QM PQ A' w.heap.size w V Q most (l ++ [x]) (.slice la2 n2 lc2) (l ++ [x]) ∧ ((l ++ [x]) = [] ∨ (V.ownsRow w.heap.size 3 1 (.slice aa n2 ac) n2 ys ∧ (∀ q, (Value.slice aa n2 ac).ownBlock = some q → A' q) ∧ ∀ i, j ≤ i → ys[i]? = (fl iv (l ++ [x]))[i]?))) (fun a V => n2 - (intOf a).toNat)
              case atStart => exact ⟨0, fl iv (l ++ [x]), rfl, by omega, HM4.out.1, HM4.out.2.imp id fun h => ⟨h.1, h.2, fun i _ => rfl⟩⟩
              case round =>
                obtain ⟨j, ys, rfl, j1, hMj, hRj⟩ := hrel
                have HMj : Hid (QM PQ A' w.heap.size w wr Q most (l ++ [x]) (.slice la2 n2 lc2) (l ++ [x])) := hMj
                have HRj : Hid ((l ++ [x]) = [] ∨ (wr.ownsRow w.heap.size 3 1 (.slice aa n2 ac) n2 ys ∧ (∀ q, (Value.slice aa n2 ac).ownBlock = some q → A' q) ∧ ∀ i, j ≤ i → ys[i]? = (fl iv (l ++ [x]))[i]?)) := hRj
                clear hMj hRj HM4
                by_cases e1 : j < n2
                · have e1' : (j : Int) < (n2 : Int) := by omega
                  have hne : (l ++ [x]) ≠ [] := fun e => by have := HLN2.out.1; rw [e] at this; simp at this; omega
                  obtain ⟨hrow, hA, hys⟩ := HRj.out.resolve_left hne
                  obtain ⟨g, gc, hg⟩ := own_form hrow (by omega)
                  have haa : aa = some ⟨g, 0, none⟩ := (Value.slice.inj hg).1
                  subst haa
                  obtain ⟨g2, o2, c3, hl3⟩ := HMj.out.tl.form hne
                  obtain rfl : la2 = some ⟨g2, o2, none⟩ := (Value.slice.inj hl3).1
                  obtain ⟨y, hy⟩ : ∃ y, (l ++ [x])[j]? = some y := ⟨_, List.getElem?_eq_getElem (by have := HLN2.out.1; omega)⟩
                  have hyv : (fl iv (l ++ [x]))[j]? = some (.int .i64 y) := by rw [iv_at, hy]; rfl
                  have hT := HMj.out.tl
                  have hT2 := hT
                  have q1 : wr.cell? ⟨g, j, none⟩ = some (.int .i64 y) := by rw [hrow.cellAt j (by omega), hys j (Nat.le_refl _), hyv]
                  have q2 : wr.cell? ⟨g2, o2 + j, none⟩ = some (.int .i64 y) := hT2.cells.2.2 j _ hyv
                  have q3 : wr.frozen? ⟨g, j, none⟩ = false := hrow.frozenAt j
                  have HE : Hid (∀ v, QM PQ A' w.heap.size w (wr.setCell ⟨g, j, none⟩ v).drew Q most (l ++ [x]) (.slice (some ⟨g2, o2, none⟩) n2 lc2) (l ++ [x]) ∧ (wr.setCell ⟨g, j, none⟩ v).drew.ownsRow w.heap.size 3 1 (.slice (some ⟨g, 0, none⟩) n2 ac) n2 (ys.set j v) ∧ (∀ q, (Value.slice (some ⟨g, 0, none⟩) n2 ac).ownBlock = some q → A' q) ∧ ∀ i, j + 1 ≤ i → (ys.set j v)[i]? = (fl iv (l ++ [x]))[i]?) := fun v => ⟨(HMj.out.setCell HG.out (hA g rfl) (own_lt hrow).1 v).later HG.out ((Below.refl (wr.setCell ⟨g, j, none⟩ v).heap.size _).drew) (Nat.le_refl _), (own_set hrow (by have := hrow.1; omega) v).drew, hA, fun i hi => by rw [List.getElem?_set_ne (by omega)]; exact hys i (by omega)⟩
                  clear hrow hA hys hg hl3 hy hyv hT hT2 HRj
                  go_wp2_with fail
                  go_region
                  go_wp2_with fail
                  go_roundw
                  case rel => exact ⟨j + 1, _, by go_num, by omega, (HE.out _).1, .inr (HE.out _).2⟩
                  case measure => simp [intOf]; omega
                · have e1' : ¬ ((j : Int) < (n2 : Int)) := by omega
                  clear e1 j1
                  go_wp2_with fail
                  go_roundw
                  case rel => exact ⟨k + 1, l ++ [x], by go_num, by omega, by omega, by have := HLX.out; have := HLN2.out.1; omega, HMj.out.free⟩
                  case measure => simp [intOf]; omega
          · by_cases hx7 : x = -7
            · subst hx7
              have HPD : Hid (Calls Try.prog 12 #[.pointer (some ⟨Q, 0, none⟩)] wr fun e w' => e = .returned (.int .i64 (n : Int)) ∧ QM PQ (fun _ => False) w.heap.size w w' Q most [] (.slice la n lc) l) := by
                have h := HM.out.drop HG.out hm' (by have := HLL.out; omega)
                rw [HN.out] at h
                exact h
              clear hx0
              go_wp2_with fail
              refine HPD.out.mono ?_
              rintro e w2 ⟨rfl, hM2⟩
              have HM2 : Hid (QM PQ (fun _ => False) w.heap.size w w2 Q most [] (.slice none 0 0) []) := hM2.nil
              clear hM2 HPD HM h0
              go_wp2_with fail
              refine (QM.all HG.out HM2.out hm' (by simp)).mono ?_
              rintro e w3 ⟨aa, ac, rfl, hac, A, hM3, hR3⟩
              have HM3 : Hid (QM PQ A w.heap.size w w3 Q most [] (.slice none 0 0) []) := hM3
              have HLN : Hid (Calls Try.prog 16 #[.pointer (some ⟨Q, 0, none⟩)] w3 fun e w' => e = .returned (.int .i64 0) ∧ (∃ A', QM PQ A' w.heap.size w w' Q most [] (.slice none 0 0) [])) := (QM.len (a := aa) (c := ac) HG.out HM3.out hm' (by simp) (.inl rfl)).mono fun e w' ⟨h1, A', h2, _⟩ => ⟨h1, A', h2⟩
              clear hM3 hR3 hac HM2
              go_wp2_with fail
              refine HLN.out.mono ?_
              rintro e w4 ⟨rfl, A', hM4⟩
              have HM4 : Hid (QM PQ A' w.heap.size w w4 Q most [] (.slice none 0 0) []) := hM4
              clear hM4 HLN HM3
              go_wp2_with fail
              go_loopw [15] (fun a V => a = .int .i64 0 ∧ QM PQ A' w.heap.size w V Q most [] (.slice none 0 0) []) (fun a V => 0)
              case atStart => exact ⟨rfl, HM4.out⟩
              case round =>
                obtain ⟨rfl, hMj⟩ := hrel
                have HMj : Hid (QM PQ A' w.heap.size w wr Q most [] (.slice none 0 0) []) := hMj
                clear hMj HM4
                go_wp2_with fail
                go_roundw
                case rel => exact ⟨k + 1, [], by go_num, by omega, by omega, by simp, HMj.out.free⟩
                case measure => simp [intOf]; omega
            · have hx7' : (x == -7) = false := by simpa using hx7
              clear hx7
              by_cases hl0 : l = []
              · subst hl0
                obtain rfl : n = 0 := by have := HLN0.out.1; simpa using this.symm
                have HPK : Hid (∀ V, QM PQ (fun _ => False) w.heap.size w V Q most [] (.slice la 0 lc) [] → Calls Try.prog 13 #[.pointer (some ⟨Q, 0, none⟩)] V fun e w' => e = .returned (.tuple #[.int .i64 0, .bool false]) ∧ QM PQ (fun _ => False) w.heap.size w w' Q most [] (.slice la 0 lc) []) := fun V hV => QM.peek HG.out hV hm' (by simp)
                have HPP : Hid (∀ V, QM PQ (fun _ => False) w.heap.size w V Q most [] (.slice la 0 lc) [] → Calls Try.prog 14 #[.pointer (some ⟨Q, 0, none⟩)] V fun e w' => e = .returned (.tuple #[.int .i64 0, .bool false]) ∧ QM PQ (fun _ => False) w.heap.size w w' Q most [] (.slice la 0 lc) []) := fun V hV => QM.pop HG.out hV hm' (by simp)
                clear hn2 hlc'
                go_wp2_with fail
                refine (HPK.out wr HM.out).mono ?_
                rintro e w2 ⟨rfl, hM2⟩
                have HM2 : Hid (QM PQ (fun _ => False) w.heap.size w w2 Q most [] (.slice la 0 lc) []) := hM2
                clear hM2 HM h0
                go_wp2_with fail
                refine (HPP.out w2 HM2.out).mono ?_
                rintro e w5 ⟨rfl, hM5⟩
                have HM5 : Hid (QM PQ (fun _ => False) w.heap.size w w5 Q most [] (.slice la 0 lc) []) := hM5
                clear hM5 HM2
                go_wp2_with fail
                refine (QM.all HG.out HM5.out hm' (by simp)).mono ?_
                rintro e w3 ⟨aa, ac, rfl, hac, A, hM3, hR3⟩
                have HM3 : Hid (QM PQ A w.heap.size w w3 Q most [] (.slice la 0 lc) []) := hM3
                have HLN : Hid (Calls Try.prog 16 #[.pointer (some ⟨Q, 0, none⟩)] w3 fun e w' => e = .returned (.int .i64 0) ∧ (∃ A', QM PQ A' w.heap.size w w' Q most [] (.slice la 0 lc) [])) := (QM.len (a := aa) (c := ac) HG.out HM3.out hm' (by simp) (.inl rfl)).mono fun e w' ⟨h1, A', h2, _⟩ => ⟨h1, A', h2⟩
                clear hM3 hR3 hac HM5
                go_wp2_with fail
                refine HLN.out.mono ?_
                rintro e w4 ⟨rfl, A', hM4⟩
                have HM4 : Hid (QM PQ A' w.heap.size w w4 Q most [] (.slice la 0 lc) []) := hM4
                clear hM4 HLN HM3
                go_wp2_with fail
                go_loopw [15] (fun a V => a = .int .i64 0 ∧ QM PQ A' w.heap.size w V Q most [] (.slice la 0 lc) []) (fun a V => 0)
                case atStart => exact ⟨rfl, HM4.out⟩
                case round =>
                  obtain ⟨rfl, hMj⟩ := hrel
                  have HMj : Hid (QM PQ A' w.heap.size w wr Q most [] (.slice la 0 lc) []) := hMj
                  clear hMj HM4
                  go_wp2_with fail
                  go_roundw
                  case rel => exact ⟨k + 1, [], by go_num, by omega, by omega, by simp, HMj.out.free⟩
                  case measure => simp [intOf]; omega
              · obtain ⟨y, r, hyr⟩ : ∃ y r, l = y :: r := by cases l with | nil => exact (hl0 rfl).elim | cons y r => exact ⟨y, r, rfl⟩
                subst hyr
                obtain ⟨g, o, c3, hl3⟩ := HM.out.tl.form hl0
                obtain rfl : la = some ⟨g, o, none⟩ := (Value.slice.inj hl3).1
                obtain ⟨n1, hn1⟩ : ∃ n1, r.length = n1 := ⟨_, rfl⟩
                obtain rfl : n = n1 + 1 := by have := HLN0.out.1; simp at this; omega
                have HPK : Hid (∀ V, QM PQ (fun _ => False) w.heap.size w V Q most (y :: r) (.slice (some ⟨g, o, none⟩) (n1 + 1) lc) (y :: r) → Calls Try.prog 13 #[.pointer (some ⟨Q, 0, none⟩)] V fun e w' => e = .returned (.tuple #[.int .i64 y, .bool true]) ∧ QM PQ (fun _ => False) w.heap.size w w' Q most (y :: r) (.slice (some ⟨g, o, none⟩) (n1 + 1) lc) (y :: r)) := fun V hV => QM.peek HG.out hV hm' (by have := HLN0.out; omega)
                have HPP : Hid (∀ V, QM PQ (fun _ => False) w.heap.size w V Q most (y :: r) (.slice (some ⟨g, o, none⟩) (n1 + 1) lc) (y :: r) → Calls Try.prog 14 #[.pointer (some ⟨Q, 0, none⟩)] V fun e w' => e = .returned (.tuple #[.int .i64 y, .bool true]) ∧ QM PQ (fun _ => False) w.heap.size w w' Q most r (.slice (some ⟨g, o, none⟩) (n1 + 1) lc) (y :: r)) := fun V hV => QM.pop HG.out hV hm' (by have := HLN0.out; omega)
                have HLN1 : Hid (r.length = n1 ∧ n1 ≤ 1000) := ⟨hn1, by have := HLN0.out; omega⟩
                clear hl0 hl3
                go_wp2_with fail
                refine (HPK.out wr HM.out).mono ?_
                rintro e w2 ⟨rfl, hM2⟩
                have HM2 : Hid (QM PQ (fun _ => False) w.heap.size w w2 Q most (y :: r) (.slice (some ⟨g, o, none⟩) (n1 + 1) lc) (y :: r)) := hM2
                clear hM2 HM h0
                go_wp2_with fail
                refine (HPP.out w2 HM2.out).mono ?_
                rintro e w5 ⟨rfl, hM5⟩
                have q0 : w5.cell? ⟨g, o, none⟩ = some (.int .i64 y) := by have := hM5.tl.cells.2.2 0 (.int .i64 y) rfl; simpa using this
                have HM5 : Hid (QM PQ (fun _ => False) w.heap.size w w5 Q most r (.slice (some ⟨g, o, none⟩) (n1 + 1) lc) (y :: r)) := hM5
                have HBH : Hid (QM PQ (fun _ => False) w.heap.size w w5 Q most r (.slice (some ⟨g, if lc = 1 then o else o + 1, none⟩) n1 (lc - 1)) r) := by
                  have h := HM5.out
                  rw [← HLN1.out.1] at h ⊢
                  exact h.behind
                clear hM5 HM2 hn1
                by_cases hlc1 : lc = 1
                · subst hlc1
                  obtain rfl : n1 = 0 := by omega
                  obtain rfl : r = [] := List.eq_nil_of_length_eq_zero HLN1.out.1
                  have HM6 : Hid (QM PQ (fun _ => False) w.heap.size w w5 Q most [] (.slice (some ⟨g, o, none⟩) 0 0) []) := HBH.out
                  clear HBH HM5 hn2 hlc'
                  go_wp2_with fail
                  refine (QM.all HG.out HM6.out hm' (by simp)).mono ?_
                  rintro e w3 ⟨aa, ac, rfl, hac, A, hM3, hR3⟩
                  have HM3 : Hid (QM PQ A w.heap.size w w3 Q most [] (.slice (some ⟨g, o, none⟩) 0 0) []) := hM3
                  have HLN : Hid (Calls Try.prog 16 #[.pointer (some ⟨Q, 0, none⟩)] w3 fun e w' => e = .returned (.int .i64 0) ∧ (∃ A', QM PQ A' w.heap.size w w' Q most [] (.slice (some ⟨g, o, none⟩) 0 0) [])) := (QM.len (a := aa) (c := ac) HG.out HM3.out hm' (by simp) (.inl rfl)).mono fun e w' ⟨h1, A', h2, _⟩ => ⟨h1, A', h2⟩
                  clear hM3 hR3 hac HM6
                  go_wp2_with fail
                  refine HLN.out.mono ?_
                  rintro e w4 ⟨rfl, A', hM4⟩
                  have HM4 : Hid (QM PQ A' w.heap.size w w4 Q most [] (.slice (some ⟨g, o, none⟩) 0 0) []) := hM4
                  clear hM4 HLN HM3
                  go_wp2_with fail
                  go_loopw [15] (fun a V => a = .int .i64 0 ∧ QM PQ A' w.heap.size w V Q most [] (.slice (some ⟨g, o, none⟩) 0 0) []) (fun a V => 0)
                  case atStart => exact ⟨rfl, HM4.out⟩
                  case round =>
                    obtain ⟨rfl, hMj⟩ := hrel
                    have HMj : Hid (QM PQ A' w.heap.size w wr Q most [] (.slice (some ⟨g, o, none⟩) 0 0) []) := hMj
                    clear hMj HM4
                    go_wp2_with fail
                    go_roundw
                    case rel => exact ⟨k + 1, [], by go_num, by omega, by omega, by simp, HMj.out.free⟩
                    case measure => simp [intOf]; omega
                · obtain ⟨o1, ho1⟩ : ∃ o1, o + 1 = o1 := ⟨_, rfl⟩
                  obtain ⟨lc1, hlc2⟩ : ∃ lc1, lc - 1 = lc1 := ⟨_, rfl⟩
                  have HM6 : Hid (QM PQ (fun _ => False) w.heap.size w w5 Q most r (.slice (some ⟨g, o1, none⟩) n1 lc1) r) := by have h := HBH.out; rw [if_neg hlc1, ho1, hlc2] at h; exact h
                  clear HBH HM5
                  go_wp2_with fail
                  generalize (some ⟨g, o1, none⟩ : Option Addr) = la2 at HM6 ⊢
                  have hlc3 : (n1 : Int) ≤ (lc1 : Int) := by omega
                  have hn3 : (n1 : Int) ≤ 1000 := by have := HLN1.out; omega
                  clear ho1 hlc2 q0
                  refine (QM.all HG.out HM6.out hm' (by have := HLN1.out; omega)).mono ?_
                  rintro e w3 ⟨aa, ac, rfl, hac, A, hM3, hR3⟩
                  rw [HLN1.out.1] at hac hR3 ⊢
                  have hac' : (n1 : Int) ≤ (ac : Int) := by omega
                  have HM3 : Hid (QM PQ A w.heap.size w w3 Q most (r) (.slice la2 n1 lc1) (r) ∧ ((r) = [] ∨ (w3.ownsRow w.heap.size 3 1 (.slice aa n1 ac) n1 (fl iv (r)) ∧ ∀ q, (Value.slice aa n1 ac).ownBlock = some q → A q))) := ⟨hM3, hR3⟩
                  have HLN : Hid (Calls Try.prog 16 #[.pointer (some ⟨Q, 0, none⟩)] w3 fun e w' => e = .returned (.int .i64 (n1 : Int)) ∧ (∃ A', QM PQ A' w.heap.size w w' Q most (r) (.slice la2 n1 lc1) (r) ∧ ((r) = [] ∨ (w'.ownsRow w.heap.size 3 1 (.slice aa n1 ac) n1 (fl iv (r)) ∧ ∀ q, (Value.slice aa n1 ac).ownBlock = some q → A' q)))) := by
                    have h := QM.len (a := aa) (c := ac) HG.out HM3.out.1 hm' (by have := HLN1.out; omega) (by rw [HLN1.out.1]; exact HM3.out.2)
                    rw [HLN1.out.1] at h
                    exact h
                  clear hM3 hR3 HM6 hac
                  go_wp2_with fail
                  refine HLN.out.mono ?_
                  rintro e w4 ⟨rfl, A', hM4, hR4⟩
                  have HM4 : Hid (QM PQ A' w.heap.size w w4 Q most (r) (.slice la2 n1 lc1) (r) ∧ ((r) = [] ∨ (w4.ownsRow w.heap.size 3 1 (.slice aa n1 ac) n1 (fl iv (r)) ∧ ∀ q, (Value.slice aa n1 ac).ownBlock = some q → A' q))) := ⟨hM4, hR4⟩
                  clear hM4 hR4 HLN HM3
                  go_wp2_with fail
                  go_loopw [15] (fun a V => ∃ (j : Nat) (ys : List Value), a = .int .i64 (j : Int) ∧ j ≤ n1 ∧ QM PQ A' w.heap.size w V Q most (r) (.slice la2 n1 lc1) (r) ∧ ((r) = [] ∨ (V.ownsRow w.heap.size 3 1 (.slice aa n1 ac) n1 ys ∧ (∀ q, (Value.slice aa n1 ac).ownBlock = some q → A' q) ∧ ∀ i, j ≤ i → ys[i]? = (fl iv (r))[i]?))) (fun a V => n1 - (intOf a).toNat)
                  case atStart => exact ⟨0, fl iv (r), rfl, by omega, HM4.out.1, HM4.out.2.imp id fun h => ⟨h.1, h.2, fun i _ => rfl⟩⟩
                  case round =>
                    obtain ⟨j, ys, rfl, j1, hMj, hRj⟩ := hrel
                    have HMj : Hid (QM PQ A' w.heap.size w wr Q most (r) (.slice la2 n1 lc1) (r)) := hMj
                    have HRj : Hid ((r) = [] ∨ (wr.ownsRow w.heap.size 3 1 (.slice aa n1 ac) n1 ys ∧ (∀ q, (Value.slice aa n1 ac).ownBlock = some q → A' q) ∧ ∀ i, j ≤ i → ys[i]? = (fl iv (r))[i]?)) := hRj
                    clear hMj hRj HM4
                    by_cases e1 : j < n1
                    · have e1' : (j : Int) < (n1 : Int) := by omega
                      have hne : (r) ≠ [] := fun e => by have := HLN1.out.1; rw [e] at this; simp at this; omega
                      obtain ⟨hrow, hA, hys⟩ := HRj.out.resolve_left hne
                      obtain ⟨g, gc, hg⟩ := own_form hrow (by omega)
                      have haa : aa = some ⟨g, 0, none⟩ := (Value.slice.inj hg).1
                      subst haa
                      obtain ⟨g2, o2, c3, hl3⟩ := HMj.out.tl.form hne
                      obtain rfl : la2 = some ⟨g2, o2, none⟩ := (Value.slice.inj hl3).1
                      obtain ⟨y, hy⟩ : ∃ y, (r)[j]? = some y := ⟨_, List.getElem?_eq_getElem (by have := HLN1.out.1; omega)⟩
                      have hyv : (fl iv (r))[j]? = some (.int .i64 y) := by rw [iv_at, hy]; rfl
                      have hT := HMj.out.tl
                      have hT2 := hT
                      have q1 : wr.cell? ⟨g, j, none⟩ = some (.int .i64 y) := by rw [hrow.cellAt j (by omega), hys j (Nat.le_refl _), hyv]
                      have q2 : wr.cell? ⟨g2, o2 + j, none⟩ = some (.int .i64 y) := hT2.cells.2.2 j _ hyv
                      have q3 : wr.frozen? ⟨g, j, none⟩ = false := hrow.frozenAt j
                      have HE : Hid (∀ v, QM PQ A' w.heap.size w (wr.setCell ⟨g, j, none⟩ v).drew Q most (r) (.slice (some ⟨g2, o2, none⟩) n1 lc1) (r) ∧ (wr.setCell ⟨g, j, none⟩ v).drew.ownsRow w.heap.size 3 1 (.slice (some ⟨g, 0, none⟩) n1 ac) n1 (ys.set j v) ∧ (∀ q, (Value.slice (some ⟨g, 0, none⟩) n1 ac).ownBlock = some q → A' q) ∧ ∀ i, j + 1 ≤ i → (ys.set j v)[i]? = (fl iv (r))[i]?) := fun v => ⟨(HMj.out.setCell HG.out (hA g rfl) (own_lt hrow).1 v).later HG.out ((Below.refl (wr.setCell ⟨g, j, none⟩ v).heap.size _).drew) (Nat.le_refl _), (own_set hrow (by have := hrow.1; omega) v).drew, hA, fun i hi => by rw [List.getElem?_set_ne (by omega)]; exact hys i (by omega)⟩
                      clear hrow hA hys hg hl3 hy hyv hT hT2 HRj
                      go_wp2_with fail
                      go_region
                      go_wp2_with fail
                      go_roundw
                      case rel => exact ⟨j + 1, _, by go_num, by omega, (HE.out _).1, .inr (HE.out _).2⟩
                      case measure => simp [intOf]; omega
                    · have e1' : ¬ ((j : Int) < (n1 : Int)) := by omega
                      clear e1 j1
                      go_wp2_with fail
                      go_roundw
                      case rel => exact ⟨k + 1, r, by go_num, by omega, by omega, by have := HLL.out; have := HLN1.out.1; simp at *; omega, HMj.out.free⟩
                      case measure => simp [intOf]; omega
        · have c2' : ¬ ((k : Int) < 200) := by omega
          clear c2 k1 k2 k3
          go_wp2_with (go_at_call 10; refine (known_any HS.out _).mono ?_; rintro e w3 ⟨rfl, hb3⟩)
          go_ret
          exact ⟨rfl, HM.out.bel.trans (hb3.mono HM.out.bel.size)⟩
      · have c1' : ¬ ((k : Int) < (len : Int)) := by omega
        clear c1 k1 k2 k3
        go_wp2_with (go_at_call 10; refine (known_any HS.out _).mono ?_; rintro e w3 ⟨rfl, hb3⟩)
        go_ret
        exact ⟨rfl, HM.out.bel.trans (hb3.mono HM.out.bel.size)⟩
end Go.Proofs.Ytfndbllpnkhlhaa
