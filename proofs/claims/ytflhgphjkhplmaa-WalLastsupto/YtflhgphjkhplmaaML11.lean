import Derived.Test.YtflhgphjkhplmaaML10
import Derived.StillTailTactics
/- Bytes that come in are appended: from any source that lies outside the disk. -/
namespace Go.Proofs.Ytflhgphjkhplmaa.D
open Go.RowKit
set_option linter.unusedVariables false
set_option linter.unusedSimpArgs false

/-- Bytes that lie outside some blocks. -/
def SrcG (w : World) (G : Nat → Prop) (sv : Value) (bs : List Int) : Prop := ∀ W : World, (∀ q, q < w.heap.size → ¬ G q → W.heap[q]? = w.heap[q]?) → Src W sv bs
set_option maxRecDepth 20000 in
set_option maxHeartbeats 4000000 in
theorem write_growG (F : Nat) (dv bv : Value) (n m base : Nat) (xs ys : List Value) (sv : Value) (bs : List Int) (w : World) (hF : w.heap[F]? = some (.cells #[dv, bv] 118 (0, 0))) (hd : w.ownsRow base 5 1 dv n xs) (hb : w.ownsRow base 3 1 bv m ys) (hbase : base ≤ w.heap.size) (hs : SrcG w (fun q => q = F ∨ dv.ownBlock = some q ∨ bv.ownBlock = some q) sv bs) (hn : 0 < bs.length) (hl : n + bs.length ≤ 10000000) (hm : m ≤ 10000000) :
    Calls Try.prog 82 #[.pointer (some ⟨F, 0, none⟩), sv] w fun e w' => (∃ v, e = .returned v) ∧ ∃ dv' bv', w'.heap[F]? = some (.cells #[dv', bv'] 118 (0, 0)) ∧ w'.ownsRow base 5 1 dv' (n + bs.length) (xs ++ u8l bs) ∧ w'.ownsRow base 3 1 bv' (m + 1) (ys ++ [.int .i64 (n : Int)]) ∧ Kep w w' (fun q => q = F ∨ dv.ownBlock = some q ∨ bv.ownBlock = some q) ∧ (∀ q, dv'.ownBlock = some q → dv.ownBlock = some q ∨ w.heap.size ≤ q) ∧ (∀ q, bv'.ownBlock = some q → bv.ownBlock = some q ∨ w.heap.size ≤ q) := by
  obtain ⟨i0, hi, hz0, hz1, hz2⟩ := info_parts info3
  obtain ⟨da, dc, rfl⟩ := own_slice hd
  obtain ⟨ba, bc, rfl⟩ := own_slice hb
  obtain ⟨sa, sc, hsv⟩ := (hs w fun _ _ _ => rfl).slice
  have c0 : w.cell? ⟨F, 0, none⟩ = some (.slice da n dc) := by rw [cell_of_row _ _ _ _ _ _ hF]; rfl
  have c1 : w.cell? ⟨F, 1, none⟩ = some (.slice ba m bc) := by rw [cell_of_row _ _ _ _ _ _ hF]; rfl
  have HF : Hid (w.heap[F]? = some (.cells #[.slice da n dc, .slice ba m bc] 118 (0, 0))) := hF
  have HD : Hid (w.ownsRow base 5 1 (.slice da n dc) n xs) := hd
  have HBO : Hid (w.ownsRow base 3 1 (.slice ba m bc) m ys) := hb
  have HS : Hid (SrcG w (fun q => q = F ∨ (Value.slice da n dc).ownBlock = some q ∨ (Value.slice ba m bc).ownBlock = some q) sv bs) := hs
  have HBS : Hid (base ≤ w.heap.size ∧ n + bs.length ≤ 10000000 ∧ m ≤ 10000000) := ⟨hbase, hl, hm⟩
  obtain ⟨N, hN⟩ : ∃ N, bs.length = N := ⟨_, rfl⟩
  have HN : Hid (bs.length = N) := hN
  rw [hN] at hn hsv
  have hn0 : ((N : Int) == 0) = false := by rw [beq_eq_false_iff_ne]; omega
  have hFlt : F < w.heap.size := (Array.getElem?_eq_some_iff.1 hF).1
  have c0a : ∀ o, (w.alloc o).cell? ⟨F, 0, none⟩ = some (.slice da n dc) := fun o => by rw [cell_of_row _ _ _ _ _ _ ((Below.heap_alloc _ _ _ hFlt).trans hF)]; rfl
  have c1a : ∀ o, (w.alloc o).cell? ⟨F, 1, none⟩ = some (.slice ba m bc) := fun o => by rw [cell_of_row _ _ _ _ _ _ ((Below.heap_alloc _ _ _ hFlt).trans hF)]; rfl
  subst hsv
  clear hF hd hb hs hbase hl hm hN
  go_enter Try.func82, Try.ntmps82
  go_wp2_with fail
  go_region_law (refine step_append_lies _ rfl (.tmp 11) (.tmp 17) 36 rfl base 3 i0 (.int .i64 0) 1 8 Try.underlying36 hi hz0 hz1 hz2 rfl (by decide) (.slice ba m bc) m ys (by simp [Act.eval, Act.put]) (HBO.out.alloc _) ⟨w.heap.size, 0, none⟩ 1 1 [.int .i64 (n : Int)] (by simp [Act.eval, Act.put]) rfl (World.news_of_block (Go.heap_alloc_new _ _)) (by intro u hu; simp at hu; rw [hu]; rfl) (by decide) (by have := HBS.out; unfold maxLen; omega) (by have := HBS.out; omega) (by have := HBS.out; simp; omega) (w.heap.size + 1) (by simp) ?_; intro g' cp' w' ho' hg' hx' hy'; (have HNB : Hid ((Value.slice ba m bc).ownBlock = some g' ∨ g' = w.heap.size + 1) := hx'); (have HX1 : Hid (w'.heap[F]? = some (.cells #[.slice da n dc, .slice ba m bc] 118 (0, 0))) := (hg'.block F (by simp; omega) (own_other HBO.out HF.out (by decide))).trans ((Below.heap_alloc _ _ _ hFlt).trans HF.out)); (have d1 : w'.cell? ⟨F, 1, none⟩ = some (.slice ba m bc) := (by rw [cell_of_row _ _ _ _ _ _ HX1.out]; rfl)); (have f1 := frozen_of_row _ _ 1 _ _ HX1.out); (have HO1 : Hid (w'.ownsRow base 3 1 (.slice (some ⟨g', 0, none⟩) (m + 1) cp') (m + 1) (ys ++ [.int .i64 (n : Int)])) := ho'); (have HK1 : Hid (w.heap.size + 1 ≤ w'.heap.size ∧ ∀ q, q < w.heap.size → (Value.slice ba m bc).ownBlock ≠ some q → w'.heap[q]? = w.heap[q]?) := ⟨(by have h := hg'.size; simp at h; omega), fun q h1 h2 => (hg'.block q (by simp; omega) (fun e => h2 e.symm)).trans (Below.heap_alloc _ _ _ h1)⟩); (have HG1 : Hid (w'.os = w.os ∧ w'.tape = w.tape ∧ w'.output = w.output) := ⟨hg'.os, hg'.tape, hg'.output⟩); clear ho' hg' hx' hy')
  all_goals
    obtain ⟨W2, hW2⟩ : ∃ W2, w'.setCell ⟨F, 1, none⟩ (.slice (some ⟨g', 0, none⟩) (m + 1) cp') = W2 := ⟨_, rfl⟩
    have HX2 : Hid (W2.heap[F]? = some (.cells #[.slice da n dc, .slice (some ⟨g', 0, none⟩) (m + 1) cp'] 118 (0, 0))) := by
      show _ = _
      rw [← hW2]
      exact row_set _ HX1.out
    have HK2 : Hid (∀ q, q ≠ F → W2.heap[q]? = w'.heap[q]?) := fun q hq => by rw [← hW2]; exact Below.heap_setCell _ _ _ _ hq
    have HZ2 : Hid (W2.heap.size = w'.heap.size) := by show _ = _; rw [← hW2]; simp
    have HY2 : Hid (W2.os = w'.os ∧ W2.tape = w'.tape ∧ W2.output = w'.output) := by rw [← hW2]; exact ⟨rfl, rfl, rfl⟩
    have HD2 : Hid (W2.ownsRow base 5 1 (.slice da n dc) n xs) := own_at HD.out fun q hq => by
      obtain ⟨cur, hc⟩ := own_tag HD.out hq
      rw [HK2.out q (ne_tag hc HF.out (by decide))]
      refine HK1.out.2 q (Array.getElem?_eq_some_iff.1 hc).1 fun e => ?_
      obtain ⟨cur', hc'⟩ := own_tag HBO.out e
      exact ne_tag hc hc' (by decide) rfl
    have HO2 : Hid (W2.ownsRow base 3 1 (.slice (some ⟨g', 0, none⟩) (m + 1) cp') (m + 1) (ys ++ [.int .i64 (n : Int)])) := own_at HO1.out fun q hq => by
      obtain ⟨cur, hc⟩ := own_tag HO1.out hq
      exact HK2.out q (ne_tag hc HX1.out (by decide))
    have HS2 : Hid (Src W2 (.slice sa N sc) bs) := HS.out W2 fun q hq hn => by
      rw [HK2.out q (fun e => hn (.inl e))]
      exact HK1.out.2 q hq (fun e => hn (.inr (.inr e)))
    rw [hW2]
    have e0 : W2.cell? ⟨F, 0, none⟩ = some (.slice da n dc) := by rw [cell_of_row _ _ _ _ _ _ HX2.out]; rfl
    clear hW2 d1 f1 c0 c1 c0a c1a
    go_wp2_with (at_builtin; (refine append_src_near rfl (.tmp 25) (.tmp 26) rfl base (.slice da n dc) n xs rfl HD2.out (.slice sa N sc) bs rfl HS2.out (by have h2 := HN.out; omega) (by have := HBS.out; omega) (by have h1 := HBS.out; have h2 := HK1.out.1; have h3 := HZ2.out; omega) ?_; intro v3 w3 ho3 hg3 hn3; (have HND : Hid (∀ q, v3.ownBlock = some q → (Value.slice da n dc).ownBlock = some q ∨ W2.heap.size ≤ q) := hn3); clear hn3; (obtain ⟨xa, xc, hv3⟩ := own_slice ho3); subst hv3; (have HX3 : Hid (w3.heap[F]? = some (.cells #[.slice da n dc, .slice (some ⟨g', 0, none⟩) (m + 1) cp'] 118 (0, 0))) := (hg3.block F (by have h2 := HK1.out.1; have h3 := HZ2.out; omega) (own_other HD2.out HX2.out (by decide))).trans HX2.out); (have d3 : w3.cell? ⟨F, 0, none⟩ = some (.slice da n dc) := (by rw [cell_of_row _ _ _ _ _ _ HX3.out]; rfl)); (have f3 := frozen_of_row _ _ 0 _ _ HX3.out); (have HO3 : Hid (w3.ownsRow base 5 1 (.slice xa (n + bs.length) xc) (n + bs.length) (xs ++ u8l bs)) := ho3); (have HG3 : Hid (W2.grownBy w3 (Value.slice da n dc).ownBlock) := hg3); clear ho3 hg3))
    go_end0
    refine ⟨⟨_, rfl⟩, .slice xa (n + bs.length) xc, .slice (some ⟨g', 0, none⟩) (m + 1) cp', row_set _ HX3.out, ?_, ?_, ⟨?_, ?_, ?_, ?_, ?_⟩, ?_, ?_⟩
    · refine own_at HO3.out fun q hq => Below.heap_setCell _ _ _ _ ?_
      obtain ⟨cur, hc⟩ := own_tag HO3.out hq
      exact ne_tag hc HX3.out (by decide)
    · refine own_at (w := W2) HO2.out fun q hq => ?_
      obtain ⟨cur, hc⟩ := own_tag HO2.out hq
      rw [Below.heap_setCell _ _ _ _ (ne_tag hc HX2.out (by decide))]
      exact HG3.out.block q (Array.getElem?_eq_some_iff.1 hc).1 (own_other HD2.out hc (by decide))
    · exact HG3.out.os.trans (HY2.out.1.trans HG1.out.1)
    · exact HG3.out.tape.trans (HY2.out.2.1.trans HG1.out.2.1)
    · exact HG3.out.output.trans (HY2.out.2.2.trans HG1.out.2.2)
    · have h1 := HK1.out.1
      have h2 := HZ2.out
      have h3 := HG3.out.size
      simp
      omega
    · intro q h1 hx
      have h2 : q ≠ F := fun e => hx (.inl e)
      have h3 : (Value.slice da n dc).ownBlock ≠ some q := fun e => hx (.inr (.inl e))
      have h4 : (Value.slice ba m bc).ownBlock ≠ some q := fun e => hx (.inr (.inr e))
      have g1 := HK1.out.1
      have g2 := HZ2.out
      rw [Below.heap_setCell _ _ _ _ h2, HG3.out.block q (by omega) (fun e => h3 e.symm), HK2.out q h2]
      exact HK1.out.2 q h1 h4
    · intro q hq
      rcases HND.out q hq with e | e
      · exact .inl e
      · exact .inr (by have h1 := HK1.out.1; have h2 := HZ2.out; omega)
    · intro q hq
      have e : g' = q := by simpa [Value.ownBlock] using hq
      rcases HNB.out with h | h
      · exact .inl (e ▸ h)
      · exact .inr (by omega)
variable {w w' : World} {D K : Nat} {F : Nat → Prop} {sy : Int} {dl : List Fd} {s s' : List UInt8} {x : Fd} {tl : List Tn}
theorem SrcG.own {G : Nat → Prop} {base : Nat} {v : Value} {zs : List Int} (h : w.ownsRow base 5 1 v zs.length (u8l zs)) (hG : ∀ q, v.ownBlock = some q → ¬ G q) : SrcG w G v zs := fun W hW => own_src (own_at h fun q hq => hW q (h.lt q hq).2 (hG q hq))
theorem SrcG.fr {G G' : Nat → Prop} {sv : Value} {bs : List Int} (h : SrcG w G sv bs) (hf : Fr G G' w w') : SrcG w' G' sv bs := fun W hW => h W fun q hq hn => by
  have := hf.size
  rw [hW q (by omega) fun e => (hf.grow q e).elim hn fun c => by omega]
  exact hf.block q hq hn
theorem SrcG.now {G : Nat → Prop} {sv : Value} {bs : List Int} (h : SrcG w G sv bs) : Src w sv bs := h w fun _ _ _ => rfl
/-- A file that is written, as it lies. -/
theorem write_flG {f : Nat} {G : Nat → Prop} {b ws bs : List Int} {sv : Value} (h : FL w f G b ws) (hs : SrcG w G sv bs) (hl : b.length + bs.length ≤ 10000000) (hm : ws.length ≤ 10000000) :
    Calls Try.prog 82 #[.pointer (some ⟨f, 0, none⟩), sv] w fun e w' => (∃ v, e = .returned v) ∧ ∃ F2, FL w' f F2 (b ++ bs) (if bs = [] then ws else ws ++ [(b.length : Int)]) ∧ Fr G F2 w w' := by
  by_cases c : bs = []
  · subst c
    obtain ⟨sa, sc, hsv⟩ := (hs w fun _ _ _ => rfl).slice
    subst hsv
    refine (write_nil (f := f) (sa := sa) (sc := sc) w).mono ?_
    rintro e w' ⟨he, rfl⟩
    exact ⟨he, G, by simpa using h, Fr.refl _ _⟩
  · have hn : 0 < bs.length := List.length_pos_iff.2 c
    obtain ⟨dv, bv, g1, g2, g3, g4⟩ := h
    refine (write_growG f dv bv b.length ws.length 0 (u8l b) (ws.map iV) sv bs w g1 g2 g3 (Nat.zero_le _) (fun W hW => hs W fun q hq hx => hW q hq fun e => hx ((g4 q).2 e)) hn hl hm).mono ?_
    rintro e w' ⟨he, dv', bv', k1, k2, k3, k4, k5, k6⟩
    refine ⟨he, fun q => q = f ∨ dv'.ownBlock = some q ∨ bv'.ownBlock = some q, ⟨dv', bv', k1, ?_, ?_, fun q => Iff.rfl⟩, ⟨k4.os, k4.tape, k4.output, k4.size, fun q hq hx => k4.block q hq fun e => hx ((g4 q).2 e), ?_⟩⟩
    · rw [u8l_app] at k2
      rw [List.length_append]
      exact k2
    · rw [if_neg c]
      have e1 : (ws ++ [(b.length : Int)]).map iV = ws.map iV ++ [.int .i64 (b.length : Int)] := by simp [iV]
      rw [e1, List.length_append]
      exact k3
    · rintro q (e | e | e)
      · exact .inl ((g4 q).2 (.inl e))
      · exact (k5 q e).imp (fun e => (g4 q).2 (.inr (.inl e))) id
      · exact (k6 q e).imp (fun e => (g4 q).2 (.inr (.inr e))) id
set_option maxRecDepth 20000 in
set_option maxHeartbeats 4000000 in
theorem append_thereG (h : DR w D F sy dl) (hs : lkF s dl = some x) (hl : (s.length : Int) ≤ 140737488351232) (hn : nameB s = true) {sv : Value} {bs : List Int} (hsv : SrcG w F sv bs) (hx : x.b.length ≤ 1048576) (hw : x.ws.length ≤ 1048576) (hfit : (bs.length : Int) ≤ 1048576 - x.b.length) :
    Calls Try.prog 55 #[.pointer (some ⟨D, 0, none⟩), .string (tx s), sv] w fun e w' => e = .returned (.int .i64 0) ∧ ∃ F', DR w' D F' sy (setF s (x.b ++ bs) (if bs = [] then x.ws else x.ws ++ [(x.b.length : Int)]) dl) ∧ Fr F F' w w' := by
  obtain ⟨K, f, Ff, h1, h2, hfl, hsub, hT, -⟩ := h.open hs
  have HW := write_flG hfl (fun W hW => hsv W fun q hq hx => hW q hq fun e => hx (hsub q e).1) (by omega) (by omega)
  obtain ⟨dv, bv, g1, g2, g3, g4⟩ := hfl
  have HFI : Hid (Calls Try.prog 74 #[.pointer (some ⟨D, 0, none⟩), .string (tx s)] w fun e w' => e = .returned (.tuple #[.pointer (some ⟨f, 0, none⟩), .int .i64 0]) ∧ w' = w) := find_yes h1 h2
  have HNA : Hid (Calls Try.prog 56 #[.string (tx s)] w fun e w' => e = .returned (.bool true) ∧ w' = w) := by
    have := name_any s w hl
    rw [hn] at this
    exact this
  have HWR : Hid (Calls Try.prog 82 #[.pointer (some ⟨f, 0, none⟩), sv] w fun e w' => (∃ v, e = .returned v) ∧ ∃ F', DR w' D F' sy (setF s (x.b ++ bs) (if bs = [] then x.ws else x.ws ++ [(x.b.length : Int)]) dl) ∧ Fr F F' w w') := by
    refine HW.mono ?_
    rintro e w' ⟨he, F2, k1, k2⟩
    exact ⟨he, hT w' F2 _ _ k1 k2⟩
  obtain ⟨da, dc, hdv⟩ := own_slice g2
  obtain ⟨sa, sc, hsl⟩ := (hsv w fun _ _ _ => rfl).slice
  have cF : w.cell? ⟨f, 0, none⟩ = some dv := by rw [cell_of_row _ _ _ _ _ _ g1]; rfl
  rw [hdv] at cF
  have HG : Hid (setF s (x.b ++ bs) (if bs = [] then x.ws else x.ws ++ [(x.b.length : Int)]) dl = setF s (x.b ++ bs) (if bs = [] then x.ws else x.ws ++ [(x.b.length : Int)]) dl) := rfl
  generalize setF s (x.b ++ bs) (if bs = [] then x.ws else x.ws ++ [(x.b.length : Int)]) dl = dl' at HWR HG ⊢
  obtain ⟨M, hM⟩ : ∃ M, x.b.length = M := ⟨_, rfl⟩
  obtain ⟨N, hN⟩ : ∃ N, bs.length = N := ⟨_, rfl⟩
  rw [hM] at cF hfit hx
  rw [hN] at hsl hfit
  subst hsl
  clear h hs h1 h2 hl hn hsv hsub hT HW g1 g2 g3 g4 hdv hM hN hw HG
  go_enter Try.func55, Try.ntmps55
  go_wp2_with (first | (go_at_call 74; refine HFI.out.mono ?_; rintro e w1 ⟨rfl, hw1⟩; rw [hw1]; clear hw1) | (go_at_call 56; refine HNA.out.mono ?_; rintro e w1 ⟨rfl, hw1⟩; rw [hw1]; clear hw1) | (go_at_call 82; refine HWR.out.mono ?_; rintro e w2 ⟨⟨v2, rfl⟩, F2, k1, k2⟩; (have HR : Hid (DR w2 D F2 sy dl' ∧ Fr F F2 w w2) := ⟨k1, k2⟩); clear k1 k2))
  go_ret
  exact ⟨rfl, F2, HR.out.1, HR.out.2⟩
set_option maxRecDepth 20000 in
set_option maxHeartbeats 4000000 in
theorem append_newG (h : DR w D F sy dl) (hs : lkF s dl = none) (hl : (s.length : Int) ≤ 140737488351232) (hn : nameB s = true) {sv : Value} {bs : List Int} (hsv : SrcG w F sv bs) (hd : dl.length ≤ 64) (hb : bs.length ≤ 1048576 + 1048576) :
    Calls Try.prog 55 #[.pointer (some ⟨D, 0, none⟩), .string (tx s), sv] w fun e w' => e = .returned (.int .i64 (if 1048576 < bs.length then 4 else if dl.length = 64 then 7 else 0)) ∧ ∃ F', DR w' D F' sy (if 1048576 < bs.length then dl else if dl.length = 64 then dl else dl ++ [⟨s, bs, if bs = [] then [] else [0]⟩]) ∧ Fr F F' w w' := by
  have HFI : Hid (Calls Try.prog 74 #[.pointer (some ⟨D, 0, none⟩), .string (tx s)] w fun e w' => e = .returned (.tuple #[.pointer none, .int .i64 5]) ∧ w' = w) := h.findNo hs
  have HNA : Hid (Calls Try.prog 56 #[.string (tx s)] w fun e w' => e = .returned (.bool true) ∧ w' = w) := by
    have := name_any s w hl
    rw [hn] at this
    exact this
  obtain ⟨W, hW⟩ : ∃ W, w.alloc (.cells #[.slice none 0 0, .slice none 0 0] 118) = W := ⟨_, rfl⟩
  have hB : Below w.heap.size w W := by rw [← hW]; exact bel1 w _
  have hWF : W.heap[w.heap.size]? = some (.cells #[.slice none 0 0, .slice none 0 0] 118 (0, 0)) := by rw [← hW]; exact Go.heap_alloc_new _ _
  have hWD : DR W D F sy dl := h.newer hB
  have hFl : FL W w.heap.size (fun q => q = w.heap.size) [] [] := ⟨_, _, hWF, World.ownsRow_nil _ _ _ _, World.ownsRow_nil _ _ _ _, fun q => by simp [Value.ownBlock]⟩
  obtain ⟨mv, hbox, hlen⟩ := hWD.count
  have cW : W.cell? ⟨D, 0, none⟩ = some (.map mv) := by rw [cell_of_row _ _ _ _ _ _ hbox]; rfl
  have cWF : W.cell? ⟨w.heap.size, 0, none⟩ = some (.slice none 0 0) := by rw [cell_of_row _ _ _ _ _ _ hWF]; rfl
  have hlen3 := hlen 3
  have hnewF : ∀ q, q = w.heap.size → ¬ F q := fun q hq e => by have := h.lt q e; omega
  have hPU := put_any (s := s) hWD hFl hnewF
  have hout : outF s dl = dl := outF_none hs
  rw [hout] at hPU
  obtain ⟨sa, sc, hsl⟩ := (hsv w fun _ _ _ => rfl).slice
  obtain ⟨N, hN⟩ : ∃ N, bs.length = N := ⟨_, rfl⟩
  obtain ⟨M, hM⟩ : ∃ M, dl.length = M := ⟨_, rfl⟩
  have HP : Hid (Calls Try.prog 81 #[.pointer (some ⟨D, 0, none⟩), .string (tx s), .pointer (some ⟨w.heap.size, 0, none⟩)] W fun e w2 => (∃ v, e = .returned v) ∧ (bs.length ≤ 1048576 → Calls Try.prog 82 #[.pointer (some ⟨w.heap.size, 0, none⟩), sv] w2 fun e w3 => (∃ v, e = .returned v) ∧ ∃ F', DR w3 D F' sy (dl ++ [⟨s, bs, if bs = [] then [] else [0]⟩]) ∧ Fr F F' w w3)) := by
    refine hPU.mono ?_
    rintro e w2 ⟨he, k1, F', k2, k3, k4⟩
    refine ⟨he, fun hbs => ?_⟩
    refine (write_flG k1 (fun V hV => hsv V fun q hq hx => ?_) (by simp; omega) (by simp)).mono ?_
    · have z1 := hB.size
      have z2 := k3.size
      rw [hV q (by omega) (by show ¬ q = w.heap.size; omega), k3.block q (by omega) (by rintro (e | e); exact hx e; omega)]
      exact hB.block q hq
    rintro e w3 ⟨he3, F2, l1, l2⟩
    obtain ⟨F3, m1, m2⟩ := k4 w3 F2 _ _ l1 l2
    refine ⟨he3, F3, by simpa using m1, ?_⟩
    have f1 : Fr F (fun q => F q ∨ q = w.heap.size) w W := ⟨hB.os, hB.tape, hB.output, hB.size, fun q hq _ => hB.block q hq, fun q hq => hq.imp id fun e => by omega⟩
    exact (f1.trans' k3).trans' m2
  have HE : Hid (DR W D F sy dl ∧ Fr F F w W) := ⟨hWD, Fr.newer hB⟩
  rw [hN] at HP hsl hb ⊢
  rw [hM] at hlen3 hd ⊢
  subst hsl
  clear h hs hl hn hsv hB hWD hFl hbox hlen hnewF hPU hout hWF
  by_cases c1 : 1048576 < N
  · have c1' : (1048576 : Int) < (N : Int) := by omega
    rw [if_pos c1, if_pos c1]
    have hb' : (N : Int) ≤ 2097152 := by omega
    clear hb c1 HP hN hM
    go_enter Try.func55, Try.ntmps55
    go_wp2_with (first | (go_at_call 74; refine HFI.out.mono ?_; rintro e w1 ⟨rfl, hw1⟩; rw [hw1]; clear hw1) | (go_at_call 56; refine HNA.out.mono ?_; rintro e w1 ⟨rfl, hw1⟩; rw [hw1]; clear hw1))
    go_ret
    exact ⟨rfl, F, HE.out.1, HE.out.2⟩
  · have c1' : ¬ (1048576 : Int) < (N : Int) := by omega
    rw [if_neg c1, if_neg c1]
    by_cases c2 : M = 64
    · rw [if_pos c2, if_pos c2]
      subst c2
      clear hb c1 HP hN hM
      go_enter Try.func55, Try.ntmps55
      go_wp2_with (first | (go_at_call 74; refine HFI.out.mono ?_; rintro e w1 ⟨rfl, hw1⟩; rw [hw1]; clear hw1) | (go_at_call 56; refine HNA.out.mono ?_; rintro e w1 ⟨rfl, hw1⟩; rw [hw1]; clear hw1))
      go_ret
      exact ⟨rfl, F, HE.out.1, HE.out.2⟩
    · rw [if_neg c2, if_neg c2]
      have c2' : ((M : Int) == 64) = false := by rw [beq_eq_false_iff_ne]; omega
      have c2'' : ¬ (M : Int) = 64 := by omega
      have HN1 : Hid (N ≤ 1048576) := by show N ≤ 1048576; omega
      clear hb c1 hN hM c2
      generalize dl ++ [⟨s, bs, if bs = [] then [] else [0]⟩] = dl' at HP ⊢
      go_enter Try.func55, Try.ntmps55
      go_wp2_with (first | (go_at_call 74; refine HFI.out.mono ?_; rintro e w1 ⟨rfl, hw1⟩; rw [hw1]; clear hw1) | (go_at_call 56; refine HNA.out.mono ?_; rintro e w1 ⟨rfl, hw1⟩; rw [hw1]; clear hw1) | (go_at_call 81; refine HP.out.mono ?_; rintro e w2 ⟨⟨v2, rfl⟩, hk⟩; (have HK := hk HN1.out); (have HK2 : Hid (Calls Try.prog 82 #[.pointer (some ⟨w.heap.size, 0, none⟩), .slice sa N sc] w2 fun e w3 => (∃ v, e = .returned v) ∧ ∃ F', DR w3 D F' sy dl' ∧ Fr F F' w w3) := HK); clear hk HK) | (go_at_call 82; refine HK2.out.mono ?_; rintro e w3 ⟨⟨v3, rfl⟩, F3, m1, m2⟩; (have HR : Hid (DR w3 D F3 sy dl' ∧ Fr F F3 w w3) := ⟨m1, m2⟩); clear m1 m2))
      go_ret
      exact ⟨rfl, F3, HR.out.1, HR.out.2⟩
end Go.Proofs.Ytflhgphjkhplmaa.D

/- The model's disk as it lies; find. -/
namespace Go.Proofs.Ytflhgphjkhplmaa.D
open Go.RowKit
set_option linter.unusedVariables false
set_option linter.unusedSimpArgs false

/-- The same world, but for orders drawn. -/
def DwQ (w w' : World) : Prop := ∃ m, w' = w.drewN m
theorem DwQ.refl (w : World) : DwQ w w := ⟨0, rfl⟩
theorem DwQ.drewN {w w' : World} (h : DwQ w w') (m : Nat) : DwQ w (w'.drewN m) := by
  obtain ⟨k, rfl⟩ := h
  exact ⟨k + m, World.drewN_drewN _ _ _⟩
theorem DwQ.heap {w w' : World} (h : DwQ w w') (q : Nat) : w'.heap[q]? = w.heap[q]? := by
  obtain ⟨k, rfl⟩ := h
  rfl
theorem DwQ.below {w w' : World} (h : DwQ w w') : Below w.heap.size w w' := by
  obtain ⟨k, rfl⟩ := h
  exact ⟨rfl, rfl, rfl, Nat.le_refl _, fun _ _ => rfl⟩

/-- A file of the model: with where its bytes and its writes lie. -/
structure Mt where
  x : Fd
  da : Option Addr
  dc : Nat
  ba : Option Addr
  bc : Nat
def Mt.dv (t : Mt) : Value := .slice t.da t.x.b.length t.dc
def Mt.bv (t : Mt) : Value := .slice t.ba t.x.ws.length t.bc
def mt4 (t : Mt) : List Value := [.string (tx t.x.nm), t.dv, .int .i64 (safeN t.x.b t.x.ws), t.bv]
theorem mt4_len (t : Mt) : (mt4 t).length = 4 := rfl
theorem mt4_one (t : Mt) : ∀ u ∈ mt4 t, u.oneCell' = true := by
  intro u hu
  simp only [mt4, List.mem_cons, List.not_mem_nil, or_false] at hu
  rcases hu with rfl | rfl | rfl | rfl <;> rfl
def GT (t : Mt) (q : Nat) : Prop := t.dv.ownBlock = some q ∨ t.bv.ownBlock = some q
/-- A file's rows. -/
structure ML (w : World) (t : Mt) : Prop where
  rd : w.ownsRow 0 5 1 t.dv t.x.b.length (u8l t.x.b)
  rw : w.ownsRow 0 3 1 t.bv t.x.ws.length (t.x.ws.map iV)
variable {w w' : World}
theorem ML.at' {t : Mt} (h : ML w t) (hk : ∀ q, GT t q → w'.heap[q]? = w.heap[q]?) : ML w' t := ⟨own_at h.rd fun q hq => hk q (.inl hq), own_at h.rw fun q hq => hk q (.inr hq)⟩
theorem ML.lt {t : Mt} (h : ML w t) : ∀ q, GT t q → q < w.heap.size := by
  rintro q (hq | hq)
  · exact (h.rd.lt q hq).2
  · exact (h.rw.lt q hq).2
theorem ML.tag {t : Mt} (h : ML w t) : ∀ q, GT t q → ∃ c e, w.heap[q]? = some (.cells c e (0, 0)) ∧ (e = 5 ∨ e = 3) := by
  rintro q (hq | hq)
  · obtain ⟨cur, hc⟩ := own_tag h.rd hq
    exact ⟨cur, 5, hc, .inl rfl⟩
  · obtain ⟨cur, hc⟩ := own_tag h.rw hq
    exact ⟨cur, 3, hc, .inr rfl⟩
structure MS (w : World) (R : Nat) (lv : Value) (m : List Mt) (sy : Int) : Prop where
  box : w.heap[R]? = some (.cells #[lv, .int .i64 sy] 43 (0, 0))
  row : w.ownsRow 0 121 4 lv m.length (fl mt4 m)
  ml : ∀ t ∈ m, ML w t
  ap : m.Pairwise fun s t => ∀ q, GT s q → ¬ GT t q
def GM (R : Nat) (lv : Value) (m : List Mt) (q : Nat) : Prop := q = R ∨ lv.ownBlock = some q ∨ ∃ t ∈ m, GT t q
variable {R : Nat} {lv : Value} {m : List Mt} {sy : Int}
theorem MS.lt (h : MS w R lv m sy) : ∀ q, GM R lv m q → q < w.heap.size := by
  rintro q (rfl | hq | ⟨t, ht, hq⟩)
  · exact (Array.getElem?_eq_some_iff.1 h.box).1
  · exact (h.row.lt q hq).2
  · exact (h.ml t ht).lt q hq
theorem MS.at' (h : MS w R lv m sy) (hk : ∀ q, GM R lv m q → w'.heap[q]? = w.heap[q]?) : MS w' R lv m sy :=
  ⟨(hk R (.inl rfl)).trans h.box, own_at h.row fun q hq => hk q (.inr (.inl hq)), fun t ht => (h.ml t ht).at' fun q hq => hk q (.inr (.inr ⟨t, ht, hq⟩)), h.ap⟩
theorem MS.newer (h : MS w R lv m sy) (hb : Below w.heap.size w w') : MS w' R lv m sy := h.at' fun q hq => hb.block q (h.lt q hq)
theorem MS.cells (h : MS w R lv m sy) : w.cell? ⟨R, 0, none⟩ = some lv ∧ w.cell? ⟨R, 1, none⟩ = some (.int .i64 sy) ∧ ∀ i, w.frozen? ⟨R, i, none⟩ = false :=
  ⟨by rw [cell_of_row _ _ _ _ _ _ h.box]; rfl, by rw [cell_of_row _ _ _ _ _ _ h.box]; rfl, fun i => by simp [World.frozen?, h.box]⟩
/-- The box and the row are no file's rows. -/
theorem MS.ne (h : MS w R lv m sy) : (∀ q, lv.ownBlock = some q → q ≠ R) ∧ ∀ t, ML w t → ∀ q, GT t q → q ≠ R ∧ lv.ownBlock ≠ some q := by
  refine ⟨fun q hq => ?_, fun t ht q hq => ?_⟩
  · obtain ⟨cur, hc⟩ := own_tag h.row hq
    exact ne_tag hc h.box (by decide)
  · obtain ⟨c, e, h1, h2⟩ := ht.tag q hq
    refine ⟨ne_tag h1 h.box (by rcases h2 with rfl | rfl <;> decide), fun hl => ?_⟩
    obtain ⟨cur, hc⟩ := own_tag h.row hl
    exact ne_tag h1 hc (by rcases h2 with rfl | rfl <;> decide) rfl
/-- A file's cells. -/
theorem own_mt {W : World} {g n cap k : Nat} {m : List Mt} {t : Mt} (h : W.ownsRow 0 121 4 (.slice (some ⟨g, 0, none⟩) n cap) m.length (fl mt4 m)) (hk : m[k]? = some t) :
    W.cell? ⟨g, k * 4, none⟩ = some (.string (tx t.x.nm)) ∧ W.cell? ⟨g, k * 4 + 1, none⟩ = some (.slice t.da t.x.b.length t.dc) ∧ W.cell? ⟨g, k * 4 + 2, none⟩ = some (.int .i64 (safeN t.x.b t.x.ws)) ∧ W.cell? ⟨g, k * 4 + 3, none⟩ = some (.slice t.ba t.x.ws.length t.bc) ∧ ∀ i, W.frozen? ⟨g, i, none⟩ = false := by
  have hc : ∀ j u, (mt4 t)[j]? = some u → W.cell? ⟨g, k * 4 + j, none⟩ = some u := fun j u hu => by
    have := h.cells (g := g) rfl (k * 4 + j) u (by rw [fl_at mt4_len m k t j hk (by have := (List.getElem?_eq_some_iff.1 hu).1; simpa [mt4] using this)]; exact hu)
    rwa [Addr.add_lit, Nat.zero_add] at this
  refine ⟨hc 0 _ rfl, hc 1 _ rfl, hc 2 _ rfl, hc 3 _ rfl, fun i => ?_⟩
  obtain ⟨cur, hcu⟩ := own_tag h (q := g) rfl
  simp [World.frozen?, hcu]
def nmsM (m : List Mt) : List (List UInt8) := m.map fun t => t.x.nm
def ixM (s : List UInt8) : List Mt → Nat → Option Nat
  | [], _ => none
  | t :: r, i => if t.x.nm = s then some i else ixM s r (i + 1)
theorem ixM_hit {s : List UInt8} : ∀ {l : List Mt} {j i : Nat} {a : Mt}, l[j]? = some a → a.x.nm = s → (∀ (b : Nat) (x : Mt), b < j → l[b]? = some x → ¬ x.x.nm = s) → ixM s l i = some (i + j)
  | [], j, i, a, h, _, _ => by simp at h
  | x :: r, 0, i, a, h, hk, _ => by
    have e : x = a := by simpa using h
    subst e
    rw [ixM, if_pos hk]
    rfl
  | x :: r, j + 1, i, a, h, hk, hb => by
    rw [ixM, if_neg (hb 0 x (by omega) rfl), ixM_hit (by simpa using h) hk (fun b y hb' hy => hb (b + 1) y (by omega) (by simpa using hy))]
    congr 1
    omega
theorem ixM_miss {s : List UInt8} : ∀ {l : List Mt} {i : Nat}, (∀ (b : Nat) (x : Mt), l[b]? = some x → ¬ x.x.nm = s) → ixM s l i = none
  | [], i, _ => rfl
  | x :: r, i, h => by
    rw [ixM, if_neg (h 0 x rfl)]
    exact ixM_miss fun b y hy => h (b + 1) y (by simpa using hy)
def posV (o : Option Nat) : Int := match o with | some i => (i : Int) | none => -1
set_option maxRecDepth 20000 in
set_option maxHeartbeats 4000000 in
theorem MS.find (h : MS w R lv m sy) (hl : (m.length : Int) ≤ 1000000) (s : List UInt8) : Calls Try.prog 76 #[.pointer (some ⟨R, 0, none⟩), .string (tx s)] w fun e w' => e = .returned (.int .i64 (posV (ixM s m 0))) ∧ w' = w := by
  obtain ⟨sa, cap, hsv⟩ := own_slice h.row
  have HT : Hid (MS w R lv m sy) := h
  subst hsv
  have c0 := h.cells.1
  obtain ⟨n, hn⟩ : ∃ n, m.length = n := ⟨_, rfl⟩
  have HN : Hid (m.length = n) := hn
  rw [hn] at c0 hl
  clear h hn
  go_enter Try.func76, Try.ntmps76
  go_wp2_with fail
  go_loopw [5] (fun v wr => wr = w ∧ ∃ k : Nat, k ≤ n ∧ v = .int .i64 k ∧ Hid (∀ (j : Nat) (p : Mt), j < k → m[j]? = some p → ¬ p.x.nm = s)) (fun v wr => n - (intOf v).toNat)
  case atStart => exact ⟨rfl, 0, by omega, rfl, (fun j p hj => (Nat.not_lt_zero _ hj).elim : ∀ (j : Nat) (p : Mt), j < 0 → m[j]? = some p → ¬ p.x.nm = s)⟩
  case round =>
    obtain ⟨hwr, k, hk, rfl, HD⟩ := hrel
    rw [hwr]
    clear hwr
    by_cases hlt : k < n
    · have hlt' : (k : Int) < (n : Int) := by omega
      obtain ⟨t, ht⟩ : ∃ t, m[k]? = some t := ⟨_, List.getElem?_eq_getElem (by have := HN.out; omega)⟩
      have HS : Hid (m[k]? = some t ∧ k < n) := ⟨ht, hlt⟩
      obtain ⟨g, cp, hv⟩ := own_form HT.out.row (by have := HN.out; omega)
      have hsa : sa = some ⟨g, 0, none⟩ := (Value.slice.inj hv).1
      subst hsa
      have e0 := (own_mt HT.out.row ht).1
      have hcap : (n : Int) ≤ (cap : Int) := by have := own_cap HT.out.row; have := HN.out; omega
      clear ht hv
      by_cases hq : t.x.nm = s
      · have HE : Hid (ixM s m 0 = some k) := by
          show _ = _
          rw [ixM_hit HS.out.1 hq HD.out, Nat.zero_add]
        have hq' : ((tx t.x.nm).toList == (tx s).toList) = true := by rw [tx_list, tx_list]; simpa using hq
        clear hq
        go_wp2_with fail
        go_ret
        exact ⟨by rw [HE.out]; rfl, rfl⟩
      · have HN2 : Hid (∀ (j : Nat) (p : Mt), j < k + 1 → m[j]? = some p → ¬ p.x.nm = s) := by
          intro j p hj hp
          rcases (show j = k ∨ j < k from by omega) with rfl | h
          · rw [HS.out.1] at hp
            rw [← Option.some.inj hp]
            exact hq
          · exact HD.out j p h hp
        have hq' : ((tx t.x.nm).toList == (tx s).toList) = false := by rw [tx_list, tx_list]; simpa using hq
        clear hq
        go_wp2_with fail
        go_roundw
        case rel => exact ⟨by trivial, k + 1, by have := HS.out.2; omega, by go_num, HN2.out⟩
        case measure => have := HS.out.2; simp [intOf]; omega
    · have hge : ¬ ((k : Int) < (n : Int)) := by omega
      have HE : Hid (ixM s m 0 = none) := ixM_miss fun j x hx => HD.out j x (by have := (List.getElem?_eq_some_iff.1 hx).1; have := HN.out; omega) hx
      clear hlt
      go_wp2_with fail
      go_ret
      exact ⟨by rw [HE.out]; rfl, rfl⟩
end Go.Proofs.Ytflhgphjkhplmaa.D

/- The model's drop. -/
namespace Go.Proofs.Ytflhgphjkhplmaa.D
open Go.RowKit
set_option linter.unusedVariables false
set_option linter.unusedSimpArgs false

variable {w w' w2 : World} {R : Nat} {lv lv' : Value} {m m' : List Mt} {sy : Int} {X : Nat → Prop}
def zF : Value := .agg #[.string ⟨#[]⟩, .slice none 0 0, .int .i64 0, .slice none 0 0]
theorem i43_ex : ∃ i, Try.prog.info? 121 = some i ∧ i.zero = some zF ∧ i.size = 4 ∧ i.bytes = 72 := by
  obtain ⟨i0, hi⟩ : ∃ i, Try.prog.info? 121 = some i := Option.isSome_iff_exists.1 (by kernel_rfl)
  refine ⟨i0, hi, ?_, ?_, ?_⟩
  · have h2 : (Try.prog.info? 121).map (·.zero) = some (some zF) := by kernel_rfl
    rw [hi] at h2
    simpa using h2
  · have h2 : (Try.prog.info? 121).map (·.size) = some 4 := by kernel_rfl
    rw [hi] at h2
    simpa using h2
  · have h2 : (Try.prog.info? 121).map (·.bytes) = some 72 := by kernel_rfl
    rw [hi] at h2
    simpa using h2
theorem under27 : Try.prog.underlying 41 = some (.slice 121) := by kernel_rfl
/-- The row is a new one. -/
theorem MS.turnL (h : MS w R lv m sy) (hB : Below w.heap.size w w2) (ho : w2.ownsRow w.heap.size 121 4 lv' m'.length (fl mt4 m')) (hml : ∀ t ∈ m', ML w2 t) (hap : m'.Pairwise fun s t => ∀ q, GT s q → ¬ GT t q) (hG : ∀ t ∈ m', ∀ q, GT t q → GM R lv m q ∨ X q) :
    MS (w2.setCell ⟨R, 0, none⟩ lv') R lv' m' sy ∧ Fr (fun q => GM R lv m q ∨ X q) (GM R lv' m') w (w2.setCell ⟨R, 0, none⟩ lv') ∧ ∀ q, q < w.heap.size → q ≠ R → (w2.setCell ⟨R, 0, none⟩ lv').heap[q]? = w.heap[q]? := by
  have hb2 := (hB.block R (Array.getElem?_eq_some_iff.1 h.box).1).trans h.box
  have hRl := (Array.getElem?_eq_some_iff.1 h.box).1
  refine ⟨⟨row_set _ hb2, own_low (own_at ho fun q hq => ?_) (Nat.zero_le _), fun t ht => (hml t ht).at' fun q hq => ?_, hap⟩, ⟨hB.os, hB.tape, hB.output, by simp; exact hB.size, fun q hq hn => ?_, ?_⟩, fun q hq hn => (Below.heap_setCell _ _ _ _ hn).trans (hB.block q hq)⟩
  · rw [Below.heap_setCell _ _ _ _ (by have := (ho.lt q hq).1; show q ≠ R; omega)]
  · obtain ⟨c, e, h1, h2⟩ := (hml t ht).tag q hq
    rw [Below.heap_setCell _ _ _ _ (show q ≠ R from ne_tag h1 hb2 (by rcases h2 with rfl | rfl <;> decide))]
  · rw [Below.heap_setCell _ _ _ _ (show q ≠ R from fun e => hn (.inl (.inl e)))]
    exact hB.block q hq
  · rintro q (hq | hq | ⟨t, ht, hq⟩)
    · exact .inl (.inl (.inl hq))
    · exact .inr (ho.lt q hq).1
    · exact .inl (hG t ht q hq)
/-- A part of the files, read. -/
theorem row_part {W : World} {g n cap : Nat} {m : List Mt} (h : W.ownsRow 0 121 4 (.slice (some ⟨g, 0, none⟩) n cap) m.length (fl mt4 m)) (i : Nat) {m2 : List Mt} (hm2 : ∀ (j : Nat) (x : Mt), m2[j]? = some x → m[i + j]? = some x) : ∀ (j : Nat) (u : Value), (fl mt4 m2)[j]? = some u → W.cell? ((⟨g, i * 4, none⟩ : Addr).add j) = some u := by
  obtain ⟨a0, c0, e0⟩ := own_slice h
  cases e0
  intro j u hj
  have hjl := (List.getElem?_eq_some_iff.1 hj).1
  rw [fl_len mt4_len] at hjl
  obtain ⟨x, hx⟩ : ∃ x, m2[j / 4]? = some x := ⟨_, List.getElem?_eq_getElem (by omega)⟩
  have e1 : (fl mt4 m2)[j / 4 * 4 + j % 4]? = (mt4 x)[j % 4]? := fl_at mt4_len m2 (j / 4) x (j % 4) hx (by omega)
  rw [show j / 4 * 4 + j % 4 = j by omega, hj] at e1
  have hlx := hm2 _ _ hx
  have hlt := (List.getElem?_eq_some_iff.1 hlx).1
  have e2 := fl_at mt4_len m (i + j / 4) x (j % 4) hlx (by omega)
  have e3 := h.cellAt ((i + j / 4) * 4 + j % 4) (by omega)
  rw [e2, ← e1] at e3
  rw [Addr.add_mid, show i * 4 + j = (i + j / 4) * 4 + j % 4 by omega]
  exact e3
theorem take_at {α : Type} {l : List α} {k : Nat} : ∀ (j : Nat) (x : α), (l.take k)[j]? = some x → l[0 + j]? = some x := fun j x hx => by
  rw [List.getElem?_take] at hx
  split at hx
  · rw [Nat.zero_add]; exact hx
  · cases hx
theorem dropped {k : Nat} (h : MS w R lv m sy) (hB : Below w.heap.size w w2) (hd : lv'  = lv') : (∀ t ∈ m.take k ++ m.drop (k + 1), ML w2 t) ∧ (m.take k ++ m.drop (k + 1)).Pairwise (fun s t => ∀ q, GT s q → ¬ GT t q) ∧ ∀ t ∈ m.take k ++ m.drop (k + 1), ∀ q, GT t q → GM R lv m q ∨ False := by
  have hs : (m.take k ++ m.drop (k + 1)).Sublist m := by
    have h1 : (m.take k ++ m.drop (k + 1)).Sublist (m.take k ++ m.drop k) := (List.Sublist.refl _).append (by rw [show m.drop (k + 1) = (m.drop k).drop 1 by rw [List.drop_drop]]; exact List.drop_sublist _ _)
    rwa [List.take_append_drop] at h1
  exact ⟨fun t ht => (h.newer hB).ml t (hs.subset ht), h.ap.sublist hs, fun t ht q hq => .inl (.inr (.inr ⟨t, hs.subset ht, hq⟩))⟩
set_option maxRecDepth 20000 in
set_option maxHeartbeats 4000000 in
theorem MS.drop (h : MS w R lv m sy) (hl : (m.length : Int) ≤ 1000000) {k : Nat} (hk : k < m.length) : Calls Try.prog 78 #[.pointer (some ⟨R, 0, none⟩), .int .i64 (k : Int)] w fun e w' => e = .returned (.tuple #[]) ∧ ∃ lv', MS w' R lv' (m.take k ++ m.drop (k + 1)) sy ∧ Fr (GM R lv m) (GM R lv' (m.take k ++ m.drop (k + 1))) w w' ∧ ∀ q, q < w.heap.size → q ≠ R → w'.heap[q]? = w.heap[q]? := by
  obtain ⟨g, cap, rfl⟩ := own_form h.row (by omega)
  have HH : Hid (MS w R (.slice (some ⟨g, 0, none⟩) m.length cap) m sy) := h
  have hcp := own_cap h.row
  have c1 := h.cells.1
  obtain ⟨i, hi, hz, hsz, hby⟩ := i43_ex
  obtain ⟨n, hn⟩ : ∃ n, m.length = n := ⟨_, rfl⟩
  have HN : Hid (m.length = n ∧ k < n ∧ n ≤ cap) := by show _ ∧ _; omega
  have HP1 : Hid (∀ (j : Nat) (u : Value), (fl mt4 (m.take k))[j]? = some u → w.cell? ((⟨g, 0, none⟩ : Addr).add j) = some u) := by
    have := row_part HH.out.row 0 (m2 := m.take k) take_at
    rwa [Nat.zero_mul] at this
  rw [hn] at hl hk hcp c1 HH
  have hk' : (k : Int) ≤ (cap : Int) := by omega
  have hk2 : (k : Int) + 1 ≤ (n : Int) := by omega
  have hk3 : (n : Int) ≤ (cap : Int) := by omega
  have HL1 : Hid ((fl mt4 (m.take k)).length = k * 4 ∧ ∀ u ∈ fl mt4 (m.take k), u.oneCell' = true) := ⟨by rw [fl_len mt4_len, List.length_take, Nat.min_eq_left (by omega)], fl_one mt4_one _⟩
  clear h hn hk hcp
  go_enter Try.func78, Try.ntmps78
  go_upto_region 2 with (at_builtin; (refine wpList_append_own _ rfl (.tmp 5) (.tmp 11) 41 rfl w.heap.size 121 i zF 4 72 under27 hi hz hsz hby rfl (by decide) (.slice none 0 0) 0 [] rfl (World.ownsRow_nil _ _ _ _) ⟨g, 0, none⟩ k cap (fl mt4 (m.take k)) rfl HL1.out.1 HP1.out HL1.out.2 (by unfold maxLen; omega) (by omega) (Nat.le_refl _) ?_; intro v1 w1 ho1 hg1 _; (have H1 : Hid (w1.ownsRow w.heap.size 121 4 v1 (0 + k) ([] ++ fl mt4 (m.take k)) ∧ Below w.heap.size w w1) := ⟨ho1, hg1.os, hg1.tape, hg1.output, hg1.size, fun q hq => hg1.block q hq (by simp [Value.ownBlock])⟩); clear ho1 hg1))
  rw [Nat.zero_add, List.nil_append] at H1
  obtain ⟨s1, cap1, hv1⟩ := own_slice H1.out.1
  subst hv1
  have HH1 : Hid (MS w1 R (.slice (some ⟨g, 0, none⟩) n cap) m sy) := HH.out.newer H1.out.2
  clear c1
  have c1 := HH1.out.cells.1
  have HL2 : Hid ((fl mt4 (m.drop (k + 1))).length = (n - (k + 1)) * 4 ∧ ∀ u ∈ fl mt4 (m.drop (k + 1)), u.oneCell' = true) := ⟨by rw [fl_len mt4_len, List.length_drop, HN.out.1], fl_one mt4_one _⟩
  have HB2 : Hid (w.heap.size ≤ w1.heap.size) := H1.out.2.size
  have HKB : Hid (∀ (v2 : Value) (w2 : World), w2.ownsRow w.heap.size 121 4 v2 (k + (n - (k + 1))) (fl mt4 (m.take k) ++ fl mt4 (m.drop (k + 1))) → w1.grownBy w2 (Value.slice s1 k cap1).ownBlock → (w2.cell? ⟨R, 0, none⟩ = some (.slice (some ⟨g, 0, none⟩) n cap) ∧ w2.frozen? ⟨R, 0, none⟩ = false) ∧ MS (w2.setCell ⟨R, 0, none⟩ v2) R v2 (m.take k ++ m.drop (k + 1)) sy ∧ Fr (GM R (.slice (some ⟨g, 0, none⟩) n cap) m) (GM R v2 (m.take k ++ m.drop (k + 1))) w (w2.setCell ⟨R, 0, none⟩ v2) ∧ ∀ q, q < w.heap.size → q ≠ R → (w2.setCell ⟨R, 0, none⟩ v2).heap[q]? = w.heap[q]?) := fun v2 w2 ho hg => by
    have hb2 : Below w.heap.size w w2 := H1.out.2.trans (grown_below hg H1.out.1 HB2.out)
    have hM := HH.out.newer hb2
    have hlen : (m.take k ++ m.drop (k + 1)).length = k + (n - (k + 1)) := by rw [List.length_append, List.length_take, List.length_drop, HN.out.1, Nat.min_eq_left (by have := HN.out; omega)]
    refine ⟨⟨hM.cells.1, hM.cells.2.2 0⟩, ?_⟩
    obtain ⟨p1, p2, p3⟩ := dropped (k := k) (lv' := v2) HH.out hb2 rfl
    obtain ⟨r1, r2, r3⟩ := HH.out.turnL (X := fun _ => False) hb2 (by rw [hlen, fl_app]; exact ho) p1 p2 p3
    exact ⟨r1, r2.from fun q => ⟨.inl, fun e => e.resolve_right id⟩, r3⟩
  by_cases hce : cap = k + 1
  · have hn1 : n = k + 1 := by have := HN.out; omega
    have hd : fl mt4 (m.drop (k + 1)) = [] := by rw [List.drop_of_length_le (by have := HN.out; omega)]; rfl
    rw [hd] at HL2
    rw [hd] at HKB
    subst hn1
    rw [Nat.sub_self] at HL2 HKB
    clear hd
    go_wp2_with (at_builtin; (refine wpList_append_own _ rfl (.tmp 13) (.tmp 20) 41 rfl w.heap.size 121 i zF 4 72 under27 hi hz hsz hby rfl (by decide) (.slice s1 k cap1) k (fl mt4 (m.take k)) rfl H1.out.1 _ 0 _ [] rfl rfl (fun j u hu => by simp at hu) (fun u hu => by simp at hu) (by unfold maxLen; omega) (by omega) HB2.out ?_; intro v2 w2 ho2 hg2 _; obtain ⟨⟨q1, q2⟩, q3⟩ := HKB.out v2 w2 ho2 hg2; (have H2 : Hid (MS (w2.setCell ⟨R, 0, none⟩ v2) R v2 (m.take k ++ m.drop (k + 1)) sy ∧ Fr (GM R (.slice (some ⟨g, 0, none⟩) (k + 1) cap) m) (GM R v2 (m.take k ++ m.drop (k + 1))) w (w2.setCell ⟨R, 0, none⟩ v2) ∧ ∀ q, q < w.heap.size → q ≠ R → (w2.setCell ⟨R, 0, none⟩ v2).heap[q]? = w.heap[q]?) := q3); obtain ⟨s2, cap2, hv2⟩ := own_slice ho2; subst hv2; clear q3 ho2 hg2))
    go_end0
    exact ⟨rfl, _, H2.out⟩
  · have HP2 : Hid (∀ (j : Nat) (u : Value), (fl mt4 (m.drop (k + 1)))[j]? = some u → w1.cell? ((⟨g, (k + 1) * 4, none⟩ : Addr).add j) = some u) := row_part HH1.out.row (k + 1) fun j x hx => by rw [List.getElem?_drop] at hx; exact hx
    go_wp2_with (at_builtin; (refine wpList_append_own _ rfl (.tmp 13) (.tmp 20) 41 rfl w.heap.size 121 i zF 4 72 under27 hi hz hsz hby rfl (by decide) (.slice s1 k cap1) k (fl mt4 (m.take k)) rfl H1.out.1 ⟨g, (k + 1) * 4, none⟩ (n - (k + 1)) (cap - (k + 1)) (fl mt4 (m.drop (k + 1))) rfl HL2.out.1 HP2.out HL2.out.2 (by unfold maxLen; omega) (by omega) HB2.out ?_; intro v2 w2 ho2 hg2 _; obtain ⟨⟨q1, q2⟩, q3⟩ := HKB.out v2 w2 ho2 hg2; (have H2 : Hid (MS (w2.setCell ⟨R, 0, none⟩ v2) R v2 (m.take k ++ m.drop (k + 1)) sy ∧ Fr (GM R (.slice (some ⟨g, 0, none⟩) n cap) m) (GM R v2 (m.take k ++ m.drop (k + 1))) w (w2.setCell ⟨R, 0, none⟩ v2) ∧ ∀ q, q < w.heap.size → q ≠ R → (w2.setCell ⟨R, 0, none⟩ v2).heap[q]? = w.heap[q]?) := q3); obtain ⟨s2, cap2, hv2⟩ := own_slice ho2; subst hv2; clear q3 ho2 hg2))
    go_end0
    exact ⟨rfl, _, H2.out⟩
end Go.Proofs.Ytflhgphjkhplmaa.D

/- The model's put. -/
namespace Go.Proofs.Ytflhgphjkhplmaa.D
open Go.RowKit
set_option linter.unusedVariables false
set_option linter.unusedSimpArgs false

variable {w w' w2 : World} {R : Nat} {lv lv' : Value} {m m' : List Mt} {sy : Int}
def ltB (a b : List UInt8) : Bool := Op.bytesLess a b
def insM (x : Mt) : List Mt → List Mt
  | [] => [x]
  | p :: r => if ltB p.x.nm x.x.nm then p :: insM x r else x :: p :: r
theorem insM_at (x : Mt) : ∀ (m : List Mt) (i : Nat), i ≤ m.length → (∀ (j : Nat) (p : Mt), j < i → m[j]? = some p → ltB p.x.nm x.x.nm = true) → (∀ p, m[i]? = some p → ltB p.x.nm x.x.nm = false) → insM x m = m.take i ++ x :: m.drop i
  | [], i, hi, _, _ => by simp at hi; subst hi; rfl
  | p :: r, 0, _, _, h2 => by
    rw [insM, h2 p rfl]
    rfl
  | p :: r, i + 1, hi, h1, h2 => by
    rw [insM, h1 0 p (by omega) rfl, if_pos rfl, insM_at x r i (by simpa using hi) (fun j q hj hq => h1 (j + 1) q (by omega) (by simpa using hq)) (fun q hq => h2 q (by simpa using hq))]
    rfl
theorem cell_new4 {W : World} {t : TypeId} {l : List Value} : ∀ (j : Nat) (u : Value), l[j]? = some u → (W.alloc (.cells l.toArray t)).cell? ((⟨W.heap.size, 0, none⟩ : Addr).add j) = some u := fun j u hu => by
  rw [Addr.add_mid, Nat.zero_add, cell_of_row _ _ _ _ _ _ (Go.heap_alloc_new W (.cells l.toArray t))]
  simpa using hu
/-- A file is put in. -/
theorem MS.ins (h : MS w R lv m sy) {x : Mt} {i : Nat} (hx : ML w x) (hd : ∀ q, GT x q → ¬ GM R lv m q) (hB : Below w.heap.size w w2) (ho : w2.ownsRow w.heap.size 121 4 lv' (m.length + 1) (fl mt4 (m.take i ++ x :: m.drop i))) :
    MS (w2.setCell ⟨R, 0, none⟩ lv') R lv' (m.take i ++ x :: m.drop i) sy ∧ Fr (fun q => GM R lv m q ∨ GT x q) (GM R lv' (m.take i ++ x :: m.drop i)) w (w2.setCell ⟨R, 0, none⟩ lv') := by
  have hmem : ∀ t, t ∈ m.take i ++ x :: m.drop i → t = x ∨ t ∈ m := fun t ht => by
    rcases List.mem_append.1 ht with ht | ht
    · exact .inr (List.mem_of_mem_take ht)
    · rcases List.mem_cons.1 ht with ht | ht
      · exact .inl ht
      · exact .inr (List.mem_of_mem_drop ht)
  have hlen : (m.take i ++ x :: m.drop i).length = m.length + 1 := by
    rw [List.length_append, List.length_cons, List.length_take, List.length_drop]
    omega
  have hxm : ∀ t ∈ m, ∀ q, GT x q → ¬ GT t q := fun t ht q hq e => hd q hq (.inr (.inr ⟨t, ht, e⟩))
  refine (fun hh => ⟨And.left hh, And.left (And.right hh)⟩) (h.turnL (X := GT x) hB (by rw [hlen]; exact ho) (fun t ht => ?_) ?_ (fun t ht q hq => ?_))
  · rcases hmem t ht with rfl | ht
    · exact hx.at' fun q hq => hB.block q (hx.lt q hq)
    · exact (h.newer hB).ml t ht
  · have hap := h.ap
    rw [← List.take_append_drop i m, List.pairwise_append] at hap
    obtain ⟨p1, p2, p3⟩ := hap
    rw [List.pairwise_append]
    refine ⟨p1, List.pairwise_cons.2 ⟨fun t ht q hq => hxm t (List.mem_of_mem_drop ht) q hq, p2⟩, fun s hs t ht q hq => ?_⟩
    rcases List.mem_cons.1 ht with rfl | ht
    · exact fun e => hxm s (List.mem_of_mem_take hs) q e hq
    · exact p3 s hs t ht q hq
  · rcases hmem t ht with rfl | ht
    · exact .inr hq
    · exact .inl (.inr (.inr ⟨t, ht, hq⟩))
end Go.Proofs.Ytflhgphjkhplmaa.D
