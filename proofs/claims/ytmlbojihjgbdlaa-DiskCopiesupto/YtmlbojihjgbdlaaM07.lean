import Derived.Test.YtmlbojihjgbdlaaM06
import Derived.StillTailTactics
/- Bytes that come in are appended: from any source that lies outside the disk. -/
namespace Go.Proofs.Ytmlbojihjgbdlaa.D
open Go.RowKit
set_option linter.unusedVariables false
set_option linter.unusedSimpArgs false

/-- Bytes that lie outside some blocks. -/
def SrcG (w : World) (G : Nat → Prop) (sv : Value) (bs : List Int) : Prop := ∀ W : World, (∀ q, q < w.heap.size → ¬ G q → W.heap[q]? = w.heap[q]?) → Src W sv bs
set_option maxRecDepth 20000 in
set_option maxHeartbeats 4000000 in
theorem write_growG (F : Nat) (dv bv : Value) (n m base : Nat) (xs ys : List Value) (sv : Value) (bs : List Int) (w : World) (hF : w.heap[F]? = some (.cells #[dv, bv] 80 (0, 0))) (hd : w.ownsRow base 5 1 dv n xs) (hb : w.ownsRow base 3 1 bv m ys) (hbase : base ≤ w.heap.size) (hs : SrcG w (fun q => q = F ∨ dv.ownBlock = some q ∨ bv.ownBlock = some q) sv bs) (hn : 0 < bs.length) (hl : n + bs.length ≤ 10000000) (hm : m ≤ 10000000) :
    Calls Try.prog 50 #[.pointer (some ⟨F, 0, none⟩), sv] w fun e w' => (∃ v, e = .returned v) ∧ ∃ dv' bv', w'.heap[F]? = some (.cells #[dv', bv'] 80 (0, 0)) ∧ w'.ownsRow base 5 1 dv' (n + bs.length) (xs ++ u8l bs) ∧ w'.ownsRow base 3 1 bv' (m + 1) (ys ++ [.int .i64 (n : Int)]) ∧ Kep w w' (fun q => q = F ∨ dv.ownBlock = some q ∨ bv.ownBlock = some q) ∧ (∀ q, dv'.ownBlock = some q → dv.ownBlock = some q ∨ w.heap.size ≤ q) ∧ (∀ q, bv'.ownBlock = some q → bv.ownBlock = some q ∨ w.heap.size ≤ q) := by
  obtain ⟨i0, hi, hz0, hz1, hz2⟩ := info_parts info3
  obtain ⟨da, dc, rfl⟩ := own_slice hd
  obtain ⟨ba, bc, rfl⟩ := own_slice hb
  obtain ⟨sa, sc, hsv⟩ := (hs w fun _ _ _ => rfl).slice
  have c0 : w.cell? ⟨F, 0, none⟩ = some (.slice da n dc) := by rw [cell_of_row _ _ _ _ _ _ hF]; rfl
  have c1 : w.cell? ⟨F, 1, none⟩ = some (.slice ba m bc) := by rw [cell_of_row _ _ _ _ _ _ hF]; rfl
  have HF : Hid (w.heap[F]? = some (.cells #[.slice da n dc, .slice ba m bc] 80 (0, 0))) := hF
  have HD : Hid (w.ownsRow base 5 1 (.slice da n dc) n xs) := hd
  have HBO : Hid (w.ownsRow base 3 1 (.slice ba m bc) m ys) := hb
  have HS : Hid (SrcG w (fun q => q = F ∨ (Value.slice da n dc).ownBlock = some q ∨ (Value.slice ba m bc).ownBlock = some q) sv bs) := hs
  have HBS : Hid (base ≤ w.heap.size ∧ n + bs.length ≤ 10000000 ∧ m ≤ 10000000) := ⟨hbase, hl, hm⟩
  obtain ⟨N, hN⟩ : ∃ N, bs.length = N := ⟨_, rfl⟩
  have HN : Hid (bs.length = N) := hN
  rw [hN] at hn hsv
  have hn0 : ((N : Int) == 0) = false := by rw [beq_eq_false_iff_ne]; omega
  have hFlt : F < w.heap.size := (Array.getElem?_eq_some_iff.1 hF).1
  have c0a : ∀ o, (w.alloc o).cell? ⟨F, 0, none⟩ = some (.slice da n dc) := fun o => by rw [cell_of_row _ _ _ _ _ _ ((Below.heap_alloc _ _ _ hFlt).trans hF)]; rfl
  have c1a : ∀ o, (w.alloc o).cell? ⟨F, 1, none⟩ = some (.slice ba m bc) := fun o => by rw [cell_of_row _ _ _ _ _ _ ((Below.heap_alloc _ _ _ hFlt).trans hF)]; rfl
  subst hsv
  clear hF hd hb hs hbase hl hm hN
  go_enter Try.func50, Try.ntmps50
  go_wp2_with fail
  go_region_law (refine step_append_lies _ rfl (.tmp 11) (.tmp 17) 41 rfl base 3 i0 (.int .i64 0) 1 8 Try.underlying41 hi hz0 hz1 hz2 rfl (by decide) (.slice ba m bc) m ys (by simp [Act.eval, Act.put]) (HBO.out.alloc _) ⟨w.heap.size, 0, none⟩ 1 1 [.int .i64 (n : Int)] (by simp [Act.eval, Act.put]) rfl (World.news_of_block (Go.heap_alloc_new _ _)) (by intro u hu; simp at hu; rw [hu]; rfl) (by decide) (by have := HBS.out; unfold maxLen; omega) (by have := HBS.out; omega) (by have := HBS.out; simp; omega) (w.heap.size + 1) (by simp) ?_; intro g' cp' w' ho' hg' hx' hy'; (have HNB : Hid ((Value.slice ba m bc).ownBlock = some g' ∨ g' = w.heap.size + 1) := hx'); (have HX1 : Hid (w'.heap[F]? = some (.cells #[.slice da n dc, .slice ba m bc] 80 (0, 0))) := (hg'.block F (by simp; omega) (own_other HBO.out HF.out (by decide))).trans ((Below.heap_alloc _ _ _ hFlt).trans HF.out)); (have d1 : w'.cell? ⟨F, 1, none⟩ = some (.slice ba m bc) := (by rw [cell_of_row _ _ _ _ _ _ HX1.out]; rfl)); (have f1 := frozen_of_row _ _ 1 _ _ HX1.out); (have HO1 : Hid (w'.ownsRow base 3 1 (.slice (some ⟨g', 0, none⟩) (m + 1) cp') (m + 1) (ys ++ [.int .i64 (n : Int)])) := ho'); (have HK1 : Hid (w.heap.size + 1 ≤ w'.heap.size ∧ ∀ q, q < w.heap.size → (Value.slice ba m bc).ownBlock ≠ some q → w'.heap[q]? = w.heap[q]?) := ⟨(by have h := hg'.size; simp at h; omega), fun q h1 h2 => (hg'.block q (by simp; omega) (fun e => h2 e.symm)).trans (Below.heap_alloc _ _ _ h1)⟩); (have HG1 : Hid (w'.os = w.os ∧ w'.tape = w.tape ∧ w'.output = w.output) := ⟨hg'.os, hg'.tape, hg'.output⟩); clear ho' hg' hx' hy')
  all_goals
    obtain ⟨W2, hW2⟩ : ∃ W2, w'.setCell ⟨F, 1, none⟩ (.slice (some ⟨g', 0, none⟩) (m + 1) cp') = W2 := ⟨_, rfl⟩
    have HX2 : Hid (W2.heap[F]? = some (.cells #[.slice da n dc, .slice (some ⟨g', 0, none⟩) (m + 1) cp'] 80 (0, 0))) := by
      show _ = _
      rw [← hW2]
      exact row_set _ HX1.out
    have HK2 : Hid (∀ q, q ≠ F → W2.heap[q]? = w'.heap[q]?) := fun q hq => by rw [← hW2]; exact Below.heap_setCell _ _ _ _ hq
    have HZ2 : Hid (W2.heap.size = w'.heap.size) := by show _ = _; rw [← hW2]; simp
    have HY2 : Hid (W2.os = w'.os ∧ W2.tape = w'.tape ∧ W2.output = w'.output) := by rw [← hW2]; exact ⟨rfl, rfl, rfl⟩
    have HD2 : Hid (W2.ownsRow base 5 1 (.slice da n dc) n xs) := own_at HD.out fun q hq => by
      obtain ⟨cur, hc⟩ := own_tag HD.out hq
      rw [HK2.out q (ne_tag hc HF.out (by decide))]
      refine HK1.out.2 q (Array.getElem?_eq_some_iff.1 hc).1 fun e => ?_
      obtain ⟨cur', hc'⟩ := own_tag HBO.out e
      exact ne_tag hc hc' (by decide) rfl
    have HO2 : Hid (W2.ownsRow base 3 1 (.slice (some ⟨g', 0, none⟩) (m + 1) cp') (m + 1) (ys ++ [.int .i64 (n : Int)])) := own_at HO1.out fun q hq => by
      obtain ⟨cur, hc⟩ := own_tag HO1.out hq
      exact HK2.out q (ne_tag hc HX1.out (by decide))
    have HS2 : Hid (Src W2 (.slice sa N sc) bs) := HS.out W2 fun q hq hn => by
      rw [HK2.out q (fun e => hn (.inl e))]
      exact HK1.out.2 q hq (fun e => hn (.inr (.inr e)))
    rw [hW2]
    have e0 : W2.cell? ⟨F, 0, none⟩ = some (.slice da n dc) := by rw [cell_of_row _ _ _ _ _ _ HX2.out]; rfl
    clear hW2 d1 f1 c0 c1 c0a c1a
    go_wp2_with (at_builtin; (refine append_src_near rfl (.tmp 25) (.tmp 26) rfl base (.slice da n dc) n xs rfl HD2.out (.slice sa N sc) bs rfl HS2.out (by have h2 := HN.out; omega) (by have := HBS.out; omega) (by have h1 := HBS.out; have h2 := HK1.out.1; have h3 := HZ2.out; omega) ?_; intro v3 w3 ho3 hg3 hn3; (have HND : Hid (∀ q, v3.ownBlock = some q → (Value.slice da n dc).ownBlock = some q ∨ W2.heap.size ≤ q) := hn3); clear hn3; (obtain ⟨xa, xc, hv3⟩ := own_slice ho3); subst hv3; (have HX3 : Hid (w3.heap[F]? = some (.cells #[.slice da n dc, .slice (some ⟨g', 0, none⟩) (m + 1) cp'] 80 (0, 0))) := (hg3.block F (by have h2 := HK1.out.1; have h3 := HZ2.out; omega) (own_other HD2.out HX2.out (by decide))).trans HX2.out); (have d3 : w3.cell? ⟨F, 0, none⟩ = some (.slice da n dc) := (by rw [cell_of_row _ _ _ _ _ _ HX3.out]; rfl)); (have f3 := frozen_of_row _ _ 0 _ _ HX3.out); (have HO3 : Hid (w3.ownsRow base 5 1 (.slice xa (n + bs.length) xc) (n + bs.length) (xs ++ u8l bs)) := ho3); (have HG3 : Hid (W2.grownBy w3 (Value.slice da n dc).ownBlock) := hg3); clear ho3 hg3))
    go_end0
    refine ⟨⟨_, rfl⟩, .slice xa (n + bs.length) xc, .slice (some ⟨g', 0, none⟩) (m + 1) cp', row_set _ HX3.out, ?_, ?_, ⟨?_, ?_, ?_, ?_, ?_⟩, ?_, ?_⟩
    · refine own_at HO3.out fun q hq => Below.heap_setCell _ _ _ _ ?_
      obtain ⟨cur, hc⟩ := own_tag HO3.out hq
      exact ne_tag hc HX3.out (by decide)
    · refine own_at (w := W2) HO2.out fun q hq => ?_
      obtain ⟨cur, hc⟩ := own_tag HO2.out hq
      rw [Below.heap_setCell _ _ _ _ (ne_tag hc HX2.out (by decide))]
      exact HG3.out.block q (Array.getElem?_eq_some_iff.1 hc).1 (own_other HD2.out hc (by decide))
    · exact HG3.out.os.trans (HY2.out.1.trans HG1.out.1)
    · exact HG3.out.tape.trans (HY2.out.2.1.trans HG1.out.2.1)
    · exact HG3.out.output.trans (HY2.out.2.2.trans HG1.out.2.2)
    · have h1 := HK1.out.1
      have h2 := HZ2.out
      have h3 := HG3.out.size
      simp
      omega
    · intro q h1 hx
      have h2 : q ≠ F := fun e => hx (.inl e)
      have h3 : (Value.slice da n dc).ownBlock ≠ some q := fun e => hx (.inr (.inl e))
      have h4 : (Value.slice ba m bc).ownBlock ≠ some q := fun e => hx (.inr (.inr e))
      have g1 := HK1.out.1
      have g2 := HZ2.out
      rw [Below.heap_setCell _ _ _ _ h2, HG3.out.block q (by omega) (fun e => h3 e.symm), HK2.out q h2]
      exact HK1.out.2 q h1 h4
    · intro q hq
      rcases HND.out q hq with e | e
      · exact .inl e
      · exact .inr (by have h1 := HK1.out.1; have h2 := HZ2.out; omega)
    · intro q hq
      have e : g' = q := by simpa [Value.ownBlock] using hq
      rcases HNB.out with h | h
      · exact .inl (e ▸ h)
      · exact .inr (by omega)
variable {w w' : World} {D K : Nat} {F : Nat → Prop} {sy : Int} {dl : List Fd} {s s' : List UInt8} {x : Fd} {tl : List Tn}
theorem SrcG.own {G : Nat → Prop} {base : Nat} {v : Value} {zs : List Int} (h : w.ownsRow base 5 1 v zs.length (u8l zs)) (hG : ∀ q, v.ownBlock = some q → ¬ G q) : SrcG w G v zs := fun W hW => own_src (own_at h fun q hq => hW q (h.lt q hq).2 (hG q hq))
theorem SrcG.fr {G G' : Nat → Prop} {sv : Value} {bs : List Int} (h : SrcG w G sv bs) (hf : Fr G G' w w') : SrcG w' G' sv bs := fun W hW => h W fun q hq hn => by
  have := hf.size
  rw [hW q (by omega) fun e => (hf.grow q e).elim hn fun c => by omega]
  exact hf.block q hq hn
theorem SrcG.now {G : Nat → Prop} {sv : Value} {bs : List Int} (h : SrcG w G sv bs) : Src w sv bs := h w fun _ _ _ => rfl
/-- A file that is written, as it lies. -/
theorem write_flG {f : Nat} {G : Nat → Prop} {b ws bs : List Int} {sv : Value} (h : FL w f G b ws) (hs : SrcG w G sv bs) (hl : b.length + bs.length ≤ 10000000) (hm : ws.length ≤ 10000000) :
    Calls Try.prog 50 #[.pointer (some ⟨f, 0, none⟩), sv] w fun e w' => (∃ v, e = .returned v) ∧ ∃ F2, FL w' f F2 (b ++ bs) (if bs = [] then ws else ws ++ [(b.length : Int)]) ∧ Fr G F2 w w' := by
  by_cases c : bs = []
  · subst c
    obtain ⟨sa, sc, hsv⟩ := (hs w fun _ _ _ => rfl).slice
    subst hsv
    refine (write_nil (f := f) (sa := sa) (sc := sc) w).mono ?_
    rintro e w' ⟨he, rfl⟩
    exact ⟨he, G, by simpa using h, Fr.refl _ _⟩
  · have hn : 0 < bs.length := List.length_pos_iff.2 c
    obtain ⟨dv, bv, g1, g2, g3, g4⟩ := h
    refine (write_growG f dv bv b.length ws.length 0 (u8l b) (ws.map iV) sv bs w g1 g2 g3 (Nat.zero_le _) (fun W hW => hs W fun q hq hx => hW q hq fun e => hx ((g4 q).2 e)) hn hl hm).mono ?_
    rintro e w' ⟨he, dv', bv', k1, k2, k3, k4, k5, k6⟩
    refine ⟨he, fun q => q = f ∨ dv'.ownBlock = some q ∨ bv'.ownBlock = some q, ⟨dv', bv', k1, ?_, ?_, fun q => Iff.rfl⟩, ⟨k4.os, k4.tape, k4.output, k4.size, fun q hq hx => k4.block q hq fun e => hx ((g4 q).2 e), ?_⟩⟩
    · rw [u8l_app] at k2
      rw [List.length_append]
      exact k2
    · rw [if_neg c]
      have e1 : (ws ++ [(b.length : Int)]).map iV = ws.map iV ++ [.int .i64 (b.length : Int)] := by simp [iV]
      rw [e1, List.length_append]
      exact k3
    · rintro q (e | e | e)
      · exact .inl ((g4 q).2 (.inl e))
      · exact (k5 q e).imp (fun e => (g4 q).2 (.inr (.inl e))) id
      · exact (k6 q e).imp (fun e => (g4 q).2 (.inr (.inr e))) id
set_option maxRecDepth 20000 in
set_option maxHeartbeats 4000000 in
theorem append_thereG (h : DR w D F sy dl) (hs : lkF s dl = some x) (hl : (s.length : Int) ≤ 140737488351232) (hn : nameB s = true) {sv : Value} {bs : List Int} (hsv : SrcG w F sv bs) (hx : x.b.length ≤ 1048576) (hw : x.ws.length ≤ 1048576) (hfit : (bs.length : Int) ≤ 1048576 - x.b.length) :
    Calls Try.prog 23 #[.pointer (some ⟨D, 0, none⟩), .string (tx s), sv] w fun e w' => e = .returned (.int .i64 0) ∧ ∃ F', DR w' D F' sy (setF s (x.b ++ bs) (if bs = [] then x.ws else x.ws ++ [(x.b.length : Int)]) dl) ∧ Fr F F' w w' := by
  obtain ⟨K, f, Ff, h1, h2, hfl, hsub, hT, -⟩ := h.open hs
  have HW := write_flG hfl (fun W hW => hsv W fun q hq hx => hW q hq fun e => hx (hsub q e).1) (by omega) (by omega)
  obtain ⟨dv, bv, g1, g2, g3, g4⟩ := hfl
  have HFI : Hid (Calls Try.prog 48 #[.pointer (some ⟨D, 0, none⟩), .string (tx s)] w fun e w' => e = .returned (.tuple #[.pointer (some ⟨f, 0, none⟩), .int .i64 0]) ∧ w' = w) := find_yes h1 h2
  have HNA : Hid (Calls Try.prog 9 #[.string (tx s)] w fun e w' => e = .returned (.bool true) ∧ w' = w) := by
    have := name_any s w hl
    rw [hn] at this
    exact this
  have HWR : Hid (Calls Try.prog 50 #[.pointer (some ⟨f, 0, none⟩), sv] w fun e w' => (∃ v, e = .returned v) ∧ ∃ F', DR w' D F' sy (setF s (x.b ++ bs) (if bs = [] then x.ws else x.ws ++ [(x.b.length : Int)]) dl) ∧ Fr F F' w w') := by
    refine HW.mono ?_
    rintro e w' ⟨he, F2, k1, k2⟩
    exact ⟨he, hT w' F2 _ _ k1 k2⟩
  obtain ⟨da, dc, hdv⟩ := own_slice g2
  obtain ⟨sa, sc, hsl⟩ := (hsv w fun _ _ _ => rfl).slice
  have cF : w.cell? ⟨f, 0, none⟩ = some dv := by rw [cell_of_row _ _ _ _ _ _ g1]; rfl
  rw [hdv] at cF
  have HG : Hid (setF s (x.b ++ bs) (if bs = [] then x.ws else x.ws ++ [(x.b.length : Int)]) dl = setF s (x.b ++ bs) (if bs = [] then x.ws else x.ws ++ [(x.b.length : Int)]) dl) := rfl
  generalize setF s (x.b ++ bs) (if bs = [] then x.ws else x.ws ++ [(x.b.length : Int)]) dl = dl' at HWR HG ⊢
  obtain ⟨M, hM⟩ : ∃ M, x.b.length = M := ⟨_, rfl⟩
  obtain ⟨N, hN⟩ : ∃ N, bs.length = N := ⟨_, rfl⟩
  rw [hM] at cF hfit hx
  rw [hN] at hsl hfit
  subst hsl
  clear h hs h1 h2 hl hn hsv hsub hT HW g1 g2 g3 g4 hdv hM hN hw HG
  go_enter Try.func23, Try.ntmps23
  go_wp2_with (first | (go_at_call 48; refine HFI.out.mono ?_; rintro e w1 ⟨rfl, hw1⟩; rw [hw1]; clear hw1) | (go_at_call 9; refine HNA.out.mono ?_; rintro e w1 ⟨rfl, hw1⟩; rw [hw1]; clear hw1) | (go_at_call 50; refine HWR.out.mono ?_; rintro e w2 ⟨⟨v2, rfl⟩, F2, k1, k2⟩; (have HR : Hid (DR w2 D F2 sy dl' ∧ Fr F F2 w w2) := ⟨k1, k2⟩); clear k1 k2))
  go_ret
  exact ⟨rfl, F2, HR.out.1, HR.out.2⟩
set_option maxRecDepth 20000 in
set_option maxHeartbeats 4000000 in
theorem append_newG (h : DR w D F sy dl) (hs : lkF s dl = none) (hl : (s.length : Int) ≤ 140737488351232) (hn : nameB s = true) {sv : Value} {bs : List Int} (hsv : SrcG w F sv bs) (hd : dl.length ≤ 64) (hb : bs.length ≤ 1048576 + 1048576) :
    Calls Try.prog 23 #[.pointer (some ⟨D, 0, none⟩), .string (tx s), sv] w fun e w' => e = .returned (.int .i64 (if 1048576 < bs.length then 4 else if dl.length = 64 then 7 else 0)) ∧ ∃ F', DR w' D F' sy (if 1048576 < bs.length then dl else if dl.length = 64 then dl else dl ++ [⟨s, bs, if bs = [] then [] else [0]⟩]) ∧ Fr F F' w w' := by
  have HFI : Hid (Calls Try.prog 48 #[.pointer (some ⟨D, 0, none⟩), .string (tx s)] w fun e w' => e = .returned (.tuple #[.pointer none, .int .i64 5]) ∧ w' = w) := h.findNo hs
  have HNA : Hid (Calls Try.prog 9 #[.string (tx s)] w fun e w' => e = .returned (.bool true) ∧ w' = w) := by
    have := name_any s w hl
    rw [hn] at this
    exact this
  obtain ⟨W, hW⟩ : ∃ W, w.alloc (.cells #[.slice none 0 0, .slice none 0 0] 80) = W := ⟨_, rfl⟩
  have hB : Below w.heap.size w W := by rw [← hW]; exact bel1 w _
  have hWF : W.heap[w.heap.size]? = some (.cells #[.slice none 0 0, .slice none 0 0] 80 (0, 0)) := by rw [← hW]; exact Go.heap_alloc_new _ _
  have hWD : DR W D F sy dl := h.newer hB
  have hFl : FL W w.heap.size (fun q => q = w.heap.size) [] [] := ⟨_, _, hWF, World.ownsRow_nil _ _ _ _, World.ownsRow_nil _ _ _ _, fun q => by simp [Value.ownBlock]⟩
  obtain ⟨mv, hbox, hlen⟩ := hWD.count
  have cW : W.cell? ⟨D, 0, none⟩ = some (.map mv) := by rw [cell_of_row _ _ _ _ _ _ hbox]; rfl
  have cWF : W.cell? ⟨w.heap.size, 0, none⟩ = some (.slice none 0 0) := by rw [cell_of_row _ _ _ _ _ _ hWF]; rfl
  have hlen3 := hlen 3
  have hnewF : ∀ q, q = w.heap.size → ¬ F q := fun q hq e => by have := h.lt q e; omega
  have hPU := put_any (s := s) hWD hFl hnewF
  have hout : outF s dl = dl := outF_none hs
  rw [hout] at hPU
  obtain ⟨sa, sc, hsl⟩ := (hsv w fun _ _ _ => rfl).slice
  obtain ⟨N, hN⟩ : ∃ N, bs.length = N := ⟨_, rfl⟩
  obtain ⟨M, hM⟩ : ∃ M, dl.length = M := ⟨_, rfl⟩
  have HP : Hid (Calls Try.prog 44 #[.pointer (some ⟨D, 0, none⟩), .string (tx s), .pointer (some ⟨w.heap.size, 0, none⟩)] W fun e w2 => (∃ v, e = .returned v) ∧ (bs.length ≤ 1048576 → Calls Try.prog 50 #[.pointer (some ⟨w.heap.size, 0, none⟩), sv] w2 fun e w3 => (∃ v, e = .returned v) ∧ ∃ F', DR w3 D F' sy (dl ++ [⟨s, bs, if bs = [] then [] else [0]⟩]) ∧ Fr F F' w w3)) := by
    refine hPU.mono ?_
    rintro e w2 ⟨he, k1, F', k2, k3, k4⟩
    refine ⟨he, fun hbs => ?_⟩
    refine (write_flG k1 (fun V hV => hsv V fun q hq hx => ?_) (by simp; omega) (by simp)).mono ?_
    · have z1 := hB.size
      have z2 := k3.size
      rw [hV q (by omega) (by show ¬ q = w.heap.size; omega), k3.block q (by omega) (by rintro (e | e); exact hx e; omega)]
      exact hB.block q hq
    rintro e w3 ⟨he3, F2, l1, l2⟩
    obtain ⟨F3, m1, m2⟩ := k4 w3 F2 _ _ l1 l2
    refine ⟨he3, F3, by simpa using m1, ?_⟩
    have f1 : Fr F (fun q => F q ∨ q = w.heap.size) w W := ⟨hB.os, hB.tape, hB.output, hB.size, fun q hq _ => hB.block q hq, fun q hq => hq.imp id fun e => by omega⟩
    exact (f1.trans' k3).trans' m2
  have HE : Hid (DR W D F sy dl ∧ Fr F F w W) := ⟨hWD, Fr.newer hB⟩
  rw [hN] at HP hsl hb ⊢
  rw [hM] at hlen3 hd ⊢
  subst hsl
  clear h hs hl hn hsv hB hWD hFl hbox hlen hnewF hPU hout hWF
  by_cases c1 : 1048576 < N
  · have c1' : (1048576 : Int) < (N : Int) := by omega
    rw [if_pos c1, if_pos c1]
    have hb' : (N : Int) ≤ 2097152 := by omega
    clear hb c1 HP hN hM
    go_enter Try.func23, Try.ntmps23
    go_wp2_with (first | (go_at_call 48; refine HFI.out.mono ?_; rintro e w1 ⟨rfl, hw1⟩; rw [hw1]; clear hw1) | (go_at_call 9; refine HNA.out.mono ?_; rintro e w1 ⟨rfl, hw1⟩; rw [hw1]; clear hw1))
    go_ret
    exact ⟨rfl, F, HE.out.1, HE.out.2⟩
  · have c1' : ¬ (1048576 : Int) < (N : Int) := by omega
    rw [if_neg c1, if_neg c1]
    by_cases c2 : M = 64
    · rw [if_pos c2, if_pos c2]
      subst c2
      clear hb c1 HP hN hM
      go_enter Try.func23, Try.ntmps23
      go_wp2_with (first | (go_at_call 48; refine HFI.out.mono ?_; rintro e w1 ⟨rfl, hw1⟩; rw [hw1]; clear hw1) | (go_at_call 9; refine HNA.out.mono ?_; rintro e w1 ⟨rfl, hw1⟩; rw [hw1]; clear hw1))
      go_ret
      exact ⟨rfl, F, HE.out.1, HE.out.2⟩
    · rw [if_neg c2, if_neg c2]
      have c2' : ((M : Int) == 64) = false := by rw [beq_eq_false_iff_ne]; omega
      have c2'' : ¬ (M : Int) = 64 := by omega
      have HN1 : Hid (N ≤ 1048576) := by show N ≤ 1048576; omega
      clear hb c1 hN hM c2
      generalize dl ++ [⟨s, bs, if bs = [] then [] else [0]⟩] = dl' at HP ⊢
      go_enter Try.func23, Try.ntmps23
      go_wp2_with (first | (go_at_call 48; refine HFI.out.mono ?_; rintro e w1 ⟨rfl, hw1⟩; rw [hw1]; clear hw1) | (go_at_call 9; refine HNA.out.mono ?_; rintro e w1 ⟨rfl, hw1⟩; rw [hw1]; clear hw1) | (go_at_call 44; refine HP.out.mono ?_; rintro e w2 ⟨⟨v2, rfl⟩, hk⟩; (have HK := hk HN1.out); (have HK2 : Hid (Calls Try.prog 50 #[.pointer (some ⟨w.heap.size, 0, none⟩), .slice sa N sc] w2 fun e w3 => (∃ v, e = .returned v) ∧ ∃ F', DR w3 D F' sy dl' ∧ Fr F F' w w3) := HK); clear hk HK) | (go_at_call 50; refine HK2.out.mono ?_; rintro e w3 ⟨⟨v3, rfl⟩, F3, m1, m2⟩; (have HR : Hid (DR w3 D F3 sy dl' ∧ Fr F F3 w w3) := ⟨m1, m2⟩); clear m1 m2))
      go_ret
      exact ⟨rfl, F3, HR.out.1, HR.out.2⟩
end Go.Proofs.Ytmlbojihjgbdlaa.D

/- Rows that are the same: a call that only reads. -/
namespace Go.Proofs.Ytmlbojihjgbdlaa.D
open Go.RowKit
set_option linter.unusedVariables false
set_option linter.unusedSimpArgs false

variable {w w' : World}
/-- The same world, but for orders drawn. -/
def DwQ (w w' : World) : Prop := ∃ m, w' = w.drewN m
theorem DwQ.refl (w : World) : DwQ w w := ⟨0, rfl⟩
theorem DwQ.drewN {w w' : World} (h : DwQ w w') (m : Nat) : DwQ w (w'.drewN m) := by
  obtain ⟨k, rfl⟩ := h
  exact ⟨k + m, World.drewN_drewN _ _ _⟩
theorem DwQ.heap {w w' : World} (h : DwQ w w') (q : Nat) : w'.heap[q]? = w.heap[q]? := by
  obtain ⟨k, rfl⟩ := h
  rfl
theorem DwQ.below {w w' : World} (h : DwQ w w') : Below w.heap.size w w' := by
  obtain ⟨k, rfl⟩ := h
  exact ⟨rfl, rfl, rfl, Nat.le_refl _, fun _ _ => rfl⟩
set_option maxRecDepth 20000 in
set_option maxHeartbeats 4000000 in
theorem equal_intsQ (a b : Value) (x y : List Int) (w : World) (ha : w.ownsRow 0 3 1 a x.length (x.map iV)) (hb : w.ownsRow 0 3 1 b y.length (y.map iV)) (hx : x.length ≤ 2000000) (hy : y.length ≤ 2000000) : Calls Try.prog 63 #[a, b] w fun e w' => e = .returned (.bool (decide (x = y))) ∧ DwQ w w' := by
  obtain ⟨aa, ac, rfl⟩ := own_slice ha
  obtain ⟨ba, bc, rfl⟩ := own_slice hb
  by_cases hn : x.length = y.length
  · have HA : Hid (w.ownsRow 0 3 1 (.slice aa x.length ac) x.length (x.map iV) ∧ w.ownsRow 0 3 1 (.slice ba y.length bc) y.length (y.map iV) ∧ x.length = y.length) := ⟨ha, hb, hn⟩
    have c1 := own_capv ha
    have c2 := own_capv hb
    obtain ⟨n, hnn⟩ : ∃ n, y.length = n := ⟨_, rfl⟩
    have HN : Hid (y.length = n) := hnn
    rw [hn] at c1 hx
    rw [hn]
    rw [hnn] at c1 c2 hx hy ⊢
    clear hn hnn ha hb
    go_enter Try.func63, Try.ntmps63
    go_wp2
    go_loopw [13] (fun i wx => ∃ (k : Nat), k ≤ n ∧ i = .int .i64 k ∧ Hid ((∀ j, j < k → x[j]? = y[j]?) ∧ DwQ w wx)) (fun i _ => n - (intOf i).toNat)
    case atStart => exact ⟨0, Nat.zero_le _, rfl, fun j hj => by omega, DwQ.refl _⟩
    case round =>
      obtain ⟨k, hk, rfl, HD⟩ := hrel
      by_cases hlt : k < n
      · obtain ⟨u, hu⟩ : ∃ u, x[k]? = some u := ⟨_, List.getElem?_eq_getElem (by have := HA.out.2.2; have := HN.out; omega)⟩
        obtain ⟨v, hv⟩ : ∃ v, y[k]? = some v := ⟨_, List.getElem?_eq_getElem (by have := HN.out; omega)⟩
        have hA : wr.ownsRow 0 3 1 (.slice aa x.length ac) x.length (x.map iV) := own_at HA.out.1 fun q hq => HD.out.2.heap q
        have hB : wr.ownsRow 0 3 1 (.slice ba y.length bc) y.length (y.map iV) := own_at HA.out.2.1 fun q hq => HD.out.2.heap q
        obtain ⟨g, cap, e1, e2⟩ := row_form hA (by have := HA.out.2.2; have := HN.out; omega)
        obtain ⟨g', cap', e3, e4⟩ := row_form hB (by have := HN.out; omega)
        injection e1 with e1 e1b e1c
        injection e3 with e3 e3b e3c
        subst e1
        subst e3
        have cu : wr.cell? ⟨g, k, none⟩ = some (iV u) := row_at hA k u hu
        have cv : wr.cell? ⟨g', k, none⟩ = some (iV v) := row_at hB k v hv
        have cu' : wr.drew.cell? ⟨g, k, none⟩ = some (iV u) := cu
        have cv' : wr.drew.cell? ⟨g', k, none⟩ = some (iV v) := cv
        have HB2 : Hid (∀ m, DwQ w (wr.drewN m)) := fun m => HD.out.2.drewN m
        have HXY : Hid (x[k]? = some u ∧ y[k]? = some v) := ⟨hu, hv⟩
        have hlt' : (k : Int) < (n : Int) := by omega
        simp only [iV] at cu cv cu' cv'
        clear hA hB e1b e1c e2 e3b e3c e4 hu hv
        by_cases he : u = v
        · subst he
          have HS : Hid (∀ j, j < k + 1 → x[j]? = y[j]?) := by
            intro j hj
            rcases (show j = k ∨ j < k from by omega) with rfl | h
            · rw [HXY.out.1, HXY.out.2]
            · exact HD.out.1 j h
          go_upto_region 6 with fail
          go_quiet (fail)
          go_wp2
          go_roundw
          case rel => exact ⟨k + 1, by omega, by go_num, HS.out, HB2.out _⟩
          case measure => simp [intOf]; omega
        · have HN2 : Hid (decide (x = y) = false) := by
            refine decide_eq_false (fun h => he ?_)
            have h1 := HXY.out.1
            rw [h, HXY.out.2] at h1
            exact (Option.some.inj h1).symm
          go_upto_region 6 with fail
          go_quiet (fail)
          go_wp2
          try rw [Exit.noGoto_ret]
          go_ret
          exact ⟨by rw [HN2.out]; rfl, HB2.out _⟩
      · have hkn : k = n := by omega
        subst hkn
        have HE : Hid (decide (x = y) = true) := by
          refine decide_eq_true (List.ext_getElem? fun j => ?_)
          by_cases hj : j < k
          · exact HD.out.1 j hj
          · rw [List.getElem?_eq_none (by have := HA.out.2.2; have := HN.out; omega), List.getElem?_eq_none (by have := HN.out; omega)]
        clear hk hlt
        go_wp2
        go_ret
        exact ⟨by rw [HE.out]; rfl, HD.out.2⟩
  · have hq : decide (x = y) = false := decide_eq_false fun e => hn (by rw [e])
    have hn' : ¬ (x.length : Int) = (y.length : Int) := by omega
    rw [hq]
    generalize x.length = m at *
    generalize y.length = n at *
    clear ha hb hn hq
    go_enter Try.func63, Try.ntmps63
    go_wp2
    go_ret
    exact ⟨rfl, DwQ.refl _⟩
set_option maxRecDepth 20000 in
set_option maxHeartbeats 4000000 in
theorem equal_bytesQ (a b : Value) (x y : List Int) (w : World) (ha : w.ownsRow 0 5 1 a x.length (x.map uV)) (hb : w.ownsRow 0 5 1 b y.length (y.map uV)) (hx : x.length ≤ 2000000) (hy : y.length ≤ 2000000) : Calls Try.prog 62 #[a, b] w fun e w' => e = .returned (.bool (decide (x = y))) ∧ DwQ w w' := by
  obtain ⟨aa, ac, rfl⟩ := own_slice ha
  obtain ⟨ba, bc, rfl⟩ := own_slice hb
  by_cases hn : x.length = y.length
  · have HA : Hid (w.ownsRow 0 5 1 (.slice aa x.length ac) x.length (x.map uV) ∧ w.ownsRow 0 5 1 (.slice ba y.length bc) y.length (y.map uV) ∧ x.length = y.length) := ⟨ha, hb, hn⟩
    have c1 := own_capv ha
    have c2 := own_capv hb
    obtain ⟨n, hnn⟩ : ∃ n, y.length = n := ⟨_, rfl⟩
    have HN : Hid (y.length = n) := hnn
    rw [hn] at c1 hx
    rw [hn]
    rw [hnn] at c1 c2 hx hy ⊢
    clear hn hnn ha hb
    go_enter Try.func62, Try.ntmps62
    go_wp2
    go_loopw [13] (fun i wx => ∃ (k : Nat), k ≤ n ∧ i = .int .i64 k ∧ Hid ((∀ j, j < k → x[j]? = y[j]?) ∧ DwQ w wx)) (fun i _ => n - (intOf i).toNat)
    case atStart => exact ⟨0, Nat.zero_le _, rfl, fun j hj => by omega, DwQ.refl _⟩
    case round =>
      obtain ⟨k, hk, rfl, HD⟩ := hrel
      by_cases hlt : k < n
      · obtain ⟨u, hu⟩ : ∃ u, x[k]? = some u := ⟨_, List.getElem?_eq_getElem (by have := HA.out.2.2; have := HN.out; omega)⟩
        obtain ⟨v, hv⟩ : ∃ v, y[k]? = some v := ⟨_, List.getElem?_eq_getElem (by have := HN.out; omega)⟩
        have hA : wr.ownsRow 0 5 1 (.slice aa x.length ac) x.length (x.map uV) := own_at HA.out.1 fun q hq => HD.out.2.heap q
        have hB : wr.ownsRow 0 5 1 (.slice ba y.length bc) y.length (y.map uV) := own_at HA.out.2.1 fun q hq => HD.out.2.heap q
        obtain ⟨g, cap, e1, e2⟩ := row_form hA (by have := HA.out.2.2; have := HN.out; omega)
        obtain ⟨g', cap', e3, e4⟩ := row_form hB (by have := HN.out; omega)
        injection e1 with e1 e1b e1c
        injection e3 with e3 e3b e3c
        subst e1
        subst e3
        have cu : wr.cell? ⟨g, k, none⟩ = some (uV u) := row_at hA k u hu
        have cv : wr.cell? ⟨g', k, none⟩ = some (uV v) := row_at hB k v hv
        have cu' : wr.drew.cell? ⟨g, k, none⟩ = some (uV u) := cu
        have cv' : wr.drew.cell? ⟨g', k, none⟩ = some (uV v) := cv
        have HB2 : Hid (∀ m, DwQ w (wr.drewN m)) := fun m => HD.out.2.drewN m
        have HXY : Hid (x[k]? = some u ∧ y[k]? = some v) := ⟨hu, hv⟩
        have hlt' : (k : Int) < (n : Int) := by omega
        simp only [uV] at cu cv cu' cv'
        clear hA hB e1b e1c e2 e3b e3c e4 hu hv
        by_cases he : u = v
        · subst he
          have HS : Hid (∀ j, j < k + 1 → x[j]? = y[j]?) := by
            intro j hj
            rcases (show j = k ∨ j < k from by omega) with rfl | h
            · rw [HXY.out.1, HXY.out.2]
            · exact HD.out.1 j h
          go_upto_region 6 with fail
          go_quiet (fail)
          go_wp2
          go_roundw
          case rel => exact ⟨k + 1, by omega, by go_num, HS.out, HB2.out _⟩
          case measure => simp [intOf]; omega
        · have HN2 : Hid (decide (x = y) = false) := by
            refine decide_eq_false (fun h => he ?_)
            have h1 := HXY.out.1
            rw [h, HXY.out.2] at h1
            exact (Option.some.inj h1).symm
          go_upto_region 6 with fail
          go_quiet (fail)
          go_wp2
          try rw [Exit.noGoto_ret]
          go_ret
          exact ⟨by rw [HN2.out]; rfl, HB2.out _⟩
      · have hkn : k = n := by omega
        subst hkn
        have HE : Hid (decide (x = y) = true) := by
          refine decide_eq_true (List.ext_getElem? fun j => ?_)
          by_cases hj : j < k
          · exact HD.out.1 j hj
          · rw [List.getElem?_eq_none (by have := HA.out.2.2; have := HN.out; omega), List.getElem?_eq_none (by have := HN.out; omega)]
        clear hk hlt
        go_wp2
        go_ret
        exact ⟨by rw [HE.out]; rfl, HD.out.2⟩
  · have hq : decide (x = y) = false := decide_eq_false fun e => hn (by rw [e])
    have hn' : ¬ (x.length : Int) = (y.length : Int) := by omega
    rw [hq]
    generalize x.length = m at *
    generalize y.length = n at *
    clear ha hb hn hq
    go_enter Try.func62, Try.ntmps62
    go_wp2
    go_ret
    exact ⟨rfl, DwQ.refl _⟩
end Go.Proofs.Ytmlbojihjgbdlaa.D

/- Two files are the same. -/
namespace Go.Proofs.Ytmlbojihjgbdlaa.D
open Go.RowKit
set_option linter.unusedVariables false
set_option linter.unusedSimpArgs false

variable {w w' : World}
theorem own0 {base size n : Nat} {e : TypeId} {v : Value} {xs : List Value} {V : World} (h : w.ownsRow base e size v n xs) (hV : DwQ w V) : V.ownsRow base e size v n xs := own_at h fun q _ => hV.heap q
set_option maxRecDepth 20000 in
set_option maxHeartbeats 4000000 in
theorem file_same {f g : Nat} {G H : Nat → Prop} {b ws b' ws' : List Int} (h : FL w f G b ws) (k : FL w g H b' ws') (hl : b.length ≤ 2000000) (hm : ws.length ≤ 2000000) (hl' : b'.length ≤ 2000000) (hm' : ws'.length ≤ 2000000) :
    Calls Try.prog 47 #[.pointer (some ⟨f, 0, none⟩), .pointer (some ⟨g, 0, none⟩)] w fun e w' => e = .returned (.bool (decide (b = b') && decide (ws = ws'))) ∧ DwQ w w' := by
  obtain ⟨dv, bv, g1, g2, g3, -⟩ := h
  obtain ⟨dv', bv', k1, k2, k3, -⟩ := k
  have H62 : Hid (∀ V, DwQ w V → Calls Try.prog 62 #[dv, dv'] V fun e w' => e = .returned (.bool (decide (b = b'))) ∧ ∃ n, w' = V.drewN n) := fun V hV => (equal_bytesQ dv dv' b b' V (own0 g2 hV) (own0 k2 hV) hl hl').mono fun e w' h => h
  have H63 : Hid (∀ V, DwQ w V → Calls Try.prog 63 #[bv, bv'] V fun e w' => e = .returned (.bool (decide (ws = ws'))) ∧ ∃ n, w' = V.drewN n) := fun V hV => (equal_intsQ bv bv' ws ws' V (own0 g3 hV) (own0 k3 hV) hm hm').mono fun e w' h => h
  obtain ⟨da, dc, rfl⟩ := own_slice g2
  obtain ⟨ba, bc, rfl⟩ := own_slice g3
  obtain ⟨da', dc', rfl⟩ := own_slice k2
  obtain ⟨ba', bc', rfl⟩ := own_slice k3
  have c0 : w.cell? ⟨f, 0, none⟩ = some (.slice da b.length dc) := by rw [cell_of_row _ _ _ _ _ _ g1]; rfl
  have c1 : w.cell? ⟨f, 1, none⟩ = some (.slice ba ws.length bc) := by rw [cell_of_row _ _ _ _ _ _ g1]; rfl
  have d0 : w.cell? ⟨g, 0, none⟩ = some (.slice da' b'.length dc') := by rw [cell_of_row _ _ _ _ _ _ k1]; rfl
  have d1 : w.cell? ⟨g, 1, none⟩ = some (.slice ba' ws'.length bc') := by rw [cell_of_row _ _ _ _ _ _ k1]; rfl
  obtain ⟨x, hx⟩ : ∃ x, decide (b = b') = x := ⟨_, rfl⟩
  obtain ⟨y, hy⟩ : ∃ y, decide (ws = ws') = y := ⟨_, rfl⟩
  rw [hx, hy]
  rw [hx] at H62
  rw [hy] at H63
  have HQ : Hid (∀ m, DwQ w (w.drewN m)) := fun m => ⟨m, rfl⟩
  clear g1 g2 g3 k1 k2 k3 hx hy hl hl' hm hm'
  cases x
  all_goals
    go_enter Try.func47, Try.ntmps47
    go_wp2_with fail
    go_quiet (first | (go_at_call 62; refine Calls.quiet_of (H62.out _ ?_); exact (HQ.out _)) | (go_at_call 63; refine Calls.quiet_of (H63.out _ ?_); exact (HQ.out _)))
    go_wp2_with fail
    try rw [Exit.noGoto_ret]
    go_ret
    exact ⟨by cases y <;> rfl, HQ.out _⟩
end Go.Proofs.Ytmlbojihjgbdlaa.D

/- Two disks are the same. -/
namespace Go.Proofs.Ytmlbojihjgbdlaa.D
open Go.RowKit
set_option linter.unusedVariables false
set_option linter.unusedSimpArgs false

variable {w w' : World} {D O : Nat} {F F' : Nat → Prop} {sy sy' : Int} {dl dl' : List Fd}
def inB (dl' : List Fd) (x : Fd) : Bool := match lkF x.nm dl' with | none => false | some y => decide (x.b = y.b) && decide (x.ws = y.ws)
def smB (dl dl' : List Fd) : Bool := decide (dl.length = dl'.length) && dl.all (inB dl')
theorem DR.mv (h : DR w D F sy dl) : ∃ mv, w.heap[D]? = some (.cells #[.map mv, .int .i64 sy] 70 (0, 0)) ∧ (∀ ty, (Builtin.len_ #[68] ty #[.map mv]).run Try.prog w = .ok (.int .i64 (dl.length : Int)) w) ∧ (∀ s, lkF s dl = none → (Instr.lookup 68 (.map mv) (.string (tx s)) true).run Try.prog w = .ok (.tuple #[.pointer none, .bool false]) w) ∧
    (∀ s x, lkF s dl = some x → ∃ f Ff, (Instr.lookup 68 (.map mv) (.string (tx s)) true).run Try.prog w = .ok (.tuple #[.pointer (some ⟨f, 0, none⟩), .bool true]) w ∧ FL w f Ff x.b x.ws) ∧ ((mv = none ∧ dl = []) ∨ ∃ K tl es c, mv = some K ∧ DX w D K sy tl ∧ (tl.map pl).Perm dl ∧ MapAt w K es c ∧ (prs es).Perm (mlT tl) ∧ Bok es c) := by
  obtain ⟨mv, h1, h2⟩ := h.count
  refine ⟨mv, h1, h2, fun s hs => ?_, fun s x hs => ?_, ?_⟩
  · obtain ⟨mv', h3, h4⟩ := h.shut hs
    rw [h1] at h3
    have : mv = mv' := by simpa using h3
    rw [this]
    exact h4
  · obtain ⟨K, f, Ff, h3, h4, h5, -⟩ := h.open hs
    rw [h1] at h3
    have : mv = some K := by simpa using h3
    rw [this]
    exact ⟨f, Ff, h4, h5⟩
  · rcases h.ex with ⟨h3, h4, -⟩ | ⟨K, tl, h3, h4, h5⟩
    · rw [h1] at h4
      have : mv = none := by simpa using h4
      exact .inl ⟨this, h3⟩
    · obtain ⟨es, c, h6, h7, h8⟩ := h3.km
      have h9 := h3.box
      rw [h1] at h9
      have : mv = some K := by simpa using h9
      exact .inr ⟨K, tl, es, c, this, h3, h4, h6, h7, h8⟩
/-- What the range over the one's files keeps. -/
structure SI (w wx : World) (r K c : Nat) (es : List En) (dl dl' : List Fd) (seen : Array Nat) : Prop where
  it : wx.heap[r]? = some (.mapIter (some K) c seen c)
  be : Below r w wx
  ok : ∀ x ∈ dl, x.nm ∉ (rest es seen).map En.nm → inB dl' x = true
set_option maxRecDepth 20000 in
set_option maxHeartbeats 8000000 in
theorem equal_func {mv mv' : Option Nat} (h : DR w D F sy dl) (h' : DR w O F' sy' dl') (hmv : w.cell? ⟨D, 0, none⟩ = some (.map mv)) (hmv' : w.cell? ⟨O, 0, none⟩ = some (.map mv')) (hl : ∀ x ∈ dl, x.b.length ≤ 2000000 ∧ x.ws.length ≤ 2000000) (hl' : ∀ x ∈ dl', x.b.length ≤ 2000000 ∧ x.ws.length ≤ 2000000) (hn : dl.length ≤ 1000000) (hn' : dl'.length ≤ 1000000) :
    Calls Try.prog 46 #[.map mv, .map mv', .func (.func 47) #[] #[]] w fun e w' => e = .returned (.bool (smB dl dl')) ∧ Below w.heap.size w w' := by
  obtain ⟨nv, b1, l1, -, -, x1⟩ := h.mv
  obtain ⟨nv', b2, l2, n2, y2, -⟩ := h'.mv
  obtain rfl : mv = nv := by
    rw [cell_of_row _ _ _ _ _ _ b1] at hmv
    have : nv = mv := by simpa using hmv
    exact this.symm
  obtain rfl : mv' = nv' := by
    rw [cell_of_row _ _ _ _ _ _ b2] at hmv'
    have : nv' = mv' := by simpa using hmv'
    exact this.symm
  have HH : Hid (DR w O F' sy' dl' ∧ (∀ x ∈ dl, x.b.length ≤ 2000000 ∧ x.ws.length ≤ 2000000) ∧ (∀ x ∈ dl', x.b.length ≤ 2000000 ∧ x.ws.length ≤ 2000000) ∧ (dl.map Fd.nm).Nodup) := ⟨h', hl, hl', h.nd⟩
  have l1' := l1 3
  have l2' := l2 3
  by_cases hnn : dl.length = dl'.length
  · have hsm : smB dl dl' = dl.all (inB dl') := by unfold smB; rw [decide_eq_true hnn]; rfl
    rw [hsm]
    have hnni : (dl.length : Int) = (dl'.length : Int) := by omega
    rcases x1 with ⟨rfl, rfl⟩ | ⟨K, tl, es, c, rfl, hx, hp, hmp, hpm, hbk⟩
    · have hr := run_range_nilMap (P := Try.prog) w 68 9 77 under68
      have hnx : ∀ ty, (Instr.next (.pointer (some ⟨w.heap.size, 0, none⟩)) false ty).run Try.prog (w.alloc (.mapIter none 0 #[] 0)) = .ok (.tuple #[.bool false]) (w.alloc (.mapIter none 0 #[] 0)) := fun ty => run_next_nilMap w ty 0 0 #[]
      obtain ⟨W0, hW0⟩ : ∃ W0, w.alloc (.mapIter none 0 #[] 0) = W0 := ⟨_, rfl⟩
      have HB : Hid (Below w.heap.size w W0) := by rw [← hW0]; exact bel1 w _
      rw [hW0] at hr hnx
      have l2'' : (Builtin.len_ #[68] 3 #[.map mv']).run Try.prog w = .ok (.int .i64 0) w := by rw [l2', ← hnni]; rfl
      have l1'' : (Builtin.len_ #[68] 3 #[.map none]).run Try.prog w = .ok (.int .i64 0) w := l1'
      clear h h' hl hl' b1 b2 l1 l2 n2 y2 hmv hmv' hnn hsm hW0 l1' l2' hnni
      obtain ⟨r, hre⟩ : ∃ r, w.heap.size = r := ⟨_, rfl⟩
      rw [hre] at hr hnx HB ⊢
      clear hre
      go_enter Try.func46, Try.ntmps46
      go_wp2_with fail
      go_loopw [7, 8, 9, 10] (fun _ _ _ _ wx => wx = W0) (fun _ _ _ _ wx => 1)
      case atStart => rfl
      case round =>
        have hw : wr = W0 := hrel
        rw [hw]
        clear hw
        go_wp2_with fail
        go_ret
        exact ⟨rfl, HB.out⟩
    · have hr := run_range_map (P := Try.prog) w 68 9 77 K (ents es).toArray c under68 hmp
      obtain ⟨W0, hW0⟩ : ∃ W0, w.alloc (.mapIter (some K) c #[] c) = W0 := ⟨_, rfl⟩
      rw [hW0] at hr
      have hb0 : Below w.heap.size w W0 := by rw [← hW0]; exact bel1 _ _
      have hi0 : W0.heap[w.heap.size]? = some (.mapIter (some K) c #[] c) := by rw [← hW0]; exact heap_alloc_new _ _
      have hrest : rest es #[] = es := by unfold rest; simp
      have hin : ∀ x ∈ dl, x.nm ∈ es.map En.nm := fun x hx' => by
        have hne : (prs es).map Prod.fst = es.map En.nm := by unfold prs; rw [List.map_map]; rfl
        rw [← hne, (hpm.map Prod.fst).mem_iff, mlT_fst, ← pl_nm, (hp.map Fd.nm).mem_iff]
        exact List.mem_map_of_mem hx'
      obtain ⟨r, hre⟩ : ∃ r, w.heap.size = r := ⟨_, rfl⟩
      have HX : Hid (DX w D K sy tl ∧ (tl.map pl).Perm dl ∧ MapAt w K es c ∧ (prs es).Perm (mlT tl) ∧ Bok es c ∧ K < r ∧ w.heap.size = r) := ⟨hx, hp, hmp, hpm, hbk, by rw [← hre]; exact hx.km.lt, hre⟩
      have HI0 : Hid (SI w W0 r K c es dl dl' #[]) := ⟨by rw [← hre]; exact hi0, by rw [← hre]; exact hb0, fun x hx' hn => absurd (by rw [hrest]; exact hin x hx') hn⟩
      have HY : Hid ((∀ s, lkF s dl' = none → (Instr.lookup 68 (.map mv') (.string (tx s)) true).run Try.prog w = .ok (.tuple #[.pointer none, .bool false]) w) ∧ (∀ s x, lkF s dl' = some x → ∃ f Ff, (Instr.lookup 68 (.map mv') (.string (tx s)) true).run Try.prog w = .ok (.tuple #[.pointer (some ⟨f, 0, none⟩), .bool true]) w ∧ FL w f Ff x.b x.ws)) := ⟨n2, y2⟩
      have HZ : Hid (∀ V, Below r w V → DR V O F' sy' dl' ∧ V.cell? ⟨O, 0, none⟩ = some (.map mv')) := fun V hV => by
        have h1 := h'.newer (hre ▸ hV)
        exact ⟨h1, by rw [cell_same (hV.block O (by rw [← hre]; exact (Array.getElem?_eq_some_iff.1 b2).1))]; exact hmv'⟩
      rw [hre] at hr
      rw [← hnni] at l2'
      have hni : (dl.length : Int) ≤ 1000000 := by omega
      generalize (dl.length : Int) = n at *
      clear h h' hl hl' b1 b2 l1 l2 n2 y2 hmv hmv' hnn hsm hx hp hmp hpm hbk hW0 hb0 hi0 hrest hin hnni hn hn'
      have HRW : Hid (w.heap.size = r) := hre
      rw [hre]
      clear hre
      go_enter Try.func46, Try.ntmps46
      go_wp2_with fail
      go_loopw [7, 8, 9, 10] (fun _ _ _ _ wx => ∃ (seen : Array Nat), Hid (SI w wx r K c es dl dl' seen)) (fun _ _ _ _ wx => iLeft es wx r)
      case atStart => exact ⟨#[], HI0⟩
      case round =>
        obtain ⟨seen, HI⟩ := hrel
        have HK : Hid (iLeft es wr r = (rest es seen).length) := iLeft_at HI.out.it
        have hmpW : MapAt wr K es c := (HI.out.be.block K HX.out.2.2.2.2.2.1).trans HX.out.2.2.1
        rcases range_step HI.out.it hmpW HX.out.2.2.2.2.1 with ⟨h0, hnx⟩ | ⟨e, he, V, hpr, hnx, hen, hoff, hitV, o1, o2, o3, o4⟩
        · have HA : Hid (dl.all (inB dl') = true) := by
            show _ = _
            rw [List.all_eq_true]
            exact fun x hx' => HI.out.ok x hx' (by rw [h0]; simp)
          clear hmpW h0 hr
          go_wp2_with fail
          go_ret
          exact ⟨by rw [HA.out]; rfl, HI.out.be⟩
        · have hBV : Below r w V := ⟨o1.trans HI.out.be.os, o2.trans HI.out.be.tape, o3.trans HI.out.be.output, by rw [o4]; exact HI.out.be.size, fun q hq => (hoff q (by omega)).trans (HI.out.be.block q hq)⟩
          have HBV : Hid (Below r w V) := hBV
          have hlen := hpr.length_eq
          rw [List.length_cons] at hlen
          have HLT : Hid ((rest es (seen.push e.born)).length < iLeft es wr r) := by show _ < _; rw [HK.out]; omega
          obtain ⟨t, ht, t1, t2, t3⟩ := HX.out.1.entry HX.out.2.1 HX.out.2.2.2.1 he
          have hfl : FL V t.L t.F t.b t.ws := (HX.out.1.lr t ht).newer (by rw [HRW.out]; exact hBV)
          have hxm : pl t ∈ dl := HX.out.2.1.mem_iff.1 (List.mem_map.2 ⟨t, ht, rfl⟩)
          obtain ⟨e1, e2⟩ := HH.out.2.1 (pl t) hxm
          obtain ⟨hDV, hOV⟩ := HZ.out V hBV
          have HIT : Hid (V.heap[r]? = some (.mapIter (some K) c (seen.push e.born) c)) := hitV
          have HNX : Hid (inB dl' (pl t) = true → ∀ V2, Below V.heap.size V V2 → SI w V2 r K c es dl dl' (seen.push e.born)) := fun hok V2 hb2 => by
            have hrl := (Array.getElem?_eq_some_iff.1 hitV).1
            refine ⟨(hb2.block r hrl).trans hitV, hBV.trans (hb2.mono (by omega)), fun x hx' hn => ?_⟩
            by_cases hxe : x.nm = e.nm
            · have h5 := lkF_of HH.out.2.2.2 hx'
              rw [hxe, t3] at h5
              rw [← Option.some.inj h5]
              exact hok
            · refine HI.out.ok x hx' fun hm => hn ?_
              rw [(hpr.map En.nm).mem_iff, List.map_cons, List.mem_cons] at hm
              exact hm.resolve_left hxe
          have HNO : Hid (inB dl' (pl t) = false → dl.all (inB dl') = false) := fun hb => by
            rw [Bool.eq_false_iff]
            intro ha
            rw [List.all_eq_true] at ha
            have := ha _ hxm
            rw [hb] at this
            cases this
          obtain ⟨nv', b2, -, n2, y2, -⟩ := hDV.mv
          obtain rfl : mv' = nv' := by
            rw [cell_of_row _ _ _ _ _ _ b2] at hOV
            have : nv' = mv' := by simpa using hOV
            exact this.symm
          have hten : (pl t).nm = e.nm := t1
          cases hlk : lkF e.nm dl' with
          | none =>
            have hlo := n2 e.nm hlk
            have HR : Hid (dl.all (inB dl') = false) := HNO.out (by unfold inB; rw [hten, hlk])
            clear hmpW hpr hoff hitV o1 o2 o3 o4 t1 t2 t3 ht hBV hlen he hr hfl hxm e1 e2 hDV hOV b2 n2 y2 hten hlk HNX HNO
            go_wp2_with fail
            go_ret
            exact ⟨by rw [HR.out]; rfl, HBV.out⟩
          | some y =>
            obtain ⟨f, Ff, hlo, hfy⟩ := y2 e.nm y hlk
            have hym : y ∈ dl' := by
              obtain ⟨-, a, b, h5, -⟩ := lkF_some hlk
              rw [h5]; simp
            obtain ⟨u1, u2⟩ := HH.out.2.2.1 y hym
            have hfs := file_same hfl hfy e1 e2 u1 u2
            rw [t2] at hfs
            have hib : inB dl' (pl t) = (decide (t.b = y.b) && decide (t.ws = y.ws)) := by unfold inB; rw [hten, hlk]; rfl
            obtain ⟨z, hz⟩ : ∃ z, (decide (t.b = y.b) && decide (t.ws = y.ws)) = z := ⟨_, rfl⟩
            rw [hz] at hfs hib
            have HFS : Hid (Calls Try.prog 47 #[.pointer (some ⟨e.q, 0, none⟩), .pointer (some ⟨f, 0, none⟩)] V fun e w' => e = .returned (.bool z) ∧ DwQ V w') := hfs
            have HIB : Hid (inB dl' (pl t) = z) := hib
            clear hmpW hpr hoff hitV o1 o2 o3 o4 t1 t2 t3 ht hBV hlen he hr hfl hxm e1 e2 hDV hOV b2 n2 y2 hten hlk hfy hym u1 u2 hfs hib hz
            cases z with
            | true =>
              have HNX2 : Hid (∀ V2, Below V.heap.size V V2 → SI w V2 r K c es dl dl' (seen.push e.born)) := HNX.out HIB.out
              go_wp2_with (go_at_call 47; refine HFS.out.mono ?_; rintro x w3 ⟨rfl, h3⟩; (have HN3 : Hid (SI w w3 r K c es dl dl' (seen.push e.born)) := HNX2.out w3 h3.below); clear h3)
              go_roundw
              case rel => exact ⟨seen.push e.born, HN3⟩
              case measure => rw [iLeft_at HN3.out.it]; exact HLT.out
            | false =>
              have HR : Hid (dl.all (inB dl') = false) := HNO.out HIB.out
              go_wp2_with (go_at_call 47; refine HFS.out.mono ?_; rintro x w3 ⟨rfl, h3⟩; (have HB3 : Hid (Below r w w3) := HBV.out.trans (h3.below.mono (by have := HBV.out.size; have := HRW.out; omega))); clear h3)
              go_ret
              exact ⟨by rw [HR.out]; rfl, HB3.out⟩
  · have hne : ¬ (dl.length : Int) = (dl'.length : Int) := by omega
    have hs : smB dl dl' = false := by unfold smB; rw [decide_eq_false hnn]; rfl
    have hb : ((dl.length : Int) != (dl'.length : Int)) = true := by simpa using hne
    rw [hs]
    clear h h' hl hl' b1 b2 l1 l2 n2 y2 x1 hmv hmv' hnn hs
    generalize (dl.length : Int) = n at *
    generalize (dl'.length : Int) = m at *
    go_enter Try.func46, Try.ntmps46
    go_wp2_with fail
    go_ret
    exact ⟨rfl, Below.refl _ _⟩
end Go.Proofs.Ytmlbojihjgbdlaa.D

/- Same of two disks that are there. -/
namespace Go.Proofs.Ytmlbojihjgbdlaa.D
open Go.RowKit
set_option linter.unusedVariables false
set_option linter.unusedSimpArgs false

variable {w w' : World} {D O : Nat} {F F' : Nat → Prop} {sy sy' : Int} {dl dl' : List Fd}
theorem still_of_quiet {P : Program} {ops : Array Oper} {W : World} {Q : Act → Prop} : ∀ (l : List Oper) (a : Act), wpQuiet P ops (fun w' => w' = W) Q l a → wpStill P ops W Q l a
  | [], a, h => h
  | o :: l, a, h => by
    unfold wpQuiet at h
    unfold wpStill
    split
    · rename_i hw
      rw [if_pos hw] at h
      obtain ⟨v, h1, h2⟩ := h
      have h3 := h1 W rfl
      have h4 := still_of_quiet l _ h2
      unfold Oper.quietAt at h3
      unfold Oper.still
      generalize (execOp a.eval o).run P W = r at h3
      cases r with
      | ok n w' =>
        cases n with
        | value u => obtain ⟨e1, e2⟩ := h3; subst e1; subst e2; exact ⟨rfl, h4⟩
        | skip => obtain ⟨e1, e2⟩ := h3; subst e1; subst e2; exact ⟨rfl, h4⟩
        | enter f args => obtain ⟨e1, e2⟩ := h3; subst e1; exact ⟨rfl, v, e2, h4⟩
        | _ => exact h3.elim
      | halt x w' => exact h3.elim
    · rename_i hw
      rw [if_neg hw] at h
      exact still_of_quiet l _ h
set_option maxRecDepth 20000 in
set_option maxHeartbeats 4000000 in
theorem same_any (h : DR w D F sy dl) (h' : DR w O F' sy' dl') (hl : ∀ x ∈ dl, x.b.length ≤ 2000000 ∧ x.ws.length ≤ 2000000) (hl' : ∀ x ∈ dl', x.b.length ≤ 2000000 ∧ x.ws.length ≤ 2000000) (hn : dl.length ≤ 1000000) (hn' : dl'.length ≤ 1000000) :
    Calls Try.prog 19 #[.pointer (some ⟨D, 0, none⟩), .pointer (some ⟨O, 0, none⟩)] w fun e w' => e = .returned (.bool (smB dl dl')) ∧ Below w.heap.size w w' := by
  obtain ⟨mv, b1, -⟩ := h.box
  obtain ⟨mv', b2, -⟩ := h'.box
  have c1 : w.cell? ⟨D, 0, none⟩ = some (.map mv) := by rw [cell_of_row _ _ _ _ _ _ b1]; rfl
  have c2 : w.cell? ⟨O, 0, none⟩ = some (.map mv') := by rw [cell_of_row _ _ _ _ _ _ b2]; rfl
  have HE : Hid (Calls Try.prog 46 #[.map mv, .map mv', .func (.func 47) #[] #[]] w.drew fun e w' => e = .returned (.bool (smB dl dl')) ∧ Below w.drew.heap.size w.drew w') :=
    equal_func (h.newer (drew_below w)) (h'.newer (drew_below w)) c1 c2 hl hl' hn hn'
  generalize smB dl dl' = z at *
  clear h h' b1 b2 hl hl' hn hn'
  go_enter Try.func19, Try.ntmps19
  go_wp2_with fail
  refine wp_region_still_tail 15 (by kernel_rfl) (by kernel_rfl) (still_of_quiet _ _ ?_)
  simp only [List.take_succ_cons, List.take_zero, List.drop_succ_cons, List.drop_zero]
  rw [show ({ w with drawn := w.drawn + 1 } : World) = w.drew from rfl]
  repeat (first | go_big_quiet_skip | (go_big_quiet_want; go_big_quiet_op; go_big_quiet_on))
  refine wpQuiet_nil ?_
  go_wp2_with (go_at_call 46; refine HE.out.mono ?_; rintro e w2 ⟨rfl, hb2⟩; (have HB2 : Hid (Below w.drew.heap.size w.drew w2) := hb2); clear hb2)
  go_ret
  exact ⟨rfl, (drew_below w).trans HB2.out⟩
end Go.Proofs.Ytmlbojihjgbdlaa.D

/- The model's disk as it lies; find. -/
namespace Go.Proofs.Ytmlbojihjgbdlaa.D
open Go.RowKit
set_option linter.unusedVariables false
set_option linter.unusedSimpArgs false

/-- A file of the model: with where its bytes and its writes lie. -/
structure Mt where
  x : Fd
  da : Option Addr
  dc : Nat
  ba : Option Addr
  bc : Nat
def Mt.dv (t : Mt) : Value := .slice t.da t.x.b.length t.dc
def Mt.bv (t : Mt) : Value := .slice t.ba t.x.ws.length t.bc
def mt4 (t : Mt) : List Value := [.string (tx t.x.nm), t.dv, .int .i64 (safeN t.x.b t.x.ws), t.bv]
theorem mt4_len (t : Mt) : (mt4 t).length = 4 := rfl
theorem mt4_one (t : Mt) : ∀ u ∈ mt4 t, u.oneCell' = true := by
  intro u hu
  simp only [mt4, List.mem_cons, List.not_mem_nil, or_false] at hu
  rcases hu with rfl | rfl | rfl | rfl <;> rfl
def GT (t : Mt) (q : Nat) : Prop := t.dv.ownBlock = some q ∨ t.bv.ownBlock = some q
/-- A file's rows. -/
structure ML (w : World) (t : Mt) : Prop where
  rd : w.ownsRow 0 5 1 t.dv t.x.b.length (u8l t.x.b)
  rw : w.ownsRow 0 3 1 t.bv t.x.ws.length (t.x.ws.map iV)
variable {w w' : World}
theorem ML.at' {t : Mt} (h : ML w t) (hk : ∀ q, GT t q → w'.heap[q]? = w.heap[q]?) : ML w' t := ⟨own_at h.rd fun q hq => hk q (.inl hq), own_at h.rw fun q hq => hk q (.inr hq)⟩
theorem ML.lt {t : Mt} (h : ML w t) : ∀ q, GT t q → q < w.heap.size := by
  rintro q (hq | hq)
  · exact (h.rd.lt q hq).2
  · exact (h.rw.lt q hq).2
theorem ML.tag {t : Mt} (h : ML w t) : ∀ q, GT t q → ∃ c e, w.heap[q]? = some (.cells c e (0, 0)) ∧ (e = 5 ∨ e = 3) := by
  rintro q (hq | hq)
  · obtain ⟨cur, hc⟩ := own_tag h.rd hq
    exact ⟨cur, 5, hc, .inl rfl⟩
  · obtain ⟨cur, hc⟩ := own_tag h.rw hq
    exact ⟨cur, 3, hc, .inr rfl⟩
structure MS (w : World) (R : Nat) (lv : Value) (m : List Mt) (sy : Int) : Prop where
  box : w.heap[R]? = some (.cells #[lv, .int .i64 sy] 29 (0, 0))
  row : w.ownsRow 0 43 4 lv m.length (fl mt4 m)
  ml : ∀ t ∈ m, ML w t
  ap : m.Pairwise fun s t => ∀ q, GT s q → ¬ GT t q
def GM (R : Nat) (lv : Value) (m : List Mt) (q : Nat) : Prop := q = R ∨ lv.ownBlock = some q ∨ ∃ t ∈ m, GT t q
variable {R : Nat} {lv : Value} {m : List Mt} {sy : Int}
theorem MS.lt (h : MS w R lv m sy) : ∀ q, GM R lv m q → q < w.heap.size := by
  rintro q (rfl | hq | ⟨t, ht, hq⟩)
  · exact (Array.getElem?_eq_some_iff.1 h.box).1
  · exact (h.row.lt q hq).2
  · exact (h.ml t ht).lt q hq
theorem MS.at' (h : MS w R lv m sy) (hk : ∀ q, GM R lv m q → w'.heap[q]? = w.heap[q]?) : MS w' R lv m sy :=
  ⟨(hk R (.inl rfl)).trans h.box, own_at h.row fun q hq => hk q (.inr (.inl hq)), fun t ht => (h.ml t ht).at' fun q hq => hk q (.inr (.inr ⟨t, ht, hq⟩)), h.ap⟩
theorem MS.newer (h : MS w R lv m sy) (hb : Below w.heap.size w w') : MS w' R lv m sy := h.at' fun q hq => hb.block q (h.lt q hq)
theorem MS.cells (h : MS w R lv m sy) : w.cell? ⟨R, 0, none⟩ = some lv ∧ w.cell? ⟨R, 1, none⟩ = some (.int .i64 sy) ∧ ∀ i, w.frozen? ⟨R, i, none⟩ = false :=
  ⟨by rw [cell_of_row _ _ _ _ _ _ h.box]; rfl, by rw [cell_of_row _ _ _ _ _ _ h.box]; rfl, fun i => by simp [World.frozen?, h.box]⟩
/-- The box and the row are no file's rows. -/
theorem MS.ne (h : MS w R lv m sy) : (∀ q, lv.ownBlock = some q → q ≠ R) ∧ ∀ t, ML w t → ∀ q, GT t q → q ≠ R ∧ lv.ownBlock ≠ some q := by
  refine ⟨fun q hq => ?_, fun t ht q hq => ?_⟩
  · obtain ⟨cur, hc⟩ := own_tag h.row hq
    exact ne_tag hc h.box (by decide)
  · obtain ⟨c, e, h1, h2⟩ := ht.tag q hq
    refine ⟨ne_tag h1 h.box (by rcases h2 with rfl | rfl <;> decide), fun hl => ?_⟩
    obtain ⟨cur, hc⟩ := own_tag h.row hl
    exact ne_tag h1 hc (by rcases h2 with rfl | rfl <;> decide) rfl
/-- A file's cells. -/
theorem own_mt {W : World} {g n cap k : Nat} {m : List Mt} {t : Mt} (h : W.ownsRow 0 43 4 (.slice (some ⟨g, 0, none⟩) n cap) m.length (fl mt4 m)) (hk : m[k]? = some t) :
    W.cell? ⟨g, k * 4, none⟩ = some (.string (tx t.x.nm)) ∧ W.cell? ⟨g, k * 4 + 1, none⟩ = some (.slice t.da t.x.b.length t.dc) ∧ W.cell? ⟨g, k * 4 + 2, none⟩ = some (.int .i64 (safeN t.x.b t.x.ws)) ∧ W.cell? ⟨g, k * 4 + 3, none⟩ = some (.slice t.ba t.x.ws.length t.bc) ∧ ∀ i, W.frozen? ⟨g, i, none⟩ = false := by
  have hc : ∀ j u, (mt4 t)[j]? = some u → W.cell? ⟨g, k * 4 + j, none⟩ = some u := fun j u hu => by
    have := h.cells (g := g) rfl (k * 4 + j) u (by rw [fl_at mt4_len m k t j hk (by have := (List.getElem?_eq_some_iff.1 hu).1; simpa [mt4] using this)]; exact hu)
    rwa [Addr.add_lit, Nat.zero_add] at this
  refine ⟨hc 0 _ rfl, hc 1 _ rfl, hc 2 _ rfl, hc 3 _ rfl, fun i => ?_⟩
  obtain ⟨cur, hcu⟩ := own_tag h (q := g) rfl
  simp [World.frozen?, hcu]
def nmsM (m : List Mt) : List (List UInt8) := m.map fun t => t.x.nm
def ixM (s : List UInt8) : List Mt → Nat → Option Nat
  | [], _ => none
  | t :: r, i => if t.x.nm = s then some i else ixM s r (i + 1)
theorem ixM_hit {s : List UInt8} : ∀ {l : List Mt} {j i : Nat} {a : Mt}, l[j]? = some a → a.x.nm = s → (∀ (b : Nat) (x : Mt), b < j → l[b]? = some x → ¬ x.x.nm = s) → ixM s l i = some (i + j)
  | [], j, i, a, h, _, _ => by simp at h
  | x :: r, 0, i, a, h, hk, _ => by
    have e : x = a := by simpa using h
    subst e
    rw [ixM, if_pos hk]
    rfl
  | x :: r, j + 1, i, a, h, hk, hb => by
    rw [ixM, if_neg (hb 0 x (by omega) rfl), ixM_hit (by simpa using h) hk (fun b y hb' hy => hb (b + 1) y (by omega) (by simpa using hy))]
    congr 1
    omega
theorem ixM_miss {s : List UInt8} : ∀ {l : List Mt} {i : Nat}, (∀ (b : Nat) (x : Mt), l[b]? = some x → ¬ x.x.nm = s) → ixM s l i = none
  | [], i, _ => rfl
  | x :: r, i, h => by
    rw [ixM, if_neg (h 0 x rfl)]
    exact ixM_miss fun b y hy => h (b + 1) y (by simpa using hy)
def posV (o : Option Nat) : Int := match o with | some i => (i : Int) | none => -1
set_option maxRecDepth 20000 in
set_option maxHeartbeats 4000000 in
theorem MS.find (h : MS w R lv m sy) (hl : (m.length : Int) ≤ 1000000) (s : List UInt8) : Calls Try.prog 55 #[.pointer (some ⟨R, 0, none⟩), .string (tx s)] w fun e w' => e = .returned (.int .i64 (posV (ixM s m 0))) ∧ w' = w := by
  obtain ⟨sa, cap, hsv⟩ := own_slice h.row
  have HT : Hid (MS w R lv m sy) := h
  subst hsv
  have c0 := h.cells.1
  obtain ⟨n, hn⟩ : ∃ n, m.length = n := ⟨_, rfl⟩
  have HN : Hid (m.length = n) := hn
  rw [hn] at c0 hl
  clear h hn
  go_enter Try.func55, Try.ntmps55
  go_wp2_with fail
  go_loopw [5] (fun v wr => wr = w ∧ ∃ k : Nat, k ≤ n ∧ v = .int .i64 k ∧ Hid (∀ (j : Nat) (p : Mt), j < k → m[j]? = some p → ¬ p.x.nm = s)) (fun v wr => n - (intOf v).toNat)
  case atStart => exact ⟨rfl, 0, by omega, rfl, (fun j p hj => (Nat.not_lt_zero _ hj).elim : ∀ (j : Nat) (p : Mt), j < 0 → m[j]? = some p → ¬ p.x.nm = s)⟩
  case round =>
    obtain ⟨hwr, k, hk, rfl, HD⟩ := hrel
    rw [hwr]
    clear hwr
    by_cases hlt : k < n
    · have hlt' : (k : Int) < (n : Int) := by omega
      obtain ⟨t, ht⟩ : ∃ t, m[k]? = some t := ⟨_, List.getElem?_eq_getElem (by have := HN.out; omega)⟩
      have HS : Hid (m[k]? = some t ∧ k < n) := ⟨ht, hlt⟩
      obtain ⟨g, cp, hv⟩ := own_form HT.out.row (by have := HN.out; omega)
      have hsa : sa = some ⟨g, 0, none⟩ := (Value.slice.inj hv).1
      subst hsa
      have e0 := (own_mt HT.out.row ht).1
      have hcap : (n : Int) ≤ (cap : Int) := by have := own_cap HT.out.row; have := HN.out; omega
      clear ht hv
      by_cases hq : t.x.nm = s
      · have HE : Hid (ixM s m 0 = some k) := by
          show _ = _
          rw [ixM_hit HS.out.1 hq HD.out, Nat.zero_add]
        have hq' : ((tx t.x.nm).toList == (tx s).toList) = true := by rw [tx_list, tx_list]; simpa using hq
        clear hq
        go_wp2_with fail
        go_ret
        exact ⟨by rw [HE.out]; rfl, rfl⟩
      · have HN2 : Hid (∀ (j : Nat) (p : Mt), j < k + 1 → m[j]? = some p → ¬ p.x.nm = s) := by
          intro j p hj hp
          rcases (show j = k ∨ j < k from by omega) with rfl | h
          · rw [HS.out.1] at hp
            rw [← Option.some.inj hp]
            exact hq
          · exact HD.out j p h hp
        have hq' : ((tx t.x.nm).toList == (tx s).toList) = false := by rw [tx_list, tx_list]; simpa using hq
        clear hq
        go_wp2_with fail
        go_roundw
        case rel => exact ⟨by trivial, k + 1, by have := HS.out.2; omega, by go_num, HN2.out⟩
        case measure => have := HS.out.2; simp [intOf]; omega
    · have hge : ¬ ((k : Int) < (n : Int)) := by omega
      have HE : Hid (ixM s m 0 = none) := ixM_miss fun j x hx => HD.out j x (by have := (List.getElem?_eq_some_iff.1 hx).1; have := HN.out; omega) hx
      clear hlt
      go_wp2_with fail
      go_ret
      exact ⟨by rw [HE.out]; rfl, rfl⟩
end Go.Proofs.Ytmlbojihjgbdlaa.D
