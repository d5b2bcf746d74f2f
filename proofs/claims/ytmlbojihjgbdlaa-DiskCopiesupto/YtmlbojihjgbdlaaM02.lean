import Derived.Test.YtmlbojihjgbdlaaM01
import Derived.Deep.RegionLaw
import Derived.Laws.OwnMore
import Derived.Deep.CutRange
import Derived.Laws.CopyOwn
import Derived.Laws.MakeOwn
import Derived.LoopN
/- Bytes are written behind a file's. -/
namespace Go.Proofs.Ytmlbojihjgbdlaa
open Go.RowKit
set_option linter.unusedVariables false
set_option linter.unusedSimpArgs false

theorem info3 : (Try.prog.info? 3).map (fun i => (i.zero, i.size, i.bytes)) = some (some (.int .i64 0), 1, 8) := by kernel_rfl
/-- Bytes that lie in rows of bytes. -/
def Src5 (w : World) (sv : Value) (bs : List Int) : Prop := ∀ W : World, (∀ (q : Nat) (c : Array Value) (f : Nat × Nat), w.heap[q]? = some (.cells c 5 f) → W.heap[q]? = w.heap[q]?) → Src W sv bs
theorem own_src5 {w : World} {base : Nat} {v : Value} {zs : List Int} (h : w.ownsRow base 5 1 v zs.length (u8l zs)) : Src5 w v zs := fun W hW => own_src (own_at h fun q hq => by
  obtain ⟨cur, hc⟩ := own_tag h hq
  exact hW q cur _ hc)
theorem own_other {w : World} {base n F : Nat} {e t : TypeId} {v : Value} {xs : List Value} {c : Array Value} (h : w.ownsRow base e 1 v n xs) (hF : w.heap[F]? = some (.cells c t (0, 0))) (ht : t ≠ e) : some F ≠ v.ownBlock := by
  intro hq
  obtain ⟨cur, hc⟩ := own_tag h hq.symm
  exact ne_tag hF hc ht rfl

set_option maxRecDepth 20000 in
set_option maxHeartbeats 4000000 in
theorem write_any (F : Nat) (dv bv : Value) (n m base : Nat) (xs ys : List Value) (sv : Value) (bs : List Int) (w : World) (hF : w.heap[F]? = some (.cells #[dv, bv] 80 (0, 0))) (hd : w.ownsRow base 5 1 dv n xs) (hb : w.ownsRow base 3 1 bv m ys) (hbase : base ≤ w.heap.size) (hs : Src5 w sv bs) (hn : 0 < bs.length) (hl : n + bs.length ≤ 10000000) (hm : m ≤ 10000000) :
    Calls Try.prog 50 #[.pointer (some ⟨F, 0, none⟩), sv] w fun e w' => (∃ v, e = .returned v) ∧ ∃ dv' bv', w'.heap[F]? = some (.cells #[dv', bv'] 80 (0, 0)) ∧ w'.ownsRow base 5 1 dv' (n + bs.length) (xs ++ u8l bs) ∧ w'.ownsRow base 3 1 bv' (m + 1) (ys ++ [.int .i64 (n : Int)]) ∧ Kep w w' (fun q => q = F ∨ dv.ownBlock = some q ∨ bv.ownBlock = some q) := by
  obtain ⟨i0, hi, hz0, hz1, hz2⟩ := info_parts info3
  obtain ⟨da, dc, rfl⟩ := own_slice hd
  obtain ⟨ba, bc, rfl⟩ := own_slice hb
  obtain ⟨sa, sc, hsv⟩ := (hs w fun _ _ _ _ => rfl).slice
  have c0 : w.cell? ⟨F, 0, none⟩ = some (.slice da n dc) := by rw [cell_of_row _ _ _ _ _ _ hF]; rfl
  have c1 : w.cell? ⟨F, 1, none⟩ = some (.slice ba m bc) := by rw [cell_of_row _ _ _ _ _ _ hF]; rfl
  have HF : Hid (w.heap[F]? = some (.cells #[.slice da n dc, .slice ba m bc] 80 (0, 0))) := hF
  have HD : Hid (w.ownsRow base 5 1 (.slice da n dc) n xs) := hd
  have HBO : Hid (w.ownsRow base 3 1 (.slice ba m bc) m ys) := hb
  have HS : Hid (Src5 w sv bs) := hs
  have HBS : Hid (base ≤ w.heap.size ∧ n + bs.length ≤ 10000000 ∧ m ≤ 10000000) := ⟨hbase, hl, hm⟩
  obtain ⟨N, hN⟩ : ∃ N, bs.length = N := ⟨_, rfl⟩
  have HN : Hid (bs.length = N) := hN
  rw [hN] at hn hsv
  have hn0 : ((N : Int) == 0) = false := by rw [beq_eq_false_iff_ne]; omega
  have hFlt : F < w.heap.size := (Array.getElem?_eq_some_iff.1 hF).1
  have c0a : ∀ o, (w.alloc o).cell? ⟨F, 0, none⟩ = some (.slice da n dc) := fun o => by rw [cell_of_row _ _ _ _ _ _ ((Below.heap_alloc _ _ _ hFlt).trans hF)]; rfl
  have c1a : ∀ o, (w.alloc o).cell? ⟨F, 1, none⟩ = some (.slice ba m bc) := fun o => by rw [cell_of_row _ _ _ _ _ _ ((Below.heap_alloc _ _ _ hFlt).trans hF)]; rfl
  subst hsv
  clear hF hd hb hs hbase hl hm hN
  go_enter Try.func50, Try.ntmps50
  go_wp2_with fail
  go_region_law (refine step_append_lies _ rfl (.tmp 11) (.tmp 17) 41 rfl base 3 i0 (.int .i64 0) 1 8 Try.underlying41 hi hz0 hz1 hz2 rfl (by decide) (.slice ba m bc) m ys (by simp [Act.eval, Act.put]) (HBO.out.alloc _) ⟨w.heap.size, 0, none⟩ 1 1 [.int .i64 (n : Int)] (by simp [Act.eval, Act.put]) rfl (World.news_of_block (Go.heap_alloc_new _ _)) (by intro u hu; simp at hu; rw [hu]; rfl) (by decide) (by have := HBS.out; unfold maxLen; omega) (by have := HBS.out; omega) (by have := HBS.out; simp; omega) (w.heap.size + 1) (by simp) ?_; intro g' cp' w' ho' hg' hx' hy'; (have HX1 : Hid (w'.heap[F]? = some (.cells #[.slice da n dc, .slice ba m bc] 80 (0, 0))) := (hg'.block F (by simp; omega) (own_other HBO.out HF.out (by decide))).trans ((Below.heap_alloc _ _ _ hFlt).trans HF.out)); (have d1 : w'.cell? ⟨F, 1, none⟩ = some (.slice ba m bc) := (by rw [cell_of_row _ _ _ _ _ _ HX1.out]; rfl)); (have f1 := frozen_of_row _ _ 1 _ _ HX1.out); (have HO1 : Hid (w'.ownsRow base 3 1 (.slice (some ⟨g', 0, none⟩) (m + 1) cp') (m + 1) (ys ++ [.int .i64 (n : Int)])) := ho'); (have HK1 : Hid (w.heap.size + 1 ≤ w'.heap.size ∧ ∀ q, q < w.heap.size → (Value.slice ba m bc).ownBlock ≠ some q → w'.heap[q]? = w.heap[q]?) := ⟨(by have h := hg'.size; simp at h; omega), fun q h1 h2 => (hg'.block q (by simp; omega) (fun e => h2 e.symm)).trans (Below.heap_alloc _ _ _ h1)⟩); (have HG1 : Hid (w'.os = w.os ∧ w'.tape = w.tape ∧ w'.output = w.output) := ⟨hg'.os, hg'.tape, hg'.output⟩); clear ho' hg' hx' hy')
  all_goals
    obtain ⟨W2, hW2⟩ : ∃ W2, w'.setCell ⟨F, 1, none⟩ (.slice (some ⟨g', 0, none⟩) (m + 1) cp') = W2 := ⟨_, rfl⟩
    have HX2 : Hid (W2.heap[F]? = some (.cells #[.slice da n dc, .slice (some ⟨g', 0, none⟩) (m + 1) cp'] 80 (0, 0))) := by
      show _ = _
      rw [← hW2]
      exact row_set _ HX1.out
    have HK2 : Hid (∀ q, q ≠ F → W2.heap[q]? = w'.heap[q]?) := fun q hq => by rw [← hW2]; exact Below.heap_setCell _ _ _ _ hq
    have HZ2 : Hid (W2.heap.size = w'.heap.size) := by show _ = _; rw [← hW2]; simp
    have HY2 : Hid (W2.os = w'.os ∧ W2.tape = w'.tape ∧ W2.output = w'.output) := by rw [← hW2]; exact ⟨rfl, rfl, rfl⟩
    have HD2 : Hid (W2.ownsRow base 5 1 (.slice da n dc) n xs) := own_at HD.out fun q hq => by
      obtain ⟨cur, hc⟩ := own_tag HD.out hq
      rw [HK2.out q (ne_tag hc HF.out (by decide))]
      refine HK1.out.2 q (Array.getElem?_eq_some_iff.1 hc).1 fun e => ?_
      obtain ⟨cur', hc'⟩ := own_tag HBO.out e
      exact ne_tag hc hc' (by decide) rfl
    have HO2 : Hid (W2.ownsRow base 3 1 (.slice (some ⟨g', 0, none⟩) (m + 1) cp') (m + 1) (ys ++ [.int .i64 (n : Int)])) := own_at HO1.out fun q hq => by
      obtain ⟨cur, hc⟩ := own_tag HO1.out hq
      exact HK2.out q (ne_tag hc HX1.out (by decide))
    have HS2 : Hid (Src W2 (.slice sa N sc) bs) := HS.out W2 fun q c f hc => by
      rw [HK2.out q (ne_tag hc HF.out (by decide))]
      refine HK1.out.2 q (Array.getElem?_eq_some_iff.1 hc).1 fun e => ?_
      obtain ⟨cur', hc'⟩ := own_tag HBO.out e
      exact ne_tag hc hc' (by decide) rfl
    rw [hW2]
    have e0 : W2.cell? ⟨F, 0, none⟩ = some (.slice da n dc) := by rw [cell_of_row _ _ _ _ _ _ HX2.out]; rfl
    clear hW2 d1 f1 c0 c1 c0a c1a
    go_wp2_with (at_builtin; (refine wpList_append_src rfl (.tmp 25) (.tmp 26) rfl base (.slice da n dc) n xs rfl HD2.out (.slice sa N sc) bs rfl HS2.out (by have := HBS.out; omega) (by have h1 := HBS.out; have h2 := HK1.out.1; have h3 := HZ2.out; omega) ?_; intro v3 w3 ho3 hg3; (obtain ⟨xa, xc, hv3⟩ := own_slice ho3); subst hv3; (have HX3 : Hid (w3.heap[F]? = some (.cells #[.slice da n dc, .slice (some ⟨g', 0, none⟩) (m + 1) cp'] 80 (0, 0))) := (hg3.block F (by have h2 := HK1.out.1; have h3 := HZ2.out; omega) (own_other HD2.out HX2.out (by decide))).trans HX2.out); (have d3 : w3.cell? ⟨F, 0, none⟩ = some (.slice da n dc) := (by rw [cell_of_row _ _ _ _ _ _ HX3.out]; rfl)); (have f3 := frozen_of_row _ _ 0 _ _ HX3.out); (have HO3 : Hid (w3.ownsRow base 5 1 (.slice xa (n + bs.length) xc) (n + bs.length) (xs ++ u8l bs)) := ho3); (have HG3 : Hid (W2.grownBy w3 (Value.slice da n dc).ownBlock) := hg3); clear ho3 hg3))
    go_end0
    refine ⟨⟨_, rfl⟩, .slice xa (n + bs.length) xc, .slice (some ⟨g', 0, none⟩) (m + 1) cp', row_set _ HX3.out, ?_, ?_, ⟨?_, ?_, ?_, ?_, ?_⟩⟩
    · refine own_at HO3.out fun q hq => Below.heap_setCell _ _ _ _ ?_
      obtain ⟨cur, hc⟩ := own_tag HO3.out hq
      exact ne_tag hc HX3.out (by decide)
    · refine own_at (w := W2) HO2.out fun q hq => ?_
      obtain ⟨cur, hc⟩ := own_tag HO2.out hq
      rw [Below.heap_setCell _ _ _ _ (ne_tag hc HX2.out (by decide))]
      exact HG3.out.block q (Array.getElem?_eq_some_iff.1 hc).1 (own_other HD2.out hc (by decide))
    · exact HG3.out.os.trans (HY2.out.1.trans HG1.out.1)
    · exact HG3.out.tape.trans (HY2.out.2.1.trans HG1.out.2.1)
    · exact HG3.out.output.trans (HY2.out.2.2.trans HG1.out.2.2)
    · have h1 := HK1.out.1
      have h2 := HZ2.out
      have h3 := HG3.out.size
      simp
      omega
    · intro q h1 hx
      have h2 : q ≠ F := fun e => hx (.inl e)
      have h3 : (Value.slice da n dc).ownBlock ≠ some q := fun e => hx (.inr (.inl e))
      have h4 : (Value.slice ba m bc).ownBlock ≠ some q := fun e => hx (.inr (.inr e))
      have g1 := HK1.out.1
      have g2 := HZ2.out
      rw [Below.heap_setCell _ _ _ _ h2, HG3.out.block q (by omega) (fun e => h3 e.symm), HK2.out q h2]
      exact HK1.out.2 q h1 h4
end Go.Proofs.Ytmlbojihjgbdlaa

/- A disk with the one file a: bytes are appended, and synced. -/
namespace Go.Proofs.Ytmlbojihjgbdlaa
open Go.RowKit
set_option linter.unusedVariables false
set_option linter.unusedSimpArgs false

def nmA : ByteArray := ⟨#[97]⟩
theorem ne_map {w : World} {k k' c : Nat} {cs : Array Value} {t : TypeId} {f : Nat × Nat} {l : List Ent} (h : w.heap[k]? = some (.cells cs t f)) (h' : MapAt w k' l c) : k' ≠ k := by
  rintro rfl
  unfold MapAt at h'
  rw [h] at h'
  simp at h'
theorem fnd_a {v : Value} {c : Nat} : fnd ⟨#[97]⟩ [(⟨#[97]⟩, v, c)] 0 = some (0, v) := by
  show (if ((⟨#[97]⟩ : ByteArray) == ⟨#[97]⟩) = true then some (0, v) else none) = _
  rw [if_pos (by decide)]
theorem Src5.kep {w w2 : World} {sv : Value} {bs : List Int} (h : Src5 w sv bs) (hk : ∀ (q : Nat) (c : Array Value) (f : Nat × Nat), w.heap[q]? = some (.cells c 5 f) → w2.heap[q]? = w.heap[q]?) : Src5 w2 sv bs := fun W' h' => h W' fun q c f hq => (h' q c f ((hk q c f hq).trans hq)).trans (hk q c f hq)
def i64l (l : List Int) : List Value := l.map (Value.int .i64)
/-- A disk with the one file a. -/
structure One (w : World) (D base B F : Nat) (s : Int) (dv bv : Value) (zs bg : List Int) : Prop where
  low : base ≤ D ∧ base ≤ B ∧ base ≤ F ∧ base ≤ w.heap.size
  disk : w.heap[D]? = some (.cells #[.map (some B), .int .i64 s] 70 (0, 0))
  map : MapAt w B [(⟨#[97]⟩, .pointer (some ⟨F, 0, none⟩), 0)] 1
  file : w.heap[F]? = some (.cells #[dv, bv] 80 (0, 0))
  data : w.ownsRow base 5 1 dv zs.length (u8l zs)
  begins : w.ownsRow base 3 1 bv bg.length (i64l bg)
theorem One.keep {w w' : World} {D base B F : Nat} {s : Int} {dv bv : Value} {zs bg : List Int} (h : One w D base B F s dv bv zs bg) (hb : Below w.heap.size w w') : One w' D base B F s dv bv zs bg := by
  have hl := h.low
  have hz := hb.size
  refine ⟨⟨hl.1, hl.2.1, hl.2.2.1, by omega⟩, (hb.block _ (Array.getElem?_eq_some_iff.1 h.disk).1).trans h.disk, ?_, (hb.block _ (Array.getElem?_eq_some_iff.1 h.file).1).trans h.file, own_kept h.data fun q _ hq => hb.block q hq, own_kept h.begins fun q _ hq => hb.block q hq⟩
  exact (hb.block _ (Array.getElem?_eq_some_iff.1 h.map).1).trans h.map

set_option maxRecDepth 20000 in
set_option maxHeartbeats 4000000 in
/-- More bytes. -/
theorem append_more (D base B F : Nat) (s : Int) (dv bv sv : Value) (zs bg bs : List Int) (w : World) (h : One w D base B F s dv bv zs bg) (hs : Src5 w sv bs) (hn : 0 < bs.length) (hl : zs.length + bs.length ≤ 1000) (hm : bg.length ≤ 1000) :
    Calls Try.prog 23 #[.pointer (some ⟨D, 0, none⟩), .string ⟨#[97]⟩, sv] w fun e w' => e = .returned (.int .i64 0) ∧ (∃ dv' bv', One w' D base B F s dv' bv' (zs ++ bs) (bg ++ [(zs.length : Int)])) ∧ Below base w w' := by
  have H : Hid (One w D base B F s dv bv zs bg) := h
  have HS : Hid (Src5 w sv bs) := hs
  have HL : Hid (0 < bs.length ∧ zs.length + bs.length ≤ 1000 ∧ bg.length ≤ 1000) := ⟨hn, hl, hm⟩
  obtain ⟨sa, sc, hsv⟩ := (hs w fun _ _ _ _ => rfl).slice
  obtain ⟨da, dc, hdv⟩ := own_slice h.data
  obtain ⟨N, hN⟩ : ∃ N, bs.length = N := ⟨_, rfl⟩
  obtain ⟨M, hM⟩ : ∃ M, zs.length = M := ⟨_, rfl⟩
  have hNM : (M : Int) + (N : Int) ≤ 1000 := by omega
  have cD : w.cell? ⟨D, 0, none⟩ = some (.map (some B)) := by rw [cell_of_row _ _ _ _ _ _ h.disk]; rfl
  have cF : w.cell? ⟨F, 0, none⟩ = some dv := by rw [cell_of_row _ _ _ _ _ _ h.file]; rfl
  have HFI : Hid (Calls Try.prog 48 #[.pointer (some ⟨D, 0, none⟩), .string ⟨#[97]⟩] w fun e w' => e = .returned (.tuple #[.pointer (some ⟨F, 0, none⟩), .int .i64 0]) ∧ w' = w) := find_some D _ B 1 0 _ _ w cD h.map fnd_a
  have HWR : Hid (Calls Try.prog 50 #[.pointer (some ⟨F, 0, none⟩), sv] w fun e w' => (∃ v, e = .returned v) ∧ ∃ dv' bv', w'.heap[F]? = some (.cells #[dv', bv'] 80 (0, 0)) ∧ w'.ownsRow base 5 1 dv' (zs.length + bs.length) (u8l zs ++ u8l bs) ∧ w'.ownsRow base 3 1 bv' (bg.length + 1) (i64l bg ++ [.int .i64 (zs.length : Int)]) ∧ Kep w w' (fun q => q = F ∨ dv.ownBlock = some q ∨ bv.ownBlock = some q)) := write_any F dv bv zs.length bg.length base _ _ sv bs w h.file h.data h.begins h.low.2.2.2 hs hn (by omega) (by omega)
  rw [hM] at hdv
  rw [hN] at hsv
  rw [hsv] at HWR HS ⊢
  rw [hdv] at cF
  clear h hs hn hl hm hN hM hsv hdv
  go_enter Try.func23, Try.ntmps23
  go_wp2_with (first | (go_at_call 48; refine HFI.out.mono ?_; rintro e w1 ⟨rfl, hw1⟩; rw [hw1]; clear hw1) | (go_at_call 9; refine (name_a _).mono ?_; rintro e w1 ⟨rfl, hw1⟩; rw [hw1]; clear hw1) | (go_at_call 50; refine HWR.out.mono ?_; rintro e w2 ⟨⟨v2, rfl⟩, dv', bv', hf2, ho2, hp2, hk2⟩; (have HK : Hid (Kep w w2 (fun q => q = F ∨ dv.ownBlock = some q ∨ bv.ownBlock = some q)) := hk2); (have H2 : Hid (w2.heap[F]? = some (.cells #[dv', bv'] 80 (0, 0)) ∧ w2.ownsRow base 5 1 dv' (zs.length + bs.length) (u8l zs ++ u8l bs) ∧ w2.ownsRow base 3 1 bv' (bg.length + 1) (i64l bg ++ [.int .i64 (zs.length : Int)])) := ⟨hf2, ho2, hp2⟩); clear hf2 ho2 hp2 hk2))
  go_ret
  have h := H.out
  have hk := HK.out
  obtain ⟨q1, q2, q3⟩ := H2.out
  have hl := h.low
  have hz := hk.size
  refine ⟨rfl, ⟨dv', bv', ⟨⟨hl.1, hl.2.1, hl.2.2.1, by omega⟩, ?_, ?_, q1, ?_, ?_⟩⟩, hk.below hl.2.2.2 ?_⟩
  · refine (hk.block _ (Array.getElem?_eq_some_iff.1 h.disk).1 ?_).trans h.disk
    rintro (e | e | e)
    · exact ne_tag h.disk h.file (by decide) e
    · exact own_other h.data h.disk (by decide) e.symm
    · exact own_other h.begins h.disk (by decide) e.symm
  · refine (hk.block _ (Array.getElem?_eq_some_iff.1 h.map).1 ?_).trans h.map
    rintro (e | e | e)
    · exact ne_map h.file h.map e
    · obtain ⟨cur, hc⟩ := own_tag h.data e
      exact ne_map hc h.map rfl
    · obtain ⟨cur, hc⟩ := own_tag h.begins e
      exact ne_map hc h.map rfl
  · rw [List.length_append, ← u8l_app]; exact q2
  · rw [List.length_append]
    have e : i64l (bg ++ [(zs.length : Int)]) = i64l bg ++ [.int .i64 (zs.length : Int)] := by simp [i64l]
    rw [e]
    exact q3
  · rintro q (e | e | e)
    · rw [e]; exact hl.2.2.1
    · exact (h.data.lt q e).1
    · exact (h.begins.lt q e).1

set_option maxRecDepth 20000 in
set_option maxHeartbeats 4000000 in
/-- The first bytes. -/
theorem append_first (D base : Nat) (s : Int) (sv : Value) (bs : List Int) (w : World) (hD : w.heap[D]? = some (.cells #[.map none, .int .i64 s] 70 (0, 0))) (hb : base ≤ D) (hs : Src5 w sv bs) (hn : 0 < bs.length) (hl : bs.length ≤ 1000) :
    Calls Try.prog 23 #[.pointer (some ⟨D, 0, none⟩), .string ⟨#[97]⟩, sv] w fun e w' => e = .returned (.int .i64 0) ∧ (∃ B F dv' bv', One w' D base B F s dv' bv' bs [0]) ∧ Below base w w' := by
  have hlt := (Array.getElem?_eq_some_iff.1 hD).1
  have HD : Hid (w.heap[D]? = some (.cells #[.map none, .int .i64 s] 70 (0, 0)) ∧ base ≤ D ∧ D < w.heap.size) := ⟨hD, hb, hlt⟩
  have HS : Hid (Src5 w sv bs) := hs
  have HL : Hid (0 < bs.length ∧ bs.length ≤ 1000) := ⟨hn, hl⟩
  obtain ⟨sa, sc, hsv⟩ := (hs w fun _ _ _ _ => rfl).slice
  obtain ⟨N, hN⟩ : ∃ N, bs.length = N := ⟨_, rfl⟩
  have hNM : (N : Int) ≤ 1000 := by omega
  have cD : w.cell? ⟨D, 0, none⟩ = some (.map none) := by rw [cell_of_row _ _ _ _ _ _ hD]; rfl
  have HFI : Hid (Calls Try.prog 48 #[.pointer (some ⟨D, 0, none⟩), .string ⟨#[97]⟩] w fun e w' => e = .returned (.tuple #[.pointer none, .int .i64 5]) ∧ w' = w) := find_new D _ w cD
  obtain ⟨W, hW⟩ : ∃ W, w.alloc (.cells #[.slice none 0 0, .slice none 0 0] 80) = W := ⟨_, rfl⟩
  have hWD : W.heap[D]? = some (.cells #[.map none, .int .i64 s] 70 (0, 0)) := by rw [← hW]; exact (Below.heap_alloc _ _ _ hlt).trans hD
  have hWF : W.heap[w.heap.size]? = some (.cells #[.slice none 0 0, .slice none 0 0] 80 (0, 0)) := by rw [← hW]; exact Go.heap_alloc_new _ _
  have cW : W.cell? ⟨D, 0, none⟩ = some (.map none) := by rw [cell_of_row _ _ _ _ _ _ hWD]; rfl
  have cWF : W.cell? ⟨w.heap.size, 0, none⟩ = some (.slice none 0 0) := by rw [cell_of_row _ _ _ _ _ _ hWF]; rfl
  have hWS : W.heap.size = w.heap.size + 1 := by rw [← hW]; simp
  have HPU : Hid (Calls Try.prog 44 #[.pointer (some ⟨D, 0, none⟩), .string ⟨#[97]⟩, .pointer (some ⟨w.heap.size, 0, none⟩)] W fun e w' => (∃ v, e = .returned v) ∧ w'.heap[D]? = some (.cells #[.map (some W.heap.size), .int .i64 s] 70 (0, 0)) ∧ MapAt w' W.heap.size [(⟨#[97]⟩, .pointer (some ⟨w.heap.size, 0, none⟩), 0)] 1 ∧ Kep W w' (fun q => q = D)) := put_first D ⟨#[97]⟩ (some ⟨w.heap.size, 0, none⟩) W (.int .i64 s) 70 hWD
  have HWW : Hid (W.heap[w.heap.size]? = some (.cells #[.slice none 0 0, .slice none 0 0] 80 (0, 0)) ∧ W.heap.size = w.heap.size + 1 ∧ Below w.heap.size w W) := ⟨hWF, hWS, by rw [← hW]; exact (Below.refl _ _).alloc (Nat.le_refl _) _⟩
  rw [hN] at hsv
  rw [hsv] at HS ⊢
  clear hs hn hl hN hsv hWS hWF hWD hD
  go_enter Try.func23, Try.ntmps23
  go_wp2_with (first | (go_at_call 48; refine HFI.out.mono ?_; rintro e w1 ⟨rfl, hw1⟩; rw [hw1]; clear hw1) | (go_at_call 9; refine (name_a _).mono ?_; rintro e w1 ⟨rfl, hw1⟩; rw [hw1]; clear hw1) | (go_at_call 44; refine HPU.out.mono ?_; rintro e w2 ⟨⟨v2, rfl⟩, hd2, hm2, hk2⟩; (have HF2 : Hid (w2.heap[w.heap.size]? = some (.cells #[.slice none 0 0, .slice none 0 0] 80 (0, 0))) := (hk2.block _ (by have := HWW.out.2.1; omega) (by show ¬ (w.heap.size = D); omega)).trans HWW.out.1); (have HS2 : Hid (Src5 w2 (.slice sa N sc) bs) := HS.out.kep (fun q c f hq => (hk2.block q (by have h1 := (Array.getElem?_eq_some_iff.1 hq).1; have h2 := HWW.out.2.1; omega) (ne_tag hq HD.out.1 (by decide))).trans (HWW.out.2.2.block q (Array.getElem?_eq_some_iff.1 hq).1))); (have H2 : Hid (w2.heap[D]? = some (.cells #[.map (some W.heap.size), .int .i64 s] 70 (0, 0)) ∧ MapAt w2 W.heap.size [(⟨#[97]⟩, .pointer (some ⟨w.heap.size, 0, none⟩), 0)] 1 ∧ Kep W w2 (fun q => q = D)) := ⟨hd2, hm2, hk2⟩); clear hd2 hm2 hk2) | (go_at_call 50; refine (write_any w.heap.size (.slice none 0 0) (.slice none 0 0) 0 0 base [] [] _ bs w2 HF2.out (World.ownsRow_nil _ _ _ _) (World.ownsRow_nil _ _ _ _) (by have h1 := HD.out; have h2 := HWW.out.2.1; have h3 := H2.out.2.2.size; omega) HS2.out HL.out.1 (by have := HL.out; omega) (by decide)).mono ?_; rintro e w3 ⟨⟨v3, rfl⟩, hr3⟩; (have H3 : Hid (∃ dv' bv', w3.heap[w.heap.size]? = some (.cells #[dv', bv'] 80 (0, 0)) ∧ w3.ownsRow base 5 1 dv' (0 + bs.length) ([] ++ u8l bs) ∧ w3.ownsRow base 3 1 bv' (0 + 1) ([] ++ [.int .i64 ((0 : Nat) : Int)]) ∧ Kep w2 w3 (fun q => q = w.heap.size ∨ (Value.slice none 0 0).ownBlock = some q ∨ (Value.slice none 0 0).ownBlock = some q)) := hr3); clear hr3))
  go_ret
  obtain ⟨dv', bv', q1, q2, q3, hk3⟩ := H3.out
  obtain ⟨p1, p2, hk2⟩ := H2.out
  obtain ⟨g1, g2, g3⟩ := HWW.out
  obtain ⟨f1, f2, f3⟩ := HD.out
  have z2 := hk2.size
  have z3 := hk3.size
  rw [Nat.zero_add, List.nil_append] at q2 q3
  have hx : ∀ q, q ≠ w.heap.size → ¬ (q = w.heap.size ∨ (Value.slice none 0 0).ownBlock = some q ∨ (Value.slice none 0 0).ownBlock = some q) := fun q hq e => by
    rcases e with e | e | e
    · exact hq e
    · cases e
    · cases e
  refine ⟨rfl, ⟨W.heap.size, w.heap.size, dv', bv', ⟨⟨f2, by omega, by omega, by omega⟩, ?_, ?_, q1, q2, ?_⟩⟩, ?_⟩
  · exact (hk3.block D (by omega) (hx D (by omega))).trans p1
  · refine (hk3.block W.heap.size (Array.getElem?_eq_some_iff.1 p2).1 (hx _ (by omega))).trans p2
  · exact q3
  · have b2 : Below base W w2 := hk2.below (by omega) fun q e => by rw [e]; exact f2
    have b3 : Below base w2 w3 := hk3.below (by omega) fun q e => by
      by_cases hq : q = w.heap.size
      · omega
      · exact absurd e (hx q hq)
    exact ((g3.mono (by omega)).trans b2).trans b3
end Go.Proofs.Ytmlbojihjgbdlaa

/- A file is synced, and read. -/
namespace Go.Proofs.Ytmlbojihjgbdlaa
open Go.RowKit
set_option linter.unusedVariables false
set_option linter.unusedSimpArgs false

set_option maxRecDepth 20000 in
set_option maxHeartbeats 4000000 in
theorem sync_one (D base B F : Nat) (s : Int) (dv bv : Value) (zs bg : List Int) (w : World) (h : One w D base B F s dv bv zs bg) (s0 : 0 ≤ s) (s1 : s ≤ 1000) :
    Calls Try.prog 24 #[.pointer (some ⟨D, 0, none⟩), .string ⟨#[97]⟩] w fun e w' => e = .returned (.int .i64 0) ∧ One w' D base B F (s + 1) dv (.slice none 0 0) zs [] ∧ Below base w w' := by
  have H : Hid (One w D base B F s dv bv zs bg) := h
  obtain ⟨ba, bc, hbv⟩ := own_slice h.begins
  have hDF : D ≠ F := ne_tag h.disk h.file (by decide)
  have cD : w.cell? ⟨D, 0, none⟩ = some (.map (some B)) := by rw [cell_of_row _ _ _ _ _ _ h.disk]; rfl
  have cF : w.cell? ⟨F, 1, none⟩ = some bv := by rw [cell_of_row _ _ _ _ _ _ h.file]; rfl
  have fF : w.frozen? ⟨F, 1, none⟩ = false := frozen_of_row _ _ 1 _ _ h.file
  rw [hbv] at cF
  have HFI : Hid (Calls Try.prog 48 #[.pointer (some ⟨D, 0, none⟩), .string ⟨#[97]⟩] w fun e w' => e = .returned (.tuple #[.pointer (some ⟨F, 0, none⟩), .int .i64 0]) ∧ w' = w) := find_some D _ B 1 0 _ _ w cD h.map fnd_a
  obtain ⟨W, hW⟩ : ∃ W, w.setCell ⟨F, 1, none⟩ (.slice none 0 0) = W := ⟨_, rfl⟩
  have e1 : W.heap[F]? = some (.cells #[dv, .slice none 0 0] 80 (0, 0)) := by rw [← hW]; exact row_set _ h.file
  have e2 : W.heap[D]? = some (.cells #[.map (some B), .int .i64 s] 70 (0, 0)) := by rw [← hW, Below.heap_setCell _ _ _ _ hDF]; exact h.disk
  have e3 : ∀ q, q ≠ F → W.heap[q]? = w.heap[q]? := fun q hq => by rw [← hW]; exact Below.heap_setCell _ _ _ _ hq
  have e4 : W.heap.size = w.heap.size ∧ W.os = w.os ∧ W.tape = w.tape ∧ W.output = w.output := by rw [← hW]; exact ⟨by simp, rfl, rfl, rfl⟩
  have cW : W.cell? ⟨D, 1, none⟩ = some (.int .i64 s) := by rw [cell_of_row _ _ _ _ _ _ e2]; rfl
  have fW : W.frozen? ⟨D, 1, none⟩ = false := frozen_of_row _ _ 1 _ _ e2
  have HE : Hid (W.heap[F]? = some (.cells #[dv, .slice none 0 0] 80 (0, 0)) ∧ W.heap[D]? = some (.cells #[.map (some B), .int .i64 s] 70 (0, 0)) ∧ (∀ q, q ≠ F → W.heap[q]? = w.heap[q]?) ∧ W.heap.size = w.heap.size ∧ W.os = w.os ∧ W.tape = w.tape ∧ W.output = w.output) := ⟨e1, e2, e3, e4⟩
  clear h e1 e2 e3 e4 hbv
  go_enter Try.func24, Try.ntmps24
  go_wp2_with (go_at_call 48; refine HFI.out.mono ?_; rintro e w1 ⟨rfl, hw1⟩; rw [hw1]; clear hw1)
  go_ret
  have h := H.out
  obtain ⟨e1, e2, e3, z, o1, o2, o3⟩ := HE.out
  have hl := h.low
  have g : ∀ q, q ≠ F → q ≠ D → (W.setCell ⟨D, 1, none⟩ (.int .i64 (s + 1))).heap[q]? = w.heap[q]? := fun q h1 h2 => by
    rw [Below.heap_setCell _ _ _ _ h2]; exact e3 q h1
  refine ⟨rfl, ⟨⟨hl.1, hl.2.1, hl.2.2.1, by simp; omega⟩, row_set _ e2, ?_, ?_, ?_, World.ownsRow_nil _ _ _ _⟩, ?_⟩
  · exact (g B (ne_map h.file h.map) (ne_map h.disk h.map)).trans h.map
  · rw [Below.heap_setCell _ _ _ _ hDF.symm]; exact e1
  · refine own_at h.data fun q hq => ?_
    obtain ⟨cur, hc⟩ := own_tag h.data hq
    exact g q (ne_tag hc h.file (by decide)) (ne_tag hc h.disk (by decide))
  · exact ⟨o1, o2, o3, by simp; omega, fun q hq => g q (by omega) (by omega)⟩
end Go.Proofs.Ytmlbojihjgbdlaa

/- Bytes are cloned; a file is read; where a write ends. -/
namespace Go.Proofs.Ytmlbojihjgbdlaa
open Go.RowKit
set_option linter.unusedVariables false
set_option linter.unusedSimpArgs false

theorem bel1 (w : World) (o : Obj) : Below w.heap.size w (w.alloc o) := (Below.refl _ w).alloc (Nat.le_refl _) o
set_option maxRecDepth 20000 in
set_option maxHeartbeats 1000000 in
theorem clone_any (v : Value) (bs : List Int) (w : World) (hS : Src w v bs) (hl : bs.length ≤ 9000000) : Calls Try.prog 49 #[v] w fun e w' => (∃ v', e = .returned v' ∧ w'.ownsRow w.heap.size 5 1 v' bs.length (u8l bs)) ∧ Below w.heap.size w w' := by
  rcases hS with ⟨rfl, rfl⟩ | ⟨ad, cap, rfl, hcap, hC⟩
  · have hq : ∀ w, (binOp .eql 31 (.slice none 0 0) (.slice none 0 0)).run Try.prog w = .ok (.bool true) w := fun w => by kernel_rfl
    go_enter Try.func49, Try.ntmps49
    go_wp2_with fail
    go_ret
    exact ⟨⟨_, rfl, World.ownsRow_nil _ _ _ _⟩, Below.refl _ _⟩
  · have HS : Hid (Src w (.slice (some ad) bs.length cap) bs ∧ bs.length ≤ 9000000) := ⟨.inr ⟨ad, cap, rfl, hcap, hC⟩, hl⟩
    obtain ⟨L, hL⟩ : ∃ L, bs.length = L := ⟨_, rfl⟩
    have HL : Hid (bs.length = L) := hL
    rw [hL] at HS ⊢
    have hq : ∀ w, (binOp .eql 31 (.slice (some ad) L cap) (.slice none 0 0)).run Try.prog w = .ok (.bool false) w := fun w => by kernel_rfl
    clear hcap hC hl hL
    go_enter Try.func49, Try.ntmps49
    go_wp2_with (at_builtin; (refine wpList_append_src rfl (.tmp 5) (.tmp 6) rfl w.heap.size (.slice (some ⟨w.heap.size, 0, none⟩) 0 0) 0 [] rfl (World.ownsRow_lit w #[] 0 (Nat.le_refl _) (by decide) rfl) (.slice (some ad) L cap) bs rfl (HS.out.1.later (bel1 _ _)) (by have h1 := HS.out.2; have h2 := HL.out; omega) (by simp) ?_; intro v' w' ho' hg'))
    go_ret
    refine ⟨⟨_, rfl, ?_⟩, (bel1 _ _).grown hg' (by simp) ?_⟩
    · have h := ho'
      rw [Nat.zero_add, List.nil_append, HL.out] at h
      exact h
    · intro q hq'
      simp [Value.ownBlock] at hq'
      omega


set_option maxRecDepth 20000 in
set_option maxHeartbeats 4000000 in
theorem read_one (D base B F : Nat) (s : Int) (dv bv : Value) (zs bg : List Int) (w : World) (h : One w D base B F s dv bv zs bg) (hl : zs.length ≤ 9000000) :
    Calls Try.prog 20 #[.pointer (some ⟨D, 0, none⟩), .string ⟨#[97]⟩] w fun e w' => (∃ v', e = .returned (.tuple #[v', .int .i64 0]) ∧ w'.ownsRow w.heap.size 5 1 v' zs.length (u8l zs)) ∧ Below w.heap.size w w' := by
  obtain ⟨da, dc, hdv⟩ := own_slice h.data
  have cD : w.cell? ⟨D, 0, none⟩ = some (.map (some B)) := by rw [cell_of_row _ _ _ _ _ _ h.disk]; rfl
  have cF : w.cell? ⟨F, 0, none⟩ = some dv := by rw [cell_of_row _ _ _ _ _ _ h.file]; rfl
  have HFI : Hid (Calls Try.prog 48 #[.pointer (some ⟨D, 0, none⟩), .string ⟨#[97]⟩] w fun e w' => e = .returned (.tuple #[.pointer (some ⟨F, 0, none⟩), .int .i64 0]) ∧ w' = w) := find_some D _ B 1 0 _ _ w cD h.map fnd_a
  have HC : Hid (Calls Try.prog 49 #[dv] w fun e w' => (∃ v', e = .returned v' ∧ w'.ownsRow w.heap.size 5 1 v' zs.length (u8l zs)) ∧ Below w.heap.size w w') := clone_any dv zs w (own_src h.data) hl
  obtain ⟨M, hM⟩ : ∃ M, zs.length = M := ⟨_, rfl⟩
  rw [hM] at hdv HC ⊢
  rw [hdv] at cF HC
  clear h hl hdv hM
  go_enter Try.func20, Try.ntmps20
  go_wp2_with (first | (go_at_call 48; refine HFI.out.mono ?_; rintro e w1 ⟨rfl, hw1⟩; rw [hw1]; clear hw1) | (go_at_call 49; refine HC.out.mono ?_; rintro e w2 ⟨⟨v2, rfl, ho2⟩, hb2⟩; (have H2 : Hid (w2.ownsRow w.heap.size 5 1 v2 M (u8l zs) ∧ Below w.heap.size w w2) := ⟨ho2, hb2⟩); clear ho2 hb2))
  go_ret2
  exact ⟨⟨_, rfl, H2.out.1⟩, H2.out.2⟩
end Go.Proofs.Ytmlbojihjgbdlaa

/- Where a write ends. -/
namespace Go.Proofs.Ytmlbojihjgbdlaa
open Go.RowKit
set_option linter.unusedVariables false
set_option linter.unusedSimpArgs false

theorem i64_at {w : World} {base g cap : Nat} {bg : List Int} (h : w.ownsRow base 3 1 (.slice (some ⟨g, 0, none⟩) bg.length cap) bg.length (i64l bg)) (i : Nat) (hi : i < bg.length) : w.cell? ⟨g, i, none⟩ = some (.int .i64 (bg.getD i 0)) := by
  rw [h.cellAt i (by omega)]
  unfold i64l
  rw [List.getElem?_map, List.getElem?_eq_getElem hi, List.getD_eq_getElem?_getD, List.getElem?_eq_getElem hi]
  rfl
def endI (n : Nat) (bg : List Int) (i : Nat) : Int := if i + 1 < bg.length then bg.getD (i + 1) 0 else (n : Int)
set_option maxRecDepth 20000 in
set_option maxHeartbeats 4000000 in
theorem end_any (F : Nat) (da : Option Addr) (dc n base i : Nat) (bv : Value) (bg : List Int) (w : World) (hF : w.heap[F]? = some (.cells #[.slice da n dc, bv] 80 (0, 0))) (hb : w.ownsRow base 3 1 bv bg.length (i64l bg)) (hi : i < bg.length) (hl : bg.length ≤ 10000000) :
    Calls Try.prog 60 #[.pointer (some ⟨F, 0, none⟩), .int .i64 (i : Int)] w fun e w' => e = .returned (.int .i64 (endI n bg i)) ∧ w' = w := by
  obtain ⟨g, cap, rfl⟩ := own_form hb (by omega)
  have c0 : w.cell? ⟨F, 0, none⟩ = some (.slice da n dc) := by rw [cell_of_row _ _ _ _ _ _ hF]; rfl
  have c1 : w.cell? ⟨F, 1, none⟩ = some (.slice (some ⟨g, 0, none⟩) bg.length cap) := by rw [cell_of_row _ _ _ _ _ _ hF]; rfl
  by_cases h : i + 1 < bg.length
  · have hc := i64_at hb (i + 1) h
    have he : endI n bg i = bg.getD (i + 1) 0 := by unfold endI; rw [if_pos h]
    rw [he]
    generalize bg.getD (i + 1) 0 = X at *
    have hlt : (i : Int) + 1 < (bg.length : Int) := by omega
    have hl' : (bg.length : Int) ≤ 10000000 := by omega
    have hcap : (bg.length : Int) ≤ (cap : Int) := by have := own_cap hb; omega
    generalize bg.length = m at *
    obtain ⟨k, hk⟩ : ∃ k : Nat, i + 1 = k := ⟨_, rfl⟩
    rw [hk] at hc
    have hk' : (i : Int) + 1 = (k : Int) := by omega
    clear hb hF hi hl he h
    go_enter Try.func60, Try.ntmps60
    go_wp2
    go_ret
    exact ⟨rfl, rfl⟩
  · have he : endI n bg i = (n : Int) := by unfold endI; rw [if_neg h]
    rw [he]
    have hlt : ¬ ((i : Int) + 1 < (bg.length : Int)) := by omega
    have hl' : (bg.length : Int) ≤ 10000000 := by omega
    have hi' : (i : Int) < (bg.length : Int) := by omega
    generalize bg.length = m at *
    clear hb hF hi hl he h
    go_enter Try.func60, Try.ntmps60
    go_wp2
    go_ret
    exact ⟨rfl, rfl⟩
end Go.Proofs.Ytmlbojihjgbdlaa

/- A Keep that can be. -/
namespace Go.Proofs.Ytmlbojihjgbdlaa
open Go.RowKit
set_option linter.unusedVariables false
set_option linter.unusedSimpArgs false

set_option maxRecDepth 20000 in
set_option maxHeartbeats 4000000 in
theorem canKeep_one (D base B F : Nat) (s : Int) (dv bv : Value) (zs bg : List Int) (w : World) (h : One w D base B F s dv bv zs bg) (g nc : Nat) (ns : List Int) (hc : ∀ i, i < ns.length → w.cell? ⟨g, i, none⟩ = some (.int .i64 (ns.getD i 0))) (hns : ∀ i, i < ns.length → 0 ≤ ns.getD i 0) (hl : ns.length ≤ bg.length) (hm : bg.length ≤ 1000) (hcap : ns.length ≤ nc) (hgl : g < w.heap.size) :
    Calls Try.prog 42 #[.pointer (some ⟨D, 0, none⟩), .agg #[.string ⟨#[97]⟩, .slice (some ⟨g, 0, none⟩) ns.length nc]] w fun e w' => e = .returned (.int .i64 0) ∧ Below w.heap.size w w' := by
  obtain ⟨ba, bc, hbv⟩ := own_slice h.begins
  obtain ⟨W, hW⟩ : ∃ W, w.alloc (.cells #[.string ⟨#[97]⟩, .slice (some ⟨g, 0, none⟩) ns.length nc] 45) = W := ⟨_, rfl⟩
  have hB : Below w.heap.size w W := by rw [← hW]; exact bel1 _ _
  have h2 : One W D base B F s dv bv zs bg := h.keep hB
  have cD : W.cell? ⟨D, 0, none⟩ = some (.map (some B)) := by rw [cell_of_row _ _ _ _ _ _ h2.disk]; rfl
  have cF : W.cell? ⟨F, 1, none⟩ = some bv := by rw [cell_of_row _ _ _ _ _ _ h2.file]; rfl
  have hx : W.heap[w.heap.size]? = some (.cells #[.string ⟨#[97]⟩, .slice (some ⟨g, 0, none⟩) ns.length nc] 45 (0, 0)) := by rw [← hW]; exact Go.heap_alloc_new _ _
  have x0 : W.cell? ⟨w.heap.size, 0, none⟩ = some (.string ⟨#[97]⟩) := by rw [cell_of_row _ _ _ _ _ _ hx]; rfl
  have x1 : W.cell? ⟨w.heap.size, 1, none⟩ = some (.slice (some ⟨g, 0, none⟩) ns.length nc) := by rw [cell_of_row _ _ _ _ _ _ hx]; rfl
  have HFI : Hid (Calls Try.prog 48 #[.pointer (some ⟨D, 0, none⟩), .string ⟨#[97]⟩] W fun e w' => e = .returned (.tuple #[.pointer (some ⟨F, 0, none⟩), .int .i64 0]) ∧ w' = W) := find_some D _ B 1 0 _ _ W cD h2.map fnd_a
  have HC : Hid (∀ i, i < ns.length → W.cell? ⟨g, i, none⟩ = some (.int .i64 (ns.getD i 0)) ∧ 0 ≤ ns.getD i 0) := fun i hi => ⟨(hB.cell (p := ⟨g, i, none⟩) hgl).trans (hc i hi), hns i hi⟩
  have HB : Hid (Below w.heap.size w W) := hB
  have hll : (ns.length : Int) ≤ (bg.length : Int) := by omega
  have hmm : (bg.length : Int) ≤ 1000 := by omega
  have hcc : (ns.length : Int) ≤ (nc : Int) := by omega
  have hdd : decide ((bg.length : Int) < (ns.length : Int)) = false := by simpa using hll
  rw [hbv] at cF
  clear h h2 hB hx hc hns hl hm hcap hbv
  generalize bg.length = m at *
  generalize ns.length = N at *
  go_enter Try.func42, Try.ntmps42
  go_wp2_with (go_at_call 48; refine HFI.out.mono ?_; rintro e w1 ⟨rfl, hw1⟩; rw [hw1]; clear hw1)
  go_quiet (fail)
  go_wp2
  obtain ⟨W3, hW3⟩ : ∃ W3, W.drewN nq = W3 := ⟨_, rfl⟩
  have HC3 : Hid (∀ i, i < N → W3.cell? ⟨g, i, none⟩ = some (.int .i64 (ns.getD i 0)) ∧ 0 ≤ ns.getD i 0) := by rw [← hW3]; exact fun i hi => HC.out i hi
  have HB3 : Hid (Below w.heap.size w W3) := by rw [← hW3]; exact ⟨HB.out.os, HB.out.tape, HB.out.output, HB.out.size, HB.out.block⟩
  rw [hW3]
  clear hW3 cD cF x0 x1 HC HB HFI hW
  go_loopw [31, 8] (fun i x wr => ∃ k : Nat, k ≤ N ∧ i = .int .i64 (k : Int) ∧ wr = W3) (fun i x wr => N - (intOf i).toNat)
  case atStart => exact ⟨0, by omega, rfl, rfl⟩
  case round =>
    obtain ⟨k, hk, rfl, rfl⟩ := hrel
    by_cases hlt : k < N
    · obtain ⟨c1, c2⟩ := HC3.out k hlt
      generalize ns.getD k 0 = X at c1 c2
      have c3 : ¬ (X < 0) := by omega
      go_wp2
      go_roundw
      case rel => exact ⟨k + 1, by omega, by go_num, trivial⟩
      case measure => simp [intOf]; omega
    · have hge : ¬ ((k : Int) < (N : Int)) := by omega
      go_wp2
      go_ret
      exact ⟨rfl, HB3.out⟩
end Go.Proofs.Ytmlbojihjgbdlaa

/- The file of the fixed run, crashed. -/
namespace Go.Proofs.Ytmlbojihjgbdlaa
open Go.RowKit
set_option linter.unusedVariables false
set_option linter.unusedSimpArgs false

theorem size5 : (Try.prog.info? 5).map (·.size) = some 1 := by kernel_rfl
def z8 : Array Value := #[.int .u8 0, .int .u8 0, .int .u8 0, .int .u8 0, .int .u8 0, .int .u8 0, .int .u8 0, .int .u8 0]
def z8a : Array Value := #[.int .u8 97, .int .u8 98, .int .u8 99, .int .u8 0, .int .u8 0, .int .u8 0, .int .u8 0, .int .u8 0]
theorem make8 (w : World) : (Instr.makeSlice 31 (.int .i64 8) (.int .i64 8)).run Try.prog w = .ok (.slice (some ⟨w.heap.size, 0, none⟩) 8 8) (w.alloc (.cells z8 5)) := by
  obtain ⟨i0, hi, hz0, hz1, hz2⟩ := info_parts info5
  have h := run_make (P := Try.prog) w 31 5 i0 _ Try.underlying31 hi hz0 .i64 .i64 8 8 (by decide) (by decide) (by rw [hz2]; decide) (by decide)
  rw [h, hz1]
  have e : madeCells (Value.int .u8 0).cells (Int.toNat 8 * 1) = z8 := by kernel_rfl
  rw [e]
  rfl
set_option maxRecDepth 20000 in
set_option maxHeartbeats 4000000 in
theorem crash_known (F base : Nat) (dv bv : Value) (w : World) (hF : w.heap[F]? = some (.cells #[dv, bv] 80 (0, 0))) (hd : w.ownsRow base 5 1 dv 8 (u8l [97, 98, 99, 100, 101, 102, 103, 104])) (hb : w.ownsRow base 3 1 bv 2 (i64l [3, 5])) (g nc : Nat) (n0 : w.cell? ⟨g, 0, none⟩ = some (.int .i64 0)) (n1 : w.cell? ⟨g, 1, none⟩ = some (.int .i64 2)) (hnc : 2 ≤ nc) (hg : g < w.heap.size) (hbase : base ≤ w.heap.size) (hgF : g ≠ F) :
    Calls Try.prog 43 #[.pointer (some ⟨F, 0, none⟩), .slice (some ⟨g, 0, none⟩) 2 nc] w fun e w' => (∃ v, e = .returned v) ∧ (∃ dv', w'.heap[F]? = some (.cells #[dv', .slice none 0 0] 80 (0, 0)) ∧ w'.ownsRow base 5 1 dv' 7 (u8l [97, 98, 99, 0, 0, 102, 103])) ∧ Kep w w' (fun q => q = F) := by
  have hlt : F < w.heap.size := (Array.getElem?_eq_some_iff.1 hF).1
  obtain ⟨dg, dc, rfl⟩ := own_form hd (by decide)
  obtain ⟨bb, bc, rfl⟩ := own_form hb (by decide)
  obtain ⟨W, hW⟩ : ∃ W, w.alloc (.cells z8 5) = W := ⟨_, rfl⟩
  have hB : Below w.heap.size w W := by rw [← hW]; exact bel1 _ _
  have hWF : W.heap[F]? = some (.cells #[.slice (some ⟨dg, 0, none⟩) 8 dc, .slice (some ⟨bb, 0, none⟩) 2 bc] 80 (0, 0)) := (hB.block _ hlt).trans hF
  have hWd : W.ownsRow base 5 1 (.slice (some ⟨dg, 0, none⟩) 8 dc) 8 (u8l [97, 98, 99, 100, 101, 102, 103, 104]) := own_kept hd fun q _ hq => hB.block q hq
  have hWb : W.ownsRow base 3 1 (.slice (some ⟨bb, 0, none⟩) 2 bc) 2 (i64l [3, 5]) := own_kept hb fun q _ hq => hB.block q hq
  have hWk : W.heap[w.heap.size]? = some (.cells z8 5 (0, 0)) := by rw [← hW]; exact Go.heap_alloc_new _ _
  have f0 : w.cell? ⟨F, 0, none⟩ = some (.slice (some ⟨dg, 0, none⟩) 8 dc) := by rw [cell_of_row _ _ _ _ _ _ hF]; rfl
  have F0 : W.cell? ⟨F, 0, none⟩ = some (.slice (some ⟨dg, 0, none⟩) 8 dc) := by rw [cell_of_row _ _ _ _ _ _ hWF]; rfl
  have F1 : W.cell? ⟨F, 1, none⟩ = some (.slice (some ⟨bb, 0, none⟩) 2 bc) := by rw [cell_of_row _ _ _ _ _ _ hWF]; rfl
  have B0 : W.cell? ⟨bb, 0, none⟩ = some (.int .i64 3) := i64_at (bg := [3, 5]) hWb 0 (by decide)
  have B1 : W.cell? ⟨bb, 1, none⟩ = some (.int .i64 5) := i64_at (bg := [3, 5]) hWb 1 (by decide)
  have hmk := make8 w
  rw [hW] at hmk
  have hcap := own_cap hd
  have hcb := own_cap hb
  have HD : Hid (W.ownsRow base 5 1 (.slice (some ⟨dg, 0, none⟩) 8 dc) 8 (u8l [97, 98, 99, 100, 101, 102, 103, 104])) := hWd
  have HK : Hid (W.heap[w.heap.size]? = some (.cells z8 5 (0, 0))) := hWk
  have HF : Hid (W.heap[F]? = some (.cells #[.slice (some ⟨dg, 0, none⟩) 8 dc, .slice (some ⟨bb, 0, none⟩) 2 bc] 80 (0, 0))) := hWF
  have hc8 : (8 : Int) ≤ (dc : Int) := by omega
  have hc2 : (2 : Int) ≤ (bc : Int) := by omega
  have HBW : Hid (W.ownsRow base 3 1 (.slice (some ⟨bb, 0, none⟩) 2 bc) 2 (i64l [3, 5])) := hWb
  have HDw : Hid (w.ownsRow base 5 1 (.slice (some ⟨dg, 0, none⟩) 8 dc) 8 (u8l [97, 98, 99, 100, 101, 102, 103, 104])) := hd
  clear hW hF hd hb hWF hWd hWb hWk
  obtain ⟨k, hk⟩ : ∃ k, w.heap.size = k := ⟨_, rfl⟩
  rw [hk] at HK hmk hB
  have hsrc : ∀ j v, (u8l [97, 98, 99])[j]? = some v → W.cell? ((⟨dg, 0, none⟩ : Addr).add j) = some v := fun j v hv => by
    have hj : j < 3 := (List.getElem?_eq_some_iff.1 hv).1
    rw [Addr.add_mid, Nat.zero_add, HD.out.cellAt j (by omega), ← hv]
    match j, hj with
    | 0, _ => rfl
    | 1, _ => rfl
    | 2, _ => rfl
  have hcp := run_copy_row (P := Try.prog) W 31 31 3 5 k 0 8 8 ⟨dg, 0, none⟩ 3 dc z8 5 (u8l [97, 98, 99]) Try.underlying31 size5 HK.out (by decide) hsrc (by decide) (u8l_one _)
  obtain ⟨W2, hW2⟩ : ∃ W2, W.setRow k (z8.toList.take 0 ++ u8l [97, 98, 99] ++ z8.toList.drop (0 + (u8l [97, 98, 99]).length)).toArray = W2 := ⟨_, rfl⟩
  rw [hW2] at hcp
  have hcp' : (Builtin.copy_ #[31, 31] 3 #[.slice (some ⟨k, 0, none⟩) 8 8, .slice (some ⟨dg, 0, none⟩) 3 dc]).run Try.prog W = .ok (.int .i64 3) W2 := hcp
  have hK2 : W2.heap[k]? = some (.cells z8a 5 (0, 0)) := by rw [← hW2]; exact setRow_heap W k _ _ 5 _ HK.out
  have hO2 : ∀ q, q ≠ k → W2.heap[q]? = W.heap[q]? := fun q hq => by rw [← hW2]; exact setRow_other W k q _ hq
  have hS2 : W2.heap.size = W.heap.size ∧ W2.os = W.os ∧ W2.tape = W.tape ∧ W2.output = W.output := by rw [← hW2]; exact ⟨by simp [World.setRow], rfl, rfl, rfl⟩
  have hc2' : ∀ b i v, b ≠ k → W.cell? ⟨b, i, none⟩ = some v → W2.cell? ⟨b, i, none⟩ = some v := fun b i v hb hv => by
    have e : W2.cell? ⟨b, i, none⟩ = W.cell? ⟨b, i, none⟩ := by unfold World.cell?; rw [hO2 b hb]
    rw [e]; exact hv
  have hFk : F ≠ k := by omega
  have hbk : bb ≠ k := ne_tag (own_tag HBW.out rfl).choose_spec HK.out (by decide)
  have hdk : dg ≠ k := by have h1 := (HDw.out.lt dg rfl).2; omega
  have hgk : g ≠ k := by omega
  have G0 := hc2' F 0 _ hFk F0
  have G1 := hc2' F 1 _ hFk F1
  have G2 := hc2' bb 0 _ hbk B0
  have G3 := hc2' bb 1 _ hbk B1
  have N0 := hc2' g 0 _ hgk ((hB.cell (p := ⟨g, 0, none⟩) (show g < k by omega)).trans n0)
  have N1 := hc2' g 1 _ hgk ((hB.cell (p := ⟨g, 1, none⟩) (show g < k by omega)).trans n1)
  have HE : ∀ (V : World), V.heap = W2.heap → ∀ (i : Nat), i < 2 → Calls Try.prog 60 #[.pointer (some ⟨F, 0, none⟩), .int .i64 (i : Int)] V fun e w' => e = .returned (.int .i64 (endI 8 [3, 5] i)) ∧ ∃ n, w' = V.drewN n := fun V hV i hi => by
    refine (end_any F _ dc 8 base i _ [3, 5] V (by rw [hV]; exact (hO2 F hFk).trans HF.out) (own_at (w := W) HBW.out fun q hq => by
      have e : bb = q := by simpa [Value.ownBlock] using hq
      rw [hV]
      exact hO2 q (e ▸ hbk)) hi (by decide)).mono ?_
    rintro e w' ⟨rfl, rfl⟩
    exact ⟨rfl, 0, rfl⟩
  have HE0 : Hid (∀ (V : World), V.heap = W2.heap → Calls Try.prog 60 #[.pointer (some ⟨F, 0, none⟩), .int .i64 0] V fun e w' => e = .returned (.int .i64 5) ∧ ∃ n, w' = V.drewN n) := fun V hV => HE V hV 0 (by decide)
  have HE1 : Hid (∀ (V : World), V.heap = W2.heap → Calls Try.prog 60 #[.pointer (some ⟨F, 0, none⟩), .int .i64 1] V fun e w' => e = .returned (.int .i64 8) ∧ ∃ n, w' = V.drewN n) := fun V hV => HE V hV 1 (by decide)
  clear HE
  clear hcp hsrc hW2
  go_enter Try.func43, Try.ntmps43
  go_upto_region 5 with fail
  go_quiet (fail)
  go_wp2
  obtain ⟨W3, hW3⟩ : ∃ W3, W2.drewN nq = W3 := ⟨_, rfl⟩
  have g2 : W3.cell? ⟨bb, 0, none⟩ = some (.int .i64 3) := by rw [← hW3]; exact G2
  have g3 : W3.cell? ⟨bb, 1, none⟩ = some (.int .i64 5) := by rw [← hW3]; exact G3
  have g0 : W3.cell? ⟨F, 0, none⟩ = some (.slice (some ⟨dg, 0, none⟩) 8 dc) := by rw [← hW3]; exact G0
  have m0 : W3.cell? ⟨g, 0, none⟩ = some (.int .i64 0) := by rw [← hW3]; exact N0
  have m1 : W3.cell? ⟨g, 1, none⟩ = some (.int .i64 2) := by rw [← hW3]; exact N1
  have HH : Hid (W3.heap = W2.heap) := by show _ = _; rw [← hW3]; rfl
  have HQ3 : Hid (W3.os = W2.os ∧ W3.tape = W2.tape ∧ W3.output = W2.output) := by rw [← hW3]; exact ⟨rfl, rfl, rfl⟩
  rw [hW3]
  clear hW3 G0 G1 G2 G3 N0 N1 F0 F1 B0 B1 f0 n0 n1 hmk hcp' hc2'
  refine wp_loop_rounds 3 ?_
  rw [rounds_succ]
  go_wp2
  go_quiet (first | (go_at_call 60; refine Calls.quiet_of (HE0.out _ ?_); exact HH.out))
  go_wp2
  obtain ⟨W4, hW4⟩ : ∃ W4, W3.drewN nq = W4 := ⟨_, rfl⟩
  have r3 : W4.cell? ⟨bb, 1, none⟩ = some (.int .i64 5) := by rw [← hW4]; exact g3
  have r0 : W4.cell? ⟨F, 0, none⟩ = some (.slice (some ⟨dg, 0, none⟩) 8 dc) := by rw [← hW4]; exact g0
  have r1 : W4.cell? ⟨g, 1, none⟩ = some (.int .i64 2) := by rw [← hW4]; exact m1
  have HH4 : Hid (W4.heap = W2.heap) := by show _ = _; rw [← hW4]; exact HH.out
  have HQ4 : Hid (W4.os = W2.os ∧ W4.tape = W2.tape ∧ W4.output = W2.output) := by rw [← hW4]; exact HQ3.out
  rw [hW4]
  clear hW4 g2 g3 g0 m0 m1
  rw [rounds_succ]
  go_wp2
  go_quiet (first | (go_at_call 60; refine Calls.quiet_of (HE1.out _ ?_); exact HH4.out))
  go_upto_region 10 with fail
  obtain ⟨W5, hW5⟩ : ∃ W5, W4.drewN nq = W5 := ⟨_, rfl⟩
  have t0 : W5.cell? ⟨F, 0, none⟩ = some (.slice (some ⟨dg, 0, none⟩) 8 dc) := by rw [← hW5]; exact r0
  have HH5 : Hid (W5.heap = W2.heap) := by show _ = _; rw [← hW5]; exact HH4.out
  have HQ5 : Hid (W5.os = W2.os ∧ W5.tape = W2.tape ∧ W5.output = W2.output) := by rw [← hW5]; exact HQ4.out
  rw [hW5]
  clear hW5 r0 r1 r3
  have HK5 : Hid (W5.heap[k]? = some (.cells z8a.toList.toArray 5 (0, 0))) := by show _ = _; rw [HH5.out]; exact hK2
  have HD5 : Hid (W5.ownsRow base 5 1 (.slice (some ⟨dg, 0, none⟩) 8 dc) 8 (u8l [97, 98, 99, 100, 101, 102, 103, 104])) := own_at (w := W) HD.out fun q hq => by
    have e : dg = q := by simpa [Value.ownBlock] using hq
    rw [HH5.out]
    exact hO2 q (e ▸ hdk)
  have HSR : Hid (∀ j v, (u8l [102, 103])[j]? = some v → W5.cell? ((⟨dg, 5, none⟩ : Addr).add j) = some v) := fun j v hv => by
    have hj : j < 2 := (List.getElem?_eq_some_iff.1 hv).1
    rw [Addr.add_mid, HD5.out.cellAt (5 + j) (by omega), ← hv]
    match j, hj with
    | 0, _ => rfl
    | 1, _ => rfl
  have h7 : (7 : Int) ≤ (dc : Int) := by omega
  have h7' : ¬ ((dc : Int) < 7) := by omega
  have h7n : 7 ≤ dc := by omega
  have h5n : ¬ dc = 5 := by omega
  have hw7 : IntKind.i64.wrap 7 = 7 := by decide
  have h7d : decide ((dc : Int) < 7) = false := by simpa using h7
  go_region_law (refine step_copy_splice rfl (.tmp 74) (.tmp 83) 31 31 rfl 5 Try.underlying31 size5 (some ⟨k, 5, none⟩) (some ⟨dg, 5, none⟩) 3 3 2 (dc - 5) (by simp [Act.eval, Act.put]) (by simp [Act.eval, Act.put]) k 5 z8a.toList 5 HK5.out (u8l [102, 103]) (by decide) (fun _ => ⟨rfl, _, rfl, HSR.out⟩) (by decide) (u8l_one _) k W5 (by repeat (first | exact Below.refl _ _ | refine Below.drew ?_)) (Nat.le_refl _) ?_; intro w6 hg6 hb6)
  have hu2 : (u8l [102, 103]).length = 2 := rfl
  rw [hu2]
  have HX6 : Hid (w6.heap[F]? = some (.cells #[.slice (some ⟨dg, 0, none⟩) 8 dc, .slice (some ⟨bb, 0, none⟩) 2 bc] 80 (0, 0))) := (hb6.block F (by omega)).trans (by rw [HH5.out]; exact (hO2 F hFk).trans HF.out)
  have HK6 : Hid (w6.heap[k]? = some (.cells (u8l [97, 98, 99, 0, 0, 102, 103, 0]).toArray 5 (0, 0))) := hg6
  have HB6 : Hid (Below k W5 w6) := hb6
  have HS6 : Hid (Src w6 (.slice (some ⟨k, 0, none⟩) 7 8) [97, 98, 99, 0, 0, 102, 103]) := .inr ⟨⟨k, 0, none⟩, 8, rfl, by decide, fun j u hu => by
    have hj : j < 7 := (List.getElem?_eq_some_iff.1 hu).1
    rw [Addr.add_mid, Nat.zero_add, cell_of_row _ _ _ _ _ _ HK6.out, ← hu]
    match j, hj with
    | 0, _ => rfl
    | 1, _ => rfl
    | 2, _ => rfl
    | 3, _ => rfl
    | 4, _ => rfl
    | 5, _ => rfl
    | 6, _ => rfl⟩
  have hw72 : IntKind.i64.wrap (5 + ((2 : Nat) : Int)) = 7 := by decide
  rw [hw72]
  clear hg6 hb6 t0 h7 h7' h7n h5n h7d
  go_wp2
  rw [rounds_succ]
  go_wp2_with (go_at_call 49; refine (clone_any _ _ _ HS6.out (by decide)).mono ?_; rintro e w7 ⟨⟨v7, rfl, ho7⟩, hb7⟩; (obtain ⟨va, vc, hv7⟩ := own_slice ho7); subst hv7; (have HO7 : Hid (w7.ownsRow w6.heap.size 5 1 (.slice va 7 vc) 7 (u8l [97, 98, 99, 0, 0, 102, 103])) := ho7); (have HX7 : Hid (w7.heap[F]? = some (.cells #[.slice (some ⟨dg, 0, none⟩) 8 dc, .slice (some ⟨bb, 0, none⟩) 2 bc] 80 (0, 0))) := (hb7.block F (Array.getElem?_eq_some_iff.1 HX6.out).1).trans HX6.out); (have HB7 : Hid (Below w6.heap.size w6 w7) := hb7); (have s0 : w7.cell? ⟨F, 0, none⟩ = some (.slice (some ⟨dg, 0, none⟩) 8 dc) := (by rw [cell_of_row _ _ _ _ _ _ HX7.out]; rfl)); (have s1 : w7.frozen? ⟨F, 0, none⟩ = false := frozen_of_row _ _ 0 _ _ HX7.out); (have s2 : w7.cell? ⟨F, 1, none⟩ = some (.slice (some ⟨bb, 0, none⟩) 2 bc) := (by rw [cell_of_row _ _ _ _ _ _ HX7.out]; rfl)); (have s3 : w7.frozen? ⟨F, 1, none⟩ = false := frozen_of_row _ _ 1 _ _ HX7.out); clear ho7 hb7)
  go_end0
  obtain ⟨o1, o2, o3⟩ := HQ5.out
  have b6 := HB6.out
  have b7 := HB7.out
  have z5 : W5.heap.size = W2.heap.size := by rw [HH5.out]
  have z6 := b6.size
  have z7 := b7.size
  have z1 := hB.size
  have hkk : k < W.heap.size := (Array.getElem?_eq_some_iff.1 HK.out).1
  refine ⟨⟨_, rfl⟩, ⟨.slice va 7 vc, row_set _ (row_set _ HX7.out), ?_⟩, ⟨?_, ?_, ?_, ?_, ?_⟩⟩
  · refine own_low (base := w6.heap.size) ?_ (by omega)
    refine own_at HO7.out fun q hq => ?_
    obtain ⟨cur, hc⟩ := own_tag HO7.out hq
    have hqF : q ≠ F := ne_tag hc HX7.out (by decide)
    rw [Below.heap_setCell _ _ _ _ hqF, Below.heap_setCell _ _ _ _ hqF]
  · exact b7.os.trans (b6.os.trans (o1.trans (hS2.2.1.trans hB.os)))
  · exact b7.tape.trans (b6.tape.trans (o2.trans (hS2.2.2.1.trans hB.tape)))
  · exact b7.output.trans (b6.output.trans (o3.trans (hS2.2.2.2.trans hB.output)))
  · simp
    omega
  · intro q h1 h2
    have hqF : q ≠ F := h2
    have hqk : q < k := by omega
    rw [Below.heap_setCell _ _ _ _ hqF, Below.heap_setCell _ _ _ _ hqF, b7.block q (by omega), b6.block q hqk, HH5.out, hO2 q (by omega)]
    exact hB.block q hqk
end Go.Proofs.Ytmlbojihjgbdlaa
