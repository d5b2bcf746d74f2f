/- A disk with the one file a: bytes are appended, and synced. -/
import Derived.Test.YtfllepgcgbpfiaaA5
namespace Go.Proofs.Ytfllepgcgbpfiaa
open Go.RowKit
set_option linter.unusedVariables false
set_option linter.unusedSimpArgs false

def nmA : ByteArray := ⟨#[97]⟩
theorem ne_map {w : World} {k k' c : Nat} {cs : Array Value} {t : TypeId} {f : Nat × Nat} {l : List Ent} (h : w.heap[k]? = some (.cells cs t f)) (h' : MapAt w k' l c) : k' ≠ k := by
  rintro rfl
  unfold MapAt at h'
  rw [h] at h'
  simp at h'
theorem fnd_a {v : Value} {c : Nat} : fnd ⟨#[97]⟩ [(⟨#[97]⟩, v, c)] 0 = some (0, v) := by
  show (if ((⟨#[97]⟩ : ByteArray) == ⟨#[97]⟩) = true then some (0, v) else none) = _
  rw [if_pos (by decide)]
theorem Src5.kep {w w2 : World} {sv : Value} {bs : List Int} (h : Src5 w sv bs) (hk : ∀ (q : Nat) (c : Array Value) (f : Nat × Nat), w.heap[q]? = some (.cells c 5 f) → w2.heap[q]? = w.heap[q]?) : Src5 w2 sv bs := fun W' h' => h W' fun q c f hq => (h' q c f ((hk q c f hq).trans hq)).trans (hk q c f hq)
def i64l (l : List Int) : List Value := l.map (Value.int .i64)
/-- A disk with the one file a. -/
structure One (w : World) (D base B F : Nat) (s : Int) (dv bv : Value) (zs bg : List Int) : Prop where
  low : base ≤ D ∧ base ≤ B ∧ base ≤ F ∧ base ≤ w.heap.size
  disk : w.heap[D]? = some (.cells #[.map (some B), .int .i64 s] 70 (0, 0))
  map : MapAt w B [(⟨#[97]⟩, .pointer (some ⟨F, 0, none⟩), 0)] 1
  file : w.heap[F]? = some (.cells #[dv, bv] 80 (0, 0))
  data : w.ownsRow base 5 1 dv zs.length (u8l zs)
  begins : w.ownsRow base 3 1 bv bg.length (i64l bg)
theorem One.keep {w w' : World} {D base B F : Nat} {s : Int} {dv bv : Value} {zs bg : List Int} (h : One w D base B F s dv bv zs bg) (hb : Below w.heap.size w w') : One w' D base B F s dv bv zs bg := by
  have hl := h.low
  have hz := hb.size
  refine ⟨⟨hl.1, hl.2.1, hl.2.2.1, by omega⟩, (hb.block _ (Array.getElem?_eq_some_iff.1 h.disk).1).trans h.disk, ?_, (hb.block _ (Array.getElem?_eq_some_iff.1 h.file).1).trans h.file, own_kept h.data fun q _ hq => hb.block q hq, own_kept h.begins fun q _ hq => hb.block q hq⟩
  exact (hb.block _ (Array.getElem?_eq_some_iff.1 h.map).1).trans h.map

set_option maxRecDepth 20000 in
set_option maxHeartbeats 4000000 in
/-- More bytes. -/
theorem append_more (D base B F : Nat) (s : Int) (dv bv sv : Value) (zs bg bs : List Int) (w : World) (h : One w D base B F s dv bv zs bg) (hs : Src5 w sv bs) (hn : 0 < bs.length) (hl : zs.length + bs.length ≤ 1000) (hm : bg.length ≤ 1000) :
    Calls Try.prog 23 #[.pointer (some ⟨D, 0, none⟩), .string ⟨#[97]⟩, sv] w fun e w' => e = .returned (.int .i64 0) ∧ (∃ dv' bv', One w' D base B F s dv' bv' (zs ++ bs) (bg ++ [(zs.length : Int)])) ∧ Below base w w' := by
  have H : Hid (One w D base B F s dv bv zs bg) := h
  have HS : Hid (Src5 w sv bs) := hs
  have HL : Hid (0 < bs.length ∧ zs.length + bs.length ≤ 1000 ∧ bg.length ≤ 1000) := ⟨hn, hl, hm⟩
  obtain ⟨sa, sc, hsv⟩ := (hs w fun _ _ _ _ => rfl).slice
  obtain ⟨da, dc, hdv⟩ := own_slice h.data
  obtain ⟨N, hN⟩ : ∃ N, bs.length = N := ⟨_, rfl⟩
  obtain ⟨M, hM⟩ : ∃ M, zs.length = M := ⟨_, rfl⟩
  have hNM : (M : Int) + (N : Int) ≤ 1000 := by omega
  have cD : w.cell? ⟨D, 0, none⟩ = some (.map (some B)) := by rw [cell_of_row _ _ _ _ _ _ h.disk]; rfl
  have cF : w.cell? ⟨F, 0, none⟩ = some dv := by rw [cell_of_row _ _ _ _ _ _ h.file]; rfl
  have HFI : Hid (Calls Try.prog 48 #[.pointer (some ⟨D, 0, none⟩), .string ⟨#[97]⟩] w fun e w' => e = .returned (.tuple #[.pointer (some ⟨F, 0, none⟩), .int .i64 0]) ∧ w' = w) := find_some D _ B 1 0 _ _ w cD h.map fnd_a
  have HWR : Hid (Calls Try.prog 50 #[.pointer (some ⟨F, 0, none⟩), sv] w fun e w' => (∃ v, e = .returned v) ∧ ∃ dv' bv', w'.heap[F]? = some (.cells #[dv', bv'] 80 (0, 0)) ∧ w'.ownsRow base 5 1 dv' (zs.length + bs.length) (u8l zs ++ u8l bs) ∧ w'.ownsRow base 3 1 bv' (bg.length + 1) (i64l bg ++ [.int .i64 (zs.length : Int)]) ∧ Kep w w' (fun q => q = F ∨ dv.ownBlock = some q ∨ bv.ownBlock = some q)) := write_any F dv bv zs.length bg.length base _ _ sv bs w h.file h.data h.begins h.low.2.2.2 hs hn (by omega) (by omega)
  rw [hM] at hdv
  rw [hN] at hsv
  rw [hsv] at HWR HS ⊢
  rw [hdv] at cF
  clear h hs hn hl hm hN hM hsv hdv
  go_enter Try.func23, Try.ntmps23
  go_wp2_with (first | (go_at_call 48; refine HFI.out.mono ?_; rintro e w1 ⟨rfl, hw1⟩; rw [hw1]; clear hw1) | (go_at_call 9; refine (name_a _).mono ?_; rintro e w1 ⟨rfl, hw1⟩; rw [hw1]; clear hw1) | (go_at_call 50; refine HWR.out.mono ?_; rintro e w2 ⟨⟨v2, rfl⟩, dv', bv', hf2, ho2, hp2, hk2⟩; (have HK : Hid (Kep w w2 (fun q => q = F ∨ dv.ownBlock = some q ∨ bv.ownBlock = some q)) := hk2); (have H2 : Hid (w2.heap[F]? = some (.cells #[dv', bv'] 80 (0, 0)) ∧ w2.ownsRow base 5 1 dv' (zs.length + bs.length) (u8l zs ++ u8l bs) ∧ w2.ownsRow base 3 1 bv' (bg.length + 1) (i64l bg ++ [.int .i64 (zs.length : Int)])) := ⟨hf2, ho2, hp2⟩); clear hf2 ho2 hp2 hk2))
  go_ret
  have h := H.out
  have hk := HK.out
  obtain ⟨q1, q2, q3⟩ := H2.out
  have hl := h.low
  have hz := hk.size
  refine ⟨rfl, ⟨dv', bv', ⟨⟨hl.1, hl.2.1, hl.2.2.1, by omega⟩, ?_, ?_, q1, ?_, ?_⟩⟩, hk.below hl.2.2.2 ?_⟩
  · refine (hk.block _ (Array.getElem?_eq_some_iff.1 h.disk).1 ?_).trans h.disk
    rintro (e | e | e)
    · exact ne_tag h.disk h.file (by decide) e
    · exact own_other h.data h.disk (by decide) e.symm
    · exact own_other h.begins h.disk (by decide) e.symm
  · refine (hk.block _ (Array.getElem?_eq_some_iff.1 h.map).1 ?_).trans h.map
    rintro (e | e | e)
    · exact ne_map h.file h.map e
    · obtain ⟨cur, hc⟩ := own_tag h.data e
      exact ne_map hc h.map rfl
    · obtain ⟨cur, hc⟩ := own_tag h.begins e
      exact ne_map hc h.map rfl
  · rw [List.length_append, ← u8l_app]; exact q2
  · rw [List.length_append]
    have e : i64l (bg ++ [(zs.length : Int)]) = i64l bg ++ [.int .i64 (zs.length : Int)] := by simp [i64l]
    rw [e]
    exact q3
  · rintro q (e | e | e)
    · rw [e]; exact hl.2.2.1
    · exact (h.data.lt q e).1
    · exact (h.begins.lt q e).1

set_option maxRecDepth 20000 in
set_option maxHeartbeats 4000000 in
/-- The first bytes. -/
theorem append_first (D base : Nat) (s : Int) (sv : Value) (bs : List Int) (w : World) (hD : w.heap[D]? = some (.cells #[.map none, .int .i64 s] 70 (0, 0))) (hb : base ≤ D) (hs : Src5 w sv bs) (hn : 0 < bs.length) (hl : bs.length ≤ 1000) :
    Calls Try.prog 23 #[.pointer (some ⟨D, 0, none⟩), .string ⟨#[97]⟩, sv] w fun e w' => e = .returned (.int .i64 0) ∧ (∃ B F dv' bv', One w' D base B F s dv' bv' bs [0]) ∧ Below base w w' := by
  have hlt := (Array.getElem?_eq_some_iff.1 hD).1
  have HD : Hid (w.heap[D]? = some (.cells #[.map none, .int .i64 s] 70 (0, 0)) ∧ base ≤ D ∧ D < w.heap.size) := ⟨hD, hb, hlt⟩
  have HS : Hid (Src5 w sv bs) := hs
  have HL : Hid (0 < bs.length ∧ bs.length ≤ 1000) := ⟨hn, hl⟩
  obtain ⟨sa, sc, hsv⟩ := (hs w fun _ _ _ _ => rfl).slice
  obtain ⟨N, hN⟩ : ∃ N, bs.length = N := ⟨_, rfl⟩
  have hNM : (N : Int) ≤ 1000 := by omega
  have cD : w.cell? ⟨D, 0, none⟩ = some (.map none) := by rw [cell_of_row _ _ _ _ _ _ hD]; rfl
  have HFI : Hid (Calls Try.prog 48 #[.pointer (some ⟨D, 0, none⟩), .string ⟨#[97]⟩] w fun e w' => e = .returned (.tuple #[.pointer none, .int .i64 5]) ∧ w' = w) := find_new D _ w cD
  obtain ⟨W, hW⟩ : ∃ W, w.alloc (.cells #[.slice none 0 0, .slice none 0 0] 80) = W := ⟨_, rfl⟩
  have hWD : W.heap[D]? = some (.cells #[.map none, .int .i64 s] 70 (0, 0)) := by rw [← hW]; exact (Below.heap_alloc _ _ _ hlt).trans hD
  have hWF : W.heap[w.heap.size]? = some (.cells #[.slice none 0 0, .slice none 0 0] 80 (0, 0)) := by rw [← hW]; exact Go.heap_alloc_new _ _
  have cW : W.cell? ⟨D, 0, none⟩ = some (.map none) := by rw [cell_of_row _ _ _ _ _ _ hWD]; rfl
  have cWF : W.cell? ⟨w.heap.size, 0, none⟩ = some (.slice none 0 0) := by rw [cell_of_row _ _ _ _ _ _ hWF]; rfl
  have hWS : W.heap.size = w.heap.size + 1 := by rw [← hW]; simp
  have HPU : Hid (Calls Try.prog 44 #[.pointer (some ⟨D, 0, none⟩), .string ⟨#[97]⟩, .pointer (some ⟨w.heap.size, 0, none⟩)] W fun e w' => (∃ v, e = .returned v) ∧ w'.heap[D]? = some (.cells #[.map (some W.heap.size), .int .i64 s] 70 (0, 0)) ∧ MapAt w' W.heap.size [(⟨#[97]⟩, .pointer (some ⟨w.heap.size, 0, none⟩), 0)] 1 ∧ Kep W w' (fun q => q = D)) := put_first D ⟨#[97]⟩ (some ⟨w.heap.size, 0, none⟩) W (.int .i64 s) 70 hWD
  have HWW : Hid (W.heap[w.heap.size]? = some (.cells #[.slice none 0 0, .slice none 0 0] 80 (0, 0)) ∧ W.heap.size = w.heap.size + 1 ∧ Below w.heap.size w W) := ⟨hWF, hWS, by rw [← hW]; exact (Below.refl _ _).alloc (Nat.le_refl _) _⟩
  rw [hN] at hsv
  rw [hsv] at HS ⊢
  clear hs hn hl hN hsv hWS hWF hWD hD
  go_enter Try.func23, Try.ntmps23
  go_wp2_with (first | (go_at_call 48; refine HFI.out.mono ?_; rintro e w1 ⟨rfl, hw1⟩; rw [hw1]; clear hw1) | (go_at_call 9; refine (name_a _).mono ?_; rintro e w1 ⟨rfl, hw1⟩; rw [hw1]; clear hw1) | (go_at_call 44; refine HPU.out.mono ?_; rintro e w2 ⟨⟨v2, rfl⟩, hd2, hm2, hk2⟩; (have HF2 : Hid (w2.heap[w.heap.size]? = some (.cells #[.slice none 0 0, .slice none 0 0] 80 (0, 0))) := (hk2.block _ (by have := HWW.out.2.1; omega) (by show ¬ (w.heap.size = D); omega)).trans HWW.out.1); (have HS2 : Hid (Src5 w2 (.slice sa N sc) bs) := HS.out.kep (fun q c f hq => (hk2.block q (by have h1 := (Array.getElem?_eq_some_iff.1 hq).1; have h2 := HWW.out.2.1; omega) (ne_tag hq HD.out.1 (by decide))).trans (HWW.out.2.2.block q (Array.getElem?_eq_some_iff.1 hq).1))); (have H2 : Hid (w2.heap[D]? = some (.cells #[.map (some W.heap.size), .int .i64 s] 70 (0, 0)) ∧ MapAt w2 W.heap.size [(⟨#[97]⟩, .pointer (some ⟨w.heap.size, 0, none⟩), 0)] 1 ∧ Kep W w2 (fun q => q = D)) := ⟨hd2, hm2, hk2⟩); clear hd2 hm2 hk2) | (go_at_call 50; refine (write_any w.heap.size (.slice none 0 0) (.slice none 0 0) 0 0 base [] [] _ bs w2 HF2.out (World.ownsRow_nil _ _ _ _) (World.ownsRow_nil _ _ _ _) (by have h1 := HD.out; have h2 := HWW.out.2.1; have h3 := H2.out.2.2.size; omega) HS2.out HL.out.1 (by have := HL.out; omega) (by decide)).mono ?_; rintro e w3 ⟨⟨v3, rfl⟩, hr3⟩; (have H3 : Hid (∃ dv' bv', w3.heap[w.heap.size]? = some (.cells #[dv', bv'] 80 (0, 0)) ∧ w3.ownsRow base 5 1 dv' (0 + bs.length) ([] ++ u8l bs) ∧ w3.ownsRow base 3 1 bv' (0 + 1) ([] ++ [.int .i64 ((0 : Nat) : Int)]) ∧ Kep w2 w3 (fun q => q = w.heap.size ∨ (Value.slice none 0 0).ownBlock = some q ∨ (Value.slice none 0 0).ownBlock = some q)) := hr3); clear hr3))
  go_ret
  obtain ⟨dv', bv', q1, q2, q3, hk3⟩ := H3.out
  obtain ⟨p1, p2, hk2⟩ := H2.out
  obtain ⟨g1, g2, g3⟩ := HWW.out
  obtain ⟨f1, f2, f3⟩ := HD.out
  have z2 := hk2.size
  have z3 := hk3.size
  rw [Nat.zero_add, List.nil_append] at q2 q3
  have hx : ∀ q, q ≠ w.heap.size → ¬ (q = w.heap.size ∨ (Value.slice none 0 0).ownBlock = some q ∨ (Value.slice none 0 0).ownBlock = some q) := fun q hq e => by
    rcases e with e | e | e
    · exact hq e
    · cases e
    · cases e
  refine ⟨rfl, ⟨W.heap.size, w.heap.size, dv', bv', ⟨⟨f2, by omega, by omega, by omega⟩, ?_, ?_, q1, q2, ?_⟩⟩, ?_⟩
  · exact (hk3.block D (by omega) (hx D (by omega))).trans p1
  · refine (hk3.block W.heap.size (Array.getElem?_eq_some_iff.1 p2).1 (hx _ (by omega))).trans p2
  · exact q3
  · have b2 : Below base W w2 := hk2.below (by omega) fun q e => by rw [e]; exact f2
    have b3 : Below base w2 w3 := hk3.below (by omega) fun q e => by
      by_cases hq : q = w.heap.size
      · omega
      · exact absurd e (hx q hq)
    exact ((g3.mono (by omega)).trans b2).trans b3
end Go.Proofs.Ytfllepgcgbpfiaa
