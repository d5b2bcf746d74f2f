/- Bytes spoilt; lists of one field. -/
import Derived.Test.YtlgkajellndhlaaLast
import Derived.Test.YtlgkajellndhlaaTaken
namespace Go.Proofs.Ytlgkajellndhlaa
open Go.RowKit
set_option linter.unusedVariables false
set_option linter.unusedSimpArgs false

theorem Gr.end_ {v v' : Value} {w w' : World} (h : Gr v w v' w') : Gr v w (.slice none 0 0) w' := ⟨h.os, h.tape, h.output, h.size, h.block, fun g hg => by cases hg⟩
theorem gr_set {v v' : Value} {w w' : World} (h : Gr v w v' w') {g k : Nat} {x : Value} (hg : v'.ownBlock = some g) : Gr v w v' (w'.setCell ⟨g, k, none⟩ x) := by
  refine ⟨h.os, h.tape, h.output, by simpa using h.size, fun q hq hv => ?_, h.near⟩
  have hne : q ≠ g := by
    rintro rfl
    rcases h.near q hg with e | e
    · exact hv e
    · omega
  rw [Below.heap_setCell _ _ _ _ hne]
  exact h.block q hq hv

set_option maxRecDepth 20000 in
set_option maxHeartbeats 4000000 in
theorem spoil_some (base g n cp : Nat) (zs : List Int) (w : World) (hn : n = zs.length) (h : w.ownsRow base 5 1 (.slice (some ⟨g, 0, none⟩) n cp) n (u8l zs)) (hz : Byt zs) (hl : (zs.length : Int) ≤ 9000000) :
    Calls Try.prog 10 #[.slice (some ⟨g, 0, none⟩) n cp] w fun e w' => (∃ v, e = .returned v) ∧ Gr (.slice (some ⟨g, 0, none⟩) n cp) w (.slice none 0 0) w' := by
  have HO : Hid (w.ownsRow base 5 1 (.slice (some ⟨g, 0, none⟩) n cp) n (u8l zs)) := h
  have HZ : Hid (Byt zs) := hz
  have HN : Hid (n = zs.length) := hn
  have hcap : (n : Int) ≤ (cp : Int) := by have := own_cap h; omega
  have hn5 : (n : Int) ≤ 10000000 := by omega
  clear h hz hn hl
  go_enter Try.func10, Try.ntmps10
  go_wp2_with fail
  go_loopw [2] (fun x wr => ∃ (k : Nat) (xs : List Value), k ≤ n ∧ x = .int .i64 k ∧ wr.ownsRow base 5 1 (.slice (some ⟨g, 0, none⟩) n cp) n xs ∧ (∀ j, k ≤ j → j < n → xs[j]? = some (.int .u8 (zs.getD j 0))) ∧ Gr (.slice (some ⟨g, 0, none⟩) n cp) w (.slice (some ⟨g, 0, none⟩) n cp) wr) (fun x wr => n - (intOf x).toNat)
  case atStart =>
    refine ⟨0, u8l zs, by omega, rfl, HO.out, fun j _ hj => ?_, Gr.refl _ _⟩
    have hn := HN.out
    simp [u8l, List.getD_eq_getElem?_getD, List.getElem?_eq_getElem (show j < zs.length by omega)]
  case round =>
    obtain ⟨k, xs, hk, rfl, hown, hrest, hbx⟩ := hrel
    have HOW : Hid (wr.ownsRow base 5 1 (.slice (some ⟨g, 0, none⟩) n cp) n xs) := hown
    have HRE : Hid (∀ j, k ≤ j → j < n → xs[j]? = some (.int .u8 (zs.getD j 0))) := hrest
    have HBX : Hid (Gr (.slice (some ⟨g, 0, none⟩) n cp) w (.slice (some ⟨g, 0, none⟩) n cp) wr) := hbx
    clear hown hrest hbx
    by_cases hlt : k < n
    · have hc : wr.cell? ⟨g, k, none⟩ = some (.int .u8 (zs.getD k 0)) := by
        have h := HOW.out.cells (g := g) rfl k _ (HRE.out k (Nat.le_refl _) hlt)
        rwa [Addr.add_mid, Nat.zero_add] at h
      have hf : wr.frozen? ⟨g, k, none⟩ = false := HOW.out.frozenAt k
      have hzb := HZ.out (zs.getD k 0) (by have := HN.out; rw [List.getD_eq_getElem?_getD, List.getElem?_eq_getElem (by omega)]; exact List.getElem_mem _)
      generalize hz : zs.getD k 0 = z at *
      clear hz
      go_wp2_with fail
      go_roundw
      case rel =>
        refine ⟨k + 1, xs.set k _, by omega, by go_num, (HOW.out.stored k _).1, fun j h1 h2 => ?_, gr_set HBX.out rfl⟩
        rw [List.getElem?_set_ne (by omega)]; exact HRE.out j (by omega) h2
      case measure => simp [intOf]; omega
    · have HBW : Hid (base ≤ wr.heap.size ∧ n ≤ 100000000) := ⟨by have h1 := (HOW.out.lt g rfl); omega, by omega⟩
      go_wp2_with (at_builtin; (refine wpList_append_one rfl (.tmp 17) (.tmp 18) rfl base (.slice (some ⟨g, 0, none⟩) n cp) n xs rfl wr HOW.out _ rfl rfl HBW.out.2 HBW.out.1 ?_; intro g3 cp3 w3 hown3 hgrow3; (have c3 : w3.cell? ⟨g3, n, none⟩ = some (.int .u8 99) := (by rw [hown3.cellAt n (by omega)]; (have hx := HOW.out.1); rw [List.getElem?_append_right (by omega)]; rw [show n - xs.length = 0 by omega]; rfl)); (have f3 := hown3.frozenAt n); (have q3 := own_cap hown3); (have q4 : (n : Int) + 1 ≤ (cp3 : Int) := by omega); (have HG3 : Hid (Gr (.slice (some ⟨g, 0, none⟩) n cp) w (.slice (some ⟨g3, 0, none⟩) (n + 1) cp3) w3) := HBX.out.trans hgrow3); clear hown3 hgrow3 q3))
      go_end0
      exact ⟨⟨_, rfl⟩, (gr_set HG3.out rfl).end_⟩

set_option maxRecDepth 20000 in
set_option maxHeartbeats 4000000 in
theorem spoil_none (w : World) : Calls Try.prog 10 #[.slice none 0 0] w fun e w' => (∃ v, e = .returned v) ∧ Gr (.slice none 0 0) w (.slice none 0 0) w' := by
  go_enter Try.func10, Try.ntmps10
  go_wp2_with fail
  go_loopw [2] (fun x wr => x = .int .i64 0 ∧ wr = w) (fun x wr => 0)
  case atStart => exact ⟨rfl, rfl⟩
  case round =>
    obtain ⟨rfl, rfl⟩ := hrel
    go_wp2_with (at_builtin; (refine wpList_append_one rfl (.tmp 17) (.tmp 18) rfl wr.heap.size (.slice none 0 0) 0 [] rfl wr (World.ownsRow_nil _ _ _ _) _ rfl rfl (by decide) (Nat.le_refl _) ?_; intro g3 cp3 w3 hown3 hgrow3; (have c3 : w3.cell? ⟨g3, 0, none⟩ = some (.int .u8 99) := (by rw [hown3.cellAt 0 (by omega)]; rfl)); (have f3 := hown3.frozenAt 0); (have q3 := own_cap hown3); (have q4 : (1 : Int) ≤ (cp3 : Int) := by omega); (have HG3 : Hid (Gr (.slice none 0 0) wr (.slice (some ⟨g3, 0, none⟩) (0 + 1) cp3) w3) := hgrow3); clear hown3 hgrow3 q3))
    go_end0
    exact ⟨⟨_, rfl⟩, (gr_set HG3.out rfl).end_⟩
theorem spoil_own {w : World} {base : Nat} {v : Value} {zs : List Int} (h : w.ownsRow base 5 1 v zs.length (u8l zs)) (hz : Byt zs) (hl : (zs.length : Int) ≤ 9000000) :
    Calls Try.prog 10 #[v] w fun e w' => (∃ u, e = .returned u) ∧ Gr v w (.slice none 0 0) w' := by
  rcases h.2 with ⟨rfl, _⟩ | ⟨g, cap, cur, rfl, _⟩
  · exact spoil_none w
  · exact spoil_some base g zs.length cap zs w rfl h hz hl
/-- A list of one field. -/
theorem fds_one {W : World} {g : Nat} {t : TypeId} {f : Fd} {sv : Value} (h : W.heap[g]? = some (.cells #[.int .i64 f.num, .int .i64 f.typ, .int .u64 (f.n : Int), sv] t (0, 0))) (hs : Src W sv f.b) : Fds W (.slice (some ⟨g, 0, none⟩) 1 1) [f] := by
  refine ⟨some ⟨g, 0, none⟩, 1, rfl, Nat.le_refl _, fun i f' hi => ?_⟩
  match i with
  | 0 =>
    have hf : f = f' := by simpa using hi
    subst hf
    obtain ⟨a, c, hsl⟩ := hs.slice
    obtain ⟨c0, c1, c2, c3⟩ := box4b (base := 0) h rfl
    rw [hsl] at c3 hs
    exact ⟨g, 0, a, _, c, rfl, c0, c1, c2, c3, hs⟩
  | i + 1 => simp at hi
end Go.Proofs.Ytlgkajellndhlaa
