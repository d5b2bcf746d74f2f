/- The fixed run. -/
import Derived.Test.YtfllepgcgbpfiaaC2
import Derived.Lib.SlBytesConst
import Derived.Laws.IdiomStrings
namespace Go.Proofs.Ytfllepgcgbpfiaa
open Go.RowKit
set_option linter.unusedVariables false
set_option linter.unusedSimpArgs false

theorem src_new (w : World) (zs : List Int) (n : Nat) (hn : zs.length = n) : Src5 (w.alloc (.cells (u8l zs).toArray 5 (n, n + 1))) (.slice (some ⟨w.heap.size, 0, none⟩) n n) zs := by
  subst hn
  intro W hW
  have hb : W.heap[w.heap.size]? = some (.cells (u8l zs).toArray 5 (zs.length, zs.length + 1)) := (hW _ _ _ (Go.heap_alloc_new _ _)).trans (Go.heap_alloc_new _ _)
  refine .inr ⟨⟨w.heap.size, 0, none⟩, zs.length, rfl, Nat.le_refl _, fun j u hu => ?_⟩
  rw [Addr.add_mid, Nat.zero_add, cell_of_row _ _ _ _ _ _ hb]
  simpa using hu
theorem new70 (w : World) : Calls Try.prog 8 #[] w fun e w' => e = .returned (.pointer (some ⟨w.heap.size, 0, none⟩)) ∧ w' = w.alloc (.cells #[.map none, .int .i64 0] 70) := by
  go_enter Try.func8, Try.ntmps8
  go_wp2
  go_ret
  exact ⟨rfl, rfl⟩
theorem str_bytes (w : World) (base : Nat) (v : Value) (h : w.ownsRow base 5 1 v 7 (u8l [97, 98, 99, 0, 0, 102, 103])) : (convert 31 9 v).run Try.prog w = .ok (.string ⟨#[97, 98, 99, 0, 0, 102, 103]⟩) w := by
  obtain ⟨g, cap, rfl⟩ := own_form h (by decide)
  refine run_convert_bytes_back (P := Try.prog) w 31 9 5 ⟨g, 0, none⟩ cap [97, 98, 99, 0, 0, 102, 103] Try.underlying31 Try.underlying5 Try.underlying9 (fun j hj => ?_)
  rw [Addr.add_mid, Nat.zero_add, h.cellAt j (by simpa using hj)]
  have hj' : j < 7 := by simpa using hj
  rcases (show j = 0 ∨ j = 1 ∨ j = 2 ∨ j = 3 ∨ j = 4 ∨ j = 5 ∨ j = 6 from by omega) with rfl | rfl | rfl | rfl | rfl | rfl | rfl <;> rfl
set_option maxRecDepth 20000 in
set_option maxHeartbeats 8000000 in
theorem known_any (w : World) : Calls Try.prog 13 #[] w fun e w' => e = .returned (.bool true) ∧ Below w.heap.size w w' := by
  have hcv : ∀ (C : Array Value) (n c : Nat) (W : World), (convert 31 31 (.slice (some ⟨W.heap.size, 0, none⟩) n c)).run Try.prog (W.alloc (.cells C 5)) = .ok (.slice (some ⟨W.heap.size, 0, none⟩) n c) (W.alloc (.cells C 5 (C.size, C.size + 1))) := fun C n c W => Lib.run_convert_bytes_const W 31 5 C n c Try.underlying31 Try.underlying5
  go_enter Try.func13, Try.ntmps13
  go_wp2_with fail
  refine (new70 w).mono ?_
  rintro e w1 ⟨rfl, hw1⟩
  have HD1 : Hid (w1.heap[w.heap.size]? = some (.cells #[.map none, .int .i64 0] 70 (0, 0)) ∧ Below w.heap.size w w1) := by rw [hw1]; exact ⟨Go.heap_alloc_new _ _, bel1 _ _⟩
  clear hw1
  go_wp2_with fail
  have hlt1 := (Array.getElem?_eq_some_iff.1 HD1.out.1).1
  refine (append_first w.heap.size w.heap.size 0 (.slice (some ⟨w1.heap.size, 0, none⟩) 3 3) [97, 98, 99] _ ((Below.heap_alloc _ _ _ hlt1).trans HD1.out.1) (Nat.le_refl _) (src_new w1 [97, 98, 99] 3 rfl) (by decide) (by decide)).mono ?_
  rintro e w2 ⟨rfl, ⟨B, F, d2, b2, ho2⟩, hb2⟩
  have HB2 : Hid (Below w.heap.size w w2) := (HD1.out.2.trans ((bel1 w1 _).mono HD1.out.2.size)).trans hb2
  clear hb2 hlt1 HD1
  go_wp2_with fail
  refine (sync_one w.heap.size w.heap.size B F 0 d2 b2 _ _ w2 ho2 (by decide) (by decide)).mono ?_
  rintro e w3 ⟨rfl, ho3, hb3⟩
  have HB3 : Hid (Below w.heap.size w w3) := HB2.out.trans hb3
  clear hb3 ho2
  have HO3 : Hid (One w3 w.heap.size w.heap.size B F (0 + 1) d2 (.slice none 0 0) [97, 98, 99] []) := ho3
  clear ho3
  go_wp2_with fail
  refine (append_more w.heap.size w.heap.size B F (0 + 1) d2 _ (.slice (some ⟨w3.heap.size, 0, none⟩) 2 2) [97, 98, 99] [] [100, 101] _ (HO3.out.keep (bel1 _ _)) (src_new w3 [100, 101] 2 rfl) (by decide) (by decide) (by decide)).mono ?_
  rintro e w4 ⟨rfl, ⟨d4, b4, ho4⟩, hb4⟩
  have HB4 : Hid (Below w.heap.size w w4) := (HB3.out.trans ((bel1 w3 _).mono HB3.out.size)).trans hb4
  have HO4 : Hid (One w4 w.heap.size w.heap.size B F (0 + 1) d4 b4 [97, 98, 99, 100, 101] [3]) := ho4
  clear hb4 ho4 HO3
  go_wp2_with fail
  refine (append_more w.heap.size w.heap.size B F (0 + 1) d4 b4 (.slice (some ⟨w4.heap.size, 0, none⟩) 3 3) [97, 98, 99, 100, 101] [3] [102, 103, 104] _ (HO4.out.keep (bel1 _ _)) (src_new w4 [102, 103, 104] 3 rfl) (by decide) (by decide) (by decide)).mono ?_
  rintro e w5 ⟨rfl, ⟨d5, b5, ho5⟩, hb5⟩
  have HB5 : Hid (Below w.heap.size w w5) := (HB4.out.trans ((bel1 w4 _).mono HB4.out.size)).trans hb5
  have HO5 : Hid (One w5 w.heap.size w.heap.size B F (0 + 1) d5 b5 [97, 98, 99, 100, 101, 102, 103, 104] [3, 5]) := ho5
  clear hb5 ho5 HO4
  go_wp2_with fail
  obtain ⟨W6, hW6⟩ : ∃ W6, (w5.alloc (.cells #[.int .i64 0, .int .i64 2] 3)).alloc (.cells #[.string ⟨#[97]⟩, .slice (some ⟨w5.heap.size, 0, none⟩) 2 2] 45) = W6 := ⟨_, rfl⟩
  have hb56 : Below w5.heap.size w5 W6 := by rw [← hW6]; exact ((Below.refl _ w5).alloc (Nat.le_refl _) _).alloc (by simp) _
  have hr1 : W6.heap[w5.heap.size]? = some (.cells #[.int .i64 0, .int .i64 2] 3 (0, 0)) := by rw [← hW6]; exact (Below.heap_alloc _ _ _ (by simp)).trans (Go.heap_alloc_new _ _)
  have hr2 : W6.heap[w5.heap.size + 1]? = some (.cells #[.string ⟨#[97]⟩, .slice (some ⟨w5.heap.size, 0, none⟩) 2 2] 45 (0, 0)) := by
    rw [← hW6]
    have h := Go.heap_alloc_new (w5.alloc (.cells #[.int .i64 0, .int .i64 2] 3)) (.cells #[.string ⟨#[97]⟩, .slice (some ⟨w5.heap.size, 0, none⟩) 2 2] 45)
    simp only [World.size_alloc] at h
    exact h
  try rw [hW6]
  refine (crash_one w.heap.size w.heap.size B F (0 + 1) d5 b5 W6 (HO5.out.keep hb56) (w5.heap.size + 1) 1 w5.heap.size 2 (by rw [cell_of_row _ _ _ _ _ _ hr2]; rfl) (by rw [cell_of_row _ _ _ _ _ _ hr2]; rfl) (by decide) (by rw [cell_of_row _ _ _ _ _ _ hr1]; rfl) (by rw [cell_of_row _ _ _ _ _ _ hr1]; rfl) (by decide)).mono ?_
  rintro e w7 ⟨rfl, ⟨d7, ho7⟩, hb7⟩
  have HB7 : Hid (Below w.heap.size w w7) := (HB5.out.trans (hb56.mono HB5.out.size)).trans hb7
  have HO7 : Hid (One w7 w.heap.size w.heap.size B F (0 + 1) d7 (.slice none 0 0) [97, 98, 99, 0, 0, 102, 103] []) := ho7
  clear hb7 ho7 hr1 hr2 hb56 hW6 HO5
  go_wp2_with fail
  refine (read_one w.heap.size w.heap.size B F (0 + 1) d7 _ _ _ w7 HO7.out (by decide)).mono ?_
  rintro e w8 ⟨⟨v8, rfl, ho8⟩, hb8⟩
  have ho8' : w8.ownsRow w7.heap.size 5 1 v8 7 (u8l [97, 98, 99, 0, 0, 102, 103]) := ho8
  have hst := str_bytes w8 _ v8 ho8'
  have HB8 : Hid (Below w.heap.size w w8) := HB7.out.trans (hb8.mono HB7.out.size)
  obtain ⟨a8, c8, hv8⟩ := own_slice ho8'
  clear ho8 ho8' hb8
  subst hv8
  go_wp2_with fail
  go_ret
  exact ⟨rfl, HB8.out⟩
end Go.Proofs.Ytfllepgcgbpfiaa
