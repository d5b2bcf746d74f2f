/- The fixed calls that every statement of layer wire makes. -/
import Derived.Test.YtlgkajellndhlaaGet
import Derived.Lib.SlBytesConst
namespace Go.Proofs.Ytlgkajellndhlaa
open Go.RowKit

theorem BRow.later {w w' : World} {b off B : Nat} {zs : List Int} (R : BRow w b off zs) (h : Below B w w') (hb : b < B) : BRow w' b off zs :=
  ⟨fun i hi => (h.cell (p := ⟨b, off + i, none⟩) hb).trans (R.cell i hi), R.byt, R.small⟩

set_option maxHeartbeats 1000000 in
theorem field_known (b cap : Nat) (w : World) (R : BRow w b 0 [8, 150, 1]) (hb : b < w.heap.size) (hc : 3 ≤ cap) :
    Calls Try.prog 31 #[.slice (some ⟨b, 0, none⟩) 3 cap, .int .i64 0] w fun e w' => e = .returned (.tuple #[.agg #[.int .i64 1, .int .i64 0, .int .u64 150, .slice none 0 0], .int .i64 3, .int .i64 0]) ∧ Below w.heap.size w w' := by
  have HR : Hid _ := R
  have g0 : getI [8, 150, 1] 0 = (8, 1, 0) := by decide
  have g1 : getI [8, 150, 1] 1 = (150, 3, 0) := by decide
  have G0 : Hid _ := g0
  have G1 : Hid _ := g1
  have a7 : bits .and .u64 8 7 = 0 := by decide
  clear R g0 g1
  go_enter Try.func31, Try.ntmps31
  go_wp2_with fail
  refine (get_any b 0 cap 0 [8, 150, 1] _ (HR.out.later (Below.alloc (Below.refl _ _) (Nat.le_refl _) _) hb) hc (by simp)).mono ?_
  rintro e w1 ⟨rfl, rfl⟩
  rw [G0.out]
  unfold gv
  go_wp2_with (first | (go_at_call 29; refine (get_any b 0 cap 1 [8, 150, 1] _ (HR.out.later (B := w.heap.size) ?_ hb) hc (by simp)).mono ?_; exact Below.alloc (Below.alloc (Below.refl _ _) (Nat.le_refl _) _) (by simp) _; rintro e w1 ⟨rfl, rfl⟩; rw [G1.out]; unfold gv) | go_in)
  exact bodyPost_ret (v := .tuple #[.agg #[.int .i64 1, .int .i64 0, .int .u64 150, .slice none 0 0], .int .i64 3, .int .i64 0]) (by simp [results, Try.results31, go_sem]) rfl ⟨rfl, Below.alloc (Below.alloc (Below.refl _ _) (Nat.le_refl _) _) (by simp) _⟩

theorem info35 : (Try.prog.info? 35).map (fun i => (i.zero, i.size, i.bytes)) = some (some (.agg #[.int .i64 0, .int .i64 0, .int .u64 0, .slice none 0 0]), 4, 48) := by kernel_rfl

set_option maxHeartbeats 1000000 in
theorem read_known (b cap : Nat) (w : World) (R : BRow w b 0 [8, 150, 1]) (hb : b < w.heap.size) (hc : 3 ≤ cap) :
    Calls Try.prog 19 #[.slice (some ⟨b, 0, none⟩) 3 cap] w fun e w' => ∃ g cp, e = .returned (.tuple #[.slice (some ⟨g, 0, none⟩) 1 cp, .int .i64 0, .int .i64 0]) ∧ w'.cell? ⟨g, 0, none⟩ = some (.int .i64 1) ∧ w'.cell? ⟨g, 2, none⟩ = some (.int .u64 150) ∧ Below w.heap.size w w' := by
  obtain ⟨i0, hi, hz0, hz1, hz2⟩ := info_parts info35
  have HR : Hid _ := R
  clear R
  go_enter Try.func19, Try.ntmps19
  go_wp2
  refine wp_loop_rounds 2 ?_
  rw [rounds_succ]
  go_wp2_with fail
  refine (field_known b cap _ HR.out hb hc).mono ?_
  rintro e w1 ⟨rfl, hb1⟩
  go_wp2_with (at_builtin; refine wpList_append_own _ rfl (.tmp 32) (.tmp 34) 23 rfl w.heap.size 35 i0 (.agg #[.int .i64 0, .int .i64 0, .int .u64 0, .slice none 0 0]) 4 48 Try.underlying23 hi hz0 hz1 hz2 rfl (by decide) _ 0 [] rfl (World.ownsRow_nil _ _ _ _) ⟨w1.heap.size + 1, 0, none⟩ 1 1 [.int .i64 1, .int .i64 0, .int .u64 150, .slice none 0 0] rfl rfl ?c1 ?c2 ?c3 ?c4 ?c5 ?_)
  case c1 =>
    intro j u hj
    match j, hj with
    | 0, hj => simp at hj; subst hj; simp [Addr.add]
    | 1, hj => simp at hj; subst hj; simp [Addr.add]
    | 2, hj => simp at hj; subst hj; simp [Addr.add]
    | 3, hj => simp at hj; subst hj; simp [Addr.add]
  case c2 =>
    intro u hu
    simp at hu
    rcases hu with rfl | rfl | rfl | rfl <;> rfl
  case c3 => unfold maxLen; omega
  case c4 => omega
  case c5 => have := hb1.size; simp; omega
  intro v' w2 hown hgrow hv
  have hbel : Below w.heap.size w w2 := Below.grown (Below.alloc (Below.alloc hb1 hb1.size _) (by have := hb1.size; simp; omega) _) hgrow (by have := hb1.size; simp; omega) (by intro k hk; simp [Value.ownBlock] at hk)
  have hex : ∃ g cp, v' = .slice (some ⟨g, 0, none⟩) 1 cp ∧ w2.cell? ⟨g, 0, none⟩ = some (.int .i64 1) ∧ w2.cell? ⟨g, 2, none⟩ = some (.int .u64 150) := by
    have h2 := hown.2
    rcases h2 with ⟨_, h⟩ | ⟨g, cp, cur, hv, _⟩
    · omega
    · rw [hv] at hown
      exact ⟨g, cp, hv, by rw [hown.cellAt 0 (by omega)]; rfl, by rw [hown.cellAt 2 (by omega)]; rfl⟩
  obtain ⟨g, cp, hv', hc0, hc2⟩ := hex
  rw [hv']
  clear hown hgrow hv hv'
  go_wp2
  rw [rounds_succ]
  go_wp2
  go_ret3
  exact ⟨g, cp, rfl, hc0, hc2, hbel⟩

set_option maxHeartbeats 1000000 in
theorem field_wrong (b cap : Nat) (w : World) (R : BRow w b 0 [0]) (hb : b < w.heap.size) (hc : 1 ≤ cap) :
    Calls Try.prog 31 #[.slice (some ⟨b, 0, none⟩) 1 cap, .int .i64 0] w fun e w' => e = .returned (.tuple #[.agg #[.int .i64 0, .int .i64 0, .int .u64 0, .slice none 0 0], .int .i64 0, .int .i64 30]) ∧ Below w.heap.size w w' := by
  have HR : Hid _ := R
  have g0 : getI [0] 0 = (0, 1, 0) := by decide
  have G0 : Hid _ := g0
  have a7 : bits .and .u64 0 7 = 0 := by decide
  clear R g0
  go_enter Try.func31, Try.ntmps31
  go_wp2_with fail
  refine (get_any b 0 cap 0 [0] _ (HR.out.later (Below.alloc (Below.refl _ _) (Nat.le_refl _) _) hb) hc (by simp)).mono ?_
  rintro e w1 ⟨rfl, rfl⟩
  rw [G0.out]
  unfold gv
  go_wp2
  exact bodyPost_ret (v := .tuple #[.agg #[.int .i64 0, .int .i64 0, .int .u64 0, .slice none 0 0], .int .i64 0, .int .i64 30]) (by simp [results, Try.results31, go_sem]) rfl ⟨rfl, Below.alloc (Below.alloc (Below.refl _ _) (Nat.le_refl _) _) (by simp) _⟩

set_option maxHeartbeats 1000000 in
theorem read_wrong (b cap : Nat) (w : World) (R : BRow w b 0 [0]) (hb : b < w.heap.size) (hc : 1 ≤ cap) :
    Calls Try.prog 19 #[.slice (some ⟨b, 0, none⟩) 1 cap] w fun e w' => e = .returned (.tuple #[.slice none 0 0, .int .i64 30, .int .i64 0]) ∧ Below w.heap.size w w' := by
  have HR : Hid _ := R
  clear R
  go_enter Try.func19, Try.ntmps19
  go_wp2
  refine wp_loop_rounds 2 ?_
  rw [rounds_succ]
  go_wp2_with fail
  refine (field_wrong b cap _ HR.out hb hc).mono ?_
  rintro e w1 ⟨rfl, hb1⟩
  go_wp2
  go_ret3
  exact ⟨rfl, Below.alloc hb1 hb1.size _⟩

theorem brow_mk (w : World) (b : Nat) (cs : Array Value) (t : TypeId) (m : Nat × Nat) (zs : List Int) (h : w.heap[b]? = some (.cells cs t m)) (hc : cs = (zs.map (Value.int .u8)).toArray) (hz : Byt zs) (hs : (zs.length : Int) ≤ 140737488351232) : BRow w b 0 zs := by
  refine ⟨fun i hi => ?_, hz, hs⟩
  subst hc
  simp [World.cell?, h, List.getElem?_eq_getElem hi]

theorem heap_new (w : World) (o : Obj) : (w.alloc o).heap[w.heap.size]? = some o := by
  show (w.heap.push o)[w.heap.size]? = _
  simp
theorem byt_dec (l : List Int) (h : l.all (fun c => decide (0 ≤ c ∧ c ≤ 255)) = true) : Byt l := fun c hc => of_decide_eq_true (List.all_eq_true.1 h c hc)
theorem sum_val : cpI (crI [49, 50, 51, 52, 53, 54, 55, 56, 57] 4294967295) = 3808858755 := by decide +kernel
theorem lt_of_cell {w : World} {g o : Nat} {v : Value} (h : w.cell? ⟨g, o, none⟩ = some v) : g < w.heap.size := World.block_lt_of_cell? w _ h

theorem sum_known (b : Nat) (w : World) (R : BRow w b 0 [49, 50, 51, 52, 53, 54, 55, 56, 57]) : Calls Try.prog 30 #[.slice (some ⟨b, 0, none⟩) 9 9] w fun e w' => e = .returned (.int .u32 3808858755) ∧ w' = w := by
  have h := sum_row b 0 9 9 [49, 50, 51, 52, 53, 54, 55, 56, 57] w (by simp) (by omega) R.byt (fun i hi => R.cell i hi)
  rw [show List.take 9 [(49 : Int), 50, 51, 52, 53, 54, 55, 56, 57] = [49, 50, 51, 52, 53, 54, 55, 56, 57] from rfl, sum_val] at h
  exact h

theorem conv_known (w : World) (o : Obj) (C : Array Value) (n c : Nat) :
    (convert 25 25 (.slice (some ⟨w.heap.size + 1, 0, none⟩) n c)).run Try.prog ((w.alloc o).alloc (.cells C 5)) = .ok (.slice (some ⟨w.heap.size + 1, 0, none⟩) n c) ((w.alloc o).alloc (.cells C 5 (C.size, C.size + 1))) := by
  have h := Lib.run_convert_bytes_const (P := Try.prog) (w.alloc o) 25 5 C n c Try.underlying25 Try.underlying5
  rw [World.size_alloc] at h
  exact h
theorem zig_known (w : World) : Calls Try.prog 18 #[.int .i64 (-1)] w fun e w' => e = .returned (.int .u64 1) ∧ w' = w := by
  have x : bits .xor .u64 IntKind.u64.max (IntKind.u64.wrap (IntKind.u64.wrap (-1) * 2)) = 1 := by decide +kernel
  have X : Hid _ := x
  clear x
  go_enter Try.func18, Try.ntmps18
  go_wp2
  go_ret
  exact ⟨ret_int X.out, rfl⟩

set_option maxHeartbeats 1000000 in
theorem known_any (w : World) : Calls Try.prog 16 #[] w fun e w' => e = .returned (.bool true) ∧ Below w.heap.size w w' := by
  have g0 : getI [128] 0 = (0, 0, 8) := by decide
  have G0 : Hid _ := g0
  have kc := conv_known
  clear g0
  go_enter Try.func16, Try.ntmps16
  go_wp2_with fail
  refine (read_known w.heap.size 3 _ (brow_mk _ _ _ _ _ [8, 150, 1] (heap_new _ _) rfl (byt_dec _ (by decide)) (by decide)) (by simp) (by omega)).mono ?_
  rintro e w1 ⟨g, cp, rfl, hc0, hc2, hb1⟩
  have hg1 := lt_of_cell hc0
  have B1 : Below w.heap.size w w1 := (Below.alloc (Below.refl _ _) (Nat.le_refl _) _).trans (hb1.mono (by simp))
  have HB1 : Hid _ := B1
  clear hb1 B1
  go_wp2_with fail
  refine (read_wrong w1.heap.size 1 _ (brow_mk _ _ _ _ _ [0] (heap_new _ _) rfl (byt_dec _ (by decide)) (by decide)) (by simp) (by omega)).mono ?_
  rintro e w2 ⟨rfl, hb2⟩
  have B2 : Below w1.heap.size w1 w2 := (Below.alloc (Below.refl _ _) (Nat.le_refl _) _).trans (hb2.mono (by simp))
  have hd0 := (B2.cell (p := ⟨g, 0, none⟩) hg1).trans hc0
  have hd2 := (B2.cell (p := ⟨g, 2, none⟩) hg1).trans hc2
  have hg2 := lt_of_cell hd0
  have B3 : Below w.heap.size w w2 := HB1.out.trans (B2.mono HB1.out.size)
  have HB3 : Hid _ := B3
  clear hb2 B2 B3 hc0 hc2 hg1 HB1
  go_wp2_with fail
  refine (get_any w2.heap.size 0 1 0 [128] _ (brow_mk _ _ _ _ _ [128] (heap_new _ _) rfl (byt_dec _ (by decide)) (by decide)) (by simp) (by simp)).mono ?_
  rintro e w3 ⟨rfl, rfl⟩
  rw [G0.out]
  unfold gv
  go_wp2_with (first | (go_at_call 30; refine (sum_known (w2.heap.size + 1) _ ?_).mono ?_) | (go_at_call 18; refine (zig_known _).mono ?_; rintro e w3 ⟨rfl, rfl⟩))
  · have h := heap_new (w2.alloc (.cells #[.int .u8 128] 5)) (.cells #[.int .u8 49, .int .u8 50, .int .u8 51, .int .u8 52, .int .u8 53, .int .u8 54, .int .u8 55, .int .u8 56, .int .u8 57] 5 (9, 10))
    rw [World.size_alloc] at h
    exact brow_mk _ _ _ 5 (9, 10) [49, 50, 51, 52, 53, 54, 55, 56, 57] h rfl (byt_dec _ (by decide)) (by decide)
  · rintro e w3 ⟨rfl, rfl⟩
    go_wp2
    go_ret
    have h := HB3.out.size
    exact ⟨rfl, Below.alloc (Below.alloc HB3.out h _) (by simp; omega) _⟩

end Go.Proofs.Ytlgkajellndhlaa
