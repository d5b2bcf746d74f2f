/- The law of texts. -/
import Derived.Test.YtfdmepblhlifcaaDoorE5
import Derived.Test.YtfdmepblhlifcaaDoorB3
namespace Go.Proofs.YtfdmepblhlifcaaDoor
open Go.RowKit
set_option linter.unusedVariables false
set_option linter.unusedSimpArgs false

theorem wpList_load_wanted {P : Program} {w : World} {ops : Array Oper} {rest : List Oper} {o : Oper} {a : Act} {Q : Exit → Act → World → Prop} (ty : TypeId) (x : Operand) (ho : o.op = .load ty x) (hw : Region.wanted o (yielded ops a.tmps) = true)
    (p : Addr) (hx : a.eval x = .pointer (some p)) (v : Value) (hl : (loadVar ty p).run P w = .ok v w) (h : wpList P ops Q rest (a.put o.dst v) w) : wpList P ops Q (o :: rest) a w := by
  refine wpList_step fun K hK => ?_
  rw [if_pos hw]
  unfold Oper.wp
  simp only [execOp, ho, hx, Instr.loadAt, Instr.sureAddr, Sem.run_bind, Sem.run_pure, Result.andThen_ok, hl]
  exact hK _ _ h
def Lay (W : World) (g : Nat) (d : List Int) : Prop := W.heap[g]? = some (.cells (u8s d) 23 (0, 0))
theorem Lay.later {W W' : World} {g : Nat} {d : List Int} (h : Lay W g d) (hb : Below W.heap.size W W') : Lay W' g d := (hb.block _ (Array.getElem?_eq_some_iff.1 h).1).trans h
theorem Lay.lt {W : World} {g : Nat} {d : List Int} (h : Lay W g d) : g < W.heap.size := (Array.getElem?_eq_some_iff.1 h).1
theorem lay_new (w2 : World) (d : List Int) : ∃ W, (w2.alloc (.cells (u8s (List.replicate 32 0)) 23)).setRow w2.heap.size (u8s d) = W ∧ Lay W w2.heap.size d ∧ Below w2.heap.size w2 W :=
  ⟨_, rfl, setRow_heap _ _ _ _ _ _ (Go.heap_alloc_new _ _), below_setRow ((Below.refl _ w2).alloc (Nat.le_refl _) _) (Nat.le_refl _) _⟩

set_option maxRecDepth 20000 in
set_option maxHeartbeats 4000000 in
theorem texts_any (d : List Int) (l : List UInt8) (w : World) (R : Roots w) (h0 : 0 < w.heap.size) (hd : d.length = 32) (hb : Byt d) :
    Calls Tryd.prog 4 #[.agg (u8s d), .string ⟨l.toArray⟩] w fun e w' => e = .returned (.bool true) ∧ Below w.heap.size w w' := by
  have HR : Hid (Roots w) := R
  have HD : Hid (d.length = 32) := hd
  have HB : Hid (Byt d) := hb
  have EQ := eq32 d hd hb
  clear R hd hb
  go_enter Tryd.func4, Tryd.ntmps4
  go_wp2_with (refine wpList_load_row rfl 23 _ rfl w.heap.size rfl 23 (u8s d) (0, 0) _ (Go.heap_alloc_new _ _) Tryd.underlying23 rfl ?h1 ?_)
  case h1 => rw [size_u8s, HD.out]; kernel_rfl
  refine (hex_any d _ HD.out HB.out).mono ?_
  rintro e w1 ⟨rfl, hb1⟩
  have HB1 : Hid (Below (w.heap.size + 1) (w.alloc (.cells (u8s d) 23)) w1) := by rw [World.size_alloc] at hb1; exact hb1
  clear hb1
  go_wp2_with fail
  obtain ⟨S, hS⟩ : ∃ S, S = (List.map (fun x => UInt8.ofNat x.toNat) (hexI d)).toArray := ⟨_, rfl⟩
  have HSS : Hid (S = (List.map (fun x => UInt8.ofNat x.toNat) (hexI d)).toArray) := hS
  rw [← hS]
  have hu1 := unhex_any (List.map (fun x => UInt8.ofNat x.toNat) (hexI d)) w1
  rw [← hS] at hu1
  clear hS
  refine hu1.mono ?_
  rintro e w2 ⟨⟨d2, c2, rfl, hd2, hr2⟩, hb2⟩
  obtain ⟨h2, h3⟩ := hr2.one (read_hex d HD.out HB.out)
  subst h2
  subst h3
  have HB2 : Hid (Below w1.heap.size w1 w2) := hb2
  clear hb2 hr2 hd2 hu1
  go_wp2_with (refine wpList_store_row rfl 23 _ _ rfl w2.heap.size (u8s d2) rfl rfl 23 (u8s (List.replicate 32 0)) (Go.heap_alloc_new _ _) ?h2 ?h3 (one_u8s _) ?_)
  case h2 => rw [size_u8s, HD.out]; kernel_rfl
  case h3 => simp [size_u8s, HD.out]
  obtain ⟨W2, hW2, l2, b2⟩ := lay_new w2 d2
  have l1 : Lay W2 w.heap.size d2 := by
    have h : Lay (w.alloc (.cells (u8s d2) 23)) w.heap.size d2 := Go.heap_alloc_new _ _
    exact ((h.later (by rw [World.size_alloc]; exact HB1.out)).later HB2.out).later b2
  have bW2 : Below w.heap.size w W2 := by
    have h1 : Below w.heap.size w w1 := ((Below.refl _ w).alloc (Nat.le_refl _) _).trans (HB1.out.mono (Nat.le_succ _))
    have h2 : Below w.heap.size w w2 := h1.trans (HB2.out.mono h1.size)
    exact h2.trans (b2.mono h2.size)
  have HL1 : Hid (Lay W2 w.heap.size d2) := l1
  have HL2 : Hid (Lay W2 w2.heap.size d2) := l2
  have HBW2 : Hid (Below w.heap.size w W2) := bW2
  clear l1 l2 bW2 b2 HB1 HB2
  show Calls Tryd.prog 16 _ ((w2.alloc (.cells (u8s (List.replicate 32 0)) 23)).setRow w2.heap.size (u8s d2)) _
  rw [hW2]
  clear hW2
  generalize w2.heap.size = g2 at *
  refine (unhex_any l W2).mono ?_
  rintro e w3 ⟨⟨y, f, rfl, hy, hry⟩, hb3⟩
  have HY : Hid (y.length = 32) := hy
  have HRY : Hid (Read l y f) := hry
  have EQY := eq32 y hy (read_byt hry)
  have HB3 : Hid (Below W2.heap.size W2 w3) := hb3
  clear hy hry hb3
  go_wp2_with (refine wpList_store_row rfl 23 _ _ rfl w3.heap.size (u8s y) rfl rfl 23 (u8s (List.replicate 32 0)) (Go.heap_alloc_new _ _) ?h2 ?h3 (one_u8s _) ?_)
  case h2 => rw [size_u8s, HY.out]; kernel_rfl
  case h3 => simp [size_u8s, HY.out]
  obtain ⟨W3, hW3, l3, b3⟩ := lay_new w3 y
  have HL13 : Hid (Lay W3 w.heap.size d2) := (HL1.out.later HB3.out).later b3
  have HL23 : Hid (Lay W3 g2 d2) := (HL2.out.later HB3.out).later b3
  have HL33 : Hid (Lay W3 w3.heap.size y) := l3
  have HBW3 : Hid (Below w.heap.size w W3) := by
    have h2 : Below w.heap.size w w3 := HBW2.out.trans (HB3.out.mono HBW2.out.size)
    exact h2.trans (b3.mono h2.size)
  clear l3 b3 HL1 HL2 HBW2 HB3
  show Calls Tryd.prog 17 _ ((w3.alloc (.cells (u8s (List.replicate 32 0)) 23)).setRow w3.heap.size (u8s y)) _
  rw [hW3]
  clear hW3
  generalize w3.heap.size = g3 at *
  refine (runhex_any l W3).mono ?_
  rintro e w4 ⟨⟨z, f2, rfl, hz, hrz⟩, hb4⟩
  obtain ⟨hzy, hff⟩ := hrz.one HRY.out
  subst hzy
  subst hff
  have HB4 : Hid (Below W3.heap.size W3 w4) := hb4
  clear hb4 hrz hz
  go_wp2_with (first | (refine wpList_store_row rfl 23 _ _ rfl w4.heap.size (u8s z) rfl rfl 23 (u8s (List.replicate 32 0)) (Go.heap_alloc_new _ _) ?h2 ?h3 (one_u8s _) ?_) | (refine wpList_load_row rfl 23 _ rfl w.heap.size rfl 23 (u8s d2) (0, 0) _ ?h4 Tryd.underlying23 rfl ?h5 ?_))
  case h2 => rw [size_u8s, HY.out]; kernel_rfl
  case h3 => simp [size_u8s, HY.out]
  case h4 =>
    have h : Lay ((w4.alloc (.cells (u8s (List.replicate 32 0)) 23)).setRow w4.heap.size (u8s z)) w.heap.size d2 := (HL13.out.later HB4.out).later (below_setRow ((Below.refl _ w4).alloc (Nat.le_refl _) _) (Nat.le_refl _) _)
    exact h
  case h5 => rw [size_u8s, HD.out]; kernel_rfl
  obtain ⟨W4, hW4, l4, b4⟩ := lay_new w4 z
  have HL14 : Hid (Lay W4 w.heap.size d2) := (HL13.out.later HB4.out).later b4
  have HL24 : Hid (Lay W4 g2 d2) := (HL23.out.later HB4.out).later b4
  have HL34 : Hid (Lay W4 g3 z) := (HL33.out.later HB4.out).later b4
  have HL44 : Hid (Lay W4 w4.heap.size z) := l4
  have HBW4 : Hid (Below w.heap.size w W4) := by
    have h2 : Below w.heap.size w w4 := HBW3.out.trans (HB4.out.mono HBW3.out.size)
    exact h2.trans (b4.mono h2.size)
  clear l4 b4 HL13 HL23 HL33 HBW3 HB4
  show Calls Tryd.prog 18 _ ((w4.alloc (.cells (u8s (List.replicate 32 0)) 23)).setRow w4.heap.size (u8s z)) _
  rw [hW4]
  clear hW4
  generalize w4.heap.size = g4 at *
  refine (rhex_any d2 W4 HD.out HB.out).mono ?_
  rintro e w5 ⟨rfl, hb5⟩
  have k1 := load23 (HL14.out.later hb5) HD.out
  have k2 := load23 (HL24.out.later hb5) HD.out
  have k3 := load23 (HL34.out.later hb5) HY.out
  have k4 := load23 (HL44.out.later hb5) HY.out
  have HBW5 : Hid (Below w.heap.size w w5) := HBW4.out.trans (hb5.mono HBW4.out.size)
  have hK := known_any w5 (roots_later HR.out h0 HBW5.out) (by have := HBW5.out.size; omega)
  have HK : Hid (Calls Tryd.prog 14 #[] w5 fun e w' => e = .returned (.bool true) ∧ Below w5.heap.size w5 w') := hK
  clear hb5 hK HL14 HL24 HL34 HL44 HBW4
  rw [← HSS.out]
  go_wp2_with (first | (go_at_call 14; refine HK.out.mono ?_; rintro e w6 ⟨rfl, hb6⟩) | (refine wpList_load_wanted 23 _ rfl rfl ⟨w.heap.size, 0, none⟩ rfl _ k1 ?_) | (refine wpList_load_wanted 23 _ rfl rfl ⟨g2, 0, none⟩ rfl _ k2 ?_) | (refine wpList_load_wanted 23 _ rfl rfl ⟨g3, 0, none⟩ rfl _ k3 ?_) | (refine wpList_load_wanted 23 _ rfl rfl ⟨g4, 0, none⟩ rfl _ k4 ?_))
  go_ret
  exact ⟨rfl, HBW5.out.trans (hb6.mono HBW5.out.size)⟩
end Go.Proofs.YtfdmepblhlifcaaDoor
