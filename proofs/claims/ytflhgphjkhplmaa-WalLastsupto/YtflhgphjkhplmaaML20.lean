import Derived.Test.YtflhgphjkhplmaaML19
import Derived.Test.YtflhgphjkhplmaaML16
import Derived.Test.YtflhgphjkhplmaaML17
import Derived.Test.YtflhgphjkhplmaaML18
import Derived.Test.YtflhgphjkhplmaaML08
import Derived.Defers
/- The model's Open: what it opens, plainly; a log under way. -/
namespace Go.Proofs.Ytflhgphjkhplmaa.D
open Go Go.RowKit W R Go.Shelf
set_option linter.unusedVariables false
set_option linter.unusedSimpArgs false
attribute [local go_sem] Oper.semAt_some

variable {w w' : World} {B R k k' : Nat} {sy sy' : Int} {G G' P P' : Nat → Prop} {dl dl' : List Fd} {m : Mg} {bs : List Int}
def opM (dl : List Fd) : Mg := ⟨(opG dl).bn, (opG dl).b, (opG dl).rs.map Prod.snd, (opG dl).cut⟩
def m0 (dl : List Fd) : Mg := ⟨(rbG g0 dl).bn, (rbG g0 dl).b, [], 0⟩
theorem rread_any (h : MR w R G sy dl) (i : Inv k sy dl) (s : List UInt8) : Calls Try.prog 72 #[.pointer (some ⟨R, 0, none⟩), .string (tx s)] w fun e w' => ∃ a c, e = .returned (.tuple #[.slice a (rdBs s dl).length c, .int .i64 (rdEs s dl)]) ∧ w'.ownsRow w.heap.size 5 1 (.slice a (rdBs s dl).length c) (rdBs s dl).length (u8l (rdBs s dl)) ∧ Below w.heap.size w w' := by
  have hl := i.len
  unfold rdBs rdEs
  cases hs : lkF s dl with
  | none =>
    refine (rread_no h (by omega) hs).mono ?_
    rintro e w' ⟨rfl, rfl⟩
    exact ⟨none, 0, rfl, World.ownsRow_nil _ _ _ _, Below.refl _ _⟩
  | some x =>
    obtain ⟨-, h2, -⟩ := i.each x (lk_mem hs)
    refine (rread_yes h (by omega) hs (by omega)).mono ?_
    rintro e w' ⟨⟨v', rfl, h1⟩, h2⟩
    obtain ⟨a, c, rfl⟩ := own_slice h1
    exact ⟨a, c, rfl, h1, h2⟩
theorem rd_byt (i : Inv k sy dl) (s : List UInt8) : Byt (rdBs s dl) ∧ (rdBs s dl).length ≤ 1048576 := by
  unfold rdBs
  cases hs : lkF s dl with
  | none => exact ⟨fun x hx => absurd hx (by simp), by simp⟩
  | some x =>
    obtain ⟨h1, h2, -⟩ := i.each x (lk_mem hs)
    exact ⟨h1, h2⟩
/-- A checkpoint's file that is right is one frame. -/
theorem ckp_one (h1 : rdEs nCkp dl = 0) (h2 : rbE dl = 0) : ∃ n r, fatI (rdBs nCkp dl) 0 = some (n, r, (rdBs nCkp dl).length) ∧ goodI (rdBs nCkp dl) = [(n, r, (rdBs nCkp dl).length)] ∧ rbG g0 dl = ⟨n, r, [], 0⟩ ∧ 1 ≤ n ∧ n < 18446744073709551616 ∧ r.length ≤ 65536 := by
  have e : ∃ n r, fatI (rdBs nCkp dl) 0 = some (n, r, (rdBs nCkp dl).length) ∧ rbO dl = some (n, r) := by
    unfold rbE at h2
    rw [if_pos h1] at h2
    cases ho : rbO dl with
    | none => rw [ho] at h2; simp at h2
    | some q =>
      unfold rbO at ho
      split at ho
      · rename_i n r e hf
        split at ho
        · rename_i he
          obtain rfl := Option.some.inj ho
          rw [he] at hf
          exact ⟨n, r, hf, rfl⟩
        · cases ho
      · cases ho
  obtain ⟨n, r, hf, ho⟩ := e
  obtain ⟨f1, f2, f3, f4, f5, f6, f7⟩ := fatI_some hf
  refine ⟨n, r, hf, ?_, ?_, f1, f2, f3⟩
  · unfold goodI gdI
    rw [hf]
    dsimp only
    rw [if_neg (fun h => absurd h.1 (by omega))]
    cases hk : (rdBs nCkp dl).length with
    | zero => rfl
    | succ j =>
      unfold gdI
      rw [← hk, fat_end]
  · unfold rbG
    rw [if_pos h1, ho]
    rfl
/-- The loop of Open: what it keeps, from the world V where it began. -/
structure LI (V : World) (B R : Nat) (mc : Mg) (bv lv0 : Value) (xs : List El) (d i : Nat) (wr : World) : Prop where
  ex : ∃ lv, wr.heap[B]? = some (.cells (mgC R mc bv lv) 57 (0, 0)) ∧ wr.ownsRow 0 23 1 lv ((xs.take i).drop d).length (((xs.take i).drop d).map El.rv) ∧ ∀ q, lv.ownBlock = some q → lv0.ownBlock = some q ∨ V.heap.size ≤ q
  keep : ∀ q, q < V.heap.size → q ≠ B → lv0.ownBlock ≠ some q → wr.heap[q]? = V.heap[q]?
  os : wr.os = V.os
  tape : wr.tape = V.tape
  output : wr.output = V.output
  size : V.heap.size ≤ wr.heap.size
theorem WM.cut (h : WM w R B k G P sy dl m) (n : Nat) (v : Value) (hv : v = .int .i64 (n : Int)) : WM (w.setCell ⟨B, 6, none⟩ v) R B k G P sy dl ⟨m.at', m.b, m.l, n⟩ ∧ Fr (fun q => G q ∨ P q) (fun q => G q ∨ P q) w (w.setCell ⟨B, 6, none⟩ v) := by
  subst hv
  obtain ⟨bv, lv, xs, h1, h2, h3, h4, h5, h6⟩ := h.mg
  have hPB : P B := (h6 B).2 (.inl rfl)
  have hk : ∀ q, q ≠ B → (w.setCell ⟨B, 6, none⟩ (.int .i64 (n : Int))).heap[q]? = w.heap[q]? := fun q hq => Below.heap_setCell _ _ _ _ hq
  have ho : ∀ {t b : Nat} {v : Value} {j : Nat} {zs : List Value}, t ≠ 57 → w.ownsRow b t 1 v j zs → ∀ q, v.ownBlock = some q → q ≠ B := fun {t b v j zs} ht hr q hq e => by
    obtain ⟨cur, hc⟩ := own_tag hr hq
    subst e
    exact ne_tag hc h1 ht rfl
  refine ⟨⟨h.mr.at' fun q hq => hk q (fun e => h.ap B hPB (e ▸ hq)), h.inv, ⟨bv, lv, xs, row_set (i := 6) _ h1, own_at h2 fun q hq => hk q (ho (by decide) h2 q hq), own_at h3 fun q hq => hk q (ho (by decide) h3 q hq), h4, fun x hx => own_at (h5 x hx) fun q hq => hk q (ho (by decide) (h5 x hx) q hq), h6⟩, h.ap⟩, ⟨rfl, rfl, rfl, by simp, fun q hq hn => hk q (fun e => hn (.inr (e ▸ hPB))), fun q hq => .inl hq⟩⟩
theorem wm_new (h : MR w R G sy dl) (i : Inv k sy dl) : WM (w.alloc (.cells (mgC R ⟨0, [], [], 0⟩ (.slice none 0 0) (.slice none 0 0)) 57)) R w.heap.size k G (fun q => q = w.heap.size) sy dl ⟨0, [], [], 0⟩ := by
  have hb := bel1 w (.cells (mgC R ⟨0, [], [], 0⟩ (.slice none 0 0) (.slice none 0 0)) 57)
  refine ⟨h.newer hb, i, ⟨.slice none 0 0, .slice none 0 0, [], Go.heap_alloc_new _ _, World.ownsRow_nil _ _ _ _, World.ownsRow_nil _ _ _ _, rfl, (fun x hx => absurd hx (by simp)), fun q => ?_⟩, fun q hq hG => ?_⟩
  · constructor
    · intro e; exact .inl e
    · rintro (e | e | e | ⟨x, hx, -⟩)
      · exact e
      · cases e
      · cases e
      · cases hx
  · have := h.lt q hG
    have e : q = w.heap.size := hq
    omega
set_option maxRecDepth 100000 in
set_option maxHeartbeats 4000000 in
theorem mopen_any (h : MR w R G sy dl) (i : Inv k sy dl) (hk : k ≤ 900000) (hrb : rbE dl = 0) (hnw : lkF nNew dl = none) (ha : (rbG g0 dl).bn + 1 < 18446744073709551616) : Calls Try.prog 41 #[.pointer (some ⟨R, 0, none⟩), .string { data := #[97] }] w fun e w' => ∃ B G' P', e = .returned (.tuple #[.pointer (some ⟨B, 0, none⟩), .int .i64 0]) ∧ WM w' R B (k + 2) G' P' sy (rrD (rbG g0 dl) dl) (opM dl) ∧ Fr G (fun q => G' q ∨ P' q) w w' := by
  have HN : Hid (∀ V, Calls Try.prog 71 #[.string (tx [97, 46, 108, 111, 103, 46, 110, 101, 119])] V fun e w' => e = .returned (.bool true) ∧ w' = V) := fun V => (rname_any [97, 46, 108, 111, 103, 46, 110, 101, 119] V (by decide))
  have HI : Hid (MR w R G sy dl ∧ Inv k sy dl ∧ k ≤ 900000 ∧ rbE dl = 0 ∧ lkF nNew dl = none ∧ (rbG g0 dl).bn + 1 < 18446744073709551616) := ⟨h, i, hk, hrb, hnw, ha⟩
  have HA : Hid (WM (w.alloc (.cells #[.pointer (some ⟨R, 0, none⟩), .string { data := #[97] }, .slice none 0 0, .bool false, .int .u64 0, .slice none 0 0, .int .i64 0] 57)) R w.heap.size k G (fun q => q = w.heap.size) sy dl ⟨0, [], [], 0⟩ ∧ Fr G (fun q => G q ∨ q = w.heap.size) w (w.alloc (.cells #[.pointer (some ⟨R, 0, none⟩), .string { data := #[97] }, .slice none 0 0, .bool false, .int .u64 0, .slice none 0 0, .int .i64 0] 57))) := ⟨wm_new h i, by
    have hb := bel1 w (.cells #[.pointer (some ⟨R, 0, none⟩), .string { data := #[97] }, .slice none 0 0, .bool false, .int .u64 0, .slice none 0 0, .int .i64 0] 57)
    exact ⟨hb.os, hb.tape, hb.output, hb.size, fun q hq _ => hb.block q hq, fun q hq => hq.imp id fun e => Nat.le_of_eq e.symm⟩⟩
  obtain ⟨B, hB⟩ : ∃ B, w.heap.size = B := ⟨_, rfl⟩
  clear h i hk hrb hnw ha
  go_enter Try.func41, Try.ntmps41
  go_upto_region 4 with (go_at_call 71; refine (HN.out _).mono ?_; rintro e w1 ⟨rfl, hw1⟩; rw [hw1]; clear hw1)
  obtain ⟨W1, hW1⟩ : ∃ W1, w.alloc (.cells #[.pointer (some ⟨R, 0, none⟩), .string { data := #[97] }, .slice none 0 0, .bool false, .int .u64 0, .slice none 0 0, .int .i64 0] 57) = W1 := ⟨_, rfl⟩
  have HW1 : Hid (w.alloc (.cells #[.pointer (some ⟨R, 0, none⟩), .string { data := #[97] }, .slice none 0 0, .bool false, .int .u64 0, .slice none 0 0, .int .i64 0] 57) = W1) := hW1
  rw [hW1] at HA ⊢
  rw [hB] at HA
  clear hW1
  obtain ⟨P0, hP0⟩ : ∃ P0 : Nat → Prop, (fun q => q = B) = P0 := ⟨_, rfl⟩
  have HA1 : Hid (WM W1 R B k G P0 sy dl ⟨0, [], [], 0⟩ ∧ Fr G (fun q => G q ∨ P0 q) w W1 ∧ W1.heap[B]? = some (.cells (mgC R ⟨0, [], [], 0⟩ (.slice none 0 0) (.slice none 0 0)) 57 (0, 0)) ∧ P0 B) := by
    rw [← hP0]
    refine ⟨HA.out.1, HA.out.2, ?_, rfl⟩
    rw [← HW1.out, ← hB]
    exact Go.heap_alloc_new _ _
  clear HA HN hP0 HW1
  have hcN : ∀ W, (binOp .add 9 (.string { data := #[97] }) (.string { data := #[46, 99, 107, 112, 46, 110, 101, 119] })).run Try.prog W = .ok (.string (tx nNew)) W := fun W => by kernel_rfl
  have hcC : ∀ W, (binOp .add 9 (.string { data := #[97] }) (.string { data := #[46, 99, 107, 112] })).run Try.prog W = .ok (.string (tx nCkp)) W := fun W => by kernel_rfl
  have hcL : ∀ W, (binOp .add 9 (.string { data := #[97] }) (.string { data := #[46, 108, 111, 103] })).run Try.prog W = .ok (.string (tx nLog)) W := fun W => by kernel_rfl
  obtain ⟨Z, hZ⟩ : ∃ Z, (rdBs nCkp dl).length = Z := ⟨_, rfl⟩
  obtain ⟨E, hE⟩ : ∃ E, rdEs nCkp dl = E := ⟨_, rfl⟩
  have HZ : Hid ((rdBs nCkp dl).length = Z ∧ rdEs nCkp dl = E) := ⟨hZ, hE⟩
  have HRC : Hid (Calls Try.prog 72 #[.pointer (some ⟨R, 0, none⟩), .string (tx nCkp)] W1 fun e w' => ∃ a c, e = .returned (.tuple #[.slice a Z c, .int .i64 E]) ∧ Hid (w'.ownsRow W1.heap.size 5 1 (.slice a Z c) (rdBs nCkp dl).length (u8l (rdBs nCkp dl)) ∧ Below W1.heap.size W1 w')) := by
    have h := rread_any HA1.out.1.mr HA1.out.1.inv nCkp
    rw [hE] at h
    rw [hZ] at h ⊢
    exact h
  clear hZ hE
  go_upto_if 33 with (go_at_call 72; refine HRC.out.mono ?_; rintro e w2 ⟨za, zc, rfl, H2⟩)
  clear HRC
  go_cut [9, 10, 11] from 34 to 61 (fun x y z wx => ∃ P1, Hid (WM wx R B k G P1 sy dl (m0 dl) ∧ Fr G (fun q => G q ∨ P1 q) w wx))
  case first =>
    by_cases hE0 : E = 0
    · subst hE0
      obtain ⟨n, r, hf, hg, hm, hn1, hn2, hr⟩ := ckp_one HZ.out.2 HI.out.2.2.2.1
      have HK : Hid (m0 dl = ⟨n, r, [], 0⟩ ∧ 1 ≤ n ∧ r.length ≤ 65536 ∧ goodI (rdBs nCkp dl) = [(n, r, Z)]) := by
        refine ⟨?_, hn1, hr, by rw [hg, HZ.out.1]⟩
        unfold m0
        rw [hm]
      have HFR : Hid (Calls Try.prog 12 #[.slice za Z zc] w2 fun e w' => ∃ ra rc, e = .returned (.tuple #[.slice (some ⟨ra, 0, none⟩) 1 rc, .int .u64 (n : Int), .int .i64 (Z : Int)]) ∧ Hid (∃ va vc, w'.cell? ⟨ra, 0, none⟩ = some (.slice va r.length vc) ∧ w'.ownsRow W1.heap.size 5 1 (.slice va r.length vc) r.length (u8l r) ∧ Below W1.heap.size W1 w' ∧ ∃ (cc : Array Value) (f : Nat × Nat), w'.heap[ra]? = some (.cells cc 23 f))) := by
        obtain ⟨y1, y2⟩ := rd_byt HI.out.2.1 nCkp
        have hz : Bz w2 (.slice za Z zc) (rdBs nCkp dl) := own_bz H2.out.1 y1 (by omega)
        refine (frm12 hz).mono ?_
        rintro e w' ⟨xs, la, lc, rfl, h1⟩
        obtain ⟨q1, q2, q3⟩ := h1.out.1
        have hln : lnL (rdBs nCkp dl) = n := by unfold lnL; rw [hg]; rfl
        have hen : endL (rdBs nCkp dl) = Z := by unfold endL; rw [hg, ← HZ.out.1]; rfl
        rw [hg] at q1 q2 ⊢
        rw [hln, hen]
        obtain ⟨x, rfl⟩ : ∃ x, xs = [x] := by
          match xs, q1 with
          | [x], _ => exact ⟨x, rfl⟩
        have hx : x.r = r := by
          have := congrArg (List.map fun q : Nat × List Int × Nat => q.2.1) q1
          simpa [El.pl] using this
        obtain ⟨ra, rc, hv⟩ := own_form q2 (by simp)
        have hla : la = some ⟨ra, 0, none⟩ := by cases hv; rfl
        subst hla
        have q4 : w'.ownsRow w2.heap.size 5 1 x.rv x.r.length (u8l x.r) := q3 x (by simp)
        obtain ⟨va, vc, hvx⟩ := own_slice q4
        have hc := q2.cellAt 0 (by simp)
        obtain ⟨cur, htag⟩ := own_tag q2 (q := ra) rfl
        refine ⟨ra, lc, rfl, va, vc, ?_, ?_, H2.out.2.trans (h1.out.2.mono H2.out.2.size), cur, _, htag⟩
        · rw [hc, ← hx]
          simp [hvx]
        · rw [hvx, hx] at q4
          exact own_low q4 H2.out.2.size
      clear hf hg hm hn1 hn2 hr
      go_upto_region 9 with (go_at_call 12; go_loud (refine HFR.out.mono ?_; rintro e w3 ⟨ra, rc, rfl, H3⟩))
      obtain ⟨va, vc, h31, h32, h33, cc, ff, h34⟩ := H3.out
      have g1 := (h33.block B (Array.getElem?_eq_some_iff.1 HA1.out.2.2.1).1).trans HA1.out.2.2.1
      have HB3 : Hid (w3.heap[B]? = some (.cells (mgC R ⟨0, [], [], 0⟩ (.slice none 0 0) (.slice none 0 0)) 57 (0, 0)) ∧ w3.ownsRow W1.heap.size 5 1 (.slice va r.length vc) r.length (u8l r) ∧ Below W1.heap.size W1 w3) := ⟨g1, h32, h33⟩
      have f2 := frozen_of_row _ _ 2 _ _ g1
      have f3 := frozen_of_row _ _ 3 _ _ g1
      have f4 := frozen_of_row _ _ 4 _ _ g1
      have c2 : w3.cell? ⟨B, 2, none⟩ = some (.slice none 0 0) := by rw [cell_of_row _ _ _ _ _ _ g1]; rfl
      have c3 : w3.cell? ⟨B, 3, none⟩ = some (.bool false) := by rw [cell_of_row _ _ _ _ _ _ g1]; rfl
      have c4 : w3.cell? ⟨B, 4, none⟩ = some (.int .u64 0) := by rw [cell_of_row _ _ _ _ _ _ g1]; rfl
      have nra : ¬ ra = B := ne_tag h34 g1 (by decide)
      clear h34 h32 h33
      go_wp2_with fail
      go_meet
      have hb2 := row_set (i := 3) (.bool true) g1
      have hb3 := row_set (i := 2) (.slice va r.length vc) hb2
      have hb4 := row_set (i := 4) (.int .u64 (n : Int)) hb3
      obtain ⟨W8, hW8⟩ : ∃ W8, ((w3.setCell ⟨B, 3, none⟩ (.bool true)).setCell ⟨B, 2, none⟩ (.slice va r.length vc)).setCell ⟨B, 4, none⟩ (.int .u64 (n : Int)) = W8 := ⟨_, rfl⟩
      have hk : ∀ q, q ≠ B → W8.heap[q]? = w3.heap[q]? := fun q hq => by rw [← hW8, Below.heap_setCell _ _ _ _ hq, Below.heap_setCell _ _ _ _ hq, Below.heap_setCell _ _ _ _ hq]
      have hBW : B < W1.heap.size := (Array.getElem?_eq_some_iff.1 HA1.out.2.2.1).1
      have hsz : W8.heap.size = w3.heap.size := by rw [← hW8]; simp
      rw [hW8] at hb4
      obtain ⟨P1, h1, h2⟩ := mk_fin (V := W8) (bv' := .slice va r.length vc) (lv := .slice none 0 0) (xs := []) (bv := .slice none 0 0) (m' := ⟨n, r, [], 0⟩) HA1.out.1 HA1.out.2.2.2 rfl
        (by
          rw [hb4]
          unfold mgC
          have hd : decide ((⟨n, r, [], 0⟩ : Mg).at' ≠ 0) = true := decide_eq_true (by have := HK.out.2.1; show n ≠ 0; omega)
          rw [hd]
          rfl)
        (fun q hq hn => (hk q hn).trans (HB3.out.2.2.block q hq)) (by rw [← hW8]; exact HB3.out.2.2.os) (by rw [← hW8]; exact HB3.out.2.2.tape) (by rw [← hW8]; exact HB3.out.2.2.output) (by rw [hsz]; exact HB3.out.2.2.size)
        (own_at HB3.out.2.1 fun q hq => hk q (by have := (HB3.out.2.1.lt q hq).1; omega))
      refine ⟨P1, ?_⟩
      rw [hW8, HK.out.1]
      exact ⟨h1, HA1.out.2.1.trans' h2⟩
    · have hE1 : (E == 0) = false := by rw [beq_eq_false_iff_ne]; exact hE0
      have HM : Hid (m0 dl = ⟨0, [], [], 0⟩) := by
        show _ = _
        unfold m0 rbG
        rw [if_neg (by rw [HZ.out.2]; exact hE0)]
        rfl
      clear hE0
      go_wp2_with fail
      go_meet
      refine ⟨P0, ?_⟩
      rw [HM.out]
      exact ⟨HA1.out.1.newer H2.out.2, HA1.out.2.1.trans' (Fr.newer H2.out.2)⟩
  case rest =>
  obtain ⟨P1, H3⟩ := hcut
  clear HZ H2 HA1
  obtain ⟨A, hA⟩ : ∃ A, (rbG g0 dl).bn = A := ⟨_, rfl⟩
  obtain ⟨zs, hzs⟩ : ∃ zs, rdBs nLog dl = zs := ⟨_, rfl⟩
  obtain ⟨Z2, hZ2⟩ : ∃ Z2, zs.length = Z2 := ⟨_, rfl⟩
  obtain ⟨E2, hE2⟩ : ∃ E2, rdEs nLog dl = E2 := ⟨_, rfl⟩
  have HV : Hid ((rbG g0 dl).bn = A ∧ rdBs nLog dl = zs ∧ zs.length = Z2 ∧ rdEs nLog dl = E2 ∧ Byt zs ∧ Z2 ≤ 1048576 ∧ A + 1 < 18446744073709551616) := by
    obtain ⟨y1, y2⟩ := rd_byt HI.out.2.1 nLog
    rw [hzs] at y1 y2
    exact ⟨hA, hzs, hZ2, hE2, y1, by omega, by rw [← hA]; exact HI.out.2.2.2.2.2⟩
  have HRM : Hid (Calls Try.prog 48 #[.pointer (some ⟨R, 0, none⟩), .string (tx nNew)] wc fun e w' => (∃ y, e = .returned (.int .i64 y)) ∧ ∃ F4, Hid (WM w' R B k F4 P1 sy dl (m0 dl) ∧ Fr G (fun q => F4 q ∨ P1 q) w w')) := by
    refine (m_remove H3.out.1.mr H3.out.1.inv).mono ?_
    rintro e w' ⟨rfl, F4, h1, h2⟩
    have e0 : rmD nNew dl = dl := outF_none HI.out.2.2.2.2.1
    rw [e0] at h1
    obtain ⟨h3, h4⟩ := H3.out.1.disk h1 h2 H3.out.1.inv
    exact ⟨⟨_, rfl⟩, F4, h3, H3.out.2.trans' h4⟩
  have HRL : Hid (∀ V F4, WM V R B k F4 P1 sy dl (m0 dl) → Calls Try.prog 72 #[.pointer (some ⟨R, 0, none⟩), .string (tx nLog)] V fun e w' => ∃ a c, e = .returned (.tuple #[.slice a Z2 c, .int .i64 E2]) ∧ Hid (w'.ownsRow V.heap.size 5 1 (.slice a Z2 c) zs.length (u8l zs) ∧ Below V.heap.size V w')) := by
    show ∀ V F4, _
    intro V F4 hV
    have h := rread_any hV.mr hV.inv nLog
    rw [hE2, hzs, hZ2] at h
    rw [hZ2]
    exact h
  clear hA hzs hZ2 hE2
  go_upto_if 74 with (first | (go_at_call 48; refine HRM.out.mono ?_; rintro e w4 ⟨⟨y4, rfl⟩, F4, H4⟩) | (go_at_call 72; refine (HRL.out _ _ H4.out.1).mono ?_; rintro e w5 ⟨la, lc, rfl, H5⟩))
  clear HRM HRL hcN hcC
  by_cases hE : E2 = 0
  · subst hE
    obtain ⟨sN, l, rest, hg, hz, hlb, hs1, hs2⟩ := good_form zs
    obtain ⟨N, hN⟩ : ∃ N, l.length = N := ⟨_, rfl⟩
    obtain ⟨En, hEn⟩ : ∃ En, endL zs = En := ⟨_, rfl⟩
    obtain ⟨LN, hLN⟩ : ∃ LN, lnL zs = LN := ⟨_, rfl⟩
    have HLN : Hid (LN < 18446744073709551616 ∧ (N = 0 → LN = 0) ∧ (N ≠ 0 → LN = sN + N - 1)) := by
      have h1 : l = [] → LN = 0 := fun e => by rw [← hLN]; unfold lnL; rw [hg, e]; rfl
      have h2 : l ≠ [] → LN = sN + N - 1 := fun e => by
        obtain ⟨y, c, rfl⟩ : ∃ y c, l = y ++ [c] := by
          rcases List.eq_nil_or_concat l with h | ⟨y, c, h⟩
          · exact absurd h e
          · exact ⟨y, c, by rw [h]; simp⟩
        rw [← hLN]
        unfold lnL
        rw [hg, gdL_last]
        simp at hN ⊢
        omega
      refine ⟨?_, fun e => h1 (List.eq_nil_of_length_eq_zero (by omega)), fun e => h2 (fun h => e (by rw [← hN, h]; rfl))⟩
      by_cases e : l = []
      · rw [h1 e]; omega
      · rw [h2 e]; omega
    have HG : Hid (goodI zs = gdL sN 0 l ∧ (∀ b ∈ l, b.length ≤ 65536) ∧ 1 ≤ sN ∧ sN + N ≤ 18446744073709551616 ∧ l.length = N ∧ endL zs = En ∧ N ≤ 1048576 ∧ En ≤ Z2) := by
      have h1 := good_len zs
      rw [hg, gdL_len] at h1
      refine ⟨hg, hlb, hs1, by omega, hN, hEn, by have := HV.out; omega, ?_⟩
      rw [← hEn, end_gd hg, ← HV.out.2.2.1, hz]
      simp
    have HFR : Hid (Calls Try.prog 12 #[.slice la Z2 lc] w5 fun e w' => ∃ ra rc, e = .returned (.tuple #[.slice ra N rc, .int .u64 (LN : Int), .int .i64 (En : Int)]) ∧ Hid (∃ xs, RecsAt w' w5.heap.size (.slice ra N rc) xs zs ∧ Below w5.heap.size w5 w')) := by
      have hzb : Bz w5 (.slice la Z2 lc) zs := by
        have h := H5.out.1
        rw [← HV.out.2.2.1] at h ⊢
        exact own_bz h HV.out.2.2.2.2.1 (by have := HV.out; omega)
      refine (frm12 hzb).mono ?_
      rintro e w' ⟨xs, ra, rc, rfl, h1⟩
      have e1 : (goodI zs).length = N := by rw [hg, gdL_len, hN]
      rw [e1] at h1 ⊢
      rw [hEn, hLN]
      exact ⟨ra, rc, rfl, xs, h1⟩
    clear hg hz hlb hs1 hs2 hN hEn hLN
    go_upto_region 17 with (go_at_call 12; refine HFR.out.mono ?_; rintro e w6 ⟨ra, rc, rfl, H6⟩)
    clear HFR
    obtain ⟨D, hD⟩ : ∃ D, LN - N = D := ⟨_, rfl⟩
    have HD : Hid ((LN : Int) - (N : Int) = (D : Int) ∧ D + 1 < 18446744073709551616 ∧ (N ≠ 0 → D + 1 = sN)) := by
      obtain ⟨a1, a2, a3⟩ := HLN.out
      obtain ⟨b1, b2, b3, b4, b5, b6, b7, b8⟩ := HG.out
      by_cases h0 : N = 0
      · have := a2 h0; exact ⟨by omega, by omega, fun h => absurd h0 h⟩
      · have := a3 h0; exact ⟨by omega, by omega, fun _ => by omega⟩
    have w0 : IntKind.u64.wrap (N : Int) = (N : Int) := by have := HG.out; rw [IntKind.wrap_u64]; omega
    have w1 : IntKind.u64.wrap ((LN : Int) - (N : Int)) = (D : Int) := by have := HD.out; rw [IntKind.wrap_u64]; omega
    have w2 : IntKind.u64.wrap ((D : Int) + 1) = (D : Int) + 1 := by have := HD.out; rw [IntKind.wrap_u64]; omega
    clear hD
    go_upto_region 18 with (fail)
    have HW6 : Hid (WM w6 R B k F4 P1 sy dl (m0 dl) ∧ Fr G (fun q => F4 q ∨ P1 q) w w6) := ⟨(H4.out.1.newer H5.out.2).newer (by obtain ⟨xs, h1, h2⟩ := H6.out; exact h2), (H4.out.2.trans' (Fr.newer H5.out.2)).trans' (Fr.newer (by obtain ⟨xs, h1, h2⟩ := H6.out; exact h2))⟩
    have HL6 : Hid (∃ base xs, RecsAt w6 base (.slice ra N rc) xs zs ∧ ∀ q, F4 q ∨ P1 q → q < base) := by
      obtain ⟨xs, h1, h2⟩ := H6.out
      refine ⟨_, xs, h1, fun q hq => Nat.lt_of_lt_of_le (hq.elim (H4.out.1.mr.lt q) (H4.out.1.mg.lt q)) H5.out.2.size⟩
    have c4 : w6.cell? ⟨B, 4, none⟩ = some (.int .u64 (A : Int)) := by
      obtain ⟨bv, lv, xs, g1, -⟩ := HW6.out.1.mg
      rw [cell_of_row _ _ _ _ _ _ g1, ← HV.out.1]
      rfl
    have HC : Hid ((rrL zs A = []) ↔ (N = 0 ∨ A + 1 < D + 1 ∨ LN ≤ A)) := by
      obtain ⟨a1, a2, a3⟩ := HLN.out
      obtain ⟨b1, b2, b3, b4, b5, b6, b7, b8⟩ := HG.out
      obtain ⟨d1, d2, d3⟩ := HD.out
      show _ ↔ _
      rw [rr_gd b1]
      by_cases h0 : N = 0
      · rw [if_neg (by omega)]
        exact ⟨fun _ => .inl h0, fun _ => rfl⟩
      · have := a3 h0
        have := d3 h0
        by_cases hc : A + 1 - sN < l.length ∧ sN ≤ A + 1
        · rw [if_pos hc]
          constructor
          · intro h
            have h1 := congrArg List.length h
            rw [numL_len, List.length_drop] at h1
            simp at h1
            omega
          · intro h; omega
        · rw [if_neg hc]
          refine ⟨fun _ => ?_, fun _ => rfl⟩
          omega
    have w3 : IntKind.u64.wrap ((A : Int) + 1) = (A : Int) + 1 := by have := HV.out; rw [IntKind.wrap_u64]; omega
    clear H4 H5 H6
    go_cut [107] from 88 to 106 (fun x wx => x = .bool (decide (rrL zs A = [])) ∧ wx = w6)
    case first =>
      by_cases h0 : N = 0
      · have hn0 : ((N : Int) == 0) = true := by rw [beq_iff_eq]; omega
        have HT : Hid (rrL zs A = []) := HC.out.2 (.inl h0)
        clear h0
        go_wp2_with fail
        go_meet
        exact ⟨congrArg Value.bool (decide_eq_true HT.out).symm, rfl⟩
      · have hn0 : ((N : Int) == 0) = false := by rw [beq_eq_false_iff_ne]; omega
        by_cases h1 : A + 1 < D + 1
        · have h1i : (A : Int) < (D : Int) := by omega
          have h1j : (A : Int) + 1 < (D : Int) + 1 := by omega
          have HT : Hid (rrL zs A = []) := HC.out.2 (.inr (.inl h1))
          clear h0 h1
          go_wp2_with fail
          go_meet
          exact ⟨congrArg Value.bool (decide_eq_true HT.out).symm, rfl⟩
        · have h1i : ¬ (A : Int) < (D : Int) := by omega
          have h1j : ¬ (A : Int) + 1 < (D : Int) + 1 := by omega
          by_cases h2 : LN ≤ A
          · have h2i : (LN : Int) ≤ (A : Int) := by omega
            have HT : Hid (rrL zs A = []) := HC.out.2 (.inr (.inr h2))
            clear h0 h1 h2
            go_wp2_with fail
            go_meet
            exact ⟨congrArg Value.bool (decide_eq_true HT.out).symm, rfl⟩
          · have h2i : ¬ (LN : Int) ≤ (A : Int) := by omega
            have HT : Hid (¬ rrL zs A = []) := fun h => by
              have := HC.out.1 h
              omega
            clear h0 h1 h2
            go_wp2_with fail
            go_meet
            exact ⟨congrArg Value.bool (decide_eq_false HT.out).symm, rfl⟩
    case rest =>
    obtain ⟨rfl, rfl⟩ := hcut
    clear c4 w0 w1 w2 w3 HLN
    obtain ⟨T, hT⟩ : ∃ T, takenL zs A = T := ⟨_, rfl⟩
    obtain ⟨RL, hRL⟩ : ∃ RL, (if rrL zs A = [] then [] else l) = RL := ⟨_, rfl⟩
    obtain ⟨Nr, hNr⟩ : ∃ Nr, RL.length = Nr := ⟨_, rfl⟩
    have HT : Hid (takenL zs A = T ∧ (if rrL zs A = [] then [] else l) = RL ∧ RL.length = Nr ∧ T ≤ Z2 ∧ Nr ≤ 1048576) := by
      refine ⟨hT, hRL, hNr, by rw [← hT, ← HV.out.2.2.1]; exact taken_le zs A, ?_⟩
      have := HG.out
      rw [← hNr, ← hRL]
      split
      · simp
      · omega
    clear hT hRL hNr
    go_upto_if 107 with (fail)
    go_cut [12, 14, 107] from 108 to 108 (fun x y z wx => ∃ qa qc, x = .slice qa Nr qc ∧ y = .int .i64 (T : Int) ∧ Hid (WM wx R B k F4 P1 sy dl (m0 dl) ∧ Fr G (fun q => F4 q ∨ P1 q) w wx ∧ ∃ base xs, wx.ownsRow base 23 1 (.slice qa Nr qc) Nr ((xs : List El).map El.rv) ∧ (∀ x ∈ xs, rowX base x wx) ∧ xs.map El.r = RL ∧ ∀ q, F4 q ∨ P1 q → q < base))
    case first =>
      by_cases hr : rrL zs A = []
      · have hb : decide (rrL zs A = []) = true := decide_eq_true hr
        rw [hb]
        have HR : Hid (T = 0 ∧ RL = [] ∧ Nr = 0) := by
          obtain ⟨t1, t2, t3, t4, t5⟩ := HT.out
          rw [if_pos hr] at t2
          refine ⟨by rw [← t1]; exact if_pos hr, t2.symm, by rw [← t3, ← t2]; rfl⟩
        clear hr hb
        go_wp2_with fail
        go_meet
        obtain ⟨r1, r2, r3⟩ := HR.out
        rw [r1, r2, r3]
        refine ⟨none, 0, rfl, rfl, HW6.out.1, HW6.out.2, wc.heap.size, [], World.ownsRow_nil _ _ _ _, ?_, rfl, fun q hq => hq.elim (HW6.out.1.mr.lt q) (HW6.out.1.mg.lt q)⟩
        intro x hx
        exact absurd hx (by simp)
      · have hb : decide (rrL zs A = []) = false := decide_eq_false hr
        rw [hb]
        have HR : Hid (T = En ∧ RL = l ∧ Nr = N) := by
          obtain ⟨t1, t2, t3, t4, t5⟩ := HT.out
          rw [if_neg hr] at t2
          refine ⟨?_, t2.symm, by rw [← t3, ← t2]; exact HG.out.2.2.2.2.1⟩
          rw [← t1, ← HG.out.2.2.2.2.2.1]
          exact if_neg hr
        clear hr hb
        go_wp2_with fail
        go_meet
        obtain ⟨r1, r2, r3⟩ := HR.out
        obtain ⟨base, xs, hx, hxb⟩ := HL6.out
        rw [r1, r2, r3]
        have hlen := hx.len
        rw [HG.out.1, gdL_len, HG.out.2.2.2.2.1] at hlen
        refine ⟨ra, rc, rfl, rfl, HW6.out.1, HW6.out.2, base, xs, by rw [← hlen]; rw [← hlen] at hx; exact hx.row, hx.each, ?_, hxb⟩
        have h1 := congrArg (List.map fun q : Nat × List Int × Nat => q.2.1) hx.pl
        rw [HG.out.1, gdL_pl, List.map_map] at h1
        exact h1
    case rest =>
    obtain ⟨qa, qc, rfl, rfl, H7⟩ := hcut
    clear HW6 HL6 HC
    obtain ⟨mc, hmc⟩ : ∃ mc : Mg, (⟨(m0 dl).at', (m0 dl).b, [], Z2 - T⟩ : Mg) = mc := ⟨_, rfl⟩
    have HMC : Hid ((⟨(m0 dl).at', (m0 dl).b, [], Z2 - T⟩ : Mg) = mc) := hmc
    clear hmc
    go_upto_if 111 with (fail)
    go_cut [111] from 112 to 123 (fun x wx => ∃ F5, Hid (WM wx R B (k + 2) F5 P1 sy (rrD (rbG g0 dl) dl) mc ∧ Fr G (fun q => F5 q ∨ P1 q) w wx ∧ ∃ base xs, wx.ownsRow base 23 1 (.slice qa Nr qc) Nr ((xs : List El).map El.rv) ∧ (∀ x ∈ xs, rowX base x wx) ∧ xs.map El.r = RL ∧ (∀ q, P1 q → q < base) ∧ ∀ x ∈ xs, ∀ q, x.rv.ownBlock = some q → ¬ F5 q))
    case first =>
      by_cases hc : T < Z2
      · have hci : (T : Int) < (Z2 : Int) := by omega
        have hcw : IntKind.i64.wrap ((Z2 : Int) - (T : Int)) = (Z2 : Int) - (T : Int) := by have := HV.out; rw [IntKind.wrap_i64]; omega
        obtain ⟨h71, h72⟩ := H7.out.1.cut (Z2 - T) (.int .i64 ((Z2 : Int) - (T : Int))) (by congr 1; omega)
        have HC7 : Hid (WM (wc.setCell ⟨B, 6, none⟩ (.int .i64 ((Z2 : Int) - (T : Int)))) R B k F4 P1 sy dl mc ∧ Fr (fun q => F4 q ∨ P1 q) (fun q => F4 q ∨ P1 q) wc (wc.setCell ⟨B, 6, none⟩ (.int .i64 ((Z2 : Int) - (T : Int)))) ∧ T < Z2) := by
          rw [← HMC.out]
          exact ⟨h71, h72, hc⟩
        have HCU : Hid (Calls Try.prog 51 #[.pointer (some ⟨R, 0, none⟩), .string (tx nLog), .int .i64 (T : Int)] (wc.setCell ⟨B, 6, none⟩ (.int .i64 ((Z2 : Int) - (T : Int)))) fun e w' => (∃ y, e = .returned (.int .i64 y)) ∧ ∃ F5, Hid (WM w' R B (k + 1) F5 P1 sy (cuD nLog (T : Int) dl) mc ∧ Fr (fun q => F4 q ∨ P1 q) (fun q => F5 q ∨ P1 q) wc w' ∧ Fr F4 F5 (wc.setCell ⟨B, 6, none⟩ (.int .i64 ((Z2 : Int) - (T : Int)))) w')) := by
          refine (m_cut HC7.out.1.mr HC7.out.1.inv (T : Int)).mono ?_
          rintro e w' ⟨rfl, F5, h1, h2⟩
          obtain ⟨h3, h4⟩ := HC7.out.1.disk h1 h2 (cu_inv HC7.out.1.inv)
          exact ⟨⟨_, rfl⟩, F5, h3, HC7.out.2.1.trans' h4, h2⟩
        obtain ⟨bv, lv, ps, g1, -⟩ := H7.out.1.mg
        have f6 := frozen_of_row _ _ 6 _ _ g1
        have c6 : wc.cell? ⟨B, 6, none⟩ = some (.int .i64 ((m0 dl).cut : Int)) := by rw [cell_of_row _ _ _ _ _ _ g1]; rfl
        have HG1 : Hid (wc.heap[B]? = some (.cells (mgC R (m0 dl) bv lv) 57 (0, 0))) := g1
        clear h71 h72 g1 hc
        go_wp2_with (go_at_call 51; refine HCU.out.mono ?_; rintro e w8 ⟨⟨y8, rfl⟩, F5, H8⟩)
        go_meet
        have e1 : rrD (rbG g0 dl) dl = cuD nLog (T : Int) dl := by
          unfold rrD
          rw [HV.out.1, HV.out.2.1, HT.out.1, HV.out.2.2.1, if_pos (by have := HC7.out.2.2; omega)]
        obtain ⟨h1, h2, base, xs, h3, h4, h5, h6⟩ := H7.out
        have hk : ∀ q, q < wc.heap.size → base ≤ q → w8.heap[q]? = wc.heap[q]? := fun q hq hb => H8.out.2.1.block q hq fun e => by have := h6 q e; omega
        rw [e1]
        refine ⟨F5, H8.out.1.upto (by omega), h2.trans' H8.out.2.1, base, xs, own_at h3 fun q hq => hk q (h3.lt q hq).2 (h3.lt q hq).1, fun x hx => ?_, h5, fun q hq => h6 q (.inr hq), fun x hx q hq hF => ?_⟩
        · have h9 : wc.ownsRow base 5 1 x.rv x.r.length (u8l x.r) := h4 x hx
          exact own_at h9 fun q hq => hk q (h9.lt q hq).2 (h9.lt q hq).1
        · have h9 : wc.ownsRow base 5 1 x.rv x.r.length (u8l x.r) := h4 x hx
          have h10 := h9.lt q hq
          rcases H8.out.2.2.grow q hF with h | h
          · have := h6 q (.inl h); omega
          · have h' : wc.heap.size ≤ q := by simpa using h
            omega
      · have hci : ¬ (T : Int) < (Z2 : Int) := by omega
        have HTZ : Hid (¬ T < Z2) := hc
        clear hc
        go_wp2_with fail
        go_meet
        have e1 : rrD (rbG g0 dl) dl = dl := by
          unfold rrD
          rw [HV.out.1, HV.out.2.1, HT.out.1, HV.out.2.2.1, if_neg (by have := HTZ.out; omega)]
        have e2 : mc = m0 dl := by
          rw [← HMC.out, show Z2 - T = 0 by have := HTZ.out; omega]
          rfl
        obtain ⟨h1, h2, base, xs, h3, h4, h5, h6⟩ := H7.out
        rw [e1, e2]
        exact ⟨F4, h1.upto (by omega), h2, base, xs, h3, h4, h5, fun q hq => h6 q (.inr hq), fun x hx q hq hF => by
          have h9 : wc.ownsRow base 5 1 x.rv x.r.length (u8l x.r) := h4 x hx
          have h10 := h9.lt q hq
          have := h6 q (.inl hF)
          omega⟩
    case rest =>
    obtain ⟨F5, H8⟩ := hcut
    clear H7 hcL
    obtain ⟨base, xs, x1, x2, x3, x4, x5⟩ := H8.out.2.2
    obtain ⟨bv, lv0, ps0, g1, g2, g3, g4, g5, g6⟩ := H8.out.1.mg
    have hml : mc.l = [] := by rw [← HMC.out]
    have hps : ps0 = [] := by rw [hml] at g4; exact List.map_eq_nil_iff.1 g4
    subst hps
    have hma : mc.at' = A := by rw [← HMC.out]; exact HV.out.1
    have HX : Hid (wc.ownsRow base 23 1 (.slice qa Nr qc) Nr (xs.map El.rv) ∧ (∀ x ∈ xs, wc.ownsRow base 5 1 x.rv x.r.length (u8l x.r)) ∧ xs.map El.r = RL ∧ (∀ q, P1 q → q < base) ∧ xs.length = Nr ∧ Nr ≤ 1048576 ∧ P1 B ∧ (∀ q, lv0.ownBlock = some q → P1 q) ∧ (∀ q, bv.ownBlock = some q → P1 q) ∧ mc.at' = A ∧ mc.l = [] ∧ wc.ownsRow 0 5 1 bv mc.b.length (u8l mc.b) ∧ wc.heap[B]? = some (.cells (mgC R mc bv lv0) 57 (0, 0)) ∧ wc.ownsRow 0 23 1 lv0 0 [] ∧ ∀ x ∈ xs, ∀ q, x.rv.ownBlock = some q → ¬ F5 q) :=
      ⟨x1, x2, x3, x4, by have := HT.out.2.2.1; rw [← x3, List.length_map] at this; exact this, HT.out.2.2.2.2, (g6 B).2 (.inl rfl), fun q hq => (g6 q).2 (.inr (.inr (.inl hq))), fun q hq => (g6 q).2 (.inr (.inl hq)), hma, hml, g2, g1, by simpa using g3, x5⟩
    have HL0 : Hid (LI wc B R mc bv lv0 xs (A - D) 0 wc) := ⟨⟨lv0, g1, by simpa using g3, fun q hq => .inl hq⟩, fun q _ _ _ => rfl, rfl, rfl, rfl, Nat.le_refl _⟩
    have hNi : (Nr : Int) ≤ 1048576 := by have := HX.out.2.2.2.2.2.1; omega
    obtain ⟨V, hV⟩ : ∃ V, wc = V := ⟨_, rfl⟩
    subst hV
    clear x1 x2 x3 x4 x5 g1 g2 g3 g4 g5 g6 hml hma
    go_wp2_with fail
    go_loopw [16] (fun x wr => ∃ i : Nat, i ≤ Nr ∧ x = .int .i64 (i : Int) ∧ Hid (LI wc B R mc bv lv0 xs (A - D) i wr)) (fun x _ => Nr - (intOf x).toNat)
    case atStart => exact ⟨0, Nat.zero_le _, rfl, HL0.out⟩
    case round =>
      obtain ⟨i, hle, rfl, HI1⟩ := hrel
      by_cases hlt : i < Nr
      · have hlti : (i : Int) < (Nr : Int) := by omega
        obtain ⟨x, hx⟩ : ∃ x, xs[i]? = some x := ⟨_, List.getElem?_eq_getElem (by rw [HX.out.2.2.2.2.1]; exact hlt)⟩
        obtain ⟨lv, l1, l2, l3⟩ := HI1.out.ex
        obtain ⟨la2, lc2, hlv⟩ := own_slice l2
        obtain ⟨M, hM⟩ : ∃ M, ((xs.take i).drop (A - D)).length = M := ⟨_, rfl⟩
        rw [hM] at hlv l2
        rw [hlv] at l1 l2 l3
        have hrow : wr.ownsRow base 23 1 (.slice qa Nr qc) Nr (xs.map El.rv) := own_at HX.out.1 fun q hq => by
          obtain ⟨cur, hc⟩ := own_tag HX.out.1 hq
          have h1 := (HX.out.1.lt q hq)
          refine HI1.out.keep q h1.2 (fun e => ?_) fun e => ?_
          · have := HX.out.2.2.2.1 q (e ▸ HX.out.2.2.2.2.2.2.1); omega
          · have := HX.out.2.2.2.1 q (HX.out.2.2.2.2.2.2.2.1 q e); omega
        obtain ⟨rq, rcap, hrv⟩ := own_form hrow (by omega)
        have hqa : qa = some ⟨rq, 0, none⟩ := by cases hrv; rfl
        subst hqa
        have k1 : wr.cell? ⟨rq, i, none⟩ = some x.rv := by
          rw [hrow.cellAt i (by omega), List.getElem?_map, hx]
          rfl
        obtain ⟨xa, xc, hxv⟩ := own_slice (HX.out.2.1 x (List.mem_of_getElem? hx))
        rw [hxv] at k1
        obtain ⟨XL, hXL⟩ : ∃ XL, x.r.length = XL := ⟨_, rfl⟩
        rw [hXL] at k1 hxv
        have HR : Hid (wr.heap[B]? = some (.cells (mgC R mc bv (.slice la2 M lc2)) 57 (0, 0)) ∧ wr.ownsRow 0 23 1 (.slice la2 M lc2) M (((xs.take i).drop (A - D)).map El.rv) ∧ (∀ q, (Value.slice la2 M lc2).ownBlock = some q → lv0.ownBlock = some q ∨ wc.heap.size ≤ q) ∧ xs[i]? = some x ∧ x.rv = .slice xa XL xc ∧ i < Nr ∧ ((xs.take i).drop (A - D)).length = M ∧ M ≤ 1048576) := ⟨l1, l2, l3, hx, hxv, hlt, hM, by rw [List.length_drop, List.length_take] at hM; have := HX.out; omega⟩
        have c4 : wr.cell? ⟨B, 4, none⟩ = some (.int .u64 (A : Int)) := by rw [cell_of_row _ _ _ _ _ _ l1, ← HX.out.2.2.2.2.2.2.2.2.2.1]; rfl
        have c5 : wr.cell? ⟨B, 5, none⟩ = some (.slice la2 M lc2) := by rw [cell_of_row _ _ _ _ _ _ l1]; rfl
        have f5 := frozen_of_row _ _ 5 _ _ l1
        have hw0 : IntKind.u64.wrap (i : Int) = (i : Int) := by rw [IntKind.wrap_u64]; omega
        have hw1 : IntKind.u64.wrap ((D : Int) + 1 + (i : Int)) = (D : Int) + 1 + (i : Int) := by
          have h1 := HT.out; have h2 := HG.out; have h3 := HD.out
          have : D + 1 + i < 18446744073709551616 := by
            obtain ⟨t1, t2, t3, t4, t5⟩ := h1
            by_cases hr : rrL zs A = []
            · rw [if_pos hr] at t2; rw [← t2] at t3; simp at t3; omega
            · rw [if_neg hr] at t2; rw [← t2] at t3
              have e1 : Nr = N := by rw [← t3]; exact h2.2.2.2.2.1
              have := h3.2.2 (by omega)
              omega
          rw [IntKind.wrap_u64]; omega
        obtain ⟨i0, hi, hz0, hz1, hz2⟩ := info_parts info23
        clear hle hlt hx l1 l2 l3 hlv hM hrow hrv hxv hXL
        by_cases hge : A < D + 1 + i
        · have hgi : (A : Int) < (D : Int) + 1 + (i : Int) := by omega
          have HGE : Hid (A < D + 1 + i) := hge
          clear hge
          have hB1 : (wr.alloc (.cells #[.slice xa XL xc] 23)).drew.heap[B]? = some (.cells (mgC R mc bv (.slice la2 M lc2)) 57 (0, 0)) := (Below.heap_alloc _ _ _ (Array.getElem?_eq_some_iff.1 HR.out.1).1).trans HR.out.1
          have c5b : (wr.alloc (.cells #[.slice xa XL xc] 23)).drew.cell? ⟨B, 5, none⟩ = some (.slice la2 M lc2) := by rw [cell_of_row _ _ _ _ _ _ hB1]; rfl
          clear hB1
          go_upto_region 28 with (fail)
          go_region_law (first | (refine step_append_lies _ rfl (.tmp 143) (.tmp 148) 29 rfl 0 23 i0 (.slice none 0 0) 1 24 Try.underlying29 hi hz0 hz1 hz2 rfl (by decide) (.slice la2 M lc2) M (((xs.take i).drop (A - D)).map El.rv) (by simp [Act.eval, Act.put]) ((own_at HR.out.2.1 fun q hq => rfl).alloc _) ⟨wr.heap.size, 0, none⟩ 1 1 [.slice xa XL xc] (by simp [Act.eval, Act.put]) rfl (World.news_of_block (Go.heap_alloc_new _ _)) (by intro u hu; simp at hu; rcases hu with rfl; rfl) (by decide) (by have := HR.out.2.2; unfold maxLen; omega) (by have := HR.out.2.2; omega) (Nat.zero_le _) (wr.heap.size + 1) (by simp) ?_; intro g6 cp6 w6 hown6 hgrow6 hx6 hy6; (have hL6 : w6.heap[B]? = some (.cells (mgC R mc bv (.slice la2 M lc2)) 57 (0, 0)) := (hgrow6.block B (by have := (Array.getElem?_eq_some_iff.1 HR.out.1).1; simp; omega) (own_other HR.out.2.1 HR.out.1 (by decide))).trans ((Below.heap_alloc _ _ _ (Array.getElem?_eq_some_iff.1 HR.out.1).1).trans HR.out.1)); (have HA6 : Hid (w6.ownsRow 0 23 1 (.slice (some ⟨g6, 0, none⟩) (M + 1) cp6) (M + 1) (((xs.take i).drop (A - D)).map El.rv ++ [.slice xa XL xc]) ∧ (wr.alloc (.cells #[.slice xa XL xc] 23)).drew.grownBy w6 (Value.slice la2 M lc2).ownBlock ∧ ((Value.slice la2 M lc2).ownBlock = some g6 ∨ g6 = wr.heap.size + 1)) := ⟨hown6, hgrow6, hx6⟩); (have HL6 : Hid (w6.heap[B]? = some (.cells (mgC R mc bv (.slice la2 M lc2)) 57 (0, 0))) := hL6); (have c5 : w6.cell? ⟨B, 5, none⟩ = some (.slice la2 M lc2) := by rw [cell_of_row _ _ _ _ _ _ hL6]; rfl); (have f5 := frozen_of_row _ _ 5 _ _ hL6)))
          all_goals (
            clear hown6 hgrow6 hx6 hy6 hL6
            go_wp2_with fail
            go_roundw
            case rel =>
              obtain ⟨r1, r2, r3, r4, r5, r6, r7, r8⟩ := HR.out
              obtain ⟨a1, a2, a3⟩ := HA6.out
              have hsz := a2.size
              have hsz2 : wr.heap.size + 1 ≤ w6.heap.size := by simpa using hsz
              have hV : ∀ q, q ≠ B → (w6.setCell ⟨B, 5, none⟩ (.slice (some ⟨g6, 0, none⟩) (M + 1) cp6)).heap[q]? = w6.heap[q]? := fun q hq => Below.heap_setCell _ _ _ _ hq
              have hd : A - D ≤ (xs.take i).length := by
                rw [List.length_take]
                have := HGE.out
                have := HX.out.2.2.2.2.1
                omega
              have e : (xs.take (i + 1)).drop (A - D) = (xs.take i).drop (A - D) ++ [x] := by
                rw [List.take_add_one, r4, Option.toList_some, List.drop_append_of_le_length hd]
              refine ⟨i + 1, r6, by push_cast; rfl, ⟨⟨.slice (some ⟨g6, 0, none⟩) (M + 1) cp6, row_set (i := 5) _ HL6.out, ?_, fun q hq => ?_⟩, fun q hq hn hl => ?_, ?_, ?_, ?_, ?_⟩⟩
              · rw [e, List.length_append, List.length_singleton, List.map_append, r7, List.map_cons, List.map_nil, r5]
                refine own_at a1 fun q hq => hV q fun e => ?_
                subst e
                obtain ⟨cur, hc⟩ := own_tag a1 hq
                exact ne_tag HL6.out hc (by decide) rfl
              · have e1 : g6 = q := by cases hq; rfl
                subst e1
                rcases a3 with h | h
                · exact r3 _ h
                · have := HI1.out.size; exact .inr (by omega)
              · have hlt2 : q < wr.heap.size := Nat.lt_of_lt_of_le hq HI1.out.size
                refine (hV q hn).trans ((a2.block q (by simp; omega) fun e => ?_).trans ((Below.heap_alloc _ _ _ hlt2).trans (HI1.out.keep q hq hn hl)))
                rcases r3 q e.symm with h | h
                · exact hl h
                · omega
              · exact a2.os.trans HI1.out.os
              · exact a2.tape.trans HI1.out.tape
              · exact a2.output.trans HI1.out.output
              · have := HI1.out.size; simp; omega
            case measure =>
              have := HR.out
              simp [intOf]
              omega)
        · have hgi : ¬ (A : Int) < (D : Int) + 1 + (i : Int) := by omega
          have HGE : Hid (¬ A < D + 1 + i) := hge
          clear hge
          go_wp2_with fail
          go_roundw
          case rel =>
            refine ⟨i + 1, HR.out.2.2.2.2.2.1, by push_cast; rfl, ?_⟩
            obtain ⟨⟨lv, l1, l2, l3⟩, l4, l5, l6, l7, l8⟩ := HI1.out
            have e : (xs.take (i + 1)).drop (A - D) = (xs.take i).drop (A - D) := by
              have h1 : (xs.take (i + 1)).length ≤ A - D := by rw [List.length_take]; have := HGE.out; omega
              have h2 : (xs.take i).length ≤ A - D := by rw [List.length_take]; have := HGE.out; omega
              rw [List.drop_eq_nil_of_le h1, List.drop_eq_nil_of_le h2]
            exact ⟨⟨lv, l1, by rw [e]; exact l2, l3⟩, l4, l5, l6, l7, l8⟩
          case measure =>
            have := HR.out
            simp [intOf]
            omega
      · have hlti : ¬ (i : Int) < (Nr : Int) := by omega
        have HN2 : Hid (i = Nr) := by show i = Nr; omega
        clear hle hlt
        go_wp2_with fail
        refine bodyPost_ret (results_tmp2 rfl _ _ _) rfl ?_
        obtain ⟨x1, x2, x3, x4, x5, x6, x7, x8, x9, x10, x11, x12, x13, x14, x15⟩ := HX.out
        obtain ⟨⟨lv, l1, l2, l3⟩, l4, l5, l6, l7, l8⟩ := HI1.out
        obtain ⟨h81, h82, -⟩ := H8.out
        have hF : ∀ q, F5 q → q ≠ B ∧ lv0.ownBlock ≠ some q := fun q hq => ⟨fun e => h81.ap B x7 (e ▸ hq), fun e => h81.ap q (x8 q e) hq⟩
        have hrow : ∀ x ∈ xs, wr.ownsRow base 5 1 x.rv x.r.length (u8l x.r) := fun x hx => own_at (x2 x hx) fun q hq => l4 q ((x2 x hx).lt q hq).2 (fun e => by have h1 := x4 B x7; have h2 := ((x2 x hx).lt q hq).1; omega) fun e => by have h1 := x4 q (x8 q e); have h2 := ((x2 x hx).lt q hq).1; omega
        have hbv : wr.ownsRow 0 5 1 bv mc.b.length (u8l mc.b) := own_at x12 fun q hq => by
          obtain ⟨cur, hc⟩ := own_tag x12 hq
          refine l4 q (x12.lt q hq).2 (fun e => ?_) fun e => ?_
          · subst e; exact ne_tag hc x13 (by decide) rfl
          · obtain ⟨c2, hc2⟩ := own_tag x14 e
            exact ne_tag hc hc2 (by decide) rfl
        have hi : i = Nr := HN2.out
        have htk : xs.take i = xs := List.take_of_length_le (by omega)
        rw [htk] at l2
        have hml : (xs.drop (A - D)).map El.r = (opM dl).l := by
          rw [List.map_drop, x3]
          show _ = (rrL (rdBs nLog dl) (rbG g0 dl).bn).map Prod.snd
          rw [HV.out.1, HV.out.2.1]
          obtain ⟨t1, t2, t3, t4, t5⟩ := HT.out
          by_cases hr : rrL zs A = []
          · rw [if_pos hr] at t2
            rw [hr, ← t2]
            simp
          · rw [if_neg hr] at t2
            rw [← t2]
            have hg := HG.out
            have hr2 := hr
            rw [rr_gd hg.1] at hr2 ⊢
            by_cases hc : A + 1 - sN < l.length ∧ sN ≤ A + 1
            · rw [if_pos hc, numL_snd]
              have hd := HD.out.2.2 (by omega)
              rw [show A + 1 - sN = A - D by omega]
            · rw [if_neg hc] at hr2
              exact absurd rfl hr2
        have ha : (opM dl).at' = mc.at' := by rw [← HMC.out]; rfl
        have hb : (opM dl).b = mc.b := by rw [← HMC.out]; rfl
        have hcut : (opM dl).cut = mc.cut := by
          rw [← HMC.out]
          show (rdBs nLog dl).length - takenL (rdBs nLog dl) (rbG g0 dl).bn = Z2 - T
          rw [HV.out.1, HV.out.2.1, HV.out.2.2.1, HT.out.1]
        have hl1 : wr.heap[B]? = some (.cells (mgC R (opM dl) bv lv) 57 (0, 0)) := by
          rw [l1]
          unfold mgC
          rw [ha, hcut]
        have hlt : ∀ q, F5 q → q < wc.heap.size := h81.mr.lt
        have hel : ∀ p ∈ (xs.drop (A - D)).map (fun x : El => (x.rv, x.r)), ∃ x ∈ xs, p = (x.rv, x.r) := fun p hp => by
          obtain ⟨x, hx, e⟩ := List.mem_map.1 hp
          exact ⟨x, List.mem_of_mem_drop hx, e.symm⟩
        refine ⟨B, rfl, F5, fun q => q = B ∨ bv.ownBlock = some q ∨ lv.ownBlock = some q ∨ ∃ p ∈ (xs.drop (A - D)).map (fun x : El => (x.rv, x.r)), p.1.ownBlock = some q, ⟨h81.mr.at' fun q hq => l4 q (hlt q hq) (hF q hq).1 (hF q hq).2, h81.inv, ⟨bv, lv, (xs.drop (A - D)).map (fun x : El => (x.rv, x.r)), hl1, by rw [hb]; exact hbv, ?_, ?_, fun p hp => ?_, fun q => Iff.rfl⟩, fun q hq hf => ?_⟩, ?_⟩
        · rw [List.length_map, List.map_map]
          exact l2
        · rw [List.map_map, ← hml]
          rfl
        · obtain ⟨x, hx, rfl⟩ := hel p hp
          exact own_low (hrow x hx) (Nat.zero_le _)
        · rcases hq with rfl | e | e | ⟨p, hp, e⟩
          · exact (hF _ hf).1 rfl
          · exact h81.ap q (x9 q e) hf
          · rcases l3 q e with h | h
            · exact (hF q hf).2 h
            · have := hlt q hf; omega
          · obtain ⟨x, hx, rfl⟩ := hel p hp
            exact x15 x hx q e hf
        · refine ⟨l5.trans h82.os, l6.trans h82.tape, l7.trans h82.output, Nat.le_trans h82.size l8, fun q hq hn => ?_, fun q hq => ?_⟩
          · have hn1 : ∀ q', P1 q' → q' < w.heap.size → G q' := fun q' h1 h2 => (h82.grow q' (.inr h1)).elim id fun e => absurd h2 (by have e' : w.heap.size ≤ q' := e; omega)
            exact (l4 q (Nat.lt_of_lt_of_le hq h82.size) (fun e => hn (hn1 q (e ▸ x7) hq)) fun e => hn (hn1 q (x8 q e) hq)).trans (h82.block q hq hn)
          · have hwb : w.heap.size < base := by have := x4 B x7; omega
            rcases hq with hq | rfl | e | e | ⟨p, hp, e⟩
            · exact h82.grow q (.inl hq)
            · exact h82.grow _ (.inr x7)
            · exact h82.grow _ (.inr (x9 q e))
            · rcases l3 q e with h | h
              · exact h82.grow _ (.inr (x8 q h))
              · exact .inr (Nat.le_trans h82.size h)
            · obtain ⟨x, hx, rfl⟩ := hel p hp
              have := ((hrow x hx).lt q e).1
              exact .inr (by show w.heap.size ≤ q; omega)
  · have hE1 : (E2 != 0) = true := by rw [bne_iff_ne]; exact hE
    have HE : Hid (E2 ≠ 0) := hE
    clear hE
    go_wp2_with fail
    refine bodyPost_ret (results_tmp2 rfl _ _ _) rfl ?_
    have hn : lkF nLog dl = none := by
      cases hx : lkF nLog dl with
      | none => rfl
      | some x =>
        have := HV.out.2.2.2.1
        unfold rdEs at this
        rw [hx] at this
        exact absurd this.symm HE.out
    have hz : rdBs nLog dl = [] := by unfold rdBs; rw [hn]
    have hr : rrL [] (rbG g0 dl).bn = [] := by unfold rrL; rw [good_nil]; rfl
    have e1 : rrD (rbG g0 dl) dl = dl := by unfold rrD; rw [hz]; rfl
    have e2 : opM dl = m0 dl := by unfold opM opG rrG; rw [hz, hr]; rfl
    rw [e1, e2]
    exact ⟨B, F4, P1, rfl, (H4.out.1.newer H5.out.2).upto (by omega), H4.out.2.trans' (Fr.newer H5.out.2)⟩
end Go.Proofs.Ytflhgphjkhplmaa.D

/- Remove, deferred; writeBase. -/
namespace Go.Proofs.Ytflhgphjkhplmaa.D
open Go Go.RowKit W R Go.Shelf
set_option linter.unusedVariables false
set_option linter.unusedSimpArgs false
attribute [local go_sem] Oper.semAt_some

variable {w w' : World} {L D k : Nat} {sy : Int} {F F' P P' : Nat → Prop} {dl : List Fd} {g : Lg} {s : List UInt8} {bs : List Int}
theorem d_remove (h : DR w D F sy dl) (u : FrameMode) : CallsD Try.prog 60 #[.pointer (some ⟨D, 0, none⟩), .string (tx s)] u w fun e u' w' => u' = u ∧ (e = .returned (.int .i64 (rmE s dl)) ∧ ∃ F', DR w' D F' sy (rmD s dl) ∧ Fr F F' w w') := by
  unfold rmE rmD
  cases hs : lkF s dl with
  | none =>
    have HFI : Hid (Calls Try.prog 74 #[.pointer (some ⟨D, 0, none⟩), .string (tx s)] w fun e w' => e = .returned (.tuple #[.pointer none, .int .i64 5]) ∧ w' = w) := h.findNo hs
    have HR : Hid (DR w D F sy (outF s dl)) := by show DR _ _ _ _ _; rw [outF_none hs]; exact h
    clear h hs
    go_enter_d Try.func60, Try.ntmps60
    go_wp2_with (go_at_call 74; refine HFI.out.mono ?_; rintro e w1 ⟨rfl, hw1⟩; rw [hw1]; clear hw1)
    go_ret
    exact ⟨rfl, F, HR.out, Fr.refl _ _⟩
  | some x =>
    obtain ⟨K, f, Ff, h1, h2, -, -, -, h3⟩ := h.open hs
    obtain ⟨o, h4, F', h5, h6, -, -⟩ := h3 0
    have HFI : Hid (Calls Try.prog 74 #[.pointer (some ⟨D, 0, none⟩), .string (tx s)] w fun e w' => e = .returned (.tuple #[.pointer (some ⟨f, 0, none⟩), .int .i64 0]) ∧ w' = w) := find_yes h1 h2
    have hD : w.cell? ⟨D, 0, none⟩ = some (.map (some K)) := by rw [cell_of_row _ _ _ _ _ _ h1]; rfl
    have HR : Hid (DR (setM w K o) D F' sy (outF s dl) ∧ Fr F F' w (setM w K o)) := ⟨h5, h6⟩
    clear h hs h1 h2 h3 h5 h6
    go_enter_d Try.func60, Try.ntmps60
    go_wp2_with (go_at_call 74; refine HFI.out.mono ?_; rintro e w1 ⟨rfl, hw1⟩; rw [hw1]; clear hw1)
    go_ret
    exact ⟨rfl, F', HR.out.1, HR.out.2⟩
/-- What writeBase answers, and the disk behind it. -/
def wb1 (dl : List Fd) : List Fd := rmD nNew dl
def wb2 (fs : List Int) (dl : List Fd) : List Fd := apD nNew fs (wb1 dl)
def wb3 (fs : List Int) (dl : List Fd) : List Fd := syD nNew (wb2 fs dl)
def wbE (fs : List Int) (dl : List Fd) : Int := if apE nNew fs (wb1 dl) ≠ 0 then apE nNew fs (wb1 dl) else if syE nNew (wb2 fs dl) ≠ 0 then syE nNew (wb2 fs dl) else mvE nNew nCkp (wb3 fs dl)
def wbD (fs : List Int) (dl : List Fd) : List Fd := rmD nNew (if apE nNew fs (wb1 dl) ≠ 0 then wb2 fs dl else if syE nNew (wb2 fs dl) ≠ 0 then wb3 fs dl else mvD nNew nCkp (wb3 fs dl))
def wbS (fs : List Int) (dl : List Fd) (sy : Int) : Int := if apE nNew fs (wb1 dl) ≠ 0 then sy else syN nNew (wb2 fs dl) sy
theorem hNewS : (({ data := #[97] } : ByteArray) ++ { data := #[46, 99, 107, 112] } ++ { data := #[46, 110, 101, 119] }) = tx nNew := by decide
theorem WS.cellD (h : WS w D L k F P sy dl g) : w.cell? ⟨L, 0, none⟩ = some (.pointer (some ⟨D, 0, none⟩)) ∧ w.cell? ⟨L, 1, none⟩ = some (.string { data := #[97] }) := by
  obtain ⟨bv, rv, xs, g1, -⟩ := h.lg
  exact ⟨by rw [cell_of_row _ _ _ _ _ _ g1]; rfl, by rw [cell_of_row _ _ _ _ _ _ g1]; rfl⟩
set_option maxRecDepth 100000 in
set_option maxHeartbeats 4000000 in
theorem writeBase_any (h : WS w D L k F P sy dl g) (hk : k ≤ 900000) {v : Value} {fs : List Int} (hsv : SrcG w F v fs) (hb : Byt fs) (hbl : fs.length ≤ 1048576) : Calls Try.prog 43 #[.pointer (some ⟨L, 0, none⟩), v] w fun e w' => e = .returned (.int .i64 (wbE fs dl)) ∧ ∃ F', WS w' D L (k + 5) F' P (wbS fs dl sy) (wbD fs dl) g ∧ Fr (fun q => F q ∨ P q) (fun q => F' q ∨ P q) w w' := by
  obtain ⟨va, vc, rfl⟩ := hsv.now.slice
  obtain ⟨B, hB⟩ : ∃ B, fs.length = B := ⟨_, rfl⟩
  have HS : Hid (WS w D L k F P sy dl g ∧ k ≤ 900000 ∧ SrcG w F (.slice va fs.length vc) fs ∧ Byt fs ∧ fs.length ≤ 1048576 ∧ fs.length = B) := ⟨h, hk, hsv, hb, hbl, hB⟩
  obtain ⟨c0, c1⟩ := h.cellD
  have HRM : Hid (Calls Try.prog 60 #[.pointer (some ⟨D, 0, none⟩), .string ({ data := #[97] } ++ { data := #[46, 99, 107, 112] } ++ { data := #[46, 110, 101, 119] })] w fun e w' => (∃ y, e = .returned (.int .i64 y)) ∧ ∃ F1, Hid (WS w' D L (k + 1) F1 P sy (wb1 dl) g ∧ Fr (fun q => F q ∨ P q) (fun q => F1 q ∨ P q) w w' ∧ SrcG w' F1 (.slice va B vc) fs)) := by
    rw [hNewS]
    refine (p_remove h.dr).mono ?_
    rintro e w' ⟨rfl, F1, h1, h2⟩
    obtain ⟨h3, h4⟩ := h.disk h1 h2 (rm_inv h.inv)
    exact ⟨⟨_, rfl⟩, F1, h3, h4, by rw [← hB]; exact hsv.fr h2⟩
  rw [hB]
  clear h hk hsv hb hbl hB
  go_enter_defers Try.func43, Try.ntmps43
  go_upto_region 3 with (go_at_call 60; refine HRM.out.mono ?_; rintro e w1 ⟨⟨y1, rfl⟩, F1, H1⟩)
  obtain ⟨d0, d1⟩ := H1.out.1.cellD
  clear c0 c1
  obtain ⟨A, hA⟩ : ∃ A, apE nNew fs (wb1 dl) = A := ⟨_, rfl⟩
  have HAP : Hid (Calls Try.prog 55 #[.pointer (some ⟨D, 0, none⟩), .string ({ data := #[97] } ++ { data := #[46, 99, 107, 112] } ++ { data := #[46, 110, 101, 119] }), .slice va B vc] w1 fun e w' => e = .returned (.int .i64 A) ∧ ∃ F2, Hid (WS w' D L (k + 2) F2 P sy (wb2 fs dl) g ∧ Fr (fun q => F q ∨ P q) (fun q => F2 q ∨ P q) w w')) := by
    rw [hNewS]
    have h := p_append (s := nNew) (k := k + 1) H1.out.1.dr H1.out.1.inv (by have := HS.out.2.1; omega) (by decide) H1.out.2.2 HS.out.2.2.2.2.1
    rw [hA] at h
    refine h.mono ?_
    rintro e w' ⟨rfl, F2, h1, h2⟩
    obtain ⟨h3, h4⟩ := H1.out.1.disk h1 h2 (ap_inv H1.out.1.inv HS.out.2.2.2.1 HS.out.2.2.2.2.1)
    exact ⟨rfl, F2, h3, H1.out.2.1.trans' h4⟩
  have HA : Hid (apE nNew fs (wb1 dl) = A) := hA
  clear hA HRM
  by_cases hA0 : A = 0
  · subst hA0
    go_upto_region 7 with (go_at_call 55; refine HAP.out.mono ?_; rintro e w2 ⟨rfl, F2, H2⟩)
    obtain ⟨e0, e1⟩ := H2.out.1.cellD
    clear d0 d1 HAP
    obtain ⟨Y, hY⟩ : ∃ Y, syE nNew (wb2 fs dl) = Y := ⟨_, rfl⟩
    have HSY : Hid (Calls Try.prog 52 #[.pointer (some ⟨D, 0, none⟩), .string ({ data := #[97] } ++ { data := #[46, 99, 107, 112] } ++ { data := #[46, 110, 101, 119] })] w2 fun e w' => e = .returned (.int .i64 Y) ∧ ∃ F3, Hid (WS w' D L (k + 3) F3 P (syN nNew (wb2 fs dl) sy) (wb3 fs dl) g ∧ Fr (fun q => F q ∨ P q) (fun q => F3 q ∨ P q) w w')) := by
      rw [hNewS]
      have h := p_sync (s := nNew) (k := k + 2) H2.out.1.dr H2.out.1.inv (by have := HS.out.2.1; omega)
      rw [hY] at h
      refine h.mono ?_
      rintro e w' ⟨rfl, F3, h1, h2⟩
      obtain ⟨h3, h4⟩ := H2.out.1.disk h1 h2 (sy_inv H2.out.1.inv)
      exact ⟨rfl, F3, h3, H2.out.2.trans' h4⟩
    have HY : Hid (syE nNew (wb2 fs dl) = Y) := hY
    clear hY
    by_cases hY0 : Y = 0
    · subst hY0
      go_upto_region 10 with (go_at_call 52; refine HSY.out.mono ?_; rintro e w3 ⟨rfl, F3, H3⟩)
      have H3d : Hid (WS w3.drew D L (k + 3) F3 P (syN nNew (wb2 fs dl) sy) (wb3 fs dl) g ∧ Fr (fun q => F q ∨ P q) (fun q => F3 q ∨ P q) w w3.drew) := ⟨H3.out.1.newer (drewN_below w3 1), H3.out.2.trans' (Fr.newer (drewN_below w3 1))⟩
      obtain ⟨x0, x1⟩ := H3d.out.1.cellD
      clear e0 e1 HSY
      have hcat : ∀ W, (binOp .add 9 (.string { data := #[97] }) (.string { data := #[46, 99, 107, 112] })).run Try.prog W = .ok (.string (tx nCkp)) W := fun W => by kernel_rfl
      obtain ⟨M, hM⟩ : ∃ M, mvE nNew nCkp (wb3 fs dl) = M := ⟨_, rfl⟩
      have HMV : Hid (Calls Try.prog 73 #[.pointer (some ⟨D, 0, none⟩), .string ({ data := #[97] } ++ { data := #[46, 99, 107, 112] } ++ { data := #[46, 110, 101, 119] }), .string (tx nCkp)] w3.drew fun e w' => e = .returned (.int .i64 M) ∧ ∃ F4, Hid (WS w' D L (k + 4) F4 P (syN nNew (wb2 fs dl) sy) (mvD nNew nCkp (wb3 fs dl)) g ∧ Fr (fun q => F q ∨ P q) (fun q => F4 q ∨ P q) w w')) := by
        rw [hNewS]
        have h := p_move (s := nNew) (s' := nCkp) H3d.out.1.dr (by decide)
        rw [hM] at h
        refine h.mono ?_
        rintro e w' ⟨rfl, F4, h1, h2⟩
        obtain ⟨h3, h4⟩ := H3d.out.1.disk h1 h2 (mv_inv H3d.out.1.inv)
        exact ⟨rfl, F4, h3, H3d.out.2.trans' h4⟩
      have HM : Hid (mvE nNew nCkp (wb3 fs dl) = M) := hM
      have HCD : Hid (∀ w' F4, WS w' D L (k + 4) F4 P (syN nNew (wb2 fs dl) sy) (mvD nNew nCkp (wb3 fs dl)) g → w'.cell? ⟨L, 0, none⟩ = some (.pointer (some ⟨D, 0, none⟩)) ∧ w'.cell? ⟨L, 1, none⟩ = some (.string { data := #[97] })) := fun w' F4 h => h.cellD
      clear hM
      go_cut [4] from 44 to 54 (fun x wx => x = .int .i64 M ∧ ∃ F4, Hid (WS wx D L (k + 4) F4 P (syN nNew (wb2 fs dl) sy) (mvD nNew nCkp (wb3 fs dl)) g ∧ Fr (fun q => F q ∨ P q) (fun q => F4 q ∨ P q) w wx))
      case first =>
        go_region_held3 (fun w' => w'.cell? ⟨L, 0, none⟩ = some (.pointer (some ⟨D, 0, none⟩)) ∧ w'.cell? ⟨L, 1, none⟩ = some (.string { data := #[97] })) (first | exact K1 | go_keep) ((go_at_call 73; refine HMV.out.mono ?_; rintro e w4 ⟨rfl, F4, H4⟩; (have K1 := HCD.out w4 F4 H4.out.1)))
        all_goals
          go_wp2_with fail
          go_meet
          exact ⟨rfl, F4, H4⟩
      case rest =>
      obtain ⟨rfl, F4, H4⟩ := hcut
      clear x0 x1 hcat HMV HCD
      go_wp2_with fail
      refine leaves_cons (f := 60) (args := #[.pointer (some ⟨D, 0, none⟩), .string (tx nNew)]) (by simp) (by rw [← hNewS]; simp [go_sem]) ?_
      refine (d_remove H4.out.1.dr .returning).mono ?_
      rintro e u' w5 ⟨rfl, rfl, F5, h1, h2⟩
      obtain ⟨h3, h4⟩ := H4.out.1.disk h1 h2 (rm_inv H4.out.1.inv)
      refine ⟨_, results_tmp Try.results43 _ _ _, ?_, F5, ?_, H4.out.2.trans' h4⟩
      · have e : wbE fs dl = M := by unfold wbE; rw [HA.out, HY.out, if_neg (by simp), if_neg (by simp), HM.out]
        rw [e]
        rfl
      · have e : wbD fs dl = rmD nNew (mvD nNew nCkp (wb3 fs dl)) := by unfold wbD; rw [HA.out, HY.out, if_neg (by simp), if_neg (by simp)]
        have e' : wbS fs dl sy = syN nNew (wb2 fs dl) sy := by unfold wbS; rw [HA.out, if_neg (by simp)]
        rw [e, e']
        exact h3
    · have hY1 : (Y != 0) = true := by rw [bne_iff_ne]; exact hY0
      have HY0 : Hid (Y ≠ 0) := hY0
      clear hY0
      go_wp2_with (go_at_call 52; refine HSY.out.mono ?_; rintro e w3 ⟨rfl, F3, H3⟩)
      refine leaves_cons (f := 60) (args := #[.pointer (some ⟨D, 0, none⟩), .string (tx nNew)]) (by simp) (by rw [← hNewS]; simp [go_sem]) ?_
      refine (d_remove H3.out.1.dr .returning).mono ?_
      rintro e u' w4 ⟨rfl, rfl, F4, h1, h2⟩
      obtain ⟨h3, h4⟩ := H3.out.1.disk h1 h2 (rm_inv H3.out.1.inv)
      refine ⟨_, results_tmp Try.results43 _ _ _, ?_, F4, ?_, H3.out.2.trans' h4⟩
      · have e : wbE fs dl = Y := by unfold wbE; rw [HA.out, HY.out, if_neg (by simp), if_pos HY0.out]
        rw [e]
        rfl
      · have e : wbD fs dl = rmD nNew (wb3 fs dl) := by unfold wbD; rw [HA.out, HY.out, if_neg (by simp), if_pos HY0.out]
        have e' : wbS fs dl sy = syN nNew (wb2 fs dl) sy := by unfold wbS; rw [HA.out, if_neg (by simp)]
        rw [e, e']
        exact h3.more
  · have hA1 : (A != 0) = true := by rw [bne_iff_ne]; exact hA0
    have HA0 : Hid (A ≠ 0) := hA0
    clear hA0
    go_wp2_with (go_at_call 55; refine HAP.out.mono ?_; rintro e w2 ⟨rfl, F2, H2⟩)
    refine leaves_cons (f := 60) (args := #[.pointer (some ⟨D, 0, none⟩), .string (tx nNew)]) (by simp) (by rw [← hNewS]; simp [go_sem]) ?_
    refine (d_remove H2.out.1.dr .returning).mono ?_
    rintro e u' w4 ⟨rfl, rfl, F4, h1, h2⟩
    obtain ⟨h3, h4⟩ := H2.out.1.disk h1 h2 (rm_inv H2.out.1.inv)
    refine ⟨_, results_tmp Try.results43 _ _ _, ?_, F4, ?_, H2.out.2.trans' h4⟩
    · have e : wbE fs dl = A := by unfold wbE; rw [HA.out, if_pos HA0.out]
      rw [e]
      rfl
    · have e : wbD fs dl = rmD nNew (wb2 fs dl) := by unfold wbD; rw [HA.out, if_pos HA0.out]
      have e' : wbS fs dl sy = sy := by unfold wbS; rw [HA.out, if_pos HA0.out]
      rw [e, e']
      exact h3.more.more
end Go.Proofs.Ytflhgphjkhplmaa.D
