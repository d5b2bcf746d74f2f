/- QuotaAsks' law, over any program's table. -/
import Derived.Test.YtpobfcmbbabchaaF4
namespace Go.Proofs.Ytpobfcmbbabchaa
open Go.RowKit
set_option linter.unusedVariables false
set_option linter.unusedSimpArgs false

variable {PF : World → Nat → (Nat → Prop) → List Bk → Prop} {bad : TypeId → Bool}
/-- Times as they lie. -/
structure AsksAt (W : World) (sa : Option Addr) (len cap : Nat) (xs : List Int) : Prop where
  n : xs.length = len
  c : len ≤ cap
  l : ∀ (i : Nat) (x : Int), xs[i]? = some x → ∃ b off, sa = some ⟨b, off, none⟩ ∧ b < W.heap.size ∧ W.cell? ⟨b, off + i, none⟩ = some (.int .i64 x)
theorem AsksAt.later {W W' : World} {sa : Option Addr} {len cap B : Nat} {xs : List Int} (h : AsksAt W sa len cap xs) (hb : Below B W W') (hB : W.heap.size ≤ B) : AsksAt W' sa len cap xs := by
  refine ⟨h.n, h.c, fun i x hx => ?_⟩
  obtain ⟨b, off, e, hlt, h0⟩ := h.l i x hx
  exact ⟨b, off, e, by have := hb.size; omega, (hb.cell (p := ⟨b, off + i, none⟩) (by show b < B; omega)).trans h0⟩
theorem P3.later (G : PrgF PF bad) {A : Nat → Prop} {U T base B : Nat} {l m : List Bk} {w w' : World} (h : P3 PF A U m w T base l) (hb : Below B w w') (hB : w.heap.size ≤ B) : P3 PF A U m w' T base l := by
  obtain ⟨F, FU, h1, h2, h3, h4, h5, h6⟩ := h
  exact ⟨F, FU, G.later h1 hb hB, G.later h2 hb hB, h3, h4, h5, fun q hq => ⟨by have := (h6 q hq).1; have := hb.size; omega, (h6 q hq).2⟩⟩
set_option maxRecDepth 20000 in
set_option maxHeartbeats 4000000 in
theorem asks_law (G : PrgF PF bad) (sa sc : Option Addr) (len cap lenc capc : Nat) (os : List OpI) (xs : List Int) (w : World) (h : OpsAt w sa len cap os) (hl : (len : Int) ≤ 140737488351232) (hc : AsksAt w sc lenc capc xs) (hlc : (lenc : Int) ≤ 140737488351232) :
    Calls Try.prog 4 #[.slice sa len cap, .slice sc lenc capc] w fun e w' => e = .returned (.bool true) ∧ Below w.heap.size w w' := by
  have HG : Hid (PrgF PF bad) := G
  have HPL : Hid (Calls Try.prog 9 #[.slice sa len cap] w fun e w' => ∃ T R, e = .returned (.tuple #[.pointer (some ⟨T, 0, none⟩), .pointer (some ⟨R, 0, none⟩), .bool true]) ∧ Mid (P1 PF) bad T R w.heap.size (runT os (min len 200)) (runT os (min len 200)) w w') := played_any G.oneN sa len cap os w h hl
  have HTL : Hid (Tok 200 (runT os (min len 200))) := (runT_ok os (min len 200)).more (by omega)
  obtain ⟨L, hL⟩ : ∃ L, runT os (min len 200) = L := ⟨_, rfl⟩
  have HL : Hid (runT os (min len 200) = L) := hL
  rw [hL] at HPL HTL
  have HO : Hid (OpsAt w sa len cap os) := h
  have HX : Hid (AsksAt w sc lenc capc xs) := hc
  have hcap : (len : Int) ≤ (cap : Int) := by have := h.c; omega
  have hcapc : (lenc : Int) ≤ (capc : Int) := by have := hc.c; omega
  clear G h hc hL
  go_enter Try.func4, Try.ntmps4
  go_wp2_with fail
  refine HPL.out.mono ?_
  rintro e w1 ⟨T, R, rfl, hM⟩
  have HM1 : Hid (P1 PF w1 T w.heap.size L ∧ Below w.heap.size w w1) := ⟨hM.pt, hM.bel⟩
  clear hM HPL
  go_wp2_with fail
  refine (HG.out.beside T w.heap.size L w1 HM1.out.1 HM1.out.2.size).mono ?_
  rintro e w2 ⟨U, rfl, hp2, hb2⟩
  have HM2 : Hid (P2 PF T L w2 U w.heap.size [] ∧ Below w.heap.size w w2) := ⟨hp2, HM1.out.2.trans (hb2.mono HM1.out.2.size)⟩
  clear hp2 hb2 HM1
  go_wp2_with fail
  go_loopw [9, 10] (fun a c wr => ∃ (now : Int) (k : Nat) (M : List Bk), a = .int .i64 now ∧ c = .int .i64 (k : Int) ∧ k ≤ len ∧ k ≤ 200 ∧ 0 ≤ now ∧ now ≤ 1125899906842624 ∧ Tok (k : Int) M ∧ Rl (Ae now) (runT os k) M ∧ P2 PF T L wr U w.heap.size M ∧ Below w.heap.size w wr) (fun a c wr => len - (intOf c).toNat)
  case atStart => exact ⟨0, 0, [], rfl, rfl, by omega, by omega, by omega, by omega, Tok.nil _, trivial, HM2.out⟩
  case round =>
    obtain ⟨now, k, M, rfl, rfl, k1, k2, n0, n1, hT, hR, hP, hBl⟩ := hrel
    have HTM : Hid (Tok (k : Int) M ∧ Rl (Ae now) (runT os k) M) := ⟨hT, hR⟩
    have HMr : Hid (P2 PF T L wr U w.heap.size M ∧ Below w.heap.size w wr) := ⟨hP, hBl⟩
    clear hT hR hP hBl
    by_cases c1 : k < len
    · have c1' : (k : Int) < (len : Int) := by omega
      by_cases c2 : k < 200
      · have c2' : (k : Int) < 200 := by omega
        obtain ⟨o, ho⟩ : ∃ o, os[k]? = some o := ⟨_, List.getElem?_eq_getElem (by have := HO.out.n; omega)⟩
        have HOK : Hid (os[k]? = some o) := ho
        obtain ⟨bb, off, hsa, hlt, h0, h1, h2, h3, h4, h5⟩ := (HO.out.later HMr.out.2 (Nat.le_refl _)).l k o ho
        subst hsa
        clear ho k1 k2
        rcases (show (o.now < now) ∨ (now ≤ o.now ∧ 1125899906842624 < o.now) ∨ (now ≤ o.now ∧ o.now ≤ 1125899906842624) by omega) with d1 | ⟨d1, d2⟩ | ⟨d1, d2⟩
        · go_wp2_with (go_at_call 10; refine (known_any HG.out.oneN _).mono ?_; rintro e w3 ⟨rfl, hb3⟩)
          go_ret
          have hb2 := HMr.out.2.trans ((bel1 wr (.cells #[.int .i64 o.kind, .string (tx o.nm), .int .i64 o.rate, .int .i64 o.burst, .int .i64 o.cost, .int .i64 o.now] 32)).mono HMr.out.2.size)
          exact ⟨rfl, hb2.trans (hb3.mono hb2.size)⟩
        · go_wp2_with (go_at_call 10; refine (known_any HG.out.oneN _).mono ?_; rintro e w3 ⟨rfl, hb3⟩)
          go_ret
          have hb2 := HMr.out.2.trans ((bel1 wr (.cells #[.int .i64 o.kind, .string (tx o.nm), .int .i64 o.rate, .int .i64 o.burst, .int .i64 o.cost, .int .i64 o.now] 32)).mono HMr.out.2.size)
          exact ⟨rfl, hb2.trans (hb3.mono hb2.size)⟩
        · go_wp2_with fail
          obtain ⟨W3, hW3⟩ : ∃ W3, wr.alloc (.cells #[.int .i64 o.kind, .string (tx o.nm), .int .i64 o.rate, .int .i64 o.burst, .int .i64 o.cost, .int .i64 o.now] 32) = W3 := ⟨_, rfl⟩
          have HM3 : Hid (P3 PF (fun q => False ∨ q = wr.heap.size) T L W3 U w.heap.size M ∧ Below w.heap.size w W3 ∧ W3.heap[wr.heap.size]? = some (.cells #[.int .i64 o.kind, .string (tx o.nm), .int .i64 o.rate, .int .i64 o.burst, .int .i64 o.cost, .int .i64 o.now] 32 (0, 0))) := by
            rw [← hW3]
            exact ⟨HMr.out.1.three.alloc HG.out _, HMr.out.2.trans ((bel1 wr _).mono HMr.out.2.size), heap_alloc_new _ _⟩
          rw [hW3]
          clear hW3 HMr h0 h1 h2 h3 h4 h5 hlt
          have HRl : Hid (Rl (Ae o.now) (runT os k) M ∧ Tok (k : Int) M) := ⟨HTM.out.2.later d1, HTM.out.1⟩
          generalize wr.heap.size = p at HM3 ⊢
          clear HTM
          have HCP : Hid (∀ V : World, V.heap[p]? = some (.cells #[.int .i64 o.kind, .string (tx o.nm), .int .i64 o.rate, .int .i64 o.burst, .int .i64 o.cost, .int .i64 o.now] 32 (0, 0)) → V.cell? ⟨p, 0, none⟩ = some (.int .i64 o.kind) ∧ V.cell? ⟨p, 1, none⟩ = some (.string (tx o.nm)) ∧ V.cell? ⟨p, 2, none⟩ = some (.int .i64 o.rate) ∧ V.cell? ⟨p, 3, none⟩ = some (.int .i64 o.burst) ∧ V.cell? ⟨p, 4, none⟩ = some (.int .i64 o.cost) ∧ V.cell? ⟨p, 5, none⟩ = some (.int .i64 o.now)) := fun V hV => ⟨by rw [cell_of_row _ _ _ _ _ _ hV]; rfl, by rw [cell_of_row _ _ _ _ _ _ hV]; rfl, by rw [cell_of_row _ _ _ _ _ _ hV]; rfl, by rw [cell_of_row _ _ _ _ _ _ hV]; rfl, by rw [cell_of_row _ _ _ _ _ _ hV]; rfl, by rw [cell_of_row _ _ _ _ _ _ hV]; rfl⟩
          go_loopw [12] (fun a V => ∃ (j : Nat) (M' : List Bk), a = .int .i64 (j : Int) ∧ j ≤ lenc ∧ j ≤ 5 ∧ Tok (k : Int) M' ∧ Rl (Ae o.now) (runT os k) M' ∧ P3 PF (fun q => False ∨ q = p) T L V U w.heap.size M' ∧ Below w.heap.size w V ∧ V.heap[p]? = some (.cells #[.int .i64 o.kind, .string (tx o.nm), .int .i64 o.rate, .int .i64 o.burst, .int .i64 o.cost, .int .i64 o.now] 32 (0, 0))) (fun a V => lenc - (intOf a).toNat)
          case atStart => exact ⟨0, M, rfl, by omega, by omega, HRl.out.2, HRl.out.1, HM3.out⟩
          case round =>
            obtain ⟨j, M', rfl, j1, j2, hT, hR, hP, hBl, hC⟩ := hrel
            have HRj : Hid (Rl (Ae o.now) (runT os k) M' ∧ Tok (k : Int) M') := ⟨hR, hT⟩
            have HMj : Hid (P3 PF (fun q => False ∨ q = p) T L wr U w.heap.size M' ∧ Below w.heap.size w wr ∧ wr.heap[p]? = some (.cells #[.int .i64 o.kind, .string (tx o.nm), .int .i64 o.rate, .int .i64 o.burst, .int .i64 o.cost, .int .i64 o.now] 32 (0, 0))) := ⟨hP, hBl, hC⟩
            clear hT hR hP hBl hC
            by_cases e1 : j < lenc
            · have e1' : (j : Int) < (lenc : Int) := by omega
              by_cases e2 : j < 5
              · have e2' : (j : Int) < 5 := by omega
                obtain ⟨x, hx⟩ : ∃ x, xs[j]? = some x := ⟨_, List.getElem?_eq_getElem (by have := HX.out.n; omega)⟩
                have HXJ : Hid (xs[j]? = some x) := hx
                obtain ⟨ba, offa, hsc, hlta, ha0⟩ := (HX.out.later HMj.out.2.1 (Nat.le_refl _)).l j x hx
                subst hsc
                obtain ⟨y0, y1, y2, y3, y4, y5⟩ := HCP.out wr HMj.out.2.2
                clear hx j1 j2 y0 y2 y3 y4
                rcases (show (x < now) ∨ (now ≤ x ∧ o.now < x) ∨ (now ≤ x ∧ x ≤ o.now) by omega) with f1 | ⟨f1, f2⟩ | ⟨f1, f2⟩
                · have f2 : decide (now ≤ x) = false := decide_eq_false (by omega)
                  have f3 : ¬ now ≤ x := by omega
                  go_wp2_with fail
                  go_region
                  go_wp2_with fail
                  go_roundw
                  case rel => exact ⟨j + 1, M', by go_num, by omega, by omega, HRj.out.2, HRj.out.1, HMj.out.1.later HG.out ((Below.refl wr.heap.size wr).drew) (Nat.le_refl _), HMj.out.2.1.drew, HMj.out.2.2⟩
                  case measure => simp [intOf]; omega
                · go_wp2_with fail
                  go_region_held3 (fun w' => w'.cell? ⟨ba, offa + j, none⟩ = some (.int .i64 x) ∧ w'.cell? ⟨p, 5, none⟩ = some (.int .i64 o.now)) (first | go_keep) (fail)
                  go_wp2_with fail
                  go_roundw
                  case rel => exact ⟨j + 1, M', by go_num, by omega, by omega, HRj.out.2, HRj.out.1, HMj.out.1.later HG.out ((Below.refl wr.heap.size wr).drew) (Nat.le_refl _), HMj.out.2.1.drew, HMj.out.2.2⟩
                  case measure => simp [intOf]; omega
                · have HTK : Hid (∀ V, P3 PF (fun q => False ∨ q = p) T L V U w.heap.size M' ∧ Below w.heap.size w V ∧ V.heap[p]? = some (.cells #[.int .i64 o.kind, .string (tx o.nm), .int .i64 o.rate, .int .i64 o.burst, .int .i64 o.cost, .int .i64 o.now] 32 (0, 0)) → Calls Try.prog 12 #[.pointer (some ⟨U, 0, none⟩), .string (tx o.nm), .int .i64 x] V fun e w' => (∃ a b, e = .returned (.tuple #[.int .i64 a, .int .i64 b])) ∧ P3 PF (fun q => False ∨ q = p) T L w' U w.heap.size (tokI M' o.nm x).2.2 ∧ Below w.heap.size w w' ∧ w'.heap[p]? = some (.cells #[.int .i64 o.kind, .string (tx o.nm), .int .i64 o.rate, .int .i64 o.burst, .int .i64 o.cost, .int .i64 o.now] 32 (0, 0))) := fun V hV => (P3.tok HG.out _ (k : Int) T U w.heap.size M' L o.nm x V hV.1 HRj.out.2 (by omega) hV.2.1.size).mono fun e w' ⟨h1, h2, h3, h4⟩ => ⟨⟨_, _, h1⟩, h2, hV.2.1.trans h3, (h4 p (.inr rfl)).trans hV.2.2⟩
                  go_wp2_with fail
                  go_region_held3 (fun w' => w'.cell? ⟨ba, offa + j, none⟩ = some (.int .i64 x) ∧ w'.cell? ⟨p, 5, none⟩ = some (.int .i64 o.now)) (first | go_keep) (fail)
                  go_wp2_with fail
                  obtain ⟨V, hV⟩ : ∃ V, wr.drew = V := ⟨_, rfl⟩
                  have HMV : Hid (P3 PF (fun q => False ∨ q = p) T L V.drew U w.heap.size M' ∧ Below w.heap.size w V.drew ∧ V.drew.heap[p]? = some (.cells #[.int .i64 o.kind, .string (tx o.nm), .int .i64 o.rate, .int .i64 o.burst, .int .i64 o.cost, .int .i64 o.now] 32 (0, 0))) := by
                    rw [← hV]
                    exact ⟨(HMj.out.1.later HG.out ((Below.refl wr.heap.size wr).drew) (Nat.le_refl _)).later HG.out ((Below.refl _ wr.drew).drew) (Nat.le_refl _), HMj.out.2.1.drew.drew, HMj.out.2.2⟩
                  have v1 : V.cell? ⟨p, 1, none⟩ = some (.string (tx o.nm)) := by rw [← hV]; exact y1
                  have v2 : V.cell? ⟨ba, offa + j, none⟩ = some (.int .i64 x) := by rw [← hV]; exact ha0
                  rw [hV]
                  clear hV HMj y1 y5 ha0
                  go_region_held3 (fun w' => w'.cell? ⟨ba, offa + j, none⟩ = some (.int .i64 x) ∧ w'.cell? ⟨p, 1, none⟩ = some (.string (tx o.nm))) (first | exact K5 | go_keep) (first | (go_at_call 12; refine (HTK.out _ HMV.out).mono ?_; rintro e w5 ⟨⟨ra, rb, rfl⟩, hm5⟩; (have HM5 : Hid (P3 PF (fun q => False ∨ q = p) T L w5 U w.heap.size (tokI M' o.nm x).2.2 ∧ Below w.heap.size w w5 ∧ w5.heap[p]? = some (.cells #[.int .i64 o.kind, .string (tx o.nm), .int .i64 o.rate, .int .i64 o.burst, .int .i64 o.cost, .int .i64 o.now] 32 (0, 0))) := hm5); (have K5 : w5.cell? ⟨ba, offa + j, none⟩ = some (.int .i64 x) ∧ w5.cell? ⟨p, 1, none⟩ = some (.string (tx o.nm)) := ⟨by obtain ⟨b7, o7, h7, _, h8⟩ := (HX.out.later hm5.2.1 (Nat.le_refl _)).l j x HXJ.out; cases h7; exact h8, (HCP.out w5 hm5.2.2).2.1⟩); clear hm5))
                  clear K5
                  go_wp2_with fail
                  go_roundw
                  case rel => exact ⟨j + 1, _, by go_num, by omega, by omega, tok_ok HRj.out.2 o.nm x, HRj.out.1.ask HRj.out.2 o.nm f2 d2, HM5.out⟩
                  case measure => simp [intOf]; omega
              · have e2' : ¬ ((j : Int) < 5) := by omega
                clear e2 j1 j2 e1
                have HST : Hid (Tok ((k + 1 : Nat) : Int) (stepT M' o) ∧ Rl (Ae o.now) (runT os (k + 1)) (stepT M' o)) := ⟨by have := step_ok (by omega) HRj.out.2 o; rwa [show ((k + 1 : Nat) : Int) = (k : Int) + 1 by omega], by rw [runT_next HOK.out]; exact HRj.out.1.step o rfl d2⟩
                have HS1 : Hid (Calls Try.prog 13 #[.pointer (some ⟨U, 0, none⟩), .pointer (some ⟨wr.heap.size, 0, none⟩), .agg #[.int .i64 o.kind, .string (tx o.nm), .int .i64 o.rate, .int .i64 o.burst, .int .i64 o.cost, .int .i64 o.now]] (wr.alloc (.cells #[.slice none 0 0] 39)) fun e w' => (∃ b, e = .returned (.bool b)) ∧ P2 PF T L w' U w.heap.size (stepT M' o) ∧ Below w.heap.size w w') := by
                  have hM : Mid (P2 PF T L) bad U wr.heap.size w.heap.size M' [] (wr.alloc (.cells #[.slice none 0 0] 39)) (wr.alloc (.cells #[.slice none 0 0] 39)) := ⟨(HG.out.two T L).later HMj.out.1.two (bel1 wr _) (Nat.le_refl _), ⟨.slice none 0 0, ⟨heap_alloc_new _ _, World.ownsRow_nil _ _ _ _, HMj.out.2.1.size⟩⟩, Below.refl _ _, Kx.refl _ _, by have := HMj.out.2.1.size; simp; omega⟩
                  refine (step_any (HG.out.two T L) (k : Int) U wr.heap.size w.heap.size M' [] o _ _ hM HRj.out.2 (Tok.nil _) (by omega)).mono fun e w' ⟨h1, h2⟩ => ⟨⟨_, h1⟩, h2.pt, (HMj.out.2.1.trans ((bel1 wr _).mono HMj.out.2.1.size)).trans h2.bel⟩
                obtain ⟨y0, y1, y2, y3, y4, y5⟩ := HCP.out wr HMj.out.2.2
                have hp := (Array.getElem?_eq_some_iff.1 HMj.out.2.2).1
                go_wp2_with fail
                refine HS1.out.mono ?_
                rintro e w5 ⟨⟨bo, rfl⟩, hp5, hb5⟩
                have HM5 : Hid (P2 PF T L w5 U w.heap.size (stepT M' o) ∧ Below w.heap.size w w5) := ⟨hp5, hb5⟩
                clear hp5 hb5 y0 y1 y2 y3 y4 y5 hp
                go_wp2_with fail
                go_roundw
                case rel => exact ⟨o.now, k + 1, stepT M' o, rfl, by go_num, by omega, by omega, by omega, d2, HST.out.1, HST.out.2, HM5.out⟩
                case measure => simp [intOf]; omega
            · have e1' : ¬ ((j : Int) < (lenc : Int)) := by omega
              clear e1 j1 j2
              have HST : Hid (Tok ((k + 1 : Nat) : Int) (stepT M' o) ∧ Rl (Ae o.now) (runT os (k + 1)) (stepT M' o)) := ⟨by have := step_ok (by omega) HRj.out.2 o; rwa [show ((k + 1 : Nat) : Int) = (k : Int) + 1 by omega], by rw [runT_next HOK.out]; exact HRj.out.1.step o rfl d2⟩
              have HS1 : Hid (Calls Try.prog 13 #[.pointer (some ⟨U, 0, none⟩), .pointer (some ⟨wr.heap.size, 0, none⟩), .agg #[.int .i64 o.kind, .string (tx o.nm), .int .i64 o.rate, .int .i64 o.burst, .int .i64 o.cost, .int .i64 o.now]] (wr.alloc (.cells #[.slice none 0 0] 39)) fun e w' => (∃ b, e = .returned (.bool b)) ∧ P2 PF T L w' U w.heap.size (stepT M' o) ∧ Below w.heap.size w w') := by
                have hM : Mid (P2 PF T L) bad U wr.heap.size w.heap.size M' [] (wr.alloc (.cells #[.slice none 0 0] 39)) (wr.alloc (.cells #[.slice none 0 0] 39)) := ⟨(HG.out.two T L).later HMj.out.1.two (bel1 wr _) (Nat.le_refl _), ⟨.slice none 0 0, ⟨heap_alloc_new _ _, World.ownsRow_nil _ _ _ _, HMj.out.2.1.size⟩⟩, Below.refl _ _, Kx.refl _ _, by have := HMj.out.2.1.size; simp; omega⟩
                refine (step_any (HG.out.two T L) (k : Int) U wr.heap.size w.heap.size M' [] o _ _ hM HRj.out.2 (Tok.nil _) (by omega)).mono fun e w' ⟨h1, h2⟩ => ⟨⟨_, h1⟩, h2.pt, (HMj.out.2.1.trans ((bel1 wr _).mono HMj.out.2.1.size)).trans h2.bel⟩
              obtain ⟨y0, y1, y2, y3, y4, y5⟩ := HCP.out wr HMj.out.2.2
              have hp := (Array.getElem?_eq_some_iff.1 HMj.out.2.2).1
              go_wp2_with fail
              refine HS1.out.mono ?_
              rintro e w5 ⟨⟨bo, rfl⟩, hp5, hb5⟩
              have HM5 : Hid (P2 PF T L w5 U w.heap.size (stepT M' o) ∧ Below w.heap.size w w5) := ⟨hp5, hb5⟩
              clear hp5 hb5 y0 y1 y2 y3 y4 y5 hp
              go_wp2_with fail
              go_roundw
              case rel => exact ⟨o.now, k + 1, stepT M' o, rfl, by go_num, by omega, by omega, by omega, d2, HST.out.1, HST.out.2, HM5.out⟩
              case measure => simp [intOf]; omega
      · have c2' : ¬ ((k : Int) < 200) := by omega
        have hmin : min len 200 = k := by omega
        clear c2 k1
        have HTM2 : Hid (Tok 200 M ∧ Rl (Ae now) L M) := ⟨HTM.out.1.more (by omega), by rw [← HL.out, hmin]; exact HTM.out.2⟩
        clear HTM hmin
        go_wp2_with fail
        go_loopw [13] (fun a V => ∃ (j : Nat) (X Y : List Bk), a = .int .i64 (j : Int) ∧ j ≤ len ∧ j ≤ 200 ∧ Tok 200 X ∧ Tok 200 Y ∧ Rl (Ae now) X Y ∧ P2 PF U Y V T w.heap.size X ∧ Below w.heap.size w V) (fun a V => len - (intOf a).toNat)
        case atStart => exact ⟨0, L, M, rfl, by omega, by omega, HTL.out, HTM2.out.1, HTM2.out.2, HMr.out.1.swap, HMr.out.2⟩
        case round =>
          obtain ⟨j, X, Y, rfl, j1, j2, hTX, hTY, hRj, hPj, hBj⟩ := hrel
          have HTX : Hid (Tok 200 X ∧ Tok 200 Y ∧ Rl (Ae now) X Y) := ⟨hTX, hTY, hRj⟩
          have HMj : Hid (P2 PF U Y wr T w.heap.size X ∧ Below w.heap.size w wr) := ⟨hPj, hBj⟩
          clear hTX hTY hRj hPj hBj HMr
          by_cases e1 : j < len
          · have e1' : (j : Int) < (len : Int) := by omega
            by_cases e2 : j < 200
            · have e2' : (j : Int) < 200 := by omega
              obtain ⟨o, ho⟩ : ∃ o, os[j]? = some o := ⟨_, List.getElem?_eq_getElem (by have := HO.out.n; omega)⟩
              have HOJ : Hid (os[j]? = some o) := ho
              obtain ⟨bb, off, hsa, hlt, h0, h1, h2, h3, h4, h5⟩ := (HO.out.later HMj.out.2 (Nat.le_refl _)).l j o ho
              subst hsa
              obtain ⟨kind, nm, orate, oburst, ocost, onow⟩ := o
              simp only at h1
              clear ho j1 j2 h0 h2 h3 h4 h5
              have HNM : Hid (∀ V, Below w.heap.size w V → V.cell? ⟨bb, off + j * 6 + 1, none⟩ = some (.string (tx nm))) := fun V hV => by
                obtain ⟨b7, o7, h7, _, _, h8, _⟩ := (HO.out.later hV (Nat.le_refl _)).l j _ HOJ.out
                cases h7
                exact h8
              obtain ⟨gA, gB, gC⟩ := cnt_range HTX.out.1 (by decide) nm
              have HCN : Hid (∀ W, P3 PF (fun _ => False) U Y W T w.heap.size X → w.heap.size ≤ W.heap.size → Calls Try.prog 14 #[.pointer (some ⟨T, 0, none⟩), .string (tx nm)] W fun e w' => e = .returned (.tuple #[.agg #[.int .i64 (cntI X nm).1.1, .int .i64 (cntI X nm).1.2.1, .int .i64 (cntI X nm).1.2.2], .int .i64 (cntI X nm).2]) ∧ P3 PF (fun _ => False) U Y w' T w.heap.size X ∧ Below w.heap.size W w') := fun W hW hs => (P3.cnt HG.out _ 200 U T w.heap.size X Y nm W hW HTX.out.1 (by decide) hs).mono fun e w' ⟨h1, h2, h3, _⟩ => ⟨h1, h2, h3⟩
              have HCM : Hid (∀ (A : Nat → Prop) W, P3 PF A T X W U w.heap.size Y → w.heap.size ≤ W.heap.size → Calls Try.prog 14 #[.pointer (some ⟨U, 0, none⟩), .string (tx nm)] W fun e w' => e = .returned (.tuple #[.agg #[.int .i64 (cntI X nm).1.1, .int .i64 (cntI X nm).1.2.1, .int .i64 (cntI X nm).1.2.2], .int .i64 (cntI X nm).2]) ∧ P3 PF A T X w' U w.heap.size Y ∧ Below w.heap.size W w' ∧ ∀ q, A q → w'.heap[q]? = W.heap[q]?) := fun A W hW hs => by
                have h := P3.cnt HG.out A 200 T U w.heap.size Y X nm W hW HTX.out.2.1 (by decide) hs
                rw [← HTX.out.2.2.counts n1 nm] at h
                exact h
              have HTN : Hid (∀ (A : Nat → Prop) W, P3 PF A U Y W T w.heap.size X → w.heap.size ≤ W.heap.size → Calls Try.prog 12 #[.pointer (some ⟨T, 0, none⟩), .string (tx nm), .int .i64 now] W fun e w' => e = .returned (.tuple #[.int .i64 (tokI X nm now).1, .int .i64 (tokI X nm now).2.1]) ∧ P3 PF A U Y w' T w.heap.size (tokI X nm now).2.2 ∧ Below w.heap.size W w' ∧ ∀ q, A q → w'.heap[q]? = W.heap[q]?) := fun A W hW hs => P3.tok HG.out A 200 U T w.heap.size X Y nm now W hW HTX.out.1 (by decide) hs
              have HTU : Hid (∀ (A : Nat → Prop) W, P3 PF A T (tokI X nm now).2.2 W U w.heap.size Y → w.heap.size ≤ W.heap.size → Calls Try.prog 12 #[.pointer (some ⟨U, 0, none⟩), .string (tx nm), .int .i64 now] W fun e w' => e = .returned (.tuple #[.int .i64 (tokI X nm now).1, .int .i64 (tokI X nm now).2.1]) ∧ P3 PF A T (tokI X nm now).2.2 w' U w.heap.size (tokI Y nm now).2.2 ∧ Below w.heap.size W w' ∧ ∀ q, A q → w'.heap[q]? = W.heap[q]?) := fun A W hW hs => by
                have h := P3.tok HG.out A 200 T U w.heap.size Y (tokI X nm now).2.2 nm now W hW HTX.out.2.1 (by decide) hs
                rw [← (HTX.out.2.2.tokens n1 nm).1, ← (HTX.out.2.2.tokens n1 nm).2.1] at h
                exact h
              have HN : Hid (Tok 200 (tokI X nm now).2.2 ∧ Tok 200 (tokI Y nm now).2.2 ∧ Rl (Ae now) (tokI X nm now).2.2 (tokI Y nm now).2.2) := ⟨tok_ok HTX.out.1 nm now, tok_ok HTX.out.2.1 nm now, (HTX.out.2.2.tokens n1 nm).2.2⟩
              generalize (cntI X nm).1.1 = A at HCN HCM gA
              generalize (cntI X nm).1.2.1 = B at HCN HCM gB
              generalize (cntI X nm).1.2.2 = C at HCN HCM gC
              generalize (cntI X nm).2 = D at HCN HCM
              generalize (tokI X nm now).2.2 = X' at HTN HTU HN
              generalize (tokI Y nm now).2.2 = Y' at HTU HN
              generalize (tokI X nm now).1 = P at HTN HTU
              generalize (tokI X nm now).2.1 = Q at HTN HTU
              have HEQ : Hid (∀ W : World, (Op.equalIn 10000 41 (.agg #[.int .i64 A, .int .i64 B, .int .i64 C]) (.agg #[.int .i64 A, .int .i64 B, .int .i64 C])).run Try.prog W = .ok true W) := fun W => eqCnt A B C gA gB gC W
              clear gA gB gC
              go_wp2_with fail
              refine (HCN.out wr HMj.out.1.three HMj.out.2.size).mono ?_
              rintro e w3 ⟨rfl, hp3, hb3⟩
              obtain ⟨W3, hW3⟩ : ∃ W3, w3.alloc (.cells #[.int .i64 A, .int .i64 B, .int .i64 C] 41) = W3 := ⟨_, rfl⟩
              have HM3 : Hid (P3 PF (fun q => False ∨ q = w3.heap.size) U Y W3 T w.heap.size X ∧ Below w.heap.size w W3 ∧ W3.heap[w3.heap.size]? = some (.cells #[.int .i64 A, .int .i64 B, .int .i64 C] 41 (0, 0))) := by
                have hw3 := HMj.out.2.trans hb3
                rw [← hW3]
                exact ⟨hp3.alloc HG.out _, hw3.trans ((bel1 w3 _).mono hw3.size), heap_alloc_new _ _⟩
              have n3 : W3.cell? ⟨bb, off + j * 6 + 1, none⟩ = some (.string (tx nm)) := HNM.out W3 HM3.out.2.1
              clear hp3 hb3 HMj h1
              go_wp2_with fail
              clear hW3
              generalize w3.heap.size = p at HM3 ⊢
              refine (HCM.out _ W3 HM3.out.1.swap HM3.out.2.1.size).mono ?_
              rintro e w4 ⟨rfl, hp4, hb4, ha4⟩
              obtain ⟨W4, hW4⟩ : ∃ W4, w4.alloc (.cells #[.int .i64 A, .int .i64 B, .int .i64 C] 41) = W4 := ⟨_, rfl⟩
              have HM4 : Hid (P3 PF (fun q => (False ∨ q = p) ∨ q = w4.heap.size) U Y W4 T w.heap.size X ∧ Below w.heap.size w W4 ∧ W4.heap[p]? = some (.cells #[.int .i64 A, .int .i64 B, .int .i64 C] 41 (0, 0)) ∧ W4.heap[w4.heap.size]? = some (.cells #[.int .i64 A, .int .i64 B, .int .i64 C] 41 (0, 0))) := by
                have hw4 := HM3.out.2.1.trans hb4
                have h4 := (ha4 p (.inr rfl)).trans HM3.out.2.2
                rw [← hW4]
                exact ⟨(hp4.alloc HG.out _).swap, hw4.trans ((bel1 w4 _).mono hw4.size), (Below.heap_alloc _ _ _ (Array.getElem?_eq_some_iff.1 h4).1).trans h4, heap_alloc_new _ _⟩
              have n4 : W4.cell? ⟨bb, off + j * 6 + 1, none⟩ = some (.string (tx nm)) := HNM.out W4 HM4.out.2.1
              clear hp4 hb4 ha4 HM3 n3
              go_wp2_with fail
              clear hW4
              generalize w4.heap.size = q at HM4 ⊢
              refine (HTN.out _ W4 HM4.out.1 HM4.out.2.1.size).mono ?_
              rintro e w5 ⟨rfl, hp5, hb5, ha5⟩
              have HM5 : Hid (P3 PF (fun r => (False ∨ r = p) ∨ r = q) T X' w5 U w.heap.size Y ∧ Below w.heap.size w w5 ∧ w5.heap[p]? = some (.cells #[.int .i64 A, .int .i64 B, .int .i64 C] 41 (0, 0)) ∧ w5.heap[q]? = some (.cells #[.int .i64 A, .int .i64 B, .int .i64 C] 41 (0, 0))) := ⟨hp5.swap, HM4.out.2.1.trans hb5, (ha5 p (.inl (.inr rfl))).trans HM4.out.2.2.1, (ha5 q (.inr rfl)).trans HM4.out.2.2.2⟩
              have n5 : w5.cell? ⟨bb, off + j * 6 + 1, none⟩ = some (.string (tx nm)) := HNM.out w5 HM5.out.2.1
              clear hp5 hb5 ha5 HM4 n4
              go_wp2_with fail
              refine (HTU.out _ w5 HM5.out.1 HM5.out.2.1.size).mono ?_
              rintro e w6 ⟨rfl, hp6, hb6, ha6⟩
              have h6p := (ha6 p (.inl (.inr rfl))).trans HM5.out.2.2.1
              have h6q := (ha6 q (.inr rfl)).trans HM5.out.2.2.2
              have HM6 : Hid (P2 PF U Y' w6 T w.heap.size X' ∧ Below w.heap.size w w6) := ⟨hp6.swap.two, HM5.out.2.1.trans hb6⟩
              have y0 : w6.cell? ⟨p, 0, none⟩ = some (.int .i64 A) := by rw [cell_of_row _ _ _ _ _ _ h6p]; rfl
              have y1 : w6.cell? ⟨p, 1, none⟩ = some (.int .i64 B) := by rw [cell_of_row _ _ _ _ _ _ h6p]; rfl
              have y2 : w6.cell? ⟨p, 2, none⟩ = some (.int .i64 C) := by rw [cell_of_row _ _ _ _ _ _ h6p]; rfl
              have z0 : w6.cell? ⟨q, 0, none⟩ = some (.int .i64 A) := by rw [cell_of_row _ _ _ _ _ _ h6q]; rfl
              have z1 : w6.cell? ⟨q, 1, none⟩ = some (.int .i64 B) := by rw [cell_of_row _ _ _ _ _ _ h6q]; rfl
              have z2 : w6.cell? ⟨q, 2, none⟩ = some (.int .i64 C) := by rw [cell_of_row _ _ _ _ _ _ h6q]; rfl
              have heq := HEQ.out w6
              clear hp6 hb6 ha6 HM5 h6p h6q n5
              go_wp2_with fail
              go_roundw
              case rel => exact ⟨j + 1, X', Y', by go_num, by omega, by omega, HN.out.1, HN.out.2.1, HN.out.2.2, HM6.out⟩
              case measure => simp [intOf]; omega
            · have e2' : ¬ ((j : Int) < 200) := by omega
              clear e2 j1 j2 e1
              go_wp2_with (go_at_call 10; refine (known_any HG.out.oneN _).mono ?_; rintro e w3 ⟨rfl, hb3⟩)
              go_ret
              exact ⟨rfl, HMj.out.2.trans (hb3.mono HMj.out.2.size)⟩
          · have e1' : ¬ ((j : Int) < (len : Int)) := by omega
            clear e1 j1 j2
            go_wp2_with (go_at_call 10; refine (known_any HG.out.oneN _).mono ?_; rintro e w3 ⟨rfl, hb3⟩)
            go_ret
            exact ⟨rfl, HMj.out.2.trans (hb3.mono HMj.out.2.size)⟩
    · have c1' : ¬ ((k : Int) < (len : Int)) := by omega
      have hmin : min len 200 = k := by omega
      clear c1 k1
      have HTM2 : Hid (Tok 200 M ∧ Rl (Ae now) L M) := ⟨HTM.out.1.more (by omega), by rw [← HL.out, hmin]; exact HTM.out.2⟩
      clear HTM hmin
      go_wp2_with fail
      go_loopw [13] (fun a V => ∃ (j : Nat) (X Y : List Bk), a = .int .i64 (j : Int) ∧ j ≤ len ∧ j ≤ 200 ∧ Tok 200 X ∧ Tok 200 Y ∧ Rl (Ae now) X Y ∧ P2 PF U Y V T w.heap.size X ∧ Below w.heap.size w V) (fun a V => len - (intOf a).toNat)
      case atStart => exact ⟨0, L, M, rfl, by omega, by omega, HTL.out, HTM2.out.1, HTM2.out.2, HMr.out.1.swap, HMr.out.2⟩
      case round =>
        obtain ⟨j, X, Y, rfl, j1, j2, hTX, hTY, hRj, hPj, hBj⟩ := hrel
        have HTX : Hid (Tok 200 X ∧ Tok 200 Y ∧ Rl (Ae now) X Y) := ⟨hTX, hTY, hRj⟩
        have HMj : Hid (P2 PF U Y wr T w.heap.size X ∧ Below w.heap.size w wr) := ⟨hPj, hBj⟩
        clear hTX hTY hRj hPj hBj HMr
        by_cases e1 : j < len
        · have e1' : (j : Int) < (len : Int) := by omega
          by_cases e2 : j < 200
          · have e2' : (j : Int) < 200 := by omega
            obtain ⟨o, ho⟩ : ∃ o, os[j]? = some o := ⟨_, List.getElem?_eq_getElem (by have := HO.out.n; omega)⟩
            have HOJ : Hid (os[j]? = some o) := ho
            obtain ⟨bb, off, hsa, hlt, h0, h1, h2, h3, h4, h5⟩ := (HO.out.later HMj.out.2 (Nat.le_refl _)).l j o ho
            subst hsa
            obtain ⟨kind, nm, orate, oburst, ocost, onow⟩ := o
            simp only at h1
            clear ho j1 j2 h0 h2 h3 h4 h5
            have HNM : Hid (∀ V, Below w.heap.size w V → V.cell? ⟨bb, off + j * 6 + 1, none⟩ = some (.string (tx nm))) := fun V hV => by
              obtain ⟨b7, o7, h7, _, _, h8, _⟩ := (HO.out.later hV (Nat.le_refl _)).l j _ HOJ.out
              cases h7
              exact h8
            obtain ⟨gA, gB, gC⟩ := cnt_range HTX.out.1 (by decide) nm
            have HCN : Hid (∀ W, P3 PF (fun _ => False) U Y W T w.heap.size X → w.heap.size ≤ W.heap.size → Calls Try.prog 14 #[.pointer (some ⟨T, 0, none⟩), .string (tx nm)] W fun e w' => e = .returned (.tuple #[.agg #[.int .i64 (cntI X nm).1.1, .int .i64 (cntI X nm).1.2.1, .int .i64 (cntI X nm).1.2.2], .int .i64 (cntI X nm).2]) ∧ P3 PF (fun _ => False) U Y w' T w.heap.size X ∧ Below w.heap.size W w') := fun W hW hs => (P3.cnt HG.out _ 200 U T w.heap.size X Y nm W hW HTX.out.1 (by decide) hs).mono fun e w' ⟨h1, h2, h3, _⟩ => ⟨h1, h2, h3⟩
            have HCM : Hid (∀ (A : Nat → Prop) W, P3 PF A T X W U w.heap.size Y → w.heap.size ≤ W.heap.size → Calls Try.prog 14 #[.pointer (some ⟨U, 0, none⟩), .string (tx nm)] W fun e w' => e = .returned (.tuple #[.agg #[.int .i64 (cntI X nm).1.1, .int .i64 (cntI X nm).1.2.1, .int .i64 (cntI X nm).1.2.2], .int .i64 (cntI X nm).2]) ∧ P3 PF A T X w' U w.heap.size Y ∧ Below w.heap.size W w' ∧ ∀ q, A q → w'.heap[q]? = W.heap[q]?) := fun A W hW hs => by
              have h := P3.cnt HG.out A 200 T U w.heap.size Y X nm W hW HTX.out.2.1 (by decide) hs
              rw [← HTX.out.2.2.counts n1 nm] at h
              exact h
            have HTN : Hid (∀ (A : Nat → Prop) W, P3 PF A U Y W T w.heap.size X → w.heap.size ≤ W.heap.size → Calls Try.prog 12 #[.pointer (some ⟨T, 0, none⟩), .string (tx nm), .int .i64 now] W fun e w' => e = .returned (.tuple #[.int .i64 (tokI X nm now).1, .int .i64 (tokI X nm now).2.1]) ∧ P3 PF A U Y w' T w.heap.size (tokI X nm now).2.2 ∧ Below w.heap.size W w' ∧ ∀ q, A q → w'.heap[q]? = W.heap[q]?) := fun A W hW hs => P3.tok HG.out A 200 U T w.heap.size X Y nm now W hW HTX.out.1 (by decide) hs
            have HTU : Hid (∀ (A : Nat → Prop) W, P3 PF A T (tokI X nm now).2.2 W U w.heap.size Y → w.heap.size ≤ W.heap.size → Calls Try.prog 12 #[.pointer (some ⟨U, 0, none⟩), .string (tx nm), .int .i64 now] W fun e w' => e = .returned (.tuple #[.int .i64 (tokI X nm now).1, .int .i64 (tokI X nm now).2.1]) ∧ P3 PF A T (tokI X nm now).2.2 w' U w.heap.size (tokI Y nm now).2.2 ∧ Below w.heap.size W w' ∧ ∀ q, A q → w'.heap[q]? = W.heap[q]?) := fun A W hW hs => by
              have h := P3.tok HG.out A 200 T U w.heap.size Y (tokI X nm now).2.2 nm now W hW HTX.out.2.1 (by decide) hs
              rw [← (HTX.out.2.2.tokens n1 nm).1, ← (HTX.out.2.2.tokens n1 nm).2.1] at h
              exact h
            have HN : Hid (Tok 200 (tokI X nm now).2.2 ∧ Tok 200 (tokI Y nm now).2.2 ∧ Rl (Ae now) (tokI X nm now).2.2 (tokI Y nm now).2.2) := ⟨tok_ok HTX.out.1 nm now, tok_ok HTX.out.2.1 nm now, (HTX.out.2.2.tokens n1 nm).2.2⟩
            generalize (cntI X nm).1.1 = A at HCN HCM gA
            generalize (cntI X nm).1.2.1 = B at HCN HCM gB
            generalize (cntI X nm).1.2.2 = C at HCN HCM gC
            generalize (cntI X nm).2 = D at HCN HCM
            generalize (tokI X nm now).2.2 = X' at HTN HTU HN
            generalize (tokI Y nm now).2.2 = Y' at HTU HN
            generalize (tokI X nm now).1 = P at HTN HTU
            generalize (tokI X nm now).2.1 = Q at HTN HTU
            have HEQ : Hid (∀ W : World, (Op.equalIn 10000 41 (.agg #[.int .i64 A, .int .i64 B, .int .i64 C]) (.agg #[.int .i64 A, .int .i64 B, .int .i64 C])).run Try.prog W = .ok true W) := fun W => eqCnt A B C gA gB gC W
            clear gA gB gC
            go_wp2_with fail
            refine (HCN.out wr HMj.out.1.three HMj.out.2.size).mono ?_
            rintro e w3 ⟨rfl, hp3, hb3⟩
            obtain ⟨W3, hW3⟩ : ∃ W3, w3.alloc (.cells #[.int .i64 A, .int .i64 B, .int .i64 C] 41) = W3 := ⟨_, rfl⟩
            have HM3 : Hid (P3 PF (fun q => False ∨ q = w3.heap.size) U Y W3 T w.heap.size X ∧ Below w.heap.size w W3 ∧ W3.heap[w3.heap.size]? = some (.cells #[.int .i64 A, .int .i64 B, .int .i64 C] 41 (0, 0))) := by
              have hw3 := HMj.out.2.trans hb3
              rw [← hW3]
              exact ⟨hp3.alloc HG.out _, hw3.trans ((bel1 w3 _).mono hw3.size), heap_alloc_new _ _⟩
            have n3 : W3.cell? ⟨bb, off + j * 6 + 1, none⟩ = some (.string (tx nm)) := HNM.out W3 HM3.out.2.1
            clear hp3 hb3 HMj h1
            go_wp2_with fail
            clear hW3
            generalize w3.heap.size = p at HM3 ⊢
            refine (HCM.out _ W3 HM3.out.1.swap HM3.out.2.1.size).mono ?_
            rintro e w4 ⟨rfl, hp4, hb4, ha4⟩
            obtain ⟨W4, hW4⟩ : ∃ W4, w4.alloc (.cells #[.int .i64 A, .int .i64 B, .int .i64 C] 41) = W4 := ⟨_, rfl⟩
            have HM4 : Hid (P3 PF (fun q => (False ∨ q = p) ∨ q = w4.heap.size) U Y W4 T w.heap.size X ∧ Below w.heap.size w W4 ∧ W4.heap[p]? = some (.cells #[.int .i64 A, .int .i64 B, .int .i64 C] 41 (0, 0)) ∧ W4.heap[w4.heap.size]? = some (.cells #[.int .i64 A, .int .i64 B, .int .i64 C] 41 (0, 0))) := by
              have hw4 := HM3.out.2.1.trans hb4
              have h4 := (ha4 p (.inr rfl)).trans HM3.out.2.2
              rw [← hW4]
              exact ⟨(hp4.alloc HG.out _).swap, hw4.trans ((bel1 w4 _).mono hw4.size), (Below.heap_alloc _ _ _ (Array.getElem?_eq_some_iff.1 h4).1).trans h4, heap_alloc_new _ _⟩
            have n4 : W4.cell? ⟨bb, off + j * 6 + 1, none⟩ = some (.string (tx nm)) := HNM.out W4 HM4.out.2.1
            clear hp4 hb4 ha4 HM3 n3
            go_wp2_with fail
            clear hW4
            generalize w4.heap.size = q at HM4 ⊢
            refine (HTN.out _ W4 HM4.out.1 HM4.out.2.1.size).mono ?_
            rintro e w5 ⟨rfl, hp5, hb5, ha5⟩
            have HM5 : Hid (P3 PF (fun r => (False ∨ r = p) ∨ r = q) T X' w5 U w.heap.size Y ∧ Below w.heap.size w w5 ∧ w5.heap[p]? = some (.cells #[.int .i64 A, .int .i64 B, .int .i64 C] 41 (0, 0)) ∧ w5.heap[q]? = some (.cells #[.int .i64 A, .int .i64 B, .int .i64 C] 41 (0, 0))) := ⟨hp5.swap, HM4.out.2.1.trans hb5, (ha5 p (.inl (.inr rfl))).trans HM4.out.2.2.1, (ha5 q (.inr rfl)).trans HM4.out.2.2.2⟩
            have n5 : w5.cell? ⟨bb, off + j * 6 + 1, none⟩ = some (.string (tx nm)) := HNM.out w5 HM5.out.2.1
            clear hp5 hb5 ha5 HM4 n4
            go_wp2_with fail
            refine (HTU.out _ w5 HM5.out.1 HM5.out.2.1.size).mono ?_
            rintro e w6 ⟨rfl, hp6, hb6, ha6⟩
            have h6p := (ha6 p (.inl (.inr rfl))).trans HM5.out.2.2.1
            have h6q := (ha6 q (.inr rfl)).trans HM5.out.2.2.2
            have HM6 : Hid (P2 PF U Y' w6 T w.heap.size X' ∧ Below w.heap.size w w6) := ⟨hp6.swap.two, HM5.out.2.1.trans hb6⟩
            have y0 : w6.cell? ⟨p, 0, none⟩ = some (.int .i64 A) := by rw [cell_of_row _ _ _ _ _ _ h6p]; rfl
            have y1 : w6.cell? ⟨p, 1, none⟩ = some (.int .i64 B) := by rw [cell_of_row _ _ _ _ _ _ h6p]; rfl
            have y2 : w6.cell? ⟨p, 2, none⟩ = some (.int .i64 C) := by rw [cell_of_row _ _ _ _ _ _ h6p]; rfl
            have z0 : w6.cell? ⟨q, 0, none⟩ = some (.int .i64 A) := by rw [cell_of_row _ _ _ _ _ _ h6q]; rfl
            have z1 : w6.cell? ⟨q, 1, none⟩ = some (.int .i64 B) := by rw [cell_of_row _ _ _ _ _ _ h6q]; rfl
            have z2 : w6.cell? ⟨q, 2, none⟩ = some (.int .i64 C) := by rw [cell_of_row _ _ _ _ _ _ h6q]; rfl
            have heq := HEQ.out w6
            clear hp6 hb6 ha6 HM5 h6p h6q n5
            go_wp2_with fail
            go_roundw
            case rel => exact ⟨j + 1, X', Y', by go_num, by omega, by omega, HN.out.1, HN.out.2.1, HN.out.2.2, HM6.out⟩
            case measure => simp [intOf]; omega
          · have e2' : ¬ ((j : Int) < 200) := by omega
            clear e2 j1 j2 e1
            go_wp2_with (go_at_call 10; refine (known_any HG.out.oneN _).mono ?_; rintro e w3 ⟨rfl, hb3⟩)
            go_ret
            exact ⟨rfl, HMj.out.2.trans (hb3.mono HMj.out.2.size)⟩
        · have e1' : ¬ ((j : Int) < (len : Int)) := by omega
          clear e1 j1 j2
          go_wp2_with (go_at_call 10; refine (known_any HG.out.oneN _).mono ?_; rintro e w3 ⟨rfl, hb3⟩)
          go_ret
          exact ⟨rfl, HMj.out.2.trans (hb3.mono HMj.out.2.size)⟩
end Go.Proofs.Ytpobfcmbbabchaa
