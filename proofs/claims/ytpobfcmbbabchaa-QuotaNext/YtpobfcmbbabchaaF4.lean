/- Two tables by turns, with what lies beside them; QuotaApart's law, over any program's table. -/
import Derived.Test.YtpobfcmbbabchaaF3
import Derived.DeepKeys
namespace Go.Proofs.Ytpobfcmbbabchaa
open Go.RowKit
set_option linter.unusedVariables false
set_option linter.unusedSimpArgs false

variable {PF : World → Nat → (Nat → Prop) → List Bk → Prop} {bad : TypeId → Bool}
/-- A table beside another one that rests, and blocks that are in neither. -/
def P3 (PF : World → Nat → (Nat → Prop) → List Bk → Prop) (A : Nat → Prop) (U : Nat) (m : List Bk) (w : World) (T base : Nat) (l : List Bk) : Prop := ∃ F FU, PF w T F l ∧ PF w U FU m ∧ (∀ q, F q → base ≤ q) ∧ (∀ q, FU q → base ≤ q) ∧ (∀ q, F q → ¬ FU q) ∧ ∀ q, A q → q < w.heap.size ∧ ¬ F q ∧ ¬ FU q
theorem P2.three {U T base : Nat} {l m : List Bk} {w : World} (h : P2 PF U m w T base l) : P3 PF (fun _ => False) U m w T base l := by
  obtain ⟨F, FU, h1, h2, h3, h4, h5⟩ := h
  exact ⟨F, FU, h1, h2, h3, h4, h5, fun q hq => hq.elim⟩
theorem P3.two {A : Nat → Prop} {U T base : Nat} {l m : List Bk} {w : World} (h : P3 PF A U m w T base l) : P2 PF U m w T base l := by
  obtain ⟨F, FU, h1, h2, h3, h4, h5, h6⟩ := h
  exact ⟨F, FU, h1, h2, h3, h4, h5⟩
theorem P3.swap {A : Nat → Prop} {U T base : Nat} {l m : List Bk} {w : World} (h : P3 PF A U m w T base l) : P3 PF A T l w U base m := by
  obtain ⟨F, FU, h1, h2, h3, h4, h5, h6⟩ := h
  exact ⟨FU, F, h2, h1, h4, h3, fun q hu hf => h5 q hf hu, fun q hq => ⟨(h6 q hq).1, (h6 q hq).2.2, (h6 q hq).2.1⟩⟩
theorem P3.alloc (G : PrgF PF bad) {A : Nat → Prop} {U T base : Nat} {l m : List Bk} {w : World} (h : P3 PF A U m w T base l) (o : Obj) : P3 PF (fun q => A q ∨ q = w.heap.size) U m (w.alloc o) T base l := by
  obtain ⟨F, FU, h1, h2, h3, h4, h5, h6⟩ := h
  refine ⟨F, FU, G.later h1 (bel1 w o) (Nat.le_refl _), G.later h2 (bel1 w o) (Nat.le_refl _), h3, h4, h5, fun q hq => ?_⟩
  rcases hq with hq | hq
  · exact ⟨by have := (h6 q hq).1; simp; omega, (h6 q hq).2⟩
  · subst hq
    exact ⟨by simp, fun hf => by have := G.lt h1 _ hf; omega, fun hf => by have := G.lt h2 _ hf; omega⟩
theorem three_step (G : PrgF PF bad) {A : Nat → Prop} {w w' : World} {T U base : Nat} {F F' FU : Nat → Prop} {m l' : List Bk} (hF : ∀ q, F q → base ≤ q) (hFU : ∀ q, FU q → base ≤ q) (hU : PF w U FU m) (hd : ∀ q, F q → ¬ FU q) (hA : ∀ q, A q → q < w.heap.size ∧ ¬ F q ∧ ¬ FU q) (hb : base ≤ w.heap.size) (h1 : PF w' T F' l') (h2 : Fr F F' w w') : P3 PF A U m w' T base l' ∧ Below base w w' ∧ ∀ q, A q → w'.heap[q]? = w.heap[q]? := by
  refine ⟨⟨F', FU, h1, G.at' hU fun q hq => h2.block q (G.lt hU q hq) fun hf => hd q hf hq, h2.low hF hb, hFU, fun q hq hu => ?_, fun q hq => ?_⟩, h2.below hF hb, fun q hq => h2.block q (hA q hq).1 (hA q hq).2.1⟩
  · rcases h2.grow q hq with h' | h'
    · exact hd q h' hu
    · have := G.lt hU q hu
      omega
  · obtain ⟨a1, a2, a3⟩ := hA q hq
    refine ⟨by have := h2.size; omega, fun hf => ?_, a3⟩
    rcases h2.grow q hf with h' | h'
    · exact a2 h'
    · omega
theorem P3.cnt (G : PrgF PF bad) (A : Nat → Prop) (N : Int) (U T base : Nat) (l m : List Bk) (nm : List UInt8) (w : World) (h : P3 PF A U m w T base l) (ht : Tok N l) (hN : N ≤ 1000000) (hb : base ≤ w.heap.size) :
    Calls Try.prog 14 #[.pointer (some ⟨T, 0, none⟩), .string (tx nm)] w fun e w' => e = .returned (cntV (cntI l nm)) ∧ P3 PF A U m w' T base l ∧ Below base w w' ∧ ∀ q, A q → w'.heap[q]? = w.heap[q]? := by
  obtain ⟨F, FU, h1, h2, h3, h4, h5, h6⟩ := h
  exact (G.cnt N T F l nm w h1 ht hN).mono fun e w' ⟨h0, F', k1, k2, k3⟩ => ⟨h0, three_step G h3 h4 h2 h5 h6 hb k1 k2⟩
theorem P3.tok (G : PrgF PF bad) (A : Nat → Prop) (N : Int) (U T base : Nat) (l m : List Bk) (nm : List UInt8) (now : Int) (w : World) (h : P3 PF A U m w T base l) (ht : Tok N l) (hN : N ≤ 1000000) (hb : base ≤ w.heap.size) :
    Calls Try.prog 12 #[.pointer (some ⟨T, 0, none⟩), .string (tx nm), .int .i64 now] w fun e w' => e = .returned (.tuple #[.int .i64 (tokI l nm now).1, .int .i64 (tokI l nm now).2.1]) ∧ P3 PF A U m w' T base (tokI l nm now).2.2 ∧ Below base w w' ∧ ∀ q, A q → w'.heap[q]? = w.heap[q]? := by
  obtain ⟨F, FU, h1, h2, h3, h4, h5, h6⟩ := h
  exact (G.tok N T F l nm now w h1 ht hN).mono fun e w' ⟨h0, F', k1, k2, k3⟩ => ⟨h0, three_step G h3 h4 h2 h5 h6 hb k1 k2⟩
theorem wf_in {A : Int} (h0 : 0 ≤ A) (h1 : A ≤ 4611686018427387904) : (Lit.int .i64 A).wf = true := by
  have hm : IntKind.i64.min = -9223372036854775808 := by rfl
  have hM : IntKind.i64.max = 9223372036854775807 := by rfl
  simp only [Lit.wf, hm, hM, Bool.and_eq_true, decide_eq_true_eq]
  omega
/-- Counts, compared with themselves. -/
theorem eqCnt (A B C : Int) (hA : 0 ≤ A ∧ A ≤ 4611686018427387904) (hB : 0 ≤ B ∧ B ≤ 4611686018427387904) (hC : 0 ≤ C ∧ C ≤ 4611686018427387904) (w : World) : (Op.equalIn 10000 41 (.agg #[.int .i64 A, .int .i64 B, .int .i64 C]) (.agg #[.int .i64 A, .int .i64 B, .int .i64 C])).run Try.prog w = .ok true w := by
  have c2 : Try.prog.cellsOf 2 = 1 := by kernel_rfl
  have c41 : Try.prog.cellsOf 41 = 3 := by kernel_rfl
  have wA : (Lit.int .i64 A).wf = true := wf_in hA.1 hA.2
  have wB : (Lit.int .i64 B).wf = true := wf_in hB.1 hB.2
  have wC : (Lit.int .i64 C).wf = true := wf_in hC.1 hC.2
  have hk : Try.prog.keyLits 2 41 [.int .i64 A, .int .i64 B, .int .i64 C] = some [.int .i64 A, .int .i64 B, .int .i64 C] := by
    simp [Program.keyLits, Try.underlying41, Try.underlying2, c2, c41, wA, wB, wC]
  have hf : Value.formed Try.prog 41 (.agg #[.int .i64 A, .int .i64 B, .int .i64 C]) = true := by
    unfold Value.formed
    simp only [Try.underlying41, c41]
    rfl
  obtain ⟨r, hr, hiff⟩ := run_equalIn_deep (P := Try.prog) 9998 2 41 (by kernel_rfl) w 2 2 (.agg #[.int .i64 A, .int .i64 B, .int .i64 C]) (.agg #[.int .i64 A, .int .i64 B, .int .i64 C]) _ _ hf hf hk hk
  rw [show r = true from hiff.2 rfl] at hr
  exact hr
theorem cnt_range {N : Int} {l : List Bk} (h : Tok N l) (hN : N ≤ 1000000) (nm : List UInt8) : (0 ≤ (cntI l nm).1.1 ∧ (cntI l nm).1.1 ≤ 4611686018427387904) ∧ (0 ≤ (cntI l nm).1.2.1 ∧ (cntI l nm).1.2.1 ≤ 4611686018427387904) ∧ (0 ≤ (cntI l nm).1.2.2 ∧ (cntI l nm).1.2.2 ≤ 4611686018427387904) := by
  unfold cntI
  cases hx : lookB l nm with
  | none => simp
  | some kb =>
    have hB := h.at (lookB_some hx).2.1
    have := hB.k0; have := hB.k1; have := hB.f0; have := hB.f1; have := hB.c0; have := hB.c1
    simp only
    omega
/-- The later of a time and a script's. -/
def lateI (last now : Int) : Int := if last < now ∧ now ≤ 1125899906842624 then now else last
set_option maxRecDepth 20000 in
set_option maxHeartbeats 4000000 in
theorem apart_law (G : PrgF PF bad) (sa sb : Option Addr) (len cap lenb capb : Nat) (os ob : List OpI) (nm : List UInt8) (w : World) (h : OpsAt w sa len cap os) (hl : (len : Int) ≤ 140737488351232) (hb : OpsAt w sb lenb capb ob) (hlb : (lenb : Int) ≤ 140737488351232) :
    Calls Try.prog 7 #[.slice sa len cap, .string (tx nm), .slice sb lenb capb] w fun e w' => e = .returned (.bool true) ∧ Below w.heap.size w w' := by
  have HG : Hid (PrgF PF bad) := G
  have HPL : Hid (Calls Try.prog 9 #[.slice sa len cap] w fun e w' => ∃ T R, e = .returned (.tuple #[.pointer (some ⟨T, 0, none⟩), .pointer (some ⟨R, 0, none⟩), .bool true]) ∧ Mid (P1 PF) bad T R w.heap.size (runT os (min len 200)) (runT os (min len 200)) w w') := played_any G.oneN sa len cap os w h hl
  have HTL : Hid (Tok 200 (runT os (min len 200))) := (runT_ok os (min len 200)).more (by omega)
  generalize runT os (min len 200) = L at HPL HTL
  have HO : Hid (OpsAt w sb lenb capb ob) := hb
  have hcap : (lenb : Int) ≤ (capb : Int) := by have := hb.c; omega
  clear G h hl hb
  go_enter Try.func7, Try.ntmps7
  go_wp2_with fail
  refine HPL.out.mono ?_
  rintro e w1 ⟨T, R, rfl, hM⟩
  have HM1 : Hid (P1 PF w1 T w.heap.size L ∧ Below w.heap.size w w1) := ⟨hM.pt, hM.bel⟩
  clear hM HPL
  go_wp2_with fail
  refine (HG.out.copied 200 T w.heap.size L w1 HM1.out.1 HTL.out (by decide) HM1.out.2.size).mono ?_
  rintro e w2 ⟨U, rfl, hp2, hb2⟩
  have HM2 : Hid (P2 PF T L w2 U w.heap.size L ∧ Below w.heap.size w w2) := ⟨hp2.swap, HM1.out.2.trans (hb2.mono HM1.out.2.size)⟩
  clear hp2 hb2 HM1
  go_wp2_with fail
  go_loopw [11, 12] (fun a c wr => ∃ (last : Int) (k : Nat) (M : List Bk), a = .int .i64 last ∧ c = .int .i64 (k : Int) ∧ k ≤ lenb ∧ k ≤ 50 ∧ 0 ≤ last ∧ last ≤ 1125899906842624 ∧ Tok (200 + (k : Int)) M ∧ lookB M nm = lookB L nm ∧ P2 PF T L wr U w.heap.size M ∧ Below w.heap.size w wr) (fun a c wr => lenb - (intOf c).toNat)
  case atStart => exact ⟨0, 0, L, rfl, rfl, by omega, by omega, by omega, by omega, HTL.out.more (by omega), rfl, HM2.out⟩
  case round =>
    obtain ⟨last, k, M, rfl, rfl, k1, k2, l0, l1, hT, hlk, hP, hBl⟩ := hrel
    have HTM : Hid (Tok (200 + (k : Int)) M ∧ lookB M nm = lookB L nm) := ⟨hT, hlk⟩
    have HMr : Hid (P2 PF T L wr U w.heap.size M ∧ Below w.heap.size w wr) := ⟨hP, hBl⟩
    clear hT hlk hP hBl
    by_cases c1 : k < lenb
    · have c1' : (k : Int) < (lenb : Int) := by omega
      by_cases c2 : k < 50
      · have c2' : (k : Int) < 50 := by omega
        obtain ⟨o, ho⟩ : ∃ o, ob[k]? = some o := ⟨_, List.getElem?_eq_getElem (by have := HO.out.n; omega)⟩
        have HOK : Hid (ob[k]? = some o) := ho
        obtain ⟨bb, off, hsa, hlt, h0, h1, h2, h3, h4, h5⟩ := (HO.out.later HMr.out.2 (Nat.le_refl _)).l k o ho
        subst hsa
        have HLA : Hid (lateI last o.now = if last < o.now ∧ o.now ≤ 1125899906842624 then o.now else last) := rfl
        clear ho k1 k2
        by_cases hn : o.nm = nm
        · have HST : Hid (Tok (200 + ((k + 1 : Nat) : Int)) M) := HTM.out.1.more (by omega)
          rw [hn] at h1
          clear hn
          rcases (show (last < o.now ∧ o.now ≤ 1125899906842624) ∨ (last < o.now ∧ 1125899906842624 < o.now) ∨ o.now ≤ last by omega) with ⟨d1, d2⟩ | ⟨d1, d2⟩ | d1
          · go_wp2_with fail
            go_roundw
            case rel => exact ⟨o.now, k + 1, M, rfl, by go_num, by omega, by omega, by omega, d2, HST.out, HTM.out.2, HMr.out⟩
            case measure => simp [intOf]; omega
          · go_wp2_with fail
            go_roundw
            case rel => exact ⟨last, k + 1, M, rfl, by go_num, by omega, by omega, l0, l1, HST.out, HTM.out.2, HMr.out⟩
            case measure => simp [intOf]; omega
          · go_wp2_with fail
            go_roundw
            case rel => exact ⟨last, k + 1, M, rfl, by go_num, by omega, by omega, l0, l1, HST.out, HTM.out.2, HMr.out⟩
            case measure => simp [intOf]; omega
        · have hn' : ((tx o.nm).toList == (tx nm).toList) = false := by rw [tx_list, tx_list]; simpa using hn
          have hn2 : ((tx o.nm).toList != (tx nm).toList) = true := by simp [bne, hn']
          by_cases h8 : o.kind = 8
          · have HST : Hid (Tok (200 + ((k + 1 : Nat) : Int)) M) := HTM.out.1.more (by omega)
            rw [h8] at h0
            clear h8 hn
            rcases (show (last < o.now ∧ o.now ≤ 1125899906842624) ∨ (last < o.now ∧ 1125899906842624 < o.now) ∨ o.now ≤ last by omega) with ⟨d1, d2⟩ | ⟨d1, d2⟩ | d1
            · go_wp2_with fail
              go_roundw
              case rel => exact ⟨o.now, k + 1, M, rfl, by go_num, by omega, by omega, by omega, d2, HST.out, HTM.out.2, HMr.out⟩
              case measure => simp [intOf]; omega
            · go_wp2_with fail
              go_roundw
              case rel => exact ⟨last, k + 1, M, rfl, by go_num, by omega, by omega, l0, l1, HST.out, HTM.out.2, HMr.out⟩
              case measure => simp [intOf]; omega
            · go_wp2_with fail
              go_roundw
              case rel => exact ⟨last, k + 1, M, rfl, by go_num, by omega, by omega, l0, l1, HST.out, HTM.out.2, HMr.out⟩
              case measure => simp [intOf]; omega
          · have h8' : (o.kind == 8) = false := by simpa using h8
            have HST : Hid (Tok (200 + ((k + 1 : Nat) : Int)) (stepT M o) ∧ lookB (stepT M o) nm = lookB L nm) := ⟨by have := step_ok (by omega) HTM.out.1 o; rwa [show 200 + ((k + 1 : Nat) : Int) = 200 + (k : Int) + 1 by omega], (look_step o hn h8).trans HTM.out.2⟩
            have HS1 : Hid (Calls Try.prog 13 #[.pointer (some ⟨U, 0, none⟩), .pointer (some ⟨wr.heap.size, 0, none⟩), .agg #[.int .i64 o.kind, .string (tx o.nm), .int .i64 o.rate, .int .i64 o.burst, .int .i64 o.cost, .int .i64 o.now]] (wr.alloc (.cells #[.slice none 0 0] 39)) fun e w' => (∃ b, e = .returned (.bool b)) ∧ P2 PF T L w' U w.heap.size (stepT M o) ∧ Below w.heap.size w w') := by
              have hM : Mid (P2 PF T L) bad U wr.heap.size w.heap.size M [] (wr.alloc (.cells #[.slice none 0 0] 39)) (wr.alloc (.cells #[.slice none 0 0] 39)) := ⟨(HG.out.two T L).later HMr.out.1 (bel1 wr _) (Nat.le_refl _), ⟨.slice none 0 0, ⟨heap_alloc_new _ _, World.ownsRow_nil _ _ _ _, HMr.out.2.size⟩⟩, Below.refl _ _, Kx.refl _ _, by have := HMr.out.2.size; simp; omega⟩
              refine (step_any (HG.out.two T L) (200 + (k : Int)) U wr.heap.size w.heap.size M [] o _ _ hM HTM.out.1 (Tok.nil _) (by omega)).mono fun e w' ⟨h1, h2⟩ => ⟨⟨_, h1⟩, h2.pt, (HMr.out.2.trans ((bel1 wr _).mono HMr.out.2.size)).trans h2.bel⟩
            clear hn h8
            go_wp2_with fail
            refine HS1.out.mono ?_
            rintro e w3 ⟨⟨bo, rfl⟩, hp3, hb3⟩
            have HM3 : Hid (P2 PF T L w3 U w.heap.size (stepT M o) ∧ Below w.heap.size w w3) := ⟨hp3, hb3⟩
            obtain ⟨b2, off2, hsa2, hlt2, z0, z1, z2, z3, z4, z5⟩ := (HO.out.later HM3.out.2 (Nat.le_refl _)).l k _ HOK.out
            obtain ⟨rfl, rfl⟩ : b2 = bb ∧ off2 = off := by cases hsa2; exact ⟨rfl, rfl⟩
            clear hp3 hb3 hsa2 z0 z1 z2 z3 z4 h0 h1 h2 h3 h4 h5 hlt
            rcases (show (last < o.now ∧ o.now ≤ 1125899906842624) ∨ (last < o.now ∧ 1125899906842624 < o.now) ∨ o.now ≤ last by omega) with ⟨d1, d2⟩ | ⟨d1, d2⟩ | d1
            · go_wp2_with fail
              go_roundw
              case rel => exact ⟨o.now, k + 1, stepT M o, rfl, by go_num, by omega, by omega, by omega, d2, HST.out.1, HST.out.2, HM3.out⟩
              case measure => simp [intOf]; omega
            · go_wp2_with fail
              go_roundw
              case rel => exact ⟨last, k + 1, stepT M o, rfl, by go_num, by omega, by omega, l0, l1, HST.out.1, HST.out.2, HM3.out⟩
              case measure => simp [intOf]; omega
            · go_wp2_with fail
              go_roundw
              case rel => exact ⟨last, k + 1, stepT M o, rfl, by go_num, by omega, by omega, l0, l1, HST.out.1, HST.out.2, HM3.out⟩
              case measure => simp [intOf]; omega
      · have c2' : ¬ ((k : Int) < 50) := by omega
        clear c2 k1
        obtain ⟨gA, gB, gC⟩ := cnt_range HTL.out (by decide) nm
        have HCN : Hid (∀ W, P3 PF (fun _ => False) U M W T w.heap.size L → w.heap.size ≤ W.heap.size → Calls Try.prog 14 #[.pointer (some ⟨T, 0, none⟩), .string (tx nm)] W fun e w' => e = .returned (.tuple #[.agg #[.int .i64 (cntI L nm).1.1, .int .i64 (cntI L nm).1.2.1, .int .i64 (cntI L nm).1.2.2], .int .i64 (cntI L nm).2]) ∧ P3 PF (fun _ => False) U M w' T w.heap.size L ∧ Below w.heap.size W w') := fun W hW hs => (P3.cnt HG.out _ 200 U T w.heap.size L M nm W hW HTL.out (by decide) hs).mono fun e w' ⟨h1, h2, h3, _⟩ => ⟨h1, h2, h3⟩
        have HCM : Hid (∀ (A : Nat → Prop) W, P3 PF A T L W U w.heap.size M → w.heap.size ≤ W.heap.size → Calls Try.prog 14 #[.pointer (some ⟨U, 0, none⟩), .string (tx nm)] W fun e w' => e = .returned (.tuple #[.agg #[.int .i64 (cntI L nm).1.1, .int .i64 (cntI L nm).1.2.1, .int .i64 (cntI L nm).1.2.2], .int .i64 (cntI L nm).2]) ∧ P3 PF A T L w' U w.heap.size M ∧ Below w.heap.size W w' ∧ ∀ q, A q → w'.heap[q]? = W.heap[q]?) := fun A W hW hs => by
          have h := P3.cnt HG.out A (200 + (k : Int)) T U w.heap.size M L nm W hW HTM.out.1 (by omega) hs
          rw [cnt_of_look HTM.out.2] at h
          exact h
        have HTN : Hid (∀ (A : Nat → Prop) W, P3 PF A U M W T w.heap.size L → w.heap.size ≤ W.heap.size → Calls Try.prog 12 #[.pointer (some ⟨T, 0, none⟩), .string (tx nm), .int .i64 last] W fun e w' => e = .returned (.tuple #[.int .i64 (tokI L nm last).1, .int .i64 (tokI L nm last).2.1]) ∧ P3 PF A U M w' T w.heap.size (tokI L nm last).2.2 ∧ Below w.heap.size W w' ∧ ∀ q, A q → w'.heap[q]? = W.heap[q]?) := fun A W hW hs => P3.tok HG.out A 200 U T w.heap.size L M nm last W hW HTL.out (by decide) hs
        have HTU : Hid (∀ (A : Nat → Prop) W, P3 PF A T (tokI L nm last).2.2 W U w.heap.size M → w.heap.size ≤ W.heap.size → Calls Try.prog 12 #[.pointer (some ⟨U, 0, none⟩), .string (tx nm), .int .i64 last] W fun e w' => e = .returned (.tuple #[.int .i64 (tokI L nm last).1, .int .i64 (tokI L nm last).2.1]) ∧ Below w.heap.size W w' ∧ ∀ q, A q → w'.heap[q]? = W.heap[q]?) := fun A W hW hs => by
          have h := P3.tok HG.out A (200 + (k : Int)) T U w.heap.size M (tokI L nm last).2.2 nm last W hW HTM.out.1 (by omega) hs
          rw [(tok_of_look HTM.out.2).1, (tok_of_look HTM.out.2).2] at h
          exact h.mono fun e w' ⟨h1, _, h3, h4⟩ => ⟨h1, h3, h4⟩
        generalize (cntI L nm).1.1 = A at HCN HCM gA
        generalize (cntI L nm).1.2.1 = B at HCN HCM gB
        generalize (cntI L nm).1.2.2 = C at HCN HCM gC
        generalize (cntI L nm).2 = D at HCN HCM
        generalize (tokI L nm last).2.2 = L' at HTN HTU
        generalize (tokI L nm last).1 = X at HTN HTU
        generalize (tokI L nm last).2.1 = Y at HTN HTU
        have HEQ : Hid (∀ W : World, (Op.equalIn 10000 41 (.agg #[.int .i64 A, .int .i64 B, .int .i64 C]) (.agg #[.int .i64 A, .int .i64 B, .int .i64 C])).run Try.prog W = .ok true W) := fun W => eqCnt A B C gA gB gC W
        clear gA gB gC
        go_wp2_with fail
        refine (HCN.out wr HMr.out.1.swap.three HMr.out.2.size).mono ?_
        rintro e w3 ⟨rfl, hp3, hb3⟩
        obtain ⟨W3, hW3⟩ : ∃ W3, w3.alloc (.cells #[.int .i64 A, .int .i64 B, .int .i64 C] 41) = W3 := ⟨_, rfl⟩
        have HM3 : Hid (P3 PF (fun q => False ∨ q = w3.heap.size) U M W3 T w.heap.size L ∧ Below w.heap.size w W3 ∧ W3.heap[w3.heap.size]? = some (.cells #[.int .i64 A, .int .i64 B, .int .i64 C] 41 (0, 0))) := by
          have hw3 := HMr.out.2.trans hb3
          rw [← hW3]
          exact ⟨hp3.alloc HG.out _, hw3.trans ((bel1 w3 _).mono hw3.size), heap_alloc_new _ _⟩
        clear hp3 hb3 HMr
        go_wp2_with fail
        clear hW3
        generalize w3.heap.size = p at HM3 ⊢
        refine (HCM.out _ W3 HM3.out.1.swap HM3.out.2.1.size).mono ?_
        rintro e w4 ⟨rfl, hp4, hb4, ha4⟩
        obtain ⟨W4, hW4⟩ : ∃ W4, w4.alloc (.cells #[.int .i64 A, .int .i64 B, .int .i64 C] 41) = W4 := ⟨_, rfl⟩
        have HM4 : Hid (P3 PF (fun q => (False ∨ q = p) ∨ q = w4.heap.size) U M W4 T w.heap.size L ∧ Below w.heap.size w W4 ∧ W4.heap[p]? = some (.cells #[.int .i64 A, .int .i64 B, .int .i64 C] 41 (0, 0)) ∧ W4.heap[w4.heap.size]? = some (.cells #[.int .i64 A, .int .i64 B, .int .i64 C] 41 (0, 0))) := by
          have hw4 := HM3.out.2.1.trans hb4
          have h4 := (ha4 p (.inr rfl)).trans HM3.out.2.2
          rw [← hW4]
          exact ⟨(hp4.alloc HG.out _).swap, hw4.trans ((bel1 w4 _).mono hw4.size), (Below.heap_alloc _ _ _ (Array.getElem?_eq_some_iff.1 h4).1).trans h4, heap_alloc_new _ _⟩
        clear hp4 hb4 ha4 HM3
        go_wp2_with fail
        clear hW4
        generalize w4.heap.size = q at HM4 ⊢
        refine (HTN.out _ W4 HM4.out.1 HM4.out.2.1.size).mono ?_
        rintro e w5 ⟨rfl, hp5, hb5, ha5⟩
        have HM5 : Hid (P3 PF (fun r => (False ∨ r = p) ∨ r = q) T L' w5 U w.heap.size M ∧ Below w.heap.size w w5 ∧ w5.heap[p]? = some (.cells #[.int .i64 A, .int .i64 B, .int .i64 C] 41 (0, 0)) ∧ w5.heap[q]? = some (.cells #[.int .i64 A, .int .i64 B, .int .i64 C] 41 (0, 0))) := ⟨hp5.swap, HM4.out.2.1.trans hb5, (ha5 p (.inl (.inr rfl))).trans HM4.out.2.2.1, (ha5 q (.inr rfl)).trans HM4.out.2.2.2⟩
        clear hp5 hb5 ha5 HM4
        go_wp2_with fail
        refine (HTU.out _ w5 HM5.out.1 HM5.out.2.1.size).mono ?_
        rintro e w6 ⟨rfl, hb6, ha6⟩
        have h6p := (ha6 p (.inl (.inr rfl))).trans HM5.out.2.2.1
        have h6q := (ha6 q (.inr rfl)).trans HM5.out.2.2.2
        have HM6 : Hid (Below w.heap.size w w6) := HM5.out.2.1.trans hb6
        have y0 : w6.cell? ⟨p, 0, none⟩ = some (.int .i64 A) := by rw [cell_of_row _ _ _ _ _ _ h6p]; rfl
        have y1 : w6.cell? ⟨p, 1, none⟩ = some (.int .i64 B) := by rw [cell_of_row _ _ _ _ _ _ h6p]; rfl
        have y2 : w6.cell? ⟨p, 2, none⟩ = some (.int .i64 C) := by rw [cell_of_row _ _ _ _ _ _ h6p]; rfl
        have z0 : w6.cell? ⟨q, 0, none⟩ = some (.int .i64 A) := by rw [cell_of_row _ _ _ _ _ _ h6q]; rfl
        have z1 : w6.cell? ⟨q, 1, none⟩ = some (.int .i64 B) := by rw [cell_of_row _ _ _ _ _ _ h6q]; rfl
        have z2 : w6.cell? ⟨q, 2, none⟩ = some (.int .i64 C) := by rw [cell_of_row _ _ _ _ _ _ h6q]; rfl
        have heq := HEQ.out w6
        clear hb6 ha6 HM5 h6p h6q
        go_wp2_with (go_at_call 10; refine (known_any HG.out.oneN _).mono ?_; rintro e w7 ⟨rfl, hb7⟩)
        go_ret
        exact ⟨rfl, HM6.out.trans (hb7.mono HM6.out.size)⟩
    · have c1' : ¬ ((k : Int) < (lenb : Int)) := by omega
      clear c1 k1
      obtain ⟨gA, gB, gC⟩ := cnt_range HTL.out (by decide) nm
      have HCN : Hid (∀ W, P3 PF (fun _ => False) U M W T w.heap.size L → w.heap.size ≤ W.heap.size → Calls Try.prog 14 #[.pointer (some ⟨T, 0, none⟩), .string (tx nm)] W fun e w' => e = .returned (.tuple #[.agg #[.int .i64 (cntI L nm).1.1, .int .i64 (cntI L nm).1.2.1, .int .i64 (cntI L nm).1.2.2], .int .i64 (cntI L nm).2]) ∧ P3 PF (fun _ => False) U M w' T w.heap.size L ∧ Below w.heap.size W w') := fun W hW hs => (P3.cnt HG.out _ 200 U T w.heap.size L M nm W hW HTL.out (by decide) hs).mono fun e w' ⟨h1, h2, h3, _⟩ => ⟨h1, h2, h3⟩
      have HCM : Hid (∀ (A : Nat → Prop) W, P3 PF A T L W U w.heap.size M → w.heap.size ≤ W.heap.size → Calls Try.prog 14 #[.pointer (some ⟨U, 0, none⟩), .string (tx nm)] W fun e w' => e = .returned (.tuple #[.agg #[.int .i64 (cntI L nm).1.1, .int .i64 (cntI L nm).1.2.1, .int .i64 (cntI L nm).1.2.2], .int .i64 (cntI L nm).2]) ∧ P3 PF A T L w' U w.heap.size M ∧ Below w.heap.size W w' ∧ ∀ q, A q → w'.heap[q]? = W.heap[q]?) := fun A W hW hs => by
        have h := P3.cnt HG.out A (200 + (k : Int)) T U w.heap.size M L nm W hW HTM.out.1 (by omega) hs
        rw [cnt_of_look HTM.out.2] at h
        exact h
      have HTN : Hid (∀ (A : Nat → Prop) W, P3 PF A U M W T w.heap.size L → w.heap.size ≤ W.heap.size → Calls Try.prog 12 #[.pointer (some ⟨T, 0, none⟩), .string (tx nm), .int .i64 last] W fun e w' => e = .returned (.tuple #[.int .i64 (tokI L nm last).1, .int .i64 (tokI L nm last).2.1]) ∧ P3 PF A U M w' T w.heap.size (tokI L nm last).2.2 ∧ Below w.heap.size W w' ∧ ∀ q, A q → w'.heap[q]? = W.heap[q]?) := fun A W hW hs => P3.tok HG.out A 200 U T w.heap.size L M nm last W hW HTL.out (by decide) hs
      have HTU : Hid (∀ (A : Nat → Prop) W, P3 PF A T (tokI L nm last).2.2 W U w.heap.size M → w.heap.size ≤ W.heap.size → Calls Try.prog 12 #[.pointer (some ⟨U, 0, none⟩), .string (tx nm), .int .i64 last] W fun e w' => e = .returned (.tuple #[.int .i64 (tokI L nm last).1, .int .i64 (tokI L nm last).2.1]) ∧ Below w.heap.size W w' ∧ ∀ q, A q → w'.heap[q]? = W.heap[q]?) := fun A W hW hs => by
        have h := P3.tok HG.out A (200 + (k : Int)) T U w.heap.size M (tokI L nm last).2.2 nm last W hW HTM.out.1 (by omega) hs
        rw [(tok_of_look HTM.out.2).1, (tok_of_look HTM.out.2).2] at h
        exact h.mono fun e w' ⟨h1, _, h3, h4⟩ => ⟨h1, h3, h4⟩
      generalize (cntI L nm).1.1 = A at HCN HCM gA
      generalize (cntI L nm).1.2.1 = B at HCN HCM gB
      generalize (cntI L nm).1.2.2 = C at HCN HCM gC
      generalize (cntI L nm).2 = D at HCN HCM
      generalize (tokI L nm last).2.2 = L' at HTN HTU
      generalize (tokI L nm last).1 = X at HTN HTU
      generalize (tokI L nm last).2.1 = Y at HTN HTU
      have HEQ : Hid (∀ W : World, (Op.equalIn 10000 41 (.agg #[.int .i64 A, .int .i64 B, .int .i64 C]) (.agg #[.int .i64 A, .int .i64 B, .int .i64 C])).run Try.prog W = .ok true W) := fun W => eqCnt A B C gA gB gC W
      clear gA gB gC
      go_wp2_with fail
      refine (HCN.out wr HMr.out.1.swap.three HMr.out.2.size).mono ?_
      rintro e w3 ⟨rfl, hp3, hb3⟩
      obtain ⟨W3, hW3⟩ : ∃ W3, w3.alloc (.cells #[.int .i64 A, .int .i64 B, .int .i64 C] 41) = W3 := ⟨_, rfl⟩
      have HM3 : Hid (P3 PF (fun q => False ∨ q = w3.heap.size) U M W3 T w.heap.size L ∧ Below w.heap.size w W3 ∧ W3.heap[w3.heap.size]? = some (.cells #[.int .i64 A, .int .i64 B, .int .i64 C] 41 (0, 0))) := by
        have hw3 := HMr.out.2.trans hb3
        rw [← hW3]
        exact ⟨hp3.alloc HG.out _, hw3.trans ((bel1 w3 _).mono hw3.size), heap_alloc_new _ _⟩
      clear hp3 hb3 HMr
      go_wp2_with fail
      clear hW3
      generalize w3.heap.size = p at HM3 ⊢
      refine (HCM.out _ W3 HM3.out.1.swap HM3.out.2.1.size).mono ?_
      rintro e w4 ⟨rfl, hp4, hb4, ha4⟩
      obtain ⟨W4, hW4⟩ : ∃ W4, w4.alloc (.cells #[.int .i64 A, .int .i64 B, .int .i64 C] 41) = W4 := ⟨_, rfl⟩
      have HM4 : Hid (P3 PF (fun q => (False ∨ q = p) ∨ q = w4.heap.size) U M W4 T w.heap.size L ∧ Below w.heap.size w W4 ∧ W4.heap[p]? = some (.cells #[.int .i64 A, .int .i64 B, .int .i64 C] 41 (0, 0)) ∧ W4.heap[w4.heap.size]? = some (.cells #[.int .i64 A, .int .i64 B, .int .i64 C] 41 (0, 0))) := by
        have hw4 := HM3.out.2.1.trans hb4
        have h4 := (ha4 p (.inr rfl)).trans HM3.out.2.2
        rw [← hW4]
        exact ⟨(hp4.alloc HG.out _).swap, hw4.trans ((bel1 w4 _).mono hw4.size), (Below.heap_alloc _ _ _ (Array.getElem?_eq_some_iff.1 h4).1).trans h4, heap_alloc_new _ _⟩
      clear hp4 hb4 ha4 HM3
      go_wp2_with fail
      clear hW4
      generalize w4.heap.size = q at HM4 ⊢
      refine (HTN.out _ W4 HM4.out.1 HM4.out.2.1.size).mono ?_
      rintro e w5 ⟨rfl, hp5, hb5, ha5⟩
      have HM5 : Hid (P3 PF (fun r => (False ∨ r = p) ∨ r = q) T L' w5 U w.heap.size M ∧ Below w.heap.size w w5 ∧ w5.heap[p]? = some (.cells #[.int .i64 A, .int .i64 B, .int .i64 C] 41 (0, 0)) ∧ w5.heap[q]? = some (.cells #[.int .i64 A, .int .i64 B, .int .i64 C] 41 (0, 0))) := ⟨hp5.swap, HM4.out.2.1.trans hb5, (ha5 p (.inl (.inr rfl))).trans HM4.out.2.2.1, (ha5 q (.inr rfl)).trans HM4.out.2.2.2⟩
      clear hp5 hb5 ha5 HM4
      go_wp2_with fail
      refine (HTU.out _ w5 HM5.out.1 HM5.out.2.1.size).mono ?_
      rintro e w6 ⟨rfl, hb6, ha6⟩
      have h6p := (ha6 p (.inl (.inr rfl))).trans HM5.out.2.2.1
      have h6q := (ha6 q (.inr rfl)).trans HM5.out.2.2.2
      have HM6 : Hid (Below w.heap.size w w6) := HM5.out.2.1.trans hb6
      have y0 : w6.cell? ⟨p, 0, none⟩ = some (.int .i64 A) := by rw [cell_of_row _ _ _ _ _ _ h6p]; rfl
      have y1 : w6.cell? ⟨p, 1, none⟩ = some (.int .i64 B) := by rw [cell_of_row _ _ _ _ _ _ h6p]; rfl
      have y2 : w6.cell? ⟨p, 2, none⟩ = some (.int .i64 C) := by rw [cell_of_row _ _ _ _ _ _ h6p]; rfl
      have z0 : w6.cell? ⟨q, 0, none⟩ = some (.int .i64 A) := by rw [cell_of_row _ _ _ _ _ _ h6q]; rfl
      have z1 : w6.cell? ⟨q, 1, none⟩ = some (.int .i64 B) := by rw [cell_of_row _ _ _ _ _ _ h6q]; rfl
      have z2 : w6.cell? ⟨q, 2, none⟩ = some (.int .i64 C) := by rw [cell_of_row _ _ _ _ _ _ h6q]; rfl
      have heq := HEQ.out w6
      clear hb6 ha6 HM5 h6p h6q
      go_wp2_with (go_at_call 10; refine (known_any HG.out.oneN _).mono ?_; rintro e w7 ⟨rfl, hb7⟩)
      go_ret
      exact ⟨rfl, HM6.out.trans (hb7.mono HM6.out.size)⟩
end Go.Proofs.Ytpobfcmbbabchaa
