/- A table behind calls. -/
import Derived.Test.YtpobfcmbbabchaaL6
namespace Go.Proofs.Ytpobfcmbbabchaa
open Go.RowKit
set_option linter.unusedVariables false
set_option linter.unusedSimpArgs false

variable {PT : World → Nat → Nat → List Bk → Prop} {bad : TypeId → Bool}
/-- A script as it lies. -/
structure OpsAt (W : World) (sa : Option Addr) (len cap : Nat) (os : List OpI) : Prop where
  n : os.length = len
  c : len ≤ cap
  l : ∀ (i : Nat) (o : OpI), os[i]? = some o → ∃ b off, sa = some ⟨b, off, none⟩ ∧ b < W.heap.size ∧ W.cell? ⟨b, off + i * 6, none⟩ = some (.int .i64 o.kind) ∧ W.cell? ⟨b, off + i * 6 + 1, none⟩ = some (.string (tx o.nm)) ∧ W.cell? ⟨b, off + i * 6 + 2, none⟩ = some (.int .i64 o.rate) ∧ W.cell? ⟨b, off + i * 6 + 3, none⟩ = some (.int .i64 o.burst) ∧ W.cell? ⟨b, off + i * 6 + 4, none⟩ = some (.int .i64 o.cost) ∧ W.cell? ⟨b, off + i * 6 + 5, none⟩ = some (.int .i64 o.now)
theorem OpsAt.later {W W' : World} {sa : Option Addr} {len cap B : Nat} {os : List OpI} (h : OpsAt W sa len cap os) (hb : Below B W W') (hB : W.heap.size ≤ B) : OpsAt W' sa len cap os := by
  refine ⟨h.n, h.c, fun i o ho => ?_⟩
  obtain ⟨b, off, e, hlt, h0, h1, h2, h3, h4, h5⟩ := h.l i o ho
  have hc : ∀ j, W'.cell? ⟨b, j, none⟩ = W.cell? ⟨b, j, none⟩ := fun j => hb.cell (p := ⟨b, j, none⟩) (by show b < B; omega)
  exact ⟨b, off, e, by have := hb.size; omega, (hc _).trans h0, (hc _).trans h1, (hc _).trans h2, (hc _).trans h3, (hc _).trans h4, (hc _).trans h5⟩
theorem Mid.rebase {T R base : Nat} {lt lr : List Bk} {w0 w : World} (h : Mid PT bad T R base lt lr w0 w) : Mid PT bad T R base lt lr w w := ⟨h.pt, h.rt, Below.refl _ _, Kx.refl _ _, h.bs⟩
theorem Mid.join {T R base : Nat} {lt lr lt' lr' : List Bk} {w0 w w' : World} (h : Mid PT bad T R base lt lr w0 w) (k : Mid PT bad T R base lt' lr' w w') : Mid PT bad T R base lt' lr' w0 w' := ⟨k.pt, k.rt, h.bel.trans k.bel, h.kx.trans k.kx, k.bs⟩
theorem Mid.slice {T R base : Nat} {lt lr : List Bk} {w0 w : World} (h : Mid PT bad T R base lt lr w0 w) : ∃ a c, w.cell? ⟨R, 0, none⟩ = some (.slice a lr.length c) := by
  obtain ⟨sv, hsv⟩ := h.rt
  obtain ⟨a, c, e⟩ := own_slice hsv.row
  exact ⟨a, c, by rw [cell_of_row _ _ _ _ _ _ hsv.tab, e]; rfl⟩
/-- A table behind the first calls of a script. -/
def runT (os : List OpI) : Nat → List Bk
  | 0 => []
  | k + 1 => match os[k]? with | some o => stepT (runT os k) o | none => runT os k
theorem runT_ok (os : List OpI) : ∀ k : Nat, Tok (k : Int) (runT os k)
  | 0 => Tok.nil _
  | k + 1 => by
    have h := runT_ok os k
    unfold runT
    cases hx : os[k]? with
    | none => exact h.more (by omega)
    | some o =>
      have := step_ok (N := (k : Int)) (by omega) h o
      simp only
      rwa [show ((k + 1 : Nat) : Int) = (k : Int) + 1 by omega]
theorem runT_next {os : List OpI} {k : Nat} {o : OpI} (h : os[k]? = some o) : runT os (k + 1) = stepT (runT os k) o := by
  rw [runT, h]
theorem results_three {P : Program} {fn : Func} {p q r : Tmp} (h : fn.results = #[.tmp p, .tmp q, .tmp r]) (tmps : Array Value) (w : World) (u v x : Value)
    (hp : tmps.getD p undef = u) (hq : tmps.getD q undef = v) (hr : tmps.getD r undef = x) : (results fn tmps).run P w = .ok (.tuple #[u, v, x]) w := by
  have hp' : tmps[p]?.getD undef = u := by simpa using hp
  have hq' : tmps[q]?.getD undef = v := by simpa using hq
  have hr' : tmps[r]?.getD undef = x := by simpa using hr
  simp [results, h, hp', hq', hr']
/-- The fixed question. -/
def askO (nm : List UInt8) : OpI := ⟨9, nm, 0, 0, 0, 0⟩
theorem stepT_ask (l : List Bk) (nm : List UInt8) : stepT l (askO nm) = l := rfl
set_option maxRecDepth 20000 in
set_option maxHeartbeats 4000000 in
theorem played_any (G : PrgN PT bad) (sa : Option Addr) (len cap : Nat) (os : List OpI) (w : World) (h : OpsAt w sa len cap os) (hl : (len : Int) ≤ 140737488351232) :
    Calls Try.prog 9 #[.slice sa len cap] w fun e w' => ∃ T R, e = .returned (.tuple #[.pointer (some ⟨T, 0, none⟩), .pointer (some ⟨R, 0, none⟩), .bool true]) ∧ Mid PT bad T R w.heap.size (runT os (min len 200)) (runT os (min len 200)) w w' := by
  have HN : Hid (PrgN PT bad) := G
  have HG : Hid (Prg PT bad) := G.prg
  have HO : Hid (OpsAt w sa len cap os) := h
  have hcap : (len : Int) ≤ (cap : Int) := by have := h.c; omega
  clear G h
  go_enter Try.func9, Try.ntmps9
  go_wp2_with fail
  refine (HN.out.new w).mono ?_
  rintro e w1 ⟨T, rfl, hp1, hb1⟩
  go_wp2_with fail
  obtain ⟨W, hW⟩ : ∃ W, w1.alloc (.cells #[.slice none 0 0] 39) = W := ⟨_, rfl⟩
  have HM : Hid (Mid PT bad T w1.heap.size w.heap.size [] [] w W) := by
    have hbW : Below w1.heap.size w1 W := by rw [← hW]; exact bel1 _ _
    refine ⟨HG.out.later hp1 hbW (Nat.le_refl _), ⟨.slice none 0 0, ⟨by rw [← hW]; exact heap_alloc_new _ _, World.ownsRow_nil _ _ _ _, hb1.size⟩⟩, hb1.trans (hbW.mono hb1.size), Kx.of (hb1.trans (hbW.mono hb1.size)) (Nat.le_refl _), ?_⟩
    have := hb1.size
    have := hbW.size
    omega
  rw [hW]
  clear hW hp1 hb1
  generalize w1.heap.size = R at HM ⊢
  go_loopw [7] (fun v wr => ∃ k : Nat, k ≤ len ∧ k ≤ 200 ∧ v = .int .i64 k ∧ Mid PT bad T R w.heap.size (runT os k) (runT os k) w wr) (fun v wr => len - (intOf v).toNat)
  case atStart => exact ⟨0, by omega, by omega, rfl, HM.out⟩
  case round =>
    obtain ⟨k, hk1, hk2, rfl, hM⟩ := hrel
    have HMr : Hid (Mid PT bad T R w.heap.size (runT os k) (runT os k) w wr) := hM
    clear hM
    by_cases c1 : k < len
    · have c1' : (k : Int) < (len : Int) := by omega
      by_cases c2 : k < 200
      · have c2' : (k : Int) < 200 := by omega
        obtain ⟨o, ho⟩ : ∃ o, os[k]? = some o := ⟨_, List.getElem?_eq_getElem (by have := HO.out.n; omega)⟩
        have HOK : Hid (os[k]? = some o) := ho
        obtain ⟨b, off, hsa, hlt, h0, h1, h2, h3, h4, h5⟩ := (HO.out.later HMr.out.bel (Nat.le_refl _)).l k o ho
        subst hsa
        clear ho hk1 hk2
        obtain ⟨L, hL⟩ : ∃ L, stepT (runT os k) o = L := ⟨_, rfl⟩
        have HL : Hid (runT os (k + 1) = L) := (runT_next HOK.out).trans hL
        have HTL : Hid (Tok ((k : Int) + 1) L) := by rw [← hL]; exact step_ok (by omega) (runT_ok os k) o
        have HS1 : Hid (∀ V, Mid PT bad T R w.heap.size (runT os k) (runT os k) w V → Calls Try.prog 13 #[.pointer (some ⟨T, 0, none⟩), .pointer (some ⟨R, 0, none⟩), .agg #[.int .i64 o.kind, .string (tx o.nm), .int .i64 o.rate, .int .i64 o.burst, .int .i64 o.cost, .int .i64 o.now]] V fun e w' => e = .returned (.bool true) ∧ (∃ a c, w'.cell? ⟨R, 0, none⟩ = some (.slice a L.length c)) ∧ Mid PT bad T R w.heap.size L L w w' ∧ Kx (badB bad) V w') := fun V hV => by
          refine (step_any HG.out (k : Int) T R w.heap.size _ _ o V V hV.rebase (runT_ok os k) (runT_ok os k) (by omega)).mono fun e w' ⟨h1, h2⟩ => ?_
          rw [stepB_same] at h1
          rw [hL] at h2
          exact ⟨h1, h2.slice, hV.join h2, h2.kx⟩
        have HS2 : Hid (∀ V, Mid PT bad T R w.heap.size L L w V → Calls Try.prog 13 #[.pointer (some ⟨T, 0, none⟩), .pointer (some ⟨R, 0, none⟩), .agg #[.int .i64 9, .string (tx o.nm), .int .i64 0, .int .i64 0, .int .i64 0, .int .i64 0]] V fun e w' => e = .returned (.bool true) ∧ Mid PT bad T R w.heap.size L L w w') := fun V hV => by
          refine (step_any HG.out ((k : Int) + 1) T R w.heap.size _ _ (askO o.nm) V V hV.rebase HTL.out HTL.out (by omega)).mono fun e w' ⟨h1, h2⟩ => ?_
          rw [stepB_same] at h1
          rw [stepT_ask] at h2
          exact ⟨h1, hV.join h2⟩
        have HLN : Hid (∀ V, Mid PT bad T R w.heap.size L L w V → Calls Try.prog 21 #[.pointer (some ⟨T, 0, none⟩)] V fun e w' => e = .returned (.int .i64 (L.length : Int)) ∧ w'.cell? ⟨R, 0, none⟩ = V.cell? ⟨R, 0, none⟩ ∧ Mid PT bad T R w.heap.size L L w w' ∧ Kx (badB bad) V w') := fun V hV => by
          refine (HG.out.len ((k : Int) + 1) T w.heap.size L V hV.pt HTL.out (by omega) hV.bs).mono fun e w' ⟨h1, h2, h3, h4⟩ => ?_
          obtain ⟨sv, hsv⟩ := hV.rt
          exact ⟨h1, by rw [cell_of_row _ _ _ _ _ _ (h4.row hsv.tab HG.out.b39), cell_of_row _ _ _ _ _ _ hsv.tab], hV.prog HG.out h2 h3 h4, h4.mono badB_l⟩
        have H32 : Hid (badB bad 32 = false) := by show _ = _; unfold badB; rw [HG.out.b32]; rfl
        have hLl : (L.length : Int) ≤ 16 := by have := HTL.out.len; omega
        clear hL HTL
        go_wp2_with fail
        obtain ⟨W5, hW5⟩ : ∃ W5, wr.alloc (.cells #[.int .i64 o.kind, .string (tx o.nm), .int .i64 o.rate, .int .i64 o.burst, .int .i64 o.cost, .int .i64 o.now] 32) = W5 := ⟨_, rfl⟩
        have HP : Hid (W5.heap[wr.heap.size]? = some (.cells #[.int .i64 o.kind, .string (tx o.nm), .int .i64 o.rate, .int .i64 o.burst, .int .i64 o.cost, .int .i64 o.now] 32 (0, 0))) := by show _ = _; rw [← hW5]; exact heap_alloc_new _ _
        have HM5 : Hid (Mid PT bad T R w.heap.size (runT os k) (runT os k) w W5) := by rw [← hW5]; exact HMr.out.later HG.out (bel1 wr _) (Nat.le_refl _)
        rw [hW5]
        clear hW5 HMr h0 h1 h2 h3 h4 h5 hlt
        generalize wr.heap.size = p at HP ⊢
        have HCW : Hid (∀ V, Kx (badB bad) W5 V → V.cell? ⟨p, 1, none⟩ = some (.string (tx o.nm))) := fun V hV => by rw [cell_of_row _ _ _ _ _ _ (hV.row HP.out H32.out)]; rfl
        have y0 : W5.cell? ⟨p, 0, none⟩ = some (.int .i64 o.kind) := by rw [cell_of_row _ _ _ _ _ _ HP.out]; rfl
        have y1 : W5.cell? ⟨p, 1, none⟩ = some (.string (tx o.nm)) := by rw [cell_of_row _ _ _ _ _ _ HP.out]; rfl
        have y2 : W5.cell? ⟨p, 2, none⟩ = some (.int .i64 o.rate) := by rw [cell_of_row _ _ _ _ _ _ HP.out]; rfl
        have y3 : W5.cell? ⟨p, 3, none⟩ = some (.int .i64 o.burst) := by rw [cell_of_row _ _ _ _ _ _ HP.out]; rfl
        have y4 : W5.cell? ⟨p, 4, none⟩ = some (.int .i64 o.cost) := by rw [cell_of_row _ _ _ _ _ _ HP.out]; rfl
        have y5 : W5.cell? ⟨p, 5, none⟩ = some (.int .i64 o.now) := by rw [cell_of_row _ _ _ _ _ _ HP.out]; rfl
        go_region_with (first | (go_at_call 13; refine (HS1.out _ (HM5.out.drew (G := HG.out))).mono ?_; rintro e w8 ⟨rfl, ⟨a8, c8, hc8⟩, hm8, hk8⟩; (have HM8 : Hid (Mid PT bad T R w.heap.size L L w w8) := hm8); (have HK8 : Hid (Kx (badB bad) W5 w8) := hk8); (have K8 := HCW.out w8 hk8); clear hm8 hk8 HS1) | (go_at_call 21; refine (HLN.out _ HM8.out).mono ?_; rintro e w9 ⟨rfl, hc9, hm9, hk9⟩; (rw [hc8] at hc9); (have HM9 : Hid (Mid PT bad T R w.heap.size L L w w9) := hm9); (have K9 := HCW.out w9 (HK8.out.trans hk9)); clear hm9 hk9 HLN) | (go_at_call 13; refine (HS2.out _ HM9.out).mono ?_; rintro e w10 ⟨rfl, hm10⟩; (have HM10 : Hid (Mid PT bad T R w.heap.size L L w w10) := hm10); clear hm10 HS2))
        all_goals
          clear hc8 K8 hc9 K9 y0 y1 y2 y3 y4 y5
          go_wp2_with fail
          go_roundw
          case rel => exact ⟨k + 1, by omega, by omega, by go_num, by rw [HL.out]; exact HM10.out⟩
          case measure => simp [intOf]; omega
      · have c2' : ¬ ((k : Int) < 200) := by omega
        have hmin : min len 200 = k := by omega
        have HMk : Hid (Mid PT bad T R w.heap.size (runT os (min len 200)) (runT os (min len 200)) w wr) := by rw [hmin]; exact HMr.out
        clear c2 hmin hk1 hk2 c1 HMr
        go_wp2_with fail
        refine bodyPost_ret (v := .tuple #[.pointer (some ⟨T, 0, none⟩), .pointer (some ⟨R, 0, none⟩), .bool true]) (results_three Try.results9 _ _ _ _ _ rfl rfl rfl) rfl ⟨T, R, rfl, HMk.out⟩
    · have c1' : ¬ ((k : Int) < (len : Int)) := by omega
      have hmin : min len 200 = k := by omega
      have HMk : Hid (Mid PT bad T R w.heap.size (runT os (min len 200)) (runT os (min len 200)) w wr) := by rw [hmin]; exact HMr.out
      clear hmin hk1 hk2 c1 HMr
      go_wp2_with fail
      refine bodyPost_ret (v := .tuple #[.pointer (some ⟨T, 0, none⟩), .pointer (some ⟨R, 0, none⟩), .bool true]) (results_three Try.results9 _ _ _ _ _ rfl rfl rfl) rfl ⟨T, R, rfl, HMk.out⟩
end Go.Proofs.Ytpobfcmbbabchaa
