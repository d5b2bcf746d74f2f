import Derived.Test.YtmlbojihjgbdlaaM14
import Derived.Test.YtmlbojihjgbdlaaM11
import Derived.Test.YtmlbojihjgbdlaaM07
import Derived.BigQuiet
import Derived.Test.YtmlbojihjgbdlaaM13
import Derived.Test.YtmlbojihjgbdlaaM12
/- The model's Copy, walked. -/
namespace Go.Proofs.Ytmlbojihjgbdlaa.D
open Go.RowKit
set_option linter.unusedVariables false
set_option linter.unusedSimpArgs false

variable {w w' w2 wx : World} {R u : Nat} {lv lv' : Value} {m m' : List Mt} {sy : Int} {G : Nat → Prop} {dl : List Fd}
set_option maxRecDepth 20000 in
set_option maxHeartbeats 8000000 in
theorem rcopy_any (h : MR w R G sy dl) (hl : dl.length ≤ 1000000) (hx : ∀ x ∈ dl, x.b.length ≤ 2000000 ∧ x.ws.length ≤ 2000000) : Calls Try.prog 21 #[.pointer (some ⟨R, 0, none⟩)] w fun e w' => e = .returned (.pointer (some ⟨w.heap.size, 0, none⟩)) ∧ ∃ G2, MR w' w.heap.size G2 sy dl ∧ (∀ q, G2 q → w.heap.size ≤ q) ∧ Below w.heap.size w w' := by
  obtain ⟨lv, m, hms, hxs, -⟩ := h
  have HMS : Hid (MS w R lv m sy ∧ xsM m = dl ∧ ∀ x ∈ dl, x.b.length ≤ 2000000 ∧ x.ws.length ≤ 2000000) := ⟨hms, hxs, hx⟩
  obtain ⟨M, hM⟩ : ∃ M, m.length = M := ⟨_, rfl⟩
  have hml : dl.length = M := by rw [← hxs, xsM_len, hM]
  have HN : Hid (m.length = M ∧ dl.length = M ∧ M ≤ 1000000) := ⟨hM, hml, by omega⟩
  have hMi : (M : Int) ≤ 1000000 := by omega
  obtain ⟨la, lc, hlv⟩ := own_slice hms.row
  have c1 := hms.cells.2.1
  obtain ⟨W1, hW1⟩ : ∃ W1, w.alloc (.cells #[.slice none 0 0, .int .i64 sy] 29) = W1 := ⟨_, rfl⟩
  obtain ⟨U, hU⟩ : ∃ U, w.heap.size = U := ⟨_, rfl⟩
  have HU : Hid (w.heap.size = U) := hU
  have hbx : W1.heap[U]? = some (.cells #[.slice none 0 0, .int .i64 sy] 29 (0, 0)) := by rw [← hW1, ← hU]; exact Go.heap_alloc_new _ _
  have H1 : Hid (CpM w W1 U sy (dl.take 0)) := by
    refine ⟨⟨.slice none 0 0, [], ⟨hbx, World.ownsRow_nil _ _ _ _, (fun t ht => nomatch ht), List.Pairwise.nil⟩, rfl, ?_⟩, by rw [← hW1]; exact bel1 _ _⟩
    rintro q (hq | hq | ⟨t, ht, hq⟩)
    · omega
    · cases hq
    · cases ht
  have HSL : Hid (∀ V, Below w.heap.size w V → V.cell? ⟨R, 0, none⟩ = some (.slice la M lc)) := fun V hV => by
    have := hms.cells.1
    rw [hlv, hM] at this
    exact (hV.cell (World.block_lt_of_cell? _ _ this)).trans this
  have HSRC : Hid (∀ (i : Nat) (t : Mt), m[i]? = some t → ∃ g, la = some ⟨g, 0, none⟩ ∧ (M : Int) ≤ (lc : Int) ∧ ∀ V, Below w.heap.size w V → V.cell? ⟨g, i * 4, none⟩ = some (.string (tx t.x.nm)) ∧ V.cell? ⟨g, i * 4 + 1, none⟩ = some (.slice t.da t.x.b.length t.dc) ∧ V.cell? ⟨g, i * 4 + 2, none⟩ = some (.int .i64 (safeN t.x.b t.x.ws)) ∧ V.cell? ⟨g, i * 4 + 3, none⟩ = some (.slice t.ba t.x.ws.length t.bc) ∧ ML V t) := fun i t ht => by
    obtain ⟨g, gc, e, q1, q2, q3, e0, e1, e2, e3, -⟩ := hms.openK ht
    have hla : la = some ⟨g, 0, none⟩ ∧ lc = gc := by
      rw [hlv] at e
      injection e with h1 h2 h3
      exact ⟨h1, h3⟩
    refine ⟨g, hla.1, by rw [hla.2, ← hM]; exact q1, fun V hV => ?_⟩
    have k : ∀ (j : Nat) (v : Value), w.cell? ⟨g, j, none⟩ = some v → V.cell? ⟨g, j, none⟩ = some v := fun j v hv => (hV.cell (World.block_lt_of_cell? _ _ hv)).trans hv
    exact ⟨k _ _ e0, k _ _ e1, k _ _ e2, k _ _ e3, (hms.ml t (List.mem_of_getElem? ht)).at' fun q hq => hV.block q ((hms.ml t (List.mem_of_getElem? ht)).lt q hq)⟩
  have HW1 : Hid (w.alloc (.cells #[.slice none 0 0, .int .i64 sy] 29) = W1) := hW1
  have f1 : W1.cell? ⟨U, 0, none⟩ = some (.slice none 0 0) := by rw [cell_of_row _ _ _ _ _ _ hbx]; rfl
  clear hms hxs hx hl hM hml hlv hbx hW1
  rw [hU]
  go_enter Try.func21, Try.ntmps21
  go_upto_region 2 with (fail)
  rw [HW1.out]
  clear HW1 hU c1 f1
  go_wp2_with fail
  go_loopw [4] (fun b wx => ∃ i : Nat, b = .int .i64 (i : Int) ∧ i ≤ M ∧ Hid (CpM w wx U sy (dl.take i))) (fun b wx => M - (intOf b).toNat)
  case atStart => exact ⟨0, rfl, Nat.zero_le _, H1⟩
  case round =>
    obtain ⟨i, rfl, hi, HI⟩ := hrel
    have c0 := HSL.out wr HI.out.be
    by_cases ci : i < M
    · -- <STEP>
      have ci' : (i : Int) < (M : Int) := by omega
      obtain ⟨t, ht⟩ : ∃ t, m[i]? = some t := ⟨_, List.getElem?_eq_getElem (by have := HN.out.1; omega)⟩
      have HT : Hid (m[i]? = some t) := ht
      obtain ⟨g, hla, hcap, HV⟩ := HSRC.out i t ht
      have HV : Hid (∀ V, Below w.heap.size w V → V.cell? ⟨g, i * 4, none⟩ = some (.string (tx t.x.nm)) ∧ V.cell? ⟨g, i * 4 + 1, none⟩ = some (.slice t.da t.x.b.length t.dc) ∧ V.cell? ⟨g, i * 4 + 2, none⟩ = some (.int .i64 (safeN t.x.b t.x.ws)) ∧ V.cell? ⟨g, i * 4 + 3, none⟩ = some (.slice t.ba t.x.ws.length t.bc) ∧ ML V t) := HV
      subst hla
      have hi0 : (0 : Int) ≤ (i : Int) := by omega
      obtain ⟨e0, e1, e2, e3, e4⟩ := HV.out wr HI.out.be
      have HCI : Hid (i < M) := ci
      have HBA : Hid (∀ o, Below w.heap.size w (wr.alloc o)) := fun o => HI.out.be.alloc HI.out.be.size o
      have a0 := HSL.out _ (HBA.out (.cells #[.string ⟨#[]⟩, .slice none 0 0, .int .i64 0, .slice none 0 0] 43))
      obtain ⟨a1, -, a2, -, -⟩ := HV.out _ (HBA.out (.cells #[.string ⟨#[]⟩, .slice none 0 0, .int .i64 0, .slice none 0 0] 43))
      clear ht e1 e3 e4 ci hi
      go_upto_region 5 with (fail)
      go_region
      obtain ⟨p, hp⟩ : ∃ p, wr.heap.size = p := ⟨_, rfl⟩
      obtain ⟨W5, hW5⟩ : ∃ W5, (wr.alloc (.cells #[.string (tx t.x.nm), .slice none 0 0, .int .i64 (safeN t.x.b t.x.ws), .slice none 0 0] 43)).drew = W5 := ⟨_, rfl⟩
      have HP : Hid (wr.heap.size = p) := hp
      have P5 : Hid (W5.heap[p]? = some (.cells #[.string (tx t.x.nm), .slice none 0 0, .int .i64 (safeN t.x.b t.x.ws), .slice none 0 0] 43 (0, 0)) ∧ Below wr.heap.size wr W5 ∧ W5.heap.size = p + 1) := by
        show _ ∧ _
        rw [← hW5, ← hp]
        exact ⟨Go.heap_alloc_new _ _, (bel1 wr _).drew, by simp⟩
      have HBW : Hid (∀ V, Below wr.heap.size wr V → Below w.heap.size w V) := fun V hV => HI.out.be.trans (hV.mono HI.out.be.size)
      have htx : t.x.b.length ≤ 2000000 ∧ t.x.ws.length ≤ 2000000 := HMS.out.2.2 t.x (by rw [← HMS.out.2.1]; exact List.mem_of_getElem? (xsM_at HT.out))
      rw [hW5, hp]
      clear hW5 hp a0 a1 a2
      -- region 6
      obtain ⟨v6, w6, r6, o6, b6⟩ := app_bytes (V := W5.drew) (sv := .slice t.da t.x.b.length t.dc) ((HV.out W5.drew (HBW.out _ P5.out.2.1.drew)).2.2.2.2.rd) htx.1 31
      obtain ⟨x6, y6, hv6⟩ := own_slice o6
      subst hv6
      have hp6 := (b6.block p (by have := P5.out.2.2; show p < W5.heap.size; omega)).trans P5.out.1
      have H6 : Hid (w6.ownsRow W5.heap.size 5 1 (.slice x6 t.x.b.length y6) t.x.b.length (u8l t.x.b) ∧ w6.heap[p]? = some (.cells #[.string (tx t.x.nm), .slice none 0 0, .int .i64 (safeN t.x.b t.x.ws), .slice none 0 0] 43 (0, 0)) ∧ Below wr.heap.size wr w6 ∧ W5.heap.size ≤ w6.heap.size) := ⟨o6, hp6, P5.out.2.1.drew.trans (b6.mono (by have := P5.out.2.2; have := HP.out; show wr.heap.size ≤ W5.heap.size; omega)), b6.size⟩
      have g0 : W5.drew.cell? ⟨p, 1, none⟩ = some (.slice none 0 0) := by rw [cell_of_row (w := W5.drew) _ _ _ _ _ P5.out.1]; rfl
      have g1 := HSL.out W5.drew (HBW.out _ P5.out.2.1.drew)
      have g2 := (HV.out W5.drew (HBW.out _ P5.out.2.1.drew)).2.1
      have g3 : w6.cell? ⟨p, 1, none⟩ = some (.slice none 0 0) := by rw [cell_of_row _ _ _ _ _ _ hp6]; rfl
      have g4 := frozen_of_row _ _ 1 _ _ hp6
      clear o6 b6 hp6
      go_upto_region 6 with (fail)
      go_cut [4] from 48 to 48 (fun b wx => b = .int .i64 (i : Int) ∧ Hid (wx = w6.setCell ⟨p, 1, none⟩ (.slice x6 t.x.b.length y6)))
      case first =>
        go_region_law (refine step_append_run rfl (.tmp 39) (.tmp 47) 31 rfl (.slice none 0 0) (.slice t.da t.x.b.length t.dc) _ _ (by simp [Act.eval, Act.put]) (by simp [Act.eval, Act.put]) r6 ?_)
        all_goals
          go_wp2_with fail
          go_meet
          exact ⟨rfl, rfl⟩
      obtain ⟨rfl, HC6⟩ := hcut
      rw [HC6.out]
      obtain ⟨W6, hW6⟩ : ∃ W6, w6.setCell ⟨p, 1, none⟩ (.slice x6 t.x.b.length y6) = W6 := ⟨_, rfl⟩
      have P6 : Hid (W6.heap[p]? = some (.cells #[.string (tx t.x.nm), .slice x6 t.x.b.length y6, .int .i64 (safeN t.x.b t.x.ws), .slice none 0 0] 43 (0, 0)) ∧ Below wr.heap.size wr W6 ∧ W6.heap.size = w6.heap.size ∧ ∀ q, q ≠ p → W6.heap[q]? = w6.heap[q]?) := by
        show _ ∧ _
        rw [← hW6]
        exact ⟨row_set (i := 1) _ H6.out.2.1, H6.out.2.2.1.setCell (p := ⟨p, 1, none⟩) (by have := HP.out; show wr.heap.size ≤ p; omega) _, by simp, fun q hq => Below.heap_setCell _ _ _ _ hq⟩
      rw [hW6]
      clear hW6 HC6 g0 g1 g2 g3 g4 r6
      -- region 7
      have hrw : W6.drew.ownsRow 0 3 1 (.slice t.ba t.x.ws.length t.bc) t.x.ws.length (t.x.ws.map iV) := (HV.out W6.drew (HBW.out _ P6.out.2.1.drew)).2.2.2.2.rw
      obtain ⟨v7, w7, r7, o7, b7⟩ := app_ints (V := W6.drew) (sv := .slice t.ba t.x.ws.length t.bc) hrw htx.2 41
      obtain ⟨x7, y7, hv7⟩ := own_slice o7
      subst hv7
      have hp7 := (b7.block p (Array.getElem?_eq_some_iff.1 P6.out.1).1).trans P6.out.1
      have H7 : Hid (w7.ownsRow W6.heap.size 3 1 (.slice x7 t.x.ws.length y7) t.x.ws.length (t.x.ws.map iV) ∧ w7.heap[p]? = some (.cells #[.string (tx t.x.nm), .slice x6 t.x.b.length y6, .int .i64 (safeN t.x.b t.x.ws), .slice none 0 0] 43 (0, 0)) ∧ Below W6.heap.size W6 w7 ∧ W6.heap.size ≤ w7.heap.size) := ⟨o7, hp7, (drew_below W6).trans b7, b7.size⟩
      have g0 : W6.drew.cell? ⟨p, 3, none⟩ = some (.slice none 0 0) := by rw [cell_of_row (w := W6.drew) _ _ _ _ _ P6.out.1]; rfl
      have g1 := HSL.out W6.drew (HBW.out _ P6.out.2.1.drew)
      have g2 := (HV.out W6.drew (HBW.out _ P6.out.2.1.drew)).2.2.2.1
      have g3 : w7.cell? ⟨p, 3, none⟩ = some (.slice none 0 0) := by rw [cell_of_row _ _ _ _ _ _ hp7]; rfl
      have g4 := frozen_of_row _ _ 3 _ _ hp7
      clear o7 b7 hp7 hrw
      go_upto_region 7 with (fail)
      go_cut [4] from 60 to 60 (fun b wx => b = .int .i64 (i : Int) ∧ Hid (wx = w7.setCell ⟨p, 3, none⟩ (.slice x7 t.x.ws.length y7)))
      case first =>
        go_region_law (refine step_append_run rfl (.tmp 51) (.tmp 59) 41 rfl (.slice none 0 0) (.slice t.ba t.x.ws.length t.bc) _ _ (by simp [Act.eval, Act.put]) (by simp [Act.eval, Act.put]) r7 ?_)
        all_goals
          go_wp2_with fail
          go_meet
          exact ⟨rfl, rfl⟩
      obtain ⟨rfl, HC7⟩ := hcut
      rw [HC7.out]
      obtain ⟨W7, hW7⟩ : ∃ W7, w7.setCell ⟨p, 3, none⟩ (.slice x7 t.x.ws.length y7) = W7 := ⟨_, rfl⟩
      have P7 : Hid (W7.heap[p]? = some (.cells #[.string (tx t.x.nm), .slice x6 t.x.b.length y6, .int .i64 (safeN t.x.b t.x.ws), .slice x7 t.x.ws.length y7] 43 (0, 0)) ∧ Below wr.heap.size wr W7 ∧ W7.heap.size = w7.heap.size ∧ ∀ q, q ≠ p → W7.heap[q]? = w7.heap[q]?) := by
        show _ ∧ _
        rw [← hW7]
        refine ⟨row_set (i := 3) _ H7.out.2.1, (P6.out.2.1.trans (H7.out.2.2.1.mono P6.out.2.1.size)).setCell (p := ⟨p, 3, none⟩) (by have := HP.out; show wr.heap.size ≤ p; omega) _, by simp, fun q hq => Below.heap_setCell _ _ _ _ hq⟩
      rw [hW7]
      clear hW7 HC7 g0 g1 g2 g3 g4 r7
      -- region 8
      obtain ⟨lv1, m1, hms1, hxs1, hG1⟩ := HI.out.ex
      obtain ⟨W8, hW8⟩ : ∃ W8, W7.drew.alloc (.cells #[.string (tx t.x.nm), .slice x6 t.x.b.length y6, .int .i64 (safeN t.x.b t.x.ws), .slice x7 t.x.ws.length y7] 43) = W8 := ⟨_, rfl⟩
      have hb8 : Below wr.heap.size wr W8 := by rw [← hW8]; exact P7.out.2.1.drew.alloc (by have := P7.out.2.1.size; exact this) _
      have hn8 : W8.heap[W7.drew.heap.size]? = some (.cells (mt4 ⟨t.x, x6, y6, x7, y7⟩).toArray 43 (0, 0)) := by rw [← hW8]; exact Go.heap_alloc_new _ _
      have hm1 : m1.length = i := by rw [← xsM_len, hxs1, List.length_take]; have := HN.out.2.1; have := HCI.out; omega
      obtain ⟨lv8, w8, r8, o8, k8, j8⟩ := app_file (x := ⟨t.x, x6, y6, x7, y7⟩) hms1 hb8 (by have := HN.out.2.2; have := HCI.out; omega) hn8 27
      obtain ⟨la1, lc1, hlv1⟩ := own_slice hms1.row
      obtain ⟨la8, lc8, hlv8⟩ := own_slice o8
      rw [hm1] at hlv1 o8 hlv8
      subst hlv1 hlv8
      have HW8 : Hid (W7.drew.alloc (.cells #[.string (tx t.x.nm), .slice x6 t.x.b.length y6, .int .i64 (safeN t.x.b t.x.ws), .slice x7 t.x.ws.length y7] 43) = W8) := hW8
      have HML8 : Hid (ML W8 ⟨t.x, x6, y6, x7, y7⟩ ∧ ∀ q, GT ⟨t.x, x6, y6, x7, y7⟩ q → wr.heap.size ≤ q) := by
        have z5 := P5.out.2.2
        have z0 := HP.out
        have z6 := P6.out.2.2.1
        have z7 := P7.out.2.2.1
        have z8 := H7.out.2.2.2
        have z9 := H6.out.2.2.2
        have c7 : ∀ q, q < w7.heap.size → q ≠ p → W8.heap[q]? = w7.heap[q]? := fun q hq hn => by
          rw [← HW8.out]
          exact (Below.heap_alloc _ _ _ (by show q < W7.heap.size; omega)).trans (P7.out.2.2.2 q hn)
        refine ⟨⟨own_low (own_at H6.out.1 fun q hq => ?_) (Nat.zero_le _), own_low (own_at H7.out.1 fun q hq => ?_) (Nat.zero_le _)⟩, ?_⟩
        · have h1 := H6.out.1.lt q hq
          exact (c7 q (by omega) (by omega)).trans ((H7.out.2.2.1.block q (by omega)).trans (P6.out.2.2.2 q (by omega)))
        · have h1 := H7.out.1.lt q hq
          exact c7 q (by omega) (by omega)
        · rintro q (hq | hq)
          · have h1 := H6.out.1.lt q hq
            omega
          · have h1 := H7.out.1.lt q hq
            omega
      have HFIN : Hid (CpM w (w8.setCell ⟨U, 0, none⟩ (.slice la8 (i + 1) lc8)) U sy (dl.take (i + 1))) := by
        obtain ⟨n1, n2⟩ := hms1.app hb8 HML8.out.1 HML8.out.2 (by rw [hm1]; exact o8) k8 j8
        have hwr := HI.out.be.size
        refine ⟨⟨_, _, n1, ?_, fun q hq => (n2 q hq).elim (hG1 q) fun h => by omega⟩, ((HBW.out _ hb8).grown k8 (by have := hb8.size; omega) (fun q hq => hG1 q (.inr (.inl hq)))).setCell (p := ⟨U, 0, none⟩) (by have := HU.out; show w.heap.size ≤ U; omega) _⟩
        have e1 : xsM (m1 ++ [⟨t.x, x6, y6, x7, y7⟩]) = xsM m1 ++ [t.x] := by unfold xsM; rw [List.map_append]; rfl
        have e2 : dl[i]? = some t.x := by rw [← HMS.out.2.1]; exact xsM_at HT.out
        rw [e1, hxs1, (drop_at e2).2]
      have u0 := (hms1.newer (P7.out.2.1.drew)).cells.1
      have u1 := (hms1.newer hb8).cells.1
      have hub := (k8.block U ((hms1.newer hb8).lt U (.inl rfl)) (fun e => (hms1.ne.1 U e.symm) rfl)).trans (hms1.newer hb8).box
      have u2 : w8.cell? ⟨U, 0, none⟩ = some (.slice la1 i lc1) := by rw [cell_of_row _ _ _ _ _ _ hub]; rfl
      have u3 := frozen_of_row _ _ 0 _ _ hub
      have pc : ∀ j, W7.drew.cell? ⟨p, j, none⟩ = (#[Value.string (tx t.x.nm), .slice x6 t.x.b.length y6, .int .i64 (safeN t.x.b t.x.ws), .slice x7 t.x.ws.length y7])[j]? := fun j => cell_of_row (w := W7.drew) _ _ _ _ _ P7.out.1
      have q0 := pc 0
      have q1 := pc 1
      have q2 := pc 2
      have q3 := pc 3
      simp only [List.getElem?_toArray, List.getElem?_cons_zero, List.getElem?_cons_succ] at q0 q1 q2 q3
      clear o8 k8 j8 hms1 hxs1 hG1 hb8 hn8 hub pc
      have r8' : (Builtin.append_ #[27, 27] 27 #[.slice la1 i lc1, .slice (some ⟨W7.heap.size, 0, none⟩) 1 1]).run Try.prog W8 = .ok (.slice la8 (i + 1) lc8) w8 := r8
      clear r8
      go_upto_region 8 with (fail)
      go_region_law (refine step_append_run rfl (.tmp 66) (.tmp 68) 27 rfl (.slice la1 i lc1) (.slice (some ⟨W7.heap.size, 0, none⟩) 1 1) _ _ (by simp [Act.eval, Act.put]) (by simp [Act.eval, Act.put]) r8' ?_)
      all_goals
        clear u0 u1 u2 u3 q0 q1 q2 q3 r8' hW8 HW8
        go_wp2_with fail
        go_roundw
        case rel => exact ⟨i + 1, by go_num, by have := HCI.out; omega, HFIN⟩
        case measure => have := HCI.out; simp [intOf]; omega
    · -- <END>
      have hiM : i = M := by omega
      have e : dl.take i = dl := List.take_of_length_le (by have := HN.out.2.1; omega)
      rw [e] at HI
      have ci' : ¬ (i : Int) < (M : Int) := by omega
      clear hi hiM e ci
      go_wp2_with fail
      go_ret
      obtain ⟨⟨lv', m', h1, h2, h3⟩, h4⟩ := HI.out
      rw [← h2]
      exact ⟨rfl, _, h1.mr, fun q hq => by rw [← HU.out]; exact h3 q hq, by rw [← HU.out]; exact h4⟩
end Go.Proofs.Ytmlbojihjgbdlaa.D

/- The model's Same, walked. -/
namespace Go.Proofs.Ytmlbojihjgbdlaa.D
open Go.RowKit
set_option linter.unusedVariables false
set_option linter.unusedSimpArgs false

variable {w w' w2 wx : World} {R u : Nat} {lv lv' : Value} {m m' : List Mt} {sy : Int} {G : Nat → Prop} {dl : List Fd}
/-- What the model's disk holds, read from behind new memory. -/
theorem MR.src (h : MR w R G sy dl) : ∃ la lc, (∀ V, Below w.heap.size w V → V.cell? ⟨R, 0, none⟩ = some (.slice la dl.length lc)) ∧ ∀ (i : Nat) (x : Fd), dl[i]? = some x → ∃ g da dc ba bc, la = some ⟨g, 0, none⟩ ∧ (dl.length : Int) ≤ (lc : Int) ∧ ∀ V, Below w.heap.size w V → V.cell? ⟨g, i * 4, none⟩ = some (.string (tx x.nm)) ∧ V.cell? ⟨g, i * 4 + 1, none⟩ = some (.slice da x.b.length dc) ∧ V.cell? ⟨g, i * 4 + 2, none⟩ = some (.int .i64 (safeN x.b x.ws)) ∧ V.cell? ⟨g, i * 4 + 3, none⟩ = some (.slice ba x.ws.length bc) ∧ V.ownsRow 0 5 1 (.slice da x.b.length dc) x.b.length (u8l x.b) ∧ V.ownsRow 0 3 1 (.slice ba x.ws.length bc) x.ws.length (x.ws.map iV) := by
  obtain ⟨lv, m, hms, hxs, -⟩ := h
  have hl : m.length = dl.length := by rw [← hxs, xsM_len]
  obtain ⟨la, lc, hlv⟩ := own_slice hms.row
  rw [hl] at hlv
  refine ⟨la, lc, fun V hV => ?_, fun i x hx => ?_⟩
  · have := hms.cells.1
    rw [hlv] at this
    exact (hV.cell (World.block_lt_of_cell? _ _ this)).trans this
  · obtain ⟨t, ht⟩ : ∃ t, m[i]? = some t := ⟨_, List.getElem?_eq_getElem (by have := (List.getElem?_eq_some_iff.1 hx).1; omega)⟩
    have e := xsM_at ht
    rw [hxs, hx] at e
    obtain rfl : x = t.x := Option.some.inj e
    obtain ⟨g, gc, e, q1, q2, q3, e0, e1, e2, e3, -⟩ := hms.openK ht
    have hla : la = some ⟨g, 0, none⟩ ∧ lc = gc := by
      rw [hlv] at e
      injection e with h1 h2 h3
      exact ⟨h1, h3⟩
    refine ⟨g, t.da, t.dc, t.ba, t.bc, hla.1, by rw [hla.2, ← hl]; exact q1, fun V hV => ?_⟩
    have k : ∀ (j : Nat) (v : Value), w.cell? ⟨g, j, none⟩ = some v → V.cell? ⟨g, j, none⟩ = some v := fun j v hv => (hV.cell (World.block_lt_of_cell? _ _ hv)).trans hv
    have hml := (hms.ml t (List.mem_of_getElem? ht)).at' (w' := V) fun q hq => hV.block q ((hms.ml t (List.mem_of_getElem? ht)).lt q hq)
    exact ⟨k _ _ e0, k _ _ e1, k _ _ e2, k _ _ e3, hml.rd, hml.rw⟩
/-- The same files, in the same order. -/
def sameL : List Fd → List Fd → Bool
  | [], [] => true
  | x :: a, y :: b => (decide (x.nm = y.nm) && decide (x.b = y.b) && decide (x.ws = y.ws)) && sameL a b
  | [], _ :: _ => false
  | _ :: _, [] => false
theorem fd_ext {x y : Fd} (h1 : x.nm = y.nm) (h2 : x.b = y.b) (h3 : x.ws = y.ws) : x = y := by
  cases x
  cases y
  simp only at h1 h2 h3
  subst h1
  subst h2
  subst h3
  rfl
theorem sameL_iff : ∀ {a b : List Fd}, sameL a b = true ↔ a = b
  | [], [] => by simp [sameL]
  | x :: a, y :: b => by
    unfold sameL
    rw [Bool.and_eq_true, Bool.and_eq_true, Bool.and_eq_true, decide_eq_true_eq, decide_eq_true_eq, decide_eq_true_eq, sameL_iff, List.cons.injEq]
    refine ⟨fun h => ⟨fd_ext h.1.1.1 h.1.1.2 h.1.2, h.2⟩, fun h => ?_⟩
    rw [h.1]
    exact ⟨⟨⟨rfl, rfl⟩, rfl⟩, h.2⟩
  | [], y :: b => by simp [sameL]
  | x :: a, [] => by simp [sameL]
theorem sameL_no {a b : List Fd} (h : a ≠ b) : sameL a b = false := by
  cases hb : sameL a b with
  | false => rfl
  | true => exact absurd (sameL_iff.1 hb) h
theorem ne_at {d1 d2 : List Fd} {i : Nat} {x y : Fd} (hx : d1[i]? = some x) (hy : d2[i]? = some y) (h : x ≠ y) : sameL d1 d2 = false := by
  refine sameL_no fun e => h ?_
  rw [e, hy] at hx
  exact (Option.some.inj hx).symm
set_option maxRecDepth 20000 in
set_option maxHeartbeats 16000000 in
theorem rsame_any {R1 R2 : Nat} {s1 s2 : Int} {G1 G2 : Nat → Prop} {d1 d2 : List Fd} (h1 : MR w R1 G1 s1 d1) (h2 : MR w R2 G2 s2 d2) (l1 : d1.length ≤ 1000000) (l2 : d2.length ≤ 1000000) (hx1 : ∀ x ∈ d1, Byt x.b ∧ x.b.length ≤ 2000000 ∧ x.ws.length ≤ 2000000) (hx2 : ∀ x ∈ d2, Byt x.b ∧ x.b.length ≤ 2000000 ∧ x.ws.length ≤ 2000000) :
    Calls Try.prog 22 #[.pointer (some ⟨R1, 0, none⟩), .pointer (some ⟨R2, 0, none⟩)] w fun e w' => e = .returned (.bool (sameL d1 d2)) ∧ Below w.heap.size w w' := by
  obtain ⟨la, lc, A1, B1⟩ := h1.src
  obtain ⟨lb, ld, A2, B2⟩ := h2.src
  have HA1 : Hid (∀ V, Below w.heap.size w V → V.cell? ⟨R1, 0, none⟩ = some (.slice la d1.length lc)) := A1
  have HA2 : Hid (∀ V, Below w.heap.size w V → V.cell? ⟨R2, 0, none⟩ = some (.slice lb d2.length ld)) := A2
  have HX : Hid ((∀ x ∈ d1, Byt x.b ∧ x.b.length ≤ 2000000 ∧ x.ws.length ≤ 2000000) ∧ ∀ x ∈ d2, Byt x.b ∧ x.b.length ≤ 2000000 ∧ x.ws.length ≤ 2000000) := ⟨hx1, hx2⟩
  have c1 := A1 w (Below.refl _ _)
  have c2 := A2 w (Below.refl _ _)
  by_cases hn : d1.length = d2.length
  · -- <SAME>
    have HB1 : Hid (∀ (i : Nat) (x : Fd), d1[i]? = some x → ∃ g da dc ba bc, la = some ⟨g, 0, none⟩ ∧ (d1.length : Int) ≤ (lc : Int) ∧ ∀ V, Below w.heap.size w V → V.cell? ⟨g, i * 4, none⟩ = some (.string (tx x.nm)) ∧ V.cell? ⟨g, i * 4 + 1, none⟩ = some (.slice da x.b.length dc) ∧ V.cell? ⟨g, i * 4 + 2, none⟩ = some (.int .i64 (safeN x.b x.ws)) ∧ V.cell? ⟨g, i * 4 + 3, none⟩ = some (.slice ba x.ws.length bc) ∧ V.ownsRow 0 5 1 (.slice da x.b.length dc) x.b.length (u8l x.b) ∧ V.ownsRow 0 3 1 (.slice ba x.ws.length bc) x.ws.length (x.ws.map iV)) := B1
    have HB2 : Hid (∀ (i : Nat) (x : Fd), d2[i]? = some x → ∃ g da dc ba bc, lb = some ⟨g, 0, none⟩ ∧ (d2.length : Int) ≤ (ld : Int) ∧ ∀ V, Below w.heap.size w V → V.cell? ⟨g, i * 4, none⟩ = some (.string (tx x.nm)) ∧ V.cell? ⟨g, i * 4 + 1, none⟩ = some (.slice da x.b.length dc) ∧ V.cell? ⟨g, i * 4 + 2, none⟩ = some (.int .i64 (safeN x.b x.ws)) ∧ V.cell? ⟨g, i * 4 + 3, none⟩ = some (.slice ba x.ws.length bc) ∧ V.ownsRow 0 5 1 (.slice da x.b.length dc) x.b.length (u8l x.b) ∧ V.ownsRow 0 3 1 (.slice ba x.ws.length bc) x.ws.length (x.ws.map iV)) := B2
    obtain ⟨n, hnn⟩ : ∃ n, d1.length = n := ⟨_, rfl⟩
    have HN : Hid (d1.length = n ∧ d2.length = n ∧ n ≤ 1000000) := ⟨hnn, by omega, by omega⟩
    rw [hnn] at c1 HA1
    rw [← hn, hnn] at c2 HA2
    have hni : (n : Int) ≤ 1000000 := by omega
    clear h1 h2 A1 A2 B1 B2 hx1 hx2 hn hnn l1 l2
    go_enter Try.func22, Try.ntmps22
    go_upto_region 1 with (fail)
    go_quiet (fail)
    go_wp2_with fail
    obtain ⟨W0, hW0⟩ : ∃ W0, w.drewN nq = W0 := ⟨_, rfl⟩
    have H0 : Hid (Below w.heap.size w W0) := by rw [← hW0]; exact ⟨rfl, rfl, rfl, Nat.le_refl _, fun _ _ => rfl⟩
    rw [hW0]
    clear hW0 c1 c2
    go_loopw [5] (fun b wx => ∃ i : Nat, b = .int .i64 (i : Int) ∧ i ≤ n ∧ Hid ((∀ j, j < i → d1[j]? = d2[j]?) ∧ Below w.heap.size w wx)) (fun b wx => n - (intOf b).toNat)
    case atStart => exact ⟨0, rfl, Nat.zero_le _, fun j hj => (Nat.not_lt_zero _ hj).elim, H0⟩
    case round =>
      obtain ⟨i, rfl, hi, HI⟩ := hrel
      have c1 := HA1.out wr HI.out.2
      by_cases ci : i < n
      · -- <ROUND>
        have ci' : (i : Int) < (n : Int) := by omega
        have hi0 : (0 : Int) ≤ (i : Int) := by omega
        obtain ⟨x, hx⟩ : ∃ x, d1[i]? = some x := ⟨_, List.getElem?_eq_getElem (by have := HN.out.1; omega)⟩
        obtain ⟨y, hy⟩ : ∃ y, d2[i]? = some y := ⟨_, List.getElem?_eq_getElem (by have := HN.out.2.1; omega)⟩
        have HXY : Hid (d1[i]? = some x ∧ d2[i]? = some y ∧ i < n) := ⟨hx, hy, ci⟩
        obtain ⟨g, da, dc, ba, bc, rfl, hcap, V1⟩ := HB1.out i x hx
        obtain ⟨g', da', dc', ba', bc', rfl, hcap', V2⟩ := HB2.out i y hy
        rw [HN.out.1] at hcap
        rw [HN.out.2.1] at hcap'
        obtain ⟨e0, e1, e2, e3, e4, e5⟩ := V1 wr HI.out.2
        have hbA : Below w.heap.size w (wr.alloc (.cells #[.string (tx x.nm), .slice da x.b.length dc, .int .i64 (safeN x.b x.ws), .slice ba x.ws.length bc] 43)) := HI.out.2.alloc HI.out.2.size _
        have c2 := HA2.out _ hbA
        obtain ⟨k0, k1, k2, k3, -, -⟩ := V2 _ hbA
        obtain ⟨W7, hW7⟩ : ∃ W7, (wr.alloc (.cells #[.string (tx x.nm), .slice da x.b.length dc, .int .i64 (safeN x.b x.ws), .slice ba x.ws.length bc] 43)).alloc (.cells #[.string (tx y.nm), .slice da' y.b.length dc', .int .i64 (safeN y.b y.ws), .slice ba' y.ws.length bc'] 43) = W7 := ⟨_, rfl⟩
        have hb7 : Below w.heap.size w W7 := by rw [← hW7]; exact hbA.alloc hbA.size _
        have HW7 : Hid ((wr.alloc (.cells #[.string (tx x.nm), .slice da x.b.length dc, .int .i64 (safeN x.b x.ws), .slice ba x.ws.length bc] 43)).alloc (.cells #[.string (tx y.nm), .slice da' y.b.length dc', .int .i64 (safeN y.b y.ws), .slice ba' y.ws.length bc'] 43) = W7) := hW7
        have p1 : W7.heap[wr.heap.size]? = some (.cells #[.string (tx x.nm), .slice da x.b.length dc, .int .i64 (safeN x.b x.ws), .slice ba x.ws.length bc] 43 (0, 0)) := by rw [← hW7]; exact (Below.heap_alloc _ _ _ (by simp)).trans (Go.heap_alloc_new _ _)
        have p2 : W7.heap[wr.heap.size + 1]? = some (.cells #[.string (tx y.nm), .slice da' y.b.length dc', .int .i64 (safeN y.b y.ws), .slice ba' y.ws.length bc'] 43 (0, 0)) := by
          have h := Go.heap_alloc_new (wr.alloc (.cells #[.string (tx x.nm), .slice da x.b.length dc, .int .i64 (safeN x.b x.ws), .slice ba x.ws.length bc] 43)) (.cells #[.string (tx y.nm), .slice da' y.b.length dc', .int .i64 (safeN y.b y.ws), .slice ba' y.ws.length bc'] 43)
          rw [World.size_alloc] at h
          rw [← hW7]
          exact h
        have HB7 : Hid (Below w.heap.size w W7 ∧ W7.ownsRow 0 5 1 (.slice da x.b.length dc) x.b.length (u8l x.b) ∧ W7.ownsRow 0 3 1 (.slice ba x.ws.length bc) x.ws.length (x.ws.map iV) ∧ W7.ownsRow 0 5 1 (.slice da' y.b.length dc') y.b.length (u8l y.b) ∧ W7.ownsRow 0 3 1 (.slice ba' y.ws.length bc') y.ws.length (y.ws.map iV)) := ⟨hb7, (V1 W7 hb7).2.2.2.2.1, (V1 W7 hb7).2.2.2.2.2, (V2 W7 hb7).2.2.2.2.1, (V2 W7 hb7).2.2.2.2.2⟩
        have HP : Hid (W7.heap[wr.heap.size]? = some (.cells #[.string (tx x.nm), .slice da x.b.length dc, .int .i64 (safeN x.b x.ws), .slice ba x.ws.length bc] 43 (0, 0)) ∧ W7.heap[wr.heap.size + 1]? = some (.cells #[.string (tx y.nm), .slice da' y.b.length dc', .int .i64 (safeN y.b y.ws), .slice ba' y.ws.length bc'] 43 (0, 0))) := ⟨p1, p2⟩
        clear hx hy ci hi V1 V2 e4 e5 hbA hW7 hb7 p1 p2
        go_upto_region 8 with (fail)
        rw [HW7.out]
        clear HW7 c1 c2 e0 e1 e2 e3 k0 k1 k2 k3
        obtain ⟨pa, hpa⟩ : ∃ pa, wr.heap.size = pa := ⟨_, rfl⟩
        obtain ⟨pb, hpb⟩ : ∃ pb, wr.heap.size + 1 = pb := ⟨_, rfl⟩
        have HPC := HP.out
        rw [hpb, hpa] at HPC
        rw [hpb, hpa]
        have HPC' : Hid (W7.heap[pa]? = some (.cells #[.string (tx x.nm), .slice da x.b.length dc, .int .i64 (safeN x.b x.ws), .slice ba x.ws.length bc] 43 (0, 0)) ∧ W7.heap[pb]? = some (.cells #[.string (tx y.nm), .slice da' y.b.length dc', .int .i64 (safeN y.b y.ws), .slice ba' y.ws.length bc'] 43 (0, 0))) := HPC
        have e0 : W7.cell? ⟨pa, 0, none⟩ = some (.string (tx x.nm)) := by rw [cell_of_row _ _ _ _ _ _ HPC.1]; rfl
        have e1 : W7.cell? ⟨pa, 1, none⟩ = some (.slice da x.b.length dc) := by rw [cell_of_row _ _ _ _ _ _ HPC.1]; rfl
        have e2 : W7.cell? ⟨pa, 2, none⟩ = some (.int .i64 (safeN x.b x.ws)) := by rw [cell_of_row _ _ _ _ _ _ HPC.1]; rfl
        have e3 : W7.cell? ⟨pa, 3, none⟩ = some (.slice ba x.ws.length bc) := by rw [cell_of_row _ _ _ _ _ _ HPC.1]; rfl
        have k0 : W7.cell? ⟨pb, 0, none⟩ = some (.string (tx y.nm)) := by rw [cell_of_row _ _ _ _ _ _ HPC.2]; rfl
        have k1 : W7.cell? ⟨pb, 1, none⟩ = some (.slice da' y.b.length dc') := by rw [cell_of_row _ _ _ _ _ _ HPC.2]; rfl
        have k2 : W7.cell? ⟨pb, 2, none⟩ = some (.int .i64 (safeN y.b y.ws)) := by rw [cell_of_row _ _ _ _ _ _ HPC.2]; rfl
        have k3 : W7.cell? ⟨pb, 3, none⟩ = some (.slice ba' y.ws.length bc') := by rw [cell_of_row _ _ _ _ _ _ HPC.2]; rfl
        have hxd := HX.out.1 x (List.mem_of_getElem? HXY.out.1)
        have hyd := HX.out.2 y (List.mem_of_getElem? HXY.out.2.1)
        have t1 := Src.conv (own_src HB7.out.2.1) hxd.1
        have t2 := Src.conv (own_src HB7.out.2.2.2.1) hyd.1
        have HLW : Hid (x.ws.length ≤ 2000000 ∧ y.ws.length ≤ 2000000) := ⟨hxd.2.2, hyd.2.2⟩
        have HBY : Hid (Byt x.b ∧ Byt y.b) := ⟨hxd.1, hyd.1⟩
        clear HPC HP hpa hpb hxd hyd
        by_cases hnm : x.nm = y.nm
        · by_cases hb : x.b = y.b
          · have hs1 : ((tx x.nm).toList == (tx y.nm).toList) = true := by rw [hnm]; simp
            have hs2 : ((⟨(strB x.b).toArray⟩ : ByteArray).toList == (⟨(strB y.b).toArray⟩ : ByteArray).toList) = true := by rw [hb]; simp
            have HNB : Hid (x.nm = y.nm ∧ x.b = y.b) := ⟨hnm, hb⟩
            obtain ⟨Sx, hSx⟩ : ∃ Sx, safeN x.b x.ws = Sx := ⟨_, rfl⟩
            obtain ⟨Sy, hSy⟩ : ∃ Sy, safeN y.b y.ws = Sy := ⟨_, rfl⟩
            have HSS : Hid (safeN x.b x.ws = Sx ∧ safeN y.b y.ws = Sy) := ⟨hSx, hSy⟩
            rw [hSx] at e2
            rw [hSy] at k2
            obtain ⟨T1, hT1⟩ : ∃ T1 : ByteArray, (⟨(strB x.b).toArray⟩ : ByteArray) = T1 := ⟨_, rfl⟩
            obtain ⟨T2, hT2⟩ : ∃ T2 : ByteArray, (⟨(strB y.b).toArray⟩ : ByteArray) = T2 := ⟨_, rfl⟩
            rw [hT1] at t1
            rw [hT2] at t2
            rw [hT1, hT2] at hs2
            clear hnm hb hSx hSy hT1 hT2
            by_cases hS : Sx = Sy
            · by_cases hl : x.ws.length = y.ws.length
              · -- <INNER>
                have hli : (x.ws.length : Int) = (y.ws.length : Int) := by omega
                have HL2 : Hid (x.ws.length = y.ws.length) := hl
                have hS' : ¬ (Sx = Sy) → False := fun h => h hS
                subst hS
                clear hS' HSS
                obtain ⟨L, hL⟩ : ∃ L, x.ws.length = L := ⟨_, rfl⟩
                have HL : Hid (x.ws.length = L ∧ y.ws.length = L ∧ L ≤ 2000000) := ⟨hL, by omega, by have := HLW.out.1; omega⟩
                have hLi : (L : Int) ≤ 2000000 := by have := HL.out.2.2; omega
                have hyl : y.ws.length = L := by omega
                rw [hL] at e3
                rw [hyl] at k3
                clear hL hyl hl hli
                go_wp2_with fail
                clear e0 e1 e2 k0 k1 k2 t1 t2 hs1 hs2
                go_loopw [8] (fun b wx => ∃ k : Nat, b = .int .i64 (k : Int) ∧ k ≤ L ∧ Hid ((∀ j, j < k → x.ws[j]? = y.ws[j]?) ∧ DwQ W7 wx)) (fun b wx => L - (intOf b).toNat)
                case atStart => exact ⟨0, rfl, Nat.zero_le _, fun j hj => (Nat.not_lt_zero _ hj).elim, DwQ.refl _⟩
                case round =>
                  obtain ⟨k, rfl, hk, HK⟩ := hrel
                  have z1 : wr.cell? ⟨pa, 3, none⟩ = some (.slice ba L bc) := by rw [cell_of_row _ _ _ _ _ _ ((HK.out.2.heap pa).trans HPC'.out.1), HL.out.1]; rfl
                  have z2 : wr.cell? ⟨pb, 3, none⟩ = some (.slice ba' L bc') := by rw [cell_of_row _ _ _ _ _ _ ((HK.out.2.heap pb).trans HPC'.out.2), HL.out.2.1]; rfl
                  clear e3 k3
                  by_cases ck : k < L
                  · have ck' : (k : Int) < (L : Int) := by omega
                    have hk0 : (0 : Int) ≤ (k : Int) := by omega
                    obtain ⟨a, ha⟩ : ∃ a, x.ws[k]? = some a := ⟨_, List.getElem?_eq_getElem (by have := HL.out.1; omega)⟩
                    obtain ⟨b, hb⟩ : ∃ b, y.ws[k]? = some b := ⟨_, List.getElem?_eq_getElem (by have := HL.out.2.1; omega)⟩
                    have hA : wr.ownsRow 0 3 1 (.slice ba x.ws.length bc) x.ws.length (x.ws.map iV) := own_at HB7.out.2.2.1 fun q hq => HK.out.2.heap q
                    have hB : wr.ownsRow 0 3 1 (.slice ba' y.ws.length bc') y.ws.length (y.ws.map iV) := own_at HB7.out.2.2.2.2 fun q hq => HK.out.2.heap q
                    obtain ⟨ga, ca, f1, f2⟩ := row_form hA (by have := HL.out.1; omega)
                    obtain ⟨gb, cb, f3, f4⟩ := row_form hB (by have := HL.out.2.1; omega)
                    injection f1 with f1 f1b f1c
                    injection f3 with f3 f3b f3c
                    subst f1
                    subst f3
                    have cu : wr.cell? ⟨ga, k, none⟩ = some (iV a) := row_at hA k a ha
                    have cv : wr.cell? ⟨gb, k, none⟩ = some (iV b) := row_at hB k b hb
                    have hca : (L : Int) ≤ (bc : Int) := by have := own_capv hA; have := HL.out.1; omega
                    have hcb : (L : Int) ≤ (bc' : Int) := by have := own_capv hB; have := HL.out.2.1; omega
                    have HK2 : Hid (∀ m, DwQ W7 (wr.drewN m)) := fun m => HK.out.2.drewN m
                    have HAB : Hid (x.ws[k]? = some a ∧ y.ws[k]? = some b ∧ k < L) := ⟨ha, hb, ck⟩
                    simp only [iV] at cu cv
                    clear hA hB f1b f1c f2 f3b f3c f4 ha hb ck hk
                    by_cases he : a = b
                    · subst he
                      have HS : Hid (∀ j, j < k + 1 → x.ws[j]? = y.ws[j]?) := by
                        intro j hj
                        rcases (show j = k ∨ j < k from by omega) with rfl | h
                        · rw [HAB.out.1, HAB.out.2.1]
                        · exact HK.out.1 j h
                      go_upto_region 13 with fail
                      go_quiet (fail)
                      go_wp2_with fail
                      go_roundw
                      case rel => exact ⟨k + 1, by go_num, by have := HAB.out.2.2; omega, HS.out, HK2.out _⟩
                      case measure => have := HAB.out.2.2; simp [intOf]; omega
                    · have HE : Hid (sameL d1 d2 = false) := ne_at HXY.out.1 HXY.out.2.1 fun e => he (by
                        have h1 := HAB.out.1
                        rw [e, HAB.out.2.1] at h1
                        exact (Option.some.inj h1).symm)
                      go_upto_region 13 with fail
                      go_quiet (fail)
                      go_wp2_with fail
                      go_ret
                      exact ⟨by rw [HE.out]; rfl, HB7.out.1.trans ((HK2.out _).below.mono HB7.out.1.size)⟩
                  · have hkL : k = L := by omega
                    have HEQ : Hid (x = y) := fd_ext HNB.out.1 HNB.out.2 (List.ext_getElem? fun j => by
                      by_cases hj : j < k
                      · exact HK.out.1 j hj
                      · rw [List.getElem?_eq_none (by have := HL.out.1; omega), List.getElem?_eq_none (by have := HL.out.2.1; omega)])
                    have ck' : ¬ (k : Int) < (L : Int) := by omega
                    have HS : Hid (∀ j, j < i + 1 → d1[j]? = d2[j]?) := by
                      intro j hj
                      rcases (show j = i ∨ j < i from by omega) with rfl | h
                      · rw [HXY.out.1, HXY.out.2.1, HEQ.out]
                      · exact HI.out.1 j h
                    clear hk hkL ck
                    go_wp2_with fail
                    go_roundw
                    case rel => exact ⟨i + 1, by go_num, by have := HXY.out.2.2; omega, HS.out, HB7.out.1.trans (HK.out.2.below.mono HB7.out.1.size)⟩
                    case measure => have := HXY.out.2.2; simp [intOf]; omega
              · -- <C4>
                have HE : Hid (sameL d1 d2 = false) := ne_at HXY.out.1 HXY.out.2.1 fun e => hl (by rw [e])
                have hl' : ¬ (x.ws.length : Int) = (y.ws.length : Int) := by omega
                clear hl
                go_wp2_with fail
                go_ret
                exact ⟨by rw [HE.out]; rfl, HB7.out.1⟩
            · -- <C3>
              have HE : Hid (sameL d1 d2 = false) := ne_at HXY.out.1 HXY.out.2.1 fun e => hS (by rw [← HSS.out.1, ← HSS.out.2, e])
              go_wp2_with fail
              go_ret
              exact ⟨by rw [HE.out]; rfl, HB7.out.1⟩
          · -- <C2>
            have HE : Hid (sameL d1 d2 = false) := ne_at HXY.out.1 HXY.out.2.1 fun e => hb (by rw [e])
            have hs1 : ((tx x.nm).toList == (tx y.nm).toList) = true := by rw [hnm]; simp
            have hs2 : ((⟨(strB x.b).toArray⟩ : ByteArray).toList == (⟨(strB y.b).toArray⟩ : ByteArray).toList) = false := by
              rw [ByteArray.toList_eq, ByteArray.toList_eq]
              have : strB x.b ≠ strB y.b := fun e => hb (strB_inj HBY.out.1 HBY.out.2 e)
              simpa using this
            obtain ⟨T1, hT1⟩ : ∃ T1 : ByteArray, (⟨(strB x.b).toArray⟩ : ByteArray) = T1 := ⟨_, rfl⟩
            obtain ⟨T2, hT2⟩ : ∃ T2 : ByteArray, (⟨(strB y.b).toArray⟩ : ByteArray) = T2 := ⟨_, rfl⟩
            rw [hT1] at t1
            rw [hT2] at t2
            rw [hT1, hT2] at hs2
            clear hnm hb hT1 hT2
            go_wp2_with fail
            go_ret
            exact ⟨by rw [HE.out]; rfl, HB7.out.1⟩
        · -- <C1>
          have HE : Hid (sameL d1 d2 = false) := ne_at HXY.out.1 HXY.out.2.1 fun e => hnm (by rw [e])
          have hs1 : ((tx x.nm).toList == (tx y.nm).toList) = false := by rw [tx_list, tx_list]; simpa using hnm
          clear hnm
          go_wp2_with fail
          go_ret
          exact ⟨by rw [HE.out]; rfl, HB7.out.1⟩
      · -- <END>
        have hin : i = n := by omega
        have HE : Hid (sameL d1 d2 = true) := sameL_iff.2 (List.ext_getElem? fun j => by
          by_cases hj : j < i
          · exact HI.out.1 j hj
          · rw [List.getElem?_eq_none (by have := HN.out.1; omega), List.getElem?_eq_none (by have := HN.out.2.1; omega)])
        have ci' : ¬ (i : Int) < (n : Int) := by omega
        clear hi hin ci
        go_wp2_with fail
        go_ret
        exact ⟨by rw [HE.out]; rfl, HI.out.2⟩
  · -- <DIFF>
    have HE : Hid (sameL d1 d2 = false) := sameL_no fun e => hn (by rw [e])
    have hn' : ¬ (d1.length : Int) = (d2.length : Int) := by omega
    clear h1 h2 A1 A2 B1 B2 hx1 hx2 hn HX HA1 HA2
    generalize d1.length = n1 at *
    generalize d2.length = n2 at *
    go_enter Try.func22, Try.ntmps22
    go_upto_region 1 with (fail)
    go_quiet (fail)
    go_wp2_with fail
    go_ret
    exact ⟨by rw [HE.out]; rfl, rfl, rfl, rfl, Nat.le_refl _, fun _ _ => rfl⟩
end Go.Proofs.Ytmlbojihjgbdlaa.D

/- DiskPlays: the law, over what is left to show of alike. -/
namespace Go.Proofs.Ytmlbojihjgbdlaa.D
open Go.RowKit
set_option linter.unusedVariables false
set_option linter.unusedSimpArgs false

variable {w w0 w1 w2 : World} {D R k : Nat} {sy : Int} {dl : List Fd} {ks : List (Nat × Obj)} {c : Cl}
/-- What is left to show: alike, 12. -/
def AlikeOk : Prop := ∀ (w0 V : World) (D R : Nat) (sy : Int) (dl : List Fd), PS w0 V D R sy dl [] → Inv 121 sy dl → Ord dl → Calls Try.prog 12 #[.pointer (some ⟨D, 0, none⟩), .pointer (some ⟨R, 0, none⟩)] V fun e w2 => e = .returned (.bool true) ∧ Below V.heap.size V w2
set_option maxRecDepth 100000 in
set_option maxHeartbeats 16000000 in
theorem plays_law (hal : AlikeOk) {ov : Value} {cs : List Cl} {s : List UInt8} (hx : OpsIn w ov cs) (hl : cs.length ≤ 1048576) (hs : (s.length : Int) ≤ 140737488351232) : Calls Try.prog 3 #[ov, .string (tx s)] w fun e w' => e = .returned (.bool true) ∧ Below w.heap.size w w' := by
  have HAL : Hid AlikeOk := hal
  have HN9 : Hid (∀ V : World, Calls Try.prog 9 #[.string (tx s)] V fun e w' => e = .returned (.bool (nameB s)) ∧ w' = V) := fun V => name_any s V hs
  have HN10 : Hid (∀ V : World, Calls Try.prog 10 #[.string (tx s)] V fun e w' => e = .returned (.bool (nameB s)) ∧ w' = V) := fun V => rname_any s V hs
  obtain ⟨nb, hnb⟩ : ∃ nb, nameB s = nb := ⟨_, rfl⟩
  rw [hnb] at HN9 HN10
  clear hal hs hnb
  have HX : Hid (OpsIn w ov cs) := hx
  obtain ⟨sa, cap, rfl, hcap, -⟩ := hx
  obtain ⟨len, hlen⟩ : ∃ len, cs.length = len := ⟨_, rfl⟩
  have HN : Hid (cs.length = len) := hlen
  rw [hlen] at hl hcap HX ⊢
  obtain ⟨W1, W2, e1, e2, e3, hP⟩ := ps_new w
  have HP : Hid (PS w W2 w.heap.size (w.heap.size + 1) 0 [] []) := hP
  have HNEW : Hid (Calls Try.prog 8 #[] w fun e w' => e = .returned (.pointer (some ⟨w.heap.size, 0, none⟩)) ∧ w' = W1) := by
    rw [← e1]
    exact new70 w
  obtain ⟨R, hR⟩ : ∃ R, w.heap.size + 1 = R := ⟨_, rfl⟩
  obtain ⟨D, hD⟩ : ∃ D, w.heap.size = D := ⟨_, rfl⟩
  rw [hR] at e3 HP
  rw [hD] at HP HNEW
  have hcapi : (len : Int) ≤ (cap : Int) := by omega
  have hli : (len : Int) ≤ 1048576 := by omega
  clear hlen hP e1 hcap hR hD hl
  cases nb
  all_goals
    go_enter Try.func3, Try.ntmps3
    go_upto_region 6 with (first | (go_at_call 8; refine HNEW.out.mono ?_; rintro e w1 ⟨rfl, hw1⟩; rw [hw1]; clear hw1) | (go_at_call 9; refine (HN9.out _).mono ?_; rintro e w1 ⟨rfl, hw1⟩; rw [hw1]; clear hw1) | (go_at_call 10; refine (HN10.out _).mono ?_; rintro e w1 ⟨rfl, hw1⟩; rw [hw1]; clear hw1))
    clear HNEW e2 e3
    go_loopw [7] (fun b wx => ∃ (i : Nat) (sy : Int) (dl : List Fd), b = .int .i64 (i : Int) ∧ i ≤ 120 ∧ i ≤ len ∧ Hid (Inv i sy dl ∧ Ord dl) ∧ Hid (PS w wx D R sy dl [])) (fun b wx => 120 - (intOf b).toNat)
    case atStart => exact ⟨0, 0, [], rfl, by omega, by omega, ⟨inv_nil, ord_nil⟩, HP⟩
    case round =>
      obtain ⟨i, sy, dl, rfl, hi, hil, HI, H⟩ := hrel
      by_cases cl : i < len ∧ i < 120
      · have cl' : (i : Int) < (len : Int) := by omega
        have c2' : (i : Int) < 120 := by omega
        obtain ⟨c, hxx⟩ : ∃ c, cs[i]? = some c := ⟨_, List.getElem?_eq_getElem (by have := HN.out; omega)⟩
        obtain ⟨sa', cap', e0, -, hops⟩ := HX.out
        obtain ⟨hin, b, off, e, hlt, y0, y1, y2, y3, y4, y5⟩ := hops i c hxx
        have HCI : Hid (c.In w) := hin
        have e0' : sa' = sa := by injection e0 with e0; exact e0.symm
        rw [e0'] at e
        subst e
        have hcl : ∀ (j : Nat) (u : Value), w.cell? ⟨b, j, none⟩ = some u → wr.cell? ⟨b, j, none⟩ = some u := fun j u hu => (cell_same (H.out.bel.block b hlt)).trans hu
        replace y0 := hcl _ _ y0
        replace y1 := hcl _ _ y1
        replace y2 := hcl _ _ y2
        replace y3 := hcl _ _ y3
        replace y4 := hcl _ _ y4
        replace y5 := hcl _ _ y5
        have HCA : Hid (Calls Try.prog 11 #[.pointer (some ⟨D, 0, none⟩), .pointer (some ⟨R, 0, none⟩), c.val] wr fun e w2 => e = .returned (.bool true) ∧ Hid (PN w w2 D R i dl [])) := PS.call_any H.out HI.out.1 (by omega) hin
        obtain ⟨ba, bc, hbv, -⟩ := hin.by'
        obtain ⟨ka, kc, hkv, -⟩ := hin.kp
        obtain ⟨kind, s, s', n, bb, kn, bv, kv⟩ := c
        unfold Cl.val at HCA
        dsimp only at y0 y1 y2 y3 y4 y5 hbv hkv HCA
        generalize bb.length = bn at hbv
        generalize kn.length = kkn at hkv
        subst hbv hkv
        have HII : Hid (i < 120 ∧ i < len) := ⟨cl.2, cl.1⟩
        have HOR : Hid (Ord dl) := HI.out.2
        clear hcl hops e0 e0' hin hlt hxx cl hi hil H HI HX
        go_wp2_with (first | (go_at_call 11; refine HCA.out.mono ?_; rintro e w4 ⟨rfl, HM4⟩; (have HAK : Hid (Calls Try.prog 12 #[.pointer (some ⟨D, 0, none⟩), .pointer (some ⟨R, 0, none⟩)] w4 fun e w5 => e = .returned (.bool true) ∧ Hid (PN w w5 D R i dl [])) := (by (obtain ⟨sy', dl', k1, k2, k3⟩ := HM4.out); (refine (HAL.out w w4 D R sy' dl' k1 (k2.to (by have := HII.out; omega)) (k3 HOR.out)).mono ?_); (rintro e w5 ⟨rfl, hb5⟩); exact ⟨rfl, sy', dl', PP.newer k1 hb5, k2, k3⟩))) | (go_at_call 12; refine HAK.out.mono ?_; rintro e w5 ⟨rfl, HM5⟩))
        go_roundw
        case rel =>
          obtain ⟨sy', dl', k1, k2, k3⟩ := HM5.out
          exact ⟨i + 1, sy', dl', by go_num, by have := HII.out; omega, by have := HII.out; omega, ⟨k2, k3 HOR.out⟩, k1⟩
        case measure => have := HII.out; simp [intOf]; omega
      · have HE : Hid (Below w.heap.size w wr) := H.out.bel
        by_cases c1 : i < len
        · have hi' : i = 120 := by omega
          subst hi'
          have c1' : ((120 : Nat) : Int) < (len : Int) := by omega
          rw [show ((120 : Nat) : Int) = 120 from rfl] at c1' ⊢
          clear cl c1 hi hil H HI
          go_wp2_with (go_at_call 13; refine (known_any _).mono ?_; rintro e w9 ⟨rfl, hb9⟩; (have HB9 : Hid (Below wr.heap.size wr w9) := hb9); clear hb9)
          go_ret
          exact ⟨rfl, HE.out.trans (HB9.out.mono HE.out.size)⟩
        · have c1' : ¬ (i : Int) < (len : Int) := by omega
          clear cl c1 hi hil H HI
          go_wp2_with (go_at_call 13; refine (known_any _).mono ?_; rintro e w9 ⟨rfl, hb9⟩; (have HB9 : Hid (Below wr.heap.size wr w9) := hb9); clear hb9)
          go_ret
          exact ⟨rfl, HE.out.trans (HB9.out.mono HE.out.size)⟩
end Go.Proofs.Ytmlbojihjgbdlaa.D

/- The model's Pending; names in order between calls. -/
namespace Go.Proofs.Ytmlbojihjgbdlaa.D
open Go.RowKit
set_option linter.unusedVariables false
set_option linter.unusedSimpArgs false

variable {w w' : World} {R k : Nat} {sy : Int} {G : Nat → Prop} {dl : List Fd} {s s' : List UInt8} {x : Fd}
theorem totW_app (a b : List Fd) : totW (a ++ b) = totW a + totW b := by unfold totW; rw [List.map_append, List.sum_append]
theorem totW_take {dl : List Fd} {i : Nat} {x : Fd} (h : dl[i]? = some x) : totW (dl.take (i + 1)) = totW (dl.take i) + x.ws.length := by
  rw [(drop_at h).2, totW_app]
  simp [totW]
theorem totW_le (i : Nat) (dl : List Fd) : totW (dl.take i) ≤ totW dl := by
  have : totW dl = totW (dl.take i) + totW (dl.drop i) := by rw [← totW_app, List.take_append_drop]
  omega
set_option maxRecDepth 20000 in
theorem rpending_any (h : MR w R G sy dl) (hl : dl.length ≤ 1000000) (hs : totW dl ≤ 1000000000) : Calls Try.prog 41 #[.pointer (some ⟨R, 0, none⟩)] w fun e w' => e = .returned (.int .i64 (totW dl : Int)) ∧ w' = w := by
  obtain ⟨lv, m, hms, hxs, -⟩ := h
  have HMS : Hid (MS w R lv m sy ∧ xsM m = dl) := ⟨hms, hxs⟩
  obtain ⟨M, hM⟩ : ∃ M, m.length = M := ⟨_, rfl⟩
  have hml : dl.length = M := by rw [← hxs, xsM_len, hM]
  have HN : Hid (m.length = M ∧ dl.length = M ∧ M ≤ 1000000 ∧ totW dl ≤ 1000000000) := ⟨hM, hml, by omega, hs⟩
  have hMi : (M : Int) ≤ 1000000 := by omega
  obtain ⟨la, lc, hlv⟩ := own_slice hms.row
  have q3 := hms.cells.1
  rw [hlv, hM] at q3
  clear hms hxs hM hml hl hs hlv
  go_enter Try.func41, Try.ntmps41
  go_upto_region 3 with (fail)
  go_loopw [4, 3] (fun b c wx => ∃ i : Nat, b = .int .i64 (i : Int) ∧ c = .int .i64 ((totW (dl.take i) : Nat) : Int) ∧ i ≤ M ∧ wx = w) (fun b c wx => M - (intOf b).toNat)
  case atStart => exact ⟨0, rfl, rfl, Nat.zero_le _, rfl⟩
  case round =>
    obtain ⟨i, rfl, rfl, hi, hwx⟩ := hrel
    subst hwx
    have hT := totW_le i dl
    have hTi : ((totW (dl.take i) : Nat) : Int) ≤ 1000000000 := by have := HN.out.2.2.2; omega
    by_cases ci : i < M
    · have ci' : (i : Int) < (M : Int) := by omega
      obtain ⟨t, ht⟩ : ∃ t, m[i]? = some t := ⟨_, List.getElem?_eq_getElem (by have := HN.out.1; omega)⟩
      obtain ⟨g, gc, e, q1, q2, q3', e0, e1, e2, e3, -⟩ := HMS.out.1.openK ht
      have hdt : dl[i]? = some t.x := by rw [← HMS.out.2]; exact xsM_at ht
      have hst := totW_take hdt
      have hT2 := totW_le (i + 1) dl
      have hwi : (t.x.ws.length : Int) ≤ 1000000000 := by have := HN.out.2.2.2; omega
      have HST : Hid (((totW (dl.take (i + 1)) : Nat) : Int) = ((totW (dl.take i) : Nat) : Int) + (t.x.ws.length : Int) ∧ i < M) := ⟨by rw [hst]; push_cast; rfl, ci⟩
      have hla : la = some ⟨g, 0, none⟩ := by
        rw [HN.out.1] at q3'
        have := q3.symm.trans q3'
        injection this with this
        injection this
      subst hla
      have hcap : (M : Int) ≤ (lc : Int) := by
        rw [HN.out.1] at q3' q1
        have := q3.symm.trans q3'
        injection this with this
        injection this with _ _ h3
        omega
      have hsum0 : (0 : Int) ≤ ((totW (dl.take i) : Nat) : Int) := by omega
      have hwn0 : (0 : Int) ≤ (t.x.ws.length : Int) := by omega
      generalize ((totW (dl.take i) : Nat) : Int) = A at *
      generalize t.x.ws.length = N at *
      clear hst hT hT2 ht hdt q1 q2 q3' e0 e1 e2 e ci hi
      go_wp2_with fail
      go_roundw
      case rel =>
        refine ⟨i + 1, by go_num, ?_, by have := HST.out.2; omega, trivial⟩
        rw [HST.out.1]
      case measure => have := HST.out.2; simp [intOf]; omega
    · have hiM : i = M := by omega
      have e : dl.take i = dl := List.take_of_length_le (by have := HN.out.2.1; omega)
      rw [e]
      have HE : Hid (i = M) := hiM
      have ci' : ¬ (i : Int) < (M : Int) := by omega
      clear hT hTi hi hiM e ci
      go_wp2_with fail
      go_ret
      exact ⟨rfl, rfl⟩
end Go.Proofs.Ytmlbojihjgbdlaa.D

/- Syncs; what the calls of alike's end answer. -/
namespace Go.Proofs.Ytmlbojihjgbdlaa.D
open Go.RowKit
set_option linter.unusedVariables false
set_option linter.unusedSimpArgs false

variable {w w' w0 : World} {D R k : Nat} {F : Nat → Prop} {sy : Int} {dl : List Fd} {ks : List (Nat × Obj)}
theorem syncs_any (h : DR w D F sy dl) : Calls Try.prog 29 #[.pointer (some ⟨D, 0, none⟩)] w fun e w' => e = .returned (.int .i64 sy) ∧ w' = w := by
  obtain ⟨mv, b1, -⟩ := h.box
  have c1 : w.cell? ⟨D, 1, none⟩ = some (.int .i64 sy) := by rw [cell_of_row _ _ _ _ _ _ b1]; rfl
  clear h b1
  go_enter Try.func29, Try.ntmps29
  go_wp2_with fail
  go_ret
  exact ⟨rfl, rfl⟩
theorem Inv.totOk (i : Inv k sy dl) (hk : k ≤ 1000000) : totW dl ≤ 1000000000 := by
  have h1 := Inv.tot (k := k) fun x hx => (i.each x hx).2.2.1
  have h2 := Nat.mul_le_mul hk i.len
  omega
/-- The three calls at alike's end. -/
theorem PS.ends (h : PS w0 w D R sy dl ks) (i : Inv k sy dl) (hk : k ≤ 1000000) :
    (Calls Try.prog 17 #[.pointer (some ⟨D, 0, none⟩)] w fun e w' => e = .returned (.int .i64 (totW dl : Int)) ∧ Below w.heap.size w w' ∧ PS w0 w' D R sy dl ks) ∧
    (Calls Try.prog 41 #[.pointer (some ⟨R, 0, none⟩)] w fun e w' => e = .returned (.int .i64 (totW dl : Int)) ∧ w' = w) ∧
    (Calls Try.prog 29 #[.pointer (some ⟨D, 0, none⟩)] w fun e w' => e = .returned (.int .i64 sy) ∧ w' = w) := by
  have h' := h
  obtain ⟨⟨F, G, h1, h2, -⟩, -⟩ := h
  refine ⟨(pending_any h1 (i.totOk hk)).mono ?_, rpending_any h2 (by have := i.len; omega) (i.totOk hk), syncs_any h1⟩
  rintro e w' ⟨he, hb⟩
  exact ⟨he, hb, PP.newer h' hb⟩
/-- The range's closure. -/
theorem PS.files (h : PS w0 w D R sy dl ks) (i : Inv k sy dl) (o : Ord dl) : Calls Try.prog 28 #[.pointer (some ⟨D, 0, none⟩)] w fun e w' => ∃ a b, e = .returned (.func (.func 54) #[] #[.pointer (some ⟨a, 0, none⟩), .pointer (some ⟨b, 0, none⟩)]) ∧ ∃ kk nv, FI w w' a b kk nv dl dl.length ∧ PS w0 w' D R sy dl ks := by
  have h' := h
  obtain ⟨⟨F, G, h1, -⟩, -⟩ := h
  refine (files_any h1 o.srt (fun x hx => name_len (o.nm x hx)) (by have := i.len; omega) fun x hx => by have := (i.each x hx).2.1; omega).mono ?_
  rintro e w' ⟨a, b, he, kk, nv, hf⟩
  exact ⟨a, b, he, kk, nv, hf, PP.newer h' hf.be⟩
/-- What the model holds at a place of its list. -/
theorem PS.file (h : PS w0 w D R sy dl ks) {j : Nat} {x : Fd} (hx : dl[j]? = some x) : ∃ g gc da dc, w.cell? ⟨R, 0, none⟩ = some (.slice (some ⟨g, 0, none⟩) dl.length gc) ∧ (dl.length : Int) ≤ (gc : Int) ∧ w.cell? ⟨g, j * 4, none⟩ = some (.string (tx x.nm)) ∧ w.cell? ⟨g, j * 4 + 1, none⟩ = some (.slice da x.b.length dc) ∧ Src w (.slice da x.b.length dc) x.b := by
  obtain ⟨⟨F, G, h1, ⟨lv, m, h2, h3, -⟩, -⟩, -⟩ := h
  obtain ⟨t, ht⟩ : ∃ t, m[j]? = some t := ⟨_, List.getElem?_eq_getElem (by
    have := (List.getElem?_eq_some_iff.1 hx).1
    rw [← h3, xsM_len] at this
    exact this)⟩
  have e := xsM_at ht
  rw [h3, hx] at e
  obtain rfl : x = t.x := Option.some.inj e
  obtain ⟨g, gc, rfl, q1, q2, q3, e0, e1, -⟩ := h2.openK ht
  have hl : m.length = dl.length := by rw [← h3, xsM_len]
  rw [hl] at q1 q3
  exact ⟨g, gc, t.da, t.dc, q3, q1, e0, e1, own_src (h2.ml t (List.mem_of_getElem? ht)).rd⟩
end Go.Proofs.Ytmlbojihjgbdlaa.D
