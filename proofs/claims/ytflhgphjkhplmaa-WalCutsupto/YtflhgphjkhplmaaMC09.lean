import Derived.Test.YtflhgphjkhplmaaMC08
import Derived.StillTailTactics
/- A disk crashes. -/
namespace Go.Proofs.Ytflhgphjkhplmaa.D
open Go.RowKit
set_option linter.unusedVariables false
set_option linter.unusedSimpArgs false

variable {w w' : World} {D : Nat} {F : Nat → Prop} {sy : Int} {dl : List Fd} {s : List UInt8} {P : Nat → Prop}
/-- What the loop over the Keeps keeps. -/
structure WI (w wx : World) (M : Nat) (ks : List Kn) (j : Nat) : Prop where
  be : Below w.heap.size w wx
  mp : MapI wx M (entK (ks.take j) 0) j
set_option maxRecDepth 20000 in
theorem WI.put {wx w3 : World} {M : Nat} {ks : List Kn} {j : Nat} {k : Kn} (h : WI w wx M ks j) (hb : Below wx.heap.size wx w3) (hM : w.heap.size ≤ M) (hk : ks[j]? = some k) (hn : kIx k.1 (ks.take j) 0 = none) : ∃ W4, (Instr.mapUpdate 109 (.map (some M)) (.string (tx k.1)) (.int .i64 (j : Int))).run Try.prog w3 = .ok () W4 ∧ WI w W4 M ks (j + 1) := by
  have hMlt := (Array.getElem?_eq_some_iff.1 h.mp).1
  have hm3 : MapI w3 M (entK (ks.take j) 0) j := (hb.block M hMlt).trans h.mp
  have hf : fnd (tx k.1) (entK (ks.take j) 0) 0 = none := by rw [fnd_entK, hn]; rfl
  have hlen : (ks.take j).length = j := by rw [List.length_take]; have := (List.getElem?_eq_some_iff.1 hk).1; omega
  refine ⟨_, Go.Proofs.Ytflhgphjkhplmaa.run_put_new under74 hm3 hf _, ?_, ?_⟩
  · have h3 := h.be.trans (hb.mono h.be.size)
    have hM3 := (Array.getElem?_eq_some_iff.1 hm3).1
    exact ⟨h3.os, h3.tape, h3.output, by simpa using h3.size, fun i hi => by
      show (w3.heap.setIfInBounds M _)[i]? = _
      rw [Array.getElem?_setIfInBounds_ne (by omega)]
      exact h3.block i hi⟩
  · have hM3 := (Array.getElem?_eq_some_iff.1 hm3).1
    have e : entK (ks.take (j + 1)) 0 = entK (ks.take j) 0 ++ [(tx k.1, .int .i64 (j : Int), j)] := by
      rw [(drop_at hk).2, entK_app, hlen, Nat.zero_add]
    show (w3.heap.setIfInBounds M _)[M]? = _
    rw [e]
    simp [hM3]
theorem look74 {wx : World} {M : Nat} {ks : List Kn} {c : Nat} (h : MapI wx M (entK ks 0) c) (s : List UInt8) : (Instr.lookup 109 (.map (some M)) (.string (tx s)) true).run Try.prog wx = .ok (match kIx s ks 0 with | some q => .tuple #[.int .i64 (q : Int), .bool true] | none => .tuple #[.int .i64 0, .bool false]) wx := by
  have hf := fnd_entK s ks 0 0
  cases hq : kIx s ks 0 with
  | none =>
    rw [hq] at hf
    exact run_look_none under74 (by kernel_rfl) h hf
  | some q =>
    rw [hq] at hf
    exact run_look_some under74 h hf
set_option maxRecDepth 20000 in
set_option maxHeartbeats 8000000 in
theorem crash_all (h : DR w D F sy dl) {kv : Value} {ks : List Kn} (hk : KeepsAt P w kv ks) (hP : ∀ q, P q → q < w.heap.size ∧ ¬ F q) (hl : ∀ x ∈ dl, x.b.length ≤ 2000000 ∧ x.ws.length ≤ 2000000 ∧ WsOk x.b.length x.ws) (hkl : (ks.length : Int) ≤ 140737488351232) :
    Calls Try.prog 40 #[.pointer (some ⟨D, 0, none⟩), kv] w fun e w' => e = .returned (.int .i64 (wrE dl [] ks)) ∧ Hid (∃ F', DR w' D F' sy (crA dl ks) ∧ Fr F F' w w') := by
  have HH : Hid (DR w D F sy dl ∧ (∀ q, P q → q < w.heap.size ∧ ¬ F q) ∧ ∀ x ∈ dl, x.b.length ≤ 2000000 ∧ x.ws.length ≤ 2000000 ∧ WsOk x.b.length x.ws) := ⟨h, hP, hl⟩
  have HKA : Hid (KeepsAt P w kv ks) := hk
  obtain ⟨ka, kc, rfl, hkc, -⟩ := hk
  have hmk : (Instr.makeMap 109 none).run Try.prog w = .ok (.map (some w.heap.size)) (w.alloc (.map #[] 0)) := run_makeMap 109 w
  obtain ⟨W1, hW1⟩ : ∃ W1, w.alloc (.map #[] 0) = W1 := ⟨_, rfl⟩
  rw [hW1] at hmk
  obtain ⟨M, hM⟩ : ∃ M, w.heap.size = M := ⟨_, rfl⟩
  have HM : Hid (w.heap.size = M) := hM
  have HW0 : Hid (WI w W1 M ks 0) := by
    refine ⟨by rw [← hW1]; exact bel1 _ _, ?_⟩
    rw [← hW1, ← hM]
    exact Go.heap_alloc_new _ _
  rw [hM] at hmk
  obtain ⟨n, hn⟩ : ∃ n, ks.length = n := ⟨_, rfl⟩
  have HN : Hid (ks.length = n) := hn
  rw [hn] at hkl hkc HKA ⊢
  have hkci : (n : Int) ≤ (kc : Int) := by omega
  clear h hP hl hW1 hM hn hkc
  go_enter Try.func40, Try.ntmps40
  go_wp2_with fail
  go_loopw [20, 6, 7, 8, 9, 10] (fun i _ _ _ _ _ wx => ∃ j : Nat, j ≤ n ∧ i = .int .i64 (j : Int) ∧ Hid (WI w wx M ks j ∧ wrE dl (ks.take j) (ks.drop j) = wrE dl [] ks)) (fun i _ _ _ _ _ wx => n - (intOf i).toNat)
  case atStart => exact ⟨0, Nat.zero_le _, rfl, HW0.out, rfl⟩
  case round =>
    obtain ⟨j, hj, rfl, HI⟩ := hrel
    by_cases hlt : j < n
    · obtain ⟨k, hk⟩ : ∃ k, ks[j]? = some k := ⟨_, List.getElem?_eq_getElem (by have := HN.out; omega)⟩
      have HK : Hid (ks[j]? = some k ∧ j < n) := ⟨hk, hlt⟩
      have hlt' : (j : Int) < (n : Int) := by omega
      have HKW : Hid (KeepsAt P wr (.slice ka n kc) ks) := HKA.out.at' fun q hq => HI.out.1.be.block q (HH.out.2.1 q hq).1
      obtain ⟨ka', kc', hkv, -, hcl⟩ := HKW.out
      obtain ⟨hna, -, hnc⟩ := Value.slice.inj hkv
      subst hna
      subst hnc
      obtain ⟨nl, kb, ko, nv, hkb, -, k0, k1, knv⟩ := hcl j k hk
      subst hkb
      have HNV : Hid (NumsP P wr nv k.2 ∧ (k.2.length : Int) ≤ 140737488351232) := ⟨knv, nl⟩
      have hstep := HI.out.2
      rw [wrE_step hk] at hstep
      have HST : Hid ((if k.1 ∈ (ks.take j).map Prod.fst then 6 else if ckE dl k.1 k.2 = 0 then wrE dl (ks.take (j + 1)) (ks.drop (j + 1)) else ckE dl k.1 k.2) = wrE dl [] ks) := hstep
      clear hkv hcl nl knv hstep hk hlt hj
      obtain ⟨na, nc, rfl, -⟩ := HNV.out.1
      have HR0 : Hid (∃ F', DR wr D F' sy dl ∧ Fr F F' w wr) := ⟨F, HH.out.1.newer (HM.out ▸ HI.out.1.be), Fr.newer (HM.out ▸ HI.out.1.be)⟩
      go_upto_region 7 with (fail)
      obtain ⟨W2, hW2⟩ : ∃ W2, wr.alloc (.cells #[.string (tx k.1), .slice na k.2.length nc] 86) = W2 := ⟨_, rfl⟩
      have hb2 : Below wr.heap.size wr W2 := by rw [← hW2]; exact bel1 _ _
      have hx2 : W2.heap[wr.heap.size]? = some (.cells #[.string (tx k.1), .slice na k.2.length nc] 86 (0, 0)) := by rw [← hW2]; exact Go.heap_alloc_new _ _
      have HB2 : Hid (Below wr.heap.size wr W2) := hb2
      have HM2 : Hid (MapI W2 M (entK (ks.take j) 0) j) := (hb2.block _ (Array.getElem?_eq_some_iff.1 HI.out.1.mp).1).trans HI.out.1.mp
      have HX2 : Hid (W2.heap[wr.heap.size]? = some (.cells #[.string (tx k.1), .slice na k.2.length nc] 86 (0, 0))) := hx2
      rw [hW2]
      obtain ⟨p, hp⟩ : ∃ p, wr.heap.size = p := ⟨_, rfl⟩
      have HPP : Hid (wr.heap.size = p) := hp
      rw [hp] at HX2 HB2 ⊢
      clear hW2 hb2 hx2 hp k0 k1
      have q0 : W2.cell? ⟨p, 0, none⟩ = some (.string (tx k.1)) := by rw [cell_of_row _ _ _ _ _ _ HX2.out]; rfl
      have q1 : W2.cell? ⟨p, 1, none⟩ = some (.slice na k.2.length nc) := by rw [cell_of_row _ _ _ _ _ _ HX2.out]; rfl
      have hlk := look74 HM2.out k.1
      have HBW : Hid (Below w.heap.size w W2) := HI.out.1.be.trans (HB2.out.mono (by have := HI.out.1.be.size; rw [HPP.out] at this; exact this))
      cases hix : kIx k.1 (ks.take j) 0 with
      | some q =>
        rw [hix] at hlk
        dsimp only at hlk
        have HE : Hid (wrE dl [] ks = 6) := by
          have h1 := HST.out
          have hin : k.1 ∈ (ks.take j).map Prod.fst := by
            by_cases hc : k.1 ∈ (ks.take j).map Prod.fst
            · exact hc
            · have := (kIx_none (i := 0)).2 hc
              rw [hix] at this
              cases this
          rw [if_pos hin] at h1
          exact h1.symm
        clear hix
        go_wp2_with fail
        go_ret
        refine ⟨by rw [HE.out]; rfl, F, ?_, Fr.newer HBW.out⟩
        unfold crA
        rw [if_neg (by rw [HE.out]; decide)]
        exact HH.out.1.newer HBW.out
      | none =>
        rw [hix] at hlk
        dsimp only at hlk
        have HIX : Hid (kIx k.1 (ks.take j) 0 = none) := hix
        have HS2 : Hid ((if ckE dl k.1 k.2 = 0 then wrE dl (ks.take (j + 1)) (ks.drop (j + 1)) else ckE dl k.1 k.2) = wrE dl [] ks) := by
          have h1 := HST.out
          rw [if_neg (kIx_none.1 hix)] at h1
          exact h1
        have HCK : Hid (Calls Try.prog 69 #[.pointer (some ⟨D, 0, none⟩), .agg #[.string (tx k.1), .slice na k.2.length nc]] W2 fun e w' => e = .returned (.int .i64 (ckE dl k.1 k.2)) ∧ Below W2.heap.size W2 w') := by
          refine canKeep_any (HH.out.1.newer HBW.out) (NumsP.nums (P := P) (HNV.out.1.at' fun q hq => HB2.out.block q ?_) fun q hq => ?_) HNV.out.2 fun x hx => (HH.out.2.2 x hx).2.1
          · have h1 := (HH.out.2.1 q hq).1
            have h2 := HI.out.1.be.size
            have h3 := HPP.out
            omega
          · have h1 := (HH.out.2.1 q hq).1
            have h2 := HBW.out.size
            omega
        obtain ⟨ck, hck⟩ : ∃ ck, ckE dl k.1 k.2 = ck := ⟨_, rfl⟩
        have HCE : Hid (ckE dl k.1 k.2 = ck) := hck
        rw [hck] at HCK HS2
        clear hix hck
        by_cases hc0 : ck = 0
        · subst hc0
          go_upto_region 11 with (go_at_call 69; refine HCK.out.mono ?_; rintro e W3 ⟨rfl, hb3⟩; (have HB3 : Hid (Below W2.heap.size W2 W3) := hb3); clear hb3)
          have hx3 : W3.heap[p]? = some (.cells #[.string (tx k.1), .slice na k.2.length nc] 86 (0, 0)) := (HB3.out.block p (Array.getElem?_eq_some_iff.1 HX2.out).1).trans HX2.out
          have r0 : W3.cell? ⟨p, 0, none⟩ = some (.string (tx k.1)) := by rw [cell_of_row _ _ _ _ _ _ hx3]; rfl
          obtain ⟨W4, hpu, hWI⟩ := WI.put (w := w) ⟨HBW.out, HM2.out⟩ HB3.out (Nat.le_of_eq HM.out) HK.out.1 HIX.out
          have HW4 : Hid (WI w W4 M ks (j + 1) ∧ wrE dl (ks.take (j + 1)) (ks.drop (j + 1)) = wrE dl [] ks) := ⟨hWI, by have h1 := HS2.out; rw [if_pos trivial] at h1; exact h1⟩
          clear hx3 hWI hlk q0 q1
          go_wp2_with fail
          go_roundw
          case rel => exact ⟨j + 1, by have := HK.out.2; omega, by go_num, HW4.out⟩
          case measure => have := HK.out.2; simp [intOf]; omega
        · have hcb : (ck == 0) = false := by simpa using hc0
          have HE : Hid (wrE dl [] ks = ck) := by
            have h1 := HS2.out
            rw [if_neg hc0] at h1
            exact h1.symm
          have HC0 : Hid (¬ ck = 0) := hc0
          go_wp2_with (go_at_call 69; refine HCK.out.mono ?_; rintro e W3 ⟨rfl, hb3⟩; (have HB3 : Hid (Below W2.heap.size W2 W3) := hb3); clear hb3)
          go_ret
          have hb := HBW.out.trans (HB3.out.mono HBW.out.size)
          refine ⟨by rw [HE.out]; rfl, F, ?_, Fr.newer hb⟩
          unfold crA
          rw [if_neg (by rw [HE.out]; exact HC0.out)]
          exact HH.out.1.newer hb
    · obtain rfl : j = n := by omega
      have hge : ¬ ((j : Int) < (j : Int)) := by omega
      have HE : Hid (wrE dl [] ks = 0 ∧ MapI wr M (entK ks 0) j ∧ Below w.heap.size w wr) := by
        obtain ⟨⟨h1, h2⟩, h3⟩ := HI.out
        rw [List.take_of_length_le (by have := HN.out; omega)] at h2
        rw [List.drop_of_length_le (by have := HN.out; omega)] at h3
        exact ⟨by rw [← h3]; rfl, h2, h1⟩
      have HKW : Hid (KeepsAt P wr (.slice ka j kc) ks) := HKA.out.at' fun q hq => HE.out.2.2.block q (HH.out.2.1 q hq).1
      have HR : Hid (DR wr D F sy dl) := HH.out.1.newer HE.out.2.2
      have HCA : Hid (crA dl ks = crD ks dl) := by show _ = _; unfold crA; rw [if_pos HE.out.1]
      clear hlt hj hmk
      rcases HR.out.ex with ⟨hd0, hb, -⟩ | ⟨K, tl, hx, hp, hF⟩
      · have hr := run_range_nilMap (P := Try.prog) wr 88 9 112 under68
        have hnx : ∀ ty, (Instr.next (.pointer (some ⟨wr.heap.size, 0, none⟩)) false ty).run Try.prog (wr.alloc (.mapIter none 0 #[] 0)) = .ok (.tuple #[.bool false]) (wr.alloc (.mapIter none 0 #[] 0)) := fun ty => run_next_nilMap wr ty 0 0 #[]
        have hc : wr.cell? ⟨D, 0, none⟩ = some (.map none) := by rw [cell_of_row _ _ _ _ _ _ hb]; rfl
        obtain ⟨W0, hW0⟩ : ∃ W0, wr.alloc (.mapIter none 0 #[] 0) = W0 := ⟨_, rfl⟩
        have HB : Hid (Below w.heap.size w W0 ∧ dl = []) := ⟨HE.out.2.2.trans ((show Below wr.heap.size wr W0 by rw [← hW0]; exact bel1 wr _).mono HE.out.2.2.size), hd0⟩
        rw [hW0] at hr hnx
        clear hb hW0 hd0
        obtain ⟨r, hre⟩ : ∃ r, wr.heap.size = r := ⟨_, rfl⟩
        rw [hre] at hr hnx
        clear hre
        go_upto_region 15 with (fail)
        go_wp2_with fail
        go_loopw [11, 12, 13, 14] (fun _ _ _ _ wx => wx = W0) (fun _ _ _ _ wx => 1)
        case atStart => rfl
        case round =>
          have hw : wr = W0 := hrel
          rw [hw]
          clear hw
          go_wp2_with fail
          go_ret
          refine ⟨by rw [HE.out.1]; rfl, F, ?_, Fr.newer HB.out.1⟩
          rw [HCA.out]
          have := HH.out.1.newer HB.out.1
          rw [HB.out.2] at this ⊢
          exact this
      · obtain ⟨es, c, hmp, hpm, hbk⟩ := hx.km
        have hnd : (dl.map Fd.nm).Nodup := HR.out.nd
        have hr := run_range_map (P := Try.prog) wr 88 9 112 K (ents es).toArray c under68 hmp
        obtain ⟨W0, hW0⟩ : ∃ W0, wr.alloc (.mapIter (some K) c #[] c) = W0 := ⟨_, rfl⟩
        rw [hW0] at hr
        have hb0 : Below wr.heap.size wr W0 := by rw [← hW0]; exact bel1 _ _
        have hi0 : W0.heap[wr.heap.size]? = some (.mapIter (some K) c #[] c) := by rw [← hW0]; exact heap_alloc_new _ _
        have hrest : rest es #[] = es := by unfold rest; simp
        have c0 : wr.cell? ⟨D, 0, none⟩ = some (.map (some K)) := hx.cells.1
        obtain ⟨r, hre⟩ : ∃ r, wr.heap.size = r := ⟨_, rfl⟩
        have hMlt : M < wr.heap.size := (Array.getElem?_eq_some_iff.1 HE.out.2.1).1
        have hKlt := hx.lt K (.inr (.inl rfl))
        have hFl : ∀ q, F q → q < w.heap.size := HH.out.1.lt
        have hsz := HE.out.2.2.size
        have hne : (prs es).map Prod.fst = es.map En.nm := by unfold prs; rw [List.map_map]; rfl
        have hnde : (es.map En.nm).Nodup := by
          rw [← hne, (hpm.map Prod.fst).nodup_iff]
          exact hx.knd
        obtain ⟨dlx, hdx⟩ : ∃ dlx, tl.map pl = dlx := ⟨_, rfl⟩
        have hin : ∀ x ∈ dlx, x.nm ∈ es.map En.nm := fun x hx' => by
          rw [← hne, (hpm.map Prod.fst).mem_iff, mlT_fst, ← pl_nm, hdx]
          exact List.mem_map_of_mem hx'
        have HX : Hid ((dlx.map Fd.nm).Nodup ∧ (es.map En.nm).Nodup ∧ Bok es c ∧ dlx.Perm dl ∧ (K ≠ r ∧ M ≠ r ∧ K ≠ M) ∧ ∀ x ∈ dlx, x.b.length ≤ 2000000 ∧ x.ws.length ≤ 2000000 ∧ WsOk x.b.length x.ws) := by
          refine ⟨by rw [← hdx, pl_nm]; exact hx.nd, hnde, hbk, by rw [← hdx]; exact hp, ⟨by omega, by omega, ?_⟩, fun x hx' => HH.out.2.2 x ?_⟩
          · have h1 := hFl K ((hF K).2 (.inr (.inl rfl)))
            have h2 := HM.out
            omega
          · rw [← hdx] at hx'
            exact hp.mem_iff.1 hx'
        have HI0 : Hid (RI w W0 D M r K c es sy dlx ks F #[]) := by
          refine ⟨by rw [← hre]; exact hi0, ⟨j, (hb0.block M hMlt).trans HE.out.2.1⟩, (hb0.block K hKlt).trans hmp, ⟨tl, hx.newer hb0, hpm, ?_, fun q hq => ?_⟩, ⟨hb0.os.trans HE.out.2.2.os, hb0.tape.trans HE.out.2.2.tape, hb0.output.trans HE.out.2.2.output, by have := hb0.size; omega⟩, fun q hq hn => ?_, ?_⟩
          · rw [hdx, hrest]
            conv => lhs; rw [← List.map_id dlx]
            refine List.map_congr_left fun x hx' => ?_
            rw [if_pos (hin x hx')]
            rfl
          · have h1 := hFl q ((hF q).2 hq)
            have h2 := HM.out
            exact ⟨.inl ((hF q).2 hq), by omega, by omega⟩
          · rw [hb0.block q (by omega)]
            exact HE.out.2.2.block q hq
          · have h1 : W0.heap.size = wr.heap.size + 1 := by rw [← hW0]; simp
            have h2 := HM.out
            exact ⟨by omega, by omega, by omega, by omega⟩
        have HZ : Hid (wrE dl [] ks = 0) := HE.out.1
        rw [hre] at hr
        clear hx hp hF hmp hpm hbk hnd hW0 hb0 hi0 hrest hre hMlt hKlt hFl hsz hne hnde hdx hin HR HKW HE
        go_upto_region 15 with (fail)
        go_wp2_with fail
        go_loopw [11, 12, 13, 14] (fun _ _ _ _ wx => ∃ (seen : Array Nat), Hid (RI w wx D M r K c es sy dlx ks F seen)) (fun _ _ _ _ wx => iLeft es wx r)
        case atStart => exact ⟨#[], HI0⟩
        case round =>
          obtain ⟨seen, HI⟩ := hrel
          have HK : Hid (iLeft es wr r = (rest es seen).length) := iLeft_at HI.out.it
          rcases range_step HI.out.it HI.out.mp HX.out.2.2.1 with ⟨h0, hnx⟩ | ⟨e, he, V, hpr, hnx, hen, hoff, hitV, o1, o2, o3, o4⟩
          · have HA : Hid (∃ F', DR wr D F' sy (crD ks dl) ∧ Fr F F' w wr) := by
              obtain ⟨tl, k1, k2, k3, k4⟩ := HI.out.ex
              obtain ⟨z1, z2, z3, z4⟩ := HI.out.fr
              refine ⟨CF D K tl, ⟨.inr ⟨K, tl, k1, ?_, fun q => Iff.rfl⟩⟩, ⟨z1, z2, z3, z4, HI.out.bl, fun q hq => (k4 q hq).1⟩⟩
              rw [k3, h0]
              unfold crD
              have : dlx.map (fun x => if x.nm ∈ ([] : List En).map En.nm then x else crF ks x) = dlx.map (crF ks) := List.map_congr_left fun x hx' => by simp
              rw [this]
              exact HX.out.2.2.2.1.map _
            clear h0 hr
            go_wp2_with fail
            go_ret
            refine ⟨by rw [HZ.out]; rfl, ?_⟩
            rw [HCA.out]
            exact HA.out
          · have hPV : ∀ q, P q → V.heap[q]? = w.heap[q]? := fun q hq => by
              obtain ⟨h1, h2⟩ := HH.out.2.1 q hq
              rw [hoff q (by have := HI.out.lo.2.2.1; omega)]
              exact HI.out.bl q h1 h2
            have hVs : w.heap.size ≤ V.heap.size := by rw [o4]; exact HI.out.fr.2.2.2
            obtain ⟨k, hmk⟩ := HI.out.ix
            have hmV : MapI V M (entK ks 0) k := (hoff M HX.out.2.2.2.2.1.2.1).trans hmk
            have hlk := look74 hmV e.nm
            have hlen := hpr.length_eq
            rw [List.length_cons] at hlen
            have HLT : Hid ((rest es (seen.push e.born)).length < iLeft es wr r) := by show _ < _; rw [HK.out]; omega
            have hKV : KeepsAt P V (.slice ka j kc) ks := HKA.out.at' hPV
            obtain ⟨ka', kc', hkv, -, hcl⟩ := hKV
            obtain ⟨hna, -, hnc⟩ := Value.slice.inj hkv
            subst hna
            subst hnc
            have HSTEP : Hid (∀ nv, NumsAt V nv (kNs e.nm ks) → ((kNs e.nm ks).length : Int) ≤ 140737488351232 → Calls Try.prog 70 #[.pointer (some ⟨e.q, 0, none⟩), nv] V fun x w3 => (∃ v, x = .returned v) ∧ Hid (RI w w3 D M r K c es sy dlx ks F (seen.push e.born))) := fun nv hn1 hn2 =>
              HI.out.step he hpr hoff hitV o1 o2 o3 o4 HX.out.2.2.2.2.1 HX.out.1 HX.out.2.1 HX.out.2.2.2.2.2 hn1 hn2
            cases hix : kIx e.nm ks 0 with
            | none =>
              rw [hix] at hlk
              dsimp only at hlk
              have hkn : kNs e.nm ks = [] := by unfold kNs; rw [hix]
              have HST : Hid (Calls Try.prog 70 #[.pointer (some ⟨e.q, 0, none⟩), .slice none 0 0] V fun x w3 => (∃ v, x = .returned v) ∧ Hid (RI w w3 D M r K c es sy dlx ks F (seen.push e.born))) :=
                HSTEP.out _ (by rw [hkn]; exact ⟨none, 0, rfl, Nat.le_refl _, fun i x hi => by simp at hi⟩) (by rw [hkn]; decide)
              clear hpr hoff hitV o1 o2 o3 o4 hlen he hr hPV hVs hmk hmV hkv hcl hix hkn HSTEP
              go_wp2_with (go_at_call 70; refine HST.out.mono ?_; rintro x w3 ⟨⟨v3, rfl⟩, HN3⟩)
              go_roundw
              case rel => exact ⟨seen.push e.born, HN3⟩
              case measure => rw [iLeft_at HN3.out.it]; exact HLT.out
            | some q =>
              rw [hix] at hlk
              dsimp only at hlk
              obtain ⟨hq1, kk, hq2, hq3, hq4⟩ := kIx_lt hix
              obtain ⟨nl, kb, ko, nv, hkb, -, k0, k1, knv⟩ := hcl q kk hq2
              subst hkb
              have hqj : (q : Int) < (j : Int) := by have := HN.out; omega
              have HST : Hid (Calls Try.prog 70 #[.pointer (some ⟨e.q, 0, none⟩), nv] V fun x w3 => (∃ v, x = .returned v) ∧ Hid (RI w w3 D M r K c es sy dlx ks F (seen.push e.born))) :=
                HSTEP.out _ (by rw [hq4]; exact knv.nums fun q hq => by have := (HH.out.2.1 q hq).1; omega) (by rw [hq4]; exact nl)
              obtain ⟨na, nc, hnv, -⟩ := knv
              subst hnv
              clear hpr hoff hitV o1 o2 o3 o4 hlen he hr hPV hVs hmk hmV hkv hcl hix hq1 hq2 hq3 hq4 nl k0 HSTEP
              go_wp2_with (go_at_call 70; refine HST.out.mono ?_; rintro x w3 ⟨⟨v3, rfl⟩, HN3⟩)
              go_roundw
              case rel => exact ⟨seen.push e.born, HN3⟩
              case measure => rw [iLeft_at HN3.out.it]; exact HLT.out
end Go.Proofs.Ytflhgphjkhplmaa.D

/- Bytes that come in are appended: from any source that lies outside the disk. -/
namespace Go.Proofs.Ytflhgphjkhplmaa.D
open Go.RowKit
set_option linter.unusedVariables false
set_option linter.unusedSimpArgs false

/-- Bytes that lie outside some blocks. -/
def SrcG (w : World) (G : Nat → Prop) (sv : Value) (bs : List Int) : Prop := ∀ W : World, (∀ q, q < w.heap.size → ¬ G q → W.heap[q]? = w.heap[q]?) → Src W sv bs
set_option maxRecDepth 20000 in
set_option maxHeartbeats 4000000 in
theorem write_growG (F : Nat) (dv bv : Value) (n m base : Nat) (xs ys : List Value) (sv : Value) (bs : List Int) (w : World) (hF : w.heap[F]? = some (.cells #[dv, bv] 118 (0, 0))) (hd : w.ownsRow base 5 1 dv n xs) (hb : w.ownsRow base 3 1 bv m ys) (hbase : base ≤ w.heap.size) (hs : SrcG w (fun q => q = F ∨ dv.ownBlock = some q ∨ bv.ownBlock = some q) sv bs) (hn : 0 < bs.length) (hl : n + bs.length ≤ 10000000) (hm : m ≤ 10000000) :
    Calls Try.prog 82 #[.pointer (some ⟨F, 0, none⟩), sv] w fun e w' => (∃ v, e = .returned v) ∧ ∃ dv' bv', w'.heap[F]? = some (.cells #[dv', bv'] 118 (0, 0)) ∧ w'.ownsRow base 5 1 dv' (n + bs.length) (xs ++ u8l bs) ∧ w'.ownsRow base 3 1 bv' (m + 1) (ys ++ [.int .i64 (n : Int)]) ∧ Kep w w' (fun q => q = F ∨ dv.ownBlock = some q ∨ bv.ownBlock = some q) ∧ (∀ q, dv'.ownBlock = some q → dv.ownBlock = some q ∨ w.heap.size ≤ q) ∧ (∀ q, bv'.ownBlock = some q → bv.ownBlock = some q ∨ w.heap.size ≤ q) := by
  obtain ⟨i0, hi, hz0, hz1, hz2⟩ := info_parts info3
  obtain ⟨da, dc, rfl⟩ := own_slice hd
  obtain ⟨ba, bc, rfl⟩ := own_slice hb
  obtain ⟨sa, sc, hsv⟩ := (hs w fun _ _ _ => rfl).slice
  have c0 : w.cell? ⟨F, 0, none⟩ = some (.slice da n dc) := by rw [cell_of_row _ _ _ _ _ _ hF]; rfl
  have c1 : w.cell? ⟨F, 1, none⟩ = some (.slice ba m bc) := by rw [cell_of_row _ _ _ _ _ _ hF]; rfl
  have HF : Hid (w.heap[F]? = some (.cells #[.slice da n dc, .slice ba m bc] 118 (0, 0))) := hF
  have HD : Hid (w.ownsRow base 5 1 (.slice da n dc) n xs) := hd
  have HBO : Hid (w.ownsRow base 3 1 (.slice ba m bc) m ys) := hb
  have HS : Hid (SrcG w (fun q => q = F ∨ (Value.slice da n dc).ownBlock = some q ∨ (Value.slice ba m bc).ownBlock = some q) sv bs) := hs
  have HBS : Hid (base ≤ w.heap.size ∧ n + bs.length ≤ 10000000 ∧ m ≤ 10000000) := ⟨hbase, hl, hm⟩
  obtain ⟨N, hN⟩ : ∃ N, bs.length = N := ⟨_, rfl⟩
  have HN : Hid (bs.length = N) := hN
  rw [hN] at hn hsv
  have hn0 : ((N : Int) == 0) = false := by rw [beq_eq_false_iff_ne]; omega
  have hFlt : F < w.heap.size := (Array.getElem?_eq_some_iff.1 hF).1
  have c0a : ∀ o, (w.alloc o).cell? ⟨F, 0, none⟩ = some (.slice da n dc) := fun o => by rw [cell_of_row _ _ _ _ _ _ ((Below.heap_alloc _ _ _ hFlt).trans hF)]; rfl
  have c1a : ∀ o, (w.alloc o).cell? ⟨F, 1, none⟩ = some (.slice ba m bc) := fun o => by rw [cell_of_row _ _ _ _ _ _ ((Below.heap_alloc _ _ _ hFlt).trans hF)]; rfl
  subst hsv
  clear hF hd hb hs hbase hl hm hN
  go_enter Try.func82, Try.ntmps82
  go_wp2_with fail
  go_region_law (refine step_append_lies _ rfl (.tmp 11) (.tmp 17) 36 rfl base 3 i0 (.int .i64 0) 1 8 Try.underlying36 hi hz0 hz1 hz2 rfl (by decide) (.slice ba m bc) m ys (by simp [Act.eval, Act.put]) (HBO.out.alloc _) ⟨w.heap.size, 0, none⟩ 1 1 [.int .i64 (n : Int)] (by simp [Act.eval, Act.put]) rfl (World.news_of_block (Go.heap_alloc_new _ _)) (by intro u hu; simp at hu; rw [hu]; rfl) (by decide) (by have := HBS.out; unfold maxLen; omega) (by have := HBS.out; omega) (by have := HBS.out; simp; omega) (w.heap.size + 1) (by simp) ?_; intro g' cp' w' ho' hg' hx' hy'; (have HNB : Hid ((Value.slice ba m bc).ownBlock = some g' ∨ g' = w.heap.size + 1) := hx'); (have HX1 : Hid (w'.heap[F]? = some (.cells #[.slice da n dc, .slice ba m bc] 118 (0, 0))) := (hg'.block F (by simp; omega) (own_other HBO.out HF.out (by decide))).trans ((Below.heap_alloc _ _ _ hFlt).trans HF.out)); (have d1 : w'.cell? ⟨F, 1, none⟩ = some (.slice ba m bc) := (by rw [cell_of_row _ _ _ _ _ _ HX1.out]; rfl)); (have f1 := frozen_of_row _ _ 1 _ _ HX1.out); (have HO1 : Hid (w'.ownsRow base 3 1 (.slice (some ⟨g', 0, none⟩) (m + 1) cp') (m + 1) (ys ++ [.int .i64 (n : Int)])) := ho'); (have HK1 : Hid (w.heap.size + 1 ≤ w'.heap.size ∧ ∀ q, q < w.heap.size → (Value.slice ba m bc).ownBlock ≠ some q → w'.heap[q]? = w.heap[q]?) := ⟨(by have h := hg'.size; simp at h; omega), fun q h1 h2 => (hg'.block q (by simp; omega) (fun e => h2 e.symm)).trans (Below.heap_alloc _ _ _ h1)⟩); (have HG1 : Hid (w'.os = w.os ∧ w'.tape = w.tape ∧ w'.output = w.output) := ⟨hg'.os, hg'.tape, hg'.output⟩); clear ho' hg' hx' hy')
  all_goals
    obtain ⟨W2, hW2⟩ : ∃ W2, w'.setCell ⟨F, 1, none⟩ (.slice (some ⟨g', 0, none⟩) (m + 1) cp') = W2 := ⟨_, rfl⟩
    have HX2 : Hid (W2.heap[F]? = some (.cells #[.slice da n dc, .slice (some ⟨g', 0, none⟩) (m + 1) cp'] 118 (0, 0))) := by
      show _ = _
      rw [← hW2]
      exact row_set _ HX1.out
    have HK2 : Hid (∀ q, q ≠ F → W2.heap[q]? = w'.heap[q]?) := fun q hq => by rw [← hW2]; exact Below.heap_setCell _ _ _ _ hq
    have HZ2 : Hid (W2.heap.size = w'.heap.size) := by show _ = _; rw [← hW2]; simp
    have HY2 : Hid (W2.os = w'.os ∧ W2.tape = w'.tape ∧ W2.output = w'.output) := by rw [← hW2]; exact ⟨rfl, rfl, rfl⟩
    have HD2 : Hid (W2.ownsRow base 5 1 (.slice da n dc) n xs) := own_at HD.out fun q hq => by
      obtain ⟨cur, hc⟩ := own_tag HD.out hq
      rw [HK2.out q (ne_tag hc HF.out (by decide))]
      refine HK1.out.2 q (Array.getElem?_eq_some_iff.1 hc).1 fun e => ?_
      obtain ⟨cur', hc'⟩ := own_tag HBO.out e
      exact ne_tag hc hc' (by decide) rfl
    have HO2 : Hid (W2.ownsRow base 3 1 (.slice (some ⟨g', 0, none⟩) (m + 1) cp') (m + 1) (ys ++ [.int .i64 (n : Int)])) := own_at HO1.out fun q hq => by
      obtain ⟨cur, hc⟩ := own_tag HO1.out hq
      exact HK2.out q (ne_tag hc HX1.out (by decide))
    have HS2 : Hid (Src W2 (.slice sa N sc) bs) := HS.out W2 fun q hq hn => by
      rw [HK2.out q (fun e => hn (.inl e))]
      exact HK1.out.2 q hq (fun e => hn (.inr (.inr e)))
    rw [hW2]
    have e0 : W2.cell? ⟨F, 0, none⟩ = some (.slice da n dc) := by rw [cell_of_row _ _ _ _ _ _ HX2.out]; rfl
    clear hW2 d1 f1 c0 c1 c0a c1a
    go_wp2_with (at_builtin; (refine append_src_near rfl (.tmp 25) (.tmp 26) rfl base (.slice da n dc) n xs rfl HD2.out (.slice sa N sc) bs rfl HS2.out (by have h2 := HN.out; omega) (by have := HBS.out; omega) (by have h1 := HBS.out; have h2 := HK1.out.1; have h3 := HZ2.out; omega) ?_; intro v3 w3 ho3 hg3 hn3; (have HND : Hid (∀ q, v3.ownBlock = some q → (Value.slice da n dc).ownBlock = some q ∨ W2.heap.size ≤ q) := hn3); clear hn3; (obtain ⟨xa, xc, hv3⟩ := own_slice ho3); subst hv3; (have HX3 : Hid (w3.heap[F]? = some (.cells #[.slice da n dc, .slice (some ⟨g', 0, none⟩) (m + 1) cp'] 118 (0, 0))) := (hg3.block F (by have h2 := HK1.out.1; have h3 := HZ2.out; omega) (own_other HD2.out HX2.out (by decide))).trans HX2.out); (have d3 : w3.cell? ⟨F, 0, none⟩ = some (.slice da n dc) := (by rw [cell_of_row _ _ _ _ _ _ HX3.out]; rfl)); (have f3 := frozen_of_row _ _ 0 _ _ HX3.out); (have HO3 : Hid (w3.ownsRow base 5 1 (.slice xa (n + bs.length) xc) (n + bs.length) (xs ++ u8l bs)) := ho3); (have HG3 : Hid (W2.grownBy w3 (Value.slice da n dc).ownBlock) := hg3); clear ho3 hg3))
    go_end0
    refine ⟨⟨_, rfl⟩, .slice xa (n + bs.length) xc, .slice (some ⟨g', 0, none⟩) (m + 1) cp', row_set _ HX3.out, ?_, ?_, ⟨?_, ?_, ?_, ?_, ?_⟩, ?_, ?_⟩
    · refine own_at HO3.out fun q hq => Below.heap_setCell _ _ _ _ ?_
      obtain ⟨cur, hc⟩ := own_tag HO3.out hq
      exact ne_tag hc HX3.out (by decide)
    · refine own_at (w := W2) HO2.out fun q hq => ?_
      obtain ⟨cur, hc⟩ := own_tag HO2.out hq
      rw [Below.heap_setCell _ _ _ _ (ne_tag hc HX2.out (by decide))]
      exact HG3.out.block q (Array.getElem?_eq_some_iff.1 hc).1 (own_other HD2.out hc (by decide))
    · exact HG3.out.os.trans (HY2.out.1.trans HG1.out.1)
    · exact HG3.out.tape.trans (HY2.out.2.1.trans HG1.out.2.1)
    · exact HG3.out.output.trans (HY2.out.2.2.trans HG1.out.2.2)
    · have h1 := HK1.out.1
      have h2 := HZ2.out
      have h3 := HG3.out.size
      simp
      omega
    · intro q h1 hx
      have h2 : q ≠ F := fun e => hx (.inl e)
      have h3 : (Value.slice da n dc).ownBlock ≠ some q := fun e => hx (.inr (.inl e))
      have h4 : (Value.slice ba m bc).ownBlock ≠ some q := fun e => hx (.inr (.inr e))
      have g1 := HK1.out.1
      have g2 := HZ2.out
      rw [Below.heap_setCell _ _ _ _ h2, HG3.out.block q (by omega) (fun e => h3 e.symm), HK2.out q h2]
      exact HK1.out.2 q h1 h4
    · intro q hq
      rcases HND.out q hq with e | e
      · exact .inl e
      · exact .inr (by have h1 := HK1.out.1; have h2 := HZ2.out; omega)
    · intro q hq
      have e : g' = q := by simpa [Value.ownBlock] using hq
      rcases HNB.out with h | h
      · exact .inl (e ▸ h)
      · exact .inr (by omega)
variable {w w' : World} {D K : Nat} {F : Nat → Prop} {sy : Int} {dl : List Fd} {s s' : List UInt8} {x : Fd} {tl : List Tn}
theorem SrcG.own {G : Nat → Prop} {base : Nat} {v : Value} {zs : List Int} (h : w.ownsRow base 5 1 v zs.length (u8l zs)) (hG : ∀ q, v.ownBlock = some q → ¬ G q) : SrcG w G v zs := fun W hW => own_src (own_at h fun q hq => hW q (h.lt q hq).2 (hG q hq))
theorem SrcG.fr {G G' : Nat → Prop} {sv : Value} {bs : List Int} (h : SrcG w G sv bs) (hf : Fr G G' w w') : SrcG w' G' sv bs := fun W hW => h W fun q hq hn => by
  have := hf.size
  rw [hW q (by omega) fun e => (hf.grow q e).elim hn fun c => by omega]
  exact hf.block q hq hn
theorem SrcG.now {G : Nat → Prop} {sv : Value} {bs : List Int} (h : SrcG w G sv bs) : Src w sv bs := h w fun _ _ _ => rfl
/-- A file that is written, as it lies. -/
theorem write_flG {f : Nat} {G : Nat → Prop} {b ws bs : List Int} {sv : Value} (h : FL w f G b ws) (hs : SrcG w G sv bs) (hl : b.length + bs.length ≤ 10000000) (hm : ws.length ≤ 10000000) :
    Calls Try.prog 82 #[.pointer (some ⟨f, 0, none⟩), sv] w fun e w' => (∃ v, e = .returned v) ∧ ∃ F2, FL w' f F2 (b ++ bs) (if bs = [] then ws else ws ++ [(b.length : Int)]) ∧ Fr G F2 w w' := by
  by_cases c : bs = []
  · subst c
    obtain ⟨sa, sc, hsv⟩ := (hs w fun _ _ _ => rfl).slice
    subst hsv
    refine (write_nil (f := f) (sa := sa) (sc := sc) w).mono ?_
    rintro e w' ⟨he, rfl⟩
    exact ⟨he, G, by simpa using h, Fr.refl _ _⟩
  · have hn : 0 < bs.length := List.length_pos_iff.2 c
    obtain ⟨dv, bv, g1, g2, g3, g4⟩ := h
    refine (write_growG f dv bv b.length ws.length 0 (u8l b) (ws.map iV) sv bs w g1 g2 g3 (Nat.zero_le _) (fun W hW => hs W fun q hq hx => hW q hq fun e => hx ((g4 q).2 e)) hn hl hm).mono ?_
    rintro e w' ⟨he, dv', bv', k1, k2, k3, k4, k5, k6⟩
    refine ⟨he, fun q => q = f ∨ dv'.ownBlock = some q ∨ bv'.ownBlock = some q, ⟨dv', bv', k1, ?_, ?_, fun q => Iff.rfl⟩, ⟨k4.os, k4.tape, k4.output, k4.size, fun q hq hx => k4.block q hq fun e => hx ((g4 q).2 e), ?_⟩⟩
    · rw [u8l_app] at k2
      rw [List.length_append]
      exact k2
    · rw [if_neg c]
      have e1 : (ws ++ [(b.length : Int)]).map iV = ws.map iV ++ [.int .i64 (b.length : Int)] := by simp [iV]
      rw [e1, List.length_append]
      exact k3
    · rintro q (e | e | e)
      · exact .inl ((g4 q).2 (.inl e))
      · exact (k5 q e).imp (fun e => (g4 q).2 (.inr (.inl e))) id
      · exact (k6 q e).imp (fun e => (g4 q).2 (.inr (.inr e))) id
set_option maxRecDepth 20000 in
set_option maxHeartbeats 4000000 in
theorem append_thereG (h : DR w D F sy dl) (hs : lkF s dl = some x) (hl : (s.length : Int) ≤ 140737488351232) (hn : nameB s = true) {sv : Value} {bs : List Int} (hsv : SrcG w F sv bs) (hx : x.b.length ≤ 1048576) (hw : x.ws.length ≤ 1048576) (hfit : (bs.length : Int) ≤ 1048576 - x.b.length) :
    Calls Try.prog 55 #[.pointer (some ⟨D, 0, none⟩), .string (tx s), sv] w fun e w' => e = .returned (.int .i64 0) ∧ ∃ F', DR w' D F' sy (setF s (x.b ++ bs) (if bs = [] then x.ws else x.ws ++ [(x.b.length : Int)]) dl) ∧ Fr F F' w w' := by
  obtain ⟨K, f, Ff, h1, h2, hfl, hsub, hT, -⟩ := h.open hs
  have HW := write_flG hfl (fun W hW => hsv W fun q hq hx => hW q hq fun e => hx (hsub q e).1) (by omega) (by omega)
  obtain ⟨dv, bv, g1, g2, g3, g4⟩ := hfl
  have HFI : Hid (Calls Try.prog 74 #[.pointer (some ⟨D, 0, none⟩), .string (tx s)] w fun e w' => e = .returned (.tuple #[.pointer (some ⟨f, 0, none⟩), .int .i64 0]) ∧ w' = w) := find_yes h1 h2
  have HNA : Hid (Calls Try.prog 56 #[.string (tx s)] w fun e w' => e = .returned (.bool true) ∧ w' = w) := by
    have := name_any s w hl
    rw [hn] at this
    exact this
  have HWR : Hid (Calls Try.prog 82 #[.pointer (some ⟨f, 0, none⟩), sv] w fun e w' => (∃ v, e = .returned v) ∧ ∃ F', DR w' D F' sy (setF s (x.b ++ bs) (if bs = [] then x.ws else x.ws ++ [(x.b.length : Int)]) dl) ∧ Fr F F' w w') := by
    refine HW.mono ?_
    rintro e w' ⟨he, F2, k1, k2⟩
    exact ⟨he, hT w' F2 _ _ k1 k2⟩
  obtain ⟨da, dc, hdv⟩ := own_slice g2
  obtain ⟨sa, sc, hsl⟩ := (hsv w fun _ _ _ => rfl).slice
  have cF : w.cell? ⟨f, 0, none⟩ = some dv := by rw [cell_of_row _ _ _ _ _ _ g1]; rfl
  rw [hdv] at cF
  have HG : Hid (setF s (x.b ++ bs) (if bs = [] then x.ws else x.ws ++ [(x.b.length : Int)]) dl = setF s (x.b ++ bs) (if bs = [] then x.ws else x.ws ++ [(x.b.length : Int)]) dl) := rfl
  generalize setF s (x.b ++ bs) (if bs = [] then x.ws else x.ws ++ [(x.b.length : Int)]) dl = dl' at HWR HG ⊢
  obtain ⟨M, hM⟩ : ∃ M, x.b.length = M := ⟨_, rfl⟩
  obtain ⟨N, hN⟩ : ∃ N, bs.length = N := ⟨_, rfl⟩
  rw [hM] at cF hfit hx
  rw [hN] at hsl hfit
  subst hsl
  clear h hs h1 h2 hl hn hsv hsub hT HW g1 g2 g3 g4 hdv hM hN hw HG
  go_enter Try.func55, Try.ntmps55
  go_wp2_with (first | (go_at_call 74; refine HFI.out.mono ?_; rintro e w1 ⟨rfl, hw1⟩; rw [hw1]; clear hw1) | (go_at_call 56; refine HNA.out.mono ?_; rintro e w1 ⟨rfl, hw1⟩; rw [hw1]; clear hw1) | (go_at_call 82; refine HWR.out.mono ?_; rintro e w2 ⟨⟨v2, rfl⟩, F2, k1, k2⟩; (have HR : Hid (DR w2 D F2 sy dl' ∧ Fr F F2 w w2) := ⟨k1, k2⟩); clear k1 k2))
  go_ret
  exact ⟨rfl, F2, HR.out.1, HR.out.2⟩
set_option maxRecDepth 20000 in
set_option maxHeartbeats 4000000 in
theorem append_newG (h : DR w D F sy dl) (hs : lkF s dl = none) (hl : (s.length : Int) ≤ 140737488351232) (hn : nameB s = true) {sv : Value} {bs : List Int} (hsv : SrcG w F sv bs) (hd : dl.length ≤ 64) (hb : bs.length ≤ 1048576 + 1048576) :
    Calls Try.prog 55 #[.pointer (some ⟨D, 0, none⟩), .string (tx s), sv] w fun e w' => e = .returned (.int .i64 (if 1048576 < bs.length then 4 else if dl.length = 64 then 7 else 0)) ∧ ∃ F', DR w' D F' sy (if 1048576 < bs.length then dl else if dl.length = 64 then dl else dl ++ [⟨s, bs, if bs = [] then [] else [0]⟩]) ∧ Fr F F' w w' := by
  have HFI : Hid (Calls Try.prog 74 #[.pointer (some ⟨D, 0, none⟩), .string (tx s)] w fun e w' => e = .returned (.tuple #[.pointer none, .int .i64 5]) ∧ w' = w) := h.findNo hs
  have HNA : Hid (Calls Try.prog 56 #[.string (tx s)] w fun e w' => e = .returned (.bool true) ∧ w' = w) := by
    have := name_any s w hl
    rw [hn] at this
    exact this
  obtain ⟨W, hW⟩ : ∃ W, w.alloc (.cells #[.slice none 0 0, .slice none 0 0] 118) = W := ⟨_, rfl⟩
  have hB : Below w.heap.size w W := by rw [← hW]; exact bel1 w _
  have hWF : W.heap[w.heap.size]? = some (.cells #[.slice none 0 0, .slice none 0 0] 118 (0, 0)) := by rw [← hW]; exact Go.heap_alloc_new _ _
  have hWD : DR W D F sy dl := h.newer hB
  have hFl : FL W w.heap.size (fun q => q = w.heap.size) [] [] := ⟨_, _, hWF, World.ownsRow_nil _ _ _ _, World.ownsRow_nil _ _ _ _, fun q => by simp [Value.ownBlock]⟩
  obtain ⟨mv, hbox, hlen⟩ := hWD.count
  have cW : W.cell? ⟨D, 0, none⟩ = some (.map mv) := by rw [cell_of_row _ _ _ _ _ _ hbox]; rfl
  have cWF : W.cell? ⟨w.heap.size, 0, none⟩ = some (.slice none 0 0) := by rw [cell_of_row _ _ _ _ _ _ hWF]; rfl
  have hlen3 := hlen 3
  have hnewF : ∀ q, q = w.heap.size → ¬ F q := fun q hq e => by have := h.lt q e; omega
  have hPU := put_any (s := s) hWD hFl hnewF
  have hout : outF s dl = dl := outF_none hs
  rw [hout] at hPU
  obtain ⟨sa, sc, hsl⟩ := (hsv w fun _ _ _ => rfl).slice
  obtain ⟨N, hN⟩ : ∃ N, bs.length = N := ⟨_, rfl⟩
  obtain ⟨M, hM⟩ : ∃ M, dl.length = M := ⟨_, rfl⟩
  have HP : Hid (Calls Try.prog 81 #[.pointer (some ⟨D, 0, none⟩), .string (tx s), .pointer (some ⟨w.heap.size, 0, none⟩)] W fun e w2 => (∃ v, e = .returned v) ∧ (bs.length ≤ 1048576 → Calls Try.prog 82 #[.pointer (some ⟨w.heap.size, 0, none⟩), sv] w2 fun e w3 => (∃ v, e = .returned v) ∧ ∃ F', DR w3 D F' sy (dl ++ [⟨s, bs, if bs = [] then [] else [0]⟩]) ∧ Fr F F' w w3)) := by
    refine hPU.mono ?_
    rintro e w2 ⟨he, k1, F', k2, k3, k4⟩
    refine ⟨he, fun hbs => ?_⟩
    refine (write_flG k1 (fun V hV => hsv V fun q hq hx => ?_) (by simp; omega) (by simp)).mono ?_
    · have z1 := hB.size
      have z2 := k3.size
      rw [hV q (by omega) (by show ¬ q = w.heap.size; omega), k3.block q (by omega) (by rintro (e | e); exact hx e; omega)]
      exact hB.block q hq
    rintro e w3 ⟨he3, F2, l1, l2⟩
    obtain ⟨F3, m1, m2⟩ := k4 w3 F2 _ _ l1 l2
    refine ⟨he3, F3, by simpa using m1, ?_⟩
    have f1 : Fr F (fun q => F q ∨ q = w.heap.size) w W := ⟨hB.os, hB.tape, hB.output, hB.size, fun q hq _ => hB.block q hq, fun q hq => hq.imp id fun e => by omega⟩
    exact (f1.trans' k3).trans' m2
  have HE : Hid (DR W D F sy dl ∧ Fr F F w W) := ⟨hWD, Fr.newer hB⟩
  rw [hN] at HP hsl hb ⊢
  rw [hM] at hlen3 hd ⊢
  subst hsl
  clear h hs hl hn hsv hB hWD hFl hbox hlen hnewF hPU hout hWF
  by_cases c1 : 1048576 < N
  · have c1' : (1048576 : Int) < (N : Int) := by omega
    rw [if_pos c1, if_pos c1]
    have hb' : (N : Int) ≤ 2097152 := by omega
    clear hb c1 HP hN hM
    go_enter Try.func55, Try.ntmps55
    go_wp2_with (first | (go_at_call 74; refine HFI.out.mono ?_; rintro e w1 ⟨rfl, hw1⟩; rw [hw1]; clear hw1) | (go_at_call 56; refine HNA.out.mono ?_; rintro e w1 ⟨rfl, hw1⟩; rw [hw1]; clear hw1))
    go_ret
    exact ⟨rfl, F, HE.out.1, HE.out.2⟩
  · have c1' : ¬ (1048576 : Int) < (N : Int) := by omega
    rw [if_neg c1, if_neg c1]
    by_cases c2 : M = 64
    · rw [if_pos c2, if_pos c2]
      subst c2
      clear hb c1 HP hN hM
      go_enter Try.func55, Try.ntmps55
      go_wp2_with (first | (go_at_call 74; refine HFI.out.mono ?_; rintro e w1 ⟨rfl, hw1⟩; rw [hw1]; clear hw1) | (go_at_call 56; refine HNA.out.mono ?_; rintro e w1 ⟨rfl, hw1⟩; rw [hw1]; clear hw1))
      go_ret
      exact ⟨rfl, F, HE.out.1, HE.out.2⟩
    · rw [if_neg c2, if_neg c2]
      have c2' : ((M : Int) == 64) = false := by rw [beq_eq_false_iff_ne]; omega
      have c2'' : ¬ (M : Int) = 64 := by omega
      have HN1 : Hid (N ≤ 1048576) := by show N ≤ 1048576; omega
      clear hb c1 hN hM c2
      generalize dl ++ [⟨s, bs, if bs = [] then [] else [0]⟩] = dl' at HP ⊢
      go_enter Try.func55, Try.ntmps55
      go_wp2_with (first | (go_at_call 74; refine HFI.out.mono ?_; rintro e w1 ⟨rfl, hw1⟩; rw [hw1]; clear hw1) | (go_at_call 56; refine HNA.out.mono ?_; rintro e w1 ⟨rfl, hw1⟩; rw [hw1]; clear hw1) | (go_at_call 81; refine HP.out.mono ?_; rintro e w2 ⟨⟨v2, rfl⟩, hk⟩; (have HK := hk HN1.out); (have HK2 : Hid (Calls Try.prog 82 #[.pointer (some ⟨w.heap.size, 0, none⟩), .slice sa N sc] w2 fun e w3 => (∃ v, e = .returned v) ∧ ∃ F', DR w3 D F' sy dl' ∧ Fr F F' w w3) := HK); clear hk HK) | (go_at_call 82; refine HK2.out.mono ?_; rintro e w3 ⟨⟨v3, rfl⟩, F3, m1, m2⟩; (have HR : Hid (DR w3 D F3 sy dl' ∧ Fr F F3 w w3) := ⟨m1, m2⟩); clear m1 m2))
      go_ret
      exact ⟨rfl, F3, HR.out.1, HR.out.2⟩
end Go.Proofs.Ytflhgphjkhplmaa.D

/- The model's disk as it lies; find. -/
namespace Go.Proofs.Ytflhgphjkhplmaa.D
open Go.RowKit
set_option linter.unusedVariables false
set_option linter.unusedSimpArgs false

/-- The same world, but for orders drawn. -/
def DwQ (w w' : World) : Prop := ∃ m, w' = w.drewN m
theorem DwQ.refl (w : World) : DwQ w w := ⟨0, rfl⟩
theorem DwQ.drewN {w w' : World} (h : DwQ w w') (m : Nat) : DwQ w (w'.drewN m) := by
  obtain ⟨k, rfl⟩ := h
  exact ⟨k + m, World.drewN_drewN _ _ _⟩
theorem DwQ.heap {w w' : World} (h : DwQ w w') (q : Nat) : w'.heap[q]? = w.heap[q]? := by
  obtain ⟨k, rfl⟩ := h
  rfl
theorem DwQ.below {w w' : World} (h : DwQ w w') : Below w.heap.size w w' := by
  obtain ⟨k, rfl⟩ := h
  exact ⟨rfl, rfl, rfl, Nat.le_refl _, fun _ _ => rfl⟩

/-- A file of the model: with where its bytes and its writes lie. -/
structure Mt where
  x : Fd
  da : Option Addr
  dc : Nat
  ba : Option Addr
  bc : Nat
def Mt.dv (t : Mt) : Value := .slice t.da t.x.b.length t.dc
def Mt.bv (t : Mt) : Value := .slice t.ba t.x.ws.length t.bc
def mt4 (t : Mt) : List Value := [.string (tx t.x.nm), t.dv, .int .i64 (safeN t.x.b t.x.ws), t.bv]
theorem mt4_len (t : Mt) : (mt4 t).length = 4 := rfl
theorem mt4_one (t : Mt) : ∀ u ∈ mt4 t, u.oneCell' = true := by
  intro u hu
  simp only [mt4, List.mem_cons, List.not_mem_nil, or_false] at hu
  rcases hu with rfl | rfl | rfl | rfl <;> rfl
def GT (t : Mt) (q : Nat) : Prop := t.dv.ownBlock = some q ∨ t.bv.ownBlock = some q
/-- A file's rows. -/
structure ML (w : World) (t : Mt) : Prop where
  rd : w.ownsRow 0 5 1 t.dv t.x.b.length (u8l t.x.b)
  rw : w.ownsRow 0 3 1 t.bv t.x.ws.length (t.x.ws.map iV)
variable {w w' : World}
theorem ML.at' {t : Mt} (h : ML w t) (hk : ∀ q, GT t q → w'.heap[q]? = w.heap[q]?) : ML w' t := ⟨own_at h.rd fun q hq => hk q (.inl hq), own_at h.rw fun q hq => hk q (.inr hq)⟩
theorem ML.lt {t : Mt} (h : ML w t) : ∀ q, GT t q → q < w.heap.size := by
  rintro q (hq | hq)
  · exact (h.rd.lt q hq).2
  · exact (h.rw.lt q hq).2
theorem ML.tag {t : Mt} (h : ML w t) : ∀ q, GT t q → ∃ c e, w.heap[q]? = some (.cells c e (0, 0)) ∧ (e = 5 ∨ e = 3) := by
  rintro q (hq | hq)
  · obtain ⟨cur, hc⟩ := own_tag h.rd hq
    exact ⟨cur, 5, hc, .inl rfl⟩
  · obtain ⟨cur, hc⟩ := own_tag h.rw hq
    exact ⟨cur, 3, hc, .inr rfl⟩
structure MS (w : World) (R : Nat) (lv : Value) (m : List Mt) (sy : Int) : Prop where
  box : w.heap[R]? = some (.cells #[lv, .int .i64 sy] 43 (0, 0))
  row : w.ownsRow 0 121 4 lv m.length (fl mt4 m)
  ml : ∀ t ∈ m, ML w t
  ap : m.Pairwise fun s t => ∀ q, GT s q → ¬ GT t q
def GM (R : Nat) (lv : Value) (m : List Mt) (q : Nat) : Prop := q = R ∨ lv.ownBlock = some q ∨ ∃ t ∈ m, GT t q
variable {R : Nat} {lv : Value} {m : List Mt} {sy : Int}
theorem MS.lt (h : MS w R lv m sy) : ∀ q, GM R lv m q → q < w.heap.size := by
  rintro q (rfl | hq | ⟨t, ht, hq⟩)
  · exact (Array.getElem?_eq_some_iff.1 h.box).1
  · exact (h.row.lt q hq).2
  · exact (h.ml t ht).lt q hq
theorem MS.at' (h : MS w R lv m sy) (hk : ∀ q, GM R lv m q → w'.heap[q]? = w.heap[q]?) : MS w' R lv m sy :=
  ⟨(hk R (.inl rfl)).trans h.box, own_at h.row fun q hq => hk q (.inr (.inl hq)), fun t ht => (h.ml t ht).at' fun q hq => hk q (.inr (.inr ⟨t, ht, hq⟩)), h.ap⟩
theorem MS.newer (h : MS w R lv m sy) (hb : Below w.heap.size w w') : MS w' R lv m sy := h.at' fun q hq => hb.block q (h.lt q hq)
theorem MS.cells (h : MS w R lv m sy) : w.cell? ⟨R, 0, none⟩ = some lv ∧ w.cell? ⟨R, 1, none⟩ = some (.int .i64 sy) ∧ ∀ i, w.frozen? ⟨R, i, none⟩ = false :=
  ⟨by rw [cell_of_row _ _ _ _ _ _ h.box]; rfl, by rw [cell_of_row _ _ _ _ _ _ h.box]; rfl, fun i => by simp [World.frozen?, h.box]⟩
/-- The box and the row are no file's rows. -/
theorem MS.ne (h : MS w R lv m sy) : (∀ q, lv.ownBlock = some q → q ≠ R) ∧ ∀ t, ML w t → ∀ q, GT t q → q ≠ R ∧ lv.ownBlock ≠ some q := by
  refine ⟨fun q hq => ?_, fun t ht q hq => ?_⟩
  · obtain ⟨cur, hc⟩ := own_tag h.row hq
    exact ne_tag hc h.box (by decide)
  · obtain ⟨c, e, h1, h2⟩ := ht.tag q hq
    refine ⟨ne_tag h1 h.box (by rcases h2 with rfl | rfl <;> decide), fun hl => ?_⟩
    obtain ⟨cur, hc⟩ := own_tag h.row hl
    exact ne_tag h1 hc (by rcases h2 with rfl | rfl <;> decide) rfl
/-- A file's cells. -/
theorem own_mt {W : World} {g n cap k : Nat} {m : List Mt} {t : Mt} (h : W.ownsRow 0 121 4 (.slice (some ⟨g, 0, none⟩) n cap) m.length (fl mt4 m)) (hk : m[k]? = some t) :
    W.cell? ⟨g, k * 4, none⟩ = some (.string (tx t.x.nm)) ∧ W.cell? ⟨g, k * 4 + 1, none⟩ = some (.slice t.da t.x.b.length t.dc) ∧ W.cell? ⟨g, k * 4 + 2, none⟩ = some (.int .i64 (safeN t.x.b t.x.ws)) ∧ W.cell? ⟨g, k * 4 + 3, none⟩ = some (.slice t.ba t.x.ws.length t.bc) ∧ ∀ i, W.frozen? ⟨g, i, none⟩ = false := by
  have hc : ∀ j u, (mt4 t)[j]? = some u → W.cell? ⟨g, k * 4 + j, none⟩ = some u := fun j u hu => by
    have := h.cells (g := g) rfl (k * 4 + j) u (by rw [fl_at mt4_len m k t j hk (by have := (List.getElem?_eq_some_iff.1 hu).1; simpa [mt4] using this)]; exact hu)
    rwa [Addr.add_lit, Nat.zero_add] at this
  refine ⟨hc 0 _ rfl, hc 1 _ rfl, hc 2 _ rfl, hc 3 _ rfl, fun i => ?_⟩
  obtain ⟨cur, hcu⟩ := own_tag h (q := g) rfl
  simp [World.frozen?, hcu]
def nmsM (m : List Mt) : List (List UInt8) := m.map fun t => t.x.nm
def ixM (s : List UInt8) : List Mt → Nat → Option Nat
  | [], _ => none
  | t :: r, i => if t.x.nm = s then some i else ixM s r (i + 1)
theorem ixM_hit {s : List UInt8} : ∀ {l : List Mt} {j i : Nat} {a : Mt}, l[j]? = some a → a.x.nm = s → (∀ (b : Nat) (x : Mt), b < j → l[b]? = some x → ¬ x.x.nm = s) → ixM s l i = some (i + j)
  | [], j, i, a, h, _, _ => by simp at h
  | x :: r, 0, i, a, h, hk, _ => by
    have e : x = a := by simpa using h
    subst e
    rw [ixM, if_pos hk]
    rfl
  | x :: r, j + 1, i, a, h, hk, hb => by
    rw [ixM, if_neg (hb 0 x (by omega) rfl), ixM_hit (by simpa using h) hk (fun b y hb' hy => hb (b + 1) y (by omega) (by simpa using hy))]
    congr 1
    omega
theorem ixM_miss {s : List UInt8} : ∀ {l : List Mt} {i : Nat}, (∀ (b : Nat) (x : Mt), l[b]? = some x → ¬ x.x.nm = s) → ixM s l i = none
  | [], i, _ => rfl
  | x :: r, i, h => by
    rw [ixM, if_neg (h 0 x rfl)]
    exact ixM_miss fun b y hy => h (b + 1) y (by simpa using hy)
def posV (o : Option Nat) : Int := match o with | some i => (i : Int) | none => -1
set_option maxRecDepth 20000 in
set_option maxHeartbeats 4000000 in
theorem MS.find (h : MS w R lv m sy) (hl : (m.length : Int) ≤ 1000000) (s : List UInt8) : Calls Try.prog 76 #[.pointer (some ⟨R, 0, none⟩), .string (tx s)] w fun e w' => e = .returned (.int .i64 (posV (ixM s m 0))) ∧ w' = w := by
  obtain ⟨sa, cap, hsv⟩ := own_slice h.row
  have HT : Hid (MS w R lv m sy) := h
  subst hsv
  have c0 := h.cells.1
  obtain ⟨n, hn⟩ : ∃ n, m.length = n := ⟨_, rfl⟩
  have HN : Hid (m.length = n) := hn
  rw [hn] at c0 hl
  clear h hn
  go_enter Try.func76, Try.ntmps76
  go_wp2_with fail
  go_loopw [5] (fun v wr => wr = w ∧ ∃ k : Nat, k ≤ n ∧ v = .int .i64 k ∧ Hid (∀ (j : Nat) (p : Mt), j < k → m[j]? = some p → ¬ p.x.nm = s)) (fun v wr => n - (intOf v).toNat)
  case atStart => exact ⟨rfl, 0, by omega, rfl, (fun j p hj => (Nat.not_lt_zero _ hj).elim : ∀ (j : Nat) (p : Mt), j < 0 → m[j]? = some p → ¬ p.x.nm = s)⟩
  case round =>
    obtain ⟨hwr, k, hk, rfl, HD⟩ := hrel
    rw [hwr]
    clear hwr
    by_cases hlt : k < n
    · have hlt' : (k : Int) < (n : Int) := by omega
      obtain ⟨t, ht⟩ : ∃ t, m[k]? = some t := ⟨_, List.getElem?_eq_getElem (by have := HN.out; omega)⟩
      have HS : Hid (m[k]? = some t ∧ k < n) := ⟨ht, hlt⟩
      obtain ⟨g, cp, hv⟩ := own_form HT.out.row (by have := HN.out; omega)
      have hsa : sa = some ⟨g, 0, none⟩ := (Value.slice.inj hv).1
      subst hsa
      have e0 := (own_mt HT.out.row ht).1
      have hcap : (n : Int) ≤ (cap : Int) := by have := own_cap HT.out.row; have := HN.out; omega
      clear ht hv
      by_cases hq : t.x.nm = s
      · have HE : Hid (ixM s m 0 = some k) := by
          show _ = _
          rw [ixM_hit HS.out.1 hq HD.out, Nat.zero_add]
        have hq' : ((tx t.x.nm).toList == (tx s).toList) = true := by rw [tx_list, tx_list]; simpa using hq
        clear hq
        go_wp2_with fail
        go_ret
        exact ⟨by rw [HE.out]; rfl, rfl⟩
      · have HN2 : Hid (∀ (j : Nat) (p : Mt), j < k + 1 → m[j]? = some p → ¬ p.x.nm = s) := by
          intro j p hj hp
          rcases (show j = k ∨ j < k from by omega) with rfl | h
          · rw [HS.out.1] at hp
            rw [← Option.some.inj hp]
            exact hq
          · exact HD.out j p h hp
        have hq' : ((tx t.x.nm).toList == (tx s).toList) = false := by rw [tx_list, tx_list]; simpa using hq
        clear hq
        go_wp2_with fail
        go_roundw
        case rel => exact ⟨by trivial, k + 1, by have := HS.out.2; omega, by go_num, HN2.out⟩
        case measure => have := HS.out.2; simp [intOf]; omega
    · have hge : ¬ ((k : Int) < (n : Int)) := by omega
      have HE : Hid (ixM s m 0 = none) := ixM_miss fun j x hx => HD.out j x (by have := (List.getElem?_eq_some_iff.1 hx).1; have := HN.out; omega) hx
      clear hlt
      go_wp2_with fail
      go_ret
      exact ⟨by rw [HE.out]; rfl, rfl⟩
end Go.Proofs.Ytflhgphjkhplmaa.D
