import Derived.Test.YtmlbojihjgbdlaaM04
import Derived.Test.YtmlbojihjgbdlaaM02
import Derived.BigQuiet
/- A file is copied. -/
namespace Go.Proofs.Ytmlbojihjgbdlaa.D
open Go.RowKit
set_option linter.unusedVariables false
set_option linter.unusedSimpArgs false

variable {w w' : World} {D K : Nat} {F : Nat → Prop} {sy : Int} {dl : List Fd} {s s' : List UInt8} {x : Fd} {tl : List Tn}
theorem drew_below (w : World) : Below w.heap.size w w.drew := ⟨rfl, rfl, rfl, Nat.le_refl _, fun _ _ => rfl⟩
/-- Two rows that a copy is made of. -/
def TwoR (w W : World) (p q : Value) (b ws : List Int) : Prop := W.ownsRow w.heap.size 5 1 p b.length (u8l b) ∧ W.ownsRow w.heap.size 3 1 q ws.length (ws.map iV) ∧ Below w.heap.size w W
theorem TwoR.made {W : World} {p q : Value} {b ws : List Int} (h : TwoR w W p q b ws) {V : World} (hV : W.alloc (.cells #[p, q] 80) = V) : w.heap.size ≤ W.heap.size ∧ ∃ G', FL V W.heap.size G' b ws ∧ (∀ q, G' q → w.heap.size ≤ q) ∧ Below w.heap.size w V := by
  obtain ⟨h1, h2, h3⟩ := h
  have hb : Below W.heap.size W V := by rw [← hV]; exact bel1 W _
  refine ⟨h3.size, fun z => z = W.heap.size ∨ p.ownBlock = some z ∨ q.ownBlock = some z, ⟨p, q, by rw [← hV]; exact Go.heap_alloc_new _ _, ?_, ?_, fun z => Iff.rfl⟩, ?_, ?_⟩
  · exact own_at (own_low h1 (Nat.zero_le _)) fun z hz => hb.block z (h1.lt z hz).2
  · exact own_at (own_low h2 (Nat.zero_le _)) fun z hz => hb.block z (h2.lt z hz).2
  · rintro z (e | e | e)
    · rw [e]; exact h3.size
    · exact (h1.lt z e).1
    · exact (h2.lt z e).1
  · exact h3.trans (hb.mono h3.size)
set_option maxRecDepth 20000 in
set_option maxHeartbeats 4000000 in
theorem file_copy {f : Nat} {G : Nat → Prop} {b ws : List Int} (h : FL w f G b ws) (hl : b.length ≤ 2000000) (hm : ws.length ≤ 2000000) : Calls Try.prog 45 #[.pointer (some ⟨f, 0, none⟩)] w fun e w' => ∃ f', e = .returned (.pointer (some ⟨f', 0, none⟩)) ∧ w.heap.size ≤ f' ∧ ∃ G', FL w' f' G' b ws ∧ (∀ q, G' q → w.heap.size ≤ q) ∧ Below w.heap.size w w' := by
  obtain ⟨dv, bv, g1, g2, g3, g4⟩ := h
  have fl : f < w.heap.size := (Array.getElem?_eq_some_iff.1 g1).1
  have cells : ∀ W, Below w.heap.size w W → W.cell? ⟨f, 0, none⟩ = some dv ∧ W.cell? ⟨f, 1, none⟩ = some bv := fun W hW => by
    have r := (hW.block f fl).trans g1
    exact ⟨by rw [cell_of_row _ _ _ _ _ _ r]; rfl, by rw [cell_of_row _ _ _ _ _ _ r]; rfl⟩
  have H5 : Hid (∀ W, Below w.heap.size w W → Calls Try.prog 49 #[dv] W fun e w' => ∃ va vc, e = .returned (.slice va b.length vc) ∧ Hid (w'.ownsRow w.heap.size 5 1 (.slice va b.length vc) b.length (u8l b) ∧ Below W.heap.size W w' ∧ Below w.heap.size w w') ∧ w'.cell? ⟨f, 0, none⟩ = some dv ∧ w'.cell? ⟨f, 1, none⟩ = some bv) := fun W hW => by
    refine (clone_any dv b W (own_src (own_at g2 fun q hq => hW.block q (g2.lt q hq).2)) (by omega)).mono ?_
    rintro e w2 ⟨⟨v2, rfl, ho⟩, hb⟩
    obtain ⟨va, vc, rfl⟩ := own_slice ho
    have hb2 := hW.trans (hb.mono hW.size)
    exact ⟨va, vc, rfl, ⟨own_low ho hW.size, hb, hb2⟩, cells _ hb2⟩
  have H3 : Hid (∀ W, Below w.heap.size w W → Calls Try.prog 61 #[bv] W fun e w' => ∃ va vc, e = .returned (.slice va ws.length vc) ∧ Hid (w'.ownsRow w.heap.size 3 1 (.slice va ws.length vc) ws.length (ws.map iV) ∧ Below W.heap.size W w' ∧ Below w.heap.size w w') ∧ w'.cell? ⟨f, 0, none⟩ = some dv ∧ w'.cell? ⟨f, 1, none⟩ = some bv) := fun W hW => by
    refine (clone_ints bv ws W (own_at g3 fun q hq => hW.block q (g3.lt q hq).2) (by omega)).mono ?_
    rintro e w2 ⟨⟨v2, rfl, ho⟩, hb⟩
    obtain ⟨va, vc, rfl⟩ := own_slice ho
    have hb2 := hW.trans (hb.mono hW.size)
    exact ⟨va, vc, rfl, ⟨own_low ho hW.size, hb, hb2⟩, cells _ hb2⟩
  have c0 := (cells w (Below.refl _ _)).1
  have c1 := (cells w (Below.refl _ _)).2
  obtain ⟨da, dc, rfl⟩ := own_slice g2
  obtain ⟨ba, bc, rfl⟩ := own_slice g3
  have HB : Hid (∀ W V : World, Below w.heap.size w W → V = W.drew ∨ V = W → Below w.heap.size w V) := fun W V h1 h2 => by
    rcases h2 with rfl | rfl
    · exact h1.trans ((drew_below W).mono h1.size)
    · exact h1
  clear g1 g2 g3 g4 cells fl
  go_enter Try.func45, Try.ntmps45
  go_wp2_with fail
  go_region_with (first | (go_at_call 49; refine (H5.out _ (by first | exact drew_below w | exact HE.out.2.2.trans ((drew_below _).mono HE.out.2.2.size) | exact HE.out.2.2)).mono ?_; rintro e wD ⟨va, vc, rfl, HD, d0, d1⟩) | (go_at_call 61; refine (H3.out _ (by first | exact drew_below w | exact HD.out.2.2.trans ((drew_below _).mono HD.out.2.2.size) | exact HD.out.2.2)).mono ?_; rintro e wE ⟨ua, uc, rfl, HE, e0, e1⟩))
  all_goals
    try go_wp2_with fail
    try go_ret
  all_goals first
    | exact ⟨_, rfl, TwoR.made (b := b) (ws := ws) ⟨own_at HD.out.1 fun q hq => HE.out.2.1.block q (HD.out.1.lt q hq).2, HE.out.1, HE.out.2.2⟩ rfl⟩
    | exact ⟨_, rfl, TwoR.made (b := b) (ws := ws) ⟨HD.out.1, own_at HE.out.1 fun q hq => HD.out.2.1.block q (HE.out.1.lt q hq).2, HD.out.2.2⟩ rfl⟩
end Go.Proofs.Ytmlbojihjgbdlaa.D

/- A disk is copied. -/
namespace Go.Proofs.Ytmlbojihjgbdlaa.D
open Go.RowKit
set_option linter.unusedVariables false
set_option linter.unusedSimpArgs false

variable {w w' : World} {D K : Nat} {F : Nat → Prop} {sy : Int} {dl : List Fd} {s s' : List UInt8} {x : Fd} {tl : List Tn}
def fdN (dl : List Fd) (s : List UInt8) : Fd := match lkF s dl with | some x => x | none => ⟨s, [], []⟩
theorem fdN_perm (h : DX w D K sy tl) (hp : (tl.map pl).Perm dl) {es : List En} (hpm : (prs es).Perm (mlT tl)) : (es.map fun e => fdN dl e.nm).Perm dl := by
  have hnd : (dl.map Fd.nm).Nodup := by
    rw [← (hp.map Fd.nm).nodup_iff, pl_nm]
    exact h.nd
  have e1 : (es.map fun e => fdN dl e.nm) = (prs es).map fun p => fdN dl p.1 := by unfold prs; rw [List.map_map]; rfl
  have e2 : ((mlT tl).map fun p => fdN dl p.1) = (tl.map pl).map fun x => fdN dl x.nm := by unfold mlT; rw [List.map_map, List.map_map]; rfl
  have e3 : (dl.map fun x => fdN dl x.nm) = dl := by
    conv => rhs; rw [← List.map_id dl]
    refine List.map_congr_left fun x hx => ?_
    unfold fdN
    rw [lkF_of hnd hx]
    rfl
  have p1 := hpm.map fun p => fdN dl p.1
  have p2 := hp.map fun x => fdN dl x.nm
  rw [e1]
  rw [e2] at p1
  rw [e3] at p2
  exact p1.trans p2
/-- What a copy's loop keeps. -/
structure CI (w wx : World) (O r K c : Nat) (es : List En) (sy : Int) (dl : List Fd) (seen : Array Nat) : Prop where
  it : wx.heap[r]? = some (.mapIter (some K) c seen c)
  be : Below w.heap.size w wx
  out : ∃ Fo dlo, DR wx O Fo sy dlo ∧ (∀ q, Fo q → w.heap.size ≤ q ∧ q ≠ r) ∧ (dlo ++ (rest es seen).map fun e => fdN dl e.nm).Perm dl
theorem CI.step {V : World} {O r c : Nat} {es : List En} {seen : Array Nat} {wx : World} (h : CI w wx O r K c es sy dl seen) {e : En} (hpr : (rest es seen).Perm (e :: rest es (seen.push e.born))) (hoff : ∀ q, q ≠ r → V.heap[q]? = wx.heap[q]?) (hit : V.heap[r]? = some (.mapIter (some K) c (seen.push e.born) c)) (o1 : V.os = wx.os) (o2 : V.tape = wx.tape) (o3 : V.output = wx.output) (o4 : V.heap.size = wx.heap.size) (hr : w.heap.size ≤ r) (hnd : (dl.map Fd.nm).Nodup)
    {t : Tn} (hk : lkF e.nm dl = some (pl t)) (hfl : FL V t.L t.F t.b t.ws) (hl : t.b.length ≤ 2000000) (hm : t.ws.length ≤ 2000000) :
    Calls Try.prog 45 #[.pointer (some ⟨t.L, 0, none⟩)] V fun x w2 => ∃ f', x = .returned (.pointer (some ⟨f', 0, none⟩)) ∧ Calls Try.prog 44 #[.pointer (some ⟨O, 0, none⟩), .string (tx e.nm), .pointer (some ⟨f', 0, none⟩)] w2 fun x w3 => (∃ v, x = .returned v) ∧ Hid (CI w w3 O r K c es sy dl (seen.push e.born)) := by
  obtain ⟨Fo, dlo, k1, k2, k3⟩ := h.out
  have hrlt : r < V.heap.size := (Array.getElem?_eq_some_iff.1 hit).1
  refine (file_copy hfl hl hm).mono ?_
  rintro x w2 ⟨f', rfl, hf', G', g1, g2, g3⟩
  refine ⟨f', rfl, ?_⟩
  have hV : DR V O Fo sy dlo := k1.at' fun q hq => hoff q (k2 q hq).2
  have hW : DR w2 O Fo sy dlo := hV.newer g3
  have hfd : fdN dl e.nm = pl t := by unfold fdN; rw [hk]
  have hnm : (pl t).nm = e.nm := (lkF_some hk).1
  have hp2 : (dlo ++ pl t :: (rest es (seen.push e.born)).map fun e => fdN dl e.nm).Perm dl := by
    have := hpr.map fun e => fdN dl e.nm
    rw [List.map_cons, hfd] at this
    exact (this.append_left dlo).symm.trans k3
  have hnone : lkF e.nm dlo = none := by
    rw [lkF_none]
    intro hin
    have h3 := (hp2.map Fd.nm).nodup_iff.2 hnd
    rw [List.map_append, List.map_cons] at h3
    have h4 := nd_mid h3
    rw [hnm] at h4
    exact h4 (List.mem_append.2 (.inl hin))
  refine (put_any (s := e.nm) hW g1 (fun q hq e => by have h1 := g2 q hq; have h2 := hV.lt q e; omega)).mono ?_
  rintro x w3 ⟨hx, -, F', m1, m2, -⟩
  refine ⟨hx, ?_⟩
  rw [outF_none hnone] at m1
  have z2 := g3.size
  have hrn : ¬ (Fo r ∨ G' r) := by
    rintro (e | e)
    · exact (k2 r e).2 rfl
    · have := g2 r e; omega
  refine ⟨(m2.block r (by omega) hrn).trans ((g3.block r hrlt).trans hit), ⟨m2.os.trans (g3.os.trans (o1.trans h.be.os)), m2.tape.trans (g3.tape.trans (o2.trans h.be.tape)), m2.output.trans (g3.output.trans (o3.trans h.be.output)), ?_, fun q hq => ?_⟩, F', dlo ++ [⟨e.nm, t.b, t.ws⟩], m1, fun q hq => ?_, ?_⟩
  · have h1 := h.be.size
    have h3 := m2.size
    omega
  · have h1 := h.be.size
    have hqV : V.heap[q]? = wx.heap[q]? := hoff q (by omega)
    have hn : ¬ (Fo q ∨ G' q) := by
      rintro (e | e)
      · have := (k2 q e).1; omega
      · have := g2 q e; omega
    exact (m2.block q (by omega) hn).trans ((g3.block q (by omega)).trans (hqV.trans (h.be.block q hq)))
  · have h1 := h.be.size
    rcases m2.grow q hq with (e | e) | e
    · exact k2 q e
    · have := g2 q e; exact ⟨by omega, by omega⟩
    · exact ⟨by omega, by omega⟩
  · have e1 : (⟨e.nm, t.b, t.ws⟩ : Fd) = pl t := by rw [← hnm]; rfl
    rw [e1, List.append_assoc]
    exact hp2
set_option maxRecDepth 20000 in
set_option maxHeartbeats 4000000 in
theorem copy_any (h : DR w D F sy dl) (hl : ∀ x ∈ dl, x.b.length ≤ 2000000 ∧ x.ws.length ≤ 2000000) : Calls Try.prog 18 #[.pointer (some ⟨D, 0, none⟩)] w fun e w' => e = .returned (.pointer (some ⟨w.heap.size, 0, none⟩)) ∧ ∃ F2, DR w' w.heap.size F2 sy dl ∧ (∀ q, F2 q → w.heap.size ≤ q) ∧ Below w.heap.size w w' := by
  obtain ⟨W1, hW1⟩ : ∃ W1, w.alloc (.cells #[.map none, .int .i64 sy] 70) = W1 := ⟨_, rfl⟩
  have hb1 : Below w.heap.size w W1 := by rw [← hW1]; exact bel1 w _
  have hz1 : W1.heap.size = w.heap.size + 1 := by rw [← hW1]; simp
  have hO1 : W1.heap[w.heap.size]? = some (.cells #[.map none, .int .i64 sy] 70 (0, 0)) := by rw [← hW1]; exact Go.heap_alloc_new _ _
  have hD1 : DR W1 w.heap.size (fun q => q = w.heap.size) sy [] := ⟨.inl ⟨rfl, hO1, fun q => Iff.rfl⟩⟩
  rcases h.ex with ⟨rfl, hb, -⟩ | ⟨K, tl, hx, hp, hF⟩
  · have hr := run_range_nilMap (P := Try.prog) W1 68 9 77 under68
    have hnx : ∀ ty, (Instr.next (.pointer (some ⟨W1.heap.size, 0, none⟩)) false ty).run Try.prog (W1.alloc (.mapIter none 0 #[] 0)) = .ok (.tuple #[.bool false]) (W1.alloc (.mapIter none 0 #[] 0)) := fun ty => run_next_nilMap W1 ty 0 0 #[]
    have hc1 : w.cell? ⟨D, 1, none⟩ = some (.int .i64 sy) := by rw [cell_of_row _ _ _ _ _ _ hb]; rfl
    have hlt := (Array.getElem?_eq_some_iff.1 hb).1
    have hc : W1.cell? ⟨D, 0, none⟩ = some (.map none) := by rw [cell_of_row _ _ _ _ _ _ ((hb1.block D hlt).trans hb)]; rfl
    obtain ⟨W0, hW0⟩ : ∃ W0, W1.alloc (.mapIter none 0 #[] 0) = W0 := ⟨_, rfl⟩
    have hb0 : Below W1.heap.size W1 W0 := by rw [← hW0]; exact bel1 W1 _
    have HB : Hid (DR W0 w.heap.size (fun q => q = w.heap.size) sy [] ∧ Below w.heap.size w W0) := ⟨hD1.newer hb0, hb1.trans (hb0.mono (by omega))⟩
    rw [hW0] at hr hnx
    clear h hl hb hW0 hb0 hD1 hO1 hz1 hb1 hlt
    obtain ⟨r, hre⟩ : ∃ r, W1.heap.size = r := ⟨_, rfl⟩
    rw [hre] at hr hnx
    clear hre
    go_enter Try.func18, Try.ntmps18
    go_wp2_with fail
    go_loopw [4] (fun a wx => wx = W0) (fun a wx => 1)
    case atStart => rfl
    case round =>
      have hw : wr = W0 := hrel
      rw [hw]
      clear hw
      go_wp2_with fail
      go_ret
      exact ⟨rfl, _, HB.out.1, fun q hq => Nat.le_of_eq hq.symm, HB.out.2⟩
  · obtain ⟨es, c, hmp, hpm, hbk⟩ := hx.km
    have hnd : (dl.map Fd.nm).Nodup := h.nd
    have hr := run_range_map (P := Try.prog) W1 68 9 77 K (ents es).toArray c under68 ((hb1.block K hx.km.lt).trans hmp)
    obtain ⟨W0, hW0⟩ : ∃ W0, W1.alloc (.mapIter (some K) c #[] c) = W0 := ⟨_, rfl⟩
    rw [hW0] at hr
    have hb0 : Below W1.heap.size W1 W0 := by rw [← hW0]; exact bel1 _ _
    have hi0 : W0.heap[W1.heap.size]? = some (.mapIter (some K) c #[] c) := by rw [← hW0]; exact heap_alloc_new _ _
    have hrest : rest es #[] = es := by unfold rest; simp
    have hc1 : w.cell? ⟨D, 1, none⟩ = some (.int .i64 sy) := hx.cells.2.1
    have c0 : W1.cell? ⟨D, 0, none⟩ = some (.map (some K)) := (hx.newer hb1).cells.1
    have HX : Hid (DX w D K sy tl ∧ (tl.map pl).Perm dl ∧ MapAt w K es c ∧ (prs es).Perm (mlT tl) ∧ Bok es c ∧ K < w.heap.size ∧ (dl.map Fd.nm).Nodup ∧ ∀ x ∈ dl, x.b.length ≤ 2000000 ∧ x.ws.length ≤ 2000000) := ⟨hx, hp, hmp, hpm, hbk, hx.km.lt, hnd, hl⟩
    obtain ⟨r, hre⟩ : ∃ r, W1.heap.size = r := ⟨_, rfl⟩
    have HR : Hid (w.heap.size ≤ r) := by show _ ≤ _; omega
    have HI0 : Hid (CI w W0 w.heap.size r K c es sy dl #[]) := ⟨by rw [← hre]; exact hi0, hb1.trans (hb0.mono (by omega)), _, [], hD1.newer hb0, fun q hq => ⟨Nat.le_of_eq hq.symm, by have : q = w.heap.size := hq; omega⟩, by rw [hrest]; exact fdN_perm hx hp hpm⟩
    rw [hre] at hr
    clear h hl hx hp hF hmp hpm hbk hb0 hW0 hi0 hre hrest hb1 hz1 hO1 hD1 hnd
    go_enter Try.func18, Try.ntmps18
    go_wp2_with fail
    go_loopw [4, 5] (fun a b wx => ∃ (seen : Array Nat), Hid (CI w wx w.heap.size r K c es sy dl seen)) (fun a b wx => iLeft es wx r)
    case atStart => exact ⟨#[], HI0⟩
    case round =>
      obtain ⟨seen, HI⟩ := hrel
      have HK : Hid (iLeft es wr r = (rest es seen).length) := iLeft_at HI.out.it
      have hmpW : MapAt wr K es c := (HI.out.be.block K HX.out.2.2.2.2.2.1).trans HX.out.2.2.1
      rcases range_step HI.out.it hmpW HX.out.2.2.2.2.1 with ⟨h0, hnx⟩ | ⟨e, he, V, hpr, hnx, hen, hoff, hitV, o1, o2, o3, o4⟩
      · have HA : Hid (∃ Fo, DR wr w.heap.size Fo sy dl ∧ ∀ q, Fo q → w.heap.size ≤ q) := by
          obtain ⟨Fo, dlo, k1, k2, k3⟩ := HI.out.out
          rw [h0] at k3
          exact ⟨Fo, k1.perm (by simpa using k3), fun q hq => (k2 q hq).1⟩
        clear hmpW h0 hr
        go_wp2_with fail
        go_ret
        obtain ⟨Fo, k1, k2⟩ := HA.out
        exact ⟨rfl, Fo, k1, k2, HI.out.be⟩
      · obtain ⟨t, ht, t1, t2, t3⟩ := HX.out.1.entry HX.out.2.1 HX.out.2.2.2.1 he
        have hoff' : ∀ q, q < w.heap.size → V.heap[q]? = w.heap[q]? := fun q hq => (hoff q (by have := HR.out; omega)).trans (HI.out.be.block q hq)
        have hfl : FL V t.L t.F t.b t.ws := (HX.out.1.lr t ht).at' fun q hq => hoff' q ((HX.out.1.lr t ht).lt q hq)
        have hxt := HX.out.2.2.2.2.2.2.2 (pl t) (HX.out.2.1.mem_iff.1 (List.mem_map.2 ⟨t, ht, rfl⟩))
        have hst := HI.out.step hpr hoff hitV o1 o2 o3 o4 HR.out HX.out.2.2.2.2.2.2.1 t3 hfl hxt.1 hxt.2
        rw [t2] at hst
        have HST : Hid (Calls Try.prog 45 #[.pointer (some ⟨e.q, 0, none⟩)] V fun x w2 => ∃ f', x = .returned (.pointer (some ⟨f', 0, none⟩)) ∧ Calls Try.prog 44 #[.pointer (some ⟨w.heap.size, 0, none⟩), .string (tx e.nm), .pointer (some ⟨f', 0, none⟩)] w2 fun x w3 => (∃ v, x = .returned v) ∧ Hid (CI w w3 w.heap.size r K c es sy dl (seen.push e.born))) := hst
        have hlen := hpr.length_eq
        rw [List.length_cons] at hlen
        have HLT : Hid ((rest es (seen.push e.born)).length < iLeft es wr r) := by show _ < _; rw [HK.out]; omega
        clear hmpW hpr hoff hitV o1 o2 o3 o4 t1 t2 t3 ht hlen he hr hoff' hfl hxt hst
        go_wp2_with (first | (go_at_call 45; refine HST.out.mono ?_; rintro x w2 ⟨f', rfl, hpu⟩; (have HPU : Hid (Calls Try.prog 44 #[.pointer (some ⟨w.heap.size, 0, none⟩), .string (tx e.nm), .pointer (some ⟨f', 0, none⟩)] w2 fun x w3 => (∃ v, x = .returned v) ∧ Hid (CI w w3 w.heap.size r K c es sy dl (seen.push e.born))) := hpu); clear hpu) | (go_at_call 44; refine HPU.out.mono ?_; rintro x w3 ⟨⟨v3, rfl⟩, HN⟩))
        go_roundw
        case rel => exact ⟨seen.push e.born, HN⟩
        case measure => rw [iLeft_at HN.out.it]; exact HLT.out
end Go.Proofs.Ytmlbojihjgbdlaa.D

/- Rows that are the same. -/
namespace Go.Proofs.Ytmlbojihjgbdlaa.D
open Go.RowKit
set_option linter.unusedVariables false
set_option linter.unusedSimpArgs false

variable {w w' : World}
theorem row_at {w : World} {base g cap t : Nat} {f : Int → Value} {l : List Int} (h : w.ownsRow base t 1 (.slice (some ⟨g, 0, none⟩) l.length cap) l.length (l.map f)) (i : Nat) (x : Int) (hi : l[i]? = some x) : w.cell? ⟨g, i, none⟩ = some (f x) := by
  have hlt : i < l.length := (List.getElem?_eq_some_iff.1 hi).1
  rw [h.cellAt i (by omega), List.getElem?_map, hi]
  rfl
theorem row_form {w : World} {base t n : Nat} {v : Value} {xs : List Value} (h : w.ownsRow base t 1 v n xs) (hn : 0 < n) : ∃ g cap, v = .slice (some ⟨g, 0, none⟩) n cap ∧ n ≤ cap := by
  rcases h.2 with ⟨h1, h2⟩ | ⟨g, cap, cur, h1, _, _, h3, _⟩
  · omega
  · exact ⟨g, cap, h1, h3⟩
set_option maxRecDepth 20000 in
set_option maxHeartbeats 4000000 in
theorem equal_ints (a b : Value) (x y : List Int) (w : World) (ha : w.ownsRow 0 3 1 a x.length (x.map iV)) (hb : w.ownsRow 0 3 1 b y.length (y.map iV)) (hx : x.length ≤ 2000000) (hy : y.length ≤ 2000000) : Calls Try.prog 63 #[a, b] w fun e w' => e = .returned (.bool (decide (x = y))) ∧ Below w.heap.size w w' := by
  obtain ⟨aa, ac, rfl⟩ := own_slice ha
  obtain ⟨ba, bc, rfl⟩ := own_slice hb
  by_cases hn : x.length = y.length
  · have HA : Hid (w.ownsRow 0 3 1 (.slice aa x.length ac) x.length (x.map iV) ∧ w.ownsRow 0 3 1 (.slice ba y.length bc) y.length (y.map iV) ∧ x.length = y.length) := ⟨ha, hb, hn⟩
    have c1 := own_capv ha
    have c2 := own_capv hb
    obtain ⟨n, hnn⟩ : ∃ n, y.length = n := ⟨_, rfl⟩
    have HN : Hid (y.length = n) := hnn
    rw [hn] at c1 hx
    rw [hn]
    rw [hnn] at c1 c2 hx hy ⊢
    clear hn hnn ha hb
    go_enter Try.func63, Try.ntmps63
    go_wp2
    go_loopw [13] (fun i wx => ∃ (k : Nat), k ≤ n ∧ i = .int .i64 k ∧ Hid ((∀ j, j < k → x[j]? = y[j]?) ∧ Below w.heap.size w wx)) (fun i _ => n - (intOf i).toNat)
    case atStart => exact ⟨0, Nat.zero_le _, rfl, fun j hj => by omega, Below.refl _ _⟩
    case round =>
      obtain ⟨k, hk, rfl, HD⟩ := hrel
      by_cases hlt : k < n
      · obtain ⟨u, hu⟩ : ∃ u, x[k]? = some u := ⟨_, List.getElem?_eq_getElem (by have := HA.out.2.2; have := HN.out; omega)⟩
        obtain ⟨v, hv⟩ : ∃ v, y[k]? = some v := ⟨_, List.getElem?_eq_getElem (by have := HN.out; omega)⟩
        have hA : wr.ownsRow 0 3 1 (.slice aa x.length ac) x.length (x.map iV) := own_at HA.out.1 fun q hq => HD.out.2.block q (HA.out.1.lt q hq).2
        have hB : wr.ownsRow 0 3 1 (.slice ba y.length bc) y.length (y.map iV) := own_at HA.out.2.1 fun q hq => HD.out.2.block q (HA.out.2.1.lt q hq).2
        obtain ⟨g, cap, e1, e2⟩ := row_form hA (by have := HA.out.2.2; have := HN.out; omega)
        obtain ⟨g', cap', e3, e4⟩ := row_form hB (by have := HN.out; omega)
        injection e1 with e1 e1b e1c
        injection e3 with e3 e3b e3c
        subst e1
        subst e3
        have cu : wr.cell? ⟨g, k, none⟩ = some (iV u) := row_at hA k u hu
        have cv : wr.cell? ⟨g', k, none⟩ = some (iV v) := row_at hB k v hv
        have cu' : wr.drew.cell? ⟨g, k, none⟩ = some (iV u) := cu
        have cv' : wr.drew.cell? ⟨g', k, none⟩ = some (iV v) := cv
        have HB2 : Hid (∀ m, Below w.heap.size w (wr.drewN m)) := fun m => ⟨HD.out.2.os, HD.out.2.tape, HD.out.2.output, HD.out.2.size, HD.out.2.block⟩
        have HXY : Hid (x[k]? = some u ∧ y[k]? = some v) := ⟨hu, hv⟩
        have hlt' : (k : Int) < (n : Int) := by omega
        simp only [iV] at cu cv cu' cv'
        clear hA hB e1b e1c e2 e3b e3c e4 hu hv
        by_cases he : u = v
        · subst he
          have HS : Hid (∀ j, j < k + 1 → x[j]? = y[j]?) := by
            intro j hj
            rcases (show j = k ∨ j < k from by omega) with rfl | h
            · rw [HXY.out.1, HXY.out.2]
            · exact HD.out.1 j h
          go_upto_region 6 with fail
          go_quiet (fail)
          go_wp2
          go_roundw
          case rel => exact ⟨k + 1, by omega, by go_num, HS.out, HB2.out _⟩
          case measure => simp [intOf]; omega
        · have HN2 : Hid (decide (x = y) = false) := by
            refine decide_eq_false (fun h => he ?_)
            have h1 := HXY.out.1
            rw [h, HXY.out.2] at h1
            exact (Option.some.inj h1).symm
          go_upto_region 6 with fail
          go_quiet (fail)
          go_wp2
          try rw [Exit.noGoto_ret]
          go_ret
          exact ⟨by rw [HN2.out]; rfl, HB2.out _⟩
      · have hkn : k = n := by omega
        subst hkn
        have HE : Hid (decide (x = y) = true) := by
          refine decide_eq_true (List.ext_getElem? fun j => ?_)
          by_cases hj : j < k
          · exact HD.out.1 j hj
          · rw [List.getElem?_eq_none (by have := HA.out.2.2; have := HN.out; omega), List.getElem?_eq_none (by have := HN.out; omega)]
        clear hk hlt
        go_wp2
        go_ret
        exact ⟨by rw [HE.out]; rfl, HD.out.2⟩
  · have hq : decide (x = y) = false := decide_eq_false fun e => hn (by rw [e])
    have hn' : ¬ (x.length : Int) = (y.length : Int) := by omega
    rw [hq]
    generalize x.length = m at *
    generalize y.length = n at *
    clear ha hb hn hq
    go_enter Try.func63, Try.ntmps63
    go_wp2
    go_ret
    exact ⟨rfl, Below.refl _ _⟩
def uV (k : Int) : Value := .int .u8 k
theorem u8l_uV (b : List Int) : u8l b = b.map uV := rfl
set_option maxRecDepth 20000 in
set_option maxHeartbeats 4000000 in
theorem equal_bytes (a b : Value) (x y : List Int) (w : World) (ha : w.ownsRow 0 5 1 a x.length (x.map uV)) (hb : w.ownsRow 0 5 1 b y.length (y.map uV)) (hx : x.length ≤ 2000000) (hy : y.length ≤ 2000000) : Calls Try.prog 62 #[a, b] w fun e w' => e = .returned (.bool (decide (x = y))) ∧ Below w.heap.size w w' := by
  obtain ⟨aa, ac, rfl⟩ := own_slice ha
  obtain ⟨ba, bc, rfl⟩ := own_slice hb
  by_cases hn : x.length = y.length
  · have HA : Hid (w.ownsRow 0 5 1 (.slice aa x.length ac) x.length (x.map uV) ∧ w.ownsRow 0 5 1 (.slice ba y.length bc) y.length (y.map uV) ∧ x.length = y.length) := ⟨ha, hb, hn⟩
    have c1 := own_capv ha
    have c2 := own_capv hb
    obtain ⟨n, hnn⟩ : ∃ n, y.length = n := ⟨_, rfl⟩
    have HN : Hid (y.length = n) := hnn
    rw [hn] at c1 hx
    rw [hn]
    rw [hnn] at c1 c2 hx hy ⊢
    clear hn hnn ha hb
    go_enter Try.func62, Try.ntmps62
    go_wp2
    go_loopw [13] (fun i wx => ∃ (k : Nat), k ≤ n ∧ i = .int .i64 k ∧ Hid ((∀ j, j < k → x[j]? = y[j]?) ∧ Below w.heap.size w wx)) (fun i _ => n - (intOf i).toNat)
    case atStart => exact ⟨0, Nat.zero_le _, rfl, fun j hj => by omega, Below.refl _ _⟩
    case round =>
      obtain ⟨k, hk, rfl, HD⟩ := hrel
      by_cases hlt : k < n
      · obtain ⟨u, hu⟩ : ∃ u, x[k]? = some u := ⟨_, List.getElem?_eq_getElem (by have := HA.out.2.2; have := HN.out; omega)⟩
        obtain ⟨v, hv⟩ : ∃ v, y[k]? = some v := ⟨_, List.getElem?_eq_getElem (by have := HN.out; omega)⟩
        have hA : wr.ownsRow 0 5 1 (.slice aa x.length ac) x.length (x.map uV) := own_at HA.out.1 fun q hq => HD.out.2.block q (HA.out.1.lt q hq).2
        have hB : wr.ownsRow 0 5 1 (.slice ba y.length bc) y.length (y.map uV) := own_at HA.out.2.1 fun q hq => HD.out.2.block q (HA.out.2.1.lt q hq).2
        obtain ⟨g, cap, e1, e2⟩ := row_form hA (by have := HA.out.2.2; have := HN.out; omega)
        obtain ⟨g', cap', e3, e4⟩ := row_form hB (by have := HN.out; omega)
        injection e1 with e1 e1b e1c
        injection e3 with e3 e3b e3c
        subst e1
        subst e3
        have cu : wr.cell? ⟨g, k, none⟩ = some (uV u) := row_at hA k u hu
        have cv : wr.cell? ⟨g', k, none⟩ = some (uV v) := row_at hB k v hv
        have cu' : wr.drew.cell? ⟨g, k, none⟩ = some (uV u) := cu
        have cv' : wr.drew.cell? ⟨g', k, none⟩ = some (uV v) := cv
        have HB2 : Hid (∀ m, Below w.heap.size w (wr.drewN m)) := fun m => ⟨HD.out.2.os, HD.out.2.tape, HD.out.2.output, HD.out.2.size, HD.out.2.block⟩
        have HXY : Hid (x[k]? = some u ∧ y[k]? = some v) := ⟨hu, hv⟩
        have hlt' : (k : Int) < (n : Int) := by omega
        simp only [uV] at cu cv cu' cv'
        clear hA hB e1b e1c e2 e3b e3c e4 hu hv
        by_cases he : u = v
        · subst he
          have HS : Hid (∀ j, j < k + 1 → x[j]? = y[j]?) := by
            intro j hj
            rcases (show j = k ∨ j < k from by omega) with rfl | h
            · rw [HXY.out.1, HXY.out.2]
            · exact HD.out.1 j h
          go_upto_region 6 with fail
          go_quiet (fail)
          go_wp2
          go_roundw
          case rel => exact ⟨k + 1, by omega, by go_num, HS.out, HB2.out _⟩
          case measure => simp [intOf]; omega
        · have HN2 : Hid (decide (x = y) = false) := by
            refine decide_eq_false (fun h => he ?_)
            have h1 := HXY.out.1
            rw [h, HXY.out.2] at h1
            exact (Option.some.inj h1).symm
          go_upto_region 6 with fail
          go_quiet (fail)
          go_wp2
          try rw [Exit.noGoto_ret]
          go_ret
          exact ⟨by rw [HN2.out]; rfl, HB2.out _⟩
      · have hkn : k = n := by omega
        subst hkn
        have HE : Hid (decide (x = y) = true) := by
          refine decide_eq_true (List.ext_getElem? fun j => ?_)
          by_cases hj : j < k
          · exact HD.out.1 j hj
          · rw [List.getElem?_eq_none (by have := HA.out.2.2; have := HN.out; omega), List.getElem?_eq_none (by have := HN.out; omega)]
        clear hk hlt
        go_wp2
        go_ret
        exact ⟨by rw [HE.out]; rfl, HD.out.2⟩
  · have hq : decide (x = y) = false := decide_eq_false fun e => hn (by rw [e])
    have hn' : ¬ (x.length : Int) = (y.length : Int) := by omega
    rw [hq]
    generalize x.length = m at *
    generalize y.length = n at *
    clear ha hb hn hq
    go_enter Try.func62, Try.ntmps62
    go_wp2
    go_ret
    exact ⟨rfl, Below.refl _ _⟩
end Go.Proofs.Ytmlbojihjgbdlaa.D

/- What a crash leaves of a file: plain; runs of make and min. -/
namespace Go.Proofs.Ytmlbojihjgbdlaa.D
open Go.RowKit
set_option linter.unusedVariables false
set_option linter.unusedSimpArgs false

/-- Where a file's bytes are safe. -/
def safeN (b ws : List Int) : Int := match ws with | [] => (b.length : Int) | x :: _ => x
/-- Do writes stand one behind the other? -/
def WsOk (n : Nat) (ws : List Int) : Prop := ∀ i, i < ws.length → 0 ≤ ws.getD i 0 ∧ ws.getD i 0 ≤ endI n ws i ∧ endI n ws i ≤ (n : Int)
/-- How many bytes of a write are kept. -/
def cwN (b ws ns : List Int) (i : Nat) : Int := min (ns.getD i 0) (endI b.length ws i - ws.getD i 0)
def wAt (ws : List Int) (i : Nat) : Nat := (ws.getD i 0).toNat
def crStep (b : List Int) (p : Nat) (k : Int) (st : List Int × Nat) : List Int × Nat := if 0 < k then (splice st.1 p ((b.drop p).take k.toNat), p + k.toNat) else st
def crS (b ws ns : List Int) : Nat → List Int × Nat
  | 0 => (splice (List.replicate b.length 0) 0 (b.take (safeN b ws).toNat), (safeN b ws).toNat)
  | i + 1 => crStep b (wAt ws i) (cwN b ws ns i) (crS b ws ns i)
/-- What is left. -/
def crB (b ws ns : List Int) : List Int := (crS b ws ns ws.length).1.take (crS b ws ns ws.length).2
theorem safe_ok {b ws : List Int} (h : WsOk b.length ws) : 0 ≤ safeN b ws ∧ safeN b ws ≤ (b.length : Int) := by
  cases ws with
  | nil => exact ⟨Int.natCast_nonneg _, Int.le_refl _⟩
  | cons x r =>
    have := h 0 (by simp)
    simp at this
    unfold safeN
    dsimp only
    omega
theorem crS_len {b ws ns : List Int} (h : WsOk b.length ws) : ∀ i, i ≤ ws.length → (crS b ws ns i).1.length = b.length ∧ (crS b ws ns i).2 ≤ b.length
  | 0, _ => by
    have := safe_ok h
    unfold crS
    refine ⟨?_, by dsimp only; omega⟩
    dsimp only
    rw [length_splice] <;> simp <;> omega
  | i + 1, hi => by
    obtain ⟨h1, h2⟩ := crS_len (ns := ns) h i (by omega)
    obtain ⟨w0, w1, w2⟩ := h i (by omega)
    unfold crS crStep
    split
    · rename_i hk
      have hk2 : cwN b ws ns i ≤ endI b.length ws i - ws.getD i 0 := Int.min_le_right _ _
      refine ⟨?_, by dsimp only; unfold wAt; omega⟩
      dsimp only
      rw [length_splice, h1]
      rw [List.length_take, List.length_drop]
      unfold wAt
      omega
    · exact ⟨h1, h2⟩
theorem crB_len {b ws ns : List Int} (h : WsOk b.length ws) : (crB b ws ns).length = (crS b ws ns ws.length).2 := by
  have := crS_len (ns := ns) h ws.length (Nat.le_refl _)
  unfold crB
  rw [List.length_take]
  omega
/-- Where there is no number, nothing is kept. -/
theorem crS_stop {b ws ns : List Int} : ∀ (j i : Nat), ns.length ≤ i → crS b ws ns (i + j) = crS b ws ns i
  | 0, i, _ => rfl
  | j + 1, i, h => by
    rw [show i + (j + 1) = i + j + 1 by omega, crS, crS_stop j i h]
    have : cwN b ws ns (i + j) ≤ 0 := by
      unfold cwN
      rw [List.getD_eq_getElem?_getD, List.getElem?_eq_none (by omega)]
      exact Int.min_le_left _ _
    unfold crStep
    rw [if_neg (by omega)]
theorem crS_min (b ws ns : List Int) : crS b ws ns (min ns.length ws.length) = crS b ws ns ws.length := by
  by_cases h : ns.length ≤ ws.length
  · rw [Nat.min_eq_left h]
    have := crS_stop (b := b) (ws := ws) (ns := ns) (ws.length - ns.length) ns.length (Nat.le_refl _)
    rw [← this]
    congr 1
    omega
  · rw [Nat.min_eq_right (by omega)]
theorem u8l_splice (a c : List Int) (p : Nat) : u8l (splice a p c) = splice (u8l a) p (u8l c) := by simp [u8l, splice, List.map_take, List.map_drop]
theorem made_u8 (n : Nat) : madeCells (Value.int .u8 0).cells n = (u8l (List.replicate n 0)).toArray := by
  apply Array.toList_inj.1
  apply List.ext_getElem?
  intro i
  by_cases h : i < n
  · simp [madeCells, u8l, h, Value.cells, Nat.mod_one]
  · simp [madeCells, u8l, h]
theorem make_any (n : Nat) (hn : n ≤ 2000000) (w : World) : (Instr.makeSlice 31 (.int .i64 (n : Int)) (.int .i64 (n : Int))).run Try.prog w = .ok (.slice (some ⟨w.heap.size, 0, none⟩) n n) (w.alloc (.cells (u8l (List.replicate n 0)).toArray 5)) := by
  obtain ⟨i0, hi, hz0, hz1, hz2⟩ := info_parts info5
  have h := run_make (P := Try.prog) w 31 5 i0 _ Try.underlying31 hi hz0 .i64 .i64 (n : Int) (n : Int) (by omega) (Int.le_refl _) (by rw [hz2]; omega) (by omega)
  rw [h, hz1]
  simp only [Int.toNat_natCast, Nat.mul_one]
  rw [made_u8]
end Go.Proofs.Ytmlbojihjgbdlaa.D

/- A file is crashed. -/
namespace Go.Proofs.Ytmlbojihjgbdlaa.D
open Go.RowKit
set_option linter.unusedVariables false
set_option linter.unusedSimpArgs false

variable {w w' : World}
/-- Numbers as they lie, in blocks that are there. -/
def NumsAt (w : World) (v : Value) (ns : List Int) : Prop := ∃ a cap, v = .slice a ns.length cap ∧ ns.length ≤ cap ∧ ∀ (i : Nat) (x : Int), ns[i]? = some x → ∃ b off, a = some ⟨b, off, none⟩ ∧ b < w.heap.size ∧ w.cell? ⟨b, off + i, none⟩ = some (iV x)
theorem NumsAt.later {v : Value} {ns : List Int} {B : Nat} (h : NumsAt w v ns) (hb : Below B w w') (hB : w.heap.size ≤ B) : NumsAt w' v ns := by
  obtain ⟨a, cap, h1, h2, h3⟩ := h
  refine ⟨a, cap, h1, h2, fun i x hi => ?_⟩
  obtain ⟨b, off, e1, e2, e3⟩ := h3 i x hi
  exact ⟨b, off, e1, by have := hb.size; omega, (hb.cell (p := ⟨b, off + i, none⟩) (by show b < B; omega)).trans e3⟩
/-- What a crash's loop keeps: the file lies as it lay, and the new row has what is kept. -/
structure KI (w wx : World) (k : Nat) (cur : List Int) : Prop where
  row : wx.heap[k]? = some (.cells (u8l cur).toArray 5 (0, 0))
  be : Below k w wx
/-- Bytes that can be copied into a row. -/
structure CpOk (W : World) (k p : Nat) (dp : Option Addr) (cs : List Int) (N L : Nat) : Prop where
  l : (u8l cs).length = N
  c : 0 < (u8l cs).length → (some ⟨k, p, none⟩ : Option Addr) = some ⟨k, p, none⟩ ∧ ∃ ad, dp = some ad ∧ ∀ j v, (u8l cs)[j]? = some v → W.cell? (ad.add j) = some v
  f : p + (u8l cs).length ≤ L
theorem getD_at {l : List Int} {i : Nat} (h : i < l.length) : l[i]? = some (l.getD i 0) := by
  rw [List.getD_eq_getElem?_getD, List.getElem?_eq_getElem h]
  rfl
set_option maxRecDepth 20000 in
set_option maxHeartbeats 4000000 in
theorem crash_any {f : Nat} {G : Nat → Prop} {b ws ns : List Int} {nv : Value} (h : FL w f G b ws) (hl : b.length ≤ 2000000) (hm : ws.length ≤ 2000000) (hok : WsOk b.length ws) (hn : NumsAt w nv ns) (hnl : (ns.length : Int) ≤ 140737488351232) :
    Calls Try.prog 43 #[.pointer (some ⟨f, 0, none⟩), nv] w fun e w' => (∃ v, e = .returned v) ∧ ∃ G', FL w' f G' (crB b ws ns) [] ∧ Fr G G' w w' := by
  have HFL : Hid (FL w f G b ws) := h
  have HNS : Hid (NumsAt w nv ns) := hn
  obtain ⟨dv, bv, g1, g2, g3, g4⟩ := h
  obtain ⟨na, nc, rfl, hnc, hcells⟩ := hn
  obtain ⟨da, dc, rfl⟩ := own_slice g2
  obtain ⟨ba, bc, rfl⟩ := own_slice g3
  have hdc := own_capv g2
  have hbc := own_capv g3
  have hlt : f < w.heap.size := (Array.getElem?_eq_some_iff.1 g1).1
  obtain ⟨W, hW⟩ : ∃ W, w.alloc (.cells (u8l (List.replicate b.length 0)).toArray 5) = W := ⟨_, rfl⟩
  have hmk := make_any b.length hl w
  rw [hW] at hmk
  have hB : Below w.heap.size w W := by rw [← hW]; exact bel1 _ _
  have HK0 : Hid (KI w W w.heap.size (List.replicate b.length 0)) := ⟨by rw [← hW]; exact Go.heap_alloc_new _ _, hB⟩
  have HC : Hid (∀ V, Below w.heap.size w V → V.cell? ⟨f, 0, none⟩ = some (.slice da b.length dc) ∧ V.cell? ⟨f, 1, none⟩ = some (.slice ba ws.length bc)) := fun V hV => by
    have r := (hV.block f hlt).trans g1
    exact ⟨by rw [cell_of_row _ _ _ _ _ _ r]; rfl, by rw [cell_of_row _ _ _ _ _ _ r]; rfl⟩
  have c0 : w.cell? ⟨f, 0, none⟩ = some (.slice da b.length dc) := (HC.out w (Below.refl _ _)).1
  obtain ⟨d0, d1⟩ := HC.out W hB
  obtain ⟨k, hk⟩ : ∃ k, w.heap.size = k := ⟨_, rfl⟩
  have HKK : Hid (w.heap.size = k) := hk
  have HOK : Hid (WsOk b.length ws ∧ 0 ≤ safeN b ws ∧ safeN b ws ≤ (b.length : Int)) := ⟨hok, safe_ok hok⟩
  have hs0 := (safe_ok hok).1
  have hs1 := (safe_ok hok).2
  obtain ⟨s0, hs⟩ : ∃ s0 : Nat, (safeN b ws).toNat = s0 := ⟨_, rfl⟩
  have hsi : safeN b ws = (s0 : Int) := by omega
  have HS : Hid (safeN b ws = (s0 : Int)) := hsi
  obtain ⟨n, hnn⟩ : ∃ n, b.length = n := ⟨_, rfl⟩
  obtain ⟨m, hmm⟩ : ∃ m, ws.length = m := ⟨_, rfl⟩
  obtain ⟨N, hNN⟩ : ∃ N, ns.length = N := ⟨_, rfl⟩
  have HN : Hid (b.length = n ∧ ws.length = m ∧ ns.length = N) := ⟨hnn, hmm, hNN⟩
  have hmi : (m : Int) ≤ (bc : Int) := by omega
  have hni : (n : Int) ≤ (dc : Int) := by omega
  have hl' : (n : Int) ≤ 2000000 := by omega
  have hm' : (m : Int) ≤ 2000000 := by omega
  have hnl' : (N : Int) ≤ 140737488351232 := by omega
  rw [hnn] at c0 d0 HC hmk HK0 hs1
  rw [hmm] at d1 HC
  rw [hNN]
  rw [hk] at hmk HK0 HC
  have hsn : (s0 : Int) ≤ (n : Int) := by omega
  have hsd : (s0 : Int) ≤ (dc : Int) := by omega
  have HG : Hid (w.ownsRow 0 5 1 (.slice da b.length dc) b.length (u8l b) ∧ w.ownsRow 0 3 1 (.slice ba ws.length bc) ws.length (ws.map iV)) := ⟨g2, g3⟩
  clear hW hB hok hs0 hs1 hsi hs hnn hmm hNN hcells g1 g2 g3 g4 hl hm hnl hdc hbc hnc hlt
  go_enter Try.func43, Try.ntmps43
  go_upto_if 25 with (fail)
  go_cut [5] from 5 to 5 (fun c wx => c = .int .i64 (s0 : Int) ∧ wx = W)
  case first =>
    by_cases hw0 : m = 0
    · subst hw0
      have e0 : (n : Int) = (s0 : Int) := by
        have h1 := HN.out
        have h2 := HS.out
        have : ws = [] := List.eq_nil_of_length_eq_zero h1.2.1
        rw [this] at h2
        have h3 : (b.length : Int) = (s0 : Int) := h2
        omega
      go_wp2_with fail
      go_meet
      exact ⟨by rw [← e0], rfl⟩
    · have hmp : (0 : Int) < (m : Int) := by omega
      obtain ⟨x, r, hxr⟩ : ∃ x r, ws = x :: r := by
        cases ws with
        | nil => exact absurd HN.out.2.1.symm hw0
        | cons x r => exact ⟨x, r, rfl⟩
      have hx : x = (s0 : Int) := by
        have h2 := HS.out
        rw [hxr] at h2
        exact h2
      obtain ⟨g, cp, hv⟩ := own_form HG.out.2 (by have := HN.out.2.1; omega)
      obtain ⟨hba, -, -⟩ := Value.slice.inj hv
      subst hba
      have z0 : W.cell? ⟨g, 0, none⟩ = some (.int .i64 (s0 : Int)) := by
        have := row_at (f := iV) (own_at HG.out.2 fun q hq => HK0.out.be.block q (by have := (HG.out.2.lt q hq).2; rw [HKK.out] at this; exact this)) 0 x (by rw [hxr]; rfl)
        rw [this, hx]
        rfl
      clear hv hxr hx hw0
      go_wp2_with fail
      go_meet
      exact ⟨rfl, rfl⟩
  obtain ⟨rfl, hwc⟩ := hcut
  rw [hwc]
  clear hwc
  have HSRC : Hid (∀ (p : Nat) (cs : List Int), (∀ j x, cs[j]? = some x → b[p + j]? = some x) → 0 < (u8l cs).length → ∃ g, da = some ⟨g, 0, none⟩ ∧ ∀ V, Below k w V → ∀ j v, (u8l cs)[j]? = some v → V.cell? ((⟨g, p, none⟩ : Addr).add j) = some v) := by
    intro p cs hcs hpos
    obtain ⟨x, hx⟩ : ∃ x, cs[0]? = some x := ⟨_, List.getElem?_eq_getElem (by simpa [u8l] using hpos)⟩
    have hb0 := (List.getElem?_eq_some_iff.1 (hcs 0 x hx)).1
    obtain ⟨g, cp, hv⟩ := own_form HG.out.1 (by omega)
    obtain ⟨hba, -, -⟩ := Value.slice.inj hv
    subst hba
    refine ⟨g, rfl, fun V hV j v hv => ?_⟩
    obtain ⟨y, hy, rfl⟩ : ∃ y, cs[j]? = some y ∧ uV y = v := by
      rw [u8l_uV, List.getElem?_map] at hv
      exact Option.map_eq_some_iff.1 hv
    have hrow : V.ownsRow 0 5 1 (.slice (some ⟨g, 0, none⟩) b.length dc) b.length (b.map uV) := own_at HG.out.1 fun q hq => hV.block q (by have := (HG.out.1.lt q hq).2; rw [HKK.out] at this; exact this)
    have := row_at (f := uV) hrow (p + j) y (hcs j y hy)
    rw [Addr.add_mid]
    exact this
  have HT0 : Hid (u8l (b.take s0) = u8l (b.take s0) ∧ (u8l (b.take s0)).length = s0) := ⟨rfl, by simp [u8l]; have := HN.out.1; omega⟩
  have HCR0 : Hid (crS b ws ns 0 = (splice (List.replicate n 0) 0 (b.take s0), s0)) := by
    show _ = _
    unfold crS
    rw [HN.out.1, HS.out]
    rfl
  have hP1 : (u8l (b.take s0)).length = Nat.min s0 n := by rw [HT0.out.2]; exact (Nat.min_eq_left (by omega)).symm
  have hP2 : 0 < (u8l (b.take s0)).length → (some ⟨k, 0, none⟩ : Option Addr) = some ⟨k, 0, none⟩ ∧ ∃ ad, da = some ad ∧ ∀ j v, (u8l (b.take s0))[j]? = some v → W.cell? (ad.add j) = some v := fun hp => by
    obtain ⟨g, e1, e2⟩ := HSRC.out 0 (b.take s0) (fun j x hj => by
      rw [Nat.zero_add]
      rw [List.getElem?_take] at hj
      split at hj
      · exact hj
      · cases hj) hp
    exact ⟨rfl, _, e1, e2 _ HK0.out.be⟩
  have hP3 : 0 + (u8l (b.take s0)).length ≤ (u8l (List.replicate n 0)).length := by rw [HT0.out.2]; simp [u8l]; omega
  have HP : Hid (CpOk W k 0 da (b.take s0) (Nat.min s0 n) (u8l (List.replicate n 0)).length) := ⟨hP1, hP2, hP3⟩
  clear hP1 hP2 hP3
  go_wp2_with (refine wpList_copy_splice rfl (.tmp 32) (.tmp 38) 31 31 rfl 5 Try.underlying31 size5 (some ⟨k, 0, none⟩) da n n s0 dc rfl rfl k 0 (u8l (List.replicate n 0)) 5 HK0.out.row (u8l (b.take s0)) HP.out.l HP.out.c HP.out.f (u8l_one _) k w HK0.out.be (Nat.le_refl _) ?_; intro w1 hg1 hb1; (have HK1 : Hid (KI w w1 k (crS b ws ns 0).1) := ⟨by rw [HCR0.out, u8l_splice]; exact hg1.out, hb1⟩); clear hg1 hb1)
  obtain ⟨q, hq⟩ : ∃ q : Nat, (if (m : Int) < (N : Int) then (m : Int) else (N : Int)) = (q : Int) := by
    split
    · exact ⟨m, rfl⟩
    · exact ⟨N, rfl⟩
  have hqm : (q : Int) ≤ (m : Int) := by split at hq <;> omega
  have HQ : Hid (q = min N m) := by show q = min N m; split at hq <;> omega
  have hqb : (q : Int) ≤ (bc : Int) := by omega
  obtain ⟨f0, f1⟩ := HC.out w1 HK1.out.be
  clear HT0 HP d0 d1 c0 hmk
  go_cut [52, 53, 54] from 52 to 54 (fun x y z wx => x = .slice ba q bc ∧ y = .int .i64 (q : Int) ∧ z = .int .i64 0 ∧ Hid (KI w wx k (crS b ws ns 0).1))
  case first =>
    by_cases hmn : (m : Int) < (N : Int)
    · rw [if_pos hmn] at hq
      obtain rfl : m = q := by omega
      go_quiet (fail)
      go_wp2_with fail
      go_meet
      exact ⟨rfl, rfl, rfl, HK1.out.row, HK1.out.be.os, HK1.out.be.tape, HK1.out.be.output, HK1.out.be.size, HK1.out.be.block⟩
    · rw [if_neg hmn] at hq
      obtain rfl : N = q := by omega
      go_quiet (fail)
      go_wp2_with fail
      go_meet
      exact ⟨rfl, rfl, rfl, HK1.out.row, HK1.out.be.os, HK1.out.be.tape, HK1.out.be.output, HK1.out.be.size, HK1.out.be.block⟩
  obtain ⟨rfl, rfl, rfl, HK2⟩ := hcut
  clear HK1 hq f0 f1
  go_wp2_with fail
  go_loopw [54, 5, 6, 7, 8] (fun i e x y z wx => ∃ j : Nat, j ≤ q ∧ i = .int .i64 (j : Int) ∧ e = .int .i64 ((crS b ws ns j).2 : Int) ∧ Hid (KI w wx k (crS b ws ns j).1)) (fun i e x y z wx => q - (intOf i).toNat)
  case atStart => exact ⟨0, Nat.zero_le _, rfl, by rw [HCR0.out], HK2⟩
  case round =>
    obtain ⟨j, hj, rfl, rfl, HI⟩ := hrel
    by_cases hjq : j < q
    · have hjm : j < m := by omega
      have hjN : j < N := by have := HQ.out; omega
      have hjq' : (j : Int) < (q : Int) := by omega
      have hjc : (j : Int) < (bc : Int) := by omega
      have hjN' : (j : Int) < (N : Int) := by omega
      have HJ : Hid (j < q ∧ j < m ∧ j < N) := ⟨hjq, hjm, hjN⟩
      obtain ⟨ok0, ok1, ok2⟩ := HOK.out.1 j (by have := HN.out; omega)
      obtain ⟨p, hp⟩ : ∃ p : Nat, wAt ws j = p := ⟨_, rfl⟩
      have hpi : ws.getD j 0 = (p : Int) := by unfold wAt at hp; omega
      obtain ⟨E, hE⟩ : ∃ E, endI b.length ws j = E := ⟨_, rfl⟩
      obtain ⟨x, hx⟩ : ∃ x, ns.getD j 0 = x := ⟨_, rfl⟩
      rw [hpi] at ok0 ok1
      rw [hE] at ok1 ok2
      rw [HN.out.1] at ok2
      have HPE : Hid (wAt ws j = p ∧ ws.getD j 0 = (p : Int) ∧ endI b.length ws j = E ∧ ns.getD j 0 = x) := ⟨hp, hpi, hE, hx⟩
      obtain ⟨K, hK⟩ : ∃ K, cwN b ws ns j = K := ⟨_, rfl⟩
      have HKD : Hid (cwN b ws ns j = K) := hK
      have hKe : (if E - (p : Int) < x then E - (p : Int) else x) = K := by
        rw [← hK]
        unfold cwN
        rw [hpi, hE, hx, Int.min_def]
        split <;> split <;> omega
      have hKle : K ≤ E - (p : Int) := by split at hKe <;> omega
      obtain ⟨g, cp, hv⟩ := own_form HG.out.2 (by have := HN.out; omega)
      obtain ⟨hba, -, -⟩ := Value.slice.inj hv
      subst hba
      have z0 : wr.cell? ⟨g, j, none⟩ = some (.int .i64 (p : Int)) := by
        have := row_at (f := iV) (own_at HG.out.2 fun q hq => HI.out.be.block q (by have := (HG.out.2.lt q hq).2; rw [HKK.out] at this; exact this)) j (p : Int) (by rw [← hpi]; exact getD_at (by have := HN.out; omega))
        exact this
      obtain ⟨na', nc', hnv, hncc, hcl⟩ := HNS.out.later HI.out.be (by rw [HKK.out]; exact Nat.le_refl _)
      obtain ⟨hna, -, hnc⟩ := Value.slice.inj hnv
      subst hna
      subst hnc
      obtain ⟨nb, no, hnb, -, n0⟩ := hcl j x (by rw [← hx]; exact getD_at (by have := HN.out; omega))
      subst hnb
      have n0' : wr.cell? ⟨nb, no + j, none⟩ = some (.int .i64 x) := n0
      have hw1 : IntKind.i64.wrap (E - (p : Int)) = E - (p : Int) := by rw [IntKind.wrap_i64]; omega
      have HE : Hid (∀ V, Below k w V → Calls Try.prog 60 #[.pointer (some ⟨f, 0, none⟩), .int .i64 (j : Int)] V fun e w' => e = .returned (.int .i64 E) ∧ ∃ n, w' = V.drewN n) := fun V hV => by
        obtain ⟨dv, bv, g1, g2, g3, g4⟩ := HFL.out.at' fun q hq => hV.block q (by have := HFL.out.lt q hq; rw [HKK.out] at this; exact this)
        obtain ⟨da', dc', rfl⟩ := own_slice g2
        refine (end_any f da' dc' b.length 0 j bv ws V g1 g3 (by have := HN.out; omega) (by have := HN.out; omega)).mono ?_
        rintro e w' ⟨rfl, rfl⟩
        exact ⟨by rw [← HPE.out.2.2.1], 0, rfl⟩
      obtain ⟨f0, f1⟩ := HC.out wr HI.out.be
      clear hv hjq hjm hjN hp hpi hE hx hK hnv hncc hcl n0 hj
      go_upto_region 8 with (fail)
      go_cut [8] from 8 to 8 (fun c wx => c = .int .i64 K ∧ Hid (KI w wx k (crS b ws ns j).1))
      case first =>
        have HQD : Hid (∀ m, KI w (wr.drewN m) k (crS b ws ns j).1) := fun m => ⟨HI.out.row, HI.out.be.os, HI.out.be.tape, HI.out.be.output, HI.out.be.size, HI.out.be.block⟩
        by_cases hlt : E - (p : Int) < x
        · rw [if_pos hlt] at hKe
          subst hKe
          go_quiet (first | (go_at_call 60; refine Calls.quiet_of (HE.out _ ?_); exact (HQD.out _).be))
          go_wp2_with fail
          go_meet
          exact ⟨rfl, HQD.out _⟩
        · rw [if_neg hlt] at hKe
          subst hKe
          go_quiet (first | (go_at_call 60; refine Calls.quiet_of (HE.out _ ?_); exact (HQD.out _).be))
          go_wp2_with fail
          go_meet
          exact ⟨rfl, HQD.out _⟩
      obtain ⟨rfl, HI2⟩ := hcut
      obtain ⟨w2, hw2⟩ : ∃ w2, wc = w2 := ⟨_, rfl⟩
      rw [hw2] at HI2 ⊢
      clear hw2 HE z0 n0' f0 f1 hKe hw1
      by_cases hKp : 0 < K
      · obtain ⟨κ, rfl⟩ : ∃ κ : Nat, K = (κ : Int) := ⟨K.toNat, by omega⟩
        have hKp' : (0 : Int) < (κ : Int) := hKp
        obtain ⟨h, hh⟩ : ∃ h : Nat, p + κ = h := ⟨_, rfl⟩
        have hhi : (p : Int) + (κ : Int) = (h : Int) := by omega
        have hwr : IntKind.i64.wrap ((p : Int) + (κ : Int)) = (h : Int) := by rw [IntKind.wrap_i64]; omega
        have hhn : (h : Int) ≤ (n : Int) := by omega
        have hhd : (h : Int) ≤ (dc : Int) := by omega
        have hpn : (p : Int) ≤ (n : Int) := by omega
        have hph : (p : Int) ≤ (h : Int) := by omega
        have hne : ¬ n = p := by omega
        have hnd : ¬ dc = p := by omega
        obtain ⟨hcl1, hcl2⟩ := crS_len (ns := ns) HOK.out.1 j (by have := HN.out; have := HJ.out; omega)
        have HU : Hid (CpOk w2 k p (match da with | some a => some ⟨a.block, p, none⟩ | none => none) ((b.drop p).take κ) κ n) := by
          have hl1 : (u8l ((b.drop p).take κ)).length = κ := by
            simp [u8l]
            have := HN.out
            omega
          refine ⟨hl1, fun hp => ?_, by rw [hl1]; omega⟩
          obtain ⟨g, e1, e2⟩ := HSRC.out p ((b.drop p).take κ) (fun j x hj => by
            rw [List.getElem?_take] at hj
            split at hj
            · rw [List.getElem?_drop] at hj
              exact hj
            · cases hj) hp
          subst e1
          exact ⟨rfl, _, rfl, e2 _ HI2.out.be⟩
        obtain ⟨g', cp', hv'⟩ := own_form HG.out.1 (by have := HN.out; omega)
        obtain ⟨hba', -, -⟩ := Value.slice.inj hv'
        subst hba'
        have HCL : Hid ((u8l (crS b ws ns j).1).length = n) := by
          show _ = _
          rw [← HN.out.1, ← hcl1]
          simp [u8l]
        have HNX : Hid (crS b ws ns (j + 1) = (splice (crS b ws ns j).1 p ((b.drop p).take κ), h)) := by
          show _ = _
          rw [crS, HKD.out, HPE.out.1]
          unfold crStep
          rw [if_pos hKp, Int.toNat_natCast, hh]
        obtain ⟨f0, -⟩ := HC.out w2 HI2.out.be
        have HCUT : Hid ((h - p : Nat) = κ) := by show _ = _; omega
        clear hv' hh hcl1 hcl2 hKle ok0 ok1 ok2 hhi
        obtain ⟨e2, he2⟩ : ∃ e2, (crS b ws ns j).2 = e2 := ⟨_, rfl⟩
        rw [he2]
        go_upto_region 10 with (fail)
        go_region_law (refine step_copy_splice rfl (.tmp 74) (.tmp 83) 31 31 rfl 5 Try.underlying31 size5 (some ⟨k, p, none⟩) (some ⟨g', p, none⟩) (n - p) (n - p) (h - p) (dc - p) (by simp [Act.eval, Act.put]) (by simp [Act.eval, Act.put]) k p (u8l (crS b ws ns j).1) 5 HI2.out.row (u8l ((b.drop p).take κ)) (by rw [HU.out.l, HCUT.out]; exact (Nat.min_eq_left (by have := HCUT.out; omega)).symm) HU.out.c (by rw [HCL.out]; exact HU.out.f) (u8l_one _) k w (by repeat (first | exact HI2.out.be | refine Below.drew ?_)) (Nat.le_refl _) ?_; intro w6 hg6 hb6; (have HK6 : Hid (KI w w6 k (crS b ws ns (j + 1)).1) := ⟨by rw [HNX.out, u8l_splice]; exact hg6.out, hb6⟩); clear hg6 hb6)
        all_goals
          rw [HU.out.l, hwr]
          go_wp2_with fail
          go_roundw
          case rel => exact ⟨j + 1, by have := HJ.out; omega, by go_num, by rw [HNX.out], HK6.out⟩
          case measure => have := HJ.out; simp [intOf]; omega
      · have hKp' : ¬ K > 0 := hKp
        have HNX : Hid (crS b ws ns (j + 1) = crS b ws ns j) := by
          show _ = _
          rw [crS, HKD.out]
          unfold crStep
          rw [if_neg hKp]
        go_wp2_with fail
        go_roundw
        case rel => exact ⟨j + 1, by have := HJ.out; omega, by go_num, by rw [HNX.out], by rw [HNX.out]; exact HI2.out⟩
        case measure => have := HJ.out; simp [intOf]; omega
    · obtain rfl : j = q := by omega
      have HEQ : Hid (crS b ws ns j = crS b ws ns ws.length) := by
        show _ = _
        rw [← crS_min, HN.out.2.1, HN.out.2.2, ← HQ.out]
      obtain ⟨hcl1, hcl2⟩ := crS_len (ns := ns) HOK.out.1 j (by have := HN.out; omega)
      obtain ⟨e2, he2⟩ : ∃ e2, (crS b ws ns j).2 = e2 := ⟨_, rfl⟩
      rw [he2] at hcl2 ⊢
      have HBL : Hid ((crB b ws ns).length = e2) := by
        show _ = _
        rw [crB_len HOK.out.1, ← HEQ.out, he2]
      have HSR : Hid (Src wr (.slice (some ⟨k, 0, none⟩) e2 n) (crB b ws ns)) := by
        refine .inr ⟨⟨k, 0, none⟩, n, by rw [HBL.out], by rw [HBL.out, ← HN.out.1]; exact hcl2, fun i u hu => ?_⟩
        rw [Addr.add_mid, Nat.zero_add, cell_of_row _ _ _ _ _ _ HI.out.row]
        have hi : i < e2 := by
          have := (List.getElem?_eq_some_iff.1 hu).1
          rw [← HBL.out]
          simpa [u8l] using this
        have hbe : crB b ws ns = (crS b ws ns j).1.take e2 := by unfold crB; rw [← HEQ.out, he2]
        rw [← hu, hbe]
        simp [u8l, List.getElem?_take, hi]
      have HE2 : Hid (e2 ≤ b.length) := hcl2
      have hen : (e2 : Int) ≤ (n : Int) := by have := HN.out; omega
      have f9 := (HFL.out.at' (w' := wr) fun q hq => HI.out.be.block q (by have := HFL.out.lt q hq; rw [HKK.out] at this; exact this))
      have HFW : Hid (wr.heap[f]? = some (.cells #[.slice da n dc, .slice ba m bc] 80 (0, 0)) ∧ f < k ∧ G f) := by
        obtain ⟨dv, bv, g1, g2, g3, g4⟩ := HFL.out
        have hlt : f < k := by rw [← HKK.out]; exact (Array.getElem?_eq_some_iff.1 g1).1
        refine ⟨?_, hlt, (g4 f).2 (.inl rfl)⟩
        rw [HI.out.be.block f hlt, g1]
        obtain ⟨c0, c1⟩ := HC.out w (Below.refl _ _)
        rw [cell_of_row _ _ _ _ _ _ g1] at c0 c1
        have e0 : dv = .slice da n dc := by simpa using c0
        have e1 : bv = .slice ba m bc := by simpa using c1
        rw [e0, e1]
      clear hcl1 hcl2 he2 HEQ f9 hjq hj
      go_wp2_with (go_at_call 49; refine (clone_any _ _ _ HSR.out (by have := HBL.out; have := HE2.out; have := HN.out; omega)).mono ?_; rintro e w7 ⟨⟨v7, rfl, ho7⟩, hb7⟩; (obtain ⟨va, vc, hv7⟩ := own_slice ho7); subst hv7; (have HO7 : Hid (w7.ownsRow wr.heap.size 5 1 (.slice va (crB b ws ns).length vc) (crB b ws ns).length (u8l (crB b ws ns)) ∧ Below wr.heap.size wr w7) := ⟨ho7, hb7⟩); (have HX7 : Hid (w7.heap[f]? = some (.cells #[.slice da n dc, .slice ba m bc] 80 (0, 0))) := (hb7.block f (Array.getElem?_eq_some_iff.1 HFW.out.1).1).trans HFW.out.1); (have s0 : w7.cell? ⟨f, 0, none⟩ = some (.slice da n dc) := (by rw [cell_of_row _ _ _ _ _ _ HX7.out]; rfl)); (have s1 : w7.frozen? ⟨f, 0, none⟩ = false := frozen_of_row _ _ 0 _ _ HX7.out); (have s2 : w7.cell? ⟨f, 1, none⟩ = some (.slice ba m bc) := (by rw [cell_of_row _ _ _ _ _ _ HX7.out]; rfl)); (have s3 : w7.frozen? ⟨f, 1, none⟩ = false := frozen_of_row _ _ 1 _ _ HX7.out); clear ho7 hb7)
      go_end0
      have b7 := HO7.out.2
      have hfr : ∀ q, q ≠ f → ((w7.setCell ⟨f, 0, none⟩ (.slice va (crB b ws ns).length vc)).setCell ⟨f, 1, none⟩ (.slice none 0 0)).heap[q]? = w7.heap[q]? := fun q hq => by
        rw [Below.heap_setCell _ _ _ _ hq, Below.heap_setCell _ _ _ _ hq]
      have z7 := b7.size
      have z1 := HI.out.be.size
      have hkk := HKK.out
      have hfk := HFW.out.2.1
      refine ⟨⟨_, rfl⟩, fun q => q = f ∨ (Value.slice va (crB b ws ns).length vc).ownBlock = some q, ⟨.slice va (crB b ws ns).length vc, .slice none 0 0, row_set _ (row_set _ HX7.out), ?_, World.ownsRow_nil _ _ _ _, fun q => ?_⟩, ?_⟩
      · refine own_low (base := wr.heap.size) (own_at HO7.out.1 fun q hq => hfr q ?_) (Nat.zero_le _)
        have := (HO7.out.1.lt q hq).1
        omega
      · simp [Value.ownBlock]
      · refine ⟨b7.os.trans HI.out.be.os, b7.tape.trans HI.out.be.tape, b7.output.trans HI.out.be.output, by simp; omega, fun q hq hn => ?_, fun q hq => ?_⟩
        · have hqf : q ≠ f := fun e => hn (e ▸ HFW.out.2.2)
          rw [hfr q hqf, b7.block q (by omega)]
          exact HI.out.be.block q (by omega)
        · rcases hq with rfl | hq
          · exact .inl HFW.out.2.2
          · have := (HO7.out.1.lt q hq).1
            exact .inr (by omega)
end Go.Proofs.Ytmlbojihjgbdlaa.D
