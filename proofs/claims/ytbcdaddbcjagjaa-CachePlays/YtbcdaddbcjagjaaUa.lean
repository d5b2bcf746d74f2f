/- Clear of a cache; a cache that is full. -/
import Derived.Test.YtbcdaddbcjagjaaOg
import Derived.Maps.RangeRun
namespace Go.Proofs.Ytbcdaddbcjagjaa
open Go.RowKit
set_option linter.unusedVariables false
set_option linter.unusedSimpArgs false

variable {w w' : World} {C K D : Nat} {F : Nat → Prop} {most : Int} {tl a b : List Tn} {t : Tn} {E : List UInt8 → List It} {N : List UInt8 → Int × Int}
theorem CX.cr (h : CX w C K D most tl N) (hne : ∀ t ∈ tl, t.es ≠ []) (h1 : 1 ≤ most) (h2 : most ≤ 64) : CR w C (CF C K D tl) most (fun s => lkTl s tl) N := ⟨⟨K, D, tl, h, hne, fun s => rfl, fun q => Iff.rfl⟩, h1, h2⟩
theorem lkTl_at (h : ((a ++ t :: b).map Tn.nm).Nodup) : lkTl t.nm (a ++ t :: b) = t.es := by
  obtain ⟨h1, -⟩ := nd_split h
  rw [lkTl_app, if_neg h1]
  show (if t.nm = t.nm then t.es else _) = _
  rw [if_pos rfl]
theorem nm_inj : ∀ {es : List En} {x y : En}, (es.map En.nm).Nodup → x ∈ es → y ∈ es → x.nm = y.nm → x = y
  | [], x, y, _, hx, _, _ => by simp at hx
  | z :: r, x, y, h, hx, hy, e => by
    obtain ⟨h1, h2⟩ := List.nodup_cons.1 (show (z.nm :: r.map En.nm).Nodup from h)
    rcases List.mem_cons.1 hx with hx | hx <;> rcases List.mem_cons.1 hy with hy | hy
    · rw [hx, hy]
    · exact (h1 (by rw [← hx, e]; exact List.mem_map.2 ⟨y, hy, rfl⟩)).elim
    · exact (h1 (by rw [← hy, ← e]; exact List.mem_map.2 ⟨x, hx, rfl⟩)).elim
    · exact nm_inj h2 hx hy e
set_option maxRecDepth 20000 in
set_option maxHeartbeats 4000000 in
theorem CX.forget (h : CX w C K D most (a ++ t :: b) N) (hne : ∀ x ∈ a ++ t :: b, x.es ≠ []) (h1 : 1 ≤ most) (h2 : most ≤ 64) {es : List En} {c i : Nat} (hM : MapAt w K es c) (hf : fndE t.nm es 0 = some (i, t.L)) : Calls Try.prog 24 #[.pointer (some ⟨C, 0, none⟩), .string (tx t.nm)] w fun e w' => e = .returned (.int .i64 (t.es.length : Int)) ∧ w' = setM w K (.map (ents (es.eraseIdx i)).toArray c) := by
  have HL : Hid (Calls Try.prog 18 #[.pointer (some ⟨C, 0, none⟩), .string (tx t.nm)] w fun e w' => e = .returned (.int .i64 (t.es.length : Int)) ∧ w' = w) := by
    have := (h.cr hne h1 h2).len t.nm
    rw [lkTl_at h.nd] at this
    exact this
  have hp : 0 < (t.es.length : Int) := by have := List.length_pos_iff.2 (hne t (by simp)); omega
  have c1 := h.cells.2.1
  have hdel := fun ty => run_del70 hM hf ty
  obtain ⟨V, hV⟩ : ∃ V, setM w K (.map (ents (es.eraseIdx i)).toArray c) = V := ⟨_, rfl⟩
  have hdel' : ∀ ty, (Builtin.delete_ #[70, 9] ty #[.map (some K), .string (tx t.nm)]).run Try.prog w = .ok (.tuple #[]) V := fun ty => by rw [← hV]; exact hdel ty
  rw [hV]
  clear h hne h1 h2 hM hf hdel hV
  generalize (t.es.length : Int) = n at *
  go_enter Try.func24, Try.ntmps24
  go_wp2_with (go_at_call 18; refine HL.out.mono ?_; rintro e w1 ⟨rfl, hw1⟩; rw [hw1]; clear hw1)
  go_ret
  exact ⟨rfl, rfl⟩
def tot (tl : List Tn) : Nat := (tl.map fun t => t.es.length).sum
theorem tot_mid (a b : List Tn) (t : Tn) : tot (a ++ t :: b) = tot (a ++ b) + t.es.length := by
  unfold tot
  simp
  omega
theorem tot_le : ∀ (tl : List Tn), (∀ t ∈ tl, t.es.length ≤ 64) → tot tl ≤ tl.length * 64
  | [], _ => by simp [tot]
  | t :: r, h => by
    have h1 := tot_le r fun x hx => h x (by simp [hx])
    have h2 := h t (by simp)
    unfold tot at h1 ⊢
    simp
    omega
/-- What a loop over the tenants keeps. -/
structure LI (w wr : World) (C K D r c : Nat) (most : Int) (tl0 : List Tn) (N : List UInt8 → Int × Int) (tl : List Tn) (es : List En) (seen : Array Nat) : Prop where
  cx : CX wr C K D most tl N
  ne : ∀ t ∈ tl, t.es ≠ []
  sub : ∀ t ∈ tl, t ∈ tl0
  mp : MapAt wr K es c
  pm : (prs es).Perm (mlT tl)
  bk : Bok es c
  out : ∀ e ∈ es, seen.contains e.born = false
  it : wr.heap[r]? = some (.mapIter (some K) c seen c)
  fr : Fr (CF C K D tl0) (CF C K D tl) w wr
def kSz (w : World) (K : Nat) : Nat := match w.heap[K]? with | some (.map es _) => es.size | _ => 0
theorem kSz_map {w : World} {K c : Nat} {es : List En} (h : MapAt w K es c) : kSz w K = es.length := by
  unfold MapAt at h
  unfold kSz
  rw [h]
  simp [ents]
theorem left_all {es : List En} {seen : Array Nat} (h : ∀ e ∈ es, seen.contains e.born = false) : leftOf (ents es).toArray seen = (ents es).toArray := by
  unfold leftOf
  rw [Array.filter_eq_self]
  intro x hx
  simp [ents] at hx
  obtain ⟨e, he, rfl⟩ := hx
  have := h e he
  simpa using this
set_option maxHeartbeats 4000000 in
/-- A step: nothing is left, or one comes, and goes. -/
theorem LI.next {wr : World} {r c : Nat} {tl0 : List Tn} {es : List En} {seen : Array Nat} (h : LI w wr C K D r c most tl0 N tl es seen) (hr : w.heap.size ≤ r) (hK : ∀ q, CF C K D tl0 q → q < w.heap.size) (h1 : 1 ≤ most) (h2 : most ≤ 64) (ty : TypeId) :
    (tl = [] ∧ (Instr.next (.pointer (some ⟨r, 0, none⟩)) false ty).run Try.prog wr = .ok (.tuple #[.bool false]) wr) ∨
    ∃ (t : Tn) (a b : List Tn) (V : World) (v : Value), tl = a ++ t :: b ∧ (Instr.next (.pointer (some ⟨r, 0, none⟩)) false ty).run Try.prog wr = .ok (.tuple #[.bool true, .string (tx t.nm), v]) V ∧ (Instr.entry (.pointer (some ⟨r, 0, none⟩))).run Try.prog V = .ok (.tuple #[.string (tx t.nm), v]) V ∧
      Calls Try.prog 24 #[.pointer (some ⟨C, 0, none⟩), .string (tx t.nm)] V fun e w2 => e = .returned (.int .i64 (t.es.length : Int)) ∧ Hid (∃ es2 seen2, es2.length < es.length ∧ LI w w2 C K D r c most tl0 N (a ++ b) es2 seen2) := by
  have hold : ∀ x ∈ ((ents es).toArray).toList, x.born < c := fun x hx => by
    simp [ents] at hx
    obtain ⟨e, he, rfl⟩ := hx
    exact h.bk.lt e he
  rcases run_next_at (P := Try.prog) wr ty r K c c seen (ents es).toArray c h.it h.mp hold (Nat.le_refl _) with ⟨h0, hrun⟩ | ⟨e, he, w1, hw1, hrun⟩
  · left
    rw [left_all h.out] at h0
    have hes : es = [] := List.eq_nil_of_length_eq_zero (by simpa [ents] using h0)
    refine ⟨?_, hrun⟩
    have := h.pm.length_eq
    rw [hes] at this
    exact List.eq_nil_of_length_eq_zero (by simpa [prs, mlT] using this.symm)
  · right
    rw [left_all h.out] at he
    simp [ents] at he
    obtain ⟨en, hen, rfl⟩ := he
    have hmem : (en.nm, en.q) ∈ mlT tl := h.pm.mem_iff.1 (List.mem_map.2 ⟨en, hen, rfl⟩)
    obtain ⟨t, ht, e1⟩ := List.mem_map.1 hmem
    obtain ⟨e2, e3⟩ := Prod.mk.inj e1
    obtain ⟨a, b, rfl⟩ := List.append_of_mem ht
    have hnd : ((prs es).map Prod.fst).Nodup := (h.pm.map Prod.fst).nodup_iff.2 h.cx.knd
    have hndn : (es.map En.nm).Nodup := by
      have : (prs es).map Prod.fst = es.map En.nm := by unfold prs; rw [List.map_map]; rfl
      rw [← this]
      exact hnd
    obtain ⟨V, hV⟩ : ∃ V, ChangeMaps.setBlock w1 r (.mapIter (some K) c (seen.push en.born) c) = V := ⟨_, rfl⟩
    have hoffV : ∀ q, q ≠ r → V.heap[q]? = wr.heap[q]? := fun q hq => by
      rw [← hV]
      show (w1.heap.setIfInBounds r _)[q]? = _
      rw [Array.getElem?_setIfInBounds_ne (fun e => hq e.symm)]
      rcases hw1 with rfl | rfl <;> rfl
    have hrlt : r < wr.heap.size := (Array.getElem?_eq_some_iff.1 h.it).1
    have hitV : V.heap[r]? = some (.mapIter (some K) c (seen.push en.born) c) := by
      rw [← hV]
      show (w1.heap.setIfInBounds r _)[r]? = _
      have : r < w1.heap.size := by rcases hw1 with rfl | rfl <;> exact hrlt
      simp [this]
    have hCF : ∀ q, CF C K D (a ++ t :: b) q → q < w.heap.size := by
      rintro q (e | e | e | ⟨u, hu, e⟩)
      · exact hK q (.inl e)
      · exact hK q (.inr (.inl e))
      · exact hK q (.inr (.inr (.inl e)))
      · exact hK q (.inr (.inr (.inr ⟨u, h.sub u hu, e⟩)))
    have hcxV : CX V C K D most (a ++ t :: b) N := h.cx.at' fun q hq => hoffV q (by have := hCF q hq; omega)
    have hKr : K ≠ r := by have := hCF K (.inr (.inl rfl)); omega
    have hmpV : MapAt V K es c := (hoffV K hKr).trans h.mp
    have hlk := fndE_lk es t.nm 0
    rw [e2, lkM_of hnd (List.mem_map.2 ⟨en, hen, rfl⟩)] at hlk
    obtain ⟨⟨i, q⟩, hf, hq⟩ : ∃ p, fndE t.nm es 0 = some p ∧ p.2 = en.q := by
      rw [e2]
      cases hh : fndE en.nm es 0 with
      | none => rw [hh] at hlk; simp at hlk
      | some p => rw [hh] at hlk; exact ⟨p, rfl, by simpa using hlk⟩
    dsimp only at hq
    rw [hq, ← e3] at hf
    obtain ⟨-, e', he', g1, g2⟩ := fndE_some hf
    rw [Nat.sub_zero] at he'
    have hee : e' = en := nm_inj hndn (List.mem_of_getElem? he') hen (by rw [g1, e2])
    rw [hee] at he'
    refine ⟨t, a, b, V, .pointer (some ⟨en.q, 0, none⟩), rfl, by rw [e2, ← hV]; exact hrun, ?_, ?_⟩
    · rw [e2]
      exact run_entry_at V r K c seen (ents es).toArray c ⟨.string (tx en.nm), .pointer (some ⟨en.q, 0, none⟩), en.born⟩ hitV hmpV (by simp [ents]; exact ⟨en, hen, rfl, rfl, rfl⟩) (by
        have : (ents es).toArray.toList.map (·.born) = es.map En.born := by simp [ents, Function.comp_def]
        rw [this]
        exact h.bk.nd)
    · refine (hcxV.forget h.ne h1 h2 hmpV hf).mono ?_
      rintro e w2 ⟨rfl, hw2⟩
      refine ⟨rfl, es.eraseIdx i, seen.push en.born, ?_, ?_⟩
      · have hil := (List.getElem?_eq_some_iff.1 he').1
        rw [List.length_eraseIdx, if_pos hil]
        omega
      · have hlp : (prs (es.eraseIdx i)).Perm (mlT (a ++ b)) := by
          have hx : (prs es)[i]? = some (t.nm, t.L) := by unfold prs; rw [List.getElem?_map, he', e2, e3]; rfl
          have p1 := perm_idx (prs es) i hx
          have p2 : (mlT (a ++ t :: b)).Perm ((t.nm, t.L) :: mlT (a ++ b)) := (mid_perm a b t).map _
          rw [prs_erase]
          exact (p1.symm.trans (h.pm.trans p2)).cons_inv
        have hpe : ((mlT (a ++ t :: b)).erase (t.nm, t.L)).Perm (mlT (a ++ b)) := by
          have h9 : (mlT (a ++ t :: b)).Perm ((t.nm, t.L) :: mlT (a ++ b)) := (mid_perm a b t).map _
          have h8 := h9.erase (t.nm, t.L)
          rwa [List.erase_cons_head] at h8
        have hKlt : K < V.heap.size := (Array.getElem?_eq_some_iff.1 hmpV).1
        obtain ⟨k1, k2⟩ := hcxV.gone (o := .map (ents (es.eraseIdx i)).toArray c) ⟨es.eraseIdx i, c, setM_at hKlt, hlp.trans hpe.symm, h.bk.del i⟩
        have hot : V.os = wr.os ∧ V.tape = wr.tape ∧ V.output = wr.output ∧ V.heap.size = wr.heap.size := by
          rw [← hV]
          refine ⟨?_, ?_, ?_, ?_⟩
          · rcases hw1 with rfl | rfl <;> rfl
          · rcases hw1 with rfl | rfl <;> rfl
          · rcases hw1 with rfl | rfl <;> rfl
          · show (w1.heap.setIfInBounds r _).size = _
            rcases hw1 with rfl | rfl <;> simp
        rw [hw2]
        refine ⟨k1, fun x hx => h.ne x (by simp at hx ⊢; rcases hx with hx | hx <;> simp [hx]), fun x hx => h.sub x (by simp at hx ⊢; rcases hx with hx | hx <;> simp [hx]), setM_at hKlt, hlp, h.bk.del i, fun x hx => ?_, (setM_off (fun e => hKr e.symm)).trans hitV, ?_⟩
        · have hxs : x ∈ es := (List.eraseIdx_sublist es i).subset hx
          have hxn : x.born ≠ en.born := fun e => by
            have hp := (perm_idx es i he').map En.born
            have hn := hp.nodup_iff.1 h.bk.nd
            rw [List.map_cons] at hn
            exact (List.nodup_cons.1 hn).1 (List.mem_map.2 ⟨x, hx, e⟩)
          rw [Array.contains_push, h.out x hxs]
          simp [hxn]
        · refine ⟨hot.1.trans h.fr.os, hot.2.1.trans h.fr.tape, hot.2.2.1.trans h.fr.output, ?_, fun q hq hn => ?_, ?_⟩
          · rw [setM_size, hot.2.2.2]
            exact h.fr.size
          · rw [setM_off (fun e => hn (.inr (.inl e))), hoffV q (by omega)]
            exact h.fr.block q hq hn
          · rintro q (e | e | e | ⟨u, hu, e⟩)
            · exact .inl (.inl e)
            · exact .inl (.inr (.inl e))
            · exact .inl (.inr (.inr (.inl e)))
            · exact .inl (.inr (.inr (.inr ⟨u, h.sub u (by simp at hu ⊢; rcases hu with hu | hu <;> simp [hu]), e⟩)))
set_option maxRecDepth 20000 in
set_option maxHeartbeats 8000000 in
theorem CR.clear (h : CR w C F most E N) (hS : ∃ S : List (List UInt8), S.length ≤ 1000 ∧ ∀ x, E x ≠ [] → x ∈ S) : Calls Try.prog 25 #[.pointer (some ⟨C, 0, none⟩)] w fun e w' => ∃ n : Nat, e = .returned (.int .i64 (n : Int)) ∧ (∃ S : List (List UInt8), S.Nodup ∧ (∀ x, x ∈ S ↔ E x ≠ []) ∧ n = (S.map fun x => (E x).length).sum) ∧ ∃ F', CR w' C F' most (fun _ => []) N ∧ Fr F F' w w' := by
  obtain ⟨⟨K, D, tl, hx, hne, hE, hF⟩, h1, h2⟩ := h
  obtain ⟨S, hS1, hS2⟩ := hS
  have hln : tl.length ≤ 1000 := by
    have hsub : ∀ x ∈ tl.map Tn.nm, x ∈ S := fun x hxm => hS2 x (by
      rw [hE]
      intro e
      exact lkTl_none hne e hxm)
    have := len_sub _ S hx.nd hsub
    simp at this
    omega
  have hmost : ∀ t ∈ tl, t.es.length ≤ 64 := fun t ht => by have := (hx.lr t ht).le; omega
  have htot : (tot tl : Int) ≤ 64000 := by have := tot_le tl hmost; omega
  have HSP : Hid (∃ S : List (List UInt8), S.Nodup ∧ (∀ x, x ∈ S ↔ E x ≠ []) ∧ tot tl = (S.map fun x => (E x).length).sum) := by
    refine ⟨tl.map Tn.nm, hx.nd, fun x => ⟨fun hm e => ?_, fun hm => ?_⟩, ?_⟩
    · rw [hE] at e
      exact lkTl_none hne e hm
    · rw [hE] at hm
      obtain ⟨a, t, b, rfl, rfl, -⟩ := lkTl_mem hm
      simp
    · unfold tot
      rw [List.map_map]
      congr 1
      refine List.map_congr_left fun t ht => ?_
      obtain ⟨a, b, rfl⟩ := List.append_of_mem ht
      show _ = (E t.nm).length
      rw [hE, lkTl_at hx.nd]
  obtain ⟨es, c, hmp, hpm, hbk⟩ := hx.km
  have hr := run_range_map (P := Try.prog) w 70 9 74 K (ents es).toArray c under70 hmp
  obtain ⟨W0, hW0⟩ : ∃ W0, w.alloc (.mapIter (some K) c #[] c) = W0 := ⟨_, rfl⟩
  rw [hW0] at hr
  have hb0 : Below w.heap.size w W0 := by rw [← hW0]; exact bel1' _ _
  have HI0 : Hid (LI w W0 C K D w.heap.size c most tl N tl es #[]) := by
    refine ⟨hx.newer hb0, hne, fun t ht => ht, (hb0.block K hx.km.lt).trans hmp, hpm, hbk, fun e he => by simp, by rw [← hW0]; exact heap_alloc_new _ _, Fr.newer hb0⟩
  have HC : Hid ((∀ q, CF C K D tl q → q < w.heap.size) ∧ 1 ≤ most ∧ most ≤ 64 ∧ ∀ q, F q ↔ CF C K D tl q) := ⟨hx.lt, h1, h2, hF⟩
  have c1 := hx.cells.2.1
  clear hx hne hE hF hS1 hS2 hln hmost hmp hpm hbk hb0 hW0
  obtain ⟨r, hre⟩ : ∃ r, w.heap.size = r := ⟨_, rfl⟩
  have HRE : Hid (w.heap.size = r) := hre
  rw [hre] at hr HI0
  clear hre
  go_enter Try.func25, Try.ntmps25
  go_wp2_with fail
  go_loopw [3, 4] (fun a b wx => ∃ (tl' : List Tn) (es' : List En) (seen' : Array Nat) (acc : Nat), a = .int .i64 (acc : Int) ∧ acc + tot tl' = tot tl ∧ Hid (LI w wx C K D r c most tl N tl' es' seen')) (fun a b wx => kSz wx K)
  case atStart => exact ⟨tl, es, #[], 0, rfl, by omega, HI0⟩
  case round =>
    obtain ⟨tl', es', seen', acc, rfl, hacc, HI⟩ := hrel
    have HK : Hid (kSz wr K = es'.length) := kSz_map HI.out.mp
    rcases HI.out.next (by rw [HRE.out]; exact Nat.le_refl _) HC.out.1 HC.out.2.1 HC.out.2.2.1 0 with ⟨rfl, hnx⟩ | ⟨t, a, b, V, v, rfl, hnx, hen, hcall⟩
    · have e0 : acc = tot tl := by have : tot [] = 0 := rfl; omega
      have HA : Hid (acc = tot tl) := e0
      clear hacc e0 c1 hr
      go_wp2_with fail
      go_ret
      obtain ⟨S, s1, s2, s3⟩ := HSP.out
      refine ⟨acc, rfl, ⟨S, s1, s2, by rw [HA.out]; exact s3⟩, _, HI.out.cx.cr (fun t ht => (nomatch ht)) HC.out.2.1 HC.out.2.2.1, ?_⟩
      exact HI.out.fr.from HC.out.2.2.2
    · have HCL : Hid (Calls Try.prog 24 #[.pointer (some ⟨C, 0, none⟩), .string (tx t.nm)] V fun e w2 => e = .returned (.int .i64 (t.es.length : Int)) ∧ Hid (∃ es2 seen2, es2.length < es'.length ∧ LI w w2 C K D r c most tl N (a ++ b) es2 seen2)) := hcall
      rw [tot_mid] at hacc
      obtain ⟨n, hn⟩ : ∃ n, t.es.length = n := ⟨_, rfl⟩
      rw [hn] at HCL hacc
      have HACC : Hid (acc + (tot (a ++ b) + n) = tot tl) := hacc
      have hb1 : (acc : Int) + (n : Int) ≤ 64000 := by omega
      clear hcall hn hacc c1 hr htot
      go_wp2_with (go_at_call 24; refine HCL.out.mono ?_; rintro e w2 ⟨rfl, H2⟩)
      obtain ⟨es2, seen2, k1, k2⟩ := H2.out
      go_roundw
      case rel => exact ⟨a ++ b, es2, seen2, acc + n, by go_num, by have := HACC.out; omega, k2⟩
      case measure => rw [HK.out, kSz_map k2.mp]; exact k1
set_option maxRecDepth 20000 in
set_option maxHeartbeats 4000000 in
/-- There is no room for a tenant more. -/
theorem CR.full (h : CR w C F most E N) (s k st te : List UInt8) (hs : E s = []) (hS : ∃ S : List (List UInt8), S.Nodup ∧ 16 ≤ S.length ∧ ∀ x ∈ S, E x ≠ []) : Calls Try.prog 22 #[.pointer (some ⟨C, 0, none⟩), .string (tx s), .string (tx k), .string (tx st), .string (tx te)] w fun e w' => e = .returned (.int .i64 7) ∧ w' = w := by
  obtain ⟨⟨K, D, tl, hx, hne, hE, hF⟩, h1, h2⟩ := h
  obtain ⟨S, hS1, hS2, hS3⟩ := hS
  have HN : Hid (Calls Try.prog 37 #[.pointer (some ⟨C, 0, none⟩)] w fun e w' => e = .returned (.bool false) ∧ w' = w) := cnone_some hx.cells.1 h1
  have hln : 16 ≤ tl.length := by
    have hsub : ∀ x ∈ S, x ∈ tl.map Tn.nm := fun x hx => by
      have := hS3 x hx
      rw [hE] at this
      obtain ⟨a, t, b, rfl, rfl, -⟩ := lkTl_mem this
      simp
    have := len_sub S _ hS1 hsub
    simp at this
    omega
  have hl := hx.km.look70 hx.knd s
  rw [CX.nobody hne (by rw [← hE]; exact hs)] at hl
  have hl' : (Instr.lookup 70 (.map (some K)) (.string (tx s)) false).run Try.prog w = .ok (.pointer none) w := hl
  have hlen := run_len70 hx.km 3
  rw [show (mlT tl).length = tl.length by simp [mlT]] at hlen
  have c0 := hx.cells.1
  have c1 := hx.cells.2.1
  have h16 : (16 : Int) ≤ (tl.length : Int) := by omega
  generalize (tl.length : Int) = T at *
  clear hx hne hE hF hS1 hS2 hS3 hl hln hs h1 h2
  go_enter Try.func22, Try.ntmps22
  go_wp2_with (go_at_call 37; refine HN.out.mono ?_; rintro e w1 ⟨rfl, hw1⟩; rw [hw1]; clear hw1)
  go_ret
  exact ⟨rfl, rfl⟩
end Go.Proofs.Ytbcdaddbcjagjaa
