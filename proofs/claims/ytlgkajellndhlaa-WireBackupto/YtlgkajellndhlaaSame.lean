/- Lists of fields held against each other. -/
import Derived.Test.YtlgkajellndhlaaEq
import Derived.BigQuiet
import Derived.Deep.QuietTactic
namespace Go.Proofs.Ytlgkajellndhlaa
open Go.RowKit
set_option linter.unusedVariables false
set_option linter.unusedSimpArgs false

theorem region_quietC {P : Program} {id : Nat} {Q : Exit → Act → World → Prop} {a : Act} {w : World} {l : List Oper} (C : World → Prop) (hm : P.follows .mixedOrders = true) (hB : Region.lexB .any l.toArray = true) (hC : C w.drew)
    (h : wpQuiet P l.toArray C (fun a' => ∀ w', C w' → Q .normal a' w') l a) : (Code.region id l.toArray true).wp P Q a w :=
  wp_region_quiet (C := C) hm hB hC (by simpa using h)
theorem quiet_loadC {P : Program} {C : World → Prop} {a : Act} {o : Oper} {K : Act → Prop} (ty : TypeId) (x : Operand) (ho : o.op = .load ty x) (p : Addr) (hx : a.eval x = .pointer (some p)) (v : Value) (hl : ∀ W, C W → (loadVar ty p).run P W = .ok v W)
    (hk : K (a.put o.dst v)) : o.quiet P a C K := by
  refine ⟨v, fun w hw => ?_, hk⟩
  unfold Oper.quietAt
  simp only [execOp, ho, hx, Instr.loadAt, Instr.sureAddr, Sem.run_bind, Sem.run_pure, Result.andThen_ok, hl w hw]
  exact ⟨rfl, rfl⟩
theorem load4 {w : World} {b o : Nat} {f : Fd} {sa : Option Addr} {l c : Nat} (h : FCell w b o f sa l c) : (loadVar 38 ⟨b, o, none⟩).run Try.prog w = .ok (.agg #[.int .i64 f.num, .int .i64 f.typ, .int .u64 (f.n : Int), .slice sa l c]) w ∧ (loadVar 35 ⟨b, o, none⟩).run Try.prog w = .ok (.agg #[.int .i64 f.num, .int .i64 f.typ, .int .u64 (f.n : Int), .slice sa l c]) w := by
  have hc : ∀ j v, [Value.int .i64 f.num, .int .i64 f.typ, .int .u64 (f.n : Int), .slice sa l c][j]? = some v → w.cell? ⟨b, o + j, none⟩ = some v := by
    intro j v hj
    match j with
    | 0 => simp at hj; rw [← hj]; exact h.c0
    | 1 => simp at hj; rw [← hj]; exact h.c1
    | 2 => simp at hj; rw [← hj]; exact h.c2
    | 3 => simp at hj; rw [← hj]; exact h.c3
    | j + 4 => simp at hj
  exact ⟨run_loadVar_mid w b o 38 _ _ hc Try.underlying38 rfl (by kernel_rfl), run_loadVar_mid w b o 35 _ _ hc Try.underlying35 rfl (by kernel_rfl)⟩
theorem list_len_ne {fs gs : List Fd} (h : fs.length ≠ gs.length) : ¬ fs = gs := fun e => h (by rw [e])
theorem list_take_eq {fs gs : List Fd} {k : Nat} {f g : Fd} (h : fs.take k = gs.take k) (hf : fs[k]? = some f) (hg : gs[k]? = some g) (e : f = g) : fs.take (k + 1) = gs.take (k + 1) := by
  rw [List.take_add_one, List.take_add_one, h, hf, hg, e]

set_option maxRecDepth 20000 in
set_option maxHeartbeats 2000000 in
theorem sameField_any (f g : Fd) (qa ra : Option Addr) (l c m d : Nat) (w : World) (hf : Src w (.slice qa l c) f.b) (hg : Src w (.slice ra m d) g.b) (bf : Byt f.b) (bg : Byt g.b) :
    Calls Try.prog 28 #[.agg #[.int .i64 f.num, .int .i64 f.typ, .int .u64 (f.n : Int), .slice qa l c], .agg #[.int .i64 g.num, .int .i64 g.typ, .int .u64 (g.n : Int), .slice ra m d]] w fun e w' => e = .returned (.bool (oneB f g)) ∧ Below w.heap.size w w' := by
  obtain ⟨W, hW⟩ : ∃ W, (w.alloc (.cells #[.int .i64 f.num, .int .i64 f.typ, .int .u64 (f.n : Int), .slice qa l c] 35)).alloc (.cells #[.int .i64 g.num, .int .i64 g.typ, .int .u64 (g.n : Int), .slice ra m d] 35) = W := ⟨_, rfl⟩
  have hb : Below w.heap.size w W := by rw [← hW]; exact (bel1 _ _).alloc (by simp) _
  have HE : Hid (Calls Try.prog 38 #[.slice qa l c, .slice ra m d] W fun e w' => e = .returned (.bool (sameB f.b g.b)) ∧ w' = W) := equal_any _ _ f.b g.b W (hf.later hb) (hg.later hb) bf bg
  rw [← hW] at HE hb
  have HB : Hid _ := hb
  have HO : Hid (oneB f g = (f.num == g.num && f.typ == g.typ && ((f.n : Int) == (g.n : Int)) && sameB f.b g.b)) := rfl
  obtain ⟨r, hr⟩ : ∃ r, oneB f g = r := ⟨_, rfl⟩
  rw [hr] at HO ⊢
  generalize sameB f.b g.b = s at *
  clear hW hf hg bf bg hb hr
  generalize (f.n : Int) = fn at *
  generalize (g.n : Int) = gn at *
  generalize f.num = fa at *
  generalize g.num = ga at *
  generalize f.typ = ft at *
  generalize g.typ = gt at *
  cases e1 : (fa == ga) with
  | false =>
    go_enter Try.func28, Try.ntmps28
    go_wp2
    go_ret
    exact ⟨by rw [HO.out, e1]; rfl, HB.out⟩
  | true =>
    cases e2 : (ft == gt) with
    | false =>
      go_enter Try.func28, Try.ntmps28
      go_wp2
      go_ret
      exact ⟨by rw [HO.out, e1, e2]; rfl, HB.out⟩
    | true =>
      cases e3 : (fn == gn) with
      | false =>
        go_enter Try.func28, Try.ntmps28
        go_wp2
        go_ret
        exact ⟨by rw [HO.out, e1, e2, e3]; rfl, HB.out⟩
      | true =>
        go_enter Try.func28, Try.ntmps28
        go_wp2_with (go_at_call 38; refine HE.out.mono ?_; rintro e w' ⟨rfl, rfl⟩)
        go_ret
        exact ⟨by rw [HO.out, e1, e2, e3]; rfl, HB.out⟩

set_option maxRecDepth 20000 in
set_option maxHeartbeats 2000000 in
theorem rsame_any (v1 v2 : Value) (fs gs : List Fd) (w : World) (h1 : Fds w v1 fs) (h2 : Fds w v2 gs) (hf : ∀ f ∈ fs, f.Fit) (hg : ∀ f ∈ gs, f.Fit) (hl : (fs.length : Int) ≤ 100000000) :
    Calls Try.prog 8 #[v1, v2] w fun e w' => (∃ r, e = .returned (.bool r) ∧ (r = true ↔ fs = gs)) ∧ Below w.heap.size w w' := by
  obtain ⟨s1, cap1, rfl, hc1, hC1⟩ := h1
  obtain ⟨s2, cap2, rfl, hc2, hC2⟩ := h2
  have HC1 : Hid (∀ i f, fs[i]? = some f → ∃ b off qa l c, s1 = some ⟨b, off, none⟩ ∧ FCell w b (off + i * 4) f qa l c) := hC1
  have HC2 : Hid (∀ i f, gs[i]? = some f → ∃ b off qa l c, s2 = some ⟨b, off, none⟩ ∧ FCell w b (off + i * 4) f qa l c) := hC2
  have HF : Hid (∀ f ∈ fs, f.Fit) := hf
  have HG : Hid (∀ f ∈ gs, f.Fit) := hg
  clear hC1 hC2 hf hg
  by_cases hlen : fs.length = gs.length
  · have HLN : Hid (fs.length = gs.length) := hlen
    rw [← hlen] at hc2 ⊢
    obtain ⟨n, hn⟩ : ∃ n, fs.length = n := ⟨_, rfl⟩
    have HN : Hid (fs.length = n) := hn
    rw [hn] at hc1 hc2 hl ⊢
    have n1 : (n : Int) ≤ (cap1 : Int) := by omega
    have n2 : (n : Int) ≤ (cap2 : Int) := by omega
    clear hlen hn hc1 hc2
    go_enter Try.func8, Try.ntmps8
    go_wp2_with fail
    go_loopw [5] (fun i wr => ∃ k : Nat, k ≤ n ∧ i = .int .i64 (k : Int) ∧ fs.take k = gs.take k ∧ Below w.heap.size w wr) (fun i wr => n - (intOf i).toNat)
    case atStart => exact ⟨0, by omega, rfl, rfl, Below.refl _ _⟩
    case round =>
      obtain ⟨k, hk, rfl, htk, hbel⟩ := hrel
      have HTK : Hid (fs.take k = gs.take k) := htk
      have HBE : Hid (Below w.heap.size w wr) := hbel
      clear htk hbel
      by_cases hlt : k < n
      · obtain ⟨f, hfk⟩ : ∃ f, fs[k]? = some f := ⟨_, List.getElem?_eq_getElem (by have := HN.out; omega)⟩
        obtain ⟨g, hgk⟩ : ∃ g, gs[k]? = some g := ⟨_, List.getElem?_eq_getElem (by have := HN.out; have := HLN.out; omega)⟩
        obtain ⟨b, off, qa, l, c, hsa, hcf⟩ := HC1.out k f hfk
        obtain ⟨b', off', qa', l', c', hsa', hcg⟩ := HC2.out k g hgk
        subst hsa hsa'
        have ff := HF.out f (List.mem_of_getElem? hfk)
        have fg := HG.out g (List.mem_of_getElem? hgk)
        obtain ⟨C, hC⟩ : ∃ C : World → Prop, C = Below wr.heap.size wr := ⟨_, rfl⟩
        have cb : ∀ V, C V → Below w.heap.size w V := fun V hV => by rw [hC] at hV; exact HBE.out.trans (hV.mono HBE.out.size)
        have HCd : Hid (C wr.drew) := by show C _; rw [hC]; exact (Below.refl _ wr).drew
        have HCB : Hid (∀ V, C V → Below w.heap.size w V) := cb
        have HL1 : Hid (∀ V, C V → (loadVar 38 ⟨b, off + k * 4, none⟩).run Try.prog V = .ok (.agg #[.int .i64 f.num, .int .i64 f.typ, .int .u64 (f.n : Int), .slice qa l c]) V) := fun V hV => (load4 (hcf.later (cb V hV))).1
        have HL2 : Hid (∀ V, C V → (loadVar 38 ⟨b', off' + k * 4, none⟩).run Try.prog V = .ok (.agg #[.int .i64 g.num, .int .i64 g.typ, .int .u64 (g.n : Int), .slice qa' l' c']) V) := fun V hV => (load4 (hcg.later (cb V hV))).1
        have HCC : Hid (∀ V, C V → Calls Try.prog 26 #[.agg #[.int .i64 f.num, .int .i64 f.typ, .int .u64 (f.n : Int), .slice qa l c], .agg #[.int .i64 g.num, .int .i64 g.typ, .int .u64 (g.n : Int), .slice qa' l' c']] V fun e w' => e = .returned (.bool (oneB f g)) ∧ C w') := fun V hV => by
          have h := one_any f g qa qa' l c l' c' V (hcf.later (cb V hV)).src (hcg.later (cb V hV)).src ff.byt fg.byt
          exact h.mono fun e w' ⟨e1, e2⟩ => ⟨e1, by rw [hC] at hV ⊢; exact hV.trans (e2.mono hV.size)⟩
        have HFG : Hid (fs[k]? = some f ∧ gs[k]? = some g) := ⟨hfk, hgk⟩
        have HOI : Hid (oneB f g = true ↔ f = g) := oneB_iff f g
        obtain ⟨r, hr⟩ : ∃ r, oneB f g = r := ⟨_, rfl⟩
        rw [hr] at HCC HOI
        generalize (f.n : Int) = fn at *
        generalize (g.n : Int) = gn at *
        generalize f.num = fa at *
        generalize g.num = ga at *
        generalize f.typ = ft at *
        generalize g.typ = gt at *
        clear hfk hgk hcf hcg ff fg cb hC hr
        go_wp2_with fail
        refine region_quietC C (by kernel_rfl) (by kernel_rfl) HCd.out ?_
        (first | (go_big_quiet_want; go_big_quiet_op; go_big_quiet_on) | (go_big_quiet_want; go_big_quiet_op; refine ⟨_, fun _ _ => rfl, ?_⟩; go_big_quiet_on))
        (first | (go_big_quiet_want; go_big_quiet_op; go_big_quiet_on) | (go_big_quiet_want; go_big_quiet_op; refine ⟨_, fun _ _ => rfl, ?_⟩; go_big_quiet_on))
        (first | (go_big_quiet_want; go_big_quiet_op; go_big_quiet_on) | (go_big_quiet_want; go_big_quiet_op; refine ⟨_, fun _ _ => rfl, ?_⟩; go_big_quiet_on))
        (go_big_quiet_want; refine quiet_loadC 38 _ rfl ⟨b, off + k * 4, none⟩ rfl _ HL1.out ?_; go_big_quiet_on)
        simp only [Act.put, List.setIfInBounds_toArray, List.set_cons_succ, List.set_cons_zero]
        (first | (go_big_quiet_want; go_big_quiet_op; go_big_quiet_on) | (go_big_quiet_want; go_big_quiet_op; refine ⟨_, fun _ _ => rfl, ?_⟩; go_big_quiet_on))
        (first | (go_big_quiet_want; go_big_quiet_op; go_big_quiet_on) | (go_big_quiet_want; go_big_quiet_op; refine ⟨_, fun _ _ => rfl, ?_⟩; go_big_quiet_on))
        (first | (go_big_quiet_want; go_big_quiet_op; go_big_quiet_on) | (go_big_quiet_want; go_big_quiet_op; refine ⟨_, fun _ _ => rfl, ?_⟩; go_big_quiet_on))
        (go_big_quiet_want; refine quiet_loadC 38 _ rfl ⟨b', off' + k * 4, none⟩ rfl _ HL2.out ?_; go_big_quiet_on)
        simp only [Act.put, List.setIfInBounds_toArray, List.set_cons_succ, List.set_cons_zero]
        (go_big_quiet_want; go_big_quiet_op; refine ⟨_, HCC.out, ?_⟩; go_big_quiet_on)
        (first | (go_big_quiet_want; go_big_quiet_op; go_big_quiet_on) | (go_big_quiet_want; go_big_quiet_op; refine ⟨_, fun _ _ => rfl, ?_⟩; go_big_quiet_on))
        refine wpQuiet_nil ?_
        intro V hV
        cases r with
        | false =>
          go_wp2_with fail
          go_ret
          refine ⟨⟨false, rfl, ?_⟩, HCB.out V hV⟩
          constructor
          · intro h; cases h
          · intro h
            have h1 := HFG.out.1
            rw [h, HFG.out.2] at h1
            have := HOI.out.2 (Option.some.inj h1).symm
            simp at this
        | true =>
          go_wp2_with fail
          go_roundw
          case rel => exact ⟨k + 1, by omega, by go_num, list_take_eq HTK.out HFG.out.1 HFG.out.2 (HOI.out.1 (by trivial)), HCB.out V hV⟩
          case measure => simp [intOf]; omega
      · have hkn : k = n := by omega
        go_wp2_with fail
        go_ret
        refine ⟨⟨true, rfl, fun _ => ?_, fun _ => rfl⟩, HBE.out⟩
        have h := HTK.out
        have e1 := HN.out
        have e2 := HLN.out
        rw [hkn, ← e1] at h
        rw [List.take_length] at h
        rw [h, e2, List.take_length]
  · have HNE : Hid (¬ fs = gs) := list_len_ne hlen
    have hne : ((fs.length : Int) == (gs.length : Int)) = false := by rw [beq_eq_false_iff_ne]; omega
    have hne2 : ((fs.length : Int) != (gs.length : Int)) = true := by rw [bne_iff_ne]; omega
    clear hlen hl hc1 hc2
    generalize fs.length = n at *
    generalize gs.length = m at *
    go_enter Try.func8, Try.ntmps8
    go_wp2_with fail
    go_ret
    exact ⟨⟨false, rfl, (fun h => by cases h), fun h => absurd h HNE.out⟩, Below.refl _ _⟩

set_option maxRecDepth 20000 in
set_option maxHeartbeats 2000000 in
theorem wsame_any (v1 v2 : Value) (fs gs : List Fd) (w : World) (h1 : Fds w v1 fs) (h2 : Fds w v2 gs) (hf : ∀ f ∈ fs, f.Fit) (hg : ∀ f ∈ gs, f.Fit) (hl : (fs.length : Int) ≤ 100000000) :
    Calls Try.prog 15 #[v1, v2] w fun e w' => (∃ r, e = .returned (.bool r) ∧ (r = true ↔ fs = gs)) ∧ Below w.heap.size w w' := by
  obtain ⟨s1, cap1, rfl, hc1, hC1⟩ := h1
  obtain ⟨s2, cap2, rfl, hc2, hC2⟩ := h2
  have HC1 : Hid (∀ i f, fs[i]? = some f → ∃ b off qa l c, s1 = some ⟨b, off, none⟩ ∧ FCell w b (off + i * 4) f qa l c) := hC1
  have HC2 : Hid (∀ i f, gs[i]? = some f → ∃ b off qa l c, s2 = some ⟨b, off, none⟩ ∧ FCell w b (off + i * 4) f qa l c) := hC2
  have HF : Hid (∀ f ∈ fs, f.Fit) := hf
  have HG : Hid (∀ f ∈ gs, f.Fit) := hg
  clear hC1 hC2 hf hg
  by_cases hlen : fs.length = gs.length
  · have HLN : Hid (fs.length = gs.length) := hlen
    rw [← hlen] at hc2 ⊢
    obtain ⟨n, hn⟩ : ∃ n, fs.length = n := ⟨_, rfl⟩
    have HN : Hid (fs.length = n) := hn
    rw [hn] at hc1 hc2 hl ⊢
    have n1 : (n : Int) ≤ (cap1 : Int) := by omega
    have n2 : (n : Int) ≤ (cap2 : Int) := by omega
    clear hlen hn hc1 hc2
    go_enter Try.func15, Try.ntmps15
    go_wp2_with fail
    go_loopw [5, 13] (fun _ i wr => ∃ k : Nat, k ≤ n ∧ i = .int .i64 (k : Int) ∧ fs.take k = gs.take k ∧ Below w.heap.size w wr) (fun _ i wr => n - (intOf i).toNat)
    case atStart => exact ⟨0, by omega, rfl, rfl, Below.refl _ _⟩
    case round =>
      obtain ⟨k, hk, rfl, htk, hbel⟩ := hrel
      have HTK : Hid (fs.take k = gs.take k) := htk
      have HBE : Hid (Below w.heap.size w wr) := hbel
      clear htk hbel
      by_cases hlt : k < n
      · obtain ⟨f, hfk⟩ : ∃ f, fs[k]? = some f := ⟨_, List.getElem?_eq_getElem (by have := HN.out; omega)⟩
        obtain ⟨g, hgk⟩ : ∃ g, gs[k]? = some g := ⟨_, List.getElem?_eq_getElem (by have := HN.out; have := HLN.out; omega)⟩
        obtain ⟨b, off, qa, l, c, hsa, hcf⟩ := HC1.out k f hfk
        obtain ⟨b', off', qa', l', c', hsa', hcg⟩ := HC2.out k g hgk
        subst hsa hsa'
        have ff := HF.out f (List.mem_of_getElem? hfk)
        have fg := HG.out g (List.mem_of_getElem? hgk)
        obtain ⟨C, hC⟩ : ∃ C : World → Prop, C = Below wr.heap.size wr := ⟨_, rfl⟩
        have cb : ∀ V, C V → Below w.heap.size w V := fun V hV => by rw [hC] at hV; exact HBE.out.trans (hV.mono HBE.out.size)
        have HCd : Hid (C wr.drew) := by show C _; rw [hC]; exact (Below.refl _ wr).drew
        have HCB : Hid (∀ V, C V → Below w.heap.size w V) := cb
        have HL1 : Hid (∀ V, C V → (loadVar 35 ⟨b, off + k * 4, none⟩).run Try.prog V = .ok (.agg #[.int .i64 f.num, .int .i64 f.typ, .int .u64 (f.n : Int), .slice qa l c]) V) := fun V hV => (load4 (hcf.later (cb V hV))).2
        have HL2 : Hid (∀ V, C V → (loadVar 35 ⟨b', off' + k * 4, none⟩).run Try.prog V = .ok (.agg #[.int .i64 g.num, .int .i64 g.typ, .int .u64 (g.n : Int), .slice qa' l' c']) V) := fun V hV => (load4 (hcg.later (cb V hV))).2
        have HCC : Hid (∀ V, C V → Calls Try.prog 28 #[.agg #[.int .i64 f.num, .int .i64 f.typ, .int .u64 (f.n : Int), .slice qa l c], .agg #[.int .i64 g.num, .int .i64 g.typ, .int .u64 (g.n : Int), .slice qa' l' c']] V fun e w' => e = .returned (.bool (oneB f g)) ∧ C w') := fun V hV => by
          have h := sameField_any f g qa qa' l c l' c' V (hcf.later (cb V hV)).src (hcg.later (cb V hV)).src ff.byt fg.byt
          exact h.mono fun e w' ⟨e1, e2⟩ => ⟨e1, by rw [hC] at hV ⊢; exact hV.trans (e2.mono hV.size)⟩
        have HFG : Hid (fs[k]? = some f ∧ gs[k]? = some g) := ⟨hfk, hgk⟩
        have HOI : Hid (oneB f g = true ↔ f = g) := oneB_iff f g
        obtain ⟨r, hr⟩ : ∃ r, oneB f g = r := ⟨_, rfl⟩
        rw [hr] at HCC HOI
        generalize (f.n : Int) = fn at *
        generalize (g.n : Int) = gn at *
        generalize f.num = fa at *
        generalize g.num = ga at *
        generalize f.typ = ft at *
        generalize g.typ = gt at *
        clear hfk hgk hcf hcg ff fg cb hC hr
        go_wp2_with fail
        refine region_quietC C (by kernel_rfl) (by kernel_rfl) HCd.out ?_
        (first | (go_big_quiet_want; go_big_quiet_op; go_big_quiet_on) | (go_big_quiet_want; go_big_quiet_op; refine ⟨_, fun _ _ => rfl, ?_⟩; go_big_quiet_on))
        (first | (go_big_quiet_want; go_big_quiet_op; go_big_quiet_on) | (go_big_quiet_want; go_big_quiet_op; refine ⟨_, fun _ _ => rfl, ?_⟩; go_big_quiet_on))
        (first | (go_big_quiet_want; go_big_quiet_op; go_big_quiet_on) | (go_big_quiet_want; go_big_quiet_op; refine ⟨_, fun _ _ => rfl, ?_⟩; go_big_quiet_on))
        (go_big_quiet_want; refine quiet_loadC 35 _ rfl ⟨b, off + k * 4, none⟩ rfl _ HL1.out ?_; go_big_quiet_on)
        simp only [Act.put, List.setIfInBounds_toArray, List.set_cons_succ, List.set_cons_zero]
        (first | (go_big_quiet_want; go_big_quiet_op; go_big_quiet_on) | (go_big_quiet_want; go_big_quiet_op; refine ⟨_, fun _ _ => rfl, ?_⟩; go_big_quiet_on))
        (first | (go_big_quiet_want; go_big_quiet_op; go_big_quiet_on) | (go_big_quiet_want; go_big_quiet_op; refine ⟨_, fun _ _ => rfl, ?_⟩; go_big_quiet_on))
        (first | (go_big_quiet_want; go_big_quiet_op; go_big_quiet_on) | (go_big_quiet_want; go_big_quiet_op; refine ⟨_, fun _ _ => rfl, ?_⟩; go_big_quiet_on))
        (go_big_quiet_want; refine quiet_loadC 35 _ rfl ⟨b', off' + k * 4, none⟩ rfl _ HL2.out ?_; go_big_quiet_on)
        simp only [Act.put, List.setIfInBounds_toArray, List.set_cons_succ, List.set_cons_zero]
        (go_big_quiet_want; go_big_quiet_op; refine ⟨_, HCC.out, ?_⟩; go_big_quiet_on)
        (first | (go_big_quiet_want; go_big_quiet_op; go_big_quiet_on) | (go_big_quiet_want; go_big_quiet_op; refine ⟨_, fun _ _ => rfl, ?_⟩; go_big_quiet_on))
        refine wpQuiet_nil ?_
        intro V hV
        cases r with
        | false =>
          go_wp2_with fail
          go_ret
          refine ⟨⟨false, rfl, ?_⟩, HCB.out V hV⟩
          constructor
          · intro h; cases h
          · intro h
            have h1 := HFG.out.1
            rw [h, HFG.out.2] at h1
            have := HOI.out.2 (Option.some.inj h1).symm
            simp at this
        | true =>
          go_wp2_with fail
          go_roundw
          case rel => exact ⟨k + 1, by omega, by go_num, list_take_eq HTK.out HFG.out.1 HFG.out.2 (HOI.out.1 (by trivial)), HCB.out V hV⟩
          case measure => simp [intOf]; omega
      · have hkn : k = n := by omega
        go_wp2_with fail
        go_ret
        refine ⟨⟨true, rfl, fun _ => ?_, fun _ => rfl⟩, HBE.out⟩
        have h := HTK.out
        have e1 := HN.out
        have e2 := HLN.out
        rw [hkn, ← e1] at h
        rw [List.take_length] at h
        rw [h, e2, List.take_length]
  · have HNE : Hid (¬ fs = gs) := list_len_ne hlen
    have hne : ((fs.length : Int) == (gs.length : Int)) = false := by rw [beq_eq_false_iff_ne]; omega
    have hne2 : ((fs.length : Int) != (gs.length : Int)) = true := by rw [bne_iff_ne]; omega
    clear hlen hl hc1 hc2
    generalize fs.length = n at *
    generalize gs.length = m at *
    go_enter Try.func15, Try.ntmps15
    go_wp2_with fail
    go_ret
    exact ⟨⟨false, rfl, (fun h => by cases h), fun h => absurd h HNE.out⟩, Below.refl _ _⟩

end Go.Proofs.Ytlgkajellndhlaa
