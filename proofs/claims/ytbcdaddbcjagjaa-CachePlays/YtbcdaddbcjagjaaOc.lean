/- A cache between calls; New, Len, Forget. -/
import Derived.Test.YtbcdaddbcjagjaaOb
namespace Go.Proofs.Ytbcdaddbcjagjaa
open Go.RowKit
set_option linter.unusedVariables false
set_option linter.unusedSimpArgs false

def lkTl (s : List UInt8) : List Tn → List It
  | [] => []
  | t :: r => if s = t.nm then t.es else lkTl s r
def updE (E : List UInt8 → List It) (s : List UInt8) (es : List It) : List UInt8 → List It := fun s' => if s' = s then es else E s'
theorem updE_at (E : List UInt8 → List It) (s : List UInt8) (es : List It) : updE E s es s = es := by unfold updE; rw [if_pos rfl]
theorem updE_off (E : List UInt8 → List It) {s s' : List UInt8} (es : List It) (h : s' ≠ s) : updE E s es s' = E s' := by unfold updE; rw [if_neg h]
theorem lkTl_mem : ∀ {tl : List Tn} {s : List UInt8}, lkTl s tl ≠ [] → ∃ a t b, tl = a ++ t :: b ∧ t.nm = s ∧ t.es = lkTl s tl
  | [], s, h => (h rfl).elim
  | t :: r, s, h => by
    unfold lkTl at h ⊢
    by_cases e : s = t.nm
    · rw [if_pos e]
      exact ⟨[], t, r, rfl, e.symm, rfl⟩
    · rw [if_neg e] at h ⊢
      obtain ⟨a, u, b, h1, h2, h3⟩ := lkTl_mem h
      exact ⟨t :: a, u, b, by rw [h1]; rfl, h2, h3⟩
theorem lkTl_none : ∀ {tl : List Tn} {s : List UInt8}, (∀ t ∈ tl, t.es ≠ []) → lkTl s tl = [] → s ∉ tl.map Tn.nm
  | [], s, _, _ => by simp
  | t :: r, s, hn, h => by
    unfold lkTl at h
    by_cases e : s = t.nm
    · rw [if_pos e] at h
      exact (hn t (by simp) h).elim
    · rw [if_neg e] at h
      have := lkTl_none (fun u hu => hn u (by simp [hu])) h
      simp only [List.map_cons, List.mem_cons, not_or]
      exact ⟨e, this⟩
theorem lkTl_off : ∀ {tl : List Tn} {s : List UInt8}, s ∉ tl.map Tn.nm → lkTl s tl = []
  | [], s, _ => rfl
  | t :: r, s, h => by
    simp only [List.map_cons, List.mem_cons, not_or] at h
    unfold lkTl
    rw [if_neg h.1]
    exact lkTl_off h.2
theorem lkTl_app : ∀ {a b : List Tn} {s : List UInt8}, lkTl s (a ++ b) = if s ∈ a.map Tn.nm then lkTl s a else lkTl s b
  | [], b, s => by simp [lkTl]
  | t :: a, b, s => by
    have ih := lkTl_app (a := a) (b := b) (s := s)
    show (if s = t.nm then t.es else lkTl s (a ++ b)) = if s ∈ t.nm :: a.map Tn.nm then (if s = t.nm then t.es else lkTl s a) else lkTl s b
    by_cases e : s = t.nm
    · simp [e]
    · rw [if_neg e, if_neg e, ih]
      by_cases e2 : s ∈ a.map Tn.nm
      · rw [if_pos e2, if_pos (List.mem_cons_of_mem _ e2)]
      · rw [if_neg e2, if_neg (by simp only [List.mem_cons, not_or]; exact ⟨e, e2⟩)]
theorem mlT_fst (tl : List Tn) : (mlT tl).map Prod.fst = tl.map Tn.nm := by simp [mlT]
/-- A cache, between calls. -/
structure CR (w : World) (C : Nat) (F : Nat → Prop) (most : Int) (E : List UInt8 → List It) (N : List UInt8 → Int × Int) : Prop where
  ex : ∃ K D tl, CX w C K D most tl N ∧ (∀ t ∈ tl, t.es ≠ []) ∧ (∀ s, E s = lkTl s tl) ∧ ∀ q, F q ↔ CF C K D tl q
  m1 : 1 ≤ most
  m2 : most ≤ 64
variable {w w' : World} {C K D : Nat} {F : Nat → Prop} {most : Int} {tl a b : List Tn} {t : Tn} {E : List UInt8 → List It} {N : List UInt8 → Int × Int}
theorem CR.at' (h : CR w C F most E N) (hk : ∀ q, F q → w'.heap[q]? = w.heap[q]?) : CR w' C F most E N := by
  obtain ⟨⟨K, D, tl, h1, h2, h3, h4⟩, h5, h6⟩ := h
  exact ⟨⟨K, D, tl, h1.at' fun q hq => hk q ((h4 q).2 hq), h2, h3, h4⟩, h5, h6⟩
theorem CR.lt (h : CR w C F most E N) : ∀ q, F q → q < w.heap.size := by
  obtain ⟨⟨K, D, tl, h1, h2, h3, h4⟩, h5, h6⟩ := h
  exact fun q hq => h1.lt q ((h4 q).1 hq)
theorem CR.newer (h : CR w C F most E N) (hb : Below w.heap.size w w') : CR w' C F most E N := h.at' fun q hq => hb.block q (h.lt q hq)
theorem nd_split (h : ((a ++ t :: b).map Tn.nm).Nodup) : t.nm ∉ a.map Tn.nm ∧ t.nm ∉ b.map Tn.nm := by
  rw [List.map_append, List.map_cons] at h
  have := nd_mid h
  exact ⟨fun e => this (List.mem_append.2 (.inl e)), fun e => this (List.mem_append.2 (.inr e))⟩
/-- What the names have behind a change. -/
theorem lk_turn (h : ((a ++ t :: b).map Tn.nm).Nodup) (F' : Nat → Prop) (es' : List It) (s : List UInt8) : lkTl s (a ++ ⟨t.nm, t.L, t.M, F', es'⟩ :: b) = updE (fun s => lkTl s (a ++ t :: b)) t.nm es' s := by
  obtain ⟨h1, h2⟩ := nd_split h
  unfold updE
  dsimp only
  rw [lkTl_app, lkTl_app]
  by_cases e : s = t.nm
  · rw [if_pos e, e, if_neg h1]
    show (if t.nm = t.nm then es' else lkTl t.nm b) = es'
    rw [if_pos rfl]
  · rw [if_neg e]
    by_cases e2 : s ∈ a.map Tn.nm
    · rw [if_pos e2, if_pos e2]
    · rw [if_neg e2, if_neg e2]
      show (if s = t.nm then es' else lkTl s b) = if s = t.nm then t.es else lkTl s b
      rw [if_neg e, if_neg e]
theorem lk_gone (h : ((a ++ t :: b).map Tn.nm).Nodup) (s : List UInt8) : lkTl s (a ++ b) = updE (fun s => lkTl s (a ++ t :: b)) t.nm [] s := by
  obtain ⟨h1, h2⟩ := nd_split h
  unfold updE
  dsimp only
  rw [lkTl_app, lkTl_app]
  by_cases e : s = t.nm
  · rw [if_pos e, e, if_neg h1]
    exact lkTl_off h2
  · rw [if_neg e]
    by_cases e2 : s ∈ a.map Tn.nm
    · rw [if_pos e2, if_pos e2]
    · rw [if_neg e2, if_neg e2]
      show lkTl s b = if s = t.nm then t.es else lkTl s b
      rw [if_neg e]
theorem lk_come (h : t.nm ∉ tl.map Tn.nm) (s : List UInt8) : lkTl s (tl ++ [t]) = updE (fun s => lkTl s tl) t.nm t.es s := by
  unfold updE
  dsimp only
  rw [lkTl_app]
  by_cases e : s = t.nm
  · rw [if_pos e, e, if_neg h]
    show (if t.nm = t.nm then t.es else []) = t.es
    rw [if_pos rfl]
  · rw [if_neg e]
    by_cases e2 : s ∈ tl.map Tn.nm
    · rw [if_pos e2]
    · rw [if_neg e2, lkTl_off e2]
      show (if s = t.nm then t.es else []) = []
      rw [if_neg e]
/-- Who is there. -/
theorem CX.who (h : CX w C K D most tl N) {s : List UInt8} (hs : lkTl s tl ≠ []) : ∃ a t b, tl = a ++ t :: b ∧ t.nm = s ∧ t.es = lkTl s tl ∧ lkM s (mlT tl) = some t.L := by
  obtain ⟨a, t, b, h1, h2, h3⟩ := lkTl_mem hs
  refine ⟨a, t, b, h1, h2, h3, lkM_of (by rw [mlT_fst]; exact h.nd) ?_⟩
  rw [h1]
  exact List.mem_map.2 ⟨t, by simp, by rw [h2]⟩
theorem CX.nobody (hne : ∀ t ∈ tl, t.es ≠ []) {s : List UInt8} (hs : lkTl s tl = []) : lkM s (mlT tl) = none := by
  rw [lkM_none, mlT_fst]
  exact lkTl_none hne hs
theorem CX.knd (h : CX w C K D most tl N) : ((mlT tl).map Prod.fst).Nodup := by rw [mlT_fst]; exact h.nd
theorem cnone_nil (w : World) : Calls Try.prog 37 #[.pointer none] w fun e w' => e = .returned (.bool true) ∧ w' = w := by
  go_enter Try.func37, Try.ntmps37
  go_wp2
  go_ret
  exact ⟨rfl, rfl⟩
theorem cnone_some {w : World} {C : Nat} {m : Int} (h : w.cell? ⟨C, 0, none⟩ = some (.int .i64 m)) (hm : 1 ≤ m) : Calls Try.prog 37 #[.pointer (some ⟨C, 0, none⟩)] w fun e w' => e = .returned (.bool false) ∧ w' = w := by
  have hm' : ¬ m < 1 := by omega
  clear hm
  go_enter Try.func37, Try.ntmps37
  go_wp2
  go_ret
  exact ⟨rfl, rfl⟩
theorem clen_nil (s : List UInt8) (w : World) : Calls Try.prog 18 #[.pointer none, .string (tx s)] w fun e w' => e = .returned (.int .i64 0) ∧ w' = w := by
  go_enter Try.func18, Try.ntmps18
  go_wp2
  go_ret
  exact ⟨rfl, rfl⟩
set_option maxRecDepth 20000 in
theorem CR.len (h : CR w C F most E N) (s : List UInt8) : Calls Try.prog 18 #[.pointer (some ⟨C, 0, none⟩), .string (tx s)] w fun e w' => e = .returned (.int .i64 ((E s).length : Int)) ∧ w' = w := by
  obtain ⟨⟨K, D, tl, h1, h2, h3, h4⟩, h5, h6⟩ := h
  obtain ⟨-, c1, -⟩ := h1.cells
  have hl := h1.km.look70 h1.knd s
  rw [h3 s]
  by_cases he : lkTl s tl = []
  · rw [CX.nobody h2 he] at hl
    have hl' : (Instr.lookup 70 (.map (some K)) (.string (tx s)) false).run Try.prog w = .ok (.pointer none) w := hl
    have HN : Hid (Calls Try.prog 35 #[.pointer none] w fun e w' => e = .returned (.int .i64 0) ∧ w' = w) := len_nil w
    rw [he]
    clear h1 h2 h3 h4 h5 h6 hl he
    go_enter Try.func18, Try.ntmps18
    go_wp2_with (go_at_call 35; refine HN.out.mono ?_; rintro e w1 ⟨rfl, hw1⟩; rw [hw1]; clear hw1)
    go_ret
    exact ⟨rfl, rfl⟩
  · obtain ⟨a, t, b, e1, e2, e3, e4⟩ := h1.who he
    rw [e4] at hl
    have hl' : (Instr.lookup 70 (.map (some K)) (.string (tx s)) false).run Try.prog w = .ok (.pointer (some ⟨t.L, 0, none⟩)) w := hl
    have HN : Hid (Calls Try.prog 35 #[.pointer (some ⟨t.L, 0, none⟩)] w fun e w' => e = .returned (.int .i64 (t.es.length : Int)) ∧ w' = w) := (h1.lr t (by rw [e1]; simp)).len
    rw [← e3]
    clear h1 h2 h3 h4 h5 h6 hl he e1 e2 e3 e4
    go_enter Try.func18, Try.ntmps18
    go_wp2_with (go_at_call 35; refine HN.out.mono ?_; rintro e w1 ⟨rfl, hw1⟩; rw [hw1]; clear hw1)
    go_ret
    exact ⟨rfl, rfl⟩
set_option maxRecDepth 20000 in
set_option maxHeartbeats 4000000 in
theorem cnew_some (most : Int) (h1 : 1 ≤ most) (h2 : most ≤ 64) (w : World) : Calls Try.prog 15 #[.int .i64 most] w fun e w' => ∃ C, e = .returned (.pointer (some ⟨C, 0, none⟩)) ∧ ∃ F, CR w' C F most (fun _ => []) (fun _ => (0, 0)) ∧ (∀ q, F q → w.heap.size ≤ q) ∧ Below w.heap.size w w' := by
  have h1' : ¬ most < 1 := by omega
  have h2' : ¬ 64 < most := by omega
  have HM : Hid (1 ≤ most ∧ most ≤ 64) := ⟨h1, h2⟩
  have hmk : ∀ V : World, (Instr.makeMap 70 none).run Try.prog V = .ok (.map (some V.heap.size)) (V.alloc (.map #[] 0)) := fun V => by first | rfl | kernel_rfl
  have hmc : ∀ V : World, (Instr.makeMap 71 none).run Try.prog V = .ok (.map (some V.heap.size)) (V.alloc (.map #[] 0)) := fun V => by first | rfl | kernel_rfl
  clear h1 h2
  go_enter Try.func15, Try.ntmps15
  go_wp2_with fail
  go_ret
  obtain ⟨W0, hW0⟩ : ∃ W, w.alloc (.map #[] 0) = W := ⟨_, rfl⟩
  have hb0 : Below w.heap.size w W0 := by rw [← hW0]; exact bel1' _ _
  have hs0 : W0.heap.size = w.heap.size + 1 := by rw [← hW0]; simp
  have hm0 : MM W0 w.heap.size [] := by rw [← hW0]; exact MM.new w
  obtain ⟨W1, hW1⟩ : ∃ W, W0.alloc (.map #[] 0) = W := ⟨_, rfl⟩
  have hb1 : Below w.heap.size w W1 := by rw [← hW1]; exact hb0.alloc (by omega) _
  have hs1 : W1.heap.size = w.heap.size + 2 := by rw [← hW1]; simp [hs0]
  have hm1 : MM W1 w.heap.size [] := hm0.at' (by rw [← hW1, Below.heap_alloc _ _ _ (by omega)])
  have hc1 : MC W1 (w.heap.size + 1) fun _ => (0, 0) := by rw [← hW1, ← hs0]; exact MC.new W0
  obtain ⟨W, hW⟩ : ∃ W, W1.alloc (.cells #[.int .i64 most, .map (some w.heap.size), .map (some (w.heap.size + 1))] 73) = W := ⟨_, rfl⟩
  have hb2 : Below w.heap.size w W := by rw [← hW]; exact hb1.alloc (by omega) _
  have hg : W.heap[w.heap.size + 2]? = some (.cells #[.int .i64 most, .map (some w.heap.size), .map (some (w.heap.size + 1))] 73 (0, 0)) := by rw [← hW, ← hs1]; exact heap_alloc_new _ _
  have hm2 : MM W w.heap.size [] := hm1.at' (by rw [← hW, Below.heap_alloc _ _ _ (by omega)])
  have hc2 : MC W (w.heap.size + 1) fun _ => (0, 0) := hc1.at' (by rw [← hW, Below.heap_alloc _ _ _ (by omega)])
  rw [hW0, hW1, hW]
  refine ⟨w.heap.size + 2, rfl, CF (w.heap.size + 2) w.heap.size (w.heap.size + 1) [], ⟨⟨w.heap.size, w.heap.size + 1, [], ⟨hg, hm2, List.nodup_nil, fun t ht => (nomatch ht), List.Pairwise.nil, fun t ht => (nomatch ht), by omega, hc2⟩, fun t ht => (nomatch ht), fun s => rfl, fun q => Iff.rfl⟩, HM.out.1, HM.out.2⟩, ?_, hb2⟩
  rintro q (rfl | rfl | rfl | ⟨t, ht, -⟩)
  · omega
  · exact Nat.le_refl _
  · omega
  · exact (nomatch ht)
set_option maxRecDepth 20000 in
theorem cnew_none (most : Int) (h : most < 1 ∨ 64 < most) (w : World) : Calls Try.prog 15 #[.int .i64 most] w fun e w' => e = .returned (.pointer none) ∧ w' = w := by
  by_cases c : most < 1
  · clear h
    go_enter Try.func15, Try.ntmps15
    go_wp2
    go_ret
    exact ⟨rfl, rfl⟩
  · have c2 : 64 < most := by omega
    clear h
    go_enter Try.func15, Try.ntmps15
    go_wp2
    go_ret
    exact ⟨rfl, rfl⟩
end Go.Proofs.Ytbcdaddbcjagjaa
