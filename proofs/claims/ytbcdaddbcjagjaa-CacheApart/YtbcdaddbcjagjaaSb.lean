/- The two runs of CacheApart, between calls. -/
import Derived.Test.YtbcdaddbcjagjaaSa
import Derived.DeepKeys
namespace Go.Proofs.Ytbcdaddbcjagjaa
open Go.RowKit
set_option linter.unusedVariables false
set_option linter.unusedSimpArgs false

def abc : List (List UInt8) := [[97], [98], [99]]
def Nok (n : Int) (N : List UInt8 → Int × Int) : Prop := ∀ x, 0 ≤ (N x).1 ∧ (N x).1 ≤ n ∧ 0 ≤ (N x).2 ∧ (N x).2 ≤ n
theorem Nok.more {n n' : Int} {N : List UInt8 → Int × Int} (h : Nok n N) (hn : n ≤ n') : Nok n' N := fun x => ⟨(h x).1, by have := (h x).2.1; omega, (h x).2.2.1, by have := (h x).2.2.2; omega⟩
/-- Both caches: what a tenant has in each. -/
def AI (w wr : World) (C D : Nat) (most : Int) (own : List UInt8) (n : Int) (ks : List (Nat × Obj)) (es : List It) (p : Int × Int) (es' : List It) (p' : Int × Int) : Prop :=
  ∃ E N E' N', C2 w wr C D most E N E' N' ks ∧ E own = es ∧ N own = p ∧ E' own = es' ∧ N' own = p' ∧ (∀ x, x ≠ own → E x = []) ∧ (∀ x, E' x ≠ [] → x ∈ own :: abc) ∧ Nok n N ∧ Nok n N'
variable {w w1 w2 : World} {C D : Nat} {most n : Int} {own : List UInt8} {ks : List (Nat × Obj)} {es es' : List It} {p p' : Int × Int}
theorem AI.below (h : AI w w1 C D most own n ks es p es' p') : Below w.heap.size w w1 := by
  obtain ⟨E, N, E', N', h1, -⟩ := h
  exact h1.below
theorem AI.newer (h : AI w w1 C D most own n ks es p es' p') (hb : Below w1.heap.size w1 w2) : AI w w2 C D most own n ks es p es' p' := by
  obtain ⟨E, N, E', N', h1, h2⟩ := h
  exact ⟨E, N, E', N', h1.newer hb, h2⟩
theorem AI.box (h : AI w w1 C D most own n ks es p es' p') (o : Obj) : AI w (w1.alloc o) C D most own n ((w1.heap.size, o) :: ks) es p es' p' := by
  obtain ⟨E, N, E', N', h1, h2⟩ := h
  exact ⟨E, N, E', N', h1.keep (bel1' _ _) (heap_alloc_new _ _) (Nat.le_refl _), h2⟩
theorem AI.less (h : AI w w1 C D most own n ks es p es' p') {ks' : List (Nat × Obj)} (hk : ∀ q ∈ ks', q ∈ ks) : AI w w1 C D most own n ks' es p es' p' := by
  obtain ⟨E, N, E', N', h1, h2⟩ := h
  exact ⟨E, N, E', N', h1.less hk, h2⟩
theorem AI.more (h : AI w w1 C D most own n ks es p es' p') {n' : Int} (hn : n ≤ n') : AI w w1 C D most own n' ks es p es' p' := by
  obtain ⟨E, N, E', N', h1, h2, h3, h4, h5, h6, h7, h8, h9⟩ := h
  exact ⟨E, N, E', N', h1, h2, h3, h4, h5, h6, h7, h8.more hn, h9.more hn⟩
theorem AI.row (h : AI w w1 C D most own n ks es p es' p') {q : Nat} {o : Obj} (hp : (q, o) ∈ ks) : w1.heap[q]? = some o := by
  obtain ⟨E, N, E', N', h1, h2⟩ := h
  exact h1.at' hp
theorem AI.poke {q i : Nat} {cs : Array Value} {t : TypeId} (h : AI w w1 C D most own n ((q, .cells cs t (0, 0)) :: ks) es p es' p') (hq : ∀ x ∈ ks, x.1 ≠ q) (v : Value) (hw : w.heap.size ≤ q) : AI w (w1.setCell ⟨q, i, none⟩ v) C D most own n ((q, .cells (cs.setIfInBounds i v) t (0, 0)) :: ks) es p es' p' := by
  obtain ⟨E, N, E', N', h1, h2⟩ := h
  exact ⟨E, N, E', N', h1.poke hq v hw, h2⟩
theorem Nok.upd {N : List UInt8 → Int × Int} (h : Nok n N) (s k st : List UInt8) (l : List It) : Nok (n + 1) (updN N s (getN k st l (N s))) := fun x => by
  have hx := h x
  have hs := h s
  unfold updN
  by_cases e : x = s
  · rw [if_pos e]
    unfold getN
    split <;> (dsimp only; omega)
  · rw [if_neg e]
    omega
theorem updN_at (N : List UInt8 → Int × Int) (s : List UInt8) (v : Int × Int) : updN N s v s = v := by unfold updN; rw [if_pos rfl]
theorem own_only {E : List UInt8 → List It} (h : ∀ x, x ≠ own → E x = []) : ∃ S : List (List UInt8), S.length ≤ 15 ∧ ∀ x, E x ≠ [] → x ∈ S := ⟨[own], by simp, fun x hx => by
  by_cases e : x = own
  · simp [e]
  · exact (hx (h x e)).elim⟩
/-- The tenant asks, in the first; in the second. -/
theorem AI.get1 (h : AI w w1 C D most own n ks es p es' p') (hn : n ≤ 1000000) (k st : List UInt8) : Calls Try.prog 23 #[.pointer (some ⟨C, 0, none⟩), .string (tx own), .string (tx k), .string (tx st)] w1 fun e w2 => e = .returned (.tuple #[.string (tx (getT (lkE k es) st)), .bool (hitB (lkE k es) st)]) ∧ Hid (AI w w2 C D most own (n + 1) ks (getEE k st es) (getN k st es p) es' p') := by
  obtain ⟨E, N, E', N', h1, h2, h3, h4, h5, h6, h7, h8, h9⟩ := h
  have hb := h8 own
  refine (h1.get own k st ⟨hb.1, by omega, hb.2.2.1, by omega⟩).mono ?_
  rintro e w2 ⟨rfl, hz⟩
  rw [h2, h3] at hz
  refine ⟨by rw [h2], _, _, E', N', hz, updE_at _ _ _, updN_at _ _ _, h4, h5, fun x hx => by rw [updE_off _ _ hx]; exact h6 x hx, h7, ?_, h9.more (by omega)⟩
  rw [← h3]
  exact h8.upd own k st es
theorem AI.get2 (h : AI w w1 C D most own n ks es p es' p') (hn : n ≤ 1000000) (k st : List UInt8) : Calls Try.prog 23 #[.pointer (some ⟨D, 0, none⟩), .string (tx own), .string (tx k), .string (tx st)] w1 fun e w2 => e = .returned (.tuple #[.string (tx (getT (lkE k es') st)), .bool (hitB (lkE k es') st)]) ∧ Hid (AI w w2 C D most own (n + 1) ks es p (getEE k st es') (getN k st es' p')) := by
  obtain ⟨E, N, E', N', h1, h2, h3, h4, h5, h6, h7, h8, h9⟩ := h
  have hb := h9 own
  refine (h1.flip.get own k st ⟨hb.1, by omega, hb.2.2.1, by omega⟩).mono ?_
  rintro e w2 ⟨rfl, hz⟩
  rw [h4, h5] at hz
  refine ⟨by rw [h4], E, N, _, _, hz.flip, h2, h3, updE_at _ _ _, updN_at _ _ _, h6, fun x hx => ?_, h8.more (by omega), ?_⟩
  · by_cases e : x = own
    · rw [e]; exact List.mem_cons_self
    · rw [updE_off _ _ e] at hx; exact h7 x hx
  · rw [← h5]
    exact h9.upd own k st es'
theorem putEE_at (E : List UInt8 → List It) (s k st te : List UInt8) : putEE most E s k st te s = putL most (E s) k st te := by
  unfold putEE putL
  split
  · rfl
  · exact updE_at _ _ _
theorem putEE_off (E : List UInt8 → List It) {s x : List UInt8} (k st te : List UInt8) (h : x ≠ s) : putEE most E s k st te x = E x := by
  unfold putEE
  split
  · rfl
  · exact updE_off _ _ h
theorem AI.put1 (h : AI w w1 C D most own n ks es p es' p') (k st te : List UInt8) : Calls Try.prog 22 #[.pointer (some ⟨C, 0, none⟩), .string (tx own), .string (tx k), .string (tx st), .string (tx te)] w1 fun e w2 => e = .returned (.int .i64 (putR k te)) ∧ AI w w2 C D most own n ks (putL most es k st te) p es' p' := by
  obtain ⟨E, N, E', N', h1, h2, h3, h4, h5, h6, h7, h8, h9⟩ := h
  refine (h1.put own k st te (own_only h6)).mono ?_
  rintro e w2 ⟨rfl, hz⟩
  exact ⟨rfl, _, N, E', N', hz, by rw [putEE_at, h2], h3, h4, h5, fun x hx => by rw [putEE_off _ _ _ _ hx]; exact h6 x hx, h7, h8, h9⟩
theorem AI.put2 (h : AI w w1 C D most own n ks es p es' p') (k st te : List UInt8) : Calls Try.prog 22 #[.pointer (some ⟨D, 0, none⟩), .string (tx own), .string (tx k), .string (tx st), .string (tx te)] w1 fun e w2 => e = .returned (.int .i64 (putR k te)) ∧ AI w w2 C D most own n ks es p (putL most es' k st te) p' := by
  obtain ⟨E, N, E', N', h1, h2, h3, h4, h5, h6, h7, h8, h9⟩ := h
  refine (h1.flip.put own k st te ⟨own :: abc, by simp [abc], h7⟩).mono ?_
  rintro e w2 ⟨rfl, hz⟩
  refine ⟨rfl, E, N, _, N', hz.flip, h2, h3, by rw [putEE_at, h4], h5, h6, fun x hx => ?_, h8, h9⟩
  by_cases e : x = own
  · rw [e]; exact List.mem_cons_self
  · rw [putEE_off _ _ _ _ e] at hx; exact h7 x hx
theorem AI.forget1 (h : AI w w1 C D most own n ks es p es' p') : Calls Try.prog 24 #[.pointer (some ⟨C, 0, none⟩), .string (tx own)] w1 fun e w2 => e = .returned (.int .i64 (es.length : Int)) ∧ Hid (AI w w2 C D most own n ks [] p es' p') := by
  obtain ⟨E, N, E', N', h1, h2, h3, h4, h5, h6, h7, h8, h9⟩ := h
  refine (h1.forget own).mono ?_
  rintro e w2 ⟨rfl, hz⟩
  exact ⟨by rw [h2], _, N, E', N', hz, updE_at _ _ _, h3, h4, h5, fun x hx => by rw [updE_off _ _ hx]; exact h6 x hx, h7, h8, h9⟩
theorem AI.forget2 (h : AI w w1 C D most own n ks es p es' p') : Calls Try.prog 24 #[.pointer (some ⟨D, 0, none⟩), .string (tx own)] w1 fun e w2 => e = .returned (.int .i64 (es'.length : Int)) ∧ Hid (AI w w2 C D most own n ks es p [] p') := by
  obtain ⟨E, N, E', N', h1, h2, h3, h4, h5, h6, h7, h8, h9⟩ := h
  refine (h1.flip.forget own).mono ?_
  rintro e w2 ⟨rfl, hz⟩
  refine ⟨by rw [h4], E, N, _, N', hz.flip, h2, h3, updE_at _ _ _, h5, h6, fun x hx => ?_, h8, h9⟩
  by_cases e : x = own
  · rw [e]; exact List.mem_cons_self
  · rw [updE_off _ _ e] at hx; exact h7 x hx
theorem AI.lens (h : AI w w1 C D most own n ks es p es' p') : Calls Try.prog 18 #[.pointer (some ⟨C, 0, none⟩), .string (tx own)] w1 (fun e w2 => e = .returned (.int .i64 (es.length : Int)) ∧ w2 = w1) ∧ Calls Try.prog 18 #[.pointer (some ⟨D, 0, none⟩), .string (tx own)] w1 (fun e w2 => e = .returned (.int .i64 (es'.length : Int)) ∧ w2 = w1) := by
  obtain ⟨E, N, E', N', h1, h2, h3, h4, h5, h6, h7, h8, h9⟩ := h
  rw [← h2, ← h4]
  exact ⟨h1.len own, h1.flip.len own⟩
theorem AI.count1 (h : AI w w1 C D most own n ks es p es' p') : Calls Try.prog 20 #[.pointer (some ⟨C, 0, none⟩), .string (tx own)] w1 fun e w2 => e = .returned (.agg #[.int .i64 p.1, .int .i64 p.2]) ∧ Hid (AI w w2 C D most own n ks es p es' p') := by
  obtain ⟨E, N, E', N', h1, h2, h3, h4, h5, h6, h7, h8, h9⟩ := h
  refine (h1.count own).mono ?_
  rintro e w2 ⟨rfl, hz⟩
  exact ⟨by rw [h3]; rfl, E, N, E', N', hz, h2, h3, h4, h5, h6, h7, h8, h9⟩
theorem AI.count2 (h : AI w w1 C D most own n ks es p es' p') : Calls Try.prog 20 #[.pointer (some ⟨D, 0, none⟩), .string (tx own)] w1 fun e w2 => e = .returned (.agg #[.int .i64 p'.1, .int .i64 p'.2]) ∧ Hid (AI w w2 C D most own n ks es p es' p') := by
  obtain ⟨E, N, E', N', h1, h2, h3, h4, h5, h6, h7, h8, h9⟩ := h
  refine (h1.flip.count own).mono ?_
  rintro e w2 ⟨rfl, hz⟩
  exact ⟨by rw [h5]; rfl, E, N, E', N', hz.flip, h2, h3, h4, h5, h6, h7, h8, h9⟩
/-- Another one calls the second. -/
theorem AI.step {R : Nat} (h : AI w w1 C D most own n ((R, .cells #[.int .i64 1, .slice none 0 0, .slice none 0 0] 58 (0, 0)) :: ks) es p es' p') (hn : n ≤ 1000000) (hks : ∀ q ∈ ks, q.1 ≠ R) (hRw : w.heap.size ≤ R) (kind : Int) {s : List UInt8} (hs : s ∈ abc) (hso : s ≠ own) (k st te : List UInt8) (hk : kind ≠ 5) : Calls Try.prog 17 #[.pointer (some ⟨D, 0, none⟩), .pointer (some ⟨R, 0, none⟩), .agg #[.int .i64 kind, .string (tx s), .string (tx k), .string (tx st), .string (tx te)]] w1 fun e w2 => ∃ b, e = .returned (.bool b) ∧ Hid (AI w w2 C D most own (n + 1) ks es p es' p') := by
  obtain ⟨E, N, E', N', h1, h2, h3, h4, h5, h6, h7, h8, h9⟩ := h
  have hb := h9 s
  refine (h1.step hks hRw kind s k st te hk ⟨own :: abc, by simp [abc], h7⟩ ⟨hb.1, by omega, hb.2.2.1, by omega⟩).mono ?_
  rintro e w2 ⟨b, rfl, H⟩
  obtain ⟨E1, N1, k1, k2⟩ := H.out
  refine ⟨b, rfl, E, N, E1, N1, k1, h2, h3, by rw [k2.e own hso.symm, h4], by rw [k2.n own hso.symm, h5], h6, fun x hx => ?_, h8.more (by omega), fun x => ?_⟩
  · by_cases e : x = s
    · rw [e]; exact List.mem_cons_of_mem _ hs
    · rw [k2.e x e] at hx; exact h7 x hx
  · by_cases e : x = s
    · have := k2.b ⟨hb.1, hb.2.2.1⟩
      rw [e]
      omega
    · rw [k2.n x e]
      have := h9 x
      omega
/-- Counts, compared with themselves. -/
theorem eqI (A : Int) (m : Nat) (w : World) : (Op.equalIn (m + 1) 2 (.int .i64 A) (.int .i64 A)).run Try.prog w = .ok true w := by
  simp [Op.equalIn, run_underlying Try.underlying2]
theorem eqCnt (A B : Int) (w : World) : (Op.equalIn 10000 43 (.agg #[.int .i64 A, .int .i64 B]) (.agg #[.int .i64 A, .int .i64 B])).run Try.prog w = .ok true w := by
  have p0 : (part 2 #[.int .i64 A, .int .i64 B] 0).run Try.prog w = .ok (.int .i64 A) w := by kernel_rfl
  have p1 : (part 2 #[.int .i64 A, .int .i64 B] 1).run Try.prog w = .ok (.int .i64 B) w := by kernel_rfl
  rw [show (10000 : Nat) = 9999 + 1 from rfl, run_equalIn_struct w 9999 43 _ _ (by simp [Program.fieldsOf, Try.underlying43]) (by kernel_rfl)]
  simp [Program.fieldsOf, Try.underlying43, Op.eqFields, p0, p1, eqI _ 9998]
end Go.Proofs.Ytbcdaddbcjagjaa
