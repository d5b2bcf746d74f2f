/- Turns: how many slots it takes at most until a job is done. Plain mathematics. -/
import Derived.Test.YtfndbllpnkhlhaaTb
namespace Go.Proofs.Ytfndbllpnkhlhaa
set_option linter.unusedVariables false
set_option linter.unusedSimpArgs false

/-- How many slots jobs of a tenant may have that start from e on, and not behind st. -/
def U (u C st e : Int) : Int := if e ≤ st then (st - e) / u + C else 0
theorem U_nn {u C st e : Int} (hu : 1 ≤ u) (hC : 0 ≤ C) : 0 ≤ U u C st e := by
  unfold U
  split
  · have := Int.ediv_nonneg (show 0 ≤ st - e by omega) (show 0 ≤ u by omega)
    omega
  · omega
theorem U_mono {u C st e e' : Int} (hu : 1 ≤ u) (hC : 0 ≤ C) (h : e ≤ e') : U u C st e' ≤ U u C st e := by
  unfold U
  split
  · rename_i h1
    rw [if_pos (by omega)]
    have := Int.ediv_le_ediv (show 0 < u by omega) (show st - e' ≤ st - e by omega)
    omega
  · have := U_nn (st := st) (e := e) hu hC
    unfold U at this
    exact this
theorem U_step {u C st e c : Int} (hu : 1 ≤ u) (hc : 1 ≤ c) (hC : c ≤ C) (h : e ≤ st) : c + U u C st (e + c * u) ≤ U u C st e := by
  unfold U
  rw [if_pos h]
  have h0 := Int.ediv_nonneg (show 0 ≤ st - e by omega) (show 0 ≤ u by omega)
  split
  · have : (st - e) / u = (st - (e + c * u)) / u + c := by
      rw [← Int.add_mul_ediv_right _ _ (show u ≠ 0 by omega)]
      congr 1
      omega
    omega
  · omega
def ph (C st clk : Int) (t : Tn) : Int := match t.ws with | [] => U (un t) C st (begins clk t.fin) | x :: _ => if x.start ≤ st then x.left + U (un t) C st (x.start + x.cost * un t) else 0
theorem ph_nn {C st clk : Int} {t : Tn} (h : To C clk t) (hC : 0 ≤ C) : 0 ≤ ph C st clk t := by
  have hu := un_bd ⟨h.w0, h.w1⟩
  unfold ph
  split
  · exact U_nn (by omega) hC
  · rename_i x l hws
    have := U_nn (C := C) (u := un t) (st := st) (e := x.start + x.cost * un t) (by omega) hC
    have := h.co x (by rw [hws]; simp)
    split <;> omega
/-- At most what the virtual time lets. -/
theorem ph_le {C st clk : Int} {t : Tn} (h : To C clk t) (hC : 0 ≤ C) : ph C st clk t ≤ U (un t) C st clk := by
  have hu := un_bd ⟨h.w0, h.w1⟩
  unfold ph
  split
  · exact U_mono (by omega) hC begins_bd.1
  · rename_i x l hws
    obtain ⟨h1, h2, h3, h4⟩ := h.head hws
    split
    · rename_i hx
      have a := U_step (u := un t) (C := C) (st := st) (e := x.start) (c := x.cost) (by omega) h4.1 h4.2.1 hx
      have b := U_mono (u := un t) (C := C) (st := st) (show 1 ≤ un t by omega) hC h1
      omega
    · exact U_nn (by omega) hC
theorem ph_clock {C st clk clk' : Int} {t : Tn} (h : To C clk t) (hC : 0 ≤ C) (hc : clk ≤ clk') : ph C st clk' t ≤ ph C st clk t := by
  have hu := un_bd ⟨h.w0, h.w1⟩
  unfold ph
  split
  · refine U_mono (by omega) hC ?_
    unfold begins
    split <;> split <;> omega
  · exact Int.le_refl _
/-- One is pushed. -/
theorem ph_push {C st clk : Int} {t : Tn} {id cost : Int} (h : To C clk t) (hC : 0 ≤ C) (h1 : 1 ≤ cost) (h2 : cost ≤ C) : ph C st clk { t with fin := begins clk t.fin + cost * 720720 / t.wt, ws := t.ws ++ [⟨id, cost, begins clk t.fin, cost⟩] } ≤ ph C st clk t := by
  have hu := un_bd ⟨h.w0, h.w1⟩
  cases hws : t.ws with
  | nil =>
    have e1 : ph C st clk t = U (un t) C st (begins clk t.fin) := by unfold ph; rw [hws]
    rw [e1]
    show ph C st clk _ ≤ _
    unfold ph
    simp only [List.nil_append]
    show (if begins clk t.fin ≤ st then cost + U (un t) C st (begins clk t.fin + cost * un t) else 0) ≤ _
    split
    · rename_i hx
      exact U_step (by omega) h1 h2 hx
    · exact U_nn (by omega) hC
  | cons x l =>
    have e1 : ph C st clk t = if x.start ≤ st then x.left + U (un t) C st (x.start + x.cost * un t) else 0 := by unfold ph; rw [hws]
    rw [e1]
    exact Int.le_refl _
theorem ph_half {C st clk : Int} {t : Tn} {x : Wk} {l : List Wk} (hws : t.ws = x :: l) (hx : x.start ≤ st) : ph C st clk { t with ws := { x with left := x.left - 1 } :: l } = ph C st clk t - 1 := by
  have e1 : ph C st clk t = x.left + U (un t) C st (x.start + x.cost * un t) := by unfold ph; rw [hws]; simp [hx]
  rw [e1]
  show (if x.start ≤ st then x.left - 1 + U (un t) C st (x.start + x.cost * un t) else 0) = _
  rw [if_pos hx]
  omega
theorem ph_done {C st clk : Int} {t : Tn} {x : Wk} {l : List Wk} (h : To C clk t) (hC : 0 ≤ C) (hws : t.ws = x :: l) (hx : x.start ≤ st) (hc : x.start = clk) (hl : ∀ y ∈ l, y.left = y.cost) (h1 : x.left = 1) : ph C st clk { t with ws := l } ≤ ph C st clk t - 1 := by
  have hu := un_bd ⟨h.w0, h.w1⟩
  obtain ⟨g1, g2, g3, g4⟩ := h.head hws
  have hn := cu_nn g4.1 (show 1 ≤ un t by omega)
  have e1 : ph C st clk t = x.left + U (un t) C st (x.start + x.cost * un t) := by unfold ph; rw [hws]; simp [hx]
  rw [e1, h1]
  cases l with
  | nil =>
    have hf : t.fin = x.start + x.cost * un t := g3
    show U (un t) C st (begins clk t.fin) ≤ _
    have : begins clk t.fin = x.start + x.cost * un t := by unfold begins; rw [if_neg (by omega)]; exact hf
    rw [this]
    omega
  | cons y r =>
    have hy := g3.1
    have hyc := h.co y (by rw [hws]; simp)
    show (if y.start ≤ st then y.left + U (un t) C st (y.start + y.cost * un t) else 0) ≤ _
    split
    · rename_i hs
      rw [hl y (by simp)]
      have := U_step (u := un t) (C := C) (st := st) (e := y.start) (c := y.cost) (by omega) hyc.1 hyc.2.1 hs
      rw [hy] at this ⊢
      omega
    · have := U_nn (C := C) (u := un t) (st := st) (e := x.start + x.cost * un t) (by omega) hC
      omega
/-- What a tenant still has, up to the n-th job, or what is bounded by virtual time. -/
def gg (C st clk : Int) (f : List UInt8) (n : Nat) (t : Tn) : Int := if t.nm = f then sumL (t.ws.take (n + 1)) else ph C st clk t
def Phi (C st : Int) (f : List UInt8) (n : Nat) (s : Sc) : Int := (s.ts.map (gg C st s.clk f n)).sum
theorem sum_set_le {g g' : Tn → Int} : ∀ {l : List Tn} {k : Nat} {a b : Tn}, l[k]? = some a → (∀ (i : Nat) (t : Tn), i ≠ k → l[i]? = some t → g' t ≤ g t) → ((l.set k b).map g').sum ≤ (l.map g).sum - g a + g' b
  | [], k, a, b, h, _ => by simp at h
  | p :: r, 0, a, b, h, ho => by
    simp at h
    subst h
    have : ∀ (m : List Tn), (∀ t ∈ m, g' t ≤ g t) → (m.map g').sum ≤ (m.map g).sum := by
      intro m
      induction m with
      | nil => intro _; exact Int.le_refl _
      | cons q m ih =>
        intro hm
        have h1 := hm q (by simp)
        have h2 := ih fun t ht => hm t (by simp [ht])
        simp only [List.map_cons, List.sum_cons]
        omega
    have h2 := this r fun t ht => by
      obtain ⟨i, hi⟩ := List.getElem?_of_mem ht
      exact ho (i + 1) t (by omega) (by simpa using hi)
    simp only [List.set_cons_zero, List.map_cons, List.sum_cons]
    omega
  | p :: r, k + 1, a, b, h, ho => by
    have h0 := ho 0 p (by omega) rfl
    have ih := sum_set_le (l := r) (k := k) (a := a) (b := b) (by simpa using h) fun i t hi ht => ho (i + 1) t (by omega) (by simpa using ht)
    simp only [List.set_cons_succ, List.map_cons, List.sum_cons]
    omega
/-- The job that is waited for: the n-th of a tenant's. -/
structure Mkd (st : Int) (f : List UInt8) (n : Nat) (s : Sc) : Prop where
  ex : ∃ k t x, lookT s.ts f = some (k, t) ∧ t.ws[n]? = some x ∧ x.id = -77 ∧ x.start = st
theorem sumL_pos {l : List Wk} (h : ∀ x ∈ l, 1 ≤ x.left) : (l.length : Int) ≤ sumL l := by
  induction l with
  | nil => simp [sumL]
  | cons x r ih =>
    have h1 := h x (by simp)
    have h2 := ih fun y hy => h y (by simp [hy])
    simp only [sumL, List.length_cons]
    omega
theorem sum_nn {g : Tn → Int} : ∀ {l : List Tn}, (∀ t ∈ l, 0 ≤ g t) → 0 ≤ (l.map g).sum
  | [], _ => Int.le_refl _
  | p :: r, h => by
    have h1 := h p (by simp)
    have h2 := sum_nn (l := r) fun t ht => h t (by simp [ht])
    simp only [List.map_cons, List.sum_cons]
    omega
theorem gg_nn {C st clk : Int} {f : List UInt8} {n : Nat} {t : Tn} (h : To C clk t) (hC : 0 ≤ C) : 0 ≤ gg C st clk f n t := by
  unfold gg
  split
  · have := sumL_pos (l := t.ws.take (n + 1)) fun x hx => (h.co x (List.mem_of_mem_take hx)).2.2.1
    omega
  · exact ph_nn h hC
theorem sum_ge {g : Tn → Int} : ∀ {l : List Tn} {t : Tn}, (∀ t ∈ l, 0 ≤ g t) → t ∈ l → g t ≤ (l.map g).sum
  | [], t, _, ht => (nomatch ht)
  | p :: r, t, h, ht => by
    have h1 := h p (by simp)
    have h2 := sum_nn (l := r) fun t ht => h t (by simp [ht])
    simp only [List.map_cons, List.sum_cons]
    rcases List.mem_cons.1 ht with e | ht
    · subst e; omega
    · have := sum_ge (l := r) (fun t ht => h t (by simp [ht])) ht
      omega
/-- As long as it is waited for, there is a slot left. -/
theorem Phi_pos {C st : Int} {f : List UInt8} {n : Nat} {s : Sc} (h : Iv C s) (hm : Mkd st f n s) : 1 ≤ Phi C st f n s := by
  obtain ⟨k, t, x, h1, h2, _, _⟩ := hm.ex
  obtain ⟨h3, h4⟩ := look_in h1
  have ht := List.mem_of_getElem? h3
  have hT := h.all t ht
  have hg := sum_ge (g := gg C st s.clk f n) (fun t ht => gg_nn (h.all t ht) h.c0) ht
  have e : gg C st s.clk f n t = sumL (t.ws.take (n + 1)) := by unfold gg; rw [if_pos h4]
  have hl := sumL_pos (l := t.ws.take (n + 1)) fun x hx => (hT.co x (List.mem_of_mem_take hx)).2.2.1
  have hn := (List.getElem?_eq_some_iff.1 h2).1
  rw [List.length_take] at hl
  unfold Phi
  omega
end Go.Proofs.Ytfndbllpnkhlhaa
