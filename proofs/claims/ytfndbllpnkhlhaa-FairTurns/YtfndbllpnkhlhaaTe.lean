/- Turns: the bound, when the job is pushed. Plain mathematics. -/
import Derived.Test.YtfndbllpnkhlhaaTd
namespace Go.Proofs.Ytfndbllpnkhlhaa
set_option linter.unusedVariables false
set_option linter.unusedSimpArgs false

theorem sumL_snoc (a : List Wk) (x : Wk) : sumL (a ++ [x]) = sumL a + x.left := by
  induction a with
  | nil => simp [sumL]
  | cons y r ih => simp [sumL, ih]; omega
/-- How far behind the clock the job starts. -/
theorem far {C : Int} {s : Sc} {k : Nat} {t : Tn} (h : Iv C s) (hk : s.ts[k]? = some t) : 0 ≤ begins s.clk t.fin - s.clk ∧ begins s.clk t.fin - s.clk ≤ (sumL t.ws + C) * un t := by
  have hT := h.all t (List.mem_of_getElem? hk)
  have hu := un_bd ⟨hT.w0, hT.w1⟩
  obtain ⟨b, h1, h2, h3⟩ := hT.ch
  obtain ⟨b1, b2, b3⟩ := begins_bd (clk := s.clk) (fin := t.fin)
  have hCu := Int.mul_nonneg h.c0 (show 0 ≤ un t by omega)
  refine ⟨by omega, ?_⟩
  cases hws : t.ws with
  | nil =>
    rw [hws] at h1
    have h1' : t.fin = b := h1
    simp only [sumL, Int.zero_add]
    omega
  | cons x l =>
    have hb := h3 (by rw [hws]; simp)
    have hle := (Ch.le (by omega) h1 fun y hy => (hT.co y hy).1).1
    have hf : begins s.clk t.fin = t.fin := by omega
    have hsum := Ch.sum h1
    have hcx := hT.co x (by rw [hws]; simp)
    rw [hf, hsum]
    by_cases hsrv : s.busy = true ∧ t.nm = s.srv
    · obtain ⟨k2, t2, x2, l2, g1, g2, g3, g4⟩ := h.busy hsrv.1
      obtain ⟨g5, g6⟩ := look_in g1
      have := nd_at h.nd hk g5 (by rw [hsrv.2, g6])
      subst this
      rw [hk] at g5
      have := Option.some.inj g5
      subst this
      rw [hws] at g2
      obtain ⟨rfl, rfl⟩ := List.cons.inj g2
      rw [hws] at h1
      have hbx := h1.1
      have hsl := sC_eq g4
      have e1 : sC t.ws = x.cost + sumL l := by rw [hws]; simp only [sC]; rw [hsl]
      have e2 : sumL (x :: l) = x.left + sumL l := rfl
      rw [e1, e2]
      have := mul_mono (show x.cost + sumL l ≤ x.left + sumL l + C by omega) (show 1 ≤ un t by omega)
      omega
    · have hall : ∀ y ∈ t.ws, y.left = y.cost := h.other t (List.mem_of_getElem? hk) (by
        cases hb' : s.busy with
        | false => exact .inl rfl
        | true => exact .inr fun e => hsrv ⟨hb', e⟩)
      rw [sC_eq hall, hws, Int.add_mul]
      omega
theorem map_sum_lin {D : Int} : ∀ (l : List Tn), (l.map fun u => D * u.wt - 720720 * (D / un u)).sum = D * sumW l - 720720 * (l.map fun u => D / un u).sum
  | [] => by simp [sumW]
  | p :: r => by
    have ih := map_sum_lin (D := D) r
    simp only [List.map_cons, List.sum_cons, sumW]
    rw [ih, Int.mul_add, Int.mul_add]
    omega
theorem map_sum_c {C : Int} {g : Tn → Int} : ∀ (l : List Tn), (l.map fun u => g u + C).sum = (l.map g).sum + C * (l.length : Int)
  | [] => by simp
  | p :: r => by
    have ih := map_sum_c (C := C) (g := g) r
    simp only [List.map_cons, List.sum_cons, List.length_cons]
    rw [ih]
    have : C * ((r.length + 1 : Nat) : Int) = C * (r.length : Int) + C := by
      rw [show ((r.length + 1 : Nat) : Int) = (r.length : Int) + 1 by omega, Int.mul_add]
      omega
    omega
theorem sumW_nn : ∀ {l : List Tn}, (∀ u ∈ l, 1 ≤ u.wt) → 0 ≤ sumW l
  | [], _ => Int.le_refl _
  | p :: r, h => by
    have h1 := h p (by simp)
    have h2 := sumW_nn (l := r) fun u hu => h u (by simp [hu])
    simp only [sumW]
    omega
theorem sumW_ge : ∀ {l : List Tn} {t : Tn}, (∀ u ∈ l, 1 ≤ u.wt) → t ∈ l → t.wt ≤ sumW l
  | [], t, _, ht => (nomatch ht)
  | p :: r, t, h, ht => by
    have h1 := h p (by simp)
    have h2 := sumW_nn (l := r) fun u hu => h u (by simp [hu])
    simp only [sumW]
    rcases List.mem_cons.1 ht with e | ht
    · subst e; omega
    · have := sumW_ge (l := r) (fun u hu => h u (by simp [hu])) ht
      omega
/-- Behind the push: at most so many slots. -/
theorem Phi_init {C : Int} {s : Sc} {f : List UInt8} {m : Int} (h : Iv C s) (hm : m ≤ C) (h0 : (pushS s f (-77) m).1 = 0) :
    ∃ k t st n, lookT s.ts f = some (k, t) ∧ Mkd st f n (pushS s f (-77) m).2 ∧ Phi C st f n (pushS s f (-77) m).2 ≤ (aheadS s f + C) * sumW s.ts / t.wt + C * (s.ts.length : Int) := by
  obtain ⟨k, t, h1, h2, h3⟩ := push_ok0 h0
  obtain ⟨hk, hnm⟩ := look_in h1
  have ht := List.mem_of_getElem? hk
  have hT := h.all t ht
  have hu := un_bd ⟨hT.w0, hT.w1⟩
  have hue := (un_eq ⟨hT.w0, hT.w1⟩ 0).2
  obtain ⟨D0, D1⟩ := far h hk
  have hq : aheadS s f = sumL t.ws := by unfold aheadS; rw [h1]
  rw [hq, h3]
  refine ⟨k, t, begins s.clk t.fin, t.ws.length, h1, ⟨k, { t with fin := begins s.clk t.fin + m * 720720 / t.wt, ws := t.ws ++ [⟨-77, m, begins s.clk t.fin, m⟩] }, ⟨-77, m, begins s.clk t.fin, m⟩, ?_, ?_, rfl, rfl⟩, ?_⟩
  · have hself : (s.ts.set k { t with fin := begins s.clk t.fin + m * 720720 / t.wt, ws := t.ws ++ [⟨-77, m, begins s.clk t.fin, m⟩] })[k]? = some { t with fin := begins s.clk t.fin + m * 720720 / t.wt, ws := t.ws ++ [⟨-77, m, begins s.clk t.fin, m⟩] } := List.getElem?_set_self (List.getElem?_eq_some_iff.1 hk).1
    have := look_of (nd_set (t' := { t with fin := begins s.clk t.fin + m * 720720 / t.wt, ws := t.ws ++ [⟨-77, m, begins s.clk t.fin, m⟩] }) h.nd hk rfl) hself
    rw [← hnm]
    exact this
  · show (t.ws ++ [_])[t.ws.length]? = _
    simp
  · obtain ⟨st, hst⟩ : ∃ st, begins s.clk t.fin = st := ⟨_, rfl⟩
    rw [hst] at D0 D1 ⊢
    obtain ⟨D, hD⟩ : ∃ D, st - s.clk = D := ⟨_, rfl⟩
    rw [hD] at D0 D1
    have hs := sum_set_le (g := fun u => D / un u + C) (g' := gg C st s.clk f t.ws.length) (b := { t with fin := st + m * 720720 / t.wt, ws := t.ws ++ [⟨-77, m, st, m⟩] }) hk fun i u hi hu' => by
      have hne : u.nm ≠ f := fun e => hi (nd_at h.nd hu' hk (by rw [e, hnm]))
      unfold gg
      rw [if_neg hne]
      have h9 := ph_le (st := st) (h.all u (List.mem_of_getElem? hu')) h.c0
      unfold U at h9
      rw [if_pos (by omega), hD] at h9
      exact h9
    have hgt : gg C st s.clk f t.ws.length { t with fin := st + m * 720720 / t.wt, ws := t.ws ++ [⟨-77, m, st, m⟩] } = sumL t.ws + m := by
      unfold gg
      rw [if_pos hnm]
      show sumL ((t.ws ++ [_]).take (t.ws.length + 1)) = _
      rw [List.take_of_length_le (by simp), sumL_snoc]
    have hlin := map_sum_lin (D := D) s.ts
    have hge := sum_ge (g := fun u => D * u.wt - 720720 * (D / un u)) (fun u hu' => by
      have hTu := h.all u hu'
      have huu := un_bd ⟨hTu.w0, hTu.w1⟩
      have hue := (un_eq ⟨hTu.w0, hTu.w1⟩ 0).2
      have h9 := Int.ediv_mul_le D (show un u ≠ 0 by omega)
      have h10 := Int.mul_le_mul_of_nonneg_right h9 (show 0 ≤ u.wt by have := hTu.w0; omega)
      rw [Int.mul_assoc, hue] at h10
      omega) ht
    rw [hlin] at hge
    have hmc := map_sum_c (C := C) (g := fun u => D / un u) s.ts
    have hWw := sumW_ge (fun u hu' => (h.all u hu').w0) ht
    generalize (s.ts.map fun u => D / un u).sum = Y at *
    generalize sumW s.ts = W at *
    generalize D / un t = y at *
    obtain ⟨q, hq'⟩ : ∃ q, sumL t.ws = q := ⟨_, rfl⟩
    rw [hq'] at D1 hgt ⊢
    have hw0 := hT.w0
    generalize t.wt = v at *
    generalize un t = u at *
    -- 720720 (Y - y) ≤ D (W - v) ≤ (q + C) u (W - v), 720720 = u v
    have k1 : 720720 * (Y - y) ≤ D * (W - v) := by rw [Int.mul_sub, Int.mul_sub]; omega
    have k2 : D * (W - v) ≤ (q + C) * u * (W - v) := Int.mul_le_mul_of_nonneg_right D1 (by omega)
    have k3 : u * (v * (Y - y)) ≤ u * ((q + C) * (W - v)) := by
      rw [← Int.mul_assoc, hue, ← Int.mul_assoc, Int.mul_comm u (q + C)]
      omega
    have k4 : v * (Y - y) ≤ (q + C) * (W - v) := Int.le_of_mul_le_mul_left k3 (by omega)
    have k5 : (Y - y + (q + C)) * v ≤ (q + C) * W := by
      rw [Int.add_mul, Int.mul_comm (Y - y) v]
      have k4b : (q + C) * (W - v) = (q + C) * W - (q + C) * v := Int.mul_sub _ _ _
      omega
    have k6 : Y - y + (q + C) ≤ (q + C) * W / v := (Int.le_ediv_iff_mul_le (by omega)).2 k5
    unfold Phi
    dsimp only
    rw [hst] at *
    omega
end Go.Proofs.Ytfndbllpnkhlhaa
