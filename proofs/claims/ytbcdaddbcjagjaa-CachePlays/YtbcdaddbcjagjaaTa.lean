/- The model's cache as it lies; Len, find, tenants. -/
import Derived.Test.YtbcdaddbcjagjaaRa
namespace Go.Proofs.Ytbcdaddbcjagjaa
open Go.RowKit
set_option linter.unusedVariables false
set_option linter.unusedSimpArgs false

/-- An answer that is kept; counts of a tenant. -/
structure An where
  tn : List UInt8
  key : List UInt8
  st : List UInt8
  te : List UInt8
structure Cn where
  tn : List UInt8
  h : Int
  m : Int
def fA (a : An) : List Value := [.string (tx a.tn), .string (tx a.key), .string (tx a.st), .string (tx a.te)]
def fC (c : Cn) : List Value := [.string (tx c.tn), .int .i64 c.h, .int .i64 c.m]
theorem fA_len (a : An) : (fA a).length = 4 := rfl
theorem fC_len (c : Cn) : (fC c).length = 3 := rfl
theorem fA_one (a : An) : ∀ u ∈ fA a, u.oneCell' = true := by
  intro u hu
  simp [fA] at hu
  rcases hu with rfl | rfl | rfl | rfl <;> rfl
theorem fC_one (c : Cn) : ∀ u ∈ fC c, u.oneCell' = true := by
  intro u hu
  simp [fC] at hu
  rcases hu with rfl | rfl | rfl <;> rfl
/-- The model's cache. -/
structure MS (w : World) (R B : Nat) (most : Int) (lv cv : Value) (l : List An) (cs : List Cn) : Prop where
  box : w.heap[R]? = some (.cells #[.int .i64 most, lv, cv] 58 (0, 0))
  rl : w.ownsRow B 78 4 lv l.length (fl fA l)
  rc : w.ownsRow B 46 3 cv cs.length (fl fC cs)
  rb : B ≤ R
def GM (R : Nat) (lv cv : Value) (q : Nat) : Prop := q = R ∨ lv.ownBlock = some q ∨ cv.ownBlock = some q
variable {w w' : World} {R B : Nat} {most : Int} {lv cv : Value} {l : List An} {cs : List Cn}
theorem MS.lt (h : MS w R B most lv cv l cs) : ∀ q, GM R lv cv q → q < w.heap.size := by
  rintro q (rfl | hq | hq)
  · exact (Array.getElem?_eq_some_iff.1 h.box).1
  · exact (h.rl.lt q hq).2
  · exact (h.rc.lt q hq).2
theorem MS.low (h : MS w R B most lv cv l cs) : ∀ q, GM R lv cv q → B ≤ q := by
  rintro q (rfl | hq | hq)
  · exact h.rb
  · exact (h.rl.lt q hq).1
  · exact (h.rc.lt q hq).1
theorem MS.at' (h : MS w R B most lv cv l cs) (hk : ∀ q, GM R lv cv q → w'.heap[q]? = w.heap[q]?) : MS w' R B most lv cv l cs :=
  ⟨(hk R (.inl rfl)).trans h.box, own_at h.rl fun q hq => hk q (.inr (.inl hq)), own_at h.rc fun q hq => hk q (.inr (.inr hq)), h.rb⟩
theorem MS.newer (h : MS w R B most lv cv l cs) (hb : Below w.heap.size w w') : MS w' R B most lv cv l cs := h.at' fun q hq => hb.block q (h.lt q hq)
theorem MS.cells (h : MS w R B most lv cv l cs) : w.cell? ⟨R, 0, none⟩ = some (.int .i64 most) ∧ w.cell? ⟨R, 1, none⟩ = some lv ∧ w.cell? ⟨R, 2, none⟩ = some cv ∧ ∀ i, w.frozen? ⟨R, i, none⟩ = false := by
  have h := h.box
  exact ⟨by rw [cell_of_row _ _ _ _ _ _ h]; rfl, by rw [cell_of_row _ _ _ _ _ _ h]; rfl, by rw [cell_of_row _ _ _ _ _ _ h]; rfl, fun i => by simp [World.frozen?, h]⟩
theorem MS.forms (h : MS w R B most lv cv l cs) : (∃ a cap, lv = .slice a l.length cap ∧ (l.length : Int) ≤ (cap : Int)) ∧ ∃ a cap, cv = .slice a cs.length cap ∧ (cs.length : Int) ≤ (cap : Int) := by
  constructor
  · rcases h.rl.2 with ⟨h1, h2⟩ | ⟨g, cp, cur, h1, _, _, h3, _⟩
    · exact ⟨none, 0, by rw [h1, h2], by omega⟩
    · exact ⟨_, cp, h1, by omega⟩
  · rcases h.rc.2 with ⟨h1, h2⟩ | ⟨g, cp, cur, h1, _, _, h3, _⟩
    · exact ⟨none, 0, by rw [h1, h2], by omega⟩
    · exact ⟨_, cp, h1, by omega⟩
/-- An answer, read. -/
theorem MS.ans {sa : Option Addr} {n cap : Nat} (h : MS w R B most (.slice sa n cap) cv l cs) {i : Nat} {a : An} (hi : l[i]? = some a) : ∃ g, sa = some ⟨g, 0, none⟩ ∧ w.cell? ⟨g, i * 4, none⟩ = some (.string (tx a.tn)) ∧ w.cell? ⟨g, i * 4 + 1, none⟩ = some (.string (tx a.key)) ∧ w.cell? ⟨g, i * 4 + 2, none⟩ = some (.string (tx a.st)) ∧ w.cell? ⟨g, i * 4 + 3, none⟩ = some (.string (tx a.te)) ∧ g < w.heap.size := by
  have hlt := (List.getElem?_eq_some_iff.1 hi).1
  obtain ⟨g, cap', e⟩ := own_form h.rl (by omega)
  obtain ⟨e1, e2, e3⟩ := Value.slice.inj e
  subst e1 e2 e3
  suffices hall : ∀ j u, (fA a)[j]? = some u → w.cell? ⟨g, i * 4 + j, none⟩ = some u from ⟨g, rfl, hall 0 _ rfl, hall 1 _ rfl, hall 2 _ rfl, hall 3 _ rfl, (own_lt h.rl).2⟩
  intro j u hj
  have hj4 : j < 4 := (List.getElem?_eq_some_iff.1 hj).1
  rw [h.rl.cellAt _ (by have := Nat.mul_le_mul_right 4 (show i + 1 ≤ l.length from hlt); omega), fl_at fA_len l i a j hi hj4]
  exact hj
theorem MS.cnt {sa : Option Addr} {n cap : Nat} (h : MS w R B most lv (.slice sa n cap) l cs) {i : Nat} {a : Cn} (hi : cs[i]? = some a) : ∃ g, sa = some ⟨g, 0, none⟩ ∧ w.cell? ⟨g, i * 3, none⟩ = some (.string (tx a.tn)) ∧ w.cell? ⟨g, i * 3 + 1, none⟩ = some (.int .i64 a.h) ∧ w.cell? ⟨g, i * 3 + 2, none⟩ = some (.int .i64 a.m) ∧ (∀ j, w.frozen? ⟨g, j, none⟩ = false) ∧ g < w.heap.size := by
  have hlt := (List.getElem?_eq_some_iff.1 hi).1
  obtain ⟨g, cap', e⟩ := own_form h.rc (by omega)
  obtain ⟨e1, e2, e3⟩ := Value.slice.inj e
  subst e1 e2 e3
  suffices hall : ∀ j u, (fC a)[j]? = some u → w.cell? ⟨g, i * 3 + j, none⟩ = some u from ⟨g, rfl, hall 0 _ rfl, hall 1 _ rfl, hall 2 _ rfl, fun j => h.rc.frozenAt j, (own_lt h.rc).2⟩
  intro j u hj
  have hj4 : j < 3 := (List.getElem?_eq_some_iff.1 hj).1
  rw [h.rc.cellAt _ (by have := Nat.mul_le_mul_right 3 (show i + 1 ≤ cs.length from hlt); omega), fl_at fC_len cs i a j hi hj4]
  exact hj
/-- How many a tenant has. -/
def cntT (s : List UInt8) : List An → Nat
  | [] => 0
  | a :: r => if a.tn = s then cntT s r + 1 else cntT s r
theorem cntT_app (s : List UInt8) : ∀ a b : List An, cntT s (a ++ b) = cntT s a + cntT s b
  | [], b => by simp [cntT]
  | x :: r, b => by
    rw [List.cons_append, cntT, cntT, cntT_app s r b]
    split <;> omega
theorem cntT_step (s : List UInt8) {l : List An} {j : Nat} {a : An} (h : l[j]? = some a) : cntT s (l.take (j + 1)) = cntT s (l.take j) + (if a.tn = s then 1 else 0) := by
  rw [List.take_add_one, h, cntT_app]
  simp [cntT]
theorem cntT_le (s : List UInt8) : ∀ l : List An, cntT s l ≤ l.length
  | [] => by simp [cntT]
  | x :: r => by
    have := cntT_le s r
    rw [cntT, List.length_cons]
    split <;> omega
set_option maxRecDepth 20000 in
set_option maxHeartbeats 4000000 in
theorem MS.len (h : MS w R B most lv cv l cs) (hl : (l.length : Int) ≤ 100000) (s : List UInt8) : Calls Try.prog 19 #[.pointer (some ⟨R, 0, none⟩), .string (tx s)] w fun e w' => e = .returned (.int .i64 (cntT s l : Int)) ∧ w' = w := by
  obtain ⟨⟨sa, cap, rfl, hcap⟩, -⟩ := h.forms
  obtain ⟨-, c1, -, -⟩ := h.cells
  have HH : Hid (MS w R B most (.slice sa l.length cap) cv l cs) := h
  have HT : Hid (cntT s (l.take l.length) = cntT s l) := by show _ = _; rw [List.take_length]
  obtain ⟨n, hn⟩ : ∃ n, l.length = n := ⟨_, rfl⟩
  have HN : Hid (l.length = n) := hn
  rw [hn] at hcap hl c1 HH HT
  clear h hn
  go_enter Try.func19, Try.ntmps19
  go_wp2
  go_loopw [5, 6] (fun a b wx => ∃ j : Nat, a = .int .i64 (cntT s (l.take j) : Int) ∧ b = .int .i64 (j : Int) ∧ j ≤ n ∧ wx = w) (fun a b wx => n - (intOf b).toNat)
  case atStart => exact ⟨0, rfl, rfl, by omega, rfl⟩
  case round =>
    obtain ⟨j, rfl, rfl, hj, hw⟩ := hrel
    rw [hw]
    clear hw
    have hcj : (cntT s (l.take j) : Int) ≤ 100000 := by have := cntT_le s (l.take j); rw [List.length_take] at this; omega
    by_cases cj : j < n
    · have cj' : (j : Int) < (n : Int) := by omega
      obtain ⟨a, ha⟩ : ∃ a, l[j]? = some a := ⟨_, List.getElem?_eq_getElem (by have := HN.out; omega)⟩
      obtain ⟨g, hsa, y0, -⟩ := HH.out.ans ha
      subst hsa
      have HS : Hid (cntT s (l.take (j + 1)) = cntT s (l.take j) + (if a.tn = s then 1 else 0)) := cntT_step s ha
      have HCJ : Hid (j < n) := cj
      clear ha cj hj
      obtain ⟨q, hq⟩ : ∃ q, cntT s (l.take j) = q := ⟨_, rfl⟩
      rw [hq] at HS hcj ⊢
      clear hq
      by_cases e : a.tn = s
      · have hb : ((tx a.tn).toList == (tx s).toList) = true := by rw [tx_list, tx_list]; simp [e]
        have HE : Hid (a.tn = s) := e
        clear e
        go_wp2_with fail
        go_roundw
        case rel => exact ⟨j + 1, by rw [HS.out, if_pos HE.out]; go_num, by go_num, HCJ.out, trivial⟩
        case measure => have := HCJ.out; simp [intOf]; omega
      · have hb : ((tx a.tn).toList == (tx s).toList) = false := by rw [tx_list, tx_list]; simpa using e
        have HE : Hid (¬ a.tn = s) := e
        clear e
        go_wp2_with fail
        go_roundw
        case rel => exact ⟨j + 1, by rw [HS.out, if_neg HE.out]; rfl, by go_num, HCJ.out, trivial⟩
        case measure => have := HCJ.out; simp [intOf]; omega
    · obtain rfl : j = n := by omega
      rw [HT.out]
      clear cj hj
      go_wp2_with fail
      go_ret
      exact ⟨rfl, rfl⟩
/-- Where an answer stands. -/
def fndA (s k : List UInt8) : List An → Nat → Option Nat
  | [], _ => none
  | a :: r, i => if a.tn = s ∧ a.key = k then some i else fndA s k r (i + 1)
theorem fndA_hit {s k : List UInt8} : ∀ {l : List An} {j i : Nat} {a : An}, l[j]? = some a → a.tn = s ∧ a.key = k → (∀ (b : Nat) (x : An), b < j → l[b]? = some x → ¬ (x.tn = s ∧ x.key = k)) → fndA s k l i = some (i + j)
  | [], j, i, a, h, _, _ => by simp at h
  | x :: r, 0, i, a, h, hk, _ => by
    have e : x = a := by simpa using h
    subst e
    rw [fndA, if_pos hk]
    rfl
  | x :: r, j + 1, i, a, h, hk, hb => by
    rw [fndA, if_neg (hb 0 x (by omega) rfl), fndA_hit (by simpa using h) hk (fun b y hb' hy => hb (b + 1) y (by omega) (by simpa using hy))]
    congr 1
    omega
theorem fndA_miss {s k : List UInt8} : ∀ {l : List An} {i : Nat}, (∀ (b : Nat) (x : An), l[b]? = some x → ¬ (x.tn = s ∧ x.key = k)) → fndA s k l i = none
  | [], i, _ => rfl
  | x :: r, i, h => by
    rw [fndA, if_neg (h 0 x rfl)]
    exact fndA_miss fun b y hy => h (b + 1) y (by simpa using hy)
def posV (o : Option Nat) : Int := match o with | some i => (i : Int) | none => -1
set_option maxRecDepth 20000 in
set_option maxHeartbeats 4000000 in
theorem MS.find (h : MS w R B most lv cv l cs) (hl : (l.length : Int) ≤ 100000) (s k : List UInt8) : Calls Try.prog 44 #[.pointer (some ⟨R, 0, none⟩), .string (tx s), .string (tx k)] w fun e w' => e = .returned (.int .i64 (posV (fndA s k l 0))) ∧ w' = w := by
  obtain ⟨⟨sa, cap, rfl, hcap⟩, -⟩ := h.forms
  obtain ⟨-, c1, -, -⟩ := h.cells
  have HH : Hid (MS w R B most (.slice sa l.length cap) cv l cs) := h
  obtain ⟨n, hn⟩ : ∃ n, l.length = n := ⟨_, rfl⟩
  have HN : Hid (l.length = n) := hn
  rw [hn] at hcap hl c1 HH
  clear h hn
  go_enter Try.func44, Try.ntmps44
  go_wp2
  go_loopw [7] (fun b wx => ∃ j : Nat, b = .int .i64 (j : Int) ∧ j ≤ n ∧ Hid (∀ (b : Nat) (x : An), b < j → l[b]? = some x → ¬ (x.tn = s ∧ x.key = k)) ∧ wx = w) (fun b wx => n - (intOf b).toNat)
  case atStart => exact ⟨0, rfl, by omega, (fun b x hb => by omega : ∀ (b : Nat) (x : An), b < 0 → l[b]? = some x → ¬ (x.tn = s ∧ x.key = k)), rfl⟩
  case round =>
    obtain ⟨j, rfl, hj, HB, hw⟩ := hrel
    rw [hw]
    clear hw
    by_cases cj : j < n
    · have cj' : (j : Int) < (n : Int) := by omega
      obtain ⟨a, ha⟩ : ∃ a, l[j]? = some a := ⟨_, List.getElem?_eq_getElem (by have := HN.out; omega)⟩
      obtain ⟨g, hsa, y0, y1, -⟩ := HH.out.ans ha
      subst hsa
      have HA : Hid (l[j]? = some a) := ha
      have HCJ : Hid (j < n) := cj
      have HX : Hid (¬ (a.tn = s ∧ a.key = k) → ∀ (b : Nat) (x : An), b < j + 1 → l[b]? = some x → ¬ (x.tn = s ∧ x.key = k)) := fun hne b x hb hx => by
        rcases Nat.lt_or_ge b j with c | c
        · exact HB.out b x c hx
        · obtain rfl : b = j := by omega
          rw [ha] at hx
          rw [← Option.some.inj hx]
          exact hne
      clear ha cj hj
      by_cases e : a.tn = s
      · have hb : ((tx a.tn).toList == (tx s).toList) = true := by rw [tx_list, tx_list]; simp [e]
        by_cases e2 : a.key = k
        · have hb2 : ((tx a.key).toList == (tx k).toList) = true := by rw [tx_list, tx_list]; simp [e2]
          have HE : Hid (a.tn = s ∧ a.key = k) := ⟨e, e2⟩
          clear e e2
          go_wp2_with fail
          go_ret
          refine ⟨?_, rfl⟩
          rw [fndA_hit HA.out HE.out HB.out]
          simp [posV]
        · have hb2 : ((tx a.key).toList == (tx k).toList) = false := by rw [tx_list, tx_list]; simpa using e2
          have HE : Hid (¬ (a.tn = s ∧ a.key = k)) := fun h => e2 h.2
          clear e e2
          go_wp2_with fail
          go_roundw
          case rel => exact ⟨j + 1, by go_num, HCJ.out, HX.out HE.out, trivial⟩
          case measure => have := HCJ.out; simp [intOf]; omega
      · have hb : ((tx a.tn).toList == (tx s).toList) = false := by rw [tx_list, tx_list]; simpa using e
        have HE : Hid (¬ (a.tn = s ∧ a.key = k)) := fun h => e h.1
        clear e
        go_wp2_with fail
        go_roundw
        case rel => exact ⟨j + 1, by go_num, HCJ.out, HX.out HE.out, trivial⟩
        case measure => have := HCJ.out; simp [intOf]; omega
    · obtain rfl : j = n := by omega
      clear cj hj
      go_wp2_with fail
      go_ret
      refine ⟨?_, rfl⟩
      rw [fndA_miss fun b x hx => HB.out b x (by have := (List.getElem?_eq_some_iff.1 hx).1; have := HN.out; omega) hx]
      rfl
end Go.Proofs.Ytbcdaddbcjagjaa
