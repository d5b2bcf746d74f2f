/- A table of fixed turns: All of a queue of tasks, turns.ahead, Ahead. -/
import Derived.Test.YtkigagglkmdccaaTh
namespace Go.Proofs.Ytkigagglkmdccaa
open Go.RowKit
set_option linter.unusedVariables false
set_option linter.unusedSimpArgs false

theorem iall_nil (w : World) : Calls Try.prog 78 #[.pointer none] w fun e w' => (∃ v', e = .returned v' ∧ w'.ownsRow w.heap.size 111 1 v' 0 (fl pv [])) ∧ Below w.heap.size w w' := by
  go_enter Try.func78, Try.ntmps78
  go_wp2
  go_ret
  exact ⟨⟨_, rfl, World.ownsRow_nil _ _ _ _⟩, Below.refl _ _⟩
theorem iall_any (Q : Nat) (most : Int) (sv : Value) (l : List Nat) (w : World) (h : QI w Q most sv l) (hl : l.length ≤ 1000) : Calls Try.prog 78 #[.pointer (some ⟨Q, 0, none⟩)] w fun e w' => (∃ v', e = .returned v' ∧ w'.ownsRow w.heap.size 111 1 v' l.length (fl pv l)) ∧ Below w.heap.size w w' := by
  have HC : Hid (Calls Try.prog 91 #[sv] w fun e w' => (∃ v', e = .returned v' ∧ w'.ownsRow w.heap.size 111 1 v' l.length (fl pv l)) ∧ Below w.heap.size w w') := iclone_any sv l w h.items hl
  obtain ⟨-, c1, -⟩ := h.cells
  clear h
  go_enter Try.func78, Try.ntmps78
  go_wp2_with (go_at_call 91; refine HC.out.mono ?_; rintro e w1 ⟨⟨v1, rfl, ho⟩, hb⟩; have HO : Hid (w1.ownsRow w.heap.size 111 1 v1 l.length (fl pv l) ∧ Below w.heap.size w w1) := ⟨ho, hb⟩; clear ho hb)
  go_ret
  exact ⟨⟨_, rfl, HO.out.1⟩, HO.out.2⟩
theorem all_at {w : World} {B c : Nat} {ls : List Lf} (h : MR w B c ls) (s : List UInt8) (hl : (tsF s ls).length ≤ 1000) : Calls Try.prog 78 #[atE s (ls.map Lf.en)] w fun e w' => (∃ v', e = .returned v' ∧ w'.ownsRow w.heap.size 111 1 v' (tsF s ls).length (fl pv ((tsF s ls).map Tk.p))) ∧ Below w.heap.size w w' := by
  unfold atE
  unfold tsF at hl ⊢
  cases hf : lnF s ls with
  | none =>
    rw [fndE_none ls 0 hf]
    exact iall_nil w
  | some l =>
    rw [hf] at hl
    obtain ⟨j, h1, h2, h3⟩ := fndE_some ls 0 hf
    rw [h1]
    obtain ⟨sv, k1, _⟩ := h.qs l (List.mem_of_getElem? h2)
    have := iall_any l.q 16 sv l.ps w k1 (by simpa [Lf.ps] using hl)
    simpa [Lf.ps] using this
/-- How many slots jobs need. -/
def sumJ : List Wn → Int
  | [] => 0
  | j :: r => j.2.2 + sumJ r
theorem sumJ_app (a b : List Wn) : sumJ (a ++ b) = sumJ a + sumJ b := by
  induction a with
  | nil => simp [sumJ]
  | cons x r ih => simp [sumJ, ih]; omega
theorem sumJ_take {l : List Wn} {i : Nat} {x : Wn} (h : l[i]? = some x) : sumJ (l.take (i + 1)) = sumJ (l.take i) + x.2.2 := by
  have : l.take (i + 1) = l.take i ++ [x] := by
    rw [List.take_add_one, h]
    rfl
  rw [this, sumJ_app]
  simp [sumJ]
theorem sumJ_bd {l : List Wn} (h : ∀ j ∈ l, 1 ≤ j.2.2 ∧ j.2.2 ≤ 1000) : 0 ≤ sumJ l ∧ sumJ l ≤ 1000 * (l.length : Int) := by
  induction l with
  | nil => simp [sumJ]
  | cons x r ih =>
    have h1 := h x (by simp)
    have h2 := ih fun y hy => h y (by simp [hy])
    simp only [sumJ, List.length_cons]
    omega
theorem tk_cell {w : World} {t : Tk} (h : TkAt w t) : w.cell? ⟨t.p, 2, none⟩ = some (.int .i64 t.needs) := by
  unfold TkAt at h
  rw [cell_of_row _ _ _ _ _ _ h]
  rfl
theorem tsF_tk {w : World} {B c : Nat} {ls : List Lf} (h : MR w B c ls) {s : List UInt8} {t : Tk} (ht : t ∈ tsF s ls) : TkAt w t := by
  unfold tsF at ht
  cases hf : lnF s ls with
  | none => rw [hf] at ht; simp at ht
  | some l =>
    rw [hf] at ht
    obtain ⟨j, h1, h2, h3⟩ := fndE_some ls 0 hf
    exact h.tk l (List.mem_of_getElem? h2) t (by simpa using ht)
set_option maxRecDepth 100000 in
set_option maxHeartbeats 4000000 in
/-- turns.ahead. -/
theorem mahead_any {w : World} {B c : Nat} {ls : List Lf} (h : MR w B c ls) (s : List UInt8) (hl : (tsW s ls).length ≤ 16) (hj : ∀ j ∈ tsW s ls, 1 ≤ j.2.2 ∧ j.2.2 ≤ 1000) :
    Calls Try.prog 42 #[.map (some B), .string (tx s)] w fun e w' => e = .returned (.int .i64 (sumJ (tsW s ls))) ∧ Below w.heap.size w w' := by
  have hl2 : (tsF s ls).length ≤ 16 := by simpa [tsW] using hl
  have hk := run_look h.map s
  have HA : Hid (Calls Try.prog 78 #[atE s (ls.map Lf.en)] w fun e w' => (∃ v', e = .returned v' ∧ w'.ownsRow w.heap.size 111 1 v' (tsF s ls).length (fl pv ((tsF s ls).map Tk.p))) ∧ Below w.heap.size w w') := all_at h s (by omega)
  have HT : Hid (∀ V, Below w.heap.size w V → ∀ t ∈ tsF s ls, V.cell? ⟨t.p, 2, none⟩ = some (.int .i64 t.needs)) := fun V hb t ht => by
    have k := tsF_tk h ht
    exact tk_cell (w := V) ((hb.block t.p (Array.getElem?_eq_some_iff.1 k).1).trans k)
  have HJ : Hid (∀ j ∈ tsW s ls, 1 ≤ j.2.2 ∧ j.2.2 ≤ 1000) := hj
  have HW : Hid (tsW s ls = (tsF s ls).map Tk.w) := rfl
  generalize atE s (ls.map Lf.en) = v at HA hk
  generalize tsW s ls = W at HJ HW ⊢
  generalize tsF s ls = l at HA HT HW hl2
  obtain ⟨n, hn⟩ : ∃ n, l.length = n := ⟨_, rfl⟩
  have HN : Hid (l.length = n) := hn
  rw [hn] at hl2 HA
  have hn' : (n : Int) ≤ 16 := by omega
  clear h hl hj hn
  go_enter Try.func42, Try.ntmps42
  go_wp2_with (go_at_call 78; refine HA.out.mono ?_; rintro e w1 ⟨⟨v1, rfl, ho⟩, hb⟩; have HO : Hid (w1.ownsRow w.heap.size 111 1 v1 n (fl pv (l.map Tk.p)) ∧ Below w.heap.size w w1) := ⟨ho, hb⟩; obtain ⟨a1, c1, rfl⟩ := own_slice ho; clear ho hb)
  go_loopw [5, 7, 13] (fun a b c wr => ∃ i : Nat, a = .int .i64 (sumJ (W.take i)) ∧ c = .int .i64 (i : Int) ∧ i ≤ n ∧ wr.ownsRow w.heap.size 111 1 (.slice a1 n c1) n (fl pv (l.map Tk.p)) ∧ Below w.heap.size w wr) (fun a b c wr => n - (intOf c).toNat)
  case atStart => exact ⟨0, rfl, rfl, by omega, HO.out.1, HO.out.2⟩
  case round =>
    obtain ⟨i, rfl, rfl, hi, ho, hb⟩ := hrel
    have HOB : Hid (wr.ownsRow w.heap.size 111 1 (.slice a1 n c1) n (fl pv (l.map Tk.p)) ∧ Below w.heap.size w wr) := ⟨ho, hb⟩
    by_cases hin : i < n
    · obtain ⟨x, hx⟩ : ∃ x, l[i]? = some x := ⟨_, List.getElem?_eq_getElem (by have := HN.out; omega)⟩
      have hxW : W[i]? = some x.w := by rw [HW.out, List.getElem?_map, hx]; rfl
      have hxc := HJ.out x.w (List.mem_of_getElem? hxW)
      have hs0 := sumJ_bd (l := W.take i) fun y hy => HJ.out y (List.mem_of_mem_take hy)
      have hlen : ((W.take i).length : Int) ≤ 16 := by rw [List.length_take]; omega
      have hSX := sumJ_take hxW
      obtain ⟨g, rfl⟩ : ∃ g, a1 = some ⟨g, 0, none⟩ := by
        rcases ho.2 with ⟨h1, h2⟩ | ⟨g, cap, cur, h1, _⟩
        · omega
        · exact ⟨g, (Value.slice.inj h1).1⟩
      have hcell : wr.cell? ⟨g, i, none⟩ = some (.pointer (some ⟨x.p, 0, none⟩)) := by
        have := ho.cells (g := g) rfl i (.pointer (some ⟨x.p, 0, none⟩)) (by rw [pv_at, List.getElem?_map, hx]; rfl)
        rwa [Addr.add_lit, Nat.zero_add] at this
      have hnd := HT.out wr hb x (List.mem_of_getElem? hx)
      have hin' : (i : Int) < (n : Int) := by omega
      have hcap : (n : Int) ≤ (c1 : Int) := by have := own_cap ho; omega
      obtain ⟨S, hS⟩ : ∃ S, sumJ (W.take i) = S := ⟨_, rfl⟩
      rw [hS] at hs0 hSX
      rw [hS]
      obtain ⟨s0, s1⟩ := hs0
      have s2 : S ≤ 16000 := by omega
      have hxn : x.w.2.2 = x.needs := rfl
      rw [hxn] at hxc hSX
      have HSX : Hid (sumJ (W.take (i + 1)) = S + x.needs) := hSX
      generalize x.needs = xn at *
      generalize x.p = xp at *
      clear ho hb hS hSX hx hlen s1 hxW hxn
      obtain ⟨q0, q1⟩ := hxc
      go_wp2_with fail
      go_roundw
      case rel => exact ⟨i + 1, by rw [HSX.out], by go_num, by omega, HOB.out.1, HOB.out.2⟩
      case measure => simp [intOf]; omega
    · obtain rfl : i = n := by omega
      have hTk : W.take i = W := List.take_of_length_le (by have := HN.out; rw [HW.out, List.length_map]; omega)
      rw [hTk]
      obtain ⟨S, hS⟩ : ∃ S, sumJ W = S := ⟨_, rfl⟩
      have HSS : Hid (sumJ W = S) := hS
      rw [hS]
      clear ho hb hTk hS hin hi
      go_wp2_with fail
      go_ret
      exact ⟨by rw [HSS.out]; rfl, HOB.out.2⟩
theorem mahead_mp {w : World} {B : Nat} {F : Nat → Prop} {J : List UInt8 → List Wn} (h : MP w B F J) (s : List UInt8) (ho : Jok J) : Calls Try.prog 42 #[.map (some B), .string (tx s)] w fun e w' => e = .returned (.int .i64 (sumJ (J s))) ∧ Below w.heap.size w w' := by
  obtain ⟨c, ls, h1, h2, h3⟩ := h
  have := ho s
  rw [← h2 s] at this ⊢
  exact mahead_any h1 s this.1 this.2
set_option maxRecDepth 20000 in
/-- Ahead. -/
theorem tahead_any {w : World} {T : Nat} {a : Pa} {x : Fx} (h : TR w T a x) (nm : List UInt8) (ho : Jok x.J) : Calls Try.prog 15 #[.pointer (some ⟨T, 0, none⟩), .string (tx nm)] w fun e w' => e = .returned (.int .i64 (sumJ (x.J nm))) ∧ Below w.heap.size w w' := by
  have HW : Hid (Calls Try.prog 42 #[.map (some a.B), .string (tx nm)] w fun e w' => e = .returned (.int .i64 (sumJ (x.J nm))) ∧ Below w.heap.size w w') := mahead_mp h.jobs nm ho
  obtain ⟨c0, -, -, -, c8⟩ := h.cells
  clear h ho
  generalize sumJ (x.J nm) = n at HW ⊢
  go_enter Try.func15, Try.ntmps15
  go_wp2_with (go_at_call 42; refine HW.out.mono ?_; rintro e w1 ⟨rfl, hw1⟩; have HB : Hid (Below w.heap.size w w1) := hw1; clear hw1)
  go_ret
  exact ⟨rfl, HB.out⟩
end Go.Proofs.Ytkigagglkmdccaa
