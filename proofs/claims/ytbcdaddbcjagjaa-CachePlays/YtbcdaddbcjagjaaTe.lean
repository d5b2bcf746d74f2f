/- The model's cache: Forget. -/
import Derived.Test.YtbcdaddbcjagjaaTd
namespace Go.Proofs.Ytbcdaddbcjagjaa
open Go.RowKit
set_option linter.unusedVariables false
set_option linter.unusedSimpArgs false

variable {w w' w2 W : World} {R B : Nat} {most : Int} {lv cv lv' cv' : Value} {l l' : List An} {cs cs' : List Cn}
/-- All but a tenant's. -/
def kpT (s : List UInt8) : List An → List An
  | [] => []
  | a :: r => if a.tn = s then kpT s r else a :: kpT s r
theorem kpT_app (s : List UInt8) : ∀ a b : List An, kpT s (a ++ b) = kpT s a ++ kpT s b
  | [], b => rfl
  | x :: r, b => by
    rw [List.cons_append, kpT, kpT, kpT_app s r b]
    split <;> rfl
theorem kpT_step (s : List UInt8) {l : List An} {j : Nat} {a : An} (h : l[j]? = some a) : kpT s (l.take (j + 1)) = kpT s (l.take j) ++ (if a.tn = s then [] else [a]) := by
  rw [List.take_add_one, h, kpT_app]
  simp [kpT]
theorem kpT_len (s : List UInt8) : ∀ l : List An, cntT s l + (kpT s l).length = l.length
  | [] => rfl
  | x :: r => by
    have := kpT_len s r
    rw [cntT, kpT, List.length_cons]
    split
    · omega
    · rw [List.length_cons]; omega
set_option maxRecDepth 20000 in
set_option maxHeartbeats 4000000 in
theorem MS.forget (h : MS w R B most lv cv l cs) (hl : (l.length : Int) ≤ 100000) (s : List UInt8) : Calls Try.prog 34 #[.pointer (some ⟨R, 0, none⟩), .string (tx s)] w fun e w' => e = .returned (.int .i64 (cntT s l : Int)) ∧ ∃ lv', MS w' R B most lv' cv (kpT s l) cs ∧ Fr (GM R lv cv) (GM R lv' cv) w w' := by
  obtain ⟨⟨sa, cap, rfl, hcap⟩, -⟩ := h.forms
  have HH : Hid (MS w R B most (.slice sa l.length cap) cv l cs) := h
  obtain ⟨i, hi, hz, hsz, hby⟩ := i78_ex
  obtain ⟨n, hn⟩ : ∃ n, l.length = n := ⟨_, rfl⟩
  have HN : Hid (l.length = n) := hn
  rw [hn] at hcap hl HH ⊢
  clear h hn
  go_enter Try.func34, Try.ntmps34
  go_wp2
  go_loopw [5, 6] (fun a b wx => ∃ j : Nat, (∃ s' n' c', a = .slice s' n' c') ∧ b = .int .i64 (j : Int) ∧ j ≤ n ∧ Hid (wx.ownsRow w.heap.size 78 4 a (kpT s (l.take j)).length (fl fA (kpT s (l.take j)))) ∧ Hid (Below w.heap.size w wx)) (fun a b wx => n - (intOf b).toNat)
  case atStart => exact ⟨0, ⟨_, _, _, rfl⟩, rfl, by omega, World.ownsRow_nil _ _ _ _, Below.refl _ _⟩
  case round =>
    obtain ⟨j, ⟨s1, n1, c1', rfl⟩, rfl, hj, HO, HB⟩ := hrel
    have c1 := (HH.out.newer HB.out).cells.2.1
    by_cases cj : j < n
    · have cj' : (j : Int) < (n : Int) := by omega
      obtain ⟨a, ha⟩ : ∃ a, l[j]? = some a := ⟨_, List.getElem?_eq_getElem (by have := HN.out; omega)⟩
      obtain ⟨g, hsa, y0, y1, y2, y3, -⟩ := (HH.out.newer HB.out).ans ha
      subst hsa
      have HS : Hid (kpT s (l.take (j + 1)) = kpT s (l.take j) ++ (if a.tn = s then [] else [a])) := kpT_step s ha
      have HCJ : Hid (j < n) := cj
      have HLN : Hid ((kpT s (l.take j)).length ≤ j) := by have := kpT_len s (l.take j); rw [List.length_take] at this; show _ ≤ _; omega
      clear ha cj hj
      obtain ⟨q, hq⟩ : ∃ q, kpT s (l.take j) = q := ⟨_, rfl⟩
      rw [hq] at HS HO HLN
      clear hq
      by_cases e : a.tn = s
      · have hb : ((tx a.tn).toList == (tx s).toList) = true := by rw [tx_list, tx_list]; simp [e]
        have HE : Hid (a.tn = s) := e
        clear e
        go_wp2_with fail
        go_roundw
        case rel => exact ⟨j + 1, ⟨_, _, _, rfl⟩, by go_num, HCJ.out, by rw [HS.out, if_pos HE.out, List.append_nil]; exact HO.out, HB.out⟩
        case measure => have := HCJ.out; simp [intOf]; omega
      · have hb : ((tx a.tn).toList == (tx s).toList) = false := by rw [tx_list, tx_list]; simpa using e
        have HE : Hid (¬ a.tn = s) := e
        have HBA : Hid (Below w.heap.size w (wr.alloc (.cells #[.string (tx a.tn), .string (tx a.key), .string (tx a.st), .string (tx a.te)] 78))) := HB.out.alloc HB.out.size _
        have HOA : Hid ((wr.alloc (.cells #[.string (tx a.tn), .string (tx a.key), .string (tx a.st), .string (tx a.te)] 78)).ownsRow w.heap.size 78 4 (.slice s1 n1 c1') q.length (fl fA q)) := HO.out.alloc _
        clear e
        go_wp2_with (at_builtin; (refine wpList_append_own _ rfl (.tmp 27) (.tmp 35) 55 rfl w.heap.size 78 i (.agg #[.string ⟨#[]⟩, .string ⟨#[]⟩, .string ⟨#[]⟩, .string ⟨#[]⟩]) 4 64 under55 hi hz hsz hby rfl (by decide) (.slice s1 n1 c1') q.length (fl fA q) rfl HOA.out ⟨wr.heap.size, 0, none⟩ 1 1 (fA a) rfl rfl (World.news_of_block (Go.heap_alloc_new _ _)) (fA_one a) (by have := HLN.out; unfold maxLen; omega) (by have := HLN.out; omega) HBA.out.size ?_; intro v2 w2 ho2 hg2 _; (have H2 : Hid (w2.ownsRow w.heap.size 78 4 v2 (q.length + 1) (fl fA q ++ fA a) ∧ Below w.heap.size w w2) := ⟨ho2, HBA.out.trans (grown_below hg2 HOA.out HBA.out.size)⟩); obtain ⟨s2, cap2, hv2⟩ := own_slice ho2; subst hv2; clear ho2 hg2))
        go_roundw
        case rel => exact ⟨j + 1, ⟨_, _, _, rfl⟩, by go_num, HCJ.out, by rw [HS.out, if_neg HE.out, List.length_append, fl_app, fl, fl, List.append_nil]; exact H2.out.1, H2.out.2⟩
        case measure => have := HCJ.out; simp [intOf]; omega
    · obtain rfl : j = n := by omega
      have HT : Hid (l.take j = l) := by have := HN.out; show _ = _; rw [← this, List.take_length]
      rw [HT.out] at HO
      have hkl := kpT_len s l
      have HKL : Hid (cntT s l + (kpT s l).length = j) := by rw [← HN.out]; exact hkl
      have hn1 : n1 = (kpT s l).length := by obtain ⟨x, y, e⟩ := own_slice HO.out; cases e; rfl
      subst hn1
      obtain ⟨m, hm⟩ : ∃ m, (kpT s l).length = m := ⟨_, rfl⟩
      have HM : Hid ((kpT s l).length = m ∧ cntT s l + m = j) := by have := HKL.out; show _ ∧ _; omega
      obtain ⟨k1, k2⟩ := HH.out.turnL (l' := kpT s l) HB.out HO.out
      have cf := (HH.out.newer HB.out).cells.2.2.2 1
      rw [hm] at k1 k2 ⊢
      have HK : Hid (MS (wr.setCell ⟨R, 1, none⟩ (.slice s1 m c1')) R B most (.slice s1 m c1') cv (kpT s l) cs ∧ Fr (GM R (.slice sa j cap) cv) (GM R (.slice s1 m c1') cv) w (wr.setCell ⟨R, 1, none⟩ (.slice s1 m c1'))) := ⟨k1, k2⟩
      have hmj : (m : Int) ≤ (j : Int) := by have := HM.out; omega
      clear cj hj k1 k2 hm hkl HO
      go_wp2_with fail
      go_ret
      refine ⟨?_, _, HK.out⟩
      show Ending.returned (Value.int .i64 ((j : Int) - (m : Int))) = _
      rw [show ((j : Int) - (m : Int)) = (cntT s l : Int) by have := HM.out.2; omega]
end Go.Proofs.Ytbcdaddbcjagjaa
