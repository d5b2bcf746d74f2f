import Derived.Test.YtflhgphjkhplmaaMN06
import Derived.Lib.TrimByte
/- A disk between calls: opened at a file, or where there is none. -/
namespace Go.Proofs.Ytflhgphjkhplmaa.D
open Go.RowKit
set_option linter.unusedVariables false
set_option linter.unusedSimpArgs false

/-- A plain file. -/
structure Fd where
  nm : List UInt8
  b : List Int
  ws : List Int
def lkF (s : List UInt8) : List Fd → Option Fd
  | [] => none
  | x :: r => if s = x.nm then some x else lkF s r
def outF (s : List UInt8) : List Fd → List Fd
  | [] => []
  | x :: r => if s = x.nm then r else x :: outF s r
def setF (s : List UInt8) (b ws : List Int) : List Fd → List Fd
  | [] => []
  | x :: r => if s = x.nm then ⟨x.nm, b, ws⟩ :: r else x :: setF s b ws r
theorem lkF_none : ∀ {dl : List Fd} {s : List UInt8}, lkF s dl = none ↔ s ∉ dl.map Fd.nm
  | [], s => by simp [lkF]
  | x :: r, s => by
    unfold lkF
    by_cases e : s = x.nm
    · simp [e]
    · rw [if_neg e, lkF_none (dl := r)]
      simp [e]
theorem lkF_some : ∀ {dl : List Fd} {s : List UInt8} {x : Fd}, lkF s dl = some x → x.nm = s ∧ ∃ a b, dl = a ++ x :: b ∧ outF s dl = a ++ b ∧ ∀ b' ws', setF s b' ws' dl = a ++ ⟨s, b', ws'⟩ :: b
  | [], s, x, h => by simp [lkF] at h
  | y :: r, s, x, h => by
    unfold lkF at h
    split at h
    · rename_i e
      obtain rfl := Option.some.inj h
      refine ⟨e.symm, [], r, rfl, by rw [outF, if_pos e]; rfl, fun b' ws' => by rw [setF, if_pos e, e]; rfl⟩
    · rename_i e
      obtain ⟨h1, a, b, h2, h3, h4⟩ := lkF_some h
      refine ⟨h1, y :: a, b, by rw [h2]; rfl, by rw [outF, if_neg e, h3]; rfl, fun b' ws' => by rw [setF, if_neg e, h4]; rfl⟩
theorem lkF_of : ∀ {dl : List Fd} {x : Fd}, (dl.map Fd.nm).Nodup → x ∈ dl → lkF x.nm dl = some x
  | [], x, hn, h => by simp at h
  | y :: r, x, hn, h => by
    unfold lkF
    rcases List.mem_cons.1 h with h | h
    · rw [← h]; simp
    · rw [if_neg, lkF_of (List.nodup_cons.1 hn).2 h]
      intro e
      exact (List.nodup_cons.1 hn).1 (List.mem_map.2 ⟨x, h, e⟩)
def pl (t : Tn) : Fd := ⟨t.nm, t.b, t.ws⟩
/-- A disk, between calls. -/
structure DR (w : World) (D : Nat) (F : Nat → Prop) (sy : Int) (dl : List Fd) : Prop where
  ex : (dl = [] ∧ w.heap[D]? = some (.cells #[.map none, .int .i64 sy] 90 (0, 0)) ∧ ∀ q, F q ↔ q = D) ∨ ∃ K tl, DX w D K sy tl ∧ (tl.map pl).Perm dl ∧ ∀ q, F q ↔ CF D K tl q
variable {w w' : World} {D K : Nat} {F : Nat → Prop} {sy : Int} {dl : List Fd} {tl a b : List Tn} {t : Tn}
theorem pl_nm (tl : List Tn) : (tl.map pl).map Fd.nm = tl.map Tn.nm := by rw [List.map_map]; rfl
theorem mlT_fst (tl : List Tn) : (mlT tl).map Prod.fst = tl.map Tn.nm := by unfold mlT; rw [List.map_map]; rfl
theorem DX.knd (h : DX w D K sy tl) : ((mlT tl).map Prod.fst).Nodup := by rw [mlT_fst]; exact h.nd
theorem DR.nd (h : DR w D F sy dl) : (dl.map Fd.nm).Nodup := by
  rcases h.ex with ⟨rfl, -, -⟩ | ⟨K, tl, h1, h2, h3⟩
  · exact List.nodup_nil
  · rw [← (h2.map Fd.nm).nodup_iff, pl_nm]
    exact h1.nd
theorem DR.lt (h : DR w D F sy dl) : ∀ q, F q → q < w.heap.size := by
  rcases h.ex with ⟨-, h1, h2⟩ | ⟨K, tl, h1, h2, h3⟩
  · intro q hq
    rw [(h2 q).1 hq]
    exact (Array.getElem?_eq_some_iff.1 h1).1
  · exact fun q hq => h1.lt q ((h3 q).1 hq)
theorem DR.at' (h : DR w D F sy dl) (hk : ∀ q, F q → w'.heap[q]? = w.heap[q]?) : DR w' D F sy dl := by
  rcases h.ex with ⟨h0, h1, h2⟩ | ⟨K, tl, h1, h2, h3⟩
  · exact ⟨.inl ⟨h0, (hk D ((h2 D).2 rfl)).trans h1, h2⟩⟩
  · exact ⟨.inr ⟨K, tl, h1.at' fun q hq => hk q ((h3 q).2 hq), h2, h3⟩⟩
theorem DR.newer (h : DR w D F sy dl) (hb : Below w.heap.size w w') : DR w' D F sy dl := h.at' fun q hq => hb.block q (h.lt q hq)
theorem DR.box (h : DR w D F sy dl) : ∃ mv, w.heap[D]? = some (.cells #[.map mv, .int .i64 sy] 90 (0, 0)) ∧ F D := by
  rcases h.ex with ⟨h0, h1, h2⟩ | ⟨K, tl, h1, h2, h3⟩
  · exact ⟨none, h1, (h2 D).2 rfl⟩
  · exact ⟨some K, h1.box, (h3 D).2 (.inl rfl)⟩
theorem Fr.from {F G G' : Nat → Prop} {w w' : World} (h : Fr G G' w w') (hF : ∀ q, F q ↔ G q) : Fr F G' w w' := ⟨h.os, h.tape, h.output, h.size, fun q hq hn => h.block q hq fun e => hn ((hF q).2 e), fun q hq => (h.grow q hq).imp (fun e => (hF q).2 e) id⟩
theorem tl_split {tl : List Tn} {x : Fd} (h : x ∈ tl.map pl) : ∃ a t b, tl = a ++ t :: b ∧ pl t = x := by
  obtain ⟨t, ht, rfl⟩ := List.mem_map.1 h
  obtain ⟨a, b, rfl⟩ := List.append_of_mem ht
  exact ⟨a, t, b, rfl, rfl⟩
/-- Opened at a file that is there. -/
theorem DR.open (h : DR w D F sy dl) {s : List UInt8} {x : Fd} (hs : lkF s dl = some x) : ∃ K f Ff, w.heap[D]? = some (.cells #[.map (some K), .int .i64 sy] 90 (0, 0)) ∧ (Instr.lookup 88 (.map (some K)) (.string (tx s)) true).run Try.prog w = .ok (.tuple #[.pointer (some ⟨f, 0, none⟩), .bool true]) w ∧ FL w f Ff x.b x.ws ∧ (∀ q, Ff q → F q ∧ q ≠ D) ∧
    (∀ w' F' b' ws', FL w' f F' b' ws' → Fr Ff F' w w' → ∃ F'', DR w' D F'' sy (setF s b' ws' dl) ∧ Fr F F'' w w') ∧
    (∀ ty, ∃ o, (Builtin.delete_ #[88, 9] ty #[.map (some K), .string (tx s)]).run Try.prog w = .ok (.tuple #[]) (setM w K o) ∧ ∃ F'', DR (setM w K o) D F'' sy (outF s dl) ∧ Fr F F'' w (setM w K o) ∧ FL (setM w K o) f Ff x.b x.ws ∧ (∀ q, Ff q → ¬ F'' q) ∧ (setM w K o).heap[D]? = some (.cells #[.map (some K), .int .i64 sy] 90 (0, 0))) := by
  obtain ⟨hxs, A, B, rfl, hout, hset⟩ := lkF_some hs
  rcases h.ex with ⟨h0, -, -⟩ | ⟨K, tl, h1, h2, h3⟩
  · simp at h0
  · obtain ⟨a, t, b, rfl, ht⟩ := tl_split (h2.mem_iff.2 (show x ∈ A ++ x :: B by simp))
    have htn : t.nm = s := by rw [← hxs, ← ht]; rfl
    have hb : t.b = x.b := by rw [← ht]; rfl
    have hw : t.ws = x.ws := by rw [← ht]; rfl
    have hmem : (s, t.L) ∈ mlT (a ++ t :: b) := List.mem_map.2 ⟨t, by simp, by rw [htn]⟩
    have hl := h1.km.look h1.knd s
    rw [lkM_of h1.knd hmem] at hl
    have hrest : ((a ++ b).map pl).Perm (A ++ B) := by
      have p1 : ((a ++ t :: b).map pl).Perm (pl t :: (a ++ b).map pl) := (mid_perm a b t).map pl
      have p2 : (A ++ x :: B).Perm (x :: (A ++ B)) := mid_perm A B x
      rw [ht] at p1
      exact (p1.symm.trans (h2.trans p2)).cons_inv
    refine ⟨K, t.L, t.F, h1.box, hl, by rw [← hb, ← hw]; exact h1.lr t (by simp), fun q hq => ⟨(h3 q).2 (.inr (.inr ⟨t, by simp, hq⟩)), (h1.of t (by simp) q hq).1⟩, ?_, fun ty => ?_⟩
    · intro w' F' b' ws' hl' hf
      obtain ⟨k1, k2⟩ := h1.turn hl' hf
      refine ⟨_, ⟨.inr ⟨K, _, k1, ?_, fun q => Iff.rfl⟩⟩, k2.from h3⟩
      rw [hset]
      have p1 : ((a ++ ⟨t.nm, t.L, F', b', ws'⟩ :: b).map pl).Perm (pl ⟨t.nm, t.L, F', b', ws'⟩ :: (a ++ b).map pl) := (mid_perm a b _).map pl
      have e : pl ⟨t.nm, t.L, F', b', ws'⟩ = ⟨s, b', ws'⟩ := by rw [← htn]; rfl
      rw [e] at p1
      exact p1.trans ((hrest.cons _).trans (mid_perm A B _).symm)
    · obtain ⟨o, k1, k2⟩ := h1.km.del h1.knd (s := s) (q := t.L) hmem ty
      rw [← htn] at k2
      obtain ⟨g1, g2, g3, g4⟩ := h1.gone k2
      refine ⟨o, k1, _, ⟨.inr ⟨K, a ++ b, g1, by rw [hout]; exact hrest, fun q => Iff.rfl⟩⟩, g2.from h3, by rw [← hb, ← hw]; exact g3, g4, (setM_off h1.ck).trans h1.box⟩
/-- Where there is none. -/
theorem DR.shut (h : DR w D F sy dl) {s : List UInt8} (hs : lkF s dl = none) : ∃ mv, w.heap[D]? = some (.cells #[.map mv, .int .i64 sy] 90 (0, 0)) ∧ (Instr.lookup 88 (.map mv) (.string (tx s)) true).run Try.prog w = .ok (.tuple #[.pointer none, .bool false]) w := by
  rcases h.ex with ⟨h0, h1, h2⟩ | ⟨K, tl, h1, h2, h3⟩
  · exact ⟨none, h1, run_look_nil w s⟩
  · refine ⟨some K, h1.box, ?_⟩
    have hl := h1.km.look h1.knd s
    have hn : lkM s (mlT tl) = none := by
      rw [lkM_none, mlT_fst, ← pl_nm]
      exact fun e => lkF_none.1 hs ((h2.map Fd.nm).mem_iff.1 e)
    rw [hn] at hl
    exact hl
end Go.Proofs.Ytflhgphjkhplmaa.D

/- A file's name. -/
namespace Go.Proofs.Ytflhgphjkhplmaa.D
open Go.RowKit
set_option linter.unusedVariables false
set_option linter.unusedSimpArgs false

def okC (c : Int) : Bool := (decide (97 ≤ c) && decide (c ≤ 122)) || ((decide (48 ≤ c) && decide (c ≤ 57)) || (c == 46))
def chI (s : List UInt8) : List Int := s.map fun c => (c.toNat : Int)
def nameB (s : List UInt8) : Bool := decide (1 ≤ s.length) && decide (s.length ≤ 32) && (chI s).all okC
theorem tx_at (l : List UInt8) (i : Nat) (c : UInt8) (h : l[i]? = some c) (k : IntKind) (W : World) : (Instr.index 9 (.string (tx l)) (.int k (i : Int))).run Try.prog W = .ok (.int .u8 (c.toNat : Int)) W := by
  have hi : i < l.length := (List.getElem?_eq_some_iff.1 h).1
  rw [run_index_string W 9 (tx l) k (i : Int) Try.underlying9, dif_pos (by rw [tx_size]; omega)]
  have e := Lib.getElem_mk l i (by rw [Lib.size_mk]; exact hi)
  rw [h] at e
  have e2 := Option.some.inj e
  simp only [Int.toNat_natCast]
  congr 4
  exact e2.symm
theorem chI_at {s : List UInt8} {j : Nat} {c : UInt8} (h : s[j]? = some c) : chI (s.take (j + 1)) = chI (s.take j) ++ [(c.toNat : Int)] := by
  unfold chI
  rw [List.take_add_one, h, List.map_append]
  rfl
theorem all_not {s : List UInt8} {j : Nat} {c : UInt8} (h : s[j]? = some c) (hc : okC (c.toNat : Int) = false) : nameB s = false := by
  unfold nameB
  have : (chI s).all okC = false := by
    rw [Bool.eq_false_iff]
    intro e
    rw [List.all_eq_true] at e
    have := e (c.toNat : Int) (List.mem_map.2 ⟨c, List.mem_of_getElem? h, rfl⟩)
    rw [hc] at this
    cases this
  rw [this, Bool.and_false]
set_option maxRecDepth 20000 in
set_option maxHeartbeats 4000000 in
theorem name_any (s : List UInt8) (w : World) (hl : (s.length : Int) ≤ 140737488351232) : Calls Try.prog 56 #[.string (tx s)] w fun e w' => e = .returned (.bool (nameB s)) ∧ w' = w := by
  obtain ⟨n, hn⟩ : ∃ n, s.length = n := ⟨_, rfl⟩
  have HN : Hid (s.length = n) := hn
  have lt : ((tx s).size : Int) = (n : Int) := by rw [tx_size, hn]
  rw [hn] at hl
  clear hn
  go_enter Try.func56, Try.ntmps56
  go_wp2
  go_step3
  go_wp2
  go_step3
  go_wp2
  go_loopw [3, 4] (fun a b wx => ∃ j : Nat, a = .int .i64 (j : Int) ∧ j ≤ n ∧ Hid ((chI (s.take j)).all okC = true) ∧ wx = w) (fun a b wx => n - (intOf a).toNat)
  case atStart => exact ⟨0, rfl, by omega, rfl, rfl⟩
  case round =>
    obtain ⟨j, rfl, hj, HA, hw⟩ := hrel
    rw [hw]
    clear hw
    by_cases cj : j < n
    · have cj' : (j : Int) < (n : Int) := by omega
      obtain ⟨c, hc⟩ : ∃ c, s[j]? = some c := ⟨_, List.getElem?_eq_getElem (by have := HN.out; omega)⟩
      have hix : ∀ W, (Instr.index 9 (.string (tx s)) (.int .i64 (j : Int))).run Try.prog W = .ok (.int .u8 (c.toNat : Int)) W := fun W => tx_at s j c hc .i64 W
      have HC : Hid (s[j]? = some c ∧ j < n) := ⟨hc, cj⟩
      have HS : Hid (okC (c.toNat : Int) = true → (chI (s.take (j + 1))).all okC = true) := fun h => by rw [chI_at hc, List.all_append, HA.out]; simp [h]
      obtain ⟨y, hy⟩ : ∃ y, (c.toNat : Int) = y := ⟨_, rfl⟩
      rw [hy] at hix HS
      have HY : Hid ((c.toNat : Int) = y) := hy
      clear hc cj hj hy
      by_cases a1 : 97 ≤ y
      · by_cases a2 : y ≤ 122
        · have HOK : Hid (okC y = true) := by show okC y = true; unfold okC; simp; omega
          go_wp2_with fail
          go_roundw
          case rel => exact ⟨j + 1, by go_num, HC.out.2, HS.out HOK.out, by first | trivial | rfl⟩
          case measure => have := HC.out.2; simp [intOf]; omega
        · have HNO : Hid (nameB s = false) := by
            apply all_not HC.out.1
            rw [HY.out]
            unfold okC
            simp
            omega
          go_wp2_with fail
          try rw [Exit.noGoto_ret]
          go_ret
          all_goals exact ⟨by rw [HNO.out]; rfl, by first | trivial | rfl⟩
      · by_cases a3 : 48 ≤ y
        · by_cases a4 : y ≤ 57
          · have HOK : Hid (okC y = true) := by show okC y = true; unfold okC; simp; omega
            go_wp2_with fail
            go_roundw
            case rel => exact ⟨j + 1, by go_num, HC.out.2, HS.out HOK.out, by first | trivial | rfl⟩
            case measure => have := HC.out.2; simp [intOf]; omega
          · have HNO : Hid (nameB s = false) := by
              apply all_not HC.out.1
              rw [HY.out]
              unfold okC
              simp
              omega
            go_wp2_with fail
            try rw [Exit.noGoto_ret]
            go_ret
            all_goals exact ⟨by rw [HNO.out]; rfl, by first | trivial | rfl⟩
        · by_cases a5 : y = 46
          · have HOK : Hid (okC y = true) := by show okC y = true; unfold okC; simp; omega
            go_wp2_with fail
            go_roundw
            case rel => exact ⟨j + 1, by go_num, HC.out.2, HS.out HOK.out, by first | trivial | rfl⟩
            case measure => have := HC.out.2; simp [intOf]; omega
          · have HNO : Hid (nameB s = false) := by
              apply all_not HC.out.1
              rw [HY.out]
              unfold okC
              simp
              omega
            go_wp2_with fail
            try rw [Exit.noGoto_ret]
            go_ret
            all_goals exact ⟨by rw [HNO.out]; rfl, by first | trivial | rfl⟩
    · have ej : j = n := by omega
      subst ej
      clear cj hj
      have HE : Hid (nameB s = (decide (1 ≤ j) && decide (j ≤ 32))) := by
        show nameB s = _
        unfold nameB
        have := HA.out
        rw [← HN.out, List.take_length] at this
        rw [this, Bool.and_true, HN.out]
      by_cases c1 : 1 ≤ j
      · have c1' : (1 : Int) ≤ (j : Int) := by omega
        by_cases c2 : j ≤ 32
        · have c2' : (j : Int) ≤ 32 := by omega
          have HB : Hid (nameB s = true) := by show nameB s = true; rw [HE.out]; simp [c1, c2]
          clear c1 c2 
          go_wp2_with fail
          try rw [Exit.noGoto_ret]
          go_ret
          all_goals exact ⟨by rw [HB.out]; rfl, by first | trivial | rfl⟩
        · have c2' : ¬ (j : Int) ≤ 32 := by omega
          have HB : Hid (nameB s = false) := by show nameB s = false; rw [HE.out]; simp [c1, c2]
          clear c1 c2 
          go_wp2_with fail
          try rw [Exit.noGoto_ret]
          go_ret
          all_goals exact ⟨by rw [HB.out]; rfl, by first | trivial | rfl⟩
      · have c1' : ¬ (1 : Int) ≤ (j : Int) := by omega
        have HB : Hid (nameB s = false) := by show nameB s = false; rw [HE.out]; simp [c1]
        clear c1 
        go_wp2_with fail
        try rw [Exit.noGoto_ret]
        go_ret
        all_goals exact ⟨by rw [HB.out]; rfl, by first | trivial | rfl⟩
end Go.Proofs.Ytflhgphjkhplmaa.D

/- A file is found, or is not; its length; its bytes. -/
namespace Go.Proofs.Ytflhgphjkhplmaa.D
open Go.RowKit
set_option linter.unusedVariables false
set_option linter.unusedSimpArgs false

variable {w w' : World} {D K : Nat} {F : Nat → Prop} {sy : Int} {dl : List Fd} {s : List UInt8} {x : Fd}
theorem find_yes {mv : Option Nat} {z : Value} {a : Option Addr} (hb : w.heap[D]? = some (.cells #[.map mv, z] 90 (0, 0))) (hl : (Instr.lookup 88 (.map mv) (.string (tx s)) true).run Try.prog w = .ok (.tuple #[.pointer a, .bool true]) w) :
    Calls Try.prog 74 #[.pointer (some ⟨D, 0, none⟩), .string (tx s)] w fun e w' => e = .returned (.tuple #[.pointer a, .int .i64 0]) ∧ w' = w := by
  have hD : w.cell? ⟨D, 0, none⟩ = some (.map mv) := by rw [cell_of_row _ _ _ _ _ _ hb]; rfl
  clear hb
  go_enter Try.func74, Try.ntmps74
  go_wp2
  go_ret2
  exact ⟨rfl, rfl⟩
theorem find_no {mv : Option Nat} {z : Value} (hb : w.heap[D]? = some (.cells #[.map mv, z] 90 (0, 0))) (hl : (Instr.lookup 88 (.map mv) (.string (tx s)) true).run Try.prog w = .ok (.tuple #[.pointer none, .bool false]) w) :
    Calls Try.prog 74 #[.pointer (some ⟨D, 0, none⟩), .string (tx s)] w fun e w' => e = .returned (.tuple #[.pointer none, .int .i64 5]) ∧ w' = w := by
  have hD : w.cell? ⟨D, 0, none⟩ = some (.map mv) := by rw [cell_of_row _ _ _ _ _ _ hb]; rfl
  clear hb
  go_enter Try.func74, Try.ntmps74
  go_wp2
  go_ret2
  exact ⟨rfl, rfl⟩
theorem DR.findNo (h : DR w D F sy dl) (hs : lkF s dl = none) : Calls Try.prog 74 #[.pointer (some ⟨D, 0, none⟩), .string (tx s)] w fun e w' => e = .returned (.tuple #[.pointer none, .int .i64 5]) ∧ w' = w := by
  obtain ⟨mv, h1, h2⟩ := h.shut hs
  exact find_no h1 h2
theorem read_no (h : DR w D F sy dl) (hs : lkF s dl = none) : Calls Try.prog 83 #[.pointer (some ⟨D, 0, none⟩), .string (tx s)] w fun e w' => e = .returned (.tuple #[.slice none 0 0, .int .i64 5]) ∧ w' = w := by
  have HFI : Hid (Calls Try.prog 74 #[.pointer (some ⟨D, 0, none⟩), .string (tx s)] w fun e w' => e = .returned (.tuple #[.pointer none, .int .i64 5]) ∧ w' = w) := h.findNo hs
  clear h hs
  go_enter Try.func83, Try.ntmps83
  go_wp2_with (go_at_call 74; refine HFI.out.mono ?_; rintro e w1 ⟨rfl, hw1⟩; rw [hw1]; clear hw1)
  go_ret2
  exact ⟨rfl, rfl⟩
theorem sync_no (h : DR w D F sy dl) (hs : lkF s dl = none) : Calls Try.prog 52 #[.pointer (some ⟨D, 0, none⟩), .string (tx s)] w fun e w' => e = .returned (.int .i64 5) ∧ w' = w := by
  have HFI : Hid (Calls Try.prog 74 #[.pointer (some ⟨D, 0, none⟩), .string (tx s)] w fun e w' => e = .returned (.tuple #[.pointer none, .int .i64 5]) ∧ w' = w) := h.findNo hs
  clear h hs
  go_enter Try.func52, Try.ntmps52
  go_wp2_with (go_at_call 74; refine HFI.out.mono ?_; rintro e w1 ⟨rfl, hw1⟩; rw [hw1]; clear hw1)
  go_ret
  exact ⟨rfl, rfl⟩
theorem cut_no (h : DR w D F sy dl) (hs : lkF s dl = none) (k : Int) : Calls Try.prog 44 #[.pointer (some ⟨D, 0, none⟩), .string (tx s), .int .i64 k] w fun e w' => e = .returned (.int .i64 5) ∧ w' = w := by
  have HFI : Hid (Calls Try.prog 74 #[.pointer (some ⟨D, 0, none⟩), .string (tx s)] w fun e w' => e = .returned (.tuple #[.pointer none, .int .i64 5]) ∧ w' = w) := h.findNo hs
  clear h hs
  go_enter Try.func44, Try.ntmps44
  go_wp2_with (go_at_call 74; refine HFI.out.mono ?_; rintro e w1 ⟨rfl, hw1⟩; rw [hw1]; clear hw1)
  go_ret
  exact ⟨rfl, rfl⟩
theorem remove_no (h : DR w D F sy dl) (hs : lkF s dl = none) : Calls Try.prog 60 #[.pointer (some ⟨D, 0, none⟩), .string (tx s)] w fun e w' => e = .returned (.int .i64 5) ∧ w' = w := by
  have HFI : Hid (Calls Try.prog 74 #[.pointer (some ⟨D, 0, none⟩), .string (tx s)] w fun e w' => e = .returned (.tuple #[.pointer none, .int .i64 5]) ∧ w' = w) := h.findNo hs
  clear h hs
  go_enter Try.func60, Try.ntmps60
  go_wp2_with (go_at_call 74; refine HFI.out.mono ?_; rintro e w1 ⟨rfl, hw1⟩; rw [hw1]; clear hw1)
  go_ret
  exact ⟨rfl, rfl⟩
theorem rename_no (h : DR w D F sy dl) (hs : lkF s dl = none) (v : Value) : Calls Try.prog 73 #[.pointer (some ⟨D, 0, none⟩), .string (tx s), v] w fun e w' => e = .returned (.int .i64 5) ∧ w' = w := by
  have HFI : Hid (Calls Try.prog 74 #[.pointer (some ⟨D, 0, none⟩), .string (tx s)] w fun e w' => e = .returned (.tuple #[.pointer none, .int .i64 5]) ∧ w' = w) := h.findNo hs
  clear h hs
  go_enter Try.func73, Try.ntmps73
  go_wp2_with (go_at_call 74; refine HFI.out.mono ?_; rintro e w1 ⟨rfl, hw1⟩; rw [hw1]; clear hw1)
  go_ret
  exact ⟨rfl, rfl⟩
set_option maxRecDepth 20000 in
theorem read_yes (h : DR w D F sy dl) (hs : lkF s dl = some x) (hx : x.b.length ≤ 2000000) : Calls Try.prog 83 #[.pointer (some ⟨D, 0, none⟩), .string (tx s)] w fun e w' => (∃ v', e = .returned (.tuple #[v', .int .i64 0]) ∧ w'.ownsRow w.heap.size 5 1 v' x.b.length (u8l x.b)) ∧ Below w.heap.size w w' := by
  obtain ⟨K, f, Ff, h1, h2, ⟨dv, bv, g1, g2, g3, g4⟩, -⟩ := h.open hs
  have HFI : Hid (Calls Try.prog 74 #[.pointer (some ⟨D, 0, none⟩), .string (tx s)] w fun e w' => e = .returned (.tuple #[.pointer (some ⟨f, 0, none⟩), .int .i64 0]) ∧ w' = w) := find_yes h1 h2
  obtain ⟨da, dc, hdv⟩ := own_slice g2
  have cF : w.cell? ⟨f, 0, none⟩ = some dv := by rw [cell_of_row _ _ _ _ _ _ g1]; rfl
  have HC : Hid (Calls Try.prog 75 #[dv] w fun e w' => (∃ v', e = .returned v' ∧ w'.ownsRow w.heap.size 5 1 v' x.b.length (u8l x.b)) ∧ Below w.heap.size w w') := clone_any dv x.b w (own_src g2) (by omega)
  obtain ⟨M, hM⟩ : ∃ M, x.b.length = M := ⟨_, rfl⟩
  rw [hM] at hdv hx HC ⊢
  rw [hdv] at cF HC
  clear h hs h1 h2 g1 g2 g3 g4 hM hdv
  go_enter Try.func83, Try.ntmps83
  go_wp2_with (first | (go_at_call 74; refine HFI.out.mono ?_; rintro e w1 ⟨rfl, hw1⟩; rw [hw1]; clear hw1) | (go_at_call 75; refine HC.out.mono ?_; rintro e w2 ⟨⟨v2, rfl, ho2⟩, hb2⟩; (have H2 : Hid (w2.ownsRow w.heap.size 5 1 v2 M (u8l x.b) ∧ Below w.heap.size w w2) := ⟨ho2, hb2⟩); clear ho2 hb2))
  go_ret2
  exact ⟨⟨_, rfl, H2.out.1⟩, H2.out.2⟩
end Go.Proofs.Ytflhgphjkhplmaa.D

/- A file goes; a file is synced; a file is cut. -/
namespace Go.Proofs.Ytflhgphjkhplmaa.D
open Go.RowKit
set_option linter.unusedVariables false
set_option linter.unusedSimpArgs false

variable {w w' : World} {D K : Nat} {F : Nat → Prop} {sy : Int} {dl : List Fd} {s : List UInt8} {x : Fd} {tl : List Tn}
/-- A disk whose box is written. -/
theorem DR.tell (h : DR w D F sy dl) (k : Int) : DR (w.setCell ⟨D, 1, none⟩ (.int .i64 k)) D F k dl ∧ Fr F F w (w.setCell ⟨D, 1, none⟩ (.int .i64 k)) := by
  have hFD : F D := by obtain ⟨mv, -, h2⟩ := h.box; exact h2
  have hf : Fr F F w (w.setCell ⟨D, 1, none⟩ (.int .i64 k)) := ⟨rfl, rfl, rfl, by simp, fun q hq hn => Below.heap_setCell _ _ _ _ fun e => hn (e ▸ hFD), fun q hq => .inl hq⟩
  refine ⟨?_, hf⟩
  rcases h.ex with ⟨h0, h1, h2⟩ | ⟨K, tl, h1, h2, h3⟩
  · exact ⟨.inl ⟨h0, row_set _ h1, h2⟩⟩
  · have hk : ∀ q, q ≠ D → (w.setCell ⟨D, 1, none⟩ (.int .i64 k)).heap[q]? = w.heap[q]? := fun q hq => Below.heap_setCell _ _ _ _ hq
    refine ⟨.inr ⟨K, tl, ⟨row_set _ h1.box, h1.km.at' (hk K fun e => h1.ck e.symm), h1.nd, fun t ht => (h1.lr t ht).at' fun q hq => hk q (h1.of t ht q hq).1, h1.ap, h1.of⟩, h2, h3⟩⟩
set_option maxRecDepth 20000 in
set_option maxHeartbeats 1000000 in
theorem remove_yes (h : DR w D F sy dl) (hs : lkF s dl = some x) : Calls Try.prog 60 #[.pointer (some ⟨D, 0, none⟩), .string (tx s)] w fun e w' => e = .returned (.int .i64 0) ∧ ∃ F', DR w' D F' sy (outF s dl) ∧ Fr F F' w w' := by
  obtain ⟨K, f, Ff, h1, h2, -, -, -, h3⟩ := h.open hs
  obtain ⟨o, h4, F', h5, h6, -, -⟩ := h3 0
  have HFI : Hid (Calls Try.prog 74 #[.pointer (some ⟨D, 0, none⟩), .string (tx s)] w fun e w' => e = .returned (.tuple #[.pointer (some ⟨f, 0, none⟩), .int .i64 0]) ∧ w' = w) := find_yes h1 h2
  have hD : w.cell? ⟨D, 0, none⟩ = some (.map (some K)) := by rw [cell_of_row _ _ _ _ _ _ h1]; rfl
  have HR : Hid (DR (setM w K o) D F' sy (outF s dl) ∧ Fr F F' w (setM w K o)) := ⟨h5, h6⟩
  clear h hs h1 h2 h3 h5 h6
  go_enter Try.func60, Try.ntmps60
  go_wp2_with (go_at_call 74; refine HFI.out.mono ?_; rintro e w1 ⟨rfl, hw1⟩; rw [hw1]; clear hw1)
  go_ret
  exact ⟨rfl, F', HR.out.1, HR.out.2⟩
set_option maxRecDepth 20000 in
set_option maxHeartbeats 4000000 in
theorem sync_yes (h : DR w D F sy dl) (hs : lkF s dl = some x) (s0 : 0 ≤ sy) (s1 : sy ≤ 9000000000000000000) : Calls Try.prog 52 #[.pointer (some ⟨D, 0, none⟩), .string (tx s)] w fun e w' => e = .returned (.int .i64 0) ∧ ∃ F', DR w' D F' (sy + 1) (setF s x.b [] dl) ∧ Fr F F' w w' := by
  obtain ⟨K, f, Ff, h1, h2, ⟨dv, bv, g1, g2, g3, g4⟩, -, hT, -⟩ := h.open hs
  have HFI : Hid (Calls Try.prog 74 #[.pointer (some ⟨D, 0, none⟩), .string (tx s)] w fun e w' => e = .returned (.tuple #[.pointer (some ⟨f, 0, none⟩), .int .i64 0]) ∧ w' = w) := find_yes h1 h2
  obtain ⟨ba, bc, hbv⟩ := own_slice g3
  have cF : w.cell? ⟨f, 1, none⟩ = some bv := by rw [cell_of_row _ _ _ _ _ _ g1]; rfl
  have fF : w.frozen? ⟨f, 1, none⟩ = false := frozen_of_row _ _ 1 _ _ g1
  rw [hbv] at cF
  have hDF : D ≠ f := ne_tag h1 g1 (by decide)
  obtain ⟨W, hW⟩ : ∃ W, w.setCell ⟨f, 1, none⟩ (.slice none 0 0) = W := ⟨_, rfl⟩
  have e3 : ∀ q, q ≠ f → W.heap[q]? = w.heap[q]? := fun q hq => by rw [← hW]; exact Below.heap_setCell _ _ _ _ hq
  have e1 : W.heap[f]? = some (.cells #[dv, .slice none 0 0] 118 (0, 0)) := by rw [← hW]; exact row_set _ g1
  have e2 : W.heap[D]? = some (.cells #[.map (some K), .int .i64 sy] 90 (0, 0)) := by rw [e3 D hDF]; exact h1
  have cW : W.cell? ⟨D, 1, none⟩ = some (.int .i64 sy) := by rw [cell_of_row _ _ _ _ _ _ e2]; rfl
  have fW : W.frozen? ⟨D, 1, none⟩ = false := frozen_of_row _ _ 1 _ _ e2
  have hF' : FL W f (fun q => q = f ∨ dv.ownBlock = some q) x.b [] := ⟨dv, .slice none 0 0, e1, own_at g2 fun q hq => by
      obtain ⟨cur, hc⟩ := own_tag g2 hq
      exact e3 q (ne_tag hc g1 (by decide)), World.ownsRow_nil _ _ _ _, fun q => by simp [Value.ownBlock]⟩
  have hFr : Fr Ff (fun q => q = f ∨ dv.ownBlock = some q) w W := by
    rw [← hW]
    exact ⟨rfl, rfl, rfl, by simp, fun q hq hn => Below.heap_setCell _ _ _ _ fun e => hn ((g4 q).2 (.inl e)), fun q hq => .inl ((g4 q).2 (hq.imp id .inl))⟩
  obtain ⟨F2, k1, k2⟩ := hT W _ x.b [] hF' hFr
  obtain ⟨k3, k4⟩ := k1.tell (sy + 1)
  have HR : Hid (DR (W.setCell ⟨D, 1, none⟩ (.int .i64 (sy + 1))) D F2 (sy + 1) (setF s x.b [] dl) ∧ Fr F F2 w (W.setCell ⟨D, 1, none⟩ (.int .i64 (sy + 1)))) := ⟨k3, k2.trans' k4⟩
  clear h hs h1 h2 g1 g2 g3 g4 hT hbv e1 e2 e3 hF' hFr k1 k2 k3 k4 hDF
  go_enter Try.func52, Try.ntmps52
  go_wp2_with (go_at_call 74; refine HFI.out.mono ?_; rintro e w1 ⟨rfl, hw1⟩; rw [hw1]; clear hw1)
  go_ret
  exact ⟨rfl, F2, HR.out.1, HR.out.2⟩
end Go.Proofs.Ytflhgphjkhplmaa.D

/- Bytes are written behind a file's: where its rows lie then. -/
namespace Go.Proofs.Ytflhgphjkhplmaa.D
open Go.RowKit
set_option linter.unusedVariables false
set_option linter.unusedSimpArgs false

theorem append_src_near {w : World} {ops : Array Oper} {rest : List Oper} {o : Oper} {a : Act} {Q : Exit → Act → World → Prop} (hgd : o.guard = none) (s x : Operand)
    (ho : o.op = .call { callee := .builtin .append, args := #[s, x], argTypes := #[23, 23] }) (base : Nat) (v : Value) (n : Nat) (xs : List Value) (hs : a.eval s = v) (hown : w.ownsRow base 5 1 v n xs)
    (sv : Value) (bs : List Int) (hx : a.eval x = sv) (hsrc : Src w sv bs) (h0 : 0 < bs.length) (hb : n + bs.length ≤ 100000000) (hbase : base ≤ w.heap.size)
    (h : ∀ v' w', w'.ownsRow base 5 1 v' (n + bs.length) (xs ++ u8l bs) → w.grownBy w' v.ownBlock → (∀ q, v'.ownBlock = some q → v.ownBlock = some q ∨ w.heap.size ≤ q) → wpList Try.prog ops Q rest (a.put o.dst v') w') : wpList Try.prog ops Q (o :: rest) a w := by
  obtain ⟨i0, hi, hz0, hz1, hz2⟩ := info_parts info5
  rcases hsrc with ⟨rfl, rfl⟩ | ⟨ad, cap, rfl, _, hC⟩
  · refine wpList_append_own_none hgd s x 23 ho base 5 i0 1 Try.underlying23 hi v n xs hs hown hx ?_
    refine h v w ?_ ⟨rfl, rfl, rfl, Nat.le_refl _, fun _ _ _ => rfl⟩ (fun q hq => .inl hq)
    simpa [u8l] using hown
  · refine wpList_append_lies w hgd s x 23 ho base 5 i0 (.int .u8 0) 1 1 Try.underlying23 hi hz0 hz1 hz2 rfl (by decide) v n xs hs hown ad bs.length cap (u8l bs) hx (by simp [u8l_len]) hC (u8l_one _) h0 (by unfold maxLen; omega) (by omega) hbase w.heap.size rfl fun g cp w' h1 h2 h3 _ => h _ w' h1 h2 fun q hq => ?_
    have e : g = q := by simpa [Value.ownBlock] using hq
    rcases h3 with h3 | h3
    · exact .inl (e ▸ h3)
    · exact .inr (by omega)

set_option maxRecDepth 20000 in
set_option maxHeartbeats 4000000 in
theorem write_grow (F : Nat) (dv bv : Value) (n m base : Nat) (xs ys : List Value) (sv : Value) (bs : List Int) (w : World) (hF : w.heap[F]? = some (.cells #[dv, bv] 118 (0, 0))) (hd : w.ownsRow base 5 1 dv n xs) (hb : w.ownsRow base 3 1 bv m ys) (hbase : base ≤ w.heap.size) (hs : Src5 w sv bs) (hn : 0 < bs.length) (hl : n + bs.length ≤ 10000000) (hm : m ≤ 10000000) :
    Calls Try.prog 82 #[.pointer (some ⟨F, 0, none⟩), sv] w fun e w' => (∃ v, e = .returned v) ∧ ∃ dv' bv', w'.heap[F]? = some (.cells #[dv', bv'] 118 (0, 0)) ∧ w'.ownsRow base 5 1 dv' (n + bs.length) (xs ++ u8l bs) ∧ w'.ownsRow base 3 1 bv' (m + 1) (ys ++ [.int .i64 (n : Int)]) ∧ Kep w w' (fun q => q = F ∨ dv.ownBlock = some q ∨ bv.ownBlock = some q) ∧ (∀ q, dv'.ownBlock = some q → dv.ownBlock = some q ∨ w.heap.size ≤ q) ∧ (∀ q, bv'.ownBlock = some q → bv.ownBlock = some q ∨ w.heap.size ≤ q) := by
  obtain ⟨i0, hi, hz0, hz1, hz2⟩ := info_parts info3
  obtain ⟨da, dc, rfl⟩ := own_slice hd
  obtain ⟨ba, bc, rfl⟩ := own_slice hb
  obtain ⟨sa, sc, hsv⟩ := (hs w fun _ _ _ _ => rfl).slice
  have c0 : w.cell? ⟨F, 0, none⟩ = some (.slice da n dc) := by rw [cell_of_row _ _ _ _ _ _ hF]; rfl
  have c1 : w.cell? ⟨F, 1, none⟩ = some (.slice ba m bc) := by rw [cell_of_row _ _ _ _ _ _ hF]; rfl
  have HF : Hid (w.heap[F]? = some (.cells #[.slice da n dc, .slice ba m bc] 118 (0, 0))) := hF
  have HD : Hid (w.ownsRow base 5 1 (.slice da n dc) n xs) := hd
  have HBO : Hid (w.ownsRow base 3 1 (.slice ba m bc) m ys) := hb
  have HS : Hid (Src5 w sv bs) := hs
  have HBS : Hid (base ≤ w.heap.size ∧ n + bs.length ≤ 10000000 ∧ m ≤ 10000000) := ⟨hbase, hl, hm⟩
  obtain ⟨N, hN⟩ : ∃ N, bs.length = N := ⟨_, rfl⟩
  have HN : Hid (bs.length = N) := hN
  rw [hN] at hn hsv
  have hn0 : ((N : Int) == 0) = false := by rw [beq_eq_false_iff_ne]; omega
  have hFlt : F < w.heap.size := (Array.getElem?_eq_some_iff.1 hF).1
  have c0a : ∀ o, (w.alloc o).cell? ⟨F, 0, none⟩ = some (.slice da n dc) := fun o => by rw [cell_of_row _ _ _ _ _ _ ((Below.heap_alloc _ _ _ hFlt).trans hF)]; rfl
  have c1a : ∀ o, (w.alloc o).cell? ⟨F, 1, none⟩ = some (.slice ba m bc) := fun o => by rw [cell_of_row _ _ _ _ _ _ ((Below.heap_alloc _ _ _ hFlt).trans hF)]; rfl
  subst hsv
  clear hF hd hb hs hbase hl hm hN
  go_enter Try.func82, Try.ntmps82
  go_wp2_with fail
  go_region_law (refine step_append_lies _ rfl (.tmp 11) (.tmp 17) 36 rfl base 3 i0 (.int .i64 0) 1 8 Try.underlying36 hi hz0 hz1 hz2 rfl (by decide) (.slice ba m bc) m ys (by simp [Act.eval, Act.put]) (HBO.out.alloc _) ⟨w.heap.size, 0, none⟩ 1 1 [.int .i64 (n : Int)] (by simp [Act.eval, Act.put]) rfl (World.news_of_block (Go.heap_alloc_new _ _)) (by intro u hu; simp at hu; rw [hu]; rfl) (by decide) (by have := HBS.out; unfold maxLen; omega) (by have := HBS.out; omega) (by have := HBS.out; simp; omega) (w.heap.size + 1) (by simp) ?_; intro g' cp' w' ho' hg' hx' hy'; (have HNB : Hid ((Value.slice ba m bc).ownBlock = some g' ∨ g' = w.heap.size + 1) := hx'); (have HX1 : Hid (w'.heap[F]? = some (.cells #[.slice da n dc, .slice ba m bc] 118 (0, 0))) := (hg'.block F (by simp; omega) (own_other HBO.out HF.out (by decide))).trans ((Below.heap_alloc _ _ _ hFlt).trans HF.out)); (have d1 : w'.cell? ⟨F, 1, none⟩ = some (.slice ba m bc) := (by rw [cell_of_row _ _ _ _ _ _ HX1.out]; rfl)); (have f1 := frozen_of_row _ _ 1 _ _ HX1.out); (have HO1 : Hid (w'.ownsRow base 3 1 (.slice (some ⟨g', 0, none⟩) (m + 1) cp') (m + 1) (ys ++ [.int .i64 (n : Int)])) := ho'); (have HK1 : Hid (w.heap.size + 1 ≤ w'.heap.size ∧ ∀ q, q < w.heap.size → (Value.slice ba m bc).ownBlock ≠ some q → w'.heap[q]? = w.heap[q]?) := ⟨(by have h := hg'.size; simp at h; omega), fun q h1 h2 => (hg'.block q (by simp; omega) (fun e => h2 e.symm)).trans (Below.heap_alloc _ _ _ h1)⟩); (have HG1 : Hid (w'.os = w.os ∧ w'.tape = w.tape ∧ w'.output = w.output) := ⟨hg'.os, hg'.tape, hg'.output⟩); clear ho' hg' hx' hy')
  all_goals
    obtain ⟨W2, hW2⟩ : ∃ W2, w'.setCell ⟨F, 1, none⟩ (.slice (some ⟨g', 0, none⟩) (m + 1) cp') = W2 := ⟨_, rfl⟩
    have HX2 : Hid (W2.heap[F]? = some (.cells #[.slice da n dc, .slice (some ⟨g', 0, none⟩) (m + 1) cp'] 118 (0, 0))) := by
      show _ = _
      rw [← hW2]
      exact row_set _ HX1.out
    have HK2 : Hid (∀ q, q ≠ F → W2.heap[q]? = w'.heap[q]?) := fun q hq => by rw [← hW2]; exact Below.heap_setCell _ _ _ _ hq
    have HZ2 : Hid (W2.heap.size = w'.heap.size) := by show _ = _; rw [← hW2]; simp
    have HY2 : Hid (W2.os = w'.os ∧ W2.tape = w'.tape ∧ W2.output = w'.output) := by rw [← hW2]; exact ⟨rfl, rfl, rfl⟩
    have HD2 : Hid (W2.ownsRow base 5 1 (.slice da n dc) n xs) := own_at HD.out fun q hq => by
      obtain ⟨cur, hc⟩ := own_tag HD.out hq
      rw [HK2.out q (ne_tag hc HF.out (by decide))]
      refine HK1.out.2 q (Array.getElem?_eq_some_iff.1 hc).1 fun e => ?_
      obtain ⟨cur', hc'⟩ := own_tag HBO.out e
      exact ne_tag hc hc' (by decide) rfl
    have HO2 : Hid (W2.ownsRow base 3 1 (.slice (some ⟨g', 0, none⟩) (m + 1) cp') (m + 1) (ys ++ [.int .i64 (n : Int)])) := own_at HO1.out fun q hq => by
      obtain ⟨cur, hc⟩ := own_tag HO1.out hq
      exact HK2.out q (ne_tag hc HX1.out (by decide))
    have HS2 : Hid (Src W2 (.slice sa N sc) bs) := HS.out W2 fun q c f hc => by
      rw [HK2.out q (ne_tag hc HF.out (by decide))]
      refine HK1.out.2 q (Array.getElem?_eq_some_iff.1 hc).1 fun e => ?_
      obtain ⟨cur', hc'⟩ := own_tag HBO.out e
      exact ne_tag hc hc' (by decide) rfl
    rw [hW2]
    have e0 : W2.cell? ⟨F, 0, none⟩ = some (.slice da n dc) := by rw [cell_of_row _ _ _ _ _ _ HX2.out]; rfl
    clear hW2 d1 f1 c0 c1 c0a c1a
    go_wp2_with (at_builtin; (refine append_src_near rfl (.tmp 25) (.tmp 26) rfl base (.slice da n dc) n xs rfl HD2.out (.slice sa N sc) bs rfl HS2.out (by have h2 := HN.out; omega) (by have := HBS.out; omega) (by have h1 := HBS.out; have h2 := HK1.out.1; have h3 := HZ2.out; omega) ?_; intro v3 w3 ho3 hg3 hn3; (have HND : Hid (∀ q, v3.ownBlock = some q → (Value.slice da n dc).ownBlock = some q ∨ W2.heap.size ≤ q) := hn3); clear hn3; (obtain ⟨xa, xc, hv3⟩ := own_slice ho3); subst hv3; (have HX3 : Hid (w3.heap[F]? = some (.cells #[.slice da n dc, .slice (some ⟨g', 0, none⟩) (m + 1) cp'] 118 (0, 0))) := (hg3.block F (by have h2 := HK1.out.1; have h3 := HZ2.out; omega) (own_other HD2.out HX2.out (by decide))).trans HX2.out); (have d3 : w3.cell? ⟨F, 0, none⟩ = some (.slice da n dc) := (by rw [cell_of_row _ _ _ _ _ _ HX3.out]; rfl)); (have f3 := frozen_of_row _ _ 0 _ _ HX3.out); (have HO3 : Hid (w3.ownsRow base 5 1 (.slice xa (n + bs.length) xc) (n + bs.length) (xs ++ u8l bs)) := ho3); (have HG3 : Hid (W2.grownBy w3 (Value.slice da n dc).ownBlock) := hg3); clear ho3 hg3))
    go_end0
    refine ⟨⟨_, rfl⟩, .slice xa (n + bs.length) xc, .slice (some ⟨g', 0, none⟩) (m + 1) cp', row_set _ HX3.out, ?_, ?_, ⟨?_, ?_, ?_, ?_, ?_⟩, ?_, ?_⟩
    · refine own_at HO3.out fun q hq => Below.heap_setCell _ _ _ _ ?_
      obtain ⟨cur, hc⟩ := own_tag HO3.out hq
      exact ne_tag hc HX3.out (by decide)
    · refine own_at (w := W2) HO2.out fun q hq => ?_
      obtain ⟨cur, hc⟩ := own_tag HO2.out hq
      rw [Below.heap_setCell _ _ _ _ (ne_tag hc HX2.out (by decide))]
      exact HG3.out.block q (Array.getElem?_eq_some_iff.1 hc).1 (own_other HD2.out hc (by decide))
    · exact HG3.out.os.trans (HY2.out.1.trans HG1.out.1)
    · exact HG3.out.tape.trans (HY2.out.2.1.trans HG1.out.2.1)
    · exact HG3.out.output.trans (HY2.out.2.2.trans HG1.out.2.2)
    · have h1 := HK1.out.1
      have h2 := HZ2.out
      have h3 := HG3.out.size
      simp
      omega
    · intro q h1 hx
      have h2 : q ≠ F := fun e => hx (.inl e)
      have h3 : (Value.slice da n dc).ownBlock ≠ some q := fun e => hx (.inr (.inl e))
      have h4 : (Value.slice ba m bc).ownBlock ≠ some q := fun e => hx (.inr (.inr e))
      have g1 := HK1.out.1
      have g2 := HZ2.out
      rw [Below.heap_setCell _ _ _ _ h2, HG3.out.block q (by omega) (fun e => h3 e.symm), HK2.out q h2]
      exact HK1.out.2 q h1 h4
    · intro q hq
      rcases HND.out q hq with e | e
      · exact .inl e
      · exact .inr (by have h1 := HK1.out.1; have h2 := HZ2.out; omega)
    · intro q hq
      have e : g' = q := by simpa [Value.ownBlock] using hq
      rcases HNB.out with h | h
      · exact .inl (e ▸ h)
      · exact .inr (by omega)
theorem write_nil {f : Nat} {sa : Option Addr} {sc : Nat} (w : World) : Calls Try.prog 82 #[.pointer (some ⟨f, 0, none⟩), .slice sa 0 sc] w fun e w' => (∃ v, e = .returned v) ∧ w' = w := by
  go_enter Try.func82, Try.ntmps82
  go_wp2_with fail
  refine bodyPost_ret (results_none rfl _ _ _) rfl ?_
  exact ⟨⟨_, rfl⟩, rfl⟩
end Go.Proofs.Ytflhgphjkhplmaa.D

/- A name's file is another. -/
namespace Go.Proofs.Ytflhgphjkhplmaa.D
open Go.RowKit
set_option linter.unusedVariables false
set_option linter.unusedSimpArgs false

theorem fndE_mod (q : Nat) : ∀ (l : List En) (s : List UInt8) (k i v : Nat), fndE s l k = some (i, v) → k ≤ i ∧ ∃ a e b, l = a ++ e :: b ∧ e.nm = s ∧ e.q = v ∧ (ents l).modify (i - k) (fun e => { e with key := .string (tx s), val := .pointer (some ⟨q, 0, none⟩) }) = ents (a ++ ⟨s, q, e.born⟩ :: b)
  | [], s, k, i, v, h => by simp [fndE] at h
  | x :: r, s, k, i, v, h => by
    unfold fndE at h
    by_cases e : s = x.nm
    · rw [if_pos e] at h
      obtain ⟨rfl, rfl⟩ := Prod.mk.inj (Option.some.inj h)
      refine ⟨Nat.le_refl _, [], x, r, rfl, e.symm, rfl, ?_⟩
      simp [ents]
    · rw [if_neg e] at h
      obtain ⟨h1, a, e2, b, h2, h3, h4, h5⟩ := fndE_mod q r s (k + 1) i v h
      refine ⟨by omega, x :: a, e2, b, by rw [h2]; rfl, h3, h4, ?_⟩
      rw [show i - k = (i - (k + 1)) + 1 by omega]
      show (_ :: ents r).modify (_ + 1) _ = _ :: ents (a ++ ⟨s, q, e2.born⟩ :: b)
      rw [List.modify_succ_cons, h5]
theorem fndE_key (l : List En) (s : List UInt8) (k i v : Nat) (h : fndE s l k = some (i, v)) : (Option.map (fun x : MapEntry => x.key) (ents l)[i - k]?).getD (.string (tx s)) = .string (tx s) := by
  induction l generalizing k with
  | nil => simp [fndE] at h
  | cons q r ih =>
    unfold fndE at h
    by_cases e : s = q.nm
    · rw [if_pos e] at h
      obtain ⟨rfl, rfl⟩ := Prod.mk.inj (Option.some.inj h)
      simp [ents, e]
    · rw [if_neg e] at h
      have h1 : k + 1 ≤ i := (fndE_mod 0 r s (k + 1) i v h).1
      rw [show i - k = (i - (k + 1)) + 1 by omega]
      exact ih (k + 1) h
theorem stays (s : List UInt8) (w : World) : (Instr.keyThatStays (.string (tx s)) (.string (tx s))).run Try.prog w = .ok (.string (tx s)) w := by
  have h : Instr.sameBits 10000 (.string (tx s)) (.string (tx s)) = true := by
    simp [Instr.sameBits, tx_beq]
  simp [Instr.keyThatStays, h]
theorem MM.set {w : World} {B : Nat} {ml : List (List UInt8 × Nat)} (h : MM w B ml) (hn : (ml.map Prod.fst).Nodup) {s : List UInt8} {q0 : Nat} (hs : (s, q0) ∈ ml) (q : Nat) : ∃ o, (Instr.mapUpdate 88 (.map (some B)) (.string (tx s)) (.pointer (some ⟨q, 0, none⟩))).run Try.prog w = .ok () (setM w B o) ∧ MM (setM w B o) B (ml.erase (s, q0) ++ [(s, q)]) := by
  obtain ⟨es, c, h1, h2, hB⟩ := h
  have hlt := (Array.getElem?_eq_some_iff.1 h1).1
  have hl : lkM s (prs es) = some q0 := by rw [lkM_perm h2 hn s]; exact lkM_of hn hs
  have h3 := fndE_lk es s 0
  rw [hl] at h3
  obtain ⟨⟨i, q'⟩, hf, rfl⟩ : ∃ p, fndE s es 0 = some p ∧ p.2 = q0 := by
    cases hh : fndE s es 0 with
    | none => rw [hh] at h3; simp at h3
    | some p => rw [hh] at h3; exact ⟨p, rfl, by simpa using h3⟩
  obtain ⟨-, a, e, b, h4, h5, h6, h7⟩ := fndE_mod q es s 0 i q' hf
  refine ⟨.map (ents (a ++ ⟨s, q, e.born⟩ :: b)).toArray c, ?_, a ++ ⟨s, q, e.born⟩ :: b, c, setM_at hlt, ?_, ?_, ?_⟩
  · rw [Nat.sub_zero] at h7
    have hkey := fndE_key es s 0 i q' hf
    rw [Nat.sub_zero] at hkey
    unfold MapAt at h1
    simp [Instr.mapUpdate, run_underlying under68, MapKept.run_getObj_map h1, run_check, run_findKey_ents, hf, MapKept.run_setObj_map _ h1, Result.andThen]
    rw [hkey, stays s w]
    simp only
    rw [MapKept.run_setObj_map _ h1, h7]
    rfl
  · have p1 : (prs (a ++ e :: b)).Perm ((s, q') :: prs (a ++ b)) := by
      have : prs (a ++ e :: b) = prs a ++ (s, q') :: prs b := by simp [prs, h5, h6]
      rw [this]
      have e2 : prs (a ++ b) = prs a ++ prs b := by simp [prs]
      rw [e2]
      exact List.perm_middle
    rw [h4] at h2
    have p2 : (prs (a ++ b)).Perm (ml.erase (s, q')) := by
      have := (p1.symm.trans h2).erase (s, q')
      rwa [List.erase_cons_head] at this
    have e3 : prs (a ++ ⟨s, q, e.born⟩ :: b) = prs a ++ (s, q) :: prs b := by simp [prs]
    rw [e3]
    have e2 : prs (a ++ b) = prs a ++ prs b := by simp [prs]
    rw [e2] at p2
    exact (List.perm_middle.trans (List.Perm.cons _ p2)).trans (List.perm_append_singleton _ _).symm
  · have := hB.nd
    rw [h4] at this
    simpa using this
  · intro z hz
    have hlt2 := hB.lt
    rw [h4] at hlt2
    rcases List.mem_append.1 hz with hz | hz
    · exact hlt2 z (by simp [hz])
    · rcases List.mem_cons.1 hz with hz | hz
      · rw [hz]; exact hlt2 e (by simp)
      · exact hlt2 z (by simp [hz])
variable {w w' : World} {D K : Nat} {F : Nat → Prop} {sy : Int} {dl : List Fd} {s : List UInt8} {x : Fd} {tl a b : List Tn} {t t' : Tn}
/-- A file comes in another's place. -/
theorem DX.swap (h : DX w D K sy (a ++ t' :: b)) {o : Obj} (hn : t.nm = t'.nm) (hl : FL w t.L t.F t.b t.ws) (hnew : ∀ q, t.F q → ¬ CF D K (a ++ t' :: b) q) (hm : MM (setM w K o) K ((mlT (a ++ t' :: b)).erase (t'.nm, t'.L) ++ [(t.nm, t.L)])) : DX (setM w K o) D K sy (a ++ b ++ [t]) ∧ Fr (CF D K (a ++ b ++ [t])) (CF D K (a ++ b ++ [t])) w (setM w K o) := by
  have hsub : ∀ s ∈ a ++ b, s ∈ a ++ t' :: b := fun s hs => by simp at hs ⊢; rcases hs with hs | hs <;> simp [hs]
  have hsl : (a ++ b).Sublist (a ++ t' :: b) := (List.Sublist.refl _).append (List.sublist_cons_self _ _)
  have hof : ∀ q, t.F q → q ≠ D ∧ q ≠ K := fun q hq => ⟨fun e => hnew q hq (.inl e), fun e => hnew q hq (.inr (.inl e))⟩
  have hml : mlT (a ++ b ++ [t]) = mlT (a ++ b) ++ [(t.nm, t.L)] := by simp [mlT]
  refine ⟨⟨(setM_off h.ck).trans h.box, hm.perm (by rw [hml]; exact (ml_erase a b t').append_right _), ?_, fun s hs => ?_, ?_, fun s hs => ?_⟩, setM_fr (.inr (.inl rfl)) o⟩
  · rw [List.map_append, List.nodup_append]
    refine ⟨h.nd.sublist (hsl.map _), by simp, fun x hx y hy e => ?_⟩
    simp at hy
    subst hy
    subst e
    have := h.nd
    rw [List.map_append, List.map_cons] at this
    have h2 := nd_mid this
    rw [← List.map_append, ← hn] at h2
    exact h2 hx
  · rcases List.mem_append.1 hs with hs | hs
    · exact (h.lr s (hsub s hs)).at' fun q hq => setM_off (h.of s (hsub s hs) q hq).2
    · obtain rfl := List.mem_singleton.1 hs
      exact hl.at' fun q hq => setM_off (hof q hq).2
  · rw [List.pairwise_append]
    refine ⟨h.ap.sublist hsl, List.pairwise_singleton _ _, fun s hs r hr q hq e => ?_⟩
    obtain rfl := List.mem_singleton.1 hr
    exact hnew q e (.inr (.inr ⟨s, hsub s hs, hq⟩))
  · rcases List.mem_append.1 hs with hs | hs
    · exact h.of s (hsub s hs)
    · obtain rfl := List.mem_singleton.1 hs
      exact hof
theorem outF_none : ∀ {dl : List Fd} {s : List UInt8}, lkF s dl = none → outF s dl = dl
  | [], s, h => rfl
  | y :: r, s, h => by
    unfold lkF at h
    split at h
    · cases h
    · rename_i e
      rw [outF, if_neg e, outF_none h]
theorem DR.perm {dl' : List Fd} (h : DR w D F sy dl) (hp : dl.Perm dl') : DR w D F sy dl' := by
  rcases h.ex with ⟨rfl, h1, h2⟩ | ⟨K, tl, h1, h2, h3⟩
  · exact ⟨.inl ⟨List.nil_perm.1 hp, h1, h2⟩⟩
  · exact ⟨.inr ⟨K, tl, h1, h2.trans hp, h3⟩⟩
/-- A file comes to a disk that has a map. -/
theorem DR.put (h : DR w D F sy dl) {K : Nat} (hb : w.heap[D]? = some (.cells #[.map (some K), .int .i64 sy] 90 (0, 0))) {L : Nat} {G : Nat → Prop} {bb ws : List Int} (hl : FL w L G bb ws) (hnew : ∀ q, G q → ¬ F q) :
    ∃ o, (Instr.mapUpdate 88 (.map (some K)) (.string (tx s)) (.pointer (some ⟨L, 0, none⟩))).run Try.prog w = .ok () (setM w K o) ∧ FL (setM w K o) L G bb ws ∧ ∃ F', DR (setM w K o) D F' sy (outF s dl ++ [⟨s, bb, ws⟩]) ∧ Fr (fun q => F q ∨ G q) F' w (setM w K o) ∧ ∀ w'' F2 b' ws', FL w'' L F2 b' ws' → Fr G F2 (setM w K o) w'' → ∃ F'', DR w'' D F'' sy (outF s dl ++ [⟨s, b', ws'⟩]) ∧ Fr F' F'' (setM w K o) w'' := by
  rcases h.ex with ⟨-, h1, -⟩ | ⟨K', tl, h1, h2, h3⟩
  · rw [hb] at h1
    simp at h1
  · have eK : K = K' := by
      have := h1.box
      rw [hb] at this
      simpa using this
    subst eK
    have hnew' : ∀ tl', (∀ q, CF D K tl' q → CF D K tl q) → ∀ q, G q → ¬ CF D K tl' q := fun tl' hs q hq e => hnew q hq ((h3 q).2 (hs q e))
    cases hk : lkF s dl with
    | none =>
      have hnm : s ∉ tl.map Tn.nm := by
        rw [← pl_nm]
        exact fun e => lkF_none.1 hk ((h2.map Fd.nm).mem_iff.1 e)
      obtain ⟨o, k1, k2⟩ := h1.km.put (s := s) (by rw [mlT_fst]; exact hnm) L
      obtain ⟨g1, g2⟩ := h1.come (t := ⟨s, L, G, bb, ws⟩) hnm hl (hnew' tl fun q hq => hq) k2
      refine ⟨o, k1, g1.lr ⟨s, L, G, bb, ws⟩ (by simp), _, ⟨.inr ⟨K, _, g1, ?_, fun q => Iff.rfl⟩⟩, g2.from fun q => ?_, fun w'' F2 b' ws' hl2 hf2 => ?_⟩
      rotate_left 2
      · obtain ⟨t1, t2⟩ := DX.turn (a := tl) (b := []) (t := ⟨s, L, G, bb, ws⟩) g1 hl2 hf2
        refine ⟨_, ⟨.inr ⟨K, _, t1, ?_, fun q => Iff.rfl⟩⟩, t2⟩
        rw [outF_none hk, List.map_append]
        exact h2.append_right _
      · rw [outF_none hk, List.map_append]
        exact h2.append_right _
      · rw [h3]
        unfold CF
        constructor
        · rintro ((e | e | ⟨t, ht, e⟩) | e)
          · exact .inl e
          · exact .inr (.inl e)
          · exact .inr (.inr ⟨t, by simp [ht], e⟩)
          · exact .inr (.inr ⟨⟨s, L, G, bb, ws⟩, by simp, e⟩)
        · rintro (e | e | ⟨t, ht, e⟩)
          · exact .inl (.inl e)
          · exact .inl (.inr (.inl e))
          · rcases List.mem_append.1 ht with ht | ht
            · exact .inl (.inr (.inr ⟨t, ht, e⟩))
            · obtain rfl := List.mem_singleton.1 ht
              exact .inr e
    | some x =>
      obtain ⟨hxs, A, B, rfl, hout, hset⟩ := lkF_some hk
      obtain ⟨a, t, b, rfl, ht⟩ := tl_split (h2.mem_iff.2 (show x ∈ A ++ x :: B by simp))
      have htn : t.nm = s := by rw [← hxs, ← ht]; rfl
      have hmem : (s, t.L) ∈ mlT (a ++ t :: b) := List.mem_map.2 ⟨t, by simp, by rw [htn]⟩
      obtain ⟨o, k1, k2⟩ := h1.km.set h1.knd hmem L
      have k3 : MM (setM w K o) K ((mlT (a ++ t :: b)).erase (t.nm, t.L) ++ [(s, L)]) := by rw [htn]; exact k2
      obtain ⟨g1, g2⟩ := h1.swap (t := ⟨s, L, G, bb, ws⟩) htn.symm hl (hnew' _ fun q hq => hq) k3
      have hrest : ((a ++ b).map pl).Perm (A ++ B) := by
        have p1 : ((a ++ t :: b).map pl).Perm (pl t :: (a ++ b).map pl) := (mid_perm a b t).map pl
        have p2 : (A ++ x :: B).Perm (x :: (A ++ B)) := mid_perm A B x
        rw [ht] at p1
        exact (p1.symm.trans (h2.trans p2)).cons_inv
      refine ⟨o, k1, g1.lr ⟨s, L, G, bb, ws⟩ (by simp), _, ⟨.inr ⟨K, _, g1, ?_, fun q => Iff.rfl⟩⟩, ?_, fun w'' F2 b' ws' hl2 hf2 => ?_⟩
      rotate_left 2
      · obtain ⟨t1, t2⟩ := DX.turn (a := a ++ b) (b := []) (t := ⟨s, L, G, bb, ws⟩) g1 hl2 hf2
        refine ⟨_, ⟨.inr ⟨K, _, t1, ?_, fun q => Iff.rfl⟩⟩, t2⟩
        rw [hout, List.map_append]
        exact hrest.append_right _
      · rw [hout, List.map_append]
        exact hrest.append_right _
      · have hFK : F K := (h3 K).2 (.inr (.inl rfl))
        refine (setM_fr (F := fun q => F q ∨ G q) (.inl hFK) o).sub fun q hq => ?_
        rcases hq with e | e | ⟨t2, ht2, e⟩
        · exact .inl ((h3 q).2 (.inl e))
        · exact .inl ((h3 q).2 (.inr (.inl e)))
        · rcases List.mem_append.1 ht2 with ht2 | ht2
          · exact .inl ((h3 q).2 (.inr (.inr ⟨t2, by simp at ht2 ⊢; rcases ht2 with h | h <;> simp [h], e⟩)))
          · obtain rfl := List.mem_singleton.1 ht2
            exact .inr e
end Go.Proofs.Ytflhgphjkhplmaa.D

/- A file is cut. -/
namespace Go.Proofs.Ytflhgphjkhplmaa.D
open Go.RowKit
set_option linter.unusedVariables false
set_option linter.unusedSimpArgs false

variable {w w' : World} {D K : Nat} {F : Nat → Prop} {sy : Int} {dl : List Fd} {s : List UInt8} {x : Fd} {tl : List Tn}
theorem own_capv {base n : Nat} {e : TypeId} {a : Option Addr} {c : Nat} {xs : List Value} (h : w.ownsRow base e 1 (.slice a n c) n xs) : n ≤ c := by
  rcases h.2 with ⟨h1, h2⟩ | ⟨g, cap, cur, h1, _, _, h3, _⟩
  · omega
  · injection h1 with e1 e2 e3
    omega
theorem u8l_take (b : List Int) (k : Nat) : u8l (b.take k) = (u8l b).take k := by simp [u8l, List.map_take]
theorem src_take {v : Value} {b : List Int} {da : Option Addr} {dc k : Nat} (h : w.ownsRow 0 5 1 (.slice da b.length dc) b.length (u8l b)) (hk : k ≤ b.length) : Src w (.slice da k dc) (b.take k) := by
  rcases h.2 with ⟨h1, h2⟩ | ⟨g, cap, cur, h1, _, _, h3, _⟩
  · have e : b = [] := List.eq_nil_of_length_eq_zero h2
    subst e
    have hk0 : k = 0 := by simpa using hk
    subst hk0
    injection h1 with e1 e2 e3
    exact .inl ⟨by rw [e1, e3], rfl⟩
  · injection h1 with e1 e2 e3
    have el : (b.take k).length = k := by rw [List.length_take]; omega
    refine .inr ⟨⟨g, 0, none⟩, dc, by rw [e1, el], by rw [el, e3]; omega, fun j u hu => ?_⟩
    rw [u8l_take, List.getElem?_take] at hu
    split at hu
    · exact h.cells (g := g) (by rw [e1]; rfl) j u hu
    · cases hu
theorem own_base {base n size : Nat} {e : TypeId} {v : Value} {xs : List Value} (h : w.ownsRow base e size v n xs) : w.ownsRow 0 e size v n xs := by
  exact own_low h (Nat.zero_le _)
set_option maxRecDepth 20000 in
set_option maxHeartbeats 1000000 in
theorem cut_bad (h : DR w D F sy dl) (hs : lkF s dl = some x) (hx : x.b.length ≤ 2000000) (k : Int) (hk : k < 0 ∨ (x.b.length : Int) < k) : Calls Try.prog 44 #[.pointer (some ⟨D, 0, none⟩), .string (tx s), .int .i64 k] w fun e w' => e = .returned (.int .i64 1) ∧ w' = w := by
  obtain ⟨K, f, Ff, h1, h2, ⟨dv, bv, g1, g2, g3, g4⟩, -⟩ := h.open hs
  have HFI : Hid (Calls Try.prog 74 #[.pointer (some ⟨D, 0, none⟩), .string (tx s)] w fun e w' => e = .returned (.tuple #[.pointer (some ⟨f, 0, none⟩), .int .i64 0]) ∧ w' = w) := find_yes h1 h2
  obtain ⟨da, dc, hdv⟩ := own_slice g2
  have cF : w.cell? ⟨f, 0, none⟩ = some dv := by rw [cell_of_row _ _ _ _ _ _ g1]; rfl
  obtain ⟨M, hM⟩ : ∃ M, x.b.length = M := ⟨_, rfl⟩
  rw [hM] at hdv hx hk
  rw [hdv] at cF
  clear h hs h1 h2 g1 g2 g3 g4 hM hdv
  by_cases c : k < 0
  · clear hk
    go_enter Try.func44, Try.ntmps44
    go_wp2_with (go_at_call 74; refine HFI.out.mono ?_; rintro e w1 ⟨rfl, hw1⟩; rw [hw1]; clear hw1)
    go_ret
    exact ⟨rfl, rfl⟩
  · have hk : (M : Int) < k := by omega
    go_enter Try.func44, Try.ntmps44
    go_wp2_with (go_at_call 74; refine HFI.out.mono ?_; rintro e w1 ⟨rfl, hw1⟩; rw [hw1]; clear hw1)
    go_ret
    exact ⟨rfl, rfl⟩
set_option maxRecDepth 20000 in
set_option maxHeartbeats 4000000 in
theorem cut_yes (h : DR w D F sy dl) (hs : lkF s dl = some x) (hx : x.b.length ≤ 2000000) (k : Nat) (hk : k ≤ x.b.length) : Calls Try.prog 44 #[.pointer (some ⟨D, 0, none⟩), .string (tx s), .int .i64 (k : Int)] w fun e w' => e = .returned (.int .i64 0) ∧ ∃ F', DR w' D F' sy (setF s (x.b.take k) [] dl) ∧ Fr F F' w w' := by
  obtain ⟨K, f, Ff, h1, h2, ⟨dv, bv, g1, g2, g3, g4⟩, -, hT, -⟩ := h.open hs
  have HFI : Hid (Calls Try.prog 74 #[.pointer (some ⟨D, 0, none⟩), .string (tx s)] w fun e w' => e = .returned (.tuple #[.pointer (some ⟨f, 0, none⟩), .int .i64 0]) ∧ w' = w) := find_yes h1 h2
  obtain ⟨da, dc, rfl⟩ := own_slice g2
  have hcap := own_capv g2
  have cF : w.cell? ⟨f, 0, none⟩ = some (.slice da x.b.length dc) := by rw [cell_of_row _ _ _ _ _ _ g1]; rfl
  have el : (x.b.take k).length = k := by rw [List.length_take]; omega
  have HC0 := clone_any (.slice da k dc) (x.b.take k) w (src_take (v := .slice da k dc) g2 hk) (by omega)
  rw [el] at HC0
  have HC : Hid (Calls Try.prog 75 #[.slice da k dc] w fun e w' => ∃ va vc, e = .returned (.slice va k vc) ∧ ∃ W, w'.setCell ⟨f, 0, none⟩ (.slice va k vc) = W ∧ (∃ c, w'.cell? ⟨f, 0, none⟩ = some c) ∧ w'.frozen? ⟨f, 0, none⟩ = false ∧ (∃ c, W.cell? ⟨f, 1, none⟩ = some c) ∧ W.frozen? ⟨f, 1, none⟩ = false ∧ ∃ F2, DR (W.setCell ⟨f, 1, none⟩ (.slice none 0 0)) D F2 sy (setF s (x.b.take k) [] dl) ∧ Fr F F2 w (W.setCell ⟨f, 1, none⟩ (.slice none 0 0))) := by
    refine HC0.mono ?_
    rintro e w2 ⟨⟨v2, rfl, ho⟩, hb⟩
    obtain ⟨va, vc, hv2⟩ := own_slice ho
    have fl : f < w.heap.size := (Array.getElem?_eq_some_iff.1 g1).1
    have r1 : w2.heap[f]? = some (.cells #[.slice da x.b.length dc, bv] 118 (0, 0)) := (hb.block f fl).trans g1
    have r2 : (w2.setCell ⟨f, 0, none⟩ v2).heap[f]? = some (.cells #[v2, bv] 118 (0, 0)) := row_set _ r1
    have r3 : ((w2.setCell ⟨f, 0, none⟩ v2).setCell ⟨f, 1, none⟩ (.slice none 0 0)).heap[f]? = some (.cells #[v2, .slice none 0 0] 118 (0, 0)) := row_set _ r2
    have off : ∀ q, q ≠ f → ((w2.setCell ⟨f, 0, none⟩ v2).setCell ⟨f, 1, none⟩ (.slice none 0 0)).heap[q]? = w2.heap[q]? := fun q hq => by rw [Below.heap_setCell _ _ _ _ hq, Below.heap_setCell _ _ _ _ hq]
    have zz : ((w2.setCell ⟨f, 0, none⟩ v2).setCell ⟨f, 1, none⟩ (.slice none 0 0)).heap.size = w2.heap.size := by simp
    subst hv2
    refine ⟨va, vc, rfl, _, rfl, ⟨_, by rw [cell_of_row _ _ _ _ _ _ r1]; rfl⟩, frozen_of_row _ _ 0 _ _ r1, ⟨_, by rw [cell_of_row _ _ _ _ _ _ r2]; rfl⟩, frozen_of_row _ _ 1 _ _ r2, ?_⟩
    refine hT _ (fun q => q = f ∨ (Value.slice va k vc).ownBlock = some q) (x.b.take k) [] ⟨_, .slice none 0 0, r3, ?_, World.ownsRow_nil _ _ _ _, fun q => by simp [Value.ownBlock]⟩ ⟨hb.os, hb.tape, hb.output, by rw [zz]; exact hb.size, fun q hq hn => ?_, fun q hq => ?_⟩
    · rw [el]
      refine own_at (own_base ho) fun q hq => off q ?_
      have h1 := (ho.lt q hq).1
      omega
    · rw [off q fun e => hn ((g4 q).2 (.inl e))]
      exact hb.block q hq
    · rcases hq with hq | hq
      · exact .inl ((g4 q).2 (.inl hq))
      · exact .inr (ho.lt q hq).1
  obtain ⟨M, hM⟩ : ∃ M, x.b.length = M := ⟨_, rfl⟩
  rw [hM] at hk hcap cF hx
  clear h hs h1 h2 g1 g2 g3 g4 hT el HC0 hM
  go_enter Try.func44, Try.ntmps44
  go_wp2_with (first | (go_at_call 74; refine HFI.out.mono ?_; rintro e w1 ⟨rfl, hw1⟩; rw [hw1]; clear hw1) | (go_at_call 75; refine HC.out.mono ?_; rintro e w2 ⟨va, vc, rfl, W, hW, ⟨c0, hc0⟩, hf0, ⟨c1, hc1⟩, hf1, HR0⟩; (have HR : Hid (∃ F2, DR (W.setCell ⟨f, 1, none⟩ (.slice none 0 0)) D F2 sy (setF s (x.b.take k) [] dl) ∧ Fr F F2 w (W.setCell ⟨f, 1, none⟩ (.slice none 0 0))) := HR0); clear HR0))
  go_ret
  exact ⟨rfl, HR.out⟩
end Go.Proofs.Ytflhgphjkhplmaa.D

/- A file is renamed; a file is put. -/
namespace Go.Proofs.Ytflhgphjkhplmaa.D
open Go.RowKit
set_option linter.unusedVariables false
set_option linter.unusedSimpArgs false

variable {w w' : World} {D K : Nat} {F : Nat → Prop} {sy : Int} {dl : List Fd} {s s' : List UInt8} {x : Fd}
set_option maxRecDepth 20000 in
set_option maxHeartbeats 1000000 in
theorem rename_bad (h : DR w D F sy dl) (hs : lkF s dl = some x) (hl : (s'.length : Int) ≤ 140737488351232) (hn : nameB s' = false) : Calls Try.prog 73 #[.pointer (some ⟨D, 0, none⟩), .string (tx s), .string (tx s')] w fun e w' => e = .returned (.int .i64 40) ∧ w' = w := by
  obtain ⟨K, f, Ff, h1, h2, -⟩ := h.open hs
  have HFI : Hid (Calls Try.prog 74 #[.pointer (some ⟨D, 0, none⟩), .string (tx s)] w fun e w' => e = .returned (.tuple #[.pointer (some ⟨f, 0, none⟩), .int .i64 0]) ∧ w' = w) := find_yes h1 h2
  have HNA : Hid (Calls Try.prog 56 #[.string (tx s')] w fun e w' => e = .returned (.bool false) ∧ w' = w) := by
    have := name_any s' w hl
    rw [hn] at this
    exact this
  clear h hs h1 h2 hl hn
  go_enter Try.func73, Try.ntmps73
  go_wp2_with (first | (go_at_call 74; refine HFI.out.mono ?_; rintro e w1 ⟨rfl, hw1⟩; rw [hw1]; clear hw1) | (go_at_call 56; refine HNA.out.mono ?_; rintro e w1 ⟨rfl, hw1⟩; rw [hw1]; clear hw1))
  go_ret
  exact ⟨rfl, rfl⟩
set_option maxRecDepth 20000 in
set_option maxHeartbeats 1000000 in
theorem rename_yes (h : DR w D F sy dl) (hs : lkF s dl = some x) (hl : (s'.length : Int) ≤ 140737488351232) (hn : nameB s' = true) : Calls Try.prog 73 #[.pointer (some ⟨D, 0, none⟩), .string (tx s), .string (tx s')] w fun e w' => e = .returned (.int .i64 0) ∧ ∃ F', DR w' D F' sy (outF s' (outF s dl) ++ [⟨s', x.b, x.ws⟩]) ∧ Fr F F' w w' := by
  obtain ⟨K, f, Ff, h1, h2, -, hsub, -, h3⟩ := h.open hs
  obtain ⟨o, h4, F', h5, h6, h7, h8, h9⟩ := h3 0
  obtain ⟨o2, k1, k2, F2, k3, k4, -⟩ := h5.put (s := s') h9 h7 h8
  have HFI : Hid (Calls Try.prog 74 #[.pointer (some ⟨D, 0, none⟩), .string (tx s)] w fun e w' => e = .returned (.tuple #[.pointer (some ⟨f, 0, none⟩), .int .i64 0]) ∧ w' = w) := find_yes h1 h2
  have HNA : Hid (Calls Try.prog 56 #[.string (tx s')] w fun e w' => e = .returned (.bool true) ∧ w' = w) := by
    have := name_any s' w hl
    rw [hn] at this
    exact this
  have hf : Fr F F2 w (setM (setM w K o) K o2) := Fr.trans' (F' := fun q => F' q ∨ Ff q) ⟨h6.os, h6.tape, h6.output, h6.size, h6.block, fun q hq => hq.elim (h6.grow q) fun e => .inl (hsub q e).1⟩ k4
  have HR : Hid (DR (setM (setM w K o) K o2) D F2 sy (outF s' (outF s dl) ++ [⟨s', x.b, x.ws⟩]) ∧ Fr F F2 w (setM (setM w K o) K o2)) := ⟨k3, hf⟩
  have hD : w.cell? ⟨D, 0, none⟩ = some (.map (some K)) := by rw [cell_of_row _ _ _ _ _ _ h1]; rfl
  have hD2 : (setM w K o).cell? ⟨D, 0, none⟩ = some (.map (some K)) := by rw [cell_of_row _ _ _ _ _ _ h9]; rfl
  clear h hs h1 h2 hl hn h3 h5 h6 h7 h8 h9 k2 k3 k4 hf hsub
  go_enter Try.func73, Try.ntmps73
  go_wp2_with (first | (go_at_call 74; refine HFI.out.mono ?_; rintro e w1 ⟨rfl, hw1⟩; rw [hw1]; clear hw1) | (go_at_call 56; refine HNA.out.mono ?_; rintro e w1 ⟨rfl, hw1⟩; rw [hw1]; clear hw1))
  go_ret
  exact ⟨rfl, F2, HR.out.1, HR.out.2⟩
end Go.Proofs.Ytflhgphjkhplmaa.D
