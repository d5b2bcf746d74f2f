/- The whole blocks of bytes, one by one. -/
import Derived.Test.YtfdmepblhlifcaaDoorA3
import Derived.RangeFuncNested
import Derived.RangeFuncBound
import Derived.RangeFuncCalls
import Derived.RangeFuncLeaves
import Derived.Shelf.Abstract
import Derived.OwnWalkIn
import Derived.TacticsInMore
import Derived.LoopNIn
import Derived.LoopIn
namespace Go.Proofs.YtfdmepblhlifcaaDoor
open Go.RowKit Go.Shelf
set_option linter.unusedVariables false
set_option linter.unusedSimpArgs false
attribute [local go_sem] Oper.semAt_some

/-- Bytes that lie somewhere. -/
structure BRow (w : World) (b off : Nat) (zs : List Int) : Prop where
  cell : ∀ i, i < zs.length → w.cell? ⟨b, off + i, none⟩ = some (.int .u8 (zs.getD i 0))
  byt : Byt zs
  small : (zs.length : Int) ≤ 9223372036854775000
theorem BRow.later {w w' : World} {b off B : Nat} {zs : List Int} (R : BRow w b off zs) (h : Below B w w') (hb : b < B) : BRow w' b off zs :=
  ⟨fun i hi => (h.cell (p := ⟨b, off + i, none⟩) hb).trans (R.cell i hi), R.byt, R.small⟩

theorem run_arrayAt (a : Addr) (m c : Nat) (w : World) (h : 64 ≤ m) : (Instr.arrayAt 64 (.slice (some a) m c)).run Tryd.prog w = .ok (.pointer (some a)) w := by
  simp [Instr.arrayAt, run_underlying Tryd.underlying64, go_sem]
  omega

theorem wpListIn_loadV {F : Fence} {n : Nat} {P : Program} {w : World} {ops : Array Oper} {rest : List Oper} {o : Oper} {a : Act} {Q : Exit → Act → World → Prop} (hgd : o.guard = none) (ty : TypeId) (x : Operand) (ho : o.op = .load ty x)
    (p : Addr) (hx : a.eval x = .pointer (some p)) (v : Value) (hl : (loadVar ty p).run P w = .ok v w) (h : wpListIn F n P ops Q rest (a.put o.dst v) w) : wpListIn F n P ops Q (o :: rest) a w := by
  refine wpListIn_plain hgd fun K hK => ?_
  unfold Oper.wpIn
  refine ⟨by simp [Oper.about, ho], ?_⟩
  rw [Oper.semAt_plain F _ _ (by rw [ho]; intro c hc'; cases hc')]
  simp only [execOp, ho, hx, Instr.loadAt, Instr.sureAddr, Sem.run_bind, Sem.run_pure, Result.andThen_ok, hl]
  exact hK _ _ h
theorem wpListIn_storeV {F : Fence} {n : Nat} {P : Program} {w w' : World} {ops : Array Oper} {rest : List Oper} {o : Oper} {a : Act} {Q : Exit → Act → World → Prop} (hgd : o.guard = none) (ty : TypeId) (x y : Operand) (ho : o.op = .store ty x y)
    (p : Addr) (hx : a.eval x = .pointer (some p)) (v : Value) (hy : a.eval y = v) (hl : (storeVar ty p v).run P w = .ok () w') (h : wpListIn F n P ops Q rest (a.put o.dst undef) w') : wpListIn F n P ops Q (o :: rest) a w := by
  refine wpListIn_plain hgd fun K hK => ?_
  unfold Oper.wpIn
  refine ⟨by simp [Oper.about, ho], ?_⟩
  rw [Oper.semAt_plain F _ _ (by rw [ho]; intro c hc'; cases hc')]
  simp only [execOp, ho, hx, hy, Instr.storeAt, Instr.sureAddr, Sem.run_bind, Sem.run_pure, Result.andThen_ok, hl]
  exact hK _ _ h

/-- A block. -/
abbrev Blk := { l : List Int // l.length = 64 ∧ Byt l }
def blkAt (zs : List Int) (k : Nat) : List Int := (zs.drop (64 * k)).take 64
theorem blk_ok (zs : List Int) (k : Nat) (hz : Byt zs) (h : 64 * k + 64 ≤ zs.length) : (blkAt zs k).length = 64 ∧ Byt (blkAt zs k) :=
  ⟨by simp [blkAt]; omega, fun x hx => hz x (List.mem_of_mem_drop (List.mem_of_mem_take hx))⟩
def blks (zs : List Int) (hz : Byt zs) : (k : Nat) → 64 * k ≤ zs.length → List Blk
  | 0, _ => []
  | k + 1, h => blks zs hz k (by omega) ++ [⟨blkAt zs k, blk_ok zs k hz (by omega)⟩]
theorem blks_len (zs : List Int) (hz : Byt zs) : ∀ (k : Nat) (h : 64 * k ≤ zs.length), (blks zs hz k h).length = k
  | 0, _ => rfl
  | k + 1, h => by simp [blks, blks_len zs hz k]

set_option maxRecDepth 100000 in
set_option maxHeartbeats 2000000 in
theorem blocks1_in (n : Nat) (l Bs n₀ b off cap : Nat) (zs : List Int) (hz : Byt zs) (hsm : (zs.length : Int) ≤ 9223372036854775000) (hcap : zs.length ≤ cap) (hb : b < n₀) (J Jx : List Blk → World → Prop)
    (hY : ∀ pre x W, J pre W → pre.length < zs.length / 64 → YieldAt Fence.wide (n - 1) Tryd.prog l #[.agg (u8s x.1)] W fun e W' =>
      (e = .returned (.bool true) ∧ J (pre ++ [x]) W' ∧ Below n₀ W W') ∨ (e = .returned (.bool false) ∧ Jx (pre ++ [x]) W'))
    (W : World) (hBs : W.cell? ⟨Bs, 0, none⟩ = some (.slice (some ⟨b, off, none⟩) zs.length cap)) (hc : ∀ j, j < zs.length → W.cell? ⟨b, off + j, none⟩ = some (.int .u8 (zs.getD j 0))) (h0 : J [] W) :
    CallsIn Fence.wide n Tryd.prog 47 #[.func (.yield l) #[] #[], .pointer (some ⟨Bs, 0, none⟩)] W fun e W' => (∃ v, e = .returned v) ∧
      ((∃ ys, ys = blks zs hz (zs.length / 64) (Nat.mul_div_le _ _) ∧ J ys W') ∨ (∃ pre : List Blk, True ∧ Jx pre W')) := by
  refine callsIn_of_wp Tryd.func47 rfl trivial ?_ rfl
  simp only [Tryd.ntmps47, List.size_toArray, List.length_cons, List.length_nil, Nat.reduceAdd, Nat.reduceSub, Array.replicate_succ, Array.replicate_zero, List.push_toArray, List.append_toArray, List.nil_append, List.cons_append]
  gi_wp2
  gi_loopw [3] (fun s wr => ∃ (k : Nat) (h : 64 * k ≤ zs.length) (p : Option Addr), s = .slice p (zs.length - 64 * k) (cap - 64 * k) ∧ (64 * k + 64 ≤ zs.length → p = some ⟨b, off + 64 * k, none⟩) ∧ J (blks zs hz k h) wr ∧ Below n₀ W wr)
    (fun s _ => match s with | .slice _ n _ => n | _ => 0)
  case atStart => exact ⟨0, by omega, _, by simp; rfl, fun _ => by simp, h0, Below.refl _ _⟩
  case round =>
    obtain ⟨k, hk, p, rfl, hp, hJs, hnx⟩ := hrel
    by_cases hlt : 64 * k + 64 ≤ zs.length
    · obtain rfl := hp hlt
      clear hp
      obtain ⟨X, hX⟩ : ∃ X : Blk, X = ⟨blkAt zs k, blk_ok zs k hz hlt⟩ := ⟨_, rfl⟩
      have hX1 : X.1 = blkAt zs k := by rw [hX]
      have HNX : Hid (∀ h1, blks zs hz k hk ++ [X] = blks zs hz (k + 1) h1) := by intro h1; rw [hX]; rfl
      have hk1 : 64 * (k + 1) ≤ zs.length := by omega
      clear hX
      obtain ⟨fn, tmps, assign, body, hy, hR⟩ := hY _ X wr hJs (by rw [blks_len]; omega)
      have hld : (loadVar 64 ⟨b, off + 64 * k, none⟩).run Tryd.prog wr = .ok (.agg (u8s (blkAt zs k))) wr := by
        refine run_loadVar_mid wr b (off + 64 * k) 64 _ _ (fun j v hv => ?_) Tryd.underlying64 rfl ?_
        · rw [List.getElem?_map] at hv
          have hj : j < 64 := by
            have := (List.getElem?_eq_some_iff.1 (Option.map_eq_some_iff.1 hv).choose_spec.1).1
            rw [(blk_ok zs k hz hlt).1] at this
            exact this
          have e1 : (blkAt zs k)[j]? = zs[64 * k + j]? := by simp [blkAt, List.getElem?_take, hj]
          rw [e1, List.getElem?_eq_getElem (by omega)] at hv
          rw [show off + 64 * k + j = off + (64 * k + j) by omega, hnx.cell (p := ⟨b, off + (64 * k + j), none⟩) hb, hc _ (by omega), List.getD_eq_getElem?_getD, List.getElem?_eq_getElem (by omega)]
          simpa using hv
        · rw [List.length_map, (blk_ok zs k hz hlt).1]; kernel_rfl
      rw [← hX1] at hld
      have m0 : (64 : Int) ≤ ((zs.length - 64 * k : Nat) : Int) := by omega
      have m1 : ((zs.length - 64 * k : Nat) : Int) ≤ ((cap - 64 * k : Nat) : Int) := by omega
      have m2 : (64 : Int) ≤ ((cap - 64 * k : Nat) : Int) := by omega
      have HLT : Hid _ := hlt
      have HSM : Hid _ := hsm
      have HCAP : Hid _ := hcap
      have HK1 : Hid _ := hk1
      clear hlt hsm hcap hc hX1 hk1
      generalize hm : zs.length - 64 * k = m at m0 m1 ⊢
      generalize hcc : cap - 64 * k = c at m1 m2 ⊢
      generalize ho : off + 64 * k = o at hld ⊢
      have HLD : Hid _ := hld
      have HM : Hid _ := hm
      have HCC : Hid _ := hcc
      have HO : Hid _ := ho
      have HY : Hid _ := hY
      clear hm hcc ho hY hld
      have haa := run_arrayAt ⟨b, o, none⟩ m c wr (by omega)
      gi_wp2_with (refine wpListIn_loadV rfl 64 _ rfl ⟨b, o, none⟩ rfl _ HLD.out ?_)
      refine ⟨fun h => by simp [Fence.wide] at h, hR.mono ?_⟩
      rintro e W3 (⟨rfl, hJ3, hk3⟩ | ⟨rfl, hJx3⟩)
      · gi_wp2
        go_roundw
        case rel =>
          have h1 := HM.out
          have h2 := HCC.out
          have h3 := HO.out
          have h4 := HCAP.out
          refine ⟨k + 1, HK1.out, if c = 64 then some ⟨b, o, none⟩ else some ⟨b, o + 64, none⟩, ?_, fun hh => ?_, by rw [← HNX.out]; exact hJ3, hnx.trans hk3⟩
          rotate_left
          · rw [if_neg (by omega), show o + 64 = off + 64 * (k + 1) by omega]
          have e2 : m - 64 = zs.length - 64 * (k + 1) := by omega
          have e3 : c - 64 = cap - 64 * (k + 1) := by omega
          rw [← e2, ← e3]
        case measure => simp; omega
      · gi_wp2
        refine bodyPost_ret (results_none rfl _ _ _) rfl ?_
        exact ⟨⟨_, rfl⟩, .inr ⟨_, trivial, hJx3⟩⟩
    · have hkk : k = zs.length / 64 := by omega
      subst hkk
      have m0 : ((zs.length - 64 * (zs.length / 64) : Nat) : Int) < 64 := by omega
      have m1 : ¬ (64 : Int) ≤ ((zs.length - 64 * (zs.length / 64) : Nat) : Int) := by omega
      clear hlt hsm hcap hc
      generalize zs.length - 64 * (zs.length / 64) = m at m0 m1 ⊢
      generalize cap - 64 * (zs.length / 64) = c
      clear hp
      gi_wp2
      go_end0
      first | exact ⟨⟨_, rfl⟩, .inl ⟨_, rfl, hJs⟩⟩ | exact ⟨⟨_, rfl⟩, .inl hJs⟩

set_option maxRecDepth 100000 in
set_option maxHeartbeats 2000000 in
theorem blocks0_in (n : Nat) (l Bs cap : Nat) (a : Option Addr) (J : List Blk → World → Prop) (W : World) (hBs : W.cell? ⟨Bs, 0, none⟩ = some (.slice a 0 cap)) (h0 : J [] W) :
    CallsIn Fence.wide n Tryd.prog 47 #[.func (.yield l) #[] #[], .pointer (some ⟨Bs, 0, none⟩)] W fun e W' => (∃ v, e = .returned v) ∧ J [] W' := by
  refine callsIn_of_wp Tryd.func47 rfl trivial ?_ rfl
  simp only [Tryd.ntmps47, List.size_toArray, List.length_cons, List.length_nil, Nat.reduceAdd, Nat.reduceSub, Array.replicate_succ, Array.replicate_zero, List.push_toArray, List.append_toArray, List.nil_append, List.cons_append]
  gi_wp2
  gi_loopw [3] (fun s wr => s = .slice a 0 cap ∧ J [] wr) (fun s _ => 0)
  case atStart => exact ⟨rfl, h0⟩
  case round =>
    obtain ⟨rfl, hJs⟩ := hrel
    gi_wp2
    go_end0
    exact ⟨⟨_, rfl⟩, hJs⟩

set_option maxHeartbeats 1000000 in
theorem blocksOf_in (n : Nat) (a : Option Addr) (len cap : Nat) (w : World) :
    CallsIn Fence.wide n Tryd.prog 41 #[.slice a len cap] w fun e w' => e = .returned (.func (.func 47) #[] #[.pointer (some ⟨w.heap.size, 0, none⟩)]) ∧ w' = w.alloc (.cells #[.slice a len cap] 22) := by
  refine callsIn_of_wp Tryd.func41 rfl trivial ?_ rfl
  simp only [Tryd.ntmps41, List.size_toArray, List.length_cons, List.length_nil, Nat.reduceAdd, Nat.reduceSub, Array.replicate_succ, Array.replicate_zero, List.push_toArray, List.append_toArray, List.nil_append, List.cons_append]
  gi_wp2
  go_ret
  exact ⟨rfl, rfl⟩

/-- The slice holds these bytes. -/
def Sl (w : World) (n₀ : Nat) (sv : Value) (zs : List Int) : Prop :=
  (∃ a cap, sv = .slice a 0 cap ∧ zs = []) ∨ ∃ b off cap, sv = .slice (some ⟨b, off, none⟩) zs.length cap ∧ b < n₀ ∧ zs.length ≤ cap ∧ BRow w b off zs
theorem Sl.later {w w' : World} {n₀ : Nat} {sv : Value} {zs : List Int} (h : Sl w n₀ sv zs) (hb : Below n₀ w w') : Sl w' n₀ sv zs := by
  rcases h with h | ⟨b, off, cap, h1, h2, h3, h4⟩
  · exact .inl h
  · exact .inr ⟨b, off, cap, h1, h2, h3, h4.later hb h2⟩

theorem blocks_stops (n : Nat) (Bs n₀ : Nat) (sv : Value) (zs : List Int) (hz : Byt zs) (w : World) (hBs : Bs < w.heap.size) (hn₀ : n₀ ≤ w.heap.size) (hc : w.cell? ⟨Bs, 0, none⟩ = some sv) (hS : Sl w n₀ sv zs) :
    SeqStopsK Fence.wide n Tryd.prog 47 #[.pointer (some ⟨Bs, 0, none⟩)] (fun x : Blk => #[.agg (u8s x.1)]) (Below n₀) (fun ys => ys = blks zs hz (zs.length / 64) (Nat.mul_div_le _ _)) (fun _ => True) (zs.length / 64) w := by
  intro l J Jx W hW _ _ hY h0
  have hc' := (hW.cell (p := ⟨Bs, 0, none⟩) (by show Bs < _; omega)).trans hc
  rcases hS.later (hW.mono hn₀) with ⟨a, cap, rfl, rfl⟩ | ⟨b, off, cap, rfl, hb, hcap, R⟩
  · refine (blocks0_in n l Bs cap a J W hc' h0).mono ?_
    rintro e W' ⟨h1, h2⟩
    exact ⟨h1, .inl ⟨[], rfl, h2⟩⟩
  · exact blocks1_in n l Bs n₀ b off cap zs hz R.small hcap hb J Jx hY W hc' R.cell h0
end Go.Proofs.YtfdmepblhlifcaaDoor
