/- Keys of a list of ints by keys; Len. -/
import Derived.Test.YtbcdaddbcjagjaaIl
import Derived.Laws.AppendOwnNone
import Derived.LaidEqlPtr
namespace Go.Proofs.Ytbcdaddbcjagjaa.I
open Go.RowKit
set_option linter.unusedVariables false
set_option linter.unusedSimpArgs false

variable {w w' : World} {L M : Nat} {F : Nat → Prop} {most : Int} {es : List It}
/-- Where one stands that goes through the nodes. -/
theorem Ch.next {p q n : Addr} {l : List Addr} {j : Nat} (h : Ch w p l q) (hj : l[j]? = some n) : w.cell? (bh n) = some (.pointer (some (hd (l.drop (j + 1)) q))) := by
  have hlt := (List.getElem?_eq_some_iff.1 hj).1
  have e : l = l.take j ++ n :: l.drop (j + 1) := by
    rw [← (List.getElem?_eq_some_iff.1 hj).2, List.getElem_cons_drop, List.take_append_drop]
  rw [e] at h
  exact (Ch.app.1 h).2.first.1
theorem hd_some {l : List Addr} {q n : Addr} {j : Nat} (hj : l[j]? = some n) : hd (l.drop j) q = n := by
  have hlt := (List.getElem?_eq_some_iff.1 hj).1
  rw [List.drop_eq_getElem_cons hlt, (List.getElem?_eq_some_iff.1 hj).2]
  rfl
theorem hd_none {l : List Addr} {q : Addr} {j : Nat} (hj : l.length ≤ j) : hd (l.drop j) q = q := by
  rw [List.drop_of_length_le hj]
  rfl
def slLen : Value → Nat
  | .slice _ n _ => n
  | _ => 0
def kI (n : Nod) : Value := .int .i64 n.key
theorem under22 : Try.prog.underlying 22 = some (.slice 3) := by kernel_rfl
theorem under62 : Try.prog.underlying 62 = some (.pointer 64) := by kernel_rfl
theorem neq_same (a : Addr) (V : World) : (binOp .neq 62 (.pointer (some a)) (.pointer (some a))).run Try.prog V = .ok (.bool false) V := by
  obtain ⟨j, hj⟩ : ∃ i, Try.prog.info? 64 = some i := Option.isSome_iff_exists.1 (by kernel_rfl)
  have h : ∀ d : Nat, (Op.equalIn (d + 1) 62 (.pointer (some a)) (.pointer (some a))).run Try.prog V = .ok true V := fun d => by
    simp [Op.equalIn, run_underlying under62, sizeOf, typeInfo, hj, run_sameAddr_same]
  simp only [binOp]
  simp [Op.equal, Op.maxDepth, h 9999]
theorem neq_other {a b : Addr} {V : World} {ca cb : Array Value} {ta tb : TypeId} (hne : a ≠ b) (ha : V.heap[a.block]? = some (.cells ca ta (0, 0))) (hb : V.heap[b.block]? = some (.cells cb tb (0, 0))) : (binOp .neq 62 (.pointer (some a)) (.pointer (some b))).run Try.prog V = .ok (.bool true) V := by
  obtain ⟨j, hj⟩ : ∃ i, Try.prog.info? 64 = some i := Option.isSome_iff_exists.1 (by kernel_rfl)
  have hsz : j.size ≠ 0 := by
    have h2 : (Try.prog.info? 64).map (·.size) = some 4 := by kernel_rfl
    rw [hj] at h2
    have : j.size = 4 := by simpa using h2
    omega
  have h : ∀ d : Nat, (Op.equalIn (d + 1) 62 (.pointer (some a)) (.pointer (some b))).run Try.prog V = .ok false V := fun d => by
    simp [Op.equalIn, run_underlying under62, sizeOf, typeInfo, hj, hsz, run_sameAddr_other V hne ha hb]
  simp only [binOp]
  simp [Op.equal, Op.maxDepth, h 9999]
/-- A row of ints that is handed out: nil, or full. -/
def RowK (w : World) (base : Nat) (v : Value) (ks : List Int) : Prop := (v = .slice none 0 0 ∧ ks = []) ∨ ∃ (g : Nat) (cur : Array Value), v = .slice (some ⟨g, 0, none⟩) ks.length ks.length ∧ base ≤ g ∧ w.heap[g]? = some (.cells cur 3 (0, 0)) ∧ ks.length ≤ cur.size ∧ cur.toList.take ks.length = ks.map fun k => Value.int .i64 k
set_option maxRecDepth 20000 in
set_option maxHeartbeats 4000000 in
theorem LR.keys (h : LR w L M F most es) (hb : (es.length : Int) ≤ 100000) : Calls Try.prog 13 #[.pointer (some ⟨L, 0, none⟩)] w fun e w' => ∃ v, e = .returned v ∧ RowK w' w.heap.size v (es.map It.key) ∧ Below w.heap.size w w' := by
  obtain ⟨⟨l, h1, rfl, h3⟩, h4, h5, h7⟩ := h
  have HN : Hid (Calls Try.prog 30 #[.pointer (some ⟨L, 0, none⟩)] w fun e w' => e = .returned (.bool false) ∧ w' = w) := inone_some h1.c0 h5
  have HX : Hid (LX w L M most (l.length : Int) l l (mlO l)) := h1
  have c6 : w.cell? ⟨L, 6, none⟩ = some (.pointer (some (hd (l.map ad) ⟨L, 3, none⟩))) := h1.ch.first.1
  have HLEN : Hid ((l.length : Int) ≤ 100000) := by show _ ≤ _; simpa using hb
  obtain ⟨i0, hi⟩ : ∃ i, Try.prog.info? 3 = some i := Option.isSome_iff_exists.1 (by kernel_rfl)
  have hz0 : i0.zero = some (.int .i64 0) := by
    have h2 : (Try.prog.info? 3).map (·.zero) = some (some (.int .i64 0)) := by kernel_rfl
    rw [hi] at h2
    simpa using h2
  have hz1 : i0.size = 1 := by
    have h2 : (Try.prog.info? 3).map (·.size) = some 1 := by kernel_rfl
    rw [hi] at h2
    simpa using h2
  have hz2 : i0.bytes = 8 := by
    have h2 : (Try.prog.info? 3).map (·.bytes) = some 8 := by kernel_rfl
    rw [hi] at h2
    simpa using h2
  clear h1 h3 h4 h5 h7 hb
  go_enter Try.func13, Try.ntmps13
  go_wp2_with (go_at_call 30; refine HN.out.mono ?_; rintro e w1 ⟨rfl, hw1⟩; rw [hw1]; clear hw1)
  go_loopw [3, 4] (fun a b wx => ∃ j : Nat, j ≤ l.length ∧ b = .pointer (some (hd ((l.map ad).drop j) ⟨L, 3, none⟩)) ∧ Hid (wx.ownsRow w.heap.size 3 1 a j ((l.take j).map kI)) ∧ Hid (Below w.heap.size w wx)) (fun a b wx => l.length - slLen a)
  case atStart => exact ⟨0, by omega, rfl, World.ownsRow_nil _ _ _ _, Below.refl _ _⟩
  case round =>
    obtain ⟨j, hj, rfl, HO, HB⟩ := hrel
    clear c6 HN
    by_cases cj : j < l.length
    · obtain ⟨n, hn⟩ : ∃ n, l[j]? = some n := ⟨_, List.getElem?_eq_getElem cj⟩
      have hna : (l.map ad)[j]? = some (ad n) := by rw [List.getElem?_map, hn]; rfl
      rw [hd_some hna]
      have hmem : n ∈ l := List.mem_of_getElem? hn
      have HNX : Hid (∀ V, Below w.heap.size w V → V.cell? ⟨n.N, 0, none⟩ = some (.int .i64 n.key) ∧ V.cell? ⟨n.N, 3, none⟩ = some (.pointer (some (hd ((l.map ad).drop (j + 1)) ⟨L, 3, none⟩)))) := fun V hV => ⟨((HX.out.newer hV).nb n hmem).2.1, (HX.out.newer hV).ch.next hna⟩
      have hne : ¬ n.N = L := HX.out.nl hmem
      obtain ⟨y0, -⟩ := HNX.out wr HB.out
      have hcmp : (binOp .neq 62 (.pointer (some ⟨n.N, 0, none⟩)) (.pointer (some ⟨L, 3, none⟩))).run Try.prog wr = .ok (.bool true) wr := by
        obtain ⟨ca, e1, -⟩ := ((HX.out.newer HB.out).nb n hmem).1
        obtain ⟨cb, e2, -⟩ := (HX.out.newer HB.out).bk
        exact neq_other (fun e => hne (congrArg Addr.block e)) e1 e2
      obtain ⟨sa, cp, rfl⟩ := own_slice HO.out
      have HBA : Hid (Below w.heap.size w (wr.alloc (.cells #[.int .i64 n.key] 3))) := HB.out.alloc HB.out.size _
      have HOA : Hid ((wr.alloc (.cells #[.int .i64 n.key] 3)).ownsRow w.heap.size 3 1 (.slice sa j cp) j ((l.take j).map kI)) := HO.out.alloc _
      have HTK : Hid ((l.take (j + 1)).map kI = (l.take j).map kI ++ [.int .i64 n.key]) := by
        show _ = _
        rw [List.take_add_one, hn, List.map_append]
        rfl
      have HLJ : Hid ((j : Int) ≤ 100000) := by have := HLEN.out; show _ ≤ _; omega
      have HJ : Hid (j + 1 ≤ l.length) := cj
      clear hn hna hmem cj hj
      show Code.wp Try.prog _ _ _ _
      unfold ad
      go_wp2_with (at_builtin; (refine wpList_append_own _ rfl (.tmp 21) (.tmp 26) 22 rfl w.heap.size 3 i0 (.int .i64 0) 1 8 under22 hi hz0 hz1 hz2 rfl (by decide) (.slice sa j cp) j ((l.take j).map kI) rfl HOA.out ⟨wr.heap.size, 0, none⟩ 1 1 [.int .i64 n.key] rfl rfl (World.news_of_block (Go.heap_alloc_new _ _)) (by simp [Value.oneCell']) (by have := HLJ.out; unfold maxLen; omega) (by have := HLJ.out; omega) HBA.out.size ?_; intro v' w2 ho' hg' _; (have HO2 : Hid (w2.ownsRow w.heap.size 3 1 v' (j + 1) ((l.take j).map kI ++ [.int .i64 n.key])) := ho'); (have HB2 : Hid (Below w.heap.size w w2) := HBA.out.trans (grown_below hg' HOA.out HBA.out.size)); obtain ⟨-, z3⟩ := HNX.out w2 HB2.out; obtain ⟨sa2, cp2, hv2⟩ := own_slice ho'; subst hv2; clear ho' hg'))
      go_roundw
      case rel => exact ⟨j + 1, HJ.out, rfl, by rw [HTK.out]; exact HO2.out, HB2.out⟩
      case measure => have := HJ.out; simp [slLen]; omega
    · obtain rfl : j = l.length := by omega
      rw [hd_none (by simp)]
      have HKY : Hid ((l.take l.length).map kI = ((l.map ct).map It.key).map fun k => Value.int .i64 k) := by
        show _ = _
        rw [List.take_length, List.map_map, List.map_map]
        rfl
      have hcmp : (binOp .neq 62 (.pointer (some ⟨L, 3, none⟩)) (.pointer (some ⟨L, 3, none⟩))).run Try.prog wr = .ok (.bool false) wr := neq_same _ _
      clear cj hj
      rcases HO.out.2 with ⟨ha, h0⟩ | ⟨g, cp, cur, ha, r1, r2, r3, r4, r5, r6⟩
      · subst ha
        go_wp2_with fail
        go_ret
        exact ⟨_, rfl, .inl ⟨rfl, by rw [List.eq_nil_of_length_eq_zero h0]; rfl⟩, HB.out⟩
      · subst ha
        have hcap : (l.length : Int) ≤ (cp : Int) := by omega
        go_wp2_with fail
        go_ret
        refine ⟨_, rfl, .inr ⟨g, cur, ?_, r1, r2, by simp; omega, ?_⟩, HB.out⟩
        · simp
        · rw [← HKY.out, ← r6]
          simp
end Go.Proofs.Ytbcdaddbcjagjaa.I
